/- The contract of the program's pointsByName: a map of the document's references. -/
import Derived.Test.YtggfifchkecnjaaGreatDoorY14
import Derived.Maps.RangeWalk
import Derived.Sort.MapsRangeIn
import Derived.Test.YtggfifchkecnjaaGreatDoorY15
import Derived.Test.YtggfifchkecnjaaGreatDoorY16
import Derived.Test.YtggfifchkecnjaaGreatDoorY17
import Derived.Test.YtggfifchkecnjaaGreatDoorY4
namespace Go.Proofs.YtggfifchkecnjaaGreatDoor
open Go.RowKit Go.Maps
set_option maxRecDepth 100000
set_option linter.unusedVariables false

theorem lawS : Keyed Tryz.prog 9 := string_keyed Tryz.underlying9
def refMap : DataW Unit := .map (refList.map fun r => (.string r.1.data.toList, .lit (.int .i64 r.2)))

theorem keyOf_str {s : ByteArray} (h : s.size ≤ maxLen) : keyOf Tryz.prog 9 (.string s) = some (.string s.data.toList) := by
  simp [keyOf, Tryz.underlying9, mapKey, h]

theorem step {w : World} {b n : Nat} {D : DataW Unit} (s : ByteArray) (p : Int) (hs : s.size ≤ 7) (hp : (Lit.int .i64 p).wf = true) (hn : n < 1000) (h : w.ownsMap Tryz.prog 9 (plainElem Tryz.prog 3) b n D) :
    ∃ w', (Instr.mapUpdate 129 (.map (some b)) (.string s) (.int .i64 p)).run Tryz.prog w = .ok () w' ∧ w'.ownsMap Tryz.prog 9 (plainElem Tryz.prog 3) b (n + 1) (D.put (.string s.data.toList) (.lit (.int .i64 p))) ∧ w.grownBy w' (some b) :=
  h.update lawS Tryz.underlying129 (by unfold maxLen; omega) (keyOf_str (by unfold maxLen; omega)) (plainElem_int Tryz.underlying3 hp)

set_option maxHeartbeats 4000000 in
set_option maxRecDepth 100000 in
theorem pointsByName_any (w : World) : Calls Tryz.prog 142 #[] w fun e w' => e = .returned (.map (some w.heap.size)) ∧ w'.ownsMap Tryz.prog 9 (plainElem Tryz.prog 3) w.heap.size 24 refMap ∧ Below w.heap.size w w' := by
  have hmm := @run_makeMap Tryz.prog
  have o0 : (w.alloc (.map #[] 0)).ownsMap Tryz.prog 9 (plainElem Tryz.prog 3) w.heap.size 0 (.map [] : DataW Unit) := World.ownsMap_made w Tryz.prog 9 _
  have b0 : Below w.heap.size w (w.alloc (.map #[] 0)) := (Below.refl _ _).alloc (Nat.le_refl _) _
  obtain ⟨w1, r1, o1, g1⟩ := step ⟨#[97, 109, 112]⟩ 38 (by decide) (by decide) (by decide) o0
  have b1 := b0.grown g1 b0.size (fun j hj => by cases hj; exact Nat.le_refl _)
  obtain ⟨w2, r2, o2, g2⟩ := step ⟨#[97, 109, 112, 59]⟩ 38 (by decide) (by decide) (by decide) o1
  have b2 := b1.grown g2 b1.size (fun j hj => by cases hj; exact Nat.le_refl _)
  obtain ⟨w3, r3, o3, g3⟩ := step ⟨#[99, 111, 112, 121]⟩ 169 (by decide) (by decide) (by decide) o2
  have b3 := b2.grown g3 b2.size (fun j hj => by cases hj; exact Nat.le_refl _)
  obtain ⟨w4, r4, o4, g4⟩ := step ⟨#[99, 111, 112, 121, 59]⟩ 169 (by decide) (by decide) (by decide) o3
  have b4 := b3.grown g4 b3.size (fun j hj => by cases hj; exact Nat.le_refl _)
  obtain ⟨w5, r5, o5, g5⟩ := step ⟨#[102, 114, 97, 99, 49, 50, 59]⟩ 189 (by decide) (by decide) (by decide) o4
  have b5 := b4.grown g5 b4.size (fun j hj => by cases hj; exact Nat.le_refl _)
  obtain ⟨w6, r6, o6, g6⟩ := step ⟨#[103, 116]⟩ 62 (by decide) (by decide) (by decide) o5
  have b6 := b5.grown g6 b5.size (fun j hj => by cases hj; exact Nat.le_refl _)
  obtain ⟨w7, r7, o7, g7⟩ := step ⟨#[103, 116, 59]⟩ 62 (by decide) (by decide) (by decide) o6
  have b7 := b6.grown g7 b6.size (fun j hj => by cases hj; exact Nat.le_refl _)
  obtain ⟨w8, r8, o8, g8⟩ := step ⟨#[104, 101, 108, 108, 105, 112, 59]⟩ 8230 (by decide) (by decide) (by decide) o7
  have b8 := b7.grown g8 b7.size (fun j hj => by cases hj; exact Nat.le_refl _)
  obtain ⟨w9, r9, o9, g9⟩ := step ⟨#[108, 116]⟩ 60 (by decide) (by decide) (by decide) o8
  have b9 := b8.grown g9 b8.size (fun j hj => by cases hj; exact Nat.le_refl _)
  obtain ⟨w10, r10, o10, g10⟩ := step ⟨#[108, 116, 59]⟩ 60 (by decide) (by decide) (by decide) o9
  have b10 := b9.grown g10 b9.size (fun j hj => by cases hj; exact Nat.le_refl _)
  obtain ⟨w11, r11, o11, g11⟩ := step ⟨#[109, 100, 97, 115, 104, 59]⟩ 8212 (by decide) (by decide) (by decide) o10
  have b11 := b10.grown g11 b10.size (fun j hj => by cases hj; exact Nat.le_refl _)
  obtain ⟨w12, r12, o12, g12⟩ := step ⟨#[110, 98, 115, 112]⟩ 160 (by decide) (by decide) (by decide) o11
  have b12 := b11.grown g12 b11.size (fun j hj => by cases hj; exact Nat.le_refl _)
  obtain ⟨w13, r13, o13, g13⟩ := step ⟨#[110, 98, 115, 112, 59]⟩ 160 (by decide) (by decide) (by decide) o12
  have b13 := b12.grown g13 b12.size (fun j hj => by cases hj; exact Nat.le_refl _)
  obtain ⟨w14, r14, o14, g14⟩ := step ⟨#[110, 111, 116]⟩ 172 (by decide) (by decide) (by decide) o13
  have b14 := b13.grown g14 b13.size (fun j hj => by cases hj; exact Nat.le_refl _)
  obtain ⟨w15, r15, o15, g15⟩ := step ⟨#[110, 111, 116, 59]⟩ 172 (by decide) (by decide) (by decide) o14
  have b15 := b14.grown g15 b14.size (fun j hj => by cases hj; exact Nat.le_refl _)
  obtain ⟨w16, r16, o16, g16⟩ := step ⟨#[110, 111, 116, 105, 110, 59]⟩ 8713 (by decide) (by decide) (by decide) o15
  have b16 := b15.grown g16 b15.size (fun j hj => by cases hj; exact Nat.le_refl _)
  obtain ⟨w17, r17, o17, g17⟩ := step ⟨#[113, 117, 111, 116]⟩ 34 (by decide) (by decide) (by decide) o16
  have b17 := b16.grown g17 b16.size (fun j hj => by cases hj; exact Nat.le_refl _)
  obtain ⟨w18, r18, o18, g18⟩ := step ⟨#[113, 117, 111, 116, 59]⟩ 34 (by decide) (by decide) (by decide) o17
  have b18 := b17.grown g18 b17.size (fun j hj => by cases hj; exact Nat.le_refl _)
  obtain ⟨w19, r19, o19, g19⟩ := step ⟨#[114, 101, 103]⟩ 174 (by decide) (by decide) (by decide) o18
  have b19 := b18.grown g19 b18.size (fun j hj => by cases hj; exact Nat.le_refl _)
  obtain ⟨w20, r20, o20, g20⟩ := step ⟨#[114, 101, 103, 59]⟩ 174 (by decide) (by decide) (by decide) o19
  have b20 := b19.grown g20 b19.size (fun j hj => by cases hj; exact Nat.le_refl _)
  obtain ⟨w21, r21, o21, g21⟩ := step ⟨#[115, 117, 112, 49]⟩ 185 (by decide) (by decide) (by decide) o20
  have b21 := b20.grown g21 b20.size (fun j hj => by cases hj; exact Nat.le_refl _)
  obtain ⟨w22, r22, o22, g22⟩ := step ⟨#[115, 117, 112, 49, 59]⟩ 185 (by decide) (by decide) (by decide) o21
  have b22 := b21.grown g22 b21.size (fun j hj => by cases hj; exact Nat.le_refl _)
  obtain ⟨w23, r23, o23, g23⟩ := step ⟨#[116, 105, 109, 101, 115, 59]⟩ 215 (by decide) (by decide) (by decide) o22
  have b23 := b22.grown g23 b22.size (fun j hj => by cases hj; exact Nat.le_refl _)
  obtain ⟨w24, r24, o24, g24⟩ := step ⟨#[121, 101, 110, 59]⟩ 165 (by decide) (by decide) (by decide) o23
  have b24 := b23.grown g24 b23.size (fun j hj => by cases hj; exact Nat.le_refl _)
  have hD : (w24.ownsMap Tryz.prog 9 (plainElem Tryz.prog 3) w.heap.size 24 refMap) := o24
  clear o0 o1 g1 o2 g2 o3 g3 o4 g4 o5 g5 o6 g6 o7 g7 o8 g8 o9 g9 o10 g10 o11 g11 o12 g12 o13 g13 o14 g14 o15 g15 o16 g16 o17 g17 o18 g18 o19 g19 o20 g20 o21 g21 o22 g22 o23 g23 o24 g24 b0 b1 b2 b3 b4 b5 b6 b7 b8 b9 b10 b11 b12 b13 b14 b15 b16 b17 b18 b19 b20 b21 b22 b23
  have HD := (show Hid _ from hD)
  have HB := (show Hid _ from b24)
  clear hD b24
  go_enter Tryz.func142, Tryz.ntmps142
  go_wp2
  go_ret
  exact ⟨rfl, HD.out, HB.out⟩
end Go.Proofs.YtggfifchkecnjaaGreatDoor

/- The contracts of the draws of chapter 3: some number; some list of points with a place in it. -/
namespace Go.Proofs.YtggfifchkecnjaaGreatDoor
open Go.RowKit
set_option maxRecDepth 100000
set_option linter.unusedVariables false
end Go.Proofs.YtggfifchkecnjaaGreatDoor

/- Contracts of the laws' helpers on lists of attributes: held against each other, measured. -/
namespace Go.Proofs.YtggfifchkecnjaaGreatDoor
open Go.RowKit
set_option maxRecDepth 100000
set_option linter.unusedVariables false

theorem toList_ne {a b : ByteArray} (h : a ≠ b) : (a.toList == b.toList) = false := by
  rw [beq_eq_false_iff_ne]
  exact fun e => h ((toList_eq_iff a b).mp e)

theorem pairCells_name (rs : List (ByteArray × ByteArray)) (k : Nat) (h : k < rs.length) : (pairCells rs).getD (k * 2) undef = .string rs[k].1 := by
  induction rs generalizing k with
  | nil => simp at h
  | cons r rs ih =>
    cases k with
    | zero => simp [pairCells]
    | succ k =>
      have := ih k (by simpa using h)
      have e : (k + 1) * 2 = k * 2 + 1 + 1 := by omega
      simp only [pairCells, List.flatMap_cons, List.cons_append, List.nil_append, e, List.getD_cons_succ, List.getElem_cons_succ] at this ⊢
      exact this
theorem pairCells_value (rs : List (ByteArray × ByteArray)) (k : Nat) (h : k < rs.length) : (pairCells rs).getD (k * 2 + 1) undef = .string rs[k].2 := by
  induction rs generalizing k with
  | nil => simp at h
  | cons r rs ih =>
    cases k with
    | zero => simp [pairCells]
    | succ k =>
      have := ih k (by simpa using h)
      have e : (k + 1) * 2 + 1 = k * 2 + 1 + 1 + 1 := by omega
      simp only [pairCells, List.flatMap_cons, List.cons_append, List.nil_append, e, List.getD_cons_succ, List.getElem_cons_succ] at this ⊢
      exact this

theorem Sv.pair {w : World} {v : Value} {rs : List (ByteArray × ByteArray)} (h : Sv 2 w v (pairCells rs)) : ∃ a cap, v = .slice a rs.length cap ∧ rs.length ≤ cap ∧ cap ≤ maxLen ∧
    ∀ k (hk : k < rs.length), ∃ b off, a = some ⟨b, off, none⟩ ∧ b < w.heap.size ∧ w.cell? ⟨b, off + k * 2, none⟩ = some (.string rs[k].1) ∧ w.cell? ⟨b, off + k * 2 + 1, none⟩ = some (.string rs[k].2) := by
  obtain ⟨a, len, cap, rfl, h1, h2, h3, h4, hc⟩ := h
  have hl := pairCells_len rs
  have hlen : len = rs.length := by omega
  subst hlen
  refine ⟨a, cap, rfl, h2, h3, fun k hk => ?_⟩
  obtain ⟨b, off, rfl, c0⟩ := hc (k * 2) (by omega)
  obtain ⟨b', off', e, c1⟩ := hc (k * 2 + 1) (by omega)
  injection e with e
  cases e
  rw [pairCells_name _ _ hk] at c0
  rw [pairCells_value _ _ hk] at c1
  have hlt : b < w.heap.size := by
    by_cases hlt : b < w.heap.size
    · exact hlt
    · exfalso; simp [World.cell?, Array.getElem?_eq_none (Nat.le_of_not_lt hlt)] at c0
  exact ⟨b, off, rfl, hlt, c0, c1⟩

end Go.Proofs.YtggfifchkecnjaaGreatDoor
