/- The contract of the program's pointsByName: a map of the document's references. -/
import Derived.Test.YtggfifchkecnjaaGreatDoorX14
import Derived.Maps.RangeWalk
import Derived.Sort.MapsRangeIn
import Derived.Test.YtggfifchkecnjaaGreatDoorX16
import Derived.Test.YtggfifchkecnjaaGreatDoorX17
import Derived.Test.YtggfifchkecnjaaGreatDoorX4
namespace Go.Proofs.YtggfifchkecnjaaGreatDoor
open Go.RowKit Go.Maps
set_option maxRecDepth 100000
set_option linter.unusedVariables false

theorem lawS : Keyed Tryz.prog 9 := string_keyed Tryz.underlying9
def refMap : DataW Unit := .map (refList.map fun r => (.string r.1.data.toList, .lit (.int .i64 r.2)))

theorem keyOf_str {s : ByteArray} (h : s.size ≤ maxLen) : keyOf Tryz.prog 9 (.string s) = some (.string s.data.toList) := by
  simp [keyOf, Tryz.underlying9, mapKey, h]

theorem step {w : World} {b n : Nat} {D : DataW Unit} (s : ByteArray) (p : Int) (hs : s.size ≤ 7) (hp : (Lit.int .i64 p).wf = true) (hn : n < 1000) (h : w.ownsMap Tryz.prog 9 (plainElem Tryz.prog 3) b n D) :
    ∃ w', (Instr.mapUpdate 129 (.map (some b)) (.string s) (.int .i64 p)).run Tryz.prog w = .ok () w' ∧ w'.ownsMap Tryz.prog 9 (plainElem Tryz.prog 3) b (n + 1) (D.put (.string s.data.toList) (.lit (.int .i64 p))) ∧ w.grownBy w' (some b) :=
  h.update lawS Tryz.underlying129 (by unfold maxLen; omega) (keyOf_str (by unfold maxLen; omega)) (plainElem_int Tryz.underlying3 hp)

set_option maxHeartbeats 4000000 in
set_option maxRecDepth 100000 in
theorem pointsByName_any (w : World) : Calls Tryz.prog 142 #[] w fun e w' => e = .returned (.map (some w.heap.size)) ∧ w'.ownsMap Tryz.prog 9 (plainElem Tryz.prog 3) w.heap.size 24 refMap ∧ Below w.heap.size w w' := by
  have hmm := @run_makeMap Tryz.prog
  have o0 : (w.alloc (.map #[] 0)).ownsMap Tryz.prog 9 (plainElem Tryz.prog 3) w.heap.size 0 (.map [] : DataW Unit) := World.ownsMap_made w Tryz.prog 9 _
  have b0 : Below w.heap.size w (w.alloc (.map #[] 0)) := (Below.refl _ _).alloc (Nat.le_refl _) _
  obtain ⟨w1, r1, o1, g1⟩ := step ⟨#[97, 109, 112]⟩ 38 (by decide) (by decide) (by decide) o0
  have b1 := b0.grown g1 b0.size (fun j hj => by cases hj; exact Nat.le_refl _)
  obtain ⟨w2, r2, o2, g2⟩ := step ⟨#[97, 109, 112, 59]⟩ 38 (by decide) (by decide) (by decide) o1
  have b2 := b1.grown g2 b1.size (fun j hj => by cases hj; exact Nat.le_refl _)
  obtain ⟨w3, r3, o3, g3⟩ := step ⟨#[99, 111, 112, 121]⟩ 169 (by decide) (by decide) (by decide) o2
  have b3 := b2.grown g3 b2.size (fun j hj => by cases hj; exact Nat.le_refl _)
  obtain ⟨w4, r4, o4, g4⟩ := step ⟨#[99, 111, 112, 121, 59]⟩ 169 (by decide) (by decide) (by decide) o3
  have b4 := b3.grown g4 b3.size (fun j hj => by cases hj; exact Nat.le_refl _)
  obtain ⟨w5, r5, o5, g5⟩ := step ⟨#[102, 114, 97, 99, 49, 50, 59]⟩ 189 (by decide) (by decide) (by decide) o4
  have b5 := b4.grown g5 b4.size (fun j hj => by cases hj; exact Nat.le_refl _)
  obtain ⟨w6, r6, o6, g6⟩ := step ⟨#[103, 116]⟩ 62 (by decide) (by decide) (by decide) o5
  have b6 := b5.grown g6 b5.size (fun j hj => by cases hj; exact Nat.le_refl _)
  obtain ⟨w7, r7, o7, g7⟩ := step ⟨#[103, 116, 59]⟩ 62 (by decide) (by decide) (by decide) o6
  have b7 := b6.grown g7 b6.size (fun j hj => by cases hj; exact Nat.le_refl _)
  obtain ⟨w8, r8, o8, g8⟩ := step ⟨#[104, 101, 108, 108, 105, 112, 59]⟩ 8230 (by decide) (by decide) (by decide) o7
  have b8 := b7.grown g8 b7.size (fun j hj => by cases hj; exact Nat.le_refl _)
  obtain ⟨w9, r9, o9, g9⟩ := step ⟨#[108, 116]⟩ 60 (by decide) (by decide) (by decide) o8
  have b9 := b8.grown g9 b8.size (fun j hj => by cases hj; exact Nat.le_refl _)
  obtain ⟨w10, r10, o10, g10⟩ := step ⟨#[108, 116, 59]⟩ 60 (by decide) (by decide) (by decide) o9
  have b10 := b9.grown g10 b9.size (fun j hj => by cases hj; exact Nat.le_refl _)
  obtain ⟨w11, r11, o11, g11⟩ := step ⟨#[109, 100, 97, 115, 104, 59]⟩ 8212 (by decide) (by decide) (by decide) o10
  have b11 := b10.grown g11 b10.size (fun j hj => by cases hj; exact Nat.le_refl _)
  obtain ⟨w12, r12, o12, g12⟩ := step ⟨#[110, 98, 115, 112]⟩ 160 (by decide) (by decide) (by decide) o11
  have b12 := b11.grown g12 b11.size (fun j hj => by cases hj; exact Nat.le_refl _)
  obtain ⟨w13, r13, o13, g13⟩ := step ⟨#[110, 98, 115, 112, 59]⟩ 160 (by decide) (by decide) (by decide) o12
  have b13 := b12.grown g13 b12.size (fun j hj => by cases hj; exact Nat.le_refl _)
  obtain ⟨w14, r14, o14, g14⟩ := step ⟨#[110, 111, 116]⟩ 172 (by decide) (by decide) (by decide) o13
  have b14 := b13.grown g14 b13.size (fun j hj => by cases hj; exact Nat.le_refl _)
  obtain ⟨w15, r15, o15, g15⟩ := step ⟨#[110, 111, 116, 59]⟩ 172 (by decide) (by decide) (by decide) o14
  have b15 := b14.grown g15 b14.size (fun j hj => by cases hj; exact Nat.le_refl _)
  obtain ⟨w16, r16, o16, g16⟩ := step ⟨#[110, 111, 116, 105, 110, 59]⟩ 8713 (by decide) (by decide) (by decide) o15
  have b16 := b15.grown g16 b15.size (fun j hj => by cases hj; exact Nat.le_refl _)
  obtain ⟨w17, r17, o17, g17⟩ := step ⟨#[113, 117, 111, 116]⟩ 34 (by decide) (by decide) (by decide) o16
  have b17 := b16.grown g17 b16.size (fun j hj => by cases hj; exact Nat.le_refl _)
  obtain ⟨w18, r18, o18, g18⟩ := step ⟨#[113, 117, 111, 116, 59]⟩ 34 (by decide) (by decide) (by decide) o17
  have b18 := b17.grown g18 b17.size (fun j hj => by cases hj; exact Nat.le_refl _)
  obtain ⟨w19, r19, o19, g19⟩ := step ⟨#[114, 101, 103]⟩ 174 (by decide) (by decide) (by decide) o18
  have b19 := b18.grown g19 b18.size (fun j hj => by cases hj; exact Nat.le_refl _)
  obtain ⟨w20, r20, o20, g20⟩ := step ⟨#[114, 101, 103, 59]⟩ 174 (by decide) (by decide) (by decide) o19
  have b20 := b19.grown g20 b19.size (fun j hj => by cases hj; exact Nat.le_refl _)
  obtain ⟨w21, r21, o21, g21⟩ := step ⟨#[115, 117, 112, 49]⟩ 185 (by decide) (by decide) (by decide) o20
  have b21 := b20.grown g21 b20.size (fun j hj => by cases hj; exact Nat.le_refl _)
  obtain ⟨w22, r22, o22, g22⟩ := step ⟨#[115, 117, 112, 49, 59]⟩ 185 (by decide) (by decide) (by decide) o21
  have b22 := b21.grown g22 b21.size (fun j hj => by cases hj; exact Nat.le_refl _)
  obtain ⟨w23, r23, o23, g23⟩ := step ⟨#[116, 105, 109, 101, 115, 59]⟩ 215 (by decide) (by decide) (by decide) o22
  have b23 := b22.grown g23 b22.size (fun j hj => by cases hj; exact Nat.le_refl _)
  obtain ⟨w24, r24, o24, g24⟩ := step ⟨#[121, 101, 110, 59]⟩ 165 (by decide) (by decide) (by decide) o23
  have b24 := b23.grown g24 b23.size (fun j hj => by cases hj; exact Nat.le_refl _)
  have hD : (w24.ownsMap Tryz.prog 9 (plainElem Tryz.prog 3) w.heap.size 24 refMap) := o24
  clear o0 o1 g1 o2 g2 o3 g3 o4 g4 o5 g5 o6 g6 o7 g7 o8 g8 o9 g9 o10 g10 o11 g11 o12 g12 o13 g13 o14 g14 o15 g15 o16 g16 o17 g17 o18 g18 o19 g19 o20 g20 o21 g21 o22 g22 o23 g23 o24 g24 b0 b1 b2 b3 b4 b5 b6 b7 b8 b9 b10 b11 b12 b13 b14 b15 b16 b17 b18 b19 b20 b21 b22 b23
  have HD := (show Hid _ from hD)
  have HB := (show Hid _ from b24)
  clear hD b24
  go_enter Tryz.func142, Tryz.ntmps142
  go_wp2
  go_ret
  exact ⟨rfl, HD.out, HB.out⟩
end Go.Proofs.YtggfifchkecnjaaGreatDoor

/- Contracts of the laws' helpers on lists of attributes: held against each other, measured. -/
namespace Go.Proofs.YtggfifchkecnjaaGreatDoor
open Go.RowKit
set_option maxRecDepth 100000
set_option linter.unusedVariables false

theorem toList_ne {a b : ByteArray} (h : a ≠ b) : (a.toList == b.toList) = false := by
  rw [beq_eq_false_iff_ne]
  exact fun e => h ((toList_eq_iff a b).mp e)

theorem pairCells_name (rs : List (ByteArray × ByteArray)) (k : Nat) (h : k < rs.length) : (pairCells rs).getD (k * 2) undef = .string rs[k].1 := by
  induction rs generalizing k with
  | nil => simp at h
  | cons r rs ih =>
    cases k with
    | zero => simp [pairCells]
    | succ k =>
      have := ih k (by simpa using h)
      have e : (k + 1) * 2 = k * 2 + 1 + 1 := by omega
      simp only [pairCells, List.flatMap_cons, List.cons_append, List.nil_append, e, List.getD_cons_succ, List.getElem_cons_succ] at this ⊢
      exact this
theorem pairCells_value (rs : List (ByteArray × ByteArray)) (k : Nat) (h : k < rs.length) : (pairCells rs).getD (k * 2 + 1) undef = .string rs[k].2 := by
  induction rs generalizing k with
  | nil => simp at h
  | cons r rs ih =>
    cases k with
    | zero => simp [pairCells]
    | succ k =>
      have := ih k (by simpa using h)
      have e : (k + 1) * 2 + 1 = k * 2 + 1 + 1 + 1 := by omega
      simp only [pairCells, List.flatMap_cons, List.cons_append, List.nil_append, e, List.getD_cons_succ, List.getElem_cons_succ] at this ⊢
      exact this

theorem eqAttr_any (a b : ByteArray × ByteArray) (w : World) : Calls Tryz.prog 107 #[.agg #[.string a.1, .string a.2], .agg #[.string b.1, .string b.2]] w fun e w' => e = .returned (.bool (decide (a = b))) ∧ Below w.heap.size w w' := by
  obtain ⟨an, ap⟩ := a
  obtain ⟨bn, bp⟩ := b
  simp only
  have b2 : Below w.heap.size w ((w.alloc (.cells #[.string an, .string ap] 81)).alloc (.cells #[.string bn, .string bp] 81)) := ((Below.refl _ _).alloc (Nat.le_refl _) _).alloc (by simp) _
  by_cases hn : an = bn
  · subst hn
    by_cases hp : ap = bp
    · subst hp
      go_enter Tryz.func107, Tryz.ntmps107
      go_wp2
      go_ret
      exact ⟨ret_bool (by simp), b2⟩
    · have hd := toList_ne hp
      go_enter Tryz.func107, Tryz.ntmps107
      go_wp2
      go_ret
      exact ⟨ret_bool (by simp [hp]), b2⟩
  · have hd := toList_ne hn
    go_enter Tryz.func107, Tryz.ntmps107
    go_wp2
    go_ret
    exact ⟨ret_bool (by simp [hn]), b2⟩

theorem Sv.pair {w : World} {v : Value} {rs : List (ByteArray × ByteArray)} (h : Sv 2 w v (pairCells rs)) : ∃ a cap, v = .slice a rs.length cap ∧ rs.length ≤ cap ∧ cap ≤ maxLen ∧
    ∀ k (hk : k < rs.length), ∃ b off, a = some ⟨b, off, none⟩ ∧ b < w.heap.size ∧ w.cell? ⟨b, off + k * 2, none⟩ = some (.string rs[k].1) ∧ w.cell? ⟨b, off + k * 2 + 1, none⟩ = some (.string rs[k].2) := by
  obtain ⟨a, len, cap, rfl, h1, h2, h3, h4, hc⟩ := h
  have hl := pairCells_len rs
  have hlen : len = rs.length := by omega
  subst hlen
  refine ⟨a, cap, rfl, h2, h3, fun k hk => ?_⟩
  obtain ⟨b, off, rfl, c0⟩ := hc (k * 2) (by omega)
  obtain ⟨b', off', e, c1⟩ := hc (k * 2 + 1) (by omega)
  injection e with e
  cases e
  rw [pairCells_name _ _ hk] at c0
  rw [pairCells_value _ _ hk] at c1
  have hlt : b < w.heap.size := by
    by_cases hlt : b < w.heap.size
    · exact hlt
    · exfalso; simp [World.cell?, Array.getElem?_eq_none (Nat.le_of_not_lt hlt)] at c0
  exact ⟨b, off, rfl, hlt, c0, c1⟩

set_option maxHeartbeats 2000000 in
set_option maxRecDepth 100000 in
theorem eqAttrS_any {va vb : Value} {rs qs : List (ByteArray × ByteArray)} {w : World} (ha : Sv 2 w va (pairCells rs)) (hb : Sv 2 w vb (pairCells qs)) (hn : rs.length ≤ 1099511627776) (hm : qs.length ≤ 1099511627776) :
    Calls Tryz.prog 59 #[va, vb] w fun e w' => e = .returned (.bool (decide (rs = qs))) ∧ Below w.heap.size w w' := by
  obtain ⟨a, ca, rfl, _, _, hca⟩ := ha.pair
  obtain ⟨b, cb, rfl, _, _, hcb⟩ := hb.pair
  clear ha hb
  by_cases hl : rs.length = qs.length
  · have hn2 : ((rs.length : Int) != (qs.length : Int)) = false := by simp [hl]
    go_enter Tryz.func59, Tryz.ntmps59
    go_wp2
    go_loopw [5] (fun i wr => ∃ k : Nat, k ≤ rs.length ∧ i = .int .i64 k ∧ rs.take k = qs.take k ∧ Below w.heap.size w wr) (fun i _ => rs.length - (intOf i).toNat)
    case atStart => exact ⟨0, Nat.zero_le _, rfl, rfl, Below.refl _ _⟩
    case round =>
      obtain ⟨k, hk, rfl, he, bel⟩ := hrel
      have HE := (show Hid _ from he)
      clear he
      by_cases hlt : k < rs.length
      · have hlt' : k < qs.length := by omega
        obtain ⟨b1, o1, rfl, l1, c1, c2⟩ := hca k hlt
        obtain ⟨b2, o2, rfl, l2, c3, c4⟩ := hcb k hlt'
        have g1 : ∀ n : Wd w.heap.size w, n.w.cell? ⟨b1, o1 + k * 2, none⟩ = some (.string rs[k].1) := fun n => (n.below.cell (p := ⟨b1, o1 + k * 2, none⟩) l1).trans c1
        have g2 : ∀ n : Wd w.heap.size w, n.w.cell? ⟨b1, o1 + k * 2 + 1, none⟩ = some (.string rs[k].2) := fun n => (n.below.cell (p := ⟨b1, o1 + k * 2 + 1, none⟩) l1).trans c2
        have g3 : ∀ n : Wd w.heap.size w, n.w.cell? ⟨b2, o2 + k * 2, none⟩ = some (.string qs[k].1) := fun n => (n.below.cell (p := ⟨b2, o2 + k * 2, none⟩) l2).trans c3
        have g4 : ∀ n : Wd w.heap.size w, n.w.cell? ⟨b2, o2 + k * 2 + 1, none⟩ = some (.string qs[k].2) := fun n => (n.below.cell (p := ⟨b2, o2 + k * 2 + 1, none⟩) l2).trans c4
        have HT : Hid (rs[k] = qs[k] → rs.take (k + 1) = qs.take (k + 1)) := fun e => by rw [List.take_succ_eq_append_getElem hlt, List.take_succ_eq_append_getElem hlt', HE.out, e]
        have HF : Hid (rs[k] ≠ qs[k] → rs ≠ qs) := fun e h => e (by subst h; rfl)
        obtain ⟨x, hx⟩ : ∃ x, x = rs[k] := ⟨_, rfl⟩
        obtain ⟨y, hy⟩ : ∃ y, y = qs[k] := ⟨_, rfl⟩
        rw [← hx] at g1 g2 HT HF
        rw [← hy] at g3 g4 HT HF
        clear hx hy c1 c2 c3 c4
        have cc := fun w => eqAttr_any x y w
        obtain ⟨p, hp⟩ : ∃ p, p = decide (x = y) := ⟨_, rfl⟩
        rw [← hp] at cc
        have CC := (show Hid _ from cc)
        have HP := (show Hid (p = decide (x = y)) from hp)
        clear cc hp
        have ne := Wd.any w.heap.size w
        go_wp2
        refine wp_region_below (by kernel_rfl) (by kernel_rfl) bel ?_
        repeat (go_big_quiet_step ((go_at_call 107; exact quiet_below (CC.out _) (Nat.le_refl _))))
        refine wpQuiet_nil ?_
        intro wq hq
        replace hq := Wd.of hq
        cases p
        · have hxy : Hid (x ≠ y) := (show x ≠ y by simpa using HP.out.symm)
          go_wp2
          go_ret
          exact ⟨ret_bool (by rw [decide_eq_false (HF.out hxy.out)]), hq⟩
        · have hxy : Hid (x = y) := (show x = y by simpa using HP.out.symm)
          go_wp2
          go_roundw
          case rel => exact ⟨k + 1, by omega, by go_num, HT.out hxy.out, hq⟩
          case measure => simp [intOf]; omega
      · have hke : k = rs.length := by omega
        have hab : rs = qs := by have := HE.out; rw [hke, List.take_length, hl, List.take_length] at this; exact this
        go_wp2
        go_ret
        exact ⟨ret_bool (by rw [decide_eq_true hab]), bel⟩
  · have hab : rs ≠ qs := fun e => hl (by rw [e])
    have hn2 : ((rs.length : Int) != (qs.length : Int)) = true := by simp; omega
    rw [decide_eq_false hab]
    go_enter Tryz.func59, Tryz.ntmps59
    go_wp2
    go_ret
    exact ⟨rfl, Below.refl _ _⟩

end Go.Proofs.YtggfifchkecnjaaGreatDoor
