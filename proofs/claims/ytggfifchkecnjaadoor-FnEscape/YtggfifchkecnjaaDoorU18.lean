/- The contract of the program's pointsByName: a map of the document's references. -/
import Derived.Test.YtggfifchkecnjaaDoorU8
import Derived.Maps.RangeWalk
import Derived.Sort.MapsRangeIn
import Derived.Test.YtggfifchkecnjaaDoorU15
import Derived.Test.YtggfifchkecnjaaDoorU17
import Derived.Test.YtggfifchkecnjaaDoorU3
namespace Go.Proofs.YtggfifchkecnjaaDoor
open Go.RowKit Go.Maps
set_option maxRecDepth 100000
set_option linter.unusedVariables false

theorem lawS : Keyed Tryd.prog 9 := string_keyed Tryd.underlying9
/-- The map of the references, as a datum. -/
def refMap : DataW Unit := .map (refList.map fun r => (.string r.1.data.toList, .lit (.int .i64 r.2)))

theorem keyOf_str {s : ByteArray} (h : s.size ≤ maxLen) : keyOf Tryd.prog 9 (.string s) = some (.string s.data.toList) := by
  simp [keyOf, Tryd.underlying9, mapKey, h]

/-- One entry more. -/
theorem step {w : World} {b n : Nat} {D : DataW Unit} (s : ByteArray) (p : Int) (hs : s.size ≤ 7) (hp : (Lit.int .i64 p).wf = true) (hn : n < 1000) (h : w.ownsMap Tryd.prog 9 (plainElem Tryd.prog 3) b n D) :
    ∃ w', (Instr.mapUpdate 61 (.map (some b)) (.string s) (.int .i64 p)).run Tryd.prog w = .ok () w' ∧ w'.ownsMap Tryd.prog 9 (plainElem Tryd.prog 3) b (n + 1) (D.put (.string s.data.toList) (.lit (.int .i64 p))) ∧ w.grownBy w' (some b) :=
  h.update lawS Tryd.underlying61 (by unfold maxLen; omega) (keyOf_str (by unfold maxLen; omega)) (plainElem_int Tryd.underlying3 hp)

set_option maxHeartbeats 4000000 in
set_option maxRecDepth 100000 in
theorem pointsByName_any (w : World) : Calls Tryd.prog 33 #[] w fun e w' => e = .returned (.map (some w.heap.size)) ∧ w'.ownsMap Tryd.prog 9 (plainElem Tryd.prog 3) w.heap.size 24 refMap ∧ Below w.heap.size w w' := by
  have hmm := @run_makeMap Tryd.prog
  have o0 : (w.alloc (.map #[] 0)).ownsMap Tryd.prog 9 (plainElem Tryd.prog 3) w.heap.size 0 (.map [] : DataW Unit) := World.ownsMap_made w Tryd.prog 9 _
  have b0 : Below w.heap.size w (w.alloc (.map #[] 0)) := (Below.refl _ _).alloc (Nat.le_refl _) _
  obtain ⟨w1, r1, o1, g1⟩ := step ⟨#[97, 109, 112]⟩ 38 (by decide) (by decide) (by decide) o0
  have b1 := b0.grown g1 b0.size (fun j hj => by cases hj; exact Nat.le_refl _)
  obtain ⟨w2, r2, o2, g2⟩ := step ⟨#[97, 109, 112, 59]⟩ 38 (by decide) (by decide) (by decide) o1
  have b2 := b1.grown g2 b1.size (fun j hj => by cases hj; exact Nat.le_refl _)
  obtain ⟨w3, r3, o3, g3⟩ := step ⟨#[99, 111, 112, 121]⟩ 169 (by decide) (by decide) (by decide) o2
  have b3 := b2.grown g3 b2.size (fun j hj => by cases hj; exact Nat.le_refl _)
  obtain ⟨w4, r4, o4, g4⟩ := step ⟨#[99, 111, 112, 121, 59]⟩ 169 (by decide) (by decide) (by decide) o3
  have b4 := b3.grown g4 b3.size (fun j hj => by cases hj; exact Nat.le_refl _)
  obtain ⟨w5, r5, o5, g5⟩ := step ⟨#[102, 114, 97, 99, 49, 50, 59]⟩ 189 (by decide) (by decide) (by decide) o4
  have b5 := b4.grown g5 b4.size (fun j hj => by cases hj; exact Nat.le_refl _)
  obtain ⟨w6, r6, o6, g6⟩ := step ⟨#[103, 116]⟩ 62 (by decide) (by decide) (by decide) o5
  have b6 := b5.grown g6 b5.size (fun j hj => by cases hj; exact Nat.le_refl _)
  obtain ⟨w7, r7, o7, g7⟩ := step ⟨#[103, 116, 59]⟩ 62 (by decide) (by decide) (by decide) o6
  have b7 := b6.grown g7 b6.size (fun j hj => by cases hj; exact Nat.le_refl _)
  obtain ⟨w8, r8, o8, g8⟩ := step ⟨#[104, 101, 108, 108, 105, 112, 59]⟩ 8230 (by decide) (by decide) (by decide) o7
  have b8 := b7.grown g8 b7.size (fun j hj => by cases hj; exact Nat.le_refl _)
  obtain ⟨w9, r9, o9, g9⟩ := step ⟨#[108, 116]⟩ 60 (by decide) (by decide) (by decide) o8
  have b9 := b8.grown g9 b8.size (fun j hj => by cases hj; exact Nat.le_refl _)
  obtain ⟨w10, r10, o10, g10⟩ := step ⟨#[108, 116, 59]⟩ 60 (by decide) (by decide) (by decide) o9
  have b10 := b9.grown g10 b9.size (fun j hj => by cases hj; exact Nat.le_refl _)
  obtain ⟨w11, r11, o11, g11⟩ := step ⟨#[109, 100, 97, 115, 104, 59]⟩ 8212 (by decide) (by decide) (by decide) o10
  have b11 := b10.grown g11 b10.size (fun j hj => by cases hj; exact Nat.le_refl _)
  obtain ⟨w12, r12, o12, g12⟩ := step ⟨#[110, 98, 115, 112]⟩ 160 (by decide) (by decide) (by decide) o11
  have b12 := b11.grown g12 b11.size (fun j hj => by cases hj; exact Nat.le_refl _)
  obtain ⟨w13, r13, o13, g13⟩ := step ⟨#[110, 98, 115, 112, 59]⟩ 160 (by decide) (by decide) (by decide) o12
  have b13 := b12.grown g13 b12.size (fun j hj => by cases hj; exact Nat.le_refl _)
  obtain ⟨w14, r14, o14, g14⟩ := step ⟨#[110, 111, 116]⟩ 172 (by decide) (by decide) (by decide) o13
  have b14 := b13.grown g14 b13.size (fun j hj => by cases hj; exact Nat.le_refl _)
  obtain ⟨w15, r15, o15, g15⟩ := step ⟨#[110, 111, 116, 59]⟩ 172 (by decide) (by decide) (by decide) o14
  have b15 := b14.grown g15 b14.size (fun j hj => by cases hj; exact Nat.le_refl _)
  obtain ⟨w16, r16, o16, g16⟩ := step ⟨#[110, 111, 116, 105, 110, 59]⟩ 8713 (by decide) (by decide) (by decide) o15
  have b16 := b15.grown g16 b15.size (fun j hj => by cases hj; exact Nat.le_refl _)
  obtain ⟨w17, r17, o17, g17⟩ := step ⟨#[113, 117, 111, 116]⟩ 34 (by decide) (by decide) (by decide) o16
  have b17 := b16.grown g17 b16.size (fun j hj => by cases hj; exact Nat.le_refl _)
  obtain ⟨w18, r18, o18, g18⟩ := step ⟨#[113, 117, 111, 116, 59]⟩ 34 (by decide) (by decide) (by decide) o17
  have b18 := b17.grown g18 b17.size (fun j hj => by cases hj; exact Nat.le_refl _)
  obtain ⟨w19, r19, o19, g19⟩ := step ⟨#[114, 101, 103]⟩ 174 (by decide) (by decide) (by decide) o18
  have b19 := b18.grown g19 b18.size (fun j hj => by cases hj; exact Nat.le_refl _)
  obtain ⟨w20, r20, o20, g20⟩ := step ⟨#[114, 101, 103, 59]⟩ 174 (by decide) (by decide) (by decide) o19
  have b20 := b19.grown g20 b19.size (fun j hj => by cases hj; exact Nat.le_refl _)
  obtain ⟨w21, r21, o21, g21⟩ := step ⟨#[115, 117, 112, 49]⟩ 185 (by decide) (by decide) (by decide) o20
  have b21 := b20.grown g21 b20.size (fun j hj => by cases hj; exact Nat.le_refl _)
  obtain ⟨w22, r22, o22, g22⟩ := step ⟨#[115, 117, 112, 49, 59]⟩ 185 (by decide) (by decide) (by decide) o21
  have b22 := b21.grown g22 b21.size (fun j hj => by cases hj; exact Nat.le_refl _)
  obtain ⟨w23, r23, o23, g23⟩ := step ⟨#[116, 105, 109, 101, 115, 59]⟩ 215 (by decide) (by decide) (by decide) o22
  have b23 := b22.grown g23 b22.size (fun j hj => by cases hj; exact Nat.le_refl _)
  obtain ⟨w24, r24, o24, g24⟩ := step ⟨#[121, 101, 110, 59]⟩ 165 (by decide) (by decide) (by decide) o23
  have b24 := b23.grown g24 b23.size (fun j hj => by cases hj; exact Nat.le_refl _)
  have hD : (w24.ownsMap Tryd.prog 9 (plainElem Tryd.prog 3) w.heap.size 24 refMap) := o24
  clear o0 o1 g1 o2 g2 o3 g3 o4 g4 o5 g5 o6 g6 o7 g7 o8 g8 o9 g9 o10 g10 o11 g11 o12 g12 o13 g13 o14 g14 o15 g15 o16 g16 o17 g17 o18 g18 o19 g19 o20 g20 o21 g21 o22 g22 o23 g23 o24 g24 b0 b1 b2 b3 b4 b5 b6 b7 b8 b9 b10 b11 b12 b13 b14 b15 b16 b17 b18 b19 b20 b21 b22 b23
  have HD := (show Hid _ from hD)
  have HB := (show Hid _ from b24)
  clear hD b24
  go_enter Tryd.func33, Tryd.ntmps33
  go_wp2
  go_ret
  exact ⟨rfl, HD.out, HB.out⟩
end Go.Proofs.YtggfifchkecnjaaDoor

/- What a reference takes is just what it tells: of plain lists. -/
namespace Go.Proofs.YtggfifchkecnjaaDoor
open Go.RowKit
set_option maxRecDepth 100000
set_option linter.unusedVariables false

theorem pointOk_refNumber (x : Int) : pointOk (refNumber x) = true ∧ refNumber x ≠ 0 := by
  unfold refNumber
  by_cases h : x = 0 ∨ pointOk x = false
  · rw [if_pos h]; decide
  · rw [if_neg h]
    by_cases h1 : 128 ≤ x ∧ x ≤ 159
    · rw [inB_yes h1.1 h1.2, if_pos rfl]
      have hk : (x - 128).toNat < 32 := by omega
      generalize (x - 128).toNat = k at hk
      have : ∀ k : Fin 32, pointOk (oldPoints.getD k.1 0) = true ∧ oldPoints.getD k.1 0 ≠ 0 := by decide
      exact this ⟨k, hk⟩
    · rw [inB_no (by omega), if_neg (by decide)]
      refine ⟨?_, fun e => h (.inl e)⟩
      rcases hp : pointOk x with _ | _
      · exact absurd (.inr hp) h
      · rfl

/-- The digits at a list's beginning are known by where they end. -/
theorem digs_eq {b : Int} {l : List Int} {m : Nat} (h : ∀ k, k < m → 0 ≤ digitOf (l.getD k (-1)) b) (he : digitOf (l.getD m (-1)) b < 0) : digs b l = (List.range m).map fun k => digitOf (l.getD k (-1)) b := by
  induction m generalizing l with
  | zero =>
    cases l with
    | nil => rfl
    | cons c cs => unfold digs; rw [if_neg (by simp at he; omega)]; rfl
  | succ m ih =>
    cases l with
    | nil => have := h 0 (by omega); have := digitOf_neg b; simp at *; omega
    | cons c cs =>
      have h0 := h 0 (by omega)
      unfold digs
      rw [if_pos (by simpa using h0), List.range_succ_eq_map, List.map_cons, List.map_map]
      have e := ih (l := cs) (fun k hk => by have := h (k + 1) (by omega); simpa using this) (by simpa using he)
      rw [e]
      simp [Function.comp_def]

/-- A list cut behind n, and a blank. -/
def cut (xs : List Int) (n : Nat) : List Int := xs.take n ++ [32]
theorem cut_lt {xs : List Int} {n j : Nat} (hn : n ≤ xs.length) (hj : j < n) : atL (cut xs n) j = atL xs j := by
  have h1 : j < (xs.take n).length := by simp; omega
  simp only [atL, cut, List.getD_eq_getElem?_getD]
  rw [List.getElem?_append_left h1, List.getElem?_take_of_lt hj]
theorem cut_at {xs : List Int} {n : Nat} (hn : n ≤ xs.length) : atL (cut xs n) n = 32 := by
  have h1 : (xs.take n).length = n := by simp; omega
  simp only [atL, cut, List.getD_eq_getElem?_getD]
  rw [List.getElem?_append_right (by omega), h1, Nat.sub_self]
  rfl
theorem drop_getD (xs : List Int) (f k : Nat) : (xs.drop f).getD k (-1) = atL xs (f + k) := by simp [atL, List.getD_eq_getElem?_getD, List.getElem?_drop]
theorem atL_lt {xs : List Int} {j : Nat} (h : atL xs j ≠ -1) : j < xs.length := by
  by_cases hj : j < xs.length
  · exact hj
  · exact absurd (atL_out (by omega)) h

theorem refDigits_cut {xs : List Int} {b : Int} (hb : b = 10 ∨ b = 16) {f n : Nat} {x : Int} (h : refDigits xs b f = (x, (n : Int))) (h0 : 0 < n) : f < n ∧ n ≤ xs.length ∧ refDigits (cut xs n) b f = (x, (n : Int)) := by
  unfold refDigits at h
  simp only at h
  by_cases hd : digs b (xs.drop f) = []
  · rw [if_pos hd] at h
    have := (Prod.mk.inj h).2
    omega
  · rw [if_neg hd] at h
    obtain ⟨hx, hn⟩ := Prod.mk.inj h
    have hlen : 0 < (digs b (xs.drop f)).length := List.length_pos_iff.mpr hd
    obtain ⟨m, hm⟩ : ∃ m, m = (digs b (xs.drop f)).length := ⟨_, rfl⟩
    have hdl := digs_le b (xs.drop f)
    rw [List.length_drop] at hdl
    have hat : ∀ k, k < m → 0 ≤ digitOf (atL xs (f + k)) b := fun k hk => by have := (digs_at b (xs.drop f) k (by omega)).2; rw [drop_getD] at this; exact this
    have hend := digs_end b (xs.drop f)
    rw [drop_getD, ← hm] at hend
    rw [← hm] at hn hlen hdl
    have hfm : f + m ≤ xs.length := by omega
    have hnn : n = f + m + (if atL xs (f + m) = 59 then 1 else 0) := by omega
    have hnle : n ≤ xs.length := by
      rw [hnn]
      by_cases h59 : atL xs (f + m) = 59
      · rw [if_pos h59]
        have := atL_lt (xs := xs) (j := f + m) (by rw [h59]; decide)
        omega
      · rw [if_neg h59]; omega
    have hfmn : f + m ≤ n := by omega
    refine ⟨by omega, hnle, ?_⟩
    have hat2 : ∀ k, k < m → atL (cut xs n) (f + k) = atL xs (f + k) := fun k hk => cut_lt hnle (by omega)
    have hend2 : digitOf (atL (cut xs n) (f + m)) b < 0 ∧ (atL (cut xs n) (f + m) = 59 ↔ atL xs (f + m) = 59) := by
      by_cases h59 : atL xs (f + m) = 59
      · rw [if_pos h59] at hnn
        rw [cut_lt hnle (by omega)]
        exact ⟨hend, Iff.rfl⟩
      · rw [if_neg h59] at hnn
        have e : f + m = n := by omega
        rw [e, cut_at hnle]
        refine ⟨?_, ?_⟩
        · rcases hb with rfl | rfl <;> decide
        · rw [← e]; exact ⟨fun h => absurd h (by decide), fun h => absurd h h59⟩
    have d1 := digs_eq (b := b) (l := xs.drop f) (m := m) (fun k hk => by rw [drop_getD]; exact hat k hk) (by rw [drop_getD]; exact hend)
    have d2 := digs_eq (b := b) (l := (cut xs n).drop f) (m := m) (fun k hk => by rw [drop_getD, hat2 k hk]; exact hat k hk) (by rw [drop_getD]; exact hend2.1)
    have e12 : digs b ((cut xs n).drop f) = digs b (xs.drop f) := by
      rw [d1, d2]
      apply List.map_congr_left
      intro k hk
      rw [drop_getD, drop_getD, hat2 k (List.mem_range.mp hk)]
    unfold refDigits
    simp only
    rw [e12, if_neg hd, ← hm, hx]
    congr 1
    by_cases h59 : atL xs (f + m) = 59
    · rw [if_pos (hend2.2.mpr h59)]; rw [if_pos h59] at hnn; rw [hnn]
    · rw [if_neg (fun e => h59 (hend2.2.mp e))]; rw [if_neg h59] at hnn; rw [hnn]
end Go.Proofs.YtggfifchkecnjaaDoor

/- The contract of the specification's Refs. -/
namespace Go.Proofs.YtggfifchkecnjaaDoor
open Go.RowKit
set_option maxRecDepth 100000
set_option linter.unusedVariables false

/-- The document's references lie in block g, two cells each. -/
def RefsAt (w : World) (g : Nat) : Prop := ∀ k (hk : k < refList.length), w.cell? ⟨g, k * 2, none⟩ = some (.string refList[k].1) ∧ w.cell? ⟨g, k * 2 + 1, none⟩ = some (.int .i64 refList[k].2)
theorem RefsAt.lt {w : World} {g : Nat} (h : RefsAt w g) : g < w.heap.size := by
  by_cases hl : g < w.heap.size
  · exact hl
  · have := (h 0 (by decide)).1
    simp [World.cell?, Array.getElem?_eq_none (Nat.le_of_not_lt hl)] at this
theorem RefsAt.below {w w' : World} {g : Nat} (h : RefsAt w g) (hb : Below w.heap.size w w') : RefsAt w' g := fun k hk =>
  ⟨(hb.cell (p := ⟨g, k * 2, none⟩) h.lt).trans (h k hk).1, (hb.cell (p := ⟨g, k * 2 + 1, none⟩) h.lt).trans (h k hk).2⟩
theorem RefsAt.same {w w' : World} {g : Nat} (h : RefsAt w g) (e : w'.heap[g]? = w.heap[g]?) : RefsAt w' g := fun k hk => by
  have := h k hk
  simp only [World.cell?, e] at this ⊢
  exact this
theorem RefsAt.set {w : World} {g b k : Nat} {u : Value} (h : RefsAt w g) (hne : g ≠ b) : RefsAt (w.setCell ⟨b, k, none⟩ u) g :=
  h.same (Below.heap_setCell w _ u g hne)
theorem RefsAt.of {w : World} {g : Nat} {cur : Array Value} {t : TypeId} {fr : Nat × Nat} (h : w.heap[g]? = some (.cells cur t fr)) (hc : cur.toList = refCells refList) : RefsAt w g := fun k hk => by
  have at' : ∀ i, i < (refCells refList).length → w.cell? ⟨g, i, none⟩ = some ((refCells refList).getD i undef) := fun i hi => by
    have : cur.toList[i]? = some ((refCells refList).getD i undef) := by rw [hc]; simp [List.getD_eq_getElem?_getD, hi]
    simp only [World.cell?, h]
    simpa using this
  have hl := refCells_len refList
  exact ⟨by rw [at' (k * 2) (by omega), refCells_name _ _ hk], by rw [at' (k * 2 + 1) (by omega), refCells_point _ _ hk]⟩

end Go.Proofs.YtggfifchkecnjaaDoor

/- The contract of the specification's reading of a reference by number. -/
namespace Go.Proofs.YtggfifchkecnjaaDoor
open Go.RowKit
set_option maxRecDepth 100000
set_option linter.unusedVariables false

end Go.Proofs.YtggfifchkecnjaaDoor

/- The contract of the specification's RefRead. -/
namespace Go.Proofs.YtggfifchkecnjaaDoor
open Go.RowKit
set_option maxRecDepth 100000
set_option linter.unusedVariables false

theorem own1 (w : World) (x : Int) : Own w.heap.size 3 .i64 (w.alloc (.cells #[.int .i64 x] 3)) (.slice (some ⟨w.heap.size, 0, none⟩) 1 1) [x] :=
  World.ownsRow_lit w #[.int .i64 x] 1 (Nat.le_refl _) (by unfold maxLen; omega) rfl

/-- What a call of RefRead answers. -/
def Reads (w : World) (res : List Int × Int) (e : Ending) (w' : World) : Prop :=
  ∃ v, e = .returned (.tuple #[v, .int .i64 res.2]) ∧ Own w.heap.size 3 .i64 w' v res.1 ∧ Below w.heap.size w w'

theorem refRead_none {xs : List Int} {i : Int} {b : Bool} (h : 3000 < xs.length ∨ inB i 0 (xs.length - 1) = false ∨ xs.getD i.toNat 0 ≠ 38) : refRead xs i b = ([], i) := by unfold refRead; rw [if_pos h]

end Go.Proofs.YtggfifchkecnjaaDoor

/- The contract of the specification's RefRead, where a reference by number stands, and where a name may stand. -/
namespace Go.Proofs.YtggfifchkecnjaaDoor
open Go.RowKit
set_option maxRecDepth 100000
set_option linter.unusedVariables false

theorem refRead_num {xs : List Int} {k : Nat} {b : Bool} (h1 : xs.length ≤ 3000) (hk : k < xs.length) (h3 : xs.getD k 0 = 38) (h4 : atL xs (k + 1) = 35) :
    refRead xs k b = if 0 < (refNum xs (k + 2)).2 then ([(refNum xs (k + 2)).1], (refNum xs (k + 2)).2) else ([38], (k : Int) + 1) := by
  unfold refRead
  rw [if_neg (by rintro (h | h | h); exact absurd h (by omega); rw [inB_yes (by omega) (by omega)] at h; cases h; exact h (by simpa using h3)), Int.toNat_natCast, if_pos h4]
theorem refRead_name {xs : List Int} {k : Nat} {b : Bool} (h1 : xs.length ≤ 3000) (hk : k < xs.length) (h3 : xs.getD k 0 = 38) (h4 : atL xs (k + 1) ≠ 35) : refRead xs k b = refName xs k b := by
  unfold refRead
  rw [if_neg (by rintro (h | h | h); exact absurd h (by omega); rw [inB_yes (by omega) (by omega)] at h; cases h; exact h (by simpa using h3)), Int.toNat_natCast, if_neg h4]

end Go.Proofs.YtggfifchkecnjaaDoor
