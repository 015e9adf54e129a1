/- The laws' helpers on tokens. -/
import Derived.Test.YtlggfbelandpjaaTok
import Derived.Test.YtlggfbelandpjaaToA
import Derived.Test.YtlggfbelandpjaaWAttr3
namespace Go.Proofs.Ytlggfbelandpjaa
open Go.RowKit
set_option linter.unusedVariables false

set_option maxHeartbeats 2000000 in
set_option maxRecDepth 100000 in
theorem szToken_any {va : Value} {rs : List (ByteArray × ByteArray)} {w : World} (h : Sv 2 w va (pairCells rs)) (hs : ∀ p ∈ rs, p.1.size ≤ maxLen ∧ p.2.size ≤ maxLen) (k : Int) (nm tx : ByteArray) (sf : Bool) (hn : nm.size ≤ maxLen) (ht : tx.size ≤ maxLen) (l : Int) (h0 : 0 ≤ l) (h1 : l ≤ 1099511627776) :
    Calls Try.prog 24 #[tokVal k nm va tx sf, .int .i64 l] w fun e w' => ∃ r : Int, e = .returned (.int .i64 r) ∧ (r < 0 ∨ (0 ≤ r ∧ r ≤ l ∧ (nm.size : Int) ≤ l ∧ (tx.size : Int) ≤ l ∧ (rs.length : Int) ≤ l ∧ ∀ p ∈ rs, (p.1.size : Int) + p.2.size ≤ l)) ∧ Below w.heap.size w w' := by
  have hn' : nm.size ≤ 9223372036854775807 := by unfold maxLen at hn; omega
  have ht' : tx.size ≤ 9223372036854775807 := by unfold maxLen at ht; omega
  have b1 : Below w.heap.size w (w.alloc (.cells #[.int .i64 k, .string nm, va, .string tx, .bool sf] 45)) := (Below.refl _ _).alloc (Nat.le_refl _) _
  have hy0 := (show Hid _ from heap_alloc_new w (.cells #[.int .i64 k, .string nm, va, .string tx, .bool sf] 45))
  unfold tokVal
  by_cases hb : l - nm.size < 0
  · go_enter Try.func24, Try.ntmps24
    go_wp2
    go_ret
    exact ⟨_, rfl, .inl (by omega), b1⟩
  · have c1 := szAttrS_any (h.below b1) hs (l - nm.size) (by omega) (by omega)
    go_enter Try.func24, Try.ntmps24
    go_wp2_with fail
    go_at_call 15
    refine c1.mono ?_
    rintro e w2 ⟨r, rfl, hr, b2⟩
    clear c1
    have hy := (b2.block w.heap.size (by simp)).trans hy0.out
    have y3 : w2.cell? ⟨w.heap.size, 3, none⟩ = some (.string tx) := by simp only [World.cell?, hy]; rfl
    replace b2 := b1.trans (b2.mono b1.size)
    clear hy
    rcases hr with hr | ⟨hr0, hr1, hr2⟩
    · go_wp2
      go_ret
      exact ⟨_, rfl, .inl (by omega), b2⟩
    · have HR := (show Hid _ from hr2)
      clear hr2
      by_cases ht2 : r - tx.size < 0
      · go_wp2
        go_ret
        exact ⟨_, rfl, .inl (by omega), b2⟩
      · go_wp2
        go_ret
        refine ⟨_, rfl, .inr ⟨by omega, by omega, by omega, by omega, ?_, ?_⟩, b2⟩
        · have := HR.out.1; omega
        · intro p hp; have := HR.out.2 p hp; omega

theorem row_set {B size n b k : Nat} {e : TypeId} {w : World} {v u : Value} {xs : List Value} (h : w.ownsRow B e size v n xs) (hne : ∀ j, v.ownBlock = some j → j ≠ b) : (w.setCell ⟨b, k, none⟩ u).ownsRow B e size v n xs := by
  obtain ⟨hl, hv | ⟨g, cap, cur, hv, hB, hh, r⟩⟩ := h
  · exact ⟨hl, .inl hv⟩
  · have hg : g ≠ b := hne g (by rw [hv]; rfl)
    exact ⟨hl, .inr ⟨g, cap, cur, hv, hB, (Below.heap_setCell w ⟨b, k, none⟩ u g hg).trans hh, r⟩⟩

set_option maxHeartbeats 4000000 in
set_option maxRecDepth 100000 in
theorem toToken_any {va : Value} {rs : List (ByteArray × ByteArray)} {w : World} (h : Sv 2 w va (pairCells rs)) (k : Int) (nm tx : ByteArray) (sf : Bool) (hn : rs.length ≤ 1048576) :
    Calls Try.prog 26 #[tokVal k nm va tx sf] w fun e w' => ∃ v', e = .returned (tokVal k nm v' tx sf) ∧ w'.ownsRow w.heap.size 26 2 v' rs.length (pairCells rs) ∧ Below w.heap.size w w' := by
  have b1 : Below w.heap.size w (((w.alloc (.cells #[.int .i64 k, .string nm, va, .string tx, .bool sf] 45)).alloc (.cells #[.int .i64 0, .string ⟨#[]⟩, .slice none 0 0, .string ⟨#[]⟩, .bool false] 49)).alloc (.cells #[.int .i64 k, .string nm, .slice none 0 0, .string ⟨#[]⟩, .bool false] 49)) := (((Below.refl _ _).alloc (Nat.le_refl _) _).alloc (by simp) _).alloc (by first | (simp; done) | (simp; omega)) _
  have c1 := toAttrS_any (h.below b1) hn
  have ha0 : (((w.alloc (.cells #[.int .i64 k, .string nm, va, .string tx, .bool sf] 45)).alloc (.cells #[.int .i64 0, .string ⟨#[]⟩, .slice none 0 0, .string ⟨#[]⟩, .bool false] 49)).alloc (.cells #[.int .i64 k, .string nm, .slice none 0 0, .string ⟨#[]⟩, .bool false] 49)).heap[w.heap.size]? = some (.cells #[.int .i64 k, .string nm, va, .string tx, .bool sf] 45) := (heap_alloc_old _ _ (by first | (simp; done) | (simp; omega))).trans ((heap_alloc_old _ _ (by simp)).trans (heap_alloc_new _ _))
  have hz0 : (((w.alloc (.cells #[.int .i64 k, .string nm, va, .string tx, .bool sf] 45)).alloc (.cells #[.int .i64 0, .string ⟨#[]⟩, .slice none 0 0, .string ⟨#[]⟩, .bool false] 49)).alloc (.cells #[.int .i64 k, .string nm, .slice none 0 0, .string ⟨#[]⟩, .bool false] 49)).heap[w.heap.size + 1]? = some (.cells #[.int .i64 0, .string ⟨#[]⟩, .slice none 0 0, .string ⟨#[]⟩, .bool false] 49) := (heap_alloc_old _ _ (by simp)).trans (heap_alloc2_new _ _ _)
  have ho0 : (((w.alloc (.cells #[.int .i64 k, .string nm, va, .string tx, .bool sf] 45)).alloc (.cells #[.int .i64 0, .string ⟨#[]⟩, .slice none 0 0, .string ⟨#[]⟩, .bool false] 49)).alloc (.cells #[.int .i64 k, .string nm, .slice none 0 0, .string ⟨#[]⟩, .bool false] 49)).heap[w.heap.size + 1 + 1]? = some (.cells #[.int .i64 k, .string nm, .slice none 0 0, .string ⟨#[]⟩, .bool false] 49) := by
    have := heap_alloc_new ((w.alloc (.cells #[.int .i64 k, .string nm, va, .string tx, .bool sf] 45)).alloc (.cells #[.int .i64 0, .string ⟨#[]⟩, .slice none 0 0, .string ⟨#[]⟩, .bool false] 49)) (.cells #[.int .i64 k, .string nm, .slice none 0 0, .string ⟨#[]⟩, .bool false] 49)
    simpa using this
  have HA := (show Hid _ from ha0)
  have HZ := (show Hid _ from hz0)
  have HO := (show Hid _ from ho0)
  clear ha0 hz0 ho0
  unfold tokVal
  go_enter Try.func26, Try.ntmps26
  go_wp2_with fail
  go_at_call 17
  refine c1.mono ?_
  rintro e w4 ⟨v4, rfl, ow, b4⟩
  have hy := (b4.block w.heap.size (by first | (simp; done) | (simp; omega))).trans HA.out
  have hz := (b4.block (w.heap.size + 1) (by first | (simp; done) | (simp; omega))).trans HZ.out
  have hp := (b4.block (w.heap.size + 1 + 1) (by simp)).trans HO.out
  have y0 : w4.cell? ⟨w.heap.size, 0, none⟩ = some (.int .i64 k) := by simp only [World.cell?, hy]; rfl
  have y1 : w4.cell? ⟨w.heap.size, 1, none⟩ = some (.string nm) := by simp only [World.cell?, hy]; rfl
  have y2 : w4.cell? ⟨w.heap.size, 2, none⟩ = some va := by simp only [World.cell?, hy]; rfl
  have y3 : w4.cell? ⟨w.heap.size, 3, none⟩ = some (.string tx) := by simp only [World.cell?, hy]; rfl
  have y4 : w4.cell? ⟨w.heap.size, 4, none⟩ = some (.bool sf) := by simp only [World.cell?, hy]; rfl
  have z0 : w4.cell? ⟨w.heap.size + 1, 0, none⟩ = some (.int .i64 0) := by simp only [World.cell?, hz]; rfl
  have fz0 : w4.frozen? ⟨w.heap.size + 1, 0, none⟩ = false := by simp only [World.frozen?, hz]; rfl
  have z1 : w4.cell? ⟨w.heap.size + 1, 1, none⟩ = some (.string ⟨#[]⟩) := by simp only [World.cell?, hz]; rfl
  have fz1 : w4.frozen? ⟨w.heap.size + 1, 1, none⟩ = false := by simp only [World.frozen?, hz]; rfl
  have z2 : w4.cell? ⟨w.heap.size + 1, 2, none⟩ = some (.slice none 0 0) := by simp only [World.cell?, hz]; rfl
  have fz2 : w4.frozen? ⟨w.heap.size + 1, 2, none⟩ = false := by simp only [World.frozen?, hz]; rfl
  have z3 : w4.cell? ⟨w.heap.size + 1, 3, none⟩ = some (.string ⟨#[]⟩) := by simp only [World.cell?, hz]; rfl
  have fz3 : w4.frozen? ⟨w.heap.size + 1, 3, none⟩ = false := by simp only [World.frozen?, hz]; rfl
  have z4 : w4.cell? ⟨w.heap.size + 1, 4, none⟩ = some (.bool false) := by simp only [World.cell?, hz]; rfl
  have fz4 : w4.frozen? ⟨w.heap.size + 1, 4, none⟩ = false := by simp only [World.frozen?, hz]; rfl
  have p0 : w4.cell? ⟨w.heap.size + 1 + 1, 0, none⟩ = some (.int .i64 k) := by simp only [World.cell?, hp]; rfl
  have fp0 : w4.frozen? ⟨w.heap.size + 1 + 1, 0, none⟩ = false := by simp only [World.frozen?, hp]; rfl
  have p1 : w4.cell? ⟨w.heap.size + 1 + 1, 1, none⟩ = some (.string nm) := by simp only [World.cell?, hp]; rfl
  have fp1 : w4.frozen? ⟨w.heap.size + 1 + 1, 1, none⟩ = false := by simp only [World.frozen?, hp]; rfl
  have p2 : w4.cell? ⟨w.heap.size + 1 + 1, 2, none⟩ = some (.slice none 0 0) := by simp only [World.cell?, hp]; rfl
  have fp2 : w4.frozen? ⟨w.heap.size + 1 + 1, 2, none⟩ = false := by simp only [World.frozen?, hp]; rfl
  have p3 : w4.cell? ⟨w.heap.size + 1 + 1, 3, none⟩ = some (.string ⟨#[]⟩) := by simp only [World.cell?, hp]; rfl
  have fp3 : w4.frozen? ⟨w.heap.size + 1 + 1, 3, none⟩ = false := by simp only [World.frozen?, hp]; rfl
  have p4 : w4.cell? ⟨w.heap.size + 1 + 1, 4, none⟩ = some (.bool false) := by simp only [World.cell?, hp]; rfl
  have fp4 : w4.frozen? ⟨w.heap.size + 1 + 1, 4, none⟩ = false := by simp only [World.frozen?, hp]; rfl
  have l4 : ∀ j, v4.ownBlock = some j → w.heap.size + 3 ≤ j := fun j hj => by have := (World.ownsRow.lt ow j hj).1; simp at this; omega
  replace ow := row_base ow b1.size
  replace b4 := b1.trans (b4.mono b1.size)
  have hzz := (show Hid _ from hz)
  clear hy hz hp HA HZ HO c1
  obtain ⟨a4, c4, rfl, _, _, _⟩ := (sv_of_own ow).pair
  have hf1 := setCell_at (k := 0) (u := .int .i64 k) (((Below.heap_setCell _ ⟨w.heap.size + 1 + 1, 4, none⟩ (.bool sf) (w.heap.size + 1) (by simp)).trans ((Below.heap_setCell _ ⟨w.heap.size + 1 + 1, 3, none⟩ (.string tx) (w.heap.size + 1) (by simp)).trans (Below.heap_setCell w4 ⟨w.heap.size + 1 + 1, 2, none⟩ (.slice a4 rs.length c4) (w.heap.size + 1) (by simp)))).trans hzz.out)
  have hf5 := (show Hid _ from setCell_at (k := 4) (u := .bool sf) (setCell_at (k := 3) (u := .string tx) (setCell_at (k := 2) (u := .slice a4 rs.length c4) (setCell_at (k := 1) (u := .string nm) hf1))))
  have hne : ∀ b, b < w.heap.size + 3 → ∀ j, (Value.slice a4 rs.length c4).ownBlock = some j → j ≠ b := fun b hb j hj => by have := l4 j hj; omega
  have HW := (show Hid _ from row_set (row_set (row_set (row_set (row_set (row_set (row_set (row_set ow (b := w.heap.size + 1 + 1) (k := 2) (u := .slice a4 rs.length c4) (hne _ (by omega))) (b := w.heap.size + 1 + 1) (k := 3) (u := .string tx) (hne _ (by omega))) (b := w.heap.size + 1 + 1) (k := 4) (u := .bool sf) (hne _ (by omega))) (b := w.heap.size + 1) (k := 0) (u := .int .i64 k) (hne _ (by omega))) (b := w.heap.size + 1) (k := 1) (u := .string nm) (hne _ (by omega))) (b := w.heap.size + 1) (k := 2) (u := .slice a4 rs.length c4) (hne _ (by omega))) (b := w.heap.size + 1) (k := 3) (u := .string tx) (hne _ (by omega))) (b := w.heap.size + 1) (k := 4) (u := .bool sf) (hne _ (by omega)))
  clear hf1 hzz
  go_wp2
  (try simp only [Exit.inBlock, Exit.then])
  refine bodyPost_ret (results_cell_row rfl _ _ (w.heap.size + 1) 49 #[.int .i64 k, .string nm, .slice a4 rs.length c4, .string tx, .bool sf] (0, 0) _ rfl hf5.out Try.underlying49 rfl rfl) rfl ?_
  refine ⟨_, rfl, HW.out, ?_⟩
  exact (((((((b4.setCell (by show w.heap.size ≤ w.heap.size + 1 + 1; omega) _).setCell (by show w.heap.size ≤ w.heap.size + 1 + 1; omega) _).setCell (by show w.heap.size ≤ w.heap.size + 1 + 1; omega) _).setCell (Nat.le_succ _) _).setCell (Nat.le_succ _) _).setCell (Nat.le_succ _) _).setCell (Nat.le_succ _) _).setCell (Nat.le_succ _) _
end Go.Proofs.Ytlggfbelandpjaa
