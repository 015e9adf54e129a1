/- The contracts of the draws of points and of lines: some integers, in new memory. -/
import Derived.Test.YtphaogkgnpalgaaDraw
import Derived.Test.YtphaogkgnpalgaaLines
namespace Go.Proofs.Ytphaogkgnpalgaa
open Go.RowKit
set_option linter.unusedVariables false

theorem own_past {B g : Nat} {e : TypeId} {K : IntKind} {w w' : World} {v : Value} {xs : List Int} (h : Own B e K w v xs) (hg : w.grownBy w' (some g)) (hlt : g < B) : Own B e K w' v xs := by
  refine World.ownsRow.kept h hg ?_
  by_cases h0 : v.ownBlock = none
  · exact .inl h0
  · obtain ⟨k, hk⟩ := Option.ne_none_iff_exists'.mp h0
    refine .inr ?_
    have := (h.lt k hk).1
    rw [hk]; intro e; cases e; omega

theorem Own.kept1 {B g : Nat} {e : TypeId} {K : IntKind} {w w' : World} {v : Value} {xs : List Int} (h : Own B e K w v xs) (hg : w.grownBy w' (some g)) (hne : ∀ k, v.ownBlock = some k → k ≠ g) : Own B e K w' v xs := by
  refine World.ownsRow.kept h hg ?_
  by_cases h0 : v.ownBlock = none
  · exact .inl h0
  · obtain ⟨k, hk⟩ := Option.ne_none_iff_exists'.mp h0
    refine .inr ?_
    rw [hk]; intro e; cases e; exact hne _ hk rfl

theorem size_any {v : Value} {xs : List Int} {w : World} (h : Sl .u8 w v xs) (hn : xs.length ≤ 1099511627776) (m : Int) (hm : 2 ≤ m) :
    Calls Try.prog 46 #[v, .int .i64 m] w fun e w' => (∃ x : Int, e = .returned (.int .i64 x) ∧ 0 ≤ x ∧ x ≤ m) ∧ w' = w := by
  obtain ⟨a, ca, rfl, _, _, _, ha⟩ := h
  clear ha
  go_enter Try.func46, Try.ntmps46
  go_wp2
  · go_ret
    exact ⟨⟨_, rfl, by omega, by omega⟩, rfl⟩
  · go_ret
    exact ⟨⟨_, rfl, by omega, by omega⟩, rfl⟩

theorem drawPoint_any {w0 : World} {g : Nat} {v : Value} {xs : List Int} {w : World} (h : Cur w0 g v xs w) (hb : ∀ x ∈ xs, 0 ≤ x ∧ x ≤ 255) :
    Calls Try.prog 49 #[.pointer (some ⟨g, 0, none⟩)] w fun e w' => ∃ x : Int, e = .returned (.int .i64 x) ∧ Cur w0 g v xs w' ∧ w.grownBy w' (some g) := by
  have HB : Hid (∀ x ∈ xs, 0 ≤ x ∧ x ≤ 255) := hb
  clear hb
  go_enter Try.func49, Try.ntmps49
  go_wp2_with fail
  go_at_call 45
  refine (below_any _ (by omega) h HB.out).mono ?_
  rintro e w1 ⟨x, rfl, x0, x1, x2, k1, g1⟩
  clear x1 x2
  go_wp2_with fail
  go_at_call 45
  refine (below_any _ (by omega) k1 HB.out).mono ?_
  rintro e w2 ⟨y, rfl, y0, y1, y2, k2, g2⟩
  replace y1 := y1 (by omega)
  clear y2
  go_wp2_with fail
  go_at_call 47
  have hown : Own w2.heap.size 3 .i64 (w2.alloc _) (.slice (some ⟨w2.heap.size, 0, none⟩) 21 21) [0, 65, 97, 127, 128, 255, 2047, 2048, 55295, 55296, 57343, 57344, 65279, 65533, 65535, 65536, 1114111, 1114112, -1, x, 32 + y] :=
    World.ownsRow_lit w2 #[.int .i64 0, .int .i64 65, .int .i64 97, .int .i64 127, .int .i64 128, .int .i64 255, .int .i64 2047, .int .i64 2048, .int .i64 55295, .int .i64 55296, .int .i64 57343, .int .i64 57344, .int .i64 65279, .int .i64 65533, .int .i64 65535, .int .i64 65536, .int .i64 1114111, .int .i64 1114112, .int .i64 (-1), .int .i64 x, .int .i64 (32 + y)] 21 (Nat.le_refl _) (by unfold maxLen; omega) rfl
  refine (pick_any (k2.below ((Below.refl _ _).alloc (Nat.le_refl _) _)) HB.out hown.sl (by simp) (by simp) (fun w' hg => (own_past hown hg k2.lt).sl)).mono ?_
  rintro e w3 ⟨z, rfl, _, k3, g3⟩
  clear hown
  go_wp2
  go_ret
  exact ⟨_, rfl, k3, grown_trans (grown_trans (grown_trans g1 g2) (World.grownBy_alloc _ _ _)) g3⟩

theorem drawPut_any {v : Value} {xs : List Int} {w : World} (h : Sl .u8 w v xs) (hb : ∀ x ∈ xs, 0 ≤ x ∧ x ≤ 255) (hn : xs.length ≤ 1099511627776) :
    Calls Try.prog 24 #[v] w fun e w' => ∃ x : Int, e = .returned (.int .i64 x) ∧ Below w.heap.size w w' := by
  go_enter Try.func24, Try.ntmps24
  go_wp2_with fail
  go_at_call 44
  refine (new_any h hb hn).mono ?_
  rintro e w1 ⟨rfl, k1, b1⟩
  go_wp2_with fail
  go_at_call 49
  refine (drawPoint_any k1 hb).mono ?_
  rintro e w2 ⟨x, rfl, k2, g2⟩
  go_wp2
  go_ret
  exact ⟨_, rfl, b1.grown g2 b1.size (fun k hk => by cases hk; exact Nat.le_refl _)⟩

theorem big_any {v : Value} {xs : List Int} {w : World} (h : Sl .u8 w v xs) : Calls Try.prog 12 #[v] w fun e w' => e = .returned (.bool (decide (1048576 < xs.length))) ∧ w' = w := by
  obtain ⟨a, ca, rfl, _, _, _, ha⟩ := h
  clear ha
  by_cases hl : 1048576 < xs.length
  · rw [decide_eq_true hl]
    go_enter Try.func12, Try.ntmps12
    go_wp2
    go_ret
    exact ⟨ret_bool (by first | rfl | (simp; omega)), rfl⟩
  · rw [decide_eq_false hl]
    go_enter Try.func12, Try.ntmps12
    go_wp2
    go_ret
    exact ⟨ret_bool (by first | rfl | (simp; omega)), rfl⟩
end Go.Proofs.Ytphaogkgnpalgaa
