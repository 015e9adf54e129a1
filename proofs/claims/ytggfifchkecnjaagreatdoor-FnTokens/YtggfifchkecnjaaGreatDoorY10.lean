/- The contracts of the draws of points and of lines: some integers, in new memory. -/
import Derived.Test.YtggfifchkecnjaaGreatDoorY8
import Derived.Test.YtggfifchkecnjaaGreatDoorY7
namespace Go.Proofs.YtggfifchkecnjaaGreatDoor
open Go.RowKit
set_option maxRecDepth 100000
set_option linter.unusedVariables false

theorem own_past {B g : Nat} {e : TypeId} {K : IntKind} {w w' : World} {v : Value} {xs : List Int} (h : Own B e K w v xs) (hg : w.grownBy w' (some g)) (hlt : g < B) : Own B e K w' v xs := by
  refine World.ownsRow.kept h hg ?_
  by_cases h0 : v.ownBlock = none
  · exact .inl h0
  · obtain ⟨k, hk⟩ := Option.ne_none_iff_exists'.mp h0
    refine .inr ?_
    have := (h.lt k hk).1
    rw [hk]; intro e; cases e; omega

theorem size_any {v : Value} {xs : List Int} {w : World} (h : Sl .u8 w v xs) (hn : xs.length ≤ 1099511627776) (m : Int) (hm : 2 ≤ m) :
    Calls Tryz.prog 19 #[v, .int .i64 m] w fun e w' => (∃ x : Int, e = .returned (.int .i64 x) ∧ 0 ≤ x ∧ x ≤ m) ∧ w' = w := by
  obtain ⟨a, ca, rfl, _, _, _, ha⟩ := h
  clear ha
  go_enter Tryz.func19, Tryz.ntmps19
  go_wp2
  · go_ret
    exact ⟨⟨_, rfl, by omega, by omega⟩, rfl⟩
  · go_ret
    exact ⟨⟨_, rfl, by omega, by omega⟩, rfl⟩

theorem big_any {v : Value} {xs : List Int} {w : World} (h : Sl .u8 w v xs) : Calls Tryz.prog 5 #[v] w fun e w' => e = .returned (.bool (decide (1048576 < xs.length))) ∧ w' = w := by
  obtain ⟨a, ca, rfl, _, _, _, ha⟩ := h
  clear ha
  by_cases hl : 1048576 < xs.length
  · rw [decide_eq_true hl]
    go_enter Tryz.func5, Tryz.ntmps5
    go_wp2
    go_ret
    exact ⟨ret_bool (by first | rfl | (simp; omega)), rfl⟩
  · rw [decide_eq_false hl]
    go_enter Tryz.func5, Tryz.ntmps5
    go_wp2
    go_ret
    exact ⟨ret_bool (by first | rfl | (simp; omega)), rfl⟩
end Go.Proofs.YtggfifchkecnjaaGreatDoor

/- Contracts of the specification's DigitOf. No condition. -/
namespace Go.Proofs.YtggfifchkecnjaaGreatDoor
open Go.RowKit
set_option maxRecDepth 100000
set_option linter.unusedVariables false

theorem sdigit_none (x b : Int) (w : World) (h10 : b ≠ 10) (h16 : b ≠ 16) : Calls Tryz.prog 82 #[.int .i64 x, .int .i64 b] w fun e w' => e = .returned (.int .i64 (digitOf x b)) ∧ w' = w := by
  rw [digitOf_none ⟨h10, h16⟩]
  have e10 : (b != 10) = true := by simpa using h10
  have e16 : (b != 16) = true := by simpa using h16
  go_enter Tryz.func82, Tryz.ntmps82
  go_wp2
  go_ret
  exact ⟨rfl, rfl⟩

set_option maxHeartbeats 2000000 in
set_option maxRecDepth 100000 in
theorem sdigit_ten (x : Int) (w : World) : Calls Tryz.prog 82 #[.int .i64 x, .int .i64 10] w fun e w' => e = .returned (.int .i64 (digitOf x 10)) ∧ w' = w := by
  rw [digitOf_ten]
  have c0 := fun w => l1In_any x 48 57 w
  by_cases h : 48 ≤ x ∧ x ≤ 57
  · rw [inB_yes h.1 h.2] at c0 ⊢
    obtain ⟨h0, h1⟩ := h
    go_enter Tryz.func82, Tryz.ntmps82
    go_wp2_with fail
    go_at_call 42
    refine (c0 _).mono ?_
    rintro e w2 ⟨rfl, rfl⟩
    go_wp2
    go_ret
    exact ⟨ret_int (by first | omega | (simp; done) | (simp; omega)), rfl⟩
  · rw [inB_no (by omega)] at c0 ⊢
    clear h
    go_enter Tryz.func82, Tryz.ntmps82
    go_wp2_with fail
    go_at_call 42
    refine (c0 _).mono ?_
    rintro e w2 ⟨rfl, rfl⟩
    go_wp2
    go_ret
    exact ⟨rfl, rfl⟩

set_option maxHeartbeats 2000000 in
set_option maxRecDepth 100000 in
theorem sdigit_hex (x : Int) (w : World) : Calls Tryz.prog 82 #[.int .i64 x, .int .i64 16] w fun e w' => e = .returned (.int .i64 (digitOf x 16)) ∧ w' = w := by
  rw [digitOf_hex]
  have c0 := fun w => l1In_any x 48 57 w
  have c1 := fun w => l1In_any x 65 70 w
  have c2 := fun w => l1In_any x 97 102 w
  rcases (show (48 ≤ x ∧ x ≤ 57) ∨ (65 ≤ x ∧ x ≤ 70) ∨ (97 ≤ x ∧ x ≤ 102) ∨ ((x < 48 ∨ 57 < x) ∧ (x < 65 ∨ 70 < x) ∧ (x < 97 ∨ 102 < x)) by omega) with h | h | h | h
  · rw [inB_yes h.1 h.2] at c0 ⊢
    obtain ⟨h0, h1⟩ := h
    go_enter Tryz.func82, Tryz.ntmps82
    go_wp2_with fail
    go_at_call 42
    refine (c0 _).mono ?_
    rintro e w2 ⟨rfl, rfl⟩
    go_wp2
    go_ret
    exact ⟨ret_int (by first | omega | (simp; done) | (simp; omega)), rfl⟩
  · rw [inB_no (by omega)] at c0 ⊢
    rw [inB_yes h.1 h.2] at c1 ⊢
    obtain ⟨h0, h1⟩ := h
    go_enter Tryz.func82, Tryz.ntmps82
    go_wp2_with fail
    go_at_call 42
    refine (c0 _).mono ?_
    rintro e w2 ⟨rfl, rfl⟩
    go_wp2_with fail
    go_at_call 42
    refine (c1 _).mono ?_
    rintro e w2 ⟨rfl, rfl⟩
    go_wp2
    go_ret
    exact ⟨ret_int (by first | omega | (simp; done) | (simp; omega)), rfl⟩
  · have n0 := inB_no (x := x) (lo := 48) (hi := 57) (by omega)
    have n1 := inB_no (x := x) (lo := 65) (hi := 70) (by omega)
    rw [n0] at c0 ⊢
    rw [n1] at c1 ⊢
    clear n0 n1
    rw [inB_yes h.1 h.2] at c2 ⊢
    obtain ⟨h0, h1⟩ := h
    go_enter Tryz.func82, Tryz.ntmps82
    go_wp2_with fail
    go_at_call 42
    refine (c0 _).mono ?_
    rintro e w2 ⟨rfl, rfl⟩
    go_wp2_with fail
    go_at_call 42
    refine (c1 _).mono ?_
    rintro e w2 ⟨rfl, rfl⟩
    go_wp2_with fail
    go_at_call 42
    refine (c2 _).mono ?_
    rintro e w2 ⟨rfl, rfl⟩
    go_wp2
    go_ret
    exact ⟨ret_int (by first | omega | (simp; done) | (simp; omega)), rfl⟩
  · obtain ⟨h0, h1, h2⟩ := h
    rw [inB_no h0] at c0 ⊢
    rw [inB_no h1] at c1 ⊢
    rw [inB_no h2] at c2 ⊢
    clear h0 h1 h2
    go_enter Tryz.func82, Tryz.ntmps82
    go_wp2_with fail
    go_at_call 42
    refine (c0 _).mono ?_
    rintro e w2 ⟨rfl, rfl⟩
    go_wp2_with fail
    go_at_call 42
    refine (c1 _).mono ?_
    rintro e w2 ⟨rfl, rfl⟩
    go_wp2_with fail
    go_at_call 42
    refine (c2 _).mono ?_
    rintro e w2 ⟨rfl, rfl⟩
    go_wp2
    go_ret
    exact ⟨rfl, rfl⟩

theorem sdigit_any (x b : Int) (w : World) : Calls Tryz.prog 82 #[.int .i64 x, .int .i64 b] w fun e w' => e = .returned (.int .i64 (digitOf x b)) ∧ w' = w := by
  by_cases h10 : b = 10
  · subst h10; exact sdigit_ten x w
  by_cases h16 : b = 16
  · subst h16; exact sdigit_hex x w
  exact sdigit_none x b w h10 h16
end Go.Proofs.YtggfifchkecnjaaGreatDoor
