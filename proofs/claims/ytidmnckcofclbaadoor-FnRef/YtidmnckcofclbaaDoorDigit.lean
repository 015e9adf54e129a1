/- Contracts of DigitOf, the program's, and of the specification's functions of chapter 2 on one number. No condition. -/
import Derived.Test.YtidmnckcofclbaaDoorKinds
namespace Go.Proofs.YtidmnckcofclbaaDoor
open Go.RowKit
set_option linter.unusedVariables false

theorem digitOf_none {x b : Int} (h : b ≠ 10 ∧ b ≠ 16) : digitOf x b = -1 := by unfold digitOf; rw [if_pos h]
theorem digitOf_ten {x : Int} : digitOf x 10 = if inB x 48 57 then x - 48 else -1 := by unfold digitOf; simp
theorem digitOf_hex {x : Int} : digitOf x 16 = if inB x 48 57 then x - 48 else if inB x 65 70 then x - 55 else if inB x 97 102 then x - 87 else -1 := by unfold digitOf; simp

theorem idigit_none (x b : Int) (w : World) (h10 : b ≠ 10) (h16 : b ≠ 16) : Calls Tryd.prog 44 #[.int .i64 x, .int .i64 b] w fun e w' => e = .returned (.int .i64 (digitOf x b)) ∧ Below w.heap.size w w' := by
  rw [digitOf_none ⟨h10, h16⟩]
  have e10 : (b != 10) = true := by simpa using h10
  have e16 : (b != 16) = true := by simpa using h16
  go_enter Tryd.func44, Tryd.ntmps44
  go_wp2
  go_ret
  exact ⟨rfl, Below.refl _ _⟩

set_option maxHeartbeats 2000000 in
set_option maxRecDepth 100000 in
theorem idigit_ten (x : Int) (w : World) : Calls Tryd.prog 44 #[.int .i64 x, .int .i64 10] w fun e w' => e = .returned (.int .i64 (digitOf x 10)) ∧ Below w.heap.size w w' := by
  rw [digitOf_ten]
  have c0 := fun w => k4_any x w
  by_cases h : 48 ≤ x ∧ x ≤ 57
  · rw [inB_yes h.1 h.2] at c0 ⊢
    obtain ⟨h0, h1⟩ := h
    go_enter Tryd.func44, Tryd.ntmps44
    go_wp2_with fail
    go_at_call 46
    refine (pointKinds_any _).mono ?_
    rintro e w1 ⟨rfl, b1⟩
    go_wp2_with fail
    go_at_call 51
    refine (c0 _).mono ?_
    rintro e w2 ⟨rfl, rfl⟩
    go_wp2
    go_ret
    exact ⟨ret_int (by first | omega | (simp; done) | (simp; omega)), b1.alloc b1.size _⟩
  · rw [inB_no (by omega)] at c0 ⊢
    clear h
    go_enter Tryd.func44, Tryd.ntmps44
    go_wp2_with fail
    go_at_call 46
    refine (pointKinds_any _).mono ?_
    rintro e w1 ⟨rfl, b1⟩
    go_wp2_with fail
    go_at_call 51
    refine (c0 _).mono ?_
    rintro e w2 ⟨rfl, rfl⟩
    go_wp2
    go_ret
    exact ⟨rfl, b1.alloc b1.size _⟩

set_option maxHeartbeats 2000000 in
set_option maxRecDepth 100000 in
theorem idigit_hex (x : Int) (w : World) : Calls Tryd.prog 44 #[.int .i64 x, .int .i64 16] w fun e w' => e = .returned (.int .i64 (digitOf x 16)) ∧ Below w.heap.size w w' := by
  rw [digitOf_hex]
  have c0 := fun w => k4_any x w
  have c1 := fun w => k5_any x w
  have c2 := fun w => k6_any x w
  rcases (show (48 ≤ x ∧ x ≤ 57) ∨ (65 ≤ x ∧ x ≤ 70) ∨ (97 ≤ x ∧ x ≤ 102) ∨ ((x < 48 ∨ 57 < x) ∧ (x < 65 ∨ 70 < x) ∧ (x < 97 ∨ 102 < x)) by omega) with h | h | h | h
  · rw [inB_yes h.1 h.2] at c0 ⊢
    obtain ⟨h0, h1⟩ := h
    go_enter Tryd.func44, Tryd.ntmps44
    go_wp2_with fail
    go_at_call 46
    refine (pointKinds_any _).mono ?_
    rintro e w1 ⟨rfl, b1⟩
    go_wp2_with fail
    go_at_call 51
    refine (c0 _).mono ?_
    rintro e w2 ⟨rfl, rfl⟩
    go_wp2
    go_ret
    exact ⟨ret_int (by first | omega | (simp; done) | (simp; omega)), b1.alloc b1.size _⟩
  · rw [inB_no (by omega)] at c0 ⊢
    rw [inB_yes h.1 h.2] at c1 ⊢
    obtain ⟨h0, h1⟩ := h
    go_enter Tryd.func44, Tryd.ntmps44
    go_wp2_with fail
    go_at_call 46
    refine (pointKinds_any _).mono ?_
    rintro e w1 ⟨rfl, b1⟩
    go_wp2_with fail
    go_at_call 51
    refine (c0 _).mono ?_
    rintro e w2 ⟨rfl, rfl⟩
    go_wp2_with fail
    go_at_call 52
    refine (c1 _).mono ?_
    rintro e w2 ⟨rfl, rfl⟩
    go_wp2
    go_ret
    exact ⟨ret_int (by first | omega | (simp; done) | (simp; omega)), b1.alloc b1.size _⟩
  · have n0 := inB_no (x := x) (lo := 48) (hi := 57) (by omega)
    have n1 := inB_no (x := x) (lo := 65) (hi := 70) (by omega)
    rw [n0] at c0 ⊢
    rw [n1] at c1 ⊢
    clear n0 n1
    rw [inB_yes h.1 h.2] at c2 ⊢
    obtain ⟨h0, h1⟩ := h
    go_enter Tryd.func44, Tryd.ntmps44
    go_wp2_with fail
    go_at_call 46
    refine (pointKinds_any _).mono ?_
    rintro e w1 ⟨rfl, b1⟩
    go_wp2_with fail
    go_at_call 51
    refine (c0 _).mono ?_
    rintro e w2 ⟨rfl, rfl⟩
    go_wp2_with fail
    go_at_call 52
    refine (c1 _).mono ?_
    rintro e w2 ⟨rfl, rfl⟩
    go_wp2_with fail
    go_at_call 53
    refine (c2 _).mono ?_
    rintro e w2 ⟨rfl, rfl⟩
    go_wp2
    go_ret
    exact ⟨ret_int (by first | omega | (simp; done) | (simp; omega)), b1.alloc b1.size _⟩
  · obtain ⟨h0, h1, h2⟩ := h
    rw [inB_no h0] at c0 ⊢
    rw [inB_no h1] at c1 ⊢
    rw [inB_no h2] at c2 ⊢
    clear h0 h1 h2
    go_enter Tryd.func44, Tryd.ntmps44
    go_wp2_with fail
    go_at_call 46
    refine (pointKinds_any _).mono ?_
    rintro e w1 ⟨rfl, b1⟩
    go_wp2_with fail
    go_at_call 51
    refine (c0 _).mono ?_
    rintro e w2 ⟨rfl, rfl⟩
    go_wp2_with fail
    go_at_call 52
    refine (c1 _).mono ?_
    rintro e w2 ⟨rfl, rfl⟩
    go_wp2_with fail
    go_at_call 53
    refine (c2 _).mono ?_
    rintro e w2 ⟨rfl, rfl⟩
    go_wp2
    go_ret
    exact ⟨rfl, b1.alloc b1.size _⟩

theorem idigit_any (x b : Int) (w : World) : Calls Tryd.prog 44 #[.int .i64 x, .int .i64 b] w fun e w' => e = .returned (.int .i64 (digitOf x b)) ∧ Below w.heap.size w w' := by
  by_cases h10 : b = 10
  · subst h10; exact idigit_ten x w
  by_cases h16 : b = 16
  · subst h16; exact idigit_hex x w
  exact idigit_none x b w h10 h16
end Go.Proofs.YtidmnckcofclbaaDoor
