/- Contracts of the specification's functions of chapter 2 on one number. No condition. -/
import Derived.Test.YtaanfeahojfadaaGreatDoorKinds
namespace Go.Proofs.YtaanfeahojfadaaGreatDoor
open Go.RowKit
set_option maxRecDepth 100000
set_option linter.unusedVariables false

theorem sblank_any (x : Int) (w : World) : Calls Tryz.prog 88 #[.int .i64 x] w fun e w' => e = .returned (.bool (isBlank x)) ∧ w' = w := by
  go_enter Tryz.func88, Tryz.ntmps88
  go_wp2
  all_goals
    go_ret
    exact ⟨ret_bool (by unfold isBlank; simp_all), rfl⟩

theorem salpha_any (x : Int) (w : World) : Calls Tryz.prog 53 #[.int .i64 x] w fun e w' => e = .returned (.bool (inB x 65 90 || inB x 97 122)) ∧ w' = w := by
  have c0 := fun w => l1In_any x 65 90 w
  have c1 := fun w => l1In_any x 97 122 w
  obtain ⟨p0, e0⟩ : ∃ p, p = inB x 65 90 := ⟨_, rfl⟩
  obtain ⟨p1, e1⟩ : ∃ p, p = inB x 97 122 := ⟨_, rfl⟩
  rw [← e0] at c0 ⊢
  rw [← e1] at c1 ⊢
  clear e0 e1
  cases p0
  · go_enter Tryz.func53, Tryz.ntmps53
    go_wp2_with fail
    go_at_call 46
    refine (c0 _).mono ?_
    rintro e w1 ⟨rfl, rfl⟩
    go_wp2_with fail
    go_at_call 46
    refine (c1 _).mono ?_
    rintro e w1 ⟨rfl, rfl⟩
    go_wp2
    go_ret
    exact ⟨rfl, rfl⟩
  · go_enter Tryz.func53, Tryz.ntmps53
    go_wp2_with fail
    go_at_call 46
    refine (c0 _).mono ?_
    rintro e w1 ⟨rfl, rfl⟩
    go_wp2
    go_ret
    exact ⟨rfl, rfl⟩

theorem slower_any (x : Int) (w : World) : Calls Tryz.prog 87 #[.int .i64 x] w fun e w' => e = .returned (.int .i64 (lowerOf x)) ∧ w' = w := by
  have c := fun w => l1In_any x 65 90 w
  by_cases h : 65 ≤ x ∧ x ≤ 90
  · have hl : lowerOf x = x + 32 := by unfold lowerOf; rw [inB_yes h.1 h.2]; rfl
    rw [inB_yes h.1 h.2] at c
    rw [hl]
    obtain ⟨h0, h1⟩ := h
    clear hl
    go_enter Tryz.func87, Tryz.ntmps87
    go_wp2_with fail
    go_at_call 46
    refine (c _).mono ?_
    rintro e w1 ⟨rfl, rfl⟩
    go_wp2
    go_ret
    exact ⟨rfl, rfl⟩
  · have hn := inB_no (x := x) (lo := 65) (hi := 90) (by omega)
    have hl : lowerOf x = x := by unfold lowerOf; rw [hn]; rfl
    rw [hn] at c
    rw [hl]
    clear hl h hn
    go_enter Tryz.func87, Tryz.ntmps87
    go_wp2_with fail
    go_at_call 46
    refine (c _).mono ?_
    rintro e w1 ⟨rfl, rfl⟩
    go_wp2
    go_ret
    exact ⟨rfl, rfl⟩
end Go.Proofs.YtaanfeahojfadaaGreatDoor
