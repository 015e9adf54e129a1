/- The contract of the program's RefNumber, where its table lies as the program's text lays it. -/
import Derived.Test.YtggfifchkecnjaaGreatDoorY11
import Derived.Test.YtggfifchkecnjaaGreatDoorY16
namespace Go.Proofs.YtggfifchkecnjaaGreatDoor
open Go.RowKit
set_option maxRecDepth 100000
set_option linter.unusedVariables false

theorem refNumber_any (x : Int) (w : World) (ho : Older w) : Calls Tryz.prog 141 #[.int .i64 x] w fun e w' => e = .returned (.int .i64 (refNumber x)) ∧ w' = w := by
  have c1 := fun w => iok_any x w
  by_cases h0 : x = 0
  · subst h0
    clear ho
    go_enter Tryz.func141, Tryz.ntmps141
    go_wp2
    go_ret
    exact ⟨rfl, rfl⟩
  have e0 : (x == 0) = false := by simpa using h0
  rcases hp : pointOk x with _ | _
  · have hr : refNumber x = 65533 := by unfold refNumber; rw [if_pos (.inr hp)]
    rw [hp] at c1
    rw [hr]
    clear hp hr ho
    go_enter Tryz.func141, Tryz.ntmps141
    go_wp2_with fail
    go_at_call 40
    refine (c1 _).mono ?_
    rintro e w1 ⟨rfl, rfl⟩
    go_wp2
    go_ret
    exact ⟨rfl, rfl⟩
  · rw [hp] at c1
    by_cases h1 : 128 ≤ x ∧ x ≤ 159
    · have hr : refNumber x = oldPoints.getD (x - 128).toNat 0 := by unfold refNumber; rw [if_neg (by simp [h0, hp]), inB_yes h1.1 h1.2]; rfl
      rw [hr]
      obtain ⟨k, rfl⟩ : ∃ k : Nat, x = 128 + k := ⟨(x - 128).toNat, by omega⟩
      have ek : ((128 : Int) + k - 128).toNat = k := by omega
      rw [ek]
      have hk : k < 32 := by omega
      have hc := ho.cell k hk
      obtain ⟨y, hy⟩ : ∃ y, y = oldPoints.getD k 0 := ⟨_, rfl⟩
      rw [← hy] at hc ⊢
      clear hy hp hr h1 ho
      go_enter Tryz.func141, Tryz.ntmps141
      go_wp2_with fail
      go_at_call 40
      refine (c1 _).mono ?_
      rintro e w1 ⟨rfl, rfl⟩
      go_wp2
      go_ret
      exact ⟨rfl, rfl⟩
    · have hr : refNumber x = x := by unfold refNumber; rw [if_neg (by simp [h0, hp]), inB_no (by omega)]; rfl
      rw [hr]
      clear hp hr ho
      go_enter Tryz.func141, Tryz.ntmps141
      go_wp2_with fail
      go_at_call 40
      refine (c1 _).mono ?_
      rintro e w1 ⟨rfl, rfl⟩
      go_wp2
      all_goals
        go_ret
        exact ⟨rfl, rfl⟩
end Go.Proofs.YtggfifchkecnjaaGreatDoor
