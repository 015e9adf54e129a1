/- The exact laws of IsBlank, IsAlpha and LowerOf, walked: at every number each returns true and writes nothing that was there. -/
import Derived.Test.YtkopehfdijecoaaSKinds
namespace Go.Proofs.Ytkopehfdijecoaa
open Go.RowKit
set_option linter.unusedVariables false

theorem fnExactIsBlank_walk {x : Int} (w : World) (hx : (Lit.int .i64 x).wf = true) :
    Calls Try.prog 4 #[.int .i64 x] w fun e w' => e = .returned (.bool true) ∧ Below w.heap.size w w' := by
  obtain ⟨b, hb⟩ : ∃ b, b = isBlank x := ⟨_, rfl⟩
  have hs := fun w => sblank_any x w
  have hi := fun w => iblank_any x w
  rw [← hb] at hs hi
  clear hb
  cases b
  all_goals
    go_enter Try.func4, Try.ntmps4
    go_wp2_with fail
    go_at_call 20
    refine (hs _).mono ?_
    rintro e w1 ⟨rfl, rfl⟩
    go_wp2_with fail
    go_at_call 16
    refine (hi _).mono ?_
    rintro e w2 ⟨rfl, b2⟩
    go_wp2
    go_ret
    exact ⟨rfl, b2⟩

theorem fnExactIsAlpha_walk {x : Int} (w : World) (hx : (Lit.int .i64 x).wf = true) :
    Calls Try.prog 5 #[.int .i64 x] w fun e w' => e = .returned (.bool true) ∧ Below w.heap.size w w' := by
  obtain ⟨b, hb⟩ : ∃ b, b = (inB x 65 90 || inB x 97 122) := ⟨_, rfl⟩
  have hs := fun w => salpha_any x w
  have hi := fun w => ialpha_any x w
  rw [← hb] at hs hi
  clear hb
  cases b
  all_goals
    go_enter Try.func5, Try.ntmps5
    go_wp2_with fail
    go_at_call 21
    refine (hs _).mono ?_
    rintro e w1 ⟨rfl, rfl⟩
    go_wp2_with fail
    go_at_call 15
    refine (hi _).mono ?_
    rintro e w2 ⟨rfl, b2⟩
    go_wp2
    go_ret
    exact ⟨rfl, b2⟩

theorem fnExactLowerOf_walk {x : Int} (w : World) (hx : (Lit.int .i64 x).wf = true) :
    Calls Try.prog 6 #[.int .i64 x] w fun e w' => e = .returned (.bool true) ∧ Below w.heap.size w w' := by
  obtain ⟨b, hb⟩ : ∃ b, b = lowerOf x := ⟨_, rfl⟩
  have hs := fun w => slower_any x w
  have hi := fun w => ilower_any x w
  rw [← hb] at hs hi
  clear hb
  go_enter Try.func6, Try.ntmps6
  go_wp2_with fail
  go_at_call 22
  refine (hs _).mono ?_
  rintro e w1 ⟨rfl, rfl⟩
  go_wp2_with fail
  go_at_call 14
  refine (hi _).mono ?_
  rintro e w2 ⟨rfl, b2⟩
  go_wp2
  go_ret
  exact ⟨rfl, b2⟩
end Go.Proofs.Ytkopehfdijecoaa
