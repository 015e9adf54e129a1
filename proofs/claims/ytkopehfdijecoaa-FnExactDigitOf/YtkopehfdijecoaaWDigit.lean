/- The exact law of DigitOf, walked: at every two numbers it returns true and writes nothing that was there. -/
import Derived.Test.YtkopehfdijecoaaSDigit
namespace Go.Proofs.Ytkopehfdijecoaa
open Go.RowKit
set_option linter.unusedVariables false

theorem fnExactDigitOf_walk {x y : Int} (w : World) (hx : (Lit.int .i64 x).wf = true) (hy : (Lit.int .i64 y).wf = true) :
    Calls Try.prog 7 #[.int .i64 x, .int .i64 y] w fun e w' => e = .returned (.bool true) ∧ Below w.heap.size w w' := by
  obtain ⟨b, hb⟩ : ∃ b, b = digitOf x y := ⟨_, rfl⟩
  have hs := fun w => sdigit_any x y w
  have hi := fun w => idigit_any x y w
  rw [← hb] at hs hi
  clear hb
  go_enter Try.func7, Try.ntmps7
  go_wp2_with fail
  go_at_call 23
  refine (hs _).mono ?_
  rintro e w1 ⟨rfl, rfl⟩
  go_wp2_with fail
  go_at_call 24
  refine (hi _).mono ?_
  rintro e w2 ⟨rfl, b2⟩
  go_wp2
  go_ret
  exact ⟨rfl, b2⟩
end Go.Proofs.Ytkopehfdijecoaa
