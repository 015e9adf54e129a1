/- The law FnExactPointOk, walked: at every number it returns true and writes nothing that was there. -/
import Derived.Test.YtphaogkgnpalgaaPut
namespace Go.Proofs.Ytphaogkgnpalgaa
open Go.RowKit
set_option linter.unusedVariables false

theorem fnExactPointOk_walk {x : Int} (w : World) (hx : (Lit.int .i64 x).wf = true) :
    Calls Try.prog 6 #[.int .i64 x] w fun e w' => e = .returned (.bool true) ∧ Below w.heap.size w w' := by
  obtain ⟨b, hb⟩ : ∃ b, b = pointOk x := ⟨_, rfl⟩
  have hs := sok_any x w
  have hi := iok_any x w
  rw [← hb] at hs hi
  clear hb
  cases b
  all_goals
    go_enter Try.func6, Try.ntmps6
    go_wp2_with fail
    go_at_call 25
    refine hs.mono ?_
    rintro e w1 ⟨rfl, rfl⟩
    go_wp2_with fail
    go_at_call 17
    refine hi.mono ?_
    rintro e w2 ⟨rfl, rfl⟩
    go_wp2
    go_ret
    exact ⟨rfl, Below.refl _ _⟩
end Go.Proofs.Ytphaogkgnpalgaa
