/- The exact law of RefNumber, walked, where the program's table lies as its text lays it: at every number it returns true and writes nothing that was there. -/
import Derived.Test.YtidmnckcofclbaaDoorINum
namespace Go.Proofs.YtidmnckcofclbaaDoor
open Go.RowKit
set_option linter.unusedVariables false

theorem fnExactRefNumber_walk {x : Int} (w : World) (ho : Older w) (hx : (Lit.int .i64 x).wf = true) :
    Calls Tryd.prog 4 #[.int .i64 x] w fun e w' => e = .returned (.bool true) ∧ Below w.heap.size w w' := by
  obtain ⟨y, hy⟩ : ∃ y, y = refNumber x := ⟨_, rfl⟩
  have hs := fun w => srefNumber_any x w
  have hi := fun w ho => refNumber_any x w ho
  rw [← hy] at hs hi
  clear hy
  have HI := (show Hid _ from hi)
  clear hi
  have HO : Hid (Older w) := ho
  clear ho
  go_enter Tryd.func4, Tryd.ntmps4
  go_wp2_with fail
  go_at_call 12
  refine (hs _).mono ?_
  rintro e w1 ⟨rfl, b1⟩
  go_wp2_with fail
  go_at_call 13
  refine (HI.out _ (HO.out.below b1)).mono ?_
  rintro e w2 ⟨rfl, rfl⟩
  go_wp2
  go_ret
  exact ⟨rfl, b1⟩
end Go.Proofs.YtidmnckcofclbaaDoor
