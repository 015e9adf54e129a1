/- The law FnRef, walked, where the program's table lies as its text lays it. -/
import Derived.Test.YtidmnckcofclbaaDoorWExRefRead
import Derived.Test.YtidmnckcofclbaaDoorWRef
namespace Go.Proofs.YtidmnckcofclbaaDoor
open Go.RowKit
set_option linter.unusedVariables false

theorem fnRef_walk {v : Value} {xs : List Int} (w : World) (ho : Older w) (h : Sl .u8 w v xs) (hwf : ∀ n ∈ xs, (Lit.int .u8 n).wf = true) :
    Calls Tryd.prog 3 #[v] w fun e w' => e = .returned (.bool true) ∧ Below w.heap.size w w' :=
  fnRef_of w (refReadOk_of ho) h hwf
end Go.Proofs.YtidmnckcofclbaaDoor
