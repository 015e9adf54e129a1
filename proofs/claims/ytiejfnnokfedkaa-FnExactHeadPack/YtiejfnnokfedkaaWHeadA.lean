/- The exact law of HeadPack: the program keeps its contract. -/
import Derived.Test.YtiejfnnokfedkaaHelpH
import Derived.Test.YtiejfnnokfedkaaIHead2
import Derived.Test.YtiejfnnokfedkaaOpenH
namespace Go.Proofs.Ytiejfnnokfedkaa
open Go.RowKit
set_option maxRecDepth 100000
set_option linter.unusedVariables false

theorem fnExactHeadPack_walk {h : PHead} (w : World) (x1 : (Lit.int .i64 h.no).wf = true) (x2 : (Lit.int .i64 h.area).wf = true) (x3 : (Lit.int .i64 h.en).wf = true) :
    Calls Try.prog 3 #[headV h] w fun e w' => e = .returned (.bool true) ∧ Below w.heap.size w w' :=
  fnExactHeadPack_of (fun h w x1 x2 x3 => iheadPack_any h w x1 x2 x3) h w x1 x2 x3
end Go.Proofs.Ytiejfnnokfedkaa
