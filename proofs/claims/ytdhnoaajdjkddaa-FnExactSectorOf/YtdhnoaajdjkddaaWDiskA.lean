/- The exact laws of DiskOk and SectorOf: the program keeps its contracts. -/
import Derived.Test.YtdhnoaajdjkddaaWDisk
import Derived.Test.YtdhnoaajdjkddaaID2
import Derived.Test.YtdhnoaajdjkddaaOpenD
namespace Go.Proofs.Ytdhnoaajdjkddaa
open Go.RowKit
set_option maxRecDepth 100000
set_option linter.unusedVariables false

theorem fnExactDiskOk_walk {v : Value} {d : PDisk} (w0 : World) (h : DiskAt w0 v d) (hs : ∀ s ∈ d.safe, s.size ≤ maxLen) (hp : ∀ p ∈ d.late, p.2.size ≤ maxLen) :
    Calls Try.prog 5 #[v] w0 fun e w' => e = .returned (.bool true) ∧ Below w0.heap.size w0 w' :=
  fnExactDiskOk_of (fun w v d h hf => idiskOk_any h hf) w0 h hs hp
theorem fnExactSectorOf_walk {v : Value} {d : PDisk} {x : Int} (w0 : World) (h : DiskAt w0 v d) (hs : ∀ s ∈ d.safe, s.size ≤ maxLen) (hp : ∀ p ∈ d.late, p.2.size ≤ maxLen) (hx : (Lit.int .i64 x).wf = true) :
    Calls Try.prog 7 #[v, .int .i64 x] w0 fun e w' => e = .returned (.bool true) ∧ Below w0.heap.size w0 w' :=
  fnExactSectorOf_of (fun w v d x h hf => isectorOf_any h hf x) w0 h hs hp
end Go.Proofs.Ytdhnoaajdjkddaa
