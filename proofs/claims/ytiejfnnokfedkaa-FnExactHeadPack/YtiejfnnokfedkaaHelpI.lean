/- Contracts of the small functions of the laws' package (copies, comparisons, marks of slices of integers), for every slice of up to 2^40 of them. -/
import Derived.Test.YtiejfnnokfedkaaRows
import Derived.Test.YtiejfnnokfedkaaHelp
namespace Go.Proofs.Ytiejfnnokfedkaa
open Go.RowKit
set_option maxRecDepth 100000
set_option linter.unusedVariables false

theorem Try.infoI : (Try.prog.info? 3).map (fun i => (i.zero, i.size, i.bytes)) = some (some (.int .i64 0), 1, 8) := by kernel_rfl

end Go.Proofs.Ytiejfnnokfedkaa
