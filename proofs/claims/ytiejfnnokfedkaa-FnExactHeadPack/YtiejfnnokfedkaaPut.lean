/- Contracts of PointOk and PointPut, the program's and the specification's, at every number. -/
import Derived.Test.YtiejfnnokfedkaaRows
import Derived.Test.YtiejfnnokfedkaaBase
import Derived.Test.YtiejfnnokfedkaaUtf
namespace Go.Proofs.Ytiejfnnokfedkaa
open Go.RowKit
set_option maxRecDepth 100000
set_option linter.unusedVariables false

end Go.Proofs.Ytiejfnnokfedkaa
