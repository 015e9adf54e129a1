/- Contracts of PointOk and PointPut, the program's and the specification's, at every number. -/
import Derived.Test.YtdhnoaajdjkddaaRows
import Derived.Test.YtdhnoaajdjkddaaBase
import Derived.Test.YtdhnoaajdjkddaaUtf
namespace Go.Proofs.Ytdhnoaajdjkddaa
open Go.RowKit
set_option maxRecDepth 100000
set_option linter.unusedVariables false

end Go.Proofs.Ytdhnoaajdjkddaa
