/- Contracts of PointOk and PointPut, the program's and the specification's, at every number. -/
import Derived.Test.YtjdejlnfcpbheaaRows
import Derived.Test.YtjdejlnfcpbheaaBase
import Derived.Test.YtjdejlnfcpbheaaUtf
namespace Go.Proofs.Ytjdejlnfcpbheaa
open Go.RowKit
set_option maxRecDepth 100000
set_option linter.unusedVariables false

end Go.Proofs.Ytjdejlnfcpbheaa
