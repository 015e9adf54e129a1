/- Contracts of PointOk and PointPut, the program's and the specification's, at every number. -/
import Derived.Test.YtgcpdmnikoebkaaRows
import Derived.Test.YtgcpdmnikoebkaaBase
import Derived.Test.YtgcpdmnikoebkaaUtf
namespace Go.Proofs.Ytgcpdmnikoebkaa
open Go.RowKit
set_option maxRecDepth 100000
set_option linter.unusedVariables false

end Go.Proofs.Ytgcpdmnikoebkaa
