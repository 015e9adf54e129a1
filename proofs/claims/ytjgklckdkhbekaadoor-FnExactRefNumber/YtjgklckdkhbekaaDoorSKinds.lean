/- Contracts of the specification's functions of chapter 2 on one number. No condition. -/
import Derived.Test.YtjgklckdkhbekaaDoorKinds
namespace Go.Proofs.YtjgklckdkhbekaaDoor
open Go.RowKit
set_option linter.unusedVariables false

end Go.Proofs.YtjgklckdkhbekaaDoor
