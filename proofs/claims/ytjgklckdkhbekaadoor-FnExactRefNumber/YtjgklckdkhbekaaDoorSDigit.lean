/- Contracts of the specification's DigitOf. No condition. -/
import Derived.Test.YtjgklckdkhbekaaDoorDigit
namespace Go.Proofs.YtjgklckdkhbekaaDoor
open Go.RowKit
set_option linter.unusedVariables false

end Go.Proofs.YtjgklckdkhbekaaDoor
