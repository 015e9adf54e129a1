/- The contract of the specification's TokenOk. -/
import Derived.Test.YtaanfeahojfadaaGreatDoorTok
namespace Go.Proofs.YtaanfeahojfadaaGreatDoor
open Go.RowKit
set_option maxRecDepth 100000
set_option linter.unusedVariables false

end Go.Proofs.YtaanfeahojfadaaGreatDoor
