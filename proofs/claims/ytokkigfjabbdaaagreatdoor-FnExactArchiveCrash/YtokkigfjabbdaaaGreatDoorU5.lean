/- Contracts of PointsPut, the program's and the specification's, at every list of integers. -/
import Derived.Test.YtokkigfjabbdaaaGreatDoorU0
import Derived.Test.YtokkigfjabbdaaaGreatDoorU4
import Derived.Test.YtokkigfjabbdaaaGreatDoorU1
namespace Go.Proofs.YtokkigfjabbdaaaGreatDoor
open Go.RowKit
set_option maxRecDepth 100000
set_option linter.unusedVariables false

/-- What PointsPut answers. -/
def pointsPut (xs : List Int) : List Int := if xs.length ≤ 3000 then puts xs else []

theorem pointsPut_len (xs : List Int) : (pointsPut xs).length ≤ 12000 := by
  unfold pointsPut; split
  · have := puts_len xs; omega
  · simp
end Go.Proofs.YtokkigfjabbdaaaGreatDoor
