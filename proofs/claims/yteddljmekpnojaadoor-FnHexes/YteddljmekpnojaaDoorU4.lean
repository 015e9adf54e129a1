/- Contracts of PointOk and PointPut, the program's and the specification's, at every number. -/
import Derived.Test.YteddljmekpnojaaDoorRows
import Derived.Test.YteddljmekpnojaaDoorU0
import Derived.Test.YteddljmekpnojaaDoorU2
import Derived.Test.YteddljmekpnojaaDoorU1
namespace Go.Proofs.YteddljmekpnojaaDoor
open Go.RowKit
set_option maxRecDepth 100000
set_option linter.unusedVariables false

end Go.Proofs.YteddljmekpnojaaDoor

/- Contracts of PointsPut, the program's and the specification's, at every list of integers. -/
namespace Go.Proofs.YteddljmekpnojaaDoor
open Go.RowKit
set_option maxRecDepth 100000
set_option linter.unusedVariables false

/-- What PointsPut answers. -/
def pointsPut (xs : List Int) : List Int := if xs.length ≤ 3000 then puts xs else []

theorem pointsPut_len (xs : List Int) : (pointsPut xs).length ≤ 12000 := by
  unfold pointsPut; split
  · have := puts_len xs; omega
  · simp
end Go.Proofs.YteddljmekpnojaaDoor
