/- Facts of the program for FnExactArchiveCompact: f_go. No condition. -/
import Derived.Test.YtjokajblihaphaaGreatDoorRows
import Derived.Test.YtjokajblihaphaaGreatDoorCards
import Derived.ProofKit
import Derived.OpenShut
import Derived.ChangeOld
import Derived.SevenTiedAt
import Derived.Stop.Joined
import Derived.Test.YtjokajblihaphaaGreatDoorU0
namespace Go.Proofs.YtjokajblihaphaaGreatDoor.fnExactArchiveCompact
set_option linter.unusedVariables false

theorem f_go : false = Rows.fnExactArchiveCompactRow.goesBy Tryz.pinned.checked.prog := by kernel_rfl
end Go.Proofs.YtjokajblihaphaaGreatDoor.fnExactArchiveCompact

/- Facts of the program for FnExactArchiveCompact: all of them. No condition. -/
namespace Go.Proofs.YtjokajblihaphaaGreatDoor.fnExactArchiveCompact
set_option linter.unusedVariables false

theorem closed : joinedFacts Tryz.pinned.checked.prog 4 Tryz.f4 Rows.fnExactArchiveCompactSpec Rows.fnExactArchiveCompactRow = true := by
  unfold joinedFacts
  rw [f_in, f_un, f_re, f_va]
  kernel_rfl
end Go.Proofs.YtjokajblihaphaaGreatDoor.fnExactArchiveCompact
