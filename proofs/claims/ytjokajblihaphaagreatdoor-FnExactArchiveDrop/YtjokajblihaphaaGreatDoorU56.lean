/- Facts of the program for FnExactArchiveDrop: f_go. No condition. -/
import Derived.Test.YtjokajblihaphaaGreatDoorRows
import Derived.Test.YtjokajblihaphaaGreatDoorCards
import Derived.ProofKit
import Derived.OpenShut
import Derived.ChangeOld
import Derived.SevenTiedAt
import Derived.Stop.Joined
namespace Go.Proofs.YtjokajblihaphaaGreatDoor.fnExactArchiveDrop
set_option linter.unusedVariables false

theorem f_go : false = Rows.fnExactArchiveDropRow.goesBy Tryz.pinned.checked.prog := by kernel_rfl
end Go.Proofs.YtjokajblihaphaaGreatDoor.fnExactArchiveDrop
