/- Facts of the program for FnExactArchiveDrop: f_go. No condition. -/
import Derived.Test.YtjokajblihaphaaGreatDoorRows
import Derived.Test.YtjokajblihaphaaGreatDoorCards
import Derived.ProofKit
import Derived.OpenShut
import Derived.ChangeOld
import Derived.SevenTiedAt
import Derived.Stop.Joined
import Derived.Test.YtjokajblihaphaaGreatDoorU55
namespace Go.Proofs.YtjokajblihaphaaGreatDoor.fnExactArchiveDrop
set_option linter.unusedVariables false

theorem f_go : false = Rows.fnExactArchiveDropRow.goesBy Tryz.pinned.checked.prog := by kernel_rfl
end Go.Proofs.YtjokajblihaphaaGreatDoor.fnExactArchiveDrop

/- Facts of the program for FnExactArchiveDrop: all of them. No condition. -/
namespace Go.Proofs.YtjokajblihaphaaGreatDoor.fnExactArchiveDrop
set_option linter.unusedVariables false

theorem closed : joinedFacts Tryz.pinned.checked.prog 3 Tryz.f3 Rows.fnExactArchiveDropSpec Rows.fnExactArchiveDropRow = true := by
  unfold joinedFacts
  rw [f_in, f_un, f_re, f_va]
  kernel_rfl
end Go.Proofs.YtjokajblihaphaaGreatDoor.fnExactArchiveDrop
