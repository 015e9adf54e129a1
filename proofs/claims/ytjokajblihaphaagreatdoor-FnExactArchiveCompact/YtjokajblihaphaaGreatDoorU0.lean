/- Facts of the program for FnExactArchiveCompact: f_in. No condition. -/
import Derived.Test.YtjokajblihaphaaGreatDoorRows
import Derived.Test.YtjokajblihaphaaGreatDoorCards
import Derived.ProofKit
import Derived.OpenShut
import Derived.ChangeOld
import Derived.SevenTiedAt
import Derived.Stop.Joined
namespace Go.Proofs.YtjokajblihaphaaGreatDoor.fnExactArchiveCompact
set_option linter.unusedVariables false

theorem f_in : (Rows.fnExactArchiveCompactRow.inPlace == Tryz.pinned.checked.prog.inPlace 4) = true := by kernel_rfl
end Go.Proofs.YtjokajblihaphaaGreatDoor.fnExactArchiveCompact

/- Facts of the program for FnExactArchiveCompact: f_un. No condition. -/
namespace Go.Proofs.YtjokajblihaphaaGreatDoor.fnExactArchiveCompact
set_option linter.unusedVariables false

theorem f_un : (Rows.fnExactArchiveCompactRow.unfollowed == Tryz.pinned.checked.prog.unfollowed 4) = true := by kernel_rfl
end Go.Proofs.YtjokajblihaphaaGreatDoor.fnExactArchiveCompact

/- Facts of the program for FnExactArchiveCompact: f_re. No condition. -/
namespace Go.Proofs.YtjokajblihaphaaGreatDoor.fnExactArchiveCompact
set_option linter.unusedVariables false

theorem f_re : (Rows.fnExactArchiveCompactRow.recurses == Tryz.pinned.checked.prog.recurses 4) = true := by kernel_rfl
end Go.Proofs.YtjokajblihaphaaGreatDoor.fnExactArchiveCompact

/- Facts of the program for FnExactArchiveCompact: f_va. No condition. -/
namespace Go.Proofs.YtjokajblihaphaaGreatDoor.fnExactArchiveCompact
set_option linter.unusedVariables false

theorem f_va : (Rows.fnExactArchiveCompactRow.named == Tryz.pinned.checked.prog.varsNamed 4) = true := by kernel_rfl
end Go.Proofs.YtjokajblihaphaaGreatDoor.fnExactArchiveCompact

/- Facts of the program for FnExactArchiveCompact: f_lo. No condition. -/
namespace Go.Proofs.YtjokajblihaphaaGreatDoor.fnExactArchiveCompact
set_option linter.unusedVariables false

theorem f_lo : true = Tryz.pinned.checked.prog.looks [] := by kernel_rfl
end Go.Proofs.YtjokajblihaphaaGreatDoor.fnExactArchiveCompact
