/- Facts of the program for FnExactArchiveDrop: f_in. No condition. -/
import Derived.Test.YtjokajblihaphaaGreatDoorRows
import Derived.Test.YtjokajblihaphaaGreatDoorCards
import Derived.ProofKit
import Derived.OpenShut
import Derived.ChangeOld
import Derived.SevenTiedAt
import Derived.Stop.Joined
namespace Go.Proofs.YtjokajblihaphaaGreatDoor.fnExactArchiveDrop
set_option linter.unusedVariables false

theorem f_in : (Rows.fnExactArchiveDropRow.inPlace == Tryz.pinned.checked.prog.inPlace 3) = true := by kernel_rfl
end Go.Proofs.YtjokajblihaphaaGreatDoor.fnExactArchiveDrop

/- Facts of the program for FnExactArchiveDrop: f_un. No condition. -/
namespace Go.Proofs.YtjokajblihaphaaGreatDoor.fnExactArchiveDrop
set_option linter.unusedVariables false

theorem f_un : (Rows.fnExactArchiveDropRow.unfollowed == Tryz.pinned.checked.prog.unfollowed 3) = true := by kernel_rfl
end Go.Proofs.YtjokajblihaphaaGreatDoor.fnExactArchiveDrop

/- Facts of the program for FnExactArchiveDrop: f_re. No condition. -/
namespace Go.Proofs.YtjokajblihaphaaGreatDoor.fnExactArchiveDrop
set_option linter.unusedVariables false

theorem f_re : (Rows.fnExactArchiveDropRow.recurses == Tryz.pinned.checked.prog.recurses 3) = true := by kernel_rfl
end Go.Proofs.YtjokajblihaphaaGreatDoor.fnExactArchiveDrop

/- Facts of the program for FnExactArchiveDrop: f_va. No condition. -/
namespace Go.Proofs.YtjokajblihaphaaGreatDoor.fnExactArchiveDrop
set_option linter.unusedVariables false

theorem f_va : (Rows.fnExactArchiveDropRow.named == Tryz.pinned.checked.prog.varsNamed 3) = true := by kernel_rfl
end Go.Proofs.YtjokajblihaphaaGreatDoor.fnExactArchiveDrop

/- Facts of the program for FnExactArchiveDrop: f_lo. No condition. -/
namespace Go.Proofs.YtjokajblihaphaaGreatDoor.fnExactArchiveDrop
set_option linter.unusedVariables false

theorem f_lo : true = Tryz.pinned.checked.prog.looks [] := by kernel_rfl
end Go.Proofs.YtjokajblihaphaaGreatDoor.fnExactArchiveDrop
