/-
  DERIVED. GIVEN WITH THE SEED: THE CARDS: each row of YtokkigfjabbdaaaGreatDoorRows.lean that lists a variable, with what it lists TIED to the program's text (the seventh form; the later family's looks); each row that meets fmt, with fmt's text TOLD by the authors' own Lean function (tested against real Go, not proved from fmt's source: count such statements apart). THE CARD IS WHAT COUNTS. Prove the row's statement (the work); the ties are given (YtokkigfjabbdaaaGreatDoorTie.lean); close each card by the builder's one call (the guide's Derived/Test/ToyasCard.lean, 'card_holds'). Laid BY PROGRAM, IN A SANDBOX (cutbox-door.mjs). By AI agents, Wed Nov 11 2026. No macro, syntax, notation, axiom, sorry.
-/
import Derived.Test.YtokkigfjabbdaaaGreatDoorRows
import GoSem.ClaimSeven
namespace Go.Proofs.YtokkigfjabbdaaaGreatDoor
namespace Rows

/-- THE TIED CARD OF 'laws.FnExactArchiveOk'. -/
def fnExactArchiveOkCard : Claim7 := { stood := { row := fnExactArchiveOkRow, standIns := [], harness := (true, "709db0f495a209fa676836d9f2a26b0df758aa2c8c3e737e6b9fc306c9cc83e0"), looks := true }, kinds := [], alts := [], laidByText := true, laidKinds := [.sentinel], laidTests := true, laidLooks := .later }
def FnExactArchiveOkCardSaid : Prop := Claim7.holds Tryz.pinned (.plain (OpenSpec.ofChange fnExactArchiveOkSpec)) fnExactArchiveOkCard

/-- THE TIED CARD OF 'laws.FnExactArchiveUrls'. -/
def fnExactArchiveUrlsCard : Claim7 := { stood := { row := fnExactArchiveUrlsRow, standIns := [], harness := (true, "709db0f495a209fa676836d9f2a26b0df758aa2c8c3e737e6b9fc306c9cc83e0"), looks := true }, kinds := [], alts := [], laidByText := true, laidKinds := [.sentinel], laidTests := true, laidLooks := .later }
def FnExactArchiveUrlsCardSaid : Prop := Claim7.holds Tryz.pinned (.plain (OpenSpec.ofChange fnExactArchiveUrlsSpec)) fnExactArchiveUrlsCard

/-- THE TIED CARD OF 'laws.FnExactArchiveCrash'. -/
def fnExactArchiveCrashCard : Claim7 := { stood := { row := fnExactArchiveCrashRow, standIns := [], harness := (true, "709db0f495a209fa676836d9f2a26b0df758aa2c8c3e737e6b9fc306c9cc83e0"), looks := true }, kinds := [], alts := [], laidByText := true, laidKinds := [.sentinel], laidTests := true, laidLooks := .later }
def FnExactArchiveCrashCardSaid : Prop := Claim7.holds Tryz.pinned (.plain (OpenSpec.ofChange fnExactArchiveCrashSpec)) fnExactArchiveCrashCard

/-- THE TIED CARD OF 'laws.FnExactArchiveOpen'. -/
def fnExactArchiveOpenCard : Claim7 := { stood := { row := fnExactArchiveOpenRow, standIns := [], harness := (true, "709db0f495a209fa676836d9f2a26b0df758aa2c8c3e737e6b9fc306c9cc83e0"), looks := true }, kinds := [], alts := [], laidByText := true, laidKinds := [.sentinel], laidTests := true, laidLooks := .later }
def FnExactArchiveOpenCardSaid : Prop := Claim7.holds Tryz.pinned (.plain (OpenSpec.ofChange fnExactArchiveOpenSpec)) fnExactArchiveOpenCard

/-- THE SECOND FORM's CARD OF 'laws.FnExactArchiveOk'. -/
def fnExactArchiveOkUptoCard : Claim7 := { stood := { row := fnExactArchiveOkUptoRow, standIns := [], harness := (true, "709db0f495a209fa676836d9f2a26b0df758aa2c8c3e737e6b9fc306c9cc83e0"), looks := true }, kinds := [], alts := [], laidByText := true, laidKinds := [.sentinel], laidTests := true, laidLooks := .later }
def FnExactArchiveOkUptoCardSaid : Prop := Claim7.holds Tryz.pinned (.plain (OpenSpec.upto fnExactArchiveOkSpec)) fnExactArchiveOkUptoCard

/-- THE SECOND FORM's CARD OF 'laws.FnExactArchiveUrls'. -/
def fnExactArchiveUrlsUptoCard : Claim7 := { stood := { row := fnExactArchiveUrlsUptoRow, standIns := [], harness := (true, "709db0f495a209fa676836d9f2a26b0df758aa2c8c3e737e6b9fc306c9cc83e0"), looks := true }, kinds := [], alts := [], laidByText := true, laidKinds := [.sentinel], laidTests := true, laidLooks := .later }
def FnExactArchiveUrlsUptoCardSaid : Prop := Claim7.holds Tryz.pinned (.plain (OpenSpec.upto fnExactArchiveUrlsSpec)) fnExactArchiveUrlsUptoCard

/-- THE SECOND FORM's CARD OF 'laws.FnExactArchiveCrash'. -/
def fnExactArchiveCrashUptoCard : Claim7 := { stood := { row := fnExactArchiveCrashUptoRow, standIns := [], harness := (true, "709db0f495a209fa676836d9f2a26b0df758aa2c8c3e737e6b9fc306c9cc83e0"), looks := true }, kinds := [], alts := [], laidByText := true, laidKinds := [.sentinel], laidTests := true, laidLooks := .later }
def FnExactArchiveCrashUptoCardSaid : Prop := Claim7.holds Tryz.pinned (.plain (OpenSpec.upto fnExactArchiveCrashSpec)) fnExactArchiveCrashUptoCard

/-- THE SECOND FORM's CARD OF 'laws.FnExactArchiveOpen'. -/
def fnExactArchiveOpenUptoCard : Claim7 := { stood := { row := fnExactArchiveOpenUptoRow, standIns := [], harness := (true, "709db0f495a209fa676836d9f2a26b0df758aa2c8c3e737e6b9fc306c9cc83e0"), looks := true }, kinds := [], alts := [], laidByText := true, laidKinds := [.sentinel], laidTests := true, laidLooks := .later }
def FnExactArchiveOpenUptoCardSaid : Prop := Claim7.holds Tryz.pinned (.plain (OpenSpec.upto fnExactArchiveOpenSpec)) fnExactArchiveOpenUptoCard
end Rows
end Go.Proofs.YtokkigfjabbdaaaGreatDoor
