/-
  DERIVED. GIVEN WITH THE SEED: THE CARDS: each row of YtjokajblihaphaaGreatDoorRows.lean that lists a variable, with what it lists TIED to the program's text (the seventh form; the later family's looks); each row that meets fmt, with fmt's text TOLD by the authors' own Lean function (tested against real Go, not proved from fmt's source: count such statements apart). THE CARD IS WHAT COUNTS. Prove the row's statement (the work); the ties are given (YtjokajblihaphaaGreatDoorTie.lean); close each card by the builder's one call (the guide's Derived/Test/ToyasCard.lean, 'card_holds'). Laid BY PROGRAM, IN A SANDBOX (cutbox-door.mjs). By AI agents, Wed Nov 11 2026. No macro, syntax, notation, axiom, sorry.
-/
import Derived.Test.YtjokajblihaphaaGreatDoorRows
import GoSem.ClaimSeven
namespace Go.Proofs.YtjokajblihaphaaGreatDoor
namespace Rows

/-- THE TIED CARD OF 'laws.FnExactArchiveDrop'. -/
def fnExactArchiveDropCard : Claim7 := { stood := { row := fnExactArchiveDropRow, standIns := [], harness := (true, "bad64c8555dd33068f8ad210ebe7c3db158921b263ef77ce09bc42d563d91ab7"), looks := true }, kinds := [], alts := [], laidByText := true, laidKinds := [.sentinel], laidTests := true, laidLooks := .later }
def FnExactArchiveDropCardSaid : Prop := Claim7.holds Tryz.pinned (.plain (OpenSpec.ofChange fnExactArchiveDropSpec)) fnExactArchiveDropCard

/-- THE TIED CARD OF 'laws.FnExactArchiveCompact'. -/
def fnExactArchiveCompactCard : Claim7 := { stood := { row := fnExactArchiveCompactRow, standIns := [], harness := (true, "bad64c8555dd33068f8ad210ebe7c3db158921b263ef77ce09bc42d563d91ab7"), looks := true }, kinds := [], alts := [], laidByText := true, laidKinds := [.sentinel], laidTests := true, laidLooks := .later }
def FnExactArchiveCompactCardSaid : Prop := Claim7.holds Tryz.pinned (.plain (OpenSpec.ofChange fnExactArchiveCompactSpec)) fnExactArchiveCompactCard

/-- THE SECOND FORM's CARD OF 'laws.FnExactArchiveDrop'. -/
def fnExactArchiveDropUptoCard : Claim7 := { stood := { row := fnExactArchiveDropUptoRow, standIns := [], harness := (true, "bad64c8555dd33068f8ad210ebe7c3db158921b263ef77ce09bc42d563d91ab7"), looks := true }, kinds := [], alts := [], laidByText := true, laidKinds := [.sentinel], laidTests := true, laidLooks := .later }
def FnExactArchiveDropUptoCardSaid : Prop := Claim7.holds Tryz.pinned (.plain (OpenSpec.upto fnExactArchiveDropSpec)) fnExactArchiveDropUptoCard

/-- THE SECOND FORM's CARD OF 'laws.FnExactArchiveCompact'. -/
def fnExactArchiveCompactUptoCard : Claim7 := { stood := { row := fnExactArchiveCompactUptoRow, standIns := [], harness := (true, "bad64c8555dd33068f8ad210ebe7c3db158921b263ef77ce09bc42d563d91ab7"), looks := true }, kinds := [], alts := [], laidByText := true, laidKinds := [.sentinel], laidTests := true, laidLooks := .later }
def FnExactArchiveCompactUptoCardSaid : Prop := Claim7.holds Tryz.pinned (.plain (OpenSpec.upto fnExactArchiveCompactSpec)) fnExactArchiveCompactUptoCard
end Rows
end Go.Proofs.YtjokajblihaphaaGreatDoor
