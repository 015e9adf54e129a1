/-
  DERIVED. GIVEN WITH THE SEED: THE CARDS: each row of YtiojilmclocmkaaGreatDoorRows.lean that lists a variable, with what it lists TIED to the program's text (the seventh form; the later family's looks); each row that meets fmt, with fmt's text TOLD by the authors' own Lean function (tested against real Go, not proved from fmt's source: count such statements apart). THE CARD IS WHAT COUNTS. Prove the row's statement (the work); the ties are given (YtiojilmclocmkaaGreatDoorTie.lean); close each card by the builder's one call (the guide's Derived/Test/ToyasCard.lean, 'card_holds'). Laid BY PROGRAM, IN A SANDBOX (cutbox-door.mjs). By AI agents, Wed Nov 11 2026. No macro, syntax, notation, axiom, sorry.
-/
import Derived.Test.YtiojilmclocmkaaGreatDoorRows
import GoSem.ClaimSeven
namespace Go.Proofs.YtiojilmclocmkaaGreatDoor
namespace Rows

/-- THE TIED CARD OF 'laws.FnPlainText'. -/
def fnPlainTextCard : Claim7 := { stood := { row := fnPlainTextRow, standIns := [], harness := (true, "be653dccf2176f62e7fa4766da3161ac4357cd094b24a74e3397ddaae7ae6920"), looks := false }, kinds := [], alts := [], laidByText := true, laidKinds := [.data], laidTests := true, laidLooks := .later }
def FnPlainTextCardSaid : Prop := Claim7.holds Tryz.pinned (.plain (OpenSpec.ofChange fnPlainTextSpec)) fnPlainTextCard

/-- THE SECOND FORM's CARD OF 'laws.FnPlainText'. -/
def fnPlainTextUptoCard : Claim7 := { stood := { row := fnPlainTextUptoRow, standIns := [], harness := (true, "be653dccf2176f62e7fa4766da3161ac4357cd094b24a74e3397ddaae7ae6920"), looks := false }, kinds := [], alts := [], laidByText := true, laidKinds := [.data], laidTests := true, laidLooks := .later }
def FnPlainTextUptoCardSaid : Prop := Claim7.holds Tryz.pinned (.plain (OpenSpec.upto fnPlainTextSpec)) fnPlainTextUptoCard
end Rows
end Go.Proofs.YtiojilmclocmkaaGreatDoor
