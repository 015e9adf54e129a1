/-
  DERIVED. GIVEN WITH THE SEED: THE CARDS: each row of YteddljmekpnojaaDoorRows.lean that lists a variable, with what it lists TIED to the program's text (the seventh form; the later family's looks); each row that meets fmt, with fmt's text TOLD by the authors' own Lean function (tested against real Go, not proved from fmt's source: count such statements apart). THE CARD IS WHAT COUNTS. Prove the row's statement (the work); the ties are given (YteddljmekpnojaaDoorTie.lean); close each card by the builder's one call (the guide's Derived/Test/ToyasCard.lean, 'card_holds'). Laid BY PROGRAM, IN A SANDBOX (cutbox-door.mjs). By AI agents, Wed Nov 11 2026. No macro, syntax, notation, axiom, sorry.
-/
import Derived.Test.YteddljmekpnojaaDoorRows
import GoSem.ClaimSeven
namespace Go.Proofs.YteddljmekpnojaaDoor
namespace Rows

/-- THE TIED CARD OF 'laws.FnHexes'. -/
def fnHexesCard : Claim7 := { stood := { row := fnHexesRow, standIns := [], harness := (true, "165d8e5182a943545d51b19bdac8a37c08a18a0e5ee4be1386f81f5dce3d2889"), looks := false }, kinds := [], alts := [], laidByText := true, laidKinds := [.data, .data, .data], laidTests := true, laidLooks := .later }
def FnHexesCardSaid : Prop := Claim7.holds Tryd.pinned (.plain (OpenSpec.ofChange fnHexesSpec)) fnHexesCard

/-- THE TIED CARD OF 'laws.FnExactNumText'. -/
def fnExactNumTextCard : Claim7 := { stood := { row := fnExactNumTextRow, standIns := [], harness := (true, "165d8e5182a943545d51b19bdac8a37c08a18a0e5ee4be1386f81f5dce3d2889"), looks := false }, kinds := [], alts := [], laidByText := true, laidKinds := [.data, .data, .data], laidTests := true, laidLooks := .later }
def FnExactNumTextCardSaid : Prop := Claim7.holds Tryd.pinned (.plain (OpenSpec.ofChange fnExactNumTextSpec)) fnExactNumTextCard

/-- THE SECOND FORM's CARD OF 'laws.FnHexes'. -/
def fnHexesUptoCard : Claim7 := { stood := { row := fnHexesUptoRow, standIns := [], harness := (true, "165d8e5182a943545d51b19bdac8a37c08a18a0e5ee4be1386f81f5dce3d2889"), looks := false }, kinds := [], alts := [], laidByText := true, laidKinds := [.data, .data, .data], laidTests := true, laidLooks := .later }
def FnHexesUptoCardSaid : Prop := Claim7.holds Tryd.pinned (.plain (OpenSpec.upto fnHexesSpec)) fnHexesUptoCard

/-- THE SECOND FORM's CARD OF 'laws.FnExactNumText'. -/
def fnExactNumTextUptoCard : Claim7 := { stood := { row := fnExactNumTextUptoRow, standIns := [], harness := (true, "165d8e5182a943545d51b19bdac8a37c08a18a0e5ee4be1386f81f5dce3d2889"), looks := false }, kinds := [], alts := [], laidByText := true, laidKinds := [.data, .data, .data], laidTests := true, laidLooks := .later }
def FnExactNumTextUptoCardSaid : Prop := Claim7.holds Tryd.pinned (.plain (OpenSpec.upto fnExactNumTextSpec)) fnExactNumTextUptoCard
end Rows
end Go.Proofs.YteddljmekpnojaaDoor
