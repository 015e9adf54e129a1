/-
  DERIVED. GIVEN WITH THE SEED: THE CARDS: each row of YtiejfnnokfedkaaDoorRows.lean that lists a variable, with what it lists TIED to the program's text (the seventh form; the later family's looks); each row that meets fmt, with fmt's text TOLD by the authors' own Lean function (tested against real Go, not proved from fmt's source: count such statements apart). THE CARD IS WHAT COUNTS. Prove the row's statement (the work); the ties are given (YtiejfnnokfedkaaDoorTie.lean); close each card by the builder's one call (the guide's Derived/Test/ToyasCard.lean, 'card_holds'). Laid BY PROGRAM, IN A SANDBOX (cutbox-door.mjs). By AI agents, Wed Nov 11 2026. No macro, syntax, notation, axiom, sorry.
-/
import Derived.Test.YtiejfnnokfedkaaDoorRows
import GoSem.ClaimSeven
namespace Go.Proofs.YtiejfnnokfedkaaDoor
namespace Rows

/-- THE TIED CARD OF 'laws.FnHeads'. -/
def fnHeadsCard : Claim7 := { stood := { row := fnHeadsRow, standIns := [], harness := (true, "85ab2d9d6d0089cef3e373570f5df5f9fa51b5cbd846cc3b196d3871d0619339"), looks := true }, kinds := [], alts := [], laidByText := true, laidKinds := [.sentinel], laidTests := true, laidLooks := .later }
def FnHeadsCardSaid : Prop := Claim7.holds Tryd.pinned (.plain (OpenSpec.ofChange fnHeadsSpec)) fnHeadsCard

/-- THE TIED CARD OF 'laws.FnAreas'. -/
def fnAreasCard : Claim7 := { stood := { row := fnAreasRow, standIns := [], harness := (true, "85ab2d9d6d0089cef3e373570f5df5f9fa51b5cbd846cc3b196d3871d0619339"), looks := true }, kinds := [], alts := [], laidByText := true, laidKinds := [.sentinel], laidTests := true, laidLooks := .later }
def FnAreasCardSaid : Prop := Claim7.holds Tryd.pinned (.plain (OpenSpec.ofChange fnAreasSpec)) fnAreasCard

/-- THE TIED CARD OF 'laws.FnExactHeadRead'. -/
def fnExactHeadReadCard : Claim7 := { stood := { row := fnExactHeadReadRow, standIns := [], harness := (true, "85ab2d9d6d0089cef3e373570f5df5f9fa51b5cbd846cc3b196d3871d0619339"), looks := true }, kinds := [], alts := [], laidByText := true, laidKinds := [.sentinel], laidTests := true, laidLooks := .later }
def FnExactHeadReadCardSaid : Prop := Claim7.holds Tryd.pinned (.plain (OpenSpec.ofChange fnExactHeadReadSpec)) fnExactHeadReadCard

/-- THE TIED CARD OF 'laws.FnExactHeadNow'. -/
def fnExactHeadNowCard : Claim7 := { stood := { row := fnExactHeadNowRow, standIns := [], harness := (true, "85ab2d9d6d0089cef3e373570f5df5f9fa51b5cbd846cc3b196d3871d0619339"), looks := true }, kinds := [], alts := [], laidByText := true, laidKinds := [.sentinel], laidTests := true, laidLooks := .later }
def FnExactHeadNowCardSaid : Prop := Claim7.holds Tryd.pinned (.plain (OpenSpec.ofChange fnExactHeadNowSpec)) fnExactHeadNowCard

/-- THE SECOND FORM's CARD OF 'laws.FnHeads'. -/
def fnHeadsUptoCard : Claim7 := { stood := { row := fnHeadsUptoRow, standIns := [], harness := (true, "85ab2d9d6d0089cef3e373570f5df5f9fa51b5cbd846cc3b196d3871d0619339"), looks := true }, kinds := [], alts := [], laidByText := true, laidKinds := [.sentinel], laidTests := true, laidLooks := .later }
def FnHeadsUptoCardSaid : Prop := Claim7.holds Tryd.pinned (.plain (OpenSpec.upto fnHeadsSpec)) fnHeadsUptoCard

/-- THE SECOND FORM's CARD OF 'laws.FnAreas'. -/
def fnAreasUptoCard : Claim7 := { stood := { row := fnAreasUptoRow, standIns := [], harness := (true, "85ab2d9d6d0089cef3e373570f5df5f9fa51b5cbd846cc3b196d3871d0619339"), looks := true }, kinds := [], alts := [], laidByText := true, laidKinds := [.sentinel], laidTests := true, laidLooks := .later }
def FnAreasUptoCardSaid : Prop := Claim7.holds Tryd.pinned (.plain (OpenSpec.upto fnAreasSpec)) fnAreasUptoCard

/-- THE SECOND FORM's CARD OF 'laws.FnExactHeadRead'. -/
def fnExactHeadReadUptoCard : Claim7 := { stood := { row := fnExactHeadReadUptoRow, standIns := [], harness := (true, "85ab2d9d6d0089cef3e373570f5df5f9fa51b5cbd846cc3b196d3871d0619339"), looks := true }, kinds := [], alts := [], laidByText := true, laidKinds := [.sentinel], laidTests := true, laidLooks := .later }
def FnExactHeadReadUptoCardSaid : Prop := Claim7.holds Tryd.pinned (.plain (OpenSpec.upto fnExactHeadReadSpec)) fnExactHeadReadUptoCard

/-- THE SECOND FORM's CARD OF 'laws.FnExactHeadNow'. -/
def fnExactHeadNowUptoCard : Claim7 := { stood := { row := fnExactHeadNowUptoRow, standIns := [], harness := (true, "85ab2d9d6d0089cef3e373570f5df5f9fa51b5cbd846cc3b196d3871d0619339"), looks := true }, kinds := [], alts := [], laidByText := true, laidKinds := [.sentinel], laidTests := true, laidLooks := .later }
def FnExactHeadNowUptoCardSaid : Prop := Claim7.holds Tryd.pinned (.plain (OpenSpec.upto fnExactHeadNowSpec)) fnExactHeadNowUptoCard
end Rows
end Go.Proofs.YtiejfnnokfedkaaDoor
