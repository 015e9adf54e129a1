/-
  DERIVED. GIVEN WITH THE SEED: THE CARDS: each row of YtjgklckdkhbekaaDoorRows.lean that lists a variable, with what it lists TIED to the program's text (the seventh form; the later family's looks); each row that meets fmt, with fmt's text TOLD by the authors' own Lean function (tested against real Go, not proved from fmt's source: count such statements apart). THE CARD IS WHAT COUNTS. Prove the row's statement (the work); the ties are given (YtjgklckdkhbekaaDoorTie.lean); close each card by the builder's one call (the guide's Derived/Test/ToyasCard.lean, 'card_holds'). Laid BY PROGRAM, IN A SANDBOX (cutbox-door.mjs). By AI agents, Wed Nov 11 2026. No macro, syntax, notation, axiom, sorry.
-/
import Derived.Test.YtjgklckdkhbekaaDoorRows
import GoSem.ClaimSeven
namespace Go.Proofs.YtjgklckdkhbekaaDoor
namespace Rows

/-- THE TIED CARD OF 'laws.FnExactRefNumber'. -/
def fnExactRefNumberCard : Claim7 := { stood := { row := fnExactRefNumberRow, standIns := [], harness := (true, "326455bf215bf24dce4a234c44311367d11b2349ca6abf58ebfd819d5bc40871"), looks := false }, kinds := [], alts := [], laidByText := true, laidKinds := [.data], laidTests := true, laidLooks := .later }
def FnExactRefNumberCardSaid : Prop := Claim7.holds Tryd.pinned (.plain (OpenSpec.ofChange fnExactRefNumberSpec)) fnExactRefNumberCard

/-- THE SECOND FORM's CARD OF 'laws.FnExactRefNumber'. -/
def fnExactRefNumberUptoCard : Claim7 := { stood := { row := fnExactRefNumberUptoRow, standIns := [], harness := (true, "326455bf215bf24dce4a234c44311367d11b2349ca6abf58ebfd819d5bc40871"), looks := false }, kinds := [], alts := [], laidByText := true, laidKinds := [.data], laidTests := true, laidLooks := .later }
def FnExactRefNumberUptoCardSaid : Prop := Claim7.holds Tryd.pinned (.plain (OpenSpec.upto fnExactRefNumberSpec)) fnExactRefNumberUptoCard
end Rows
end Go.Proofs.YtjgklckdkhbekaaDoor
