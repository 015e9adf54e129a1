/-
  DERIVED. GIVEN WITH THE SEED: THE CARDS: each row of YtidmnckcofclbaaDoorRows.lean that lists a variable, with what it lists TIED to the program's text (the seventh form; the later family's looks); each row that meets fmt, with fmt's text TOLD by the authors' own Lean function (tested against real Go, not proved from fmt's source: count such statements apart). THE CARD IS WHAT COUNTS. Prove the row's statement (the work); the ties are given (YtidmnckcofclbaaDoorTie.lean); close each card by the builder's one call (the guide's Derived/Test/ToyasCard.lean, 'card_holds'). Laid BY PROGRAM, IN A SANDBOX (cutbox-door.mjs). By AI agents, Wed Nov 11 2026. No macro, syntax, notation, axiom, sorry.
-/
import Derived.Test.YtidmnckcofclbaaDoorRows
import GoSem.ClaimSeven
namespace Go.Proofs.YtidmnckcofclbaaDoor
namespace Rows

/-- THE TIED CARD OF 'laws.FnRef'. -/
def fnRefCard : Claim7 := { stood := { row := fnRefRow, standIns := [], harness := (true, "7ad0f14c7d93046fb4d98184e54c0bde688e9cdcc68d0328466cee368cc9a33e"), looks := false }, kinds := [], alts := [], laidByText := true, laidKinds := [.data], laidTests := true, laidLooks := .later }
def FnRefCardSaid : Prop := Claim7.holds Tryd.pinned (.plain (OpenSpec.ofChange fnRefSpec)) fnRefCard

/-- THE TIED CARD OF 'laws.FnExactRefNumber'. -/
def fnExactRefNumberCard : Claim7 := { stood := { row := fnExactRefNumberRow, standIns := [], harness := (true, "7ad0f14c7d93046fb4d98184e54c0bde688e9cdcc68d0328466cee368cc9a33e"), looks := false }, kinds := [], alts := [], laidByText := true, laidKinds := [.data], laidTests := true, laidLooks := .later }
def FnExactRefNumberCardSaid : Prop := Claim7.holds Tryd.pinned (.plain (OpenSpec.ofChange fnExactRefNumberSpec)) fnExactRefNumberCard

/-- THE TIED CARD OF 'laws.FnExactRefRead'. -/
def fnExactRefReadCard : Claim7 := { stood := { row := fnExactRefReadRow, standIns := [], harness := (true, "7ad0f14c7d93046fb4d98184e54c0bde688e9cdcc68d0328466cee368cc9a33e"), looks := false }, kinds := [], alts := [], laidByText := true, laidKinds := [.data], laidTests := true, laidLooks := .later }
def FnExactRefReadCardSaid : Prop := Claim7.holds Tryd.pinned (.plain (OpenSpec.ofChange fnExactRefReadSpec)) fnExactRefReadCard

/-- THE SECOND FORM's CARD OF 'laws.FnRef'. -/
def fnRefUptoCard : Claim7 := { stood := { row := fnRefUptoRow, standIns := [], harness := (true, "7ad0f14c7d93046fb4d98184e54c0bde688e9cdcc68d0328466cee368cc9a33e"), looks := false }, kinds := [], alts := [], laidByText := true, laidKinds := [.data], laidTests := true, laidLooks := .later }
def FnRefUptoCardSaid : Prop := Claim7.holds Tryd.pinned (.plain (OpenSpec.upto fnRefSpec)) fnRefUptoCard

/-- THE SECOND FORM's CARD OF 'laws.FnExactRefNumber'. -/
def fnExactRefNumberUptoCard : Claim7 := { stood := { row := fnExactRefNumberUptoRow, standIns := [], harness := (true, "7ad0f14c7d93046fb4d98184e54c0bde688e9cdcc68d0328466cee368cc9a33e"), looks := false }, kinds := [], alts := [], laidByText := true, laidKinds := [.data], laidTests := true, laidLooks := .later }
def FnExactRefNumberUptoCardSaid : Prop := Claim7.holds Tryd.pinned (.plain (OpenSpec.upto fnExactRefNumberSpec)) fnExactRefNumberUptoCard

/-- THE SECOND FORM's CARD OF 'laws.FnExactRefRead'. -/
def fnExactRefReadUptoCard : Claim7 := { stood := { row := fnExactRefReadUptoRow, standIns := [], harness := (true, "7ad0f14c7d93046fb4d98184e54c0bde688e9cdcc68d0328466cee368cc9a33e"), looks := false }, kinds := [], alts := [], laidByText := true, laidKinds := [.data], laidTests := true, laidLooks := .later }
def FnExactRefReadUptoCardSaid : Prop := Claim7.holds Tryd.pinned (.plain (OpenSpec.upto fnExactRefReadSpec)) fnExactRefReadUptoCard
end Rows
end Go.Proofs.YtidmnckcofclbaaDoor
