/- Contracts of NameOk, the program's and the specification's, at every string of at most 2^40 bytes. -/
import Derived.Test.YtidmnckcofclbaaDoorStr
import Derived.Test.YtidmnckcofclbaaDoorSKinds
import Derived.Deep.RegionHeld
namespace Go.Proofs.YtidmnckcofclbaaDoor
open Go.RowKit
set_option linter.unusedVariables false

def badB (x : Int) : Bool := isBlank x || inB x 65 90 || isBar x
def nameOk (xs : List Int) : Bool := inB xs.length 1 60 && utfOk xs && inB (xs.getD 0 0) 97 122 && !(xs.any badB)

theorem wrap_byte {x : Int} (h0 : 0 ≤ x) (h1 : x ≤ 255) : IntKind.i64.wrap x = x := by
  have h : x % 2 ^ 64 = x := by omega
  simp only [IntKind.wrap, IntKind.bits, h]
  rw [if_neg]
  simp; omega

/-- The three kinds that bar a byte of a name lie in the table in block g. -/
def KC (w : World) (g : Nat) : Prop := w.cell? ⟨g, 0, none⟩ = some (.func (.func 48) #[] #[]) ∧ w.cell? ⟨g, 1, none⟩ = some (.func (.func 49) #[] #[]) ∧ w.cell? ⟨g, 6, none⟩ = some (.func (.func 54) #[] #[])
theorem KC.lt {w : World} {g : Nat} (h : KC w g) : g < w.heap.size := by
  by_cases hl : g < w.heap.size
  · exact hl
  · have := h.1
    simp [World.cell?, Array.getElem?_eq_none (Nat.le_of_not_lt hl)] at this
theorem KC.below {w w' : World} {g : Nat} (h : KC w g) (hb : Below w.heap.size w w') : KC w' g :=
  ⟨(hb.cell (p := ⟨g, 0, none⟩) h.lt).trans h.1, (hb.cell (p := ⟨g, 1, none⟩) h.lt).trans h.2.1, (hb.cell (p := ⟨g, 6, none⟩) h.lt).trans h.2.2⟩
theorem any_succ {xs : List Int} {k : Nat} (h : k < xs.length) : (xs.take (k + 1)).any badB = ((xs.take k).any badB || badB (xs.getD k 0)) := by
  have hg : xs.getD k 0 = xs[k] := by simp [List.getD_eq_getElem?_getD, h]
  rw [List.take_succ_eq_append_getElem h, hg, List.any_append]
  simp only [List.any_cons, List.any_nil, Bool.or_false]
theorem any_of {xs : List Int} {k : Nat} (h : k < xs.length) (hb : badB (xs.getD k 0) = true) : xs.any badB = true := by
  have hg : xs.getD k 0 = xs[k] := by simp [List.getD_eq_getElem?_getD, h]
  rw [hg] at hb
  exact List.any_eq_true.mpr ⟨_, List.getElem_mem h, hb⟩

end Go.Proofs.YtidmnckcofclbaaDoor
