/- The exact laws of AttrsOk, AttrOf and AttrsSame, walked from contracts of the program's functions. -/
import Derived.Test.YtaanfeahojfadaaGreatDoorSAttr3
namespace Go.Proofs.YtaanfeahojfadaaGreatDoor
open Go.RowKit
set_option maxRecDepth 100000
set_option linter.unusedVariables false

/-- Every text of a list is short. -/
def Short (rs : List (ByteArray × ByteArray)) : Prop := rs.length ≤ 1048576 ∧ ∀ p ∈ rs, p.1.size ≤ 1099511627776 ∧ p.2.size ≤ 1099511627776

/-- What is asked of the program's functions. -/
def AttrsOkOk : Prop := ∀ (v : Value) (rs : List (ByteArray × ByteArray)) (w : World), Sv 2 w v (pairCells rs) → Short rs → Calls Tryz.prog 32 #[v] w fun e w' => e = .returned (.bool (attrsOk rs)) ∧ Below w.heap.size w w'
def AttrOfOk : Prop := ∀ (v : Value) (rs : List (ByteArray × ByteArray)) (nm : ByteArray) (w : World), Sv 2 w v (pairCells rs) → Short rs → nm.size ≤ 1099511627776 → Calls Tryz.prog 60 #[v, .string nm] w fun e w' => e = .returned (.tuple #[.string (attrOf rs nm).1, .bool (attrOf rs nm).2]) ∧ Below w.heap.size w w'
theorem short_of {rs : List (ByteArray × ByteArray)} {l r : Int} (hl : l ≤ 1048576) (h : (rs.length : Int) ≤ l ∧ ∀ p ∈ rs, (p.1.size : Int) + p.2.size ≤ l) : Short rs :=
  ⟨by have := h.1; omega, fun p hp => by have := h.2 p hp; omega⟩

end Go.Proofs.YtaanfeahojfadaaGreatDoor
