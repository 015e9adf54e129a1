/- The specification's DiskNew. No condition. -/
import Derived.Test.YtokkigfjabbdaaaGreatDoorU16
import Derived.Test.YtokkigfjabbdaaaGreatDoorU6
import Derived.Test.YtokkigfjabbdaaaGreatDoorU2
import Derived.Test.YtokkigfjabbdaaaGreatDoorU4
namespace Go.Proofs.YtokkigfjabbdaaaGreatDoor
open Go.RowKit
set_option maxRecDepth 100000
set_option linter.unusedVariables false

theorem sv_oneStr {w : World} {g : Nat} {s : ByteArray} {t : TypeId} (h : w.heap[g]? = some (.cells #[.string s] t (0, 0))) : Sv 1 w (.slice (some ⟨g, 0, none⟩) 1 1) (strCells [s]) := by
  obtain ⟨c0, _⟩ := rk_one h
  refine ⟨some ⟨g, 0, none⟩, 1, 1, rfl, rfl, Nat.le_refl _, by unfold maxLen; omega, (fun e => by cases e), fun i hi => ⟨g, 0, rfl, ?_⟩⟩
  have hi' : i < 1 := hi
  match i, hi' with
  | 0, _ => simpa [strCells] using c0

/-- While the texts of a new disk are laid: k of them are. -/
structure NewI (w : World) (k : Nat) (W : World) : Prop where
  cells : ∃ a n c, W.heap[w.heap.size + 1]? = some (.cells #[.slice a n c, .slice none 0 0] 35 (0, 0)) ∧ W.ownsRow w.heap.size 9 1 (.slice a n c) k (strCells (List.replicate k zeros64))
  res : W.heap[w.heap.size]? = some (.cells #[.slice none 0 0, .slice none 0 0] 35 (0, 0))
  bel : Below w.heap.size w W
end Go.Proofs.YtokkigfjabbdaaaGreatDoor

/- The contract of the draw of bytes: some bytes, in new memory. -/
namespace Go.Proofs.YtokkigfjabbdaaaGreatDoor
open Go.RowKit
set_option maxRecDepth 100000
set_option linter.unusedVariables false

theorem Sl.take {K : IntKind} {w : World} {a : Addr} {n cap r : Nat} {xs : List Int} (h : Sl K w (.slice (some a) n cap) xs) (hr : r ≤ xs.length) : Sl K w (.slice (some a) r cap) (xs.take r) := by
  obtain ⟨a', c', e, hl, hm, hnn, ha⟩ := h
  cases e
  have hlen : (xs.take r).length = r := by simp; omega
  refine ⟨some a, cap, by rw [hlen], by omega, hm, (fun h => by cases h), fun k hk => ?_⟩
  obtain ⟨b, off, e, c⟩ := ha k (by omega)
  refine ⟨b, off, e, ?_⟩
  have e2 : (xs.take r).getD k 0 = xs.getD k 0 := by simp [List.getD_eq_getElem?_getD, show k < r by omega]
  rw [e2]; exact c

theorem put_byte (x : Int) : ∀ y ∈ put x, 0 ≤ y ∧ y ≤ 255 := by
  have := pt_ok x
  exact enc_byte this.1 this.2.1

end Go.Proofs.YtokkigfjabbdaaaGreatDoor

/- The draws of chapter 15: a text of a sector, a place. No condition. -/
namespace Go.Proofs.YtokkigfjabbdaaaGreatDoor
open Go.RowKit
set_option maxRecDepth 100000
set_option linter.unusedVariables false

theorem Blk.kept {K : IntKind} {t : TypeId} {w w' : World} {b : Nat} {zs : List Int} {row : Option Nat} (h : Blk K t w b zs) (hg : w.grownBy w' row) (hne : some b ≠ row) : Blk K t w' b zs := by
  have hlt := h.lt
  obtain ⟨cur, lo, hi, hh, r⟩ := h
  exact ⟨cur, lo, hi, (hg.block b hlt hne).trans hh, r⟩
end Go.Proofs.YtokkigfjabbdaaaGreatDoor
