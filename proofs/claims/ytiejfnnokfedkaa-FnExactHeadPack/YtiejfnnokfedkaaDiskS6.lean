/- The specification's DiskNew. No condition. -/
import Derived.Test.YtiejfnnokfedkaaDiskS5
import Derived.Test.YtiejfnnokfedkaaOk
namespace Go.Proofs.Ytiejfnnokfedkaa
open Go.RowKit
set_option maxRecDepth 100000
set_option linter.unusedVariables false

theorem sv_oneStr {w : World} {g : Nat} {s : ByteArray} {t : TypeId} (h : w.heap[g]? = some (.cells #[.string s] t (0, 0))) : Sv 1 w (.slice (some ⟨g, 0, none⟩) 1 1) (strCells [s]) := by
  obtain ⟨c0, _⟩ := rk_one h
  refine ⟨some ⟨g, 0, none⟩, 1, 1, rfl, rfl, Nat.le_refl _, by unfold maxLen; omega, (fun e => by cases e), fun i hi => ⟨g, 0, rfl, ?_⟩⟩
  have hi' : i < 1 := hi
  match i, hi' with
  | 0, _ => simpa [strCells] using c0

/-- While the texts of a new disk are laid: k of them are. -/
structure NewI (w : World) (k : Nat) (W : World) : Prop where
  cells : ∃ a n c, W.heap[w.heap.size + 1]? = some (.cells #[.slice a n c, .slice none 0 0] 36 (0, 0)) ∧ W.ownsRow w.heap.size 9 1 (.slice a n c) k (strCells (List.replicate k zeros64))
  res : W.heap[w.heap.size]? = some (.cells #[.slice none 0 0, .slice none 0 0] 36 (0, 0))
  bel : Below w.heap.size w W
end Go.Proofs.Ytiejfnnokfedkaa
