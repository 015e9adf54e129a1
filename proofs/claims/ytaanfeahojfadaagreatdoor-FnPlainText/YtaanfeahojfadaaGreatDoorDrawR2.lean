/- The contract of the draw of a list of points with a place in it. -/
import Derived.Test.YtaanfeahojfadaaGreatDoorDrawR
import Derived.OwnWalk
namespace Go.Proofs.YtaanfeahojfadaaGreatDoor
open Go.RowKit
set_option maxRecDepth 100000
set_option linter.unusedVariables false

/-- A slice of noughts that was just made, and its first cell written. -/
theorem made_first {B g n : Nat} {w : World} (h : Own B 3 .i64 w (.slice (some ⟨g, 0, none⟩) n n) (List.replicate n 0)) (hn : 0 < n) (x : Int) :
    w.cell? ⟨g, 0, none⟩ = some (.int .i64 0) ∧ w.frozen? ⟨g, 0, none⟩ = false ∧ Own B 3 .i64 (w.setCell ⟨g, 0, none⟩ (.int .i64 x)) (.slice (some ⟨g, 0, none⟩) n n) ((List.replicate n 0).set 0 x) ∧
      w.grownBy (w.setCell ⟨g, 0, none⟩ (.int .i64 x)) (some g) := by
  unfold Own at h ⊢
  rw [List.length_replicate] at h
  have hs := h.stored 0 (.int .i64 x)
  refine ⟨?_, h.frozenAt 0, ?_, hs.2⟩
  · rw [h.cellAt 0 (by omega)]
    simp [hn]
  · rw [List.length_set, List.length_replicate, List.map_set]; exact hs.1

end Go.Proofs.YtaanfeahojfadaaGreatDoor
