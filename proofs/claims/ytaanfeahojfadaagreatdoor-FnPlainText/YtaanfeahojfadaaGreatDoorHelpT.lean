/- The laws' helpers on tokens. -/
import Derived.Test.YtaanfeahojfadaaGreatDoorTok
import Derived.Test.YtaanfeahojfadaaGreatDoorToA
import Derived.Test.YtaanfeahojfadaaGreatDoorWAttr3
namespace Go.Proofs.YtaanfeahojfadaaGreatDoor
open Go.RowKit
set_option maxRecDepth 100000
set_option linter.unusedVariables false

theorem row_set {B size n b k : Nat} {e : TypeId} {w : World} {v u : Value} {xs : List Value} (h : w.ownsRow B e size v n xs) (hne : ∀ j, v.ownBlock = some j → j ≠ b) : (w.setCell ⟨b, k, none⟩ u).ownsRow B e size v n xs := by
  obtain ⟨hl, hv | ⟨g, cap, cur, hv, hB, hh, r⟩⟩ := h
  · exact ⟨hl, .inl hv⟩
  · have hg : g ≠ b := hne g (by rw [hv]; rfl)
    exact ⟨hl, .inr ⟨g, cap, cur, hv, hB, (Below.heap_setCell w ⟨b, k, none⟩ u g hg).trans hh, r⟩⟩

end Go.Proofs.YtaanfeahojfadaaGreatDoor
