/- What the exact law of AttrAdd asks of the program's function, and rows of values that are apart. -/
import Derived.Test.YtaanfeahojfadaaGreatDoorWAttr
import Derived.Test.YtaanfeahojfadaaGreatDoorMarkA
namespace Go.Proofs.YtaanfeahojfadaaGreatDoor
open Go.RowKit
set_option maxRecDepth 100000
set_option linter.unusedVariables false

theorem row_ne {B size size' n n' : Nat} {e e' : TypeId} {w w' : World} {v v' : Value} {xs ys : List Value} (h : w.ownsRow B e size v n xs) (h' : w'.ownsRow w.heap.size e' size' v' n' ys) :
    ∀ k j, v.ownBlock = some k → v'.ownBlock = some j → k ≠ j := fun k j hk hj => by
  have a := (World.ownsRow.lt h k hk).2
  have b := (World.ownsRow.lt h' j hj).1
  omega
theorem row_kept {B size n : Nat} {e : TypeId} {w w' : World} {v v1 : Value} {xs : List Value} (h : w.ownsRow B e size v n xs) (hg : w.grownBy w' v1.ownBlock)
    (hne : ∀ k j, v.ownBlock = some k → v1.ownBlock = some j → k ≠ j) : w'.ownsRow B e size v n xs := by
  by_cases h0 : v.ownBlock = none
  · exact World.ownsRow.kept h hg (.inl h0)
  · obtain ⟨k, hk⟩ := Option.ne_none_iff_exists'.mp h0
    by_cases h1 : v1.ownBlock = none
    · exact World.ownsRow.kept h hg (.inr (by rw [h1]; exact h0))
    · obtain ⟨j, hj⟩ := Option.ne_none_iff_exists'.mp h1
      exact World.ownsRow.kept h hg (.inr (by rw [hk, hj]; intro e; exact hne k j hk hj (Option.some.inj e)))
theorem row_base {B B' size n : Nat} {e : TypeId} {w : World} {v : Value} {xs : List Value} (h : w.ownsRow B e size v n xs) (hB : B' ≤ B) : w.ownsRow B' e size v n xs := by
  obtain ⟨hl, hv | ⟨g, cap, cur, hv, hb, r⟩⟩ := h
  · exact ⟨hl, .inl hv⟩
  · exact ⟨hl, .inr ⟨g, cap, cur, hv, Nat.le_trans hB hb, r⟩⟩

def AttrAddOk : Prop := ∀ (v : Value) (rs : List (ByteArray × ByteArray)) (p : ByteArray × ByteArray) (w : World), Sv 2 w v (pairCells rs) → Short rs → p.1.size ≤ 1099511627776 → p.2.size ≤ 1099511627776 →
  Calls Tryz.prog 137 #[v, .agg #[.string p.1, .string p.2]] w fun e w' => ∃ v', e = .returned v' ∧ w'.ownsRow w.heap.size 81 2 v' (attrAdd rs p).length (pairCells (attrAdd rs p)) ∧ Below w.heap.size w w'

theorem attrAdd_len (rs : List (ByteArray × ByteArray)) (p : ByteArray × ByteArray) : (attrAdd rs p).length ≤ rs.length + 1 := by unfold attrAdd; split <;> simp
end Go.Proofs.YtaanfeahojfadaaGreatDoor
