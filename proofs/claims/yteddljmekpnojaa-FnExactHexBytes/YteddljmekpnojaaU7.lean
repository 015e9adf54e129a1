/- The contracts of the draws: a cursor over any bytes gives some number below a bound, and turns nothing but itself. -/
import Derived.Test.YteddljmekpnojaaU0
import Derived.Test.YteddljmekpnojaaU1
import Derived.OneCell
import Derived.Test.YteddljmekpnojaaU3
namespace Go.Proofs.Yteddljmekpnojaa
open Go.RowKit
set_option maxRecDepth 100000
set_option linter.unusedVariables false

theorem grown_drewN (w : World) (n : Nat) (row : Option Nat) : w.grownBy (w.drewN n) row := ⟨rfl, rfl, rfl, Nat.le_refl _, fun _ _ _ => rfl⟩
theorem grown_setCell (w : World) (g k : Nat) (u : Value) : w.grownBy (w.setCell ⟨g, k, none⟩ u) (some g) :=
  ⟨rfl, rfl, rfl, by simp [World.setCell], fun j _ hne => Below.heap_setCell w _ u j (fun e => hne (by rw [e]))⟩
theorem three_setCell {w : World} {b k : Nat} {cs : Array Value} {u : Value} {t : TypeId} (h : w.heap[b]? = some (.cells cs t (0, 0))) : (w.setCell ⟨b, k, none⟩ u).heap[b]? = some (.cells (cs.setIfInBounds k u) t (0, 0)) := by
  have hlt := lt_of_block h
  have h' : w.heap[b] = .cells cs t (0, 0) := by simpa [Array.getElem?_eq_getElem hlt] using h
  show (w.heap.modify b _)[b]? = _
  rw [Array.getElem?_eq_getElem (by simpa using hlt), Array.getElem_modify_self, h']
  rfl
theorem mask255 (x : Int) : 0 ≤ bits .and .i64 x 255 ∧ bits .and .i64 x 255 ≤ 255 := by
  have h : ((BitVec.ofInt 64 x) &&& (BitVec.ofInt 64 255)).toNat ≤ 255 := by
    rw [BitVec.toNat_and]; exact Nat.le_trans Nat.and_le_right (by decide)
  have e : bits .and .i64 x 255 = IntKind.i64.wrap (((BitVec.ofInt 64 x) &&& (BitVec.ofInt 64 255)).toNat : Int) := rfl
  rw [e]
  generalize ((BitVec.ofInt 64 x) &&& (BitVec.ofInt 64 255)).toNat = n at h
  have e2 : IntKind.i64.wrap (n : Int) = n := by
    have h1 : (n : Int) % 2 ^ 64 = n := by omega
    simp only [IntKind.wrap, IntKind.bits, h1]
    rw [if_neg]
    simp; omega
  rw [e2]; omega

end Go.Proofs.Yteddljmekpnojaa

/- The contracts of the draws of points and of lines: some integers, in new memory. -/
namespace Go.Proofs.Yteddljmekpnojaa
open Go.RowKit
set_option maxRecDepth 100000
set_option linter.unusedVariables false

theorem own_past {B g : Nat} {e : TypeId} {K : IntKind} {w w' : World} {v : Value} {xs : List Int} (h : Own B e K w v xs) (hg : w.grownBy w' (some g)) (hlt : g < B) : Own B e K w' v xs := by
  refine World.ownsRow.kept h hg ?_
  by_cases h0 : v.ownBlock = none
  · exact .inl h0
  · obtain ⟨k, hk⟩ := Option.ne_none_iff_exists'.mp h0
    refine .inr ?_
    have := (h.lt k hk).1
    rw [hk]; intro e; cases e; omega

theorem Own.kept1 {B g : Nat} {e : TypeId} {K : IntKind} {w w' : World} {v : Value} {xs : List Int} (h : Own B e K w v xs) (hg : w.grownBy w' (some g)) (hne : ∀ k, v.ownBlock = some k → k ≠ g) : Own B e K w' v xs := by
  refine World.ownsRow.kept h hg ?_
  by_cases h0 : v.ownBlock = none
  · exact .inl h0
  · obtain ⟨k, hk⟩ := Option.ne_none_iff_exists'.mp h0
    refine .inr ?_
    rw [hk]; intro e; cases e; exact hne _ hk rfl

theorem bytes_app {xs ys : List Int} (h : ∀ y ∈ xs, 0 ≤ y ∧ y ≤ 255) (h' : ∀ y ∈ ys, 0 ≤ y ∧ y ≤ 255) : ∀ y ∈ xs ++ ys, 0 ≤ y ∧ y ≤ 255 := fun y hy => by
  rcases List.mem_append.mp hy with a | a
  · exact h y a
  · exact h' y a

end Go.Proofs.Yteddljmekpnojaa
