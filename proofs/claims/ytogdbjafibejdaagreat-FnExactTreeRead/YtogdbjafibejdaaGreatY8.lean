/- The contracts of the draws: a cursor over any bytes gives some number below a bound, and turns nothing but itself. -/
import Derived.Test.YtogdbjafibejdaaGreatY4
import Derived.Test.YtogdbjafibejdaaGreatY3
import Derived.OneCell
namespace Go.Proofs.YtogdbjafibejdaaGreat
open Go.RowKit
set_option maxRecDepth 100000
set_option linter.unusedVariables false

def Cur (w0 : World) (g : Nat) (v : Value) (xs : List Int) (w : World) : Prop :=
  w0.heap.size ≤ g ∧ Sl .u8 w0 v xs ∧ Below w0.heap.size w0 w ∧ xs.length ≤ 1099511627776 ∧ ∃ (i : Nat) (h : Int), i ≤ xs.length ∧ w.heap[g]? = some (.cells #[v, .int .i64 i, .int .i64 h] 134 (0, 0))

theorem Cur.lt {w0 : World} {g : Nat} {v : Value} {xs : List Int} {w : World} (h : Cur w0 g v xs w) : g < w.heap.size := by
  obtain ⟨_, _, _, _, i, k, _, hh⟩ := h
  exact lt_of_block hh
theorem Cur.below {w0 : World} {g : Nat} {v : Value} {xs : List Int} {w w' : World} (h : Cur w0 g v xs w) (hb : Below w.heap.size w w') : Cur w0 g v xs w' := by
  have hlt := h.lt
  obtain ⟨h1, h2, h3, h4, i, k, hi, hh⟩ := h
  exact ⟨h1, h2, h3.trans (hb.mono h3.size), h4, i, k, hi, by rw [hb.block g hlt]; exact hh⟩
theorem Cur.kept {w0 : World} {g : Nat} {v : Value} {xs : List Int} {w w' : World} {row : Option Nat} (h : Cur w0 g v xs w) (hg : w.grownBy w' row) (hne : row ≠ some g) (hr : ∀ k, row = some k → w0.heap.size ≤ k) : Cur w0 g v xs w' := by
  have hlt := h.lt
  obtain ⟨h1, h2, h3, h4, i, k, hi, hh⟩ := h
  exact ⟨h1, h2, h3.grown hg h3.size hr, h4, i, k, hi, by rw [hg.block g hlt (fun e => hne e.symm)]; exact hh⟩

theorem Cur.drewN {w0 : World} {g : Nat} {v : Value} {xs : List Int} {w : World} (h : Cur w0 g v xs w) (n : Nat) : Cur w0 g v xs (w.drewN n) := h.below (below_drewN n)
theorem grown_drewN (w : World) (n : Nat) (row : Option Nat) : w.grownBy (w.drewN n) row := ⟨rfl, rfl, rfl, Nat.le_refl _, fun _ _ _ => rfl⟩
theorem grown_setCell (w : World) (g k : Nat) (u : Value) : w.grownBy (w.setCell ⟨g, k, none⟩ u) (some g) :=
  ⟨rfl, rfl, rfl, by simp [World.setCell], fun j _ hne => Below.heap_setCell w _ u j (fun e => hne (by rw [e]))⟩
theorem three_setCell {w : World} {b k : Nat} {cs : Array Value} {u : Value} {t : TypeId} (h : w.heap[b]? = some (.cells cs t (0, 0))) : (w.setCell ⟨b, k, none⟩ u).heap[b]? = some (.cells (cs.setIfInBounds k u) t (0, 0)) := by
  have hlt := lt_of_block h
  have h' : w.heap[b] = .cells cs t (0, 0) := by simpa [Array.getElem?_eq_getElem hlt] using h
  show (w.heap.modify b _)[b]? = _
  rw [Array.getElem?_eq_getElem (by simpa using hlt), Array.getElem_modify_self, h']
  rfl
end Go.Proofs.YtogdbjafibejdaaGreat
