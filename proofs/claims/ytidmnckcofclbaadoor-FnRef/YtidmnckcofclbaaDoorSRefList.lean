/- The contract of the specification's Refs. -/
import Derived.Test.YtidmnckcofclbaaDoorSv
namespace Go.Proofs.YtidmnckcofclbaaDoor
open Go.RowKit
set_option linter.unusedVariables false

/-- The document's references lie in block g, two cells each. -/
def RefsAt (w : World) (g : Nat) : Prop := ∀ k (hk : k < refList.length), w.cell? ⟨g, k * 2, none⟩ = some (.string refList[k].1) ∧ w.cell? ⟨g, k * 2 + 1, none⟩ = some (.int .i64 refList[k].2)
theorem RefsAt.lt {w : World} {g : Nat} (h : RefsAt w g) : g < w.heap.size := by
  by_cases hl : g < w.heap.size
  · exact hl
  · have := (h 0 (by decide)).1
    simp [World.cell?, Array.getElem?_eq_none (Nat.le_of_not_lt hl)] at this
theorem RefsAt.below {w w' : World} {g : Nat} (h : RefsAt w g) (hb : Below w.heap.size w w') : RefsAt w' g := fun k hk =>
  ⟨(hb.cell (p := ⟨g, k * 2, none⟩) h.lt).trans (h k hk).1, (hb.cell (p := ⟨g, k * 2 + 1, none⟩) h.lt).trans (h k hk).2⟩
theorem RefsAt.same {w w' : World} {g : Nat} (h : RefsAt w g) (e : w'.heap[g]? = w.heap[g]?) : RefsAt w' g := fun k hk => by
  have := h k hk
  simp only [World.cell?, e] at this ⊢
  exact this
theorem RefsAt.set {w : World} {g b k : Nat} {u : Value} (h : RefsAt w g) (hne : g ≠ b) : RefsAt (w.setCell ⟨b, k, none⟩ u) g :=
  h.same (Below.heap_setCell w _ u g hne)
theorem RefsAt.of {w : World} {g : Nat} {cur : Array Value} {t : TypeId} {fr : Nat × Nat} (h : w.heap[g]? = some (.cells cur t fr)) (hc : cur.toList = refCells refList) : RefsAt w g := fun k hk => by
  have at' : ∀ i, i < (refCells refList).length → w.cell? ⟨g, i, none⟩ = some ((refCells refList).getD i undef) := fun i hi => by
    have : cur.toList[i]? = some ((refCells refList).getD i undef) := by rw [hc]; simp [List.getD_eq_getElem?_getD, hi]
    simp only [World.cell?, h]
    simpa using this
  have hl := refCells_len refList
  exact ⟨by rw [at' (k * 2) (by omega), refCells_name _ _ hk], by rw [at' (k * 2 + 1) (by omega), refCells_point _ _ hk]⟩

set_option maxHeartbeats 4000000 in
set_option maxRecDepth 100000 in
theorem srefs_any (w : World) : Calls Tryd.prog 30 #[] w fun e w' => e = .returned (.slice (some ⟨w.heap.size, 0, none⟩) 24 24) ∧ RefsAt w' w.heap.size ∧ Below w.heap.size w w' := by
  go_enter Tryd.func30, Tryd.ntmps30
  go_wp2
  go_ret
  exact ⟨rfl, RefsAt.of (heap_alloc_new _ _) (by kernel_rfl), (Below.refl _ _).alloc (Nat.le_refl _) _⟩
end Go.Proofs.YtidmnckcofclbaaDoor
