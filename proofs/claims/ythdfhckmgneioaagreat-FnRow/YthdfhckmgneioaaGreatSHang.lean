/- The specification's l6Take of a node below none, and l6Hang of such a node. No condition. -/
import Derived.Test.YthdfhckmgneioaaGreatSAdd
import Derived.Test.YthdfhckmgneioaaGreatLess
namespace Go.Proofs.YthdfhckmgneioaaGreat
open Go.RowKit
set_option maxRecDepth 100000
set_option linter.unusedVariables false

theorem stake_none {w : World} {v : Value} {ns : List PNode} (hn : NodesAt w v ns) (hlen : ns.length ≤ 1048576) {c : Nat} (hc : c < ns.length) (hp : ns[c].parent = -1) :
    Calls Tryz.prog 84 #[.agg #[v], .int .i64 c] w fun e w' => e = .returned (.agg #[v]) ∧ Below w.heap.size w w' := by
  obtain ⟨a, cap, rfl, hc1, hc2, hcs⟩ := hn.slice
  obtain ⟨b, off, av, kv, rfl, hblt, _, _, _, _, d4, _⟩ := hcs c hc
  rw [hp] at d4
  clear hcs hn
  obtain ⟨w2, hw2⟩ : ∃ w2, w2 = (w.alloc (.cells #[.slice (some ⟨b, off, none⟩) ns.length cap] 26)).alloc (.cells #[.slice none 0 0] 26) := ⟨_, rfl⟩
  have b2 : Below w.heap.size w w2 := by rw [hw2]; exact ((Below.refl _ w).alloc (Nat.le_refl _) _).alloc (by simp) _
  have g0 : w2.heap[w.heap.size]? = some (.cells #[.slice (some ⟨b, off, none⟩) ns.length cap] 26 (0, 0)) := by
    rw [hw2, Below.heap_alloc _ _ _ (by simp)]; exact World.alloc_heap_new _ _
  have g1 : w2.heap[w.heap.size + 1]? = some (.cells #[.slice none 0 0] 26 (0, 0)) := by
    rw [hw2]
    have := World.alloc_heap_new (w.alloc (.cells #[.slice (some ⟨b, off, none⟩) ns.length cap] 26)) (.cells #[.slice none 0 0] 26)
    rwa [World.size_alloc] at this
  have k0 : w2.cell? ⟨w.heap.size, 0, none⟩ = some (.slice (some ⟨b, off, none⟩) ns.length cap) := by simp only [World.cell?, g0]; rfl
  have k1 : w2.cell? ⟨w.heap.size + 1, 0, none⟩ = some (.slice none 0 0) := by simp only [World.cell?, g1]; rfl
  have f1 : w2.frozen? ⟨w.heap.size + 1, 0, none⟩ = false := by simp [World.frozen?, g1]
  replace d4 := (b2.cell (p := ⟨b, off + c * 6 + 4, none⟩) hblt).trans d4
  have HG1 := (show Hid _ from g1)
  clear g0 g1
  go_enter Tryz.func84, Tryz.ntmps84
  go_upto_region 1 with fail
  rw [← hw2]
  clear hw2
  go_wp2
  have gs := setCell_at (k := 0) (u := .slice (some ⟨b, off, none⟩) ns.length cap) HG1.out
  refine bodyPost_ret (results_cell_row rfl _ _ (w.heap.size + 1) 26 _ (0, 0) _ rfl gs Tryz.underlying26 rfl rfl) rfl ?_
  exact ⟨rfl, b2.setCell (p := ⟨w.heap.size + 1, 0, none⟩) (by show w.heap.size ≤ w.heap.size + 1; omega) _⟩

/-- The new Kids and the new Parent in the row of nodes. -/
def kidQ (q : PNode × (Value × Value)) (ks : List Int) (kv : Value) : PNode × (Value × Value) := (⟨q.1.kind, q.1.name, q.1.attrs, q.1.text, q.1.parent, ks⟩, (q.2.1, kv))
def parQ (q : PNode × (Value × Value)) (x : Int) : PNode × (Value × Value) := (⟨q.1.kind, q.1.name, q.1.attrs, q.1.text, x, q.1.kids⟩, q.2)
theorem nodeCells_set (qs : List (PNode × (Value × Value))) (k : Nat) (hk : k < qs.length) (q : PNode × (Value × Value)) (j : Nat) (hj : j < 6) (u : Value) (h : nodeRow q.1 q.2 = (nodeRow qs[k].1 qs[k].2).set j u) :
    nodeCells (qs.set k q) = (nodeCells qs).set (k * 6 + j) u := by
  induction qs generalizing k with
  | nil => simp at hk
  | cons p qs ih =>
    cases k with
    | zero =>
      simp only [nodeCells, List.set_cons_zero, List.flatMap_cons, Nat.zero_mul, Nat.zero_add, List.getElem_cons_zero] at h ⊢
      rw [h, List.set_append_left _ _ (by simp [nodeRow]; omega)]
    | succ k =>
      have := ih k (by simpa using hk) (by simpa using h)
      simp only [nodeCells, List.set_cons_succ, List.flatMap_cons] at this ⊢
      rw [this, List.set_append_right _ _ (by simp [nodeRow]; omega)]
      congr 2
      simp [nodeRow]; omega
end Go.Proofs.YthdfhckmgneioaaGreat
