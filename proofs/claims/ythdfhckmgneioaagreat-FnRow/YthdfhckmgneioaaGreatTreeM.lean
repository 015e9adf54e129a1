/- Nodes in memory: a slice of nodes, each with its attributes and its kids. No condition. -/
import Derived.Test.YthdfhckmgneioaaGreatHelpA
namespace Go.Proofs.YthdfhckmgneioaaGreat
open Go.RowKit
set_option maxRecDepth 100000
set_option linter.unusedVariables false

/-- A node, as plain values. -/
structure PNode where
  kind : Int
  name : ByteArray
  attrs : List (ByteArray × ByteArray)
  text : ByteArray
  parent : Int
  kids : List Int

/-- The six cells of a node whose lists are the slices 'p'. -/
def nodeRow (n : PNode) (p : Value × Value) : List Value := [.int .i64 n.kind, .string n.name, p.1, .string n.text, .int .i64 n.parent, p.2]
def nodeCells (qs : List (PNode × (Value × Value))) : List Value := qs.flatMap fun q => nodeRow q.1 q.2
theorem nodeCells_len (qs : List (PNode × (Value × Value))) : (nodeCells qs).length = qs.length * 6 := by
  induction qs with
  | nil => rfl
  | cons q qs ih => simp only [nodeCells, nodeRow, List.flatMap_cons, List.length_append, List.length_cons, List.length_nil] at ih ⊢; omega
theorem nodeCells_at (qs : List (PNode × (Value × Value))) (k j : Nat) (h : k < qs.length) (hj : j < 6) : (nodeCells qs).getD (k * 6 + j) undef = (nodeRow qs[k].1 qs[k].2).getD j undef := by
  induction qs generalizing k with
  | nil => simp at h
  | cons q qs ih =>
    cases k with
    | zero =>
      simp only [nodeCells, List.flatMap_cons, List.getD_eq_getElem?_getD, Nat.zero_mul, Nat.zero_add, List.getElem_cons_zero]
      rw [List.getElem?_append_left (by simp [nodeRow]; omega)]
    | succ k =>
      have := ih k (by simpa using h)
      simp only [nodeCells, List.flatMap_cons, List.getD_eq_getElem?_getD, List.getElem_cons_succ] at this ⊢
      rw [List.getElem?_append_right (by simp [nodeRow]; omega), ← this]
      congr 2
      simp [nodeRow]; omega

/-- The slice value v has the nodes 'ns'. -/
def NodesAt (w : World) (v : Value) (ns : List PNode) : Prop :=
  ∃ qs : List (PNode × (Value × Value)), qs.map (fun q => q.1) = ns ∧ Sv 6 w v (nodeCells qs) ∧ ∀ q ∈ qs, Sv 2 w q.2.1 (pairCells q.1.attrs) ∧ Sl .i64 w q.2.2 q.1.kids

theorem NodesAt.below {w w' : World} {v : Value} {ns : List PNode} (h : NodesAt w v ns) (hb : Below w.heap.size w w') : NodesAt w' v ns := by
  obtain ⟨qs, h1, h2, h3⟩ := h
  exact ⟨qs, h1, h2.below hb, fun q hq => ⟨(h3 q hq).1.below hb, (h3 q hq).2.below hb⟩⟩

/-- What is read at place k. -/
theorem NodesAt.slice {w : World} {v : Value} {ns : List PNode} (h : NodesAt w v ns) : ∃ a cap, v = .slice a ns.length cap ∧ ns.length ≤ cap ∧ cap ≤ maxLen ∧
    ∀ k (hk : k < ns.length), ∃ b off av kv, a = some ⟨b, off, none⟩ ∧ b < w.heap.size ∧ w.cell? ⟨b, off + k * 6, none⟩ = some (.int .i64 ns[k].kind) ∧ w.cell? ⟨b, off + k * 6 + 1, none⟩ = some (.string ns[k].name) ∧
      w.cell? ⟨b, off + k * 6 + 2, none⟩ = some av ∧ w.cell? ⟨b, off + k * 6 + 3, none⟩ = some (.string ns[k].text) ∧ w.cell? ⟨b, off + k * 6 + 4, none⟩ = some (.int .i64 ns[k].parent) ∧ w.cell? ⟨b, off + k * 6 + 5, none⟩ = some kv ∧
      Sv 2 w av (pairCells ns[k].attrs) ∧ Sl .i64 w kv ns[k].kids := by
  obtain ⟨qs, rfl, ⟨a, len, cap, rfl, hl, h1, h2, h3, hc⟩, hq⟩ := h
  have hlen : len = qs.length := by rw [nodeCells_len] at hl; omega
  subst hlen
  refine ⟨a, cap, by simp, by simpa using h1, h2, fun k hk => ?_⟩
  have hk' : k < qs.length := by simpa using hk
  have key : ∀ j, j < 6 → ∃ b off, a = some ⟨b, off, none⟩ ∧ w.cell? ⟨b, off + k * 6 + j, none⟩ = some ((nodeRow qs[k].1 qs[k].2).getD j undef) := fun j hj => by
    obtain ⟨b, off, e, c⟩ := hc (k * 6 + j) (by rw [nodeCells_len]; omega)
    rw [nodeCells_at qs k j hk' hj, ← Nat.add_assoc] at c
    exact ⟨b, off, e, c⟩
  obtain ⟨b, off, rfl, c0⟩ := key 0 (by omega)
  obtain ⟨_, _, e1, c1⟩ := key 1 (by omega); cases e1
  obtain ⟨_, _, e2, c2⟩ := key 2 (by omega); cases e2
  obtain ⟨_, _, e3, c3⟩ := key 3 (by omega); cases e3
  obtain ⟨_, _, e4, c4⟩ := key 4 (by omega); cases e4
  obtain ⟨_, _, e5, c5⟩ := key 5 (by omega); cases e5
  have hlt : b < w.heap.size := by
    by_cases hlt : b < w.heap.size
    · exact hlt
    · exfalso; simp [World.cell?, Array.getElem?_eq_none (Nat.le_of_not_lt hlt)] at c0
  have hm := hq qs[k] (List.getElem_mem hk')
  refine ⟨b, off, qs[k].2.1, qs[k].2.2, rfl, hlt, ?_, ?_, ?_, ?_, ?_, ?_, ?_, ?_⟩
  · simpa [nodeRow] using c0
  · simpa [nodeRow] using c1
  · simpa [nodeRow] using c2
  · simpa [nodeRow] using c3
  · simpa [nodeRow] using c4
  · simpa [nodeRow] using c5
  · simpa using hm.1
  · simpa using hm.2
end Go.Proofs.YthdfhckmgneioaaGreat
