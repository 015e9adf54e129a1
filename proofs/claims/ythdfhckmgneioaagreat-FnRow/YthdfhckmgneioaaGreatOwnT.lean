/- Nodes that the call itself made. No condition. -/
import Derived.Test.YthdfhckmgneioaaGreatTreeP
import Derived.Test.YthdfhckmgneioaaGreatGrowV
namespace Go.Proofs.YthdfhckmgneioaaGreat
open Go.RowKit
set_option maxRecDepth 100000
set_option linter.unusedVariables false

/-- The slice value v has the nodes 'ns'; its row and the lists of its nodes are the call's own, from block B on. -/
def OwnN (B : Nat) (w : World) (v : Value) (ns : List PNode) : Prop :=
  ∃ qs : List (PNode × (Value × Value)), qs.map (fun q => q.1) = ns ∧ w.ownsRow B 37 6 v ns.length (nodeCells qs) ∧
    ∀ q ∈ qs, w.ownsRow B 110 2 q.2.1 q.1.attrs.length (pairCells q.1.attrs) ∧ Own B 3 .i64 w q.2.2 q.1.kids

theorem sl_of_own' {B : Nat} {e : TypeId} {K : IntKind} {w : World} {v : Value} {xs : List Int} (h : Own B e K w v xs) : Sl K w v xs := h.sl
theorem OwnN.nodes {B : Nat} {w : World} {v : Value} {ns : List PNode} (h : OwnN B w v ns) : NodesAt w v ns := by
  obtain ⟨qs, h1, h2, h3⟩ := h
  exact ⟨qs, h1, sv_of_own h2, fun q hq => ⟨sv_of_own (h3 q hq).1, (h3 q hq).2.sl⟩⟩
theorem OwnN.below {B : Nat} {w w' : World} {v : Value} {ns : List PNode} (h : OwnN B w v ns) (hb : Below w.heap.size w w') : OwnN B w' v ns := by
  obtain ⟨qs, h1, h2, h3⟩ := h
  exact ⟨qs, h1, ownsRow_below h2 hb, fun q hq => ⟨ownsRow_below (h3 q hq).1 hb, (h3 q hq).2.below hb⟩⟩
theorem ownsRow_base {B B' : Nat} {e : TypeId} {size n : Nat} {w : World} {v : Value} {xs : List Value} (h : w.ownsRow B e size v n xs) (hB : B' ≤ B) : w.ownsRow B' e size v n xs := by
  obtain ⟨hl, hv | ⟨g, cap, cur, hv, hb, r⟩⟩ := h
  · exact ⟨hl, .inl hv⟩
  · exact ⟨hl, .inr ⟨g, cap, cur, hv, Nat.le_trans hB hb, r⟩⟩
theorem OwnN.base {B B' : Nat} {w : World} {v : Value} {ns : List PNode} (h : OwnN B w v ns) (hB : B' ≤ B) : OwnN B' w v ns := by
  obtain ⟨qs, h1, h2, h3⟩ := h
  exact ⟨qs, h1, ownsRow_base h2 hB, fun q hq => ⟨ownsRow_base (h3 q hq).1 hB, (h3 q hq).2.base hB⟩⟩
theorem ownN_nil (B : Nat) (w : World) : OwnN B w (.slice none 0 0) [] := ⟨[], rfl, ⟨rfl, .inl ⟨rfl, rfl⟩⟩, fun q hq => by cases hq⟩
/-- A row of one kind is kept where a block of another kind is turned. -/
theorem kept_of_type {B e size n : Nat} {w w' : World} {v : Value} {xs : List Value} {row : Option Nat} (h : w.ownsRow B e size v n xs) (hg : w.grownBy w' row) (hr : ∀ r, row = some r → ∃ cs t fr, w.heap[r]? = some (.cells cs t fr) ∧ t ≠ e) : w'.ownsRow B e size v n xs := by
  refine h.kept hg ?_
  rcases h.2 with ⟨rfl, _⟩ | ⟨g, cap, cur, rfl, _, hh, _⟩
  · exact .inl rfl
  · refine .inr fun er => ?_
    obtain ⟨cs, t, fr, h1, h2⟩ := hr g er.symm
    rw [hh] at h1
    cases h1
    exact h2 rfl
/-- Where the row of nodes alone is turned, the lists stay. -/
theorem lists_kept {B : Nat} {w w' : World} {v : Value} {n : Nat} {xs : List Value} (hv : w.ownsRow B 37 6 v n xs) (hg : w.grownBy w' v.ownBlock) {q : PNode × (Value × Value)}
    (h : w.ownsRow B 110 2 q.2.1 q.1.attrs.length (pairCells q.1.attrs) ∧ Own B 3 .i64 w q.2.2 q.1.kids) : w'.ownsRow B 110 2 q.2.1 q.1.attrs.length (pairCells q.1.attrs) ∧ Own B 3 .i64 w' q.2.2 q.1.kids := by
  have key : ∀ r, v.ownBlock = some r → ∃ cs fr, w.heap[r]? = some (.cells cs 37 fr) := fun r hr => by
    rcases hv.2 with ⟨rfl, _⟩ | ⟨g, cap, cur, rfl, _, hh, _⟩
    · cases hr
    · cases hr; exact ⟨_, _, hh⟩
  exact ⟨kept_of_type h.1 hg (fun r hr => by obtain ⟨cs, fr, h1⟩ := key r hr; exact ⟨cs, _, fr, h1, by decide⟩), kept_of_type h.2 hg (fun r hr => by obtain ⟨cs, fr, h1⟩ := key r hr; exact ⟨cs, _, fr, h1, by decide⟩)⟩
theorem nodeCells_app (qs rs : List (PNode × (Value × Value))) : nodeCells (qs ++ rs) = nodeCells qs ++ nodeCells rs := by simp [nodeCells]
theorem node_oneCell {B : Nat} {w : World} {q : PNode × (Value × Value)} (h : w.ownsRow B 110 2 q.2.1 q.1.attrs.length (pairCells q.1.attrs) ∧ Own B 3 .i64 w q.2.2 q.1.kids) : ∀ y ∈ nodeRow q.1 q.2, y.oneCell' = true := by
  have one : ∀ {e size n : Nat} {xs : List Value} {u : Value}, w.ownsRow B e size u n xs → u.oneCell' = true := fun h => by
    rcases h.2 with ⟨rfl, _⟩ | ⟨g, cap, cur, rfl, _⟩ <;> rfl
  intro y hy
  simp only [nodeRow, List.mem_cons, List.not_mem_nil, or_false] at hy
  rcases hy with rfl | rfl | rfl | rfl | rfl | rfl
  · rfl
  · rfl
  · exact one h.1
  · rfl
  · rfl
  · exact one h.2
/-- A node more at the end. -/
theorem OwnN.snoc {B : Nat} {w w' : World} {v v' : Value} {qs : List (PNode × (Value × Value))} {q : PNode × (Value × Value)} (h2 : w.ownsRow B 37 6 v qs.length (nodeCells qs))
    (h3 : ∀ q ∈ qs, w.ownsRow B 110 2 q.2.1 q.1.attrs.length (pairCells q.1.attrs) ∧ Own B 3 .i64 w q.2.2 q.1.kids) (hq : w.ownsRow B 110 2 q.2.1 q.1.attrs.length (pairCells q.1.attrs) ∧ Own B 3 .i64 w q.2.2 q.1.kids)
    (ho : w'.ownsRow B 37 6 v' (qs.length + 1) (nodeCells qs ++ nodeRow q.1 q.2)) (hg : w.grownBy w' v.ownBlock) : OwnN B w' v' (qs.map (fun q => q.1) ++ [q.1]) := by
  refine ⟨qs ++ [q], by simp, ?_, fun p hp => ?_⟩
  · rw [nodeCells_app]; simpa [nodeCells] using ho
  · rcases List.mem_append.mp hp with hp | hp
    · exact lists_kept h2 hg (h3 p hp)
    · simp at hp; subst hp; exact lists_kept h2 hg hq
/-- Nodes are kept where a block of another kind than their rows is turned. -/
theorem OwnN.kept {B : Nat} {w w' : World} {v : Value} {ns : List PNode} {row : Option Nat} (h : OwnN B w v ns) (hg : w.grownBy w' row)
    (hr : ∀ r, row = some r → ∃ cs t fr, w.heap[r]? = some (.cells cs t fr) ∧ t ≠ 37 ∧ t ≠ 110 ∧ t ≠ 3) : OwnN B w' v ns := by
  obtain ⟨qs, h1, h2, h3⟩ := h
  exact ⟨qs, h1, kept_of_type h2 hg (fun r e => by obtain ⟨a, b, c, d, e1, e2, e3⟩ := hr r e; exact ⟨a, b, c, d, e1⟩),
    fun q hq => ⟨kept_of_type (h3 q hq).1 hg (fun r e => by obtain ⟨a, b, c, d, e1, e2, e3⟩ := hr r e; exact ⟨a, b, c, d, e2⟩), kept_of_type (h3 q hq).2 hg (fun r e => by obtain ⟨a, b, c, d, e1, e2, e3⟩ := hr r e; exact ⟨a, b, c, d, e3⟩)⟩⟩
/-- A row of one node, just made. -/
theorem sv_oneNode {w : World} {g : Nat} {q : PNode × (Value × Value)} {t : TypeId} (h : w.heap[g]? = some (.cells (nodeRow q.1 q.2).toArray t (0, 0))) : Sv 6 w (.slice (some ⟨g, 0, none⟩) 1 1) (nodeRow q.1 q.2) := by
  refine ⟨_, 1, 1, rfl, rfl, Nat.le_refl _, by decide, (fun e => by cases e), fun i hi => ⟨g, 0, rfl, ?_⟩⟩
  simp only [World.cell?, h, Nat.zero_add]
  simp [List.getD_eq_getElem?_getD, hi]
end Go.Proofs.YthdfhckmgneioaaGreat
