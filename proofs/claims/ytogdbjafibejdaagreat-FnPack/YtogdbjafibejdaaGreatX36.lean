/- The draw of a place in a tree: l6DrawAt. No condition. -/
import Derived.Test.YtogdbjafibejdaaGreatX34
import Derived.Test.YtogdbjafibejdaaGreatX32
namespace Go.Proofs.YtogdbjafibejdaaGreat
open Go.RowKit
set_option maxRecDepth 100000
set_option linter.unusedVariables false
end Go.Proofs.YtogdbjafibejdaaGreat

/- Nodes of a tree of the call's own, one field of one node turned; what an arena's step leaves. No condition. -/
namespace Go.Proofs.YtogdbjafibejdaaGreat
open Go.RowKit
set_option maxRecDepth 100000
set_option linter.unusedVariables false

theorem OwnQ.len {B : Nat} {w : World} {a : Option Addr} {n cap : Nat} {qs : List (PNode × (Value × Value))} (h : OwnQ B w (.slice a n cap) qs) : n = qs.length := by
  rcases h.1.2 with ⟨e, e2⟩ | ⟨g', cap', cur, e, _⟩
  · cases e; exact e2.symm
  · cases e; rfl
theorem OwnQ.cellAt {B : Nat} {w : World} {g n cap : Nat} {qs : List (PNode × (Value × Value))} (h : OwnQ B w (.slice (some ⟨g, 0, none⟩) n cap) qs) {c j : Nat} (hc : c < qs.length) (hj : j < 6) : w.cell? ⟨g, c * 6 + j, none⟩ = some ((nodeRow qs[c].1 qs[c].2).getD j undef) := by
  have hl : c * 6 + j < (nodeCells qs).length := by rw [nodeCells_len]; omega
  have hn := h.len
  subst hn
  have hcell := World.ownsRow.cellAt h.1 (c * 6 + j) (by omega)
  have hat := nodeCells_at qs c j hc hj
  rw [hcell, List.getElem?_eq_getElem hl]
  rw [List.getD_eq_getElem?_getD, List.getElem?_eq_getElem hl] at hat
  simp only [Option.getD_some] at hat
  rw [hat]
theorem OwnQ.frozenAt {B : Nat} {w : World} {g n cap : Nat} {qs : List (PNode × (Value × Value))} (h : OwnQ B w (.slice (some ⟨g, 0, none⟩) n cap) qs) (j : Nat) : w.frozen? ⟨g, j, none⟩ = false := by
  have hn := h.len
  subst hn
  exact World.ownsRow.frozenAt h.1 j
theorem OwnQ.set {B : Nat} {w : World} {g n cap : Nat} {qs : List (PNode × (Value × Value))} (h : OwnQ B w (.slice (some ⟨g, 0, none⟩) n cap) qs) {c j : Nat} (hc : c < qs.length) (hj : j < 6) {u : Value} {q : PNode × (Value × Value)} (hq : nodeRow q.1 q.2 = (nodeRow qs[c].1 qs[c].2).set j u)
    (hl : w.ownsRow B 115 2 q.2.1 q.1.attrs.length (pairCells q.1.attrs) ∧ Own B 3 .i64 w q.2.2 q.1.kids) : OwnQ B (w.setCell ⟨g, c * 6 + j, none⟩ u) (.slice (some ⟨g, 0, none⟩) n cap) (qs.set c q) := by
  have hn := h.len
  subst hn
  have hst := World.ownsRow.stored h.1 (c * 6 + j) u
  rw [← nodeCells_set qs c hc q j hj u hq] at hst
  refine ⟨by rw [List.length_set]; exact hst.1, fun p hp => ?_⟩
  rcases List.mem_or_eq_of_mem_set hp with hp | rfl
  · exact lists_kept h.1 hst.2 (h.2 p hp)
  · exact lists_kept h.1 hst.2 hl
theorem OwnQ.par {B : Nat} {w : World} {g n cap : Nat} {qs : List (PNode × (Value × Value))} (h : OwnQ B w (.slice (some ⟨g, 0, none⟩) n cap) qs) {c : Nat} (hc : c < qs.length) (x : Int) : OwnQ B (w.setCell ⟨g, c * 6 + 4, none⟩ (.int .i64 x)) (.slice (some ⟨g, 0, none⟩) n cap) (qs.set c (parQ qs[c] x)) :=
  h.set hc (by omega) (by simp [parQ, nodeRow]) (h.2 qs[c] (List.getElem_mem hc))
theorem OwnQ.kid {B : Nat} {w : World} {g n cap : Nat} {qs : List (PNode × (Value × Value))} (h : OwnQ B w (.slice (some ⟨g, 0, none⟩) n cap) qs) {c : Nat} (hc : c < qs.length) {ks : List Int} {u : Value} (hu : Own B 3 .i64 w u ks) : OwnQ B (w.setCell ⟨g, c * 6 + 5, none⟩ u) (.slice (some ⟨g, 0, none⟩) n cap) (qs.set c (kidQ qs[c] ks u)) :=
  h.set hc (by omega) (by simp [kidQ, nodeRow]) ⟨(h.2 qs[c] (List.getElem_mem hc)).1, hu⟩

theorem apart_par {qs : List (PNode × (Value × Value))} (h : Apart qs) {c : Nat} (hc : c < qs.length) (x : Int) : Apart (qs.set c (parQ qs[c] x)) := by
  intro i j hi hj g e1 e2
  rw [List.length_set] at hi hj
  have key : ∀ k (hk : k < qs.length), ((qs.set c (parQ qs[c] x))[k]'(by rw [List.length_set]; exact hk)).2.2 = qs[k].2.2 := fun k hk => by
    rw [List.getElem_set]
    split
    · rename_i e; subst e; rfl
    · rfl
  rw [key i hi] at e1
  rw [key j hj] at e2
  exact h i j hi hj g e1 e2
theorem apart_kid {qs : List (PNode × (Value × Value))} (h : Apart qs) {c : Nat} (hc : c < qs.length) {ks : List Int} {u : Value} (hu : ∀ g, u.ownBlock = some g → qs[c].2.2.ownBlock = some g ∨ ∀ p ∈ qs, p.2.2.ownBlock ≠ some g) : Apart (qs.set c (kidQ qs[c] ks u)) := by
  intro i j hi hj g e1 e2
  rw [List.length_set] at hi hj
  have key : ∀ k (hk : k < qs.length), ((qs.set c (kidQ qs[c] ks u))[k]'(by rw [List.length_set]; exact hk)).2.2 = if c = k then u else qs[k].2.2 := fun k hk => by
    rw [List.getElem_set]
    split
    · rename_i e; subst e; rfl
    · rfl
  rw [key i hi] at e1
  rw [key j hj] at e2
  have hno : ∀ k (hk : k < qs.length), c ≠ k → qs[k].2.2.ownBlock = some g → u.ownBlock = some g → False := fun k hk hne e e' => by
    rcases hu g e' with h1 | h1
    · exact hne (h c k hc hk g h1 e)
    · exact h1 _ (List.getElem_mem hk) e
  by_cases h1 : c = i
  · by_cases h2 : c = j
    · omega
    · rw [if_pos h1] at e1
      rw [if_neg h2] at e2
      exact (hno j hj h2 e2 e1).elim
  · rw [if_neg h1] at e1
    by_cases h2 : c = j
    · rw [if_pos h2] at e2
      exact (hno i hi h1 e1 e2).elim
    · rw [if_neg h2] at e2
      exact h i j hi hj g e1 e2

theorem OwnQ.grown {B r : Nat} {w w' : World} {v : Value} {qs : List (PNode × (Value × Value))} (h : OwnQ B w v qs) (hg : w.grownBy w' (some r)) {cs : Array Value} {fr : Nat × Nat} (hr : w.heap[r]? = some (.cells cs 3 fr)) (hne : ∀ q ∈ qs, q.2.2.ownBlock ≠ some r) : OwnQ B w' v qs := h.keptInt hg hr hne

structure TurnQ (g : Nat) (qs : List (PNode × (Value × Value))) (w w' : World) : Prop where
  os : w'.os = w.os
  tape : w'.tape = w.tape
  output : w'.output = w.output
  size : w.heap.size ≤ w'.heap.size
  block : ∀ j, j < w.heap.size → j ≠ g → (∀ q ∈ qs, q.2.2.ownBlock ≠ some j) → w'.heap[j]? = w.heap[j]?
theorem TurnQ.of_row {g : Nat} {qs : List (PNode × (Value × Value))} {w w' : World} (h : w.grownBy w' (some g)) : TurnQ g qs w w' := ⟨h.os, h.tape, h.output, h.size, fun j hj hg _ => h.block j hj (fun e => by injection e with e; exact hg e)⟩
theorem TurnQ.trans {g : Nat} {qs qs1 : List (PNode × (Value × Value))} {w w1 w2 : World} (h : TurnQ g qs w w1) (k : TurnQ g qs1 w1 w2) (hq : ∀ p ∈ qs1, ∀ r, p.2.2.ownBlock = some r → (∃ q ∈ qs, q.2.2.ownBlock = some r) ∨ w.heap.size ≤ r) : TurnQ g qs w w2 :=
  ⟨k.os.trans h.os, k.tape.trans h.tape, k.output.trans h.output, Nat.le_trans h.size k.size, fun j hj hg hn => (k.block j (Nat.lt_of_lt_of_le hj h.size) hg (fun p hp e => by
    rcases hq p hp j e with ⟨q, hq1, hq2⟩ | hq1
    · exact hn q hq1 hq2
    · omega)).trans (h.block j hj hg hn)⟩
theorem TurnQ.other {B g : Nat} {v : Value} {qs : List (PNode × (Value × Value))} {w w' : World} {n cap : Nat} (h : TurnQ g qs w w') (ho : OwnQ B w (.slice (some ⟨g, 0, none⟩) n cap) qs) {j : Nat} (hj : j < w.heap.size) (hb : j < B ∨ ∀ cs t fr, w.heap[j]? = some (.cells cs t fr) → t ≠ 36 ∧ t ≠ 3) : w'.heap[j]? = w.heap[j]? := by
  have hrow := ho.1
  refine h.block j hj (fun e => ?_) (fun q hq e => ?_)
  · subst e
    rcases hrow.2 with ⟨e1, _⟩ | ⟨g', cap', cur, e1, hB, hh, _⟩
    · cases e1
    · cases e1
      rcases hb with hb | hb
      · omega
      · exact (hb _ _ _ hh).1 rfl
  · have ho2 := (ho.2 q hq).2
    rcases ho2.2 with ⟨e1, _⟩ | ⟨g', cap', cur, e1, hB, hh, _⟩
    · rw [e1] at e; cases e
    · rw [e1] at e
      cases e
      rcases hb with hb | hb
      · exact absurd hb (Nat.not_lt.mpr hB)
      · exact (hb _ _ _ hh).2 rfl
end Go.Proofs.YtogdbjafibejdaaGreat
