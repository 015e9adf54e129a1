/- The state of the draws of a row. No condition. -/
import Derived.Test.YthdfhckmgneioaaGreatSHang2
import Derived.Test.YthdfhckmgneioaaGreatAppB
import Derived.Test.YthdfhckmgneioaaGreatRowP
namespace Go.Proofs.YthdfhckmgneioaaGreat
open Go.RowKit
set_option maxRecDepth 100000
set_option linter.unusedVariables false

/-- Nodes that the call made, none of whose lists of Kids lies in block r. -/
def OwnR (B : Nat) (w : World) (v : Value) (ns : List PNode) (r : Nat) : Prop :=
  ∃ qs : List (PNode × (Value × Value)), qs.map (fun q => q.1) = ns ∧ w.ownsRow B 37 6 v ns.length (nodeCells qs) ∧
    ∀ q ∈ qs, (w.ownsRow B 110 2 q.2.1 q.1.attrs.length (pairCells q.1.attrs) ∧ Own B 3 .i64 w q.2.2 q.1.kids) ∧ q.2.2.ownBlock ≠ some r
theorem OwnR.toN {B r : Nat} {w : World} {v : Value} {ns : List PNode} (h : OwnR B w v ns r) : OwnN B w v ns := by
  obtain ⟨qs, h1, h2, h3⟩ := h
  exact ⟨qs, h1, h2, fun q hq => (h3 q hq).1⟩
theorem OwnN.toR {S r : Nat} {w : World} {v : Value} {ns : List PNode} (h : OwnN S w v ns) (hr : r < S) : OwnR S w v ns r := by
  obtain ⟨qs, h1, h2, h3⟩ := h
  exact ⟨qs, h1, h2, fun q hq => ⟨h3 q hq, fun e => by have := ((h3 q hq).2.lt r e).1; omega⟩⟩
theorem OwnR.base {B B' r : Nat} {w : World} {v : Value} {ns : List PNode} (h : OwnR B w v ns r) (hB : B' ≤ B) : OwnR B' w v ns r := by
  obtain ⟨qs, h1, h2, h3⟩ := h
  exact ⟨qs, h1, ownsRow_base h2 hB, fun q hq => ⟨⟨ownsRow_base (h3 q hq).1.1 hB, (h3 q hq).1.2.base hB⟩, (h3 q hq).2⟩⟩
theorem OwnR.below {B r : Nat} {w w' : World} {v : Value} {ns : List PNode} (h : OwnR B w v ns r) (hb : Below w.heap.size w w') : OwnR B w' v ns r := by
  obtain ⟨qs, h1, h2, h3⟩ := h
  exact ⟨qs, h1, ownsRow_below h2 hb, fun q hq => ⟨⟨ownsRow_below (h3 q hq).1.1 hb, (h3 q hq).1.2.below hb⟩, (h3 q hq).2⟩⟩
/-- What lies below the base is turned: the nodes stay. -/
theorem OwnR.low {B r : Nat} {w w' : World} {v : Value} {ns : List PNode} {row : Option Nat} (h : OwnR B w v ns r) (hg : w.grownBy w' row) (hr : ∀ k, row = some k → k < B) : OwnR B w' v ns r := by
  obtain ⟨qs, h1, h2, h3⟩ := h
  have key : ∀ {e size n : Nat} (u : Value) {xs : List Value}, w.ownsRow B e size u n xs → w'.ownsRow B e size u n xs := fun {e size n} u {xs} h => by
    refine h.kept hg ?_
    by_cases hv : u.ownBlock = none
    · exact .inl hv
    · refine .inr fun e => ?_
      cases hrow : row with
      | none => rw [hrow] at e; exact hv e
      | some k => have h4 := hr k hrow; rw [hrow] at e; have := (h.lt k e).1; omega
  exact ⟨qs, h1, key _ h2, fun q hq => ⟨⟨key _ (h3 q hq).1.1, key _ (h3 q hq).1.2⟩, (h3 q hq).2⟩⟩
theorem OwnR.typ {B r : Nat} {w w' : World} {v : Value} {ns : List PNode} {row : Option Nat} (h : OwnR B w v ns r) (hg : w.grownBy w' row)
    (hr : ∀ r, row = some r → ∃ cs t fr, w.heap[r]? = some (.cells cs t fr) ∧ t ≠ 37 ∧ t ≠ 110 ∧ t ≠ 3) : OwnR B w' v ns r := by
  obtain ⟨qs, h1, h2, h3⟩ := h
  exact ⟨qs, h1, kept_of_type h2 hg (fun r e => by obtain ⟨a, b, c, d, e1, e2, e3⟩ := hr r e; exact ⟨a, b, c, d, e1⟩),
    fun q hq => ⟨⟨kept_of_type (h3 q hq).1.1 hg (fun r e => by obtain ⟨a, b, c, d, e1, e2, e3⟩ := hr r e; exact ⟨a, b, c, d, e2⟩), kept_of_type (h3 q hq).1.2 hg (fun r e => by obtain ⟨a, b, c, d, e1, e2, e3⟩ := hr r e; exact ⟨a, b, c, d, e3⟩)⟩, (h3 q hq).2⟩⟩
/-- Block r, of integers, is turned: the nodes stay, and none of their lists is the new row's. -/
theorem OwnR.app {B r r' : Nat} {w w' : World} {v : Value} {ns : List PNode} (h : OwnR B w v ns r) (hg : w.grownBy w' (some r)) {cs : Array Value} {fr : Nat × Nat} (ht : w.heap[r]? = some (.cells cs 3 fr)) (hr : r' = r ∨ w.heap.size ≤ r') : OwnR B w' v ns r' := by
  obtain ⟨qs, h1, h2, h3⟩ := h
  refine ⟨qs, h1, kept_of_type h2 hg (fun k e => by cases e; exact ⟨_, _, _, ht, by decide⟩), fun q hq => ⟨⟨kept_of_type (h3 q hq).1.1 hg (fun k e => by cases e; exact ⟨_, _, _, ht, by decide⟩), World.ownsRow.kept (h3 q hq).1.2 hg (.inr (h3 q hq).2)⟩, fun e => ?_⟩⟩
  rcases hr with rfl | hr
  · exact (h3 q hq).2 e
  · have := ((h3 q hq).1.2.lt r' e).2; omega
theorem own_blk {B r n c : Nat} {w : World} {xs : List Int} (h : Own B 3 .i64 w (.slice (some ⟨r, 0, none⟩) n c) xs) : ∃ cs, w.heap[r]? = some (.cells cs 3 (0, 0)) := by
  obtain ⟨_, ⟨e, _⟩ | ⟨g, cap, cur, e, _, hh, _⟩⟩ := h
  · cases e
  · cases e; exact ⟨_, hh⟩
theorem own_low {B e : Nat} {K : IntKind} {w w' : World} {v : Value} {xs : List Int} {row : Option Nat} (h : Own B e K w v xs) (hg : w.grownBy w' row) (hr : ∀ k, row = some k → k < B) : Own B e K w' v xs := by
  refine World.ownsRow.kept h hg ?_
  by_cases hv : v.ownBlock = none
  · exact .inl hv
  · refine .inr fun e => ?_
    cases hrow : row with
    | none => rw [hrow] at e; exact hv e
    | some k => have h4 := hr k hrow; rw [hrow] at e; have := (h.lt k e).1; omega

def drawNames : List ByteArray := [⟨#[104, 116, 109, 108]⟩, ⟨#[98, 111, 100, 121]⟩, ⟨#[112]⟩, ⟨#[108, 105]⟩, ⟨#[117, 108]⟩, ⟨#[98]⟩, ⟨#[100, 105, 118]⟩, ⟨#[98, 117, 116, 116, 111, 110]⟩, ⟨#[100, 100]⟩, ⟨#[111, 98, 106, 101, 99, 116]⟩, ⟨#[116, 97, 98, 108, 101]⟩, ⟨#[111, 112, 116, 105, 111, 110]⟩, ⟨#[105]⟩, ⟨#[111, 108]⟩, ⟨#[112]⟩, ⟨#[104, 49]⟩, ⟨#[97]⟩]
def namesArr : Array Value := (drawNames.map Value.string).toArray
theorem drawNames_small : ∀ t ∈ drawNames, t.size ≤ 100 := by decide

/-- A small node. -/
def Mild (k : Nat) (n : PNode) : Prop := n.name.size ≤ 100 ∧ n.text.size ≤ 100 ∧ n.attrs = [] ∧ n.kids.length ≤ k
theorem Mild.fit {k : Nat} {n : PNode} (h : Mild k n) (hk : k ≤ 1000) : NodeFit n := ⟨by have := h.1; omega, by have := h.2.1; omega, by rw [h.2.2.1]; simp, by rw [h.2.2.1]; simp, by have := h.2.2.2; omega⟩
/-- What is drawn so far, behind k rounds. -/
structure Drawn (ns : List PNode) (row : List Int) (k : Nat) : Prop where
  cnt : ns.length = k + 1
  mild : ∀ n ∈ ns, Mild k n
  par0 : parOf ns 0 = -1
  rowl : row.length ≤ k
  rowin : ∀ x ∈ row, 0 ≤ x ∧ x < ns.length
theorem drawn_zero : Drawn [⟨1, ⟨#[]⟩, [], ⟨#[]⟩, -1, []⟩] [] 0 :=
  ⟨rfl, fun n hn => by simp at hn; subst hn; exact ⟨by decide, by decide, rfl, by simp⟩, rfl, Nat.le_refl _, fun x hx => by cases hx⟩
theorem parOf_modify {ns : List PNode} {c : Nat} {f : PNode → PNode} (h : c ≠ 0 ∨ ∀ n, (f n).parent = n.parent) : parOf (ns.modify c f) 0 = parOf ns 0 := by
  unfold parOf
  rw [List.getElem?_modify]
  cases ns[0]? with
  | none => rfl
  | some n =>
    rcases h with h | h
    · simp [h]
    · by_cases e : c = 0 <;> simp [e, h]
theorem drawn_succ {ns : List PNode} {row : List Int} {k : Nat} (h : Drawn ns row k) {nm : ByteArray} (hnm : nm.size ≤ 100) {p : Nat} (hp : p < ns.length) :
    Drawn (parN (kidsN (ns ++ [⟨3, nm, [], ⟨#[]⟩, -1, []⟩]) (k + 1) p) (k + 1) p) row (k + 1) := by
  have hc := h.cnt
  have hlen : (parN (kidsN (ns ++ [⟨3, nm, [], ⟨#[]⟩, -1, []⟩]) (k + 1) p) (k + 1) p).length = k + 2 := by simp [parN, kidsN, hc]
  refine ⟨hlen, fun n hn => ?_, ?_, by have := h.rowl; omega, fun x hx => ?_⟩
  · unfold parN at hn
    obtain ⟨i, hi, rfl⟩ := List.mem_iff_getElem.mp hn
    rw [List.getElem_modify]
    have hi' : i < (kidsN (ns ++ [⟨3, nm, [], ⟨#[]⟩, -1, []⟩]) (k + 1) p).length := by simpa using hi
    have hm : Mild (k + 1) (kidsN (ns ++ [⟨3, nm, [], ⟨#[]⟩, -1, []⟩]) (k + 1) p)[i] := by
      simp only [kidsN, List.getElem_modify]
      have hi2 : i < (ns ++ [(⟨3, nm, [], ⟨#[]⟩, -1, []⟩ : PNode)]).length := by simpa [kidsN] using hi'
      have hm0 : Mild k (ns ++ [(⟨3, nm, [], ⟨#[]⟩, -1, []⟩ : PNode)])[i] := by
        rcases List.mem_append.mp (List.getElem_mem hi2) with hx | hx
        · exact h.mild _ hx
        · have hx' := List.mem_singleton.mp hx
          rw [hx']
          exact ⟨hnm, by show (ByteArray.mk #[]).size ≤ 100; decide, rfl, by simp⟩
      split
      · have hll := lessL_len ((k + 1 : Nat) : Int) (ns ++ [(⟨3, nm, [], ⟨#[]⟩, -1, []⟩ : PNode)])[i].kids
        refine ⟨hm0.1, hm0.2.1, hm0.2.2.1, ?_⟩
        have := hm0.2.2.2
        simp only [List.length_append, List.length_singleton]
        omega
      · exact ⟨hm0.1, hm0.2.1, hm0.2.2.1, by have := hm0.2.2.2; omega⟩
    split
    · exact ⟨hm.1, hm.2.1, hm.2.2.1, hm.2.2.2⟩
    · exact hm
  · unfold parN kidsN
    rw [parOf_modify (.inl (by omega)), parOf_modify (f := fun n => ⟨n.kind, n.name, n.attrs, n.text, n.parent, lessL ((k + 1 : Nat) : Int) n.kids ++ [((k + 1 : Nat) : Int)]⟩) (.inr (fun n => rfl))]
    have := h.par0
    unfold parOf at this ⊢
    rw [List.getElem?_append_left (by omega)]
    exact this
  · have := h.rowin x hx
    rw [hlen]; omega
theorem drawn_row {ns : List PNode} {row : List Int} {k : Nat} (h : Drawn ns row k) {j : Nat} (hj : k = j + 1) (hr : row.length ≤ j) : Drawn ns (row ++ [(k : Int)]) k :=
  ⟨h.cnt, h.mild, h.par0, by simp; omega, fun x hx => by
    rcases List.mem_append.mp hx with hx | hx
    · exact h.rowin x hx
    · have := List.mem_singleton.mp hx
      have hc := h.cnt
      subst this
      omega⟩
end Go.Proofs.YthdfhckmgneioaaGreat
