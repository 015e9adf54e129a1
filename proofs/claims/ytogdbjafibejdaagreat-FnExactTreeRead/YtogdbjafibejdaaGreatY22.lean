/- Trees of one node: made by the specification and by the program. -/
import Derived.Test.YtogdbjafibejdaaGreatY20
import Derived.Test.YtogdbjafibejdaaGreatY17
import Derived.Deep.RegionLaw
namespace Go.Proofs.YtogdbjafibejdaaGreat
open Go.RowKit
set_option maxRecDepth 100000
set_option linter.unusedVariables false

def bareNode (k p : Int) (n t : ByteArray) : List Value := [.int .i64 k, .string n, .slice none 0 0, .string t, .int .i64 p, .slice none 0 0]
def OneTree (B : Nat) (w : World) (u : Value) (k p : Int) (n t : ByteArray) : Prop := ∃ v, u = .agg #[v] ∧ w.ownsRow B 36 6 v 1 (bareNode k p n t)
theorem OneTree.slice {B : Nat} {w : World} {u : Value} {k p : Int} {n t : ByteArray} (h : OneTree B w u k p n t) : ∃ g cap, u = .agg #[.slice (some ⟨g, 0, none⟩) 1 cap] ∧ B ≤ g ∧ g < w.heap.size ∧ w.ownsRow B 36 6 (.slice (some ⟨g, 0, none⟩) 1 cap) 1 (bareNode k p n t) := by
  obtain ⟨v, rfl, ho⟩ := h
  have h' := ho
  obtain ⟨_, ⟨_, e⟩ | ⟨g, cap, cur, rfl, hB, hh, _⟩⟩ := h'
  · cases e
  · exact ⟨g, cap, rfl, hB, lt_of_block hh, ho⟩
theorem OneTree.below {B : Nat} {w w' : World} {u : Value} {k p : Int} {n t : ByteArray} (h : OneTree B w u k p n t) (hb : Below w.heap.size w w') : OneTree B w' u k p n t := by
  obtain ⟨v, rfl, ho⟩ := h
  refine ⟨v, rfl, ?_⟩
  obtain ⟨a1, a2 | ⟨g', c', cu', e1, e2, e3, e4⟩⟩ := ho
  · exact ⟨a1, .inl a2⟩
  · exact ⟨a1, .inr ⟨g', c', cu', e1, e2, by rw [hb.block g' (lt_of_block e3)]; exact e3, e4⟩⟩

theorem step_app_own {P : Program} {ops : Array Oper} {o : Oper} {a : Act} {w : World} {K : Act → World → Prop} {Q : Exit → Act → World → Prop} {E : Prop}
    (hg : o.guard = none) (s x : Operand) (t : TypeId) (hop : o.op = Op.call { callee := Callee.builtin Builtin.append, args := #[s, x], argTypes := #[t, t] })
    (B : Nat) (e : TypeId) (i : TypeInfo) (z : Value) (size bytes : Nat) (h1 : P.underlying t = some (.slice e)) (h2 : P.info? e = some i) (h3 : i.zero = some z) (h4 : i.size = size) (h5 : i.bytes = bytes) (h6 : z.cells.size = size) (h7 : 0 < size)
    (v : Value) (n : Nat) (xs : List Value) (hs : a.eval s = v) (hown : w.ownsRow B e size v n xs)
    (ad : Addr) (m c : Nat) (news : List Value) (hx : a.eval x = .slice (some ad) m c) (hn : news.length = m * size) (hc : ∀ j u, news[j]? = some u → w.cell? (ad.add j) = some u) (h1c : ∀ u ∈ news, u.oneCell' = true)
    (b1 : n + m ≤ maxLen) (b2 : (n + m) * bytes ≤ 140737488355328) (hB : B ≤ w.heap.size)
    (hK : ∀ v' w', w'.ownsRow B e size v' (n + m) (xs ++ news) → w.grownBy w' v.ownBlock → K (a.put o.dst v') w') :
    if Region.wanted o (yielded ops a.tmps) = true then Oper.wp P o a w K Q else E := by
  have hw : Region.wanted o (yielded ops a.tmps) = true := by simp [Region.wanted, hg]
  rw [if_pos hw]
  exact wp_append_own w s x t hop B e i z size bytes h1 h2 h3 h4 h5 h6 h7 v n xs hs hown ad m c news hx hn hc h1c b1 b2 hB fun v' w' o1 o2 _ => hK v' w' o1 o2

theorem one_form {B : Nat} {w : World} {e size : Nat} {v : Value} {n : Nat} {xs : List Value} (h : w.ownsRow B e size v n xs) (hn : 0 < n) : ∃ g cap, v = .slice (some ⟨g, 0, none⟩) n cap ∧ B ≤ g ∧ g < w.heap.size := by
  obtain ⟨_, ⟨_, e⟩ | ⟨g, cap, cur, rfl, hB, hh, _⟩⟩ := h
  · omega
  · exact ⟨g, cap, rfl, hB, lt_of_block hh⟩

theorem setAt {w : World} {b k : Nat} {cs : Array Value} {u : Value} {t : TypeId} (h : w.heap[b]? = some (.cells cs t (0, 0))) : (w.setCell ⟨b, k, none⟩ u).heap[b]? = some (.cells (cs.setIfInBounds k u) t (0, 0)) := by
  have hlt := lt_of_block h
  have h' : w.heap[b] = .cells cs t (0, 0) := by simpa [Array.getElem?_eq_getElem hlt] using h
  show (w.heap.modify b _)[b]? = _
  rw [Array.getElem?_eq_getElem (by simpa using hlt), Array.getElem_modify_self, h']
  rfl
theorem set_by (w : World) (b k : Nat) (u : Value) : w.grownBy (w.setCell ⟨b, k, none⟩ u) (some b) :=
  ⟨rfl, rfl, rfl, by simp [World.setCell], fun j _ hj => Below.heap_setCell _ _ _ j (fun e => hj (by rw [e]))⟩
theorem below_by {w w' : World} (g : Nat) (h : Below w.heap.size w w') : w.grownBy w' (some g) := ⟨h.os, h.tape, h.output, h.size, fun j hj _ => h.block j hj⟩
theorem OneRow.set {B e size : Nat} {w : World} {v : Value} {n : Nat} {xs : List Value} (h : w.ownsRow B e size v n xs) {a : Nat} (ha : a < B) (u : Value) : (w.setCell ⟨a, 0, none⟩ u).ownsRow B e size v n xs := by
  obtain ⟨h1, h2 | ⟨g, cap, cur, e1, e2, e3, e4⟩⟩ := h
  · exact ⟨h1, .inl h2⟩
  · exact ⟨h1, .inr ⟨g, cap, cur, e1, e2, ((set_by w a 0 u).block g (lt_of_block e3) (fun e => by injection e with e; omega)).trans e3, e4⟩⟩

set_option maxHeartbeats 1000000 in
theorem itree_any {w : World} {a g n cap : Nat} (ha : w.heap[a]? = some (.cells #[.slice (some ⟨g, 0, none⟩) n cap] 77 (0, 0))) :
    Calls Tryz.prog 51 #[.pointer (some ⟨a, 0, none⟩)] w fun e w' => e = .returned (.agg #[.slice (some ⟨g, 0, none⟩) n cap]) ∧ Below w.heap.size w w' := by
  have cA : w.cell? ⟨a, 0, none⟩ = some (.slice (some ⟨g, 0, none⟩) n cap) := by simp only [World.cell?, ha]; rfl
  have hlt := lt_of_block ha
  clear ha
  go_enter Tryz.func51, Tryz.ntmps51
  go_wp2
  have hz := heap_alloc_new w (.cells #[.slice (some ⟨g, 0, none⟩) n cap] 26)
  refine bodyPost_ret (results_cell_row rfl _ _ w.heap.size 26 _ (0, 0) _ rfl hz Tryz.underlying26 rfl rfl) rfl ?_
  exact ⟨rfl, (Below.refl _ _).alloc (Nat.le_refl _) _⟩

end Go.Proofs.YtogdbjafibejdaaGreat
