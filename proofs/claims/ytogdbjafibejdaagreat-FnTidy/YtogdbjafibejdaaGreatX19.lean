/- Trees of one node: made by the specification and by the program. -/
import Derived.Test.YtogdbjafibejdaaGreatX14
import Derived.Test.YtogdbjafibejdaaGreatX13
import Derived.Deep.RegionLaw
namespace Go.Proofs.YtogdbjafibejdaaGreat
open Go.RowKit
set_option maxRecDepth 100000
set_option linter.unusedVariables false

/-- The cells of a node without attributes and without kids. -/
def bareNode (k p : Int) (n t : ByteArray) : List Value := [.int .i64 k, .string n, .slice none 0 0, .string t, .int .i64 p, .slice none 0 0]
/-- A tree of one such node, its row the call's own. -/
def OneTree (B : Nat) (w : World) (u : Value) (k p : Int) (n t : ByteArray) : Prop := ∃ v, u = .agg #[v] ∧ w.ownsRow B 36 6 v 1 (bareNode k p n t)
theorem OneTree.slice {B : Nat} {w : World} {u : Value} {k p : Int} {n t : ByteArray} (h : OneTree B w u k p n t) : ∃ g cap, u = .agg #[.slice (some ⟨g, 0, none⟩) 1 cap] ∧ B ≤ g ∧ g < w.heap.size ∧ w.ownsRow B 36 6 (.slice (some ⟨g, 0, none⟩) 1 cap) 1 (bareNode k p n t) := by
  obtain ⟨v, rfl, ho⟩ := h
  have h' := ho
  obtain ⟨_, ⟨_, e⟩ | ⟨g, cap, cur, rfl, hB, hh, _⟩⟩ := h'
  · cases e
  · exact ⟨g, cap, rfl, hB, lt_of_block hh, ho⟩
theorem OneTree.below {B : Nat} {w w' : World} {u : Value} {k p : Int} {n t : ByteArray} (h : OneTree B w u k p n t) (hb : Below w.heap.size w w') : OneTree B w' u k p n t := by
  obtain ⟨v, rfl, ho⟩ := h
  refine ⟨v, rfl, ?_⟩
  obtain ⟨a1, a2 | ⟨g', c', cu', e1, e2, e3, e4⟩⟩ := ho
  · exact ⟨a1, .inl a2⟩
  · exact ⟨a1, .inr ⟨g', c', cu', e1, e2, by rw [hb.block g' (lt_of_block e3)]; exact e3, e4⟩⟩

set_option maxHeartbeats 1000000 in
theorem streeNew_any (w : World) : Calls Tryz.prog 140 #[] w fun e w' => ∃ u, e = .returned u ∧ OneTree w.heap.size w' u 1 (-1) ⟨#[]⟩ ⟨#[]⟩ ∧ Below w.heap.size w w' := by
  go_enter Tryz.func140, Tryz.ntmps140
  go_wp2
  have hz := (Below.heap_alloc (w.alloc (Obj.cells #[Value.slice (some { block := w.heap.size + 1, off := 0 }) 1 1] 26)) (.cells #[Value.int IntKind.i64 1, Value.string { data := #[] }, Value.slice none 0 0, Value.string { data := #[] }, Value.int IntKind.i64 (-1), Value.slice none 0 0] 36) _ (by simp : w.heap.size < _)).trans (heap_alloc_new w _)
  refine bodyPost_ret (results_cell_row rfl _ _ w.heap.size 26 _ (0, 0) _ rfl hz Tryz.underlying26 rfl rfl) rfl ?_
  refine ⟨_, rfl, ⟨_, rfl, ?_⟩, ((Below.refl _ _).alloc (Nat.le_refl _) _).alloc (by simp) _⟩
  have := World.ownsRow_lit (base := w.heap.size) (e := 36) (size := 6) (w.alloc (Obj.cells #[Value.slice (some { block := w.heap.size + 1, off := 0 }) 1 1] 26)) #[Value.int IntKind.i64 1, Value.string { data := #[] }, Value.slice none 0 0, Value.string { data := #[] }, Value.int IntKind.i64 (-1), Value.slice none 0 0] 1 (by simp) (by unfold maxLen; omega) rfl
  rw [show (w.alloc (Obj.cells #[Value.slice (some { block := w.heap.size + 1, off := 0 }) 1 1] 26)).heap.size = w.heap.size + 1 by simp] at this
  exact this

/-- 'append(v, u...)' as one step of a region that draws its order, v the call's own, u with an address. -/
theorem step_app_own {P : Program} {ops : Array Oper} {o : Oper} {a : Act} {w : World} {K : Act → World → Prop} {Q : Exit → Act → World → Prop} {E : Prop}
    (hg : o.guard = none) (s x : Operand) (t : TypeId) (hop : o.op = Op.call { callee := Callee.builtin Builtin.append, args := #[s, x], argTypes := #[t, t] })
    (B : Nat) (e : TypeId) (i : TypeInfo) (z : Value) (size bytes : Nat) (h1 : P.underlying t = some (.slice e)) (h2 : P.info? e = some i) (h3 : i.zero = some z) (h4 : i.size = size) (h5 : i.bytes = bytes) (h6 : z.cells.size = size) (h7 : 0 < size)
    (v : Value) (n : Nat) (xs : List Value) (hs : a.eval s = v) (hown : w.ownsRow B e size v n xs)
    (ad : Addr) (m c : Nat) (news : List Value) (hx : a.eval x = .slice (some ad) m c) (hn : news.length = m * size) (hc : ∀ j u, news[j]? = some u → w.cell? (ad.add j) = some u) (h1c : ∀ u ∈ news, u.oneCell' = true)
    (b1 : n + m ≤ maxLen) (b2 : (n + m) * bytes ≤ 140737488355328) (hB : B ≤ w.heap.size)
    (hK : ∀ v' w', w'.ownsRow B e size v' (n + m) (xs ++ news) → w.grownBy w' v.ownBlock → K (a.put o.dst v') w') :
    if Region.wanted o (yielded ops a.tmps) = true then Oper.wp P o a w K Q else E := by
  have hw : Region.wanted o (yielded ops a.tmps) = true := by simp [Region.wanted, hg]
  rw [if_pos hw]
  exact wp_append_own w s x t hop B e i z size bytes h1 h2 h3 h4 h5 h6 h7 v n xs hs hown ad m c news hx hn hc h1c b1 b2 hB fun v' w' o1 o2 _ => hK v' w' o1 o2

theorem Tryz.infoNode : ∃ i z, Tryz.prog.info? 36 = some i ∧ i.zero = some z ∧ i.size = 6 ∧ i.bytes = 96 ∧ z.cells.size = 6 := ⟨_, _, rfl, rfl, rfl, rfl, rfl⟩

theorem node_news {W : World} {b : Nat} {k p : Int} {n t : ByteArray} (hb : W.heap[b]? = some (.cells (bareNode k p n t).toArray 36 (0, 0))) : ∀ j u, (bareNode k p n t)[j]? = some u → W.cell? ((⟨b, 0, none⟩ : Addr).add j) = some u := by
  intro j u hu
  have hj : j < 6 := by
    by_cases hj : j < 6
    · exact hj
    · rw [List.getElem?_eq_none (by simp [bareNode]; omega)] at hu; cases hu
  have hc : W.cell? ⟨b, j, none⟩ = some u := by
    simp only [World.cell?, hb]
    simpa using hu
  by_cases h0 : j = 0
  · subst h0; simpa [Addr.add] using hc
  · simpa [Addr.add, h0] using hc
theorem node_one (k p : Int) (n t : ByteArray) : ∀ u ∈ bareNode k p n t, u.oneCell' = true := by
  intro u hu
  simp [bareNode] at hu
  rcases hu with rfl | rfl | rfl | rfl | rfl | rfl <;> rfl
/-- What a tree's row is behind an append, spelt out. -/
theorem one_form {B : Nat} {w : World} {e size : Nat} {v : Value} {n : Nat} {xs : List Value} (h : w.ownsRow B e size v n xs) (hn : 0 < n) : ∃ g cap, v = .slice (some ⟨g, 0, none⟩) n cap ∧ B ≤ g ∧ g < w.heap.size := by
  obtain ⟨_, ⟨_, e⟩ | ⟨g, cap, cur, rfl, hB, hh, _⟩⟩ := h
  · omega
  · exact ⟨g, cap, rfl, hB, lt_of_block hh⟩

theorem two_new (w : World) (o1 o2 : Obj) : ((w.alloc o1).alloc o2).drew.heap[w.heap.size + 1]? = some o2 := by
  have := heap_alloc_new (w.alloc o1) o2
  rw [show (w.alloc o1).heap.size = w.heap.size + 1 by simp] at this
  exact this
theorem two_old (w : World) (o1 o2 : Obj) {a : Nat} (h : a < w.heap.size) : ((w.alloc o1).alloc o2).drew.heap[a]? = w.heap[a]? := 
  (Below.heap_alloc (w.alloc o1) o2 _ (by simp; omega)).trans (Below.heap_alloc w o1 _ h)

theorem setAt {w : World} {b k : Nat} {cs : Array Value} {u : Value} {t : TypeId} (h : w.heap[b]? = some (.cells cs t (0, 0))) : (w.setCell ⟨b, k, none⟩ u).heap[b]? = some (.cells (cs.setIfInBounds k u) t (0, 0)) := by
  have hlt := lt_of_block h
  have h' : w.heap[b] = .cells cs t (0, 0) := by simpa [Array.getElem?_eq_getElem hlt] using h
  show (w.heap.modify b _)[b]? = _
  rw [Array.getElem?_eq_getElem (by simpa using hlt), Array.getElem_modify_self, h']
  rfl
theorem set_by (w : World) (b k : Nat) (u : Value) : w.grownBy (w.setCell ⟨b, k, none⟩ u) (some b) :=
  ⟨rfl, rfl, rfl, by simp [World.setCell], fun j _ hj => Below.heap_setCell _ _ _ j (fun e => hj (by rw [e]))⟩
theorem below_by {w w' : World} (g : Nat) (h : Below w.heap.size w w') : w.grownBy w' (some g) := ⟨h.os, h.tape, h.output, h.size, fun j hj _ => h.block j hj⟩
theorem none_by {w w' : World} {v : Value} (g : Nat) (hv : v.ownBlock = none) (h : w.grownBy w' v.ownBlock) : w.grownBy w' (some g) := by
  rw [hv] at h
  exact ⟨h.os, h.tape, h.output, h.size, fun j hj _ => h.block j hj (fun e => by cases e)⟩
theorem two_by (w : World) (o1 o2 : Obj) (g : Nat) : w.grownBy ((w.alloc o1).alloc o2).drew (some g) :=
  below_by g ((((Below.refl _ _).alloc (Nat.le_refl _) o1).alloc (by simp) o2).trans (below_drewN 1))
theorem OneRow.set {B e size : Nat} {w : World} {v : Value} {n : Nat} {xs : List Value} (h : w.ownsRow B e size v n xs) {a : Nat} (ha : a < B) (u : Value) : (w.setCell ⟨a, 0, none⟩ u).ownsRow B e size v n xs := by
  obtain ⟨h1, h2 | ⟨g, cap, cur, e1, e2, e3, e4⟩⟩ := h
  · exact ⟨h1, .inl h2⟩
  · exact ⟨h1, .inr ⟨g, cap, cur, e1, e2, ((set_by w a 0 u).block g (lt_of_block e3) (fun e => by injection e with e; omega)).trans e3, e4⟩⟩

set_option maxHeartbeats 1000000 in
theorem iadd_first {w : World} {a : Nat} (ha : w.heap[a]? = some (.cells #[.slice none 0 0] 77 (0, 0))) (k p : Int) (n t : ByteArray) :
    Calls Tryz.prog 79 #[.pointer (some ⟨a, 0, none⟩), .agg #[.int .i64 k, .string n, .slice none 0 0, .string t, .int .i64 p, .slice none 0 0]] w fun e w' =>
      e = .returned (.int .i64 0) ∧ ∃ v, w'.heap[a]? = some (.cells #[v] 77 (0, 0)) ∧ w'.ownsRow w.heap.size 36 6 v 1 (bareNode k (-1) n t) ∧ w.grownBy w' (some a) := by
  have hlt := lt_of_block ha
  have c0 : w.cell? ⟨a, 0, none⟩ = some (.slice none 0 0) := by simp only [World.cell?, ha]; rfl
  obtain ⟨i0, z0, hi, hz0, hz1, hz2, hz3⟩ := Tryz.infoNode
  have HA := (show Hid _ from ha)
  clear ha
  go_enter Tryz.func79, Tryz.ntmps79
  go_wp2_with fail
  go_region_law (refine step_app_own rfl (.tmp 15) (.tmp 17) 24 rfl w.heap.size 36 i0 z0 6 96 Tryz.underlying24 hi hz0 hz1 hz2 hz3 (by decide) (.slice none 0 0) 0 [] (by simp [Act.eval]) (World.ownsRow_nil _ _ _ _) ⟨w.heap.size + 1, 0, none⟩ 1 1 (bareNode k (-1) n t) (by simp [Act.eval]) rfl (node_news (two_new _ _ _)) (node_one _ _ _ _) (by unfold maxLen; omega) (by omega) (by simp; omega) ?_; intro v' w' ho hg; obtain ⟨g, cap, rfl, hgB, hgl⟩ := one_form ho (by decide); have hA := ((hg.block a (by simp; omega) (fun e => by cases e)).trans (two_old _ _ _ hlt)).trans HA.out; have cA : w'.cell? ⟨a, 0, none⟩ = some (.slice none 0 0) := (by simp only [World.cell?, hA]; rfl); have fA : w'.frozen? ⟨a, 0, none⟩ = false := (by simp only [World.frozen?, hA]; rfl); have HO := (show Hid _ from ho); have HG := (show Hid _ from hg); have HA2 := (show Hid _ from hA); clear ho hg hA)
  all_goals go_wp2
  all_goals go_ret
  all_goals
    refine ⟨rfl, .slice (some ⟨g, 0, none⟩) 1 cap, ?_, ?_, ?_⟩
    · have := setAt (k := 0) (u := .slice (some ⟨g, 0, none⟩) 1 cap) HA2.out
      simpa using this
    · exact OneRow.set HO.out hlt _
    · exact grown_trans (grown_trans (two_by _ _ _ a) (none_by a rfl HG.out)) (set_by _ _ _ _)

set_option maxHeartbeats 1000000 in
theorem itree_any {w : World} {a g n cap : Nat} (ha : w.heap[a]? = some (.cells #[.slice (some ⟨g, 0, none⟩) n cap] 77 (0, 0))) :
    Calls Tryz.prog 51 #[.pointer (some ⟨a, 0, none⟩)] w fun e w' => e = .returned (.agg #[.slice (some ⟨g, 0, none⟩) n cap]) ∧ Below w.heap.size w w' := by
  have cA : w.cell? ⟨a, 0, none⟩ = some (.slice (some ⟨g, 0, none⟩) n cap) := by simp only [World.cell?, ha]; rfl
  have hlt := lt_of_block ha
  clear ha
  go_enter Tryz.func51, Tryz.ntmps51
  go_wp2
  have hz := heap_alloc_new w (.cells #[.slice (some ⟨g, 0, none⟩) n cap] 26)
  refine bodyPost_ret (results_cell_row rfl _ _ w.heap.size 26 _ (0, 0) _ rfl hz Tryz.underlying26 rfl rfl) rfl ?_
  exact ⟨rfl, (Below.refl _ _).alloc (Nat.le_refl _) _⟩

end Go.Proofs.YtogdbjafibejdaaGreat
