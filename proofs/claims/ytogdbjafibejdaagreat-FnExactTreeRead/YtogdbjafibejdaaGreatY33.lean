/- The draw of a tree: l6Opens, l6DrawRight. No condition. -/
import Derived.Test.YtogdbjafibejdaaGreatY32
import Derived.Test.YtogdbjafibejdaaGreatY4
import Derived.Deep.CutRange
import Derived.Test.YtogdbjafibejdaaGreatY28
import Derived.Test.YtogdbjafibejdaaGreatY30
import Derived.Test.YtogdbjafibejdaaGreatY20
import Derived.Test.YtogdbjafibejdaaGreatY24
namespace Go.Proofs.YtogdbjafibejdaaGreat
open Go.RowKit
set_option maxRecDepth 100000
set_option linter.unusedVariables false
def NodeX (w : World) (X : Nat) (nd : PNode) (W : World) : Prop := ∃ (a : Option Addr) (n c : Nat) (p : Int), W.heap[X]? = some (.cells #[.int .i64 nd.kind, .string nd.name, .slice a n c, .string nd.text, .int .i64 p, .slice none 0 0] 36 (0, 0)) ∧ W.ownsRow w.heap.size 115 2 (.slice a n c) nd.attrs.length (pairCells nd.attrs)
theorem NodeX.next {w W W' : World} {X g : Nat} {nd : PNode} (h : NodeX w X nd W) (hg : W.grownBy W' (some g)) (hX : g ≠ X) (hgl : g < w.heap.size) : NodeX w X nd W' := by
  obtain ⟨a, n, c, p, h1, h2⟩ := h
  exact ⟨a, n, c, p, (hg.block _ (blk_lt h1) (fun e => by simp only [Option.some.injEq] at e; omega)).trans h1, row_past h2 hg hgl⟩
theorem OwnN.row {B : Nat} {w : World} {v : Value} {ns : List PNode} (h : OwnN B w v ns) : w.ownsRow B 36 6 v ns.length (nodeCells h.choose) := h.choose_spec.2.1
structure PutW (w0 : World) (g : Nat) (cv : Value) (xs : List Int) (W1 : World) (ns2 : List PNode) (T2 : Nat) (v2 : Value) (W : World) : Prop where
  cur : Cur w0 g cv xs W
  gr : W1.grownBy W (some g)
  bT : W.heap[T2]? = some (.cells #[v2] 26 (0, 0))
  own : OwnN W1.heap.size W v2 ns2
  le : W1.heap.size ≤ T2
theorem six_one {w : World} {b : Nat} {u : Value} {t : TypeId} (h : w.heap[b]? = some (.cells #[u] t (0, 0))) : w.cell? ⟨b, 0, none⟩ = some u ∧ w.frozen? ⟨b, 0, none⟩ = false := ⟨by simp only [World.cell?, h]; rfl, by simp only [World.frozen?, h]; rfl⟩
theorem PutW.next {w0 : World} {g : Nat} {cv : Value} {xs : List Int} {W1 : World} {ns2 : List PNode} {T2 : Nat} {v2 : Value} {W W' : World} (h : PutW w0 g cv xs W1 ns2 T2 v2 W) (hc : Cur w0 g cv xs W') (hg : W.grownBy W' (some g)) (hgl : g < W1.heap.size) : PutW w0 g cv xs W1 ns2 T2 v2 W' :=
  ⟨hc, grown_trans h.gr hg, (hg.block _ (blk_lt h.bT) (fun e => by have := h.le; simp only [Option.some.injEq] at e; omega)).trans h.bT, ownN_low' h.own hg (fun r e => by cases e; exact hgl), h.le⟩
theorem PutW.below {w0 : World} {g : Nat} {cv : Value} {xs : List Int} {W1 : World} {ns2 : List PNode} {T2 : Nat} {v2 : Value} {W W' : World} (h : PutW w0 g cv xs W1 ns2 T2 v2 W) (hb : Below W.heap.size W W') : PutW w0 g cv xs W1 ns2 T2 v2 W' :=
  ⟨h.cur.below hb, grown_below h.gr hb, (hb.block _ (blk_lt h.bT)).trans h.bT, h.own.below hb, h.le⟩
end Go.Proofs.YtogdbjafibejdaaGreat

/- The program's copyOfNodes. No condition. -/
namespace Go.Proofs.YtogdbjafibejdaaGreat
open Go.RowKit
set_option maxRecDepth 100000
set_option linter.unusedVariables false
def Apart (qs : List (PNode × (Value × Value))) : Prop := ∀ i j (hi : i < qs.length) (hj : j < qs.length) (g : Nat), qs[i].2.2.ownBlock = some g → qs[j].2.2.ownBlock = some g → i = j
theorem apart_nil : Apart [] := fun i j hi => absurd hi (by simp)
theorem apart_snoc {qs : List (PNode × (Value × Value))} {q : PNode × (Value × Value)} (h : Apart qs) (hq : ∀ g, q.2.2.ownBlock = some g → ∀ p ∈ qs, p.2.2.ownBlock ≠ some g) : Apart (qs ++ [q]) := by
  intro i j hi hj g e1 e2
  rw [List.getElem_append] at e1 e2
  simp only [List.length_append, List.length_singleton] at hi hj
  split at e1 <;> split at e2
  · exact h i j _ _ g e1 e2
  · rename_i h1 h2
    simp only [List.getElem_singleton] at e2
    exact absurd e1 (hq g e2 _ (List.getElem_mem h1))
  · rename_i h1 h2
    simp only [List.getElem_singleton] at e1
    exact absurd e2 (hq g e1 _ (List.getElem_mem h2))
  · omega

end Go.Proofs.YtogdbjafibejdaaGreat

/- The draw of a tree: l6DrawTree. No condition. -/
namespace Go.Proofs.YtogdbjafibejdaaGreat
open Go.RowKit
set_option maxRecDepth 100000
set_option linter.unusedVariables false
end Go.Proofs.YtogdbjafibejdaaGreat

/- The program's add onto a tree of its own. No condition. -/
namespace Go.Proofs.YtogdbjafibejdaaGreat
open Go.RowKit
set_option maxRecDepth 100000
set_option linter.unusedVariables false

structure AddFr (B a : Nat) (w w' : World) : Prop where
  os : w'.os = w.os
  tape : w'.tape = w.tape
  output : w'.output = w.output
  size : w.heap.size ≤ w'.heap.size
  block : ∀ j, j < w.heap.size → j ≠ a → (j < B ∨ ∀ cs t fr, w.heap[j]? = some (.cells cs t fr) → t ≠ 36) → w'.heap[j]? = w.heap[j]?
theorem AddFr.below {B a : Nat} {w w' : World} (h : AddFr B a w w') (ha : B ≤ a) (hB : B ≤ w.heap.size) : Below B w w' := ⟨h.os, h.tape, h.output, h.size, fun j hj => h.block j (by omega) (by omega) (.inl hj)⟩
theorem AddFr.box {B a : Nat} {w w' : World} (h : AddFr B a w w') {j : Nat} {cs : Array Value} {t : TypeId} {fr : Nat × Nat} (hj : w.heap[j]? = some (.cells cs t fr)) (ht : t ≠ 36) (hne : j ≠ a) : w'.heap[j]? = some (.cells cs t fr) := (h.block j (lt_of_block hj) hne (.inr (fun cs' t' fr' e => by rw [hj] at e; cases e; exact ht))).trans hj

def OwnQ (B : Nat) (w : World) (v : Value) (qs : List (PNode × (Value × Value))) : Prop :=
  w.ownsRow B 36 6 v qs.length (nodeCells qs) ∧ ∀ q ∈ qs, w.ownsRow B 115 2 q.2.1 q.1.attrs.length (pairCells q.1.attrs) ∧ Own B 3 .i64 w q.2.2 q.1.kids
theorem OwnN.q {B : Nat} {w : World} {v : Value} {ns : List PNode} (h : OwnN B w v ns) : ∃ qs, qs.map (fun q => q.1) = ns ∧ OwnQ B w v qs := by
  obtain ⟨qs, h1, h2, h3⟩ := h
  have : qs.length = ns.length := by have := congrArg List.length h1; simpa using this
  exact ⟨qs, h1, by rw [this]; exact h2, h3⟩
theorem OwnQ.n {B : Nat} {w : World} {v : Value} {qs : List (PNode × (Value × Value))} (h : OwnQ B w v qs) : OwnN B w v (qs.map (fun q => q.1)) := ⟨qs, rfl, by rw [List.length_map]; exact h.1, h.2⟩
theorem OwnQ.below {B : Nat} {w w' : World} {v : Value} {qs : List (PNode × (Value × Value))} (h : OwnQ B w v qs) (hb : Below w.heap.size w w') : OwnQ B w' v qs := ⟨ownsRow_below h.1 hb, fun q hq => ⟨ownsRow_below (h.2 q hq).1 hb, (h.2 q hq).2.below hb⟩⟩
theorem OwnQ.base {B B' : Nat} {w : World} {v : Value} {qs : List (PNode × (Value × Value))} (h : OwnQ B w v qs) (hB : B' ≤ B) : OwnQ B' w v qs := ⟨ownsRow_base h.1 hB, fun q hq => ⟨ownsRow_base (h.2 q hq).1 hB, (h.2 q hq).2.base hB⟩⟩
theorem OwnQ.kept {B : Nat} {w w' : World} {v : Value} {qs : List (PNode × (Value × Value))} {row : Option Nat} (h : OwnQ B w v qs) (hg : w.grownBy w' row)
    (hr : ∀ r, row = some r → ∃ cs t fr, w.heap[r]? = some (.cells cs t fr) ∧ t ≠ 36 ∧ t ≠ 115 ∧ t ≠ 3) : OwnQ B w' v qs :=
  ⟨kept_of_type h.1 hg (fun r e => by obtain ⟨a, b, c, d, e1, e2, e3⟩ := hr r e; exact ⟨a, b, c, d, e1⟩),
    fun q hq => ⟨kept_of_type (h.2 q hq).1 hg (fun r e => by obtain ⟨a, b, c, d, e1, e2, e3⟩ := hr r e; exact ⟨a, b, c, d, e2⟩), kept_of_type (h.2 q hq).2 hg (fun r e => by obtain ⟨a, b, c, d, e1, e2, e3⟩ := hr r e; exact ⟨a, b, c, d, e3⟩)⟩⟩
theorem OwnQ.keptInt {B K : Nat} {w w' : World} {v : Value} {qs : List (PNode × (Value × Value))} (h : OwnQ B w v qs) (hg : w.grownBy w' (some K)) {cs : Array Value} {fr : Nat × Nat} (hK : w.heap[K]? = some (.cells cs 3 fr))
    (hne : ∀ q ∈ qs, q.2.2.ownBlock ≠ some K) : OwnQ B w' v qs :=
  ⟨kept_of_type h.1 hg (fun r e => by cases e; exact ⟨_, _, _, hK, by decide⟩),
    fun q hq => ⟨kept_of_type (h.2 q hq).1 hg (fun r e => by cases e; exact ⟨_, _, _, hK, by decide⟩), World.ownsRow.kept (h.2 q hq).2 hg (.inr (hne q hq))⟩⟩
theorem OwnQ.snoc {B : Nat} {w w' : World} {v v' : Value} {qs : List (PNode × (Value × Value))} {q : PNode × (Value × Value)} (h : OwnQ B w v qs) (hq : w.ownsRow B 115 2 q.2.1 q.1.attrs.length (pairCells q.1.attrs) ∧ Own B 3 .i64 w q.2.2 q.1.kids)
    (ho : w'.ownsRow B 36 6 v' (qs.length + 1) (nodeCells qs ++ nodeRow q.1 q.2)) (hg : w.grownBy w' v.ownBlock) : OwnQ B w' v' (qs ++ [q]) := by
  refine ⟨?_, fun p hp => ?_⟩
  · rw [nodeCells_app, List.length_append]; simpa [nodeCells] using ho
  · rcases List.mem_append.mp hp with hp | hp
    · exact lists_kept h.1 hg (h.2 p hp)
    · simp at hp; subst hp; exact lists_kept h.1 hg hq

theorem add_fr {B a : Nat} {w w5 w6 w9 w' : World} {v : Value} {n : Nat} {xs : List Value} (b5 : Below w.heap.size w w5) (b6 : Below w5.heap.size w5 w6) (o : w6.ownsRow B 36 6 v n xs) (g9 : w6.grownBy w9 v.ownBlock) (g : w9.grownBy w' (some a)) : AddFr B a w w' := by
  have b := b5.trans (b6.mono b5.size)
  refine ⟨g.os.trans (g9.os.trans b.os), g.tape.trans (g9.tape.trans b.tape), g.output.trans (g9.output.trans b.output), Nat.le_trans b.size (Nat.le_trans g9.size g.size), fun j hj hja ht => ?_⟩
  have h6 := b.block j hj
  have l6 := Nat.lt_of_lt_of_le hj b.size
  rw [g.block j (Nat.lt_of_lt_of_le l6 g9.size) (fun e => by injection e with e; exact hja e), g9.block j l6 ?_, h6]
  intro e
  have hlt := o.lt j e.symm
  rcases ht with ht | h1
  · omega
  · rcases o.2 with ⟨rfl, _⟩ | ⟨g', cap, cur, rfl, _, hh, _⟩
    · cases e
    · cases e
      rw [h6] at hh
      exact h1 _ _ _ hh rfl

set_option maxHeartbeats 2000000 in
set_option maxRecDepth 100000 in
theorem iadd_all {B a : Nat} {w : World} {v : Value} {qs : List (PNode × (Value × Value))} (ha : w.heap[a]? = some (.cells #[v] 77 (0, 0))) (hO : OwnQ B w v qs) (hB : B ≤ w.heap.size) (hlen : qs.length ≤ 100000) (k p : Int) (nm tx : ByteArray)
    {av1 : Option Addr} {av2 av3 : Nat} {kv1 : Option Addr} {kv2 kv3 : Nat} {rs : List (ByteArray × ByteArray)} (hav : Sv 2 w (.slice av1 av2 av3) (pairCells rs)) (hrs : rs.length ≤ 1048576) :
    Calls Tryz.prog 79 #[.pointer (some ⟨a, 0, none⟩), .agg #[.int .i64 k, .string nm, .slice av1 av2 av3, .string tx, .int .i64 p, .slice kv1 kv2 kv3]] w fun e w' =>
      e = .returned (.int .i64 qs.length) ∧ (∃ v', w'.heap[a]? = some (.cells #[v'] 77 (0, 0)) ∧ ∃ av', OwnQ B w' v' (qs ++ [(⟨k, nm, rs, tx, -1, []⟩, (av', .slice none 0 0))])) ∧ AddFr B a w w' := by
  obtain ⟨ia, hia, hza0, hza1, hza2⟩ := info_parts Tryz.infoAttrRow
  obtain ⟨iN, hiN, hzN0, hzN1, hzN2⟩ := info_parts Tryz.infoNodeRow
  have HO := (show Hid (OwnQ B w v qs) from hO)
  have HAV := (show Hid (Sv 2 w (.slice av1 av2 av3) (pairCells rs)) from hav)
  have HA := (show Hid _ from ha)
  obtain ⟨vs, cap, rfl, hc1, hc2, hcs⟩ := hO.n.nodes.slice
  rw [List.length_map] at hc1
  have hlt := lt_of_block ha
  rw [List.length_map] at *
  clear hO hav hcs ha
  obtain ⟨w1, hw1⟩ : ∃ x, x = w.alloc (.cells #[.int .i64 k, .string nm, .slice av1 av2 av3, .string tx, .int .i64 (-1), .slice none 0 0] 36) := ⟨_, rfl⟩
  have b1 : Below w.heap.size w w1 := by rw [hw1]; exact (Below.refl _ _).alloc (Nat.le_refl _) _
  have x1 : w1.heap[w.heap.size]? = some (.cells #[.int .i64 k, .string nm, .slice av1 av2 av3, .string tx, .int .i64 (-1), .slice none 0 0] 36 (0, 0)) := by rw [hw1]; exact World.alloc_heap_new _ _
  have hav1 := HAV.out.below b1
  have hs1 := blk_lt x1
  have HB1 := (show Hid _ from b1)
  have HX1 := (show Hid _ from x1)
  clear b1 x1
  go_enter Tryz.func79, Tryz.ntmps79
  go_upto_region 3 with (first
        | (at_builtin
           rw [← hw1]
           refine wpList_appV _ rfl (.const (.slice none 0 0)) (.tmp 8) 33 rfl w.heap.size 115 ia _ 2 32 Tryz.underlying33 hia hza0 hza1 hza2 rfl (by decide) (.slice none 0 0) (.slice av1 av2 av3) 0 rs.length [] (pairCells rs) rfl rfl (World.ownsRow_nil _ _ _ _) hav1 (pairCells_len _) (pair_oneCell _) (by omega) (by unfold maxLen; omega) (by omega) ?_
           intro v4 w4 o4 g4
           clear hw1
           rw [List.nil_append, Nat.zero_add] at o4
           have b4 : Below w.heap.size w w4 := HB1.out.grown g4 (by omega) (fun r e => by cases e)
           have x4 : w4.heap[w.heap.size]? = some (.cells #[.int .i64 k, .string nm, .slice av1 av2 av3, .string tx, .int .i64 (-1), .slice none 0 0] 36 (0, 0)) := (g4.block _ (by omega) (by simp [Value.ownBlock])).trans HX1.out
           have y2 : w4.cell? ⟨w.heap.size, 2, none⟩ = some (.slice av1 av2 av3) := by simp only [World.cell?, x4]; rfl
           have z2 : w4.frozen? ⟨w.heap.size, 2, none⟩ = false := by simp [World.frozen?, x4]
           have hlt4 := blk_lt x4
           obtain ⟨a4, n4, d4, rfl⟩ := own_slice o4
           obtain ⟨w5, hw5⟩ : ∃ x, x = w4.setCell ⟨w.heap.size, 2, none⟩ (.slice a4 n4 d4) := ⟨_, rfl⟩
           have g5 : w4.grownBy w5 (some w.heap.size) := by rw [hw5]; exact grown_setCell _ _ _ _
           have x5 : w5.heap[w.heap.size]? = some (.cells #[.int .i64 k, .string nm, .slice a4 n4 d4, .string tx, .int .i64 (-1), .slice none 0 0] 36 (0, 0)) := by rw [hw5]; exact setCell_at x4
           have b5 : Below w.heap.size w w5 := b4.grown g5 b4.size (fun r e => by cases e; exact Nat.le_refl _)
           have o5 := kept_of_type o4 g5 (fun r e => by cases e; exact ⟨_, _, _, x4, by decide⟩)
           have hs5 := blk_lt x5
           have HX5 := (show Hid _ from x5)
           have HB5 := (show Hid (Below w.heap.size w w5) from b5)
           have HO5 := (show Hid _ from o5)
           clear x4 x5 b4 b5 o4 g4 g5 o5 hav1 HX1 HB1 hs1))
  rw [← hw5]
  clear hw5
  have hA5 := (HB5.out.block a hlt).trans HA.out
  have cA5 : w5.cell? ⟨a, 0, none⟩ = some (.slice vs qs.length cap) := by simp only [World.cell?, hA5]; rfl
  have hlt5 := lt_of_block hA5
  have c50 : w5.cell? ⟨w.heap.size, 0, none⟩ = some (.int .i64 k) := by simp only [World.cell?, HX5.out]; rfl
  have c51 : w5.cell? ⟨w.heap.size, 1, none⟩ = some (.string nm) := by simp only [World.cell?, HX5.out]; rfl
  have c52 : w5.cell? ⟨w.heap.size, 2, none⟩ = some (.slice a4 n4 d4) := by simp only [World.cell?, HX5.out]; rfl
  have c53 : w5.cell? ⟨w.heap.size, 3, none⟩ = some (.string tx) := by simp only [World.cell?, HX5.out]; rfl
  have c54 : w5.cell? ⟨w.heap.size, 4, none⟩ = some (.int .i64 (-1)) := by simp only [World.cell?, HX5.out]; rfl
  have c55 : w5.cell? ⟨w.heap.size, 5, none⟩ = some (.slice none 0 0) := by simp only [World.cell?, HX5.out]; rfl
  have hq5 := OwnQ.below HO.out HB5.out
  have b6 : Below w5.heap.size w5 (w5.alloc (.cells #[.int .i64 k, .string nm, .slice a4 n4 d4, .string tx, .int .i64 (-1), .slice none 0 0] 36)).drew := ((Below.refl _ _).alloc (Nat.le_refl _) _).trans (below_drewN 1)
  have x6 : (w5.alloc (.cells #[.int .i64 k, .string nm, .slice a4 n4 d4, .string tx, .int .i64 (-1), .slice none 0 0] 36)).drew.heap[w5.heap.size]? = some (.cells (nodeRow ⟨k, nm, rs, tx, -1, []⟩ (.slice a4 n4 d4, .slice none 0 0)).toArray 36 (0, 0)) := heap_alloc_new w5 _
  have HR6 := (show Hid (OwnQ B _ _ _) from hq5.below b6)
  have HQ6 := (show Hid (_ ∧ _) from ⟨ownsRow_below (ownsRow_base HO5.out hB) b6, ownsRow_nil_int B (w5.alloc (.cells #[.int .i64 k, .string nm, .slice a4 n4 d4, .string tx, .int .i64 (-1), .slice none 0 0] 36)).drew⟩)
  have HONE := (show Hid _ from node_oneCell (q := ((⟨k, nm, rs, tx, -1, []⟩, (.slice a4 n4 d4, .slice none 0 0)) : PNode × (Value × Value))) HQ6.out)
  have HSV := (show Hid _ from sv_oneNode (q := ((⟨k, nm, rs, tx, -1, []⟩, (.slice a4 n4 d4, .slice none 0 0)) : PNode × (Value × Value))) x6)
  have hbs5 := HB5.out.size
  have hB5 : B ≤ w5.heap.size := Nat.le_trans hB hbs5
  have HB6 := (show Hid _ from b6)
  have HA5 := (show Hid _ from hA5)
  have hsz6 : (w5.alloc (.cells #[.int .i64 k, .string nm, .slice a4 n4 d4, .string tx, .int .i64 (-1), .slice none 0 0] 36)).drew.heap.size = w5.heap.size + 1 := by simp
  have HSZ := (show Hid ((w5.alloc (.cells #[.int .i64 k, .string nm, .slice a4 n4 d4, .string tx, .int .i64 (-1), .slice none 0 0] 36)).drew.heap.size = w5.heap.size + 1) from hsz6)
  clear b6 x6 hq5 hA5 HO5 HO HX5 hsz6
  go_region_law (first
    | (with_reducible refine step_appV (w := (w5.alloc (.cells #[.int .i64 k, .string nm, .slice a4 n4 d4, .string tx, .int .i64 (-1), .slice none 0 0] 36)).drew) ?_ (.tmp 15) (.tmp 17) 24 ?_ B 36 iN _ 6 96 ?_ hiN hzN0 hzN1 hzN2 ?_ ?_ (.slice vs qs.length cap) qs.length (nodeCells qs) ?_ ?_ ⟨w5.heap.size, 0, none⟩ 1 1 (nodeRow ⟨k, nm, rs, tx, -1, []⟩ (.slice a4 n4 d4, .slice none 0 0)) ?_ ?_ ?_ ?_ ?_ ?_ ?_
       · rfl
       · rfl
       · exact Tryz.underlying24
       · rfl
       · decide
       · simp [Act.eval]
       · exact HR6.out.1
       · simp [Act.eval]
       · exact HSV.out
       · exact HONE.out
       · (unfold maxLen; omega)
       · omega
       · (have := HSZ.out; omega)
       intro v9 w9 o9 g9
       obtain ⟨g1, cap1, rfl, hg1, hl1⟩ := one_form o9 (Nat.succ_pos _)
       have own9 := OwnQ.snoc (q := ((⟨k, nm, rs, tx, -1, []⟩, (.slice a4 n4 d4, .slice none 0 0)) : PNode × (Value × Value))) HR6.out HQ6.out o9 g9
       have hA9 := blk_type ((HB6.out.block a hlt5).trans HA5.out) g9 (row_type HR6.out.1 (by decide))
       have cA9 : w9.cell? ⟨a, 0, none⟩ = some (.slice vs qs.length cap) := by simp only [World.cell?, hA9]; rfl
       have fA9 : w9.frozen? ⟨a, 0, none⟩ = false := by simp only [World.frozen?, hA9]; rfl
       have HO9 := (show Hid _ from own9)
       have HG9 := (show Hid _ from g9)
       have HA9 := (show Hid _ from hA9)
       clear o9 g9 own9 hA9))
  all_goals go_wp2
  all_goals go_ret
  all_goals
    refine ⟨by go_num, ⟨_, setCell_at HA9.out, _, OwnQ.kept HO9.out (grown_setCell _ _ _ _) (fun r e => by cases e; exact ⟨_, _, _, HA9.out, by decide, by decide, by decide⟩)⟩, ?_⟩
    exact add_fr HB5.out HB6.out HR6.out.1 HG9.out (grown_setCell _ _ _ _)
end Go.Proofs.YtogdbjafibejdaaGreat

/- No two lists of attributes of a tree lie in one block. No condition. -/
namespace Go.Proofs.YtogdbjafibejdaaGreat
open Go.RowKit
set_option maxRecDepth 100000
set_option linter.unusedVariables false

def ApartA (qs : List (PNode × (Value × Value))) : Prop := ∀ i j (hi : i < qs.length) (hj : j < qs.length) (g : Nat), qs[i].2.1.ownBlock = some g → qs[j].2.1.ownBlock = some g → i = j
theorem apartA_nil : ApartA [] := fun i j hi => absurd hi (by simp)
theorem apartA_snoc {qs : List (PNode × (Value × Value))} {q : PNode × (Value × Value)} (h : ApartA qs) (hq : ∀ g, q.2.1.ownBlock = some g → ∀ p ∈ qs, p.2.1.ownBlock ≠ some g) : ApartA (qs ++ [q]) := by
  intro i j hi hj g e1 e2
  rw [List.getElem_append] at e1 e2
  simp only [List.length_append, List.length_singleton] at hi hj
  split at e1 <;> split at e2
  · exact h i j _ _ g e1 e2
  · rename_i h1 h2
    simp only [List.getElem_singleton] at e2
    exact absurd e1 (hq g e2 _ (List.getElem_mem h1))
  · rename_i h1 h2
    simp only [List.getElem_singleton] at e1
    exact absurd e2 (hq g e1 _ (List.getElem_mem h2))
  · omega
def ApartT (qs : List (PNode × (Value × Value))) : Prop := Apart qs ∧ ApartA qs
theorem apartT_nil : ApartT [] := ⟨apart_nil, apartA_nil⟩
theorem apartT_snoc {qs : List (PNode × (Value × Value))} {q : PNode × (Value × Value)} (h : ApartT qs) (hq : ∀ g, q.2.2.ownBlock = some g → ∀ p ∈ qs, p.2.2.ownBlock ≠ some g) (ha : ∀ g, q.2.1.ownBlock = some g → ∀ p ∈ qs, p.2.1.ownBlock ≠ some g) : ApartT (qs ++ [q]) := ⟨apart_snoc h.1 hq, apartA_snoc h.2 ha⟩
end Go.Proofs.YtogdbjafibejdaaGreat

/- The laws' helper that weighs a tree. No condition. -/
namespace Go.Proofs.YtogdbjafibejdaaGreat
open Go.RowKit
set_option maxRecDepth 100000
set_option linter.unusedVariables false
def wtN (n : PNode) : Nat := n.attrs.length + n.kids.length
structure SzN (l : Int) (n : PNode) : Prop where
  nm : (n.name.size : Int) ≤ l
  tx : (n.text.size : Int) ≤ l
  rs : (n.attrs.length : Int) ≤ l
  each : ∀ p ∈ n.attrs, (p.1.size : Int) + p.2.size ≤ l
  kl : (n.kids.length : Int) ≤ l

end Go.Proofs.YtogdbjafibejdaaGreat

/- Nodes of a tree of the call's own, one field of one node turned; what an arena's step leaves. No condition. -/
namespace Go.Proofs.YtogdbjafibejdaaGreat
open Go.RowKit
set_option maxRecDepth 100000
set_option linter.unusedVariables false

theorem OwnQ.len {B : Nat} {w : World} {a : Option Addr} {n cap : Nat} {qs : List (PNode × (Value × Value))} (h : OwnQ B w (.slice a n cap) qs) : n = qs.length := by
  rcases h.1.2 with ⟨e, e2⟩ | ⟨g', cap', cur, e, _⟩
  · cases e; exact e2.symm
  · cases e; rfl
theorem OwnQ.cellAt {B : Nat} {w : World} {g n cap : Nat} {qs : List (PNode × (Value × Value))} (h : OwnQ B w (.slice (some ⟨g, 0, none⟩) n cap) qs) {c j : Nat} (hc : c < qs.length) (hj : j < 6) : w.cell? ⟨g, c * 6 + j, none⟩ = some ((nodeRow qs[c].1 qs[c].2).getD j undef) := by
  have hl : c * 6 + j < (nodeCells qs).length := by rw [nodeCells_len]; omega
  have hn := h.len
  subst hn
  have hcell := World.ownsRow.cellAt h.1 (c * 6 + j) (by omega)
  have hat := nodeCells_at qs c j hc hj
  rw [hcell, List.getElem?_eq_getElem hl]
  rw [List.getD_eq_getElem?_getD, List.getElem?_eq_getElem hl] at hat
  simp only [Option.getD_some] at hat
  rw [hat]
theorem OwnQ.frozenAt {B : Nat} {w : World} {g n cap : Nat} {qs : List (PNode × (Value × Value))} (h : OwnQ B w (.slice (some ⟨g, 0, none⟩) n cap) qs) (j : Nat) : w.frozen? ⟨g, j, none⟩ = false := by
  have hn := h.len
  subst hn
  exact World.ownsRow.frozenAt h.1 j
theorem OwnQ.set {B : Nat} {w : World} {g n cap : Nat} {qs : List (PNode × (Value × Value))} (h : OwnQ B w (.slice (some ⟨g, 0, none⟩) n cap) qs) {c j : Nat} (hc : c < qs.length) (hj : j < 6) {u : Value} {q : PNode × (Value × Value)} (hq : nodeRow q.1 q.2 = (nodeRow qs[c].1 qs[c].2).set j u)
    (hl : w.ownsRow B 115 2 q.2.1 q.1.attrs.length (pairCells q.1.attrs) ∧ Own B 3 .i64 w q.2.2 q.1.kids) : OwnQ B (w.setCell ⟨g, c * 6 + j, none⟩ u) (.slice (some ⟨g, 0, none⟩) n cap) (qs.set c q) := by
  have hn := h.len
  subst hn
  have hst := World.ownsRow.stored h.1 (c * 6 + j) u
  rw [← nodeCells_set qs c hc q j hj u hq] at hst
  refine ⟨by rw [List.length_set]; exact hst.1, fun p hp => ?_⟩
  rcases List.mem_or_eq_of_mem_set hp with hp | rfl
  · exact lists_kept h.1 hst.2 (h.2 p hp)
  · exact lists_kept h.1 hst.2 hl
theorem OwnQ.par {B : Nat} {w : World} {g n cap : Nat} {qs : List (PNode × (Value × Value))} (h : OwnQ B w (.slice (some ⟨g, 0, none⟩) n cap) qs) {c : Nat} (hc : c < qs.length) (x : Int) : OwnQ B (w.setCell ⟨g, c * 6 + 4, none⟩ (.int .i64 x)) (.slice (some ⟨g, 0, none⟩) n cap) (qs.set c (parQ qs[c] x)) :=
  h.set hc (by omega) (by simp [parQ, nodeRow]) (h.2 qs[c] (List.getElem_mem hc))
theorem OwnQ.kid {B : Nat} {w : World} {g n cap : Nat} {qs : List (PNode × (Value × Value))} (h : OwnQ B w (.slice (some ⟨g, 0, none⟩) n cap) qs) {c : Nat} (hc : c < qs.length) {ks : List Int} {u : Value} (hu : Own B 3 .i64 w u ks) : OwnQ B (w.setCell ⟨g, c * 6 + 5, none⟩ u) (.slice (some ⟨g, 0, none⟩) n cap) (qs.set c (kidQ qs[c] ks u)) :=
  h.set hc (by omega) (by simp [kidQ, nodeRow]) ⟨(h.2 qs[c] (List.getElem_mem hc)).1, hu⟩

theorem apart_par {qs : List (PNode × (Value × Value))} (h : Apart qs) {c : Nat} (hc : c < qs.length) (x : Int) : Apart (qs.set c (parQ qs[c] x)) := by
  intro i j hi hj g e1 e2
  rw [List.length_set] at hi hj
  have key : ∀ k (hk : k < qs.length), ((qs.set c (parQ qs[c] x))[k]'(by rw [List.length_set]; exact hk)).2.2 = qs[k].2.2 := fun k hk => by
    rw [List.getElem_set]
    split
    · rename_i e; subst e; rfl
    · rfl
  rw [key i hi] at e1
  rw [key j hj] at e2
  exact h i j hi hj g e1 e2
theorem apart_kid {qs : List (PNode × (Value × Value))} (h : Apart qs) {c : Nat} (hc : c < qs.length) {ks : List Int} {u : Value} (hu : ∀ g, u.ownBlock = some g → qs[c].2.2.ownBlock = some g ∨ ∀ p ∈ qs, p.2.2.ownBlock ≠ some g) : Apart (qs.set c (kidQ qs[c] ks u)) := by
  intro i j hi hj g e1 e2
  rw [List.length_set] at hi hj
  have key : ∀ k (hk : k < qs.length), ((qs.set c (kidQ qs[c] ks u))[k]'(by rw [List.length_set]; exact hk)).2.2 = if c = k then u else qs[k].2.2 := fun k hk => by
    rw [List.getElem_set]
    split
    · rename_i e; subst e; rfl
    · rfl
  rw [key i hi] at e1
  rw [key j hj] at e2
  have hno : ∀ k (hk : k < qs.length), c ≠ k → qs[k].2.2.ownBlock = some g → u.ownBlock = some g → False := fun k hk hne e e' => by
    rcases hu g e' with h1 | h1
    · exact hne (h c k hc hk g h1 e)
    · exact h1 _ (List.getElem_mem hk) e
  by_cases h1 : c = i
  · by_cases h2 : c = j
    · omega
    · rw [if_pos h1] at e1
      rw [if_neg h2] at e2
      exact (hno j hj h2 e2 e1).elim
  · rw [if_neg h1] at e1
    by_cases h2 : c = j
    · rw [if_pos h2] at e2
      exact (hno i hi h1 e1 e2).elim
    · rw [if_neg h2] at e2
      exact h i j hi hj g e1 e2

theorem OwnQ.grown {B r : Nat} {w w' : World} {v : Value} {qs : List (PNode × (Value × Value))} (h : OwnQ B w v qs) (hg : w.grownBy w' (some r)) {cs : Array Value} {fr : Nat × Nat} (hr : w.heap[r]? = some (.cells cs 3 fr)) (hne : ∀ q ∈ qs, q.2.2.ownBlock ≠ some r) : OwnQ B w' v qs := h.keptInt hg hr hne

structure TurnQ (g : Nat) (qs : List (PNode × (Value × Value))) (w w' : World) : Prop where
  os : w'.os = w.os
  tape : w'.tape = w.tape
  output : w'.output = w.output
  size : w.heap.size ≤ w'.heap.size
  block : ∀ j, j < w.heap.size → j ≠ g → (∀ q ∈ qs, q.2.2.ownBlock ≠ some j) → w'.heap[j]? = w.heap[j]?
theorem TurnQ.of_row {g : Nat} {qs : List (PNode × (Value × Value))} {w w' : World} (h : w.grownBy w' (some g)) : TurnQ g qs w w' := ⟨h.os, h.tape, h.output, h.size, fun j hj hg _ => h.block j hj (fun e => by injection e with e; exact hg e)⟩
theorem TurnQ.trans {g : Nat} {qs qs1 : List (PNode × (Value × Value))} {w w1 w2 : World} (h : TurnQ g qs w w1) (k : TurnQ g qs1 w1 w2) (hq : ∀ p ∈ qs1, ∀ r, p.2.2.ownBlock = some r → (∃ q ∈ qs, q.2.2.ownBlock = some r) ∨ w.heap.size ≤ r) : TurnQ g qs w w2 :=
  ⟨k.os.trans h.os, k.tape.trans h.tape, k.output.trans h.output, Nat.le_trans h.size k.size, fun j hj hg hn => (k.block j (Nat.lt_of_lt_of_le hj h.size) hg (fun p hp e => by
    rcases hq p hp j e with ⟨q, hq1, hq2⟩ | hq1
    · exact hn q hq1 hq2
    · omega)).trans (h.block j hj hg hn)⟩
theorem TurnQ.other {B g : Nat} {v : Value} {qs : List (PNode × (Value × Value))} {w w' : World} {n cap : Nat} (h : TurnQ g qs w w') (ho : OwnQ B w (.slice (some ⟨g, 0, none⟩) n cap) qs) {j : Nat} (hj : j < w.heap.size) (hb : j < B ∨ ∀ cs t fr, w.heap[j]? = some (.cells cs t fr) → t ≠ 36 ∧ t ≠ 3) : w'.heap[j]? = w.heap[j]? := by
  have hrow := ho.1
  refine h.block j hj (fun e => ?_) (fun q hq e => ?_)
  · subst e
    rcases hrow.2 with ⟨e1, _⟩ | ⟨g', cap', cur, e1, hB, hh, _⟩
    · cases e1
    · cases e1
      rcases hb with hb | hb
      · omega
      · exact (hb _ _ _ hh).1 rfl
  · have ho2 := (ho.2 q hq).2
    rcases ho2.2 with ⟨e1, _⟩ | ⟨g', cap', cur, e1, hB, hh, _⟩
    · rw [e1] at e; cases e
    · rw [e1] at e
      cases e
      rcases hb with hb | hb
      · exact absurd hb (Nat.not_lt.mpr hB)
      · exact (hb _ _ _ hh).2 rfl
end Go.Proofs.YtogdbjafibejdaaGreat
