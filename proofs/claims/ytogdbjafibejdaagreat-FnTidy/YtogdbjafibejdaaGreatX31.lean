/- The program's add onto a tree of its own. No condition. -/
import Derived.Test.YtogdbjafibejdaaGreatX30
import Derived.Test.YtogdbjafibejdaaGreatX20
import Derived.Test.YtogdbjafibejdaaGreatX21
import Derived.Test.YtogdbjafibejdaaGreatX24
namespace Go.Proofs.YtogdbjafibejdaaGreat
open Go.RowKit
set_option maxRecDepth 100000
set_option linter.unusedVariables false

/-- Nothing is turned but the block a, and rows of nodes from block B on. -/
structure AddFr (B a : Nat) (w w' : World) : Prop where
  os : w'.os = w.os
  tape : w'.tape = w.tape
  output : w'.output = w.output
  size : w.heap.size ≤ w'.heap.size
  block : ∀ j, j < w.heap.size → j ≠ a → (j < B ∨ ∀ cs t fr, w.heap[j]? = some (.cells cs t fr) → t ≠ 36) → w'.heap[j]? = w.heap[j]?
theorem AddFr.below {B a : Nat} {w w' : World} (h : AddFr B a w w') (ha : B ≤ a) (hB : B ≤ w.heap.size) : Below B w w' := ⟨h.os, h.tape, h.output, h.size, fun j hj => h.block j (by omega) (by omega) (.inl hj)⟩
theorem AddFr.box {B a : Nat} {w w' : World} (h : AddFr B a w w') {j : Nat} {cs : Array Value} {t : TypeId} {fr : Nat × Nat} (hj : w.heap[j]? = some (.cells cs t fr)) (ht : t ≠ 36) (hne : j ≠ a) : w'.heap[j]? = some (.cells cs t fr) := (h.block j (lt_of_block hj) hne (.inr (fun cs' t' fr' e => by rw [hj] at e; cases e; exact ht))).trans hj

/-- The slice value v has the nodes of qs, whose lists are the slices that qs tells; all of them are the call's own. -/
def OwnQ (B : Nat) (w : World) (v : Value) (qs : List (PNode × (Value × Value))) : Prop :=
  w.ownsRow B 36 6 v qs.length (nodeCells qs) ∧ ∀ q ∈ qs, w.ownsRow B 115 2 q.2.1 q.1.attrs.length (pairCells q.1.attrs) ∧ Own B 3 .i64 w q.2.2 q.1.kids
theorem OwnN.q {B : Nat} {w : World} {v : Value} {ns : List PNode} (h : OwnN B w v ns) : ∃ qs, qs.map (fun q => q.1) = ns ∧ OwnQ B w v qs := by
  obtain ⟨qs, h1, h2, h3⟩ := h
  have : qs.length = ns.length := by have := congrArg List.length h1; simpa using this
  exact ⟨qs, h1, by rw [this]; exact h2, h3⟩
theorem OwnQ.n {B : Nat} {w : World} {v : Value} {qs : List (PNode × (Value × Value))} (h : OwnQ B w v qs) : OwnN B w v (qs.map (fun q => q.1)) := ⟨qs, rfl, by rw [List.length_map]; exact h.1, h.2⟩
theorem OwnQ.below {B : Nat} {w w' : World} {v : Value} {qs : List (PNode × (Value × Value))} (h : OwnQ B w v qs) (hb : Below w.heap.size w w') : OwnQ B w' v qs := ⟨ownsRow_below h.1 hb, fun q hq => ⟨ownsRow_below (h.2 q hq).1 hb, (h.2 q hq).2.below hb⟩⟩
theorem OwnQ.base {B B' : Nat} {w : World} {v : Value} {qs : List (PNode × (Value × Value))} (h : OwnQ B w v qs) (hB : B' ≤ B) : OwnQ B' w v qs := ⟨ownsRow_base h.1 hB, fun q hq => ⟨ownsRow_base (h.2 q hq).1 hB, (h.2 q hq).2.base hB⟩⟩
/-- Kept where a block of another kind is turned. -/
theorem OwnQ.kept {B : Nat} {w w' : World} {v : Value} {qs : List (PNode × (Value × Value))} {row : Option Nat} (h : OwnQ B w v qs) (hg : w.grownBy w' row)
    (hr : ∀ r, row = some r → ∃ cs t fr, w.heap[r]? = some (.cells cs t fr) ∧ t ≠ 36 ∧ t ≠ 115 ∧ t ≠ 3) : OwnQ B w' v qs :=
  ⟨kept_of_type h.1 hg (fun r e => by obtain ⟨a, b, c, d, e1, e2, e3⟩ := hr r e; exact ⟨a, b, c, d, e1⟩),
    fun q hq => ⟨kept_of_type (h.2 q hq).1 hg (fun r e => by obtain ⟨a, b, c, d, e1, e2, e3⟩ := hr r e; exact ⟨a, b, c, d, e2⟩), kept_of_type (h.2 q hq).2 hg (fun r e => by obtain ⟨a, b, c, d, e1, e2, e3⟩ := hr r e; exact ⟨a, b, c, d, e3⟩)⟩⟩
/-- Kept where a variable is turned that is no list of kids. -/
theorem OwnQ.keptInt {B K : Nat} {w w' : World} {v : Value} {qs : List (PNode × (Value × Value))} (h : OwnQ B w v qs) (hg : w.grownBy w' (some K)) {cs : Array Value} {fr : Nat × Nat} (hK : w.heap[K]? = some (.cells cs 3 fr))
    (hne : ∀ q ∈ qs, q.2.2.ownBlock ≠ some K) : OwnQ B w' v qs :=
  ⟨kept_of_type h.1 hg (fun r e => by cases e; exact ⟨_, _, _, hK, by decide⟩),
    fun q hq => ⟨kept_of_type (h.2 q hq).1 hg (fun r e => by cases e; exact ⟨_, _, _, hK, by decide⟩), World.ownsRow.kept (h.2 q hq).2 hg (.inr (hne q hq))⟩⟩
theorem OwnQ.snoc {B : Nat} {w w' : World} {v v' : Value} {qs : List (PNode × (Value × Value))} {q : PNode × (Value × Value)} (h : OwnQ B w v qs) (hq : w.ownsRow B 115 2 q.2.1 q.1.attrs.length (pairCells q.1.attrs) ∧ Own B 3 .i64 w q.2.2 q.1.kids)
    (ho : w'.ownsRow B 36 6 v' (qs.length + 1) (nodeCells qs ++ nodeRow q.1 q.2)) (hg : w.grownBy w' v.ownBlock) : OwnQ B w' v' (qs ++ [q]) := by
  refine ⟨?_, fun p hp => ?_⟩
  · rw [nodeCells_app, List.length_append]; simpa [nodeCells] using ho
  · rcases List.mem_append.mp hp with hp | hp
    · exact lists_kept h.1 hg (h.2 p hp)
    · simp at hp; subst hp; exact lists_kept h.1 hg hq

theorem add_fr {B a : Nat} {w w5 w6 w9 w' : World} {v : Value} {n : Nat} {xs : List Value} (b5 : Below w.heap.size w w5) (b6 : Below w5.heap.size w5 w6) (o : w6.ownsRow B 36 6 v n xs) (g9 : w6.grownBy w9 v.ownBlock) (g : w9.grownBy w' (some a)) : AddFr B a w w' := by
  have b := b5.trans (b6.mono b5.size)
  refine ⟨g.os.trans (g9.os.trans b.os), g.tape.trans (g9.tape.trans b.tape), g.output.trans (g9.output.trans b.output), Nat.le_trans b.size (Nat.le_trans g9.size g.size), fun j hj hja ht => ?_⟩
  have h6 := b.block j hj
  have l6 := Nat.lt_of_lt_of_le hj b.size
  rw [g.block j (Nat.lt_of_lt_of_le l6 g9.size) (fun e => by injection e with e; exact hja e), g9.block j l6 ?_, h6]
  intro e
  have hlt := o.lt j e.symm
  rcases ht with ht | h1
  · omega
  · rcases o.2 with ⟨rfl, _⟩ | ⟨g', cap, cur, rfl, _, hh, _⟩
    · cases e
    · cases e
      rw [h6] at hh
      exact h1 _ _ _ hh rfl

set_option maxHeartbeats 2000000 in
set_option maxRecDepth 100000 in
theorem iadd_all {B a : Nat} {w : World} {v : Value} {qs : List (PNode × (Value × Value))} (ha : w.heap[a]? = some (.cells #[v] 77 (0, 0))) (hO : OwnQ B w v qs) (hB : B ≤ w.heap.size) (hlen : qs.length ≤ 100000) (k p : Int) (nm tx : ByteArray)
    {av1 : Option Addr} {av2 av3 : Nat} {kv1 : Option Addr} {kv2 kv3 : Nat} {rs : List (ByteArray × ByteArray)} (hav : Sv 2 w (.slice av1 av2 av3) (pairCells rs)) (hrs : rs.length ≤ 1048576) :
    Calls Tryz.prog 79 #[.pointer (some ⟨a, 0, none⟩), .agg #[.int .i64 k, .string nm, .slice av1 av2 av3, .string tx, .int .i64 p, .slice kv1 kv2 kv3]] w fun e w' =>
      e = .returned (.int .i64 qs.length) ∧ (∃ v', w'.heap[a]? = some (.cells #[v'] 77 (0, 0)) ∧ ∃ av', OwnQ B w' v' (qs ++ [(⟨k, nm, rs, tx, -1, []⟩, (av', .slice none 0 0))])) ∧ AddFr B a w w' := by
  obtain ⟨ia, hia, hza0, hza1, hza2⟩ := info_parts Tryz.infoAttrRow
  obtain ⟨iN, hiN, hzN0, hzN1, hzN2⟩ := info_parts Tryz.infoNodeRow
  have HO := (show Hid (OwnQ B w v qs) from hO)
  have HAV := (show Hid (Sv 2 w (.slice av1 av2 av3) (pairCells rs)) from hav)
  have HA := (show Hid _ from ha)
  obtain ⟨vs, cap, rfl, hc1, hc2, hcs⟩ := hO.n.nodes.slice
  rw [List.length_map] at hc1
  have hlt := lt_of_block ha
  rw [List.length_map] at *
  clear hO hav hcs ha
  obtain ⟨w1, hw1⟩ : ∃ x, x = w.alloc (.cells #[.int .i64 k, .string nm, .slice av1 av2 av3, .string tx, .int .i64 (-1), .slice none 0 0] 36) := ⟨_, rfl⟩
  have b1 : Below w.heap.size w w1 := by rw [hw1]; exact (Below.refl _ _).alloc (Nat.le_refl _) _
  have x1 : w1.heap[w.heap.size]? = some (.cells #[.int .i64 k, .string nm, .slice av1 av2 av3, .string tx, .int .i64 (-1), .slice none 0 0] 36 (0, 0)) := by rw [hw1]; exact World.alloc_heap_new _ _
  have hav1 := HAV.out.below b1
  have hs1 := blk_lt x1
  have HB1 := (show Hid _ from b1)
  have HX1 := (show Hid _ from x1)
  clear b1 x1
  go_enter Tryz.func79, Tryz.ntmps79
  go_upto_region 3 with (first
        | (at_builtin
           rw [← hw1]
           refine wpList_appV _ rfl (.const (.slice none 0 0)) (.tmp 8) 33 rfl w.heap.size 115 ia _ 2 32 Tryz.underlying33 hia hza0 hza1 hza2 rfl (by decide) (.slice none 0 0) (.slice av1 av2 av3) 0 rs.length [] (pairCells rs) rfl rfl (World.ownsRow_nil _ _ _ _) hav1 (pairCells_len _) (pair_oneCell _) (by omega) (by unfold maxLen; omega) (by omega) ?_
           intro v4 w4 o4 g4
           clear hw1
           rw [List.nil_append, Nat.zero_add] at o4
           have b4 : Below w.heap.size w w4 := HB1.out.grown g4 (by omega) (fun r e => by cases e)
           have x4 : w4.heap[w.heap.size]? = some (.cells #[.int .i64 k, .string nm, .slice av1 av2 av3, .string tx, .int .i64 (-1), .slice none 0 0] 36 (0, 0)) := (g4.block _ (by omega) (by simp [Value.ownBlock])).trans HX1.out
           have y2 : w4.cell? ⟨w.heap.size, 2, none⟩ = some (.slice av1 av2 av3) := by simp only [World.cell?, x4]; rfl
           have z2 : w4.frozen? ⟨w.heap.size, 2, none⟩ = false := by simp [World.frozen?, x4]
           have hlt4 := blk_lt x4
           obtain ⟨a4, n4, d4, rfl⟩ := own_slice o4
           obtain ⟨w5, hw5⟩ : ∃ x, x = w4.setCell ⟨w.heap.size, 2, none⟩ (.slice a4 n4 d4) := ⟨_, rfl⟩
           have g5 : w4.grownBy w5 (some w.heap.size) := by rw [hw5]; exact grown_setCell _ _ _ _
           have x5 : w5.heap[w.heap.size]? = some (.cells #[.int .i64 k, .string nm, .slice a4 n4 d4, .string tx, .int .i64 (-1), .slice none 0 0] 36 (0, 0)) := by rw [hw5]; exact setCell_at x4
           have b5 : Below w.heap.size w w5 := b4.grown g5 b4.size (fun r e => by cases e; exact Nat.le_refl _)
           have o5 := kept_of_type o4 g5 (fun r e => by cases e; exact ⟨_, _, _, x4, by decide⟩)
           have hs5 := blk_lt x5
           have HX5 := (show Hid _ from x5)
           have HB5 := (show Hid (Below w.heap.size w w5) from b5)
           have HO5 := (show Hid _ from o5)
           clear x4 x5 b4 b5 o4 g4 g5 o5 hav1 HX1 HB1 hs1))
  rw [← hw5]
  clear hw5
  have hA5 := (HB5.out.block a hlt).trans HA.out
  have cA5 : w5.cell? ⟨a, 0, none⟩ = some (.slice vs qs.length cap) := by simp only [World.cell?, hA5]; rfl
  have hlt5 := lt_of_block hA5
  have c50 : w5.cell? ⟨w.heap.size, 0, none⟩ = some (.int .i64 k) := by simp only [World.cell?, HX5.out]; rfl
  have c51 : w5.cell? ⟨w.heap.size, 1, none⟩ = some (.string nm) := by simp only [World.cell?, HX5.out]; rfl
  have c52 : w5.cell? ⟨w.heap.size, 2, none⟩ = some (.slice a4 n4 d4) := by simp only [World.cell?, HX5.out]; rfl
  have c53 : w5.cell? ⟨w.heap.size, 3, none⟩ = some (.string tx) := by simp only [World.cell?, HX5.out]; rfl
  have c54 : w5.cell? ⟨w.heap.size, 4, none⟩ = some (.int .i64 (-1)) := by simp only [World.cell?, HX5.out]; rfl
  have c55 : w5.cell? ⟨w.heap.size, 5, none⟩ = some (.slice none 0 0) := by simp only [World.cell?, HX5.out]; rfl
  have hq5 := OwnQ.below HO.out HB5.out
  have b6 : Below w5.heap.size w5 (w5.alloc (.cells #[.int .i64 k, .string nm, .slice a4 n4 d4, .string tx, .int .i64 (-1), .slice none 0 0] 36)).drew := ((Below.refl _ _).alloc (Nat.le_refl _) _).trans (below_drewN 1)
  have x6 : (w5.alloc (.cells #[.int .i64 k, .string nm, .slice a4 n4 d4, .string tx, .int .i64 (-1), .slice none 0 0] 36)).drew.heap[w5.heap.size]? = some (.cells (nodeRow ⟨k, nm, rs, tx, -1, []⟩ (.slice a4 n4 d4, .slice none 0 0)).toArray 36 (0, 0)) := heap_alloc_new w5 _
  have HR6 := (show Hid (OwnQ B _ _ _) from hq5.below b6)
  have HQ6 := (show Hid (_ ∧ _) from ⟨ownsRow_below (ownsRow_base HO5.out hB) b6, ownsRow_nil_int B (w5.alloc (.cells #[.int .i64 k, .string nm, .slice a4 n4 d4, .string tx, .int .i64 (-1), .slice none 0 0] 36)).drew⟩)
  have HONE := (show Hid _ from node_oneCell (q := ((⟨k, nm, rs, tx, -1, []⟩, (.slice a4 n4 d4, .slice none 0 0)) : PNode × (Value × Value))) HQ6.out)
  have HSV := (show Hid _ from sv_oneNode (q := ((⟨k, nm, rs, tx, -1, []⟩, (.slice a4 n4 d4, .slice none 0 0)) : PNode × (Value × Value))) x6)
  have hbs5 := HB5.out.size
  have hB5 : B ≤ w5.heap.size := Nat.le_trans hB hbs5
  have HB6 := (show Hid _ from b6)
  have HA5 := (show Hid _ from hA5)
  have hsz6 : (w5.alloc (.cells #[.int .i64 k, .string nm, .slice a4 n4 d4, .string tx, .int .i64 (-1), .slice none 0 0] 36)).drew.heap.size = w5.heap.size + 1 := by simp
  have HSZ := (show Hid ((w5.alloc (.cells #[.int .i64 k, .string nm, .slice a4 n4 d4, .string tx, .int .i64 (-1), .slice none 0 0] 36)).drew.heap.size = w5.heap.size + 1) from hsz6)
  clear b6 x6 hq5 hA5 HO5 HO HX5 hsz6
  go_region_law (first
    | (with_reducible refine step_appV (w := (w5.alloc (.cells #[.int .i64 k, .string nm, .slice a4 n4 d4, .string tx, .int .i64 (-1), .slice none 0 0] 36)).drew) ?_ (.tmp 15) (.tmp 17) 24 ?_ B 36 iN _ 6 96 ?_ hiN hzN0 hzN1 hzN2 ?_ ?_ (.slice vs qs.length cap) qs.length (nodeCells qs) ?_ ?_ ⟨w5.heap.size, 0, none⟩ 1 1 (nodeRow ⟨k, nm, rs, tx, -1, []⟩ (.slice a4 n4 d4, .slice none 0 0)) ?_ ?_ ?_ ?_ ?_ ?_ ?_
       · rfl
       · rfl
       · exact Tryz.underlying24
       · rfl
       · decide
       · simp [Act.eval]
       · exact HR6.out.1
       · simp [Act.eval]
       · exact HSV.out
       · exact HONE.out
       · (unfold maxLen; omega)
       · omega
       · (have := HSZ.out; omega)
       intro v9 w9 o9 g9
       obtain ⟨g1, cap1, rfl, hg1, hl1⟩ := one_form o9 (Nat.succ_pos _)
       have own9 := OwnQ.snoc (q := ((⟨k, nm, rs, tx, -1, []⟩, (.slice a4 n4 d4, .slice none 0 0)) : PNode × (Value × Value))) HR6.out HQ6.out o9 g9
       have hA9 := blk_type ((HB6.out.block a hlt5).trans HA5.out) g9 (row_type HR6.out.1 (by decide))
       have cA9 : w9.cell? ⟨a, 0, none⟩ = some (.slice vs qs.length cap) := by simp only [World.cell?, hA9]; rfl
       have fA9 : w9.frozen? ⟨a, 0, none⟩ = false := by simp only [World.frozen?, hA9]; rfl
       have HO9 := (show Hid _ from own9)
       have HG9 := (show Hid _ from g9)
       have HA9 := (show Hid _ from hA9)
       clear o9 g9 own9 hA9))
  all_goals go_wp2
  all_goals go_ret
  all_goals
    refine ⟨by go_num, ⟨_, setCell_at HA9.out, _, OwnQ.kept HO9.out (grown_setCell _ _ _ _) (fun r e => by cases e; exact ⟨_, _, _, HA9.out, by decide, by decide, by decide⟩)⟩, ?_⟩
    exact add_fr HB5.out HB6.out HR6.out.1 HG9.out (grown_setCell _ _ _ _)
theorem iadd_any {B a : Nat} {w : World} {v : Value} {qs : List (PNode × (Value × Value))} (ha : w.heap[a]? = some (.cells #[v] 77 (0, 0))) (hO : OwnQ B w v qs) (hB : B ≤ w.heap.size) (h0 : 0 < qs.length) (hlen : qs.length ≤ 100000) (k p : Int) (nm tx : ByteArray)
    {av1 : Option Addr} {av2 av3 : Nat} {kv1 : Option Addr} {kv2 kv3 : Nat} {rs : List (ByteArray × ByteArray)} (hav : Sv 2 w (.slice av1 av2 av3) (pairCells rs)) (hrs : rs.length ≤ 1048576) :
    Calls Tryz.prog 79 #[.pointer (some ⟨a, 0, none⟩), .agg #[.int .i64 k, .string nm, .slice av1 av2 av3, .string tx, .int .i64 p, .slice kv1 kv2 kv3]] w fun e w' =>
      e = .returned (.int .i64 qs.length) ∧ (∃ v', w'.heap[a]? = some (.cells #[v'] 77 (0, 0)) ∧ ∃ av', OwnQ B w' v' (qs ++ [(⟨k, nm, rs, tx, -1, []⟩, (av', .slice none 0 0))])) ∧ AddFr B a w w' := iadd_all ha hO hB hlen k p nm tx hav hrs
end Go.Proofs.YtogdbjafibejdaaGreat

/- Nodes of a tree of the call's own, one field of one node turned; what an arena's step leaves. No condition. -/
namespace Go.Proofs.YtogdbjafibejdaaGreat
open Go.RowKit
set_option maxRecDepth 100000
set_option linter.unusedVariables false

theorem OwnQ.len {B : Nat} {w : World} {a : Option Addr} {n cap : Nat} {qs : List (PNode × (Value × Value))} (h : OwnQ B w (.slice a n cap) qs) : n = qs.length := by
  rcases h.1.2 with ⟨e, e2⟩ | ⟨g', cap', cur, e, _⟩
  · cases e; exact e2.symm
  · cases e; rfl
theorem OwnQ.cellAt {B : Nat} {w : World} {g n cap : Nat} {qs : List (PNode × (Value × Value))} (h : OwnQ B w (.slice (some ⟨g, 0, none⟩) n cap) qs) {c j : Nat} (hc : c < qs.length) (hj : j < 6) : w.cell? ⟨g, c * 6 + j, none⟩ = some ((nodeRow qs[c].1 qs[c].2).getD j undef) := by
  have hl : c * 6 + j < (nodeCells qs).length := by rw [nodeCells_len]; omega
  have hn := h.len
  subst hn
  have hcell := World.ownsRow.cellAt h.1 (c * 6 + j) (by omega)
  have hat := nodeCells_at qs c j hc hj
  rw [hcell, List.getElem?_eq_getElem hl]
  rw [List.getD_eq_getElem?_getD, List.getElem?_eq_getElem hl] at hat
  simp only [Option.getD_some] at hat
  rw [hat]
theorem OwnQ.frozenAt {B : Nat} {w : World} {g n cap : Nat} {qs : List (PNode × (Value × Value))} (h : OwnQ B w (.slice (some ⟨g, 0, none⟩) n cap) qs) (j : Nat) : w.frozen? ⟨g, j, none⟩ = false := by
  have hn := h.len
  subst hn
  exact World.ownsRow.frozenAt h.1 j
/-- One field of one node is turned. -/
theorem OwnQ.set {B : Nat} {w : World} {g n cap : Nat} {qs : List (PNode × (Value × Value))} (h : OwnQ B w (.slice (some ⟨g, 0, none⟩) n cap) qs) {c j : Nat} (hc : c < qs.length) (hj : j < 6) {u : Value} {q : PNode × (Value × Value)} (hq : nodeRow q.1 q.2 = (nodeRow qs[c].1 qs[c].2).set j u)
    (hl : w.ownsRow B 115 2 q.2.1 q.1.attrs.length (pairCells q.1.attrs) ∧ Own B 3 .i64 w q.2.2 q.1.kids) : OwnQ B (w.setCell ⟨g, c * 6 + j, none⟩ u) (.slice (some ⟨g, 0, none⟩) n cap) (qs.set c q) := by
  have hn := h.len
  subst hn
  have hst := World.ownsRow.stored h.1 (c * 6 + j) u
  rw [← nodeCells_set qs c hc q j hj u hq] at hst
  refine ⟨by rw [List.length_set]; exact hst.1, fun p hp => ?_⟩
  rcases List.mem_or_eq_of_mem_set hp with hp | rfl
  · exact lists_kept h.1 hst.2 (h.2 p hp)
  · exact lists_kept h.1 hst.2 hl
theorem OwnQ.par {B : Nat} {w : World} {g n cap : Nat} {qs : List (PNode × (Value × Value))} (h : OwnQ B w (.slice (some ⟨g, 0, none⟩) n cap) qs) {c : Nat} (hc : c < qs.length) (x : Int) : OwnQ B (w.setCell ⟨g, c * 6 + 4, none⟩ (.int .i64 x)) (.slice (some ⟨g, 0, none⟩) n cap) (qs.set c (parQ qs[c] x)) :=
  h.set hc (by omega) (by simp [parQ, nodeRow]) (h.2 qs[c] (List.getElem_mem hc))
theorem OwnQ.kid {B : Nat} {w : World} {g n cap : Nat} {qs : List (PNode × (Value × Value))} (h : OwnQ B w (.slice (some ⟨g, 0, none⟩) n cap) qs) {c : Nat} (hc : c < qs.length) {ks : List Int} {u : Value} (hu : Own B 3 .i64 w u ks) : OwnQ B (w.setCell ⟨g, c * 6 + 5, none⟩ u) (.slice (some ⟨g, 0, none⟩) n cap) (qs.set c (kidQ qs[c] ks u)) :=
  h.set hc (by omega) (by simp [kidQ, nodeRow]) ⟨(h.2 qs[c] (List.getElem_mem hc)).1, hu⟩

theorem apart_par {qs : List (PNode × (Value × Value))} (h : Apart qs) {c : Nat} (hc : c < qs.length) (x : Int) : Apart (qs.set c (parQ qs[c] x)) := by
  intro i j hi hj g e1 e2
  rw [List.length_set] at hi hj
  have key : ∀ k (hk : k < qs.length), ((qs.set c (parQ qs[c] x))[k]'(by rw [List.length_set]; exact hk)).2.2 = qs[k].2.2 := fun k hk => by
    rw [List.getElem_set]
    split
    · rename_i e; subst e; rfl
    · rfl
  rw [key i hi] at e1
  rw [key j hj] at e2
  exact h i j hi hj g e1 e2
theorem apart_kid {qs : List (PNode × (Value × Value))} (h : Apart qs) {c : Nat} (hc : c < qs.length) {ks : List Int} {u : Value} (hu : ∀ g, u.ownBlock = some g → qs[c].2.2.ownBlock = some g ∨ ∀ p ∈ qs, p.2.2.ownBlock ≠ some g) : Apart (qs.set c (kidQ qs[c] ks u)) := by
  intro i j hi hj g e1 e2
  rw [List.length_set] at hi hj
  have key : ∀ k (hk : k < qs.length), ((qs.set c (kidQ qs[c] ks u))[k]'(by rw [List.length_set]; exact hk)).2.2 = if c = k then u else qs[k].2.2 := fun k hk => by
    rw [List.getElem_set]
    split
    · rename_i e; subst e; rfl
    · rfl
  rw [key i hi] at e1
  rw [key j hj] at e2
  have hno : ∀ k (hk : k < qs.length), c ≠ k → qs[k].2.2.ownBlock = some g → u.ownBlock = some g → False := fun k hk hne e e' => by
    rcases hu g e' with h1 | h1
    · exact hne (h c k hc hk g h1 e)
    · exact h1 _ (List.getElem_mem hk) e
  by_cases h1 : c = i
  · by_cases h2 : c = j
    · omega
    · rw [if_pos h1] at e1
      rw [if_neg h2] at e2
      exact (hno j hj h2 e2 e1).elim
  · rw [if_neg h1] at e1
    by_cases h2 : c = j
    · rw [if_pos h2] at e2
      exact (hno i hi h1 e1 e2).elim
    · rw [if_neg h2] at e2
      exact h i j hi hj g e1 e2

/-- A row of integers of node c's own grows, in its block or in a new one: the others stay. -/
theorem OwnQ.grown {B r : Nat} {w w' : World} {v : Value} {qs : List (PNode × (Value × Value))} (h : OwnQ B w v qs) (hg : w.grownBy w' (some r)) {cs : Array Value} {fr : Nat × Nat} (hr : w.heap[r]? = some (.cells cs 3 fr)) (hne : ∀ q ∈ qs, q.2.2.ownBlock ≠ some r) : OwnQ B w' v qs := h.keptInt hg hr hne

/-- Nothing is turned but the row of nodes and their lists of Kids. -/
structure TurnQ (g : Nat) (qs : List (PNode × (Value × Value))) (w w' : World) : Prop where
  os : w'.os = w.os
  tape : w'.tape = w.tape
  output : w'.output = w.output
  size : w.heap.size ≤ w'.heap.size
  block : ∀ j, j < w.heap.size → j ≠ g → (∀ q ∈ qs, q.2.2.ownBlock ≠ some j) → w'.heap[j]? = w.heap[j]?
theorem TurnQ.of_row {g : Nat} {qs : List (PNode × (Value × Value))} {w w' : World} (h : w.grownBy w' (some g)) : TurnQ g qs w w' := ⟨h.os, h.tape, h.output, h.size, fun j hj hg _ => h.block j hj (fun e => by injection e with e; exact hg e)⟩
/-- A turn behind another one, whose lists are those of the first or new ones. -/
theorem TurnQ.trans {g : Nat} {qs qs1 : List (PNode × (Value × Value))} {w w1 w2 : World} (h : TurnQ g qs w w1) (k : TurnQ g qs1 w1 w2) (hq : ∀ p ∈ qs1, ∀ r, p.2.2.ownBlock = some r → (∃ q ∈ qs, q.2.2.ownBlock = some r) ∨ w.heap.size ≤ r) : TurnQ g qs w w2 :=
  ⟨k.os.trans h.os, k.tape.trans h.tape, k.output.trans h.output, Nat.le_trans h.size k.size, fun j hj hg hn => (k.block j (Nat.lt_of_lt_of_le hj h.size) hg (fun p hp e => by
    rcases hq p hp j e with ⟨q, hq1, hq2⟩ | hq1
    · exact hn q hq1 hq2
    · omega)).trans (h.block j hj hg hn)⟩
/-- Blocks of other types, and those ahead of what is the call's own, stay. -/
theorem TurnQ.other {B g : Nat} {v : Value} {qs : List (PNode × (Value × Value))} {w w' : World} {n cap : Nat} (h : TurnQ g qs w w') (ho : OwnQ B w (.slice (some ⟨g, 0, none⟩) n cap) qs) {j : Nat} (hj : j < w.heap.size) (hb : j < B ∨ ∀ cs t fr, w.heap[j]? = some (.cells cs t fr) → t ≠ 36 ∧ t ≠ 3) : w'.heap[j]? = w.heap[j]? := by
  have hrow := ho.1
  refine h.block j hj (fun e => ?_) (fun q hq e => ?_)
  · subst e
    rcases hrow.2 with ⟨e1, _⟩ | ⟨g', cap', cur, e1, hB, hh, _⟩
    · cases e1
    · cases e1
      rcases hb with hb | hb
      · omega
      · exact (hb _ _ _ hh).1 rfl
  · have ho2 := (ho.2 q hq).2
    rcases ho2.2 with ⟨e1, _⟩ | ⟨g', cap', cur, e1, hB, hh, _⟩
    · rw [e1] at e; cases e
    · rw [e1] at e
      cases e
      rcases hb with hb | hb
      · exact absurd hb (Nat.not_lt.mpr hB)
      · exact (hb _ _ _ hh).2 rfl
end Go.Proofs.YtogdbjafibejdaaGreat

/- A node that is hung below another one, or taken from where it stands, in plain words. No condition. -/
namespace Go.Proofs.YtogdbjafibejdaaGreat
open Go.RowKit
set_option maxRecDepth 100000
set_option linter.unusedVariables false

def setPar (n : PNode) (x : Int) : PNode := ⟨n.kind, n.name, n.attrs, n.text, x, n.kids⟩
def setKids (n : PNode) (ks : List Int) : PNode := ⟨n.kind, n.name, n.attrs, n.text, n.parent, ks⟩
/-- Node c is taken from the Kids of the one that it stands below. -/
def cutN (ns : List PNode) (c : Nat) : List PNode := if parOf ns c = -1 then ns else ns.modify (parOf ns c).toNat fun n => setKids n (lessL (c : Int) n.kids)
/-- Node c stands below none. -/
def takeN (ns : List PNode) (c : Nat) : List PNode := (cutN ns c).modify c fun n => setPar n (-1)
/-- Node c is the last one of the Kids of node p. -/
def hangN (ns : List PNode) (c p : Nat) : List PNode := ((takeN ns c).modify c fun n => setPar n (p : Int)).modify p fun n => setKids n (n.kids ++ [(c : Int)])

theorem cutN_len (ns : List PNode) (c : Nat) : (cutN ns c).length = ns.length := by unfold cutN; split <;> simp
theorem takeN_len (ns : List PNode) (c : Nat) : (takeN ns c).length = ns.length := by simp [takeN, cutN_len]
theorem hangN_len (ns : List PNode) (c p : Nat) : (hangN ns c p).length = ns.length := by simp [hangN, takeN_len]

theorem kidsOf_setPar (ns : List PNode) (c k : Nat) (x : Int) : kidsOf (ns.modify c fun n => setPar n x) k = kidsOf ns k := by
  simp only [kidsOf, List.getElem?_modify]
  cases ns[k]? with
  | none => rfl
  | some n => by_cases h : c = k <;> simp [h, setPar]
theorem parOf_setPar (ns : List PNode) (c k : Nat) (x : Int) (hc : c < ns.length) : parOf (ns.modify c fun n => setPar n x) k = if c = k then x else parOf ns k := by
  simp only [parOf, List.getElem?_modify]
  by_cases h : c = k
  · subst h; simp [hc, setPar]
  · simp [h]
theorem parOf_setKids (ns : List PNode) (j k : Nat) (f : List Int → List Int) : parOf (ns.modify j fun n => setKids n (f n.kids)) k = parOf ns k := by
  simp only [parOf, List.getElem?_modify]
  cases ns[k]? with
  | none => rfl
  | some n => by_cases h : j = k <;> simp [h, setKids]
theorem kidsOf_setKids (ns : List PNode) (j k : Nat) (f : List Int → List Int) (hj : j < ns.length) : kidsOf (ns.modify j fun n => setKids n (f n.kids)) k = if j = k then f (kidsOf ns k) else kidsOf ns k := by
  simp only [kidsOf, List.getElem?_modify]
  by_cases h : j = k
  · subst h; simp [hj, setKids]
  · simp [h]

theorem lessL_not {c : Int} {xs : List Int} (h : c ∉ xs) : lessL c xs = xs := by
  unfold lessL
  rw [List.filter_eq_self]
  intro x hx
  simp only [bne_iff_ne]
  exact fun e => h (e ▸ hx)
theorem mem_lessL {c x : Int} {xs : List Int} : x ∈ lessL c xs ↔ x ∈ xs ∧ x ≠ c := by simp [lessL]

/-- Only the one that it stands below has it among its Kids. -/
theorem kid_par {ns : List PNode} (hf : KidsFit ns) {c k : Nat} (h : (c : Int) ∈ kidsOf ns k) : parOf ns c = k := by
  have := (fit_kid hf h).2.2.2
  simpa using this
theorem kidsOf_cutN {ns : List PNode} (h : STreeOkP ns) {c : Nat} (hc : c < ns.length) (k : Nat) : kidsOf (cutN ns c) k = lessL (c : Int) (kidsOf ns k) := by
  have hp := tree_par h hc
  unfold cutN
  by_cases e : parOf ns c = -1
  · rw [if_pos e, lessL_not]
    intro hm
    have := kid_par h.1.fit hm
    omega
  · rw [if_neg e]
    have h1 : (parOf ns c).toNat < ns.length := by have := hp.1; have := hp.2.1; omega
    rw [kidsOf_setKids ns (parOf ns c).toNat k (lessL (c : Int)) h1]
    by_cases e2 : (parOf ns c).toNat = k
    · rw [if_pos e2]
    · rw [if_neg e2, lessL_not]
      intro hm
      have := kid_par h.1.fit hm
      omega
theorem parOf_cutN (ns : List PNode) (c k : Nat) : parOf (cutN ns c) k = parOf ns k := by
  unfold cutN
  split
  · rfl
  · exact parOf_setKids ns _ k (lessL (c : Int))
theorem kidsOf_takeN {ns : List PNode} (h : STreeOkP ns) {c : Nat} (hc : c < ns.length) (k : Nat) : kidsOf (takeN ns c) k = lessL (c : Int) (kidsOf ns k) := by
  rw [takeN, kidsOf_setPar, kidsOf_cutN h hc]
theorem parOf_takeN {ns : List PNode} {c : Nat} (hc : c < ns.length) (k : Nat) : parOf (takeN ns c) k = if c = k then -1 else parOf ns k := by
  rw [takeN, parOf_setPar _ _ _ _ (by rw [cutN_len]; exact hc), parOf_cutN]
theorem kidsOf_hangN {ns : List PNode} (h : STreeOkP ns) {c p : Nat} (hc : c < ns.length) (hp : p < ns.length) (k : Nat) : kidsOf (hangN ns c p) k = if p = k then lessL (c : Int) (kidsOf ns k) ++ [(c : Int)] else lessL (c : Int) (kidsOf ns k) := by
  rw [hangN, kidsOf_setKids _ _ _ (fun ks => ks ++ [(c : Int)]) (by simp [takeN_len, hp]), kidsOf_setPar, kidsOf_takeN h hc]
theorem parOf_hangN {ns : List PNode} {c p : Nat} (hc : c < ns.length) (k : Nat) : parOf (hangN ns c p) k = if c = k then (p : Int) else parOf ns k := by
  rw [hangN, parOf_setKids _ _ _ (fun ks => ks ++ [(c : Int)]), parOf_setPar _ _ _ _ (by rw [takeN_len]; exact hc), parOf_takeN hc]
  by_cases e : c = k <;> simp [e]

/-- What a node has besides its links. -/
def bareOf (n : PNode) : Int × ByteArray × List (ByteArray × ByteArray) × ByteArray := (n.kind, n.name, n.attrs, n.text)
def bareAt (ns : List PNode) (k : Nat) : Option (Int × ByteArray × List (ByteArray × ByteArray) × ByteArray) := ns[k]?.map bareOf
theorem bare_modify (ns : List PNode) (j k : Nat) (f : PNode → PNode) (hf : ∀ n, bareOf (f n) = bareOf n) : bareAt (ns.modify j f) k = bareAt ns k := by
  simp only [bareAt, List.getElem?_modify]
  cases ns[k]? with
  | none => rfl
  | some n => by_cases h : j = k <;> simp [h, hf]
theorem bareAt_cutN (ns : List PNode) (c k : Nat) : bareAt (cutN ns c) k = bareAt ns k := by
  unfold cutN
  split
  · rfl
  · exact bare_modify ns _ k _ (fun _ => rfl)
theorem bareAt_takeN (ns : List PNode) (c k : Nat) : bareAt (takeN ns c) k = bareAt ns k := (bare_modify (cutN ns c) c k (fun n => setPar n (-1)) (fun _ => rfl)).trans (bareAt_cutN ns c k)
theorem bareAt_hangN (ns : List PNode) (c p k : Nat) : bareAt (hangN ns c p) k = bareAt ns k := (bare_modify ((takeN ns c).modify c fun n => setPar n (p : Int)) p k (fun n => setKids n (n.kids ++ [(c : Int)])) (fun _ => rfl)).trans ((bare_modify (takeN ns c) c k (fun n => setPar n (p : Int)) (fun _ => rfl)).trans (bareAt_takeN ns c k))
theorem bare_takeN {ns : List PNode} {c k : Nat} (hk : k < ns.length) : bareOf ((takeN ns c)[k]'(by rw [takeN_len]; exact hk)) = bareOf ns[k] := by
  have := bareAt_takeN ns c k
  simpa [bareAt, hk, takeN_len] using this
theorem bare_hangN {ns : List PNode} {c p k : Nat} (hk : k < ns.length) : bareOf ((hangN ns c p)[k]'(by rw [hangN_len]; exact hk)) = bareOf ns[k] := by
  have := bareAt_hangN ns c p k
  simpa [bareAt, hk, hangN_len] using this

/-- The node may have Kids. -/
def opensB (n : PNode) : Bool := decide (n.kind = 1) || decide (n.kind = 3)
theorem nodeB_kids {k : Int} {nm tx : ByteArray} {rs : List (ByteArray × ByteArray)} {a b : Nat} (h : nodeB k nm rs tx a = true) (hk : a = 0 → b = 0 ∨ k = 1 ∨ k = 3) : nodeB k nm rs tx b = true := by
  unfold nodeB at h ⊢
  by_cases e1 : k = 1
  · simp_all
  by_cases e2 : k = 2
  · simp_all
  by_cases e3 : k = 3
  · simp_all
  by_cases e4 : k = 4
  · simp_all
  by_cases e5 : k = 5
  · simp_all
  · simp_all
theorem nodeB_opens {k : Int} {nm tx : ByteArray} {rs : List (ByteArray × ByteArray)} {a : Nat} (h : nodeB k nm rs tx a = true) (ha : a ≠ 0) : k = 1 ∨ k = 3 := by
  unfold nodeB at h
  by_cases e1 : k = 1
  · exact .inl e1
  by_cases e3 : k = 3
  · exact .inr e3
  exfalso
  by_cases e2 : k = 2
  · simp_all
  by_cases e4 : k = 4
  · simp_all
  by_cases e5 : k = 5
  · simp_all
  · simp_all
theorem good_of {n m : PNode} {k : Nat} (hb : bareOf m = bareOf n) (h : goodB n k = true) (hk : n.kids.length = 0 → m.kids.length = 0 ∨ opensB n = true) : goodB m k = true := by
  simp only [bareOf, Prod.mk.injEq] at hb
  obtain ⟨h1, h2, h3, h4⟩ := hb
  unfold goodB at h ⊢
  rw [h1, h2, h3, h4]
  simp only [Bool.and_eq_true] at h ⊢
  exact ⟨h.1, nodeB_kids h.2 (fun z => by
    rcases hk z with x | x
    · exact .inl x
    · exact .inr (by simpa [opensB] using x))⟩
theorem opens_of {n m : PNode} {k : Nat} (hb : bareOf m = bareOf n) (h : goodB m k = true) (hk : m.kids.length ≠ 0) : opensB n = true := by
  simp only [bareOf, Prod.mk.injEq] at hb
  obtain ⟨h1, h2, h3, h4⟩ := hb
  unfold goodB at h
  simp only [Bool.and_eq_true] at h
  have := nodeB_opens h.2 hk
  rw [h1] at this
  simpa [opensB] using this

/-- The node i stands d steps below node c. -/
def belD (ns : List PNode) (c : Nat) : Nat → Nat → Prop
  | 0, i => i = c
  | d + 1, i => ∃ q, belD ns c d q ∧ (i : Int) ∈ kidsOf ns q
theorem bel_dep {ns : List PNode} {c m : Nat} (hc : dep ns m c) : ∀ d i, belD ns c d i → dep ns (m + d) i
  | 0, i, h => by cases h; exact hc
  | d + 1, i, h => by
    obtain ⟨q, hq, hm⟩ := h
    exact ⟨q, bel_dep hc d q hq, hm⟩

/-- Taken away it leaves a tree. -/
theorem take_ok {ns : List PNode} (h : STreeOkP ns) {c : Nat} (hc : c < ns.length) (h0 : c ≠ 0) : STreeOkP (takeN ns c) := by
  have hkid : ∀ q (i : Nat), (i : Int) ∈ kidsOf ns q → i ≠ c → (i : Int) ∈ kidsOf (takeN ns c) q := fun q i hm e => by
    rw [kidsOf_takeN h hc, mem_lessL]; exact ⟨hm, by omega⟩
  have hcd : dep (takeN ns c) 0 c := ⟨by rw [takeN_len]; exact hc, by rw [parOf_takeN hc, if_pos rfl]⟩
  have hall : ∀ d i, dep ns d i → ∃ e, dep (takeN ns c) e i := by
    intro d
    induction d with
    | zero => exact fun i hd => ⟨0, by rw [takeN_len]; exact hd.1, by rw [parOf_takeN hc]; split; rfl; exact hd.2⟩
    | succ d ih =>
      intro i hd
      by_cases e : i = c
      · exact ⟨0, e ▸ hcd⟩
      · obtain ⟨q, hq, hm⟩ := hd
        obtain ⟨f, hf⟩ := ih q hq
        exact ⟨f + 1, q, hf, hkid q i hm e⟩
  refine ⟨⟨by rw [takeN_len]; exact h.1.one, by rw [takeN_len]; exact h.1.most, fun k hk => ?_, fun k hk => ?_, fun i hi => ?_⟩, ?_⟩
  · have hk' : k < ns.length := by rw [takeN_len] at hk; exact hk
    refine good_of (bare_takeN hk') (h.1.good k hk') (fun z => .inl ?_)
    have h1 := kidsOf_takeN h hc k
    rw [kidsOf_at hk, kidsOf_at hk'] at h1
    rw [h1]
    have := lessL_len (c : Int) ns[k].kids
    omega
  · have hk' : k < ns.length := by rw [takeN_len] at hk; exact hk
    obtain ⟨f1, f2⟩ := h.1.fit k hk'
    rw [kidsOf_takeN h hc]
    refine ⟨f1.sublist List.filter_sublist, fun x hx => ?_⟩
    obtain ⟨hx1, hx2⟩ := mem_lessL.mp hx
    obtain ⟨g1, g2, g3⟩ := f2 x hx1
    refine ⟨g1, by rw [takeN_len]; exact g2, ?_⟩
    rw [parOf_takeN hc, if_neg (by omega)]
    exact g3
  · rw [takeN_len] at hi
    obtain ⟨d, hd⟩ := h.1.linked i hi
    exact hall d i hd
  · rw [parOf_takeN hc, if_neg h0]; exact h.2

/-- Where it is hung below what may have Kids, and not below itself, it leaves a tree. -/
theorem hang_ok {ns : List PNode} (h : STreeOkP ns) {c p : Nat} (hc : c < ns.length) (hp : p < ns.length) (h0 : c ≠ 0) (ho : opensB ns[p] = true) (hb : ∀ d, ¬ belD ns c d p) : STreeOkP (hangN ns c p) := by
  have hkid : ∀ q (i : Nat), (i : Int) ∈ kidsOf ns q → i ≠ c → (i : Int) ∈ kidsOf (hangN ns c p) q := fun q i hm e => by
    rw [kidsOf_hangN h hc hp]
    have : (i : Int) ∈ lessL (c : Int) (kidsOf ns q) := mem_lessL.mpr ⟨hm, by omega⟩
    split
    · exact List.mem_append_left _ this
    · exact this
  have hout : ∀ d i, dep ns d i → (∀ e, ¬ belD ns c e i) → dep (hangN ns c p) d i := by
    intro d
    induction d with
    | zero =>
      intro i hd hn
      refine ⟨by rw [hangN_len]; exact hd.1, ?_⟩
      rw [parOf_hangN hc, if_neg (fun e => hn 0 e.symm)]
      exact hd.2
    | succ d ih =>
      intro i hd hn
      obtain ⟨q, hq, hm⟩ := hd
      exact ⟨q, ih q hq (fun e he => hn (e + 1) ⟨q, he, hm⟩), hkid q i hm (fun e => hn 0 e)⟩
  have hcd : ∃ e, dep (hangN ns c p) e c := by
    obtain ⟨d, hd⟩ := h.1.linked p hp
    refine ⟨d + 1, p, hout d p hd hb, ?_⟩
    rw [kidsOf_hangN h hc hp, if_pos rfl]
    simp
  have hin : ∀ d i, belD ns c d i → ∃ e, dep (hangN ns c p) e i := by
    intro d
    induction d with
    | zero => intro i hi; cases hi; exact hcd
    | succ d ih =>
      intro i hi
      by_cases e : i = c
      · exact e ▸ hcd
      · obtain ⟨q, hq, hm⟩ := hi
        obtain ⟨f, hf⟩ := ih q hq
        exact ⟨f + 1, q, hf, hkid q i hm e⟩
  refine ⟨⟨by rw [hangN_len]; exact h.1.one, by rw [hangN_len]; exact h.1.most, fun k hk => ?_, fun k hk => ?_, fun i hi => ?_⟩, ?_⟩
  · have hk' : k < ns.length := by rw [hangN_len] at hk; exact hk
    refine good_of (bare_hangN hk') (h.1.good k hk') (fun z => ?_)
    by_cases e : p = k
    · subst e; exact .inr ho
    · left
      have h1 := kidsOf_hangN h hc hp k
      rw [kidsOf_at hk, kidsOf_at hk', if_neg e] at h1
      rw [h1]
      have := lessL_len (c : Int) ns[k].kids
      omega
  · have hk' : k < ns.length := by rw [hangN_len] at hk; exact hk
    obtain ⟨f1, f2⟩ := h.1.fit k hk'
    rw [kidsOf_hangN h hc hp]
    have hless : FitPre (hangN ns c p) k (lessL (c : Int) (kidsOf ns k)) := by
      refine ⟨f1.sublist List.filter_sublist, fun x hx => ?_⟩
      obtain ⟨hx1, hx2⟩ := mem_lessL.mp hx
      obtain ⟨g1, g2, g3⟩ := f2 x hx1
      refine ⟨g1, by rw [hangN_len]; exact g2, ?_⟩
      rw [parOf_hangN hc, if_neg (by omega)]
      exact g3
    by_cases e : p = k
    · rw [if_pos e]
      refine ⟨?_, fun x hx => ?_⟩
      · rw [List.nodup_append]
        refine ⟨hless.1, by simp, fun a ha b hb' e' => ?_⟩
        simp at hb'
        exact (mem_lessL.mp ha).2 (e'.trans hb')
      · rcases List.mem_append.mp hx with hx | hx
        · exact hless.2 x hx
        · simp at hx
          subst hx
          refine ⟨by omega, by rw [hangN_len]; omega, ?_⟩
          rw [show ((c : Int)).toNat = c by simp, parOf_hangN hc, if_pos rfl, e]
    · rw [if_neg e]; exact hless
  · rw [hangN_len] at hi
    obtain ⟨d, hd⟩ := h.1.linked i hi
    by_cases hx : ∃ e, belD ns c e i
    · obtain ⟨e, he⟩ := hx; exact hin e i he
    · exact ⟨d, hout d i hd (fun e he => hx ⟨e, he⟩)⟩
  · rw [parOf_hangN hc, if_neg h0]; exact h.2

/-- Else it leaves none. -/
theorem hang_bad {ns : List PNode} (h : STreeOkP ns) {c p : Nat} (hc : c < ns.length) (hp : p < ns.length) (hno : opensB ns[p] = false ∨ ∃ d, belD ns c d p) : ¬ TreeOkP (hangN ns c p) := by
  intro hx
  rcases hno with ho | ⟨d, hd⟩
  · have hp' : p < (hangN ns c p).length := by rw [hangN_len]; exact hp
    have h1 := kidsOf_hangN h hc hp p
    rw [if_pos rfl, kidsOf_at hp'] at h1
    have := opens_of (bare_hangN (c := c) (p := p) hp) (hx.good p hp') (by rw [h1]; simp)
    rw [ho] at this
    cases this
  · have hcp : (c : Int) ∈ kidsOf (hangN ns c p) p := by rw [kidsOf_hangN h hc hp, if_pos rfl]; simp
    obtain ⟨m, hm⟩ := hx.linked c (by rw [hangN_len]; exact hc)
    have key : ∀ d i, belD ns c d i → ∃ e, dep (hangN ns c p) (m + e) i := by
      intro d
      induction d with
      | zero => intro i hi; cases hi; exact ⟨0, hm⟩
      | succ d ih =>
        intro i hi
        by_cases e : i = c
        · subst e; exact ⟨0, hm⟩
        · obtain ⟨q, hq, hk⟩ := hi
          obtain ⟨f, hf⟩ := ih q hq
          refine ⟨f + 1, q, hf, ?_⟩
          rw [kidsOf_hangN h hc hp]
          have : (i : Int) ∈ lessL (c : Int) (kidsOf ns q) := mem_lessL.mpr ⟨hk, by omega⟩
          split
          · exact List.mem_append_left _ this
          · exact this
    obtain ⟨e, he⟩ := key d p hd
    have := dep_uniq hx.fit (m + e + 1) m c ⟨p, he, hcp⟩ hm
    omega
end Go.Proofs.YtogdbjafibejdaaGreat
