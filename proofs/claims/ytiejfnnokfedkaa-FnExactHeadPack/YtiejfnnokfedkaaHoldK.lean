/- Blocks that a walk holds, by a list. No condition. -/
import Derived.Test.YtiejfnnokfedkaaRowK
import Derived.RangeFuncRecord
namespace Go.Proofs.Ytiejfnnokfedkaa
open Go.RowKit
set_option maxRecDepth 100000
set_option linter.unusedVariables false

/-- The world W is w with more, and the listed blocks hold these cells. -/
structure Hl (w : World) (L : List (Nat × Array Value × TypeId)) (W : World) : Prop where
  bel : Below w.heap.size w W
  blk : ∀ p ∈ L, W.heap[p.1]? = some (.cells p.2.1 p.2.2 (0, 0))
theorem Hl.at {w W : World} {L : List (Nat × Array Value × TypeId)} (h : Hl w L W) {b : Nat} {cs : Array Value} {t : TypeId} (hm : (b, cs, t) ∈ L) : W.heap[b]? = some (.cells cs t (0, 0)) := h.2 _ hm
theorem Hl.at0 {w W : World} {L : List (Nat × Array Value × TypeId)} {b : Nat} {cs : Array Value} {t : TypeId} (h : Hl w ((b, cs, t) :: L) W) : W.heap[b]? = some (.cells cs t (0, 0)) := h.2 _ (List.mem_cons_self ..)
theorem Hl.at1 {w W : World} {L : List (Nat × Array Value × TypeId)} {p : Nat × Array Value × TypeId} {b : Nat} {cs : Array Value} {t : TypeId} (h : Hl w (p :: (b, cs, t) :: L) W) : W.heap[b]? = some (.cells cs t (0, 0)) := h.2 _ (List.mem_cons_of_mem _ (List.mem_cons_self ..))
theorem Hl.at2 {w W : World} {L : List (Nat × Array Value × TypeId)} {p q : Nat × Array Value × TypeId} {b : Nat} {cs : Array Value} {t : TypeId} (h : Hl w (p :: q :: (b, cs, t) :: L) W) : W.heap[b]? = some (.cells cs t (0, 0)) := h.2 _ (List.mem_cons_of_mem _ (List.mem_cons_of_mem _ (List.mem_cons_self ..)))
theorem Hl.at3 {w W : World} {L : List (Nat × Array Value × TypeId)} {p q r : Nat × Array Value × TypeId} {b : Nat} {cs : Array Value} {t : TypeId} (h : Hl w (p :: q :: r :: (b, cs, t) :: L) W) : W.heap[b]? = some (.cells cs t (0, 0)) := h.2 _ (List.mem_cons_of_mem _ (List.mem_cons_of_mem _ (List.mem_cons_of_mem _ (List.mem_cons_self ..))))
theorem Hl.refl (w : World) : Hl w [] w := ⟨Below.refl _ _, fun p hp => absurd hp (by simp)⟩
theorem Hl.below {w W W' : World} {L : List (Nat × Array Value × TypeId)} (h : Hl w L W) (b : Below W.heap.size W W') : Hl w L W' := ⟨h.1.trans (b.mono h.1.size), fun p hp => (b.block _ (lt_of_block (h.2 p hp))).trans (h.2 p hp)⟩
theorem Hl.new {w W : World} {L : List (Nat × Array Value × TypeId)} (h : Hl w L W) (cs : Array Value) (t : TypeId) : Hl w ((W.heap.size, cs, t) :: L) (W.alloc (.cells cs t)) := by
  have hb : Below W.heap.size W (W.alloc (.cells cs t)) := (Below.refl _ _).alloc (Nat.le_refl _) _
  refine ⟨(h.below hb).1, fun p hp => ?_⟩
  rcases List.mem_cons.mp hp with rfl | hp
  · exact World.alloc_heap_new _ _
  · exact (h.below hb).2 p hp
theorem Hl.tail {w W : World} {p : Nat × Array Value × TypeId} {L : List (Nat × Array Value × TypeId)} (h : Hl w (p :: L) W) : Hl w L W := ⟨h.1, fun q hq => h.2 q (List.mem_cons_of_mem _ hq)⟩
theorem Hl.lt {w W : World} {L : List (Nat × Array Value × TypeId)} (h : Hl w L W) {p : Nat × Array Value × TypeId} (hm : p ∈ L) : p.1 < W.heap.size := lt_of_block (h.2 p hm)
/-- A cell of the first block is set. -/
theorem Hl.set {w W : World} {L : List (Nat × Array Value × TypeId)} {N : Nat} {cs : Array Value} {t : TypeId} (h : Hl w ((N, cs, t) :: L) W) (hN : w.heap.size ≤ N) (hL : ∀ p ∈ L, p.1 ≠ N) (k : Nat) (u : Value) : Hl w ((N, cs.setIfInBounds k u, t) :: L) (W.setCell ⟨N, k, none⟩ u) := by
  refine ⟨h.1.setCell (p := ⟨N, k, none⟩) hN _, fun p hp => ?_⟩
  rcases List.mem_cons.mp hp with rfl | hp
  · exact rk_at h.at0
  · have hg := grown_setCell W N k u
    have hp' := h.2 p (List.mem_cons_of_mem _ hp)
    exact (hg.block p.1 (lt_of_block hp') (fun e => hL p hp (Option.some.inj e))).trans hp'
theorem Hl.set2 {w W : World} {L : List (Nat × Array Value × TypeId)} {N : Nat} {x y : Value} {t : TypeId} (h : Hl w ((N, #[x, y], t) :: L) W) (hN : w.heap.size ≤ N) (hL : ∀ p ∈ L, p.1 ≠ N) (a b : Value) : Hl w ((N, #[a, b], t) :: L) ((W.setCell ⟨N, 0, none⟩ a).setCell ⟨N, 1, none⟩ b) := (h.set hN hL 0 a).set hN hL 1 b
theorem Hl.set3 {w W : World} {L : List (Nat × Array Value × TypeId)} {N : Nat} {x y z : Value} {t : TypeId} (h : Hl w ((N, #[x, y, z], t) :: L) W) (hN : w.heap.size ≤ N) (hL : ∀ p ∈ L, p.1 ≠ N) (a b c : Value) : Hl w ((N, #[a, b, c], t) :: L) (((W.setCell ⟨N, 0, none⟩ a).setCell ⟨N, 1, none⟩ b).setCell ⟨N, 2, none⟩ c) := ((h.set hN hL 0 a).set hN hL 1 b).set hN hL 2 c
theorem Hl.swap {w W : World} {p q : Nat × Array Value × TypeId} {L : List (Nat × Array Value × TypeId)} (h : Hl w (p :: q :: L) W) : Hl w (q :: p :: L) W := ⟨h.1, fun r hr => h.2 r (by simp only [List.mem_cons] at hr ⊢; rcases hr with hr | hr | hr <;> simp [hr])⟩
theorem Hl.past {w W W' : World} {L : List (Nat × Array Value × TypeId)} (h : Hl w L W) {row : Option Nat} (g : W.grownBy W' row) (hr : ∀ r, row = some r → w.heap.size ≤ r ∧ ∀ p ∈ L, p.1 ≠ r) : Hl w L W' := ⟨h.1.grown g h.1.size (fun r e => (hr r e).1), fun p hp => (g.block _ (lt_of_block (h.2 p hp)) (fun e => by
    subst e; exact (hr p.1 rfl).2 p hp rfl)).trans (h.2 p hp)⟩
theorem Hl.sub {w W : World} {L L' : List (Nat × Array Value × TypeId)} (h : Hl w L W) (hs : ∀ p ∈ L', p ∈ L) : Hl w L' W := ⟨h.1, fun p hp => h.2 p (hs p hp)⟩
end Go.Proofs.Ytiejfnnokfedkaa
