import Derived.Test.YtiejfnnokfedkaaDoorB11
import Derived.RangeFuncRecord
import Derived.Test.YtiejfnnokfedkaaDoorB15
import Derived.Test.YtiejfnnokfedkaaDoorB0
/- Blocks that a walk holds, by a list. No condition. -/
namespace Go.Proofs.YtiejfnnokfedkaaDoor
open Go.RowKit
set_option maxRecDepth 100000
set_option linter.unusedVariables false

/-- The world W is w with more, and the listed blocks hold these cells. -/
structure Hl (w : World) (L : List (Nat × Array Value × TypeId)) (W : World) : Prop where
  bel : Below w.heap.size w W
  blk : ∀ p ∈ L, W.heap[p.1]? = some (.cells p.2.1 p.2.2 (0, 0))
theorem Hl.at {w W : World} {L : List (Nat × Array Value × TypeId)} (h : Hl w L W) {b : Nat} {cs : Array Value} {t : TypeId} (hm : (b, cs, t) ∈ L) : W.heap[b]? = some (.cells cs t (0, 0)) := h.2 _ hm
theorem Hl.at0 {w W : World} {L : List (Nat × Array Value × TypeId)} {b : Nat} {cs : Array Value} {t : TypeId} (h : Hl w ((b, cs, t) :: L) W) : W.heap[b]? = some (.cells cs t (0, 0)) := h.2 _ (List.mem_cons_self ..)
theorem Hl.at1 {w W : World} {L : List (Nat × Array Value × TypeId)} {p : Nat × Array Value × TypeId} {b : Nat} {cs : Array Value} {t : TypeId} (h : Hl w (p :: (b, cs, t) :: L) W) : W.heap[b]? = some (.cells cs t (0, 0)) := h.2 _ (List.mem_cons_of_mem _ (List.mem_cons_self ..))
theorem Hl.at2 {w W : World} {L : List (Nat × Array Value × TypeId)} {p q : Nat × Array Value × TypeId} {b : Nat} {cs : Array Value} {t : TypeId} (h : Hl w (p :: q :: (b, cs, t) :: L) W) : W.heap[b]? = some (.cells cs t (0, 0)) := h.2 _ (List.mem_cons_of_mem _ (List.mem_cons_of_mem _ (List.mem_cons_self ..)))
theorem Hl.at3 {w W : World} {L : List (Nat × Array Value × TypeId)} {p q r : Nat × Array Value × TypeId} {b : Nat} {cs : Array Value} {t : TypeId} (h : Hl w (p :: q :: r :: (b, cs, t) :: L) W) : W.heap[b]? = some (.cells cs t (0, 0)) := h.2 _ (List.mem_cons_of_mem _ (List.mem_cons_of_mem _ (List.mem_cons_of_mem _ (List.mem_cons_self ..))))
theorem Hl.refl (w : World) : Hl w [] w := ⟨Below.refl _ _, fun p hp => absurd hp (by simp)⟩
theorem Hl.below {w W W' : World} {L : List (Nat × Array Value × TypeId)} (h : Hl w L W) (b : Below W.heap.size W W') : Hl w L W' := ⟨h.1.trans (b.mono h.1.size), fun p hp => (b.block _ (lt_of_block (h.2 p hp))).trans (h.2 p hp)⟩
theorem Hl.new {w W : World} {L : List (Nat × Array Value × TypeId)} (h : Hl w L W) (cs : Array Value) (t : TypeId) : Hl w ((W.heap.size, cs, t) :: L) (W.alloc (.cells cs t)) := by
  have hb : Below W.heap.size W (W.alloc (.cells cs t)) := (Below.refl _ _).alloc (Nat.le_refl _) _
  refine ⟨(h.below hb).1, fun p hp => ?_⟩
  rcases List.mem_cons.mp hp with rfl | hp
  · exact World.alloc_heap_new _ _
  · exact (h.below hb).2 p hp
theorem Hl.tail {w W : World} {p : Nat × Array Value × TypeId} {L : List (Nat × Array Value × TypeId)} (h : Hl w (p :: L) W) : Hl w L W := ⟨h.1, fun q hq => h.2 q (List.mem_cons_of_mem _ hq)⟩
theorem Hl.lt {w W : World} {L : List (Nat × Array Value × TypeId)} (h : Hl w L W) {p : Nat × Array Value × TypeId} (hm : p ∈ L) : p.1 < W.heap.size := lt_of_block (h.2 p hm)
/-- A cell of the first block is set. -/
theorem Hl.set {w W : World} {L : List (Nat × Array Value × TypeId)} {N : Nat} {cs : Array Value} {t : TypeId} (h : Hl w ((N, cs, t) :: L) W) (hN : w.heap.size ≤ N) (hL : ∀ p ∈ L, p.1 ≠ N) (k : Nat) (u : Value) : Hl w ((N, cs.setIfInBounds k u, t) :: L) (W.setCell ⟨N, k, none⟩ u) := by
  refine ⟨h.1.setCell (p := ⟨N, k, none⟩) hN _, fun p hp => ?_⟩
  rcases List.mem_cons.mp hp with rfl | hp
  · exact rk_at h.at0
  · have hg := grown_setCell W N k u
    have hp' := h.2 p (List.mem_cons_of_mem _ hp)
    exact (hg.block p.1 (lt_of_block hp') (fun e => hL p hp (Option.some.inj e))).trans hp'
theorem Hl.set2 {w W : World} {L : List (Nat × Array Value × TypeId)} {N : Nat} {x y : Value} {t : TypeId} (h : Hl w ((N, #[x, y], t) :: L) W) (hN : w.heap.size ≤ N) (hL : ∀ p ∈ L, p.1 ≠ N) (a b : Value) : Hl w ((N, #[a, b], t) :: L) ((W.setCell ⟨N, 0, none⟩ a).setCell ⟨N, 1, none⟩ b) := (h.set hN hL 0 a).set hN hL 1 b
theorem Hl.set3 {w W : World} {L : List (Nat × Array Value × TypeId)} {N : Nat} {x y z : Value} {t : TypeId} (h : Hl w ((N, #[x, y, z], t) :: L) W) (hN : w.heap.size ≤ N) (hL : ∀ p ∈ L, p.1 ≠ N) (a b c : Value) : Hl w ((N, #[a, b, c], t) :: L) (((W.setCell ⟨N, 0, none⟩ a).setCell ⟨N, 1, none⟩ b).setCell ⟨N, 2, none⟩ c) := ((h.set hN hL 0 a).set hN hL 1 b).set hN hL 2 c
theorem Hl.swap {w W : World} {p q : Nat × Array Value × TypeId} {L : List (Nat × Array Value × TypeId)} (h : Hl w (p :: q :: L) W) : Hl w (q :: p :: L) W := ⟨h.1, fun r hr => h.2 r (by simp only [List.mem_cons] at hr ⊢; rcases hr with hr | hr | hr <;> simp [hr])⟩
theorem Hl.past {w W W' : World} {L : List (Nat × Array Value × TypeId)} (h : Hl w L W) {row : Option Nat} (g : W.grownBy W' row) (hr : ∀ r, row = some r → w.heap.size ≤ r ∧ ∀ p ∈ L, p.1 ≠ r) : Hl w L W' := ⟨h.1.grown g h.1.size (fun r e => (hr r e).1), fun p hp => (g.block _ (lt_of_block (h.2 p hp)) (fun e => by
    subst e; exact (hr p.1 rfl).2 p hp rfl)).trans (h.2 p hp)⟩
theorem Hl.sub {w W : World} {L L' : List (Nat × Array Value × TypeId)} (h : Hl w L W) (hs : ∀ p ∈ L', p ∈ L) : Hl w L' W := ⟨h.1, fun p hp => h.2 p (hs p hp)⟩
end Go.Proofs.YtiejfnnokfedkaaDoor

/- What a draw holds while it goes on, by lists: the cursor, blocks, disks. No condition. -/
namespace Go.Proofs.YtiejfnnokfedkaaDoor
open Go.RowKit
set_option maxRecDepth 100000
set_option linter.unusedVariables false

/-- A slice whose cells lie in blocks from lo on and below hi. -/
def SvI (lo hi size : Nat) (w : World) (v : Value) (cs : List Value) : Prop := Sv size w v cs ∧ ∀ a n c, v = .slice a n c → 0 < n → ∃ p, a = some p ∧ lo ≤ p.block ∧ p.block < hi
theorem SvI.keep {lo hi size : Nat} {w w' : World} {v : Value} {cs : List Value} (h : SvI lo hi size w v cs) (k : ∀ j, lo ≤ j → j < hi → w'.heap[j]? = w.heap[j]?) (hs : 0 < size) : SvI lo hi size w' v cs := by
  obtain ⟨⟨a, n, c, e, h1, h2, h3, h4, hc⟩, hb⟩ := h
  refine ⟨⟨a, n, c, e, h1, h2, h3, h4, fun i hi => ?_⟩, hb⟩
  obtain ⟨b, off, rfl, cc⟩ := hc i hi
  refine ⟨b, off, rfl, ?_⟩
  have hn : 0 < n := by
    rcases Nat.eq_zero_or_pos n with rfl | h
    · simp at h1; rw [h1] at hi; simp at hi
    · exact h
  obtain ⟨p, ep, l1, l2⟩ := hb _ _ _ e hn
  cases ep
  have := k b l1 l2
  simp only [World.cell?, this] at cc ⊢
  exact cc
/-- A disk whose rows lie so. -/
def DiskI (lo hi : Nat) (w : World) (v : Value) (d : PDisk) : Prop := ∃ sa sn sc la ln lc, v = .agg #[.slice sa sn sc, .slice la ln lc] ∧ SvI lo hi 1 w (.slice sa sn sc) (strCells d.safe) ∧ SvI lo hi 2 w (.slice la ln lc) (putCells d.late)
theorem DiskI.at {lo hi : Nat} {w : World} {v : Value} {d : PDisk} (h : DiskI lo hi w v d) : DiskAt w v d := by
  obtain ⟨sa, sn, sc, la, ln, lc, e, h1, h2⟩ := h
  exact ⟨sa, sn, sc, la, ln, lc, e, h1.1, h2.1⟩
theorem DiskI.keep {lo hi : Nat} {w w' : World} {v : Value} {d : PDisk} (h : DiskI lo hi w v d) (k : ∀ j, lo ≤ j → j < hi → w'.heap[j]? = w.heap[j]?) : DiskI lo hi w' v d := by
  obtain ⟨sa, sn, sc, la, ln, lc, e, h1, h2⟩ := h
  exact ⟨sa, sn, sc, la, ln, lc, e, h1.keep k (by decide), h2.keep k (by decide)⟩
theorem DiskI.wide {lo hi lo' hi' : Nat} {w : World} {v : Value} {d : PDisk} (h : DiskI lo hi w v d) (h1 : lo' ≤ lo) (h2 : hi ≤ hi') : DiskI lo' hi' w v d := by
  obtain ⟨sa, sn, sc, la, ln, lc, e, k1, k2⟩ := h
  have f : ∀ {size : Nat} {u : Value} {cs : List Value}, SvI lo hi size w u cs → SvI lo' hi' size w u cs := fun h => ⟨h.1, fun a n c e hn => by
    obtain ⟨p, e1, e2, e3⟩ := h.2 a n c e hn
    exact ⟨p, e1, by omega, by omega⟩⟩
  exact ⟨sa, sn, sc, la, ln, lc, e, f k1, f k2⟩
theorem sv_hi {size B : Nat} {w : World} {a : Option Addr} {n c : Nat} {xs : List Value} (h : Sv size w (.slice a n c) xs) (ha : ∀ p, a = some p → B ≤ p.block) (hs : 0 < size) : SvI B w.heap.size size w (.slice a n c) xs := by
  refine ⟨h, fun a' n' c' e hn => ?_⟩
  cases e
  obtain ⟨a', n', c', e, h1, h2, h3, h4, hc⟩ := h
  cases e
  have hl : 0 < xs.length := by rw [h1]; exact Nat.mul_pos hn hs
  obtain ⟨b, off, rfl, cc⟩ := hc 0 hl
  refine ⟨_, rfl, ha _ rfl, ?_⟩
  by_cases hlt : b < w.heap.size
  · exact hlt
  · exfalso; simp [World.cell?, Array.getElem?_eq_none (Nat.le_of_not_lt hlt)] at cc
theorem DiskB.diskI {B : Nat} {w : World} {v : Value} {d : PDisk} (h : DiskB B w v d) : DiskI B w.heap.size w v d := by
  obtain ⟨sa, sn, sc, la, ln, lc, e, h1, h2, h3, h4⟩ := h
  exact ⟨sa, sn, sc, la, ln, lc, e, sv_hi h1 h3 (by decide), sv_hi h2 h4 (by decide)⟩

/-- The cursor in block g, the listed blocks and disks, in a world that is w with more and the cursor moved. -/
structure Dw (w0 : World) (g : Nat) (v : Value) (xs : List Int) (w : World) (L : List (Nat × Array Value × TypeId)) (R : List (Nat × Nat × Value × PDisk)) (W : World) : Prop where
  cur : Cur w0 g v xs W
  gr : w.grownBy W (some g)
  blk : ∀ p ∈ L, w.heap.size ≤ p.1 ∧ w0.heap.size ≤ p.1 ∧ p.1 ≠ g ∧ W.heap[p.1]? = some (.cells p.2.1 p.2.2 (0, 0))
  rows : ∀ r ∈ R, DiskI r.1 r.2.1 W r.2.2.1 r.2.2.2 ∧ g < r.1 ∧ r.2.1 ≤ W.heap.size
section
variable {w0 : World} {g : Nat} {v : Value} {xs : List Int} {w : World} {L : List (Nat × Array Value × TypeId)} {R : List (Nat × Nat × Value × PDisk)} {W W' : World}
theorem Dw.below (h : Dw w0 g v xs w L R W) (b : Below W.heap.size W W') : Dw w0 g v xs w L R W' :=
  ⟨h.cur.below b, grown_trans h.gr ⟨b.os, b.tape, b.output, b.size, fun j hj _ => b.block j hj⟩, fun p hp => ⟨(h.blk p hp).1, (h.blk p hp).2.1, (h.blk p hp).2.2.1, (b.block _ (lt_of_block (h.blk p hp).2.2.2)).trans (h.blk p hp).2.2.2⟩,
   fun r hr => ⟨(h.rows r hr).1.keep (fun j _ hj => b.block j (by have := (h.rows r hr).2.2; omega)), (h.rows r hr).2.1, Nat.le_trans (h.rows r hr).2.2 b.size⟩⟩
theorem Dw.cursor (h : Dw w0 g v xs w L R W) (k : Cur w0 g v xs W') (gr : W.grownBy W' (some g)) : Dw w0 g v xs w L R W' :=
  ⟨k, grown_trans h.gr gr, fun p hp => ⟨(h.blk p hp).1, (h.blk p hp).2.1, (h.blk p hp).2.2.1, (gr.block _ (lt_of_block (h.blk p hp).2.2.2) (fun e => (h.blk p hp).2.2.1 (Option.some.inj e))).trans (h.blk p hp).2.2.2⟩,
   fun r hr => ⟨(h.rows r hr).1.keep (fun j hj hj2 => gr.block j (by have := (h.rows r hr).2.2; omega) (fun e => by have := Option.some.inj e; have := (h.rows r hr).2.1; omega)), (h.rows r hr).2.1, Nat.le_trans (h.rows r hr).2.2 gr.size⟩⟩
theorem Dw.new (h : Dw w0 g v xs w L R W) (cs : Array Value) (t : TypeId) : Dw w0 g v xs w ((W.heap.size, cs, t) :: L) R (W.alloc (.cells cs t)) := by
  have hb : Below W.heap.size W (W.alloc (.cells cs t)) := (Below.refl _ _).alloc (Nat.le_refl _) _
  have h' := h.below hb
  refine ⟨h'.cur, h'.gr, fun p hp => ?_, h'.rows⟩
  rcases List.mem_cons.mp hp with rfl | hp
  · exact ⟨h.gr.size, h.cur.2.2.1.size, by have := h.cur.lt; simp only; omega, World.alloc_heap_new _ _⟩
  · exact h'.blk p hp
theorem Dw.tail {p : Nat × Array Value × TypeId} (h : Dw w0 g v xs w (p :: L) R W) : Dw w0 g v xs w L R W := ⟨h.cur, h.gr, fun q hq => h.blk q (List.mem_cons_of_mem _ hq), h.rows⟩
theorem Dw.sub {L' : List (Nat × Array Value × TypeId)} {R' : List (Nat × Nat × Value × PDisk)} (h : Dw w0 g v xs w L R W) (h1 : ∀ p ∈ L', p ∈ L) (h2 : ∀ r ∈ R', r ∈ R) : Dw w0 g v xs w L' R' W := ⟨h.cur, h.gr, fun p hp => h.blk p (h1 p hp), fun r hr => h.rows r (h2 r hr)⟩
theorem Dw.add {lo hi : Nat} {u : Value} {d : PDisk} (h : Dw w0 g v xs w L R W) (o : DiskI lo hi W u d) (hg : g < lo) (hh : hi ≤ W.heap.size) : Dw w0 g v xs w L ((lo, hi, u, d) :: R) W := ⟨h.cur, h.gr, h.blk, fun r hr => by
    rcases List.mem_cons.mp hr with rfl | hr
    · exact ⟨o, hg, hh⟩
    · exact h.rows r hr⟩
theorem Dw.at0 {b : Nat} {cs : Array Value} {t : TypeId} (h : Dw w0 g v xs w ((b, cs, t) :: L) R W) : W.heap[b]? = some (.cells cs t (0, 0)) := (h.blk _ (List.mem_cons_self ..)).2.2.2
theorem Dw.at1 {b : Nat} {cs : Array Value} {t : TypeId} {p : Nat × Array Value × TypeId} (h : Dw w0 g v xs w (p :: (b, cs, t) :: L) R W) : W.heap[b]? = some (.cells cs t (0, 0)) := h.tail.at0
theorem Dw.at2 {b : Nat} {cs : Array Value} {t : TypeId} {p q : Nat × Array Value × TypeId} (h : Dw w0 g v xs w (p :: q :: (b, cs, t) :: L) R W) : W.heap[b]? = some (.cells cs t (0, 0)) := h.tail.tail.at0
theorem Dw.swap {p q : Nat × Array Value × TypeId} (h : Dw w0 g v xs w (p :: q :: L) R W) : Dw w0 g v xs w (q :: p :: L) R W := h.sub (fun r hr => by simp only [List.mem_cons] at hr ⊢; rcases hr with hr | hr | hr <;> simp [hr]) (fun r hr => hr)
/-- A cell of the first block is set. -/
theorem Dw.set {N : Nat} {cs : Array Value} {t : TypeId} (h : Dw w0 g v xs w ((N, cs, t) :: L) R W) (hL : ∀ p ∈ L, p.1 ≠ N) (hR : ∀ r ∈ R, r.2.1 ≤ N ∨ N < r.1) (k : Nat) (u : Value) : Dw w0 g v xs w ((N, cs.setIfInBounds k u, t) :: L) R (W.setCell ⟨N, k, none⟩ u) := by
  have hg := grown_setCell W N k u
  obtain ⟨h1, h2, h3, h4⟩ := h.blk _ (List.mem_cons_self ..)
  simp only at h1 h2 h3 h4
  refine ⟨h.cur.kept hg (fun e => h3 (Option.some.inj e)) (fun j e => by cases e; exact h2), grown_past h.gr hg (fun j e => by cases e; exact h1), fun p hp => ?_, fun r hr => ⟨(h.rows r hr).1.keep (fun j hj hj2 => hg.block j (by have := (h.rows r hr).2.2; omega) (fun e => ?_)), (h.rows r hr).2.1, Nat.le_trans (h.rows r hr).2.2 hg.size⟩⟩
  · rcases List.mem_cons.mp hp with rfl | hp'
    · exact ⟨h1, h2, h3, rk_at h4⟩
    · obtain ⟨k1, k2, k3, k4⟩ := h.blk p (List.mem_cons_of_mem _ hp')
      exact ⟨k1, k2, k3, (hg.block _ (lt_of_block k4) (fun e => hL p hp' (Option.some.inj e))).trans k4⟩
  · have := Option.some.inj e
    rcases hR r hr with q | q <;> omega
theorem Dw.set2 {N : Nat} {x y : Value} {t : TypeId} (h : Dw w0 g v xs w ((N, #[x, y], t) :: L) R W) (hL : ∀ p ∈ L, p.1 ≠ N) (hR : ∀ r ∈ R, r.2.1 ≤ N ∨ N < r.1) (a b : Value) : Dw w0 g v xs w ((N, #[a, b], t) :: L) R ((W.setCell ⟨N, 0, none⟩ a).setCell ⟨N, 1, none⟩ b) := (h.set hL hR 0 a).set hL hR 1 b
theorem Dw.set3 {N : Nat} {x y z : Value} {t : TypeId} (h : Dw w0 g v xs w ((N, #[x, y, z], t) :: L) R W) (hL : ∀ p ∈ L, p.1 ≠ N) (hR : ∀ r ∈ R, r.2.1 ≤ N ∨ N < r.1) (a b c : Value) : Dw w0 g v xs w ((N, #[a, b, c], t) :: L) R (((W.setCell ⟨N, 0, none⟩ a).setCell ⟨N, 1, none⟩ b).setCell ⟨N, 2, none⟩ c) := ((h.set hL hR 0 a).set hL hR 1 b).set hL hR 2 c
theorem Dw.refl (h : Cur w0 g v xs w) : Dw w0 g v xs w [] [] w := ⟨h, ⟨rfl, rfl, rfl, Nat.le_refl _, fun _ _ _ => rfl⟩, fun p hp => by simp at hp, fun r hr => by simp at hr⟩
end
end Go.Proofs.YtiejfnnokfedkaaDoor

/- The number form as a list, and its plain laws. No condition. -/
namespace Go.Proofs.YtiejfnnokfedkaaDoor
open Go.RowKit
set_option maxRecDepth 100000
set_option linter.unusedVariables false

/-- The number form, with how many bytes may stand behind the first. -/
def nf : Nat → Int → List Int
  | 0, x => [x]
  | m + 1, x => if x < 128 then [x] else (128 + x % 128) :: nf m (x / 128)

/-- The number form of any number. -/
def form (x : Int) : List Int := if x < 0 then [] else nf 8 x

/-- The number has a form of at most m + 1 bytes. -/
def Bd (m : Nat) (x : Int) : Prop := 0 ≤ x ∧ x < 128 ^ (m + 1)

theorem Bd.next {m : Nat} {x : Int} (h : Bd m x) (hx : 128 ≤ x) : ∃ n, m = n + 1 ∧ Bd n (x / 128) := by
  obtain ⟨h0, h1⟩ := h
  cases m with
  | zero => simp at h1; omega
  | succ n =>
    refine ⟨n, rfl, by omega, ?_⟩
    rw [Int.pow_succ] at h1
    exact Int.ediv_lt_of_lt_mul (by omega) h1
theorem bd_of {x : Int} (h0 : 0 ≤ x) (h1 : x ≤ 9223372036854775807) : Bd 8 x := ⟨h0, by
  have : (128 : Int) ^ (8 + 1) = 9223372036854775808 := by decide
  omega⟩

theorem nf_lt {m : Nat} {x : Int} (h : x < 128) : nf m x = [x] := by
  cases m with
  | zero => rfl
  | succ m => simp [nf, h]
theorem nf_ge {m : Nat} {x : Int} (h : 128 ≤ x) : nf (m + 1) x = (128 + x % 128) :: nf m (x / 128) := by
  have : ¬ x < 128 := by omega
  simp [nf, this]
theorem nf_len (m : Nat) (x : Int) : 1 ≤ (nf m x).length ∧ (nf m x).length ≤ m + 1 := by
  induction m generalizing x with
  | zero => simp [nf]
  | succ m ih =>
    unfold nf
    split
    · simp
    · have := ih (x / 128); simp; omega
theorem nf_byte {m : Nat} {x : Int} (h : Bd m x) : ∀ y ∈ nf m x, 0 ≤ y ∧ y ≤ 255 := by
  induction m generalizing x with
  | zero =>
    intro y hy
    have h0 := h.1
    have h1 := h.2
    simp [nf] at hy h1
    omega
  | succ m ih =>
    intro y hy
    have h0 := h.1
    by_cases hx : x < 128
    · rw [nf_lt hx] at hy; simp at hy; omega
    · obtain ⟨n, e, hb⟩ := h.next (by omega)
      cases e
      rw [nf_ge (by omega)] at hy
      rcases List.mem_cons.mp hy with e | hy
      · omega
      · exact ih hb y hy
theorem form_len (x : Int) : (form x).length ≤ 9 := by
  unfold form; split
  · simp
  · exact (nf_len 8 x).2
theorem form_byte {x : Int} (h : x ≤ 9223372036854775807) : ∀ y ∈ form x, 0 ≤ y ∧ y ≤ 255 := by
  unfold form; split
  · simp
  · exact nf_byte (bd_of (by omega) h)
end Go.Proofs.YtiejfnnokfedkaaDoor

/- Reading a number form off a list of bytes. No condition. -/
namespace Go.Proofs.YtiejfnnokfedkaaDoor
open Go.RowKit
set_option maxRecDepth 100000
set_option linter.unusedVariables false

/-- At most m bytes more, k have been read, acc is what they give. -/
def rdA : Nat → Nat → Int → List Int → Option (Int × Nat)
  | 0, _, _, _ => none
  | _ + 1, _, _, [] => none
  | m + 1, k, acc, d :: ds => if d < 128 then (if d = 0 ∧ 0 < k then none else some (acc + d * 128 ^ k, k + 1)) else rdA m (k + 1) (acc + d % 128 * 128 ^ k) ds

/-- What GetNum finds at a place. -/
def rdI (xs : List Int) (i : Int) : Option (Int × Nat) := if i < 0 then none else rdA 9 0 0 (xs.drop i.toNat)

theorem rdA_nil {m k : Nat} {acc : Int} : rdA m k acc [] = none := by cases m <;> rfl
theorem rdA_zero {k : Nat} {acc : Int} {ds : List Int} : rdA 0 k acc ds = none := rfl
theorem rdA_end {m k : Nat} {acc d : Int} {ds : List Int} (h : d < 128) (h0 : ¬ (d = 0 ∧ 0 < k)) : rdA (m + 1) k acc (d :: ds) = some (acc + d * 128 ^ k, k + 1) := by
  simp only [rdA, if_pos h, if_neg h0]
theorem rdA_bad {m k : Nat} {acc d : Int} {ds : List Int} (h : d < 128) (h0 : d = 0 ∧ 0 < k) : rdA (m + 1) k acc (d :: ds) = none := by
  simp only [rdA, if_pos h, if_pos h0]
theorem rdA_on {m k : Nat} {acc d : Int} {ds : List Int} (h : ¬ d < 128) : rdA (m + 1) k acc (d :: ds) = rdA m (k + 1) (acc + d % 128 * 128 ^ k) ds := by
  simp only [rdA, if_neg h]
theorem rdI_neg {xs : List Int} {i : Int} (h : i < 0) : rdI xs i = none := by simp [rdI, h]
theorem rdI_out {xs : List Int} {i : Int} (h : (xs.length : Int) ≤ i) : rdI xs i = none := by
  unfold rdI
  rw [if_neg (by omega), List.drop_eq_nil_of_le (by omega), rdA_nil]
theorem rdI_nat (xs : List Int) (k : Nat) : rdI xs k = rdA 9 0 0 (xs.drop k) := by
  unfold rdI
  rw [if_neg (by omega), Int.toNat_natCast]

/-- What the powers of 128 are, up to nine. -/
theorem pow_pos7 (k : Nat) : (1 : Int) ≤ 128 ^ k := by
  induction k with
  | zero => simp
  | succ k ih => rw [Int.pow_succ]; omega
theorem pow_le7 {k : Nat} (h : k ≤ 8) : (128 : Int) ^ k ≤ 72057594037927936 := by
  have : ∀ k, k ≤ 8 → (128 : Int) ^ k ≤ 72057594037927936 := by decide
  exact this k h
/-- One more byte of a form: no wrap. -/
theorem acc_step {k : Nat} {acc d : Int} (h0 : 0 ≤ acc) (h1 : acc < 128 ^ k) (d0 : 0 ≤ d) (d1 : d < 128) : 0 ≤ acc + d * 128 ^ k ∧ acc + d * 128 ^ k < 128 ^ (k + 1) := by
  have hp := pow_pos7 k
  rw [Int.pow_succ]
  generalize (128 : Int) ^ k = p at *
  have e1 : 0 ≤ d * p := Int.mul_nonneg d0 (by omega)
  have e2 : d * p ≤ 127 * p := Int.mul_le_mul_of_nonneg_right (by omega) (by omega)
  omega
/-- What is read lies within the list, and is a number not below nought. -/
theorem rdA_some {m k : Nat} {acc y : Int} {n : Nat} {ds : List Int} (h : rdA m k acc ds = some (y, n)) (hb : ∀ x ∈ ds, 0 ≤ x ∧ x ≤ 255) (h0 : 0 ≤ acc) (h1 : acc < 128 ^ k) (hm : k + m ≤ 9) :
    k < n ∧ n ≤ k + ds.length ∧ n ≤ 9 ∧ 0 ≤ y ∧ y ≤ 9223372036854775807 := by
  induction m generalizing k acc ds with
  | zero => rw [rdA_zero] at h; cases h
  | succ m ih =>
    cases ds with
    | nil => rw [rdA_nil] at h; cases h
    | cons d ds =>
      have hd := hb d (by simp)
      by_cases hl : d < 128
      · by_cases hz : d = 0 ∧ 0 < k
        · rw [rdA_bad hl hz] at h; cases h
        · rw [rdA_end hl hz] at h
          cases h
          have hs := acc_step (k := k) h0 h1 hd.1 hl
          have hp := pow_le7 (k := k) (by omega)
          rw [Int.pow_succ] at hs
          simp only [List.length_cons]
          omega
      · rw [rdA_on hl] at h
        have hs := acc_step (k := k) (d := d % 128) h0 h1 (by omega) (by omega)
        have := ih h (fun x hx => hb x (by simp [hx])) hs.1 hs.2 (by omega)
        simp only [List.length_cons]
        omega
theorem rdI_some {xs : List Int} {i y : Int} {n : Nat} (h : rdI xs i = some (y, n)) (hb : ∀ x ∈ xs, 0 ≤ x ∧ x ≤ 255) : 0 ≤ i ∧ i < xs.length ∧ 0 < n ∧ i + n ≤ xs.length ∧ n ≤ 9 ∧ 0 ≤ y ∧ y ≤ 9223372036854775807 := by
  by_cases h0 : i < 0
  · rw [rdI_neg h0] at h; cases h
  · by_cases h1 : (xs.length : Int) ≤ i
    · rw [rdI_out h1] at h; cases h
    · unfold rdI at h
      rw [if_neg h0] at h
      have := rdA_some h (fun x hx => hb x (List.mem_of_mem_drop hx)) (by omega) (by simp) (by omega)
      rw [List.length_drop] at this
      omega
end Go.Proofs.YtiejfnnokfedkaaDoor
