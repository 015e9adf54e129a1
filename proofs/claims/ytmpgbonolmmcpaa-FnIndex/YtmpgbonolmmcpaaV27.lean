/- The draw of a right disk. No condition. -/
import Derived.Test.YtmpgbonolmmcpaaV26
import Derived.Deep.RegionHeld3
import Derived.Deep.CutRange
import Derived.Test.YtmpgbonolmmcpaaV17
import Derived.Test.YtmpgbonolmmcpaaV8
import Derived.Test.YtmpgbonolmmcpaaV16
import Derived.Test.YtmpgbonolmmcpaaV14
namespace Go.Proofs.Ytmpgbonolmmcpaa
open Go.RowKit
set_option maxRecDepth 100000
set_option linter.unusedVariables false

theorem row_low {B e size n : Nat} {w w' : World} {v : Value} {xs : List Value} {row : Option Nat} (h : w.ownsRow B e size v n xs) (hg : w.grownBy w' row) (hr : ∀ k, row = some k → k < B) : w'.ownsRow B e size v n xs := by
  refine h.kept hg ?_
  cases hv : v.ownBlock with
  | none => exact .inl rfl
  | some k =>
    refine .inr fun e => ?_
    have h1 := (World.ownsRow.lt h k hv).1
    have h2 := hr k e.symm
    omega
theorem fit_right {d : PDisk} (h : diskB d = true) : DiskFit d := by
  obtain ⟨h1, h2⟩ := diskB_len h
  refine ⟨by omega, by omega, fun s hs => ?_, fun p hp => ?_⟩
  · obtain ⟨k, hk, rfl⟩ := List.getElem_of_mem hs; rw [diskB_safe h hk]; decide
  · obtain ⟨k, hk, rfl⟩ := List.getElem_of_mem hp; rw [(diskB_late h hk).2.2]; decide
theorem right_new : diskB newDk = true := by
  refine diskB_yes (by decide) (by decide) (fun k hk => ?_) (fun k hk => absurd hk (by simp [newDk]))
  have : newDk.safe[k] = zeros64 := List.getElem_replicate (by simpa [newDk] using hk)
  rw [this]; exact zeros64_size
theorem right_snoc {d : PDisk} (h : diskB d = true) {x : Int} {s : ByteArray} (hx : inB x 0 129 = true) (hs : s.size = 64) (hl : d.late.length < 200) : diskB ⟨d.safe, d.late ++ [(x, s)]⟩ = true := by
  simp only [diskB, Bool.and_eq_true, decide_eq_true_eq, List.all_append, List.all_cons, List.all_nil, Bool.and_true, List.length_append, List.length_singleton] at h ⊢
  exact ⟨⟨⟨h.1.1.1, by omega⟩, h.1.2⟩, h.2, hx, hs⟩
theorem right_put {d : PDisk} (h : diskB d = true) {x : Int} {s : ByteArray} (hp : (putDk d x s).2 = true) : diskB (putDk d x s).1 = true := by
  unfold putDk at hp ⊢
  rw [if_neg (by rw [h]; simp)] at hp ⊢
  split at hp
  · cases hp
  · rename_i hn
    rw [if_neg hn]
    have h2 := (diskB_len h).2
    have hx : inB x 0 129 = true := by
      cases e : inB x 0 129
      · exact absurd (.inl e) hn
      · rfl
    have hs : s.size = 64 := by
      by_cases e : s.size = 64
      · exact e
      · exact absurd (.inr (.inl e)) hn
    have hl : d.late.length ≠ 200 := fun e => hn (.inr (.inr e))
    exact right_snoc h hx hs (by omega)
theorem right_done {d : PDisk} (h : diskB d = true) (keep : Int) : diskB (doneDk keep d) = true := by
  have hl := diskB_len h
  refine diskB_yes ((doneN_len _ _ _ _).trans hl.1) (Nat.zero_le _) (fun k hk => ?_) (fun k hk => absurd hk (by simp [doneDk]))
  have h1 : ∀ n, ∀ t ∈ doneN keep d.safe d.late n, t.size = 64 := by
    intro n
    induction n with
    | zero => intro t ht; obtain ⟨i, hi, rfl⟩ := List.getElem_of_mem ht; exact diskB_safe h hi
    | succ n ih =>
      by_cases hlt : n < d.late.length
      · rw [doneN_succ hlt]
        split
        · intro t ht
          rcases List.mem_or_eq_of_mem_set ht with e | e
          · exact ih t e
          · rw [e]; exact (diskB_late h hlt).2.2
        · exact ih
      · intro t ht
        rw [doneN, List.getElem?_eq_none (by omega)] at ht
        exact ih t ht
  exact h1 _ _ (List.getElem_mem hk)
theorem right_sync {d : PDisk} (h : diskB d = true) : (syncDk d).2 = true ∧ diskB (syncDk d).1 = true := by
  unfold syncDk
  rw [if_neg (by rw [h]; simp)]
  exact ⟨rfl, right_done h _⟩

end Go.Proofs.Ytmpgbonolmmcpaa

/- The draw of a disk, right or not. No condition. -/
namespace Go.Proofs.Ytmpgbonolmmcpaa
open Go.RowKit
set_option maxRecDepth 100000
set_option linter.unusedVariables false

/-- A disk whose rows lie in blocks from B on. -/
def DiskB (B : Nat) (w : World) (v : Value) (d : PDisk) : Prop := ∃ sa sn sc la ln lc, v = .agg #[.slice sa sn sc, .slice la ln lc] ∧ Sv 1 w (.slice sa sn sc) (strCells d.safe) ∧ Sv 2 w (.slice la ln lc) (putCells d.late) ∧ (∀ a, sa = some a → B ≤ a.block) ∧ (∀ a, la = some a → B ≤ a.block)
theorem DiskB.at {B : Nat} {w : World} {v : Value} {d : PDisk} (h : DiskB B w v d) : DiskAt w v d := by
  obtain ⟨sa, sn, sc, la, ln, lc, e, h1, h2, _⟩ := h
  exact ⟨sa, sn, sc, la, ln, lc, e, h1, h2⟩
theorem DiskB.below {B : Nat} {w w' : World} {v : Value} {d : PDisk} (h : DiskB B w v d) (b : Below w.heap.size w w') : DiskB B w' v d := by
  obtain ⟨sa, sn, sc, la, ln, lc, e, h1, h2, h3⟩ := h
  exact ⟨sa, sn, sc, la, ln, lc, e, h1.below b, h2.below b, h3⟩
theorem DiskB.base {B B' : Nat} {w : World} {v : Value} {d : PDisk} (h : DiskB B w v d) (hB : B' ≤ B) : DiskB B' w v d := by
  obtain ⟨sa, sn, sc, la, ln, lc, e, h1, h2, h3, h4⟩ := h
  exact ⟨sa, sn, sc, la, ln, lc, e, h1, h2, fun a ha => Nat.le_trans hB (h3 a ha), fun a ha => Nat.le_trans hB (h4 a ha)⟩
theorem sv_low {size B : Nat} {w w' : World} {a : Option Addr} {n c : Nat} {xs : List Value} {row : Option Nat} (h : Sv size w (.slice a n c) xs) (ha : ∀ p, a = some p → B ≤ p.block) (hg : w.grownBy w' row) (hr : ∀ k, row = some k → k < B) : Sv size w' (.slice a n c) xs := by
  obtain ⟨a', n', c', e, h1, h2, h3, h4, hc⟩ := h
  cases e
  refine ⟨a, n, c, rfl, h1, h2, h3, h4, fun i hi => ?_⟩
  obtain ⟨b, off, rfl, cc⟩ := hc i hi
  refine ⟨b, off, rfl, hg.cell cc (fun e => ?_)⟩
  have k1 := ha _ rfl
  have k2 := hr b e.symm
  simp only at k1
  omega
theorem DiskB.low {B : Nat} {w w' : World} {v : Value} {d : PDisk} {row : Option Nat} (h : DiskB B w v d) (hg : w.grownBy w' row) (hr : ∀ k, row = some k → k < B) : DiskB B w' v d := by
  obtain ⟨sa, sn, sc, la, ln, lc, e, h1, h2, h3, h4⟩ := h
  exact ⟨sa, sn, sc, la, ln, lc, e, sv_low h1 h3 hg hr, sv_low h2 h4 hg hr, h3, h4⟩
theorem own_addr {B e size n : Nat} {w : World} {a : Option Addr} {m c : Nat} {xs : List Value} (h : w.ownsRow B e size (.slice a m c) n xs) : ∀ p, a = some p → B ≤ p.block := by
  intro p hp
  subst hp
  exact (World.ownsRow.lt h p.block rfl).1
theorem own_addr1 {e size n : Nat} {W : World} {R : Nat} {a : Option Addr} {m c : Nat} {xs : List Value} (h : W.ownsRow R e size (.slice a m c) n xs) {cs : Array Value} {t : TypeId} {fr : Nat × Nat} (hR : W.heap[R]? = some (.cells cs t fr)) (ht : t ≠ e) : ∀ p, a = some p → R + 1 ≤ p.block := by
  intro p hp
  have h1 := own_addr h p hp
  by_cases e1 : p.block = R
  · subst hp
    obtain ⟨c2, f2, h2⟩ := rk_kind h (r := p.block) rfl
    rw [e1, hR] at h2
    cases h2
    exact absurd rfl ht
  · omega
/-- The row without its first. -/
theorem sv_tail {W : World} {g8 c8 : Nat} {s : ByteArray} {ss : List ByteArray} (h : Sv 1 W (.slice (some ⟨g8, 0, none⟩) (ss.length + 1) c8) (strCells (s :: ss))) : Sv 1 W (.slice (some ⟨g8, 1, none⟩) ss.length (c8 - 1)) (strCells ss) := by
  obtain ⟨a', n', c', e, h1, h2, h3, h4, hc⟩ := h
  cases e
  refine ⟨_, _, _, rfl, by rw [strCells_len, Nat.mul_one], by omega, by omega, (fun e => by cases e), fun i hi => ⟨g8, 1, rfl, ?_⟩⟩
  obtain ⟨b, off, e, cc⟩ := hc (i + 1) (by rw [strCells_len] at hi ⊢; simp; omega)
  cases e
  have e1 : 0 + (i + 1) = 1 + i := by omega
  rw [e1] at cc
  rw [cc]
  simp [strCells]
theorem fit_tail {s : ByteArray} {ss : List ByteArray} {ps : List (Int × ByteArray)} (h : DiskFit ⟨s :: ss, ps⟩) : DiskFit ⟨ss, ps⟩ := ⟨by have := h.sl; simp at this ⊢; omega, h.ll, fun x hx => h.st x (List.mem_cons_of_mem _ hx), h.lt⟩
theorem fit_set {d : PDisk} (h : DiskFit d) {k : Nat} {s : ByteArray} (hs : s.size ≤ 1099511627776) : DiskFit ⟨d.safe.set k s, d.late⟩ := ⟨by show (d.safe.set k s).length ≤ _; rw [List.length_set]; exact h.sl, h.ll, (fun x hx => by
  rcases List.mem_or_eq_of_mem_set hx with e | e
  · exact h.st x e
  · rw [e]; exact hs), h.lt⟩
theorem fit_snoc {d : PDisk} (h : DiskFit d) (hl : d.late.length ≤ 200) {p : Int × ByteArray} (hs : p.2.size ≤ 1099511627776) : DiskFit ⟨d.safe, d.late ++ [p]⟩ := ⟨h.sl, by show (d.late ++ [p]).length ≤ _; rw [List.length_append, List.length_singleton]; omega, h.st, (fun x hx => by
  rcases List.mem_append.mp hx with e | e
  · exact h.lt x e
  · simp at e; rw [e]; exact hs)⟩

end Go.Proofs.Ytmpgbonolmmcpaa

/- What a draw holds while it goes on, by lists: the cursor, blocks, disks. No condition. -/
namespace Go.Proofs.Ytmpgbonolmmcpaa
open Go.RowKit
set_option maxRecDepth 100000
set_option linter.unusedVariables false

/-- A slice whose cells lie in blocks from lo on and below hi. -/
def SvI (lo hi size : Nat) (w : World) (v : Value) (cs : List Value) : Prop := Sv size w v cs ∧ ∀ a n c, v = .slice a n c → 0 < n → ∃ p, a = some p ∧ lo ≤ p.block ∧ p.block < hi
theorem SvI.keep {lo hi size : Nat} {w w' : World} {v : Value} {cs : List Value} (h : SvI lo hi size w v cs) (k : ∀ j, lo ≤ j → j < hi → w'.heap[j]? = w.heap[j]?) (hs : 0 < size) : SvI lo hi size w' v cs := by
  obtain ⟨⟨a, n, c, e, h1, h2, h3, h4, hc⟩, hb⟩ := h
  refine ⟨⟨a, n, c, e, h1, h2, h3, h4, fun i hi => ?_⟩, hb⟩
  obtain ⟨b, off, rfl, cc⟩ := hc i hi
  refine ⟨b, off, rfl, ?_⟩
  have hn : 0 < n := by
    rcases Nat.eq_zero_or_pos n with rfl | h
    · simp at h1; rw [h1] at hi; simp at hi
    · exact h
  obtain ⟨p, ep, l1, l2⟩ := hb _ _ _ e hn
  cases ep
  have := k b l1 l2
  simp only [World.cell?, this] at cc ⊢
  exact cc
/-- A disk whose rows lie so. -/
def DiskI (lo hi : Nat) (w : World) (v : Value) (d : PDisk) : Prop := ∃ sa sn sc la ln lc, v = .agg #[.slice sa sn sc, .slice la ln lc] ∧ SvI lo hi 1 w (.slice sa sn sc) (strCells d.safe) ∧ SvI lo hi 2 w (.slice la ln lc) (putCells d.late)
theorem DiskI.at {lo hi : Nat} {w : World} {v : Value} {d : PDisk} (h : DiskI lo hi w v d) : DiskAt w v d := by
  obtain ⟨sa, sn, sc, la, ln, lc, e, h1, h2⟩ := h
  exact ⟨sa, sn, sc, la, ln, lc, e, h1.1, h2.1⟩
theorem DiskI.keep {lo hi : Nat} {w w' : World} {v : Value} {d : PDisk} (h : DiskI lo hi w v d) (k : ∀ j, lo ≤ j → j < hi → w'.heap[j]? = w.heap[j]?) : DiskI lo hi w' v d := by
  obtain ⟨sa, sn, sc, la, ln, lc, e, h1, h2⟩ := h
  exact ⟨sa, sn, sc, la, ln, lc, e, h1.keep k (by decide), h2.keep k (by decide)⟩
theorem DiskI.wide {lo hi lo' hi' : Nat} {w : World} {v : Value} {d : PDisk} (h : DiskI lo hi w v d) (h1 : lo' ≤ lo) (h2 : hi ≤ hi') : DiskI lo' hi' w v d := by
  obtain ⟨sa, sn, sc, la, ln, lc, e, k1, k2⟩ := h
  have f : ∀ {size : Nat} {u : Value} {cs : List Value}, SvI lo hi size w u cs → SvI lo' hi' size w u cs := fun h => ⟨h.1, fun a n c e hn => by
    obtain ⟨p, e1, e2, e3⟩ := h.2 a n c e hn
    exact ⟨p, e1, by omega, by omega⟩⟩
  exact ⟨sa, sn, sc, la, ln, lc, e, f k1, f k2⟩
theorem sv_hi {size B : Nat} {w : World} {a : Option Addr} {n c : Nat} {xs : List Value} (h : Sv size w (.slice a n c) xs) (ha : ∀ p, a = some p → B ≤ p.block) (hs : 0 < size) : SvI B w.heap.size size w (.slice a n c) xs := by
  refine ⟨h, fun a' n' c' e hn => ?_⟩
  cases e
  obtain ⟨a', n', c', e, h1, h2, h3, h4, hc⟩ := h
  cases e
  have hl : 0 < xs.length := by rw [h1]; exact Nat.mul_pos hn hs
  obtain ⟨b, off, rfl, cc⟩ := hc 0 hl
  refine ⟨_, rfl, ha _ rfl, ?_⟩
  by_cases hlt : b < w.heap.size
  · exact hlt
  · exfalso; simp [World.cell?, Array.getElem?_eq_none (Nat.le_of_not_lt hlt)] at cc
theorem DiskB.diskI {B : Nat} {w : World} {v : Value} {d : PDisk} (h : DiskB B w v d) : DiskI B w.heap.size w v d := by
  obtain ⟨sa, sn, sc, la, ln, lc, e, h1, h2, h3, h4⟩ := h
  exact ⟨sa, sn, sc, la, ln, lc, e, sv_hi h1 h3 (by decide), sv_hi h2 h4 (by decide)⟩

/-- The cursor in block g, the listed blocks and disks, in a world that is w with more and the cursor moved. -/
structure Dw (w0 : World) (g : Nat) (v : Value) (xs : List Int) (w : World) (L : List (Nat × Array Value × TypeId)) (R : List (Nat × Nat × Value × PDisk)) (W : World) : Prop where
  cur : Cur w0 g v xs W
  gr : w.grownBy W (some g)
  blk : ∀ p ∈ L, w.heap.size ≤ p.1 ∧ w0.heap.size ≤ p.1 ∧ p.1 ≠ g ∧ W.heap[p.1]? = some (.cells p.2.1 p.2.2 (0, 0))
  rows : ∀ r ∈ R, DiskI r.1 r.2.1 W r.2.2.1 r.2.2.2 ∧ g < r.1 ∧ r.2.1 ≤ W.heap.size
section
variable {w0 : World} {g : Nat} {v : Value} {xs : List Int} {w : World} {L : List (Nat × Array Value × TypeId)} {R : List (Nat × Nat × Value × PDisk)} {W W' : World}
theorem Dw.below (h : Dw w0 g v xs w L R W) (b : Below W.heap.size W W') : Dw w0 g v xs w L R W' :=
  ⟨h.cur.below b, grown_trans h.gr ⟨b.os, b.tape, b.output, b.size, fun j hj _ => b.block j hj⟩, fun p hp => ⟨(h.blk p hp).1, (h.blk p hp).2.1, (h.blk p hp).2.2.1, (b.block _ (lt_of_block (h.blk p hp).2.2.2)).trans (h.blk p hp).2.2.2⟩,
   fun r hr => ⟨(h.rows r hr).1.keep (fun j _ hj => b.block j (by have := (h.rows r hr).2.2; omega)), (h.rows r hr).2.1, Nat.le_trans (h.rows r hr).2.2 b.size⟩⟩
theorem Dw.cursor (h : Dw w0 g v xs w L R W) (k : Cur w0 g v xs W') (gr : W.grownBy W' (some g)) : Dw w0 g v xs w L R W' :=
  ⟨k, grown_trans h.gr gr, fun p hp => ⟨(h.blk p hp).1, (h.blk p hp).2.1, (h.blk p hp).2.2.1, (gr.block _ (lt_of_block (h.blk p hp).2.2.2) (fun e => (h.blk p hp).2.2.1 (Option.some.inj e))).trans (h.blk p hp).2.2.2⟩,
   fun r hr => ⟨(h.rows r hr).1.keep (fun j hj hj2 => gr.block j (by have := (h.rows r hr).2.2; omega) (fun e => by have := Option.some.inj e; have := (h.rows r hr).2.1; omega)), (h.rows r hr).2.1, Nat.le_trans (h.rows r hr).2.2 gr.size⟩⟩
theorem Dw.new (h : Dw w0 g v xs w L R W) (cs : Array Value) (t : TypeId) : Dw w0 g v xs w ((W.heap.size, cs, t) :: L) R (W.alloc (.cells cs t)) := by
  have hb : Below W.heap.size W (W.alloc (.cells cs t)) := (Below.refl _ _).alloc (Nat.le_refl _) _
  have h' := h.below hb
  refine ⟨h'.cur, h'.gr, fun p hp => ?_, h'.rows⟩
  rcases List.mem_cons.mp hp with rfl | hp
  · exact ⟨h.gr.size, h.cur.2.2.1.size, by have := h.cur.lt; simp only; omega, World.alloc_heap_new _ _⟩
  · exact h'.blk p hp
theorem Dw.tail {p : Nat × Array Value × TypeId} (h : Dw w0 g v xs w (p :: L) R W) : Dw w0 g v xs w L R W := ⟨h.cur, h.gr, fun q hq => h.blk q (List.mem_cons_of_mem _ hq), h.rows⟩
theorem Dw.sub {L' : List (Nat × Array Value × TypeId)} {R' : List (Nat × Nat × Value × PDisk)} (h : Dw w0 g v xs w L R W) (h1 : ∀ p ∈ L', p ∈ L) (h2 : ∀ r ∈ R', r ∈ R) : Dw w0 g v xs w L' R' W := ⟨h.cur, h.gr, fun p hp => h.blk p (h1 p hp), fun r hr => h.rows r (h2 r hr)⟩
theorem Dw.add {lo hi : Nat} {u : Value} {d : PDisk} (h : Dw w0 g v xs w L R W) (o : DiskI lo hi W u d) (hg : g < lo) (hh : hi ≤ W.heap.size) : Dw w0 g v xs w L ((lo, hi, u, d) :: R) W := ⟨h.cur, h.gr, h.blk, fun r hr => by
    rcases List.mem_cons.mp hr with rfl | hr
    · exact ⟨o, hg, hh⟩
    · exact h.rows r hr⟩
theorem Dw.at0 {b : Nat} {cs : Array Value} {t : TypeId} (h : Dw w0 g v xs w ((b, cs, t) :: L) R W) : W.heap[b]? = some (.cells cs t (0, 0)) := (h.blk _ (List.mem_cons_self ..)).2.2.2
theorem Dw.at1 {b : Nat} {cs : Array Value} {t : TypeId} {p : Nat × Array Value × TypeId} (h : Dw w0 g v xs w (p :: (b, cs, t) :: L) R W) : W.heap[b]? = some (.cells cs t (0, 0)) := h.tail.at0
theorem Dw.at2 {b : Nat} {cs : Array Value} {t : TypeId} {p q : Nat × Array Value × TypeId} (h : Dw w0 g v xs w (p :: q :: (b, cs, t) :: L) R W) : W.heap[b]? = some (.cells cs t (0, 0)) := h.tail.tail.at0
theorem Dw.swap {p q : Nat × Array Value × TypeId} (h : Dw w0 g v xs w (p :: q :: L) R W) : Dw w0 g v xs w (q :: p :: L) R W := h.sub (fun r hr => by simp only [List.mem_cons] at hr ⊢; rcases hr with hr | hr | hr <;> simp [hr]) (fun r hr => hr)
/-- A cell of the first block is set. -/
theorem Dw.set {N : Nat} {cs : Array Value} {t : TypeId} (h : Dw w0 g v xs w ((N, cs, t) :: L) R W) (hL : ∀ p ∈ L, p.1 ≠ N) (hR : ∀ r ∈ R, r.2.1 ≤ N ∨ N < r.1) (k : Nat) (u : Value) : Dw w0 g v xs w ((N, cs.setIfInBounds k u, t) :: L) R (W.setCell ⟨N, k, none⟩ u) := by
  have hg := grown_setCell W N k u
  obtain ⟨h1, h2, h3, h4⟩ := h.blk _ (List.mem_cons_self ..)
  simp only at h1 h2 h3 h4
  refine ⟨h.cur.kept hg (fun e => h3 (Option.some.inj e)) (fun j e => by cases e; exact h2), grown_past h.gr hg (fun j e => by cases e; exact h1), fun p hp => ?_, fun r hr => ⟨(h.rows r hr).1.keep (fun j hj hj2 => hg.block j (by have := (h.rows r hr).2.2; omega) (fun e => ?_)), (h.rows r hr).2.1, Nat.le_trans (h.rows r hr).2.2 hg.size⟩⟩
  · rcases List.mem_cons.mp hp with rfl | hp'
    · exact ⟨h1, h2, h3, rk_at h4⟩
    · obtain ⟨k1, k2, k3, k4⟩ := h.blk p (List.mem_cons_of_mem _ hp')
      exact ⟨k1, k2, k3, (hg.block _ (lt_of_block k4) (fun e => hL p hp' (Option.some.inj e))).trans k4⟩
  · have := Option.some.inj e
    rcases hR r hr with q | q <;> omega
theorem Dw.set2 {N : Nat} {x y : Value} {t : TypeId} (h : Dw w0 g v xs w ((N, #[x, y], t) :: L) R W) (hL : ∀ p ∈ L, p.1 ≠ N) (hR : ∀ r ∈ R, r.2.1 ≤ N ∨ N < r.1) (a b : Value) : Dw w0 g v xs w ((N, #[a, b], t) :: L) R ((W.setCell ⟨N, 0, none⟩ a).setCell ⟨N, 1, none⟩ b) := (h.set hL hR 0 a).set hL hR 1 b
theorem Dw.set3 {N : Nat} {x y z : Value} {t : TypeId} (h : Dw w0 g v xs w ((N, #[x, y, z], t) :: L) R W) (hL : ∀ p ∈ L, p.1 ≠ N) (hR : ∀ r ∈ R, r.2.1 ≤ N ∨ N < r.1) (a b c : Value) : Dw w0 g v xs w ((N, #[a, b, c], t) :: L) R (((W.setCell ⟨N, 0, none⟩ a).setCell ⟨N, 1, none⟩ b).setCell ⟨N, 2, none⟩ c) := ((h.set hL hR 0 a).set hL hR 1 b).set hL hR 2 c
theorem Dw.refl (h : Cur w0 g v xs w) : Dw w0 g v xs w [] [] w := ⟨h, ⟨rfl, rfl, rfl, Nat.le_refl _, fun _ _ _ => rfl⟩, fun p hp => by simp at hp, fun r hr => by simp at hr⟩
end
end Go.Proofs.Ytmpgbonolmmcpaa

/- The draw of an address. No condition. -/
namespace Go.Proofs.Ytmpgbonolmmcpaa
open Go.RowKit
set_option maxRecDepth 100000
set_option linter.unusedVariables false

def urlsA : List ByteArray := [⟨#[]⟩, ⟨#[97, 32, 98]⟩, ⟨#[195, 169]⟩, ⟨#[48, 49, 50, 51, 52, 53, 54, 55, 56, 57, 48, 49, 50, 51, 52, 53, 54, 55, 56, 57, 48, 49, 50, 51, 52, 53, 54, 55, 56, 57, 48, 49, 50, 51, 52, 53, 54, 55, 56, 57, 48, 49, 50, 51, 52, 53, 54, 55, 56, 57, 48, 49, 50, 51, 52, 53, 54, 55, 56, 57, 48]⟩, ⟨#[48, 49, 50, 51, 52, 53, 54, 55, 56, 57, 48, 49, 50, 51, 52, 53, 54, 55, 56, 57, 48, 49, 50, 51, 52, 53, 54, 55, 56, 57, 48, 49, 50, 51, 52, 53, 54, 55, 56, 57, 48, 49, 50, 51, 52, 53, 54, 55, 56, 57, 48, 49, 50, 51, 52, 53, 54, 55, 56, 57]⟩]
def urlsB : List ByteArray := [⟨#[97]⟩, ⟨#[98]⟩, ⟨#[104, 116, 116, 112, 58, 47, 47, 120, 47]⟩, ⟨#[99]⟩, ⟨#[97, 98]⟩]
theorem drawUrl_any {w0 : World} {g : Nat} {v : Value} {xs : List Int} {w : World} (h : Cur w0 g v xs w) (hb : ∀ x ∈ xs, 0 ≤ x ∧ x ≤ 255) :
    Calls Try.prog 75 #[.pointer (some ⟨g, 0, none⟩)] w fun e w' => ∃ s : ByteArray, e = .returned (.string s) ∧ s.size ≤ 61 ∧ Cur w0 g v xs w' ∧ w.grownBy w' (some g) := by
  have HB : Hid (∀ x ∈ xs, 0 ≤ x ∧ x ≤ 255) := hb
  clear hb
  go_enter Try.func75, Try.ntmps75
  go_wp2_with fail
  go_at_call 83
  refine (once_any _ (by omega) h HB.out).mono ?_
  rintro e w1 ⟨b, rfl, k1, g1⟩
  cases b
  · go_wp2_with fail
    go_at_call 86
    refine (pickS_any k1 HB.out urlsB (by decide) (by decide) _ rfl 5 rfl).mono ?_
    rintro e w2 ⟨t, rfl, ht, k2, g2⟩
    have hts : t.size ≤ 61 := (by decide : ∀ t ∈ urlsB, t.size ≤ 61) t ht
    go_wp2
    go_ret
    exact ⟨t, rfl, hts, k2, grown_trans g1 g2⟩
  · go_wp2_with fail
    go_at_call 86
    refine (pickS_any k1 HB.out urlsA (by decide) (by decide) _ rfl 5 rfl).mono ?_
    rintro e w2 ⟨t, rfl, ht, k2, g2⟩
    have hts : t.size ≤ 61 := (by decide : ∀ t ∈ urlsA, t.size ≤ 61) t ht
    go_wp2
    go_ret
    exact ⟨t, rfl, hts, k2, grown_trans g1 g2⟩
end Go.Proofs.Ytmpgbonolmmcpaa

/- The draw of a record. No condition. -/
namespace Go.Proofs.Ytmpgbonolmmcpaa
open Go.RowKit
set_option maxRecDepth 100000
set_option linter.unusedVariables false

/-- A record as it is drawn. -/
def recD (r : PRec) : Prop := 0 ≤ r.kind ∧ r.kind ≤ 3 ∧ r.url.size ≤ 61 ∧ r.body.size ≤ 9

set_option maxHeartbeats 1000000 in
set_option maxRecDepth 100000 in
theorem drawRec_any {w0 : World} {g : Nat} {v : Value} {xs : List Int} {w : World} (h : Cur w0 g v xs w) (hb : ∀ x ∈ xs, 0 ≤ x ∧ x ≤ 255) :
    Calls Try.prog 48 #[.pointer (some ⟨g, 0, none⟩)] w fun e w' => ∃ q : PRec, e = .returned (.agg #[.int .i64 q.kind, .string q.url, .string q.body]) ∧ recD q ∧ Cur w0 g v xs w' ∧ w.grownBy w' (some g) := by
  have HB : Hid (∀ x ∈ xs, 0 ≤ x ∧ x ≤ 255) := hb
  have hgl := h.lt
  clear hb
  have h1 := (Dw.refl h).new #[.int .i64 0, .string ⟨#[]⟩, .string ⟨#[]⟩] 25
  obtain ⟨w1, hw1⟩ : ∃ y, y = w.alloc (.cells #[.int .i64 0, .string ⟨#[]⟩, .string ⟨#[]⟩] 25) := ⟨_, rfl⟩
  rw [← hw1] at h1
  have H1 := (show Hid _ from h1)
  clear h1
  go_enter Try.func48, Try.ntmps48
  go_wp2_with fail
  go_at_call 74
  rw [← hw1]
  refine (below_any 2 (by omega) H1.out.cur HB.out).mono ?_
  rintro e w2 ⟨x, rfl, x0, x9, _, k2, g2⟩
  replace x9 := x9 (by omega)
  have H2 := (show Hid _ from H1.out.cursor k2 g2)
  clear hw1 k2 g2 H1
  go_wp2_with fail
  go_at_call 75
  refine (drawUrl_any H2.out.cur HB.out).mono ?_
  rintro e w3 ⟨s, rfl, hs, k3, g3⟩
  have H3 := (show Hid _ from H2.out.cursor k3 g3)
  clear k3 g3 H2
  obtain ⟨kd, hkd⟩ : ∃ kd, kd = 1 + x := ⟨_, rfl⟩
  rw [← hkd]
  have hk1 : kd = 1 ∨ kd = 2 := by omega
  clear hkd x0 x9
  have hlt3 : w.heap.size < w3.heap.size := lt_of_block H3.out.at0
  have h4 := H3.out.new #[.int .i64 kd, .string s, .string ⟨#[]⟩] 25
  obtain ⟨w4, hw4⟩ : ∃ W, W = w3.alloc (.cells #[.int .i64 kd, .string s, .string ⟨#[]⟩] 25) := ⟨_, rfl⟩
  rw [← hw4] at h4
  have H4 := (show Hid (Dw w0 g v xs w [(w3.heap.size, #[.int .i64 kd, .string s, .string ⟨#[]⟩], 25), (w.heap.size, #[.int .i64 0, .string ⟨#[]⟩, .string ⟨#[]⟩], 25)] [] _) from h4)
  clear h4 H3
  obtain ⟨m1, m2, m3, m4, m5, m6⟩ := rk_three H4.out.at0
  rcases hk1 with rfl | rfl
  · go_wp2_with fail
    go_at_call 76
    rw [← hw4]
    refine (drawBytes_any H4.out.cur HB.out 9 (by omega)).mono ?_
    rintro e w5 ⟨u, zs, rfl, oz, hzl, hzb, k5, g5⟩
    have cv := conv_sl oz.sl
    have H5 := (show Hid (Dw w0 g v xs w [(w3.heap.size, #[.int .i64 1, .string s, .string ⟨#[]⟩], 25), (w.heap.size, #[.int .i64 0, .string ⟨#[]⟩, .string ⟨#[]⟩], 25)] [] _) from H4.out.cursor k5 g5)
    have hbo : (strOf zs).size ≤ 9 := by rw [strOf_size]; exact hzl
    obtain ⟨bo, ebo⟩ : ∃ bo, bo = strOf zs := ⟨_, rfl⟩
    rw [← ebo] at cv hbo
    clear ebo oz hzl hzb k5 g5 H4 hw4 m1 m2 m3 m4 m5 m6
    obtain ⟨m1, m2, m3, m4, m5, m6⟩ := rk_three H5.out.at0
    have H6 := (show Hid (Dw w0 g v xs w [(w3.heap.size, #[.int .i64 1, .string s, .string bo], 25), (w.heap.size, #[.int .i64 0, .string ⟨#[]⟩, .string ⟨#[]⟩], 25)] [] _) from H5.out.set (by simp; omega) (by simp) 2 (.string bo))
    obtain ⟨w6, hw6⟩ : ∃ W, W = w5.setCell ⟨w3.heap.size, 2, none⟩ (.string bo) := ⟨_, rfl⟩
    rw [← hw6] at H6
    go_wp2_with fail
    rw [← hw6]
    clear hw6 m1 m2 m3 m4 m5 m6 H5 cv
    go_at_call 74
    refine (below_any 20 (by omega) H6.out.cur HB.out).mono ?_
    rintro e w7 ⟨z, rfl, z0, z9, _, k7, g7⟩
    have H7 := (show Hid (Dw w0 g v xs w [(w3.heap.size, #[.int .i64 1, .string s, .string bo], 25), (w.heap.size, #[.int .i64 0, .string ⟨#[]⟩, .string ⟨#[]⟩], 25)] [] _) from H6.out.cursor k7 g7)
    clear k7 g7 H6
    by_cases e0 : z = 0
    · subst e0
      clear z0 z9
      go_wp2_with fail
      go_at_call 77
      refine Calls.mono (pickL_any H7.out.cur HB.out [0, 3] (by simp) (by simp) _ rfl 2 rfl) ?_
      rintro e w8 ⟨q, rfl, hq, k8, g8⟩
      have H8 := (show Hid _ from H7.out.cursor k8 g8)
      have HQ := (show Hid (recD ⟨q, s, bo⟩) from (show recD ⟨q, s, bo⟩ from ⟨by simp at hq; simp only; omega, by simp at hq; simp only; omega, hs, hbo⟩))
      clear k8 g8 H7 hq
      obtain ⟨m1, m2, m3, m4, m5, m6⟩ := rk_three H8.out.at0
      have H9 := (show Hid (Dw w0 g v xs w [(w3.heap.size, #[.int .i64 q, .string s, .string bo], 25), (w.heap.size, #[.int .i64 0, .string ⟨#[]⟩, .string ⟨#[]⟩], 25)] [] _) from H8.out.set (by simp; omega) (by simp) 0 (.int .i64 q))
      obtain ⟨w9, hw9⟩ : ∃ W, W = w8.setCell ⟨w3.heap.size, 0, none⟩ (.int .i64 q) := ⟨_, rfl⟩
      rw [← hw9] at H9
      go_upto_region 9 with fail
      rw [← hw9]
      clear hw9 m1 m2 m3 m4 m5 m6 H8
      obtain ⟨m1, m2, m3, m4, m5, m6⟩ := rk_three H9.out.at0
      obtain ⟨r1, r2, r3, r4, r5, r6⟩ := rk_three H9.out.at1
      go_wp2
      have F := H9.out.swap.set3 (by simp; omega) (by simp) (.int .i64 q) (.string s) (.string bo)
      (try simp only [Exit.inBlock, Exit.then])
      refine bodyPost_ret (results_cell_row rfl _ _ w.heap.size 25 #[.int .i64 q, .string s, .string bo] (0, 0) _ rfl F.at0 Try.underlying25 rfl rfl) rfl ?_
      exact ⟨⟨q, s, bo⟩, rfl, HQ.out, F.cur, F.gr⟩
    · have e0' : (z == 0) = false := beq_eq_false_iff_ne.mpr e0
      by_cases e1 : z = 1
      · subst e1
        obtain ⟨m1, m2, m3, m4, m5, m6⟩ := rk_three H7.out.at0
        have H9 := (show Hid (Dw w0 g v xs w [(w3.heap.size, #[.int .i64 1, .string s, .string ⟨#[120]⟩], 25), (w.heap.size, #[.int .i64 0, .string ⟨#[]⟩, .string ⟨#[]⟩], 25)] [] _) from H7.out.set (by simp; omega) (by simp) 2 (.string ⟨#[120]⟩))
        obtain ⟨w9, hw9⟩ : ∃ W, W = w7.setCell ⟨w3.heap.size, 2, none⟩ (.string ⟨#[120]⟩) := ⟨_, rfl⟩
        rw [← hw9] at H9
        have HQ := (show Hid (recD ⟨1, s, ⟨#[120]⟩⟩) from (show recD ⟨1, s, ⟨#[120]⟩⟩ from ⟨by simp only; omega, by simp only; omega, hs, (show (⟨#[120]⟩ : ByteArray).size ≤ 9 by decide)⟩))
        go_upto_region 9 with fail
        rw [← hw9]
        clear hw9 m1 m2 m3 m4 m5 m6 H7
        obtain ⟨m1, m2, m3, m4, m5, m6⟩ := rk_three H9.out.at0
        obtain ⟨r1, r2, r3, r4, r5, r6⟩ := rk_three H9.out.at1
        go_wp2
        have F := H9.out.swap.set3 (by simp; omega) (by simp) (.int .i64 1) (.string s) (.string ⟨#[120]⟩)
        (try simp only [Exit.inBlock, Exit.then])
        refine bodyPost_ret (results_cell_row rfl _ _ w.heap.size 25 #[.int .i64 1, .string s, .string ⟨#[120]⟩] (0, 0) _ rfl F.at0 Try.underlying25 rfl rfl) rfl ?_
        exact ⟨⟨1, s, ⟨#[120]⟩⟩, rfl, HQ.out, F.cur, F.gr⟩
      · have e1' : (z == 1) = false := beq_eq_false_iff_ne.mpr e1
        have HQ := (show Hid (recD ⟨1, s, bo⟩) from (show recD ⟨1, s, bo⟩ from ⟨by simp only; omega, by simp only; omega, hs, hbo⟩))
        obtain ⟨m1, m2, m3, m4, m5, m6⟩ := rk_three H7.out.at0
        obtain ⟨r1, r2, r3, r4, r5, r6⟩ := rk_three H7.out.at1
        go_wp2
        have F := H7.out.swap.set3 (by simp; omega) (by simp) (.int .i64 1) (.string s) (.string bo)
        (try simp only [Exit.inBlock, Exit.then])
        refine bodyPost_ret (results_cell_row rfl _ _ w.heap.size 25 #[.int .i64 1, .string s, .string bo] (0, 0) _ rfl F.at0 Try.underlying25 rfl rfl) rfl ?_
        exact ⟨⟨1, s, bo⟩, rfl, HQ.out, F.cur, F.gr⟩
  · go_wp2_with fail
    rw [← hw4]
    clear hw4 m1 m2 m3 m4 m5 m6
    go_at_call 74
    refine (below_any 20 (by omega) H4.out.cur HB.out).mono ?_
    rintro e w7 ⟨z, rfl, z0, z9, _, k7, g7⟩
    have H7 := (show Hid (Dw w0 g v xs w [(w3.heap.size, #[.int .i64 2, .string s, .string ⟨#[]⟩], 25), (w.heap.size, #[.int .i64 0, .string ⟨#[]⟩, .string ⟨#[]⟩], 25)] [] _) from H4.out.cursor k7 g7)
    clear k7 g7 H4
    by_cases e0 : z = 0
    · subst e0
      clear z0 z9
      go_wp2_with fail
      go_at_call 77
      refine Calls.mono (pickL_any H7.out.cur HB.out [0, 3] (by simp) (by simp) _ rfl 2 rfl) ?_
      rintro e w8 ⟨q, rfl, hq, k8, g8⟩
      have H8 := (show Hid _ from H7.out.cursor k8 g8)
      have HQ := (show Hid (recD ⟨q, s, ⟨#[]⟩⟩) from (show recD ⟨q, s, ⟨#[]⟩⟩ from ⟨by simp at hq; simp only; omega, by simp at hq; simp only; omega, hs, (show (⟨#[]⟩ : ByteArray).size ≤ 9 by decide)⟩))
      clear k8 g8 H7 hq
      obtain ⟨m1, m2, m3, m4, m5, m6⟩ := rk_three H8.out.at0
      have H9 := (show Hid (Dw w0 g v xs w [(w3.heap.size, #[.int .i64 q, .string s, .string ⟨#[]⟩], 25), (w.heap.size, #[.int .i64 0, .string ⟨#[]⟩, .string ⟨#[]⟩], 25)] [] _) from H8.out.set (by simp; omega) (by simp) 0 (.int .i64 q))
      obtain ⟨w9, hw9⟩ : ∃ W, W = w8.setCell ⟨w3.heap.size, 0, none⟩ (.int .i64 q) := ⟨_, rfl⟩
      rw [← hw9] at H9
      go_upto_region 9 with fail
      rw [← hw9]
      clear hw9 m1 m2 m3 m4 m5 m6 H8
      obtain ⟨m1, m2, m3, m4, m5, m6⟩ := rk_three H9.out.at0
      obtain ⟨r1, r2, r3, r4, r5, r6⟩ := rk_three H9.out.at1
      go_wp2
      have F := H9.out.swap.set3 (by simp; omega) (by simp) (.int .i64 q) (.string s) (.string ⟨#[]⟩)
      (try simp only [Exit.inBlock, Exit.then])
      refine bodyPost_ret (results_cell_row rfl _ _ w.heap.size 25 #[.int .i64 q, .string s, .string ⟨#[]⟩] (0, 0) _ rfl F.at0 Try.underlying25 rfl rfl) rfl ?_
      exact ⟨⟨q, s, ⟨#[]⟩⟩, rfl, HQ.out, F.cur, F.gr⟩
    · have e0' : (z == 0) = false := beq_eq_false_iff_ne.mpr e0
      by_cases e1 : z = 1
      · subst e1
        obtain ⟨m1, m2, m3, m4, m5, m6⟩ := rk_three H7.out.at0
        have H9 := (show Hid (Dw w0 g v xs w [(w3.heap.size, #[.int .i64 2, .string s, .string ⟨#[120]⟩], 25), (w.heap.size, #[.int .i64 0, .string ⟨#[]⟩, .string ⟨#[]⟩], 25)] [] _) from H7.out.set (by simp; omega) (by simp) 2 (.string ⟨#[120]⟩))
        obtain ⟨w9, hw9⟩ : ∃ W, W = w7.setCell ⟨w3.heap.size, 2, none⟩ (.string ⟨#[120]⟩) := ⟨_, rfl⟩
        rw [← hw9] at H9
        have HQ := (show Hid (recD ⟨2, s, ⟨#[120]⟩⟩) from (show recD ⟨2, s, ⟨#[120]⟩⟩ from ⟨by simp only; omega, by simp only; omega, hs, (show (⟨#[120]⟩ : ByteArray).size ≤ 9 by decide)⟩))
        go_upto_region 9 with fail
        rw [← hw9]
        clear hw9 m1 m2 m3 m4 m5 m6 H7
        obtain ⟨m1, m2, m3, m4, m5, m6⟩ := rk_three H9.out.at0
        obtain ⟨r1, r2, r3, r4, r5, r6⟩ := rk_three H9.out.at1
        go_wp2
        have F := H9.out.swap.set3 (by simp; omega) (by simp) (.int .i64 2) (.string s) (.string ⟨#[120]⟩)
        (try simp only [Exit.inBlock, Exit.then])
        refine bodyPost_ret (results_cell_row rfl _ _ w.heap.size 25 #[.int .i64 2, .string s, .string ⟨#[120]⟩] (0, 0) _ rfl F.at0 Try.underlying25 rfl rfl) rfl ?_
        exact ⟨⟨2, s, ⟨#[120]⟩⟩, rfl, HQ.out, F.cur, F.gr⟩
      · have e1' : (z == 1) = false := beq_eq_false_iff_ne.mpr e1
        have HQ := (show Hid (recD ⟨2, s, ⟨#[]⟩⟩) from (show recD ⟨2, s, ⟨#[]⟩⟩ from ⟨by simp only; omega, by simp only; omega, hs, (show (⟨#[]⟩ : ByteArray).size ≤ 9 by decide)⟩))
        obtain ⟨m1, m2, m3, m4, m5, m6⟩ := rk_three H7.out.at0
        obtain ⟨r1, r2, r3, r4, r5, r6⟩ := rk_three H7.out.at1
        go_wp2
        have F := H7.out.swap.set3 (by simp; omega) (by simp) (.int .i64 2) (.string s) (.string ⟨#[]⟩)
        (try simp only [Exit.inBlock, Exit.then])
        refine bodyPost_ret (results_cell_row rfl _ _ w.heap.size 25 #[.int .i64 2, .string s, .string ⟨#[]⟩] (0, 0) _ rfl F.at0 Try.underlying25 rfl rfl) rfl ?_
        exact ⟨⟨2, s, ⟨#[]⟩⟩, rfl, HQ.out, F.cur, F.gr⟩
end Go.Proofs.Ytmpgbonolmmcpaa
