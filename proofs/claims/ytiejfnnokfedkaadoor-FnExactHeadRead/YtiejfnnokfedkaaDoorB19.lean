import Derived.Test.YtiejfnnokfedkaaDoorB11
import Derived.RangeFuncRecord
import Derived.Test.YtiejfnnokfedkaaDoorB16
import Derived.Test.YtiejfnnokfedkaaDoorB18
import Derived.Test.YtiejfnnokfedkaaDoorB12
import Derived.Test.YtiejfnnokfedkaaDoorB17
/- Blocks that a walk holds, by a list. No condition. -/
namespace Go.Proofs.YtiejfnnokfedkaaDoor
open Go.RowKit
set_option maxRecDepth 100000
set_option linter.unusedVariables false

/-- The world W is w with more, and the listed blocks hold these cells. -/
structure Hl (w : World) (L : List (Nat × Array Value × TypeId)) (W : World) : Prop where
  bel : Below w.heap.size w W
  blk : ∀ p ∈ L, W.heap[p.1]? = some (.cells p.2.1 p.2.2 (0, 0))
theorem Hl.at {w W : World} {L : List (Nat × Array Value × TypeId)} (h : Hl w L W) {b : Nat} {cs : Array Value} {t : TypeId} (hm : (b, cs, t) ∈ L) : W.heap[b]? = some (.cells cs t (0, 0)) := h.2 _ hm
theorem Hl.at0 {w W : World} {L : List (Nat × Array Value × TypeId)} {b : Nat} {cs : Array Value} {t : TypeId} (h : Hl w ((b, cs, t) :: L) W) : W.heap[b]? = some (.cells cs t (0, 0)) := h.2 _ (List.mem_cons_self ..)
theorem Hl.at1 {w W : World} {L : List (Nat × Array Value × TypeId)} {p : Nat × Array Value × TypeId} {b : Nat} {cs : Array Value} {t : TypeId} (h : Hl w (p :: (b, cs, t) :: L) W) : W.heap[b]? = some (.cells cs t (0, 0)) := h.2 _ (List.mem_cons_of_mem _ (List.mem_cons_self ..))
theorem Hl.at2 {w W : World} {L : List (Nat × Array Value × TypeId)} {p q : Nat × Array Value × TypeId} {b : Nat} {cs : Array Value} {t : TypeId} (h : Hl w (p :: q :: (b, cs, t) :: L) W) : W.heap[b]? = some (.cells cs t (0, 0)) := h.2 _ (List.mem_cons_of_mem _ (List.mem_cons_of_mem _ (List.mem_cons_self ..)))
theorem Hl.at3 {w W : World} {L : List (Nat × Array Value × TypeId)} {p q r : Nat × Array Value × TypeId} {b : Nat} {cs : Array Value} {t : TypeId} (h : Hl w (p :: q :: r :: (b, cs, t) :: L) W) : W.heap[b]? = some (.cells cs t (0, 0)) := h.2 _ (List.mem_cons_of_mem _ (List.mem_cons_of_mem _ (List.mem_cons_of_mem _ (List.mem_cons_self ..))))
theorem Hl.refl (w : World) : Hl w [] w := ⟨Below.refl _ _, fun p hp => absurd hp (by simp)⟩
theorem Hl.below {w W W' : World} {L : List (Nat × Array Value × TypeId)} (h : Hl w L W) (b : Below W.heap.size W W') : Hl w L W' := ⟨h.1.trans (b.mono h.1.size), fun p hp => (b.block _ (lt_of_block (h.2 p hp))).trans (h.2 p hp)⟩
theorem Hl.new {w W : World} {L : List (Nat × Array Value × TypeId)} (h : Hl w L W) (cs : Array Value) (t : TypeId) : Hl w ((W.heap.size, cs, t) :: L) (W.alloc (.cells cs t)) := by
  have hb : Below W.heap.size W (W.alloc (.cells cs t)) := (Below.refl _ _).alloc (Nat.le_refl _) _
  refine ⟨(h.below hb).1, fun p hp => ?_⟩
  rcases List.mem_cons.mp hp with rfl | hp
  · exact World.alloc_heap_new _ _
  · exact (h.below hb).2 p hp
theorem Hl.tail {w W : World} {p : Nat × Array Value × TypeId} {L : List (Nat × Array Value × TypeId)} (h : Hl w (p :: L) W) : Hl w L W := ⟨h.1, fun q hq => h.2 q (List.mem_cons_of_mem _ hq)⟩
theorem Hl.lt {w W : World} {L : List (Nat × Array Value × TypeId)} (h : Hl w L W) {p : Nat × Array Value × TypeId} (hm : p ∈ L) : p.1 < W.heap.size := lt_of_block (h.2 p hm)
/-- A cell of the first block is set. -/
theorem Hl.set {w W : World} {L : List (Nat × Array Value × TypeId)} {N : Nat} {cs : Array Value} {t : TypeId} (h : Hl w ((N, cs, t) :: L) W) (hN : w.heap.size ≤ N) (hL : ∀ p ∈ L, p.1 ≠ N) (k : Nat) (u : Value) : Hl w ((N, cs.setIfInBounds k u, t) :: L) (W.setCell ⟨N, k, none⟩ u) := by
  refine ⟨h.1.setCell (p := ⟨N, k, none⟩) hN _, fun p hp => ?_⟩
  rcases List.mem_cons.mp hp with rfl | hp
  · exact rk_at h.at0
  · have hg := grown_setCell W N k u
    have hp' := h.2 p (List.mem_cons_of_mem _ hp)
    exact (hg.block p.1 (lt_of_block hp') (fun e => hL p hp (Option.some.inj e))).trans hp'
theorem Hl.set2 {w W : World} {L : List (Nat × Array Value × TypeId)} {N : Nat} {x y : Value} {t : TypeId} (h : Hl w ((N, #[x, y], t) :: L) W) (hN : w.heap.size ≤ N) (hL : ∀ p ∈ L, p.1 ≠ N) (a b : Value) : Hl w ((N, #[a, b], t) :: L) ((W.setCell ⟨N, 0, none⟩ a).setCell ⟨N, 1, none⟩ b) := (h.set hN hL 0 a).set hN hL 1 b
theorem Hl.set3 {w W : World} {L : List (Nat × Array Value × TypeId)} {N : Nat} {x y z : Value} {t : TypeId} (h : Hl w ((N, #[x, y, z], t) :: L) W) (hN : w.heap.size ≤ N) (hL : ∀ p ∈ L, p.1 ≠ N) (a b c : Value) : Hl w ((N, #[a, b, c], t) :: L) (((W.setCell ⟨N, 0, none⟩ a).setCell ⟨N, 1, none⟩ b).setCell ⟨N, 2, none⟩ c) := ((h.set hN hL 0 a).set hN hL 1 b).set hN hL 2 c
theorem Hl.swap {w W : World} {p q : Nat × Array Value × TypeId} {L : List (Nat × Array Value × TypeId)} (h : Hl w (p :: q :: L) W) : Hl w (q :: p :: L) W := ⟨h.1, fun r hr => h.2 r (by simp only [List.mem_cons] at hr ⊢; rcases hr with hr | hr | hr <;> simp [hr])⟩
theorem Hl.past {w W W' : World} {L : List (Nat × Array Value × TypeId)} (h : Hl w L W) {row : Option Nat} (g : W.grownBy W' row) (hr : ∀ r, row = some r → w.heap.size ≤ r ∧ ∀ p ∈ L, p.1 ≠ r) : Hl w L W' := ⟨h.1.grown g h.1.size (fun r e => (hr r e).1), fun p hp => (g.block _ (lt_of_block (h.2 p hp)) (fun e => by
    subst e; exact (hr p.1 rfl).2 p hp rfl)).trans (h.2 p hp)⟩
theorem Hl.sub {w W : World} {L L' : List (Nat × Array Value × TypeId)} (h : Hl w L W) (hs : ∀ p ∈ L', p ∈ L) : Hl w L' W := ⟨h.1, fun p hp => h.2 p (hs p hp)⟩
end Go.Proofs.YtiejfnnokfedkaaDoor

/- The specification's HeadNow. No condition. -/
namespace Go.Proofs.YtiejfnnokfedkaaDoor
open Go.RowKit
set_option maxRecDepth 100000
set_option linter.unusedVariables false

/-- Which head counts. -/
def nowDk (d : PDisk) : PHead := if diskB d = false then zeroH else if (readDk (sectorD d 0)).1.no < (readDk (sectorD d 1)).1.no then (readDk (sectorD d 1)).1 else (readDk (sectorD d 0)).1
theorem sector_size {d : PDisk} (h : diskB d = true) {x : Int} (hx : 0 ≤ x ∧ x ≤ 129) : (sectorD d x).size = 64 := by
  have hl := diskB_len h
  have hp : ∀ ps : List (Int × ByteArray), (∀ p ∈ ps, p.2.size = 64) → ∀ s, putAt x ps = some s → s.size = 64 := by
    intro ps
    induction ps with
    | nil => intro _ s e; simp [putAt] at e
    | cons q ps ih =>
      intro hq s e
      rw [putAt] at e
      split at e
      · rename_i s' e'
        simp only [Option.some.injEq] at e
        subst e
        exact ih (fun p hp => hq p (List.mem_cons_of_mem _ hp)) _ e'
      · split at e
        · simp only [Option.some.injEq] at e
          subst e
          exact hq q (List.mem_cons_self ..)
        · cases e
  unfold sectorD
  cases e : putAt x d.late with
  | some s => exact hp d.late (fun p hpm => by obtain ⟨k, hk, rfl⟩ := List.getElem_of_mem hpm; exact (diskB_late h hk).2.2) s e
  | none =>
    have hk : x.toNat < d.safe.length := by omega
    simp only [Option.getD_none, List.getD_eq_getElem?_getD, List.getElem?_eq_getElem hk, Option.getD_some]
    exact diskB_safe h hk

set_option maxHeartbeats 1000000 in
set_option maxRecDepth 100000 in
theorem sheadNow_any {w : World} {v : Value} {d : PDisk} (h : DiskAt w v d) (hf : DiskFit d) : Calls Tryd.prog 14 #[v] w fun e w' => e = .returned (headV (nowDk d)) ∧ Below w.heap.size w w' := by
  have HD := (show Hid (DiskAt w v d) from h)
  have HF := (show Hid (DiskFit d) from hf)
  obtain ⟨sa, sn, sc, la, ln, lc, rfl, _, _⟩ := h
  obtain ⟨w1, hw1⟩ : ∃ y, y = (w.alloc (.cells #[.slice sa sn sc, .slice la ln lc] 34)).alloc (.cells #[.int .i64 0, .int .i64 0, .int .i64 0] 25) := ⟨_, rfl⟩
  have h1 : Hl w [(w.heap.size + 1, #[.int .i64 0, .int .i64 0, .int .i64 0], 25), (w.heap.size, #[.slice sa sn sc, .slice la ln lc], 34)] w1 := by
    have := ((Hl.refl w).new #[.slice sa sn sc, .slice la ln lc] 34).new #[.int .i64 0, .int .i64 0, .int .i64 0] 25
    rw [World.size_alloc] at this
    rw [hw1]; exact this
  have H1 := (show Hid _ from h1)
  clear h1 hf
  go_enter Tryd.func14, Tryd.ntmps14
  go_wp2_with fail
  go_at_call 38
  rw [← hw1]
  refine (sdiskOk_any (HD.out.below H1.out.1) HF.out).mono ?_
  rintro e w2 ⟨rfl, b2⟩
  clear hw1
  have H2 := (show Hid _ from H1.out.below b2)
  clear H1 b2
  cases hb : diskB d
  · have HR : Hid (nowDk d = zeroH) := (show nowDk d = zeroH by rw [nowDk, if_pos hb])
    clear hb
    obtain ⟨q1, q2, q3, q4, q5, q6⟩ := rk_three H2.out.at0
    go_wp2
    refine bodyPost_ret (results_cell_row rfl _ _ (w.heap.size + 1) 25 #[.int .i64 0, .int .i64 0, .int .i64 0] (0, 0) _ rfl (H2.out.set3 (by omega) (by simp) _ _ _).at0 Tryd.underlying25 rfl rfl) rfl ?_
    exact ⟨by rw [HR.out]; rfl, (H2.out.set3 (by omega) (by simp) _ _ _).1⟩
  · obtain ⟨s0, hs0⟩ : ∃ s, s = sectorD d 0 := ⟨_, rfl⟩
    obtain ⟨s1, hs1⟩ : ∃ s, s = sectorD d 1 := ⟨_, rfl⟩
    obtain ⟨⟨⟨a0, a1, a2⟩, k0⟩, ha⟩ : ∃ x, x = readDk s0 := ⟨_, rfl⟩
    obtain ⟨⟨⟨b0, b1, b2⟩, k1⟩, hb1⟩ : ∃ x, x = readDk s1 := ⟨_, rfl⟩
    have HR : Hid (nowDk d = if a0 < b0 then ⟨b0, b1, b2⟩ else ⟨a0, a1, a2⟩) := (show nowDk d = _ by rw [nowDk, if_neg (by rw [hb]; simp), ← hs0, ← hs1, ← ha, ← hb1])
    have hl := diskB_len hb
    have CO0 := (show Hid (∀ W, Below w.heap.size w W → Calls Tryd.prog 39 #[.agg #[.slice sa sn sc, .slice la ln lc], .int .i64 0] W fun e w' => e = .returned (.string s0) ∧ Below W.heap.size W w') from fun W b => by rw [hs0]; exact sl15Of_any (HD.out.below b) HF.out ⟨by omega, by omega⟩)
    have CO1 := (show Hid (∀ W, Below w.heap.size w W → Calls Tryd.prog 39 #[.agg #[.slice sa sn sc, .slice la ln lc], .int .i64 1] W fun e w' => e = .returned (.string s1) ∧ Below W.heap.size W w') from fun W b => by rw [hs1]; exact sl15Of_any (HD.out.below b) HF.out ⟨by omega, by omega⟩)
    have CR0 := (show Hid (∀ W, Calls Tryd.prog 22 #[.string s0] W fun e w' => e = .returned (.tuple #[.agg #[.int .i64 a0, .int .i64 a1, .int .i64 a2], .bool k0]) ∧ Below W.heap.size W w') from fun W => by
      have := sheadRead_any s0 W (by rw [hs0, sector_size hb ⟨by omega, by omega⟩]; omega)
      rw [← ha] at this; exact this)
    have CR1 := (show Hid (∀ W, Calls Tryd.prog 22 #[.string s1] W fun e w' => e = .returned (.tuple #[.agg #[.int .i64 b0, .int .i64 b1, .int .i64 b2], .bool k1]) ∧ Below W.heap.size W w') from fun W => by
      have := sheadRead_any s1 W (by rw [hs1, sector_size hb ⟨by omega, by omega⟩]; omega)
      rw [← hb1] at this; exact this)
    clear hs0 hs1 ha hb1 hb hl
    obtain ⟨q1, q2, _, _⟩ := rk_two H2.out.at1
    go_wp2_with fail
    go_at_call 39
    refine (CO0.out _ H2.out.1).mono ?_
    rintro e w3 ⟨rfl, b3⟩
    have H3 := (show Hid _ from H2.out.below b3)
    clear H2 b3 q1 q2 CO0
    go_wp2_with fail
    go_at_call 22
    refine (CR0.out _).mono ?_
    rintro e w4 ⟨rfl, b4⟩
    have H4 := (show Hid _ from H3.out.below b4)
    have H5 := (show Hid _ from H4.out.new #[.int .i64 a0, .int .i64 a1, .int .i64 a2] 25)
    obtain ⟨w5, hw5⟩ : ∃ y, y = w4.alloc (.cells #[.int .i64 a0, .int .i64 a1, .int .i64 a2] 25) := ⟨_, rfl⟩
    rw [← hw5] at H5
    obtain ⟨q1, q2, _, _⟩ := rk_two H5.out.at2
    clear H3 b4 CR0
    go_upto_region 4 with fail
    rw [← hw5]
    clear hw5
    go_wp2_with fail
    go_at_call 39
    refine (CO1.out _ H5.out.1).mono ?_
    rintro e w6 ⟨rfl, b6⟩
    have H6 := (show Hid _ from H5.out.below b6)
    clear H5 b6 q1 q2 CO1
    go_wp2_with fail
    go_at_call 22
    refine (CR1.out _).mono ?_
    rintro e w7 ⟨rfl, b7⟩
    have H7 := (show Hid _ from H6.out.below b7)
    have hn1 : w.heap.size + 1 < w4.heap.size := H4.out.lt (p := (w.heap.size + 1, #[.int .i64 0, .int .i64 0, .int .i64 0], 25)) (by simp)
    have hn2 : w4.heap.size < w7.heap.size := H7.out.lt (List.mem_cons_self ..)
    have H8 := (show Hid _ from H7.out.new #[.int .i64 b0, .int .i64 b1, .int .i64 b2] 25)
    obtain ⟨w8, hw8⟩ : ∃ y, y = w7.alloc (.cells #[.int .i64 b0, .int .i64 b1, .int .i64 b2] 25) := ⟨_, rfl⟩
    rw [← hw8] at H8
    obtain ⟨m1, m2, m3, _⟩ := rk_three H8.out.at0
    obtain ⟨n1, n2, n3, _⟩ := rk_three H8.out.at1
    obtain ⟨r1, r2, r3, r4, r5, r6⟩ := rk_three H8.out.at2
    have H9 := (show Hid (Hl w ((w.heap.size + 1, #[.int .i64 0, .int .i64 0, .int .i64 0], 25) :: []) w8) from ⟨H8.out.1, fun p hp => by
      simp only [List.mem_cons, List.not_mem_nil, or_false] at hp; rw [hp]; exact H8.out.at2⟩)
    clear H4 H6 H7 b7 CR1 H8 hn1 hn2
    by_cases hlt : a0 < b0
    · have HQ : Hid (nowDk d = ⟨b0, b1, b2⟩) := (show nowDk d = _ by rw [HR.out, if_pos hlt])
      clear HR
      go_upto_region 5 with fail
      rw [← hw8]
      clear hw8
      go_wp2
      refine bodyPost_ret (results_cell_row rfl _ _ (w.heap.size + 1) 25 #[.int .i64 b0, .int .i64 b1, .int .i64 b2] (0, 0) _ rfl (H9.out.set3 (by omega) (by simp) _ _ _).at0 Tryd.underlying25 rfl rfl) rfl ?_
      exact ⟨by rw [HQ.out]; rfl, (H9.out.set3 (by omega) (by simp) _ _ _).1⟩
    · have HQ : Hid (nowDk d = ⟨a0, a1, a2⟩) := (show nowDk d = _ by rw [HR.out, if_neg hlt])
      clear HR
      go_upto_region 5 with fail
      rw [← hw8]
      clear hw8
      go_wp2
      refine bodyPost_ret (results_cell_row rfl _ _ (w.heap.size + 1) 25 #[.int .i64 a0, .int .i64 a1, .int .i64 a2] (0, 0) _ rfl (H9.out.set3 (by omega) (by simp) _ _ _).at0 Tryd.underlying25 rfl rfl) rfl ?_
      exact ⟨by rw [HQ.out]; rfl, (H9.out.set3 (by omega) (by simp) _ _ _).1⟩
end Go.Proofs.YtiejfnnokfedkaaDoor

/- The laws' helpers on heads. No condition. -/
namespace Go.Proofs.YtiejfnnokfedkaaDoor
open Go.RowKit
set_option maxRecDepth 100000
set_option linter.unusedVariables false

set_option maxRecDepth 100000 in
theorem eqHead_same (h : PHead) (w : World) : Calls Tryd.prog 23 #[headV h, headV h] w fun e w' => e = .returned (.bool true) ∧ Below w.heap.size w w' := by
  obtain ⟨a, b, c⟩ := h
  show Calls Tryd.prog 23 #[.agg #[.int .i64 a, .int .i64 b, .int .i64 c], .agg #[.int .i64 a, .int .i64 b, .int .i64 c]] w _
  have e1 : (a != a) = false := by simp
  have e2 : (b != b) = false := by simp
  have e3 : (c != c) = false := by simp
  have h1 := ((Hl.refl w).new #[.int .i64 a, .int .i64 b, .int .i64 c] 25).new #[.int .i64 a, .int .i64 b, .int .i64 c] 25
  have H1 := (show Hid _ from h1)
  clear h1
  go_enter Tryd.func23, Tryd.ntmps23
  go_wp2
  go_ret
  exact ⟨rfl, H1.out.1⟩

/-- What the program must keep. -/
def HeadPackOk : Prop := ∀ (h : PHead) (w : World), (Lit.int .i64 h.no).wf = true → (Lit.int .i64 h.area).wf = true → (Lit.int .i64 h.en).wf = true → Calls Tryd.prog 9 #[headV h] w fun e w' => e = .returned (.tuple #[.string (packDk h).1, .bool (packDk h).2]) ∧ Below w.heap.size w w'
def HeadReadOk (w0 : World) : Prop := ∀ (s : ByteArray) (w : World), Below w0.heap.size w0 w → s.size ≤ 1099511627776 → Calls Tryd.prog 11 #[.string s] w fun e w' => e = .returned (.tuple #[headV (readDk s).1, .bool (readDk s).2]) ∧ Below w.heap.size w w'
def HeadNowOk (w0 : World) : Prop := ∀ (w : World) (v : Value) (d : PDisk), Below w0.heap.size w0 w → DiskAt w v d → DiskFit d → Calls Tryd.prog 13 #[v] w fun e w' => e = .returned (headV (nowDk d)) ∧ Below w.heap.size w w'

set_option maxRecDepth 100000 in
theorem fnExactHeadRead_of (s : ByteArray) (w : World) (H : HeadReadOk w) (hs : s.size ≤ maxLen) :
    Calls Tryd.prog 5 #[.string s] w fun e w' => e = .returned (.bool true) ∧ Below w.heap.size w w' := by
  by_cases hbig : 1048576 < (s.size : Int)
  · go_enter Tryd.func5, Tryd.ntmps5
    go_wp2
    go_ret
    exact ⟨rfl, Below.refl _ _⟩
  have hs40 : s.size ≤ 1099511627776 := by omega
  have CI := (show Hid (∀ W, Below w.heap.size w W → Calls Tryd.prog 11 #[.string s] W fun e w' => e = .returned (.tuple #[headV (readDk s).1, .bool (readDk s).2]) ∧ Below W.heap.size W w') from fun W b => H s W b hs40)
  have CS := (show Hid (∀ W, Calls Tryd.prog 22 #[.string s] W fun e w' => e = .returned (.tuple #[headV (readDk s).1, .bool (readDk s).2]) ∧ Below W.heap.size W w') from fun W => sheadRead_any s W hs40)
  obtain ⟨⟨q, qb⟩, hp⟩ : ∃ p, p = readDk s := ⟨_, rfl⟩
  rw [← hp] at CI CS
  simp only at CI CS
  have CE := (show Hid _ from eqHead_same q)
  have e1 : (qb != qb) = false := by cases qb <;> rfl
  obtain ⟨a, b, c⟩ := q
  unfold headV at CI CS CE
  simp only at CI CS CE
  clear hp H
  go_enter Tryd.func5, Tryd.ntmps5
  go_wp2_with fail
  go_at_call 22
  refine Calls.mono (CS.out w) ?_
  rintro e w2 ⟨rfl, b2⟩
  have h2 := (show Hid _ from ((Hl.refl w).below b2).new #[.int .i64 a, .int .i64 b, .int .i64 c] 25)
  obtain ⟨w3, hw3⟩ : ∃ y, y = w2.alloc (.cells #[.int .i64 a, .int .i64 b, .int .i64 c] 25) := ⟨_, rfl⟩
  rw [← hw3] at h2
  clear b2 CS
  go_wp2_with fail
  go_at_call 11
  rw [← hw3]
  refine Calls.mono (CI.out w3 h2.out.1) ?_
  rintro e w4 ⟨rfl, b4⟩
  have h4 := (show Hid _ from (h2.out.below b4).new #[.int .i64 a, .int .i64 b, .int .i64 c] 25)
  obtain ⟨w5, hw5⟩ : ∃ y, y = w4.alloc (.cells #[.int .i64 a, .int .i64 b, .int .i64 c] 25) := ⟨_, rfl⟩
  rw [← hw5] at h4
  clear b4 CI h2 hw3
  obtain ⟨c1, c2, c3, _⟩ := rk_three h4.out.at0
  obtain ⟨d1, d2, d3, _⟩ := rk_three h4.out.at1
  go_upto_region 5 with fail
  rw [← hw5]
  clear hw5
  go_wp2_with fail
  go_at_call 23
  refine Calls.mono (CE.out w5) ?_
  rintro e w6 ⟨rfl, b6⟩
  have h6 := (show Hid _ from h4.out.below b6)
  clear h4 b6 c1 c2 c3 d1 d2 d3 CE
  go_wp2
  go_ret
  exact ⟨rfl, h6.out.1⟩
end Go.Proofs.YtiejfnnokfedkaaDoor

/- Contracts of the laws' marks of a disk. No condition. -/
namespace Go.Proofs.YtiejfnnokfedkaaDoor
open Go.RowKit
set_option maxRecDepth 100000
set_option linter.unusedVariables false

/-- The marks that are laid over a list of texts, from k on. -/
def markStrs (k : Int) (n : Nat) : List ByteArray := (List.range n).map fun i : Nat => mt (k + (i : Int))
theorem markStrs_len (k : Int) (n : Nat) : (markStrs k n).length = n := by simp [markStrs]
theorem markStrs_at (k : Int) (n i : Nat) (h : i < (markStrs k n).length) : (markStrs k n)[i] = mt (k + (i : Int)) := by simp [markStrs]
theorem markStrs_succ (k : Int) (rs : List ByteArray) (i : Nat) (h : i < rs.length) : (markStrs k i ++ rs.drop i).set i (mt (k + (i : Int))) = markStrs k (i + 1) ++ rs.drop (i + 1) := by
  rw [List.set_append_right _ _ (by rw [markStrs_len]; exact Nat.le_refl _), markStrs_len, Nat.sub_self, List.drop_eq_getElem_cons h, List.set_cons_zero]
  simp [markStrs, List.range_succ]
/-- The marks that are laid over a list of puts, from k on. -/
def markPuts (k : Int) (n : Nat) : List (Int × ByteArray) := (List.range n).map fun i : Nat => (k + 2 * (i : Int), mt (k + 2 * (i : Int) + 1))
theorem markPuts_len (k : Int) (n : Nat) : (markPuts k n).length = n := by simp [markPuts]
theorem markPuts_at (k : Int) (n i : Nat) (h : i < (markPuts k n).length) : (markPuts k n)[i] = (k + 2 * (i : Int), mt (k + 2 * (i : Int) + 1)) := by simp [markPuts]
theorem markPuts_succ (k : Int) (rs : List (Int × ByteArray)) (i : Nat) (h : i < rs.length) :
    (markPuts k i ++ rs.drop i).set i (k + 2 * (i : Int), mt (k + 2 * (i : Int) + 1)) = markPuts k (i + 1) ++ rs.drop (i + 1) := by
  rw [List.set_append_right _ _ (by rw [markPuts_len]; exact Nat.le_refl _), markPuts_len, Nat.sub_self, List.drop_eq_getElem_cons h, List.set_cons_zero]
  simp [markPuts, List.range_succ]

/-- Nothing is turned but the two blocks. -/
structure TwoFr (r s : Option Nat) (w w' : World) : Prop where
  os : w'.os = w.os
  tape : w'.tape = w.tape
  output : w'.output = w.output
  size : w.heap.size ≤ w'.heap.size
  block : ∀ j, j < w.heap.size → some j ≠ r → some j ≠ s → w'.heap[j]? = w.heap[j]?
theorem TwoFr.below {r s : Option Nat} {B : Nat} {w w' : World} (h : TwoFr r s w w') (hB : B ≤ w.heap.size) (hr : ∀ j, r = some j → B ≤ j) (hs : ∀ j, s = some j → B ≤ j) : Below B w w' :=
  ⟨h.os, h.tape, h.output, h.size, fun j hj => h.block j (by omega) (fun e => by have := hr j e.symm; omega) (fun e => by have := hs j e.symm; omega)⟩
theorem TwoFr.row {r s : Option Nat} {B e size n : Nat} {w w' : World} {v : Value} {xs : List Value} (h : TwoFr r s w w') (ho : w.ownsRow B e size v n xs) (hr : ∀ j, v.ownBlock = some j → some j ≠ r) (hs : ∀ j, v.ownBlock = some j → some j ≠ s) : w'.ownsRow B e size v n xs := by
  obtain ⟨hl, hv | ⟨g, cap, cur, hv, hB, hh, k⟩⟩ := ho
  · exact ⟨hl, .inl hv⟩
  · have hg : v.ownBlock = some g := by rw [hv]; rfl
    exact ⟨hl, .inr ⟨g, cap, cur, hv, hB, by rw [h.block g (lt_of_block hh) (hr g hg) (hs g hg)]; exact hh, k⟩⟩

end Go.Proofs.YtiejfnnokfedkaaDoor

/- The exact laws of chapter 15, from the program's contracts (written by mk/wdisk.py). -/
namespace Go.Proofs.YtiejfnnokfedkaaDoor
open Go.RowKit
set_option maxRecDepth 100000
set_option linter.unusedVariables false

/-- What the program must keep. -/
def DiskOkOk : Prop := ∀ (w : World) (v : Value) (d : PDisk), DiskAt w v d → DiskFit d → Calls Tryd.prog 41 #[v] w fun e w' => e = .returned (.bool (diskB d)) ∧ Below w.heap.size w w'
def SectorOfOk : Prop := ∀ (w : World) (v : Value) (d : PDisk) (x : Int), DiskAt w v d → DiskFit d → Calls Tryd.prog 16 #[v, .int .i64 x] w fun e w' => e = .returned (.tuple #[.string (sectorDk d x).1, .bool (sectorDk d x).2]) ∧ Below w.heap.size w w'
def DiskPutOk : Prop := ∀ (w : World) (v : Value) (d : PDisk) (x : Int) (s : ByteArray), DiskAt w v d → DiskFit d → s.size ≤ 1099511627776 → Calls Tryd.prog 40 #[v, .int .i64 x, .string s] w fun e w' => ∃ v', e = .returned (.tuple #[v', .bool (putDk d x s).2]) ∧ OwnDk w.heap.size w' v' (putDk d x s).1 ∧ Below w.heap.size w w'
theorem fit_zero : DiskFit zeroDk := ⟨by decide, by decide, (fun s hs => by cases hs), (fun p hp => by cases hp)⟩
theorem fit_new : DiskFit newDk := ⟨by decide, by decide, (fun s hs => by
  have : s = zeros64 := List.eq_of_mem_replicate hs
  rw [this, zeros64_size]; decide), (fun p hp => by cases hp)⟩
theorem fit_done {d : PDisk} (h : DiskFit d) (keep : Int) : DiskFit (doneDk keep d) := ⟨by show (doneN keep d.safe d.late d.late.length).length ≤ _; rw [doneN_len]; exact h.sl, Nat.zero_le _, doneN_size h.st h.lt _, (fun p hp => by cases hp)⟩
theorem fit_sync {d : PDisk} (h : DiskFit d) : DiskFit (syncDk d).1 := by
  unfold syncDk
  split
  · exact fit_zero
  · exact fit_done h _
theorem fit_crash {d : PDisk} (h : DiskFit d) (x : Int) : DiskFit (crashDk d x).1 := by
  unfold crashDk
  split
  · exact fit_zero
  · exact fit_done h _
theorem fit_put {d : PDisk} (h : DiskFit d) (x : Int) {s : ByteArray} (hs : s.size ≤ 1099511627776) : DiskFit (putDk d x s).1 := by
  unfold putDk
  split
  · exact fit_zero
  · rename_i hb
    split
    · exact h
    · have hl := diskB_len (d := d) (by simpa using hb)
      refine ⟨h.sl, ?_, h.st, fun p hp => ?_⟩
      · show (d.late ++ [(x, s)]).length ≤ _
        rw [List.length_append, List.length_singleton]; omega
      · rcases List.mem_append.mp hp with hp | hp
        · exact h.lt p hp
        · simp at hp; subst hp; exact hs
theorem same_dk (d : PDisk) : decide (d.safe = d.safe ∧ d.late = d.late) = true := by simp


theorem TwoFr.var {r s : Option Nat} {B size n B' size' n' e e' : Nat} {w w' : World} {v u : Value} {xs ys : List Value} (h : TwoFr r s w w') (o1 : w.ownsRow B e size v n xs) (o2 : w.ownsRow B' e' size' u n' ys) (h1 : v.ownBlock = r) (h2 : u.ownBlock = s)
    {j : Nat} {cs : Array Value} {t : TypeId} {fr : Nat × Nat} (hj : w.heap[j]? = some (.cells cs t fr)) (t1 : t ≠ e) (t2 : t ≠ e') : w'.heap[j]? = some (.cells cs t fr) := by
  refine (h.block j (lt_of_block hj) (fun er => ?_) (fun er => ?_)).trans hj
  · obtain ⟨c2, f2, k2⟩ := rk_kind o1 (h1.trans er.symm)
    rw [hj] at k2; cases k2; exact t1 rfl
  · obtain ⟨c2, f2, k2⟩ := rk_kind o2 (h2.trans er.symm)
    rw [hj] at k2; cases k2; exact t2 rfl

end Go.Proofs.YtiejfnnokfedkaaDoor

/- The exact law of HeadNow, from the program's contract (written by mk/whead.py). -/
namespace Go.Proofs.YtiejfnnokfedkaaDoor
open Go.RowKit
set_option maxRecDepth 100000
set_option linter.unusedVariables false

set_option maxHeartbeats 4000000 in
set_option maxRecDepth 100000 in
theorem fnExactHeadNow_of {v : Value} {d : PDisk} (w0 : World) (H : HeadNowOk w0) (h : DiskAt w0 v d) (hs : ∀ s ∈ d.safe, s.size ≤ maxLen) (hp : ∀ p ∈ d.late, p.2.size ≤ maxLen) :
    Calls Tryd.prog 6 #[v] w0 fun e w' => e = .returned (.bool true) ∧ Below w0.heap.size w0 w' := by
  have HC := (show Hid (HeadNowOk w0) from H)
  obtain ⟨sa, sn, sc, sA, sN, sC, rfl, h1, h2⟩ := h
  obtain ⟨w, hw⟩ : ∃ x, x = w0.alloc (.cells #[.slice sa sn sc, .slice sA sN sC] 49) := ⟨_, rfl⟩
  have b0 : Below w0.heap.size w0 w := by rw [hw]; exact (Below.refl _ _).alloc (Nat.le_refl _) _
  have x0 : w.heap[w0.heap.size]? = some (.cells #[.slice sa sn sc, .slice sA sN sC] 49 (0, 0)) := by rw [hw]; exact World.alloc_heap_new _ _
  have HD := (show Hid (DiskAt w (.agg #[.slice sa sn sc, .slice sA sN sC]) d) from ⟨_, _, _, _, _, _, rfl, h1.below b0, h2.below b0⟩)
  have B0 := (show Hid (Below w0.heap.size w0 w) from b0)
  have V0 := (show Hid _ from x0)
  have CZ := (show Hid (Calls Tryd.prog 24 #[.agg #[.slice sa sn sc, .slice sA sN sC], .int .i64 1048576] w fun e w' => ∃ r : Int, e = .returned (.int .i64 r) ∧ (r < 0 ∨ (0 ≤ r ∧ r ≤ 1048576 ∧ DiskFit d)) ∧ Below w.heap.size w w') from szDisk_any HD.out hs hp 1048576 (by decide) (by decide))
  clear H hs hp h1 h2 b0 x0
  go_enter Tryd.func6, Tryd.ntmps6
  go_wp2_with fail
  go_at_call 24
  rw [← hw]
  refine Calls.mono CZ.out ?_
  rintro e w1 ⟨r, rfl, hr, b1⟩
  clear CZ hw
  rcases hr with hr | ⟨hr0, hr1, hf⟩
  · go_wp2
    go_ret
    exact ⟨rfl, B0.out.trans (b1.mono B0.out.size)⟩
  · have HF := (show Hid (DiskFit d) from hf)
    clear hf
    have B_w1 := (show Hid (Below w.heap.size w w1) from b1)
    have V_w1 := (show Hid (w1.heap[w0.heap.size]? = some (.cells #[.slice sa sn sc, .slice sA sN sC] 49 (0, 0))) from (b1.block _ (lt_of_block V0.out)).trans V0.out)
    clear b1 V0
    obtain ⟨cV1, cV2, _, _⟩ := rk_two V_w1.out
    go_wp2_with fail
    go_at_call 25
    refine (toDisk_any (HD.out.below B_w1.out) HF.out).mono ?_
    rintro e w2 ⟨vw2, rfl, ow2, bw2⟩
    obtain ⟨ta, tn, tc, tA, tN, tC, rfl, ow21, ow22⟩ := ow2
    have Sw2 := (show Hid (w1.heap.size ≤ w2.heap.size) from bw2.size)
    have B_w2 := (show Hid (Below w.heap.size w w2) from B_w1.out.trans (bw2.mono B_w1.out.size))
    have V_w2 := (show Hid (w2.heap[w0.heap.size]? = some (.cells #[.slice sa sn sc, .slice sA sN sC] 49 (0, 0))) from (bw2.block _ (lt_of_block V_w1.out)).trans V_w1.out)
    clear B_w1 V_w1 cV1 cV2 bw2
    have Rt_w2 := (show Hid (w2.ownsRow w1.heap.size 9 1 (.slice ta tn tc) d.safe.length (strCells d.safe) ∧ w2.ownsRow w1.heap.size 76 2 (.slice tA tN tC) d.late.length (putCells d.late)) from ⟨ow21, ow22⟩)
    clear ow21 ow22
    obtain ⟨q, hq⟩ : ∃ q, q = nowDk d := ⟨_, rfl⟩
    have CS := (show Hid (Calls Tryd.prog 14 #[.agg #[.slice ta tn tc, .slice tA tN tC]] w2 fun e w' => e = .returned (headV (nowDk d)) ∧ Below w2.heap.size w2 w') from sheadNow_any ⟨_, _, _, _, _, _, rfl, sv_of_own Rt_w2.out.1, sv_of_own Rt_w2.out.2⟩ HF.out)
    have CI := (show Hid (∀ (w : World) (v : Value), Below w0.heap.size w0 w → DiskAt w v d → Calls Tryd.prog 13 #[v] w fun e w' => e = .returned (headV (nowDk d)) ∧ Below w.heap.size w w') from fun w v b h => HC.out w v d b h HF.out)
    rw [← hq] at CS CI
    clear hq
    have CE := (show Hid _ from eqHead_same q)
    obtain ⟨q0, q1, q2⟩ := q
    unfold headV at CS CI CE
    simp only at CS CI CE
    obtain ⟨cV1, cV2, _, _⟩ := rk_two V_w2.out
    go_wp2_with fail
    go_at_call 14
    refine (CS.out).mono ?_
    rintro e w3 ⟨rfl, b3⟩
    have B_w3 := (show Hid (Below w.heap.size w w3) from B_w2.out.trans (b3.mono B_w2.out.size))
    have V_w3 := (show Hid (w3.heap[w0.heap.size]? = some (.cells #[.slice sa sn sc, .slice sA sN sC] 49 (0, 0))) from (b3.block _ (lt_of_block V_w2.out)).trans V_w2.out)
    have Rt_w3 := (show Hid (w3.ownsRow w1.heap.size 9 1 (.slice ta tn tc) d.safe.length (strCells d.safe) ∧ w3.ownsRow w1.heap.size 76 2 (.slice tA tN tC) d.late.length (putCells d.late)) from ⟨ownsRow_below Rt_w2.out.1 b3, ownsRow_below Rt_w2.out.2 b3⟩)
    clear B_w2 V_w2 Rt_w2 cV1 cV2 b3
    obtain ⟨w3a, hw3a⟩ : ∃ x, x = w3.alloc (.cells #[.int .i64 q0, .int .i64 q1, .int .i64 q2] 25) := ⟨_, rfl⟩
    have bw3a : Below w3.heap.size w3 w3a := by rw [hw3a]; exact (Below.refl _ _).alloc (Nat.le_refl _) _
    have xw3a : w3a.heap[w3.heap.size]? = some (.cells #[.int .i64 q0, .int .i64 q1, .int .i64 q2] 25 (0, 0)) := by rw [hw3a]; exact World.alloc_heap_new _ _
    obtain ⟨oV1, oV2, _, _⟩ := rk_two V_w3.out
    have oV3 := lt_of_block V_w3.out
    have sw3a := bw3a.size
    have Sw3a := (show Hid (w3.heap.size ≤ w3a.heap.size) from sw3a)
    clear sw3a
    have B_w3a := (show Hid (Below w.heap.size w w3a) from B_w3.out.trans (bw3a.mono B_w3.out.size))
    have V_w3a := (show Hid (w3a.heap[w0.heap.size]? = some (.cells #[.slice sa sn sc, .slice sA sN sC] 49 (0, 0))) from (bw3a.block _ (lt_of_block V_w3.out)).trans V_w3.out)
    have Rt_w3a := (show Hid (w3a.ownsRow w1.heap.size 9 1 (.slice ta tn tc) d.safe.length (strCells d.safe) ∧ w3a.ownsRow w1.heap.size 76 2 (.slice tA tN tC) d.late.length (putCells d.late)) from ⟨ownsRow_below Rt_w3.out.1 bw3a, ownsRow_below Rt_w3.out.2 bw3a⟩)
    clear B_w3 V_w3 Rt_w3 bw3a
    have Q_w3a := (show Hid (w3a.heap[w3.heap.size]? = some (.cells #[.int .i64 q0, .int .i64 q1, .int .i64 q2] 25 (0, 0))) from xw3a)
    clear xw3a
    go_wp2_with fail
    go_at_call 25
    rw [← hw3a]
    refine (toDisk_any (HD.out.below B_w3a.out) HF.out).mono ?_
    rintro e w4 ⟨vw4, rfl, ow4, bw4⟩
    clear hw3a
    obtain ⟨xa, xn, xc, xA, xN, xC, rfl, ow41, ow42⟩ := ow4
    have Sw4 := (show Hid (w3a.heap.size ≤ w4.heap.size) from bw4.size)
    have B_w4 := (show Hid (Below w.heap.size w w4) from B_w3a.out.trans (bw4.mono B_w3a.out.size))
    have V_w4 := (show Hid (w4.heap[w0.heap.size]? = some (.cells #[.slice sa sn sc, .slice sA sN sC] 49 (0, 0))) from (bw4.block _ (lt_of_block V_w3a.out)).trans V_w3a.out)
    have Rt_w4 := (show Hid (w4.ownsRow w1.heap.size 9 1 (.slice ta tn tc) d.safe.length (strCells d.safe) ∧ w4.ownsRow w1.heap.size 76 2 (.slice tA tN tC) d.late.length (putCells d.late)) from ⟨ownsRow_below Rt_w3a.out.1 bw4, ownsRow_below Rt_w3a.out.2 bw4⟩)
    have Q_w4 := (show Hid (w4.heap[w3.heap.size]? = some (.cells #[.int .i64 q0, .int .i64 q1, .int .i64 q2] 25 (0, 0))) from (bw4.block _ (lt_of_block Q_w3a.out)).trans Q_w3a.out)
    clear B_w3a V_w3a Rt_w3a Q_w3a oV1 oV2 oV3 bw4
    have Rx_w4 := (show Hid (w4.ownsRow w3a.heap.size 9 1 (.slice xa xn xc) d.safe.length (strCells d.safe) ∧ w4.ownsRow w3a.heap.size 76 2 (.slice xA xN xC) d.late.length (putCells d.late)) from ⟨ow41, ow42⟩)
    clear ow41 ow42
    obtain ⟨w4a, hw4a⟩ : ∃ x, x = w4.alloc (.cells #[.slice xa xn xc, .slice xA xN xC] 34) := ⟨_, rfl⟩
    have bw4a : Below w4.heap.size w4 w4a := by rw [hw4a]; exact (Below.refl _ _).alloc (Nat.le_refl _) _
    have xw4a : w4a.heap[w4.heap.size]? = some (.cells #[.slice xa xn xc, .slice xA xN xC] 34 (0, 0)) := by rw [hw4a]; exact World.alloc_heap_new _ _
    obtain ⟨oV1, oV2, _, _⟩ := rk_two V_w4.out
    have oV3 := lt_of_block V_w4.out
    obtain ⟨oQ1, oQ2, oQ4, _⟩ := rk_three Q_w4.out
    have oQ3 := lt_of_block Q_w4.out
    have sw4a := bw4a.size
    have Sw4a := (show Hid (w4.heap.size ≤ w4a.heap.size) from sw4a)
    clear sw4a
    have B_w4a := (show Hid (Below w.heap.size w w4a) from B_w4.out.trans (bw4a.mono B_w4.out.size))
    have V_w4a := (show Hid (w4a.heap[w0.heap.size]? = some (.cells #[.slice sa sn sc, .slice sA sN sC] 49 (0, 0))) from (bw4a.block _ (lt_of_block V_w4.out)).trans V_w4.out)
    have Rt_w4a := (show Hid (w4a.ownsRow w1.heap.size 9 1 (.slice ta tn tc) d.safe.length (strCells d.safe) ∧ w4a.ownsRow w1.heap.size 76 2 (.slice tA tN tC) d.late.length (putCells d.late)) from ⟨ownsRow_below Rt_w4.out.1 bw4a, ownsRow_below Rt_w4.out.2 bw4a⟩)
    have Q_w4a := (show Hid (w4a.heap[w3.heap.size]? = some (.cells #[.int .i64 q0, .int .i64 q1, .int .i64 q2] 25 (0, 0))) from (bw4a.block _ (lt_of_block Q_w4.out)).trans Q_w4.out)
    have Rx_w4a := (show Hid (w4a.ownsRow w3a.heap.size 9 1 (.slice xa xn xc) d.safe.length (strCells d.safe) ∧ w4a.ownsRow w3a.heap.size 76 2 (.slice xA xN xC) d.late.length (putCells d.late)) from ⟨ownsRow_below Rx_w4.out.1 bw4a, ownsRow_below Rx_w4.out.2 bw4a⟩)
    clear B_w4 V_w4 Rt_w4 Q_w4 Rx_w4 bw4a
    have X_w4a := (show Hid (w4a.heap[w4.heap.size]? = some (.cells #[.slice xa xn xc, .slice xA xN xC] 34 (0, 0))) from xw4a)
    clear xw4a
    go_wp2_with fail
    go_at_call 13
    rw [← hw4a]
    refine (CI.out _ _ (B0.out.trans (B_w4a.out.mono B0.out.size)) ⟨_, _, _, _, _, _, rfl, sv_of_own Rx_w4a.out.1, sv_of_own Rx_w4a.out.2⟩).mono ?_
    rintro e w5 ⟨rfl, b5⟩
    clear hw4a
    have B_w5 := (show Hid (Below w.heap.size w w5) from B_w4a.out.trans (b5.mono B_w4a.out.size))
    have V_w5 := (show Hid (w5.heap[w0.heap.size]? = some (.cells #[.slice sa sn sc, .slice sA sN sC] 49 (0, 0))) from (b5.block _ (lt_of_block V_w4a.out)).trans V_w4a.out)
    have Rt_w5 := (show Hid (w5.ownsRow w1.heap.size 9 1 (.slice ta tn tc) d.safe.length (strCells d.safe) ∧ w5.ownsRow w1.heap.size 76 2 (.slice tA tN tC) d.late.length (putCells d.late)) from ⟨ownsRow_below Rt_w4a.out.1 b5, ownsRow_below Rt_w4a.out.2 b5⟩)
    have Q_w5 := (show Hid (w5.heap[w3.heap.size]? = some (.cells #[.int .i64 q0, .int .i64 q1, .int .i64 q2] 25 (0, 0))) from (b5.block _ (lt_of_block Q_w4a.out)).trans Q_w4a.out)
    have Rx_w5 := (show Hid (w5.ownsRow w3a.heap.size 9 1 (.slice xa xn xc) d.safe.length (strCells d.safe) ∧ w5.ownsRow w3a.heap.size 76 2 (.slice xA xN xC) d.late.length (putCells d.late)) from ⟨ownsRow_below Rx_w4a.out.1 b5, ownsRow_below Rx_w4a.out.2 b5⟩)
    have X_w5 := (show Hid (w5.heap[w4.heap.size]? = some (.cells #[.slice xa xn xc, .slice xA xN xC] 34 (0, 0))) from (b5.block _ (lt_of_block X_w4a.out)).trans X_w4a.out)
    clear B_w4a V_w4a Rt_w4a Q_w4a Rx_w4a X_w4a oV1 oV2 oV3 oQ1 oQ2 oQ4 oQ3 b5
    obtain ⟨w5a, hw5a⟩ : ∃ x, x = w5.alloc (.cells #[.int .i64 q0, .int .i64 q1, .int .i64 q2] 25) := ⟨_, rfl⟩
    have bw5a : Below w5.heap.size w5 w5a := by rw [hw5a]; exact (Below.refl _ _).alloc (Nat.le_refl _) _
    have xw5a : w5a.heap[w5.heap.size]? = some (.cells #[.int .i64 q0, .int .i64 q1, .int .i64 q2] 25 (0, 0)) := by rw [hw5a]; exact World.alloc_heap_new _ _
    obtain ⟨oV1, oV2, _, _⟩ := rk_two V_w5.out
    have oV3 := lt_of_block V_w5.out
    obtain ⟨oQ1, oQ2, oQ4, _⟩ := rk_three Q_w5.out
    have oQ3 := lt_of_block Q_w5.out
    obtain ⟨oX1, oX2, _, _⟩ := rk_two X_w5.out
    have oX3 := lt_of_block X_w5.out
    have sw5a := bw5a.size
    have Sw5a := (show Hid (w5.heap.size ≤ w5a.heap.size) from sw5a)
    clear sw5a
    have B_w5a := (show Hid (Below w.heap.size w w5a) from B_w5.out.trans (bw5a.mono B_w5.out.size))
    have V_w5a := (show Hid (w5a.heap[w0.heap.size]? = some (.cells #[.slice sa sn sc, .slice sA sN sC] 49 (0, 0))) from (bw5a.block _ (lt_of_block V_w5.out)).trans V_w5.out)
    have Rt_w5a := (show Hid (w5a.ownsRow w1.heap.size 9 1 (.slice ta tn tc) d.safe.length (strCells d.safe) ∧ w5a.ownsRow w1.heap.size 76 2 (.slice tA tN tC) d.late.length (putCells d.late)) from ⟨ownsRow_below Rt_w5.out.1 bw5a, ownsRow_below Rt_w5.out.2 bw5a⟩)
    have Q_w5a := (show Hid (w5a.heap[w3.heap.size]? = some (.cells #[.int .i64 q0, .int .i64 q1, .int .i64 q2] 25 (0, 0))) from (bw5a.block _ (lt_of_block Q_w5.out)).trans Q_w5.out)
    have Rx_w5a := (show Hid (w5a.ownsRow w3a.heap.size 9 1 (.slice xa xn xc) d.safe.length (strCells d.safe) ∧ w5a.ownsRow w3a.heap.size 76 2 (.slice xA xN xC) d.late.length (putCells d.late)) from ⟨ownsRow_below Rx_w5.out.1 bw5a, ownsRow_below Rx_w5.out.2 bw5a⟩)
    have X_w5a := (show Hid (w5a.heap[w4.heap.size]? = some (.cells #[.slice xa xn xc, .slice xA xN xC] 34 (0, 0))) from (bw5a.block _ (lt_of_block X_w5.out)).trans X_w5.out)
    clear B_w5 V_w5 Rt_w5 Q_w5 Rx_w5 X_w5 bw5a
    have G_w5a := (show Hid (w5a.heap[w5.heap.size]? = some (.cells #[.int .i64 q0, .int .i64 q1, .int .i64 q2] 25 (0, 0))) from xw5a)
    clear xw5a
    go_wp2_with fail
    go_at_call 23
    rw [← hw5a]
    refine (CE.out _).mono ?_
    rintro e w6 ⟨rfl, b6⟩
    clear hw5a
    have B_w6 := (show Hid (Below w.heap.size w w6) from B_w5a.out.trans (b6.mono B_w5a.out.size))
    have V_w6 := (show Hid (w6.heap[w0.heap.size]? = some (.cells #[.slice sa sn sc, .slice sA sN sC] 49 (0, 0))) from (b6.block _ (lt_of_block V_w5a.out)).trans V_w5a.out)
    have Rt_w6 := (show Hid (w6.ownsRow w1.heap.size 9 1 (.slice ta tn tc) d.safe.length (strCells d.safe) ∧ w6.ownsRow w1.heap.size 76 2 (.slice tA tN tC) d.late.length (putCells d.late)) from ⟨ownsRow_below Rt_w5a.out.1 b6, ownsRow_below Rt_w5a.out.2 b6⟩)
    have Q_w6 := (show Hid (w6.heap[w3.heap.size]? = some (.cells #[.int .i64 q0, .int .i64 q1, .int .i64 q2] 25 (0, 0))) from (b6.block _ (lt_of_block Q_w5a.out)).trans Q_w5a.out)
    have Rx_w6 := (show Hid (w6.ownsRow w3a.heap.size 9 1 (.slice xa xn xc) d.safe.length (strCells d.safe) ∧ w6.ownsRow w3a.heap.size 76 2 (.slice xA xN xC) d.late.length (putCells d.late)) from ⟨ownsRow_below Rx_w5a.out.1 b6, ownsRow_below Rx_w5a.out.2 b6⟩)
    have X_w6 := (show Hid (w6.heap[w4.heap.size]? = some (.cells #[.slice xa xn xc, .slice xA xN xC] 34 (0, 0))) from (b6.block _ (lt_of_block X_w5a.out)).trans X_w5a.out)
    have G_w6 := (show Hid (w6.heap[w5.heap.size]? = some (.cells #[.int .i64 q0, .int .i64 q1, .int .i64 q2] 25 (0, 0))) from (b6.block _ (lt_of_block G_w5a.out)).trans G_w5a.out)
    clear B_w5a V_w5a Rt_w5a Q_w5a Rx_w5a X_w5a G_w5a oV1 oV2 oV3 oQ1 oQ2 oQ4 oQ3 oX1 oX2 oX3 b6
    obtain ⟨cV1, cV2, _, _⟩ := rk_two V_w6.out
    obtain ⟨cQ1, cQ2, cQ3, _⟩ := rk_three Q_w6.out
    obtain ⟨cX1, cX2, _, _⟩ := rk_two X_w6.out
    obtain ⟨cG1, cG2, cG3, _⟩ := rk_three G_w6.out
    go_wp2_with fail
    have bd : Below w6.heap.size w6 w6.drew := below_drewN 1
    
    have BD := (show Hid (Below w6.heap.size w6 w6.drew) from bd)
    clear bd
    go_region_with (first
      | (go_at_call 25
         refine (toDisk_any ((HD.out.below B_w6.out).below BD.out) HF.out).mono ?_
         rintro e w7 ⟨vw7, rfl, ow7, bw7⟩
         obtain ⟨ya, yn, yc, yA, yN, yC, rfl, ow71, ow72⟩ := ow7
         have ew7 : Below w6.heap.size w6 w7 := BD.out.trans (bw7.mono BD.out.size)
         have B_w7 := (show Hid (Below w.heap.size w w7) from B_w6.out.trans (ew7.mono B_w6.out.size))
         have V_w7 := (show Hid (w7.heap[w0.heap.size]? = some (.cells #[.slice sa sn sc, .slice sA sN sC] 49 (0, 0))) from (ew7.block _ (lt_of_block V_w6.out)).trans V_w6.out)
         have Rt_w7 := (show Hid (w7.ownsRow w1.heap.size 9 1 (.slice ta tn tc) d.safe.length (strCells d.safe) ∧ w7.ownsRow w1.heap.size 76 2 (.slice tA tN tC) d.late.length (putCells d.late)) from ⟨ownsRow_below Rt_w6.out.1 ew7, ownsRow_below Rt_w6.out.2 ew7⟩)
         have Q_w7 := (show Hid (w7.heap[w3.heap.size]? = some (.cells #[.int .i64 q0, .int .i64 q1, .int .i64 q2] 25 (0, 0))) from (ew7.block _ (lt_of_block Q_w6.out)).trans Q_w6.out)
         have Rx_w7 := (show Hid (w7.ownsRow w3a.heap.size 9 1 (.slice xa xn xc) d.safe.length (strCells d.safe) ∧ w7.ownsRow w3a.heap.size 76 2 (.slice xA xN xC) d.late.length (putCells d.late)) from ⟨ownsRow_below Rx_w6.out.1 ew7, ownsRow_below Rx_w6.out.2 ew7⟩)
         have X_w7 := (show Hid (w7.heap[w4.heap.size]? = some (.cells #[.slice xa xn xc, .slice xA xN xC] 34 (0, 0))) from (ew7.block _ (lt_of_block X_w6.out)).trans X_w6.out)
         have G_w7 := (show Hid (w7.heap[w5.heap.size]? = some (.cells #[.int .i64 q0, .int .i64 q1, .int .i64 q2] 25 (0, 0))) from (ew7.block _ (lt_of_block G_w6.out)).trans G_w6.out)
         clear B_w6 V_w6 Rt_w6 Q_w6 Rx_w6 X_w6 G_w6 cV1 cV2 cQ1 cQ2 cQ3 cX1 cX2 cG1 cG2 cG3 ew7
         have Ry_w7 := (show Hid (w7.ownsRow w6.drew.heap.size 9 1 (.slice ya yn yc) d.safe.length (strCells d.safe) ∧ w7.ownsRow w6.drew.heap.size 76 2 (.slice yA yN yC) d.late.length (putCells d.late)) from ⟨ow71, ow72⟩)
         clear ow71 ow72 bw7
         obtain ⟨cV1, cV2, _, _⟩ := rk_two V_w7.out
         obtain ⟨cQ1, cQ2, cQ3, _⟩ := rk_three Q_w7.out
         obtain ⟨cX1, cX2, _, _⟩ := rk_two X_w7.out
         obtain ⟨cG1, cG2, cG3, _⟩ := rk_three G_w7.out)
      | (go_at_call 26
         refine (eqDisk_any ⟨_, _, _, _, _, _, rfl, sv_of_own Rx_w7.out.1, sv_of_own Rx_w7.out.2⟩ ⟨_, _, _, _, _, _, rfl, sv_of_own Ry_w7.out.1, sv_of_own Ry_w7.out.2⟩ HF.out HF.out).mono ?_
         rintro e w8 ⟨rfl, bw8⟩
         rw [same_dk]
         have B_w8 := (show Hid (Below w.heap.size w w8) from B_w7.out.trans (bw8.mono B_w7.out.size))
         have V_w8 := (show Hid (w8.heap[w0.heap.size]? = some (.cells #[.slice sa sn sc, .slice sA sN sC] 49 (0, 0))) from (bw8.block _ (lt_of_block V_w7.out)).trans V_w7.out)
         have Rt_w8 := (show Hid (w8.ownsRow w1.heap.size 9 1 (.slice ta tn tc) d.safe.length (strCells d.safe) ∧ w8.ownsRow w1.heap.size 76 2 (.slice tA tN tC) d.late.length (putCells d.late)) from ⟨ownsRow_below Rt_w7.out.1 bw8, ownsRow_below Rt_w7.out.2 bw8⟩)
         have Q_w8 := (show Hid (w8.heap[w3.heap.size]? = some (.cells #[.int .i64 q0, .int .i64 q1, .int .i64 q2] 25 (0, 0))) from (bw8.block _ (lt_of_block Q_w7.out)).trans Q_w7.out)
         have Rx_w8 := (show Hid (w8.ownsRow w3a.heap.size 9 1 (.slice xa xn xc) d.safe.length (strCells d.safe) ∧ w8.ownsRow w3a.heap.size 76 2 (.slice xA xN xC) d.late.length (putCells d.late)) from ⟨ownsRow_below Rx_w7.out.1 bw8, ownsRow_below Rx_w7.out.2 bw8⟩)
         have X_w8 := (show Hid (w8.heap[w4.heap.size]? = some (.cells #[.slice xa xn xc, .slice xA xN xC] 34 (0, 0))) from (bw8.block _ (lt_of_block X_w7.out)).trans X_w7.out)
         have G_w8 := (show Hid (w8.heap[w5.heap.size]? = some (.cells #[.int .i64 q0, .int .i64 q1, .int .i64 q2] 25 (0, 0))) from (bw8.block _ (lt_of_block G_w7.out)).trans G_w7.out)
         have Ry_w8 := (show Hid (w8.ownsRow w6.drew.heap.size 9 1 (.slice ya yn yc) d.safe.length (strCells d.safe) ∧ w8.ownsRow w6.drew.heap.size 76 2 (.slice yA yN yC) d.late.length (putCells d.late)) from ⟨ownsRow_below Ry_w7.out.1 bw8, ownsRow_below Ry_w7.out.2 bw8⟩)
         clear B_w7 V_w7 Rt_w7 Q_w7 Rx_w7 X_w7 G_w7 Ry_w7 cV1 cV2 cQ1 cQ2 cQ3 cX1 cX2 cG1 cG2 cG3 bw8
         obtain ⟨cV1, cV2, _, _⟩ := rk_two V_w8.out
         obtain ⟨cQ1, cQ2, cQ3, _⟩ := rk_three Q_w8.out
         obtain ⟨cX1, cX2, _, _⟩ := rk_two X_w8.out
         obtain ⟨cG1, cG2, cG3, _⟩ := rk_three G_w8.out))
    all_goals go_wp2
    all_goals go_ret
    all_goals exact ⟨rfl, B0.out.trans (B_w8.out.mono B0.out.size)⟩
end Go.Proofs.YtiejfnnokfedkaaDoor
