import Derived.Test.YtiejfnnokfedkaaB11
import Derived.RangeFuncRecord
import Derived.Test.YtiejfnnokfedkaaB16
import Derived.Test.YtiejfnnokfedkaaB18
import Derived.Test.YtiejfnnokfedkaaB12
import Derived.Test.YtiejfnnokfedkaaB17
/- Blocks that a walk holds, by a list. No condition. -/
namespace Go.Proofs.Ytiejfnnokfedkaa
open Go.RowKit
set_option maxRecDepth 100000
set_option linter.unusedVariables false

/-- The world W is w with more, and the listed blocks hold these cells. -/
structure Hl (w : World) (L : List (Nat × Array Value × TypeId)) (W : World) : Prop where
  bel : Below w.heap.size w W
  blk : ∀ p ∈ L, W.heap[p.1]? = some (.cells p.2.1 p.2.2 (0, 0))
theorem Hl.at {w W : World} {L : List (Nat × Array Value × TypeId)} (h : Hl w L W) {b : Nat} {cs : Array Value} {t : TypeId} (hm : (b, cs, t) ∈ L) : W.heap[b]? = some (.cells cs t (0, 0)) := h.2 _ hm
theorem Hl.at0 {w W : World} {L : List (Nat × Array Value × TypeId)} {b : Nat} {cs : Array Value} {t : TypeId} (h : Hl w ((b, cs, t) :: L) W) : W.heap[b]? = some (.cells cs t (0, 0)) := h.2 _ (List.mem_cons_self ..)
theorem Hl.at1 {w W : World} {L : List (Nat × Array Value × TypeId)} {p : Nat × Array Value × TypeId} {b : Nat} {cs : Array Value} {t : TypeId} (h : Hl w (p :: (b, cs, t) :: L) W) : W.heap[b]? = some (.cells cs t (0, 0)) := h.2 _ (List.mem_cons_of_mem _ (List.mem_cons_self ..))
theorem Hl.at2 {w W : World} {L : List (Nat × Array Value × TypeId)} {p q : Nat × Array Value × TypeId} {b : Nat} {cs : Array Value} {t : TypeId} (h : Hl w (p :: q :: (b, cs, t) :: L) W) : W.heap[b]? = some (.cells cs t (0, 0)) := h.2 _ (List.mem_cons_of_mem _ (List.mem_cons_of_mem _ (List.mem_cons_self ..)))
theorem Hl.at3 {w W : World} {L : List (Nat × Array Value × TypeId)} {p q r : Nat × Array Value × TypeId} {b : Nat} {cs : Array Value} {t : TypeId} (h : Hl w (p :: q :: r :: (b, cs, t) :: L) W) : W.heap[b]? = some (.cells cs t (0, 0)) := h.2 _ (List.mem_cons_of_mem _ (List.mem_cons_of_mem _ (List.mem_cons_of_mem _ (List.mem_cons_self ..))))
theorem Hl.refl (w : World) : Hl w [] w := ⟨Below.refl _ _, fun p hp => absurd hp (by simp)⟩
theorem Hl.below {w W W' : World} {L : List (Nat × Array Value × TypeId)} (h : Hl w L W) (b : Below W.heap.size W W') : Hl w L W' := ⟨h.1.trans (b.mono h.1.size), fun p hp => (b.block _ (lt_of_block (h.2 p hp))).trans (h.2 p hp)⟩
theorem Hl.new {w W : World} {L : List (Nat × Array Value × TypeId)} (h : Hl w L W) (cs : Array Value) (t : TypeId) : Hl w ((W.heap.size, cs, t) :: L) (W.alloc (.cells cs t)) := by
  have hb : Below W.heap.size W (W.alloc (.cells cs t)) := (Below.refl _ _).alloc (Nat.le_refl _) _
  refine ⟨(h.below hb).1, fun p hp => ?_⟩
  rcases List.mem_cons.mp hp with rfl | hp
  · exact World.alloc_heap_new _ _
  · exact (h.below hb).2 p hp
theorem Hl.tail {w W : World} {p : Nat × Array Value × TypeId} {L : List (Nat × Array Value × TypeId)} (h : Hl w (p :: L) W) : Hl w L W := ⟨h.1, fun q hq => h.2 q (List.mem_cons_of_mem _ hq)⟩
theorem Hl.lt {w W : World} {L : List (Nat × Array Value × TypeId)} (h : Hl w L W) {p : Nat × Array Value × TypeId} (hm : p ∈ L) : p.1 < W.heap.size := lt_of_block (h.2 p hm)
/-- A cell of the first block is set. -/
theorem Hl.set {w W : World} {L : List (Nat × Array Value × TypeId)} {N : Nat} {cs : Array Value} {t : TypeId} (h : Hl w ((N, cs, t) :: L) W) (hN : w.heap.size ≤ N) (hL : ∀ p ∈ L, p.1 ≠ N) (k : Nat) (u : Value) : Hl w ((N, cs.setIfInBounds k u, t) :: L) (W.setCell ⟨N, k, none⟩ u) := by
  refine ⟨h.1.setCell (p := ⟨N, k, none⟩) hN _, fun p hp => ?_⟩
  rcases List.mem_cons.mp hp with rfl | hp
  · exact rk_at h.at0
  · have hg := grown_setCell W N k u
    have hp' := h.2 p (List.mem_cons_of_mem _ hp)
    exact (hg.block p.1 (lt_of_block hp') (fun e => hL p hp (Option.some.inj e))).trans hp'
theorem Hl.set2 {w W : World} {L : List (Nat × Array Value × TypeId)} {N : Nat} {x y : Value} {t : TypeId} (h : Hl w ((N, #[x, y], t) :: L) W) (hN : w.heap.size ≤ N) (hL : ∀ p ∈ L, p.1 ≠ N) (a b : Value) : Hl w ((N, #[a, b], t) :: L) ((W.setCell ⟨N, 0, none⟩ a).setCell ⟨N, 1, none⟩ b) := (h.set hN hL 0 a).set hN hL 1 b
theorem Hl.set3 {w W : World} {L : List (Nat × Array Value × TypeId)} {N : Nat} {x y z : Value} {t : TypeId} (h : Hl w ((N, #[x, y, z], t) :: L) W) (hN : w.heap.size ≤ N) (hL : ∀ p ∈ L, p.1 ≠ N) (a b c : Value) : Hl w ((N, #[a, b, c], t) :: L) (((W.setCell ⟨N, 0, none⟩ a).setCell ⟨N, 1, none⟩ b).setCell ⟨N, 2, none⟩ c) := ((h.set hN hL 0 a).set hN hL 1 b).set hN hL 2 c
theorem Hl.swap {w W : World} {p q : Nat × Array Value × TypeId} {L : List (Nat × Array Value × TypeId)} (h : Hl w (p :: q :: L) W) : Hl w (q :: p :: L) W := ⟨h.1, fun r hr => h.2 r (by simp only [List.mem_cons] at hr ⊢; rcases hr with hr | hr | hr <;> simp [hr])⟩
theorem Hl.past {w W W' : World} {L : List (Nat × Array Value × TypeId)} (h : Hl w L W) {row : Option Nat} (g : W.grownBy W' row) (hr : ∀ r, row = some r → w.heap.size ≤ r ∧ ∀ p ∈ L, p.1 ≠ r) : Hl w L W' := ⟨h.1.grown g h.1.size (fun r e => (hr r e).1), fun p hp => (g.block _ (lt_of_block (h.2 p hp)) (fun e => by
    subst e; exact (hr p.1 rfl).2 p hp rfl)).trans (h.2 p hp)⟩
theorem Hl.sub {w W : World} {L L' : List (Nat × Array Value × TypeId)} (h : Hl w L W) (hs : ∀ p ∈ L', p ∈ L) : Hl w L' W := ⟨h.1, fun p hp => h.2 p (hs p hp)⟩
end Go.Proofs.Ytiejfnnokfedkaa

/- The specification's HeadNow. No condition. -/
namespace Go.Proofs.Ytiejfnnokfedkaa
open Go.RowKit
set_option maxRecDepth 100000
set_option linter.unusedVariables false

/-- Which head counts. -/
def nowDk (d : PDisk) : PHead := if diskB d = false then zeroH else if (readDk (sectorD d 0)).1.no < (readDk (sectorD d 1)).1.no then (readDk (sectorD d 1)).1 else (readDk (sectorD d 0)).1
theorem sector_size {d : PDisk} (h : diskB d = true) {x : Int} (hx : 0 ≤ x ∧ x ≤ 129) : (sectorD d x).size = 64 := by
  have hl := diskB_len h
  have hp : ∀ ps : List (Int × ByteArray), (∀ p ∈ ps, p.2.size = 64) → ∀ s, putAt x ps = some s → s.size = 64 := by
    intro ps
    induction ps with
    | nil => intro _ s e; simp [putAt] at e
    | cons q ps ih =>
      intro hq s e
      rw [putAt] at e
      split at e
      · rename_i s' e'
        simp only [Option.some.injEq] at e
        subst e
        exact ih (fun p hp => hq p (List.mem_cons_of_mem _ hp)) _ e'
      · split at e
        · simp only [Option.some.injEq] at e
          subst e
          exact hq q (List.mem_cons_self ..)
        · cases e
  unfold sectorD
  cases e : putAt x d.late with
  | some s => exact hp d.late (fun p hpm => by obtain ⟨k, hk, rfl⟩ := List.getElem_of_mem hpm; exact (diskB_late h hk).2.2) s e
  | none =>
    have hk : x.toNat < d.safe.length := by omega
    simp only [Option.getD_none, List.getD_eq_getElem?_getD, List.getElem?_eq_getElem hk, Option.getD_some]
    exact diskB_safe h hk

end Go.Proofs.Ytiejfnnokfedkaa

/- The laws' helpers on heads. No condition. -/
namespace Go.Proofs.Ytiejfnnokfedkaa
open Go.RowKit
set_option maxRecDepth 100000
set_option linter.unusedVariables false

set_option maxRecDepth 100000 in
theorem toHead_any (h : PHead) (w : World) : Calls Try.prog 8 #[headV h] w fun e w' => e = .returned (headV h) ∧ Below w.heap.size w w' := by
  obtain ⟨no, ar, en⟩ := h
  show Calls Try.prog 8 #[.agg #[.int .i64 no, .int .i64 ar, .int .i64 en]] w _
  have h1 := (((Hl.refl w).new #[.int .i64 no, .int .i64 ar, .int .i64 en] 23).new #[.int .i64 no, .int .i64 ar, .int .i64 en] 26).new #[.int .i64 no, .int .i64 ar, .int .i64 en] 26
  rw [World.size_alloc, World.size_alloc] at h1
  have H1 := (show Hid _ from h1)
  clear h1
  go_enter Try.func8, Try.ntmps8
  go_wp2
  refine bodyPost_ret (results_cell_row rfl _ _ (w.heap.size + 1) 26 #[.int .i64 no, .int .i64 ar, .int .i64 en] (0, 0) _ rfl H1.out.at1 Try.underlying26 rfl rfl) rfl ?_
  exact ⟨rfl, H1.out.1⟩
/-- What the program must keep. -/
def HeadPackOk : Prop := ∀ (h : PHead) (w : World), (Lit.int .i64 h.no).wf = true → (Lit.int .i64 h.area).wf = true → (Lit.int .i64 h.en).wf = true → Calls Try.prog 9 #[headV h] w fun e w' => e = .returned (.tuple #[.string (packDk h).1, .bool (packDk h).2]) ∧ Below w.heap.size w w'
set_option maxRecDepth 100000 in
theorem fnExactHeadPack_of (H : HeadPackOk) (h : PHead) (w : World) (x1 : (Lit.int .i64 h.no).wf = true) (x2 : (Lit.int .i64 h.area).wf = true) (x3 : (Lit.int .i64 h.en).wf = true) :
    Calls Try.prog 3 #[headV h] w fun e w' => e = .returned (.bool true) ∧ Below w.heap.size w w' := by
  have CI := (show Hid (∀ W, Calls Try.prog 9 #[headV h] W fun e w' => e = .returned (.tuple #[.string (packDk h).1, .bool (packDk h).2]) ∧ Below W.heap.size W w') from fun W => H h W x1 x2 x3)
  have CS := (show Hid (∀ W, Calls Try.prog 7 #[headV h] W fun e w' => e = .returned (.tuple #[.string (packDk h).1, .bool (packDk h).2]) ∧ Below W.heap.size W w') from fun W => sheadPack_any h W)
  have CT := (show Hid _ from toHead_any h)
  obtain ⟨⟨ps, pb⟩, hp⟩ : ∃ p, p = packDk h := ⟨_, rfl⟩
  rw [← hp] at CI CS
  simp only at CI CS
  have e1 : (pb != pb) = false := by cases pb <;> rfl
  obtain ⟨a, b, c⟩ := h
  have h1 := (show Hid _ from (Hl.refl w).new #[.int .i64 a, .int .i64 b, .int .i64 c] 23)
  obtain ⟨w1, hw1⟩ : ∃ y, y = w.alloc (.cells #[.int .i64 a, .int .i64 b, .int .i64 c] 23) := ⟨_, rfl⟩
  rw [← hw1] at h1
  clear hp H x1 x2 x3
  show Calls Try.prog 3 #[.agg #[.int .i64 a, .int .i64 b, .int .i64 c]] w _
  unfold headV at CI CS CT
  simp only at CI CS CT
  go_enter Try.func3, Try.ntmps3
  go_wp2_with fail
  go_at_call 8
  rw [← hw1]
  refine Calls.mono (CT.out w1) ?_
  rintro e w2 ⟨rfl, b2⟩
  have h2 := (show Hid _ from h1.out.below b2)
  clear hw1 h1 b2
  go_wp2_with fail
  go_at_call 7
  refine Calls.mono (CS.out w2) ?_
  rintro e w3 ⟨rfl, b3⟩
  have h3 := (show Hid _ from h2.out.below b3)
  clear h2 b3 CS
  obtain ⟨c1, c2, c3, _⟩ := rk_three h3.out.at0
  go_wp2_with fail
  go_at_call 8
  refine Calls.mono (CT.out w3) ?_
  rintro e w4 ⟨rfl, b4⟩
  have h4 := (show Hid _ from h3.out.below b4)
  clear h3 b4 c1 c2 c3
  go_wp2_with fail
  go_at_call 9
  refine Calls.mono (CI.out w4) ?_
  rintro e w5 ⟨rfl, b5⟩
  have h5 := (show Hid _ from h4.out.below b5)
  clear h4 b5 CI CT
  go_wp2
  go_ret
  exact ⟨rfl, h5.out.1⟩

end Go.Proofs.Ytiejfnnokfedkaa

/- The specification's HeadPut. No condition. -/
namespace Go.Proofs.Ytiejfnnokfedkaa
open Go.RowKit
set_option maxRecDepth 100000
set_option linter.unusedVariables false

/-- A disk with a head put. -/
def headPutDk (d : PDisk) (h : PHead) : PDisk × Bool := if diskB d = false then (zeroDk, false) else if headB h = false then (d, false) else putDk d (h.no % 2) (packS h)
theorem OwnDk.based {B B' : Nat} {w : World} {v : Value} {d : PDisk} (h : OwnDk B w v d) (hB : B' ≤ B) : OwnDk B' w v d := by
  obtain ⟨sa, sn, sc, la, ln, lc, e, h1, h2⟩ := h
  exact ⟨sa, sn, sc, la, ln, lc, e, rk_base h1 hB, rk_base h2 hB⟩
theorem OwnDk.setD {B b k : Nat} {w : World} {v u : Value} {d : PDisk} (h : OwnDk B w v d) {cs : Array Value} {fr : Nat × Nat} (hb : w.heap[b]? = some (.cells cs 36 fr)) : OwnDk B (w.setCell ⟨b, k, none⟩ u) v d := by
  obtain ⟨sa, sn, sc, la, ln, lc, e, h1, h2⟩ := h
  exact ⟨sa, sn, sc, la, ln, lc, e, rk_set h1 hb (by decide), rk_set h2 hb (by decide)⟩
/-- A disk of the call's own is laid into the result's block. -/
theorem OwnDk.laid {w W : World} {L : List (Nat × Array Value × TypeId)} {N : Nat} {x y a b : Value} {d : PDisk} (h : Hl w ((N, #[x, y], 36) :: L) W) (hN : w.heap.size ≤ N) (hL : ∀ p ∈ L, p.1 ≠ N) (o : OwnDk w.heap.size W (.agg #[a, b]) d) :
    OwnDk w.heap.size ((W.setCell ⟨N, 0, none⟩ a).setCell ⟨N, 1, none⟩ b) (.agg #[a, b]) d ∧ Below w.heap.size w ((W.setCell ⟨N, 0, none⟩ a).setCell ⟨N, 1, none⟩ b) ∧ ((W.setCell ⟨N, 0, none⟩ a).setCell ⟨N, 1, none⟩ b).heap[N]? = some (.cells #[a, b] 36 (0, 0)) :=
  ⟨(o.setD h.at0).setD (h.set hN hL 0 a).at0, (h.set2 hN hL a b).1, (h.set2 hN hL a b).at0⟩

set_option maxHeartbeats 1000000 in
set_option maxRecDepth 100000 in
theorem sheadPut_any {w : World} {v : Value} {d : PDisk} (h : DiskAt w v d) (hf : DiskFit d) (hd : PHead) :
    Calls Try.prog 11 #[v, headV hd] w fun e w' => ∃ v', e = .returned (.tuple #[v', .bool (headPutDk d hd).2]) ∧ OwnDk w.heap.size w' v' (headPutDk d hd).1 ∧ Below w.heap.size w w' := by
  have HD := (show Hid (DiskAt w v d) from h)
  have HF := (show Hid (DiskFit d) from hf)
  obtain ⟨sa, sn, sc, la, ln, lc, rfl, _, _⟩ := h
  obtain ⟨no, ar, en⟩ := hd
  obtain ⟨⟨qd, qb⟩, hq⟩ : ∃ q, q = headPutDk d ⟨no, ar, en⟩ := ⟨_, rfl⟩
  have HQ := (show Hid (_ = _) from hq)
  rw [← hq]
  simp only
  clear hq
  show Calls Try.prog 11 #[.agg #[.slice sa sn sc, .slice la ln lc], .agg #[.int .i64 no, .int .i64 ar, .int .i64 en]] w _
  obtain ⟨w1, hw1⟩ : ∃ y, y = ((w.alloc (.cells #[.slice sa sn sc, .slice la ln lc] 36)).alloc (.cells #[.int .i64 no, .int .i64 ar, .int .i64 en] 26)).alloc (.cells #[.slice none 0 0, .slice none 0 0] 36) := ⟨_, rfl⟩
  have h1 : Hl w [(w.heap.size + 1 + 1, #[.slice none 0 0, .slice none 0 0], 36), (w.heap.size + 1, #[.int .i64 no, .int .i64 ar, .int .i64 en], 26), (w.heap.size, #[.slice sa sn sc, .slice la ln lc], 36)] w1 := by
    have := (((Hl.refl w).new #[.slice sa sn sc, .slice la ln lc] 36).new #[.int .i64 no, .int .i64 ar, .int .i64 en] 26).new #[.slice none 0 0, .slice none 0 0] 36
    rw [World.size_alloc, World.size_alloc] at this
    rw [hw1]; exact this
  have H1 := (show Hid _ from h1)
  clear h1 hf
  go_enter Try.func11, Try.ntmps11
  go_wp2_with fail
  go_at_call 33
  rw [← hw1]
  refine (sdiskOk_any (HD.out.below H1.out.1) HF.out).mono ?_
  rintro e w2 ⟨rfl, b2⟩
  clear hw1
  have H2 := (show Hid _ from H1.out.below b2)
  obtain ⟨r1, r2, r3, r4⟩ := rk_two H2.out.at0
  obtain ⟨c1, c2, c3, _⟩ := rk_three H2.out.at1
  obtain ⟨q1, q2, _, _⟩ := rk_two H2.out.at2
  clear H1 b2
  cases hb : diskB d
  · have HR : Hid ((qd, qb) = (zeroDk, false)) := (show _ = _ by rw [HQ.out, headPutDk, if_pos hb])
    cases HR.out
    clear hb HQ HR
    go_wp2
    have z := OwnDk.laid H2.out (by omega) (by simp; omega) (ownDk_nil _ _)
    refine bodyPost_ret (disk_res rfl rfl rfl z.2.2) rfl ?_
    exact ⟨_, rfl, z.1, z.2.1⟩
  · have HB := (show Hid (diskB d = true) from hb)
    clear hb
    have CP := sheadPack_any ⟨no, ar, en⟩
    obtain ⟨⟨ps, pb⟩, hp⟩ : ∃ q, q = packDk ⟨no, ar, en⟩ := ⟨_, rfl⟩
    rw [← hp] at CP
    simp only at CP
    have CQ := (show Hid (∀ W, Calls Try.prog 7 #[.agg #[.int .i64 no, .int .i64 ar, .int .i64 en]] W fun e w' => e = .returned (.tuple #[.string ps, .bool pb]) ∧ Below W.heap.size W w') from CP)
    have HP := (show Hid (_ = _) from hp)
    clear CP hp
    go_wp2_with fail
    go_at_call 7
    refine (CQ.out _).mono ?_
    rintro e w3 ⟨rfl, b3⟩
    have H3 := (show Hid _ from H2.out.below b3)
    clear H2 b3 CQ r1 r2 r3 r4 c1 c2 c3 q1 q2
    obtain ⟨c1, c2, c3, _⟩ := rk_three H3.out.at1
    obtain ⟨q1, q2, _, _⟩ := rk_two H3.out.at2
    cases hh : headB ⟨no, ar, en⟩
    · have e1 := HP.out
      rw [packDk, if_neg (by rw [hh]; simp)] at e1
      cases e1
      have HR : Hid ((qd, qb) = (d, false)) := (show _ = _ by rw [HQ.out, headPutDk, if_neg (by rw [HB.out]; simp), if_pos hh])
      cases HR.out
      have CC := (show Hid _ from sl15Copy_any (HD.out.below H3.out.1) HF.out)
      clear HP hh HQ HR
      go_wp2_with fail
      go_at_call 34
      refine Calls.mono CC.out ?_
      rintro e w4 ⟨v4, rfl, o4, b4⟩
      have H4 := (show Hid _ from H3.out.below b4)
      have O4 := (show Hid (OwnDk w.heap.size w4 v4 d) from o4.based H3.out.1.size)
      clear CC o4 b4 H3 c1 c2 c3 q1 q2
      obtain ⟨r1, r2, r3, r4⟩ := rk_two H4.out.at0
      obtain ⟨ta, tn, tc, ma, mn, mc, e4, _⟩ := O4.out
      subst e4
      go_wp2
      have z := OwnDk.laid H4.out (by omega) (by simp; omega) O4.out
      refine bodyPost_ret (disk_res rfl rfl rfl z.2.2) rfl ?_
      exact ⟨_, rfl, z.1, z.2.1⟩
    · have e1 := HP.out
      rw [packDk, if_pos hh] at e1
      cases e1
      have hin := headB_in hh
      simp only at hin
      obtain ⟨hn1, hn2, _⟩ := hin
      have HR : Hid ((qd, qb) = putDk d (no % 2) (packS ⟨no, ar, en⟩)) := (show _ = _ by rw [HQ.out, headPutDk, if_neg (by rw [HB.out]; simp), if_neg (by rw [hh]; simp)])
      have CC := sdiskPut_any (HD.out.below H3.out.1) HF.out (no % 2) (packS ⟨no, ar, en⟩) (by rw [packS_size]; omega)
      rw [← HR.out] at CC
      simp only at CC
      have CD := (show Hid _ from CC)
      obtain ⟨p, hp⟩ : ∃ p, p = packS ⟨no, ar, en⟩ := ⟨_, rfl⟩
      rw [← hp] at CD
      rw [← hp]
      have hm : no.tmod 2 = no % 2 := Int.tmod_eq_emod_of_nonneg (by omega)
      clear HP hh HQ HR CC hp
      go_wp2_with fail
      go_at_call 35
      refine Calls.mono CD.out ?_
      rintro e w4 ⟨v4, rfl, o4, b4⟩
      have H4 := (show Hid _ from H3.out.below b4)
      have O4 := (show Hid (OwnDk w.heap.size w4 v4 qd) from o4.based H3.out.1.size)
      clear CD o4 b4 H3 c1 c2 c3 q1 q2 hm
      obtain ⟨r1, r2, r3, r4⟩ := rk_two H4.out.at0
      obtain ⟨ta, tn, tc, ma, mn, mc, e4, _⟩ := O4.out
      subst e4
      go_wp2
      have z := OwnDk.laid H4.out (by omega) (by simp; omega) O4.out
      refine bodyPost_ret (disk_res rfl rfl rfl z.2.2) rfl ?_
      exact ⟨_, rfl, z.1, z.2.1⟩
end Go.Proofs.Ytiejfnnokfedkaa

/- Contracts of the laws' marks of a disk. No condition. -/
namespace Go.Proofs.Ytiejfnnokfedkaa
open Go.RowKit
set_option maxRecDepth 100000
set_option linter.unusedVariables false

/-- The marks that are laid over a list of texts, from k on. -/
def markStrs (k : Int) (n : Nat) : List ByteArray := (List.range n).map fun i : Nat => mt (k + (i : Int))
theorem markStrs_len (k : Int) (n : Nat) : (markStrs k n).length = n := by simp [markStrs]
theorem markStrs_at (k : Int) (n i : Nat) (h : i < (markStrs k n).length) : (markStrs k n)[i] = mt (k + (i : Int)) := by simp [markStrs]
theorem markStrs_succ (k : Int) (rs : List ByteArray) (i : Nat) (h : i < rs.length) : (markStrs k i ++ rs.drop i).set i (mt (k + (i : Int))) = markStrs k (i + 1) ++ rs.drop (i + 1) := by
  rw [List.set_append_right _ _ (by rw [markStrs_len]; exact Nat.le_refl _), markStrs_len, Nat.sub_self, List.drop_eq_getElem_cons h, List.set_cons_zero]
  simp [markStrs, List.range_succ]
/-- The marks that are laid over a list of puts, from k on. -/
def markPuts (k : Int) (n : Nat) : List (Int × ByteArray) := (List.range n).map fun i : Nat => (k + 2 * (i : Int), mt (k + 2 * (i : Int) + 1))
theorem markPuts_len (k : Int) (n : Nat) : (markPuts k n).length = n := by simp [markPuts]
theorem markPuts_at (k : Int) (n i : Nat) (h : i < (markPuts k n).length) : (markPuts k n)[i] = (k + 2 * (i : Int), mt (k + 2 * (i : Int) + 1)) := by simp [markPuts]
theorem markPuts_succ (k : Int) (rs : List (Int × ByteArray)) (i : Nat) (h : i < rs.length) :
    (markPuts k i ++ rs.drop i).set i (k + 2 * (i : Int), mt (k + 2 * (i : Int) + 1)) = markPuts k (i + 1) ++ rs.drop (i + 1) := by
  rw [List.set_append_right _ _ (by rw [markPuts_len]; exact Nat.le_refl _), markPuts_len, Nat.sub_self, List.drop_eq_getElem_cons h, List.set_cons_zero]
  simp [markPuts, List.range_succ]

set_option maxHeartbeats 2000000 in
set_option maxRecDepth 100000 in
theorem markStringS_any {B : Nat} {v : Value} {rs : List ByteArray} {w : World} (h : w.ownsRow B 9 1 v rs.length (strCells rs)) (k0 : Int) (h0 : 0 ≤ k0) (hk : k0 ≤ 4000000) (hn : rs.length ≤ 4000000) :
    Calls Try.prog 41 #[v, .int .i64 k0] w fun e w' => e = .returned (.int .i64 (k0 + rs.length)) ∧ w'.ownsRow B 9 1 v rs.length (strCells (markStrs k0 rs.length)) ∧ w.grownBy w' v.ownBlock := by
  have h' := h
  obtain ⟨hl, ⟨hv, hz⟩ | ⟨g, cap, cur, hv, hB, hh, hn', hm, hz, ht⟩⟩ := h'
  · subst hv
    have hr : rs = [] := List.length_eq_zero_iff.mp hz
    subst hr
    go_enter Try.func41, Try.ntmps41
    go_wp2
    go_loop [1, 5] (fun q i => i = .int .i64 0 ∧ q = .int .i64 k0) (fun _ _ => 0)
    case atStart => exact ⟨rfl, rfl⟩
    case round =>
      obtain ⟨rfl, rfl⟩ := hrel
      go_wp2
      go_ret
      exact ⟨ret_int (by simp), h, World.grownBy.refl _ _⟩
  · subst hv
    clear hh ht hz hl
    go_enter Try.func41, Try.ntmps41
    go_wp2
    go_loopw [1, 5] (fun q i wr => ∃ k : Nat, k ≤ rs.length ∧ i = .int .i64 k ∧ q = .int .i64 (k0 + k) ∧ wr.ownsRow B 9 1 (.slice (some ⟨g, 0, none⟩) rs.length cap) rs.length (strCells (markStrs k0 k ++ rs.drop k)) ∧ w.grownBy wr (some g)) (fun _ i _ => rs.length - (intOf i).toNat)
    case atStart => exact ⟨0, Nat.zero_le _, rfl, by go_num, h, World.grownBy.refl _ _⟩
    case round =>
      clear h
      obtain ⟨k, hk', rfl, rfl, hown, hgr⟩ := hrel
      by_cases hlt : k < rs.length
      · have HO := (show Hid _ from hown)
        have HG := (show Hid _ from hgr)
        clear hown hgr
        go_wp2_with fail
        go_at_call 62
        refine (markText_any _ _ (by omega)).mono ?_
        rintro e w2 ⟨rfl, b2⟩
        have hlen : (markStrs k0 k ++ rs.drop k).length = rs.length := by simp [markStrs_len]; omega
        have o2 := ownsRow_below HO.out b2
        have hl2 := strCells_len (markStrs k0 k ++ rs.drop k)
        obtain ⟨z1, hc1⟩ : ∃ z, w2.cell? ⟨g, k, none⟩ = some z := by
          rw [o2.cellAt k (by omega)]; exact ⟨_, List.getElem?_eq_getElem (by omega)⟩
        have f1 := o2.frozenAt k
        have s1 := o2.stored k (.string (mt (k0 + k)))
        rw [strCells_set, markStrs_succ k0 rs k hlt] at s1
        have S1 := (show Hid _ from s1)
        clear s1 o2
        go_wp2
        go_roundw
        case rel => exact ⟨k + 1, by omega, by go_num, by go_num, S1.out.1, grown_trans (grown_below HG.out b2) S1.out.2⟩
        case measure => simp [intOf]; omega
      · go_wp2
        go_ret
        have hke : k = rs.length := by omega
        rw [hke, List.drop_length, List.append_nil] at hown
        exact ⟨ret_int (by rw [hke]), hown, hgr⟩

set_option maxHeartbeats 2000000 in
set_option maxRecDepth 100000 in
theorem heldStringS_any {v : Value} {n : Nat} {w : World} (k0 : Int) (h : Sv 1 w v (strCells (markStrs k0 n))) (h0 : 0 ≤ k0) (hk : k0 ≤ 4000000) (hn : n ≤ 4000000) :
    Calls Try.prog 43 #[v, .int .i64 k0] w fun e w' => e = .returned (.int .i64 (k0 + n)) ∧ Below w.heap.size w w' := by
  obtain ⟨a, ca, rfl, _, _, hca⟩ := h.str
  have hlen := markStrs_len k0 n
  rw [hlen]
  go_enter Try.func43, Try.ntmps43
  go_wp2
  go_loopw [1, 5] (fun q i wr => ∃ k : Nat, k ≤ n ∧ i = .int .i64 k ∧ q = .int .i64 (k0 + k) ∧ Below w.heap.size w wr) (fun _ i _ => n - (intOf i).toNat)
  case atStart => exact ⟨0, Nat.zero_le _, rfl, by go_num, Below.refl _ _⟩
  case round =>
    obtain ⟨k, hk', rfl, rfl, bel⟩ := hrel
    by_cases hlt : k < n
    · obtain ⟨b1, o1, rfl, l1, c1⟩ := hca k (by omega)
      rw [markStrs_at] at c1
      have g1 : ∀ m : Wd w.heap.size w, m.w.cell? ⟨b1, o1 + k, none⟩ = some (.string (mt (k0 + k))) := fun m => (m.below.cell (p := ⟨b1, o1 + k, none⟩) l1).trans c1
      have CC := (show Hid (∀ w, Calls Try.prog 62 #[.int .i64 (k0 + k)] w fun e w' => e = .returned (.string (mt (k0 + k))) ∧ Below w.heap.size w w') from fun w => markText_any _ _ (by omega))
      have ne := Wd.any w.heap.size w
      clear c1 hca
      go_wp2
      refine wp_region_below (by kernel_rfl) (by kernel_rfl) bel ?_
      repeat (go_big_quiet_step ((go_at_call 62; exact quiet_below (CC.out _) (Nat.le_refl _))))
      refine wpQuiet_nil ?_
      intro wq hq
      replace hq := Wd.of hq
      clear g1
      go_wp2
      go_roundw
      case rel => exact ⟨k + 1, by omega, by go_num, by go_num, hq⟩
      case measure => simp [intOf]; omega
    · have hke : k = n := by omega
      go_wp2
      go_ret
      exact ⟨ret_int (by rw [hke]), bel⟩

set_option maxHeartbeats 2000000 in
set_option maxRecDepth 100000 in
theorem markPutS_any {B : Nat} {v : Value} {rs : List (Int × ByteArray)} {w : World} (h : w.ownsRow B 80 2 v rs.length (putCells rs)) (k0 : Int) (h0 : 0 ≤ k0) (hk : k0 ≤ 4000000) (hn : rs.length ≤ 4000000) :
    Calls Try.prog 42 #[v, .int .i64 k0] w fun e w' => e = .returned (.int .i64 (k0 + 2 * rs.length)) ∧ w'.ownsRow B 80 2 v rs.length (putCells (markPuts k0 rs.length)) ∧ w.grownBy w' v.ownBlock := by
  have h' := h
  obtain ⟨hl, ⟨hv, hz⟩ | ⟨g, cap, cur, hv, hB, hh, hn', hm, hz, ht⟩⟩ := h'
  · subst hv
    have hr : rs = [] := List.length_eq_zero_iff.mp hz
    subst hr
    go_enter Try.func42, Try.ntmps42
    go_wp2
    go_loop [1, 5] (fun q i => i = .int .i64 0 ∧ q = .int .i64 k0) (fun _ _ => 0)
    case atStart => exact ⟨rfl, rfl⟩
    case round =>
      obtain ⟨rfl, rfl⟩ := hrel
      go_wp2
      go_ret
      exact ⟨ret_int (by simp), h, World.grownBy.refl _ _⟩
  · subst hv
    clear hh ht hz hl
    go_enter Try.func42, Try.ntmps42
    go_wp2
    go_loopw [1, 5] (fun q i wr => ∃ k : Nat, k ≤ rs.length ∧ i = .int .i64 k ∧ q = .int .i64 (k0 + 2 * k) ∧ wr.ownsRow B 80 2 (.slice (some ⟨g, 0, none⟩) rs.length cap) rs.length (putCells (markPuts k0 k ++ rs.drop k)) ∧ w.grownBy wr (some g)) (fun _ i _ => rs.length - (intOf i).toNat)
    case atStart => exact ⟨0, Nat.zero_le _, rfl, by go_num, h, World.grownBy.refl _ _⟩
    case round =>
      clear h
      obtain ⟨k, hk', rfl, rfl, hown, hgr⟩ := hrel
      by_cases hlt : k < rs.length
      · have hlen : (markPuts k0 k ++ rs.drop k).length = rs.length := by simp [markPuts_len]; omega
        have hl2 := putCells_len (markPuts k0 k ++ rs.drop k)
        obtain ⟨z1, hc1⟩ : ∃ z, wr.cell? ⟨g, k * 2, none⟩ = some z := by
          rw [hown.cellAt (k * 2) (by omega)]; exact ⟨_, List.getElem?_eq_getElem (by omega)⟩
        have f1 := hown.frozenAt (k * 2)
        have S1 := (show Hid _ from hown.stored (k * 2) (.int .i64 (k0 + 2 * k)))
        have HG := (show Hid _ from hgr)
        clear hown hgr
        go_wp2_with fail
        go_at_call 62
        refine (markText_any _ _ (by omega)).mono ?_
        rintro e w2 ⟨rfl, b2⟩
        have o2 := ownsRow_below S1.out.1 b2
        obtain ⟨z2, hc2⟩ : ∃ z, w2.cell? ⟨g, k * 2 + 1, none⟩ = some z := by
          rw [o2.cellAt (k * 2 + 1) (by omega)]; exact ⟨_, List.getElem?_eq_getElem (by rw [List.length_set]; omega)⟩
        have f2 := o2.frozenAt (k * 2 + 1)
        have s2 := o2.stored (k * 2 + 1) (.string (mt (k0 + 2 * k + 1)))
        rw [putCells_set _ _ _ _ (by omega), markPuts_succ k0 rs k hlt] at s2
        have S2 := (show Hid _ from s2)
        clear s2 o2
        go_wp2
        go_roundw
        case rel => exact ⟨k + 1, by omega, by go_num, by go_num, S2.out.1, grown_trans (grown_below (grown_trans HG.out S1.out.2) b2) S2.out.2⟩
        case measure => simp [intOf]; omega
      · go_wp2
        go_ret
        have hke : k = rs.length := by omega
        rw [hke, List.drop_length, List.append_nil] at hown
        exact ⟨ret_int (by rw [hke]), hown, hgr⟩

set_option maxHeartbeats 2000000 in
set_option maxRecDepth 100000 in
theorem heldPutS_any {v : Value} {n : Nat} {w : World} (k0 : Int) (h : Sv 2 w v (putCells (markPuts k0 n))) (h0 : 0 ≤ k0) (hk : k0 ≤ 4000000) (hn : n ≤ 4000000) :
    Calls Try.prog 44 #[v, .int .i64 k0] w fun e w' => e = .returned (.int .i64 (k0 + 2 * n)) ∧ Below w.heap.size w w' := by
  obtain ⟨a, ca, rfl, _, _, hca⟩ := h.put
  have hlen := markPuts_len k0 n
  rw [hlen]
  go_enter Try.func44, Try.ntmps44
  go_wp2
  go_loopw [1, 5] (fun q i wr => ∃ k : Nat, k ≤ n ∧ i = .int .i64 k ∧ q = .int .i64 (k0 + 2 * k) ∧ Below w.heap.size w wr) (fun _ i _ => n - (intOf i).toNat)
  case atStart => exact ⟨0, Nat.zero_le _, rfl, by go_num, Below.refl _ _⟩
  case round =>
    obtain ⟨k, hk', rfl, rfl, bel⟩ := hrel
    by_cases hlt : k < n
    · obtain ⟨b1, o1, rfl, l1, c1, c2⟩ := hca k (by omega)
      rw [markPuts_at] at c1 c2
      simp only at c1 c2
      have d1 : wr.cell? ⟨b1, o1 + k * 2, none⟩ = some (.int .i64 (k0 + 2 * k)) := (bel.cell (p := ⟨b1, o1 + k * 2, none⟩) l1).trans c1
      have g2 : ∀ m : Wd w.heap.size w, m.w.cell? ⟨b1, o1 + k * 2 + 1, none⟩ = some (.string (mt (k0 + 2 * k + 1))) := fun m => (m.below.cell (p := ⟨b1, o1 + k * 2 + 1, none⟩) l1).trans c2
      have CD := (show Hid (∀ w, Calls Try.prog 62 #[.int .i64 (k0 + 2 * k + 1)] w fun e w' => e = .returned (.string (mt (k0 + 2 * k + 1))) ∧ Below w.heap.size w w') from fun w => markText_any _ _ (by omega))
      have ne := Wd.any w.heap.size w
      clear c1 c2 hca
      go_wp2
      refine wp_region_below (by kernel_rfl) (by kernel_rfl) bel ?_
      repeat (go_big_quiet_step ((go_at_call 62; exact quiet_below (CD.out _) (Nat.le_refl _))))
      refine wpQuiet_nil ?_
      intro wq2 hq2
      replace hq2 := Wd.of hq2
      go_wp2
      go_roundw
      case rel => exact ⟨k + 1, by omega, by go_num, by go_num, hq2⟩
      case measure => simp [intOf]; omega
    · have hke : k = n := by omega
      go_wp2
      go_ret
      exact ⟨ret_int (by rw [hke]), bel⟩

/-- Nothing is turned but the two blocks. -/
structure TwoFr (r s : Option Nat) (w w' : World) : Prop where
  os : w'.os = w.os
  tape : w'.tape = w.tape
  output : w'.output = w.output
  size : w.heap.size ≤ w'.heap.size
  block : ∀ j, j < w.heap.size → some j ≠ r → some j ≠ s → w'.heap[j]? = w.heap[j]?
theorem TwoFr.below {r s : Option Nat} {B : Nat} {w w' : World} (h : TwoFr r s w w') (hB : B ≤ w.heap.size) (hr : ∀ j, r = some j → B ≤ j) (hs : ∀ j, s = some j → B ≤ j) : Below B w w' :=
  ⟨h.os, h.tape, h.output, h.size, fun j hj => h.block j (by omega) (fun e => by have := hr j e.symm; omega) (fun e => by have := hs j e.symm; omega)⟩
theorem TwoFr.row {r s : Option Nat} {B e size n : Nat} {w w' : World} {v : Value} {xs : List Value} (h : TwoFr r s w w') (ho : w.ownsRow B e size v n xs) (hr : ∀ j, v.ownBlock = some j → some j ≠ r) (hs : ∀ j, v.ownBlock = some j → some j ≠ s) : w'.ownsRow B e size v n xs := by
  obtain ⟨hl, hv | ⟨g, cap, cur, hv, hB, hh, k⟩⟩ := ho
  · exact ⟨hl, .inl hv⟩
  · have hg : v.ownBlock = some g := by rw [hv]; rfl
    exact ⟨hl, .inr ⟨g, cap, cur, hv, hB, by rw [h.block g (lt_of_block hh) (hr g hg) (hs g hg)]; exact hh, k⟩⟩

set_option maxHeartbeats 2000000 in
set_option maxRecDepth 100000 in
theorem markDisk_any {B : Nat} {d : PDisk} {w : World} {sa : Option Addr} {sn sc : Nat} {la : Option Addr} {ln lc : Nat} (h1 : w.ownsRow B 9 1 (.slice sa sn sc) d.safe.length (strCells d.safe)) (h2 : w.ownsRow B 80 2 (.slice la ln lc) d.late.length (putCells d.late)) (hf : DiskFit d) :
    Calls Try.prog 15 #[.agg #[.slice sa sn sc, .slice la ln lc], .int .i64 1] w fun e w' => e = .returned (.int .i64 (1 + d.safe.length + 2 * d.late.length)) ∧ w'.ownsRow B 9 1 (.slice sa sn sc) d.safe.length (strCells (markStrs 1 d.safe.length)) ∧ w'.ownsRow B 80 2 (.slice la ln lc) d.late.length (putCells (markPuts (1 + d.safe.length) d.late.length)) ∧
      TwoFr (Value.slice sa sn sc).ownBlock (Value.slice la ln lc).ownBlock w w' := by
  have f1 := hf.sl
  have f2 := hf.ll
  have H1 := (show Hid (w.ownsRow B 9 1 (.slice sa sn sc) d.safe.length (strCells d.safe)) from h1)
  have H2 := (show Hid (w.ownsRow B 80 2 (.slice la ln lc) d.late.length (putCells d.late)) from h2)
  clear h1 h2 hf
  obtain ⟨w1, hw1⟩ : ∃ x, x = w.alloc (.cells #[.slice sa sn sc, .slice la ln lc] 36) := ⟨_, rfl⟩
  have b1 : Below w.heap.size w w1 := by rw [hw1]; exact (Below.refl _ _).alloc (Nat.le_refl _) _
  have x1 : w1.heap[w.heap.size]? = some (.cells #[.slice sa sn sc, .slice la ln lc] 36 (0, 0)) := by rw [hw1]; exact World.alloc_heap_new _ _
  have X1 := (show Hid _ from x1)
  clear x1
  go_enter Try.func15, Try.ntmps15
  go_wp2_with fail
  go_at_call 41
  rw [← hw1]
  refine (markStringS_any (ownsRow_below H1.out b1) 1 (by decide) (by decide) (by omega)).mono ?_
  rintro x w2 ⟨rfl, o2, g2⟩
  clear hw1
  have hne : some w.heap.size ≠ (Value.slice sa sn sc).ownBlock := fun e => by
    have := (World.ownsRow.lt H1.out w.heap.size e.symm).2
    omega
  have y1 := (g2.block _ (lt_of_block X1.out) hne).trans X1.out
  obtain ⟨_, c2, _, _⟩ := rk_two y1
  have p2 : w2.ownsRow B 80 2 (.slice la ln lc) d.late.length (putCells d.late) := rk_type (ownsRow_below H2.out b1) g2 (fun r e => by
    rcases H1.out.2 with ⟨hv, _⟩ | ⟨g, cap, cur, hv, _, hh, _⟩
    · rw [hv] at e; cases e
    · rw [hv] at e; cases e
      exact ⟨_, _, _, (b1.block _ (lt_of_block hh)).trans hh, by decide⟩)
  have O2 := (show Hid (w2.ownsRow B 9 1 (.slice sa sn sc) d.safe.length (strCells (markStrs 1 d.safe.length))) from o2)
  have P2 := (show Hid (w2.ownsRow B 80 2 (.slice la ln lc) d.late.length (putCells d.late)) from p2)
  have G2 := (show Hid (w1.grownBy w2 (Value.slice sa sn sc).ownBlock) from g2)
  have B1 := (show Hid (Below w.heap.size w w1) from b1)
  clear o2 p2 g2 y1 b1 X1
  go_wp2_with fail
  go_at_call 42
  refine (markPutS_any P2.out (1 + d.safe.length) (by omega) (by omega) (by omega)).mono ?_
  rintro x w3 ⟨rfl, o3, g3⟩
  have p3 : w3.ownsRow B 9 1 (.slice sa sn sc) d.safe.length (strCells (markStrs 1 d.safe.length)) := rk_type O2.out g3 (fun r e => by
    rcases P2.out.2 with ⟨hv, _⟩ | ⟨g, cap, cur, hv, _, hh, _⟩
    · rw [hv] at e; cases e
    · rw [hv] at e; cases e
      exact ⟨_, _, _, hh, by decide⟩)
  have fr : TwoFr (Value.slice sa sn sc).ownBlock (Value.slice la ln lc).ownBlock w w3 := ⟨g3.os.trans (G2.out.os.trans B1.out.os), g3.tape.trans (G2.out.tape.trans B1.out.tape), g3.output.trans (G2.out.output.trans B1.out.output), Nat.le_trans B1.out.size (Nat.le_trans G2.out.size g3.size),
    fun j hj h1 h2 => (g3.block j (Nat.lt_of_lt_of_le hj (Nat.le_trans B1.out.size G2.out.size)) h2).trans ((G2.out.block j (Nat.lt_of_lt_of_le hj B1.out.size) h1).trans (B1.out.block j hj))⟩
  have O3 := (show Hid (w3.ownsRow B 80 2 (.slice la ln lc) d.late.length (putCells (markPuts (1 + d.safe.length) d.late.length))) from o3)
  have P3 := (show Hid (w3.ownsRow B 9 1 (.slice sa sn sc) d.safe.length (strCells (markStrs 1 d.safe.length))) from p3)
  have FR := (show Hid (TwoFr (Value.slice sa sn sc).ownBlock (Value.slice la ln lc).ownBlock w w3) from fr)
  clear o3 p3 fr g3
  go_wp2
  go_ret
  exact ⟨rfl, P3.out, O3.out, FR.out⟩

set_option maxHeartbeats 2000000 in
set_option maxRecDepth 100000 in
theorem heldDisk_any {n m : Nat} {w : World} {sa : Option Addr} {sn sc : Nat} {la : Option Addr} {ln lc : Nat} (h1 : Sv 1 w (.slice sa sn sc) (strCells (markStrs 1 n))) (h2 : Sv 2 w (.slice la ln lc) (putCells (markPuts (1 + n) m))) (hn : n ≤ 1048576) (hm : m ≤ 1048576) :
    Calls Try.prog 16 #[.agg #[.slice sa sn sc, .slice la ln lc], .int .i64 1] w fun e w' => e = .returned (.int .i64 (1 + n + 2 * m)) ∧ Below w.heap.size w w' := by
  have H1 := (show Hid (Sv 1 w (.slice sa sn sc) (strCells (markStrs 1 n))) from h1)
  have H2 := (show Hid (Sv 2 w (.slice la ln lc) (putCells (markPuts (1 + n) m))) from h2)
  clear h1 h2
  obtain ⟨w1, hw1⟩ : ∃ x, x = w.alloc (.cells #[.slice sa sn sc, .slice la ln lc] 36) := ⟨_, rfl⟩
  have b1 : Below w.heap.size w w1 := by rw [hw1]; exact (Below.refl _ _).alloc (Nat.le_refl _) _
  have x1 : w1.heap[w.heap.size]? = some (.cells #[.slice sa sn sc, .slice la ln lc] 36 (0, 0)) := by rw [hw1]; exact World.alloc_heap_new _ _
  have X1 := (show Hid _ from x1)
  clear x1
  go_enter Try.func16, Try.ntmps16
  go_wp2_with fail
  go_at_call 43
  rw [← hw1]
  refine (heldStringS_any 1 (H1.out.below b1) (by decide) (by decide) (by omega)).mono ?_
  rintro x w2 ⟨rfl, b2⟩
  clear hw1
  have y1 := (b2.block _ (lt_of_block X1.out)).trans X1.out
  obtain ⟨_, c2, _, _⟩ := rk_two y1
  have BB := (show Hid (Below w.heap.size w w2) from b1.trans (b2.mono b1.size))
  clear y1 b1 b2 X1
  go_wp2_with fail
  go_at_call 44
  refine (heldPutS_any (1 + n) (H2.out.below BB.out) (by omega) (by omega) (by omega)).mono ?_
  rintro x w3 ⟨rfl, b3⟩
  have B3 := (show Hid (Below w.heap.size w w3) from BB.out.trans (b3.mono BB.out.size))
  clear b3
  go_wp2
  go_ret
  exact ⟨rfl, B3.out⟩
end Go.Proofs.Ytiejfnnokfedkaa

/- The exact laws of chapter 15, from the program's contracts (written by mk/wdisk.py). -/
namespace Go.Proofs.Ytiejfnnokfedkaa
open Go.RowKit
set_option maxRecDepth 100000
set_option linter.unusedVariables false

/-- What the program must keep. -/
def DiskOkOk : Prop := ∀ (w : World) (v : Value) (d : PDisk), DiskAt w v d → DiskFit d → Calls Try.prog 48 #[v] w fun e w' => e = .returned (.bool (diskB d)) ∧ Below w.heap.size w w'
def SectorOfOk : Prop := ∀ (w : World) (v : Value) (d : PDisk) (x : Int), DiskAt w v d → DiskFit d → Calls Try.prog 52 #[v, .int .i64 x] w fun e w' => e = .returned (.tuple #[.string (sectorDk d x).1, .bool (sectorDk d x).2]) ∧ Below w.heap.size w w'
def DiskPutOk : Prop := ∀ (w : World) (v : Value) (d : PDisk) (x : Int) (s : ByteArray), DiskAt w v d → DiskFit d → s.size ≤ 1099511627776 → Calls Try.prog 38 #[v, .int .i64 x, .string s] w fun e w' => ∃ v', e = .returned (.tuple #[v', .bool (putDk d x s).2]) ∧ OwnDk w.heap.size w' v' (putDk d x s).1 ∧ Below w.heap.size w w'
theorem fit_zero : DiskFit zeroDk := ⟨by decide, by decide, (fun s hs => by cases hs), (fun p hp => by cases hp)⟩
theorem fit_new : DiskFit newDk := ⟨by decide, by decide, (fun s hs => by
  have : s = zeros64 := List.eq_of_mem_replicate hs
  rw [this, zeros64_size]; decide), (fun p hp => by cases hp)⟩
theorem fit_done {d : PDisk} (h : DiskFit d) (keep : Int) : DiskFit (doneDk keep d) := ⟨by show (doneN keep d.safe d.late d.late.length).length ≤ _; rw [doneN_len]; exact h.sl, Nat.zero_le _, doneN_size h.st h.lt _, (fun p hp => by cases hp)⟩
theorem fit_sync {d : PDisk} (h : DiskFit d) : DiskFit (syncDk d).1 := by
  unfold syncDk
  split
  · exact fit_zero
  · exact fit_done h _
theorem fit_crash {d : PDisk} (h : DiskFit d) (x : Int) : DiskFit (crashDk d x).1 := by
  unfold crashDk
  split
  · exact fit_zero
  · exact fit_done h _
theorem fit_put {d : PDisk} (h : DiskFit d) (x : Int) {s : ByteArray} (hs : s.size ≤ 1099511627776) : DiskFit (putDk d x s).1 := by
  unfold putDk
  split
  · exact fit_zero
  · rename_i hb
    split
    · exact h
    · have hl := diskB_len (d := d) (by simpa using hb)
      refine ⟨h.sl, ?_, h.st, fun p hp => ?_⟩
      · show (d.late ++ [(x, s)]).length ≤ _
        rw [List.length_append, List.length_singleton]; omega
      · rcases List.mem_append.mp hp with hp | hp
        · exact h.lt p hp
        · simp at hp; subst hp; exact hs
theorem same_dk (d : PDisk) : decide (d.safe = d.safe ∧ d.late = d.late) = true := by simp


theorem TwoFr.var {r s : Option Nat} {B size n B' size' n' e e' : Nat} {w w' : World} {v u : Value} {xs ys : List Value} (h : TwoFr r s w w') (o1 : w.ownsRow B e size v n xs) (o2 : w.ownsRow B' e' size' u n' ys) (h1 : v.ownBlock = r) (h2 : u.ownBlock = s)
    {j : Nat} {cs : Array Value} {t : TypeId} {fr : Nat × Nat} (hj : w.heap[j]? = some (.cells cs t fr)) (t1 : t ≠ e) (t2 : t ≠ e') : w'.heap[j]? = some (.cells cs t fr) := by
  refine (h.block j (lt_of_block hj) (fun er => ?_) (fun er => ?_)).trans hj
  · obtain ⟨c2, f2, k2⟩ := rk_kind o1 (h1.trans er.symm)
    rw [hj] at k2; cases k2; exact t1 rfl
  · obtain ⟨c2, f2, k2⟩ := rk_kind o2 (h2.trans er.symm)
    rw [hj] at k2; cases k2; exact t2 rfl

end Go.Proofs.Ytiejfnnokfedkaa
