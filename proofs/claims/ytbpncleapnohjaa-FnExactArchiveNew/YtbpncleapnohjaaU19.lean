/- Blocks that a walk holds, by a list. No condition. -/
import Derived.Test.YtbpncleapnohjaaU11
import Derived.RangeFuncRecord
import Derived.Test.YtbpncleapnohjaaU16
import Derived.Test.YtbpncleapnohjaaU18
namespace Go.Proofs.Ytbpncleapnohjaa
open Go.RowKit
set_option maxRecDepth 100000
set_option linter.unusedVariables false

/-- The world W is w with more, and the listed blocks hold these cells. -/
structure Hl (w : World) (L : List (Nat × Array Value × TypeId)) (W : World) : Prop where
  bel : Below w.heap.size w W
  blk : ∀ p ∈ L, W.heap[p.1]? = some (.cells p.2.1 p.2.2 (0, 0))
theorem Hl.at {w W : World} {L : List (Nat × Array Value × TypeId)} (h : Hl w L W) {b : Nat} {cs : Array Value} {t : TypeId} (hm : (b, cs, t) ∈ L) : W.heap[b]? = some (.cells cs t (0, 0)) := h.2 _ hm
theorem Hl.at0 {w W : World} {L : List (Nat × Array Value × TypeId)} {b : Nat} {cs : Array Value} {t : TypeId} (h : Hl w ((b, cs, t) :: L) W) : W.heap[b]? = some (.cells cs t (0, 0)) := h.2 _ (List.mem_cons_self ..)
theorem Hl.at1 {w W : World} {L : List (Nat × Array Value × TypeId)} {p : Nat × Array Value × TypeId} {b : Nat} {cs : Array Value} {t : TypeId} (h : Hl w (p :: (b, cs, t) :: L) W) : W.heap[b]? = some (.cells cs t (0, 0)) := h.2 _ (List.mem_cons_of_mem _ (List.mem_cons_self ..))
theorem Hl.at2 {w W : World} {L : List (Nat × Array Value × TypeId)} {p q : Nat × Array Value × TypeId} {b : Nat} {cs : Array Value} {t : TypeId} (h : Hl w (p :: q :: (b, cs, t) :: L) W) : W.heap[b]? = some (.cells cs t (0, 0)) := h.2 _ (List.mem_cons_of_mem _ (List.mem_cons_of_mem _ (List.mem_cons_self ..)))
theorem Hl.at3 {w W : World} {L : List (Nat × Array Value × TypeId)} {p q r : Nat × Array Value × TypeId} {b : Nat} {cs : Array Value} {t : TypeId} (h : Hl w (p :: q :: r :: (b, cs, t) :: L) W) : W.heap[b]? = some (.cells cs t (0, 0)) := h.2 _ (List.mem_cons_of_mem _ (List.mem_cons_of_mem _ (List.mem_cons_of_mem _ (List.mem_cons_self ..))))
theorem Hl.refl (w : World) : Hl w [] w := ⟨Below.refl _ _, fun p hp => absurd hp (by simp)⟩
theorem Hl.below {w W W' : World} {L : List (Nat × Array Value × TypeId)} (h : Hl w L W) (b : Below W.heap.size W W') : Hl w L W' := ⟨h.1.trans (b.mono h.1.size), fun p hp => (b.block _ (lt_of_block (h.2 p hp))).trans (h.2 p hp)⟩
theorem Hl.new {w W : World} {L : List (Nat × Array Value × TypeId)} (h : Hl w L W) (cs : Array Value) (t : TypeId) : Hl w ((W.heap.size, cs, t) :: L) (W.alloc (.cells cs t)) := by
  have hb : Below W.heap.size W (W.alloc (.cells cs t)) := (Below.refl _ _).alloc (Nat.le_refl _) _
  refine ⟨(h.below hb).1, fun p hp => ?_⟩
  rcases List.mem_cons.mp hp with rfl | hp
  · exact World.alloc_heap_new _ _
  · exact (h.below hb).2 p hp
theorem Hl.tail {w W : World} {p : Nat × Array Value × TypeId} {L : List (Nat × Array Value × TypeId)} (h : Hl w (p :: L) W) : Hl w L W := ⟨h.1, fun q hq => h.2 q (List.mem_cons_of_mem _ hq)⟩
theorem Hl.lt {w W : World} {L : List (Nat × Array Value × TypeId)} (h : Hl w L W) {p : Nat × Array Value × TypeId} (hm : p ∈ L) : p.1 < W.heap.size := lt_of_block (h.2 p hm)
/-- A cell of the first block is set. -/
theorem Hl.set {w W : World} {L : List (Nat × Array Value × TypeId)} {N : Nat} {cs : Array Value} {t : TypeId} (h : Hl w ((N, cs, t) :: L) W) (hN : w.heap.size ≤ N) (hL : ∀ p ∈ L, p.1 ≠ N) (k : Nat) (u : Value) : Hl w ((N, cs.setIfInBounds k u, t) :: L) (W.setCell ⟨N, k, none⟩ u) := by
  refine ⟨h.1.setCell (p := ⟨N, k, none⟩) hN _, fun p hp => ?_⟩
  rcases List.mem_cons.mp hp with rfl | hp
  · exact rk_at h.at0
  · have hg := grown_setCell W N k u
    have hp' := h.2 p (List.mem_cons_of_mem _ hp)
    exact (hg.block p.1 (lt_of_block hp') (fun e => hL p hp (Option.some.inj e))).trans hp'
theorem Hl.set2 {w W : World} {L : List (Nat × Array Value × TypeId)} {N : Nat} {x y : Value} {t : TypeId} (h : Hl w ((N, #[x, y], t) :: L) W) (hN : w.heap.size ≤ N) (hL : ∀ p ∈ L, p.1 ≠ N) (a b : Value) : Hl w ((N, #[a, b], t) :: L) ((W.setCell ⟨N, 0, none⟩ a).setCell ⟨N, 1, none⟩ b) := (h.set hN hL 0 a).set hN hL 1 b
theorem Hl.set3 {w W : World} {L : List (Nat × Array Value × TypeId)} {N : Nat} {x y z : Value} {t : TypeId} (h : Hl w ((N, #[x, y, z], t) :: L) W) (hN : w.heap.size ≤ N) (hL : ∀ p ∈ L, p.1 ≠ N) (a b c : Value) : Hl w ((N, #[a, b, c], t) :: L) (((W.setCell ⟨N, 0, none⟩ a).setCell ⟨N, 1, none⟩ b).setCell ⟨N, 2, none⟩ c) := ((h.set hN hL 0 a).set hN hL 1 b).set hN hL 2 c
theorem Hl.swap {w W : World} {p q : Nat × Array Value × TypeId} {L : List (Nat × Array Value × TypeId)} (h : Hl w (p :: q :: L) W) : Hl w (q :: p :: L) W := ⟨h.1, fun r hr => h.2 r (by simp only [List.mem_cons] at hr ⊢; rcases hr with hr | hr | hr <;> simp [hr])⟩
theorem Hl.past {w W W' : World} {L : List (Nat × Array Value × TypeId)} (h : Hl w L W) {row : Option Nat} (g : W.grownBy W' row) (hr : ∀ r, row = some r → w.heap.size ≤ r ∧ ∀ p ∈ L, p.1 ≠ r) : Hl w L W' := ⟨h.1.grown g h.1.size (fun r e => (hr r e).1), fun p hp => (g.block _ (lt_of_block (h.2 p hp)) (fun e => by
    subst e; exact (hr p.1 rfl).2 p hp rfl)).trans (h.2 p hp)⟩
theorem Hl.sub {w W : World} {L L' : List (Nat × Array Value × TypeId)} (h : Hl w L W) (hs : ∀ p ∈ L', p ∈ L) : Hl w L' W := ⟨h.1, fun p hp => h.2 p (hs p hp)⟩
end Go.Proofs.Ytbpncleapnohjaa

/- The specification's HeadNow. No condition. -/
namespace Go.Proofs.Ytbpncleapnohjaa
open Go.RowKit
set_option maxRecDepth 100000
set_option linter.unusedVariables false

/-- Which head counts. -/
def nowDk (d : PDisk) : PHead := if diskB d = false then zeroH else if (readDk (sectorD d 0)).1.no < (readDk (sectorD d 1)).1.no then (readDk (sectorD d 1)).1 else (readDk (sectorD d 0)).1
theorem sector_size {d : PDisk} (h : diskB d = true) {x : Int} (hx : 0 ≤ x ∧ x ≤ 129) : (sectorD d x).size = 64 := by
  have hl := diskB_len h
  have hp : ∀ ps : List (Int × ByteArray), (∀ p ∈ ps, p.2.size = 64) → ∀ s, putAt x ps = some s → s.size = 64 := by
    intro ps
    induction ps with
    | nil => intro _ s e; simp [putAt] at e
    | cons q ps ih =>
      intro hq s e
      rw [putAt] at e
      split at e
      · rename_i s' e'
        simp only [Option.some.injEq] at e
        subst e
        exact ih (fun p hp => hq p (List.mem_cons_of_mem _ hp)) _ e'
      · split at e
        · simp only [Option.some.injEq] at e
          subst e
          exact hq q (List.mem_cons_self ..)
        · cases e
  unfold sectorD
  cases e : putAt x d.late with
  | some s => exact hp d.late (fun p hpm => by obtain ⟨k, hk, rfl⟩ := List.getElem_of_mem hpm; exact (diskB_late h hk).2.2) s e
  | none =>
    have hk : x.toNat < d.safe.length := by omega
    simp only [Option.getD_none, List.getD_eq_getElem?_getD, List.getElem?_eq_getElem hk, Option.getD_some]
    exact diskB_safe h hk

end Go.Proofs.Ytbpncleapnohjaa

/- The specification's HeadPut. No condition. -/
namespace Go.Proofs.Ytbpncleapnohjaa
open Go.RowKit
set_option maxRecDepth 100000
set_option linter.unusedVariables false

/-- A disk with a head put. -/
def headPutDk (d : PDisk) (h : PHead) : PDisk × Bool := if diskB d = false then (zeroDk, false) else if headB h = false then (d, false) else putDk d (h.no % 2) (packS h)
theorem OwnDk.based {B B' : Nat} {w : World} {v : Value} {d : PDisk} (h : OwnDk B w v d) (hB : B' ≤ B) : OwnDk B' w v d := by
  obtain ⟨sa, sn, sc, la, ln, lc, e, h1, h2⟩ := h
  exact ⟨sa, sn, sc, la, ln, lc, e, rk_base h1 hB, rk_base h2 hB⟩
theorem OwnDk.setD {B b k : Nat} {w : World} {v u : Value} {d : PDisk} (h : OwnDk B w v d) {cs : Array Value} {fr : Nat × Nat} (hb : w.heap[b]? = some (.cells cs 25 fr)) : OwnDk B (w.setCell ⟨b, k, none⟩ u) v d := by
  obtain ⟨sa, sn, sc, la, ln, lc, e, h1, h2⟩ := h
  exact ⟨sa, sn, sc, la, ln, lc, e, rk_set h1 hb (by decide), rk_set h2 hb (by decide)⟩
/-- A disk of the call's own is laid into the result's block. -/
theorem OwnDk.laid {w W : World} {L : List (Nat × Array Value × TypeId)} {N : Nat} {x y a b : Value} {d : PDisk} (h : Hl w ((N, #[x, y], 25) :: L) W) (hN : w.heap.size ≤ N) (hL : ∀ p ∈ L, p.1 ≠ N) (o : OwnDk w.heap.size W (.agg #[a, b]) d) :
    OwnDk w.heap.size ((W.setCell ⟨N, 0, none⟩ a).setCell ⟨N, 1, none⟩ b) (.agg #[a, b]) d ∧ Below w.heap.size w ((W.setCell ⟨N, 0, none⟩ a).setCell ⟨N, 1, none⟩ b) ∧ ((W.setCell ⟨N, 0, none⟩ a).setCell ⟨N, 1, none⟩ b).heap[N]? = some (.cells #[a, b] 25 (0, 0)) :=
  ⟨(o.setD h.at0).setD (h.set hN hL 0 a).at0, (h.set2 hN hL a b).1, (h.set2 hN hL a b).at0⟩

set_option maxHeartbeats 1000000 in
set_option maxRecDepth 100000 in
theorem sheadPut_any {w : World} {v : Value} {d : PDisk} (h : DiskAt w v d) (hf : DiskFit d) (hd : PHead) :
    Calls Try.prog 9 #[v, headV hd] w fun e w' => ∃ v', e = .returned (.tuple #[v', .bool (headPutDk d hd).2]) ∧ OwnDk w.heap.size w' v' (headPutDk d hd).1 ∧ Below w.heap.size w w' := by
  have HD := (show Hid (DiskAt w v d) from h)
  have HF := (show Hid (DiskFit d) from hf)
  obtain ⟨sa, sn, sc, la, ln, lc, rfl, _, _⟩ := h
  obtain ⟨no, ar, en⟩ := hd
  obtain ⟨⟨qd, qb⟩, hq⟩ : ∃ q, q = headPutDk d ⟨no, ar, en⟩ := ⟨_, rfl⟩
  have HQ := (show Hid (_ = _) from hq)
  rw [← hq]
  simp only
  clear hq
  show Calls Try.prog 9 #[.agg #[.slice sa sn sc, .slice la ln lc], .agg #[.int .i64 no, .int .i64 ar, .int .i64 en]] w _
  obtain ⟨w1, hw1⟩ : ∃ y, y = ((w.alloc (.cells #[.slice sa sn sc, .slice la ln lc] 25)).alloc (.cells #[.int .i64 no, .int .i64 ar, .int .i64 en] 27)).alloc (.cells #[.slice none 0 0, .slice none 0 0] 25) := ⟨_, rfl⟩
  have h1 : Hl w [(w.heap.size + 1 + 1, #[.slice none 0 0, .slice none 0 0], 25), (w.heap.size + 1, #[.int .i64 no, .int .i64 ar, .int .i64 en], 27), (w.heap.size, #[.slice sa sn sc, .slice la ln lc], 25)] w1 := by
    have := (((Hl.refl w).new #[.slice sa sn sc, .slice la ln lc] 25).new #[.int .i64 no, .int .i64 ar, .int .i64 en] 27).new #[.slice none 0 0, .slice none 0 0] 25
    rw [World.size_alloc, World.size_alloc] at this
    rw [hw1]; exact this
  have H1 := (show Hid _ from h1)
  clear h1 hf
  go_enter Try.func9, Try.ntmps9
  go_wp2_with fail
  go_at_call 22
  rw [← hw1]
  refine (sdiskOk_any (HD.out.below H1.out.1) HF.out).mono ?_
  rintro e w2 ⟨rfl, b2⟩
  clear hw1
  have H2 := (show Hid _ from H1.out.below b2)
  obtain ⟨r1, r2, r3, r4⟩ := rk_two H2.out.at0
  obtain ⟨c1, c2, c3, _⟩ := rk_three H2.out.at1
  obtain ⟨q1, q2, _, _⟩ := rk_two H2.out.at2
  clear H1 b2
  cases hb : diskB d
  · have HR : Hid ((qd, qb) = (zeroDk, false)) := (show _ = _ by rw [HQ.out, headPutDk, if_pos hb])
    cases HR.out
    clear hb HQ HR
    go_wp2
    have z := OwnDk.laid H2.out (by omega) (by simp; omega) (ownDk_nil _ _)
    refine bodyPost_ret (disk_res rfl rfl rfl z.2.2) rfl ?_
    exact ⟨_, rfl, z.1, z.2.1⟩
  · have HB := (show Hid (diskB d = true) from hb)
    clear hb
    have CP := sheadPack_any ⟨no, ar, en⟩
    obtain ⟨⟨ps, pb⟩, hp⟩ : ∃ q, q = packDk ⟨no, ar, en⟩ := ⟨_, rfl⟩
    rw [← hp] at CP
    simp only at CP
    have CQ := (show Hid (∀ W, Calls Try.prog 23 #[.agg #[.int .i64 no, .int .i64 ar, .int .i64 en]] W fun e w' => e = .returned (.tuple #[.string ps, .bool pb]) ∧ Below W.heap.size W w') from CP)
    have HP := (show Hid (_ = _) from hp)
    clear CP hp
    go_wp2_with fail
    go_at_call 23
    refine (CQ.out _).mono ?_
    rintro e w3 ⟨rfl, b3⟩
    have H3 := (show Hid _ from H2.out.below b3)
    clear H2 b3 CQ r1 r2 r3 r4 c1 c2 c3 q1 q2
    obtain ⟨c1, c2, c3, _⟩ := rk_three H3.out.at1
    obtain ⟨q1, q2, _, _⟩ := rk_two H3.out.at2
    cases hh : headB ⟨no, ar, en⟩
    · have e1 := HP.out
      rw [packDk, if_neg (by rw [hh]; simp)] at e1
      cases e1
      have HR : Hid ((qd, qb) = (d, false)) := (show _ = _ by rw [HQ.out, headPutDk, if_neg (by rw [HB.out]; simp), if_pos hh])
      cases HR.out
      have CC := (show Hid _ from sl15Copy_any (HD.out.below H3.out.1) HF.out)
      clear HP hh HQ HR
      go_wp2_with fail
      go_at_call 24
      refine Calls.mono CC.out ?_
      rintro e w4 ⟨v4, rfl, o4, b4⟩
      have H4 := (show Hid _ from H3.out.below b4)
      have O4 := (show Hid (OwnDk w.heap.size w4 v4 d) from o4.based H3.out.1.size)
      clear CC o4 b4 H3 c1 c2 c3 q1 q2
      obtain ⟨r1, r2, r3, r4⟩ := rk_two H4.out.at0
      obtain ⟨ta, tn, tc, ma, mn, mc, e4, _⟩ := O4.out
      subst e4
      go_wp2
      have z := OwnDk.laid H4.out (by omega) (by simp; omega) O4.out
      refine bodyPost_ret (disk_res rfl rfl rfl z.2.2) rfl ?_
      exact ⟨_, rfl, z.1, z.2.1⟩
    · have e1 := HP.out
      rw [packDk, if_pos hh] at e1
      cases e1
      have hin := headB_in hh
      simp only at hin
      obtain ⟨hn1, hn2, _⟩ := hin
      have HR : Hid ((qd, qb) = putDk d (no % 2) (packS ⟨no, ar, en⟩)) := (show _ = _ by rw [HQ.out, headPutDk, if_neg (by rw [HB.out]; simp), if_neg (by rw [hh]; simp)])
      have CC := sdiskPut_any (HD.out.below H3.out.1) HF.out (no % 2) (packS ⟨no, ar, en⟩) (by rw [packS_size]; omega)
      rw [← HR.out] at CC
      simp only at CC
      have CD := (show Hid _ from CC)
      obtain ⟨p, hp⟩ : ∃ p, p = packS ⟨no, ar, en⟩ := ⟨_, rfl⟩
      rw [← hp] at CD
      rw [← hp]
      have hm : no.tmod 2 = no % 2 := Int.tmod_eq_emod_of_nonneg (by omega)
      clear HP hh HQ HR CC hp
      go_wp2_with fail
      go_at_call 25
      refine Calls.mono CD.out ?_
      rintro e w4 ⟨v4, rfl, o4, b4⟩
      have H4 := (show Hid _ from H3.out.below b4)
      have O4 := (show Hid (OwnDk w.heap.size w4 v4 qd) from o4.based H3.out.1.size)
      clear CD o4 b4 H3 c1 c2 c3 q1 q2 hm
      obtain ⟨r1, r2, r3, r4⟩ := rk_two H4.out.at0
      obtain ⟨ta, tn, tc, ma, mn, mc, e4, _⟩ := O4.out
      subst e4
      go_wp2
      have z := OwnDk.laid H4.out (by omega) (by simp; omega) O4.out
      refine bodyPost_ret (disk_res rfl rfl rfl z.2.2) rfl ?_
      exact ⟨_, rfl, z.1, z.2.1⟩
end Go.Proofs.Ytbpncleapnohjaa

/- The specification's l16Area, l16Get, AreaGet. No condition. -/
namespace Go.Proofs.Ytbpncleapnohjaa
open Go.RowKit
set_option maxRecDepth 100000
set_option linter.unusedVariables false

theorem bytes_res {fn : Func} {p q : Tmp} (h : fn.results = #[.tmp p, .tmp q]) {tmps : Array Value} {w : World} {a : Option Addr} {n c : Nat} {b : Bool} (h1 : tmps.getD p undef = .slice a n c) (h2 : tmps.getD q undef = .bool b) : (results fn tmps).run Try.prog w = .ok (.tuple #[.slice a n c, .bool b]) w := by
  have h1' : tmps[p]?.getD undef = .slice a n c := by simpa using h1
  have h2' : tmps[q]?.getD undef = .bool b := by simpa using h2
  simp [results, h, h1', h2', go_sem]

end Go.Proofs.Ytbpncleapnohjaa

/- The specification's AreaPut. No condition. -/
namespace Go.Proofs.Ytbpncleapnohjaa
open Go.RowKit
set_option maxRecDepth 100000
set_option linter.unusedVariables false

/-- The bytes of a sector while they are laid. -/
def partL (old b : List Int) (at' k i : Nat) : List Int := (newL old b at' k).take i ++ old.drop i
theorem partL_zero (old b : List Int) (at' k : Nat) : partL old b at' k 0 = old := by simp [partL]
theorem partL_all {old : List Int} (h : old.length = 64) (b : List Int) (at' k : Nat) : partL old b at' k 64 = newL old b at' k := by
  unfold partL
  rw [List.take_of_length_le (by rw [newL_len]; omega), List.drop_of_length_le (by omega), List.append_nil]
theorem partL_len {old : List Int} (h : old.length = 64) (b : List Int) (at' k i : Nat) (hi : i ≤ 64) : (partL old b at' k i).length = 64 := by
  simp only [partL, List.length_append, List.length_take, List.length_drop, newL_len, h]; omega
theorem newL_at (old b : List Int) (at' k i : Nat) (hi : i < (newL old b at' k).length) : (newL old b at' k)[i] = if at' ≤ 64 * k + i ∧ 64 * k + i < at' + b.length then b.getD (64 * k + i - at') 0 else old.getD i 0 := by
  simp [newL]
theorem partL_yes {old : List Int} (h : old.length = 64) {b : List Int} {at' k i : Nat} (hi : i < 64) (hc : at' ≤ 64 * k + i ∧ 64 * k + i < at' + b.length) : (partL old b at' k i).set i (b.getD (64 * k + i - at') 0) = partL old b at' k (i + 1) := by
  have hn : i < (newL old b at' k).length := by rw [newL_len]; exact hi
  have ht : ((newL old b at' k).take i).length = i := by rw [List.length_take, newL_len]; omega
  unfold partL
  rw [List.drop_eq_getElem_cons (by omega), List.set_append_right _ _ (by omega), ht, Nat.sub_self, List.set_cons_zero, List.take_succ_eq_append_getElem hn, newL_at, if_pos hc, List.append_assoc]
  rfl
theorem partL_no {old : List Int} (h : old.length = 64) {b : List Int} {at' k i : Nat} (hi : i < 64) (hc : ¬ (at' ≤ 64 * k + i ∧ 64 * k + i < at' + b.length)) : partL old b at' k i = partL old b at' k (i + 1) := by
  have hn : i < (newL old b at' k).length := by rw [newL_len]; exact hi
  unfold partL
  rw [List.take_succ_eq_append_getElem hn, newL_at, if_neg hc, List.append_assoc, List.drop_eq_getElem_cons (by omega : i < old.length)]
  simp [List.getD_eq_getElem?_getD, show i < old.length by omega]

/-- What AreaPut holds while it goes on: its out, the copy, the result's block, the argument. -/
structure ApI (w : World) (O S3 : Nat) (x y s t p q : Value) (d e : PDisk) (W : World) : Prop where
  hl : Hl w [(O, #[x, y], 25), (S3, #[s, t], 25), (w.heap.size + 1, #[.slice none 0 0, .slice none 0 0], 25), (w.heap.size, #[p, q], 25)] W
  oe : OwnDk w.heap.size W (.agg #[x, y]) e
  od : OwnDk w.heap.size W (.agg #[s, t]) d
theorem ApI.below {w : World} {O S3 : Nat} {x y s t p q : Value} {d e : PDisk} {W W' : World} (h : ApI w O S3 x y s t p q d e W) (b : Below W.heap.size W W') : ApI w O S3 x y s t p q d e W' := ⟨h.hl.below b, h.oe.below b, h.od.below b⟩
theorem OwnDk.setT {B b k : Nat} {w : World} {v u : Value} {d : PDisk} (h : OwnDk B w v d) {cs : Array Value} {t : TypeId} {fr : Nat × Nat} (hb : w.heap[b]? = some (.cells cs t fr)) (h1 : t ≠ 9) (h2 : t ≠ 65) : OwnDk B (w.setCell ⟨b, k, none⟩ u) v d := by
  obtain ⟨sa, sn, sc, la, ln, lc, e, o1, o2⟩ := h
  exact ⟨sa, sn, sc, la, ln, lc, e, rk_set o1 hb h1, rk_set o2 hb h2⟩
/-- A byte of the text is laid. -/
theorem ApI.byte {w : World} {O S3 : Nat} {x y s t p q : Value} {d e : PDisk} {W : World} (h : ApI w O S3 x y s t p q d e W) {T k : Nat} {u : Value} {xs : List Int} (hT : Blk .u8 5 W T xs) (hO : O < T) (hS : S3 < O) (hw : w.heap.size + 1 < S3) : ApI w O S3 x y s t p q d e (W.setCell ⟨T, k, none⟩ u) := by
  obtain ⟨cur, lo, hi, hh, _⟩ := hT
  exact ⟨h.hl.past (grown_setCell _ _ _ _) (fun r e => by cases e; exact ⟨by omega, by simp; omega⟩), h.oe.setT hh (by decide) (by decide), h.od.setT hh (by decide) (by decide)⟩
/-- The new disk is laid into out. -/
theorem ApI.turn {w : World} {O S3 : Nat} {x y s t p q : Value} {d e : PDisk} {W : World} (h : ApI w O S3 x y s t p q d e W) (hS : S3 < O) (hw : w.heap.size + 1 < S3) {a b : Value} {e' : PDisk} (o : OwnDk w.heap.size W (.agg #[a, b]) e') : ApI w O S3 a b s t p q d e' ((W.setCell ⟨O, 0, none⟩ a).setCell ⟨O, 1, none⟩ b) := by
  have hL : ∀ r ∈ [(S3, #[s, t], 25), (w.heap.size + 1, #[.slice none 0 0, .slice none 0 0], 25), (w.heap.size, #[p, q], 25)], r.1 ≠ O := by simp; omega
  exact ⟨h.hl.set2 (by omega) hL a b, (o.setD h.hl.at0).setD (h.hl.set (by omega) hL 0 a).at0, (h.od.setD h.hl.at0).setD (h.hl.set (by omega) hL 0 a).at0⟩

end Go.Proofs.Ytbpncleapnohjaa

/- What is put is got, and no other byte is turned, plainly. No condition. -/
namespace Go.Proofs.Ytbpncleapnohjaa
open Go.RowKit
set_option maxRecDepth 100000
set_option linter.unusedVariables false

theorem newL_byte {s : ByteArray} {b : List Int} (hb : ∀ x ∈ b, 0 ≤ x ∧ x ≤ 255) (A k : Nat) : ∀ x ∈ newL (bs s) b A k, 0 ≤ x ∧ x ≤ 255 := by
  intro x hx
  simp only [newL, List.mem_map, List.mem_range] at hx
  obtain ⟨i, _, rfl⟩ := hx
  split
  · rename_i h
    have hl : 64 * k + i - A < b.length := by omega
    simp only [List.getD_eq_getElem?_getD, List.getElem?_eq_getElem hl, Option.getD_some]
    exact hb _ (List.getElem_mem _)
  · exact bs_bound s i
theorem newL_getD (old b : List Int) (A k i : Nat) (hi : i < 64) : (newL old b A k).getD i 0 = if A ≤ 64 * k + i ∧ 64 * k + i < A + b.length then b.getD (64 * k + i - A) 0 else old.getD i 0 := by
  have hl : i < (newL old b A k).length := by rw [newL_len]; exact hi
  rw [List.getD_eq_getElem?_getD, List.getElem?_eq_getElem hl, Option.getD_some, newL_at]
/-- The bytes of the area that was put to. -/
theorem byteD_area {d e : PDisk} {a : Int} {b : List Int} (hb : ∀ x ∈ b, 0 ≤ x ∧ x ≤ 255) {A : Nat} (h : areaN d a b A 64 = some e) {k : Nat} (hk : k < 4096) : byteD e a k = if A ≤ k ∧ k < A + b.length then b.getD (k - A) 0 else byteD d a k := by
  obtain ⟨_, h2⟩ := areaN_sector h
  have hj : k / 64 < 64 := by omega
  have hi : k % 64 < 64 := by omega
  have e1 : 64 * (k / 64) + k % 64 = k := by omega
  unfold byteD
  rw [h2 _ hj]
  split
  · unfold newS
    rw [bs_strOf (newL_byte hb _ _), newL_getD _ _ _ _ _ hi, e1]
  · rename_i ht
    have : ¬ (A ≤ k ∧ k < A + b.length) := fun hc => ht (by simp only [touch, Bool.and_eq_true, decide_eq_true_eq]; omega)
    rw [if_neg this]
/-- Those of the other one. -/
theorem byteD_other {d e : PDisk} {a : Int} {b : List Int} {A : Nat} (ha : a = 0 ∨ a = 1) (h : areaN d a b A 64 = some e) {k : Nat} (hk : k < 4096) : byteD e (1 - a) k = byteD d (1 - a) k := by
  obtain ⟨h1, _⟩ := areaN_sector h
  unfold byteD
  rw [h1 _ (fun j hj => by unfold secOf; omega)]
theorem sector_heads {d e : PDisk} {a : Int} {b : List Int} {A : Nat} (ha : a = 0 ∨ a = 1) (h : areaN d a b A 64 = some e) {x : Int} (hx : x = 0 ∨ x = 1) : sectorD e x = sectorD d x := (areaN_sector h).1 _ (fun j hj => by unfold secOf; omega)
theorem getL_congr {d e : PDisk} {a c : Int} {A n : Nat} (h : ∀ j, j < n → byteD e a (A + j) = byteD d c (A + j)) : getL e a A n = getL d c A n := by
  unfold getL
  apply List.map_congr_left
  intro j hj
  exact h j (List.mem_range.mp hj)
theorem area_yes {d : PDisk} {a at' : Int} {b : List Int} (h : (areaDk d a at' b).2 = true) : diskB d = true ∧ (a = 0 ∨ a = 1) ∧ 0 ≤ at' ∧ at' ≤ 4096 ∧ (b.length : Int) ≤ 4096 - at' ∧ areaN d a b at'.toNat 64 = some (areaDk d a at' b).1 := by
  unfold areaDk at h ⊢
  split at h
  · cases h
  · rename_i hb
    rw [if_neg hb]
    split at h
    · cases h
    · rename_i hp
      rw [if_neg hp]
      simp only [putOkA, inB, Bool.not_eq_false, Bool.and_eq_true, Bool.or_eq_true, decide_eq_true_eq] at hp
      cases e : areaN d a b at'.toNat 64 with
      | none => rw [e] at h; cases h
      | some e' => exact ⟨by simpa using hb, hp.1.1, hp.1.2.1, hp.1.2.2, hp.2, by simp⟩
theorem area_no {d : PDisk} {a at' : Int} {b : List Int} (h : (areaDk d a at' b).2 = false) : (areaDk d a at' b).1.late.length = d.late.length ∨ (areaDk d a at' b).1.safe.length = 0 := by
  unfold areaDk at h ⊢
  split at h
  · rename_i hb
    rw [if_pos hb]
    exact .inr rfl
  · rename_i hb
    rw [if_neg hb]
    split at h
    · rename_i hp
      rw [if_pos hp]
      exact .inl rfl
    · rename_i hp
      rw [if_neg hp]
      cases e : areaN d a b at'.toNat 64 with
      | none => exact .inl rfl
      | some e' => rw [e] at h; cases h
theorem get_right {d : PDisk} (hd : diskB d = true) {a at' n : Int} (ha : a = 0 ∨ a = 1) (h0 : 0 ≤ at') (h1 : 0 ≤ n) (h2 : at' + n ≤ 4096) : getDk d a at' n = (getL d a at'.toNat n.toNat, true) := by
  rw [getDk, if_pos]
  simp only [getOk, inB, Bool.and_eq_true, Bool.or_eq_true, decide_eq_true_eq]
  exact ⟨⟨⟨hd, ha⟩, by omega, by omega⟩, by omega, by omega⟩
/-- What FnAreas asks. -/
structure AreaSays (d e : PDisk) (a at' : Int) (b : List Int) : Prop where
  got : getDk e a at' b.length = (b, true)
  head : getDk e a 0 at' = getDk d a 0 at'
  one : (getDk d a 0 at').2 = true
  tail : getDk e a (at' + b.length) (4096 - (at' + b.length)) = getDk d a (at' + b.length) (4096 - (at' + b.length))
  two : (getDk d a (at' + b.length) (4096 - (at' + b.length))).2 = true
  other : getDk e (1 - a) 0 4096 = getDk d (1 - a) 0 4096
  three : (getDk d (1 - a) 0 4096).2 = true
theorem area_says {d : PDisk} {a at' : Int} {b : List Int} (hb : ∀ x ∈ b, 0 ≤ x ∧ x ≤ 255) (h : (areaDk d a at' b).2 = true) : AreaSays d (areaDk d a at' b).1 a at' b := by
  obtain ⟨hd, ha, h0, h1, h2, hN⟩ := area_yes h
  obtain ⟨e, he⟩ : ∃ e, e = (areaDk d a at' b).1 := ⟨_, rfl⟩
  rw [← he] at hN ⊢
  obtain ⟨A, rfl⟩ : ∃ A : Nat, at' = A := ⟨at'.toNat, by omega⟩
  simp only [Int.toNat_natCast] at hN
  have hr : diskB e = true := areaN_right hd ha (Nat.le_refl _) hN
  have ha' : 1 - a = 0 ∨ 1 - a = 1 := by omega
  have hn : ((A : Int) + b.length).toNat = A + b.length := by omega
  have hm : (4096 - ((A : Int) + b.length)).toNat = 4096 - (A + b.length) := by omega
  refine ⟨?_, ?_, ?_, ?_, ?_, ?_, ?_⟩
  · rw [get_right hr ha h0 (by omega) (by omega)]
    simp only [Int.toNat_natCast, Prod.mk.injEq, and_true]
    apply List.ext_getElem
    · rw [getL_len]
    · intro j hj1 hj2
      rw [getL_len] at hj1
      simp only [getL, List.getElem_map, List.getElem_range]
      rw [byteD_area hb hN (by omega), if_pos ⟨by omega, by omega⟩, show A + j - A = j by omega]
      simp [List.getD_eq_getElem?_getD, hj2]
  · rw [get_right hr ha (by omega) h0 (by omega), get_right hd ha (by omega) h0 (by omega)]
    simp only [Int.toNat_natCast, Int.toNat_zero, Prod.mk.injEq, and_true]
    exact getL_congr (fun j hj => by rw [byteD_area hb hN (by omega), if_neg (by omega)])
  · rw [get_right hd ha (by omega) h0 (by omega)]
  · rw [get_right hr ha (by omega) (by omega) (by omega), get_right hd ha (by omega) (by omega) (by omega), hn, hm]
    simp only [Prod.mk.injEq, and_true]
    exact getL_congr (fun j hj => by rw [byteD_area hb hN (by omega), if_neg (by omega)])
  · rw [get_right hd ha (by omega) (by omega) (by omega)]
  · rw [get_right hr ha' (by omega) (by omega) (by omega), get_right hd ha' (by omega) (by omega) (by omega)]
    simp only [Prod.mk.injEq, and_true]
    exact getL_congr (fun j hj => by
      have hj' : j < 4096 := by simpa using hj
      rw [byteD_other ha hN (by simpa using hj')])
  · rw [get_right hd ha' (by omega) (by omega) (by omega)]
theorem area_now {d : PDisk} {a at' : Int} {b : List Int} (h : (areaDk d a at' b).2 = true) : nowDk (areaDk d a at' b).1 = nowDk d := by
  obtain ⟨hd, ha, h0, h1, h2, hN⟩ := area_yes h
  have hr : diskB (areaDk d a at' b).1 = true := areaN_right hd ha (Nat.le_refl _) hN
  unfold nowDk
  rw [sector_heads ha hN (.inl rfl), sector_heads ha hN (.inr rfl), hr, hd]
end Go.Proofs.Ytbpncleapnohjaa
