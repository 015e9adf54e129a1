/- Blocks that a walk holds, by a list. No condition. -/
import Derived.Test.YtokkigfjabbdaaaGreatDoorU11
import Derived.RangeFuncRecord
import Derived.Test.YtokkigfjabbdaaaGreatDoorU16
import Derived.Test.YtokkigfjabbdaaaGreatDoorU18
namespace Go.Proofs.YtokkigfjabbdaaaGreatDoor
open Go.RowKit
set_option maxRecDepth 100000
set_option linter.unusedVariables false

/-- The world W is w with more, and the listed blocks hold these cells. -/
structure Hl (w : World) (L : List (Nat × Array Value × TypeId)) (W : World) : Prop where
  bel : Below w.heap.size w W
  blk : ∀ p ∈ L, W.heap[p.1]? = some (.cells p.2.1 p.2.2 (0, 0))
theorem Hl.at {w W : World} {L : List (Nat × Array Value × TypeId)} (h : Hl w L W) {b : Nat} {cs : Array Value} {t : TypeId} (hm : (b, cs, t) ∈ L) : W.heap[b]? = some (.cells cs t (0, 0)) := h.2 _ hm
theorem Hl.at0 {w W : World} {L : List (Nat × Array Value × TypeId)} {b : Nat} {cs : Array Value} {t : TypeId} (h : Hl w ((b, cs, t) :: L) W) : W.heap[b]? = some (.cells cs t (0, 0)) := h.2 _ (List.mem_cons_self ..)
theorem Hl.at1 {w W : World} {L : List (Nat × Array Value × TypeId)} {p : Nat × Array Value × TypeId} {b : Nat} {cs : Array Value} {t : TypeId} (h : Hl w (p :: (b, cs, t) :: L) W) : W.heap[b]? = some (.cells cs t (0, 0)) := h.2 _ (List.mem_cons_of_mem _ (List.mem_cons_self ..))
theorem Hl.at2 {w W : World} {L : List (Nat × Array Value × TypeId)} {p q : Nat × Array Value × TypeId} {b : Nat} {cs : Array Value} {t : TypeId} (h : Hl w (p :: q :: (b, cs, t) :: L) W) : W.heap[b]? = some (.cells cs t (0, 0)) := h.2 _ (List.mem_cons_of_mem _ (List.mem_cons_of_mem _ (List.mem_cons_self ..)))
theorem Hl.at3 {w W : World} {L : List (Nat × Array Value × TypeId)} {p q r : Nat × Array Value × TypeId} {b : Nat} {cs : Array Value} {t : TypeId} (h : Hl w (p :: q :: r :: (b, cs, t) :: L) W) : W.heap[b]? = some (.cells cs t (0, 0)) := h.2 _ (List.mem_cons_of_mem _ (List.mem_cons_of_mem _ (List.mem_cons_of_mem _ (List.mem_cons_self ..))))
theorem Hl.refl (w : World) : Hl w [] w := ⟨Below.refl _ _, fun p hp => absurd hp (by simp)⟩
theorem Hl.below {w W W' : World} {L : List (Nat × Array Value × TypeId)} (h : Hl w L W) (b : Below W.heap.size W W') : Hl w L W' := ⟨h.1.trans (b.mono h.1.size), fun p hp => (b.block _ (lt_of_block (h.2 p hp))).trans (h.2 p hp)⟩
theorem Hl.new {w W : World} {L : List (Nat × Array Value × TypeId)} (h : Hl w L W) (cs : Array Value) (t : TypeId) : Hl w ((W.heap.size, cs, t) :: L) (W.alloc (.cells cs t)) := by
  have hb : Below W.heap.size W (W.alloc (.cells cs t)) := (Below.refl _ _).alloc (Nat.le_refl _) _
  refine ⟨(h.below hb).1, fun p hp => ?_⟩
  rcases List.mem_cons.mp hp with rfl | hp
  · exact World.alloc_heap_new _ _
  · exact (h.below hb).2 p hp
theorem Hl.tail {w W : World} {p : Nat × Array Value × TypeId} {L : List (Nat × Array Value × TypeId)} (h : Hl w (p :: L) W) : Hl w L W := ⟨h.1, fun q hq => h.2 q (List.mem_cons_of_mem _ hq)⟩
theorem Hl.lt {w W : World} {L : List (Nat × Array Value × TypeId)} (h : Hl w L W) {p : Nat × Array Value × TypeId} (hm : p ∈ L) : p.1 < W.heap.size := lt_of_block (h.2 p hm)
/-- A cell of the first block is set. -/
theorem Hl.set {w W : World} {L : List (Nat × Array Value × TypeId)} {N : Nat} {cs : Array Value} {t : TypeId} (h : Hl w ((N, cs, t) :: L) W) (hN : w.heap.size ≤ N) (hL : ∀ p ∈ L, p.1 ≠ N) (k : Nat) (u : Value) : Hl w ((N, cs.setIfInBounds k u, t) :: L) (W.setCell ⟨N, k, none⟩ u) := by
  refine ⟨h.1.setCell (p := ⟨N, k, none⟩) hN _, fun p hp => ?_⟩
  rcases List.mem_cons.mp hp with rfl | hp
  · exact rk_at h.at0
  · have hg := grown_setCell W N k u
    have hp' := h.2 p (List.mem_cons_of_mem _ hp)
    exact (hg.block p.1 (lt_of_block hp') (fun e => hL p hp (Option.some.inj e))).trans hp'
theorem Hl.set2 {w W : World} {L : List (Nat × Array Value × TypeId)} {N : Nat} {x y : Value} {t : TypeId} (h : Hl w ((N, #[x, y], t) :: L) W) (hN : w.heap.size ≤ N) (hL : ∀ p ∈ L, p.1 ≠ N) (a b : Value) : Hl w ((N, #[a, b], t) :: L) ((W.setCell ⟨N, 0, none⟩ a).setCell ⟨N, 1, none⟩ b) := (h.set hN hL 0 a).set hN hL 1 b
theorem Hl.set3 {w W : World} {L : List (Nat × Array Value × TypeId)} {N : Nat} {x y z : Value} {t : TypeId} (h : Hl w ((N, #[x, y, z], t) :: L) W) (hN : w.heap.size ≤ N) (hL : ∀ p ∈ L, p.1 ≠ N) (a b c : Value) : Hl w ((N, #[a, b, c], t) :: L) (((W.setCell ⟨N, 0, none⟩ a).setCell ⟨N, 1, none⟩ b).setCell ⟨N, 2, none⟩ c) := ((h.set hN hL 0 a).set hN hL 1 b).set hN hL 2 c
theorem Hl.swap {w W : World} {p q : Nat × Array Value × TypeId} {L : List (Nat × Array Value × TypeId)} (h : Hl w (p :: q :: L) W) : Hl w (q :: p :: L) W := ⟨h.1, fun r hr => h.2 r (by simp only [List.mem_cons] at hr ⊢; rcases hr with hr | hr | hr <;> simp [hr])⟩
theorem Hl.past {w W W' : World} {L : List (Nat × Array Value × TypeId)} (h : Hl w L W) {row : Option Nat} (g : W.grownBy W' row) (hr : ∀ r, row = some r → w.heap.size ≤ r ∧ ∀ p ∈ L, p.1 ≠ r) : Hl w L W' := ⟨h.1.grown g h.1.size (fun r e => (hr r e).1), fun p hp => (g.block _ (lt_of_block (h.2 p hp)) (fun e => by
    subst e; exact (hr p.1 rfl).2 p hp rfl)).trans (h.2 p hp)⟩
theorem Hl.sub {w W : World} {L L' : List (Nat × Array Value × TypeId)} (h : Hl w L W) (hs : ∀ p ∈ L', p ∈ L) : Hl w L' W := ⟨h.1, fun p hp => h.2 p (hs p hp)⟩
end Go.Proofs.YtokkigfjabbdaaaGreatDoor

/- The specification's HeadNow. No condition. -/
namespace Go.Proofs.YtokkigfjabbdaaaGreatDoor
open Go.RowKit
set_option maxRecDepth 100000
set_option linter.unusedVariables false

/-- Which head counts. -/
def nowDk (d : PDisk) : PHead := if diskB d = false then zeroH else if (readDk (sectorD d 0)).1.no < (readDk (sectorD d 1)).1.no then (readDk (sectorD d 1)).1 else (readDk (sectorD d 0)).1
theorem sector_size {d : PDisk} (h : diskB d = true) {x : Int} (hx : 0 ≤ x ∧ x ≤ 129) : (sectorD d x).size = 64 := by
  have hl := diskB_len h
  have hp : ∀ ps : List (Int × ByteArray), (∀ p ∈ ps, p.2.size = 64) → ∀ s, putAt x ps = some s → s.size = 64 := by
    intro ps
    induction ps with
    | nil => intro _ s e; simp [putAt] at e
    | cons q ps ih =>
      intro hq s e
      rw [putAt] at e
      split at e
      · rename_i s' e'
        simp only [Option.some.injEq] at e
        subst e
        exact ih (fun p hp => hq p (List.mem_cons_of_mem _ hp)) _ e'
      · split at e
        · simp only [Option.some.injEq] at e
          subst e
          exact hq q (List.mem_cons_self ..)
        · cases e
  unfold sectorD
  cases e : putAt x d.late with
  | some s => exact hp d.late (fun p hpm => by obtain ⟨k, hk, rfl⟩ := List.getElem_of_mem hpm; exact (diskB_late h hk).2.2) s e
  | none =>
    have hk : x.toNat < d.safe.length := by omega
    simp only [Option.getD_none, List.getD_eq_getElem?_getD, List.getElem?_eq_getElem hk, Option.getD_some]
    exact diskB_safe h hk

set_option maxHeartbeats 1000000 in
set_option maxRecDepth 100000 in
theorem sheadNow_any {w : World} {v : Value} {d : PDisk} (h : DiskAt w v d) (hf : DiskFit d) : Calls Tryz.prog 27 #[v] w fun e w' => e = .returned (headV (nowDk d)) ∧ Below w.heap.size w w' := by
  have HD := (show Hid (DiskAt w v d) from h)
  have HF := (show Hid (DiskFit d) from hf)
  obtain ⟨sa, sn, sc, la, ln, lc, rfl, _, _⟩ := h
  obtain ⟨w1, hw1⟩ : ∃ y, y = (w.alloc (.cells #[.slice sa sn sc, .slice la ln lc] 35)).alloc (.cells #[.int .i64 0, .int .i64 0, .int .i64 0] 36) := ⟨_, rfl⟩
  have h1 : Hl w [(w.heap.size + 1, #[.int .i64 0, .int .i64 0, .int .i64 0], 36), (w.heap.size, #[.slice sa sn sc, .slice la ln lc], 35)] w1 := by
    have := ((Hl.refl w).new #[.slice sa sn sc, .slice la ln lc] 35).new #[.int .i64 0, .int .i64 0, .int .i64 0] 36
    rw [World.size_alloc] at this
    rw [hw1]; exact this
  have H1 := (show Hid _ from h1)
  clear h1 hf
  go_enter Tryz.func27, Tryz.ntmps27
  go_wp2_with fail
  go_at_call 25
  rw [← hw1]
  refine (sdiskOk_any (HD.out.below H1.out.1) HF.out).mono ?_
  rintro e w2 ⟨rfl, b2⟩
  clear hw1
  have H2 := (show Hid _ from H1.out.below b2)
  clear H1 b2
  cases hb : diskB d
  · have HR : Hid (nowDk d = zeroH) := (show nowDk d = zeroH by rw [nowDk, if_pos hb])
    clear hb
    obtain ⟨q1, q2, q3, q4, q5, q6⟩ := rk_three H2.out.at0
    go_wp2
    refine bodyPost_ret (results_cell_row rfl _ _ (w.heap.size + 1) 36 #[.int .i64 0, .int .i64 0, .int .i64 0] (0, 0) _ rfl (H2.out.set3 (by omega) (by simp) _ _ _).at0 Tryz.underlying36 rfl rfl) rfl ?_
    exact ⟨by rw [HR.out]; rfl, (H2.out.set3 (by omega) (by simp) _ _ _).1⟩
  · obtain ⟨s0, hs0⟩ : ∃ s, s = sectorD d 0 := ⟨_, rfl⟩
    obtain ⟨s1, hs1⟩ : ∃ s, s = sectorD d 1 := ⟨_, rfl⟩
    obtain ⟨⟨⟨a0, a1, a2⟩, k0⟩, ha⟩ : ∃ x, x = readDk s0 := ⟨_, rfl⟩
    obtain ⟨⟨⟨b0, b1, b2⟩, k1⟩, hb1⟩ : ∃ x, x = readDk s1 := ⟨_, rfl⟩
    have HR : Hid (nowDk d = if a0 < b0 then ⟨b0, b1, b2⟩ else ⟨a0, a1, a2⟩) := (show nowDk d = _ by rw [nowDk, if_neg (by rw [hb]; simp), ← hs0, ← hs1, ← ha, ← hb1])
    have hl := diskB_len hb
    have CO0 := (show Hid (∀ W, Below w.heap.size w W → Calls Tryz.prog 58 #[.agg #[.slice sa sn sc, .slice la ln lc], .int .i64 0] W fun e w' => e = .returned (.string s0) ∧ Below W.heap.size W w') from fun W b => by rw [hs0]; exact sl15Of_any (HD.out.below b) HF.out ⟨by omega, by omega⟩)
    have CO1 := (show Hid (∀ W, Below w.heap.size w W → Calls Tryz.prog 58 #[.agg #[.slice sa sn sc, .slice la ln lc], .int .i64 1] W fun e w' => e = .returned (.string s1) ∧ Below W.heap.size W w') from fun W b => by rw [hs1]; exact sl15Of_any (HD.out.below b) HF.out ⟨by omega, by omega⟩)
    have CR0 := (show Hid (∀ W, Calls Tryz.prog 57 #[.string s0] W fun e w' => e = .returned (.tuple #[.agg #[.int .i64 a0, .int .i64 a1, .int .i64 a2], .bool k0]) ∧ Below W.heap.size W w') from fun W => by
      have := sheadRead_any s0 W (by rw [hs0, sector_size hb ⟨by omega, by omega⟩]; omega)
      rw [← ha] at this; exact this)
    have CR1 := (show Hid (∀ W, Calls Tryz.prog 57 #[.string s1] W fun e w' => e = .returned (.tuple #[.agg #[.int .i64 b0, .int .i64 b1, .int .i64 b2], .bool k1]) ∧ Below W.heap.size W w') from fun W => by
      have := sheadRead_any s1 W (by rw [hs1, sector_size hb ⟨by omega, by omega⟩]; omega)
      rw [← hb1] at this; exact this)
    clear hs0 hs1 ha hb1 hb hl
    obtain ⟨q1, q2, _, _⟩ := rk_two H2.out.at1
    go_wp2_with fail
    go_at_call 58
    refine (CO0.out _ H2.out.1).mono ?_
    rintro e w3 ⟨rfl, b3⟩
    have H3 := (show Hid _ from H2.out.below b3)
    clear H2 b3 q1 q2 CO0
    go_wp2_with fail
    go_at_call 57
    refine (CR0.out _).mono ?_
    rintro e w4 ⟨rfl, b4⟩
    have H4 := (show Hid _ from H3.out.below b4)
    have H5 := (show Hid _ from H4.out.new #[.int .i64 a0, .int .i64 a1, .int .i64 a2] 36)
    obtain ⟨w5, hw5⟩ : ∃ y, y = w4.alloc (.cells #[.int .i64 a0, .int .i64 a1, .int .i64 a2] 36) := ⟨_, rfl⟩
    rw [← hw5] at H5
    obtain ⟨q1, q2, _, _⟩ := rk_two H5.out.at2
    clear H3 b4 CR0
    go_upto_region 4 with fail
    rw [← hw5]
    clear hw5
    go_wp2_with fail
    go_at_call 58
    refine (CO1.out _ H5.out.1).mono ?_
    rintro e w6 ⟨rfl, b6⟩
    have H6 := (show Hid _ from H5.out.below b6)
    clear H5 b6 q1 q2 CO1
    go_wp2_with fail
    go_at_call 57
    refine (CR1.out _).mono ?_
    rintro e w7 ⟨rfl, b7⟩
    have H7 := (show Hid _ from H6.out.below b7)
    have hn1 : w.heap.size + 1 < w4.heap.size := H4.out.lt (p := (w.heap.size + 1, #[.int .i64 0, .int .i64 0, .int .i64 0], 36)) (by simp)
    have hn2 : w4.heap.size < w7.heap.size := H7.out.lt (List.mem_cons_self ..)
    have H8 := (show Hid _ from H7.out.new #[.int .i64 b0, .int .i64 b1, .int .i64 b2] 36)
    obtain ⟨w8, hw8⟩ : ∃ y, y = w7.alloc (.cells #[.int .i64 b0, .int .i64 b1, .int .i64 b2] 36) := ⟨_, rfl⟩
    rw [← hw8] at H8
    obtain ⟨m1, m2, m3, _⟩ := rk_three H8.out.at0
    obtain ⟨n1, n2, n3, _⟩ := rk_three H8.out.at1
    obtain ⟨r1, r2, r3, r4, r5, r6⟩ := rk_three H8.out.at2
    have H9 := (show Hid (Hl w ((w.heap.size + 1, #[.int .i64 0, .int .i64 0, .int .i64 0], 36) :: []) w8) from ⟨H8.out.1, fun p hp => by
      simp only [List.mem_cons, List.not_mem_nil, or_false] at hp; rw [hp]; exact H8.out.at2⟩)
    clear H4 H6 H7 b7 CR1 H8 hn1 hn2
    by_cases hlt : a0 < b0
    · have HQ : Hid (nowDk d = ⟨b0, b1, b2⟩) := (show nowDk d = _ by rw [HR.out, if_pos hlt])
      clear HR
      go_upto_region 5 with fail
      rw [← hw8]
      clear hw8
      go_wp2
      refine bodyPost_ret (results_cell_row rfl _ _ (w.heap.size + 1) 36 #[.int .i64 b0, .int .i64 b1, .int .i64 b2] (0, 0) _ rfl (H9.out.set3 (by omega) (by simp) _ _ _).at0 Tryz.underlying36 rfl rfl) rfl ?_
      exact ⟨by rw [HQ.out]; rfl, (H9.out.set3 (by omega) (by simp) _ _ _).1⟩
    · have HQ : Hid (nowDk d = ⟨a0, a1, a2⟩) := (show nowDk d = _ by rw [HR.out, if_neg hlt])
      clear HR
      go_upto_region 5 with fail
      rw [← hw8]
      clear hw8
      go_wp2
      refine bodyPost_ret (results_cell_row rfl _ _ (w.heap.size + 1) 36 #[.int .i64 a0, .int .i64 a1, .int .i64 a2] (0, 0) _ rfl (H9.out.set3 (by omega) (by simp) _ _ _).at0 Tryz.underlying36 rfl rfl) rfl ?_
      exact ⟨by rw [HQ.out]; rfl, (H9.out.set3 (by omega) (by simp) _ _ _).1⟩
end Go.Proofs.YtokkigfjabbdaaaGreatDoor

/- The specification's HeadPut. No condition. -/
namespace Go.Proofs.YtokkigfjabbdaaaGreatDoor
open Go.RowKit
set_option maxRecDepth 100000
set_option linter.unusedVariables false

/-- A disk with a head put. -/
def headPutDk (d : PDisk) (h : PHead) : PDisk × Bool := if diskB d = false then (zeroDk, false) else if headB h = false then (d, false) else putDk d (h.no % 2) (packS h)
theorem OwnDk.based {B B' : Nat} {w : World} {v : Value} {d : PDisk} (h : OwnDk B w v d) (hB : B' ≤ B) : OwnDk B' w v d := by
  obtain ⟨sa, sn, sc, la, ln, lc, e, h1, h2⟩ := h
  exact ⟨sa, sn, sc, la, ln, lc, e, rk_base h1 hB, rk_base h2 hB⟩
theorem OwnDk.setD {B b k : Nat} {w : World} {v u : Value} {d : PDisk} (h : OwnDk B w v d) {cs : Array Value} {fr : Nat × Nat} (hb : w.heap[b]? = some (.cells cs 35 fr)) : OwnDk B (w.setCell ⟨b, k, none⟩ u) v d := by
  obtain ⟨sa, sn, sc, la, ln, lc, e, h1, h2⟩ := h
  exact ⟨sa, sn, sc, la, ln, lc, e, rk_set h1 hb (by decide), rk_set h2 hb (by decide)⟩
/-- A disk of the call's own is laid into the result's block. -/
theorem OwnDk.laid {w W : World} {L : List (Nat × Array Value × TypeId)} {N : Nat} {x y a b : Value} {d : PDisk} (h : Hl w ((N, #[x, y], 35) :: L) W) (hN : w.heap.size ≤ N) (hL : ∀ p ∈ L, p.1 ≠ N) (o : OwnDk w.heap.size W (.agg #[a, b]) d) :
    OwnDk w.heap.size ((W.setCell ⟨N, 0, none⟩ a).setCell ⟨N, 1, none⟩ b) (.agg #[a, b]) d ∧ Below w.heap.size w ((W.setCell ⟨N, 0, none⟩ a).setCell ⟨N, 1, none⟩ b) ∧ ((W.setCell ⟨N, 0, none⟩ a).setCell ⟨N, 1, none⟩ b).heap[N]? = some (.cells #[a, b] 35 (0, 0)) :=
  ⟨(o.setD h.at0).setD (h.set hN hL 0 a).at0, (h.set2 hN hL a b).1, (h.set2 hN hL a b).at0⟩

end Go.Proofs.YtokkigfjabbdaaaGreatDoor

/- The specification's l16Area, l16Get, AreaGet. No condition. -/
namespace Go.Proofs.YtokkigfjabbdaaaGreatDoor
open Go.RowKit
set_option maxRecDepth 100000
set_option linter.unusedVariables false

set_option maxHeartbeats 1000000 in
set_option maxRecDepth 100000 in
theorem sl16Get_any {w : World} {v : Value} {d : PDisk} (h : DiskAt w v d) (hr : diskB d = true) {a : Int} (ha : a = 0 ∨ a = 1) (at' n : Nat) (hn : at' + n ≤ 4096) :
    Calls Tryz.prog 60 #[v, .int .i64 a, .int .i64 at', .int .i64 n] w fun e w' => ∃ u, e = .returned u ∧ Own w.heap.size 5 .u8 w' u (getL d a at' n) ∧ Below w.heap.size w w' := by
  have HD := (show Hid (DiskAt w v d) from h)
  obtain ⟨sa, sn, sc, la, ln, lc, rfl, _, _⟩ := h
  have HR := (show Hid (diskB d = true) from hr)
  have a0 : 0 ≤ a := by omega
  have a1 : a ≤ 1 := by omega
  have CO := (show Hid (∀ (k : Nat) W, k < n → Below w.heap.size w W → Calls Tryz.prog 58 #[.agg #[.slice sa sn sc, .slice la ln lc], .int .i64 (2 + 64 * a + ((at' : Int) + (k : Int)) / 64)] W fun e w' => e = .returned (.string (sectorD d (secOf a ((at' + k) / 64)))) ∧ Below W.heap.size W w') from fun k W hk b => by
    have e : 2 + 64 * a + ((at' : Int) + (k : Int)) / 64 = secOf a ((at' + k) / 64) := by unfold secOf; omega
    rw [e]
    exact sl15Of_any (HD.out.below b) (fit_right HR.out) (by have := diskB_len HR.out; unfold secOf; omega))
  have CS := (show Hid (∀ k : Nat, k < n → (sectorD d (secOf a ((at' + k) / 64))).size = 64) from fun k hk => sector_size HR.out (by unfold secOf; omega))
  obtain ⟨i0, hi, hz0, hz1, hz2⟩ := info_parts Tryz.infoB
  have h1 := (Hl.refl w).new #[.slice sa sn sc, .slice la ln lc] 35
  have o1 := own_empty 5 .u8 (w.alloc (.cells #[.slice sa sn sc, .slice la ln lc] 35))
  have h2 : Hl w [(w.heap.size, #[.slice sa sn sc, .slice la ln lc], 35)] ((w.alloc (.cells #[.slice sa sn sc, .slice la ln lc] 35)).alloc (.cells #[] 5)) := h1.below ((Below.refl _ _).alloc (Nat.le_refl _) _)
  rw [World.size_alloc] at o1
  have S0 := (show Hid (_ ∧ _) from ⟨o1, h2⟩)
  clear h1 o1 h2 hr ha
  go_enter Tryz.func60, Tryz.ntmps60
  go_wp2_with fail
  go_loopw [9, 10] (fun z i wr => ∃ k : Nat, k ≤ n ∧ i = .int .i64 k ∧ Own (w.heap.size + 1) 5 .u8 wr z (getL d a at' k) ∧ Hl w [(w.heap.size, #[.slice sa sn sc, .slice la ln lc], 35)] wr) (fun z i _ => n - (intOf i).toNat)
  case atStart => exact ⟨0, Nat.zero_le _, rfl, S0.out.1, S0.out.2⟩
  case round =>
    clear S0
    obtain ⟨k, hk, rfl, ho, hl⟩ := hrel
    have HO := (show Hid (Own (w.heap.size + 1) 5 .u8 wr u9 (getL d a at' k)) from ho)
    have HL := (show Hid (Hl w [(w.heap.size, #[.slice sa sn sc, .slice la ln lc], 35)] wr) from hl)
    clear ho hl
    by_cases hlt : k < n
    · have hltI : (k : Int) < n := by omega
      obtain ⟨q1, q2, _, _⟩ := rk_two HL.out.at0
      have C1 := (show Hid _ from CO.out k wr hlt HL.out.1)
      have C2 := CS.out k hlt
      obtain ⟨s, hs⟩ : ∃ s, s = sectorD d (secOf a ((at' + k) / 64)) := ⟨_, rfl⟩
      rw [← hs] at C1 C2
      have HS := (show Hid (_ = _) from hs)
      clear hs
      go_wp2_with fail
      go_at_call 58
      refine Calls.mono C1.out ?_
      rintro e w3 ⟨rfl, b3⟩
      have L3 := (show Hid _ from HL.out.below b3)
      have O3 := (show Hid (Own (w.heap.size + 1) 5 .u8 w3 u9 (getL d a at' k)) from HO.out.below b3)
      clear C1 b3 HL HO q1 q2
      have hj : (at' + k) % 64 < s.size := by omega
      obtain ⟨x, hx⟩ : ∃ x : Int, x = ((s[(at' + k) % 64]'hj).toNat : Int) := ⟨_, rfl⟩
      have HX : Hid (getL d a at' k ++ [x] = getL d a at' (k + 1)) := (show _ = _ by rw [getL_succ, byteD, ← HS.out, hx, bs_at])
      have glen := getL_len d a at' k
      have q1 : ((getL d a at' k).length + ([x] : List Int).length) * 1 ≤ 140737488355328 := by rw [glen, List.length_singleton]; omega
      have q2 : (getL d a at' k).length + ([x] : List Int).length ≤ maxLen := by rw [glen, List.length_singleton]; unfold maxLen; omega
      have q3 : w.heap.size + 1 ≤ (w3.alloc (.cells #[.int .u8 x] 5)).heap.size := by rw [World.size_alloc]; have := L3.out.1.size; omega
      have qo : Own (w.heap.size + 1) 5 .u8 (w3.alloc (.cells #[.int .u8 x] 5)) u9 (getL d a at' k) := O3.out.below ((Below.refl _ _).alloc (Nat.le_refl _) _)
      have ql := L3.out.below ((Below.refl w3.heap.size w3).alloc (Nat.le_refl _) (.cells #[.int .u8 x] 5))
      have Q := (show Hid (_ ∧ _ ∧ _ ∧ _) from ⟨q1, q2, q3, qo⟩)
      have QL := (show Hid _ from ql)
      clear q1 q2 q3 qo ql glen
      go_wp2_with (at_builtin
                   rw [← hx]
                   refine wpList_app _ rfl _ _ 58 rfl (w.heap.size + 1) 5 i0 (.int .u8 0) 1 Tryz.underlying58 hi hz0 hz1 hz2 rfl .u8 u9 _ (getL d a at' k) [x] rfl rfl Q.out.2.2.2 (sl_one 5 .u8 w3 x) Q.out.1 Q.out.2.1 Q.out.2.2.1 ?_
                   intro v8 w8 o8 g8
                   have L8 := (show Hid (Hl w [(w.heap.size, #[.slice sa sn sc, .slice la ln lc], 35)] w8) from QL.out.past g8 (fun r e => ⟨by have := (World.ownsRow.lt Q.out.2.2.2 r e).1; omega, fun p hp => by have := (World.ownsRow.lt Q.out.2.2.2 r e).1; simp only [List.mem_cons, List.not_mem_nil, or_false] at hp; rw [hp]; show w.heap.size ≠ r; omega⟩))
                   rw [HX.out] at o8
                   have O8 := (show Hid _ from o8)
                   clear o8 g8)
      go_roundw
      case rel => exact ⟨k + 1, by omega, by go_num, O8.out, L8.out⟩
      case measure => simp [intOf]; omega
    · obtain rfl : k = n := by omega
      have hltI : ¬ (k : Int) < k := by omega
      go_wp2
      go_ret
      exact ⟨_, rfl, HO.out.base (by omega), HL.out.1⟩

theorem bytes_res {fn : Func} {p q : Tmp} (h : fn.results = #[.tmp p, .tmp q]) {tmps : Array Value} {w : World} {a : Option Addr} {n c : Nat} {b : Bool} (h1 : tmps.getD p undef = .slice a n c) (h2 : tmps.getD q undef = .bool b) : (results fn tmps).run Tryz.prog w = .ok (.tuple #[.slice a n c, .bool b]) w := by
  have h1' : tmps[p]?.getD undef = .slice a n c := by simpa using h1
  have h2' : tmps[q]?.getD undef = .bool b := by simpa using h2
  simp [results, h, h1', h2', go_sem]

end Go.Proofs.YtokkigfjabbdaaaGreatDoor

/- The specification's AreaPut. No condition. -/
namespace Go.Proofs.YtokkigfjabbdaaaGreatDoor
open Go.RowKit
set_option maxRecDepth 100000
set_option linter.unusedVariables false

/-- The bytes of a sector while they are laid. -/
def partL (old b : List Int) (at' k i : Nat) : List Int := (newL old b at' k).take i ++ old.drop i
theorem partL_zero (old b : List Int) (at' k : Nat) : partL old b at' k 0 = old := by simp [partL]
theorem partL_all {old : List Int} (h : old.length = 64) (b : List Int) (at' k : Nat) : partL old b at' k 64 = newL old b at' k := by
  unfold partL
  rw [List.take_of_length_le (by rw [newL_len]; omega), List.drop_of_length_le (by omega), List.append_nil]
theorem partL_len {old : List Int} (h : old.length = 64) (b : List Int) (at' k i : Nat) (hi : i ≤ 64) : (partL old b at' k i).length = 64 := by
  simp only [partL, List.length_append, List.length_take, List.length_drop, newL_len, h]; omega
theorem newL_at (old b : List Int) (at' k i : Nat) (hi : i < (newL old b at' k).length) : (newL old b at' k)[i] = if at' ≤ 64 * k + i ∧ 64 * k + i < at' + b.length then b.getD (64 * k + i - at') 0 else old.getD i 0 := by
  simp [newL]
theorem partL_yes {old : List Int} (h : old.length = 64) {b : List Int} {at' k i : Nat} (hi : i < 64) (hc : at' ≤ 64 * k + i ∧ 64 * k + i < at' + b.length) : (partL old b at' k i).set i (b.getD (64 * k + i - at') 0) = partL old b at' k (i + 1) := by
  have hn : i < (newL old b at' k).length := by rw [newL_len]; exact hi
  have ht : ((newL old b at' k).take i).length = i := by rw [List.length_take, newL_len]; omega
  unfold partL
  rw [List.drop_eq_getElem_cons (by omega), List.set_append_right _ _ (by omega), ht, Nat.sub_self, List.set_cons_zero, List.take_succ_eq_append_getElem hn, newL_at, if_pos hc, List.append_assoc]
  rfl
theorem partL_no {old : List Int} (h : old.length = 64) {b : List Int} {at' k i : Nat} (hi : i < 64) (hc : ¬ (at' ≤ 64 * k + i ∧ 64 * k + i < at' + b.length)) : partL old b at' k i = partL old b at' k (i + 1) := by
  have hn : i < (newL old b at' k).length := by rw [newL_len]; exact hi
  unfold partL
  rw [List.take_succ_eq_append_getElem hn, newL_at, if_neg hc, List.append_assoc, List.drop_eq_getElem_cons (by omega : i < old.length)]
  simp [List.getD_eq_getElem?_getD, show i < old.length by omega]

/-- What AreaPut holds while it goes on: its out, the copy, the result's block, the argument. -/
structure ApI (w : World) (O S3 : Nat) (x y s t p q : Value) (d e : PDisk) (W : World) : Prop where
  hl : Hl w [(O, #[x, y], 35), (S3, #[s, t], 35), (w.heap.size + 1, #[.slice none 0 0, .slice none 0 0], 35), (w.heap.size, #[p, q], 35)] W
  oe : OwnDk w.heap.size W (.agg #[x, y]) e
  od : OwnDk w.heap.size W (.agg #[s, t]) d
theorem ApI.below {w : World} {O S3 : Nat} {x y s t p q : Value} {d e : PDisk} {W W' : World} (h : ApI w O S3 x y s t p q d e W) (b : Below W.heap.size W W') : ApI w O S3 x y s t p q d e W' := ⟨h.hl.below b, h.oe.below b, h.od.below b⟩
theorem OwnDk.setT {B b k : Nat} {w : World} {v u : Value} {d : PDisk} (h : OwnDk B w v d) {cs : Array Value} {t : TypeId} {fr : Nat × Nat} (hb : w.heap[b]? = some (.cells cs t fr)) (h1 : t ≠ 9) (h2 : t ≠ 88) : OwnDk B (w.setCell ⟨b, k, none⟩ u) v d := by
  obtain ⟨sa, sn, sc, la, ln, lc, e, o1, o2⟩ := h
  exact ⟨sa, sn, sc, la, ln, lc, e, rk_set o1 hb h1, rk_set o2 hb h2⟩
/-- A byte of the text is laid. -/
theorem ApI.byte {w : World} {O S3 : Nat} {x y s t p q : Value} {d e : PDisk} {W : World} (h : ApI w O S3 x y s t p q d e W) {T k : Nat} {u : Value} {xs : List Int} (hT : Blk .u8 5 W T xs) (hO : O < T) (hS : S3 < O) (hw : w.heap.size + 1 < S3) : ApI w O S3 x y s t p q d e (W.setCell ⟨T, k, none⟩ u) := by
  obtain ⟨cur, lo, hi, hh, _⟩ := hT
  exact ⟨h.hl.past (grown_setCell _ _ _ _) (fun r e => by cases e; exact ⟨by omega, by simp; omega⟩), h.oe.setT hh (by decide) (by decide), h.od.setT hh (by decide) (by decide)⟩
/-- The new disk is laid into out. -/
theorem ApI.turn {w : World} {O S3 : Nat} {x y s t p q : Value} {d e : PDisk} {W : World} (h : ApI w O S3 x y s t p q d e W) (hS : S3 < O) (hw : w.heap.size + 1 < S3) {a b : Value} {e' : PDisk} (o : OwnDk w.heap.size W (.agg #[a, b]) e') : ApI w O S3 a b s t p q d e' ((W.setCell ⟨O, 0, none⟩ a).setCell ⟨O, 1, none⟩ b) := by
  have hL : ∀ r ∈ [(S3, #[s, t], 35), (w.heap.size + 1, #[.slice none 0 0, .slice none 0 0], 35), (w.heap.size, #[p, q], 35)], r.1 ≠ O := by simp; omega
  exact ⟨h.hl.set2 (by omega) hL a b, (o.setD h.hl.at0).setD (h.hl.set (by omega) hL 0 a).at0, (h.od.setD h.hl.at0).setD (h.hl.set (by omega) hL 0 a).at0⟩

end Go.Proofs.YtokkigfjabbdaaaGreatDoor

/- What is put is got, and no other byte is turned, plainly. No condition. -/
namespace Go.Proofs.YtokkigfjabbdaaaGreatDoor
open Go.RowKit
set_option maxRecDepth 100000
set_option linter.unusedVariables false

theorem newL_byte {s : ByteArray} {b : List Int} (hb : ∀ x ∈ b, 0 ≤ x ∧ x ≤ 255) (A k : Nat) : ∀ x ∈ newL (bs s) b A k, 0 ≤ x ∧ x ≤ 255 := by
  intro x hx
  simp only [newL, List.mem_map, List.mem_range] at hx
  obtain ⟨i, _, rfl⟩ := hx
  split
  · rename_i h
    have hl : 64 * k + i - A < b.length := by omega
    simp only [List.getD_eq_getElem?_getD, List.getElem?_eq_getElem hl, Option.getD_some]
    exact hb _ (List.getElem_mem _)
  · exact bs_bound s i
theorem newL_getD (old b : List Int) (A k i : Nat) (hi : i < 64) : (newL old b A k).getD i 0 = if A ≤ 64 * k + i ∧ 64 * k + i < A + b.length then b.getD (64 * k + i - A) 0 else old.getD i 0 := by
  have hl : i < (newL old b A k).length := by rw [newL_len]; exact hi
  rw [List.getD_eq_getElem?_getD, List.getElem?_eq_getElem hl, Option.getD_some, newL_at]
/-- The bytes of the area that was put to. -/
theorem byteD_area {d e : PDisk} {a : Int} {b : List Int} (hb : ∀ x ∈ b, 0 ≤ x ∧ x ≤ 255) {A : Nat} (h : areaN d a b A 64 = some e) {k : Nat} (hk : k < 4096) : byteD e a k = if A ≤ k ∧ k < A + b.length then b.getD (k - A) 0 else byteD d a k := by
  obtain ⟨_, h2⟩ := areaN_sector h
  have hj : k / 64 < 64 := by omega
  have hi : k % 64 < 64 := by omega
  have e1 : 64 * (k / 64) + k % 64 = k := by omega
  unfold byteD
  rw [h2 _ hj]
  split
  · unfold newS
    rw [bs_strOf (newL_byte hb _ _), newL_getD _ _ _ _ _ hi, e1]
  · rename_i ht
    have : ¬ (A ≤ k ∧ k < A + b.length) := fun hc => ht (by simp only [touch, Bool.and_eq_true, decide_eq_true_eq]; omega)
    rw [if_neg this]
/-- Those of the other one. -/
theorem byteD_other {d e : PDisk} {a : Int} {b : List Int} {A : Nat} (ha : a = 0 ∨ a = 1) (h : areaN d a b A 64 = some e) {k : Nat} (hk : k < 4096) : byteD e (1 - a) k = byteD d (1 - a) k := by
  obtain ⟨h1, _⟩ := areaN_sector h
  unfold byteD
  rw [h1 _ (fun j hj => by unfold secOf; omega)]
theorem sector_heads {d e : PDisk} {a : Int} {b : List Int} {A : Nat} (ha : a = 0 ∨ a = 1) (h : areaN d a b A 64 = some e) {x : Int} (hx : x = 0 ∨ x = 1) : sectorD e x = sectorD d x := (areaN_sector h).1 _ (fun j hj => by unfold secOf; omega)
theorem getL_congr {d e : PDisk} {a c : Int} {A n : Nat} (h : ∀ j, j < n → byteD e a (A + j) = byteD d c (A + j)) : getL e a A n = getL d c A n := by
  unfold getL
  apply List.map_congr_left
  intro j hj
  exact h j (List.mem_range.mp hj)
theorem area_yes {d : PDisk} {a at' : Int} {b : List Int} (h : (areaDk d a at' b).2 = true) : diskB d = true ∧ (a = 0 ∨ a = 1) ∧ 0 ≤ at' ∧ at' ≤ 4096 ∧ (b.length : Int) ≤ 4096 - at' ∧ areaN d a b at'.toNat 64 = some (areaDk d a at' b).1 := by
  unfold areaDk at h ⊢
  split at h
  · cases h
  · rename_i hb
    rw [if_neg hb]
    split at h
    · cases h
    · rename_i hp
      rw [if_neg hp]
      simp only [putOkA, inB, Bool.not_eq_false, Bool.and_eq_true, Bool.or_eq_true, decide_eq_true_eq] at hp
      cases e : areaN d a b at'.toNat 64 with
      | none => rw [e] at h; cases h
      | some e' => exact ⟨by simpa using hb, hp.1.1, hp.1.2.1, hp.1.2.2, hp.2, by simp⟩
theorem area_no {d : PDisk} {a at' : Int} {b : List Int} (h : (areaDk d a at' b).2 = false) : (areaDk d a at' b).1.late.length = d.late.length ∨ (areaDk d a at' b).1.safe.length = 0 := by
  unfold areaDk at h ⊢
  split at h
  · rename_i hb
    rw [if_pos hb]
    exact .inr rfl
  · rename_i hb
    rw [if_neg hb]
    split at h
    · rename_i hp
      rw [if_pos hp]
      exact .inl rfl
    · rename_i hp
      rw [if_neg hp]
      cases e : areaN d a b at'.toNat 64 with
      | none => exact .inl rfl
      | some e' => rw [e] at h; cases h
theorem get_right {d : PDisk} (hd : diskB d = true) {a at' n : Int} (ha : a = 0 ∨ a = 1) (h0 : 0 ≤ at') (h1 : 0 ≤ n) (h2 : at' + n ≤ 4096) : getDk d a at' n = (getL d a at'.toNat n.toNat, true) := by
  rw [getDk, if_pos]
  simp only [getOk, inB, Bool.and_eq_true, Bool.or_eq_true, decide_eq_true_eq]
  exact ⟨⟨⟨hd, ha⟩, by omega, by omega⟩, by omega, by omega⟩
/-- What FnAreas asks. -/
structure AreaSays (d e : PDisk) (a at' : Int) (b : List Int) : Prop where
  got : getDk e a at' b.length = (b, true)
  head : getDk e a 0 at' = getDk d a 0 at'
  one : (getDk d a 0 at').2 = true
  tail : getDk e a (at' + b.length) (4096 - (at' + b.length)) = getDk d a (at' + b.length) (4096 - (at' + b.length))
  two : (getDk d a (at' + b.length) (4096 - (at' + b.length))).2 = true
  other : getDk e (1 - a) 0 4096 = getDk d (1 - a) 0 4096
  three : (getDk d (1 - a) 0 4096).2 = true
theorem area_says {d : PDisk} {a at' : Int} {b : List Int} (hb : ∀ x ∈ b, 0 ≤ x ∧ x ≤ 255) (h : (areaDk d a at' b).2 = true) : AreaSays d (areaDk d a at' b).1 a at' b := by
  obtain ⟨hd, ha, h0, h1, h2, hN⟩ := area_yes h
  obtain ⟨e, he⟩ : ∃ e, e = (areaDk d a at' b).1 := ⟨_, rfl⟩
  rw [← he] at hN ⊢
  obtain ⟨A, rfl⟩ : ∃ A : Nat, at' = A := ⟨at'.toNat, by omega⟩
  simp only [Int.toNat_natCast] at hN
  have hr : diskB e = true := areaN_right hd ha (Nat.le_refl _) hN
  have ha' : 1 - a = 0 ∨ 1 - a = 1 := by omega
  have hn : ((A : Int) + b.length).toNat = A + b.length := by omega
  have hm : (4096 - ((A : Int) + b.length)).toNat = 4096 - (A + b.length) := by omega
  refine ⟨?_, ?_, ?_, ?_, ?_, ?_, ?_⟩
  · rw [get_right hr ha h0 (by omega) (by omega)]
    simp only [Int.toNat_natCast, Prod.mk.injEq, and_true]
    apply List.ext_getElem
    · rw [getL_len]
    · intro j hj1 hj2
      rw [getL_len] at hj1
      simp only [getL, List.getElem_map, List.getElem_range]
      rw [byteD_area hb hN (by omega), if_pos ⟨by omega, by omega⟩, show A + j - A = j by omega]
      simp [List.getD_eq_getElem?_getD, hj2]
  · rw [get_right hr ha (by omega) h0 (by omega), get_right hd ha (by omega) h0 (by omega)]
    simp only [Int.toNat_natCast, Int.toNat_zero, Prod.mk.injEq, and_true]
    exact getL_congr (fun j hj => by rw [byteD_area hb hN (by omega), if_neg (by omega)])
  · rw [get_right hd ha (by omega) h0 (by omega)]
  · rw [get_right hr ha (by omega) (by omega) (by omega), get_right hd ha (by omega) (by omega) (by omega), hn, hm]
    simp only [Prod.mk.injEq, and_true]
    exact getL_congr (fun j hj => by rw [byteD_area hb hN (by omega), if_neg (by omega)])
  · rw [get_right hd ha (by omega) (by omega) (by omega)]
  · rw [get_right hr ha' (by omega) (by omega) (by omega), get_right hd ha' (by omega) (by omega) (by omega)]
    simp only [Prod.mk.injEq, and_true]
    exact getL_congr (fun j hj => by
      have hj' : j < 4096 := by simpa using hj
      rw [byteD_other ha hN (by simpa using hj')])
  · rw [get_right hd ha' (by omega) (by omega) (by omega)]
theorem area_now {d : PDisk} {a at' : Int} {b : List Int} (h : (areaDk d a at' b).2 = true) : nowDk (areaDk d a at' b).1 = nowDk d := by
  obtain ⟨hd, ha, h0, h1, h2, hN⟩ := area_yes h
  have hr : diskB (areaDk d a at' b).1 = true := areaN_right hd ha (Nat.le_refl _) hN
  unfold nowDk
  rw [sector_heads ha hN (.inl rfl), sector_heads ha hN (.inr rfl), hr, hd]
end Go.Proofs.YtokkigfjabbdaaaGreatDoor
