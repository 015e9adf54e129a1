import Derived.Test.YtiejfnnokfedkaaDoorB20
import Derived.Test.YtiejfnnokfedkaaDoorLawK
import Derived.Deep.RegionHeld3
import Derived.Test.YtiejfnnokfedkaaDoorB19
/- The exact law of AreaPut, from the program's contract (written by mk/warea.py). -/
namespace Go.Proofs.YtiejfnnokfedkaaDoor
open Go.RowKit
set_option maxRecDepth 100000
set_option linter.unusedVariables false

def AreaPutOz : Prop := ∀ (w : World) (v : Value) (d : PDisk) (ar at' : Int) (u : Value) (b : List Int), DiskAt w v d → DiskFit d → (Lit.int .i64 ar).wf = true → (Lit.int .i64 at').wf = true → Sl .u8 w u b → (∀ x ∈ b, 0 ≤ x ∧ x ≤ 255) → b.length ≤ 1099511627776 → Calls Tryd.prog 18 #[v, .int .i64 ar, .int .i64 at', u] w fun e w' => ∃ v', e = .returned (.tuple #[v', .bool (areaDk d ar at' b).2]) ∧ OwnDz w.heap.size w' v' (areaDk d ar at' b).1 ∧ Below w.heap.size w w'
theorem fit_area {d : PDisk} (h : DiskFit d) (ar at' : Int) (b : List Int) : DiskFit (areaDk d ar at' b).1 := by
  unfold areaDk
  split
  · exact fit_zero
  · rename_i hb
    split
    · exact h
    · rename_i hp
      have ha : ar = 0 ∨ ar = 1 := by
        simp only [putOkA, Bool.not_eq_false, Bool.and_eq_true, Bool.or_eq_true, decide_eq_true_eq] at hp
        exact hp.1.1
      cases e : areaN d ar b at'.toNat 64 with
      | none => exact h
      | some e' => exact fit_right (areaN_right (by simpa using hb) ha (Nat.le_refl _) e)

end Go.Proofs.YtiejfnnokfedkaaDoor

/- The exact law of AreaGet, from the program's contract (written by mk/wget.py). -/
namespace Go.Proofs.YtiejfnnokfedkaaDoor
open Go.RowKit
set_option maxRecDepth 100000
set_option linter.unusedVariables false

def AreaGetOk : Prop := ∀ (w : World) (v : Value) (d : PDisk) (ar at' n : Int), DiskAt w v d → DiskFit d → (Lit.int .i64 ar).wf = true → (Lit.int .i64 at').wf = true → (Lit.int .i64 n).wf = true → Calls Tryd.prog 20 #[v, .int .i64 ar, .int .i64 at', .int .i64 n] w fun e w' => ∃ u, e = .returned (.tuple #[u, .bool (getDk d ar at' n).2]) ∧ Own w.heap.size 5 .u8 w' u (getDk d ar at' n).1 ∧ Below w.heap.size w w'
theorem getDk_len (d : PDisk) (ar at' n : Int) : (getDk d ar at' n).1.length ≤ 4096 := by
  unfold getDk
  split
  · rename_i h
    simp only [getOk, inB, Bool.and_eq_true, decide_eq_true_eq] at h
    rw [getL_len]; omega
  · simp

end Go.Proofs.YtiejfnnokfedkaaDoor

/- The law FnAreas, from the program's contracts. -/
namespace Go.Proofs.YtiejfnnokfedkaaDoor
open Go.RowKit
set_option maxRecDepth 100000
set_option linter.unusedVariables false

/-- Blocks, disks and rows of bytes, in a world that is w with more. -/
structure Aw (w : World) (L : List (Nat × Array Value × TypeId)) (D : List (Value × PDisk)) (S : List (Value × List Int)) (W : World) : Prop where
  hl : Hl w L W
  dk : ∀ p ∈ D, DiskAt W p.1 p.2
  sl : ∀ p ∈ S, Sl .u8 W p.1 p.2
section
variable {w : World} {L : List (Nat × Array Value × TypeId)} {D : List (Value × PDisk)} {S : List (Value × List Int)} {W W' : World}
theorem Aw.below (h : Aw w L D S W) (b : Below W.heap.size W W') : Aw w L D S W' := ⟨h.hl.below b, fun p hp => (h.dk p hp).below b, fun p hp => (h.sl p hp).below b⟩
theorem Aw.new (h : Aw w L D S W) (cs : Array Value) (t : TypeId) : Aw w ((W.heap.size, cs, t) :: L) D S (W.alloc (.cells cs t)) := by
  have hb : Below W.heap.size W (W.alloc (.cells cs t)) := (Below.refl _ _).alloc (Nat.le_refl _) _
  exact ⟨h.hl.new cs t, (h.below hb).dk, (h.below hb).sl⟩
theorem Aw.addD {v : Value} {d : PDisk} (h : Aw w L D S W) (o : DiskAt W v d) : Aw w L ((v, d) :: D) S W := ⟨h.hl, fun p hp => by
    rcases List.mem_cons.mp hp with rfl | hp
    · exact o
    · exact h.dk p hp, h.sl⟩
theorem Aw.addS {v : Value} {xs : List Int} (h : Aw w L D S W) (o : Sl .u8 W v xs) : Aw w L D ((v, xs) :: S) W := ⟨h.hl, h.dk, fun p hp => by
    rcases List.mem_cons.mp hp with rfl | hp
    · exact o
    · exact h.sl p hp⟩
theorem Aw.d0 {v : Value} {d : PDisk} (h : Aw w L ((v, d) :: D) S W) : DiskAt W v d := h.dk _ (List.mem_cons_self ..)
theorem Aw.d1 {v : Value} {d : PDisk} {p : Value × PDisk} (h : Aw w L (p :: (v, d) :: D) S W) : DiskAt W v d := h.dk _ (List.mem_cons_of_mem _ (List.mem_cons_self ..))
theorem Aw.s0 {v : Value} {d : List Int} (h : Aw w L D ((v, d) :: S) W) : Sl .u8 W v d := h.sl _ (List.mem_cons_self ..)
end

set_option maxHeartbeats 2000000 in
set_option maxRecDepth 100000 in
theorem fnAreas_of (H1 : AreaPutOz) (H2 : AreaGetOk) {v : Value} {xs : List Int} (w : World) (H3 : HeadNowOk w) (h : Sl .u8 w v xs) (hf : ∀ n ∈ xs, (Lit.int .u8 n).wf = true) :
    Calls Tryd.prog 4 #[v] w fun e w' => e = .returned (.bool true) ∧ Below w.heap.size w w' := by
  have hb : ∀ x ∈ xs, 0 ≤ x ∧ x ≤ 255 := byte_ok hf
  by_cases hbig : 1048576 < xs.length
  · have CB := (show Hid _ from big_any h)
    have hd : decide (1048576 < xs.length) = true := decide_eq_true hbig
    rw [hd] at CB
    go_enter Tryd.func4, Tryd.ntmps4
    go_wp2_with fail
    go_at_call 7
    refine Calls.mono CB.out ?_
    rintro e w1 ⟨rfl, e1⟩
    subst e1
    go_wp2
    go_ret
    exact ⟨rfl, Below.refl _ _⟩
  · have CB := (show Hid _ from big_any h)
    have hd : decide (1048576 < xs.length) = false := decide_eq_false hbig
    rw [hd] at CB
    have CD := (show Hid _ from drawAreaPut_any h hb (by omega))
    clear hd hf hb hbig h
    go_enter Tryd.func4, Tryd.ntmps4
    go_wp2_with fail
    go_at_call 7
    refine Calls.mono CB.out ?_
    rintro e w1 ⟨rfl, e1⟩
    subst e1
    go_wp2_with fail
    go_at_call 17
    refine Calls.mono CD.out ?_
    rintro e w2 ⟨u, d, ar, at', bv, b, rfl, hdk, hfit, ⟨r0, r1, r2, r3⟩, hsl, hby, hbl, b2⟩
    clear CB CD
    obtain ⟨sa, sn, sc, la, ln, lc, rfl, _⟩ := id hdk
    obtain ⟨ba, bc, rfl, _⟩ := id hsl
    have HF := (show Hid (DiskFit d) from hfit)
    have A2 : Aw w1 [] [(.agg #[.slice sa sn sc, .slice la ln lc], d)] [(.slice ba b.length bc, b)] w2 := ⟨(Hl.refl _).below b2, (by intro p hp; simp only [List.mem_cons, List.not_mem_nil, or_false] at hp; rw [hp]; exact hdk), (by intro p hp; simp only [List.mem_cons, List.not_mem_nil, or_false] at hp; rw [hp]; exact hsl)⟩
    have a3 := A2.new #[.slice sa sn sc, .slice la ln lc] 34
    obtain ⟨w3, hw3⟩ : ∃ y, y = w2.alloc (.cells #[.slice sa sn sc, .slice la ln lc] 34) := ⟨_, rfl⟩
    rw [← hw3] at a3
    have A3 := (show Hid _ from a3)
    obtain ⟨⟨qd, qb⟩, hq⟩ : ∃ q, q = areaDk d ar at' b := ⟨_, rfl⟩
    have ka : (Lit.int .i64 ar).wf = true := WalkArith.wf_i64 (by omega)
    have kt : (Lit.int .i64 at').wf = true := WalkArith.wf_i64 (by omega)
    have CI := (show Hid (∀ W L D, Aw w1 L D [(.slice ba b.length bc, b)] W → DiskAt W (.agg #[.slice sa sn sc, .slice la ln lc]) d → Calls Tryd.prog 18 #[.agg #[.slice sa sn sc, .slice la ln lc], .int .i64 ar, .int .i64 at', .slice ba b.length bc] W fun e w' => ∃ na nn nc ma mn mc, e = .returned (.tuple #[.agg #[.slice na nn nc, .slice ma mn mc], .bool qb]) ∧ DiskAt w' (.agg #[.slice na nn nc, .slice ma mn mc]) qd ∧ Below W.heap.size W w') from fun W L D hW hd => (H1 W _ d ar at' _ b hd HF.out ka kt hW.s0 hby (by omega)).mono (by
      rintro e w' ⟨v', rfl, o, k⟩
      rw [← hq] at o ⊢
      have o' := (OwnDy.of o).at
      obtain ⟨_, _, _, _, _, _, rfl, _⟩ := o
      exact ⟨_, _, _, _, _, _, rfl, o', k⟩))
    have CS := (show Hid (∀ W L D, Aw w1 L D [(.slice ba b.length bc, b)] W → DiskAt W (.agg #[.slice sa sn sc, .slice la ln lc]) d → Calls Tryd.prog 19 #[.agg #[.slice sa sn sc, .slice la ln lc], .int .i64 ar, .int .i64 at', .slice ba b.length bc] W fun e w' => ∃ na nn nc ma mn mc, e = .returned (.tuple #[.agg #[.slice na nn nc, .slice ma mn mc], .bool qb]) ∧ Below W.heap.size W w') from fun W L D hW hd => (sareaPut_any hd HF.out ar at' hW.s0 hby (by omega)).mono (by
      rintro e w' ⟨v', rfl, o, k⟩
      rw [← hq]
      obtain ⟨_, _, _, _, _, _, rfl, _⟩ := o
      exact ⟨_, _, _, _, _, _, rfl, k⟩))
    have HQ := (show Hid (_ = _) from hq)
    have FQ := (show Hid (DiskFit qd) from (by have := fit_area hfit ar at' b; rw [← hq] at this; exact this))
    have HY := (show Hid (∀ x ∈ b, 0 ≤ x ∧ x ≤ 255) from hby)
    have e1 : (qb != qb) = false := by cases qb <;> rfl
    clear hq A2 a3 b2 hdk hfit hsl hby ka kt
    obtain ⟨c1, c2, _, _⟩ := rk_two A3.out.hl.at0
    go_upto_region 4 with fail
    rw [← hw3]
    clear hw3
    go_wp2_with fail
    go_at_call 18
    refine Calls.mono (CI.out _ _ _ A3.out A3.out.d0) ?_
    rintro e w4 ⟨na, nn, nc, ma, mn, mc, rfl, o4, b4⟩
    have a5 := ((A3.out.below b4).addD o4).new #[.slice na nn nc, .slice ma mn mc] 34
    obtain ⟨w5, hw5⟩ : ∃ y, y = w4.alloc (.cells #[.slice na nn nc, .slice ma mn mc] 34) := ⟨_, rfl⟩
    rw [← hw5] at a5
    have A5 := (show Hid _ from a5)
    clear a5 o4 b4 A3 c1 c2
    obtain ⟨c1, c2, _, _⟩ := rk_two A5.out.hl.at1
    go_upto_region 5 with fail
    rw [← hw5]
    clear hw5
    go_wp2_with fail
    go_at_call 19
    refine Calls.mono (CS.out _ _ _ A5.out A5.out.d1) ?_
    rintro e w6 ⟨xa, xn, xc, ya, yn, yc, rfl, b6⟩
    have A6 := (show Hid _ from A5.out.below b6)
    clear b6 A5 c1 c2 CI CS
    have a7 := A6.out.new #[.slice xa xn xc, .slice ya yn yc] 34
    obtain ⟨w7, hw7⟩ : ∃ y, y = w6.alloc (.cells #[.slice xa xn xc, .slice ya yn yc] 34) := ⟨_, rfl⟩
    rw [← hw7] at a7
    have A7 := (show Hid _ from a7)
    clear a7 A6
    go_upto_region 6 with fail
    rw [← hw7]
    clear hw7
    obtain ⟨c1, c2, _, _⟩ := rk_two A7.out.hl.at1
    obtain ⟨d1, d2, _, _⟩ := rk_two A7.out.hl.at2
    cases qb
    · have hno := area_no (d := d) (a := ar) (at' := at') (b := b) (by rw [← HQ.out])
      rw [← HQ.out] at hno
      simp only at hno
      have en : nn = qd.safe.length ∧ mn = qd.late.length := by
        obtain ⟨_, _, _, _, _, _, e, s1, s2⟩ := A7.out.d0
        cases e
        obtain ⟨_, _, e1, _⟩ := s1.str
        obtain ⟨_, _, e2, _⟩ := s2.put
        cases e1; cases e2
        exact ⟨rfl, rfl⟩
      have ed : ln = d.late.length := by
        obtain ⟨_, _, _, _, _, _, e, s1, s2⟩ := A7.out.d1
        cases e
        obtain ⟨_, _, e2, _⟩ := s2.put
        cases e2
        rfl
      obtain ⟨rfl, rfl⟩ := en
      subst ed
      have hf1 := FQ.out.sl
      have hf2 := FQ.out.ll
      have hf3 := HF.out.ll
      by_cases hx : qd.late.length = d.late.length
      · have hx' : ((qd.late.length : Int) == (d.late.length : Int)) = true := beq_iff_eq.mpr (by omega)
        clear hno
        go_wp2
        go_ret
        exact ⟨rfl, A7.out.hl.1⟩
      · have hx' : ((qd.late.length : Int) == (d.late.length : Int)) = false := beq_eq_false_iff_ne.mpr (by omega)
        have hz : qd.safe.length = 0 := hno.resolve_left hx
        have hz' : ((qd.safe.length : Int) == 0) = true := beq_iff_eq.mpr (by omega)
        clear hno hz hx
        go_wp2
        go_ret
        exact ⟨rfl, A7.out.hl.1⟩
    · have hsay := area_says (d := d) (a := ar) (at' := at') (b := b) HY.out (by rw [← HQ.out])
      have hnow := area_now (d := d) (a := ar) (at' := at') (b := b) (by rw [← HQ.out])
      have hyes := area_yes (d := d) (a := ar) (at' := at') (b := b) (by rw [← HQ.out])
      rw [← HQ.out] at hsay hnow
      simp only at hsay hnow
      obtain ⟨_, hA, p0, p1, p2, _⟩ := hyes
      obtain ⟨g1, g2, g3, g4, g5, g6, g7⟩ := hsay
      have GI := (show Hid (∀ W L S (a t n : Int) (ys : List Int), Aw w1 L [(.agg #[.slice na nn nc, .slice ma mn mc], qd), (.agg #[.slice sa sn sc, .slice la ln lc], d)] S W → (Lit.int .i64 a).wf = true → (Lit.int .i64 t).wf = true → (Lit.int .i64 n).wf = true → getDk qd a t n = (ys, true) → Calls Tryd.prog 20 #[.agg #[.slice na nn nc, .slice ma mn mc], .int .i64 a, .int .i64 t, .int .i64 n] W fun e w' => ∃ xa xn xc, e = .returned (.tuple #[.slice xa xn xc, .bool true]) ∧ Sl .u8 w' (.slice xa xn xc) ys ∧ Below W.heap.size W w') from fun W L S a t n ys hW x1 x2 x3 hg => (H2 W _ qd a t n hW.d0 FQ.out x1 x2 x3).mono (by
        rintro e w' ⟨v', rfl, o, k⟩
        rw [hg] at o ⊢
        obtain ⟨_, _, rfl, _⟩ := o.sl
        exact ⟨_, _, _, rfl, o.sl, k⟩))
      have GS := (show Hid (∀ W L S (a t n : Int) (ys : List Int), Aw w1 L [(.agg #[.slice na nn nc, .slice ma mn mc], qd), (.agg #[.slice sa sn sc, .slice la ln lc], d)] S W → (Lit.int .i64 a).wf = true → (Lit.int .i64 t).wf = true → (Lit.int .i64 n).wf = true → getDk d a t n = (ys, true) → Calls Tryd.prog 21 #[.agg #[.slice sa sn sc, .slice la ln lc], .int .i64 a, .int .i64 t, .int .i64 n] W fun e w' => ∃ xa xn xc, e = .returned (.tuple #[.slice xa xn xc, .bool true]) ∧ Sl .u8 w' (.slice xa xn xc) ys ∧ Below W.heap.size W w') from fun W L S a t n ys hW x1 x2 x3 hg => (sareaGet_any hW.d1 HF.out a t n).mono (by
        rintro e w' ⟨v', rfl, o, k⟩
        rw [hg] at o ⊢
        obtain ⟨_, _, rfl, _⟩ := o.sl
        exact ⟨_, _, _, rfl, o.sl, k⟩))
      obtain ⟨⟨L1, f1⟩, h1⟩ : ∃ q, q = getDk d ar 0 at' := ⟨_, rfl⟩
      obtain ⟨⟨L2, f2⟩, h3⟩ : ∃ q, q = getDk d ar (at' + (b.length : Int)) (4096 - (at' + (b.length : Int))) := ⟨_, rfl⟩
      obtain ⟨⟨L3, f3⟩, h5⟩ : ∃ q, q = getDk d (1 - ar) 0 4096 := ⟨_, rfl⟩
      rw [← h1] at g2 g3
      rw [← h3] at g4 g5
      rw [← h5] at g6 g7
      simp only at g3 g5 g7
      subst g3
      subst g5
      subst g7
      have G1 := (show Hid (_ ∧ _ ∧ _ ∧ _ ∧ _ ∧ _ ∧ _) from ⟨g1, g2, h1.symm, g4, h3.symm, g6, h5.symm⟩)
      clear g1 g2 g4 g6 h1 h3 h5 c1 c2 d1 d2
      obtain ⟨c1, c2, _, _⟩ := rk_two A7.out.hl.at1
      obtain ⟨d1, d2, _, _⟩ := rk_two A7.out.hl.at2
      go_wp2_with fail
      go_at_call 20
      refine Calls.mono (GI.out _ _ _ ar at' (b.length : Int) b A7.out (WalkArith.wf_i64 (by omega)) (WalkArith.wf_i64 (by omega)) (WalkArith.wf_i64 (by omega)) G1.out.1) ?_
      rintro e w8 ⟨pa, pn, pc, rfl, o8, b8⟩
      have A8 := (show Hid _ from (A7.out.below b8).addS o8)
      clear A7 o8 b8 c1 c2 d1 d2
      obtain ⟨c1, c2, _, _⟩ := rk_two A8.out.hl.at1
      obtain ⟨d1, d2, _, _⟩ := rk_two A8.out.hl.at2
      go_wp2_with fail
      go_at_call 20
      refine Calls.mono (GI.out _ _ _ ar 0 at' L1 A8.out (WalkArith.wf_i64 (by omega)) (WalkArith.wf_i64 (by omega)) (WalkArith.wf_i64 (by omega)) G1.out.2.1) ?_
      rintro e w9 ⟨qa, qn, qc, rfl, o9, b9⟩
      have A9 := (show Hid _ from (A8.out.below b9).addS o9)
      clear A8 o9 b9 c1 c2 d1 d2
      obtain ⟨c1, c2, _, _⟩ := rk_two A9.out.hl.at1
      obtain ⟨d1, d2, _, _⟩ := rk_two A9.out.hl.at2
      go_wp2_with fail
      go_at_call 21
      refine Calls.mono (GS.out _ _ _ ar 0 at' L1 A9.out (WalkArith.wf_i64 (by omega)) (WalkArith.wf_i64 (by omega)) (WalkArith.wf_i64 (by omega)) G1.out.2.2.1) ?_
      rintro e w10 ⟨ra, rn, rc, rfl, o10, b10⟩
      have A10 := (show Hid _ from (A9.out.below b10).addS o10)
      clear A9 o10 b10 c1 c2 d1 d2
      obtain ⟨c1, c2, _, _⟩ := rk_two A10.out.hl.at1
      obtain ⟨d1, d2, _, _⟩ := rk_two A10.out.hl.at2
      go_wp2_with fail
      go_at_call 20
      refine Calls.mono (GI.out _ _ _ ar (at' + (b.length : Int)) (4096 - (at' + (b.length : Int))) L2 A10.out (WalkArith.wf_i64 (by omega)) (WalkArith.wf_i64 (by omega)) (WalkArith.wf_i64 (by omega)) G1.out.2.2.2.1) ?_
      rintro e w11 ⟨ja, jn, jc, rfl, o11, b11⟩
      have A11 := (show Hid _ from (A10.out.below b11).addS o11)
      clear A10 o11 b11 c1 c2 d1 d2
      obtain ⟨c1, c2, _, _⟩ := rk_two A11.out.hl.at1
      obtain ⟨d1, d2, _, _⟩ := rk_two A11.out.hl.at2
      go_wp2_with fail
      go_at_call 21
      refine Calls.mono (GS.out _ _ _ ar (at' + (b.length : Int)) (4096 - (at' + (b.length : Int))) L2 A11.out (WalkArith.wf_i64 (by omega)) (WalkArith.wf_i64 (by omega)) (WalkArith.wf_i64 (by omega)) G1.out.2.2.2.2.1) ?_
      rintro e w12 ⟨ta, tn, tc, rfl, o12, b12⟩
      have A12 := (show Hid _ from (A11.out.below b12).addS o12)
      clear A11 o12 b12 c1 c2 d1 d2
      obtain ⟨c1, c2, _, _⟩ := rk_two A12.out.hl.at1
      obtain ⟨d1, d2, _, _⟩ := rk_two A12.out.hl.at2
      go_wp2_with fail
      go_at_call 20
      refine Calls.mono (GI.out _ _ _ (1 - ar) 0 4096 L3 A12.out (WalkArith.wf_i64 (by omega)) (WalkArith.wf_i64 (by omega)) (WalkArith.wf_i64 (by omega)) G1.out.2.2.2.2.2.1) ?_
      rintro e w13 ⟨ua, un, uc, rfl, o13, b13⟩
      have A13 := (show Hid _ from (A12.out.below b13).addS o13)
      clear A12 o13 b13 c1 c2 d1 d2
      obtain ⟨c1, c2, _, _⟩ := rk_two A13.out.hl.at1
      obtain ⟨d1, d2, _, _⟩ := rk_two A13.out.hl.at2
      go_wp2_with fail
      go_at_call 21
      refine Calls.mono (GS.out _ _ _ (1 - ar) 0 4096 L3 A13.out (WalkArith.wf_i64 (by omega)) (WalkArith.wf_i64 (by omega)) (WalkArith.wf_i64 (by omega)) G1.out.2.2.2.2.2.2) ?_
      rintro e w14 ⟨va, vn, vc, rfl, o14, b14⟩
      have A14 := (show Hid _ from (A13.out.below b14).addS o14)
      clear A13 o14 b14 c1 c2 d1 d2
      have CN := (show Hid (∀ W L S, Aw w1 L [(.agg #[.slice na nn nc, .slice ma mn mc], qd), (.agg #[.slice sa sn sc, .slice la ln lc], d)] S W → Calls Tryd.prog 13 #[.agg #[.slice na nn nc, .slice ma mn mc]] W fun e w' => e = .returned (headV (nowDk d)) ∧ Below W.heap.size W w') from fun W L S hW => (H3 W _ qd hW.hl.1 hW.d0 FQ.out).mono (by
        rintro e w' ⟨rfl, k⟩
        exact ⟨by rw [hnow], k⟩))
      have CM := (show Hid (∀ W L S, Aw w1 L [(.agg #[.slice na nn nc, .slice ma mn mc], qd), (.agg #[.slice sa sn sc, .slice la ln lc], d)] S W → Calls Tryd.prog 14 #[.agg #[.slice sa sn sc, .slice la ln lc]] W fun e w' => e = .returned (headV (nowDk d)) ∧ Below W.heap.size W w') from fun W L S hW => sheadNow_any hW.d1 HF.out)
      obtain ⟨⟨t0, t1, t2⟩, ht⟩ : ∃ q, q = nowDk d := ⟨_, rfl⟩
      rw [← ht] at CN CM
      unfold headV at CN CM
      simp only at CN CM
      obtain ⟨s1, hs1⟩ : ∃ s, s = strOf L1 := ⟨_, rfl⟩
      obtain ⟨s2, hs2⟩ : ∃ s, s = strOf L2 := ⟨_, rfl⟩
      obtain ⟨s3, hs3⟩ : ∃ s, s = strOf L3 := ⟨_, rfl⟩
      obtain ⟨s4, hs4⟩ : ∃ s, s = strOf b := ⟨_, rfl⟩
      have HS := (show Hid (∀ W, Below w14.heap.size w14 W → W.cell? ⟨w4.heap.size, 0, none⟩ = some (.slice na nn nc) ∧ W.cell? ⟨w4.heap.size, 1, none⟩ = some (.slice ma mn mc) ∧ W.cell? ⟨w2.heap.size, 0, none⟩ = some (.slice sa sn sc) ∧ W.cell? ⟨w2.heap.size, 1, none⟩ = some (.slice la ln lc) ∧ (convert 22 9 (.slice va vn vc)).run Tryd.prog W = .ok (.string s3) W ∧ (convert 22 9 (.slice ua un uc)).run Tryd.prog W = .ok (.string s3) W ∧ (convert 22 9 (.slice ta tn tc)).run Tryd.prog W = .ok (.string s2) W ∧ (convert 22 9 (.slice ja jn jc)).run Tryd.prog W = .ok (.string s2) W ∧ (convert 22 9 (.slice ra rn rc)).run Tryd.prog W = .ok (.string s1) W ∧ (convert 22 9 (.slice qa qn qc)).run Tryd.prog W = .ok (.string s1) W ∧ (convert 22 9 (.slice pa pn pc)).run Tryd.prog W = .ok (.string s4) W ∧ (convert 22 9 (.slice ba b.length bc)).run Tryd.prog W = .ok (.string s4) W ∧ Below w14.heap.size w14 W) from fun W bW => by
        have h := A14.out.below bW
        exact ⟨(rk_two h.hl.at1).1, (rk_two h.hl.at1).2.1, (rk_two h.hl.at2).1, (rk_two h.hl.at2).2.1, by rw [hs3]; exact conv_sl (h.sl (.slice va vn vc, L3) (by simp)), by rw [hs3]; exact conv_sl (h.sl (.slice ua un uc, L3) (by simp)), by rw [hs2]; exact conv_sl (h.sl (.slice ta tn tc, L2) (by simp)), by rw [hs2]; exact conv_sl (h.sl (.slice ja jn jc, L2) (by simp)), by rw [hs1]; exact conv_sl (h.sl (.slice ra rn rc, L1) (by simp)), by rw [hs1]; exact conv_sl (h.sl (.slice qa qn qc, L1) (by simp)), by rw [hs4]; exact conv_sl (h.sl (.slice pa pn pc, b) (by simp)), by rw [hs4]; exact conv_sl (h.sl (.slice ba b.length bc, b) (by simp)), bW⟩)
      have KD := (show Hid (Below w14.heap.size w14 w14.drew) from below_drewN 1)
      clear hs1 hs2 hs3 hs4 G1 GI GS ht hnow
      go_wp2_with fail
      go_region_held3 (fun w' => w'.cell? ⟨w4.heap.size, 0, none⟩ = some (.slice na nn nc) ∧ w'.cell? ⟨w4.heap.size, 1, none⟩ = some (.slice ma mn mc) ∧ w'.cell? ⟨w2.heap.size, 0, none⟩ = some (.slice sa sn sc) ∧ w'.cell? ⟨w2.heap.size, 1, none⟩ = some (.slice la ln lc) ∧ (convert 22 9 (.slice va vn vc)).run Tryd.prog w' = .ok (.string s3) w' ∧ (convert 22 9 (.slice ua un uc)).run Tryd.prog w' = .ok (.string s3) w' ∧ (convert 22 9 (.slice ta tn tc)).run Tryd.prog w' = .ok (.string s2) w' ∧ (convert 22 9 (.slice ja jn jc)).run Tryd.prog w' = .ok (.string s2) w' ∧ (convert 22 9 (.slice ra rn rc)).run Tryd.prog w' = .ok (.string s1) w' ∧ (convert 22 9 (.slice qa qn qc)).run Tryd.prog w' = .ok (.string s1) w' ∧ (convert 22 9 (.slice pa pn pc)).run Tryd.prog w' = .ok (.string s4) w' ∧ (convert 22 9 (.slice ba b.length bc)).run Tryd.prog w' = .ok (.string s4) w' ∧ Below w14.heap.size w14 w')
        (first | exact HS.out _ KD.out | exact HS.out _ B15.out | exact HS.out _ B16.out)
        (first
          | (go_at_call 13
             refine Calls.mono (CN.out _ _ _ (A14.out.below KD.out)) ?_
             rintro e w15 ⟨rfl, b15⟩
             have B15 := (show Hid (Below w14.heap.size w14 w15) from KD.out.trans (b15.mono KD.out.size))
             clear b15)
          | (go_at_call 14
             refine Calls.mono (CM.out _ _ _ (A14.out.below B15.out)) ?_
             rintro e w16 ⟨rfl, b16⟩
             have B16 := (show Hid (Below w14.heap.size w14 w16) from B15.out.trans (b16.mono B15.out.size))
             clear b16))
      go_wp2
      go_ret
      exact ⟨rfl, A14.out.hl.1.trans (B16.out.mono A14.out.hl.1.size)⟩
end Go.Proofs.YtiejfnnokfedkaaDoor

/- The program's small questions on heads and areas. No condition. -/
namespace Go.Proofs.YtiejfnnokfedkaaDoor
open Go.RowKit
set_option maxRecDepth 100000
set_option linter.unusedVariables false

theorem iisArea_any (x : Int) (w : World) : Calls Tryd.prog 64 #[.int .i64 x] w fun e w' => e = .returned (.bool (inB x 0 1)) ∧ w' = w := by
  by_cases h1 : 0 ≤ x
  · by_cases h2 : x < 2
    · rw [inB_yes h1 (by omega)]
      go_enter Tryd.func64, Tryd.ntmps64
      go_wp2
      go_ret
      exact ⟨rfl, rfl⟩
    · have : inB x 0 1 = false := by simp [inB]; omega
      rw [this]
      go_enter Tryd.func64, Tryd.ntmps64
      go_wp2
      go_ret
      exact ⟨rfl, rfl⟩
  · have : inB x 0 1 = false := by simp [inB]; omega
    rw [this]
    go_enter Tryd.func64, Tryd.ntmps64
    go_wp2
    go_ret
    exact ⟨rfl, rfl⟩

set_option maxRecDepth 100000 in
theorem iisRight_any (h : PHead) (w : World) : Calls Tryd.prog 29 #[headV h] w fun e w' => e = .returned (.bool (headB h)) ∧ Below w.heap.size w w' := by
  obtain ⟨no, ar, en⟩ := h
  unfold headV
  simp only
  have b1 : Below w.heap.size w (w.alloc (.cells #[.int .i64 no, .int .i64 ar, .int .i64 en] 25)) := (Below.refl _ _).alloc (Nat.le_refl _) _
  have B1 := (show Hid _ from b1)
  clear b1
  obtain ⟨r, hr⟩ : ∃ r, r = headB ⟨no, ar, en⟩ := ⟨_, rfl⟩
  rw [← hr]
  have HR := (show Hid (r = (inB no 1 1000000000 && inB ar 0 1 && inB en 0 4096)) from hr)
  have CA := (show Hid _ from iisArea_any ar)
  clear hr
  by_cases h1 : 1 ≤ no
  · by_cases h2 : no ≤ 1000000000
    · cases hq : inB ar 0 1
      · rw [hq] at CA
        have HF : Hid (r = false) := (show r = false by rw [HR.out, hq]; simp)
        clear HR hq
        go_enter Tryd.func29, Tryd.ntmps29
        go_wp2_with fail
        go_at_call 64
        refine (CA.out _).mono ?_
        rintro e w2 ⟨rfl, e2⟩
        subst e2
        go_wp2
        go_ret
        exact ⟨ret_bool HF.out.symm, B1.out⟩
      · rw [hq] at CA
        by_cases h3 : 0 ≤ en
        · by_cases h4 : en ≤ 4096
          · have HF : Hid (r = true) := (show r = true by rw [HR.out, hq, inB_yes h1 h2, inB_yes h3 h4]; rfl)
            clear HR hq
            go_enter Tryd.func29, Tryd.ntmps29
            go_wp2_with fail
            go_at_call 64
            refine (CA.out _).mono ?_
            rintro e w2 ⟨rfl, e2⟩
            subst e2
            go_wp2
            go_ret
            exact ⟨ret_bool HF.out.symm, B1.out⟩
          · have HF : Hid (r = false) := (show r = false by rw [HR.out, inB_no (x := en) (lo := 0) (hi := 4096) (by omega)]; simp)
            clear HR hq
            go_enter Tryd.func29, Tryd.ntmps29
            go_wp2_with fail
            go_at_call 64
            refine (CA.out _).mono ?_
            rintro e w2 ⟨rfl, e2⟩
            subst e2
            go_wp2
            go_ret
            exact ⟨ret_bool ((decide_eq_false (by omega)).trans HF.out.symm), B1.out⟩
        · have HF : Hid (r = false) := (show r = false by rw [HR.out, inB_no (x := en) (lo := 0) (hi := 4096) (by omega)]; simp)
          clear HR hq
          go_enter Tryd.func29, Tryd.ntmps29
          go_wp2_with fail
          go_at_call 64
          refine (CA.out _).mono ?_
          rintro e w2 ⟨rfl, e2⟩
          subst e2
          go_wp2
          go_ret
          exact ⟨ret_bool HF.out.symm, B1.out⟩
    · have HF : Hid (r = false) := (show r = false by rw [HR.out, inB_no (x := no) (lo := 1) (hi := 1000000000) (by omega)]; simp)
      clear HR CA
      go_enter Tryd.func29, Tryd.ntmps29
      go_wp2
      go_ret
      exact ⟨ret_bool HF.out.symm, B1.out⟩
  · have HF : Hid (r = false) := (show r = false by rw [HR.out, inB_no (x := no) (lo := 1) (hi := 1000000000) (by omega)]; simp)
    clear HR CA
    go_enter Tryd.func29, Tryd.ntmps29
    go_wp2
    go_ret
    exact ⟨ret_bool HF.out.symm, B1.out⟩

/-- What spanOk answers. -/
def spanB (a at' n : Int) : Bool := inB a 0 1 && inB at' 0 4096 && inB n 0 (4096 - at')
theorem ispanOk_any (a at' n : Int) (w : World) : Calls Tryd.prog 49 #[.int .i64 a, .int .i64 at', .int .i64 n] w fun e w' => e = .returned (.bool (spanB a at' n)) ∧ w' = w := by
  obtain ⟨r, hr⟩ : ∃ r, r = spanB a at' n := ⟨_, rfl⟩
  rw [← hr]
  have HR := (show Hid (r = (inB a 0 1 && inB at' 0 4096 && inB n 0 (4096 - at'))) from hr)
  have CA := (show Hid _ from iisArea_any a)
  clear hr
  cases hq : inB a 0 1
  · rw [hq] at CA
    have HF : Hid (r = false) := (show r = false by rw [HR.out, hq]; simp)
    clear HR hq
    go_enter Tryd.func49, Tryd.ntmps49
    go_wp2_with fail
    go_at_call 64
    refine (CA.out _).mono ?_
    rintro e w2 ⟨rfl, e2⟩
    subst e2
    go_wp2
    go_ret
    exact ⟨ret_bool HF.out.symm, rfl⟩
  · rw [hq] at CA
    have HQ := (show Hid _ from hq)
    clear hq
    by_cases h1 : 0 ≤ at' ∧ at' ≤ 4096
    · obtain ⟨h1, h2⟩ := h1
      by_cases h3 : 0 ≤ n
      · by_cases h4 : n ≤ 4096 - at'
        · have HF : Hid (r = true) := (show r = true by rw [HR.out, HQ.out, inB_yes h1 h2, inB_yes h3 h4]; rfl)
          clear HR HQ
          go_enter Tryd.func49, Tryd.ntmps49
          go_wp2_with fail
          go_at_call 64
          refine (CA.out _).mono ?_
          rintro e w2 ⟨rfl, e2⟩
          subst e2
          go_wp2
          go_ret
          exact ⟨ret_bool HF.out.symm, rfl⟩
        · have HF : Hid (r = false) := (show r = false by rw [HR.out, inB_no (x := n) (lo := 0) (hi := 4096 - at') (by omega)]; simp)
          clear HR HQ
          go_enter Tryd.func49, Tryd.ntmps49
          go_wp2_with fail
          go_at_call 64
          refine (CA.out _).mono ?_
          rintro e w2 ⟨rfl, e2⟩
          subst e2
          go_wp2
          go_ret
          exact ⟨ret_bool ((decide_eq_false (by omega)).trans HF.out.symm), rfl⟩
      · have HF : Hid (r = false) := (show r = false by rw [HR.out, inB_no (x := n) (lo := 0) (hi := 4096 - at') (by omega)]; simp)
        clear HR HQ
        go_enter Tryd.func49, Tryd.ntmps49
        go_wp2_with fail
        go_at_call 64
        refine (CA.out _).mono ?_
        rintro e w2 ⟨rfl, e2⟩
        subst e2
        go_wp2
        go_ret
        exact ⟨ret_bool HF.out.symm, rfl⟩
    · have HF : Hid (r = false) := (show r = false by rw [HR.out, inB_no (x := at') (lo := 0) (hi := 4096) (by omega)]; simp)
      clear HR HQ
      by_cases h0 : 0 ≤ at'
      · have h2 : ¬ (at' ≤ 4096) := fun e => h1 ⟨h0, e⟩
        clear h1
        go_enter Tryd.func49, Tryd.ntmps49
        go_wp2_with fail
        go_at_call 64
        refine (CA.out _).mono ?_
        rintro e w2 ⟨rfl, e2⟩
        subst e2
        go_wp2
        go_ret
        exact ⟨ret_bool HF.out.symm, rfl⟩
      · clear h1
        go_enter Tryd.func49, Tryd.ntmps49
        go_wp2_with fail
        go_at_call 64
        refine (CA.out _).mono ?_
        rintro e w2 ⟨rfl, e2⟩
        subst e2
        go_wp2
        go_ret
        exact ⟨ret_bool HF.out.symm, rfl⟩

theorem isectorAt_any (a : Int) (k : Nat) (w : World) (ha : a = 0 ∨ a = 1) (hk : k ≤ 4096) : Calls Tryd.prog 50 #[.int .i64 a, .int .i64 (k : Int)] w fun e w' => e = .returned (.int .i64 (2 + 64 * a + ((k / 64 : Nat) : Int))) ∧ w' = w := by
  obtain ⟨x, hx⟩ : ∃ x : Int, x = (k : Int) := ⟨_, rfl⟩
  have HX := (show Hid (x = (k : Int)) from hx)
  have h0 : 0 ≤ x := by omega
  have h1 : x ≤ 4096 := by omega
  rw [← hx]
  clear hx hk
  go_enter Tryd.func50, Tryd.ntmps50
  go_wp2
  go_ret
  refine ⟨ret_int ?_, rfl⟩
  have hx := HX.out
  rcases ha with rfl | rfl <;> simp <;> omega
end Go.Proofs.YtiejfnnokfedkaaDoor

/- slices.Grow and slices.Concat of three. No condition. -/
namespace Go.Proofs.YtiejfnnokfedkaaDoor
open Go.RowKit
set_option maxRecDepth 100000
set_option linter.unusedVariables false

set_option maxRecDepth 100000 in
theorem igrow_any (n : Nat) (w : World) (h0 : 0 < n) (h1 : n ≤ 1000) :
    Calls Tryd.prog 65 #[.slice none 0 0, .int .i64 (n : Int)] w fun e w' => ∃ v', e = .returned v' ∧ Own w.heap.size 5 .u8 w' v' [] ∧ Below w.heap.size w w' := by
  obtain ⟨i0, hi, hz0, hz1, hz2⟩ := info_parts Tryd.infoB
  have hb5 : Tryd.t5.bytes = 1 := rfl
  have hp : ¬ ((n : Int) < 0) := by omega
  have hq : (0 : Int) < (n : Int) := by omega
  go_enter Tryd.func65, Tryd.ntmps65
  go_wp2_with fail
  · exfalso; have hn := nextslicecap_zero h0; rename_i h _ _ _; simp only [hb5, hn] at *; omega
  · go_ret
    have hge := grownCap_ge w n 0 5
    have hm := grownCap_le_maxLen w n 0 5 (by unfold maxLen; omega)
    have o1 := World.ownsRow_made (e := 5) (size := 1) w (Builtin.zeroCells #[Value.int IntKind.u8 0] n ++ Builtin.zeroCells #[Value.int IntKind.u8 0] (grownCap w n 0 5 - n)) (grownCap w n 0 5) (Nat.le_refl _) hm (by rw [Array.size_append, size_zeroCells, size_zeroCells]; simp; omega)
    exact ⟨_, rfl, Own.below (show Own w.heap.size 5 .u8 _ _ [] from o1) (below_drewN 1), ((Below.refl _ _).alloc (Nat.le_refl _) _).trans (below_drewN 1)⟩

def catP (ps : List (Value × List Int)) : List Int := ps.flatMap (·.2)
theorem catP_take {ps : List (Value × List Int)} {k : Nat} (hk : k < ps.length) : catP (ps.take (k + 1)) = catP (ps.take k) ++ ps[k].2 := by
  unfold catP; rw [List.take_succ_eq_append_getElem hk, List.flatMap_append]; simp
theorem catP_len {ps : List (Value × List Int)} (h : ∀ p ∈ ps, p.2.length ≤ 300) : (catP ps).length ≤ ps.length * 300 := by
  induction ps with
  | nil => simp [catP]
  | cons p ps ih =>
    have e : catP (p :: ps) = p.2 ++ catP ps := rfl
    have h1 := h p (by simp)
    have h2 := ih (fun q hq => h q (by simp [hq]))
    rw [e, List.length_append, List.length_cons]; omega

set_option maxRecDepth 100000 in
theorem iconcat_any {w : World} {b : Nat} {ps : List (Value × List Int)} (hb : b < w.heap.size) (hc : ∀ k (hk : k < ps.length), w.cell? ⟨b, k, none⟩ = some ps[k].1 ∧ Sl .u8 w ps[k].1 ps[k].2) (hl : ps.length ≤ 3) (hs : ∀ p ∈ ps, p.2.length ≤ 300) (hpos : 0 < (catP ps).length) :
    Calls Tryd.prog 30 #[.slice (some ⟨b, 0, none⟩) ps.length ps.length] w fun e w' => ∃ v', e = .returned v' ∧ Own w.heap.size 5 .u8 w' v' (catP ps) ∧ Below w.heap.size w w' := by
  have HC := (show Hid (∀ k (hk : k < ps.length), w.cell? ⟨b, k, none⟩ = some ps[k].1 ∧ Sl .u8 w ps[k].1 ps[k].2) from hc)
  have HS := (show Hid _ from hs)
  clear hc hs
  go_enter Tryd.func30, Tryd.ntmps30
  go_wp2
  go_loopw [3, 11] (fun z i wr => ∃ k : Nat, k ≤ ps.length ∧ i = .int .i64 (k : Int) ∧ z = .int .i64 ((catP (ps.take k)).length : Int) ∧ Hid (w = wr)) (fun _ i _ => ps.length - (intOf i).toNat)
  case atStart => exact ⟨0, Nat.zero_le _, rfl, rfl, rfl⟩
  case round =>
    obtain ⟨k, hk, rfl, rfl, hw⟩ := hrel
    have ew := hw.out
    subst ew
    by_cases hlt : k < ps.length
    · obtain ⟨c1, s1⟩ := HC.out k hlt
      have hl1 := HS.out _ (List.getElem_mem hlt)
      have hl2 := catP_len (ps := ps.take k) (fun p hp => HS.out p (List.mem_of_mem_take hp))
      have e3 : (catP (ps.take (k + 1))).length = (catP (ps.take k)).length + ps[k].2.length := by rw [catP_take hlt, List.length_append]
      have E3 := (show Hid _ from e3)
      rw [List.length_take] at hl2
      obtain ⟨a, ca, e1, _, _, _, _⟩ := s1
      rw [e1] at c1
      have hlt' : (k : Int) < (ps.length : Int) := by omega
      obtain ⟨m, hm⟩ : ∃ m, m = ps[k].2.length := ⟨_, rfl⟩
      obtain ⟨t, ht⟩ : ∃ t, t = (catP (ps.take k)).length := ⟨_, rfl⟩
      rw [← hm] at c1 hl1 E3
      rw [← ht] at hl2 E3
      rw [← ht]
      have ht2 : t ≤ 900 := by omega
      clear e1 e3 hm ht hl2
      go_wp2
      go_roundw
      case rel => exact ⟨k + 1, hlt, by go_num, by rw [E3.out]; go_num, trivial⟩
      case measure => simp [intOf]; omega
    · have hke : k = ps.length := by omega
      subst hke
      rw [List.take_length]
      have hc2 := catP_len (ps := ps) (fun p hp => HS.out p hp)
      go_wp2_with fail
      go_at_call 65
      refine (igrow_any _ _ hpos (by omega)).mono ?_
      rintro e w2 ⟨v2, rfl, o2, b2⟩
      have hb2 := b2.size
      obtain ⟨i0, hi, hz0, hz1, hz2⟩ := info_parts Tryd.infoB
      have O2 := (show Hid (Own w.heap.size 5 .u8 w2 v2 [] ∧ Below w.heap.size w w2) from ⟨o2, b2⟩)
      clear o2 b2 hw hlt hk
      go_wp2
      go_loopw [6, 27] (fun z i wq => ∃ k : Nat, k ≤ ps.length ∧ i = .int .i64 (k : Int) ∧ Own w.heap.size 5 .u8 wq z (catP (ps.take k)) ∧ Below w.heap.size w wq) (fun _ i _ => ps.length - (intOf i).toNat)
      case atStart => exact ⟨0, Nat.zero_le _, rfl, O2.out.1, O2.out.2⟩
      case round =>
        obtain ⟨k, hk, rfl, o3, b3⟩ := hrel
        by_cases hlt : k < ps.length
        · obtain ⟨c1, s1⟩ := HC.out k hlt
          have hl1 := HS.out _ (List.getElem_mem hlt)
          have hl2 := catP_len (ps := ps.take k) (fun p hp => HS.out p (List.mem_of_mem_take hp))
          rw [List.length_take] at hl2
          have hlt' : (k : Int) < (ps.length : Int) := by omega
          have c2 := (b3.cell (p := ⟨b, k, none⟩) hb).trans c1
          have S2 := (show Hid _ from s1.below b3)
          have CT := (show Hid _ from catP_take hlt)
          have O3 := (show Hid (Own _ 5 .u8 _ _ _) from o3)
          have B3 := (show Hid (Below _ _ _) from b3)
          have hb3 := b3.size
          obtain ⟨p, hp⟩ : ∃ p, p = ps[k] := ⟨_, rfl⟩
          rw [← hp] at c2 S2 hl1 CT
          obtain ⟨pv, pl⟩ := p
          simp only at c2 S2 hl1 CT
          obtain ⟨tl, ht⟩ : ∃ t, t = catP (ps.take k) := ⟨_, rfl⟩
          rw [← ht] at O3 CT hl2
          have ht2 : tl.length ≤ 900 := by omega
          clear o3 b3 c1 s1 hp ht hl2
          go_wp2_with (at_builtin
                       refine wpList_app _ rfl _ _ 22 rfl w.heap.size 5 i0 (.int .u8 0) 1 Tryd.underlying22 hi hz0 hz1 hz2 rfl .u8 _ _ tl pl rfl rfl O3.out S2.out (by omega) (by unfold maxLen; omega) hb3 ?_
                       intro v' w4 o4 g4)
          go_roundw
          case rel => exact ⟨k + 1, hlt, by go_num, by rw [CT.out]; exact o4, B3.out.grown g4 hb3 O3.out.grownAt⟩
          case measure => simp [intOf]; omega
        · have hke : k = ps.length := by omega
          subst hke
          rw [List.take_length] at o3
          have O3 := (show Hid (Own _ 5 .u8 _ _ _) from o3)
          have B3 := (show Hid (Below _ _ _) from b3)
          clear o3 b3
          go_wp2
          go_ret
          exact ⟨_, rfl, O3.out, B3.out⟩
end Go.Proofs.YtiejfnnokfedkaaDoor
