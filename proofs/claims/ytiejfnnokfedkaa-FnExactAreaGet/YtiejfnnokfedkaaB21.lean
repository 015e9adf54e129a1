import Derived.Test.YtiejfnnokfedkaaB19
import Derived.Test.YtiejfnnokfedkaaB20
import Derived.Deep.RegionHeld3
import Derived.Test.YtiejfnnokfedkaaB16
/- The exact law of AreaGet, from the program's contract (written by mk/wget.py). -/
namespace Go.Proofs.Ytiejfnnokfedkaa
open Go.RowKit
set_option maxRecDepth 100000
set_option linter.unusedVariables false

def AreaGetOk : Prop := ∀ (w : World) (v : Value) (d : PDisk) (ar at' n : Int), DiskAt w v d → DiskFit d → (Lit.int .i64 ar).wf = true → (Lit.int .i64 at').wf = true → (Lit.int .i64 n).wf = true → Calls Try.prog 23 #[v, .int .i64 ar, .int .i64 at', .int .i64 n] w fun e w' => ∃ u, e = .returned (.tuple #[u, .bool (getDk d ar at' n).2]) ∧ Own w.heap.size 5 .u8 w' u (getDk d ar at' n).1 ∧ Below w.heap.size w w'
theorem getDk_len (d : PDisk) (ar at' n : Int) : (getDk d ar at' n).1.length ≤ 4096 := by
  unfold getDk
  split
  · rename_i h
    simp only [getOk, inB, Bool.and_eq_true, decide_eq_true_eq] at h
    rw [getL_len]; omega
  · simp

set_option maxHeartbeats 4000000 in
set_option maxRecDepth 100000 in
theorem fnExactAreaGet_of (H : AreaGetOk) {v : Value} {d : PDisk} {ar at' n : Int} (w0 : World) (h : DiskAt w0 v d) (hs : ∀ s ∈ d.safe, s.size ≤ maxLen) (hp : ∀ p ∈ d.late, p.2.size ≤ maxLen) (k0 : (Lit.int .i64 ar).wf = true) (k1 : (Lit.int .i64 at').wf = true) (k2 : (Lit.int .i64 n).wf = true) :
    Calls Try.prog 6 #[v, .int .i64 ar, .int .i64 at', .int .i64 n] w0 fun e w' => e = .returned (.bool true) ∧ Below w0.heap.size w0 w' := by
  obtain ⟨sa, sn, sc, sA, sN, sC, ev⟩ : ∃ sa sn sc sA sN sC, v = .agg #[.slice sa sn sc, .slice sA sN sC] := by
    obtain ⟨_, _, _, _, _, _, e, _⟩ := h
    exact ⟨_, _, _, _, _, _, e⟩
  subst ev
  have HD := (show Hid (DiskAt w0 (.agg #[.slice sa sn sc, .slice sA sN sC]) d) from h)
  obtain ⟨w, hw⟩ : ∃ x, x = w0.alloc (.cells #[.slice sa sn sc, .slice sA sN sC] 32) := ⟨_, rfl⟩
  have hl := (Lw.refl w0).new #[.slice sa sn sc, .slice sA sN sC] 32
  rw [← hw] at hl
  have HL := (show Hid (Lw w0 [(w0.heap.size, #[.slice sa sn sc, .slice sA sN sC], 32)] [] [] w) from hl)
  have HC := (show Hid (∀ (w : World) (v : Value), DiskAt w v d → DiskFit d → Calls Try.prog 23 #[v, .int .i64 ar, .int .i64 at', .int .i64 n] w fun e w' => ∃ u, e = .returned (.tuple #[u, .bool (getDk d ar at' n).2]) ∧ Own w.heap.size 5 .u8 w' u (getDk d ar at' n).1 ∧ Below w.heap.size w w') from fun w v hd hf => H w v d ar at' n hd hf k0 k1 k2)
  have HS0 := (show Hid (∀ (w : World) (v : Value), DiskAt w v d → DiskFit d → Calls Try.prog 22 #[v, .int .i64 ar, .int .i64 at', .int .i64 n] w fun e w' => ∃ u, e = .returned (.tuple #[u, .bool (getDk d ar at' n).2]) ∧ Own w.heap.size 5 .u8 w' u (getDk d ar at' n).1 ∧ Below w.heap.size w w') from fun w v hd hf => sareaGet_any hd hf ar at' n)
  have hql := getDk_len d ar at' n
  have CZ := (show Hid (Calls Try.prog 10 #[.agg #[.slice sa sn sc, .slice sA sN sC], .int .i64 1048576] w fun e w' => ∃ r : Int, e = .returned (.int .i64 r) ∧ (r < 0 ∨ (0 ≤ r ∧ r ≤ 1048576 ∧ DiskFit d)) ∧ Below w.heap.size w w') from szDisk_any (HD.out.below hl.hl.1) hs hp 1048576 (by decide) (by decide))
  clear H hs hp hl k0 k1 k2 h
  go_enter Try.func6, Try.ntmps6
  go_wp2_with fail
  go_at_call 10
  rw [← hw]
  refine Calls.mono CZ.out ?_
  rintro e w1 ⟨r, rfl, hr, b1⟩
  clear CZ hw
  rcases hr with hr | ⟨hr0, hr1, hf⟩
  · go_wp2
    go_ret
    exact ⟨rfl, (HL.out.below b1).hl.1⟩
  · have HF := (show Hid (DiskFit d) from hf)
    clear hf
    obtain ⟨⟨qs, qb⟩, hq⟩ : ∃ q, q = getDk d ar at' n := ⟨_, rfl⟩
    rw [← hq] at HC HS0 hql
    simp only at HC HS0 hql
    have CI := (show Hid (∀ L R Y (W : World) (p q : Value), Lw w0 L R Y W → DiskAt W (.agg #[p, q]) d → Calls Try.prog 23 #[.agg #[p, q], .int .i64 ar, .int .i64 at', .int .i64 n] W fun e W' => ∃ xa xn xc, e = .returned (.tuple #[.slice xa xn xc, .bool qb]) ∧ Own W.heap.size 5 .u8 W' (.slice xa xn xc) qs ∧ Lw w0 L R Y W' ∧ Below W.heap.size W W') from fun L R Y W p q l hd => (HC.out W _ hd HF.out).mono (by
      rintro e W' ⟨v', rfl, o, k⟩
      obtain ⟨_, _, rfl, _⟩ := o.sl
      exact ⟨_, _, _, rfl, o, l.below k, k⟩))
    have CS := (show Hid (∀ L R Y (W : World) (p q : Value), Lw w0 L R Y W → DiskAt W (.agg #[p, q]) d → Calls Try.prog 22 #[.agg #[p, q], .int .i64 ar, .int .i64 at', .int .i64 n] W fun e W' => ∃ xa xn xc, e = .returned (.tuple #[.slice xa xn xc, .bool qb]) ∧ Own W.heap.size 5 .u8 W' (.slice xa xn xc) qs ∧ Lw w0 L R Y W' ∧ Below W.heap.size W W') from fun L R Y W p q l hd => (HS0.out W _ hd HF.out).mono (by
      rintro e W' ⟨v', rfl, o, k⟩
      obtain ⟨_, _, rfl, _⟩ := o.sl
      exact ⟨_, _, _, rfl, o, l.below k, k⟩))
    have CTD := (show Hid (∀ L R Y W, Lw w0 L R Y W → Calls Try.prog 12 #[.agg #[.slice sa sn sc, .slice sA sN sC]] W fun e W' => ∃ ta tn tc tA tN tC, e = .returned (.agg #[.slice ta tn tc, .slice tA tN tC]) ∧ Lw w0 L R Y W' ∧ OwnDy w0.heap.size W' (.agg #[.slice ta tn tc, .slice tA tN tC]) d ∧ Below W.heap.size W W') from fun L R Y W l => (l.toD HD.out HF.out).mono (by
      rintro e W' ⟨_, _, _, _, _, _, rfl, l', o, k⟩
      exact ⟨_, _, _, _, _, _, rfl, l', o.base l.hl.1.size, k⟩))
    have hqq : (qb != qb) = false := by cases qb <;> rfl
    clear hq HC HS0
    have S_w1 := (show Hid (Lw w0 [(w0.heap.size, #[.slice sa sn sc, .slice sA sN sC], 32)] [] [] w1) from HL.out.below b1)
    have Z0 := (show Hid (w0.heap.size ≤ w1.heap.size) from S_w1.out.hl.1.size)
    clear HL b1
    obtain ⟨c0_0, c0_1, _, _⟩ := rk_two (S_w1.out.hl.2 _ (List.mem_cons_self ..))
    go_wp2_with fail
    go_at_call 12
    refine (S_w1.out.toD HD.out HF.out).mono ?_
    rintro e w1b ⟨ta, tn, tc, tA, tN, tC, rfl, lw1b, ow1b, bw1b⟩
    have Z1 := (show Hid (w1.heap.size ≤ w1b.heap.size) from bw1b.size)
    have S_w1b := (show Hid (Lw w0 [(w0.heap.size, #[.slice sa sn sc, .slice sA sN sC], 32)] [(w1.heap.size, w1b.heap.size, .agg #[.slice ta tn tc, .slice tA tN tC], d)] [] w1b) from lw1b.add ow1b)
    clear S_w1 bw1b
    clear c0_0 c0_1
    clear lw1b ow1b
    obtain ⟨c0_0, c0_1, _, _⟩ := rk_two (S_w1b.out.hl.2 _ (List.mem_cons_self ..))
    go_wp2_with fail
    go_at_call 22
    refine (CS.out _ _ _ _ _ _ S_w1b.out (S_w1b.out.rows _ (List.mem_cons_self ..)).1.at).mono ?_
    rintro e w2 ⟨aa, an, ac, rfl, ow2, lw2, bw2⟩
    have Z2 := (show Hid (w1b.heap.size ≤ w2.heap.size) from bw2.size)
    have S_w2 := (show Hid (Lw w0 [(w0.heap.size, #[.slice sa sn sc, .slice sA sN sC], 32)] [(w1.heap.size, w1b.heap.size, .agg #[.slice ta tn tc, .slice tA tN tC], d)] [(w1b.heap.size, w2.heap.size, .slice aa an ac, qs)] w2) from lw2.addY ow2)
    clear S_w1b bw2
    clear c0_0 c0_1
    clear lw2 ow2
    have T_w2 := (show Hid (Lw w0 [(w0.heap.size, #[.slice sa sn sc, .slice sA sN sC], 32)] [] [(w1b.heap.size, w2.heap.size, .slice aa an ac, qs)] w2) from S_w2.out.sub (by simp) (by simp) (by simp))
    clear S_w2
    have S_w2 := T_w2
    clear T_w2
    obtain ⟨c0_0, c0_1, _, _⟩ := rk_two (S_w2.out.hl.2 _ (List.mem_cons_self ..))
    go_wp2_with fail
    go_at_call 12
    refine (S_w2.out.toD HD.out HF.out).mono ?_
    rintro e w3 ⟨xa, xn, xc, xA, xN, xC, rfl, lw3, ow3, bw3⟩
    have Z3 := (show Hid (w2.heap.size ≤ w3.heap.size) from bw3.size)
    have S_w3 := (show Hid (Lw w0 [(w0.heap.size, #[.slice sa sn sc, .slice sA sN sC], 32)] [(w2.heap.size, w3.heap.size, .agg #[.slice xa xn xc, .slice xA xN xC], d)] [(w1b.heap.size, w2.heap.size, .slice aa an ac, qs)] w3) from lw3.add ow3)
    clear S_w2 bw3
    clear c0_0 c0_1
    clear lw3 ow3
    obtain ⟨w3a, hw3a⟩ : ∃ x, x = w3.alloc (.cells #[.slice xa xn xc, .slice xA xN xC] 36) := ⟨_, rfl⟩
    have Z4 := (show Hid (w3.heap.size < w3a.heap.size) from (show w3.heap.size < w3a.heap.size by rw [hw3a, World.size_alloc]; omega))
    obtain ⟨o0_0, o0_1, _, _⟩ := rk_two (S_w3.out.hl.2 _ (List.mem_cons_self ..))
    have o0_l := lt_of_block (S_w3.out.hl.2 _ (List.mem_cons_self ..))
    have S_w3a := (show Hid (Lw w0 [(w3.heap.size, #[.slice xa xn xc, .slice xA xN xC], 36), (w0.heap.size, #[.slice sa sn sc, .slice sA sN sC], 32)] [(w2.heap.size, w3.heap.size, .agg #[.slice xa xn xc, .slice xA xN xC], d)] [(w1b.heap.size, w2.heap.size, .slice aa an ac, qs)] w3a) from by rw [hw3a]; exact S_w3.out.new #[.slice xa xn xc, .slice xA xN xC] 36)
    clear S_w3
    go_wp2_with fail
    go_at_call 23
    rw [← hw3a]
    clear hw3a
    refine (CI.out _ _ _ _ _ _ S_w3a.out (S_w3a.out.rows _ (List.mem_cons_self ..)).1.at).mono ?_
    rintro e w4 ⟨ga, gn, gc, rfl, ow4, lw4, bw4⟩
    have Z5 := (show Hid (w3a.heap.size ≤ w4.heap.size) from bw4.size)
    have S_w4 := (show Hid (Lw w0 [(w3.heap.size, #[.slice xa xn xc, .slice xA xN xC], 36), (w0.heap.size, #[.slice sa sn sc, .slice sA sN sC], 32)] [(w2.heap.size, w3.heap.size, .agg #[.slice xa xn xc, .slice xA xN xC], d)] [(w3a.heap.size, w4.heap.size, .slice ga gn gc, qs), (w1b.heap.size, w2.heap.size, .slice aa an ac, qs)] w4) from lw4.addY ow4)
    clear S_w3a bw4
    clear o0_0 o0_1 o0_l
    clear lw4 ow4
    obtain ⟨c0_0, c0_1, _, _⟩ := rk_two (S_w4.out.hl.2 _ (List.mem_cons_self ..))
    obtain ⟨c1_0, c1_1, _, _⟩ := rk_two (S_w4.out.hl.2 _ (List.mem_cons_of_mem _ (List.mem_cons_self ..)))
    go_wp2_with fail
    go_at_call 20
    refine (eqB_any (S_w4.out.bys _ (List.mem_cons_self ..)).1.sl (S_w4.out.bys _ (List.mem_cons_of_mem _ (List.mem_cons_self ..))).1.sl (by show qs.length ≤ _; omega) (by show qs.length ≤ _; omega)).mono ?_
    rintro e w5 ⟨rfl, bw5⟩
    rw [decide_eq_true (rfl : qs = qs)]
    have Z6 := (show Hid (w4.heap.size ≤ w5.heap.size) from bw5.size)
    have S_w5 := (show Hid (Lw w0 [(w3.heap.size, #[.slice xa xn xc, .slice xA xN xC], 36), (w0.heap.size, #[.slice sa sn sc, .slice sA sN sC], 32)] [(w2.heap.size, w3.heap.size, .agg #[.slice xa xn xc, .slice xA xN xC], d)] [(w3a.heap.size, w4.heap.size, .slice ga gn gc, qs), (w1b.heap.size, w2.heap.size, .slice aa an ac, qs)] w5) from S_w4.out.below bw5)
    clear S_w4 bw5
    clear c0_0 c0_1 c1_0 c1_1
    obtain ⟨c0_0, c0_1, _, _⟩ := rk_two (S_w5.out.hl.2 _ (List.mem_cons_self ..))
    obtain ⟨c1_0, c1_1, _, _⟩ := rk_two (S_w5.out.hl.2 _ (List.mem_cons_of_mem _ (List.mem_cons_self ..)))
    go_wp2_with fail
    clear c0_0 c0_1 c1_0 c1_1
    have KD := (show Hid (Lw w0 [(w3.heap.size, #[.slice xa xn xc, .slice xA xN xC], 36), (w0.heap.size, #[.slice sa sn sc, .slice sA sN sC], 32)] [(w2.heap.size, w3.heap.size, .agg #[.slice xa xn xc, .slice xA xN xC], d)] [(w3a.heap.size, w4.heap.size, .slice ga gn gc, qs), (w1b.heap.size, w2.heap.size, .slice aa an ac, qs)] w5.drew) from S_w5.out.below (below_drewN 1))
    have HS := (show Hid (∀ W, Lw w0 [(w3.heap.size, #[.slice xa xn xc, .slice xA xN xC], 36), (w0.heap.size, #[.slice sa sn sc, .slice sA sN sC], 32)] [(w2.heap.size, w3.heap.size, .agg #[.slice xa xn xc, .slice xA xN xC], d)] [(w3a.heap.size, w4.heap.size, .slice ga gn gc, qs), (w1b.heap.size, w2.heap.size, .slice aa an ac, qs)] W → W.cell? ⟨w3.heap.size, 0, none⟩ = some (.slice xa xn xc) ∧ W.cell? ⟨w3.heap.size, 1, none⟩ = some (.slice xA xN xC) ∧ W.cell? ⟨w0.heap.size, 0, none⟩ = some (.slice sa sn sc) ∧ W.cell? ⟨w0.heap.size, 1, none⟩ = some (.slice sA sN sC) ∧ Lw w0 [(w3.heap.size, #[.slice xa xn xc, .slice xA xN xC], 36), (w0.heap.size, #[.slice sa sn sc, .slice sA sN sC], 32)] [(w2.heap.size, w3.heap.size, .agg #[.slice xa xn xc, .slice xA xN xC], d)] [(w3a.heap.size, w4.heap.size, .slice ga gn gc, qs), (w1b.heap.size, w2.heap.size, .slice aa an ac, qs)] W) from fun W h => ⟨(rk_two (h.hl.2 _ (List.mem_cons_self ..))).1, (rk_two (h.hl.2 _ (List.mem_cons_self ..))).2.1, (rk_two (h.hl.2 _ (List.mem_cons_of_mem _ (List.mem_cons_self ..)))).1, (rk_two (h.hl.2 _ (List.mem_cons_of_mem _ (List.mem_cons_self ..)))).2.1, h⟩)
    have hw0 : w0.heap.size ≤ w5.heap.size := S_w5.out.hl.1.size
    go_region_held3 (fun w' => w'.cell? ⟨w3.heap.size, 0, none⟩ = some (.slice xa xn xc) ∧ w'.cell? ⟨w3.heap.size, 1, none⟩ = some (.slice xA xN xC) ∧ w'.cell? ⟨w0.heap.size, 0, none⟩ = some (.slice sa sn sc) ∧ w'.cell? ⟨w0.heap.size, 1, none⟩ = some (.slice sA sN sC) ∧ Lw w0 [(w3.heap.size, #[.slice xa xn xc, .slice xA xN xC], 36), (w0.heap.size, #[.slice sa sn sc, .slice sA sN sC], 32)] [(w2.heap.size, w3.heap.size, .agg #[.slice xa xn xc, .slice xA xN xC], d)] [(w3a.heap.size, w4.heap.size, .slice ga gn gc, qs), (w1b.heap.size, w2.heap.size, .slice aa an ac, qs)] w')
      (first | exact HS.out _ KD.out | exact HS.out _ Q0.out | exact HS.out _ Q1.out)
      (first
        | (go_at_call 12
           refine Calls.mono (CTD.out _ _ _ _ (‹_ ∧ _ ∧ _ ∧ _ ∧ Lw _ _ _ _ _›).2.2.2.2) ?_
           rintro e y0 ⟨ta, tn, tc, tA, tN, tC, rfl, l0, o0, b0⟩
           have O0 := (show Hid (OwnDy w0.heap.size y0 (.agg #[.slice ta tn tc, .slice tA tN tC]) d) from o0)
           clear o0
           have Q0 := (show Hid (Lw w0 [(w3.heap.size, #[.slice xa xn xc, .slice xA xN xC], 36), (w0.heap.size, #[.slice sa sn sc, .slice sA sN sC], 32)] [(w2.heap.size, w3.heap.size, .agg #[.slice xa xn xc, .slice xA xN xC], d)] [(w3a.heap.size, w4.heap.size, .slice ga gn gc, qs), (w1b.heap.size, w2.heap.size, .slice aa an ac, qs)] y0) from l0)
           have z0 : w5.heap.size ≤ y0.heap.size := b0.size
           clear l0 b0)
        | (go_at_call 14
           refine Calls.mono (Q0.out.eqD (Q0.out.rows _ (List.mem_cons_self ..)).1.at O0.out.at HF.out) ?_
           rintro e w6 ⟨rfl, l1, b1⟩
           have Q1 := (show Hid (Lw w0 [(w3.heap.size, #[.slice xa xn xc, .slice xA xN xC], 36), (w0.heap.size, #[.slice sa sn sc, .slice sA sN sC], 32)] [(w2.heap.size, w3.heap.size, .agg #[.slice xa xn xc, .slice xA xN xC], d)] [(w3a.heap.size, w4.heap.size, .slice ga gn gc, qs), (w1b.heap.size, w2.heap.size, .slice aa an ac, qs)] w6) from l1)
           have z1 : w5.heap.size ≤ w6.heap.size := Nat.le_trans z0 b1.size
           clear l1 b1))
    have S_w6 := (show Hid (Lw w0 [(w3.heap.size, #[.slice xa xn xc, .slice xA xN xC], 36), (w0.heap.size, #[.slice sa sn sc, .slice sA sN sC], 32)] [(w2.heap.size, w3.heap.size, .agg #[.slice xa xn xc, .slice xA xN xC], d)] [(w3a.heap.size, w4.heap.size, .slice ga gn gc, qs), (w1b.heap.size, w2.heap.size, .slice aa an ac, qs)] w6) from Q1.out)
    have Z7 := (show Hid (w5.heap.size ≤ w6.heap.size) from z1)
    clear Q1 Q0 O0 KD HS hw0 S_w5 z0 z1
    have CM := (show Hid _ from S_w6.out.mkD HF.out (by have := Z0.out; have := Z1.out; have := Z2.out; have := Z3.out; have := Z4.out; have := Z5.out; have := Z6.out; have := Z7.out; omega) (by simp) (by simp))
    obtain ⟨c0_0, c0_1, _, _⟩ := rk_two (S_w6.out.hl.2 _ (List.mem_cons_self ..))
    obtain ⟨c1_0, c1_1, _, _⟩ := rk_two (S_w6.out.hl.2 _ (List.mem_cons_of_mem _ (List.mem_cons_self ..)))
    go_wp2_with fail
    go_at_call 15
    refine Calls.mono CM.out ?_
    rintro e w7 ⟨rfl, lw7⟩
    clear CM
    have S_w7 := (show Hid (Lw w0 [(w3.heap.size, #[.slice xa xn xc, .slice xA xN xC], 36), (w0.heap.size, #[.slice sa sn sc, .slice sA sN sC], 32)] [(w2.heap.size, w3.heap.size, .agg #[.slice xa xn xc, .slice xA xN xC], (markDk d))] [(w3a.heap.size, w4.heap.size, .slice ga gn gc, qs), (w1b.heap.size, w2.heap.size, .slice aa an ac, qs)] w7) from lw7)
    clear S_w6 lw7
    clear c0_0 c0_1 c1_0 c1_1
    have T_w7 := (show Hid (Lw w0 [(w3.heap.size, #[.slice xa xn xc, .slice xA xN xC], 36), (w0.heap.size, #[.slice sa sn sc, .slice sA sN sC], 32)] [] [(w3a.heap.size, w4.heap.size, .slice ga gn gc, qs), (w1b.heap.size, w2.heap.size, .slice aa an ac, qs)] w7) from S_w7.out.sub (by simp) (by simp) (by simp))
    clear S_w7
    have S_w7 := T_w7
    clear T_w7
    have hf1 := HF.out.sl
    have hf2 := HF.out.ll
    have hk0 : ¬ (1 + (d.safe.length : Int) + 2 * d.late.length < 0) := by omega
    clear hf1 hf2
    obtain ⟨c0_0, c0_1, _, _⟩ := rk_two (S_w7.out.hl.2 _ (List.mem_cons_self ..))
    obtain ⟨c1_0, c1_1, _, _⟩ := rk_two (S_w7.out.hl.2 _ (List.mem_cons_of_mem _ (List.mem_cons_self ..)))
    go_wp2_with fail
    go_at_call 20
    refine (eqB_any (S_w7.out.bys _ (List.mem_cons_self ..)).1.sl (S_w7.out.bys _ (List.mem_cons_of_mem _ (List.mem_cons_self ..))).1.sl (by show qs.length ≤ _; omega) (by show qs.length ≤ _; omega)).mono ?_
    rintro e w8 ⟨rfl, bw8⟩
    rw [decide_eq_true (rfl : qs = qs)]
    have Z8 := (show Hid (w7.heap.size ≤ w8.heap.size) from bw8.size)
    have S_w8 := (show Hid (Lw w0 [(w3.heap.size, #[.slice xa xn xc, .slice xA xN xC], 36), (w0.heap.size, #[.slice sa sn sc, .slice sA sN sC], 32)] [] [(w3a.heap.size, w4.heap.size, .slice ga gn gc, qs), (w1b.heap.size, w2.heap.size, .slice aa an ac, qs)] w8) from S_w7.out.below bw8)
    clear S_w7 bw8
    clear c0_0 c0_1 c1_0 c1_1
    clear hk0
    have CM := (show Hid _ from S_w8.out.mkY (k0 := 1) (by omega) (by omega) (by omega) (by have := Z0.out; have := Z1.out; have := Z2.out; have := Z3.out; have := Z4.out; have := Z5.out; have := Z6.out; have := Z7.out; have := Z8.out; omega) (by have := Z0.out; have := Z1.out; have := Z2.out; have := Z3.out; have := Z4.out; have := Z5.out; have := Z6.out; have := Z7.out; have := Z8.out; simp only [List.mem_cons, List.not_mem_nil, or_false, forall_eq]; omega) (by simp))
    obtain ⟨c0_0, c0_1, _, _⟩ := rk_two (S_w8.out.hl.2 _ (List.mem_cons_self ..))
    obtain ⟨c1_0, c1_1, _, _⟩ := rk_two (S_w8.out.hl.2 _ (List.mem_cons_of_mem _ (List.mem_cons_self ..)))
    go_wp2_with fail
    go_at_call 21
    refine Calls.mono CM.out ?_
    rintro e w9 ⟨rfl, lw9⟩
    clear CM
    have S_w9 := (show Hid (Lw w0 [(w3.heap.size, #[.slice xa xn xc, .slice xA xN xC], 36), (w0.heap.size, #[.slice sa sn sc, .slice sA sN sC], 32)] [] [(w3a.heap.size, w4.heap.size, .slice ga gn gc, (marks (· % 256) 1 qs.length)), (w1b.heap.size, w2.heap.size, .slice aa an ac, qs)] w9) from lw9)
    clear S_w8 lw9
    clear c0_0 c0_1 c1_0 c1_1
    have hk1 : ¬ (1 + (qs.length : Int) < 0) := by omega
    have hk2 : ((1 + (qs.length : Int)) != (1 + (qs.length : Int))) = false := by simp
    obtain ⟨c0_0, c0_1, _, _⟩ := rk_two (S_w9.out.hl.2 _ (List.mem_cons_self ..))
    obtain ⟨c1_0, c1_1, _, _⟩ := rk_two (S_w9.out.hl.2 _ (List.mem_cons_of_mem _ (List.mem_cons_self ..)))
    go_wp2_with fail
    go_at_call 24
    refine (heldB_any (n := qs.length) (k0 := 1) (S_w9.out.bys _ (List.mem_cons_self ..)).1.sl (by omega) (by omega) (by omega)).mono ?_
    rintro e w10 ⟨rfl, bw10⟩
    have Z9 := (show Hid (w9.heap.size ≤ w10.heap.size) from bw10.size)
    have S_w10 := (show Hid (Lw w0 [(w3.heap.size, #[.slice xa xn xc, .slice xA xN xC], 36), (w0.heap.size, #[.slice sa sn sc, .slice sA sN sC], 32)] [] [(w3a.heap.size, w4.heap.size, .slice ga gn gc, (marks (· % 256) 1 qs.length)), (w1b.heap.size, w2.heap.size, .slice aa an ac, qs)] w10) from S_w9.out.below bw10)
    clear S_w9 bw10
    clear c0_0 c0_1 c1_0 c1_1
    obtain ⟨c0_0, c0_1, _, _⟩ := rk_two (S_w10.out.hl.2 _ (List.mem_cons_self ..))
    obtain ⟨c1_0, c1_1, _, _⟩ := rk_two (S_w10.out.hl.2 _ (List.mem_cons_of_mem _ (List.mem_cons_self ..)))
    go_wp2_with fail
    go_at_call 12
    refine (S_w10.out.toD HD.out HF.out).mono ?_
    rintro e w10b ⟨za, zn, zc, zA, zN, zC, rfl, lw10b, ow10b, bw10b⟩
    have Z10 := (show Hid (w10.heap.size ≤ w10b.heap.size) from bw10b.size)
    have S_w10b := (show Hid (Lw w0 [(w3.heap.size, #[.slice xa xn xc, .slice xA xN xC], 36), (w0.heap.size, #[.slice sa sn sc, .slice sA sN sC], 32)] [(w10.heap.size, w10b.heap.size, .agg #[.slice za zn zc, .slice zA zN zC], d)] [(w3a.heap.size, w4.heap.size, .slice ga gn gc, (marks (· % 256) 1 qs.length)), (w1b.heap.size, w2.heap.size, .slice aa an ac, qs)] w10b) from lw10b.add ow10b)
    clear S_w10 bw10b
    clear c0_0 c0_1 c1_0 c1_1
    clear lw10b ow10b
    obtain ⟨c0_0, c0_1, _, _⟩ := rk_two (S_w10b.out.hl.2 _ (List.mem_cons_self ..))
    obtain ⟨c1_0, c1_1, _, _⟩ := rk_two (S_w10b.out.hl.2 _ (List.mem_cons_of_mem _ (List.mem_cons_self ..)))
    go_wp2_with fail
    go_at_call 23
    refine (CI.out _ _ _ _ _ _ S_w10b.out (S_w10b.out.rows _ (List.mem_cons_self ..)).1.at).mono ?_
    rintro e w11 ⟨ka, kn, kc, rfl, ow11, lw11, bw11⟩
    have Z11 := (show Hid (w10b.heap.size ≤ w11.heap.size) from bw11.size)
    have S_w11 := (show Hid (Lw w0 [(w3.heap.size, #[.slice xa xn xc, .slice xA xN xC], 36), (w0.heap.size, #[.slice sa sn sc, .slice sA sN sC], 32)] [(w10.heap.size, w10b.heap.size, .agg #[.slice za zn zc, .slice zA zN zC], d)] [(w10b.heap.size, w11.heap.size, .slice ka kn kc, qs), (w3a.heap.size, w4.heap.size, .slice ga gn gc, (marks (· % 256) 1 qs.length)), (w1b.heap.size, w2.heap.size, .slice aa an ac, qs)] w11) from lw11.addY ow11)
    clear S_w10b bw11
    clear c0_0 c0_1 c1_0 c1_1
    clear lw11 ow11
    obtain ⟨c0_0, c0_1, _, _⟩ := rk_two (S_w11.out.hl.2 _ (List.mem_cons_self ..))
    obtain ⟨c1_0, c1_1, _, _⟩ := rk_two (S_w11.out.hl.2 _ (List.mem_cons_of_mem _ (List.mem_cons_self ..)))
    go_wp2_with fail
    go_at_call 20
    refine (eqB_any (S_w11.out.bys _ (List.mem_cons_self ..)).1.sl (S_w11.out.bys _ (List.mem_cons_of_mem _ (List.mem_cons_of_mem _ (List.mem_cons_self ..)))).1.sl (by show qs.length ≤ _; omega) (by show qs.length ≤ _; omega)).mono ?_
    rintro e w12 ⟨rfl, bw12⟩
    rw [decide_eq_true (rfl : qs = qs)]
    have Z12 := (show Hid (w11.heap.size ≤ w12.heap.size) from bw12.size)
    have S_w12 := (show Hid (Lw w0 [(w3.heap.size, #[.slice xa xn xc, .slice xA xN xC], 36), (w0.heap.size, #[.slice sa sn sc, .slice sA sN sC], 32)] [(w10.heap.size, w10b.heap.size, .agg #[.slice za zn zc, .slice zA zN zC], d)] [(w10b.heap.size, w11.heap.size, .slice ka kn kc, qs), (w3a.heap.size, w4.heap.size, .slice ga gn gc, (marks (· % 256) 1 qs.length)), (w1b.heap.size, w2.heap.size, .slice aa an ac, qs)] w12) from S_w11.out.below bw12)
    clear S_w11 bw12
    clear c0_0 c0_1 c1_0 c1_1
    obtain ⟨c0_0, c0_1, _, _⟩ := rk_two (S_w12.out.hl.2 _ (List.mem_cons_self ..))
    obtain ⟨c1_0, c1_1, _, _⟩ := rk_two (S_w12.out.hl.2 _ (List.mem_cons_of_mem _ (List.mem_cons_self ..)))
    go_wp2_with fail
    go_at_call 24
    refine (heldB_any (n := qs.length) (k0 := 1) (S_w12.out.bys _ (List.mem_cons_of_mem _ (List.mem_cons_self ..))).1.sl (by omega) (by omega) (by omega)).mono ?_
    rintro e w13 ⟨rfl, bw13⟩
    have Z13 := (show Hid (w12.heap.size ≤ w13.heap.size) from bw13.size)
    have S_w13 := (show Hid (Lw w0 [(w3.heap.size, #[.slice xa xn xc, .slice xA xN xC], 36), (w0.heap.size, #[.slice sa sn sc, .slice sA sN sC], 32)] [(w10.heap.size, w10b.heap.size, .agg #[.slice za zn zc, .slice zA zN zC], d)] [(w10b.heap.size, w11.heap.size, .slice ka kn kc, qs), (w3a.heap.size, w4.heap.size, .slice ga gn gc, (marks (· % 256) 1 qs.length)), (w1b.heap.size, w2.heap.size, .slice aa an ac, qs)] w13) from S_w12.out.below bw13)
    clear S_w12 bw13
    clear c0_0 c0_1 c1_0 c1_1
    go_wp2
    go_ret
    exact ⟨rfl, S_w13.out.hl.1⟩
end Go.Proofs.Ytiejfnnokfedkaa

/- The program's small questions on heads and areas. No condition. -/
namespace Go.Proofs.Ytiejfnnokfedkaa
open Go.RowKit
set_option maxRecDepth 100000
set_option linter.unusedVariables false

theorem iisArea_any (x : Int) (w : World) : Calls Try.prog 55 #[.int .i64 x] w fun e w' => e = .returned (.bool (inB x 0 1)) ∧ w' = w := by
  by_cases h1 : 0 ≤ x
  · by_cases h2 : x < 2
    · rw [inB_yes h1 (by omega)]
      go_enter Try.func55, Try.ntmps55
      go_wp2
      go_ret
      exact ⟨rfl, rfl⟩
    · have : inB x 0 1 = false := by simp [inB]; omega
      rw [this]
      go_enter Try.func55, Try.ntmps55
      go_wp2
      go_ret
      exact ⟨rfl, rfl⟩
  · have : inB x 0 1 = false := by simp [inB]; omega
    rw [this]
    go_enter Try.func55, Try.ntmps55
    go_wp2
    go_ret
    exact ⟨rfl, rfl⟩

set_option maxRecDepth 100000 in
theorem iisRight_any (h : PHead) (w : World) : Calls Try.prog 27 #[headV h] w fun e w' => e = .returned (.bool (headB h)) ∧ Below w.heap.size w w' := by
  obtain ⟨no, ar, en⟩ := h
  unfold headV
  simp only
  have b1 : Below w.heap.size w (w.alloc (.cells #[.int .i64 no, .int .i64 ar, .int .i64 en] 26)) := (Below.refl _ _).alloc (Nat.le_refl _) _
  have B1 := (show Hid _ from b1)
  clear b1
  obtain ⟨r, hr⟩ : ∃ r, r = headB ⟨no, ar, en⟩ := ⟨_, rfl⟩
  rw [← hr]
  have HR := (show Hid (r = (inB no 1 1000000000 && inB ar 0 1 && inB en 0 4096)) from hr)
  have CA := (show Hid _ from iisArea_any ar)
  clear hr
  by_cases h1 : 1 ≤ no
  · by_cases h2 : no ≤ 1000000000
    · cases hq : inB ar 0 1
      · rw [hq] at CA
        have HF : Hid (r = false) := (show r = false by rw [HR.out, hq]; simp)
        clear HR hq
        go_enter Try.func27, Try.ntmps27
        go_wp2_with fail
        go_at_call 55
        refine (CA.out _).mono ?_
        rintro e w2 ⟨rfl, e2⟩
        subst e2
        go_wp2
        go_ret
        exact ⟨ret_bool HF.out.symm, B1.out⟩
      · rw [hq] at CA
        by_cases h3 : 0 ≤ en
        · by_cases h4 : en ≤ 4096
          · have HF : Hid (r = true) := (show r = true by rw [HR.out, hq, inB_yes h1 h2, inB_yes h3 h4]; rfl)
            clear HR hq
            go_enter Try.func27, Try.ntmps27
            go_wp2_with fail
            go_at_call 55
            refine (CA.out _).mono ?_
            rintro e w2 ⟨rfl, e2⟩
            subst e2
            go_wp2
            go_ret
            exact ⟨ret_bool HF.out.symm, B1.out⟩
          · have HF : Hid (r = false) := (show r = false by rw [HR.out, inB_no (x := en) (lo := 0) (hi := 4096) (by omega)]; simp)
            clear HR hq
            go_enter Try.func27, Try.ntmps27
            go_wp2_with fail
            go_at_call 55
            refine (CA.out _).mono ?_
            rintro e w2 ⟨rfl, e2⟩
            subst e2
            go_wp2
            go_ret
            exact ⟨ret_bool ((decide_eq_false (by omega)).trans HF.out.symm), B1.out⟩
        · have HF : Hid (r = false) := (show r = false by rw [HR.out, inB_no (x := en) (lo := 0) (hi := 4096) (by omega)]; simp)
          clear HR hq
          go_enter Try.func27, Try.ntmps27
          go_wp2_with fail
          go_at_call 55
          refine (CA.out _).mono ?_
          rintro e w2 ⟨rfl, e2⟩
          subst e2
          go_wp2
          go_ret
          exact ⟨ret_bool HF.out.symm, B1.out⟩
    · have HF : Hid (r = false) := (show r = false by rw [HR.out, inB_no (x := no) (lo := 1) (hi := 1000000000) (by omega)]; simp)
      clear HR CA
      go_enter Try.func27, Try.ntmps27
      go_wp2
      go_ret
      exact ⟨ret_bool HF.out.symm, B1.out⟩
  · have HF : Hid (r = false) := (show r = false by rw [HR.out, inB_no (x := no) (lo := 1) (hi := 1000000000) (by omega)]; simp)
    clear HR CA
    go_enter Try.func27, Try.ntmps27
    go_wp2
    go_ret
    exact ⟨ret_bool HF.out.symm, B1.out⟩

/-- What spanOk answers. -/
def spanB (a at' n : Int) : Bool := inB a 0 1 && inB at' 0 4096 && inB n 0 (4096 - at')
theorem ispanOk_any (a at' n : Int) (w : World) : Calls Try.prog 50 #[.int .i64 a, .int .i64 at', .int .i64 n] w fun e w' => e = .returned (.bool (spanB a at' n)) ∧ w' = w := by
  obtain ⟨r, hr⟩ : ∃ r, r = spanB a at' n := ⟨_, rfl⟩
  rw [← hr]
  have HR := (show Hid (r = (inB a 0 1 && inB at' 0 4096 && inB n 0 (4096 - at'))) from hr)
  have CA := (show Hid _ from iisArea_any a)
  clear hr
  cases hq : inB a 0 1
  · rw [hq] at CA
    have HF : Hid (r = false) := (show r = false by rw [HR.out, hq]; simp)
    clear HR hq
    go_enter Try.func50, Try.ntmps50
    go_wp2_with fail
    go_at_call 55
    refine (CA.out _).mono ?_
    rintro e w2 ⟨rfl, e2⟩
    subst e2
    go_wp2
    go_ret
    exact ⟨ret_bool HF.out.symm, rfl⟩
  · rw [hq] at CA
    have HQ := (show Hid _ from hq)
    clear hq
    by_cases h1 : 0 ≤ at' ∧ at' ≤ 4096
    · obtain ⟨h1, h2⟩ := h1
      by_cases h3 : 0 ≤ n
      · by_cases h4 : n ≤ 4096 - at'
        · have HF : Hid (r = true) := (show r = true by rw [HR.out, HQ.out, inB_yes h1 h2, inB_yes h3 h4]; rfl)
          clear HR HQ
          go_enter Try.func50, Try.ntmps50
          go_wp2_with fail
          go_at_call 55
          refine (CA.out _).mono ?_
          rintro e w2 ⟨rfl, e2⟩
          subst e2
          go_wp2
          go_ret
          exact ⟨ret_bool HF.out.symm, rfl⟩
        · have HF : Hid (r = false) := (show r = false by rw [HR.out, inB_no (x := n) (lo := 0) (hi := 4096 - at') (by omega)]; simp)
          clear HR HQ
          go_enter Try.func50, Try.ntmps50
          go_wp2_with fail
          go_at_call 55
          refine (CA.out _).mono ?_
          rintro e w2 ⟨rfl, e2⟩
          subst e2
          go_wp2
          go_ret
          exact ⟨ret_bool ((decide_eq_false (by omega)).trans HF.out.symm), rfl⟩
      · have HF : Hid (r = false) := (show r = false by rw [HR.out, inB_no (x := n) (lo := 0) (hi := 4096 - at') (by omega)]; simp)
        clear HR HQ
        go_enter Try.func50, Try.ntmps50
        go_wp2_with fail
        go_at_call 55
        refine (CA.out _).mono ?_
        rintro e w2 ⟨rfl, e2⟩
        subst e2
        go_wp2
        go_ret
        exact ⟨ret_bool HF.out.symm, rfl⟩
    · have HF : Hid (r = false) := (show r = false by rw [HR.out, inB_no (x := at') (lo := 0) (hi := 4096) (by omega)]; simp)
      clear HR HQ
      by_cases h0 : 0 ≤ at'
      · have h2 : ¬ (at' ≤ 4096) := fun e => h1 ⟨h0, e⟩
        clear h1
        go_enter Try.func50, Try.ntmps50
        go_wp2_with fail
        go_at_call 55
        refine (CA.out _).mono ?_
        rintro e w2 ⟨rfl, e2⟩
        subst e2
        go_wp2
        go_ret
        exact ⟨ret_bool HF.out.symm, rfl⟩
      · clear h1
        go_enter Try.func50, Try.ntmps50
        go_wp2_with fail
        go_at_call 55
        refine (CA.out _).mono ?_
        rintro e w2 ⟨rfl, e2⟩
        subst e2
        go_wp2
        go_ret
        exact ⟨ret_bool HF.out.symm, rfl⟩

theorem isectorAt_any (a : Int) (k : Nat) (w : World) (ha : a = 0 ∨ a = 1) (hk : k ≤ 4096) : Calls Try.prog 51 #[.int .i64 a, .int .i64 (k : Int)] w fun e w' => e = .returned (.int .i64 (2 + 64 * a + ((k / 64 : Nat) : Int))) ∧ w' = w := by
  obtain ⟨x, hx⟩ : ∃ x : Int, x = (k : Int) := ⟨_, rfl⟩
  have HX := (show Hid (x = (k : Int)) from hx)
  have h0 : 0 ≤ x := by omega
  have h1 : x ≤ 4096 := by omega
  rw [← hx]
  clear hx hk
  go_enter Try.func51, Try.ntmps51
  go_wp2
  go_ret
  refine ⟨ret_int ?_, rfl⟩
  have hx := HX.out
  rcases ha with rfl | rfl <;> simp <;> omega
end Go.Proofs.Ytiejfnnokfedkaa
