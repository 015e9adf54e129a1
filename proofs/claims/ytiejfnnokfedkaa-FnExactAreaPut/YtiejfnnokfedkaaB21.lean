import Derived.Test.YtiejfnnokfedkaaB19
import Derived.Test.YtiejfnnokfedkaaB20
import Derived.Deep.RegionHeld3
import Derived.Test.YtiejfnnokfedkaaB16
/- The exact law of AreaPut, from the program's contract (written by mk/warea.py). -/
namespace Go.Proofs.Ytiejfnnokfedkaa
open Go.RowKit
set_option maxRecDepth 100000
set_option linter.unusedVariables false

def AreaPutOz : Prop := ∀ (w : World) (v : Value) (d : PDisk) (ar at' : Int) (u : Value) (b : List Int), DiskAt w v d → DiskFit d → (Lit.int .i64 ar).wf = true → (Lit.int .i64 at').wf = true → Sl .u8 w u b → (∀ x ∈ b, 0 ≤ x ∧ x ≤ 255) → b.length ≤ 1099511627776 → Calls Try.prog 19 #[v, .int .i64 ar, .int .i64 at', u] w fun e w' => ∃ v', e = .returned (.tuple #[v', .bool (areaDk d ar at' b).2]) ∧ OwnDz w.heap.size w' v' (areaDk d ar at' b).1 ∧ Below w.heap.size w w'
theorem fit_area {d : PDisk} (h : DiskFit d) (ar at' : Int) (b : List Int) : DiskFit (areaDk d ar at' b).1 := by
  unfold areaDk
  split
  · exact fit_zero
  · rename_i hb
    split
    · exact h
    · rename_i hp
      have ha : ar = 0 ∨ ar = 1 := by
        simp only [putOkA, Bool.not_eq_false, Bool.and_eq_true, Bool.or_eq_true, decide_eq_true_eq] at hp
        exact hp.1.1
      cases e : areaN d ar b at'.toNat 64 with
      | none => exact h
      | some e' => exact fit_right (areaN_right (by simpa using hb) ha (Nat.le_refl _) e)

set_option maxHeartbeats 4000000 in
set_option maxRecDepth 100000 in
theorem fnExactAreaPut_ofz (H : AreaPutOz) {v : Value} {d : PDisk} {ar at' : Int} {u : Value} {b : List Int} (w0 : World) (h : DiskAt w0 v d) (hs : ∀ s ∈ d.safe, s.size ≤ maxLen) (hp : ∀ p ∈ d.late, p.2.size ≤ maxLen) (k0 : (Lit.int .i64 ar).wf = true) (k1 : (Lit.int .i64 at').wf = true) (hu : Sl .u8 w0 u b) (hb : ∀ x ∈ b, 0 ≤ x ∧ x ≤ 255) :
    Calls Try.prog 5 #[v, .int .i64 ar, .int .i64 at', u] w0 fun e w' => e = .returned (.bool true) ∧ Below w0.heap.size w0 w' := by
  have HU := (show Hid (Sl .u8 w0 u b) from hu)
  obtain ⟨ba, bc, eu, _⟩ := hu
  subst eu
  obtain ⟨sa, sn, sc, sA, sN, sC, ev⟩ : ∃ sa sn sc sA sN sC, v = .agg #[.slice sa sn sc, .slice sA sN sC] := by
    obtain ⟨_, _, _, _, _, _, e, _⟩ := h
    exact ⟨_, _, _, _, _, _, e⟩
  subst ev
  have HD := (show Hid (DiskAt w0 (.agg #[.slice sa sn sc, .slice sA sN sC]) d) from h)
  obtain ⟨w, hw⟩ : ∃ x, x = w0.alloc (.cells #[.slice sa sn sc, .slice sA sN sC] 32) := ⟨_, rfl⟩
  have hl := (Lw.refl w0).new #[.slice sa sn sc, .slice sA sN sC] 32
  rw [← hw] at hl
  have HL := (show Hid (Lw w0 [(w0.heap.size, #[.slice sa sn sc, .slice sA sN sC], 32)] [] [] w) from hl)
  by_cases hbig : 1048576 < (b.length : Int)
  · go_enter Try.func5, Try.ntmps5
    go_wp2
    go_ret
    exact ⟨rfl, by rw [← hw]; exact HL.out.hl.1⟩
  have hbl : b.length ≤ 1099511627776 := by omega
  have HC := (show Hid (∀ (w : World) (v u : Value), DiskAt w v d → DiskFit d → Sl .u8 w u b → Calls Try.prog 19 #[v, .int .i64 ar, .int .i64 at', u] w fun e w' => ∃ v', e = .returned (.tuple #[v', .bool (areaDk d ar at' b).2]) ∧ OwnDz w.heap.size w' v' (areaDk d ar at' b).1 ∧ Below w.heap.size w w') from fun w v u hd hf hu => H w v d ar at' u b hd hf k0 k1 hu hb hbl)
  have HS0 := (show Hid (∀ (w : World) (v u : Value), DiskAt w v d → DiskFit d → Sl .u8 w u b → Calls Try.prog 17 #[v, .int .i64 ar, .int .i64 at', u] w fun e w' => ∃ v', e = .returned (.tuple #[v', .bool (areaDk d ar at' b).2]) ∧ OwnDk w.heap.size w' v' (areaDk d ar at' b).1 ∧ Below w.heap.size w w') from fun w v u hd hf hu => sareaPut_any hd hf ar at' hu hb hbl)
  have CZ := (show Hid (Calls Try.prog 10 #[.agg #[.slice sa sn sc, .slice sA sN sC], .int .i64 1048576] w fun e w' => ∃ r : Int, e = .returned (.int .i64 r) ∧ (r < 0 ∨ (0 ≤ r ∧ r ≤ 1048576 ∧ DiskFit d)) ∧ Below w.heap.size w w') from szDisk_any (HD.out.below hl.hl.1) hs hp 1048576 (by decide) (by decide))
  clear H hs hp hl k0 k1 h hb
  go_enter Try.func5, Try.ntmps5
  go_wp2_with fail
  go_at_call 10
  rw [← hw]
  refine Calls.mono CZ.out ?_
  rintro e w1 ⟨r, rfl, hr, b1⟩
  clear CZ hw
  rcases hr with hr | ⟨hr0, hr1, hf⟩
  · go_wp2
    go_ret
    exact ⟨rfl, (HL.out.below b1).hl.1⟩
  · have HF := (show Hid (DiskFit d) from hf)
    have FQ := (show Hid (DiskFit (areaDk d ar at' b).1) from fit_area hf _ _ _)
    clear hf
    obtain ⟨⟨qd, qb⟩, hq⟩ : ∃ q, q = areaDk d ar at' b := ⟨_, rfl⟩
    rw [← hq] at FQ HC HS0
    simp only at FQ HC HS0
    have CI := (show Hid (∀ L R Y (W : World) (u p q : Value) (B : Nat), Lw w0 L R Y W → B ≤ W.heap.size → DiskAt W (.agg #[p, q]) d → Sl .u8 W u b → Calls Try.prog 19 #[.agg #[p, q], .int .i64 ar, .int .i64 at', u] W fun e W' => ∃ xa xn xc xA xN xC, e = .returned (.tuple #[.agg #[.slice xa xn xc, .slice xA xN xC], .bool qb]) ∧ OwnDy B W' (.agg #[.slice xa xn xc, .slice xA xN xC]) qd ∧ Lw w0 L R Y W' ∧ Below W.heap.size W W') from fun L R Y W u p q B l hB hd hu => (HC.out W _ _ hd HF.out hu).mono (by
      rintro e W' ⟨v', rfl, o, k⟩
      have o' := OwnDy.of o
      obtain ⟨_, _, _, _, _, _, rfl, _⟩ := o
      exact ⟨_, _, _, _, _, _, rfl, o'.base hB, l.below k, k⟩))
    have CS := (show Hid (∀ L R Y (W : World) (u p q : Value) (B : Nat), Lw w0 L R Y W → B ≤ W.heap.size → DiskAt W (.agg #[p, q]) d → Sl .u8 W u b → Calls Try.prog 17 #[.agg #[p, q], .int .i64 ar, .int .i64 at', u] W fun e W' => ∃ xa xn xc xA xN xC, e = .returned (.tuple #[.agg #[.slice xa xn xc, .slice xA xN xC], .bool qb]) ∧ OwnDy B W' (.agg #[.slice xa xn xc, .slice xA xN xC]) qd ∧ Lw w0 L R Y W' ∧ Below W.heap.size W W') from fun L R Y W u p q B l hB hd hu => (HS0.out W _ _ hd HF.out hu).mono (by
      rintro e W' ⟨v', rfl, o, k⟩
      have o' := OwnDy.of (OwnDz.of o)
      obtain ⟨_, _, _, _, _, _, rfl, _⟩ := o
      exact ⟨_, _, _, _, _, _, rfl, o'.base hB, l.below k, k⟩))
    have CTD := (show Hid (∀ L R Y W, Lw w0 L R Y W → Calls Try.prog 12 #[.agg #[.slice sa sn sc, .slice sA sN sC]] W fun e W' => ∃ ta tn tc tA tN tC, e = .returned (.agg #[.slice ta tn tc, .slice tA tN tC]) ∧ Lw w0 L R Y W' ∧ OwnDy w0.heap.size W' (.agg #[.slice ta tn tc, .slice tA tN tC]) d ∧ Below W.heap.size W W') from fun L R Y W l => (l.toD HD.out HF.out).mono (by
      rintro e W' ⟨_, _, _, _, _, _, rfl, l', o, k⟩
      exact ⟨_, _, _, _, _, _, rfl, l', o.base l.hl.1.size, k⟩))
    have CTB := (show Hid (∀ L R Y W, Lw w0 L R Y W → Calls Try.prog 18 #[.slice ba b.length bc] W fun e W' => ∃ tb, e = .returned tb ∧ Lw w0 L R Y W' ∧ Sl .u8 W' tb b ∧ Below W.heap.size W W') from fun L R Y W l => (l.toBs HU.out hbl).mono (by
      rintro e W' ⟨_, rfl, l', o, k⟩
      exact ⟨_, rfl, l', o.sl, k⟩))
    have hqq : (qb != qb) = false := by cases qb <;> rfl
    have fl1 := FQ.out.sl
    have fl2 := FQ.out.ll
    clear hq HC HS0
    have S_w1 := (show Hid (Lw w0 [(w0.heap.size, #[.slice sa sn sc, .slice sA sN sC], 32)] [] [] w1) from HL.out.below b1)
    have Z0 := (show Hid (w0.heap.size ≤ w1.heap.size) from S_w1.out.hl.1.size)
    clear HL b1
    obtain ⟨c0_0, c0_1, _, _⟩ := rk_two (S_w1.out.hl.2 _ (List.mem_cons_self ..))
    go_wp2_with fail
    go_at_call 12
    refine (S_w1.out.toD HD.out HF.out).mono ?_
    rintro e w1b ⟨ta, tn, tc, tA, tN, tC, rfl, lw1b, ow1b, bw1b⟩
    have Z1 := (show Hid (w1.heap.size ≤ w1b.heap.size) from bw1b.size)
    have S_w1b := (show Hid (Lw w0 [(w0.heap.size, #[.slice sa sn sc, .slice sA sN sC], 32)] [(w1.heap.size, w1b.heap.size, .agg #[.slice ta tn tc, .slice tA tN tC], d)] [] w1b) from lw1b.add ow1b)
    clear S_w1 bw1b
    clear c0_0 c0_1
    clear lw1b ow1b
    obtain ⟨c0_0, c0_1, _, _⟩ := rk_two (S_w1b.out.hl.2 _ (List.mem_cons_self ..))
    go_wp2_with fail
    go_at_call 18
    refine (S_w1b.out.toBs HU.out hbl).mono ?_
    rintro e w1c ⟨tb, rfl, lw1c, ow1c, bw1c⟩
    have Z2 := (show Hid (w1b.heap.size ≤ w1c.heap.size) from bw1c.size)
    have S_w1c := (show Hid (Lw w0 [(w0.heap.size, #[.slice sa sn sc, .slice sA sN sC], 32)] [(w1.heap.size, w1b.heap.size, .agg #[.slice ta tn tc, .slice tA tN tC], d)] [(w1b.heap.size, w1c.heap.size, tb, b)] w1c) from lw1c.addY ow1c)
    clear S_w1b bw1c
    clear c0_0 c0_1
    clear lw1c ow1c
    obtain ⟨c0_0, c0_1, _, _⟩ := rk_two (S_w1c.out.hl.2 _ (List.mem_cons_self ..))
    go_wp2_with fail
    go_at_call 17
    refine (CS.out _ _ _ _ _ _ _ w1c.heap.size S_w1c.out (Nat.le_refl _) (S_w1c.out.rows _ (List.mem_cons_self ..)).1.at (S_w1c.out.bys _ (List.mem_cons_self ..)).1.sl).mono ?_
    rintro e w2 ⟨aa, an, ac, aA, aN, aC, rfl, ow2, lw2, bw2⟩
    have Z3 := (show Hid (w1c.heap.size ≤ w2.heap.size) from bw2.size)
    have S_w2 := (show Hid (Lw w0 [(w0.heap.size, #[.slice sa sn sc, .slice sA sN sC], 32)] [(w1c.heap.size, w2.heap.size, .agg #[.slice aa an ac, .slice aA aN aC], qd), (w1.heap.size, w1b.heap.size, .agg #[.slice ta tn tc, .slice tA tN tC], d)] [(w1b.heap.size, w1c.heap.size, tb, b)] w2) from lw2.add ow2)
    clear S_w1c bw2
    clear c0_0 c0_1
    clear lw2 ow2
    obtain ⟨w2a, hw2a⟩ : ∃ x, x = w2.alloc (.cells #[.slice aa an ac, .slice aA aN aC] 36) := ⟨_, rfl⟩
    have Z4 := (show Hid (w2.heap.size < w2a.heap.size) from (show w2.heap.size < w2a.heap.size by rw [hw2a, World.size_alloc]; omega))
    obtain ⟨o0_0, o0_1, _, _⟩ := rk_two (S_w2.out.hl.2 _ (List.mem_cons_self ..))
    have o0_l := lt_of_block (S_w2.out.hl.2 _ (List.mem_cons_self ..))
    have S_w2a := (show Hid (Lw w0 [(w2.heap.size, #[.slice aa an ac, .slice aA aN aC], 36), (w0.heap.size, #[.slice sa sn sc, .slice sA sN sC], 32)] [(w1c.heap.size, w2.heap.size, .agg #[.slice aa an ac, .slice aA aN aC], qd), (w1.heap.size, w1b.heap.size, .agg #[.slice ta tn tc, .slice tA tN tC], d)] [(w1b.heap.size, w1c.heap.size, tb, b)] w2a) from by rw [hw2a]; exact S_w2.out.new #[.slice aa an ac, .slice aA aN aC] 36)
    clear S_w2
    have T_w2a := (show Hid (Lw w0 [(w2.heap.size, #[.slice aa an ac, .slice aA aN aC], 36), (w0.heap.size, #[.slice sa sn sc, .slice sA sN sC], 32)] [(w1c.heap.size, w2.heap.size, .agg #[.slice aa an ac, .slice aA aN aC], qd)] [] w2a) from S_w2a.out.sub (by simp) (by simp) (by simp))
    clear S_w2a
    have S_w2a := T_w2a
    clear T_w2a
    go_wp2_with fail
    go_at_call 12
    rw [← hw2a]
    clear hw2a
    refine (S_w2a.out.toD HD.out HF.out).mono ?_
    rintro e w3 ⟨xa, xn, xc, xA, xN, xC, rfl, lw3, ow3, bw3⟩
    have Z5 := (show Hid (w2a.heap.size ≤ w3.heap.size) from bw3.size)
    have S_w3 := (show Hid (Lw w0 [(w2.heap.size, #[.slice aa an ac, .slice aA aN aC], 36), (w0.heap.size, #[.slice sa sn sc, .slice sA sN sC], 32)] [(w2a.heap.size, w3.heap.size, .agg #[.slice xa xn xc, .slice xA xN xC], d), (w1c.heap.size, w2.heap.size, .agg #[.slice aa an ac, .slice aA aN aC], qd)] [] w3) from lw3.add ow3)
    clear S_w2a bw3
    clear o0_0 o0_1 o0_l
    clear lw3 ow3
    obtain ⟨w3a, hw3a⟩ : ∃ x, x = w3.alloc (.cells #[.slice xa xn xc, .slice xA xN xC] 36) := ⟨_, rfl⟩
    have Z6 := (show Hid (w3.heap.size < w3a.heap.size) from (show w3.heap.size < w3a.heap.size by rw [hw3a, World.size_alloc]; omega))
    obtain ⟨o0_0, o0_1, _, _⟩ := rk_two (S_w3.out.hl.2 _ (List.mem_cons_self ..))
    have o0_l := lt_of_block (S_w3.out.hl.2 _ (List.mem_cons_self ..))
    obtain ⟨o1_0, o1_1, _, _⟩ := rk_two (S_w3.out.hl.2 _ (List.mem_cons_of_mem _ (List.mem_cons_self ..)))
    have o1_l := lt_of_block (S_w3.out.hl.2 _ (List.mem_cons_of_mem _ (List.mem_cons_self ..)))
    have S_w3a := (show Hid (Lw w0 [(w3.heap.size, #[.slice xa xn xc, .slice xA xN xC], 36), (w2.heap.size, #[.slice aa an ac, .slice aA aN aC], 36), (w0.heap.size, #[.slice sa sn sc, .slice sA sN sC], 32)] [(w2a.heap.size, w3.heap.size, .agg #[.slice xa xn xc, .slice xA xN xC], d), (w1c.heap.size, w2.heap.size, .agg #[.slice aa an ac, .slice aA aN aC], qd)] [] w3a) from by rw [hw3a]; exact S_w3.out.new #[.slice xa xn xc, .slice xA xN xC] 36)
    clear S_w3
    go_wp2_with fail
    go_at_call 18
    rw [← hw3a]
    clear hw3a
    refine (S_w3a.out.toBs HU.out hbl).mono ?_
    rintro e w3b ⟨ub, rfl, lw3b, ow3b, bw3b⟩
    have Z7 := (show Hid (w3a.heap.size ≤ w3b.heap.size) from bw3b.size)
    have S_w3b := (show Hid (Lw w0 [(w3.heap.size, #[.slice xa xn xc, .slice xA xN xC], 36), (w2.heap.size, #[.slice aa an ac, .slice aA aN aC], 36), (w0.heap.size, #[.slice sa sn sc, .slice sA sN sC], 32)] [(w2a.heap.size, w3.heap.size, .agg #[.slice xa xn xc, .slice xA xN xC], d), (w1c.heap.size, w2.heap.size, .agg #[.slice aa an ac, .slice aA aN aC], qd)] [(w3a.heap.size, w3b.heap.size, ub, b)] w3b) from lw3b.addY ow3b)
    clear S_w3a bw3b
    clear o0_0 o0_1 o0_l o1_0 o1_1 o1_l
    clear lw3b ow3b
    obtain ⟨c0_0, c0_1, _, _⟩ := rk_two (S_w3b.out.hl.2 _ (List.mem_cons_self ..))
    obtain ⟨c1_0, c1_1, _, _⟩ := rk_two (S_w3b.out.hl.2 _ (List.mem_cons_of_mem _ (List.mem_cons_self ..)))
    obtain ⟨c2_0, c2_1, _, _⟩ := rk_two (S_w3b.out.hl.2 _ (List.mem_cons_of_mem _ (List.mem_cons_of_mem _ (List.mem_cons_self ..))))
    go_wp2_with fail
    go_at_call 19
    refine (CI.out _ _ _ _ _ _ _ w3b.heap.size S_w3b.out (Nat.le_refl _) (S_w3b.out.rows _ (List.mem_cons_self ..)).1.at (S_w3b.out.bys _ (List.mem_cons_self ..)).1.sl).mono ?_
    rintro e w4 ⟨ga, gn, gc, gA, gN, gC, rfl, ow4, lw4, bw4⟩
    have Z8 := (show Hid (w3b.heap.size ≤ w4.heap.size) from bw4.size)
    have S_w4 := (show Hid (Lw w0 [(w3.heap.size, #[.slice xa xn xc, .slice xA xN xC], 36), (w2.heap.size, #[.slice aa an ac, .slice aA aN aC], 36), (w0.heap.size, #[.slice sa sn sc, .slice sA sN sC], 32)] [(w3b.heap.size, w4.heap.size, .agg #[.slice ga gn gc, .slice gA gN gC], qd), (w2a.heap.size, w3.heap.size, .agg #[.slice xa xn xc, .slice xA xN xC], d), (w1c.heap.size, w2.heap.size, .agg #[.slice aa an ac, .slice aA aN aC], qd)] [(w3a.heap.size, w3b.heap.size, ub, b)] w4) from lw4.add ow4)
    clear S_w3b bw4
    clear c0_0 c0_1 c1_0 c1_1 c2_0 c2_1
    clear lw4 ow4
    obtain ⟨w4a, hw4a⟩ : ∃ x, x = w4.alloc (.cells #[.slice ga gn gc, .slice gA gN gC] 36) := ⟨_, rfl⟩
    have Z9 := (show Hid (w4.heap.size < w4a.heap.size) from (show w4.heap.size < w4a.heap.size by rw [hw4a, World.size_alloc]; omega))
    obtain ⟨o0_0, o0_1, _, _⟩ := rk_two (S_w4.out.hl.2 _ (List.mem_cons_self ..))
    have o0_l := lt_of_block (S_w4.out.hl.2 _ (List.mem_cons_self ..))
    obtain ⟨o1_0, o1_1, _, _⟩ := rk_two (S_w4.out.hl.2 _ (List.mem_cons_of_mem _ (List.mem_cons_self ..)))
    have o1_l := lt_of_block (S_w4.out.hl.2 _ (List.mem_cons_of_mem _ (List.mem_cons_self ..)))
    obtain ⟨o2_0, o2_1, _, _⟩ := rk_two (S_w4.out.hl.2 _ (List.mem_cons_of_mem _ (List.mem_cons_of_mem _ (List.mem_cons_self ..))))
    have o2_l := lt_of_block (S_w4.out.hl.2 _ (List.mem_cons_of_mem _ (List.mem_cons_of_mem _ (List.mem_cons_self ..))))
    have S_w4a := (show Hid (Lw w0 [(w4.heap.size, #[.slice ga gn gc, .slice gA gN gC], 36), (w3.heap.size, #[.slice xa xn xc, .slice xA xN xC], 36), (w2.heap.size, #[.slice aa an ac, .slice aA aN aC], 36), (w0.heap.size, #[.slice sa sn sc, .slice sA sN sC], 32)] [(w3b.heap.size, w4.heap.size, .agg #[.slice ga gn gc, .slice gA gN gC], qd), (w2a.heap.size, w3.heap.size, .agg #[.slice xa xn xc, .slice xA xN xC], d), (w1c.heap.size, w2.heap.size, .agg #[.slice aa an ac, .slice aA aN aC], qd)] [(w3a.heap.size, w3b.heap.size, ub, b)] w4a) from by rw [hw4a]; exact S_w4.out.new #[.slice ga gn gc, .slice gA gN gC] 36)
    clear S_w4
    go_wp2_with fail
    go_at_call 14
    rw [← hw4a]
    clear hw4a
    refine (S_w4a.out.eqD (S_w4a.out.rows _ (List.mem_cons_self ..)).1.at (S_w4a.out.rows _ (List.mem_cons_of_mem _ (List.mem_cons_of_mem _ (List.mem_cons_self ..)))).1.at FQ.out).mono ?_
    rintro e w5 ⟨rfl, lw5, bw5⟩
    have Z10 := (show Hid (w4a.heap.size ≤ w5.heap.size) from bw5.size)
    have S_w5 := (show Hid (Lw w0 [(w4.heap.size, #[.slice ga gn gc, .slice gA gN gC], 36), (w3.heap.size, #[.slice xa xn xc, .slice xA xN xC], 36), (w2.heap.size, #[.slice aa an ac, .slice aA aN aC], 36), (w0.heap.size, #[.slice sa sn sc, .slice sA sN sC], 32)] [(w3b.heap.size, w4.heap.size, .agg #[.slice ga gn gc, .slice gA gN gC], qd), (w2a.heap.size, w3.heap.size, .agg #[.slice xa xn xc, .slice xA xN xC], d), (w1c.heap.size, w2.heap.size, .agg #[.slice aa an ac, .slice aA aN aC], qd)] [(w3a.heap.size, w3b.heap.size, ub, b)] w5) from lw5)
    clear S_w4a bw5
    clear o0_0 o0_1 o0_l o1_0 o1_1 o1_l o2_0 o2_1 o2_l
    clear lw5
    obtain ⟨c0_0, c0_1, _, _⟩ := rk_two (S_w5.out.hl.2 _ (List.mem_cons_self ..))
    obtain ⟨c1_0, c1_1, _, _⟩ := rk_two (S_w5.out.hl.2 _ (List.mem_cons_of_mem _ (List.mem_cons_self ..)))
    obtain ⟨c2_0, c2_1, _, _⟩ := rk_two (S_w5.out.hl.2 _ (List.mem_cons_of_mem _ (List.mem_cons_of_mem _ (List.mem_cons_self ..))))
    obtain ⟨c3_0, c3_1, _, _⟩ := rk_two (S_w5.out.hl.2 _ (List.mem_cons_of_mem _ (List.mem_cons_of_mem _ (List.mem_cons_of_mem _ (List.mem_cons_self ..)))))
    go_wp2_with fail
    clear c0_0 c0_1 c1_0 c1_1 c2_0 c2_1 c3_0 c3_1
    have KD := (show Hid (Lw w0 [(w4.heap.size, #[.slice ga gn gc, .slice gA gN gC], 36), (w3.heap.size, #[.slice xa xn xc, .slice xA xN xC], 36), (w2.heap.size, #[.slice aa an ac, .slice aA aN aC], 36), (w0.heap.size, #[.slice sa sn sc, .slice sA sN sC], 32)] [(w3b.heap.size, w4.heap.size, .agg #[.slice ga gn gc, .slice gA gN gC], qd), (w2a.heap.size, w3.heap.size, .agg #[.slice xa xn xc, .slice xA xN xC], d), (w1c.heap.size, w2.heap.size, .agg #[.slice aa an ac, .slice aA aN aC], qd)] [(w3a.heap.size, w3b.heap.size, ub, b)] w5.drew) from S_w5.out.below (below_drewN 1))
    have HS := (show Hid (∀ W, Lw w0 [(w4.heap.size, #[.slice ga gn gc, .slice gA gN gC], 36), (w3.heap.size, #[.slice xa xn xc, .slice xA xN xC], 36), (w2.heap.size, #[.slice aa an ac, .slice aA aN aC], 36), (w0.heap.size, #[.slice sa sn sc, .slice sA sN sC], 32)] [(w3b.heap.size, w4.heap.size, .agg #[.slice ga gn gc, .slice gA gN gC], qd), (w2a.heap.size, w3.heap.size, .agg #[.slice xa xn xc, .slice xA xN xC], d), (w1c.heap.size, w2.heap.size, .agg #[.slice aa an ac, .slice aA aN aC], qd)] [(w3a.heap.size, w3b.heap.size, ub, b)] W → W.cell? ⟨w4.heap.size, 0, none⟩ = some (.slice ga gn gc) ∧ W.cell? ⟨w4.heap.size, 1, none⟩ = some (.slice gA gN gC) ∧ W.cell? ⟨w3.heap.size, 0, none⟩ = some (.slice xa xn xc) ∧ W.cell? ⟨w3.heap.size, 1, none⟩ = some (.slice xA xN xC) ∧ W.cell? ⟨w2.heap.size, 0, none⟩ = some (.slice aa an ac) ∧ W.cell? ⟨w2.heap.size, 1, none⟩ = some (.slice aA aN aC) ∧ W.cell? ⟨w0.heap.size, 0, none⟩ = some (.slice sa sn sc) ∧ W.cell? ⟨w0.heap.size, 1, none⟩ = some (.slice sA sN sC) ∧ Lw w0 [(w4.heap.size, #[.slice ga gn gc, .slice gA gN gC], 36), (w3.heap.size, #[.slice xa xn xc, .slice xA xN xC], 36), (w2.heap.size, #[.slice aa an ac, .slice aA aN aC], 36), (w0.heap.size, #[.slice sa sn sc, .slice sA sN sC], 32)] [(w3b.heap.size, w4.heap.size, .agg #[.slice ga gn gc, .slice gA gN gC], qd), (w2a.heap.size, w3.heap.size, .agg #[.slice xa xn xc, .slice xA xN xC], d), (w1c.heap.size, w2.heap.size, .agg #[.slice aa an ac, .slice aA aN aC], qd)] [(w3a.heap.size, w3b.heap.size, ub, b)] W) from fun W h => ⟨(rk_two (h.hl.2 _ (List.mem_cons_self ..))).1, (rk_two (h.hl.2 _ (List.mem_cons_self ..))).2.1, (rk_two (h.hl.2 _ (List.mem_cons_of_mem _ (List.mem_cons_self ..)))).1, (rk_two (h.hl.2 _ (List.mem_cons_of_mem _ (List.mem_cons_self ..)))).2.1, (rk_two (h.hl.2 _ (List.mem_cons_of_mem _ (List.mem_cons_of_mem _ (List.mem_cons_self ..))))).1, (rk_two (h.hl.2 _ (List.mem_cons_of_mem _ (List.mem_cons_of_mem _ (List.mem_cons_self ..))))).2.1, (rk_two (h.hl.2 _ (List.mem_cons_of_mem _ (List.mem_cons_of_mem _ (List.mem_cons_of_mem _ (List.mem_cons_self ..)))))).1, (rk_two (h.hl.2 _ (List.mem_cons_of_mem _ (List.mem_cons_of_mem _ (List.mem_cons_of_mem _ (List.mem_cons_self ..)))))).2.1, h⟩)
    have hw0 : w0.heap.size ≤ w5.heap.size := S_w5.out.hl.1.size
    go_region_held3 (fun w' => w'.cell? ⟨w4.heap.size, 0, none⟩ = some (.slice ga gn gc) ∧ w'.cell? ⟨w4.heap.size, 1, none⟩ = some (.slice gA gN gC) ∧ w'.cell? ⟨w3.heap.size, 0, none⟩ = some (.slice xa xn xc) ∧ w'.cell? ⟨w3.heap.size, 1, none⟩ = some (.slice xA xN xC) ∧ w'.cell? ⟨w2.heap.size, 0, none⟩ = some (.slice aa an ac) ∧ w'.cell? ⟨w2.heap.size, 1, none⟩ = some (.slice aA aN aC) ∧ w'.cell? ⟨w0.heap.size, 0, none⟩ = some (.slice sa sn sc) ∧ w'.cell? ⟨w0.heap.size, 1, none⟩ = some (.slice sA sN sC) ∧ Lw w0 [(w4.heap.size, #[.slice ga gn gc, .slice gA gN gC], 36), (w3.heap.size, #[.slice xa xn xc, .slice xA xN xC], 36), (w2.heap.size, #[.slice aa an ac, .slice aA aN aC], 36), (w0.heap.size, #[.slice sa sn sc, .slice sA sN sC], 32)] [(w3b.heap.size, w4.heap.size, .agg #[.slice ga gn gc, .slice gA gN gC], qd), (w2a.heap.size, w3.heap.size, .agg #[.slice xa xn xc, .slice xA xN xC], d), (w1c.heap.size, w2.heap.size, .agg #[.slice aa an ac, .slice aA aN aC], qd)] [(w3a.heap.size, w3b.heap.size, ub, b)] w')
      (first | exact HS.out _ KD.out | exact HS.out _ Q0.out | exact HS.out _ Q1.out)
      (first
        | (go_at_call 12
           refine Calls.mono (CTD.out _ _ _ _ (‹_ ∧ _ ∧ _ ∧ _ ∧ _ ∧ _ ∧ _ ∧ _ ∧ Lw _ _ _ _ _›).2.2.2.2.2.2.2.2) ?_
           rintro e y0 ⟨ta, tn, tc, tA, tN, tC, rfl, l0, o0, b0⟩
           have O0 := (show Hid (OwnDy w0.heap.size y0 (.agg #[.slice ta tn tc, .slice tA tN tC]) d) from o0)
           clear o0
           have Q0 := (show Hid (Lw w0 [(w4.heap.size, #[.slice ga gn gc, .slice gA gN gC], 36), (w3.heap.size, #[.slice xa xn xc, .slice xA xN xC], 36), (w2.heap.size, #[.slice aa an ac, .slice aA aN aC], 36), (w0.heap.size, #[.slice sa sn sc, .slice sA sN sC], 32)] [(w3b.heap.size, w4.heap.size, .agg #[.slice ga gn gc, .slice gA gN gC], qd), (w2a.heap.size, w3.heap.size, .agg #[.slice xa xn xc, .slice xA xN xC], d), (w1c.heap.size, w2.heap.size, .agg #[.slice aa an ac, .slice aA aN aC], qd)] [(w3a.heap.size, w3b.heap.size, ub, b)] y0) from l0)
           have z0 : w5.heap.size ≤ y0.heap.size := b0.size
           clear l0 b0)
        | (go_at_call 14
           refine Calls.mono (Q0.out.eqD (Q0.out.rows _ (List.mem_cons_of_mem _ (List.mem_cons_self ..))).1.at O0.out.at HF.out) ?_
           rintro e w6 ⟨rfl, l1, b1⟩
           have Q1 := (show Hid (Lw w0 [(w4.heap.size, #[.slice ga gn gc, .slice gA gN gC], 36), (w3.heap.size, #[.slice xa xn xc, .slice xA xN xC], 36), (w2.heap.size, #[.slice aa an ac, .slice aA aN aC], 36), (w0.heap.size, #[.slice sa sn sc, .slice sA sN sC], 32)] [(w3b.heap.size, w4.heap.size, .agg #[.slice ga gn gc, .slice gA gN gC], qd), (w2a.heap.size, w3.heap.size, .agg #[.slice xa xn xc, .slice xA xN xC], d), (w1c.heap.size, w2.heap.size, .agg #[.slice aa an ac, .slice aA aN aC], qd)] [(w3a.heap.size, w3b.heap.size, ub, b)] w6) from l1)
           have z1 : w5.heap.size ≤ w6.heap.size := Nat.le_trans z0 b1.size
           clear l1 b1))
    have S_w6 := (show Hid (Lw w0 [(w4.heap.size, #[.slice ga gn gc, .slice gA gN gC], 36), (w3.heap.size, #[.slice xa xn xc, .slice xA xN xC], 36), (w2.heap.size, #[.slice aa an ac, .slice aA aN aC], 36), (w0.heap.size, #[.slice sa sn sc, .slice sA sN sC], 32)] [(w3b.heap.size, w4.heap.size, .agg #[.slice ga gn gc, .slice gA gN gC], qd), (w2a.heap.size, w3.heap.size, .agg #[.slice xa xn xc, .slice xA xN xC], d), (w1c.heap.size, w2.heap.size, .agg #[.slice aa an ac, .slice aA aN aC], qd)] [(w3a.heap.size, w3b.heap.size, ub, b)] w6) from Q1.out)
    have Z11 := (show Hid (w5.heap.size ≤ w6.heap.size) from z1)
    clear Q1 Q0 O0 KD HS hw0 S_w5 z0 z1
    obtain ⟨c0_0, c0_1, _, _⟩ := rk_two (S_w6.out.hl.2 _ (List.mem_cons_self ..))
    obtain ⟨c1_0, c1_1, _, _⟩ := rk_two (S_w6.out.hl.2 _ (List.mem_cons_of_mem _ (List.mem_cons_self ..)))
    obtain ⟨c2_0, c2_1, _, _⟩ := rk_two (S_w6.out.hl.2 _ (List.mem_cons_of_mem _ (List.mem_cons_of_mem _ (List.mem_cons_self ..))))
    obtain ⟨c3_0, c3_1, _, _⟩ := rk_two (S_w6.out.hl.2 _ (List.mem_cons_of_mem _ (List.mem_cons_of_mem _ (List.mem_cons_of_mem _ (List.mem_cons_self ..)))))
    go_wp2_with fail
    go_at_call 18
    refine (S_w6.out.toBs HU.out hbl).mono ?_
    rintro e w6a ⟨vb, rfl, lw6a, ow6a, bw6a⟩
    have Z12 := (show Hid (w6.heap.size ≤ w6a.heap.size) from bw6a.size)
    have S_w6a := (show Hid (Lw w0 [(w4.heap.size, #[.slice ga gn gc, .slice gA gN gC], 36), (w3.heap.size, #[.slice xa xn xc, .slice xA xN xC], 36), (w2.heap.size, #[.slice aa an ac, .slice aA aN aC], 36), (w0.heap.size, #[.slice sa sn sc, .slice sA sN sC], 32)] [(w3b.heap.size, w4.heap.size, .agg #[.slice ga gn gc, .slice gA gN gC], qd), (w2a.heap.size, w3.heap.size, .agg #[.slice xa xn xc, .slice xA xN xC], d), (w1c.heap.size, w2.heap.size, .agg #[.slice aa an ac, .slice aA aN aC], qd)] [(w6.heap.size, w6a.heap.size, vb, b), (w3a.heap.size, w3b.heap.size, ub, b)] w6a) from lw6a.addY ow6a)
    clear S_w6 bw6a
    clear c0_0 c0_1 c1_0 c1_1 c2_0 c2_1 c3_0 c3_1
    clear lw6a ow6a
    obtain ⟨c0_0, c0_1, _, _⟩ := rk_two (S_w6a.out.hl.2 _ (List.mem_cons_self ..))
    obtain ⟨c1_0, c1_1, _, _⟩ := rk_two (S_w6a.out.hl.2 _ (List.mem_cons_of_mem _ (List.mem_cons_self ..)))
    obtain ⟨c2_0, c2_1, _, _⟩ := rk_two (S_w6a.out.hl.2 _ (List.mem_cons_of_mem _ (List.mem_cons_of_mem _ (List.mem_cons_self ..))))
    obtain ⟨c3_0, c3_1, _, _⟩ := rk_two (S_w6a.out.hl.2 _ (List.mem_cons_of_mem _ (List.mem_cons_of_mem _ (List.mem_cons_of_mem _ (List.mem_cons_self ..)))))
    go_wp2_with fail
    go_at_call 20
    refine (eqB_any (S_w6a.out.bys _ (List.mem_cons_of_mem _ (List.mem_cons_self ..))).1.sl (S_w6a.out.bys _ (List.mem_cons_self ..)).1.sl hbl hbl).mono ?_
    rintro e w6b ⟨rfl, bw6b⟩
    have Z13 := (show Hid (w6a.heap.size ≤ w6b.heap.size) from bw6b.size)
    have S_w6b := (show Hid (Lw w0 [(w4.heap.size, #[.slice ga gn gc, .slice gA gN gC], 36), (w3.heap.size, #[.slice xa xn xc, .slice xA xN xC], 36), (w2.heap.size, #[.slice aa an ac, .slice aA aN aC], 36), (w0.heap.size, #[.slice sa sn sc, .slice sA sN sC], 32)] [(w3b.heap.size, w4.heap.size, .agg #[.slice ga gn gc, .slice gA gN gC], qd), (w2a.heap.size, w3.heap.size, .agg #[.slice xa xn xc, .slice xA xN xC], d), (w1c.heap.size, w2.heap.size, .agg #[.slice aa an ac, .slice aA aN aC], qd)] [(w6.heap.size, w6a.heap.size, vb, b), (w3a.heap.size, w3b.heap.size, ub, b)] w6b) from S_w6a.out.below bw6b)
    clear S_w6a bw6b
    clear c0_0 c0_1 c1_0 c1_1 c2_0 c2_1 c3_0 c3_1
    rw [decide_eq_true (rfl : b = b)]
    have T_w6b := (show Hid (Lw w0 [(w4.heap.size, #[.slice ga gn gc, .slice gA gN gC], 36), (w3.heap.size, #[.slice xa xn xc, .slice xA xN xC], 36), (w2.heap.size, #[.slice aa an ac, .slice aA aN aC], 36), (w0.heap.size, #[.slice sa sn sc, .slice sA sN sC], 32)] [(w3b.heap.size, w4.heap.size, .agg #[.slice ga gn gc, .slice gA gN gC], qd), (w2a.heap.size, w3.heap.size, .agg #[.slice xa xn xc, .slice xA xN xC], d), (w1c.heap.size, w2.heap.size, .agg #[.slice aa an ac, .slice aA aN aC], qd)] [(w3a.heap.size, w3b.heap.size, ub, b)] w6b) from S_w6b.out.sub (by simp) (by simp) (by simp))
    clear S_w6b
    have S_w6b := T_w6b
    clear T_w6b
    have T_w6b := (show Hid (Lw w0 [(w4.heap.size, #[.slice ga gn gc, .slice gA gN gC], 36), (w3.heap.size, #[.slice xa xn xc, .slice xA xN xC], 36), (w2.heap.size, #[.slice aa an ac, .slice aA aN aC], 36), (w0.heap.size, #[.slice sa sn sc, .slice sA sN sC], 32)] [(w2a.heap.size, w3.heap.size, .agg #[.slice xa xn xc, .slice xA xN xC], d), (w3b.heap.size, w4.heap.size, .agg #[.slice ga gn gc, .slice gA gN gC], qd), (w1c.heap.size, w2.heap.size, .agg #[.slice aa an ac, .slice aA aN aC], qd)] [(w3a.heap.size, w3b.heap.size, ub, b)] w6b) from S_w6b.out.sub (by simp) (by simp) (by simp))
    clear S_w6b
    have S_w6b := T_w6b
    clear T_w6b
    have hlo : w0.heap.size ≤ w2a.heap.size := by have := Z0.out; have := Z1.out; have := Z2.out; have := Z3.out; have := Z4.out; have := Z5.out; have := Z6.out; have := Z7.out; have := Z8.out; have := Z9.out; have := Z10.out; have := Z11.out; have := Z12.out; have := Z13.out; omega
    have hR : ∀ r ∈ ([(w3b.heap.size, w4.heap.size, .agg #[.slice ga gn gc, .slice gA gN gC], qd), (w1c.heap.size, w2.heap.size, .agg #[.slice aa an ac, .slice aA aN aC], qd)] : List (Nat × Nat × Value × PDisk)), r.2.1 ≤ w2a.heap.size ∨ w3.heap.size ≤ r.1 := by
      have := Z0.out; have := Z1.out; have := Z2.out; have := Z3.out; have := Z4.out; have := Z5.out; have := Z6.out; have := Z7.out; have := Z8.out; have := Z9.out; have := Z10.out; have := Z11.out; have := Z12.out; have := Z13.out
      simp only [List.mem_cons, List.not_mem_nil, or_false, forall_eq_or_imp, forall_eq]
      try omega
    have CM := (show Hid _ from S_w6b.out.mkD HF.out hlo hR (by simp))
    clear hlo hR
    obtain ⟨c0_0, c0_1, _, _⟩ := rk_two (S_w6b.out.hl.2 _ (List.mem_cons_self ..))
    obtain ⟨c1_0, c1_1, _, _⟩ := rk_two (S_w6b.out.hl.2 _ (List.mem_cons_of_mem _ (List.mem_cons_self ..)))
    obtain ⟨c2_0, c2_1, _, _⟩ := rk_two (S_w6b.out.hl.2 _ (List.mem_cons_of_mem _ (List.mem_cons_of_mem _ (List.mem_cons_self ..))))
    obtain ⟨c3_0, c3_1, _, _⟩ := rk_two (S_w6b.out.hl.2 _ (List.mem_cons_of_mem _ (List.mem_cons_of_mem _ (List.mem_cons_of_mem _ (List.mem_cons_self ..)))))
    go_wp2_with fail
    go_at_call 15
    refine Calls.mono CM.out ?_
    rintro e w7 ⟨rfl, lw7⟩
    clear CM
    have S_w7 := (show Hid (Lw w0 [(w4.heap.size, #[.slice ga gn gc, .slice gA gN gC], 36), (w3.heap.size, #[.slice xa xn xc, .slice xA xN xC], 36), (w2.heap.size, #[.slice aa an ac, .slice aA aN aC], 36), (w0.heap.size, #[.slice sa sn sc, .slice sA sN sC], 32)] [(w2a.heap.size, w3.heap.size, .agg #[.slice xa xn xc, .slice xA xN xC], (markDk d)), (w3b.heap.size, w4.heap.size, .agg #[.slice ga gn gc, .slice gA gN gC], qd), (w1c.heap.size, w2.heap.size, .agg #[.slice aa an ac, .slice aA aN aC], qd)] [(w3a.heap.size, w3b.heap.size, ub, b)] w7) from lw7)
    clear S_w6b lw7
    clear c0_0 c0_1 c1_0 c1_1 c2_0 c2_1 c3_0 c3_1
    have hf1 := HF.out.sl
    have hf2 := HF.out.ll
    have CM := (show Hid _ from S_w7.out.mkY (k0 := 1 + (d.safe.length : Int) + 2 * d.late.length) hbl (by omega) (by omega) (by have := Z0.out; have := Z1.out; have := Z2.out; have := Z3.out; have := Z4.out; have := Z5.out; have := Z6.out; have := Z7.out; have := Z8.out; have := Z9.out; have := Z10.out; have := Z11.out; have := Z12.out; have := Z13.out; omega) (by simp) (by simp))
    obtain ⟨c0_0, c0_1, _, _⟩ := rk_two (S_w7.out.hl.2 _ (List.mem_cons_self ..))
    obtain ⟨c1_0, c1_1, _, _⟩ := rk_two (S_w7.out.hl.2 _ (List.mem_cons_of_mem _ (List.mem_cons_self ..)))
    obtain ⟨c2_0, c2_1, _, _⟩ := rk_two (S_w7.out.hl.2 _ (List.mem_cons_of_mem _ (List.mem_cons_of_mem _ (List.mem_cons_self ..))))
    obtain ⟨c3_0, c3_1, _, _⟩ := rk_two (S_w7.out.hl.2 _ (List.mem_cons_of_mem _ (List.mem_cons_of_mem _ (List.mem_cons_of_mem _ (List.mem_cons_self ..)))))
    go_wp2_with fail
    go_at_call 21
    refine Calls.mono CM.out ?_
    rintro e w7b ⟨rfl, lw7b⟩
    clear CM
    have S_w7b := (show Hid (Lw w0 [(w4.heap.size, #[.slice ga gn gc, .slice gA gN gC], 36), (w3.heap.size, #[.slice xa xn xc, .slice xA xN xC], 36), (w2.heap.size, #[.slice aa an ac, .slice aA aN aC], 36), (w0.heap.size, #[.slice sa sn sc, .slice sA sN sC], 32)] [(w2a.heap.size, w3.heap.size, .agg #[.slice xa xn xc, .slice xA xN xC], (markDk d)), (w3b.heap.size, w4.heap.size, .agg #[.slice ga gn gc, .slice gA gN gC], qd), (w1c.heap.size, w2.heap.size, .agg #[.slice aa an ac, .slice aA aN aC], qd)] [(w3a.heap.size, w3b.heap.size, ub, (marks (· % 256) (1 + (d.safe.length : Int) + 2 * d.late.length) b.length))] w7b) from lw7b)
    clear S_w7 lw7b
    clear c0_0 c0_1 c1_0 c1_1 c2_0 c2_1 c3_0 c3_1
    have T_w7b := (show Hid (Lw w0 [(w4.heap.size, #[.slice ga gn gc, .slice gA gN gC], 36), (w3.heap.size, #[.slice xa xn xc, .slice xA xN xC], 36), (w2.heap.size, #[.slice aa an ac, .slice aA aN aC], 36), (w0.heap.size, #[.slice sa sn sc, .slice sA sN sC], 32)] [(w2a.heap.size, w3.heap.size, .agg #[.slice xa xn xc, .slice xA xN xC], (markDk d)), (w3b.heap.size, w4.heap.size, .agg #[.slice ga gn gc, .slice gA gN gC], qd), (w1c.heap.size, w2.heap.size, .agg #[.slice aa an ac, .slice aA aN aC], qd)] [] w7b) from S_w7b.out.sub (by simp) (by simp) (by simp))
    clear S_w7b
    have S_w7b := T_w7b
    clear T_w7b
    have hk0 : ¬ (1 + (d.safe.length : Int) + 2 * d.late.length + b.length < 0) := by omega
    clear hf1 hf2
    obtain ⟨c0_0, c0_1, _, _⟩ := rk_two (S_w7b.out.hl.2 _ (List.mem_cons_self ..))
    obtain ⟨c1_0, c1_1, _, _⟩ := rk_two (S_w7b.out.hl.2 _ (List.mem_cons_of_mem _ (List.mem_cons_self ..)))
    obtain ⟨c2_0, c2_1, _, _⟩ := rk_two (S_w7b.out.hl.2 _ (List.mem_cons_of_mem _ (List.mem_cons_of_mem _ (List.mem_cons_self ..))))
    obtain ⟨c3_0, c3_1, _, _⟩ := rk_two (S_w7b.out.hl.2 _ (List.mem_cons_of_mem _ (List.mem_cons_of_mem _ (List.mem_cons_of_mem _ (List.mem_cons_self ..)))))
    go_wp2_with fail
    go_at_call 14
    refine (S_w7b.out.eqD (S_w7b.out.rows _ (List.mem_cons_of_mem _ (List.mem_cons_self ..))).1.at (S_w7b.out.rows _ (List.mem_cons_of_mem _ (List.mem_cons_of_mem _ (List.mem_cons_self ..)))).1.at FQ.out).mono ?_
    rintro e w8 ⟨rfl, lw8, bw8⟩
    have Z14 := (show Hid (w7b.heap.size ≤ w8.heap.size) from bw8.size)
    have S_w8 := (show Hid (Lw w0 [(w4.heap.size, #[.slice ga gn gc, .slice gA gN gC], 36), (w3.heap.size, #[.slice xa xn xc, .slice xA xN xC], 36), (w2.heap.size, #[.slice aa an ac, .slice aA aN aC], 36), (w0.heap.size, #[.slice sa sn sc, .slice sA sN sC], 32)] [(w2a.heap.size, w3.heap.size, .agg #[.slice xa xn xc, .slice xA xN xC], (markDk d)), (w3b.heap.size, w4.heap.size, .agg #[.slice ga gn gc, .slice gA gN gC], qd), (w1c.heap.size, w2.heap.size, .agg #[.slice aa an ac, .slice aA aN aC], qd)] [] w8) from lw8)
    clear S_w7b bw8
    clear c0_0 c0_1 c1_0 c1_1 c2_0 c2_1 c3_0 c3_1
    clear lw8
    clear hk0
    have T_w8 := (show Hid (Lw w0 [(w4.heap.size, #[.slice ga gn gc, .slice gA gN gC], 36), (w3.heap.size, #[.slice xa xn xc, .slice xA xN xC], 36), (w2.heap.size, #[.slice aa an ac, .slice aA aN aC], 36), (w0.heap.size, #[.slice sa sn sc, .slice sA sN sC], 32)] [(w3b.heap.size, w4.heap.size, .agg #[.slice ga gn gc, .slice gA gN gC], qd), (w2a.heap.size, w3.heap.size, .agg #[.slice xa xn xc, .slice xA xN xC], (markDk d)), (w1c.heap.size, w2.heap.size, .agg #[.slice aa an ac, .slice aA aN aC], qd)] [] w8) from S_w8.out.sub (by simp) (by simp) (by simp))
    clear S_w8
    have S_w8 := T_w8
    clear T_w8
    have hlo : w0.heap.size ≤ w3b.heap.size := by have := Z0.out; have := Z1.out; have := Z2.out; have := Z3.out; have := Z4.out; have := Z5.out; have := Z6.out; have := Z7.out; have := Z8.out; have := Z9.out; have := Z10.out; have := Z11.out; have := Z12.out; have := Z13.out; have := Z14.out; omega
    have hR : ∀ r ∈ ([(w2a.heap.size, w3.heap.size, .agg #[.slice xa xn xc, .slice xA xN xC], (markDk d)), (w1c.heap.size, w2.heap.size, .agg #[.slice aa an ac, .slice aA aN aC], qd)] : List (Nat × Nat × Value × PDisk)), r.2.1 ≤ w3b.heap.size ∨ w4.heap.size ≤ r.1 := by
      have := Z0.out; have := Z1.out; have := Z2.out; have := Z3.out; have := Z4.out; have := Z5.out; have := Z6.out; have := Z7.out; have := Z8.out; have := Z9.out; have := Z10.out; have := Z11.out; have := Z12.out; have := Z13.out; have := Z14.out
      simp only [List.mem_cons, List.not_mem_nil, or_false, forall_eq_or_imp, forall_eq]
      try omega
    have CM := (show Hid _ from S_w8.out.mkD FQ.out hlo hR (by simp))
    clear hlo hR
    obtain ⟨c0_0, c0_1, _, _⟩ := rk_two (S_w8.out.hl.2 _ (List.mem_cons_self ..))
    obtain ⟨c1_0, c1_1, _, _⟩ := rk_two (S_w8.out.hl.2 _ (List.mem_cons_of_mem _ (List.mem_cons_self ..)))
    obtain ⟨c2_0, c2_1, _, _⟩ := rk_two (S_w8.out.hl.2 _ (List.mem_cons_of_mem _ (List.mem_cons_of_mem _ (List.mem_cons_self ..))))
    obtain ⟨c3_0, c3_1, _, _⟩ := rk_two (S_w8.out.hl.2 _ (List.mem_cons_of_mem _ (List.mem_cons_of_mem _ (List.mem_cons_of_mem _ (List.mem_cons_self ..)))))
    go_wp2_with fail
    go_at_call 15
    refine Calls.mono CM.out ?_
    rintro e w9 ⟨rfl, lw9⟩
    clear CM
    have S_w9 := (show Hid (Lw w0 [(w4.heap.size, #[.slice ga gn gc, .slice gA gN gC], 36), (w3.heap.size, #[.slice xa xn xc, .slice xA xN xC], 36), (w2.heap.size, #[.slice aa an ac, .slice aA aN aC], 36), (w0.heap.size, #[.slice sa sn sc, .slice sA sN sC], 32)] [(w3b.heap.size, w4.heap.size, .agg #[.slice ga gn gc, .slice gA gN gC], (markDk qd)), (w2a.heap.size, w3.heap.size, .agg #[.slice xa xn xc, .slice xA xN xC], (markDk d)), (w1c.heap.size, w2.heap.size, .agg #[.slice aa an ac, .slice aA aN aC], qd)] [] w9) from lw9)
    clear S_w8 lw9
    clear c0_0 c0_1 c1_0 c1_1 c2_0 c2_1 c3_0 c3_1
    have hk1 : ¬ (1 + (qd.safe.length : Int) + 2 * qd.late.length < 0) := by omega
    have hk2 : ((1 + (qd.safe.length : Int) + 2 * qd.late.length) != (1 + (qd.safe.length : Int) + 2 * qd.late.length)) = false := by simp
    obtain ⟨c0_0, c0_1, _, _⟩ := rk_two (S_w9.out.hl.2 _ (List.mem_cons_self ..))
    obtain ⟨c1_0, c1_1, _, _⟩ := rk_two (S_w9.out.hl.2 _ (List.mem_cons_of_mem _ (List.mem_cons_self ..)))
    obtain ⟨c2_0, c2_1, _, _⟩ := rk_two (S_w9.out.hl.2 _ (List.mem_cons_of_mem _ (List.mem_cons_of_mem _ (List.mem_cons_self ..))))
    obtain ⟨c3_0, c3_1, _, _⟩ := rk_two (S_w9.out.hl.2 _ (List.mem_cons_of_mem _ (List.mem_cons_of_mem _ (List.mem_cons_of_mem _ (List.mem_cons_self ..)))))
    go_wp2_with fail
    go_at_call 16
    refine (S_w9.out.heldD (d := qd) (S_w9.out.rows _ (List.mem_cons_self ..)).1.at FQ.out).mono ?_
    rintro e w10 ⟨rfl, lw10, bw10⟩
    have Z15 := (show Hid (w9.heap.size ≤ w10.heap.size) from bw10.size)
    have S_w10 := (show Hid (Lw w0 [(w4.heap.size, #[.slice ga gn gc, .slice gA gN gC], 36), (w3.heap.size, #[.slice xa xn xc, .slice xA xN xC], 36), (w2.heap.size, #[.slice aa an ac, .slice aA aN aC], 36), (w0.heap.size, #[.slice sa sn sc, .slice sA sN sC], 32)] [(w3b.heap.size, w4.heap.size, .agg #[.slice ga gn gc, .slice gA gN gC], (markDk qd)), (w2a.heap.size, w3.heap.size, .agg #[.slice xa xn xc, .slice xA xN xC], (markDk d)), (w1c.heap.size, w2.heap.size, .agg #[.slice aa an ac, .slice aA aN aC], qd)] [] w10) from lw10)
    clear S_w9 bw10
    clear c0_0 c0_1 c1_0 c1_1 c2_0 c2_1 c3_0 c3_1
    clear lw10
    obtain ⟨c0_0, c0_1, _, _⟩ := rk_two (S_w10.out.hl.2 _ (List.mem_cons_self ..))
    obtain ⟨c1_0, c1_1, _, _⟩ := rk_two (S_w10.out.hl.2 _ (List.mem_cons_of_mem _ (List.mem_cons_self ..)))
    obtain ⟨c2_0, c2_1, _, _⟩ := rk_two (S_w10.out.hl.2 _ (List.mem_cons_of_mem _ (List.mem_cons_of_mem _ (List.mem_cons_self ..))))
    obtain ⟨c3_0, c3_1, _, _⟩ := rk_two (S_w10.out.hl.2 _ (List.mem_cons_of_mem _ (List.mem_cons_of_mem _ (List.mem_cons_of_mem _ (List.mem_cons_self ..)))))
    go_wp2_with fail
    go_at_call 12
    refine (S_w10.out.toD HD.out HF.out).mono ?_
    rintro e w10b ⟨za, zn, zc, zA, zN, zC, rfl, lw10b, ow10b, bw10b⟩
    have Z16 := (show Hid (w10.heap.size ≤ w10b.heap.size) from bw10b.size)
    have S_w10b := (show Hid (Lw w0 [(w4.heap.size, #[.slice ga gn gc, .slice gA gN gC], 36), (w3.heap.size, #[.slice xa xn xc, .slice xA xN xC], 36), (w2.heap.size, #[.slice aa an ac, .slice aA aN aC], 36), (w0.heap.size, #[.slice sa sn sc, .slice sA sN sC], 32)] [(w10.heap.size, w10b.heap.size, .agg #[.slice za zn zc, .slice zA zN zC], d), (w3b.heap.size, w4.heap.size, .agg #[.slice ga gn gc, .slice gA gN gC], (markDk qd)), (w2a.heap.size, w3.heap.size, .agg #[.slice xa xn xc, .slice xA xN xC], (markDk d)), (w1c.heap.size, w2.heap.size, .agg #[.slice aa an ac, .slice aA aN aC], qd)] [] w10b) from lw10b.add ow10b)
    clear S_w10 bw10b
    clear c0_0 c0_1 c1_0 c1_1 c2_0 c2_1 c3_0 c3_1
    clear lw10b ow10b
    obtain ⟨c0_0, c0_1, _, _⟩ := rk_two (S_w10b.out.hl.2 _ (List.mem_cons_self ..))
    obtain ⟨c1_0, c1_1, _, _⟩ := rk_two (S_w10b.out.hl.2 _ (List.mem_cons_of_mem _ (List.mem_cons_self ..)))
    obtain ⟨c2_0, c2_1, _, _⟩ := rk_two (S_w10b.out.hl.2 _ (List.mem_cons_of_mem _ (List.mem_cons_of_mem _ (List.mem_cons_self ..))))
    obtain ⟨c3_0, c3_1, _, _⟩ := rk_two (S_w10b.out.hl.2 _ (List.mem_cons_of_mem _ (List.mem_cons_of_mem _ (List.mem_cons_of_mem _ (List.mem_cons_self ..)))))
    go_wp2_with fail
    go_at_call 18
    refine (S_w10b.out.toBs HU.out hbl).mono ?_
    rintro e w10c ⟨zb, rfl, lw10c, ow10c, bw10c⟩
    have Z17 := (show Hid (w10b.heap.size ≤ w10c.heap.size) from bw10c.size)
    have S_w10c := (show Hid (Lw w0 [(w4.heap.size, #[.slice ga gn gc, .slice gA gN gC], 36), (w3.heap.size, #[.slice xa xn xc, .slice xA xN xC], 36), (w2.heap.size, #[.slice aa an ac, .slice aA aN aC], 36), (w0.heap.size, #[.slice sa sn sc, .slice sA sN sC], 32)] [(w10.heap.size, w10b.heap.size, .agg #[.slice za zn zc, .slice zA zN zC], d), (w3b.heap.size, w4.heap.size, .agg #[.slice ga gn gc, .slice gA gN gC], (markDk qd)), (w2a.heap.size, w3.heap.size, .agg #[.slice xa xn xc, .slice xA xN xC], (markDk d)), (w1c.heap.size, w2.heap.size, .agg #[.slice aa an ac, .slice aA aN aC], qd)] [(w10b.heap.size, w10c.heap.size, zb, b)] w10c) from lw10c.addY ow10c)
    clear S_w10b bw10c
    clear c0_0 c0_1 c1_0 c1_1 c2_0 c2_1 c3_0 c3_1
    clear lw10c ow10c
    obtain ⟨c0_0, c0_1, _, _⟩ := rk_two (S_w10c.out.hl.2 _ (List.mem_cons_self ..))
    obtain ⟨c1_0, c1_1, _, _⟩ := rk_two (S_w10c.out.hl.2 _ (List.mem_cons_of_mem _ (List.mem_cons_self ..)))
    obtain ⟨c2_0, c2_1, _, _⟩ := rk_two (S_w10c.out.hl.2 _ (List.mem_cons_of_mem _ (List.mem_cons_of_mem _ (List.mem_cons_self ..))))
    obtain ⟨c3_0, c3_1, _, _⟩ := rk_two (S_w10c.out.hl.2 _ (List.mem_cons_of_mem _ (List.mem_cons_of_mem _ (List.mem_cons_of_mem _ (List.mem_cons_self ..)))))
    go_wp2_with fail
    go_at_call 19
    refine (CI.out _ _ _ _ _ _ _ w10c.heap.size S_w10c.out (Nat.le_refl _) (S_w10c.out.rows _ (List.mem_cons_self ..)).1.at (S_w10c.out.bys _ (List.mem_cons_self ..)).1.sl).mono ?_
    rintro e w11 ⟨ka, kn, kc, kA, kN, kC, rfl, ow11, lw11, bw11⟩
    have Z18 := (show Hid (w10c.heap.size ≤ w11.heap.size) from bw11.size)
    have S_w11 := (show Hid (Lw w0 [(w4.heap.size, #[.slice ga gn gc, .slice gA gN gC], 36), (w3.heap.size, #[.slice xa xn xc, .slice xA xN xC], 36), (w2.heap.size, #[.slice aa an ac, .slice aA aN aC], 36), (w0.heap.size, #[.slice sa sn sc, .slice sA sN sC], 32)] [(w10c.heap.size, w11.heap.size, .agg #[.slice ka kn kc, .slice kA kN kC], qd), (w10.heap.size, w10b.heap.size, .agg #[.slice za zn zc, .slice zA zN zC], d), (w3b.heap.size, w4.heap.size, .agg #[.slice ga gn gc, .slice gA gN gC], (markDk qd)), (w2a.heap.size, w3.heap.size, .agg #[.slice xa xn xc, .slice xA xN xC], (markDk d)), (w1c.heap.size, w2.heap.size, .agg #[.slice aa an ac, .slice aA aN aC], qd)] [(w10b.heap.size, w10c.heap.size, zb, b)] w11) from lw11.add ow11)
    clear S_w10c bw11
    clear c0_0 c0_1 c1_0 c1_1 c2_0 c2_1 c3_0 c3_1
    clear lw11 ow11
    obtain ⟨w11a, hw11a⟩ : ∃ x, x = w11.alloc (.cells #[.slice ka kn kc, .slice kA kN kC] 36) := ⟨_, rfl⟩
    have Z19 := (show Hid (w11.heap.size < w11a.heap.size) from (show w11.heap.size < w11a.heap.size by rw [hw11a, World.size_alloc]; omega))
    obtain ⟨o0_0, o0_1, _, _⟩ := rk_two (S_w11.out.hl.2 _ (List.mem_cons_self ..))
    have o0_l := lt_of_block (S_w11.out.hl.2 _ (List.mem_cons_self ..))
    obtain ⟨o1_0, o1_1, _, _⟩ := rk_two (S_w11.out.hl.2 _ (List.mem_cons_of_mem _ (List.mem_cons_self ..)))
    have o1_l := lt_of_block (S_w11.out.hl.2 _ (List.mem_cons_of_mem _ (List.mem_cons_self ..)))
    obtain ⟨o2_0, o2_1, _, _⟩ := rk_two (S_w11.out.hl.2 _ (List.mem_cons_of_mem _ (List.mem_cons_of_mem _ (List.mem_cons_self ..))))
    have o2_l := lt_of_block (S_w11.out.hl.2 _ (List.mem_cons_of_mem _ (List.mem_cons_of_mem _ (List.mem_cons_self ..))))
    obtain ⟨o3_0, o3_1, _, _⟩ := rk_two (S_w11.out.hl.2 _ (List.mem_cons_of_mem _ (List.mem_cons_of_mem _ (List.mem_cons_of_mem _ (List.mem_cons_self ..)))))
    have o3_l := lt_of_block (S_w11.out.hl.2 _ (List.mem_cons_of_mem _ (List.mem_cons_of_mem _ (List.mem_cons_of_mem _ (List.mem_cons_self ..)))))
    have S_w11a := (show Hid (Lw w0 [(w11.heap.size, #[.slice ka kn kc, .slice kA kN kC], 36), (w4.heap.size, #[.slice ga gn gc, .slice gA gN gC], 36), (w3.heap.size, #[.slice xa xn xc, .slice xA xN xC], 36), (w2.heap.size, #[.slice aa an ac, .slice aA aN aC], 36), (w0.heap.size, #[.slice sa sn sc, .slice sA sN sC], 32)] [(w10c.heap.size, w11.heap.size, .agg #[.slice ka kn kc, .slice kA kN kC], qd), (w10.heap.size, w10b.heap.size, .agg #[.slice za zn zc, .slice zA zN zC], d), (w3b.heap.size, w4.heap.size, .agg #[.slice ga gn gc, .slice gA gN gC], (markDk qd)), (w2a.heap.size, w3.heap.size, .agg #[.slice xa xn xc, .slice xA xN xC], (markDk d)), (w1c.heap.size, w2.heap.size, .agg #[.slice aa an ac, .slice aA aN aC], qd)] [(w10b.heap.size, w10c.heap.size, zb, b)] w11a) from by rw [hw11a]; exact S_w11.out.new #[.slice ka kn kc, .slice kA kN kC] 36)
    clear S_w11
    go_wp2_with fail
    go_at_call 14
    rw [← hw11a]
    clear hw11a
    refine (S_w11a.out.eqD (S_w11a.out.rows _ (List.mem_cons_self ..)).1.at (S_w11a.out.rows _ (List.mem_cons_of_mem _ (List.mem_cons_of_mem _ (List.mem_cons_of_mem _ (List.mem_cons_of_mem _ (List.mem_cons_self ..)))))).1.at FQ.out).mono ?_
    rintro e w12 ⟨rfl, lw12, bw12⟩
    have Z20 := (show Hid (w11a.heap.size ≤ w12.heap.size) from bw12.size)
    have S_w12 := (show Hid (Lw w0 [(w11.heap.size, #[.slice ka kn kc, .slice kA kN kC], 36), (w4.heap.size, #[.slice ga gn gc, .slice gA gN gC], 36), (w3.heap.size, #[.slice xa xn xc, .slice xA xN xC], 36), (w2.heap.size, #[.slice aa an ac, .slice aA aN aC], 36), (w0.heap.size, #[.slice sa sn sc, .slice sA sN sC], 32)] [(w10c.heap.size, w11.heap.size, .agg #[.slice ka kn kc, .slice kA kN kC], qd), (w10.heap.size, w10b.heap.size, .agg #[.slice za zn zc, .slice zA zN zC], d), (w3b.heap.size, w4.heap.size, .agg #[.slice ga gn gc, .slice gA gN gC], (markDk qd)), (w2a.heap.size, w3.heap.size, .agg #[.slice xa xn xc, .slice xA xN xC], (markDk d)), (w1c.heap.size, w2.heap.size, .agg #[.slice aa an ac, .slice aA aN aC], qd)] [(w10b.heap.size, w10c.heap.size, zb, b)] w12) from lw12)
    clear S_w11a bw12
    clear o0_0 o0_1 o0_l o1_0 o1_1 o1_l o2_0 o2_1 o2_l o3_0 o3_1 o3_l
    clear lw12
    obtain ⟨c0_0, c0_1, _, _⟩ := rk_two (S_w12.out.hl.2 _ (List.mem_cons_self ..))
    obtain ⟨c1_0, c1_1, _, _⟩ := rk_two (S_w12.out.hl.2 _ (List.mem_cons_of_mem _ (List.mem_cons_self ..)))
    obtain ⟨c2_0, c2_1, _, _⟩ := rk_two (S_w12.out.hl.2 _ (List.mem_cons_of_mem _ (List.mem_cons_of_mem _ (List.mem_cons_self ..))))
    obtain ⟨c3_0, c3_1, _, _⟩ := rk_two (S_w12.out.hl.2 _ (List.mem_cons_of_mem _ (List.mem_cons_of_mem _ (List.mem_cons_of_mem _ (List.mem_cons_self ..)))))
    obtain ⟨c4_0, c4_1, _, _⟩ := rk_two (S_w12.out.hl.2 _ (List.mem_cons_of_mem _ (List.mem_cons_of_mem _ (List.mem_cons_of_mem _ (List.mem_cons_of_mem _ (List.mem_cons_self ..))))))
    go_wp2_with fail
    go_at_call 16
    refine (S_w12.out.heldD (d := qd) (S_w12.out.rows _ (List.mem_cons_of_mem _ (List.mem_cons_of_mem _ (List.mem_cons_self ..)))).1.at FQ.out).mono ?_
    rintro e w13 ⟨rfl, lw13, bw13⟩
    have Z21 := (show Hid (w12.heap.size ≤ w13.heap.size) from bw13.size)
    have S_w13 := (show Hid (Lw w0 [(w11.heap.size, #[.slice ka kn kc, .slice kA kN kC], 36), (w4.heap.size, #[.slice ga gn gc, .slice gA gN gC], 36), (w3.heap.size, #[.slice xa xn xc, .slice xA xN xC], 36), (w2.heap.size, #[.slice aa an ac, .slice aA aN aC], 36), (w0.heap.size, #[.slice sa sn sc, .slice sA sN sC], 32)] [(w10c.heap.size, w11.heap.size, .agg #[.slice ka kn kc, .slice kA kN kC], qd), (w10.heap.size, w10b.heap.size, .agg #[.slice za zn zc, .slice zA zN zC], d), (w3b.heap.size, w4.heap.size, .agg #[.slice ga gn gc, .slice gA gN gC], (markDk qd)), (w2a.heap.size, w3.heap.size, .agg #[.slice xa xn xc, .slice xA xN xC], (markDk d)), (w1c.heap.size, w2.heap.size, .agg #[.slice aa an ac, .slice aA aN aC], qd)] [(w10b.heap.size, w10c.heap.size, zb, b)] w13) from lw13)
    clear S_w12 bw13
    clear c0_0 c0_1 c1_0 c1_1 c2_0 c2_1 c3_0 c3_1 c4_0 c4_1
    clear lw13
    go_wp2
    go_ret
    exact ⟨rfl, S_w13.out.hl.1⟩
end Go.Proofs.Ytiejfnnokfedkaa

/- The program's small questions on heads and areas. No condition. -/
namespace Go.Proofs.Ytiejfnnokfedkaa
open Go.RowKit
set_option maxRecDepth 100000
set_option linter.unusedVariables false

theorem iisArea_any (x : Int) (w : World) : Calls Try.prog 55 #[.int .i64 x] w fun e w' => e = .returned (.bool (inB x 0 1)) ∧ w' = w := by
  by_cases h1 : 0 ≤ x
  · by_cases h2 : x < 2
    · rw [inB_yes h1 (by omega)]
      go_enter Try.func55, Try.ntmps55
      go_wp2
      go_ret
      exact ⟨rfl, rfl⟩
    · have : inB x 0 1 = false := by simp [inB]; omega
      rw [this]
      go_enter Try.func55, Try.ntmps55
      go_wp2
      go_ret
      exact ⟨rfl, rfl⟩
  · have : inB x 0 1 = false := by simp [inB]; omega
    rw [this]
    go_enter Try.func55, Try.ntmps55
    go_wp2
    go_ret
    exact ⟨rfl, rfl⟩

set_option maxRecDepth 100000 in
theorem iisRight_any (h : PHead) (w : World) : Calls Try.prog 27 #[headV h] w fun e w' => e = .returned (.bool (headB h)) ∧ Below w.heap.size w w' := by
  obtain ⟨no, ar, en⟩ := h
  unfold headV
  simp only
  have b1 : Below w.heap.size w (w.alloc (.cells #[.int .i64 no, .int .i64 ar, .int .i64 en] 26)) := (Below.refl _ _).alloc (Nat.le_refl _) _
  have B1 := (show Hid _ from b1)
  clear b1
  obtain ⟨r, hr⟩ : ∃ r, r = headB ⟨no, ar, en⟩ := ⟨_, rfl⟩
  rw [← hr]
  have HR := (show Hid (r = (inB no 1 1000000000 && inB ar 0 1 && inB en 0 4096)) from hr)
  have CA := (show Hid _ from iisArea_any ar)
  clear hr
  by_cases h1 : 1 ≤ no
  · by_cases h2 : no ≤ 1000000000
    · cases hq : inB ar 0 1
      · rw [hq] at CA
        have HF : Hid (r = false) := (show r = false by rw [HR.out, hq]; simp)
        clear HR hq
        go_enter Try.func27, Try.ntmps27
        go_wp2_with fail
        go_at_call 55
        refine (CA.out _).mono ?_
        rintro e w2 ⟨rfl, e2⟩
        subst e2
        go_wp2
        go_ret
        exact ⟨ret_bool HF.out.symm, B1.out⟩
      · rw [hq] at CA
        by_cases h3 : 0 ≤ en
        · by_cases h4 : en ≤ 4096
          · have HF : Hid (r = true) := (show r = true by rw [HR.out, hq, inB_yes h1 h2, inB_yes h3 h4]; rfl)
            clear HR hq
            go_enter Try.func27, Try.ntmps27
            go_wp2_with fail
            go_at_call 55
            refine (CA.out _).mono ?_
            rintro e w2 ⟨rfl, e2⟩
            subst e2
            go_wp2
            go_ret
            exact ⟨ret_bool HF.out.symm, B1.out⟩
          · have HF : Hid (r = false) := (show r = false by rw [HR.out, inB_no (x := en) (lo := 0) (hi := 4096) (by omega)]; simp)
            clear HR hq
            go_enter Try.func27, Try.ntmps27
            go_wp2_with fail
            go_at_call 55
            refine (CA.out _).mono ?_
            rintro e w2 ⟨rfl, e2⟩
            subst e2
            go_wp2
            go_ret
            exact ⟨ret_bool ((decide_eq_false (by omega)).trans HF.out.symm), B1.out⟩
        · have HF : Hid (r = false) := (show r = false by rw [HR.out, inB_no (x := en) (lo := 0) (hi := 4096) (by omega)]; simp)
          clear HR hq
          go_enter Try.func27, Try.ntmps27
          go_wp2_with fail
          go_at_call 55
          refine (CA.out _).mono ?_
          rintro e w2 ⟨rfl, e2⟩
          subst e2
          go_wp2
          go_ret
          exact ⟨ret_bool HF.out.symm, B1.out⟩
    · have HF : Hid (r = false) := (show r = false by rw [HR.out, inB_no (x := no) (lo := 1) (hi := 1000000000) (by omega)]; simp)
      clear HR CA
      go_enter Try.func27, Try.ntmps27
      go_wp2
      go_ret
      exact ⟨ret_bool HF.out.symm, B1.out⟩
  · have HF : Hid (r = false) := (show r = false by rw [HR.out, inB_no (x := no) (lo := 1) (hi := 1000000000) (by omega)]; simp)
    clear HR CA
    go_enter Try.func27, Try.ntmps27
    go_wp2
    go_ret
    exact ⟨ret_bool HF.out.symm, B1.out⟩

/-- What spanOk answers. -/
def spanB (a at' n : Int) : Bool := inB a 0 1 && inB at' 0 4096 && inB n 0 (4096 - at')
theorem ispanOk_any (a at' n : Int) (w : World) : Calls Try.prog 50 #[.int .i64 a, .int .i64 at', .int .i64 n] w fun e w' => e = .returned (.bool (spanB a at' n)) ∧ w' = w := by
  obtain ⟨r, hr⟩ : ∃ r, r = spanB a at' n := ⟨_, rfl⟩
  rw [← hr]
  have HR := (show Hid (r = (inB a 0 1 && inB at' 0 4096 && inB n 0 (4096 - at'))) from hr)
  have CA := (show Hid _ from iisArea_any a)
  clear hr
  cases hq : inB a 0 1
  · rw [hq] at CA
    have HF : Hid (r = false) := (show r = false by rw [HR.out, hq]; simp)
    clear HR hq
    go_enter Try.func50, Try.ntmps50
    go_wp2_with fail
    go_at_call 55
    refine (CA.out _).mono ?_
    rintro e w2 ⟨rfl, e2⟩
    subst e2
    go_wp2
    go_ret
    exact ⟨ret_bool HF.out.symm, rfl⟩
  · rw [hq] at CA
    have HQ := (show Hid _ from hq)
    clear hq
    by_cases h1 : 0 ≤ at' ∧ at' ≤ 4096
    · obtain ⟨h1, h2⟩ := h1
      by_cases h3 : 0 ≤ n
      · by_cases h4 : n ≤ 4096 - at'
        · have HF : Hid (r = true) := (show r = true by rw [HR.out, HQ.out, inB_yes h1 h2, inB_yes h3 h4]; rfl)
          clear HR HQ
          go_enter Try.func50, Try.ntmps50
          go_wp2_with fail
          go_at_call 55
          refine (CA.out _).mono ?_
          rintro e w2 ⟨rfl, e2⟩
          subst e2
          go_wp2
          go_ret
          exact ⟨ret_bool HF.out.symm, rfl⟩
        · have HF : Hid (r = false) := (show r = false by rw [HR.out, inB_no (x := n) (lo := 0) (hi := 4096 - at') (by omega)]; simp)
          clear HR HQ
          go_enter Try.func50, Try.ntmps50
          go_wp2_with fail
          go_at_call 55
          refine (CA.out _).mono ?_
          rintro e w2 ⟨rfl, e2⟩
          subst e2
          go_wp2
          go_ret
          exact ⟨ret_bool ((decide_eq_false (by omega)).trans HF.out.symm), rfl⟩
      · have HF : Hid (r = false) := (show r = false by rw [HR.out, inB_no (x := n) (lo := 0) (hi := 4096 - at') (by omega)]; simp)
        clear HR HQ
        go_enter Try.func50, Try.ntmps50
        go_wp2_with fail
        go_at_call 55
        refine (CA.out _).mono ?_
        rintro e w2 ⟨rfl, e2⟩
        subst e2
        go_wp2
        go_ret
        exact ⟨ret_bool HF.out.symm, rfl⟩
    · have HF : Hid (r = false) := (show r = false by rw [HR.out, inB_no (x := at') (lo := 0) (hi := 4096) (by omega)]; simp)
      clear HR HQ
      by_cases h0 : 0 ≤ at'
      · have h2 : ¬ (at' ≤ 4096) := fun e => h1 ⟨h0, e⟩
        clear h1
        go_enter Try.func50, Try.ntmps50
        go_wp2_with fail
        go_at_call 55
        refine (CA.out _).mono ?_
        rintro e w2 ⟨rfl, e2⟩
        subst e2
        go_wp2
        go_ret
        exact ⟨ret_bool HF.out.symm, rfl⟩
      · clear h1
        go_enter Try.func50, Try.ntmps50
        go_wp2_with fail
        go_at_call 55
        refine (CA.out _).mono ?_
        rintro e w2 ⟨rfl, e2⟩
        subst e2
        go_wp2
        go_ret
        exact ⟨ret_bool HF.out.symm, rfl⟩

theorem isectorAt_any (a : Int) (k : Nat) (w : World) (ha : a = 0 ∨ a = 1) (hk : k ≤ 4096) : Calls Try.prog 51 #[.int .i64 a, .int .i64 (k : Int)] w fun e w' => e = .returned (.int .i64 (2 + 64 * a + ((k / 64 : Nat) : Int))) ∧ w' = w := by
  obtain ⟨x, hx⟩ : ∃ x : Int, x = (k : Int) := ⟨_, rfl⟩
  have HX := (show Hid (x = (k : Int)) from hx)
  have h0 : 0 ≤ x := by omega
  have h1 : x ≤ 4096 := by omega
  rw [← hx]
  clear hx hk
  go_enter Try.func51, Try.ntmps51
  go_wp2
  go_ret
  refine ⟨ret_int ?_, rfl⟩
  have hx := HX.out
  rcases ha with rfl | rfl <;> simp <;> omega
end Go.Proofs.Ytiejfnnokfedkaa
