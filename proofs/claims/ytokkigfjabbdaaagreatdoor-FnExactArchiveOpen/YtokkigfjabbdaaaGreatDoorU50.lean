/- The exact law of ArchiveOpen (written by mk/wlawa.py's users). -/
import Derived.Test.YtokkigfjabbdaaaGreatDoorU29
import Derived.Test.YtokkigfjabbdaaaGreatDoorU34
import Derived.Test.YtokkigfjabbdaaaGreatDoorU46
import Derived.Test.YtokkigfjabbdaaaGreatDoorU47
import Derived.Deep.RegionHeld3
import Derived.Deep.CutRange
namespace Go.Proofs.YtokkigfjabbdaaaGreatDoor
open Go.RowKit
set_option maxRecDepth 100000
set_option linter.unusedVariables false

set_option maxHeartbeats 8000000 in
set_option maxRecDepth 100000 in
theorem fnExactArchiveOpen_walk {v : Value} {a : PArch} (w0 : World) (hs : Sent w0) (h : ArAt w0 v a) (hwf : (Lit.int .i64 a.head.no).wf = true ∧ (Lit.int .i64 a.head.area).wf = true ∧ (Lit.int .i64 a.head.en).wf = true) (h1 : ∀ s ∈ a.disk.safe, s.size ≤ maxLen) (h2 : ∀ p ∈ a.disk.late, p.2.size ≤ maxLen) (h3 : ∀ p ∈ a.list, p.1.size ≤ maxLen ∧ p.2.size ≤ maxLen) :
    Calls Tryz.prog 6 #[v] w0 fun e w' => e = .returned (.bool true) ∧ Below w0.heap.size w0 w' := by
  have HT := (show Hid (Sent w0) from hs)
  obtain ⟨sa, sn, sc, sA, sN, sC, sp, sq, sr, ev⟩ : ∃ sa sn sc sA sN sC sp sq sr, v = .agg #[.bool a.up, .slice sa sn sc, .slice sA sN sC, .int .i64 a.head.no, .int .i64 a.head.area, .int .i64 a.head.en, .slice sp sq sr] := by
    obtain ⟨_, _, _, _, _, _, _, _, _, e, _⟩ := h
    exact ⟨_, _, _, _, _, _, _, _, _, e⟩
  subst ev
  have HD := (show Hid (ArAt w0 (.agg #[.bool a.up, .slice sa sn sc, .slice sA sN sC, .int .i64 a.head.no, .int .i64 a.head.area, .int .i64 a.head.en, .slice sp sq sr]) a) from h)
  obtain ⟨w, hw⟩ : ∃ x, x = w0.alloc (.cells #[.bool a.up, .slice sa sn sc, .slice sA sN sC, .int .i64 a.head.no, .int .i64 a.head.area, .int .i64 a.head.en, .slice sp sq sr] 30) := ⟨_, rfl⟩
  have hl := (La.refl w0).new #[.bool a.up, .slice sa sn sc, .slice sA sN sC, .int .i64 a.head.no, .int .i64 a.head.area, .int .i64 a.head.en, .slice sp sq sr] 30
  rw [← hw] at hl
  have HL := (show Hid (La w0 [(w0.heap.size, #[.bool a.up, .slice sa sn sc, .slice sA sN sC, .int .i64 a.head.no, .int .i64 a.head.area, .int .i64 a.head.en, .slice sp sq sr], 30)] [] [] [] w) from hl)
  have CZ := (show Hid _ from szArchive_any (HD.out.below hl.hl.1) h1 h2 h3 1048576 (by decide) (by decide))
  clear hl h1 h2 h3 h hwf hs
  go_enter Tryz.func6, Tryz.ntmps6
  go_wp2_with fail
  go_at_call 7
  rw [← hw]
  refine Calls.mono CZ.out ?_
  rintro e w1 ⟨r, rfl, hr, b1⟩
  clear CZ hw
  rcases hr with hr | ⟨hr0, hf⟩
  · go_wp2
    go_ret
    exact ⟨rfl, (HL.out.below b1).hl.1⟩
  · have HF := (show Hid (ArFit a) from hf)
    clear hf
    have CTA := (show Hid (∀ L R Y S W, La w0 L R Y S W → Calls Tryz.prog 9 #[.agg #[.bool a.up, .slice sa sn sc, .slice sA sN sC, .int .i64 a.head.no, .int .i64 a.head.area, .int .i64 a.head.en, .slice sp sq sr]] W fun e W' => ∃ ta tn tc tA tN tC tp tq tr, e = .returned (.agg #[.bool a.up, .slice ta tn tc, .slice tA tN tC, .int .i64 a.head.no, .int .i64 a.head.area, .int .i64 a.head.en, .slice tp tq tr]) ∧ La w0 L R Y S W' ∧ OwnAy w0.heap.size W' (.agg #[.bool a.up, .slice ta tn tc, .slice tA tN tC, .int .i64 a.head.no, .int .i64 a.head.area, .int .i64 a.head.en, .slice tp tq tr]) a ∧ Below W.heap.size W W') from fun L R Y S W l => (l.toA HD.out HF.out).mono (by
      rintro e W' ⟨_, _, _, _, _, _, _, _, _, rfl, l', o, k⟩
      exact ⟨_, _, _, _, _, _, _, _, _, rfl, l', o.base l.hl.1.size, k⟩))
    have FQ := (show Hid (ArFit (openA a).1) from fit_openA HF.out)
    obtain ⟨⟨qa, qc⟩, hq⟩ : ∃ x, x = openA a := ⟨_, rfl⟩
    rw [← hq] at FQ
    have CS := (show Hid (∀ L R Y S (W : World) (v : Value) (B : Nat), La w0 L R Y S W → B ≤ W.heap.size → ArAt W v a → Calls Tryz.prog 21 #[v] W fun e W' => ∃ xa xn xc xA xN xC xp xq xr, e = .returned (.tuple #[.agg #[.bool qa.up, .slice xa xn xc, .slice xA xN xC, .int .i64 qa.head.no, .int .i64 qa.head.area, .int .i64 qa.head.en, .slice xp xq xr], .int .i64 qc]) ∧ OwnAy B W' (.agg #[.bool qa.up, .slice xa xn xc, .slice xA xN xC, .int .i64 qa.head.no, .int .i64 qa.head.area, .int .i64 qa.head.en, .slice xp xq xr]) qa ∧ La w0 L R Y S W' ∧ Below W.heap.size W W') from fun L R Y S W v B l hB h => by
      have k := sarOpen_any h HF.out
      rw [← hq] at k
      exact k.mono (by
        rintro e W' ⟨v', rfl, o, b⟩
        have o' := o
        obtain ⟨_, _, _, _, _, _, _, _, _, rfl, _⟩ := o
        exact ⟨_, _, _, _, _, _, _, _, _, rfl, OwnAy.base o' hB, l.below b, b⟩))
    have CI := (show Hid (∀ L R Y S (W : World) (v : Value) (B : Nat), La w0 L R Y S W → B ≤ W.heap.size → ArAt W v a → Calls Tryz.prog 22 #[v] W fun e W' => ∃ xa xn xc xA xN xC xp xq xr, e = .returned (.tuple #[.agg #[.bool qa.up, .slice xa xn xc, .slice xA xN xC, .int .i64 qa.head.no, .int .i64 qa.head.area, .int .i64 qa.head.en, .slice xp xq xr], .int .i64 qc]) ∧ OwnAy B W' (.agg #[.bool qa.up, .slice xa xn xc, .slice xA xN xC, .int .i64 qa.head.no, .int .i64 qa.head.area, .int .i64 qa.head.en, .slice xp xq xr]) qa ∧ La w0 L R Y S W' ∧ Below W.heap.size W W') from fun L R Y S W v B l hB h => by
      have k := iarOpen_any h HF.out (HT.out.below l.hl.1)
      rw [← hq] at k
      exact k.mono (by
        rintro e W' ⟨v', rfl, o, b⟩
        have o' := o
        obtain ⟨_, _, _, _, _, _, _, _, _, rfl, _⟩ := o
        exact ⟨_, _, _, _, _, _, _, _, _, rfl, OwnAy.base o' hB, l.below b, b⟩))
    simp only at FQ
    have hqq : (qc != qc) = false := by simp
    have hk1 := arEnd_pos qa
    have hk2 : (arEnd qa != arEnd qa) = false := by simp
    have hk0 := arEnd_pos a
    clear hq
    have S_w1 := (show Hid (La w0 [(w0.heap.size, #[.bool a.up, .slice sa sn sc, .slice sA sN sC, .int .i64 a.head.no, .int .i64 a.head.area, .int .i64 a.head.en, .slice sp sq sr], 30)] [] [] [] w1) from HL.out.below b1)
    have Z0 := (show Hid (w0.heap.size ≤ w1.heap.size) from S_w1.out.hl.1.size)
    clear HL b1
    obtain ⟨c0_0, c0_1, c0_2, c0_3, c0_4, c0_5, c0_6, _⟩ := rk_seven (S_w1.out.hl.2 _ (List.mem_cons_self ..))
    go_wp2_with fail
    go_at_call 9
    refine (S_w1.out.toA HD.out HF.out).mono ?_
    rintro e w2 ⟨fa, fn, fc, fA, fN, fC, fp, fq, fr, rfl, lw2, ow2, bw2⟩
    have Z1 := (show Hid (w1.heap.size ≤ w2.heap.size) from bw2.size)
    have S_w2 := (show Hid (La w0 [(w0.heap.size, #[.bool a.up, .slice sa sn sc, .slice sA sN sC, .int .i64 a.head.no, .int .i64 a.head.area, .int .i64 a.head.en, .slice sp sq sr], 30)] [(w1.heap.size, w2.heap.size, .agg #[.bool a.up, .slice fa fn fc, .slice fA fN fC, .int .i64 a.head.no, .int .i64 a.head.area, .int .i64 a.head.en, .slice fp fq fr], a)] [] [] w2) from lw2.add ow2)
    clear S_w1 bw2
    clear c0_0 c0_1 c0_2 c0_3 c0_4 c0_5 c0_6
    clear lw2 ow2
    obtain ⟨c0_0, c0_1, c0_2, c0_3, c0_4, c0_5, c0_6, _⟩ := rk_seven (S_w2.out.hl.2 _ (List.mem_cons_self ..))
    go_wp2_with fail
    go_at_call 21
    refine (CS.out _ _ _ _ _ _ w2.heap.size S_w2.out (Nat.le_refl _) (S_w2.out.rows _ (List.mem_cons_self ..)).1.at).mono ?_
    rintro e w3 ⟨ba, bn, bc, bA, bN, bC, bp, bq, br, rfl, ow3, lw3, bw3⟩
    have Z2 := (show Hid (w2.heap.size ≤ w3.heap.size) from bw3.size)
    have S_w3 := (show Hid (La w0 [(w0.heap.size, #[.bool a.up, .slice sa sn sc, .slice sA sN sC, .int .i64 a.head.no, .int .i64 a.head.area, .int .i64 a.head.en, .slice sp sq sr], 30)] [(w2.heap.size, w3.heap.size, .agg #[.bool qa.up, .slice ba bn bc, .slice bA bN bC, .int .i64 qa.head.no, .int .i64 qa.head.area, .int .i64 qa.head.en, .slice bp bq br], qa), (w1.heap.size, w2.heap.size, .agg #[.bool a.up, .slice fa fn fc, .slice fA fN fC, .int .i64 a.head.no, .int .i64 a.head.area, .int .i64 a.head.en, .slice fp fq fr], a)] [] [] w3) from lw3.add ow3)
    clear S_w2 bw3
    clear c0_0 c0_1 c0_2 c0_3 c0_4 c0_5 c0_6
    clear lw3 ow3
    obtain ⟨w3a, hw3a⟩ : ∃ x, x = w3.alloc (.cells #[.bool qa.up, .slice ba bn bc, .slice bA bN bC, .int .i64 qa.head.no, .int .i64 qa.head.area, .int .i64 qa.head.en, .slice bp bq br] 39) := ⟨_, rfl⟩
    have Z3 := (show Hid (w3.heap.size < w3a.heap.size) from (show w3.heap.size < w3a.heap.size by rw [hw3a, World.size_alloc]; omega))
    obtain ⟨o0_0, o0_1, o0_2, o0_3, o0_4, o0_5, o0_6, _⟩ := rk_seven (S_w3.out.hl.2 _ (List.mem_cons_self ..))
    have o0_l := lt_of_block (S_w3.out.hl.2 _ (List.mem_cons_self ..))
    have S_w3a := (show Hid (La w0 [(w3.heap.size, #[.bool qa.up, .slice ba bn bc, .slice bA bN bC, .int .i64 qa.head.no, .int .i64 qa.head.area, .int .i64 qa.head.en, .slice bp bq br], 39), (w0.heap.size, #[.bool a.up, .slice sa sn sc, .slice sA sN sC, .int .i64 a.head.no, .int .i64 a.head.area, .int .i64 a.head.en, .slice sp sq sr], 30)] [(w2.heap.size, w3.heap.size, .agg #[.bool qa.up, .slice ba bn bc, .slice bA bN bC, .int .i64 qa.head.no, .int .i64 qa.head.area, .int .i64 qa.head.en, .slice bp bq br], qa), (w1.heap.size, w2.heap.size, .agg #[.bool a.up, .slice fa fn fc, .slice fA fN fC, .int .i64 a.head.no, .int .i64 a.head.area, .int .i64 a.head.en, .slice fp fq fr], a)] [] [] w3a) from by rw [hw3a]; exact S_w3.out.new #[.bool qa.up, .slice ba bn bc, .slice bA bN bC, .int .i64 qa.head.no, .int .i64 qa.head.area, .int .i64 qa.head.en, .slice bp bq br] 39)
    clear S_w3
    go_wp2_with fail
    go_at_call 9
    rw [← hw3a]
    clear hw3a
    refine (S_w3a.out.toA HD.out HF.out).mono ?_
    rintro e w4 ⟨xa, xn, xc, xA, xN, xC, xp, xq, xr, rfl, lw4, ow4, bw4⟩
    have Z4 := (show Hid (w3a.heap.size ≤ w4.heap.size) from bw4.size)
    have S_w4 := (show Hid (La w0 [(w3.heap.size, #[.bool qa.up, .slice ba bn bc, .slice bA bN bC, .int .i64 qa.head.no, .int .i64 qa.head.area, .int .i64 qa.head.en, .slice bp bq br], 39), (w0.heap.size, #[.bool a.up, .slice sa sn sc, .slice sA sN sC, .int .i64 a.head.no, .int .i64 a.head.area, .int .i64 a.head.en, .slice sp sq sr], 30)] [(w3a.heap.size, w4.heap.size, .agg #[.bool a.up, .slice xa xn xc, .slice xA xN xC, .int .i64 a.head.no, .int .i64 a.head.area, .int .i64 a.head.en, .slice xp xq xr], a), (w2.heap.size, w3.heap.size, .agg #[.bool qa.up, .slice ba bn bc, .slice bA bN bC, .int .i64 qa.head.no, .int .i64 qa.head.area, .int .i64 qa.head.en, .slice bp bq br], qa), (w1.heap.size, w2.heap.size, .agg #[.bool a.up, .slice fa fn fc, .slice fA fN fC, .int .i64 a.head.no, .int .i64 a.head.area, .int .i64 a.head.en, .slice fp fq fr], a)] [] [] w4) from lw4.add ow4)
    clear S_w3a bw4
    clear o0_0 o0_1 o0_2 o0_3 o0_4 o0_5 o0_6 o0_l
    clear lw4 ow4
    obtain ⟨w4a, hw4a⟩ : ∃ x, x = w4.alloc (.cells #[.bool a.up, .slice xa xn xc, .slice xA xN xC, .int .i64 a.head.no, .int .i64 a.head.area, .int .i64 a.head.en, .slice xp xq xr] 39) := ⟨_, rfl⟩
    have Z5 := (show Hid (w4.heap.size < w4a.heap.size) from (show w4.heap.size < w4a.heap.size by rw [hw4a, World.size_alloc]; omega))
    obtain ⟨o0_0, o0_1, o0_2, o0_3, o0_4, o0_5, o0_6, _⟩ := rk_seven (S_w4.out.hl.2 _ (List.mem_cons_self ..))
    have o0_l := lt_of_block (S_w4.out.hl.2 _ (List.mem_cons_self ..))
    obtain ⟨o1_0, o1_1, o1_2, o1_3, o1_4, o1_5, o1_6, _⟩ := rk_seven (S_w4.out.hl.2 _ (List.mem_cons_of_mem _ (List.mem_cons_self ..)))
    have o1_l := lt_of_block (S_w4.out.hl.2 _ (List.mem_cons_of_mem _ (List.mem_cons_self ..)))
    have S_w4a := (show Hid (La w0 [(w4.heap.size, #[.bool a.up, .slice xa xn xc, .slice xA xN xC, .int .i64 a.head.no, .int .i64 a.head.area, .int .i64 a.head.en, .slice xp xq xr], 39), (w3.heap.size, #[.bool qa.up, .slice ba bn bc, .slice bA bN bC, .int .i64 qa.head.no, .int .i64 qa.head.area, .int .i64 qa.head.en, .slice bp bq br], 39), (w0.heap.size, #[.bool a.up, .slice sa sn sc, .slice sA sN sC, .int .i64 a.head.no, .int .i64 a.head.area, .int .i64 a.head.en, .slice sp sq sr], 30)] [(w3a.heap.size, w4.heap.size, .agg #[.bool a.up, .slice xa xn xc, .slice xA xN xC, .int .i64 a.head.no, .int .i64 a.head.area, .int .i64 a.head.en, .slice xp xq xr], a), (w2.heap.size, w3.heap.size, .agg #[.bool qa.up, .slice ba bn bc, .slice bA bN bC, .int .i64 qa.head.no, .int .i64 qa.head.area, .int .i64 qa.head.en, .slice bp bq br], qa), (w1.heap.size, w2.heap.size, .agg #[.bool a.up, .slice fa fn fc, .slice fA fN fC, .int .i64 a.head.no, .int .i64 a.head.area, .int .i64 a.head.en, .slice fp fq fr], a)] [] [] w4a) from by rw [hw4a]; exact S_w4.out.new #[.bool a.up, .slice xa xn xc, .slice xA xN xC, .int .i64 a.head.no, .int .i64 a.head.area, .int .i64 a.head.en, .slice xp xq xr] 39)
    clear S_w4
    go_wp2_with fail
    go_at_call 22
    rw [← hw4a]
    clear hw4a
    refine (CI.out _ _ _ _ _ _ w4a.heap.size S_w4a.out (Nat.le_refl _) (S_w4a.out.rows _ (List.mem_cons_self ..)).1.at).mono ?_
    rintro e w5 ⟨ga, gn, gc, gA, gN, gC, gp, gq, gr, rfl, ow5, lw5, bw5⟩
    have Z6 := (show Hid (w4a.heap.size ≤ w5.heap.size) from bw5.size)
    have S_w5 := (show Hid (La w0 [(w4.heap.size, #[.bool a.up, .slice xa xn xc, .slice xA xN xC, .int .i64 a.head.no, .int .i64 a.head.area, .int .i64 a.head.en, .slice xp xq xr], 39), (w3.heap.size, #[.bool qa.up, .slice ba bn bc, .slice bA bN bC, .int .i64 qa.head.no, .int .i64 qa.head.area, .int .i64 qa.head.en, .slice bp bq br], 39), (w0.heap.size, #[.bool a.up, .slice sa sn sc, .slice sA sN sC, .int .i64 a.head.no, .int .i64 a.head.area, .int .i64 a.head.en, .slice sp sq sr], 30)] [(w4a.heap.size, w5.heap.size, .agg #[.bool qa.up, .slice ga gn gc, .slice gA gN gC, .int .i64 qa.head.no, .int .i64 qa.head.area, .int .i64 qa.head.en, .slice gp gq gr], qa), (w3a.heap.size, w4.heap.size, .agg #[.bool a.up, .slice xa xn xc, .slice xA xN xC, .int .i64 a.head.no, .int .i64 a.head.area, .int .i64 a.head.en, .slice xp xq xr], a), (w2.heap.size, w3.heap.size, .agg #[.bool qa.up, .slice ba bn bc, .slice bA bN bC, .int .i64 qa.head.no, .int .i64 qa.head.area, .int .i64 qa.head.en, .slice bp bq br], qa), (w1.heap.size, w2.heap.size, .agg #[.bool a.up, .slice fa fn fc, .slice fA fN fC, .int .i64 a.head.no, .int .i64 a.head.area, .int .i64 a.head.en, .slice fp fq fr], a)] [] [] w5) from lw5.add ow5)
    clear S_w4a bw5
    clear o0_0 o0_1 o0_2 o0_3 o0_4 o0_5 o0_6 o0_l o1_0 o1_1 o1_2 o1_3 o1_4 o1_5 o1_6 o1_l
    clear lw5 ow5
    obtain ⟨w5a, hw5a⟩ : ∃ x, x = w5.alloc (.cells #[.bool qa.up, .slice ga gn gc, .slice gA gN gC, .int .i64 qa.head.no, .int .i64 qa.head.area, .int .i64 qa.head.en, .slice gp gq gr] 39) := ⟨_, rfl⟩
    have Z7 := (show Hid (w5.heap.size < w5a.heap.size) from (show w5.heap.size < w5a.heap.size by rw [hw5a, World.size_alloc]; omega))
    obtain ⟨o0_0, o0_1, o0_2, o0_3, o0_4, o0_5, o0_6, _⟩ := rk_seven (S_w5.out.hl.2 _ (List.mem_cons_self ..))
    have o0_l := lt_of_block (S_w5.out.hl.2 _ (List.mem_cons_self ..))
    obtain ⟨o1_0, o1_1, o1_2, o1_3, o1_4, o1_5, o1_6, _⟩ := rk_seven (S_w5.out.hl.2 _ (List.mem_cons_of_mem _ (List.mem_cons_self ..)))
    have o1_l := lt_of_block (S_w5.out.hl.2 _ (List.mem_cons_of_mem _ (List.mem_cons_self ..)))
    obtain ⟨o2_0, o2_1, o2_2, o2_3, o2_4, o2_5, o2_6, _⟩ := rk_seven (S_w5.out.hl.2 _ (List.mem_cons_of_mem _ (List.mem_cons_of_mem _ (List.mem_cons_self ..))))
    have o2_l := lt_of_block (S_w5.out.hl.2 _ (List.mem_cons_of_mem _ (List.mem_cons_of_mem _ (List.mem_cons_self ..))))
    have S_w5a := (show Hid (La w0 [(w5.heap.size, #[.bool qa.up, .slice ga gn gc, .slice gA gN gC, .int .i64 qa.head.no, .int .i64 qa.head.area, .int .i64 qa.head.en, .slice gp gq gr], 39), (w4.heap.size, #[.bool a.up, .slice xa xn xc, .slice xA xN xC, .int .i64 a.head.no, .int .i64 a.head.area, .int .i64 a.head.en, .slice xp xq xr], 39), (w3.heap.size, #[.bool qa.up, .slice ba bn bc, .slice bA bN bC, .int .i64 qa.head.no, .int .i64 qa.head.area, .int .i64 qa.head.en, .slice bp bq br], 39), (w0.heap.size, #[.bool a.up, .slice sa sn sc, .slice sA sN sC, .int .i64 a.head.no, .int .i64 a.head.area, .int .i64 a.head.en, .slice sp sq sr], 30)] [(w4a.heap.size, w5.heap.size, .agg #[.bool qa.up, .slice ga gn gc, .slice gA gN gC, .int .i64 qa.head.no, .int .i64 qa.head.area, .int .i64 qa.head.en, .slice gp gq gr], qa), (w3a.heap.size, w4.heap.size, .agg #[.bool a.up, .slice xa xn xc, .slice xA xN xC, .int .i64 a.head.no, .int .i64 a.head.area, .int .i64 a.head.en, .slice xp xq xr], a), (w2.heap.size, w3.heap.size, .agg #[.bool qa.up, .slice ba bn bc, .slice bA bN bC, .int .i64 qa.head.no, .int .i64 qa.head.area, .int .i64 qa.head.en, .slice bp bq br], qa), (w1.heap.size, w2.heap.size, .agg #[.bool a.up, .slice fa fn fc, .slice fA fN fC, .int .i64 a.head.no, .int .i64 a.head.area, .int .i64 a.head.en, .slice fp fq fr], a)] [] [] w5a) from by rw [hw5a]; exact S_w5.out.new #[.bool qa.up, .slice ga gn gc, .slice gA gN gC, .int .i64 qa.head.no, .int .i64 qa.head.area, .int .i64 qa.head.en, .slice gp gq gr] 39)
    clear S_w5
    go_wp2_with fail
    go_at_call 11
    rw [← hw5a]
    clear hw5a
    refine (S_w5a.out.eqA (S_w5a.out.rows _ (List.mem_cons_self ..)).1.at (S_w5a.out.rows _ (List.mem_cons_of_mem _ (List.mem_cons_of_mem _ (List.mem_cons_self ..)))).1.at FQ.out).mono ?_
    rintro e w6 ⟨rfl, lw6, bw6⟩
    have Z8 := (show Hid (w5a.heap.size ≤ w6.heap.size) from bw6.size)
    have S_w6 := (show Hid (La w0 [(w5.heap.size, #[.bool qa.up, .slice ga gn gc, .slice gA gN gC, .int .i64 qa.head.no, .int .i64 qa.head.area, .int .i64 qa.head.en, .slice gp gq gr], 39), (w4.heap.size, #[.bool a.up, .slice xa xn xc, .slice xA xN xC, .int .i64 a.head.no, .int .i64 a.head.area, .int .i64 a.head.en, .slice xp xq xr], 39), (w3.heap.size, #[.bool qa.up, .slice ba bn bc, .slice bA bN bC, .int .i64 qa.head.no, .int .i64 qa.head.area, .int .i64 qa.head.en, .slice bp bq br], 39), (w0.heap.size, #[.bool a.up, .slice sa sn sc, .slice sA sN sC, .int .i64 a.head.no, .int .i64 a.head.area, .int .i64 a.head.en, .slice sp sq sr], 30)] [(w4a.heap.size, w5.heap.size, .agg #[.bool qa.up, .slice ga gn gc, .slice gA gN gC, .int .i64 qa.head.no, .int .i64 qa.head.area, .int .i64 qa.head.en, .slice gp gq gr], qa), (w3a.heap.size, w4.heap.size, .agg #[.bool a.up, .slice xa xn xc, .slice xA xN xC, .int .i64 a.head.no, .int .i64 a.head.area, .int .i64 a.head.en, .slice xp xq xr], a), (w2.heap.size, w3.heap.size, .agg #[.bool qa.up, .slice ba bn bc, .slice bA bN bC, .int .i64 qa.head.no, .int .i64 qa.head.area, .int .i64 qa.head.en, .slice bp bq br], qa), (w1.heap.size, w2.heap.size, .agg #[.bool a.up, .slice fa fn fc, .slice fA fN fC, .int .i64 a.head.no, .int .i64 a.head.area, .int .i64 a.head.en, .slice fp fq fr], a)] [] [] w6) from lw6)
    clear S_w5a bw6
    clear o0_0 o0_1 o0_2 o0_3 o0_4 o0_5 o0_6 o0_l o1_0 o1_1 o1_2 o1_3 o1_4 o1_5 o1_6 o1_l o2_0 o2_1 o2_2 o2_3 o2_4 o2_5 o2_6 o2_l
    clear lw6
    obtain ⟨c0_0, c0_1, c0_2, c0_3, c0_4, c0_5, c0_6, _⟩ := rk_seven (S_w6.out.hl.2 _ (List.mem_cons_self ..))
    obtain ⟨c1_0, c1_1, c1_2, c1_3, c1_4, c1_5, c1_6, _⟩ := rk_seven (S_w6.out.hl.2 _ (List.mem_cons_of_mem _ (List.mem_cons_self ..)))
    obtain ⟨c2_0, c2_1, c2_2, c2_3, c2_4, c2_5, c2_6, _⟩ := rk_seven (S_w6.out.hl.2 _ (List.mem_cons_of_mem _ (List.mem_cons_of_mem _ (List.mem_cons_self ..))))
    obtain ⟨c3_0, c3_1, c3_2, c3_3, c3_4, c3_5, c3_6, _⟩ := rk_seven (S_w6.out.hl.2 _ (List.mem_cons_of_mem _ (List.mem_cons_of_mem _ (List.mem_cons_of_mem _ (List.mem_cons_self ..)))))
    go_wp2_with fail
    clear c0_0 c0_1 c0_2 c0_3 c0_4 c0_5 c0_6 c1_0 c1_1 c1_2 c1_3 c1_4 c1_5 c1_6 c2_0 c2_1 c2_2 c2_3 c2_4 c2_5 c2_6 c3_0 c3_1 c3_2 c3_3 c3_4 c3_5 c3_6
    have KD := (show Hid (La w0 [(w5.heap.size, #[.bool qa.up, .slice ga gn gc, .slice gA gN gC, .int .i64 qa.head.no, .int .i64 qa.head.area, .int .i64 qa.head.en, .slice gp gq gr], 39), (w4.heap.size, #[.bool a.up, .slice xa xn xc, .slice xA xN xC, .int .i64 a.head.no, .int .i64 a.head.area, .int .i64 a.head.en, .slice xp xq xr], 39), (w3.heap.size, #[.bool qa.up, .slice ba bn bc, .slice bA bN bC, .int .i64 qa.head.no, .int .i64 qa.head.area, .int .i64 qa.head.en, .slice bp bq br], 39), (w0.heap.size, #[.bool a.up, .slice sa sn sc, .slice sA sN sC, .int .i64 a.head.no, .int .i64 a.head.area, .int .i64 a.head.en, .slice sp sq sr], 30)] [(w4a.heap.size, w5.heap.size, .agg #[.bool qa.up, .slice ga gn gc, .slice gA gN gC, .int .i64 qa.head.no, .int .i64 qa.head.area, .int .i64 qa.head.en, .slice gp gq gr], qa), (w3a.heap.size, w4.heap.size, .agg #[.bool a.up, .slice xa xn xc, .slice xA xN xC, .int .i64 a.head.no, .int .i64 a.head.area, .int .i64 a.head.en, .slice xp xq xr], a), (w2.heap.size, w3.heap.size, .agg #[.bool qa.up, .slice ba bn bc, .slice bA bN bC, .int .i64 qa.head.no, .int .i64 qa.head.area, .int .i64 qa.head.en, .slice bp bq br], qa), (w1.heap.size, w2.heap.size, .agg #[.bool a.up, .slice fa fn fc, .slice fA fN fC, .int .i64 a.head.no, .int .i64 a.head.area, .int .i64 a.head.en, .slice fp fq fr], a)] [] [] w6.drew) from S_w6.out.below (below_drewN 1))
    have HS := (show Hid (∀ W, La w0 [(w5.heap.size, #[.bool qa.up, .slice ga gn gc, .slice gA gN gC, .int .i64 qa.head.no, .int .i64 qa.head.area, .int .i64 qa.head.en, .slice gp gq gr], 39), (w4.heap.size, #[.bool a.up, .slice xa xn xc, .slice xA xN xC, .int .i64 a.head.no, .int .i64 a.head.area, .int .i64 a.head.en, .slice xp xq xr], 39), (w3.heap.size, #[.bool qa.up, .slice ba bn bc, .slice bA bN bC, .int .i64 qa.head.no, .int .i64 qa.head.area, .int .i64 qa.head.en, .slice bp bq br], 39), (w0.heap.size, #[.bool a.up, .slice sa sn sc, .slice sA sN sC, .int .i64 a.head.no, .int .i64 a.head.area, .int .i64 a.head.en, .slice sp sq sr], 30)] [(w4a.heap.size, w5.heap.size, .agg #[.bool qa.up, .slice ga gn gc, .slice gA gN gC, .int .i64 qa.head.no, .int .i64 qa.head.area, .int .i64 qa.head.en, .slice gp gq gr], qa), (w3a.heap.size, w4.heap.size, .agg #[.bool a.up, .slice xa xn xc, .slice xA xN xC, .int .i64 a.head.no, .int .i64 a.head.area, .int .i64 a.head.en, .slice xp xq xr], a), (w2.heap.size, w3.heap.size, .agg #[.bool qa.up, .slice ba bn bc, .slice bA bN bC, .int .i64 qa.head.no, .int .i64 qa.head.area, .int .i64 qa.head.en, .slice bp bq br], qa), (w1.heap.size, w2.heap.size, .agg #[.bool a.up, .slice fa fn fc, .slice fA fN fC, .int .i64 a.head.no, .int .i64 a.head.area, .int .i64 a.head.en, .slice fp fq fr], a)] [] [] W → W.cell? ⟨w5.heap.size, 0, none⟩ = some (.bool qa.up) ∧ W.cell? ⟨w5.heap.size, 1, none⟩ = some (.slice ga gn gc) ∧ W.cell? ⟨w5.heap.size, 2, none⟩ = some (.slice gA gN gC) ∧ W.cell? ⟨w5.heap.size, 3, none⟩ = some (.int .i64 qa.head.no) ∧ W.cell? ⟨w5.heap.size, 4, none⟩ = some (.int .i64 qa.head.area) ∧ W.cell? ⟨w5.heap.size, 5, none⟩ = some (.int .i64 qa.head.en) ∧ W.cell? ⟨w5.heap.size, 6, none⟩ = some (.slice gp gq gr) ∧ W.cell? ⟨w4.heap.size, 0, none⟩ = some (.bool a.up) ∧ W.cell? ⟨w4.heap.size, 1, none⟩ = some (.slice xa xn xc) ∧ W.cell? ⟨w4.heap.size, 2, none⟩ = some (.slice xA xN xC) ∧ W.cell? ⟨w4.heap.size, 3, none⟩ = some (.int .i64 a.head.no) ∧ W.cell? ⟨w4.heap.size, 4, none⟩ = some (.int .i64 a.head.area) ∧ W.cell? ⟨w4.heap.size, 5, none⟩ = some (.int .i64 a.head.en) ∧ W.cell? ⟨w4.heap.size, 6, none⟩ = some (.slice xp xq xr) ∧ W.cell? ⟨w3.heap.size, 0, none⟩ = some (.bool qa.up) ∧ W.cell? ⟨w3.heap.size, 1, none⟩ = some (.slice ba bn bc) ∧ W.cell? ⟨w3.heap.size, 2, none⟩ = some (.slice bA bN bC) ∧ W.cell? ⟨w3.heap.size, 3, none⟩ = some (.int .i64 qa.head.no) ∧ W.cell? ⟨w3.heap.size, 4, none⟩ = some (.int .i64 qa.head.area) ∧ W.cell? ⟨w3.heap.size, 5, none⟩ = some (.int .i64 qa.head.en) ∧ W.cell? ⟨w3.heap.size, 6, none⟩ = some (.slice bp bq br) ∧ W.cell? ⟨w0.heap.size, 0, none⟩ = some (.bool a.up) ∧ W.cell? ⟨w0.heap.size, 1, none⟩ = some (.slice sa sn sc) ∧ W.cell? ⟨w0.heap.size, 2, none⟩ = some (.slice sA sN sC) ∧ W.cell? ⟨w0.heap.size, 3, none⟩ = some (.int .i64 a.head.no) ∧ W.cell? ⟨w0.heap.size, 4, none⟩ = some (.int .i64 a.head.area) ∧ W.cell? ⟨w0.heap.size, 5, none⟩ = some (.int .i64 a.head.en) ∧ W.cell? ⟨w0.heap.size, 6, none⟩ = some (.slice sp sq sr) ∧ La w0 [(w5.heap.size, #[.bool qa.up, .slice ga gn gc, .slice gA gN gC, .int .i64 qa.head.no, .int .i64 qa.head.area, .int .i64 qa.head.en, .slice gp gq gr], 39), (w4.heap.size, #[.bool a.up, .slice xa xn xc, .slice xA xN xC, .int .i64 a.head.no, .int .i64 a.head.area, .int .i64 a.head.en, .slice xp xq xr], 39), (w3.heap.size, #[.bool qa.up, .slice ba bn bc, .slice bA bN bC, .int .i64 qa.head.no, .int .i64 qa.head.area, .int .i64 qa.head.en, .slice bp bq br], 39), (w0.heap.size, #[.bool a.up, .slice sa sn sc, .slice sA sN sC, .int .i64 a.head.no, .int .i64 a.head.area, .int .i64 a.head.en, .slice sp sq sr], 30)] [(w4a.heap.size, w5.heap.size, .agg #[.bool qa.up, .slice ga gn gc, .slice gA gN gC, .int .i64 qa.head.no, .int .i64 qa.head.area, .int .i64 qa.head.en, .slice gp gq gr], qa), (w3a.heap.size, w4.heap.size, .agg #[.bool a.up, .slice xa xn xc, .slice xA xN xC, .int .i64 a.head.no, .int .i64 a.head.area, .int .i64 a.head.en, .slice xp xq xr], a), (w2.heap.size, w3.heap.size, .agg #[.bool qa.up, .slice ba bn bc, .slice bA bN bC, .int .i64 qa.head.no, .int .i64 qa.head.area, .int .i64 qa.head.en, .slice bp bq br], qa), (w1.heap.size, w2.heap.size, .agg #[.bool a.up, .slice fa fn fc, .slice fA fN fC, .int .i64 a.head.no, .int .i64 a.head.area, .int .i64 a.head.en, .slice fp fq fr], a)] [] [] W) from fun W h => ⟨(rk_seven (h.hl.2 _ (List.mem_cons_self ..))).1, (rk_seven (h.hl.2 _ (List.mem_cons_self ..))).2.1, (rk_seven (h.hl.2 _ (List.mem_cons_self ..))).2.2.1, (rk_seven (h.hl.2 _ (List.mem_cons_self ..))).2.2.2.1, (rk_seven (h.hl.2 _ (List.mem_cons_self ..))).2.2.2.2.1, (rk_seven (h.hl.2 _ (List.mem_cons_self ..))).2.2.2.2.2.1, (rk_seven (h.hl.2 _ (List.mem_cons_self ..))).2.2.2.2.2.2.1, (rk_seven (h.hl.2 _ (List.mem_cons_of_mem _ (List.mem_cons_self ..)))).1, (rk_seven (h.hl.2 _ (List.mem_cons_of_mem _ (List.mem_cons_self ..)))).2.1, (rk_seven (h.hl.2 _ (List.mem_cons_of_mem _ (List.mem_cons_self ..)))).2.2.1, (rk_seven (h.hl.2 _ (List.mem_cons_of_mem _ (List.mem_cons_self ..)))).2.2.2.1, (rk_seven (h.hl.2 _ (List.mem_cons_of_mem _ (List.mem_cons_self ..)))).2.2.2.2.1, (rk_seven (h.hl.2 _ (List.mem_cons_of_mem _ (List.mem_cons_self ..)))).2.2.2.2.2.1, (rk_seven (h.hl.2 _ (List.mem_cons_of_mem _ (List.mem_cons_self ..)))).2.2.2.2.2.2.1, (rk_seven (h.hl.2 _ (List.mem_cons_of_mem _ (List.mem_cons_of_mem _ (List.mem_cons_self ..))))).1, (rk_seven (h.hl.2 _ (List.mem_cons_of_mem _ (List.mem_cons_of_mem _ (List.mem_cons_self ..))))).2.1, (rk_seven (h.hl.2 _ (List.mem_cons_of_mem _ (List.mem_cons_of_mem _ (List.mem_cons_self ..))))).2.2.1, (rk_seven (h.hl.2 _ (List.mem_cons_of_mem _ (List.mem_cons_of_mem _ (List.mem_cons_self ..))))).2.2.2.1, (rk_seven (h.hl.2 _ (List.mem_cons_of_mem _ (List.mem_cons_of_mem _ (List.mem_cons_self ..))))).2.2.2.2.1, (rk_seven (h.hl.2 _ (List.mem_cons_of_mem _ (List.mem_cons_of_mem _ (List.mem_cons_self ..))))).2.2.2.2.2.1, (rk_seven (h.hl.2 _ (List.mem_cons_of_mem _ (List.mem_cons_of_mem _ (List.mem_cons_self ..))))).2.2.2.2.2.2.1, (rk_seven (h.hl.2 _ (List.mem_cons_of_mem _ (List.mem_cons_of_mem _ (List.mem_cons_of_mem _ (List.mem_cons_self ..)))))).1, (rk_seven (h.hl.2 _ (List.mem_cons_of_mem _ (List.mem_cons_of_mem _ (List.mem_cons_of_mem _ (List.mem_cons_self ..)))))).2.1, (rk_seven (h.hl.2 _ (List.mem_cons_of_mem _ (List.mem_cons_of_mem _ (List.mem_cons_of_mem _ (List.mem_cons_self ..)))))).2.2.1, (rk_seven (h.hl.2 _ (List.mem_cons_of_mem _ (List.mem_cons_of_mem _ (List.mem_cons_of_mem _ (List.mem_cons_self ..)))))).2.2.2.1, (rk_seven (h.hl.2 _ (List.mem_cons_of_mem _ (List.mem_cons_of_mem _ (List.mem_cons_of_mem _ (List.mem_cons_self ..)))))).2.2.2.2.1, (rk_seven (h.hl.2 _ (List.mem_cons_of_mem _ (List.mem_cons_of_mem _ (List.mem_cons_of_mem _ (List.mem_cons_self ..)))))).2.2.2.2.2.1, (rk_seven (h.hl.2 _ (List.mem_cons_of_mem _ (List.mem_cons_of_mem _ (List.mem_cons_of_mem _ (List.mem_cons_self ..)))))).2.2.2.2.2.2.1, h⟩)
    have hw0 : w0.heap.size ≤ w6.heap.size := S_w6.out.hl.1.size
    go_region_held3 (fun w' => w'.cell? ⟨w5.heap.size, 0, none⟩ = some (.bool qa.up) ∧ w'.cell? ⟨w5.heap.size, 1, none⟩ = some (.slice ga gn gc) ∧ w'.cell? ⟨w5.heap.size, 2, none⟩ = some (.slice gA gN gC) ∧ w'.cell? ⟨w5.heap.size, 3, none⟩ = some (.int .i64 qa.head.no) ∧ w'.cell? ⟨w5.heap.size, 4, none⟩ = some (.int .i64 qa.head.area) ∧ w'.cell? ⟨w5.heap.size, 5, none⟩ = some (.int .i64 qa.head.en) ∧ w'.cell? ⟨w5.heap.size, 6, none⟩ = some (.slice gp gq gr) ∧ w'.cell? ⟨w4.heap.size, 0, none⟩ = some (.bool a.up) ∧ w'.cell? ⟨w4.heap.size, 1, none⟩ = some (.slice xa xn xc) ∧ w'.cell? ⟨w4.heap.size, 2, none⟩ = some (.slice xA xN xC) ∧ w'.cell? ⟨w4.heap.size, 3, none⟩ = some (.int .i64 a.head.no) ∧ w'.cell? ⟨w4.heap.size, 4, none⟩ = some (.int .i64 a.head.area) ∧ w'.cell? ⟨w4.heap.size, 5, none⟩ = some (.int .i64 a.head.en) ∧ w'.cell? ⟨w4.heap.size, 6, none⟩ = some (.slice xp xq xr) ∧ w'.cell? ⟨w3.heap.size, 0, none⟩ = some (.bool qa.up) ∧ w'.cell? ⟨w3.heap.size, 1, none⟩ = some (.slice ba bn bc) ∧ w'.cell? ⟨w3.heap.size, 2, none⟩ = some (.slice bA bN bC) ∧ w'.cell? ⟨w3.heap.size, 3, none⟩ = some (.int .i64 qa.head.no) ∧ w'.cell? ⟨w3.heap.size, 4, none⟩ = some (.int .i64 qa.head.area) ∧ w'.cell? ⟨w3.heap.size, 5, none⟩ = some (.int .i64 qa.head.en) ∧ w'.cell? ⟨w3.heap.size, 6, none⟩ = some (.slice bp bq br) ∧ w'.cell? ⟨w0.heap.size, 0, none⟩ = some (.bool a.up) ∧ w'.cell? ⟨w0.heap.size, 1, none⟩ = some (.slice sa sn sc) ∧ w'.cell? ⟨w0.heap.size, 2, none⟩ = some (.slice sA sN sC) ∧ w'.cell? ⟨w0.heap.size, 3, none⟩ = some (.int .i64 a.head.no) ∧ w'.cell? ⟨w0.heap.size, 4, none⟩ = some (.int .i64 a.head.area) ∧ w'.cell? ⟨w0.heap.size, 5, none⟩ = some (.int .i64 a.head.en) ∧ w'.cell? ⟨w0.heap.size, 6, none⟩ = some (.slice sp sq sr) ∧ La w0 [(w5.heap.size, #[.bool qa.up, .slice ga gn gc, .slice gA gN gC, .int .i64 qa.head.no, .int .i64 qa.head.area, .int .i64 qa.head.en, .slice gp gq gr], 39), (w4.heap.size, #[.bool a.up, .slice xa xn xc, .slice xA xN xC, .int .i64 a.head.no, .int .i64 a.head.area, .int .i64 a.head.en, .slice xp xq xr], 39), (w3.heap.size, #[.bool qa.up, .slice ba bn bc, .slice bA bN bC, .int .i64 qa.head.no, .int .i64 qa.head.area, .int .i64 qa.head.en, .slice bp bq br], 39), (w0.heap.size, #[.bool a.up, .slice sa sn sc, .slice sA sN sC, .int .i64 a.head.no, .int .i64 a.head.area, .int .i64 a.head.en, .slice sp sq sr], 30)] [(w4a.heap.size, w5.heap.size, .agg #[.bool qa.up, .slice ga gn gc, .slice gA gN gC, .int .i64 qa.head.no, .int .i64 qa.head.area, .int .i64 qa.head.en, .slice gp gq gr], qa), (w3a.heap.size, w4.heap.size, .agg #[.bool a.up, .slice xa xn xc, .slice xA xN xC, .int .i64 a.head.no, .int .i64 a.head.area, .int .i64 a.head.en, .slice xp xq xr], a), (w2.heap.size, w3.heap.size, .agg #[.bool qa.up, .slice ba bn bc, .slice bA bN bC, .int .i64 qa.head.no, .int .i64 qa.head.area, .int .i64 qa.head.en, .slice bp bq br], qa), (w1.heap.size, w2.heap.size, .agg #[.bool a.up, .slice fa fn fc, .slice fA fN fC, .int .i64 a.head.no, .int .i64 a.head.area, .int .i64 a.head.en, .slice fp fq fr], a)] [] [] w')
      (first | exact HS.out _ KD.out | exact HS.out _ Q0.out | exact HS.out _ Q1.out)
      (first
        | (go_at_call 9
           refine Calls.mono (CTA.out _ _ _ _ _ (‹_ ∧ _ ∧ _ ∧ _ ∧ _ ∧ _ ∧ _ ∧ _ ∧ _ ∧ _ ∧ _ ∧ _ ∧ _ ∧ _ ∧ _ ∧ _ ∧ _ ∧ _ ∧ _ ∧ _ ∧ _ ∧ _ ∧ _ ∧ _ ∧ _ ∧ _ ∧ _ ∧ _ ∧ La _ _ _ _ _ _›).2.2.2.2.2.2.2.2.2.2.2.2.2.2.2.2.2.2.2.2.2.2.2.2.2.2.2.2) ?_
           rintro e y0 ⟨ta, tn, tc, tA, tN, tC, tp, tq, tr, rfl, l0, o0, b0⟩
           have O0 := (show Hid (OwnAy w0.heap.size y0 (.agg #[.bool a.up, .slice ta tn tc, .slice tA tN tC, .int .i64 a.head.no, .int .i64 a.head.area, .int .i64 a.head.en, .slice tp tq tr]) a) from o0)
           clear o0
           have Q0 := (show Hid (La w0 [(w5.heap.size, #[.bool qa.up, .slice ga gn gc, .slice gA gN gC, .int .i64 qa.head.no, .int .i64 qa.head.area, .int .i64 qa.head.en, .slice gp gq gr], 39), (w4.heap.size, #[.bool a.up, .slice xa xn xc, .slice xA xN xC, .int .i64 a.head.no, .int .i64 a.head.area, .int .i64 a.head.en, .slice xp xq xr], 39), (w3.heap.size, #[.bool qa.up, .slice ba bn bc, .slice bA bN bC, .int .i64 qa.head.no, .int .i64 qa.head.area, .int .i64 qa.head.en, .slice bp bq br], 39), (w0.heap.size, #[.bool a.up, .slice sa sn sc, .slice sA sN sC, .int .i64 a.head.no, .int .i64 a.head.area, .int .i64 a.head.en, .slice sp sq sr], 30)] [(w4a.heap.size, w5.heap.size, .agg #[.bool qa.up, .slice ga gn gc, .slice gA gN gC, .int .i64 qa.head.no, .int .i64 qa.head.area, .int .i64 qa.head.en, .slice gp gq gr], qa), (w3a.heap.size, w4.heap.size, .agg #[.bool a.up, .slice xa xn xc, .slice xA xN xC, .int .i64 a.head.no, .int .i64 a.head.area, .int .i64 a.head.en, .slice xp xq xr], a), (w2.heap.size, w3.heap.size, .agg #[.bool qa.up, .slice ba bn bc, .slice bA bN bC, .int .i64 qa.head.no, .int .i64 qa.head.area, .int .i64 qa.head.en, .slice bp bq br], qa), (w1.heap.size, w2.heap.size, .agg #[.bool a.up, .slice fa fn fc, .slice fA fN fC, .int .i64 a.head.no, .int .i64 a.head.area, .int .i64 a.head.en, .slice fp fq fr], a)] [] [] y0) from l0)
           have z0 : w6.heap.size ≤ y0.heap.size := b0.size
           clear l0 b0)
        | (go_at_call 11
           refine Calls.mono (Q0.out.eqA (Q0.out.rows _ (List.mem_cons_of_mem _ (List.mem_cons_self ..))).1.at O0.out.at HF.out) ?_
           rintro e w7 ⟨rfl, l1, b1⟩
           have Q1 := (show Hid (La w0 [(w5.heap.size, #[.bool qa.up, .slice ga gn gc, .slice gA gN gC, .int .i64 qa.head.no, .int .i64 qa.head.area, .int .i64 qa.head.en, .slice gp gq gr], 39), (w4.heap.size, #[.bool a.up, .slice xa xn xc, .slice xA xN xC, .int .i64 a.head.no, .int .i64 a.head.area, .int .i64 a.head.en, .slice xp xq xr], 39), (w3.heap.size, #[.bool qa.up, .slice ba bn bc, .slice bA bN bC, .int .i64 qa.head.no, .int .i64 qa.head.area, .int .i64 qa.head.en, .slice bp bq br], 39), (w0.heap.size, #[.bool a.up, .slice sa sn sc, .slice sA sN sC, .int .i64 a.head.no, .int .i64 a.head.area, .int .i64 a.head.en, .slice sp sq sr], 30)] [(w4a.heap.size, w5.heap.size, .agg #[.bool qa.up, .slice ga gn gc, .slice gA gN gC, .int .i64 qa.head.no, .int .i64 qa.head.area, .int .i64 qa.head.en, .slice gp gq gr], qa), (w3a.heap.size, w4.heap.size, .agg #[.bool a.up, .slice xa xn xc, .slice xA xN xC, .int .i64 a.head.no, .int .i64 a.head.area, .int .i64 a.head.en, .slice xp xq xr], a), (w2.heap.size, w3.heap.size, .agg #[.bool qa.up, .slice ba bn bc, .slice bA bN bC, .int .i64 qa.head.no, .int .i64 qa.head.area, .int .i64 qa.head.en, .slice bp bq br], qa), (w1.heap.size, w2.heap.size, .agg #[.bool a.up, .slice fa fn fc, .slice fA fN fC, .int .i64 a.head.no, .int .i64 a.head.area, .int .i64 a.head.en, .slice fp fq fr], a)] [] [] w7) from l1)
           have z1 : w6.heap.size ≤ w7.heap.size := Nat.le_trans z0 b1.size
           clear l1 b1))
    have S_w7 := (show Hid (La w0 [(w5.heap.size, #[.bool qa.up, .slice ga gn gc, .slice gA gN gC, .int .i64 qa.head.no, .int .i64 qa.head.area, .int .i64 qa.head.en, .slice gp gq gr], 39), (w4.heap.size, #[.bool a.up, .slice xa xn xc, .slice xA xN xC, .int .i64 a.head.no, .int .i64 a.head.area, .int .i64 a.head.en, .slice xp xq xr], 39), (w3.heap.size, #[.bool qa.up, .slice ba bn bc, .slice bA bN bC, .int .i64 qa.head.no, .int .i64 qa.head.area, .int .i64 qa.head.en, .slice bp bq br], 39), (w0.heap.size, #[.bool a.up, .slice sa sn sc, .slice sA sN sC, .int .i64 a.head.no, .int .i64 a.head.area, .int .i64 a.head.en, .slice sp sq sr], 30)] [(w4a.heap.size, w5.heap.size, .agg #[.bool qa.up, .slice ga gn gc, .slice gA gN gC, .int .i64 qa.head.no, .int .i64 qa.head.area, .int .i64 qa.head.en, .slice gp gq gr], qa), (w3a.heap.size, w4.heap.size, .agg #[.bool a.up, .slice xa xn xc, .slice xA xN xC, .int .i64 a.head.no, .int .i64 a.head.area, .int .i64 a.head.en, .slice xp xq xr], a), (w2.heap.size, w3.heap.size, .agg #[.bool qa.up, .slice ba bn bc, .slice bA bN bC, .int .i64 qa.head.no, .int .i64 qa.head.area, .int .i64 qa.head.en, .slice bp bq br], qa), (w1.heap.size, w2.heap.size, .agg #[.bool a.up, .slice fa fn fc, .slice fA fN fC, .int .i64 a.head.no, .int .i64 a.head.area, .int .i64 a.head.en, .slice fp fq fr], a)] [] [] w7) from Q1.out)
    have Z9 := (show Hid (w6.heap.size ≤ w7.heap.size) from z1)
    clear Q1 Q0 O0 KD HS hw0 S_w6 z0 z1
    have T_w7 := (show Hid (La w0 [(w5.heap.size, #[.bool qa.up, .slice ga gn gc, .slice gA gN gC, .int .i64 qa.head.no, .int .i64 qa.head.area, .int .i64 qa.head.en, .slice gp gq gr], 39), (w4.heap.size, #[.bool a.up, .slice xa xn xc, .slice xA xN xC, .int .i64 a.head.no, .int .i64 a.head.area, .int .i64 a.head.en, .slice xp xq xr], 39), (w3.heap.size, #[.bool qa.up, .slice ba bn bc, .slice bA bN bC, .int .i64 qa.head.no, .int .i64 qa.head.area, .int .i64 qa.head.en, .slice bp bq br], 39), (w0.heap.size, #[.bool a.up, .slice sa sn sc, .slice sA sN sC, .int .i64 a.head.no, .int .i64 a.head.area, .int .i64 a.head.en, .slice sp sq sr], 30)] [(w3a.heap.size, w4.heap.size, .agg #[.bool a.up, .slice xa xn xc, .slice xA xN xC, .int .i64 a.head.no, .int .i64 a.head.area, .int .i64 a.head.en, .slice xp xq xr], a), (w4a.heap.size, w5.heap.size, .agg #[.bool qa.up, .slice ga gn gc, .slice gA gN gC, .int .i64 qa.head.no, .int .i64 qa.head.area, .int .i64 qa.head.en, .slice gp gq gr], qa), (w2.heap.size, w3.heap.size, .agg #[.bool qa.up, .slice ba bn bc, .slice bA bN bC, .int .i64 qa.head.no, .int .i64 qa.head.area, .int .i64 qa.head.en, .slice bp bq br], qa), (w1.heap.size, w2.heap.size, .agg #[.bool a.up, .slice fa fn fc, .slice fA fN fC, .int .i64 a.head.no, .int .i64 a.head.area, .int .i64 a.head.en, .slice fp fq fr], a)] [] [] w7) from S_w7.out.sub (by simp) (by simp) (by simp) (by simp))
    clear S_w7
    have S_w7 := T_w7
    clear T_w7
    have hlo : w0.heap.size ≤ w3a.heap.size := by have := Z0.out; have := Z1.out; have := Z2.out; have := Z3.out; have := Z4.out; have := Z5.out; have := Z6.out; have := Z7.out; have := Z8.out; have := Z9.out; omega
    have hR : ∀ r ∈ ([(w4a.heap.size, w5.heap.size, .agg #[.bool qa.up, .slice ga gn gc, .slice gA gN gC, .int .i64 qa.head.no, .int .i64 qa.head.area, .int .i64 qa.head.en, .slice gp gq gr], qa), (w2.heap.size, w3.heap.size, .agg #[.bool qa.up, .slice ba bn bc, .slice bA bN bC, .int .i64 qa.head.no, .int .i64 qa.head.area, .int .i64 qa.head.en, .slice bp bq br], qa), (w1.heap.size, w2.heap.size, .agg #[.bool a.up, .slice fa fn fc, .slice fA fN fC, .int .i64 a.head.no, .int .i64 a.head.area, .int .i64 a.head.en, .slice fp fq fr], a)] : List (Nat × Nat × Value × PArch)), r.2.1 ≤ w3a.heap.size ∨ w4.heap.size ≤ r.1 := by
      intro r hr
      simp only [List.mem_cons, List.not_mem_nil, or_false] at hr
      rcases hr with rfl | rfl | rfl
      · show w5.heap.size ≤ w3a.heap.size ∨ w4.heap.size ≤ w4a.heap.size
        have := Z0.out; have := Z1.out; have := Z2.out; have := Z3.out; have := Z4.out; have := Z5.out; have := Z6.out; have := Z7.out; have := Z8.out; have := Z9.out; omega
      · show w3.heap.size ≤ w3a.heap.size ∨ w4.heap.size ≤ w2.heap.size
        have := Z0.out; have := Z1.out; have := Z2.out; have := Z3.out; have := Z4.out; have := Z5.out; have := Z6.out; have := Z7.out; have := Z8.out; have := Z9.out; omega
      · show w2.heap.size ≤ w3a.heap.size ∨ w4.heap.size ≤ w1.heap.size
        have := Z0.out; have := Z1.out; have := Z2.out; have := Z3.out; have := Z4.out; have := Z5.out; have := Z6.out; have := Z7.out; have := Z8.out; have := Z9.out; omega
    have hS : ∀ r ∈ ([] : List (Nat × Nat × Value × List ByteArray)), r.2.1 ≤ w3a.heap.size ∨ w4.heap.size ≤ r.1 := by
      intro r hr
      cases hr
    have CM := (show Hid _ from S_w7.out.mkA HF.out hlo hR hS (by simp))
    clear hlo hR hS
    obtain ⟨c0_0, c0_1, c0_2, c0_3, c0_4, c0_5, c0_6, _⟩ := rk_seven (S_w7.out.hl.2 _ (List.mem_cons_self ..))
    obtain ⟨c1_0, c1_1, c1_2, c1_3, c1_4, c1_5, c1_6, _⟩ := rk_seven (S_w7.out.hl.2 _ (List.mem_cons_of_mem _ (List.mem_cons_self ..)))
    obtain ⟨c2_0, c2_1, c2_2, c2_3, c2_4, c2_5, c2_6, _⟩ := rk_seven (S_w7.out.hl.2 _ (List.mem_cons_of_mem _ (List.mem_cons_of_mem _ (List.mem_cons_self ..))))
    obtain ⟨c3_0, c3_1, c3_2, c3_3, c3_4, c3_5, c3_6, _⟩ := rk_seven (S_w7.out.hl.2 _ (List.mem_cons_of_mem _ (List.mem_cons_of_mem _ (List.mem_cons_of_mem _ (List.mem_cons_self ..)))))
    go_wp2_with fail
    go_at_call 15
    refine Calls.mono CM.out ?_
    rintro e w8 ⟨rfl, lw8, zw8⟩
    clear CM
    have Z10 := (show Hid (w7.heap.size ≤ w8.heap.size) from zw8)
    have S_w8 := (show Hid (La w0 [(w5.heap.size, #[.bool qa.up, .slice ga gn gc, .slice gA gN gC, .int .i64 qa.head.no, .int .i64 qa.head.area, .int .i64 qa.head.en, .slice gp gq gr], 39), (w4.heap.size, #[.bool a.up, .slice xa xn xc, .slice xA xN xC, .int .i64 a.head.no, .int .i64 a.head.area, .int .i64 a.head.en, .slice xp xq xr], 39), (w3.heap.size, #[.bool qa.up, .slice ba bn bc, .slice bA bN bC, .int .i64 qa.head.no, .int .i64 qa.head.area, .int .i64 qa.head.en, .slice bp bq br], 39), (w0.heap.size, #[.bool a.up, .slice sa sn sc, .slice sA sN sC, .int .i64 a.head.no, .int .i64 a.head.area, .int .i64 a.head.en, .slice sp sq sr], 30)] [(w3a.heap.size, w4.heap.size, .agg #[.bool a.up, .slice xa xn xc, .slice xA xN xC, .int .i64 a.head.no, .int .i64 a.head.area, .int .i64 a.head.en, .slice xp xq xr], (markA a)), (w4a.heap.size, w5.heap.size, .agg #[.bool qa.up, .slice ga gn gc, .slice gA gN gC, .int .i64 qa.head.no, .int .i64 qa.head.area, .int .i64 qa.head.en, .slice gp gq gr], qa), (w2.heap.size, w3.heap.size, .agg #[.bool qa.up, .slice ba bn bc, .slice bA bN bC, .int .i64 qa.head.no, .int .i64 qa.head.area, .int .i64 qa.head.en, .slice bp bq br], qa), (w1.heap.size, w2.heap.size, .agg #[.bool a.up, .slice fa fn fc, .slice fA fN fC, .int .i64 a.head.no, .int .i64 a.head.area, .int .i64 a.head.en, .slice fp fq fr], a)] [] [] w8) from lw8)
    clear S_w7 lw8 zw8
    clear c0_0 c0_1 c0_2 c0_3 c0_4 c0_5 c0_6 c1_0 c1_1 c1_2 c1_3 c1_4 c1_5 c1_6 c2_0 c2_1 c2_2 c2_3 c2_4 c2_5 c2_6 c3_0 c3_1 c3_2 c3_3 c3_4 c3_5 c3_6
    obtain ⟨c0_0, c0_1, c0_2, c0_3, c0_4, c0_5, c0_6, _⟩ := rk_seven (S_w8.out.hl.2 _ (List.mem_cons_self ..))
    obtain ⟨c1_0, c1_1, c1_2, c1_3, c1_4, c1_5, c1_6, _⟩ := rk_seven (S_w8.out.hl.2 _ (List.mem_cons_of_mem _ (List.mem_cons_self ..)))
    obtain ⟨c2_0, c2_1, c2_2, c2_3, c2_4, c2_5, c2_6, _⟩ := rk_seven (S_w8.out.hl.2 _ (List.mem_cons_of_mem _ (List.mem_cons_of_mem _ (List.mem_cons_self ..))))
    obtain ⟨c3_0, c3_1, c3_2, c3_3, c3_4, c3_5, c3_6, _⟩ := rk_seven (S_w8.out.hl.2 _ (List.mem_cons_of_mem _ (List.mem_cons_of_mem _ (List.mem_cons_of_mem _ (List.mem_cons_self ..)))))
    go_wp2_with fail
    go_at_call 11
    refine (S_w8.out.eqA (S_w8.out.rows _ (List.mem_cons_of_mem _ (List.mem_cons_self ..))).1.at (S_w8.out.rows _ (List.mem_cons_of_mem _ (List.mem_cons_of_mem _ (List.mem_cons_self ..)))).1.at FQ.out).mono ?_
    rintro e w9 ⟨rfl, lw9, bw9⟩
    have Z11 := (show Hid (w8.heap.size ≤ w9.heap.size) from bw9.size)
    have S_w9 := (show Hid (La w0 [(w5.heap.size, #[.bool qa.up, .slice ga gn gc, .slice gA gN gC, .int .i64 qa.head.no, .int .i64 qa.head.area, .int .i64 qa.head.en, .slice gp gq gr], 39), (w4.heap.size, #[.bool a.up, .slice xa xn xc, .slice xA xN xC, .int .i64 a.head.no, .int .i64 a.head.area, .int .i64 a.head.en, .slice xp xq xr], 39), (w3.heap.size, #[.bool qa.up, .slice ba bn bc, .slice bA bN bC, .int .i64 qa.head.no, .int .i64 qa.head.area, .int .i64 qa.head.en, .slice bp bq br], 39), (w0.heap.size, #[.bool a.up, .slice sa sn sc, .slice sA sN sC, .int .i64 a.head.no, .int .i64 a.head.area, .int .i64 a.head.en, .slice sp sq sr], 30)] [(w3a.heap.size, w4.heap.size, .agg #[.bool a.up, .slice xa xn xc, .slice xA xN xC, .int .i64 a.head.no, .int .i64 a.head.area, .int .i64 a.head.en, .slice xp xq xr], (markA a)), (w4a.heap.size, w5.heap.size, .agg #[.bool qa.up, .slice ga gn gc, .slice gA gN gC, .int .i64 qa.head.no, .int .i64 qa.head.area, .int .i64 qa.head.en, .slice gp gq gr], qa), (w2.heap.size, w3.heap.size, .agg #[.bool qa.up, .slice ba bn bc, .slice bA bN bC, .int .i64 qa.head.no, .int .i64 qa.head.area, .int .i64 qa.head.en, .slice bp bq br], qa), (w1.heap.size, w2.heap.size, .agg #[.bool a.up, .slice fa fn fc, .slice fA fN fC, .int .i64 a.head.no, .int .i64 a.head.area, .int .i64 a.head.en, .slice fp fq fr], a)] [] [] w9) from lw9)
    clear S_w8 bw9
    clear c0_0 c0_1 c0_2 c0_3 c0_4 c0_5 c0_6 c1_0 c1_1 c1_2 c1_3 c1_4 c1_5 c1_6 c2_0 c2_1 c2_2 c2_3 c2_4 c2_5 c2_6 c3_0 c3_1 c3_2 c3_3 c3_4 c3_5 c3_6
    clear lw9
    have T_w9 := (show Hid (La w0 [(w5.heap.size, #[.bool qa.up, .slice ga gn gc, .slice gA gN gC, .int .i64 qa.head.no, .int .i64 qa.head.area, .int .i64 qa.head.en, .slice gp gq gr], 39), (w4.heap.size, #[.bool a.up, .slice xa xn xc, .slice xA xN xC, .int .i64 a.head.no, .int .i64 a.head.area, .int .i64 a.head.en, .slice xp xq xr], 39), (w3.heap.size, #[.bool qa.up, .slice ba bn bc, .slice bA bN bC, .int .i64 qa.head.no, .int .i64 qa.head.area, .int .i64 qa.head.en, .slice bp bq br], 39), (w0.heap.size, #[.bool a.up, .slice sa sn sc, .slice sA sN sC, .int .i64 a.head.no, .int .i64 a.head.area, .int .i64 a.head.en, .slice sp sq sr], 30)] [(w4a.heap.size, w5.heap.size, .agg #[.bool qa.up, .slice ga gn gc, .slice gA gN gC, .int .i64 qa.head.no, .int .i64 qa.head.area, .int .i64 qa.head.en, .slice gp gq gr], qa), (w3a.heap.size, w4.heap.size, .agg #[.bool a.up, .slice xa xn xc, .slice xA xN xC, .int .i64 a.head.no, .int .i64 a.head.area, .int .i64 a.head.en, .slice xp xq xr], (markA a)), (w2.heap.size, w3.heap.size, .agg #[.bool qa.up, .slice ba bn bc, .slice bA bN bC, .int .i64 qa.head.no, .int .i64 qa.head.area, .int .i64 qa.head.en, .slice bp bq br], qa), (w1.heap.size, w2.heap.size, .agg #[.bool a.up, .slice fa fn fc, .slice fA fN fC, .int .i64 a.head.no, .int .i64 a.head.area, .int .i64 a.head.en, .slice fp fq fr], a)] [] [] w9) from S_w9.out.sub (by simp) (by simp) (by simp) (by simp))
    clear S_w9
    have S_w9 := T_w9
    clear T_w9
    have hlo : w0.heap.size ≤ w4a.heap.size := by have := Z0.out; have := Z1.out; have := Z2.out; have := Z3.out; have := Z4.out; have := Z5.out; have := Z6.out; have := Z7.out; have := Z8.out; have := Z9.out; have := Z10.out; have := Z11.out; omega
    have hR : ∀ r ∈ ([(w3a.heap.size, w4.heap.size, .agg #[.bool a.up, .slice xa xn xc, .slice xA xN xC, .int .i64 a.head.no, .int .i64 a.head.area, .int .i64 a.head.en, .slice xp xq xr], (markA a)), (w2.heap.size, w3.heap.size, .agg #[.bool qa.up, .slice ba bn bc, .slice bA bN bC, .int .i64 qa.head.no, .int .i64 qa.head.area, .int .i64 qa.head.en, .slice bp bq br], qa), (w1.heap.size, w2.heap.size, .agg #[.bool a.up, .slice fa fn fc, .slice fA fN fC, .int .i64 a.head.no, .int .i64 a.head.area, .int .i64 a.head.en, .slice fp fq fr], a)] : List (Nat × Nat × Value × PArch)), r.2.1 ≤ w4a.heap.size ∨ w5.heap.size ≤ r.1 := by
      intro r hr
      simp only [List.mem_cons, List.not_mem_nil, or_false] at hr
      rcases hr with rfl | rfl | rfl
      · show w4.heap.size ≤ w4a.heap.size ∨ w5.heap.size ≤ w3a.heap.size
        have := Z0.out; have := Z1.out; have := Z2.out; have := Z3.out; have := Z4.out; have := Z5.out; have := Z6.out; have := Z7.out; have := Z8.out; have := Z9.out; have := Z10.out; have := Z11.out; omega
      · show w3.heap.size ≤ w4a.heap.size ∨ w5.heap.size ≤ w2.heap.size
        have := Z0.out; have := Z1.out; have := Z2.out; have := Z3.out; have := Z4.out; have := Z5.out; have := Z6.out; have := Z7.out; have := Z8.out; have := Z9.out; have := Z10.out; have := Z11.out; omega
      · show w2.heap.size ≤ w4a.heap.size ∨ w5.heap.size ≤ w1.heap.size
        have := Z0.out; have := Z1.out; have := Z2.out; have := Z3.out; have := Z4.out; have := Z5.out; have := Z6.out; have := Z7.out; have := Z8.out; have := Z9.out; have := Z10.out; have := Z11.out; omega
    have hS : ∀ r ∈ ([] : List (Nat × Nat × Value × List ByteArray)), r.2.1 ≤ w4a.heap.size ∨ w5.heap.size ≤ r.1 := by
      intro r hr
      cases hr
    have CM := (show Hid _ from S_w9.out.mkA FQ.out hlo hR hS (by simp))
    clear hlo hR hS
    obtain ⟨c0_0, c0_1, c0_2, c0_3, c0_4, c0_5, c0_6, _⟩ := rk_seven (S_w9.out.hl.2 _ (List.mem_cons_self ..))
    obtain ⟨c1_0, c1_1, c1_2, c1_3, c1_4, c1_5, c1_6, _⟩ := rk_seven (S_w9.out.hl.2 _ (List.mem_cons_of_mem _ (List.mem_cons_self ..)))
    obtain ⟨c2_0, c2_1, c2_2, c2_3, c2_4, c2_5, c2_6, _⟩ := rk_seven (S_w9.out.hl.2 _ (List.mem_cons_of_mem _ (List.mem_cons_of_mem _ (List.mem_cons_self ..))))
    obtain ⟨c3_0, c3_1, c3_2, c3_3, c3_4, c3_5, c3_6, _⟩ := rk_seven (S_w9.out.hl.2 _ (List.mem_cons_of_mem _ (List.mem_cons_of_mem _ (List.mem_cons_of_mem _ (List.mem_cons_self ..)))))
    go_wp2_with fail
    go_at_call 15
    refine Calls.mono CM.out ?_
    rintro e w10 ⟨rfl, lw10, zw10⟩
    clear CM
    have Z12 := (show Hid (w9.heap.size ≤ w10.heap.size) from zw10)
    have S_w10 := (show Hid (La w0 [(w5.heap.size, #[.bool qa.up, .slice ga gn gc, .slice gA gN gC, .int .i64 qa.head.no, .int .i64 qa.head.area, .int .i64 qa.head.en, .slice gp gq gr], 39), (w4.heap.size, #[.bool a.up, .slice xa xn xc, .slice xA xN xC, .int .i64 a.head.no, .int .i64 a.head.area, .int .i64 a.head.en, .slice xp xq xr], 39), (w3.heap.size, #[.bool qa.up, .slice ba bn bc, .slice bA bN bC, .int .i64 qa.head.no, .int .i64 qa.head.area, .int .i64 qa.head.en, .slice bp bq br], 39), (w0.heap.size, #[.bool a.up, .slice sa sn sc, .slice sA sN sC, .int .i64 a.head.no, .int .i64 a.head.area, .int .i64 a.head.en, .slice sp sq sr], 30)] [(w4a.heap.size, w5.heap.size, .agg #[.bool qa.up, .slice ga gn gc, .slice gA gN gC, .int .i64 qa.head.no, .int .i64 qa.head.area, .int .i64 qa.head.en, .slice gp gq gr], (markA qa)), (w3a.heap.size, w4.heap.size, .agg #[.bool a.up, .slice xa xn xc, .slice xA xN xC, .int .i64 a.head.no, .int .i64 a.head.area, .int .i64 a.head.en, .slice xp xq xr], (markA a)), (w2.heap.size, w3.heap.size, .agg #[.bool qa.up, .slice ba bn bc, .slice bA bN bC, .int .i64 qa.head.no, .int .i64 qa.head.area, .int .i64 qa.head.en, .slice bp bq br], qa), (w1.heap.size, w2.heap.size, .agg #[.bool a.up, .slice fa fn fc, .slice fA fN fC, .int .i64 a.head.no, .int .i64 a.head.area, .int .i64 a.head.en, .slice fp fq fr], a)] [] [] w10) from lw10)
    clear S_w9 lw10 zw10
    clear c0_0 c0_1 c0_2 c0_3 c0_4 c0_5 c0_6 c1_0 c1_1 c1_2 c1_3 c1_4 c1_5 c1_6 c2_0 c2_1 c2_2 c2_3 c2_4 c2_5 c2_6 c3_0 c3_1 c3_2 c3_3 c3_4 c3_5 c3_6
    obtain ⟨c0_0, c0_1, c0_2, c0_3, c0_4, c0_5, c0_6, _⟩ := rk_seven (S_w10.out.hl.2 _ (List.mem_cons_self ..))
    obtain ⟨c1_0, c1_1, c1_2, c1_3, c1_4, c1_5, c1_6, _⟩ := rk_seven (S_w10.out.hl.2 _ (List.mem_cons_of_mem _ (List.mem_cons_self ..)))
    obtain ⟨c2_0, c2_1, c2_2, c2_3, c2_4, c2_5, c2_6, _⟩ := rk_seven (S_w10.out.hl.2 _ (List.mem_cons_of_mem _ (List.mem_cons_of_mem _ (List.mem_cons_self ..))))
    obtain ⟨c3_0, c3_1, c3_2, c3_3, c3_4, c3_5, c3_6, _⟩ := rk_seven (S_w10.out.hl.2 _ (List.mem_cons_of_mem _ (List.mem_cons_of_mem _ (List.mem_cons_of_mem _ (List.mem_cons_self ..)))))
    go_wp2_with fail
    go_at_call 20
    refine (S_w10.out.heldA (a := qa) (S_w10.out.rows _ (List.mem_cons_self ..)).1.at FQ.out).mono ?_
    rintro e w11 ⟨rfl, lw11, bw11⟩
    have Z13 := (show Hid (w10.heap.size ≤ w11.heap.size) from bw11.size)
    have S_w11 := (show Hid (La w0 [(w5.heap.size, #[.bool qa.up, .slice ga gn gc, .slice gA gN gC, .int .i64 qa.head.no, .int .i64 qa.head.area, .int .i64 qa.head.en, .slice gp gq gr], 39), (w4.heap.size, #[.bool a.up, .slice xa xn xc, .slice xA xN xC, .int .i64 a.head.no, .int .i64 a.head.area, .int .i64 a.head.en, .slice xp xq xr], 39), (w3.heap.size, #[.bool qa.up, .slice ba bn bc, .slice bA bN bC, .int .i64 qa.head.no, .int .i64 qa.head.area, .int .i64 qa.head.en, .slice bp bq br], 39), (w0.heap.size, #[.bool a.up, .slice sa sn sc, .slice sA sN sC, .int .i64 a.head.no, .int .i64 a.head.area, .int .i64 a.head.en, .slice sp sq sr], 30)] [(w4a.heap.size, w5.heap.size, .agg #[.bool qa.up, .slice ga gn gc, .slice gA gN gC, .int .i64 qa.head.no, .int .i64 qa.head.area, .int .i64 qa.head.en, .slice gp gq gr], (markA qa)), (w3a.heap.size, w4.heap.size, .agg #[.bool a.up, .slice xa xn xc, .slice xA xN xC, .int .i64 a.head.no, .int .i64 a.head.area, .int .i64 a.head.en, .slice xp xq xr], (markA a)), (w2.heap.size, w3.heap.size, .agg #[.bool qa.up, .slice ba bn bc, .slice bA bN bC, .int .i64 qa.head.no, .int .i64 qa.head.area, .int .i64 qa.head.en, .slice bp bq br], qa), (w1.heap.size, w2.heap.size, .agg #[.bool a.up, .slice fa fn fc, .slice fA fN fC, .int .i64 a.head.no, .int .i64 a.head.area, .int .i64 a.head.en, .slice fp fq fr], a)] [] [] w11) from lw11)
    clear S_w10 bw11
    clear c0_0 c0_1 c0_2 c0_3 c0_4 c0_5 c0_6 c1_0 c1_1 c1_2 c1_3 c1_4 c1_5 c1_6 c2_0 c2_1 c2_2 c2_3 c2_4 c2_5 c2_6 c3_0 c3_1 c3_2 c3_3 c3_4 c3_5 c3_6
    clear lw11
    obtain ⟨c0_0, c0_1, c0_2, c0_3, c0_4, c0_5, c0_6, _⟩ := rk_seven (S_w11.out.hl.2 _ (List.mem_cons_self ..))
    obtain ⟨c1_0, c1_1, c1_2, c1_3, c1_4, c1_5, c1_6, _⟩ := rk_seven (S_w11.out.hl.2 _ (List.mem_cons_of_mem _ (List.mem_cons_self ..)))
    obtain ⟨c2_0, c2_1, c2_2, c2_3, c2_4, c2_5, c2_6, _⟩ := rk_seven (S_w11.out.hl.2 _ (List.mem_cons_of_mem _ (List.mem_cons_of_mem _ (List.mem_cons_self ..))))
    obtain ⟨c3_0, c3_1, c3_2, c3_3, c3_4, c3_5, c3_6, _⟩ := rk_seven (S_w11.out.hl.2 _ (List.mem_cons_of_mem _ (List.mem_cons_of_mem _ (List.mem_cons_of_mem _ (List.mem_cons_self ..)))))
    go_wp2_with fail
    go_at_call 9
    refine (S_w11.out.toA HD.out HF.out).mono ?_
    rintro e w12 ⟨ua, un, uc, uA, uN, uC, up, uq, ur, rfl, lw12, ow12, bw12⟩
    have Z14 := (show Hid (w11.heap.size ≤ w12.heap.size) from bw12.size)
    have S_w12 := (show Hid (La w0 [(w5.heap.size, #[.bool qa.up, .slice ga gn gc, .slice gA gN gC, .int .i64 qa.head.no, .int .i64 qa.head.area, .int .i64 qa.head.en, .slice gp gq gr], 39), (w4.heap.size, #[.bool a.up, .slice xa xn xc, .slice xA xN xC, .int .i64 a.head.no, .int .i64 a.head.area, .int .i64 a.head.en, .slice xp xq xr], 39), (w3.heap.size, #[.bool qa.up, .slice ba bn bc, .slice bA bN bC, .int .i64 qa.head.no, .int .i64 qa.head.area, .int .i64 qa.head.en, .slice bp bq br], 39), (w0.heap.size, #[.bool a.up, .slice sa sn sc, .slice sA sN sC, .int .i64 a.head.no, .int .i64 a.head.area, .int .i64 a.head.en, .slice sp sq sr], 30)] [(w11.heap.size, w12.heap.size, .agg #[.bool a.up, .slice ua un uc, .slice uA uN uC, .int .i64 a.head.no, .int .i64 a.head.area, .int .i64 a.head.en, .slice up uq ur], a), (w4a.heap.size, w5.heap.size, .agg #[.bool qa.up, .slice ga gn gc, .slice gA gN gC, .int .i64 qa.head.no, .int .i64 qa.head.area, .int .i64 qa.head.en, .slice gp gq gr], (markA qa)), (w3a.heap.size, w4.heap.size, .agg #[.bool a.up, .slice xa xn xc, .slice xA xN xC, .int .i64 a.head.no, .int .i64 a.head.area, .int .i64 a.head.en, .slice xp xq xr], (markA a)), (w2.heap.size, w3.heap.size, .agg #[.bool qa.up, .slice ba bn bc, .slice bA bN bC, .int .i64 qa.head.no, .int .i64 qa.head.area, .int .i64 qa.head.en, .slice bp bq br], qa), (w1.heap.size, w2.heap.size, .agg #[.bool a.up, .slice fa fn fc, .slice fA fN fC, .int .i64 a.head.no, .int .i64 a.head.area, .int .i64 a.head.en, .slice fp fq fr], a)] [] [] w12) from lw12.add ow12)
    clear S_w11 bw12
    clear c0_0 c0_1 c0_2 c0_3 c0_4 c0_5 c0_6 c1_0 c1_1 c1_2 c1_3 c1_4 c1_5 c1_6 c2_0 c2_1 c2_2 c2_3 c2_4 c2_5 c2_6 c3_0 c3_1 c3_2 c3_3 c3_4 c3_5 c3_6
    clear lw12 ow12
    obtain ⟨c0_0, c0_1, c0_2, c0_3, c0_4, c0_5, c0_6, _⟩ := rk_seven (S_w12.out.hl.2 _ (List.mem_cons_self ..))
    obtain ⟨c1_0, c1_1, c1_2, c1_3, c1_4, c1_5, c1_6, _⟩ := rk_seven (S_w12.out.hl.2 _ (List.mem_cons_of_mem _ (List.mem_cons_self ..)))
    obtain ⟨c2_0, c2_1, c2_2, c2_3, c2_4, c2_5, c2_6, _⟩ := rk_seven (S_w12.out.hl.2 _ (List.mem_cons_of_mem _ (List.mem_cons_of_mem _ (List.mem_cons_self ..))))
    obtain ⟨c3_0, c3_1, c3_2, c3_3, c3_4, c3_5, c3_6, _⟩ := rk_seven (S_w12.out.hl.2 _ (List.mem_cons_of_mem _ (List.mem_cons_of_mem _ (List.mem_cons_of_mem _ (List.mem_cons_self ..)))))
    go_wp2_with fail
    go_at_call 22
    refine (CI.out _ _ _ _ _ _ w12.heap.size S_w12.out (Nat.le_refl _) (S_w12.out.rows _ (List.mem_cons_self ..)).1.at).mono ?_
    rintro e w13 ⟨ka, kn, kc, kA, kN, kC, kp, kq, kr, rfl, ow13, lw13, bw13⟩
    have Z15 := (show Hid (w12.heap.size ≤ w13.heap.size) from bw13.size)
    have S_w13 := (show Hid (La w0 [(w5.heap.size, #[.bool qa.up, .slice ga gn gc, .slice gA gN gC, .int .i64 qa.head.no, .int .i64 qa.head.area, .int .i64 qa.head.en, .slice gp gq gr], 39), (w4.heap.size, #[.bool a.up, .slice xa xn xc, .slice xA xN xC, .int .i64 a.head.no, .int .i64 a.head.area, .int .i64 a.head.en, .slice xp xq xr], 39), (w3.heap.size, #[.bool qa.up, .slice ba bn bc, .slice bA bN bC, .int .i64 qa.head.no, .int .i64 qa.head.area, .int .i64 qa.head.en, .slice bp bq br], 39), (w0.heap.size, #[.bool a.up, .slice sa sn sc, .slice sA sN sC, .int .i64 a.head.no, .int .i64 a.head.area, .int .i64 a.head.en, .slice sp sq sr], 30)] [(w12.heap.size, w13.heap.size, .agg #[.bool qa.up, .slice ka kn kc, .slice kA kN kC, .int .i64 qa.head.no, .int .i64 qa.head.area, .int .i64 qa.head.en, .slice kp kq kr], qa), (w11.heap.size, w12.heap.size, .agg #[.bool a.up, .slice ua un uc, .slice uA uN uC, .int .i64 a.head.no, .int .i64 a.head.area, .int .i64 a.head.en, .slice up uq ur], a), (w4a.heap.size, w5.heap.size, .agg #[.bool qa.up, .slice ga gn gc, .slice gA gN gC, .int .i64 qa.head.no, .int .i64 qa.head.area, .int .i64 qa.head.en, .slice gp gq gr], (markA qa)), (w3a.heap.size, w4.heap.size, .agg #[.bool a.up, .slice xa xn xc, .slice xA xN xC, .int .i64 a.head.no, .int .i64 a.head.area, .int .i64 a.head.en, .slice xp xq xr], (markA a)), (w2.heap.size, w3.heap.size, .agg #[.bool qa.up, .slice ba bn bc, .slice bA bN bC, .int .i64 qa.head.no, .int .i64 qa.head.area, .int .i64 qa.head.en, .slice bp bq br], qa), (w1.heap.size, w2.heap.size, .agg #[.bool a.up, .slice fa fn fc, .slice fA fN fC, .int .i64 a.head.no, .int .i64 a.head.area, .int .i64 a.head.en, .slice fp fq fr], a)] [] [] w13) from lw13.add ow13)
    clear S_w12 bw13
    clear c0_0 c0_1 c0_2 c0_3 c0_4 c0_5 c0_6 c1_0 c1_1 c1_2 c1_3 c1_4 c1_5 c1_6 c2_0 c2_1 c2_2 c2_3 c2_4 c2_5 c2_6 c3_0 c3_1 c3_2 c3_3 c3_4 c3_5 c3_6
    clear lw13 ow13
    obtain ⟨w13a, hw13a⟩ : ∃ x, x = w13.alloc (.cells #[.bool qa.up, .slice ka kn kc, .slice kA kN kC, .int .i64 qa.head.no, .int .i64 qa.head.area, .int .i64 qa.head.en, .slice kp kq kr] 39) := ⟨_, rfl⟩
    have Z16 := (show Hid (w13.heap.size < w13a.heap.size) from (show w13.heap.size < w13a.heap.size by rw [hw13a, World.size_alloc]; omega))
    obtain ⟨o0_0, o0_1, o0_2, o0_3, o0_4, o0_5, o0_6, _⟩ := rk_seven (S_w13.out.hl.2 _ (List.mem_cons_self ..))
    have o0_l := lt_of_block (S_w13.out.hl.2 _ (List.mem_cons_self ..))
    obtain ⟨o1_0, o1_1, o1_2, o1_3, o1_4, o1_5, o1_6, _⟩ := rk_seven (S_w13.out.hl.2 _ (List.mem_cons_of_mem _ (List.mem_cons_self ..)))
    have o1_l := lt_of_block (S_w13.out.hl.2 _ (List.mem_cons_of_mem _ (List.mem_cons_self ..)))
    obtain ⟨o2_0, o2_1, o2_2, o2_3, o2_4, o2_5, o2_6, _⟩ := rk_seven (S_w13.out.hl.2 _ (List.mem_cons_of_mem _ (List.mem_cons_of_mem _ (List.mem_cons_self ..))))
    have o2_l := lt_of_block (S_w13.out.hl.2 _ (List.mem_cons_of_mem _ (List.mem_cons_of_mem _ (List.mem_cons_self ..))))
    obtain ⟨o3_0, o3_1, o3_2, o3_3, o3_4, o3_5, o3_6, _⟩ := rk_seven (S_w13.out.hl.2 _ (List.mem_cons_of_mem _ (List.mem_cons_of_mem _ (List.mem_cons_of_mem _ (List.mem_cons_self ..)))))
    have o3_l := lt_of_block (S_w13.out.hl.2 _ (List.mem_cons_of_mem _ (List.mem_cons_of_mem _ (List.mem_cons_of_mem _ (List.mem_cons_self ..)))))
    have S_w13a := (show Hid (La w0 [(w13.heap.size, #[.bool qa.up, .slice ka kn kc, .slice kA kN kC, .int .i64 qa.head.no, .int .i64 qa.head.area, .int .i64 qa.head.en, .slice kp kq kr], 39), (w5.heap.size, #[.bool qa.up, .slice ga gn gc, .slice gA gN gC, .int .i64 qa.head.no, .int .i64 qa.head.area, .int .i64 qa.head.en, .slice gp gq gr], 39), (w4.heap.size, #[.bool a.up, .slice xa xn xc, .slice xA xN xC, .int .i64 a.head.no, .int .i64 a.head.area, .int .i64 a.head.en, .slice xp xq xr], 39), (w3.heap.size, #[.bool qa.up, .slice ba bn bc, .slice bA bN bC, .int .i64 qa.head.no, .int .i64 qa.head.area, .int .i64 qa.head.en, .slice bp bq br], 39), (w0.heap.size, #[.bool a.up, .slice sa sn sc, .slice sA sN sC, .int .i64 a.head.no, .int .i64 a.head.area, .int .i64 a.head.en, .slice sp sq sr], 30)] [(w12.heap.size, w13.heap.size, .agg #[.bool qa.up, .slice ka kn kc, .slice kA kN kC, .int .i64 qa.head.no, .int .i64 qa.head.area, .int .i64 qa.head.en, .slice kp kq kr], qa), (w11.heap.size, w12.heap.size, .agg #[.bool a.up, .slice ua un uc, .slice uA uN uC, .int .i64 a.head.no, .int .i64 a.head.area, .int .i64 a.head.en, .slice up uq ur], a), (w4a.heap.size, w5.heap.size, .agg #[.bool qa.up, .slice ga gn gc, .slice gA gN gC, .int .i64 qa.head.no, .int .i64 qa.head.area, .int .i64 qa.head.en, .slice gp gq gr], (markA qa)), (w3a.heap.size, w4.heap.size, .agg #[.bool a.up, .slice xa xn xc, .slice xA xN xC, .int .i64 a.head.no, .int .i64 a.head.area, .int .i64 a.head.en, .slice xp xq xr], (markA a)), (w2.heap.size, w3.heap.size, .agg #[.bool qa.up, .slice ba bn bc, .slice bA bN bC, .int .i64 qa.head.no, .int .i64 qa.head.area, .int .i64 qa.head.en, .slice bp bq br], qa), (w1.heap.size, w2.heap.size, .agg #[.bool a.up, .slice fa fn fc, .slice fA fN fC, .int .i64 a.head.no, .int .i64 a.head.area, .int .i64 a.head.en, .slice fp fq fr], a)] [] [] w13a) from by rw [hw13a]; exact S_w13.out.new #[.bool qa.up, .slice ka kn kc, .slice kA kN kC, .int .i64 qa.head.no, .int .i64 qa.head.area, .int .i64 qa.head.en, .slice kp kq kr] 39)
    clear S_w13
    go_wp2_with fail
    go_at_call 11
    rw [← hw13a]
    clear hw13a
    refine (S_w13a.out.eqA (S_w13a.out.rows _ (List.mem_cons_self ..)).1.at (S_w13a.out.rows _ (List.mem_cons_of_mem _ (List.mem_cons_of_mem _ (List.mem_cons_of_mem _ (List.mem_cons_of_mem _ (List.mem_cons_self ..)))))).1.at FQ.out).mono ?_
    rintro e w14 ⟨rfl, lw14, bw14⟩
    have Z17 := (show Hid (w13a.heap.size ≤ w14.heap.size) from bw14.size)
    have S_w14 := (show Hid (La w0 [(w13.heap.size, #[.bool qa.up, .slice ka kn kc, .slice kA kN kC, .int .i64 qa.head.no, .int .i64 qa.head.area, .int .i64 qa.head.en, .slice kp kq kr], 39), (w5.heap.size, #[.bool qa.up, .slice ga gn gc, .slice gA gN gC, .int .i64 qa.head.no, .int .i64 qa.head.area, .int .i64 qa.head.en, .slice gp gq gr], 39), (w4.heap.size, #[.bool a.up, .slice xa xn xc, .slice xA xN xC, .int .i64 a.head.no, .int .i64 a.head.area, .int .i64 a.head.en, .slice xp xq xr], 39), (w3.heap.size, #[.bool qa.up, .slice ba bn bc, .slice bA bN bC, .int .i64 qa.head.no, .int .i64 qa.head.area, .int .i64 qa.head.en, .slice bp bq br], 39), (w0.heap.size, #[.bool a.up, .slice sa sn sc, .slice sA sN sC, .int .i64 a.head.no, .int .i64 a.head.area, .int .i64 a.head.en, .slice sp sq sr], 30)] [(w12.heap.size, w13.heap.size, .agg #[.bool qa.up, .slice ka kn kc, .slice kA kN kC, .int .i64 qa.head.no, .int .i64 qa.head.area, .int .i64 qa.head.en, .slice kp kq kr], qa), (w11.heap.size, w12.heap.size, .agg #[.bool a.up, .slice ua un uc, .slice uA uN uC, .int .i64 a.head.no, .int .i64 a.head.area, .int .i64 a.head.en, .slice up uq ur], a), (w4a.heap.size, w5.heap.size, .agg #[.bool qa.up, .slice ga gn gc, .slice gA gN gC, .int .i64 qa.head.no, .int .i64 qa.head.area, .int .i64 qa.head.en, .slice gp gq gr], (markA qa)), (w3a.heap.size, w4.heap.size, .agg #[.bool a.up, .slice xa xn xc, .slice xA xN xC, .int .i64 a.head.no, .int .i64 a.head.area, .int .i64 a.head.en, .slice xp xq xr], (markA a)), (w2.heap.size, w3.heap.size, .agg #[.bool qa.up, .slice ba bn bc, .slice bA bN bC, .int .i64 qa.head.no, .int .i64 qa.head.area, .int .i64 qa.head.en, .slice bp bq br], qa), (w1.heap.size, w2.heap.size, .agg #[.bool a.up, .slice fa fn fc, .slice fA fN fC, .int .i64 a.head.no, .int .i64 a.head.area, .int .i64 a.head.en, .slice fp fq fr], a)] [] [] w14) from lw14)
    clear S_w13a bw14
    clear o0_0 o0_1 o0_2 o0_3 o0_4 o0_5 o0_6 o0_l o1_0 o1_1 o1_2 o1_3 o1_4 o1_5 o1_6 o1_l o2_0 o2_1 o2_2 o2_3 o2_4 o2_5 o2_6 o2_l o3_0 o3_1 o3_2 o3_3 o3_4 o3_5 o3_6 o3_l
    clear lw14
    obtain ⟨c0_0, c0_1, c0_2, c0_3, c0_4, c0_5, c0_6, _⟩ := rk_seven (S_w14.out.hl.2 _ (List.mem_cons_self ..))
    obtain ⟨c1_0, c1_1, c1_2, c1_3, c1_4, c1_5, c1_6, _⟩ := rk_seven (S_w14.out.hl.2 _ (List.mem_cons_of_mem _ (List.mem_cons_self ..)))
    obtain ⟨c2_0, c2_1, c2_2, c2_3, c2_4, c2_5, c2_6, _⟩ := rk_seven (S_w14.out.hl.2 _ (List.mem_cons_of_mem _ (List.mem_cons_of_mem _ (List.mem_cons_self ..))))
    obtain ⟨c3_0, c3_1, c3_2, c3_3, c3_4, c3_5, c3_6, _⟩ := rk_seven (S_w14.out.hl.2 _ (List.mem_cons_of_mem _ (List.mem_cons_of_mem _ (List.mem_cons_of_mem _ (List.mem_cons_self ..)))))
    obtain ⟨c4_0, c4_1, c4_2, c4_3, c4_4, c4_5, c4_6, _⟩ := rk_seven (S_w14.out.hl.2 _ (List.mem_cons_of_mem _ (List.mem_cons_of_mem _ (List.mem_cons_of_mem _ (List.mem_cons_of_mem _ (List.mem_cons_self ..))))))
    go_wp2_with fail
    go_at_call 20
    refine (S_w14.out.heldA (a := qa) (S_w14.out.rows _ (List.mem_cons_of_mem _ (List.mem_cons_of_mem _ (List.mem_cons_self ..)))).1.at FQ.out).mono ?_
    rintro e w15 ⟨rfl, lw15, bw15⟩
    have Z18 := (show Hid (w14.heap.size ≤ w15.heap.size) from bw15.size)
    have S_w15 := (show Hid (La w0 [(w13.heap.size, #[.bool qa.up, .slice ka kn kc, .slice kA kN kC, .int .i64 qa.head.no, .int .i64 qa.head.area, .int .i64 qa.head.en, .slice kp kq kr], 39), (w5.heap.size, #[.bool qa.up, .slice ga gn gc, .slice gA gN gC, .int .i64 qa.head.no, .int .i64 qa.head.area, .int .i64 qa.head.en, .slice gp gq gr], 39), (w4.heap.size, #[.bool a.up, .slice xa xn xc, .slice xA xN xC, .int .i64 a.head.no, .int .i64 a.head.area, .int .i64 a.head.en, .slice xp xq xr], 39), (w3.heap.size, #[.bool qa.up, .slice ba bn bc, .slice bA bN bC, .int .i64 qa.head.no, .int .i64 qa.head.area, .int .i64 qa.head.en, .slice bp bq br], 39), (w0.heap.size, #[.bool a.up, .slice sa sn sc, .slice sA sN sC, .int .i64 a.head.no, .int .i64 a.head.area, .int .i64 a.head.en, .slice sp sq sr], 30)] [(w12.heap.size, w13.heap.size, .agg #[.bool qa.up, .slice ka kn kc, .slice kA kN kC, .int .i64 qa.head.no, .int .i64 qa.head.area, .int .i64 qa.head.en, .slice kp kq kr], qa), (w11.heap.size, w12.heap.size, .agg #[.bool a.up, .slice ua un uc, .slice uA uN uC, .int .i64 a.head.no, .int .i64 a.head.area, .int .i64 a.head.en, .slice up uq ur], a), (w4a.heap.size, w5.heap.size, .agg #[.bool qa.up, .slice ga gn gc, .slice gA gN gC, .int .i64 qa.head.no, .int .i64 qa.head.area, .int .i64 qa.head.en, .slice gp gq gr], (markA qa)), (w3a.heap.size, w4.heap.size, .agg #[.bool a.up, .slice xa xn xc, .slice xA xN xC, .int .i64 a.head.no, .int .i64 a.head.area, .int .i64 a.head.en, .slice xp xq xr], (markA a)), (w2.heap.size, w3.heap.size, .agg #[.bool qa.up, .slice ba bn bc, .slice bA bN bC, .int .i64 qa.head.no, .int .i64 qa.head.area, .int .i64 qa.head.en, .slice bp bq br], qa), (w1.heap.size, w2.heap.size, .agg #[.bool a.up, .slice fa fn fc, .slice fA fN fC, .int .i64 a.head.no, .int .i64 a.head.area, .int .i64 a.head.en, .slice fp fq fr], a)] [] [] w15) from lw15)
    clear S_w14 bw15
    clear c0_0 c0_1 c0_2 c0_3 c0_4 c0_5 c0_6 c1_0 c1_1 c1_2 c1_3 c1_4 c1_5 c1_6 c2_0 c2_1 c2_2 c2_3 c2_4 c2_5 c2_6 c3_0 c3_1 c3_2 c3_3 c3_4 c3_5 c3_6 c4_0 c4_1 c4_2 c4_3 c4_4 c4_5 c4_6
    clear lw15
    go_wp2
    go_ret
    exact ⟨rfl, S_w15.out.hl.1⟩
end Go.Proofs.YtokkigfjabbdaaaGreatDoor
