/- The exact law of ArchiveOk (written by mk/wlawa.py's users). -/
import Derived.Test.YtokkigfjabbdaaaGreatDoorU29
import Derived.Test.YtokkigfjabbdaaaGreatDoorU34
import Derived.Test.YtokkigfjabbdaaaGreatDoorU44
import Derived.Deep.RegionHeld3
import Derived.Deep.CutRange
import Derived.Test.YtokkigfjabbdaaaGreatDoorU23
import Derived.Test.YtokkigfjabbdaaaGreatDoorU37
import Derived.Test.YtokkigfjabbdaaaGreatDoorU16
namespace Go.Proofs.YtokkigfjabbdaaaGreatDoor
open Go.RowKit
set_option maxRecDepth 100000
set_option linter.unusedVariables false

set_option maxHeartbeats 8000000 in
set_option maxRecDepth 100000 in
theorem fnExactArchiveOk_walk {v : Value} {a : PArch} (w0 : World) (hs : Sent w0) (h : ArAt w0 v a) (hwf : (Lit.int .i64 a.head.no).wf = true ∧ (Lit.int .i64 a.head.area).wf = true ∧ (Lit.int .i64 a.head.en).wf = true) (h1 : ∀ s ∈ a.disk.safe, s.size ≤ maxLen) (h2 : ∀ p ∈ a.disk.late, p.2.size ≤ maxLen) (h3 : ∀ p ∈ a.list, p.1.size ≤ maxLen ∧ p.2.size ≤ maxLen) :
    Calls Tryz.prog 3 #[v] w0 fun e w' => e = .returned (.bool true) ∧ Below w0.heap.size w0 w' := by
  have HT := (show Hid (Sent w0) from hs)
  obtain ⟨sa, sn, sc, sA, sN, sC, sp, sq, sr, ev⟩ : ∃ sa sn sc sA sN sC sp sq sr, v = .agg #[.bool a.up, .slice sa sn sc, .slice sA sN sC, .int .i64 a.head.no, .int .i64 a.head.area, .int .i64 a.head.en, .slice sp sq sr] := by
    obtain ⟨_, _, _, _, _, _, _, _, _, e, _⟩ := h
    exact ⟨_, _, _, _, _, _, _, _, _, e⟩
  subst ev
  have HD := (show Hid (ArAt w0 (.agg #[.bool a.up, .slice sa sn sc, .slice sA sN sC, .int .i64 a.head.no, .int .i64 a.head.area, .int .i64 a.head.en, .slice sp sq sr]) a) from h)
  obtain ⟨w, hw⟩ : ∃ x, x = w0.alloc (.cells #[.bool a.up, .slice sa sn sc, .slice sA sN sC, .int .i64 a.head.no, .int .i64 a.head.area, .int .i64 a.head.en, .slice sp sq sr] 30) := ⟨_, rfl⟩
  have hl := (La.refl w0).new #[.bool a.up, .slice sa sn sc, .slice sA sN sC, .int .i64 a.head.no, .int .i64 a.head.area, .int .i64 a.head.en, .slice sp sq sr] 30
  rw [← hw] at hl
  have HL := (show Hid (La w0 [(w0.heap.size, #[.bool a.up, .slice sa sn sc, .slice sA sN sC, .int .i64 a.head.no, .int .i64 a.head.area, .int .i64 a.head.en, .slice sp sq sr], 30)] [] [] [] w) from hl)
  have CZ := (show Hid _ from szArchive_any (HD.out.below hl.hl.1) h1 h2 h3 1048576 (by decide) (by decide))
  clear hl h1 h2 h3 h hwf hs
  go_enter Tryz.func3, Tryz.ntmps3
  go_wp2_with fail
  go_at_call 7
  rw [← hw]
  refine Calls.mono CZ.out ?_
  rintro e w1 ⟨r, rfl, hr, b1⟩
  clear CZ hw
  rcases hr with hr | ⟨hr0, hf⟩
  · go_wp2
    go_ret
    exact ⟨rfl, (HL.out.below b1).hl.1⟩
  · have HF := (show Hid (ArFit a) from hf)
    clear hf
    have CTA := (show Hid (∀ L R Y S W, La w0 L R Y S W → Calls Tryz.prog 9 #[.agg #[.bool a.up, .slice sa sn sc, .slice sA sN sC, .int .i64 a.head.no, .int .i64 a.head.area, .int .i64 a.head.en, .slice sp sq sr]] W fun e W' => ∃ ta tn tc tA tN tC tp tq tr, e = .returned (.agg #[.bool a.up, .slice ta tn tc, .slice tA tN tC, .int .i64 a.head.no, .int .i64 a.head.area, .int .i64 a.head.en, .slice tp tq tr]) ∧ La w0 L R Y S W' ∧ OwnAy w0.heap.size W' (.agg #[.bool a.up, .slice ta tn tc, .slice tA tN tC, .int .i64 a.head.no, .int .i64 a.head.area, .int .i64 a.head.en, .slice tp tq tr]) a ∧ Below W.heap.size W W') from fun L R Y S W l => (l.toA HD.out HF.out).mono (by
      rintro e W' ⟨_, _, _, _, _, _, _, _, _, rfl, l', o, k⟩
      exact ⟨_, _, _, _, _, _, _, _, _, rfl, l', o.base l.hl.1.size, k⟩))
    obtain ⟨q, hq⟩ : ∃ q, q = archB a := ⟨_, rfl⟩
    have CS := (show Hid (∀ L R Y S W v, La w0 L R Y S W → ArAt W v a → Calls Tryz.prog 8 #[v] W fun e W' => e = .returned (.bool q) ∧ La w0 L R Y S W' ∧ Below W.heap.size W W') from fun L R Y S W v l h => (sarOk_any h HF.out).mono (by
      rintro e W' ⟨rfl, k⟩
      exact ⟨by rw [hq], l.below k, k⟩))
    have CI := (show Hid (∀ L R Y S W v, La w0 L R Y S W → ArAt W v a → Calls Tryz.prog 10 #[v] W fun e W' => e = .returned (.bool q) ∧ La w0 L R Y S W' ∧ Below W.heap.size W W') from fun L R Y S W v l h => (iarOk_any h HF.out (HT.out.below l.hl.1)).mono (by
      rintro e W' ⟨rfl, k⟩
      exact ⟨by rw [hq], l.below k, k⟩))
    have hqq : (q != q) = false := by cases q <;> rfl
    clear hq
    have S_w1 := (show Hid (La w0 [(w0.heap.size, #[.bool a.up, .slice sa sn sc, .slice sA sN sC, .int .i64 a.head.no, .int .i64 a.head.area, .int .i64 a.head.en, .slice sp sq sr], 30)] [] [] [] w1) from HL.out.below b1)
    have Z0 := (show Hid (w0.heap.size ≤ w1.heap.size) from S_w1.out.hl.1.size)
    clear HL b1
    obtain ⟨c0_0, c0_1, c0_2, c0_3, c0_4, c0_5, c0_6, _⟩ := rk_seven (S_w1.out.hl.2 _ (List.mem_cons_self ..))
    go_wp2_with fail
    go_at_call 9
    refine (S_w1.out.toA HD.out HF.out).mono ?_
    rintro e w2 ⟨fa, fn, fc, fA, fN, fC, fp, fq, fr, rfl, lw2, ow2, bw2⟩
    have Z1 := (show Hid (w1.heap.size ≤ w2.heap.size) from bw2.size)
    have S_w2 := (show Hid (La w0 [(w0.heap.size, #[.bool a.up, .slice sa sn sc, .slice sA sN sC, .int .i64 a.head.no, .int .i64 a.head.area, .int .i64 a.head.en, .slice sp sq sr], 30)] [(w1.heap.size, w2.heap.size, .agg #[.bool a.up, .slice fa fn fc, .slice fA fN fC, .int .i64 a.head.no, .int .i64 a.head.area, .int .i64 a.head.en, .slice fp fq fr], a)] [] [] w2) from lw2.add ow2)
    clear S_w1 bw2
    clear c0_0 c0_1 c0_2 c0_3 c0_4 c0_5 c0_6
    clear lw2 ow2
    obtain ⟨c0_0, c0_1, c0_2, c0_3, c0_4, c0_5, c0_6, _⟩ := rk_seven (S_w2.out.hl.2 _ (List.mem_cons_self ..))
    go_wp2_with fail
    go_at_call 8
    refine (CS.out _ _ _ _ _ _ S_w2.out (S_w2.out.rows _ (List.mem_cons_self ..)).1.at).mono ?_
    rintro e w3 ⟨rfl, lw3, bw3⟩
    have Z2 := (show Hid (w2.heap.size ≤ w3.heap.size) from bw3.size)
    have S_w3 := (show Hid (La w0 [(w0.heap.size, #[.bool a.up, .slice sa sn sc, .slice sA sN sC, .int .i64 a.head.no, .int .i64 a.head.area, .int .i64 a.head.en, .slice sp sq sr], 30)] [(w1.heap.size, w2.heap.size, .agg #[.bool a.up, .slice fa fn fc, .slice fA fN fC, .int .i64 a.head.no, .int .i64 a.head.area, .int .i64 a.head.en, .slice fp fq fr], a)] [] [] w3) from lw3)
    clear S_w2 bw3
    clear c0_0 c0_1 c0_2 c0_3 c0_4 c0_5 c0_6
    clear lw3
    obtain ⟨c0_0, c0_1, c0_2, c0_3, c0_4, c0_5, c0_6, _⟩ := rk_seven (S_w3.out.hl.2 _ (List.mem_cons_self ..))
    go_wp2_with fail
    go_at_call 9
    refine (S_w3.out.toA HD.out HF.out).mono ?_
    rintro e w4 ⟨xa, xn, xc, xA, xN, xC, xp, xq, xr, rfl, lw4, ow4, bw4⟩
    have Z3 := (show Hid (w3.heap.size ≤ w4.heap.size) from bw4.size)
    have S_w4 := (show Hid (La w0 [(w0.heap.size, #[.bool a.up, .slice sa sn sc, .slice sA sN sC, .int .i64 a.head.no, .int .i64 a.head.area, .int .i64 a.head.en, .slice sp sq sr], 30)] [(w3.heap.size, w4.heap.size, .agg #[.bool a.up, .slice xa xn xc, .slice xA xN xC, .int .i64 a.head.no, .int .i64 a.head.area, .int .i64 a.head.en, .slice xp xq xr], a), (w1.heap.size, w2.heap.size, .agg #[.bool a.up, .slice fa fn fc, .slice fA fN fC, .int .i64 a.head.no, .int .i64 a.head.area, .int .i64 a.head.en, .slice fp fq fr], a)] [] [] w4) from lw4.add ow4)
    clear S_w3 bw4
    clear c0_0 c0_1 c0_2 c0_3 c0_4 c0_5 c0_6
    clear lw4 ow4
    obtain ⟨w4a, hw4a⟩ : ∃ x, x = w4.alloc (.cells #[.bool a.up, .slice xa xn xc, .slice xA xN xC, .int .i64 a.head.no, .int .i64 a.head.area, .int .i64 a.head.en, .slice xp xq xr] 39) := ⟨_, rfl⟩
    have Z4 := (show Hid (w4.heap.size < w4a.heap.size) from (show w4.heap.size < w4a.heap.size by rw [hw4a, World.size_alloc]; omega))
    obtain ⟨o0_0, o0_1, o0_2, o0_3, o0_4, o0_5, o0_6, _⟩ := rk_seven (S_w4.out.hl.2 _ (List.mem_cons_self ..))
    have o0_l := lt_of_block (S_w4.out.hl.2 _ (List.mem_cons_self ..))
    have S_w4a := (show Hid (La w0 [(w4.heap.size, #[.bool a.up, .slice xa xn xc, .slice xA xN xC, .int .i64 a.head.no, .int .i64 a.head.area, .int .i64 a.head.en, .slice xp xq xr], 39), (w0.heap.size, #[.bool a.up, .slice sa sn sc, .slice sA sN sC, .int .i64 a.head.no, .int .i64 a.head.area, .int .i64 a.head.en, .slice sp sq sr], 30)] [(w3.heap.size, w4.heap.size, .agg #[.bool a.up, .slice xa xn xc, .slice xA xN xC, .int .i64 a.head.no, .int .i64 a.head.area, .int .i64 a.head.en, .slice xp xq xr], a), (w1.heap.size, w2.heap.size, .agg #[.bool a.up, .slice fa fn fc, .slice fA fN fC, .int .i64 a.head.no, .int .i64 a.head.area, .int .i64 a.head.en, .slice fp fq fr], a)] [] [] w4a) from by rw [hw4a]; exact S_w4.out.new #[.bool a.up, .slice xa xn xc, .slice xA xN xC, .int .i64 a.head.no, .int .i64 a.head.area, .int .i64 a.head.en, .slice xp xq xr] 39)
    clear S_w4
    go_wp2_with fail
    go_at_call 10
    rw [← hw4a]
    clear hw4a
    refine (CI.out _ _ _ _ _ _ S_w4a.out (S_w4a.out.rows _ (List.mem_cons_self ..)).1.at).mono ?_
    rintro e w5 ⟨rfl, lw5, bw5⟩
    have Z5 := (show Hid (w4a.heap.size ≤ w5.heap.size) from bw5.size)
    have S_w5 := (show Hid (La w0 [(w4.heap.size, #[.bool a.up, .slice xa xn xc, .slice xA xN xC, .int .i64 a.head.no, .int .i64 a.head.area, .int .i64 a.head.en, .slice xp xq xr], 39), (w0.heap.size, #[.bool a.up, .slice sa sn sc, .slice sA sN sC, .int .i64 a.head.no, .int .i64 a.head.area, .int .i64 a.head.en, .slice sp sq sr], 30)] [(w3.heap.size, w4.heap.size, .agg #[.bool a.up, .slice xa xn xc, .slice xA xN xC, .int .i64 a.head.no, .int .i64 a.head.area, .int .i64 a.head.en, .slice xp xq xr], a), (w1.heap.size, w2.heap.size, .agg #[.bool a.up, .slice fa fn fc, .slice fA fN fC, .int .i64 a.head.no, .int .i64 a.head.area, .int .i64 a.head.en, .slice fp fq fr], a)] [] [] w5) from lw5)
    clear S_w4a bw5
    clear o0_0 o0_1 o0_2 o0_3 o0_4 o0_5 o0_6 o0_l
    clear lw5
    obtain ⟨c0_0, c0_1, c0_2, c0_3, c0_4, c0_5, c0_6, _⟩ := rk_seven (S_w5.out.hl.2 _ (List.mem_cons_self ..))
    obtain ⟨c1_0, c1_1, c1_2, c1_3, c1_4, c1_5, c1_6, _⟩ := rk_seven (S_w5.out.hl.2 _ (List.mem_cons_of_mem _ (List.mem_cons_self ..)))
    go_wp2_with fail
    clear c0_0 c0_1 c0_2 c0_3 c0_4 c0_5 c0_6 c1_0 c1_1 c1_2 c1_3 c1_4 c1_5 c1_6
    have KD := (show Hid (La w0 [(w4.heap.size, #[.bool a.up, .slice xa xn xc, .slice xA xN xC, .int .i64 a.head.no, .int .i64 a.head.area, .int .i64 a.head.en, .slice xp xq xr], 39), (w0.heap.size, #[.bool a.up, .slice sa sn sc, .slice sA sN sC, .int .i64 a.head.no, .int .i64 a.head.area, .int .i64 a.head.en, .slice sp sq sr], 30)] [(w3.heap.size, w4.heap.size, .agg #[.bool a.up, .slice xa xn xc, .slice xA xN xC, .int .i64 a.head.no, .int .i64 a.head.area, .int .i64 a.head.en, .slice xp xq xr], a), (w1.heap.size, w2.heap.size, .agg #[.bool a.up, .slice fa fn fc, .slice fA fN fC, .int .i64 a.head.no, .int .i64 a.head.area, .int .i64 a.head.en, .slice fp fq fr], a)] [] [] w5.drew) from S_w5.out.below (below_drewN 1))
    have HS := (show Hid (∀ W, La w0 [(w4.heap.size, #[.bool a.up, .slice xa xn xc, .slice xA xN xC, .int .i64 a.head.no, .int .i64 a.head.area, .int .i64 a.head.en, .slice xp xq xr], 39), (w0.heap.size, #[.bool a.up, .slice sa sn sc, .slice sA sN sC, .int .i64 a.head.no, .int .i64 a.head.area, .int .i64 a.head.en, .slice sp sq sr], 30)] [(w3.heap.size, w4.heap.size, .agg #[.bool a.up, .slice xa xn xc, .slice xA xN xC, .int .i64 a.head.no, .int .i64 a.head.area, .int .i64 a.head.en, .slice xp xq xr], a), (w1.heap.size, w2.heap.size, .agg #[.bool a.up, .slice fa fn fc, .slice fA fN fC, .int .i64 a.head.no, .int .i64 a.head.area, .int .i64 a.head.en, .slice fp fq fr], a)] [] [] W → W.cell? ⟨w4.heap.size, 0, none⟩ = some (.bool a.up) ∧ W.cell? ⟨w4.heap.size, 1, none⟩ = some (.slice xa xn xc) ∧ W.cell? ⟨w4.heap.size, 2, none⟩ = some (.slice xA xN xC) ∧ W.cell? ⟨w4.heap.size, 3, none⟩ = some (.int .i64 a.head.no) ∧ W.cell? ⟨w4.heap.size, 4, none⟩ = some (.int .i64 a.head.area) ∧ W.cell? ⟨w4.heap.size, 5, none⟩ = some (.int .i64 a.head.en) ∧ W.cell? ⟨w4.heap.size, 6, none⟩ = some (.slice xp xq xr) ∧ W.cell? ⟨w0.heap.size, 0, none⟩ = some (.bool a.up) ∧ W.cell? ⟨w0.heap.size, 1, none⟩ = some (.slice sa sn sc) ∧ W.cell? ⟨w0.heap.size, 2, none⟩ = some (.slice sA sN sC) ∧ W.cell? ⟨w0.heap.size, 3, none⟩ = some (.int .i64 a.head.no) ∧ W.cell? ⟨w0.heap.size, 4, none⟩ = some (.int .i64 a.head.area) ∧ W.cell? ⟨w0.heap.size, 5, none⟩ = some (.int .i64 a.head.en) ∧ W.cell? ⟨w0.heap.size, 6, none⟩ = some (.slice sp sq sr) ∧ La w0 [(w4.heap.size, #[.bool a.up, .slice xa xn xc, .slice xA xN xC, .int .i64 a.head.no, .int .i64 a.head.area, .int .i64 a.head.en, .slice xp xq xr], 39), (w0.heap.size, #[.bool a.up, .slice sa sn sc, .slice sA sN sC, .int .i64 a.head.no, .int .i64 a.head.area, .int .i64 a.head.en, .slice sp sq sr], 30)] [(w3.heap.size, w4.heap.size, .agg #[.bool a.up, .slice xa xn xc, .slice xA xN xC, .int .i64 a.head.no, .int .i64 a.head.area, .int .i64 a.head.en, .slice xp xq xr], a), (w1.heap.size, w2.heap.size, .agg #[.bool a.up, .slice fa fn fc, .slice fA fN fC, .int .i64 a.head.no, .int .i64 a.head.area, .int .i64 a.head.en, .slice fp fq fr], a)] [] [] W) from fun W h => ⟨(rk_seven (h.hl.2 _ (List.mem_cons_self ..))).1, (rk_seven (h.hl.2 _ (List.mem_cons_self ..))).2.1, (rk_seven (h.hl.2 _ (List.mem_cons_self ..))).2.2.1, (rk_seven (h.hl.2 _ (List.mem_cons_self ..))).2.2.2.1, (rk_seven (h.hl.2 _ (List.mem_cons_self ..))).2.2.2.2.1, (rk_seven (h.hl.2 _ (List.mem_cons_self ..))).2.2.2.2.2.1, (rk_seven (h.hl.2 _ (List.mem_cons_self ..))).2.2.2.2.2.2.1, (rk_seven (h.hl.2 _ (List.mem_cons_of_mem _ (List.mem_cons_self ..)))).1, (rk_seven (h.hl.2 _ (List.mem_cons_of_mem _ (List.mem_cons_self ..)))).2.1, (rk_seven (h.hl.2 _ (List.mem_cons_of_mem _ (List.mem_cons_self ..)))).2.2.1, (rk_seven (h.hl.2 _ (List.mem_cons_of_mem _ (List.mem_cons_self ..)))).2.2.2.1, (rk_seven (h.hl.2 _ (List.mem_cons_of_mem _ (List.mem_cons_self ..)))).2.2.2.2.1, (rk_seven (h.hl.2 _ (List.mem_cons_of_mem _ (List.mem_cons_self ..)))).2.2.2.2.2.1, (rk_seven (h.hl.2 _ (List.mem_cons_of_mem _ (List.mem_cons_self ..)))).2.2.2.2.2.2.1, h⟩)
    have hw0 : w0.heap.size ≤ w5.heap.size := S_w5.out.hl.1.size
    go_region_held3 (fun w' => w'.cell? ⟨w4.heap.size, 0, none⟩ = some (.bool a.up) ∧ w'.cell? ⟨w4.heap.size, 1, none⟩ = some (.slice xa xn xc) ∧ w'.cell? ⟨w4.heap.size, 2, none⟩ = some (.slice xA xN xC) ∧ w'.cell? ⟨w4.heap.size, 3, none⟩ = some (.int .i64 a.head.no) ∧ w'.cell? ⟨w4.heap.size, 4, none⟩ = some (.int .i64 a.head.area) ∧ w'.cell? ⟨w4.heap.size, 5, none⟩ = some (.int .i64 a.head.en) ∧ w'.cell? ⟨w4.heap.size, 6, none⟩ = some (.slice xp xq xr) ∧ w'.cell? ⟨w0.heap.size, 0, none⟩ = some (.bool a.up) ∧ w'.cell? ⟨w0.heap.size, 1, none⟩ = some (.slice sa sn sc) ∧ w'.cell? ⟨w0.heap.size, 2, none⟩ = some (.slice sA sN sC) ∧ w'.cell? ⟨w0.heap.size, 3, none⟩ = some (.int .i64 a.head.no) ∧ w'.cell? ⟨w0.heap.size, 4, none⟩ = some (.int .i64 a.head.area) ∧ w'.cell? ⟨w0.heap.size, 5, none⟩ = some (.int .i64 a.head.en) ∧ w'.cell? ⟨w0.heap.size, 6, none⟩ = some (.slice sp sq sr) ∧ La w0 [(w4.heap.size, #[.bool a.up, .slice xa xn xc, .slice xA xN xC, .int .i64 a.head.no, .int .i64 a.head.area, .int .i64 a.head.en, .slice xp xq xr], 39), (w0.heap.size, #[.bool a.up, .slice sa sn sc, .slice sA sN sC, .int .i64 a.head.no, .int .i64 a.head.area, .int .i64 a.head.en, .slice sp sq sr], 30)] [(w3.heap.size, w4.heap.size, .agg #[.bool a.up, .slice xa xn xc, .slice xA xN xC, .int .i64 a.head.no, .int .i64 a.head.area, .int .i64 a.head.en, .slice xp xq xr], a), (w1.heap.size, w2.heap.size, .agg #[.bool a.up, .slice fa fn fc, .slice fA fN fC, .int .i64 a.head.no, .int .i64 a.head.area, .int .i64 a.head.en, .slice fp fq fr], a)] [] [] w')
      (first | exact HS.out _ KD.out | exact HS.out _ Q0.out | exact HS.out _ Q1.out)
      (first
        | (go_at_call 9
           refine Calls.mono (CTA.out _ _ _ _ _ (‹_ ∧ _ ∧ _ ∧ _ ∧ _ ∧ _ ∧ _ ∧ _ ∧ _ ∧ _ ∧ _ ∧ _ ∧ _ ∧ _ ∧ La _ _ _ _ _ _›).2.2.2.2.2.2.2.2.2.2.2.2.2.2) ?_
           rintro e y0 ⟨ta, tn, tc, tA, tN, tC, tp, tq, tr, rfl, l0, o0, b0⟩
           have O0 := (show Hid (OwnAy w0.heap.size y0 (.agg #[.bool a.up, .slice ta tn tc, .slice tA tN tC, .int .i64 a.head.no, .int .i64 a.head.area, .int .i64 a.head.en, .slice tp tq tr]) a) from o0)
           clear o0
           have Q0 := (show Hid (La w0 [(w4.heap.size, #[.bool a.up, .slice xa xn xc, .slice xA xN xC, .int .i64 a.head.no, .int .i64 a.head.area, .int .i64 a.head.en, .slice xp xq xr], 39), (w0.heap.size, #[.bool a.up, .slice sa sn sc, .slice sA sN sC, .int .i64 a.head.no, .int .i64 a.head.area, .int .i64 a.head.en, .slice sp sq sr], 30)] [(w3.heap.size, w4.heap.size, .agg #[.bool a.up, .slice xa xn xc, .slice xA xN xC, .int .i64 a.head.no, .int .i64 a.head.area, .int .i64 a.head.en, .slice xp xq xr], a), (w1.heap.size, w2.heap.size, .agg #[.bool a.up, .slice fa fn fc, .slice fA fN fC, .int .i64 a.head.no, .int .i64 a.head.area, .int .i64 a.head.en, .slice fp fq fr], a)] [] [] y0) from l0)
           have z0 : w5.heap.size ≤ y0.heap.size := b0.size
           clear l0 b0)
        | (go_at_call 11
           refine Calls.mono (Q0.out.eqA (Q0.out.rows _ (List.mem_cons_self ..)).1.at O0.out.at HF.out) ?_
           rintro e w6 ⟨rfl, l1, b1⟩
           have Q1 := (show Hid (La w0 [(w4.heap.size, #[.bool a.up, .slice xa xn xc, .slice xA xN xC, .int .i64 a.head.no, .int .i64 a.head.area, .int .i64 a.head.en, .slice xp xq xr], 39), (w0.heap.size, #[.bool a.up, .slice sa sn sc, .slice sA sN sC, .int .i64 a.head.no, .int .i64 a.head.area, .int .i64 a.head.en, .slice sp sq sr], 30)] [(w3.heap.size, w4.heap.size, .agg #[.bool a.up, .slice xa xn xc, .slice xA xN xC, .int .i64 a.head.no, .int .i64 a.head.area, .int .i64 a.head.en, .slice xp xq xr], a), (w1.heap.size, w2.heap.size, .agg #[.bool a.up, .slice fa fn fc, .slice fA fN fC, .int .i64 a.head.no, .int .i64 a.head.area, .int .i64 a.head.en, .slice fp fq fr], a)] [] [] w6) from l1)
           have z1 : w5.heap.size ≤ w6.heap.size := Nat.le_trans z0 b1.size
           clear l1 b1))
    have S_w6 := (show Hid (La w0 [(w4.heap.size, #[.bool a.up, .slice xa xn xc, .slice xA xN xC, .int .i64 a.head.no, .int .i64 a.head.area, .int .i64 a.head.en, .slice xp xq xr], 39), (w0.heap.size, #[.bool a.up, .slice sa sn sc, .slice sA sN sC, .int .i64 a.head.no, .int .i64 a.head.area, .int .i64 a.head.en, .slice sp sq sr], 30)] [(w3.heap.size, w4.heap.size, .agg #[.bool a.up, .slice xa xn xc, .slice xA xN xC, .int .i64 a.head.no, .int .i64 a.head.area, .int .i64 a.head.en, .slice xp xq xr], a), (w1.heap.size, w2.heap.size, .agg #[.bool a.up, .slice fa fn fc, .slice fA fN fC, .int .i64 a.head.no, .int .i64 a.head.area, .int .i64 a.head.en, .slice fp fq fr], a)] [] [] w6) from Q1.out)
    have Z6 := (show Hid (w5.heap.size ≤ w6.heap.size) from z1)
    clear Q1 Q0 O0 KD HS hw0 S_w5 z0 z1
    go_wp2
    go_ret
    exact ⟨rfl, S_w6.out.hl.1⟩
end Go.Proofs.YtokkigfjabbdaaaGreatDoor

/- The shelf's archive, crash, open (written by mk/iar6.py). No condition. -/
namespace Go.Proofs.YtokkigfjabbdaaaGreatDoor
open Go.RowKit
set_option maxRecDepth 100000
set_option linter.unusedVariables false

theorem Shelf.below {B : Nat} {W W' : World} {N : Nat} {a : PArch} {m : Int} (h : Shelf B W N a m) (b : Below W.heap.size W W') : Shelf B W' N a m := by
  obtain ⟨sa, sn, sc, la, ln, lc, q, r, ea, en', ec, st, hB, hN, hd, he⟩ := h
  exact ⟨sa, sn, sc, la, ln, lc, q, r, ea, en', ec, st, hB, (b.block _ (lt_of_block hN)).trans hN, hd.below b, he.below b⟩
theorem Shelf.ge {B : Nat} {W : World} {N : Nat} {a : PArch} {m : Int} (h : Shelf B W N a m) : B ≤ N := by
  obtain ⟨sa, sn, sc, la, ln, lc, q, r, ea, en', ec, st, hB, hN, hd, he⟩ := h
  exact hB
theorem Shelf.lt {B : Nat} {W : World} {N : Nat} {a : PArch} {m : Int} (h : Shelf B W N a m) : N < W.heap.size := by
  obtain ⟨sa, sn, sc, la, ln, lc, q, r, ea, en', ec, st, hB, hN, hd, he⟩ := h
  exact lt_of_block hN

set_option maxHeartbeats 2000000 in
set_option maxRecDepth 100000 in
theorem ishArchive_any {B : Nat} {w : World} {N : Nat} {a : PArch} {m : Int} (h : Shelf B w N a m) (hw : B ≤ w.heap.size) :
    Calls Tryz.prog 74 #[.pointer (some ⟨N, 0, none⟩)] w fun e w' => ∃ v', e = .returned v' ∧ OwnAy B w' v' a ∧ Below w.heap.size w w' := by
  obtain ⟨sa, sn, sc, la, ln, lc, q, r, ea, en', ec, st, hB, hN, hd, he⟩ := h
  have HN := (show Hid (w.heap[N]? = some (.cells #[.slice sa sn sc, .slice la ln lc, .int .i32 m, .int .u32 q, .int .i64 r, .bool a.up, .int .i64 a.head.no, .int .i64 a.head.area, .int .i64 a.head.en, .slice ea en' ec, st] 114 (0, 0))) from hN)
  have HD := (show Hid (OwnDy B w (.agg #[.slice sa sn sc, .slice la ln lc]) a.disk) from hd)
  have HE := (show Hid (OwnEy B w (.slice ea en' ec) a.list) from he)
  have hNl := lt_of_block hN
  have hne : N ≠ w.heap.size := by omega
  clear hN hd he hB
  have hl := (Hl.refl w).new #[.bool false, .slice none 0 0, .slice none 0 0, .int .i64 0, .int .i64 0, .int .i64 0, .slice none 0 0] 39
  have n1 := (((Below.refl w.heap.size w).alloc (Nat.le_refl _) (.cells #[.bool false, .slice none 0 0, .slice none 0 0, .int .i64 0, .int .i64 0, .int .i64 0, .slice none 0 0] 39)).block _ hNl).trans HN.out
  obtain ⟨w1, hw1⟩ : ∃ x, x = w.alloc (.cells #[.bool false, .slice none 0 0, .slice none 0 0, .int .i64 0, .int .i64 0, .int .i64 0, .slice none 0 0] 39) := ⟨_, rfl⟩
  rw [← hw1] at hl n1
  have HL := (show Hid (Hl w [(w.heap.size, #[.bool false, .slice none 0 0, .slice none 0 0, .int .i64 0, .int .i64 0, .int .i64 0, .slice none 0 0], 39)] w1.drew) from hl.below (below_drewN 1))
  have N1 := (show Hid (w1.drew.heap[N]? = some (.cells #[.slice sa sn sc, .slice la ln lc, .int .i32 m, .int .u32 q, .int .i64 r, .bool a.up, .int .i64 a.head.no, .int .i64 a.head.area, .int .i64 a.head.en, .slice ea en' ec, st] 114 (0, 0))) from n1)
  clear hl n1
  go_enter Tryz.func74, Tryz.ntmps74
  go_upto_region 1 with fail
  rw [← hw1]
  clear hw1
  refine region_tail 17 (by kernel_rfl) (by kernel_rfl) ?_
  intro w2 K2 hW2 hK2
  have ne := One.any w2
  have S2 := (show Hid (Hl w [(w.heap.size, #[.bool false, .slice none 0 0, .slice none 0 0, .int .i64 0, .int .i64 0, .int .i64 0, .slice none 0 0], 39)] w2) from by rw [hW2.out]; exact HL.out)
  have n2 : w2.heap[N]? = some (.cells #[.slice sa sn sc, .slice la ln lc, .int .i32 m, .int .u32 q, .int .i64 r, .bool a.up, .int .i64 a.head.no, .int .i64 a.head.area, .int .i64 a.head.en, .slice ea en' ec, st] 114 (0, 0)) := by rw [hW2.out]; exact N1.out
  have gg := fun n : One w2 => rk_ten (show n.w.heap[N]? = _ by rw [n.eq]; exact n2)
  have g0 := fun n : One w2 => (gg n).1
  have g1 := fun n : One w2 => (gg n).2.1
  have g5 := fun n : One w2 => (gg n).2.2.2.2.2.1
  have g6 := fun n : One w2 => (gg n).2.2.2.2.2.2.1
  have g7 := fun n : One w2 => (gg n).2.2.2.2.2.2.2.1
  have g8 := fun n : One w2 => (gg n).2.2.2.2.2.2.2.2.1
  have g9 := fun n : One w2 => (gg n).2.2.2.2.2.2.2.2.2
  clear gg n2 N1 HL
  simp only [List.take_succ_cons, List.take_zero, List.drop_succ_cons, List.drop_zero] at hK2 ⊢
  repeat (go_big_quiet_step (fail))
  refine wpQuiet_nil ?_
  refine hK2.out _ ?_
  clear hK2 g0 g1 g5 g6 g7 g8 g9
  obtain ⟨d0, d1, d2, d3, d4, d5, d6, _⟩ := rk_seven S2.out.at0
  have j0 := rk_thaw (k := 0) S2.out.at0
  have j1 := rk_thaw (k := 1) S2.out.at0
  have j2 := rk_thaw (k := 2) S2.out.at0
  have j3 := rk_thaw (k := 3) S2.out.at0
  have j4 := rk_thaw (k := 4) S2.out.at0
  have j5 := rk_thaw (k := 5) S2.out.at0
  have j6 := rk_thaw (k := 6) S2.out.at0
  have S9 := (show Hid _ from S2.out.set7 (Nat.le_refl _) (by simp) (.bool a.up) (.slice sa sn sc) (.slice la ln lc) (.int .i64 a.head.no) (.int .i64 a.head.area) (.int .i64 a.head.en) (.slice ea en' ec))
  go_wp2
  refine bodyPost_ret (results_cell_row rfl _ _ w.heap.size 39 #[.bool a.up, .slice sa sn sc, .slice la ln lc, .int .i64 a.head.no, .int .i64 a.head.area, .int .i64 a.head.en, .slice ea en' ec] (0, 0) _ rfl S9.out.at0 Tryz.underlying39 rfl rfl) rfl ?_
  exact ⟨_, rfl, ⟨_, _, _, _, _, _, _, _, _, rfl, HD.out.below S9.out.1, OwnY.below HE.out S9.out.1⟩, S9.out.1⟩

def crashS (a : PArch) : PArch × Int := if a.up = false then (a, 2) else (⟨false, a.disk, zeroH, []⟩, 0)
def openS (a : PArch) : PArch × Int := if a.up = true then (a, 7) else if wellA a.disk = false then (a, 6) else (⟨true, a.disk, nowDk a.disk, indexA a.disk (nowDk a.disk)⟩, 0)
set_option maxHeartbeats 2000000 in
set_option maxRecDepth 100000 in
theorem ishCrash_any {B : Nat} {w : World} {N : Nat} {a : PArch} {m : Int} (h : Shelf B w N a m) :
    Calls Tryz.prog 47 #[.pointer (some ⟨N, 0, none⟩)] w fun e w' => e = .returned (.int .i64 (crashS a).2) ∧ Shelf B w' N (crashS a).1 m ∧ w.grownBy w' (some N) := by
  have H := (show Hid (Shelf B w N a m) from h)
  obtain ⟨up, d, ⟨no, ar, en⟩, ls⟩ := a
  obtain ⟨sa, sn, sc, la, ln, lc, q, r, ea, en', ec, st, hB, hN, hd, he⟩ := h
  simp only at hN hd he
  have HN := (show Hid (w.heap[N]? = some (.cells #[.slice sa sn sc, .slice la ln lc, .int .i32 m, .int .u32 q, .int .i64 r, .bool up, .int .i64 no, .int .i64 ar, .int .i64 en, .slice ea en' ec, st] 114 (0, 0))) from hN)
  have HD := (show Hid (OwnDy B w (.agg #[.slice sa sn sc, .slice la ln lc]) d) from hd)
  have hHB := (show Hid (B ≤ N) from hB)
  clear hN hd he hB
  have S0 := (show Hid (Sf w N #[.slice sa sn sc, .slice la ln lc, .int .i32 m, .int .u32 q, .int .i64 r, .bool up, .int .i64 no, .int .i64 ar, .int .i64 en, .slice ea en' ec, st] [] w) from Sf.refl HN.out)
  obtain ⟨c0, c1, c2, c3, c4, c5, c6, c7, c8, c9⟩ := rk_ten S0.out.sh
  cases up
  · go_enter Tryz.func47, Tryz.ntmps47
    go_wp2
    go_ret
    exact ⟨rfl, H.out, World.grownBy.refl _ _⟩
  · have f5 := rk_thaw (k := 5) HN.out
    have f6 := rk_thaw (k := 6) HN.out
    have f7 := rk_thaw (k := 7) HN.out
    have f8 := rk_thaw (k := 8) HN.out
    have f9 := rk_thaw (k := 9) HN.out
    have S9 := (show Hid _ from shelf_set S0.out (.bool false) (.int .i64 0) (.int .i64 0) (.int .i64 0) (.slice none 0 0))
    go_enter Tryz.func47, Tryz.ntmps47
    go_wp2
    go_ret
    exact ⟨rfl, ⟨sa, sn, sc, la, ln, lc, q, r, none, 0, 0, st, hHB.out, S9.out.sh, S9.out.disk HN.out HD.out, .inl ⟨rfl, rfl, none, rfl, fun _ => trivial⟩⟩, S9.out.gr⟩
set_option maxHeartbeats 2000000 in
set_option maxRecDepth 100000 in
theorem ishOpen_any {B : Nat} {w : World} {N : Nat} {a : PArch} {m : Int} (h : Shelf B w N a m) (hr : diskB a.disk = true) (hs : Sent w) (hw : B ≤ w.heap.size) :
    Calls Tryz.prog 51 #[.pointer (some ⟨N, 0, none⟩)] w fun e w' => e = .returned (.int .i64 (openS a).2) ∧ Shelf B w' N (openS a).1 m ∧ w.grownBy w' (some N) := by
  have H := (show Hid (Shelf B w N a m) from h)
  obtain ⟨up, d, ⟨no, ar, en⟩, ls⟩ := a
  obtain ⟨sa, sn, sc, la, ln, lc, q, r, ea, en', ec, st, hB, hN, hd, he⟩ := h
  simp only at hN hd he hr
  have HN := (show Hid (w.heap[N]? = some (.cells #[.slice sa sn sc, .slice la ln lc, .int .i32 m, .int .u32 q, .int .i64 r, .bool up, .int .i64 no, .int .i64 ar, .int .i64 en, .slice ea en' ec, st] 114 (0, 0))) from hN)
  have HD := (show Hid (OwnDy B w (.agg #[.slice sa sn sc, .slice la ln lc]) d) from hd)
  have HE := (show Hid (OwnEy B w (.slice ea en' ec) ls) from he)
  have hHB := (show Hid (B ≤ N) from hB)
  have CL := ishLoad_any hN hd hr hs
  have HQ : Hid (openS ⟨up, d, ⟨no, ar, en⟩, ls⟩ = if up = true then (⟨up, d, ⟨no, ar, en⟩, ls⟩, 7) else if wellA d = false then (⟨up, d, ⟨no, ar, en⟩, ls⟩, 6) else (⟨true, d, nowDk d, indexA d (nowDk d)⟩, 0)) := (show _ = _ from rfl)
  obtain ⟨wl, hwl⟩ : ∃ b, b = wellA d := ⟨_, rfl⟩
  rw [← hwl] at CL HQ
  have CL := (show Hid _ from CL)
  obtain ⟨⟨qa, qc⟩, hq⟩ : ∃ x, x = openS ⟨up, d, ⟨no, ar, en⟩, ls⟩ := ⟨_, rfl⟩
  rw [← hq] at HQ
  rw [← hq]
  simp only
  clear hN hd he hB hr hs hwl hq
  have S0 := (show Hid (Sf w N #[.slice sa sn sc, .slice la ln lc, .int .i32 m, .int .u32 q, .int .i64 r, .bool up, .int .i64 no, .int .i64 ar, .int .i64 en, .slice ea en' ec, st] [] w) from Sf.refl HN.out)
  obtain ⟨c0, c1, c2, c3, c4, c5, c6, c7, c8, c9⟩ := rk_ten S0.out.sh
  cases up
  · go_enter Tryz.func51, Tryz.ntmps51
    go_wp2_with fail
    go_at_call 66
    refine Calls.mono CL.out ?_
    rintro e w2 ⟨rfl, hno, hyes⟩
    clear CL
    clear c0 c1 c2 c3 c4 c5 c6 c7 c8 c9
    cases wl
    · have e1 := HQ.out
      rw [if_neg (by decide), if_pos rfl] at e1
      cases e1
      obtain ⟨r2, f2⟩ := hno rfl
      have F2 := (show Hid _ from f2)
      clear hno hyes f2 HQ
      go_wp2
      go_ret
      exact ⟨rfl, ⟨sa, sn, sc, la, ln, lc, q, r2, ea, en', ec, st, hHB.out, F2.out.sh, F2.out.disk HN.out HD.out, F2.out.ents HN.out HE.out⟩, F2.out.gr⟩
    · have e1 := HQ.out
      rw [if_neg (by decide), if_neg (by decide)] at e1
      cases e1
      obtain ⟨r2, fa, fn, fc, f2, o2⟩ := hyes rfl
      have F2 := (show Hid _ from f2)
      have O2 := (show Hid (OwnEy B w2 (.slice fa fn fc) (indexA d (nowDk d))) from o2.base hw)
      clear hno hyes f2 o2 HQ
      go_wp2
      go_ret
      exact ⟨rfl, ⟨sa, sn, sc, la, ln, lc, q, r2, fa, fn, fc, st, hHB.out, F2.out.sh, F2.out.disk HN.out HD.out, O2.out⟩, F2.out.gr⟩
  · have e1 := HQ.out
    rw [if_pos rfl] at e1
    cases e1
    clear HQ
    go_enter Tryz.func51, Tryz.ntmps51
    go_wp2
    go_ret
    exact ⟨rfl, H.out, World.grownBy.refl _ _⟩
end Go.Proofs.YtokkigfjabbdaaaGreatDoor

/- The specification's l18Copy (written by mk/sar2.py). No condition. -/
namespace Go.Proofs.YtokkigfjabbdaaaGreatDoor
open Go.RowKit
set_option maxRecDepth 100000
set_option linter.unusedVariables false

theorem arPair_oneCell (ps : List (ByteArray × ByteArray)) : ∀ y ∈ pairCells ps, y.oneCell' = true := by
  intro y hy
  simp only [pairCells, List.mem_flatMap, List.mem_cons, List.not_mem_nil, or_false] at hy
  obtain ⟨s, _, rfl | rfl⟩ := hy
  · rfl
  · rfl
/-- A disk is kept while a row of entries grows. -/
theorem own_pastE {B B' : Nat} {w w' : World} {v u : Value} {d : PDisk} {n : Nat} {xs : List Value} (h : OwnDk B w v d) (g : w.grownBy w' u.ownBlock) (o : w.ownsRow B' 70 2 u n xs) : OwnDk B w' v d := by
  obtain ⟨sa, sn, sc, la, ln, lc, e, h1, h2⟩ := h
  refine ⟨sa, sn, sc, la, ln, lc, e, rk_type h1 g (fun r er => ?_), rk_type h2 g (fun r er => ?_)⟩
  · obtain ⟨c, f, k⟩ := rk_kind o er
    exact ⟨_, _, _, k, by decide⟩
  · obtain ⟨c, f, k⟩ := rk_kind o er
    exact ⟨_, _, _, k, by decide⟩

theorem grown_set7 (W : World) (N : Nat) (a0 a1 a2 a3 a4 a5 a6 : Value) : W.grownBy (((((((W.setCell ⟨N, 0, none⟩ a0).setCell ⟨N, 1, none⟩ a1).setCell ⟨N, 2, none⟩ a2).setCell ⟨N, 3, none⟩ a3).setCell ⟨N, 4, none⟩ a4).setCell ⟨N, 5, none⟩ a5).setCell ⟨N, 6, none⟩ a6) (some N) :=
  grown_trans (grown_trans (grown_trans (grown_trans (grown_trans (grown_trans (grown_setCell _ _ _ _) (grown_setCell _ _ _ _)) (grown_setCell _ _ _ _)) (grown_setCell _ _ _ _)) (grown_setCell _ _ _ _)) (grown_setCell _ _ _ _)) (grown_setCell _ _ _ _)
set_option maxHeartbeats 4000000 in
set_option maxRecDepth 100000 in
theorem sl18Copy_any {w : World} {v : Value} {a : PArch} (h : ArAt w v a) (hf : ArFit a) :
    Calls Tryz.prog 44 #[v] w fun e w' => ∃ v', e = .returned v' ∧ OwnAy w.heap.size w' v' a ∧ Below w.heap.size w w' := by
  obtain ⟨sa, sn, sc, la, ln, lc, ea, en', ec, rfl, h1, h2⟩ := h
  have H1 := (show Hid (DiskAt w (.agg #[.slice sa sn sc, .slice la ln lc]) a.disk) from h1)
  have H2 := (show Hid (Sv 2 w (.slice ea en' ec) (pairCells a.list)) from h2)
  have HF := (show Hid (DiskFit a.disk) from hf.d)
  have hn : a.list.length ≤ 1048576 := hf.el
  obtain ⟨iE, hiE, he0, he1, he2⟩ := info_parts Tryz.infoEnt
  clear h1 h2 hf
  have hl := ((Hl.refl w).new #[.bool a.up, .slice sa sn sc, .slice la ln lc, .int .i64 a.head.no, .int .i64 a.head.area, .int .i64 a.head.en, .slice ea en' ec] 39).new #[.bool false, .slice none 0 0, .slice none 0 0, .int .i64 0, .int .i64 0, .int .i64 0, .slice none 0 0] 39
  obtain ⟨wb, hw1⟩ : ∃ x, x = (w.alloc (.cells #[.bool a.up, .slice sa sn sc, .slice la ln lc, .int .i64 a.head.no, .int .i64 a.head.area, .int .i64 a.head.en, .slice ea en' ec] 39)).alloc (.cells #[.bool false, .slice none 0 0, .slice none 0 0, .int .i64 0, .int .i64 0, .int .i64 0, .slice none 0 0] 39) := ⟨_, rfl⟩
  rw [← hw1, World.size_alloc] at hl
  have hzb : w.heap.size + 1 < wb.heap.size := by rw [hw1, World.size_alloc, World.size_alloc]; omega
  have HB := (show Hid (Hl w [(w.heap.size + 1, #[.bool false, .slice none 0 0, .slice none 0 0, .int .i64 0, .int .i64 0, .int .i64 0, .slice none 0 0], 39), (w.heap.size, #[.bool a.up, .slice sa sn sc, .slice la ln lc, .int .i64 a.head.no, .int .i64 a.head.area, .int .i64 a.head.en, .slice ea en' ec], 39)] wb) from hl)
  have CC := (show Hid (∀ W, Below wb.heap.size wb W → Calls Tryz.prog 45 #[.agg #[.slice sa sn sc, .slice la ln lc]] W fun e w' => ∃ ta tn tc ma mn mc, e = .returned (.agg #[.slice ta tn tc, .slice ma mn mc]) ∧ OwnDk w.heap.size w' (.agg #[.slice ta tn tc, .slice ma mn mc]) a.disk ∧ Hl w [(w.heap.size + 1, #[.bool false, .slice none 0 0, .slice none 0 0, .int .i64 0, .int .i64 0, .int .i64 0, .slice none 0 0], 39), (w.heap.size, #[.bool a.up, .slice sa sn sc, .slice la ln lc, .int .i64 a.head.no, .int .i64 a.head.area, .int .i64 a.head.en, .slice ea en' ec], 39)] w' ∧ Below W.heap.size W w') from fun W b => (sl15Copy_any (H1.out.below (HB.out.below b).1) HF.out).mono (by
    rintro e w' ⟨v', rfl, o, k⟩
    have o' := o.based (HB.out.below b).1.size
    obtain ⟨_, _, _, _, _, _, rfl, _⟩ := o
    exact ⟨_, _, _, _, _, _, rfl, o', (HB.out.below b).below k, k⟩))
  have KD := (show Hid (Hl w [(w.heap.size, #[.bool a.up, .slice sa sn sc, .slice la ln lc, .int .i64 a.head.no, .int .i64 a.head.area, .int .i64 a.head.en, .slice ea en' ec], 39)] wb.drew) from (HB.out.tail).below (below_drewN 1))
  have KE := (show Hid (Hl w [(w.heap.size, #[.bool a.up, .slice sa sn sc, .slice la ln lc, .int .i64 a.head.no, .int .i64 a.head.area, .int .i64 a.head.en, .slice ea en' ec], 39)] (wb.alloc (Obj.cells #[] 70)).drew) from ((HB.out.tail).below ((Below.refl wb.heap.size wb).alloc (Nat.le_refl _) (Obj.cells #[] 70))).below (below_drewN 1))
  have HS := (show Hid (∀ W, Hl w [(w.heap.size, #[.bool a.up, .slice sa sn sc, .slice la ln lc, .int .i64 a.head.no, .int .i64 a.head.area, .int .i64 a.head.en, .slice ea en' ec], 39)] W → W.cell? ⟨w.heap.size, 0, none⟩ = some (.bool a.up) ∧ W.cell? ⟨w.heap.size, 1, none⟩ = some (.slice sa sn sc) ∧ W.cell? ⟨w.heap.size, 2, none⟩ = some (.slice la ln lc) ∧ W.cell? ⟨w.heap.size, 3, none⟩ = some (.int .i64 a.head.no) ∧ W.cell? ⟨w.heap.size, 4, none⟩ = some (.int .i64 a.head.area) ∧ W.cell? ⟨w.heap.size, 5, none⟩ = some (.int .i64 a.head.en) ∧ W.cell? ⟨w.heap.size, 6, none⟩ = some (.slice ea en' ec) ∧ Hl w [(w.heap.size, #[.bool a.up, .slice sa sn sc, .slice la ln lc, .int .i64 a.head.no, .int .i64 a.head.area, .int .i64 a.head.en, .slice ea en' ec], 39)] W) from fun W h => ⟨(rk_seven h.at0).1, (rk_seven h.at0).2.1, (rk_seven h.at0).2.2.1, (rk_seven h.at0).2.2.2.1, (rk_seven h.at0).2.2.2.2.1, (rk_seven h.at0).2.2.2.2.2.1, (rk_seven h.at0).2.2.2.2.2.2.1, h⟩)
  clear hl
  go_enter Tryz.func44, Tryz.ntmps44
  go_upto_region 1 with fail
  rw [← hw1]
  clear hw1
  go_region_held3 (fun w' => w'.cell? ⟨w.heap.size, 0, none⟩ = some (.bool a.up) ∧ w'.cell? ⟨w.heap.size, 1, none⟩ = some (.slice sa sn sc) ∧ w'.cell? ⟨w.heap.size, 2, none⟩ = some (.slice la ln lc) ∧ w'.cell? ⟨w.heap.size, 3, none⟩ = some (.int .i64 a.head.no) ∧ w'.cell? ⟨w.heap.size, 4, none⟩ = some (.int .i64 a.head.area) ∧ w'.cell? ⟨w.heap.size, 5, none⟩ = some (.int .i64 a.head.en) ∧ w'.cell? ⟨w.heap.size, 6, none⟩ = some (.slice ea en' ec) ∧ Hl w [(w.heap.size, #[.bool a.up, .slice sa sn sc, .slice la ln lc, .int .i64 a.head.no, .int .i64 a.head.area, .int .i64 a.head.en, .slice ea en' ec], 39)] w')
    (with_reducible first | exact HS.out _ KD.out | exact HS.out _ KE.out | exact HS.out _ Q0.out.tail | exact HS.out _ Q0a.out.tail | exact HS.out _ T6.out.tail | exact HS.out _ PS.out.tail)
    (first
    | (go_at_call 45
       refine Calls.mono (CC.out _ ?_) ?_
       · first | exact below_drewN 1 | exact ((Below.refl _ _).alloc (Nat.le_refl _) _).trans (below_drewN 1)
       rintro e y0 ⟨ta, tn, tc, ma, mn, mc, rfl, o0, q0, b0⟩
       have Q0 := (show Hid (Hl w [(w.heap.size + 1, #[.bool false, .slice none 0 0, .slice none 0 0, .int .i64 0, .int .i64 0, .int .i64 0, .slice none 0 0], 39), (w.heap.size, #[.bool a.up, .slice sa sn sc, .slice la ln lc, .int .i64 a.head.no, .int .i64 a.head.area, .int .i64 a.head.en, .slice ea en' ec], 39)] y0) from q0)
       have O0 := (show Hid (OwnDk w.heap.size y0 (.agg #[.slice ta tn tc, .slice ma mn mc]) a.disk) from o0)
       have Q0a := (show Hid (Hl w [(w.heap.size + 1, #[.bool false, .slice none 0 0, .slice none 0 0, .int .i64 0, .int .i64 0, .int .i64 0, .slice none 0 0], 39), (w.heap.size, #[.bool a.up, .slice sa sn sc, .slice la ln lc, .int .i64 a.head.no, .int .i64 a.head.area, .int .i64 a.head.en, .slice ea en' ec], 39)] (y0.alloc (Obj.cells #[] 70))) from Q0.out.below ((Below.refl y0.heap.size y0).alloc (Nat.le_refl _) (Obj.cells #[] 70)))
       have O0a := (show Hid (OwnDk w.heap.size (y0.alloc (Obj.cells #[] 70)) (.agg #[.slice ta tn tc, .slice ma mn mc]) a.disk) from O0.out.below ((Below.refl y0.heap.size y0).alloc (Nat.le_refl _) (Obj.cells #[] 70)))
       have EA := (show Hid ((y0.alloc (Obj.cells #[] 70)).ownsRow w.heap.size 70 2 (.slice (some ⟨y0.heap.size, 0, none⟩) 0 0) 0 []) from empty_row y0 w.heap.size 70 2 Q0.out.1.size)
       have V0a := (show Hid (Sv 2 (y0.alloc (Obj.cells #[] 70)) (.slice ea en' ec) (pairCells a.list)) from H2.out.below Q0a.out.1)
       have V0 := (show Hid (Sv 2 y0 (.slice ea en' ec) (pairCells a.list)) from H2.out.below Q0.out.1)
       have Z0a := (show Hid (w.heap.size ≤ (y0.alloc (Obj.cells #[] 70)).heap.size) from Q0a.out.1.size)
       have Z0 := (show Hid (w.heap.size ≤ y0.heap.size) from Q0.out.1.size)
       have hy0 : w.heap.size ≤ y0.heap.size := Z0.out
       (first
         | (have EB := (show Hid (y0.ownsRow w.heap.size 70 2 (.slice (some ⟨wb.heap.size, 0, none⟩) 0 0) 0 []) from ownsRow_below (ownsRow_below (empty_row wb w.heap.size 70 2 (by omega)) (below_drewN 1)) b0))
         | skip)
       clear o0 q0 b0)
    | (with_reducible refine step_appS (w := y0.alloc (Obj.cells #[] 70)) ?_ (.tmp 10) (.tmp 12) 37 ?_ w.heap.size 70 iE _ 2 32 ?_ hiE he0 he1 he2 ?_ ?_ (.slice (some ⟨y0.heap.size, 0, none⟩) 0 0) 0 [] ?_ ?_ (.slice ea en' ec) a.list.length (pairCells a.list) ?_ ?_ ?_ ?_ ?_ ?_ ?_ ?_
       · rfl
       · rfl
       · exact Tryz.underlying37
       · rfl
       · decide
       · simp [Act.eval]
       · exact EA.out
       · simp [Act.eval]
       · exact V0a.out
       · exact pairCells_len _
       · exact arPair_oneCell _
       · (unfold maxLen; omega)
       · omega
       · exact Z0a.out
       intro v6 y6 o6 g6
       rw [List.nil_append, Nat.zero_add] at o6
       obtain ⟨fa, fn, fc, rfl⟩ := rk_slice o6
       have T6 := (show Hid (Hl w [(w.heap.size + 1, #[.bool false, .slice none 0 0, .slice none 0 0, .int .i64 0, .int .i64 0, .int .i64 0, .slice none 0 0], 39), (w.heap.size, #[.bool a.up, .slice sa sn sc, .slice la ln lc, .int .i64 a.head.no, .int .i64 a.head.area, .int .i64 a.head.en, .slice ea en' ec], 39)] y6) from Q0a.out.past g6 (fun r e => by
         have e' : r = y0.heap.size := (Option.some.inj e).symm
         subst e'
         exact ⟨by omega, fun p hp => Nat.ne_of_lt (Q0.out.lt hp)⟩))
       have D6 := (show Hid (OwnDk w.heap.size y6 (.agg #[.slice ta tn tc, .slice ma mn mc]) a.disk) from own_pastE O0a.out g6 EA.out)
       have E6 := (show Hid (y6.ownsRow w.heap.size 70 2 (.slice fa fn fc) a.list.length (pairCells a.list)) from o6)
       obtain ⟨m0, m1, m2, m3, m4, m5, m6, _⟩ := rk_seven T6.out.at0
       have j0 := rk_thaw (k := 0) T6.out.at0
       have j1 := rk_thaw (k := 1) T6.out.at0
       have j2 := rk_thaw (k := 2) T6.out.at0
       have j3 := rk_thaw (k := 3) T6.out.at0
       have j4 := rk_thaw (k := 4) T6.out.at0
       have j5 := rk_thaw (k := 5) T6.out.at0
       have j6 := rk_thaw (k := 6) T6.out.at0
       have PS := (show Hid _ from T6.out.set7 (Nat.le_succ _) (by simp) (.bool a.up) (.slice ta tn tc) (.slice ma mn mc) (.int .i64 a.head.no) (.int .i64 a.head.area) (.int .i64 a.head.en) (.slice fa fn fc))
       clear o6 g6)
    | (with_reducible refine step_appS (w := y0) ?_ (.tmp 10) (.tmp 12) 37 ?_ w.heap.size 70 iE _ 2 32 ?_ hiE he0 he1 he2 ?_ ?_ (.slice (some ⟨wb.heap.size, 0, none⟩) 0 0) 0 [] ?_ ?_ (.slice ea en' ec) a.list.length (pairCells a.list) ?_ ?_ ?_ ?_ ?_ ?_ ?_ ?_
       · rfl
       · rfl
       · exact Tryz.underlying37
       · rfl
       · decide
       · simp [Act.eval]
       · exact EB.out
       · simp [Act.eval]
       · exact V0.out
       · exact pairCells_len _
       · exact arPair_oneCell _
       · (unfold maxLen; omega)
       · omega
       · exact Z0.out
       intro v6 y6 o6 g6
       rw [List.nil_append, Nat.zero_add] at o6
       obtain ⟨fa, fn, fc, rfl⟩ := rk_slice o6
       have T6 := (show Hid (Hl w [(w.heap.size + 1, #[.bool false, .slice none 0 0, .slice none 0 0, .int .i64 0, .int .i64 0, .int .i64 0, .slice none 0 0], 39), (w.heap.size, #[.bool a.up, .slice sa sn sc, .slice la ln lc, .int .i64 a.head.no, .int .i64 a.head.area, .int .i64 a.head.en, .slice ea en' ec], 39)] y6) from Q0.out.past g6 (fun r e => by
         have e' : r = wb.heap.size := (Option.some.inj e).symm
         subst e'
         exact ⟨by omega, fun p hp => Nat.ne_of_lt (HB.out.lt hp)⟩))
       have D6 := (show Hid (OwnDk w.heap.size y6 (.agg #[.slice ta tn tc, .slice ma mn mc]) a.disk) from own_pastE O0.out g6 EB.out)
       have E6 := (show Hid (y6.ownsRow w.heap.size 70 2 (.slice fa fn fc) a.list.length (pairCells a.list)) from o6)
       obtain ⟨m0, m1, m2, m3, m4, m5, m6, _⟩ := rk_seven T6.out.at0
       have j0 := rk_thaw (k := 0) T6.out.at0
       have j1 := rk_thaw (k := 1) T6.out.at0
       have j2 := rk_thaw (k := 2) T6.out.at0
       have j3 := rk_thaw (k := 3) T6.out.at0
       have j4 := rk_thaw (k := 4) T6.out.at0
       have j5 := rk_thaw (k := 5) T6.out.at0
       have j6 := rk_thaw (k := 6) T6.out.at0
       have PS := (show Hid _ from T6.out.set7 (Nat.le_succ _) (by simp) (.bool a.up) (.slice ta tn tc) (.slice ma mn mc) (.int .i64 a.head.no) (.int .i64 a.head.area) (.int .i64 a.head.en) (.slice fa fn fc))
       clear o6 g6))
  all_goals go_wp2
  all_goals refine bodyPost_ret (results_cell_row rfl _ _ (w.heap.size + 1) 39 #[.bool a.up, .slice ta tn tc, .slice ma mn mc, .int .i64 a.head.no, .int .i64 a.head.area, .int .i64 a.head.en, .slice fa fn fc] (0, 0) _ rfl PS.out.at0 Tryz.underlying39 rfl rfl) rfl ?_
  all_goals
    have g9 := grown_set7 y6 (w.heap.size + 1) (.bool a.up) (.slice ta tn tc) (.slice ma mn mc) (.int .i64 a.head.no) (.int .i64 a.head.area) (.int .i64 a.head.en) (.slice fa fn fc)
    have o9 : OwnAy w.heap.size y6 (.agg #[.bool a.up, .slice ta tn tc, .slice ma mn mc, .int .i64 a.head.no, .int .i64 a.head.area, .int .i64 a.head.en, .slice fa fn fc]) a := ⟨_, _, _, _, _, _, _, _, _, rfl, OwnDy.of (OwnDz.of D6.out), OwnY.of (.inl E6.out)⟩
    exact ⟨_, rfl, OwnAy.turned o9 g9 (fun j e => by cases e; exact ⟨_, _, _, T6.out.at0, by decide, by decide, by decide⟩), PS.out.1⟩
end Go.Proofs.YtokkigfjabbdaaaGreatDoor

/- The specification's ArchiveCrash, l18Up, ArchiveOpen (written by mk/sar3.py). No condition. -/
namespace Go.Proofs.YtokkigfjabbdaaaGreatDoor
open Go.RowKit
set_option maxRecDepth 100000
set_option linter.unusedVariables false

theorem arch_res {fn : Func} {p u : Tmp} (hr : fn.results = #[.cell p 39, .tmp u]) {tmps : Array Value} {w : World} {g : Nat} {x0 x1 x2 x3 x4 x5 x6 r : Value} (h4 : tmps.getD p undef = .pointer (some ⟨g, 0, none⟩)) (h5 : tmps.getD u undef = r) (hb : w.heap[g]? = some (.cells #[x0, x1, x2, x3, x4, x5, x6] 39 (0, 0))) :
    (results fn tmps).run Tryz.prog w = .ok (.tuple #[.agg #[x0, x1, x2, x3, x4, x5, x6], r]) w := by
  rw [results_cell_tmp (p := p) (u := u) (ty := 39) hr, h4, h5]
  simp [asAddr, run_loadVar_row w g 39 39 #[x0, x1, x2, x3, x4, x5, x6] (0, 0) _ hb Tryz.underlying39 rfl rfl, Result.andThen]

set_option maxHeartbeats 4000000 in
set_option maxRecDepth 100000 in
theorem sarCrash_any {w : World} {v : Value} {a : PArch} (h : ArAt w v a) (hf : ArFit a) :
    Calls Tryz.prog 18 #[v] w fun e w' => ∃ v', e = .returned (.tuple #[v', .int .i64 (crashA a).2]) ∧ OwnAy w.heap.size w' v' (crashA a).1 ∧ Below w.heap.size w w' := by
  have HA := (show Hid (ArAt w v a) from h)
  have HF := (show Hid (ArFit a) from hf)
  obtain ⟨⟨ra, rc⟩, hra⟩ : ∃ x, x = crashA a := ⟨_, rfl⟩
  have HQ := (show Hid ((ra, rc) = crashA a) from hra)
  rw [← hra]
  simp only
  obtain ⟨q, hq⟩ : ∃ q, q = archB a := ⟨_, rfl⟩
  obtain ⟨sa, sn, sc, la, ln, lc, ea, en', ec, rfl, h1, h2⟩ := h
  have H1 := (show Hid (DiskAt w (.agg #[.slice sa sn sc, .slice la ln lc]) a.disk) from h1)
  have hl := ((Hl.refl w).new #[.bool a.up, .slice sa sn sc, .slice la ln lc, .int .i64 a.head.no, .int .i64 a.head.area, .int .i64 a.head.en, .slice ea en' ec] 39).new #[.bool false, .slice none 0 0, .slice none 0 0, .int .i64 0, .int .i64 0, .int .i64 0, .slice none 0 0] 39
  obtain ⟨w1, hw1⟩ : ∃ x, x = (w.alloc (.cells #[.bool a.up, .slice sa sn sc, .slice la ln lc, .int .i64 a.head.no, .int .i64 a.head.area, .int .i64 a.head.en, .slice ea en' ec] 39)).alloc (.cells #[.bool false, .slice none 0 0, .slice none 0 0, .int .i64 0, .int .i64 0, .int .i64 0, .slice none 0 0] 39) := ⟨_, rfl⟩
  rw [← hw1, World.size_alloc] at hl
  have HL := (show Hid (Hl w [(w.heap.size + 1, #[.bool false, .slice none 0 0, .slice none 0 0, .int .i64 0, .int .i64 0, .int .i64 0, .slice none 0 0], 39), (w.heap.size, #[.bool a.up, .slice sa sn sc, .slice la ln lc, .int .i64 a.head.no, .int .i64 a.head.area, .int .i64 a.head.en, .slice ea en' ec], 39)] w1) from hl)
  have CO := sarOk_any (HA.out.below hl.1) hf
  rw [← hq] at CO
  have CO := (show Hid _ from CO)
  have HAQ := (show Hid (q = archB a) from hq)
  clear hl h1 h2 hf hq hra
  go_enter Tryz.func18, Tryz.ntmps18
  go_wp2_with fail
  go_at_call 8
  rw [← hw1]
  refine Calls.mono CO.out ?_
  rintro e w2 ⟨rfl, b2⟩
  have S2 := (show Hid (Hl w [(w.heap.size + 1, #[.bool false, .slice none 0 0, .slice none 0 0, .int .i64 0, .int .i64 0, .int .i64 0, .slice none 0 0], 39), (w.heap.size, #[.bool a.up, .slice sa sn sc, .slice la ln lc, .int .i64 a.head.no, .int .i64 a.head.area, .int .i64 a.head.en, .slice ea en' ec], 39)] w2) from HL.out.below b2)
  clear b2 hw1 HL CO
  cases q
  · have e1 := HQ.out
    rw [crashA, if_pos HAQ.out.symm] at e1
    cases e1
    clear HQ
    obtain ⟨m0, m1, m2, m3, m4, m5, m6, _⟩ := rk_seven S2.out.at0
    have j0 := rk_thaw (k := 0) S2.out.at0
    have j1 := rk_thaw (k := 1) S2.out.at0
    have j2 := rk_thaw (k := 2) S2.out.at0
    have j3 := rk_thaw (k := 3) S2.out.at0
    have j4 := rk_thaw (k := 4) S2.out.at0
    have j5 := rk_thaw (k := 5) S2.out.at0
    have j6 := rk_thaw (k := 6) S2.out.at0
    have S9 := (show Hid _ from S2.out.set7 (Nat.le_succ _) (by simp) (.bool false) (.slice none 0 0) (.slice none 0 0) (.int .i64 0) (.int .i64 0) (.int .i64 0) (.slice none 0 0))
    go_wp2
    refine bodyPost_ret (arch_res rfl rfl rfl S9.out.at0) rfl ?_
    exact ⟨_, rfl, ⟨none, 0, 0, none, 0, 0, none, 0, 0, rfl, ⟨none, 0, 0, none, 0, 0, rfl, .inl ⟨rfl, rfl, none, rfl, fun _ => trivial⟩, .inl ⟨rfl, rfl, none, rfl, fun _ => trivial⟩⟩, .inl ⟨rfl, rfl, none, rfl, fun _ => trivial⟩⟩, S9.out.1⟩
  · obtain ⟨c0, c1, c2, c3, c4, c5, c6, _⟩ := rk_seven S2.out.at1
    obtain ⟨up, hup⟩ : ∃ u, u = a.up := ⟨_, rfl⟩
    have e1 := HQ.out
    rw [crashA, if_neg (by rw [← HAQ.out]; decide)] at e1
    cases hu : a.up
    · rw [if_pos hu] at e1
      cases e1
      rw [hu] at c0
      clear HQ hup
      go_upto_region 4 with fail
      clear c0 c1 c2 c3 c4 c5 c6 hu
      obtain ⟨c0, c1, c2, c3, c4, c5, c6, _⟩ := rk_seven S2.out.at1
      go_wp2_with fail
      go_at_call 44
      refine (sl18Copy_any (HA.out.below S2.out.1) HF.out).mono ?_
      rintro e y1 ⟨v1, rfl, o1, b1⟩
      have T1 := (show Hid (Hl w [(w.heap.size + 1, #[.bool false, .slice none 0 0, .slice none 0 0, .int .i64 0, .int .i64 0, .int .i64 0, .slice none 0 0], 39), (w.heap.size, #[.bool a.up, .slice sa sn sc, .slice la ln lc, .int .i64 a.head.no, .int .i64 a.head.area, .int .i64 a.head.en, .slice ea en' ec], 39)] y1) from S2.out.below b1)
      have O1 := (show Hid (OwnAy w.heap.size y1 v1 a) from OwnAy.base o1 S2.out.1.size)
      clear b1 o1 c0 c1 c2 c3 c4 c5 c6
      obtain ⟨ya, yn, yc, za, zn, zc, fa, fn, fc, e1, _⟩ := O1.out
      subst e1
      obtain ⟨m0, m1, m2, m3, m4, m5, m6, _⟩ := rk_seven T1.out.at0
      have j0 := rk_thaw (k := 0) T1.out.at0
      have j1 := rk_thaw (k := 1) T1.out.at0
      have j2 := rk_thaw (k := 2) T1.out.at0
      have j3 := rk_thaw (k := 3) T1.out.at0
      have j4 := rk_thaw (k := 4) T1.out.at0
      have j5 := rk_thaw (k := 5) T1.out.at0
      have j6 := rk_thaw (k := 6) T1.out.at0
      have S9 := (show Hid _ from T1.out.set7 (Nat.le_succ _) (by simp) (.bool a.up) (.slice ya yn yc) (.slice za zn zc) (.int .i64 a.head.no) (.int .i64 a.head.area) (.int .i64 a.head.en) (.slice fa fn fc))
      have g9 := grown_set7 y1 (w.heap.size + 1) (.bool a.up) (.slice ya yn yc) (.slice za zn zc) (.int .i64 a.head.no) (.int .i64 a.head.area) (.int .i64 a.head.en) (.slice fa fn fc)
      have O9 := (show Hid _ from OwnAy.turned O1.out g9 (fun j e => by cases e; exact ⟨_, _, _, T1.out.at0, by decide, by decide, by decide⟩))
      clear g9 O1
      go_wp2
      refine bodyPost_ret (arch_res rfl rfl rfl S9.out.at0) rfl ?_
      exact ⟨_, rfl, O9.out, S9.out.1⟩
    · rw [if_neg (by rw [hu]; decide)] at e1
      cases e1
      rw [hu] at c0
      clear HQ hup
      go_wp2_with fail
      go_at_call 45
      refine (sl15Copy_any (H1.out.below S2.out.1) HF.out.d).mono ?_
      rintro e y1 ⟨v1, rfl, o1, b1⟩
      have T1 := (show Hid (Hl w [(w.heap.size + 1, #[.bool false, .slice none 0 0, .slice none 0 0, .int .i64 0, .int .i64 0, .int .i64 0, .slice none 0 0], 39), (w.heap.size, #[.bool a.up, .slice sa sn sc, .slice la ln lc, .int .i64 a.head.no, .int .i64 a.head.area, .int .i64 a.head.en, .slice ea en' ec], 39)] y1) from S2.out.below b1)
      have O1 := (show Hid (OwnDy w.heap.size y1 v1 a.disk) from OwnDy.base (OwnDy.of (OwnDz.of o1)) S2.out.1.size)
      obtain ⟨ya, yn, yc, za, zn, zc, e1, _⟩ := o1
      subst e1
      clear b1 c0 c1 c2 c3 c4 c5 c6 hu
      obtain ⟨m0, m1, m2, m3, m4, m5, m6, _⟩ := rk_seven T1.out.at0
      have j0 := rk_thaw (k := 0) T1.out.at0
      have j1 := rk_thaw (k := 1) T1.out.at0
      have j2 := rk_thaw (k := 2) T1.out.at0
      have j3 := rk_thaw (k := 3) T1.out.at0
      have j4 := rk_thaw (k := 4) T1.out.at0
      have j5 := rk_thaw (k := 5) T1.out.at0
      have j6 := rk_thaw (k := 6) T1.out.at0
      have S9 := (show Hid _ from T1.out.set7 (Nat.le_succ _) (by simp) (.bool false) (.slice ya yn yc) (.slice za zn zc) (.int .i64 0) (.int .i64 0) (.int .i64 0) (.slice none 0 0))
      have g9 := grown_set7 y1 (w.heap.size + 1) (.bool false) (.slice ya yn yc) (.slice za zn zc) (.int .i64 0) (.int .i64 0) (.int .i64 0) (.slice none 0 0)
      have O9 := (show Hid _ from OwnDy.turned O1.out g9 (fun j e => by cases e; exact ⟨_, _, _, T1.out.at0, by decide, by decide⟩))
      clear g9 O1
      go_wp2
      refine bodyPost_ret (arch_res rfl rfl rfl S9.out.at0) rfl ?_
      exact ⟨_, rfl, ⟨_, _, _, _, _, _, _, _, _, rfl, O9.out, .inl ⟨rfl, rfl, none, rfl, fun _ => trivial⟩⟩, S9.out.1⟩
end Go.Proofs.YtokkigfjabbdaaaGreatDoor
