import Derived.Test.YtiejfnnokfedkaaB19
import Derived.Test.YtiejfnnokfedkaaB20
import Derived.Deep.RegionHeld3
import Derived.Test.YtiejfnnokfedkaaB16
/- The exact law of HeadPut, from the program's contract (written by mk/whead2.py). -/
namespace Go.Proofs.Ytiejfnnokfedkaa
open Go.RowKit
set_option maxRecDepth 100000
set_option linter.unusedVariables false

def HeadPutOz : Prop := ∀ (w : World) (v : Value) (d : PDisk) (h : PHead), DiskAt w v d → DiskFit d → (Lit.int .i64 h.no).wf = true → (Lit.int .i64 h.area).wf = true → (Lit.int .i64 h.en).wf = true → Calls Try.prog 13 #[v, headV h] w fun e w' => ∃ v', e = .returned (.tuple #[v', .bool (headPutDk d h).2]) ∧ OwnDz w.heap.size w' v' (headPutDk d h).1 ∧ Below w.heap.size w w'
theorem fit_headPut {d : PDisk} (h : DiskFit d) (q : PHead) : DiskFit (headPutDk d q).1 := by
  unfold headPutDk
  split
  · exact fit_zero
  · split
    · exact h
    · exact fit_put h _ (by rw [packS_size]; omega)

set_option maxHeartbeats 4000000 in
set_option maxRecDepth 100000 in
theorem fnExactHeadPut_ofz (H : HeadPutOz) {v : Value} {d : PDisk} (hh : PHead) (w0 : World) (h : DiskAt w0 v d) (hs : ∀ s ∈ d.safe, s.size ≤ maxLen) (hp : ∀ p ∈ d.late, p.2.size ≤ maxLen) (k0 : (Lit.int .i64 hh.no).wf = true) (k1 : (Lit.int .i64 hh.area).wf = true) (k2 : (Lit.int .i64 hh.en).wf = true) :
    Calls Try.prog 4 #[v, headV hh] w0 fun e w' => e = .returned (.bool true) ∧ Below w0.heap.size w0 w' := by
  obtain ⟨h0, h1, h2⟩ := hh
  have HC := (show Hid (∀ (w : World) (v : Value), DiskAt w v d → DiskFit d → Calls Try.prog 13 #[v, .agg #[.int .i64 h0, .int .i64 h1, .int .i64 h2]] w fun e w' => ∃ v', e = .returned (.tuple #[v', .bool (headPutDk d ⟨h0, h1, h2⟩).2]) ∧ OwnDz w.heap.size w' v' (headPutDk d ⟨h0, h1, h2⟩).1 ∧ Below w.heap.size w w') from fun w v hd hf => H w v d ⟨h0, h1, h2⟩ hd hf k0 k1 k2)
  have HS0 := (show Hid (∀ (w : World) (v : Value), DiskAt w v d → DiskFit d → Calls Try.prog 11 #[v, .agg #[.int .i64 h0, .int .i64 h1, .int .i64 h2]] w fun e w' => ∃ v', e = .returned (.tuple #[v', .bool (headPutDk d ⟨h0, h1, h2⟩).2]) ∧ OwnDk w.heap.size w' v' (headPutDk d ⟨h0, h1, h2⟩).1 ∧ Below w.heap.size w w') from fun w v hd hf => sheadPut_any hd hf ⟨h0, h1, h2⟩)
  obtain ⟨sa, sn, sc, sA, sN, sC, ev⟩ : ∃ sa sn sc sA sN sC, v = .agg #[.slice sa sn sc, .slice sA sN sC] := by
    obtain ⟨_, _, _, _, _, _, e, _⟩ := h
    exact ⟨_, _, _, _, _, _, e⟩
  subst ev
  have HD := (show Hid (DiskAt w0 (.agg #[.slice sa sn sc, .slice sA sN sC]) d) from h)
  have CTH := (show Hid (∀ L R Y W, Lw w0 L R Y W → Calls Try.prog 8 #[.agg #[.int .i64 h0, .int .i64 h1, .int .i64 h2]] W fun e W' => e = .returned (.agg #[.int .i64 h0, .int .i64 h1, .int .i64 h2]) ∧ Lw w0 L R Y W' ∧ Below W.heap.size W W') from fun L R Y W l => (toHead_any ⟨h0, h1, h2⟩ W).mono (by
    rintro e W' ⟨rfl, b⟩
    exact ⟨rfl, l.below b, b⟩))
  obtain ⟨w, hw⟩ : ∃ x, x = (w0.alloc (.cells #[.slice sa sn sc, .slice sA sN sC] 32)).alloc (.cells #[.int .i64 h0, .int .i64 h1, .int .i64 h2] 23) := ⟨_, rfl⟩
  have hl := ((Lw.refl w0).new #[.slice sa sn sc, .slice sA sN sC] 32).new #[.int .i64 h0, .int .i64 h1, .int .i64 h2] 23
  rw [← hw, World.size_alloc] at hl
  have HL := (show Hid (Lw w0 [(w0.heap.size + 1, #[.int .i64 h0, .int .i64 h1, .int .i64 h2], 23), (w0.heap.size, #[.slice sa sn sc, .slice sA sN sC], 32)] [] [] w) from hl)
  have CZ := (show Hid (Calls Try.prog 10 #[.agg #[.slice sa sn sc, .slice sA sN sC], .int .i64 1048576] w fun e w' => ∃ r : Int, e = .returned (.int .i64 r) ∧ (r < 0 ∨ (0 ≤ r ∧ r ≤ 1048576 ∧ DiskFit d)) ∧ Below w.heap.size w w') from szDisk_any (HD.out.below hl.hl.1) hs hp 1048576 (by decide) (by decide))
  show Calls Try.prog 4 #[.agg #[.slice sa sn sc, .slice sA sN sC], .agg #[.int .i64 h0, .int .i64 h1, .int .i64 h2]] w0 _
  clear H hs hp hl k0 k1 k2 h
  go_enter Try.func4, Try.ntmps4
  go_wp2_with fail
  go_at_call 10
  rw [← hw]
  refine Calls.mono CZ.out ?_
  rintro e w1 ⟨r, rfl, hr, b1⟩
  clear CZ hw
  rcases hr with hr | ⟨hr0, hr1, hf⟩
  · go_wp2
    go_ret
    exact ⟨rfl, (HL.out.below b1).hl.1⟩
  · have HF := (show Hid (DiskFit d) from hf)
    have FQ := (show Hid (DiskFit (headPutDk d ⟨h0, h1, h2⟩).1) from fit_headPut hf _)
    clear hf
    obtain ⟨⟨qd, qb⟩, hq⟩ : ∃ q, q = headPutDk d ⟨h0, h1, h2⟩ := ⟨_, rfl⟩
    rw [← hq] at FQ HC HS0
    simp only at FQ HC HS0
    have CI := (show Hid (∀ L R Y (W : World) (a b : Value) (B : Nat), Lw w0 L R Y W → B ≤ W.heap.size → DiskAt W (.agg #[a, b]) d → Calls Try.prog 13 #[.agg #[a, b], .agg #[.int .i64 h0, .int .i64 h1, .int .i64 h2]] W fun e W' => ∃ xa xn xc xA xN xC, e = .returned (.tuple #[.agg #[.slice xa xn xc, .slice xA xN xC], .bool qb]) ∧ OwnDy B W' (.agg #[.slice xa xn xc, .slice xA xN xC]) qd ∧ Lw w0 L R Y W' ∧ Below W.heap.size W W') from fun L R Y W a b B l hB hd => (HC.out W _ hd HF.out).mono (by
      rintro e W' ⟨v', rfl, o, k⟩
      have o' := OwnDy.of o
      obtain ⟨_, _, _, _, _, _, rfl, _⟩ := o
      exact ⟨_, _, _, _, _, _, rfl, o'.base hB, l.below k, k⟩))
    have CS := (show Hid (∀ L R Y (W : World) (a b : Value) (B : Nat), Lw w0 L R Y W → B ≤ W.heap.size → DiskAt W (.agg #[a, b]) d → Calls Try.prog 11 #[.agg #[a, b], .agg #[.int .i64 h0, .int .i64 h1, .int .i64 h2]] W fun e W' => ∃ xa xn xc xA xN xC, e = .returned (.tuple #[.agg #[.slice xa xn xc, .slice xA xN xC], .bool qb]) ∧ OwnDy B W' (.agg #[.slice xa xn xc, .slice xA xN xC]) qd ∧ Lw w0 L R Y W' ∧ Below W.heap.size W W') from fun L R Y W a b B l hB hd => (HS0.out W _ hd HF.out).mono (by
      rintro e W' ⟨v', rfl, o, k⟩
      have o' := OwnDy.of (OwnDz.of o)
      obtain ⟨_, _, _, _, _, _, rfl, _⟩ := o
      exact ⟨_, _, _, _, _, _, rfl, o'.base hB, l.below k, k⟩))
    have CTD := (show Hid (∀ L R Y W, Lw w0 L R Y W → Calls Try.prog 12 #[.agg #[.slice sa sn sc, .slice sA sN sC]] W fun e W' => ∃ ta tn tc tA tN tC, e = .returned (.agg #[.slice ta tn tc, .slice tA tN tC]) ∧ Lw w0 L R Y W' ∧ OwnDy w0.heap.size W' (.agg #[.slice ta tn tc, .slice tA tN tC]) d ∧ Below W.heap.size W W') from fun L R Y W l => (l.toD HD.out HF.out).mono (by
      rintro e W' ⟨_, _, _, _, _, _, rfl, l', o, k⟩
      exact ⟨_, _, _, _, _, _, rfl, l', o.base l.hl.1.size, k⟩))
    have hqq : (qb != qb) = false := by cases qb <;> rfl
    have fl1 := FQ.out.sl
    have fl2 := FQ.out.ll
    clear hq HC HS0
    have S_w1 := (show Hid (Lw w0 [(w0.heap.size + 1, #[.int .i64 h0, .int .i64 h1, .int .i64 h2], 23), (w0.heap.size, #[.slice sa sn sc, .slice sA sN sC], 32)] [] [] w1) from HL.out.below b1)
    have Z0 := (show Hid (w0.heap.size ≤ w1.heap.size) from S_w1.out.hl.1.size)
    clear HL b1
    obtain ⟨c0_0, c0_1, c0_2, _⟩ := rk_three (S_w1.out.hl.2 _ (List.mem_cons_self ..))
    obtain ⟨c1_0, c1_1, _, _⟩ := rk_two (S_w1.out.hl.2 _ (List.mem_cons_of_mem _ (List.mem_cons_self ..)))
    go_wp2_with fail
    clear c0_0 c0_1 c0_2 c1_0 c1_1
    have KD := (show Hid (Lw w0 [(w0.heap.size + 1, #[.int .i64 h0, .int .i64 h1, .int .i64 h2], 23), (w0.heap.size, #[.slice sa sn sc, .slice sA sN sC], 32)] [] [] w1.drew) from S_w1.out.below (below_drewN 1))
    have HS := (show Hid (∀ W, Lw w0 [(w0.heap.size + 1, #[.int .i64 h0, .int .i64 h1, .int .i64 h2], 23), (w0.heap.size, #[.slice sa sn sc, .slice sA sN sC], 32)] [] [] W → W.cell? ⟨w0.heap.size + 1, 0, none⟩ = some (.int .i64 h0) ∧ W.cell? ⟨w0.heap.size + 1, 1, none⟩ = some (.int .i64 h1) ∧ W.cell? ⟨w0.heap.size + 1, 2, none⟩ = some (.int .i64 h2) ∧ W.cell? ⟨w0.heap.size, 0, none⟩ = some (.slice sa sn sc) ∧ W.cell? ⟨w0.heap.size, 1, none⟩ = some (.slice sA sN sC) ∧ Lw w0 [(w0.heap.size + 1, #[.int .i64 h0, .int .i64 h1, .int .i64 h2], 23), (w0.heap.size, #[.slice sa sn sc, .slice sA sN sC], 32)] [] [] W) from fun W h => ⟨(rk_three (h.hl.2 _ (List.mem_cons_self ..))).1, (rk_three (h.hl.2 _ (List.mem_cons_self ..))).2.1, (rk_three (h.hl.2 _ (List.mem_cons_self ..))).2.2.1, (rk_two (h.hl.2 _ (List.mem_cons_of_mem _ (List.mem_cons_self ..)))).1, (rk_two (h.hl.2 _ (List.mem_cons_of_mem _ (List.mem_cons_self ..)))).2.1, h⟩)
    have hw0 : w0.heap.size ≤ w1.heap.size := S_w1.out.hl.1.size
    have hLL : Hid (∀ N, w1.heap.size ≤ N → ∀ p ∈ ([(w0.heap.size + 1, #[.int .i64 h0, .int .i64 h1, .int .i64 h2], 23), (w0.heap.size, #[.slice sa sn sc, .slice sA sN sC], 32)] : List (Nat × Array Value × TypeId)), p.1 ≠ N) := fun N hN p hp => by have := S_w1.out.hl.lt hp; omega
    go_cut [6, 7] from 16 to 103 (fun s5 s6 wx => ∃ N hi aa an ac aA aN aC, s5 = .pointer (some ⟨N, 0, none⟩) ∧ s6 = .bool qb ∧ hi ≤ wx.heap.size ∧ Lw w0 [(N, #[.slice aa an ac, .slice aA aN aC], 36), (w0.heap.size + 1, #[.int .i64 h0, .int .i64 h1, .int .i64 h2], 23), (w0.heap.size, #[.slice sa sn sc, .slice sA sN sC], 32)] [(w1.heap.size, hi, .agg #[.slice aa an ac, .slice aA aN aC], qd)] [] wx)
    case first =>
      go_region_held3 (fun w' => w'.cell? ⟨w0.heap.size + 1, 0, none⟩ = some (.int .i64 h0) ∧ w'.cell? ⟨w0.heap.size + 1, 1, none⟩ = some (.int .i64 h1) ∧ w'.cell? ⟨w0.heap.size + 1, 2, none⟩ = some (.int .i64 h2) ∧ w'.cell? ⟨w0.heap.size, 0, none⟩ = some (.slice sa sn sc) ∧ w'.cell? ⟨w0.heap.size, 1, none⟩ = some (.slice sA sN sC) ∧ Lw w0 [(w0.heap.size + 1, #[.int .i64 h0, .int .i64 h1, .int .i64 h2], 23), (w0.heap.size, #[.slice sa sn sc, .slice sA sN sC], 32)] [] [] w')
        (first | exact HS.out _ KD.out | exact HS.out _ (KD.out.new _ _).tail | exact HS.out _ Q0.out | exact HS.out _ (Q0.out.new _ _).tail | exact HS.out _ Q1.out | exact HS.out _ (Q1.out.new _ _).tail | exact HS.out _ Q2.out | exact HS.out _ (Q2.out.new _ _).tail | exact HS.out _ (PS.out.tail.sub (by simp) (by simp) (by simp)) | exact HS.out _ (PN.out.tail.sub (by simp) (by simp) (by simp)))
        (first
          | (go_at_call 12
             refine Calls.mono (CTD.out _ _ _ _ (‹_ ∧ _ ∧ _ ∧ _ ∧ _ ∧ Lw _ _ _ _ _›).2.2.2.2.2) ?_
             rintro e y0 ⟨ta, tn, tc, tA, tN, tC, rfl, l0, o0, b0⟩
             have O0 := (show Hid (OwnDy w0.heap.size y0 (.agg #[.slice ta tn tc, .slice tA tN tC]) d) from o0)
             clear o0
             have Q0 := (show Hid (Lw w0 [(w0.heap.size + 1, #[.int .i64 h0, .int .i64 h1, .int .i64 h2], 23), (w0.heap.size, #[.slice sa sn sc, .slice sA sN sC], 32)] [] [] y0) from l0)
             have z0 : w1.heap.size ≤ y0.heap.size := by have := b0.size; (try simp at this); omega
             (first
               | (have M0 := (show Hid (Lw w0 ((w1.heap.size, #[.slice none 0 0, .slice none 0 0], 36) :: [(w0.heap.size + 1, #[.int .i64 h0, .int .i64 h1, .int .i64 h2], 23), (w0.heap.size, #[.slice sa sn sc, .slice sA sN sC], 32)]) [] [] y0) from (KD.out.new #[.slice none 0 0, .slice none 0 0] 36).below b0))
               | skip)
             clear l0 b0)
          | (go_at_call 8
             refine Calls.mono (CTH.out _ _ _ _ (‹_ ∧ _ ∧ _ ∧ _ ∧ _ ∧ Lw _ _ _ _ _›).2.2.2.2.2) ?_
             rintro e y1 ⟨rfl, l1, b1⟩
             have O0 := (show Hid (OwnDy w0.heap.size y1 (.agg #[.slice ta tn tc, .slice tA tN tC]) d) from by first | exact O0.out.below b1 | exact (O0.out.below ((Below.refl _ _).alloc (Nat.le_refl _) _)).below b1)
             have Q1 := (show Hid (Lw w0 [(w0.heap.size + 1, #[.int .i64 h0, .int .i64 h1, .int .i64 h2], 23), (w0.heap.size, #[.slice sa sn sc, .slice sA sN sC], 32)] [] [] y1) from l1)
             have z1 : y0.heap.size ≤ y1.heap.size := by have := b1.size; (try simp at this); omega
             (first
               | (have m1 := M0.out.below b1
                  have M1 := (show Hid _ from m1)
                  clear m1)
               | (have M1 := (show Hid (Lw w0 ((y0.heap.size, #[.slice none 0 0, .slice none 0 0], 36) :: [(w0.heap.size + 1, #[.int .i64 h0, .int .i64 h1, .int .i64 h2], 23), (w0.heap.size, #[.slice sa sn sc, .slice sA sN sC], 32)]) [] [] y1) from (Q0.out.new #[.slice none 0 0, .slice none 0 0] 36).below b1))
               | skip)
             clear l1 b1)
          | (go_at_call 11
             refine Calls.mono (CS.out _ _ _ _ _ _ w1.heap.size (‹_ ∧ _ ∧ _ ∧ _ ∧ _ ∧ Lw _ _ _ _ _›).2.2.2.2.2 ?_ ?_) ?_
             · (try simp); omega
             · first | exact O0.out.at | exact (O0.out.below ((Below.refl _ _).alloc (Nat.le_refl _) _)).at
             rintro e y2 ⟨aa, an, ac, aA, aN, aC, rfl, o2, l2, b2⟩
             have Q2 := (show Hid (Lw w0 [(w0.heap.size + 1, #[.int .i64 h0, .int .i64 h1, .int .i64 h2], 23), (w0.heap.size, #[.slice sa sn sc, .slice sA sN sC], 32)] [] [] y2) from l2)
             have z2 : y1.heap.size ≤ y2.heap.size := by have := b2.size; (try simp at this); omega
             (first
               | (have n2 := (M1.out.below b2).add o2
                  obtain ⟨m1, m2, m3, m4⟩ := rk_two n2.hl.at0
                  have PS := (show Hid _ from n2.set2 (by omega) (hLL.out _ (by omega)) (.slice aa an ac) (.slice aA aN aC))
                  clear n2)
               | (have n2 := ((Q1.out.new #[.slice none 0 0, .slice none 0 0] 36).below b2).add o2
                  obtain ⟨m1, m2, m3, m4⟩ := rk_two n2.hl.at0
                  have PS := (show Hid _ from n2.set2 (by omega) (hLL.out _ (by omega)) (.slice aa an ac) (.slice aA aN aC))
                  clear n2)
               | (have PN := (show Hid _ from (Q2.out.add o2).new #[.slice aa an ac, .slice aA aN aC] 36)))
             clear l2 b2 o2))
      all_goals go_wp2
      all_goals go_meet
      all_goals
        case rel =>
          with_reducible first
            | exact ⟨_, _, _, _, _, _, _, _, rfl, rfl, size_set2 _ _ _ _ _, PS.out⟩
            | exact ⟨_, _, _, _, _, _, _, _, rfl, rfl, size_new _ _, PN.out⟩
    case rest =>
      obtain ⟨w2, rfl⟩ : ∃ x, x = wc := ⟨_, rfl⟩
      obtain ⟨N_a, hi_a, aa, an, ac, aA, aN, aC, rfl, rfl, hz, hc⟩ := hcut
      have Z1 := (show Hid (hi_a ≤ w2.heap.size) from hz)
      have S_w2 := (show Hid (Lw w0 [(N_a, #[.slice aa an ac, .slice aA aN aC], 36), (w0.heap.size + 1, #[.int .i64 h0, .int .i64 h1, .int .i64 h2], 23), (w0.heap.size, #[.slice sa sn sc, .slice sA sN sC], 32)] [(w1.heap.size, hi_a, .agg #[.slice aa an ac, .slice aA aN aC], qd)] [] w2) from hc)
      have Z2 := (show Hid (w0.heap.size ≤ w2.heap.size) from S_w2.out.hl.1.size)
      clear hc hz KD HS hLL hw0 S_w1
      obtain ⟨c0_0, c0_1, _, _⟩ := rk_two (S_w2.out.hl.2 _ (List.mem_cons_self ..))
      obtain ⟨c1_0, c1_1, c1_2, _⟩ := rk_three (S_w2.out.hl.2 _ (List.mem_cons_of_mem _ (List.mem_cons_self ..)))
      obtain ⟨c2_0, c2_1, _, _⟩ := rk_two (S_w2.out.hl.2 _ (List.mem_cons_of_mem _ (List.mem_cons_of_mem _ (List.mem_cons_self ..))))
      go_wp2_with fail
      go_at_call 12
      refine (S_w2.out.toD HD.out HF.out).mono ?_
      rintro e w3 ⟨xa, xn, xc, xA, xN, xC, rfl, lw3, ow3, bw3⟩
      have Z3 := (show Hid (w2.heap.size ≤ w3.heap.size) from bw3.size)
      have S_w3 := (show Hid (Lw w0 [(N_a, #[.slice aa an ac, .slice aA aN aC], 36), (w0.heap.size + 1, #[.int .i64 h0, .int .i64 h1, .int .i64 h2], 23), (w0.heap.size, #[.slice sa sn sc, .slice sA sN sC], 32)] [(w2.heap.size, w3.heap.size, .agg #[.slice xa xn xc, .slice xA xN xC], d), (w1.heap.size, hi_a, .agg #[.slice aa an ac, .slice aA aN aC], qd)] [] w3) from lw3.add ow3)
      clear S_w2 bw3
      clear c0_0 c0_1 c1_0 c1_1 c1_2 c2_0 c2_1
      clear lw3 ow3
      obtain ⟨w3a, hw3a⟩ : ∃ x, x = w3.alloc (.cells #[.slice xa xn xc, .slice xA xN xC] 36) := ⟨_, rfl⟩
      have Z4 := (show Hid (w3.heap.size < w3a.heap.size) from (show w3.heap.size < w3a.heap.size by rw [hw3a, World.size_alloc]; omega))
      obtain ⟨o0_0, o0_1, _, _⟩ := rk_two (S_w3.out.hl.2 _ (List.mem_cons_self ..))
      have o0_l := lt_of_block (S_w3.out.hl.2 _ (List.mem_cons_self ..))
      obtain ⟨o1_0, o1_1, o1_2, _⟩ := rk_three (S_w3.out.hl.2 _ (List.mem_cons_of_mem _ (List.mem_cons_self ..)))
      have o1_l := lt_of_block (S_w3.out.hl.2 _ (List.mem_cons_of_mem _ (List.mem_cons_self ..)))
      obtain ⟨o2_0, o2_1, _, _⟩ := rk_two (S_w3.out.hl.2 _ (List.mem_cons_of_mem _ (List.mem_cons_of_mem _ (List.mem_cons_self ..))))
      have o2_l := lt_of_block (S_w3.out.hl.2 _ (List.mem_cons_of_mem _ (List.mem_cons_of_mem _ (List.mem_cons_self ..))))
      have S_w3a := (show Hid (Lw w0 [(w3.heap.size, #[.slice xa xn xc, .slice xA xN xC], 36), (N_a, #[.slice aa an ac, .slice aA aN aC], 36), (w0.heap.size + 1, #[.int .i64 h0, .int .i64 h1, .int .i64 h2], 23), (w0.heap.size, #[.slice sa sn sc, .slice sA sN sC], 32)] [(w2.heap.size, w3.heap.size, .agg #[.slice xa xn xc, .slice xA xN xC], d), (w1.heap.size, hi_a, .agg #[.slice aa an ac, .slice aA aN aC], qd)] [] w3a) from by rw [hw3a]; exact S_w3.out.new #[.slice xa xn xc, .slice xA xN xC] 36)
      clear S_w3
      clear o0_0 o0_1 o0_l o1_0 o1_1 o1_2 o1_l o2_0 o2_1 o2_l
      obtain ⟨c0_0, c0_1, _, _⟩ := rk_two (S_w3a.out.hl.2 _ (List.mem_cons_self ..))
      obtain ⟨c1_0, c1_1, _, _⟩ := rk_two (S_w3a.out.hl.2 _ (List.mem_cons_of_mem _ (List.mem_cons_self ..)))
      obtain ⟨c2_0, c2_1, c2_2, _⟩ := rk_three (S_w3a.out.hl.2 _ (List.mem_cons_of_mem _ (List.mem_cons_of_mem _ (List.mem_cons_self ..))))
      obtain ⟨c3_0, c3_1, _, _⟩ := rk_two (S_w3a.out.hl.2 _ (List.mem_cons_of_mem _ (List.mem_cons_of_mem _ (List.mem_cons_of_mem _ (List.mem_cons_self ..)))))
      go_wp2_with fail
      rw [← hw3a]
      clear hw3a
      clear c0_0 c0_1 c1_0 c1_1 c2_0 c2_1 c2_2 c3_0 c3_1
      have KD := (show Hid (Lw w0 [(w3.heap.size, #[.slice xa xn xc, .slice xA xN xC], 36), (N_a, #[.slice aa an ac, .slice aA aN aC], 36), (w0.heap.size + 1, #[.int .i64 h0, .int .i64 h1, .int .i64 h2], 23), (w0.heap.size, #[.slice sa sn sc, .slice sA sN sC], 32)] [(w2.heap.size, w3.heap.size, .agg #[.slice xa xn xc, .slice xA xN xC], d), (w1.heap.size, hi_a, .agg #[.slice aa an ac, .slice aA aN aC], qd)] [] w3a.drew) from S_w3a.out.below (below_drewN 1))
      have HS := (show Hid (∀ W, Lw w0 [(w3.heap.size, #[.slice xa xn xc, .slice xA xN xC], 36), (N_a, #[.slice aa an ac, .slice aA aN aC], 36), (w0.heap.size + 1, #[.int .i64 h0, .int .i64 h1, .int .i64 h2], 23), (w0.heap.size, #[.slice sa sn sc, .slice sA sN sC], 32)] [(w2.heap.size, w3.heap.size, .agg #[.slice xa xn xc, .slice xA xN xC], d), (w1.heap.size, hi_a, .agg #[.slice aa an ac, .slice aA aN aC], qd)] [] W → W.cell? ⟨w3.heap.size, 0, none⟩ = some (.slice xa xn xc) ∧ W.cell? ⟨w3.heap.size, 1, none⟩ = some (.slice xA xN xC) ∧ W.cell? ⟨N_a, 0, none⟩ = some (.slice aa an ac) ∧ W.cell? ⟨N_a, 1, none⟩ = some (.slice aA aN aC) ∧ W.cell? ⟨w0.heap.size + 1, 0, none⟩ = some (.int .i64 h0) ∧ W.cell? ⟨w0.heap.size + 1, 1, none⟩ = some (.int .i64 h1) ∧ W.cell? ⟨w0.heap.size + 1, 2, none⟩ = some (.int .i64 h2) ∧ W.cell? ⟨w0.heap.size, 0, none⟩ = some (.slice sa sn sc) ∧ W.cell? ⟨w0.heap.size, 1, none⟩ = some (.slice sA sN sC) ∧ Lw w0 [(w3.heap.size, #[.slice xa xn xc, .slice xA xN xC], 36), (N_a, #[.slice aa an ac, .slice aA aN aC], 36), (w0.heap.size + 1, #[.int .i64 h0, .int .i64 h1, .int .i64 h2], 23), (w0.heap.size, #[.slice sa sn sc, .slice sA sN sC], 32)] [(w2.heap.size, w3.heap.size, .agg #[.slice xa xn xc, .slice xA xN xC], d), (w1.heap.size, hi_a, .agg #[.slice aa an ac, .slice aA aN aC], qd)] [] W) from fun W h => ⟨(rk_two (h.hl.2 _ (List.mem_cons_self ..))).1, (rk_two (h.hl.2 _ (List.mem_cons_self ..))).2.1, (rk_two (h.hl.2 _ (List.mem_cons_of_mem _ (List.mem_cons_self ..)))).1, (rk_two (h.hl.2 _ (List.mem_cons_of_mem _ (List.mem_cons_self ..)))).2.1, (rk_three (h.hl.2 _ (List.mem_cons_of_mem _ (List.mem_cons_of_mem _ (List.mem_cons_self ..))))).1, (rk_three (h.hl.2 _ (List.mem_cons_of_mem _ (List.mem_cons_of_mem _ (List.mem_cons_self ..))))).2.1, (rk_three (h.hl.2 _ (List.mem_cons_of_mem _ (List.mem_cons_of_mem _ (List.mem_cons_self ..))))).2.2.1, (rk_two (h.hl.2 _ (List.mem_cons_of_mem _ (List.mem_cons_of_mem _ (List.mem_cons_of_mem _ (List.mem_cons_self ..)))))).1, (rk_two (h.hl.2 _ (List.mem_cons_of_mem _ (List.mem_cons_of_mem _ (List.mem_cons_of_mem _ (List.mem_cons_self ..)))))).2.1, h⟩)
      have hw0 : w0.heap.size ≤ w3a.heap.size := S_w3a.out.hl.1.size
      have hLL : Hid (∀ N, w3a.heap.size ≤ N → ∀ p ∈ ([(w3.heap.size, #[.slice xa xn xc, .slice xA xN xC], 36), (N_a, #[.slice aa an ac, .slice aA aN aC], 36), (w0.heap.size + 1, #[.int .i64 h0, .int .i64 h1, .int .i64 h2], 23), (w0.heap.size, #[.slice sa sn sc, .slice sA sN sC], 32)] : List (Nat × Array Value × TypeId)), p.1 ≠ N) := fun N hN p hp => by have := S_w3a.out.hl.lt hp; omega
      go_cut [9, 10] from 16 to 103 (fun s5 s6 wx => ∃ N hi ga gn gc gA gN gC, s5 = .pointer (some ⟨N, 0, none⟩) ∧ s6 = .bool qb ∧ hi ≤ wx.heap.size ∧ Lw w0 [(N, #[.slice ga gn gc, .slice gA gN gC], 36), (w3.heap.size, #[.slice xa xn xc, .slice xA xN xC], 36), (N_a, #[.slice aa an ac, .slice aA aN aC], 36), (w0.heap.size + 1, #[.int .i64 h0, .int .i64 h1, .int .i64 h2], 23), (w0.heap.size, #[.slice sa sn sc, .slice sA sN sC], 32)] [(w3a.heap.size, hi, .agg #[.slice ga gn gc, .slice gA gN gC], qd), (w2.heap.size, w3.heap.size, .agg #[.slice xa xn xc, .slice xA xN xC], d), (w1.heap.size, hi_a, .agg #[.slice aa an ac, .slice aA aN aC], qd)] [] wx)
      case first =>
        go_region_held3 (fun w' => w'.cell? ⟨w3.heap.size, 0, none⟩ = some (.slice xa xn xc) ∧ w'.cell? ⟨w3.heap.size, 1, none⟩ = some (.slice xA xN xC) ∧ w'.cell? ⟨N_a, 0, none⟩ = some (.slice aa an ac) ∧ w'.cell? ⟨N_a, 1, none⟩ = some (.slice aA aN aC) ∧ w'.cell? ⟨w0.heap.size + 1, 0, none⟩ = some (.int .i64 h0) ∧ w'.cell? ⟨w0.heap.size + 1, 1, none⟩ = some (.int .i64 h1) ∧ w'.cell? ⟨w0.heap.size + 1, 2, none⟩ = some (.int .i64 h2) ∧ w'.cell? ⟨w0.heap.size, 0, none⟩ = some (.slice sa sn sc) ∧ w'.cell? ⟨w0.heap.size, 1, none⟩ = some (.slice sA sN sC) ∧ Lw w0 [(w3.heap.size, #[.slice xa xn xc, .slice xA xN xC], 36), (N_a, #[.slice aa an ac, .slice aA aN aC], 36), (w0.heap.size + 1, #[.int .i64 h0, .int .i64 h1, .int .i64 h2], 23), (w0.heap.size, #[.slice sa sn sc, .slice sA sN sC], 32)] [(w2.heap.size, w3.heap.size, .agg #[.slice xa xn xc, .slice xA xN xC], d), (w1.heap.size, hi_a, .agg #[.slice aa an ac, .slice aA aN aC], qd)] [] w')
          (first | exact HS.out _ KD.out | exact HS.out _ (KD.out.new _ _).tail | exact HS.out _ Q0.out | exact HS.out _ (Q0.out.new _ _).tail | exact HS.out _ Q1.out | exact HS.out _ (Q1.out.new _ _).tail | exact HS.out _ (PS.out.tail.sub (by simp) (by simp) (by simp)) | exact HS.out _ (PN.out.tail.sub (by simp) (by simp) (by simp)))
          (first
            | (go_at_call 8
               refine Calls.mono (CTH.out _ _ _ _ (‹_ ∧ _ ∧ _ ∧ _ ∧ _ ∧ _ ∧ _ ∧ _ ∧ _ ∧ Lw _ _ _ _ _›).2.2.2.2.2.2.2.2.2) ?_
               rintro e y0 ⟨rfl, l0, b0⟩
               have Q0 := (show Hid (Lw w0 [(w3.heap.size, #[.slice xa xn xc, .slice xA xN xC], 36), (N_a, #[.slice aa an ac, .slice aA aN aC], 36), (w0.heap.size + 1, #[.int .i64 h0, .int .i64 h1, .int .i64 h2], 23), (w0.heap.size, #[.slice sa sn sc, .slice sA sN sC], 32)] [(w2.heap.size, w3.heap.size, .agg #[.slice xa xn xc, .slice xA xN xC], d), (w1.heap.size, hi_a, .agg #[.slice aa an ac, .slice aA aN aC], qd)] [] y0) from l0)
               have z0 : w3a.heap.size ≤ y0.heap.size := by have := b0.size; (try simp at this); omega
               (first
                 | (have M0 := (show Hid (Lw w0 ((w3a.heap.size, #[.slice none 0 0, .slice none 0 0], 36) :: [(w3.heap.size, #[.slice xa xn xc, .slice xA xN xC], 36), (N_a, #[.slice aa an ac, .slice aA aN aC], 36), (w0.heap.size + 1, #[.int .i64 h0, .int .i64 h1, .int .i64 h2], 23), (w0.heap.size, #[.slice sa sn sc, .slice sA sN sC], 32)]) [(w2.heap.size, w3.heap.size, .agg #[.slice xa xn xc, .slice xA xN xC], d), (w1.heap.size, hi_a, .agg #[.slice aa an ac, .slice aA aN aC], qd)] [] y0) from (KD.out.new #[.slice none 0 0, .slice none 0 0] 36).below b0))
                 | skip)
               clear l0 b0)
            | (go_at_call 13
               refine Calls.mono (CI.out _ _ _ _ _ _ w3a.heap.size (‹_ ∧ _ ∧ _ ∧ _ ∧ _ ∧ _ ∧ _ ∧ _ ∧ _ ∧ Lw _ _ _ _ _›).2.2.2.2.2.2.2.2.2 ?_ ?_) ?_
               · (try simp); omega
               · exact ((‹_ ∧ _ ∧ _ ∧ _ ∧ _ ∧ _ ∧ _ ∧ _ ∧ _ ∧ Lw _ _ _ _ _›).2.2.2.2.2.2.2.2.2.rows _ (List.mem_cons_self ..)).1.at
               rintro e y1 ⟨ga, gn, gc, gA, gN, gC, rfl, o1, l1, b1⟩
               have Q1 := (show Hid (Lw w0 [(w3.heap.size, #[.slice xa xn xc, .slice xA xN xC], 36), (N_a, #[.slice aa an ac, .slice aA aN aC], 36), (w0.heap.size + 1, #[.int .i64 h0, .int .i64 h1, .int .i64 h2], 23), (w0.heap.size, #[.slice sa sn sc, .slice sA sN sC], 32)] [(w2.heap.size, w3.heap.size, .agg #[.slice xa xn xc, .slice xA xN xC], d), (w1.heap.size, hi_a, .agg #[.slice aa an ac, .slice aA aN aC], qd)] [] y1) from l1)
               have z1 : y0.heap.size ≤ y1.heap.size := by have := b1.size; (try simp at this); omega
               (first
                 | (have n1 := (M0.out.below b1).add o1
                    obtain ⟨m1, m2, m3, m4⟩ := rk_two n1.hl.at0
                    have PS := (show Hid _ from n1.set2 (by omega) (hLL.out _ (by omega)) (.slice ga gn gc) (.slice gA gN gC))
                    clear n1)
                 | (have n1 := ((Q0.out.new #[.slice none 0 0, .slice none 0 0] 36).below b1).add o1
                    obtain ⟨m1, m2, m3, m4⟩ := rk_two n1.hl.at0
                    have PS := (show Hid _ from n1.set2 (by omega) (hLL.out _ (by omega)) (.slice ga gn gc) (.slice gA gN gC))
                    clear n1)
                 | (have PN := (show Hid _ from (Q1.out.add o1).new #[.slice ga gn gc, .slice gA gN gC] 36)))
               clear l1 b1 o1))
        all_goals go_wp2
        all_goals go_meet
        all_goals
          case rel =>
            with_reducible first
              | exact ⟨_, _, _, _, _, _, _, _, rfl, rfl, size_set2 _ _ _ _ _, PS.out⟩
              | exact ⟨_, _, _, _, _, _, _, _, rfl, rfl, size_new _ _, PN.out⟩
      case rest =>
        obtain ⟨w4, rfl⟩ : ∃ x, x = wc := ⟨_, rfl⟩
        obtain ⟨N_g, hi_g, ga, gn, gc, gA, gN, gC, rfl, rfl, hz, hc⟩ := hcut
        have Z5 := (show Hid (hi_g ≤ w4.heap.size) from hz)
        have S_w4 := (show Hid (Lw w0 [(N_g, #[.slice ga gn gc, .slice gA gN gC], 36), (w3.heap.size, #[.slice xa xn xc, .slice xA xN xC], 36), (N_a, #[.slice aa an ac, .slice aA aN aC], 36), (w0.heap.size + 1, #[.int .i64 h0, .int .i64 h1, .int .i64 h2], 23), (w0.heap.size, #[.slice sa sn sc, .slice sA sN sC], 32)] [(w3a.heap.size, hi_g, .agg #[.slice ga gn gc, .slice gA gN gC], qd), (w2.heap.size, w3.heap.size, .agg #[.slice xa xn xc, .slice xA xN xC], d), (w1.heap.size, hi_a, .agg #[.slice aa an ac, .slice aA aN aC], qd)] [] w4) from hc)
        have Z6 := (show Hid (w0.heap.size ≤ w4.heap.size) from S_w4.out.hl.1.size)
        clear hc hz KD HS hLL hw0 S_w3a
        obtain ⟨c0_0, c0_1, _, _⟩ := rk_two (S_w4.out.hl.2 _ (List.mem_cons_self ..))
        obtain ⟨c1_0, c1_1, _, _⟩ := rk_two (S_w4.out.hl.2 _ (List.mem_cons_of_mem _ (List.mem_cons_self ..)))
        obtain ⟨c2_0, c2_1, _, _⟩ := rk_two (S_w4.out.hl.2 _ (List.mem_cons_of_mem _ (List.mem_cons_of_mem _ (List.mem_cons_self ..))))
        obtain ⟨c3_0, c3_1, c3_2, _⟩ := rk_three (S_w4.out.hl.2 _ (List.mem_cons_of_mem _ (List.mem_cons_of_mem _ (List.mem_cons_of_mem _ (List.mem_cons_self ..)))))
        obtain ⟨c4_0, c4_1, _, _⟩ := rk_two (S_w4.out.hl.2 _ (List.mem_cons_of_mem _ (List.mem_cons_of_mem _ (List.mem_cons_of_mem _ (List.mem_cons_of_mem _ (List.mem_cons_self ..))))))
        go_wp2_with fail
        go_at_call 14
        refine (S_w4.out.eqD (S_w4.out.rows _ (List.mem_cons_self ..)).1.at (S_w4.out.rows _ (List.mem_cons_of_mem _ (List.mem_cons_of_mem _ (List.mem_cons_self ..)))).1.at FQ.out).mono ?_
        rintro e w5 ⟨rfl, lw5, bw5⟩
        have Z7 := (show Hid (w4.heap.size ≤ w5.heap.size) from bw5.size)
        have S_w5 := (show Hid (Lw w0 [(N_g, #[.slice ga gn gc, .slice gA gN gC], 36), (w3.heap.size, #[.slice xa xn xc, .slice xA xN xC], 36), (N_a, #[.slice aa an ac, .slice aA aN aC], 36), (w0.heap.size + 1, #[.int .i64 h0, .int .i64 h1, .int .i64 h2], 23), (w0.heap.size, #[.slice sa sn sc, .slice sA sN sC], 32)] [(w3a.heap.size, hi_g, .agg #[.slice ga gn gc, .slice gA gN gC], qd), (w2.heap.size, w3.heap.size, .agg #[.slice xa xn xc, .slice xA xN xC], d), (w1.heap.size, hi_a, .agg #[.slice aa an ac, .slice aA aN aC], qd)] [] w5) from lw5)
        clear S_w4 bw5
        clear c0_0 c0_1 c1_0 c1_1 c2_0 c2_1 c3_0 c3_1 c3_2 c4_0 c4_1
        clear lw5
        obtain ⟨c0_0, c0_1, _, _⟩ := rk_two (S_w5.out.hl.2 _ (List.mem_cons_self ..))
        obtain ⟨c1_0, c1_1, _, _⟩ := rk_two (S_w5.out.hl.2 _ (List.mem_cons_of_mem _ (List.mem_cons_self ..)))
        obtain ⟨c2_0, c2_1, _, _⟩ := rk_two (S_w5.out.hl.2 _ (List.mem_cons_of_mem _ (List.mem_cons_of_mem _ (List.mem_cons_self ..))))
        obtain ⟨c3_0, c3_1, c3_2, _⟩ := rk_three (S_w5.out.hl.2 _ (List.mem_cons_of_mem _ (List.mem_cons_of_mem _ (List.mem_cons_of_mem _ (List.mem_cons_self ..)))))
        obtain ⟨c4_0, c4_1, _, _⟩ := rk_two (S_w5.out.hl.2 _ (List.mem_cons_of_mem _ (List.mem_cons_of_mem _ (List.mem_cons_of_mem _ (List.mem_cons_of_mem _ (List.mem_cons_self ..))))))
        go_wp2_with fail
        clear c0_0 c0_1 c1_0 c1_1 c2_0 c2_1 c3_0 c3_1 c3_2 c4_0 c4_1
        have KD := (show Hid (Lw w0 [(N_g, #[.slice ga gn gc, .slice gA gN gC], 36), (w3.heap.size, #[.slice xa xn xc, .slice xA xN xC], 36), (N_a, #[.slice aa an ac, .slice aA aN aC], 36), (w0.heap.size + 1, #[.int .i64 h0, .int .i64 h1, .int .i64 h2], 23), (w0.heap.size, #[.slice sa sn sc, .slice sA sN sC], 32)] [(w3a.heap.size, hi_g, .agg #[.slice ga gn gc, .slice gA gN gC], qd), (w2.heap.size, w3.heap.size, .agg #[.slice xa xn xc, .slice xA xN xC], d), (w1.heap.size, hi_a, .agg #[.slice aa an ac, .slice aA aN aC], qd)] [] w5.drew) from S_w5.out.below (below_drewN 1))
        have HS := (show Hid (∀ W, Lw w0 [(N_g, #[.slice ga gn gc, .slice gA gN gC], 36), (w3.heap.size, #[.slice xa xn xc, .slice xA xN xC], 36), (N_a, #[.slice aa an ac, .slice aA aN aC], 36), (w0.heap.size + 1, #[.int .i64 h0, .int .i64 h1, .int .i64 h2], 23), (w0.heap.size, #[.slice sa sn sc, .slice sA sN sC], 32)] [(w3a.heap.size, hi_g, .agg #[.slice ga gn gc, .slice gA gN gC], qd), (w2.heap.size, w3.heap.size, .agg #[.slice xa xn xc, .slice xA xN xC], d), (w1.heap.size, hi_a, .agg #[.slice aa an ac, .slice aA aN aC], qd)] [] W → W.cell? ⟨N_g, 0, none⟩ = some (.slice ga gn gc) ∧ W.cell? ⟨N_g, 1, none⟩ = some (.slice gA gN gC) ∧ W.cell? ⟨w3.heap.size, 0, none⟩ = some (.slice xa xn xc) ∧ W.cell? ⟨w3.heap.size, 1, none⟩ = some (.slice xA xN xC) ∧ W.cell? ⟨N_a, 0, none⟩ = some (.slice aa an ac) ∧ W.cell? ⟨N_a, 1, none⟩ = some (.slice aA aN aC) ∧ W.cell? ⟨w0.heap.size + 1, 0, none⟩ = some (.int .i64 h0) ∧ W.cell? ⟨w0.heap.size + 1, 1, none⟩ = some (.int .i64 h1) ∧ W.cell? ⟨w0.heap.size + 1, 2, none⟩ = some (.int .i64 h2) ∧ W.cell? ⟨w0.heap.size, 0, none⟩ = some (.slice sa sn sc) ∧ W.cell? ⟨w0.heap.size, 1, none⟩ = some (.slice sA sN sC) ∧ Lw w0 [(N_g, #[.slice ga gn gc, .slice gA gN gC], 36), (w3.heap.size, #[.slice xa xn xc, .slice xA xN xC], 36), (N_a, #[.slice aa an ac, .slice aA aN aC], 36), (w0.heap.size + 1, #[.int .i64 h0, .int .i64 h1, .int .i64 h2], 23), (w0.heap.size, #[.slice sa sn sc, .slice sA sN sC], 32)] [(w3a.heap.size, hi_g, .agg #[.slice ga gn gc, .slice gA gN gC], qd), (w2.heap.size, w3.heap.size, .agg #[.slice xa xn xc, .slice xA xN xC], d), (w1.heap.size, hi_a, .agg #[.slice aa an ac, .slice aA aN aC], qd)] [] W) from fun W h => ⟨(rk_two (h.hl.2 _ (List.mem_cons_self ..))).1, (rk_two (h.hl.2 _ (List.mem_cons_self ..))).2.1, (rk_two (h.hl.2 _ (List.mem_cons_of_mem _ (List.mem_cons_self ..)))).1, (rk_two (h.hl.2 _ (List.mem_cons_of_mem _ (List.mem_cons_self ..)))).2.1, (rk_two (h.hl.2 _ (List.mem_cons_of_mem _ (List.mem_cons_of_mem _ (List.mem_cons_self ..))))).1, (rk_two (h.hl.2 _ (List.mem_cons_of_mem _ (List.mem_cons_of_mem _ (List.mem_cons_self ..))))).2.1, (rk_three (h.hl.2 _ (List.mem_cons_of_mem _ (List.mem_cons_of_mem _ (List.mem_cons_of_mem _ (List.mem_cons_self ..)))))).1, (rk_three (h.hl.2 _ (List.mem_cons_of_mem _ (List.mem_cons_of_mem _ (List.mem_cons_of_mem _ (List.mem_cons_self ..)))))).2.1, (rk_three (h.hl.2 _ (List.mem_cons_of_mem _ (List.mem_cons_of_mem _ (List.mem_cons_of_mem _ (List.mem_cons_self ..)))))).2.2.1, (rk_two (h.hl.2 _ (List.mem_cons_of_mem _ (List.mem_cons_of_mem _ (List.mem_cons_of_mem _ (List.mem_cons_of_mem _ (List.mem_cons_self ..))))))).1, (rk_two (h.hl.2 _ (List.mem_cons_of_mem _ (List.mem_cons_of_mem _ (List.mem_cons_of_mem _ (List.mem_cons_of_mem _ (List.mem_cons_self ..))))))).2.1, h⟩)
        have hw0 : w0.heap.size ≤ w5.heap.size := S_w5.out.hl.1.size
        go_region_held3 (fun w' => w'.cell? ⟨N_g, 0, none⟩ = some (.slice ga gn gc) ∧ w'.cell? ⟨N_g, 1, none⟩ = some (.slice gA gN gC) ∧ w'.cell? ⟨w3.heap.size, 0, none⟩ = some (.slice xa xn xc) ∧ w'.cell? ⟨w3.heap.size, 1, none⟩ = some (.slice xA xN xC) ∧ w'.cell? ⟨N_a, 0, none⟩ = some (.slice aa an ac) ∧ w'.cell? ⟨N_a, 1, none⟩ = some (.slice aA aN aC) ∧ w'.cell? ⟨w0.heap.size + 1, 0, none⟩ = some (.int .i64 h0) ∧ w'.cell? ⟨w0.heap.size + 1, 1, none⟩ = some (.int .i64 h1) ∧ w'.cell? ⟨w0.heap.size + 1, 2, none⟩ = some (.int .i64 h2) ∧ w'.cell? ⟨w0.heap.size, 0, none⟩ = some (.slice sa sn sc) ∧ w'.cell? ⟨w0.heap.size, 1, none⟩ = some (.slice sA sN sC) ∧ Lw w0 [(N_g, #[.slice ga gn gc, .slice gA gN gC], 36), (w3.heap.size, #[.slice xa xn xc, .slice xA xN xC], 36), (N_a, #[.slice aa an ac, .slice aA aN aC], 36), (w0.heap.size + 1, #[.int .i64 h0, .int .i64 h1, .int .i64 h2], 23), (w0.heap.size, #[.slice sa sn sc, .slice sA sN sC], 32)] [(w3a.heap.size, hi_g, .agg #[.slice ga gn gc, .slice gA gN gC], qd), (w2.heap.size, w3.heap.size, .agg #[.slice xa xn xc, .slice xA xN xC], d), (w1.heap.size, hi_a, .agg #[.slice aa an ac, .slice aA aN aC], qd)] [] w')
          (first | exact HS.out _ KD.out | exact HS.out _ Q0.out | exact HS.out _ Q1.out)
          (first
            | (go_at_call 12
               refine Calls.mono (CTD.out _ _ _ _ (‹_ ∧ _ ∧ _ ∧ _ ∧ _ ∧ _ ∧ _ ∧ _ ∧ _ ∧ _ ∧ _ ∧ Lw _ _ _ _ _›).2.2.2.2.2.2.2.2.2.2.2) ?_
               rintro e y0 ⟨ta, tn, tc, tA, tN, tC, rfl, l0, o0, b0⟩
               have O0 := (show Hid (OwnDy w0.heap.size y0 (.agg #[.slice ta tn tc, .slice tA tN tC]) d) from o0)
               clear o0
               have Q0 := (show Hid (Lw w0 [(N_g, #[.slice ga gn gc, .slice gA gN gC], 36), (w3.heap.size, #[.slice xa xn xc, .slice xA xN xC], 36), (N_a, #[.slice aa an ac, .slice aA aN aC], 36), (w0.heap.size + 1, #[.int .i64 h0, .int .i64 h1, .int .i64 h2], 23), (w0.heap.size, #[.slice sa sn sc, .slice sA sN sC], 32)] [(w3a.heap.size, hi_g, .agg #[.slice ga gn gc, .slice gA gN gC], qd), (w2.heap.size, w3.heap.size, .agg #[.slice xa xn xc, .slice xA xN xC], d), (w1.heap.size, hi_a, .agg #[.slice aa an ac, .slice aA aN aC], qd)] [] y0) from l0)
               have z0 : w5.heap.size ≤ y0.heap.size := b0.size
               clear l0 b0)
            | (go_at_call 14
               refine Calls.mono (Q0.out.eqD (Q0.out.rows _ (List.mem_cons_of_mem _ (List.mem_cons_self ..))).1.at O0.out.at HF.out) ?_
               rintro e w6 ⟨rfl, l1, b1⟩
               have Q1 := (show Hid (Lw w0 [(N_g, #[.slice ga gn gc, .slice gA gN gC], 36), (w3.heap.size, #[.slice xa xn xc, .slice xA xN xC], 36), (N_a, #[.slice aa an ac, .slice aA aN aC], 36), (w0.heap.size + 1, #[.int .i64 h0, .int .i64 h1, .int .i64 h2], 23), (w0.heap.size, #[.slice sa sn sc, .slice sA sN sC], 32)] [(w3a.heap.size, hi_g, .agg #[.slice ga gn gc, .slice gA gN gC], qd), (w2.heap.size, w3.heap.size, .agg #[.slice xa xn xc, .slice xA xN xC], d), (w1.heap.size, hi_a, .agg #[.slice aa an ac, .slice aA aN aC], qd)] [] w6) from l1)
               have z1 : w5.heap.size ≤ w6.heap.size := Nat.le_trans z0 b1.size
               clear l1 b1))
        have S_w6 := (show Hid (Lw w0 [(N_g, #[.slice ga gn gc, .slice gA gN gC], 36), (w3.heap.size, #[.slice xa xn xc, .slice xA xN xC], 36), (N_a, #[.slice aa an ac, .slice aA aN aC], 36), (w0.heap.size + 1, #[.int .i64 h0, .int .i64 h1, .int .i64 h2], 23), (w0.heap.size, #[.slice sa sn sc, .slice sA sN sC], 32)] [(w3a.heap.size, hi_g, .agg #[.slice ga gn gc, .slice gA gN gC], qd), (w2.heap.size, w3.heap.size, .agg #[.slice xa xn xc, .slice xA xN xC], d), (w1.heap.size, hi_a, .agg #[.slice aa an ac, .slice aA aN aC], qd)] [] w6) from Q1.out)
        have Z8 := (show Hid (w5.heap.size ≤ w6.heap.size) from z1)
        clear Q1 Q0 O0 KD HS hw0 S_w5 z0 z1
        have T_w6 := (show Hid (Lw w0 [(N_g, #[.slice ga gn gc, .slice gA gN gC], 36), (w3.heap.size, #[.slice xa xn xc, .slice xA xN xC], 36), (N_a, #[.slice aa an ac, .slice aA aN aC], 36), (w0.heap.size + 1, #[.int .i64 h0, .int .i64 h1, .int .i64 h2], 23), (w0.heap.size, #[.slice sa sn sc, .slice sA sN sC], 32)] [(w2.heap.size, w3.heap.size, .agg #[.slice xa xn xc, .slice xA xN xC], d), (w3a.heap.size, hi_g, .agg #[.slice ga gn gc, .slice gA gN gC], qd), (w1.heap.size, hi_a, .agg #[.slice aa an ac, .slice aA aN aC], qd)] [] w6) from S_w6.out.sub (by simp) (by simp) (by simp))
        clear S_w6
        have S_w6 := T_w6
        clear T_w6
        have hlo : w0.heap.size ≤ w2.heap.size := by have := Z0.out; have := Z1.out; have := Z2.out; have := Z3.out; have := Z4.out; have := Z5.out; have := Z6.out; have := Z7.out; have := Z8.out; omega
        have hR : ∀ r ∈ ([(w3a.heap.size, hi_g, .agg #[.slice ga gn gc, .slice gA gN gC], qd), (w1.heap.size, hi_a, .agg #[.slice aa an ac, .slice aA aN aC], qd)] : List (Nat × Nat × Value × PDisk)), r.2.1 ≤ w2.heap.size ∨ w3.heap.size ≤ r.1 := by
          have := Z0.out; have := Z1.out; have := Z2.out; have := Z3.out; have := Z4.out; have := Z5.out; have := Z6.out; have := Z7.out; have := Z8.out
          simp only [List.mem_cons, List.not_mem_nil, or_false, forall_eq_or_imp, forall_eq]
          try omega
        have CM := (show Hid _ from S_w6.out.mkD HF.out hlo hR (by simp))
        clear hlo hR
        obtain ⟨c0_0, c0_1, _, _⟩ := rk_two (S_w6.out.hl.2 _ (List.mem_cons_self ..))
        obtain ⟨c1_0, c1_1, _, _⟩ := rk_two (S_w6.out.hl.2 _ (List.mem_cons_of_mem _ (List.mem_cons_self ..)))
        obtain ⟨c2_0, c2_1, _, _⟩ := rk_two (S_w6.out.hl.2 _ (List.mem_cons_of_mem _ (List.mem_cons_of_mem _ (List.mem_cons_self ..))))
        obtain ⟨c3_0, c3_1, c3_2, _⟩ := rk_three (S_w6.out.hl.2 _ (List.mem_cons_of_mem _ (List.mem_cons_of_mem _ (List.mem_cons_of_mem _ (List.mem_cons_self ..)))))
        obtain ⟨c4_0, c4_1, _, _⟩ := rk_two (S_w6.out.hl.2 _ (List.mem_cons_of_mem _ (List.mem_cons_of_mem _ (List.mem_cons_of_mem _ (List.mem_cons_of_mem _ (List.mem_cons_self ..))))))
        go_wp2_with fail
        go_at_call 15
        refine Calls.mono CM.out ?_
        rintro e w7 ⟨rfl, lw7⟩
        clear CM
        have S_w7 := (show Hid (Lw w0 [(N_g, #[.slice ga gn gc, .slice gA gN gC], 36), (w3.heap.size, #[.slice xa xn xc, .slice xA xN xC], 36), (N_a, #[.slice aa an ac, .slice aA aN aC], 36), (w0.heap.size + 1, #[.int .i64 h0, .int .i64 h1, .int .i64 h2], 23), (w0.heap.size, #[.slice sa sn sc, .slice sA sN sC], 32)] [(w2.heap.size, w3.heap.size, .agg #[.slice xa xn xc, .slice xA xN xC], (markDk d)), (w3a.heap.size, hi_g, .agg #[.slice ga gn gc, .slice gA gN gC], qd), (w1.heap.size, hi_a, .agg #[.slice aa an ac, .slice aA aN aC], qd)] [] w7) from lw7)
        clear S_w6 lw7
        clear c0_0 c0_1 c1_0 c1_1 c2_0 c2_1 c3_0 c3_1 c3_2 c4_0 c4_1
        have hf1 := HF.out.sl
        have hf2 := HF.out.ll
        have hk0 : ¬ (1 + (d.safe.length : Int) + 2 * d.late.length < 0) := by omega
        clear hf1 hf2
        obtain ⟨c0_0, c0_1, _, _⟩ := rk_two (S_w7.out.hl.2 _ (List.mem_cons_self ..))
        obtain ⟨c1_0, c1_1, _, _⟩ := rk_two (S_w7.out.hl.2 _ (List.mem_cons_of_mem _ (List.mem_cons_self ..)))
        obtain ⟨c2_0, c2_1, _, _⟩ := rk_two (S_w7.out.hl.2 _ (List.mem_cons_of_mem _ (List.mem_cons_of_mem _ (List.mem_cons_self ..))))
        obtain ⟨c3_0, c3_1, c3_2, _⟩ := rk_three (S_w7.out.hl.2 _ (List.mem_cons_of_mem _ (List.mem_cons_of_mem _ (List.mem_cons_of_mem _ (List.mem_cons_self ..)))))
        obtain ⟨c4_0, c4_1, _, _⟩ := rk_two (S_w7.out.hl.2 _ (List.mem_cons_of_mem _ (List.mem_cons_of_mem _ (List.mem_cons_of_mem _ (List.mem_cons_of_mem _ (List.mem_cons_self ..))))))
        go_wp2_with fail
        go_at_call 14
        refine (S_w7.out.eqD (S_w7.out.rows _ (List.mem_cons_of_mem _ (List.mem_cons_self ..))).1.at (S_w7.out.rows _ (List.mem_cons_of_mem _ (List.mem_cons_of_mem _ (List.mem_cons_self ..)))).1.at FQ.out).mono ?_
        rintro e w8 ⟨rfl, lw8, bw8⟩
        have Z9 := (show Hid (w7.heap.size ≤ w8.heap.size) from bw8.size)
        have S_w8 := (show Hid (Lw w0 [(N_g, #[.slice ga gn gc, .slice gA gN gC], 36), (w3.heap.size, #[.slice xa xn xc, .slice xA xN xC], 36), (N_a, #[.slice aa an ac, .slice aA aN aC], 36), (w0.heap.size + 1, #[.int .i64 h0, .int .i64 h1, .int .i64 h2], 23), (w0.heap.size, #[.slice sa sn sc, .slice sA sN sC], 32)] [(w2.heap.size, w3.heap.size, .agg #[.slice xa xn xc, .slice xA xN xC], (markDk d)), (w3a.heap.size, hi_g, .agg #[.slice ga gn gc, .slice gA gN gC], qd), (w1.heap.size, hi_a, .agg #[.slice aa an ac, .slice aA aN aC], qd)] [] w8) from lw8)
        clear S_w7 bw8
        clear c0_0 c0_1 c1_0 c1_1 c2_0 c2_1 c3_0 c3_1 c3_2 c4_0 c4_1
        clear lw8
        clear hk0
        have T_w8 := (show Hid (Lw w0 [(N_g, #[.slice ga gn gc, .slice gA gN gC], 36), (w3.heap.size, #[.slice xa xn xc, .slice xA xN xC], 36), (N_a, #[.slice aa an ac, .slice aA aN aC], 36), (w0.heap.size + 1, #[.int .i64 h0, .int .i64 h1, .int .i64 h2], 23), (w0.heap.size, #[.slice sa sn sc, .slice sA sN sC], 32)] [(w3a.heap.size, hi_g, .agg #[.slice ga gn gc, .slice gA gN gC], qd), (w2.heap.size, w3.heap.size, .agg #[.slice xa xn xc, .slice xA xN xC], (markDk d)), (w1.heap.size, hi_a, .agg #[.slice aa an ac, .slice aA aN aC], qd)] [] w8) from S_w8.out.sub (by simp) (by simp) (by simp))
        clear S_w8
        have S_w8 := T_w8
        clear T_w8
        have hlo : w0.heap.size ≤ w3a.heap.size := by have := Z0.out; have := Z1.out; have := Z2.out; have := Z3.out; have := Z4.out; have := Z5.out; have := Z6.out; have := Z7.out; have := Z8.out; have := Z9.out; omega
        have hR : ∀ r ∈ ([(w2.heap.size, w3.heap.size, .agg #[.slice xa xn xc, .slice xA xN xC], (markDk d)), (w1.heap.size, hi_a, .agg #[.slice aa an ac, .slice aA aN aC], qd)] : List (Nat × Nat × Value × PDisk)), r.2.1 ≤ w3a.heap.size ∨ hi_g ≤ r.1 := by
          have := Z0.out; have := Z1.out; have := Z2.out; have := Z3.out; have := Z4.out; have := Z5.out; have := Z6.out; have := Z7.out; have := Z8.out; have := Z9.out
          simp only [List.mem_cons, List.not_mem_nil, or_false, forall_eq_or_imp, forall_eq]
          try omega
        have CM := (show Hid _ from S_w8.out.mkD FQ.out hlo hR (by simp))
        clear hlo hR
        obtain ⟨c0_0, c0_1, _, _⟩ := rk_two (S_w8.out.hl.2 _ (List.mem_cons_self ..))
        obtain ⟨c1_0, c1_1, _, _⟩ := rk_two (S_w8.out.hl.2 _ (List.mem_cons_of_mem _ (List.mem_cons_self ..)))
        obtain ⟨c2_0, c2_1, _, _⟩ := rk_two (S_w8.out.hl.2 _ (List.mem_cons_of_mem _ (List.mem_cons_of_mem _ (List.mem_cons_self ..))))
        obtain ⟨c3_0, c3_1, c3_2, _⟩ := rk_three (S_w8.out.hl.2 _ (List.mem_cons_of_mem _ (List.mem_cons_of_mem _ (List.mem_cons_of_mem _ (List.mem_cons_self ..)))))
        obtain ⟨c4_0, c4_1, _, _⟩ := rk_two (S_w8.out.hl.2 _ (List.mem_cons_of_mem _ (List.mem_cons_of_mem _ (List.mem_cons_of_mem _ (List.mem_cons_of_mem _ (List.mem_cons_self ..))))))
        go_wp2_with fail
        go_at_call 15
        refine Calls.mono CM.out ?_
        rintro e w9 ⟨rfl, lw9⟩
        clear CM
        have S_w9 := (show Hid (Lw w0 [(N_g, #[.slice ga gn gc, .slice gA gN gC], 36), (w3.heap.size, #[.slice xa xn xc, .slice xA xN xC], 36), (N_a, #[.slice aa an ac, .slice aA aN aC], 36), (w0.heap.size + 1, #[.int .i64 h0, .int .i64 h1, .int .i64 h2], 23), (w0.heap.size, #[.slice sa sn sc, .slice sA sN sC], 32)] [(w3a.heap.size, hi_g, .agg #[.slice ga gn gc, .slice gA gN gC], (markDk qd)), (w2.heap.size, w3.heap.size, .agg #[.slice xa xn xc, .slice xA xN xC], (markDk d)), (w1.heap.size, hi_a, .agg #[.slice aa an ac, .slice aA aN aC], qd)] [] w9) from lw9)
        clear S_w8 lw9
        clear c0_0 c0_1 c1_0 c1_1 c2_0 c2_1 c3_0 c3_1 c3_2 c4_0 c4_1
        have hk1 : ¬ (1 + (qd.safe.length : Int) + 2 * qd.late.length < 0) := by omega
        have hk2 : ((1 + (qd.safe.length : Int) + 2 * qd.late.length) != (1 + (qd.safe.length : Int) + 2 * qd.late.length)) = false := by simp
        obtain ⟨c0_0, c0_1, _, _⟩ := rk_two (S_w9.out.hl.2 _ (List.mem_cons_self ..))
        obtain ⟨c1_0, c1_1, _, _⟩ := rk_two (S_w9.out.hl.2 _ (List.mem_cons_of_mem _ (List.mem_cons_self ..)))
        obtain ⟨c2_0, c2_1, _, _⟩ := rk_two (S_w9.out.hl.2 _ (List.mem_cons_of_mem _ (List.mem_cons_of_mem _ (List.mem_cons_self ..))))
        obtain ⟨c3_0, c3_1, c3_2, _⟩ := rk_three (S_w9.out.hl.2 _ (List.mem_cons_of_mem _ (List.mem_cons_of_mem _ (List.mem_cons_of_mem _ (List.mem_cons_self ..)))))
        obtain ⟨c4_0, c4_1, _, _⟩ := rk_two (S_w9.out.hl.2 _ (List.mem_cons_of_mem _ (List.mem_cons_of_mem _ (List.mem_cons_of_mem _ (List.mem_cons_of_mem _ (List.mem_cons_self ..))))))
        go_wp2_with fail
        go_at_call 16
        refine (S_w9.out.heldD (d := qd) (S_w9.out.rows _ (List.mem_cons_self ..)).1.at FQ.out).mono ?_
        rintro e w10 ⟨rfl, lw10, bw10⟩
        have Z10 := (show Hid (w9.heap.size ≤ w10.heap.size) from bw10.size)
        have S_w10 := (show Hid (Lw w0 [(N_g, #[.slice ga gn gc, .slice gA gN gC], 36), (w3.heap.size, #[.slice xa xn xc, .slice xA xN xC], 36), (N_a, #[.slice aa an ac, .slice aA aN aC], 36), (w0.heap.size + 1, #[.int .i64 h0, .int .i64 h1, .int .i64 h2], 23), (w0.heap.size, #[.slice sa sn sc, .slice sA sN sC], 32)] [(w3a.heap.size, hi_g, .agg #[.slice ga gn gc, .slice gA gN gC], (markDk qd)), (w2.heap.size, w3.heap.size, .agg #[.slice xa xn xc, .slice xA xN xC], (markDk d)), (w1.heap.size, hi_a, .agg #[.slice aa an ac, .slice aA aN aC], qd)] [] w10) from lw10)
        clear S_w9 bw10
        clear c0_0 c0_1 c1_0 c1_1 c2_0 c2_1 c3_0 c3_1 c3_2 c4_0 c4_1
        clear lw10
        obtain ⟨c0_0, c0_1, _, _⟩ := rk_two (S_w10.out.hl.2 _ (List.mem_cons_self ..))
        obtain ⟨c1_0, c1_1, _, _⟩ := rk_two (S_w10.out.hl.2 _ (List.mem_cons_of_mem _ (List.mem_cons_self ..)))
        obtain ⟨c2_0, c2_1, _, _⟩ := rk_two (S_w10.out.hl.2 _ (List.mem_cons_of_mem _ (List.mem_cons_of_mem _ (List.mem_cons_self ..))))
        obtain ⟨c3_0, c3_1, c3_2, _⟩ := rk_three (S_w10.out.hl.2 _ (List.mem_cons_of_mem _ (List.mem_cons_of_mem _ (List.mem_cons_of_mem _ (List.mem_cons_self ..)))))
        obtain ⟨c4_0, c4_1, _, _⟩ := rk_two (S_w10.out.hl.2 _ (List.mem_cons_of_mem _ (List.mem_cons_of_mem _ (List.mem_cons_of_mem _ (List.mem_cons_of_mem _ (List.mem_cons_self ..))))))
        go_wp2_with fail
        clear c0_0 c0_1 c1_0 c1_1 c2_0 c2_1 c3_0 c3_1 c3_2 c4_0 c4_1
        have KD := (show Hid (Lw w0 [(N_g, #[.slice ga gn gc, .slice gA gN gC], 36), (w3.heap.size, #[.slice xa xn xc, .slice xA xN xC], 36), (N_a, #[.slice aa an ac, .slice aA aN aC], 36), (w0.heap.size + 1, #[.int .i64 h0, .int .i64 h1, .int .i64 h2], 23), (w0.heap.size, #[.slice sa sn sc, .slice sA sN sC], 32)] [(w3a.heap.size, hi_g, .agg #[.slice ga gn gc, .slice gA gN gC], (markDk qd)), (w2.heap.size, w3.heap.size, .agg #[.slice xa xn xc, .slice xA xN xC], (markDk d)), (w1.heap.size, hi_a, .agg #[.slice aa an ac, .slice aA aN aC], qd)] [] w10.drew) from S_w10.out.below (below_drewN 1))
        have HS := (show Hid (∀ W, Lw w0 [(N_g, #[.slice ga gn gc, .slice gA gN gC], 36), (w3.heap.size, #[.slice xa xn xc, .slice xA xN xC], 36), (N_a, #[.slice aa an ac, .slice aA aN aC], 36), (w0.heap.size + 1, #[.int .i64 h0, .int .i64 h1, .int .i64 h2], 23), (w0.heap.size, #[.slice sa sn sc, .slice sA sN sC], 32)] [(w3a.heap.size, hi_g, .agg #[.slice ga gn gc, .slice gA gN gC], (markDk qd)), (w2.heap.size, w3.heap.size, .agg #[.slice xa xn xc, .slice xA xN xC], (markDk d)), (w1.heap.size, hi_a, .agg #[.slice aa an ac, .slice aA aN aC], qd)] [] W → W.cell? ⟨N_g, 0, none⟩ = some (.slice ga gn gc) ∧ W.cell? ⟨N_g, 1, none⟩ = some (.slice gA gN gC) ∧ W.cell? ⟨w3.heap.size, 0, none⟩ = some (.slice xa xn xc) ∧ W.cell? ⟨w3.heap.size, 1, none⟩ = some (.slice xA xN xC) ∧ W.cell? ⟨N_a, 0, none⟩ = some (.slice aa an ac) ∧ W.cell? ⟨N_a, 1, none⟩ = some (.slice aA aN aC) ∧ W.cell? ⟨w0.heap.size + 1, 0, none⟩ = some (.int .i64 h0) ∧ W.cell? ⟨w0.heap.size + 1, 1, none⟩ = some (.int .i64 h1) ∧ W.cell? ⟨w0.heap.size + 1, 2, none⟩ = some (.int .i64 h2) ∧ W.cell? ⟨w0.heap.size, 0, none⟩ = some (.slice sa sn sc) ∧ W.cell? ⟨w0.heap.size, 1, none⟩ = some (.slice sA sN sC) ∧ Lw w0 [(N_g, #[.slice ga gn gc, .slice gA gN gC], 36), (w3.heap.size, #[.slice xa xn xc, .slice xA xN xC], 36), (N_a, #[.slice aa an ac, .slice aA aN aC], 36), (w0.heap.size + 1, #[.int .i64 h0, .int .i64 h1, .int .i64 h2], 23), (w0.heap.size, #[.slice sa sn sc, .slice sA sN sC], 32)] [(w3a.heap.size, hi_g, .agg #[.slice ga gn gc, .slice gA gN gC], (markDk qd)), (w2.heap.size, w3.heap.size, .agg #[.slice xa xn xc, .slice xA xN xC], (markDk d)), (w1.heap.size, hi_a, .agg #[.slice aa an ac, .slice aA aN aC], qd)] [] W) from fun W h => ⟨(rk_two (h.hl.2 _ (List.mem_cons_self ..))).1, (rk_two (h.hl.2 _ (List.mem_cons_self ..))).2.1, (rk_two (h.hl.2 _ (List.mem_cons_of_mem _ (List.mem_cons_self ..)))).1, (rk_two (h.hl.2 _ (List.mem_cons_of_mem _ (List.mem_cons_self ..)))).2.1, (rk_two (h.hl.2 _ (List.mem_cons_of_mem _ (List.mem_cons_of_mem _ (List.mem_cons_self ..))))).1, (rk_two (h.hl.2 _ (List.mem_cons_of_mem _ (List.mem_cons_of_mem _ (List.mem_cons_self ..))))).2.1, (rk_three (h.hl.2 _ (List.mem_cons_of_mem _ (List.mem_cons_of_mem _ (List.mem_cons_of_mem _ (List.mem_cons_self ..)))))).1, (rk_three (h.hl.2 _ (List.mem_cons_of_mem _ (List.mem_cons_of_mem _ (List.mem_cons_of_mem _ (List.mem_cons_self ..)))))).2.1, (rk_three (h.hl.2 _ (List.mem_cons_of_mem _ (List.mem_cons_of_mem _ (List.mem_cons_of_mem _ (List.mem_cons_self ..)))))).2.2.1, (rk_two (h.hl.2 _ (List.mem_cons_of_mem _ (List.mem_cons_of_mem _ (List.mem_cons_of_mem _ (List.mem_cons_of_mem _ (List.mem_cons_self ..))))))).1, (rk_two (h.hl.2 _ (List.mem_cons_of_mem _ (List.mem_cons_of_mem _ (List.mem_cons_of_mem _ (List.mem_cons_of_mem _ (List.mem_cons_self ..))))))).2.1, h⟩)
        have hw0 : w0.heap.size ≤ w10.heap.size := S_w10.out.hl.1.size
        have hLL : Hid (∀ N, w10.heap.size ≤ N → ∀ p ∈ ([(N_g, #[.slice ga gn gc, .slice gA gN gC], 36), (w3.heap.size, #[.slice xa xn xc, .slice xA xN xC], 36), (N_a, #[.slice aa an ac, .slice aA aN aC], 36), (w0.heap.size + 1, #[.int .i64 h0, .int .i64 h1, .int .i64 h2], 23), (w0.heap.size, #[.slice sa sn sc, .slice sA sN sC], 32)] : List (Nat × Array Value × TypeId)), p.1 ≠ N) := fun N hN p hp => by have := S_w10.out.hl.lt hp; omega
        go_cut [14, 15] from 16 to 103 (fun s5 s6 wx => ∃ N hi ka kn kc kA kN kC, s5 = .pointer (some ⟨N, 0, none⟩) ∧ s6 = .bool qb ∧ hi ≤ wx.heap.size ∧ Lw w0 [(N, #[.slice ka kn kc, .slice kA kN kC], 36), (N_g, #[.slice ga gn gc, .slice gA gN gC], 36), (w3.heap.size, #[.slice xa xn xc, .slice xA xN xC], 36), (N_a, #[.slice aa an ac, .slice aA aN aC], 36), (w0.heap.size + 1, #[.int .i64 h0, .int .i64 h1, .int .i64 h2], 23), (w0.heap.size, #[.slice sa sn sc, .slice sA sN sC], 32)] [(w10.heap.size, hi, .agg #[.slice ka kn kc, .slice kA kN kC], qd), (w3a.heap.size, hi_g, .agg #[.slice ga gn gc, .slice gA gN gC], (markDk qd)), (w2.heap.size, w3.heap.size, .agg #[.slice xa xn xc, .slice xA xN xC], (markDk d)), (w1.heap.size, hi_a, .agg #[.slice aa an ac, .slice aA aN aC], qd)] [] wx)
        case first =>
          go_region_held3 (fun w' => w'.cell? ⟨N_g, 0, none⟩ = some (.slice ga gn gc) ∧ w'.cell? ⟨N_g, 1, none⟩ = some (.slice gA gN gC) ∧ w'.cell? ⟨w3.heap.size, 0, none⟩ = some (.slice xa xn xc) ∧ w'.cell? ⟨w3.heap.size, 1, none⟩ = some (.slice xA xN xC) ∧ w'.cell? ⟨N_a, 0, none⟩ = some (.slice aa an ac) ∧ w'.cell? ⟨N_a, 1, none⟩ = some (.slice aA aN aC) ∧ w'.cell? ⟨w0.heap.size + 1, 0, none⟩ = some (.int .i64 h0) ∧ w'.cell? ⟨w0.heap.size + 1, 1, none⟩ = some (.int .i64 h1) ∧ w'.cell? ⟨w0.heap.size + 1, 2, none⟩ = some (.int .i64 h2) ∧ w'.cell? ⟨w0.heap.size, 0, none⟩ = some (.slice sa sn sc) ∧ w'.cell? ⟨w0.heap.size, 1, none⟩ = some (.slice sA sN sC) ∧ Lw w0 [(N_g, #[.slice ga gn gc, .slice gA gN gC], 36), (w3.heap.size, #[.slice xa xn xc, .slice xA xN xC], 36), (N_a, #[.slice aa an ac, .slice aA aN aC], 36), (w0.heap.size + 1, #[.int .i64 h0, .int .i64 h1, .int .i64 h2], 23), (w0.heap.size, #[.slice sa sn sc, .slice sA sN sC], 32)] [(w3a.heap.size, hi_g, .agg #[.slice ga gn gc, .slice gA gN gC], (markDk qd)), (w2.heap.size, w3.heap.size, .agg #[.slice xa xn xc, .slice xA xN xC], (markDk d)), (w1.heap.size, hi_a, .agg #[.slice aa an ac, .slice aA aN aC], qd)] [] w')
            (first | exact HS.out _ KD.out | exact HS.out _ (KD.out.new _ _).tail | exact HS.out _ Q0.out | exact HS.out _ (Q0.out.new _ _).tail | exact HS.out _ Q1.out | exact HS.out _ (Q1.out.new _ _).tail | exact HS.out _ Q2.out | exact HS.out _ (Q2.out.new _ _).tail | exact HS.out _ (PS.out.tail.sub (by simp) (by simp) (by simp)) | exact HS.out _ (PN.out.tail.sub (by simp) (by simp) (by simp)))
            (first
              | (go_at_call 12
                 refine Calls.mono (CTD.out _ _ _ _ (‹_ ∧ _ ∧ _ ∧ _ ∧ _ ∧ _ ∧ _ ∧ _ ∧ _ ∧ _ ∧ _ ∧ Lw _ _ _ _ _›).2.2.2.2.2.2.2.2.2.2.2) ?_
                 rintro e y0 ⟨ta, tn, tc, tA, tN, tC, rfl, l0, o0, b0⟩
                 have O0 := (show Hid (OwnDy w0.heap.size y0 (.agg #[.slice ta tn tc, .slice tA tN tC]) d) from o0)
                 clear o0
                 have Q0 := (show Hid (Lw w0 [(N_g, #[.slice ga gn gc, .slice gA gN gC], 36), (w3.heap.size, #[.slice xa xn xc, .slice xA xN xC], 36), (N_a, #[.slice aa an ac, .slice aA aN aC], 36), (w0.heap.size + 1, #[.int .i64 h0, .int .i64 h1, .int .i64 h2], 23), (w0.heap.size, #[.slice sa sn sc, .slice sA sN sC], 32)] [(w3a.heap.size, hi_g, .agg #[.slice ga gn gc, .slice gA gN gC], (markDk qd)), (w2.heap.size, w3.heap.size, .agg #[.slice xa xn xc, .slice xA xN xC], (markDk d)), (w1.heap.size, hi_a, .agg #[.slice aa an ac, .slice aA aN aC], qd)] [] y0) from l0)
                 have z0 : w10.heap.size ≤ y0.heap.size := by have := b0.size; (try simp at this); omega
                 (first
                   | (have M0 := (show Hid (Lw w0 ((w10.heap.size, #[.slice none 0 0, .slice none 0 0], 36) :: [(N_g, #[.slice ga gn gc, .slice gA gN gC], 36), (w3.heap.size, #[.slice xa xn xc, .slice xA xN xC], 36), (N_a, #[.slice aa an ac, .slice aA aN aC], 36), (w0.heap.size + 1, #[.int .i64 h0, .int .i64 h1, .int .i64 h2], 23), (w0.heap.size, #[.slice sa sn sc, .slice sA sN sC], 32)]) [(w3a.heap.size, hi_g, .agg #[.slice ga gn gc, .slice gA gN gC], (markDk qd)), (w2.heap.size, w3.heap.size, .agg #[.slice xa xn xc, .slice xA xN xC], (markDk d)), (w1.heap.size, hi_a, .agg #[.slice aa an ac, .slice aA aN aC], qd)] [] y0) from (KD.out.new #[.slice none 0 0, .slice none 0 0] 36).below b0))
                   | skip)
                 clear l0 b0)
              | (go_at_call 8
                 refine Calls.mono (CTH.out _ _ _ _ (‹_ ∧ _ ∧ _ ∧ _ ∧ _ ∧ _ ∧ _ ∧ _ ∧ _ ∧ _ ∧ _ ∧ Lw _ _ _ _ _›).2.2.2.2.2.2.2.2.2.2.2) ?_
                 rintro e y1 ⟨rfl, l1, b1⟩
                 have O0 := (show Hid (OwnDy w0.heap.size y1 (.agg #[.slice ta tn tc, .slice tA tN tC]) d) from by first | exact O0.out.below b1 | exact (O0.out.below ((Below.refl _ _).alloc (Nat.le_refl _) _)).below b1)
                 have Q1 := (show Hid (Lw w0 [(N_g, #[.slice ga gn gc, .slice gA gN gC], 36), (w3.heap.size, #[.slice xa xn xc, .slice xA xN xC], 36), (N_a, #[.slice aa an ac, .slice aA aN aC], 36), (w0.heap.size + 1, #[.int .i64 h0, .int .i64 h1, .int .i64 h2], 23), (w0.heap.size, #[.slice sa sn sc, .slice sA sN sC], 32)] [(w3a.heap.size, hi_g, .agg #[.slice ga gn gc, .slice gA gN gC], (markDk qd)), (w2.heap.size, w3.heap.size, .agg #[.slice xa xn xc, .slice xA xN xC], (markDk d)), (w1.heap.size, hi_a, .agg #[.slice aa an ac, .slice aA aN aC], qd)] [] y1) from l1)
                 have z1 : y0.heap.size ≤ y1.heap.size := by have := b1.size; (try simp at this); omega
                 (first
                   | (have m1 := M0.out.below b1
                      have M1 := (show Hid _ from m1)
                      clear m1)
                   | (have M1 := (show Hid (Lw w0 ((y0.heap.size, #[.slice none 0 0, .slice none 0 0], 36) :: [(N_g, #[.slice ga gn gc, .slice gA gN gC], 36), (w3.heap.size, #[.slice xa xn xc, .slice xA xN xC], 36), (N_a, #[.slice aa an ac, .slice aA aN aC], 36), (w0.heap.size + 1, #[.int .i64 h0, .int .i64 h1, .int .i64 h2], 23), (w0.heap.size, #[.slice sa sn sc, .slice sA sN sC], 32)]) [(w3a.heap.size, hi_g, .agg #[.slice ga gn gc, .slice gA gN gC], (markDk qd)), (w2.heap.size, w3.heap.size, .agg #[.slice xa xn xc, .slice xA xN xC], (markDk d)), (w1.heap.size, hi_a, .agg #[.slice aa an ac, .slice aA aN aC], qd)] [] y1) from (Q0.out.new #[.slice none 0 0, .slice none 0 0] 36).below b1))
                   | skip)
                 clear l1 b1)
              | (go_at_call 13
                 refine Calls.mono (CI.out _ _ _ _ _ _ w10.heap.size (‹_ ∧ _ ∧ _ ∧ _ ∧ _ ∧ _ ∧ _ ∧ _ ∧ _ ∧ _ ∧ _ ∧ Lw _ _ _ _ _›).2.2.2.2.2.2.2.2.2.2.2 ?_ ?_) ?_
                 · (try simp); omega
                 · first | exact O0.out.at | exact (O0.out.below ((Below.refl _ _).alloc (Nat.le_refl _) _)).at
                 rintro e y2 ⟨ka, kn, kc, kA, kN, kC, rfl, o2, l2, b2⟩
                 have Q2 := (show Hid (Lw w0 [(N_g, #[.slice ga gn gc, .slice gA gN gC], 36), (w3.heap.size, #[.slice xa xn xc, .slice xA xN xC], 36), (N_a, #[.slice aa an ac, .slice aA aN aC], 36), (w0.heap.size + 1, #[.int .i64 h0, .int .i64 h1, .int .i64 h2], 23), (w0.heap.size, #[.slice sa sn sc, .slice sA sN sC], 32)] [(w3a.heap.size, hi_g, .agg #[.slice ga gn gc, .slice gA gN gC], (markDk qd)), (w2.heap.size, w3.heap.size, .agg #[.slice xa xn xc, .slice xA xN xC], (markDk d)), (w1.heap.size, hi_a, .agg #[.slice aa an ac, .slice aA aN aC], qd)] [] y2) from l2)
                 have z2 : y1.heap.size ≤ y2.heap.size := by have := b2.size; (try simp at this); omega
                 (first
                   | (have n2 := (M1.out.below b2).add o2
                      obtain ⟨m1, m2, m3, m4⟩ := rk_two n2.hl.at0
                      have PS := (show Hid _ from n2.set2 (by omega) (hLL.out _ (by omega)) (.slice ka kn kc) (.slice kA kN kC))
                      clear n2)
                   | (have n2 := ((Q1.out.new #[.slice none 0 0, .slice none 0 0] 36).below b2).add o2
                      obtain ⟨m1, m2, m3, m4⟩ := rk_two n2.hl.at0
                      have PS := (show Hid _ from n2.set2 (by omega) (hLL.out _ (by omega)) (.slice ka kn kc) (.slice kA kN kC))
                      clear n2)
                   | (have PN := (show Hid _ from (Q2.out.add o2).new #[.slice ka kn kc, .slice kA kN kC] 36)))
                 clear l2 b2 o2))
          all_goals go_wp2
          all_goals go_meet
          all_goals
            case rel =>
              with_reducible first
                | exact ⟨_, _, _, _, _, _, _, _, rfl, rfl, size_set2 _ _ _ _ _, PS.out⟩
                | exact ⟨_, _, _, _, _, _, _, _, rfl, rfl, size_new _ _, PN.out⟩
        case rest =>
          obtain ⟨w11, rfl⟩ : ∃ x, x = wc := ⟨_, rfl⟩
          obtain ⟨N_k, hi_k, ka, kn, kc, kA, kN, kC, rfl, rfl, hz, hc⟩ := hcut
          have Z11 := (show Hid (hi_k ≤ w11.heap.size) from hz)
          have S_w11 := (show Hid (Lw w0 [(N_k, #[.slice ka kn kc, .slice kA kN kC], 36), (N_g, #[.slice ga gn gc, .slice gA gN gC], 36), (w3.heap.size, #[.slice xa xn xc, .slice xA xN xC], 36), (N_a, #[.slice aa an ac, .slice aA aN aC], 36), (w0.heap.size + 1, #[.int .i64 h0, .int .i64 h1, .int .i64 h2], 23), (w0.heap.size, #[.slice sa sn sc, .slice sA sN sC], 32)] [(w10.heap.size, hi_k, .agg #[.slice ka kn kc, .slice kA kN kC], qd), (w3a.heap.size, hi_g, .agg #[.slice ga gn gc, .slice gA gN gC], (markDk qd)), (w2.heap.size, w3.heap.size, .agg #[.slice xa xn xc, .slice xA xN xC], (markDk d)), (w1.heap.size, hi_a, .agg #[.slice aa an ac, .slice aA aN aC], qd)] [] w11) from hc)
          have Z12 := (show Hid (w0.heap.size ≤ w11.heap.size) from S_w11.out.hl.1.size)
          clear hc hz KD HS hLL hw0 S_w10
          obtain ⟨c0_0, c0_1, _, _⟩ := rk_two (S_w11.out.hl.2 _ (List.mem_cons_self ..))
          obtain ⟨c1_0, c1_1, _, _⟩ := rk_two (S_w11.out.hl.2 _ (List.mem_cons_of_mem _ (List.mem_cons_self ..)))
          obtain ⟨c2_0, c2_1, _, _⟩ := rk_two (S_w11.out.hl.2 _ (List.mem_cons_of_mem _ (List.mem_cons_of_mem _ (List.mem_cons_self ..))))
          obtain ⟨c3_0, c3_1, _, _⟩ := rk_two (S_w11.out.hl.2 _ (List.mem_cons_of_mem _ (List.mem_cons_of_mem _ (List.mem_cons_of_mem _ (List.mem_cons_self ..)))))
          obtain ⟨c4_0, c4_1, c4_2, _⟩ := rk_three (S_w11.out.hl.2 _ (List.mem_cons_of_mem _ (List.mem_cons_of_mem _ (List.mem_cons_of_mem _ (List.mem_cons_of_mem _ (List.mem_cons_self ..))))))
          obtain ⟨c5_0, c5_1, _, _⟩ := rk_two (S_w11.out.hl.2 _ (List.mem_cons_of_mem _ (List.mem_cons_of_mem _ (List.mem_cons_of_mem _ (List.mem_cons_of_mem _ (List.mem_cons_of_mem _ (List.mem_cons_self ..)))))))
          go_wp2_with fail
          go_at_call 14
          refine (S_w11.out.eqD (S_w11.out.rows _ (List.mem_cons_self ..)).1.at (S_w11.out.rows _ (List.mem_cons_of_mem _ (List.mem_cons_of_mem _ (List.mem_cons_of_mem _ (List.mem_cons_self ..))))).1.at FQ.out).mono ?_
          rintro e w12 ⟨rfl, lw12, bw12⟩
          have Z13 := (show Hid (w11.heap.size ≤ w12.heap.size) from bw12.size)
          have S_w12 := (show Hid (Lw w0 [(N_k, #[.slice ka kn kc, .slice kA kN kC], 36), (N_g, #[.slice ga gn gc, .slice gA gN gC], 36), (w3.heap.size, #[.slice xa xn xc, .slice xA xN xC], 36), (N_a, #[.slice aa an ac, .slice aA aN aC], 36), (w0.heap.size + 1, #[.int .i64 h0, .int .i64 h1, .int .i64 h2], 23), (w0.heap.size, #[.slice sa sn sc, .slice sA sN sC], 32)] [(w10.heap.size, hi_k, .agg #[.slice ka kn kc, .slice kA kN kC], qd), (w3a.heap.size, hi_g, .agg #[.slice ga gn gc, .slice gA gN gC], (markDk qd)), (w2.heap.size, w3.heap.size, .agg #[.slice xa xn xc, .slice xA xN xC], (markDk d)), (w1.heap.size, hi_a, .agg #[.slice aa an ac, .slice aA aN aC], qd)] [] w12) from lw12)
          clear S_w11 bw12
          clear c0_0 c0_1 c1_0 c1_1 c2_0 c2_1 c3_0 c3_1 c4_0 c4_1 c4_2 c5_0 c5_1
          clear lw12
          obtain ⟨c0_0, c0_1, _, _⟩ := rk_two (S_w12.out.hl.2 _ (List.mem_cons_self ..))
          obtain ⟨c1_0, c1_1, _, _⟩ := rk_two (S_w12.out.hl.2 _ (List.mem_cons_of_mem _ (List.mem_cons_self ..)))
          obtain ⟨c2_0, c2_1, _, _⟩ := rk_two (S_w12.out.hl.2 _ (List.mem_cons_of_mem _ (List.mem_cons_of_mem _ (List.mem_cons_self ..))))
          obtain ⟨c3_0, c3_1, _, _⟩ := rk_two (S_w12.out.hl.2 _ (List.mem_cons_of_mem _ (List.mem_cons_of_mem _ (List.mem_cons_of_mem _ (List.mem_cons_self ..)))))
          obtain ⟨c4_0, c4_1, c4_2, _⟩ := rk_three (S_w12.out.hl.2 _ (List.mem_cons_of_mem _ (List.mem_cons_of_mem _ (List.mem_cons_of_mem _ (List.mem_cons_of_mem _ (List.mem_cons_self ..))))))
          obtain ⟨c5_0, c5_1, _, _⟩ := rk_two (S_w12.out.hl.2 _ (List.mem_cons_of_mem _ (List.mem_cons_of_mem _ (List.mem_cons_of_mem _ (List.mem_cons_of_mem _ (List.mem_cons_of_mem _ (List.mem_cons_self ..)))))))
          go_wp2_with fail
          go_at_call 16
          refine (S_w12.out.heldD (d := qd) (S_w12.out.rows _ (List.mem_cons_of_mem _ (List.mem_cons_self ..))).1.at FQ.out).mono ?_
          rintro e w13 ⟨rfl, lw13, bw13⟩
          have Z14 := (show Hid (w12.heap.size ≤ w13.heap.size) from bw13.size)
          have S_w13 := (show Hid (Lw w0 [(N_k, #[.slice ka kn kc, .slice kA kN kC], 36), (N_g, #[.slice ga gn gc, .slice gA gN gC], 36), (w3.heap.size, #[.slice xa xn xc, .slice xA xN xC], 36), (N_a, #[.slice aa an ac, .slice aA aN aC], 36), (w0.heap.size + 1, #[.int .i64 h0, .int .i64 h1, .int .i64 h2], 23), (w0.heap.size, #[.slice sa sn sc, .slice sA sN sC], 32)] [(w10.heap.size, hi_k, .agg #[.slice ka kn kc, .slice kA kN kC], qd), (w3a.heap.size, hi_g, .agg #[.slice ga gn gc, .slice gA gN gC], (markDk qd)), (w2.heap.size, w3.heap.size, .agg #[.slice xa xn xc, .slice xA xN xC], (markDk d)), (w1.heap.size, hi_a, .agg #[.slice aa an ac, .slice aA aN aC], qd)] [] w13) from lw13)
          clear S_w12 bw13
          clear c0_0 c0_1 c1_0 c1_1 c2_0 c2_1 c3_0 c3_1 c4_0 c4_1 c4_2 c5_0 c5_1
          clear lw13
          go_wp2
          go_ret
          exact ⟨rfl, S_w13.out.hl.1⟩
end Go.Proofs.Ytiejfnnokfedkaa

/- The program's small questions on heads and areas. No condition. -/
namespace Go.Proofs.Ytiejfnnokfedkaa
open Go.RowKit
set_option maxRecDepth 100000
set_option linter.unusedVariables false

theorem iisArea_any (x : Int) (w : World) : Calls Try.prog 55 #[.int .i64 x] w fun e w' => e = .returned (.bool (inB x 0 1)) ∧ w' = w := by
  by_cases h1 : 0 ≤ x
  · by_cases h2 : x < 2
    · rw [inB_yes h1 (by omega)]
      go_enter Try.func55, Try.ntmps55
      go_wp2
      go_ret
      exact ⟨rfl, rfl⟩
    · have : inB x 0 1 = false := by simp [inB]; omega
      rw [this]
      go_enter Try.func55, Try.ntmps55
      go_wp2
      go_ret
      exact ⟨rfl, rfl⟩
  · have : inB x 0 1 = false := by simp [inB]; omega
    rw [this]
    go_enter Try.func55, Try.ntmps55
    go_wp2
    go_ret
    exact ⟨rfl, rfl⟩

set_option maxRecDepth 100000 in
theorem iisRight_any (h : PHead) (w : World) : Calls Try.prog 27 #[headV h] w fun e w' => e = .returned (.bool (headB h)) ∧ Below w.heap.size w w' := by
  obtain ⟨no, ar, en⟩ := h
  unfold headV
  simp only
  have b1 : Below w.heap.size w (w.alloc (.cells #[.int .i64 no, .int .i64 ar, .int .i64 en] 26)) := (Below.refl _ _).alloc (Nat.le_refl _) _
  have B1 := (show Hid _ from b1)
  clear b1
  obtain ⟨r, hr⟩ : ∃ r, r = headB ⟨no, ar, en⟩ := ⟨_, rfl⟩
  rw [← hr]
  have HR := (show Hid (r = (inB no 1 1000000000 && inB ar 0 1 && inB en 0 4096)) from hr)
  have CA := (show Hid _ from iisArea_any ar)
  clear hr
  by_cases h1 : 1 ≤ no
  · by_cases h2 : no ≤ 1000000000
    · cases hq : inB ar 0 1
      · rw [hq] at CA
        have HF : Hid (r = false) := (show r = false by rw [HR.out, hq]; simp)
        clear HR hq
        go_enter Try.func27, Try.ntmps27
        go_wp2_with fail
        go_at_call 55
        refine (CA.out _).mono ?_
        rintro e w2 ⟨rfl, e2⟩
        subst e2
        go_wp2
        go_ret
        exact ⟨ret_bool HF.out.symm, B1.out⟩
      · rw [hq] at CA
        by_cases h3 : 0 ≤ en
        · by_cases h4 : en ≤ 4096
          · have HF : Hid (r = true) := (show r = true by rw [HR.out, hq, inB_yes h1 h2, inB_yes h3 h4]; rfl)
            clear HR hq
            go_enter Try.func27, Try.ntmps27
            go_wp2_with fail
            go_at_call 55
            refine (CA.out _).mono ?_
            rintro e w2 ⟨rfl, e2⟩
            subst e2
            go_wp2
            go_ret
            exact ⟨ret_bool HF.out.symm, B1.out⟩
          · have HF : Hid (r = false) := (show r = false by rw [HR.out, inB_no (x := en) (lo := 0) (hi := 4096) (by omega)]; simp)
            clear HR hq
            go_enter Try.func27, Try.ntmps27
            go_wp2_with fail
            go_at_call 55
            refine (CA.out _).mono ?_
            rintro e w2 ⟨rfl, e2⟩
            subst e2
            go_wp2
            go_ret
            exact ⟨ret_bool ((decide_eq_false (by omega)).trans HF.out.symm), B1.out⟩
        · have HF : Hid (r = false) := (show r = false by rw [HR.out, inB_no (x := en) (lo := 0) (hi := 4096) (by omega)]; simp)
          clear HR hq
          go_enter Try.func27, Try.ntmps27
          go_wp2_with fail
          go_at_call 55
          refine (CA.out _).mono ?_
          rintro e w2 ⟨rfl, e2⟩
          subst e2
          go_wp2
          go_ret
          exact ⟨ret_bool HF.out.symm, B1.out⟩
    · have HF : Hid (r = false) := (show r = false by rw [HR.out, inB_no (x := no) (lo := 1) (hi := 1000000000) (by omega)]; simp)
      clear HR CA
      go_enter Try.func27, Try.ntmps27
      go_wp2
      go_ret
      exact ⟨ret_bool HF.out.symm, B1.out⟩
  · have HF : Hid (r = false) := (show r = false by rw [HR.out, inB_no (x := no) (lo := 1) (hi := 1000000000) (by omega)]; simp)
    clear HR CA
    go_enter Try.func27, Try.ntmps27
    go_wp2
    go_ret
    exact ⟨ret_bool HF.out.symm, B1.out⟩

/-- What spanOk answers. -/
def spanB (a at' n : Int) : Bool := inB a 0 1 && inB at' 0 4096 && inB n 0 (4096 - at')
theorem ispanOk_any (a at' n : Int) (w : World) : Calls Try.prog 50 #[.int .i64 a, .int .i64 at', .int .i64 n] w fun e w' => e = .returned (.bool (spanB a at' n)) ∧ w' = w := by
  obtain ⟨r, hr⟩ : ∃ r, r = spanB a at' n := ⟨_, rfl⟩
  rw [← hr]
  have HR := (show Hid (r = (inB a 0 1 && inB at' 0 4096 && inB n 0 (4096 - at'))) from hr)
  have CA := (show Hid _ from iisArea_any a)
  clear hr
  cases hq : inB a 0 1
  · rw [hq] at CA
    have HF : Hid (r = false) := (show r = false by rw [HR.out, hq]; simp)
    clear HR hq
    go_enter Try.func50, Try.ntmps50
    go_wp2_with fail
    go_at_call 55
    refine (CA.out _).mono ?_
    rintro e w2 ⟨rfl, e2⟩
    subst e2
    go_wp2
    go_ret
    exact ⟨ret_bool HF.out.symm, rfl⟩
  · rw [hq] at CA
    have HQ := (show Hid _ from hq)
    clear hq
    by_cases h1 : 0 ≤ at' ∧ at' ≤ 4096
    · obtain ⟨h1, h2⟩ := h1
      by_cases h3 : 0 ≤ n
      · by_cases h4 : n ≤ 4096 - at'
        · have HF : Hid (r = true) := (show r = true by rw [HR.out, HQ.out, inB_yes h1 h2, inB_yes h3 h4]; rfl)
          clear HR HQ
          go_enter Try.func50, Try.ntmps50
          go_wp2_with fail
          go_at_call 55
          refine (CA.out _).mono ?_
          rintro e w2 ⟨rfl, e2⟩
          subst e2
          go_wp2
          go_ret
          exact ⟨ret_bool HF.out.symm, rfl⟩
        · have HF : Hid (r = false) := (show r = false by rw [HR.out, inB_no (x := n) (lo := 0) (hi := 4096 - at') (by omega)]; simp)
          clear HR HQ
          go_enter Try.func50, Try.ntmps50
          go_wp2_with fail
          go_at_call 55
          refine (CA.out _).mono ?_
          rintro e w2 ⟨rfl, e2⟩
          subst e2
          go_wp2
          go_ret
          exact ⟨ret_bool ((decide_eq_false (by omega)).trans HF.out.symm), rfl⟩
      · have HF : Hid (r = false) := (show r = false by rw [HR.out, inB_no (x := n) (lo := 0) (hi := 4096 - at') (by omega)]; simp)
        clear HR HQ
        go_enter Try.func50, Try.ntmps50
        go_wp2_with fail
        go_at_call 55
        refine (CA.out _).mono ?_
        rintro e w2 ⟨rfl, e2⟩
        subst e2
        go_wp2
        go_ret
        exact ⟨ret_bool HF.out.symm, rfl⟩
    · have HF : Hid (r = false) := (show r = false by rw [HR.out, inB_no (x := at') (lo := 0) (hi := 4096) (by omega)]; simp)
      clear HR HQ
      by_cases h0 : 0 ≤ at'
      · have h2 : ¬ (at' ≤ 4096) := fun e => h1 ⟨h0, e⟩
        clear h1
        go_enter Try.func50, Try.ntmps50
        go_wp2_with fail
        go_at_call 55
        refine (CA.out _).mono ?_
        rintro e w2 ⟨rfl, e2⟩
        subst e2
        go_wp2
        go_ret
        exact ⟨ret_bool HF.out.symm, rfl⟩
      · clear h1
        go_enter Try.func50, Try.ntmps50
        go_wp2_with fail
        go_at_call 55
        refine (CA.out _).mono ?_
        rintro e w2 ⟨rfl, e2⟩
        subst e2
        go_wp2
        go_ret
        exact ⟨ret_bool HF.out.symm, rfl⟩

theorem isectorAt_any (a : Int) (k : Nat) (w : World) (ha : a = 0 ∨ a = 1) (hk : k ≤ 4096) : Calls Try.prog 51 #[.int .i64 a, .int .i64 (k : Int)] w fun e w' => e = .returned (.int .i64 (2 + 64 * a + ((k / 64 : Nat) : Int))) ∧ w' = w := by
  obtain ⟨x, hx⟩ : ∃ x : Int, x = (k : Int) := ⟨_, rfl⟩
  have HX := (show Hid (x = (k : Int)) from hx)
  have h0 : 0 ≤ x := by omega
  have h1 : x ≤ 4096 := by omega
  rw [← hx]
  clear hx hk
  go_enter Try.func51, Try.ntmps51
  go_wp2
  go_ret
  refine ⟨ret_int ?_, rfl⟩
  have hx := HX.out
  rcases ha with rfl | rfl <;> simp <;> omega
end Go.Proofs.Ytiejfnnokfedkaa

/- slices.Grow and slices.Concat of three. No condition. -/
namespace Go.Proofs.Ytiejfnnokfedkaa
open Go.RowKit
set_option maxRecDepth 100000
set_option linter.unusedVariables false

set_option maxRecDepth 100000 in
theorem igrow_any (n : Nat) (w : World) (h0 : 0 < n) (h1 : n ≤ 1000) :
    Calls Try.prog 56 #[.slice none 0 0, .int .i64 (n : Int)] w fun e w' => ∃ v', e = .returned v' ∧ Own w.heap.size 5 .u8 w' v' [] ∧ Below w.heap.size w w' := by
  obtain ⟨i0, hi, hz0, hz1, hz2⟩ := info_parts Try.infoB
  have hb5 : Try.t5.bytes = 1 := rfl
  have hp : ¬ ((n : Int) < 0) := by omega
  have hq : (0 : Int) < (n : Int) := by omega
  go_enter Try.func56, Try.ntmps56
  go_wp2_with fail
  · exfalso; have hn := nextslicecap_zero h0; rename_i h _ _ _; simp only [hb5, hn] at *; omega
  · go_ret
    have hge := grownCap_ge w n 0 5
    have hm := grownCap_le_maxLen w n 0 5 (by unfold maxLen; omega)
    have o1 := World.ownsRow_made (e := 5) (size := 1) w (Builtin.zeroCells #[Value.int IntKind.u8 0] n ++ Builtin.zeroCells #[Value.int IntKind.u8 0] (grownCap w n 0 5 - n)) (grownCap w n 0 5) (Nat.le_refl _) hm (by rw [Array.size_append, size_zeroCells, size_zeroCells]; simp; omega)
    exact ⟨_, rfl, Own.below (show Own w.heap.size 5 .u8 _ _ [] from o1) (below_drewN 1), ((Below.refl _ _).alloc (Nat.le_refl _) _).trans (below_drewN 1)⟩

def catP (ps : List (Value × List Int)) : List Int := ps.flatMap (·.2)
theorem catP_take {ps : List (Value × List Int)} {k : Nat} (hk : k < ps.length) : catP (ps.take (k + 1)) = catP (ps.take k) ++ ps[k].2 := by
  unfold catP; rw [List.take_succ_eq_append_getElem hk, List.flatMap_append]; simp
theorem catP_len {ps : List (Value × List Int)} (h : ∀ p ∈ ps, p.2.length ≤ 300) : (catP ps).length ≤ ps.length * 300 := by
  induction ps with
  | nil => simp [catP]
  | cons p ps ih =>
    have e : catP (p :: ps) = p.2 ++ catP ps := rfl
    have h1 := h p (by simp)
    have h2 := ih (fun q hq => h q (by simp [hq]))
    rw [e, List.length_append, List.length_cons]; omega

set_option maxRecDepth 100000 in
theorem iconcat_any {w : World} {b : Nat} {ps : List (Value × List Int)} (hb : b < w.heap.size) (hc : ∀ k (hk : k < ps.length), w.cell? ⟨b, k, none⟩ = some ps[k].1 ∧ Sl .u8 w ps[k].1 ps[k].2) (hl : ps.length ≤ 3) (hs : ∀ p ∈ ps, p.2.length ≤ 300) (hpos : 0 < (catP ps).length) :
    Calls Try.prog 28 #[.slice (some ⟨b, 0, none⟩) ps.length ps.length] w fun e w' => ∃ v', e = .returned v' ∧ Own w.heap.size 5 .u8 w' v' (catP ps) ∧ Below w.heap.size w w' := by
  have HC := (show Hid (∀ k (hk : k < ps.length), w.cell? ⟨b, k, none⟩ = some ps[k].1 ∧ Sl .u8 w ps[k].1 ps[k].2) from hc)
  have HS := (show Hid _ from hs)
  clear hc hs
  go_enter Try.func28, Try.ntmps28
  go_wp2
  go_loopw [3, 11] (fun z i wr => ∃ k : Nat, k ≤ ps.length ∧ i = .int .i64 (k : Int) ∧ z = .int .i64 ((catP (ps.take k)).length : Int) ∧ Hid (w = wr)) (fun _ i _ => ps.length - (intOf i).toNat)
  case atStart => exact ⟨0, Nat.zero_le _, rfl, rfl, rfl⟩
  case round =>
    obtain ⟨k, hk, rfl, rfl, hw⟩ := hrel
    have ew := hw.out
    subst ew
    by_cases hlt : k < ps.length
    · obtain ⟨c1, s1⟩ := HC.out k hlt
      have hl1 := HS.out _ (List.getElem_mem hlt)
      have hl2 := catP_len (ps := ps.take k) (fun p hp => HS.out p (List.mem_of_mem_take hp))
      have e3 : (catP (ps.take (k + 1))).length = (catP (ps.take k)).length + ps[k].2.length := by rw [catP_take hlt, List.length_append]
      have E3 := (show Hid _ from e3)
      rw [List.length_take] at hl2
      obtain ⟨a, ca, e1, _, _, _, _⟩ := s1
      rw [e1] at c1
      have hlt' : (k : Int) < (ps.length : Int) := by omega
      obtain ⟨m, hm⟩ : ∃ m, m = ps[k].2.length := ⟨_, rfl⟩
      obtain ⟨t, ht⟩ : ∃ t, t = (catP (ps.take k)).length := ⟨_, rfl⟩
      rw [← hm] at c1 hl1 E3
      rw [← ht] at hl2 E3
      rw [← ht]
      have ht2 : t ≤ 900 := by omega
      clear e1 e3 hm ht hl2
      go_wp2
      go_roundw
      case rel => exact ⟨k + 1, hlt, by go_num, by rw [E3.out]; go_num, trivial⟩
      case measure => simp [intOf]; omega
    · have hke : k = ps.length := by omega
      subst hke
      rw [List.take_length]
      have hc2 := catP_len (ps := ps) (fun p hp => HS.out p hp)
      go_wp2_with fail
      go_at_call 56
      refine (igrow_any _ _ hpos (by omega)).mono ?_
      rintro e w2 ⟨v2, rfl, o2, b2⟩
      have hb2 := b2.size
      obtain ⟨i0, hi, hz0, hz1, hz2⟩ := info_parts Try.infoB
      have O2 := (show Hid (Own w.heap.size 5 .u8 w2 v2 [] ∧ Below w.heap.size w w2) from ⟨o2, b2⟩)
      clear o2 b2 hw hlt hk
      go_wp2
      go_loopw [6, 27] (fun z i wq => ∃ k : Nat, k ≤ ps.length ∧ i = .int .i64 (k : Int) ∧ Own w.heap.size 5 .u8 wq z (catP (ps.take k)) ∧ Below w.heap.size w wq) (fun _ i _ => ps.length - (intOf i).toNat)
      case atStart => exact ⟨0, Nat.zero_le _, rfl, O2.out.1, O2.out.2⟩
      case round =>
        obtain ⟨k, hk, rfl, o3, b3⟩ := hrel
        by_cases hlt : k < ps.length
        · obtain ⟨c1, s1⟩ := HC.out k hlt
          have hl1 := HS.out _ (List.getElem_mem hlt)
          have hl2 := catP_len (ps := ps.take k) (fun p hp => HS.out p (List.mem_of_mem_take hp))
          rw [List.length_take] at hl2
          have hlt' : (k : Int) < (ps.length : Int) := by omega
          have c2 := (b3.cell (p := ⟨b, k, none⟩) hb).trans c1
          have S2 := (show Hid _ from s1.below b3)
          have CT := (show Hid _ from catP_take hlt)
          have O3 := (show Hid (Own _ 5 .u8 _ _ _) from o3)
          have B3 := (show Hid (Below _ _ _) from b3)
          have hb3 := b3.size
          obtain ⟨p, hp⟩ : ∃ p, p = ps[k] := ⟨_, rfl⟩
          rw [← hp] at c2 S2 hl1 CT
          obtain ⟨pv, pl⟩ := p
          simp only at c2 S2 hl1 CT
          obtain ⟨tl, ht⟩ : ∃ t, t = catP (ps.take k) := ⟨_, rfl⟩
          rw [← ht] at O3 CT hl2
          have ht2 : tl.length ≤ 900 := by omega
          clear o3 b3 c1 s1 hp ht hl2
          go_wp2_with (at_builtin
                       refine wpList_app _ rfl _ _ 43 rfl w.heap.size 5 i0 (.int .u8 0) 1 Try.underlying43 hi hz0 hz1 hz2 rfl .u8 _ _ tl pl rfl rfl O3.out S2.out (by omega) (by unfold maxLen; omega) hb3 ?_
                       intro v' w4 o4 g4)
          go_roundw
          case rel => exact ⟨k + 1, hlt, by go_num, by rw [CT.out]; exact o4, B3.out.grown g4 hb3 O3.out.grownAt⟩
          case measure => simp [intOf]; omega
        · have hke : k = ps.length := by omega
          subst hke
          rw [List.take_length] at o3
          have O3 := (show Hid (Own _ 5 .u8 _ _ _) from o3)
          have B3 := (show Hid (Below _ _ _) from b3)
          clear o3 b3
          go_wp2
          go_ret
          exact ⟨_, rfl, O3.out, B3.out⟩
end Go.Proofs.Ytiejfnnokfedkaa
