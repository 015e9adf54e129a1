/- The new archive, by the specification and by the program (written by mk/arnew.py). No condition. -/
import Derived.Test.YtbpncleapnohjaaU28
import Derived.Test.YtbpncleapnohjaaU19
import Derived.Test.YtbpncleapnohjaaU17
import Derived.Test.YtbpncleapnohjaaU29
import Derived.Deep.RegionHeld3
import Derived.Deep.CutRange
namespace Go.Proofs.Ytbpncleapnohjaa
open Go.RowKit
set_option maxRecDepth 100000
set_option linter.unusedVariables false

def headOne : PHead := ⟨1, 0, 0⟩
def diskOne : PDisk := (syncDk (headPutDk newDk headOne).1).1
def newA : PArch := ⟨true, diskOne, headOne, []⟩
theorem headOne_right : headB headOne = true := by decide
theorem diskOne_right : diskB (headPutDk newDk headOne).1 = true := (headPut_yes (by
  rw [headPutDk, if_neg (by rw [right_new]; simp), if_neg (by rw [headOne_right]; simp), putDk, if_neg (by rw [right_new]; simp), if_neg (by
    rintro (h | h | h)
    · cases h
    · exact h (packS_size _)
    · cases h)])).2.2.1
/-- An archive of a disk's and of nothing else's rows, laid in a block. -/
theorem own_newA {B : Nat} {w : World} {x y : Value} {d : PDisk} {h : PHead} {u : Bool} (o : OwnDy B w (.agg #[x, y]) d) : OwnAy B w (.agg #[.bool u, x, y, .int .i64 h.no, .int .i64 h.area, .int .i64 h.en, .slice none 0 0]) ⟨u, d, h, []⟩ := by
  have o' := o
  obtain ⟨sa, sn, sc, la, ln, lc, e, _⟩ := o'
  cases e
  exact ⟨_, _, _, _, _, _, _, _, _, rfl, o, .inl ⟨rfl, rfl, none, rfl, fun _ => trivial⟩⟩
theorem Lw.setAr {w W : World} {L : List (Nat × Array Value × TypeId)} {R : List (Nat × Nat × Value × PDisk)} {Y : List (Nat × Nat × Value × List Int)} {N : Nat} {x0 x1 x2 x3 x4 x5 x6 : Value} (h : Lw w ((N, #[x0, x1, x2, x3, x4, x5, x6], 30) :: L) R Y W) (hw : w.heap.size ≤ N) (hL : ∀ p ∈ L, p.1 ≠ N) (a0 a1 a2 a3 a4 a5 a6 : Value) : Lw w ((N, #[a0, a1, a2, a3, a4, a5, a6], 30) :: L) R Y (((((((W.setCell ⟨N, 0, none⟩ a0).setCell ⟨N, 1, none⟩ a1).setCell ⟨N, 2, none⟩ a2).setCell ⟨N, 3, none⟩ a3).setCell ⟨N, 4, none⟩ a4).setCell ⟨N, 5, none⟩ a5).setCell ⟨N, 6, none⟩ a6) := by
  have h1 : Lw w ((N, #[a0, x1, x2, x3, x4, x5, x6], 30) :: L) R Y (W.setCell ⟨N, 0, none⟩ a0) := h.set hw hL (by decide) (by decide) (by decide) 0 a0
  have h2 : Lw w ((N, #[a0, a1, x2, x3, x4, x5, x6], 30) :: L) R Y ((W.setCell ⟨N, 0, none⟩ a0).setCell ⟨N, 1, none⟩ a1) := h1.set hw hL (by decide) (by decide) (by decide) 1 a1
  have h3 : Lw w ((N, #[a0, a1, a2, x3, x4, x5, x6], 30) :: L) R Y (((W.setCell ⟨N, 0, none⟩ a0).setCell ⟨N, 1, none⟩ a1).setCell ⟨N, 2, none⟩ a2) := h2.set hw hL (by decide) (by decide) (by decide) 2 a2
  have h4 : Lw w ((N, #[a0, a1, a2, a3, x4, x5, x6], 30) :: L) R Y ((((W.setCell ⟨N, 0, none⟩ a0).setCell ⟨N, 1, none⟩ a1).setCell ⟨N, 2, none⟩ a2).setCell ⟨N, 3, none⟩ a3) := h3.set hw hL (by decide) (by decide) (by decide) 3 a3
  have h5 : Lw w ((N, #[a0, a1, a2, a3, a4, x5, x6], 30) :: L) R Y (((((W.setCell ⟨N, 0, none⟩ a0).setCell ⟨N, 1, none⟩ a1).setCell ⟨N, 2, none⟩ a2).setCell ⟨N, 3, none⟩ a3).setCell ⟨N, 4, none⟩ a4) := h4.set hw hL (by decide) (by decide) (by decide) 4 a4
  have h6 : Lw w ((N, #[a0, a1, a2, a3, a4, a5, x6], 30) :: L) R Y ((((((W.setCell ⟨N, 0, none⟩ a0).setCell ⟨N, 1, none⟩ a1).setCell ⟨N, 2, none⟩ a2).setCell ⟨N, 3, none⟩ a3).setCell ⟨N, 4, none⟩ a4).setCell ⟨N, 5, none⟩ a5) := h5.set hw hL (by decide) (by decide) (by decide) 5 a5
  exact h6.set hw hL (by decide) (by decide) (by decide) 6 a6

set_option maxHeartbeats 2000000 in
set_option maxRecDepth 100000 in
theorem sarNew_any (w0 : World) : Calls Try.prog 4 #[] w0 fun e w' => ∃ v', e = .returned v' ∧ OwnAy w0.heap.size w' v' newA ∧ Below w0.heap.size w0 w' := by
  obtain ⟨d, hd⟩ : ∃ d, d = newDk := ⟨_, rfl⟩
  have HF := (show Hid (DiskFit d) from by rw [hd]; exact fit_right right_new)
  have CND := (show Hid (∀ L R Y W, Lw w0 L R Y W → Calls Try.prog 10 #[] W fun e W' => ∃ ta tn tc tA tN tC, e = .returned (.agg #[.slice ta tn tc, .slice tA tN tC]) ∧ Lw w0 L R Y W' ∧ OwnDy w0.heap.size W' (.agg #[.slice ta tn tc, .slice tA tN tC]) d ∧ Below W.heap.size W W') from fun L R Y W l => (sdiskNew_any W).mono (by
    rintro e W' ⟨v', rfl, o, k⟩
    rw [← hd] at o
    have o' := OwnDy.of (OwnDz.of o)
    obtain ⟨_, _, _, _, _, _, rfl, _⟩ := o
    exact ⟨_, _, _, _, _, _, rfl, l.below k, o'.base l.hl.1.size, k⟩))
  obtain ⟨⟨qd, qb⟩, hq⟩ : ∃ q, q = headPutDk d headOne := ⟨_, rfl⟩
  have CI := (show Hid (∀ L R Y (W : World) (a b : Value) (B : Nat), Lw w0 L R Y W → B ≤ W.heap.size → DiskAt W (.agg #[a, b]) d → Calls Try.prog 9 #[.agg #[a, b], .agg #[.int .i64 1, .int .i64 0, .int .i64 0]] W fun e W' => ∃ xa xn xc xA xN xC, e = .returned (.tuple #[.agg #[.slice xa xn xc, .slice xA xN xC], .bool qb]) ∧ OwnDy B W' (.agg #[.slice xa xn xc, .slice xA xN xC]) qd ∧ Lw w0 L R Y W' ∧ Below W.heap.size W W') from fun L R Y W a b B l hB hd => by
    have := sheadPut_any hd HF.out headOne
    rw [← hq] at this
    exact this.mono (by
      rintro e W' ⟨v', rfl, o, k⟩
      have o' := OwnDy.of (OwnDz.of o)
      obtain ⟨_, _, _, _, _, _, rfl, _⟩ := o
      exact ⟨_, _, _, _, _, _, rfl, o'.base hB, l.below k, k⟩))
  have FQ := (show Hid (DiskFit qd) from by have e : qd = (headPutDk newDk headOne).1 := by rw [← hd, ← hq]
                                            rw [e]; exact fit_right diskOne_right)
  have HQ := (show Hid ((syncDk qd).1 = diskOne) from (show (syncDk qd).1 = diskOne by rw [diskOne, ← hd, ← hq]))
  clear hd hq
  obtain ⟨w1, hw⟩ : ∃ x, x = (w0.alloc (.cells #[.bool false, .slice none 0 0, .slice none 0 0, .int .i64 0, .int .i64 0, .int .i64 0, .slice none 0 0] 30)).alloc (.cells #[.int .i64 1, .int .i64 0, .int .i64 0] 27) := ⟨_, rfl⟩
  have hl := ((Lw.refl w0).new #[.bool false, .slice none 0 0, .slice none 0 0, .int .i64 0, .int .i64 0, .int .i64 0, .slice none 0 0] 30).new #[.int .i64 1, .int .i64 0, .int .i64 0] 27
  rw [← hw, World.size_alloc] at hl
  have HL := (show Hid (Lw w0 [(w0.heap.size + 1, #[.int .i64 1, .int .i64 0, .int .i64 0], 27), (w0.heap.size, #[.bool false, .slice none 0 0, .slice none 0 0, .int .i64 0, .int .i64 0, .int .i64 0, .slice none 0 0], 30)] [] [] w1) from hl)
  clear hl
  go_enter Try.func4, Try.ntmps4
  go_upto_region 2 with fail
  rw [← hw]
  clear hw
  have S_w1 := (show Hid (Lw w0 [(w0.heap.size + 1, #[.int .i64 1, .int .i64 0, .int .i64 0], 27), (w0.heap.size, #[.bool false, .slice none 0 0, .slice none 0 0, .int .i64 0, .int .i64 0, .int .i64 0, .slice none 0 0], 30)] [] [] w1) from HL.out)
  have Z0 := (show Hid (w0.heap.size ≤ w1.heap.size) from S_w1.out.hl.1.size)
  clear HL
  obtain ⟨c0_0, c0_1, c0_2, _⟩ := rk_three (S_w1.out.hl.2 _ (List.mem_cons_self ..))
  obtain ⟨c1_0, c1_1, c1_2, c1_3, c1_4, c1_5, c1_6, _⟩ := rk_seven (S_w1.out.hl.2 _ (List.mem_cons_of_mem _ (List.mem_cons_self ..)))
  go_wp2_with fail
  clear c0_0 c0_1 c0_2 c1_0 c1_1 c1_2 c1_3 c1_4 c1_5 c1_6
  have KD := (show Hid (Lw w0 [(w0.heap.size + 1, #[.int .i64 1, .int .i64 0, .int .i64 0], 27), (w0.heap.size, #[.bool false, .slice none 0 0, .slice none 0 0, .int .i64 0, .int .i64 0, .int .i64 0, .slice none 0 0], 30)] [] [] w1.drew) from S_w1.out.below (below_drewN 1))
  have HS := (show Hid (∀ W, Lw w0 [(w0.heap.size + 1, #[.int .i64 1, .int .i64 0, .int .i64 0], 27), (w0.heap.size, #[.bool false, .slice none 0 0, .slice none 0 0, .int .i64 0, .int .i64 0, .int .i64 0, .slice none 0 0], 30)] [] [] W → W.cell? ⟨w0.heap.size + 1, 0, none⟩ = some (.int .i64 1) ∧ W.cell? ⟨w0.heap.size + 1, 1, none⟩ = some (.int .i64 0) ∧ W.cell? ⟨w0.heap.size + 1, 2, none⟩ = some (.int .i64 0) ∧ W.cell? ⟨w0.heap.size, 0, none⟩ = some (.bool false) ∧ W.cell? ⟨w0.heap.size, 1, none⟩ = some (.slice none 0 0) ∧ W.cell? ⟨w0.heap.size, 2, none⟩ = some (.slice none 0 0) ∧ W.cell? ⟨w0.heap.size, 3, none⟩ = some (.int .i64 0) ∧ W.cell? ⟨w0.heap.size, 4, none⟩ = some (.int .i64 0) ∧ W.cell? ⟨w0.heap.size, 5, none⟩ = some (.int .i64 0) ∧ W.cell? ⟨w0.heap.size, 6, none⟩ = some (.slice none 0 0) ∧ Lw w0 [(w0.heap.size + 1, #[.int .i64 1, .int .i64 0, .int .i64 0], 27), (w0.heap.size, #[.bool false, .slice none 0 0, .slice none 0 0, .int .i64 0, .int .i64 0, .int .i64 0, .slice none 0 0], 30)] [] [] W) from fun W h => ⟨(rk_three (h.hl.2 _ (List.mem_cons_self ..))).1, (rk_three (h.hl.2 _ (List.mem_cons_self ..))).2.1, (rk_three (h.hl.2 _ (List.mem_cons_self ..))).2.2.1, (rk_seven (h.hl.2 _ (List.mem_cons_of_mem _ (List.mem_cons_self ..)))).1, (rk_seven (h.hl.2 _ (List.mem_cons_of_mem _ (List.mem_cons_self ..)))).2.1, (rk_seven (h.hl.2 _ (List.mem_cons_of_mem _ (List.mem_cons_self ..)))).2.2.1, (rk_seven (h.hl.2 _ (List.mem_cons_of_mem _ (List.mem_cons_self ..)))).2.2.2.1, (rk_seven (h.hl.2 _ (List.mem_cons_of_mem _ (List.mem_cons_self ..)))).2.2.2.2.1, (rk_seven (h.hl.2 _ (List.mem_cons_of_mem _ (List.mem_cons_self ..)))).2.2.2.2.2.1, (rk_seven (h.hl.2 _ (List.mem_cons_of_mem _ (List.mem_cons_self ..)))).2.2.2.2.2.2.1, h⟩)
  have hw0 : w0.heap.size ≤ w1.heap.size := S_w1.out.hl.1.size
  have hLL : Hid (∀ N, w1.heap.size ≤ N → ∀ p ∈ ([(w0.heap.size + 1, #[.int .i64 1, .int .i64 0, .int .i64 0], 27), (w0.heap.size, #[.bool false, .slice none 0 0, .slice none 0 0, .int .i64 0, .int .i64 0, .int .i64 0, .slice none 0 0], 30)] : List (Nat × Array Value × TypeId)), p.1 ≠ N) := fun N hN p hp => by have := S_w1.out.hl.lt hp; omega
  go_cut [2, 3] from 4 to 19 (fun s5 s6 wx => ∃ N hi ga gn gc gA gN gC, s5 = .pointer (some ⟨N, 0, none⟩) ∧ s6 = .bool qb ∧ hi ≤ wx.heap.size ∧ w0.heap.size ≤ N ∧ Lw w0 [(N, #[.slice ga gn gc, .slice gA gN gC], 25), (w0.heap.size + 1, #[.int .i64 1, .int .i64 0, .int .i64 0], 27), (w0.heap.size, #[.bool false, .slice none 0 0, .slice none 0 0, .int .i64 0, .int .i64 0, .int .i64 0, .slice none 0 0], 30)] [(w1.heap.size, hi, .agg #[.slice ga gn gc, .slice gA gN gC], qd)] [] wx)
  case first =>
    go_region_held3 (fun w' => w'.cell? ⟨w0.heap.size + 1, 0, none⟩ = some (.int .i64 1) ∧ w'.cell? ⟨w0.heap.size + 1, 1, none⟩ = some (.int .i64 0) ∧ w'.cell? ⟨w0.heap.size + 1, 2, none⟩ = some (.int .i64 0) ∧ w'.cell? ⟨w0.heap.size, 0, none⟩ = some (.bool false) ∧ w'.cell? ⟨w0.heap.size, 1, none⟩ = some (.slice none 0 0) ∧ w'.cell? ⟨w0.heap.size, 2, none⟩ = some (.slice none 0 0) ∧ w'.cell? ⟨w0.heap.size, 3, none⟩ = some (.int .i64 0) ∧ w'.cell? ⟨w0.heap.size, 4, none⟩ = some (.int .i64 0) ∧ w'.cell? ⟨w0.heap.size, 5, none⟩ = some (.int .i64 0) ∧ w'.cell? ⟨w0.heap.size, 6, none⟩ = some (.slice none 0 0) ∧ Lw w0 [(w0.heap.size + 1, #[.int .i64 1, .int .i64 0, .int .i64 0], 27), (w0.heap.size, #[.bool false, .slice none 0 0, .slice none 0 0, .int .i64 0, .int .i64 0, .int .i64 0, .slice none 0 0], 30)] [] [] w')
      (first | exact HS.out _ KD.out | exact HS.out _ (KD.out.new _ _).tail | exact HS.out _ Q0.out | exact HS.out _ (Q0.out.new _ _).tail | exact HS.out _ Q1.out | exact HS.out _ (Q1.out.new _ _).tail | exact HS.out _ (PS.out.tail.sub (by simp) (by simp) (by simp)) | exact HS.out _ (PN.out.tail.sub (by simp) (by simp) (by simp)))
      (first
        | (go_at_call 10
           refine Calls.mono (CND.out _ _ _ _ (‹_ ∧ _ ∧ _ ∧ _ ∧ _ ∧ _ ∧ _ ∧ _ ∧ _ ∧ _ ∧ Lw _ _ _ _ _›).2.2.2.2.2.2.2.2.2.2) ?_
           rintro e y0 ⟨ta, tn, tc, tA, tN, tC, rfl, l0, o0, b0⟩
           have O0 := (show Hid (OwnDy w0.heap.size y0 (.agg #[.slice ta tn tc, .slice tA tN tC]) d) from o0)
           clear o0
           have Q0 := (show Hid (Lw w0 [(w0.heap.size + 1, #[.int .i64 1, .int .i64 0, .int .i64 0], 27), (w0.heap.size, #[.bool false, .slice none 0 0, .slice none 0 0, .int .i64 0, .int .i64 0, .int .i64 0, .slice none 0 0], 30)] [] [] y0) from l0)
           have z0 : w1.heap.size ≤ y0.heap.size := by have := b0.size; (try simp at this); omega
           (first
             | (have M0 := (show Hid (Lw w0 ((w1.heap.size, #[.slice none 0 0, .slice none 0 0], 25) :: [(w0.heap.size + 1, #[.int .i64 1, .int .i64 0, .int .i64 0], 27), (w0.heap.size, #[.bool false, .slice none 0 0, .slice none 0 0, .int .i64 0, .int .i64 0, .int .i64 0, .slice none 0 0], 30)]) [] [] y0) from (KD.out.new #[.slice none 0 0, .slice none 0 0] 25).below b0))
             | skip)
           clear l0 b0)
        | (go_at_call 9
           refine Calls.mono (CI.out _ _ _ _ _ _ w1.heap.size (‹_ ∧ _ ∧ _ ∧ _ ∧ _ ∧ _ ∧ _ ∧ _ ∧ _ ∧ _ ∧ Lw _ _ _ _ _›).2.2.2.2.2.2.2.2.2.2 ?_ ?_) ?_
           · (try simp); omega
           · first | exact O0.out.at | exact (O0.out.below ((Below.refl _ _).alloc (Nat.le_refl _) _)).at
           rintro e y1 ⟨ga, gn, gc, gA, gN, gC, rfl, o1, l1, b1⟩
           have Q1 := (show Hid (Lw w0 [(w0.heap.size + 1, #[.int .i64 1, .int .i64 0, .int .i64 0], 27), (w0.heap.size, #[.bool false, .slice none 0 0, .slice none 0 0, .int .i64 0, .int .i64 0, .int .i64 0, .slice none 0 0], 30)] [] [] y1) from l1)
           have z1 : y0.heap.size ≤ y1.heap.size := by have := b1.size; (try simp at this); omega
           (first
             | (have n1 := (M0.out.below b1).add o1
                obtain ⟨m1, m2, m3, m4⟩ := rk_two n1.hl.at0
                have PS := (show Hid _ from n1.set2 (by omega) (hLL.out _ (by omega)) (.slice ga gn gc) (.slice gA gN gC))
                clear n1)
             | (have n1 := ((Q0.out.new #[.slice none 0 0, .slice none 0 0] 25).below b1).add o1
                obtain ⟨m1, m2, m3, m4⟩ := rk_two n1.hl.at0
                have PS := (show Hid _ from n1.set2 (by omega) (hLL.out _ (by omega)) (.slice ga gn gc) (.slice gA gN gC))
                clear n1)
             | (have PN := (show Hid _ from (Q1.out.add o1).new #[.slice ga gn gc, .slice gA gN gC] 25)))
           clear l1 b1 o1))
    all_goals go_wp2
    all_goals go_meet
    all_goals
      case rel =>
        with_reducible first
          | exact ⟨_, _, _, _, _, _, _, _, rfl, rfl, size_set2 _ _ _ _ _, (by omega), PS.out⟩
          | exact ⟨_, _, _, _, _, _, _, _, rfl, rfl, size_new _ _, (by omega), PN.out⟩
  case rest =>
    obtain ⟨w4, rfl⟩ : ∃ x, x = wc := ⟨_, rfl⟩
    obtain ⟨N_g, hi_g, ga, gn, gc, gA, gN, gC, rfl, rfl, hz, hNg, hc⟩ := hcut
    have Z1 := (show Hid (hi_g ≤ w4.heap.size) from hz)
    have S_w4 := (show Hid (Lw w0 [(N_g, #[.slice ga gn gc, .slice gA gN gC], 25), (w0.heap.size + 1, #[.int .i64 1, .int .i64 0, .int .i64 0], 27), (w0.heap.size, #[.bool false, .slice none 0 0, .slice none 0 0, .int .i64 0, .int .i64 0, .int .i64 0, .slice none 0 0], 30)] [(w1.heap.size, hi_g, .agg #[.slice ga gn gc, .slice gA gN gC], qd)] [] w4) from hc)
    have Z2 := (show Hid (w0.heap.size ≤ w4.heap.size) from S_w4.out.hl.1.size)
    clear hc hz KD HS hLL hw0 S_w1
    have n1 : w0.heap.size + 1 ≠ N_g := fun e => by
      have e1 := S_w4.out.hl.at0
      have e2 := S_w4.out.hl.at1
      rw [e, e1] at e2; cases e2
    have n2 : w0.heap.size ≠ N_g := fun e => by
      have e1 := S_w4.out.hl.at0
      have e2 := S_w4.out.hl.at2
      rw [e, e1] at e2; cases e2
    obtain ⟨c0_0, c0_1, _, _⟩ := rk_two (S_w4.out.hl.2 _ (List.mem_cons_self ..))
    obtain ⟨c1_0, c1_1, c1_2, _⟩ := rk_three (S_w4.out.hl.2 _ (List.mem_cons_of_mem _ (List.mem_cons_self ..)))
    obtain ⟨c2_0, c2_1, c2_2, c2_3, c2_4, c2_5, c2_6, _⟩ := rk_seven (S_w4.out.hl.2 _ (List.mem_cons_of_mem _ (List.mem_cons_of_mem _ (List.mem_cons_self ..))))
    go_wp2_with fail
    go_at_call 11
    refine (sdiskSync_any (S_w4.out.rows _ (List.mem_cons_self ..)).1.at FQ.out).mono ?_
    rintro e w5 ⟨v5, rfl, o5, b5⟩
    rw [HQ.out] at o5
    have o5' := OwnDy.of (OwnDz.of o5)
    obtain ⟨ya, yn, yc, yA, yN, yC, rfl, _⟩ := o5
    clear c0_0 c0_1 c1_0 c1_1 c1_2 c2_0 c2_1 c2_2 c2_3 c2_4 c2_5 c2_6
    have s5 := (S_w4.out.below b5).sub (R' := []) (Y' := []) (fun p hp => hp) (by simp) (by simp)
    have s5 := s5.add (o5'.base S_w4.out.hl.1.size)
    clear o5' b5 S_w4
    have s6 := s5.set2 hNg (by simp; exact ⟨n1, n2⟩) (.slice ya yn yc) (.slice yA yN yC)
    obtain ⟨w6, hw6⟩ : ∃ x, x = (w5.setCell ⟨N_g, 0, none⟩ (.slice ya yn yc)).setCell ⟨N_g, 1, none⟩ (.slice yA yN yC) := ⟨_, rfl⟩
    rw [← hw6] at s6
    obtain ⟨m1, m2, m3, m4⟩ := rk_two s5.hl.at0
    have S_w6 := (show Hid (Lw w0 [(N_g, #[.slice ya yn yc, .slice yA yN yC], 25), (w0.heap.size + 1, #[.int .i64 1, .int .i64 0, .int .i64 0], 27), (w0.heap.size, #[.bool false, .slice none 0 0, .slice none 0 0, .int .i64 0, .int .i64 0, .int .i64 0, .slice none 0 0], 30)] [(w0.heap.size, w5.heap.size, .agg #[.slice ya yn yc, .slice yA yN yC], diskOne)] [] w6) from s6)
    clear s5 s6
    go_upto_region 4 with fail
    rw [← hw6]
    clear hw6 m1 m2 m3 m4
    obtain ⟨c0_0, c0_1, _, _⟩ := rk_two (S_w6.out.hl.2 _ (List.mem_cons_self ..))
    obtain ⟨c1_0, c1_1, c1_2, _⟩ := rk_three (S_w6.out.hl.2 _ (List.mem_cons_of_mem _ (List.mem_cons_self ..)))
    obtain ⟨c2_0, c2_1, c2_2, c2_3, c2_4, c2_5, c2_6, _⟩ := rk_seven (S_w6.out.hl.2 _ (List.mem_cons_of_mem _ (List.mem_cons_of_mem _ (List.mem_cons_self ..))))
    have k7 := S_w6.out.hl.at2
    have kf0 := rk_thaw (k := 0) k7
    have kf1 := rk_thaw (k := 1) k7
    have kf2 := rk_thaw (k := 2) k7
    have kf3 := rk_thaw (k := 3) k7
    have kf4 := rk_thaw (k := 4) k7
    have kf5 := rk_thaw (k := 5) k7
    have kf6 := rk_thaw (k := 6) k7
    have s7 := ((S_w6.out.sub (L' := [(w0.heap.size, #[.bool false, .slice none 0 0, .slice none 0 0, .int .i64 0, .int .i64 0, .int .i64 0, .slice none 0 0], 30)]) (by simp) (fun p hp => hp) (fun p hp => hp)).setAr (Nat.le_refl _) (by simp) (.bool true) (.slice ya yn yc) (.slice yA yN yC) (.int .i64 1) (.int .i64 0) (.int .i64 0) (.slice none 0 0))
    have S7 := (show Hid _ from s7)
    clear s7 k7
    go_wp2
    refine bodyPost_ret (results_cell_row rfl _ _ w0.heap.size 30 #[.bool true, .slice ya yn yc, .slice yA yN yC, .int .i64 1, .int .i64 0, .int .i64 0, .slice none 0 0] (0, 0) _ rfl S7.out.hl.at0 Try.underlying30 rfl rfl) rfl ?_
    exact ⟨_, rfl, own_newA (h := headOne) (S7.out.rows _ (List.mem_cons_self ..)).1, S7.out.hl.1⟩

set_option maxHeartbeats 2000000 in
set_option maxRecDepth 100000 in
theorem iarNew_any (w0 : World) : Calls Try.prog 5 #[] w0 fun e w' => ∃ v', e = .returned v' ∧ OwnAy w0.heap.size w' v' newA ∧ Below w0.heap.size w0 w' := by
  obtain ⟨d, hd⟩ : ∃ d, d = newDk := ⟨_, rfl⟩
  have HF := (show Hid (DiskFit d) from by rw [hd]; exact fit_right right_new)
  have CND := (show Hid (∀ L R Y W, Lw w0 L R Y W → Calls Try.prog 13 #[] W fun e W' => ∃ ta tn tc tA tN tC, e = .returned (.agg #[.slice ta tn tc, .slice tA tN tC]) ∧ Lw w0 L R Y W' ∧ OwnDy w0.heap.size W' (.agg #[.slice ta tn tc, .slice tA tN tC]) d ∧ Below W.heap.size W W') from fun L R Y W l => (idiskNew_any W).mono (by
    rintro e W' ⟨v', rfl, o, k⟩
    rw [← hd] at o
    have o' := OwnDy.of (OwnDz.of o)
    obtain ⟨_, _, _, _, _, _, rfl, _⟩ := o
    exact ⟨_, _, _, _, _, _, rfl, l.below k, o'.base l.hl.1.size, k⟩))
  obtain ⟨⟨qd, qb⟩, hq⟩ : ∃ q, q = headPutDk d headOne := ⟨_, rfl⟩
  have CI := (show Hid (∀ L R Y (W : World) (a b : Value) (B : Nat), Lw w0 L R Y W → B ≤ W.heap.size → DiskAt W (.agg #[a, b]) d → Calls Try.prog 12 #[.agg #[a, b], .agg #[.int .i64 1, .int .i64 0, .int .i64 0]] W fun e W' => ∃ xa xn xc xA xN xC, e = .returned (.tuple #[.agg #[.slice xa xn xc, .slice xA xN xC], .bool qb]) ∧ OwnDy B W' (.agg #[.slice xa xn xc, .slice xA xN xC]) qd ∧ Lw w0 L R Y W' ∧ Below W.heap.size W W') from fun L R Y W a b B l hB hd => by
    have := iheadPut_any _ _ _ headOne hd HF.out (by decide) (by decide) (by decide)
    rw [← hq] at this
    exact this.mono (by
      rintro e W' ⟨v', rfl, o, k⟩
      have o' := OwnDy.of o
      obtain ⟨_, _, _, _, _, _, rfl, _⟩ := o
      exact ⟨_, _, _, _, _, _, rfl, o'.base hB, l.below k, k⟩))
  have FQ := (show Hid (DiskFit qd) from by have e : qd = (headPutDk newDk headOne).1 := by rw [← hd, ← hq]
                                            rw [e]; exact fit_right diskOne_right)
  have HQ := (show Hid ((syncDk qd).1 = diskOne) from (show (syncDk qd).1 = diskOne by rw [diskOne, ← hd, ← hq]))
  clear hd hq
  obtain ⟨w1, hw⟩ : ∃ x, x = (w0.alloc (.cells #[.bool false, .slice none 0 0, .slice none 0 0, .int .i64 0, .int .i64 0, .int .i64 0, .slice none 0 0] 30)).alloc (.cells #[.int .i64 1, .int .i64 0, .int .i64 0] 27) := ⟨_, rfl⟩
  have hl := ((Lw.refl w0).new #[.bool false, .slice none 0 0, .slice none 0 0, .int .i64 0, .int .i64 0, .int .i64 0, .slice none 0 0] 30).new #[.int .i64 1, .int .i64 0, .int .i64 0] 27
  rw [← hw, World.size_alloc] at hl
  have HL := (show Hid (Lw w0 [(w0.heap.size + 1, #[.int .i64 1, .int .i64 0, .int .i64 0], 27), (w0.heap.size, #[.bool false, .slice none 0 0, .slice none 0 0, .int .i64 0, .int .i64 0, .int .i64 0, .slice none 0 0], 30)] [] [] w1) from hl)
  clear hl
  go_enter Try.func5, Try.ntmps5
  go_upto_region 2 with fail
  rw [← hw]
  clear hw
  have S_w1 := (show Hid (Lw w0 [(w0.heap.size + 1, #[.int .i64 1, .int .i64 0, .int .i64 0], 27), (w0.heap.size, #[.bool false, .slice none 0 0, .slice none 0 0, .int .i64 0, .int .i64 0, .int .i64 0, .slice none 0 0], 30)] [] [] w1) from HL.out)
  have Z0 := (show Hid (w0.heap.size ≤ w1.heap.size) from S_w1.out.hl.1.size)
  clear HL
  obtain ⟨c0_0, c0_1, c0_2, _⟩ := rk_three (S_w1.out.hl.2 _ (List.mem_cons_self ..))
  obtain ⟨c1_0, c1_1, c1_2, c1_3, c1_4, c1_5, c1_6, _⟩ := rk_seven (S_w1.out.hl.2 _ (List.mem_cons_of_mem _ (List.mem_cons_self ..)))
  go_wp2_with fail
  clear c0_0 c0_1 c0_2 c1_0 c1_1 c1_2 c1_3 c1_4 c1_5 c1_6
  have KD := (show Hid (Lw w0 [(w0.heap.size + 1, #[.int .i64 1, .int .i64 0, .int .i64 0], 27), (w0.heap.size, #[.bool false, .slice none 0 0, .slice none 0 0, .int .i64 0, .int .i64 0, .int .i64 0, .slice none 0 0], 30)] [] [] w1.drew) from S_w1.out.below (below_drewN 1))
  have HS := (show Hid (∀ W, Lw w0 [(w0.heap.size + 1, #[.int .i64 1, .int .i64 0, .int .i64 0], 27), (w0.heap.size, #[.bool false, .slice none 0 0, .slice none 0 0, .int .i64 0, .int .i64 0, .int .i64 0, .slice none 0 0], 30)] [] [] W → W.cell? ⟨w0.heap.size + 1, 0, none⟩ = some (.int .i64 1) ∧ W.cell? ⟨w0.heap.size + 1, 1, none⟩ = some (.int .i64 0) ∧ W.cell? ⟨w0.heap.size + 1, 2, none⟩ = some (.int .i64 0) ∧ W.cell? ⟨w0.heap.size, 0, none⟩ = some (.bool false) ∧ W.cell? ⟨w0.heap.size, 1, none⟩ = some (.slice none 0 0) ∧ W.cell? ⟨w0.heap.size, 2, none⟩ = some (.slice none 0 0) ∧ W.cell? ⟨w0.heap.size, 3, none⟩ = some (.int .i64 0) ∧ W.cell? ⟨w0.heap.size, 4, none⟩ = some (.int .i64 0) ∧ W.cell? ⟨w0.heap.size, 5, none⟩ = some (.int .i64 0) ∧ W.cell? ⟨w0.heap.size, 6, none⟩ = some (.slice none 0 0) ∧ Lw w0 [(w0.heap.size + 1, #[.int .i64 1, .int .i64 0, .int .i64 0], 27), (w0.heap.size, #[.bool false, .slice none 0 0, .slice none 0 0, .int .i64 0, .int .i64 0, .int .i64 0, .slice none 0 0], 30)] [] [] W) from fun W h => ⟨(rk_three (h.hl.2 _ (List.mem_cons_self ..))).1, (rk_three (h.hl.2 _ (List.mem_cons_self ..))).2.1, (rk_three (h.hl.2 _ (List.mem_cons_self ..))).2.2.1, (rk_seven (h.hl.2 _ (List.mem_cons_of_mem _ (List.mem_cons_self ..)))).1, (rk_seven (h.hl.2 _ (List.mem_cons_of_mem _ (List.mem_cons_self ..)))).2.1, (rk_seven (h.hl.2 _ (List.mem_cons_of_mem _ (List.mem_cons_self ..)))).2.2.1, (rk_seven (h.hl.2 _ (List.mem_cons_of_mem _ (List.mem_cons_self ..)))).2.2.2.1, (rk_seven (h.hl.2 _ (List.mem_cons_of_mem _ (List.mem_cons_self ..)))).2.2.2.2.1, (rk_seven (h.hl.2 _ (List.mem_cons_of_mem _ (List.mem_cons_self ..)))).2.2.2.2.2.1, (rk_seven (h.hl.2 _ (List.mem_cons_of_mem _ (List.mem_cons_self ..)))).2.2.2.2.2.2.1, h⟩)
  have hw0 : w0.heap.size ≤ w1.heap.size := S_w1.out.hl.1.size
  have hLL : Hid (∀ N, w1.heap.size ≤ N → ∀ p ∈ ([(w0.heap.size + 1, #[.int .i64 1, .int .i64 0, .int .i64 0], 27), (w0.heap.size, #[.bool false, .slice none 0 0, .slice none 0 0, .int .i64 0, .int .i64 0, .int .i64 0, .slice none 0 0], 30)] : List (Nat × Array Value × TypeId)), p.1 ≠ N) := fun N hN p hp => by have := S_w1.out.hl.lt hp; omega
  go_cut [2, 3] from 4 to 19 (fun s5 s6 wx => ∃ N hi ga gn gc gA gN gC, s5 = .pointer (some ⟨N, 0, none⟩) ∧ s6 = .bool qb ∧ hi ≤ wx.heap.size ∧ w0.heap.size ≤ N ∧ Lw w0 [(N, #[.slice ga gn gc, .slice gA gN gC], 25), (w0.heap.size + 1, #[.int .i64 1, .int .i64 0, .int .i64 0], 27), (w0.heap.size, #[.bool false, .slice none 0 0, .slice none 0 0, .int .i64 0, .int .i64 0, .int .i64 0, .slice none 0 0], 30)] [(w1.heap.size, hi, .agg #[.slice ga gn gc, .slice gA gN gC], qd)] [] wx)
  case first =>
    go_region_held3 (fun w' => w'.cell? ⟨w0.heap.size + 1, 0, none⟩ = some (.int .i64 1) ∧ w'.cell? ⟨w0.heap.size + 1, 1, none⟩ = some (.int .i64 0) ∧ w'.cell? ⟨w0.heap.size + 1, 2, none⟩ = some (.int .i64 0) ∧ w'.cell? ⟨w0.heap.size, 0, none⟩ = some (.bool false) ∧ w'.cell? ⟨w0.heap.size, 1, none⟩ = some (.slice none 0 0) ∧ w'.cell? ⟨w0.heap.size, 2, none⟩ = some (.slice none 0 0) ∧ w'.cell? ⟨w0.heap.size, 3, none⟩ = some (.int .i64 0) ∧ w'.cell? ⟨w0.heap.size, 4, none⟩ = some (.int .i64 0) ∧ w'.cell? ⟨w0.heap.size, 5, none⟩ = some (.int .i64 0) ∧ w'.cell? ⟨w0.heap.size, 6, none⟩ = some (.slice none 0 0) ∧ Lw w0 [(w0.heap.size + 1, #[.int .i64 1, .int .i64 0, .int .i64 0], 27), (w0.heap.size, #[.bool false, .slice none 0 0, .slice none 0 0, .int .i64 0, .int .i64 0, .int .i64 0, .slice none 0 0], 30)] [] [] w')
      (first | exact HS.out _ KD.out | exact HS.out _ (KD.out.new _ _).tail | exact HS.out _ Q0.out | exact HS.out _ (Q0.out.new _ _).tail | exact HS.out _ Q1.out | exact HS.out _ (Q1.out.new _ _).tail | exact HS.out _ (PS.out.tail.sub (by simp) (by simp) (by simp)) | exact HS.out _ (PN.out.tail.sub (by simp) (by simp) (by simp)))
      (first
        | (go_at_call 13
           refine Calls.mono (CND.out _ _ _ _ (‹_ ∧ _ ∧ _ ∧ _ ∧ _ ∧ _ ∧ _ ∧ _ ∧ _ ∧ _ ∧ Lw _ _ _ _ _›).2.2.2.2.2.2.2.2.2.2) ?_
           rintro e y0 ⟨ta, tn, tc, tA, tN, tC, rfl, l0, o0, b0⟩
           have O0 := (show Hid (OwnDy w0.heap.size y0 (.agg #[.slice ta tn tc, .slice tA tN tC]) d) from o0)
           clear o0
           have Q0 := (show Hid (Lw w0 [(w0.heap.size + 1, #[.int .i64 1, .int .i64 0, .int .i64 0], 27), (w0.heap.size, #[.bool false, .slice none 0 0, .slice none 0 0, .int .i64 0, .int .i64 0, .int .i64 0, .slice none 0 0], 30)] [] [] y0) from l0)
           have z0 : w1.heap.size ≤ y0.heap.size := by have := b0.size; (try simp at this); omega
           (first
             | (have M0 := (show Hid (Lw w0 ((w1.heap.size, #[.slice none 0 0, .slice none 0 0], 25) :: [(w0.heap.size + 1, #[.int .i64 1, .int .i64 0, .int .i64 0], 27), (w0.heap.size, #[.bool false, .slice none 0 0, .slice none 0 0, .int .i64 0, .int .i64 0, .int .i64 0, .slice none 0 0], 30)]) [] [] y0) from (KD.out.new #[.slice none 0 0, .slice none 0 0] 25).below b0))
             | skip)
           clear l0 b0)
        | (go_at_call 12
           refine Calls.mono (CI.out _ _ _ _ _ _ w1.heap.size (‹_ ∧ _ ∧ _ ∧ _ ∧ _ ∧ _ ∧ _ ∧ _ ∧ _ ∧ _ ∧ Lw _ _ _ _ _›).2.2.2.2.2.2.2.2.2.2 ?_ ?_) ?_
           · (try simp); omega
           · first | exact O0.out.at | exact (O0.out.below ((Below.refl _ _).alloc (Nat.le_refl _) _)).at
           rintro e y1 ⟨ga, gn, gc, gA, gN, gC, rfl, o1, l1, b1⟩
           have Q1 := (show Hid (Lw w0 [(w0.heap.size + 1, #[.int .i64 1, .int .i64 0, .int .i64 0], 27), (w0.heap.size, #[.bool false, .slice none 0 0, .slice none 0 0, .int .i64 0, .int .i64 0, .int .i64 0, .slice none 0 0], 30)] [] [] y1) from l1)
           have z1 : y0.heap.size ≤ y1.heap.size := by have := b1.size; (try simp at this); omega
           (first
             | (have n1 := (M0.out.below b1).add o1
                obtain ⟨m1, m2, m3, m4⟩ := rk_two n1.hl.at0
                have PS := (show Hid _ from n1.set2 (by omega) (hLL.out _ (by omega)) (.slice ga gn gc) (.slice gA gN gC))
                clear n1)
             | (have n1 := ((Q0.out.new #[.slice none 0 0, .slice none 0 0] 25).below b1).add o1
                obtain ⟨m1, m2, m3, m4⟩ := rk_two n1.hl.at0
                have PS := (show Hid _ from n1.set2 (by omega) (hLL.out _ (by omega)) (.slice ga gn gc) (.slice gA gN gC))
                clear n1)
             | (have PN := (show Hid _ from (Q1.out.add o1).new #[.slice ga gn gc, .slice gA gN gC] 25)))
           clear l1 b1 o1))
    all_goals go_wp2
    all_goals go_meet
    all_goals
      case rel =>
        with_reducible first
          | exact ⟨_, _, _, _, _, _, _, _, rfl, rfl, size_set2 _ _ _ _ _, (by omega), PS.out⟩
          | exact ⟨_, _, _, _, _, _, _, _, rfl, rfl, size_new _ _, (by omega), PN.out⟩
  case rest =>
    obtain ⟨w4, rfl⟩ : ∃ x, x = wc := ⟨_, rfl⟩
    obtain ⟨N_g, hi_g, ga, gn, gc, gA, gN, gC, rfl, rfl, hz, hNg, hc⟩ := hcut
    have Z1 := (show Hid (hi_g ≤ w4.heap.size) from hz)
    have S_w4 := (show Hid (Lw w0 [(N_g, #[.slice ga gn gc, .slice gA gN gC], 25), (w0.heap.size + 1, #[.int .i64 1, .int .i64 0, .int .i64 0], 27), (w0.heap.size, #[.bool false, .slice none 0 0, .slice none 0 0, .int .i64 0, .int .i64 0, .int .i64 0, .slice none 0 0], 30)] [(w1.heap.size, hi_g, .agg #[.slice ga gn gc, .slice gA gN gC], qd)] [] w4) from hc)
    have Z2 := (show Hid (w0.heap.size ≤ w4.heap.size) from S_w4.out.hl.1.size)
    clear hc hz KD HS hLL hw0 S_w1
    have n1 : w0.heap.size + 1 ≠ N_g := fun e => by
      have e1 := S_w4.out.hl.at0
      have e2 := S_w4.out.hl.at1
      rw [e, e1] at e2; cases e2
    have n2 : w0.heap.size ≠ N_g := fun e => by
      have e1 := S_w4.out.hl.at0
      have e2 := S_w4.out.hl.at2
      rw [e, e1] at e2; cases e2
    obtain ⟨c0_0, c0_1, _, _⟩ := rk_two (S_w4.out.hl.2 _ (List.mem_cons_self ..))
    obtain ⟨c1_0, c1_1, c1_2, _⟩ := rk_three (S_w4.out.hl.2 _ (List.mem_cons_of_mem _ (List.mem_cons_self ..)))
    obtain ⟨c2_0, c2_1, c2_2, c2_3, c2_4, c2_5, c2_6, _⟩ := rk_seven (S_w4.out.hl.2 _ (List.mem_cons_of_mem _ (List.mem_cons_of_mem _ (List.mem_cons_self ..))))
    go_wp2_with fail
    go_at_call 14
    refine (idiskSync_any (S_w4.out.rows _ (List.mem_cons_self ..)).1.at FQ.out).mono ?_
    rintro e w5 ⟨v5, rfl, o5, b5⟩
    rw [HQ.out] at o5
    have o5' := OwnDy.of (OwnDz.of o5)
    obtain ⟨ya, yn, yc, yA, yN, yC, rfl, _⟩ := o5
    clear c0_0 c0_1 c1_0 c1_1 c1_2 c2_0 c2_1 c2_2 c2_3 c2_4 c2_5 c2_6
    have s5 := (S_w4.out.below b5).sub (R' := []) (Y' := []) (fun p hp => hp) (by simp) (by simp)
    have s5 := s5.add (o5'.base S_w4.out.hl.1.size)
    clear o5' b5 S_w4
    have s6 := s5.set2 hNg (by simp; exact ⟨n1, n2⟩) (.slice ya yn yc) (.slice yA yN yC)
    obtain ⟨w6, hw6⟩ : ∃ x, x = (w5.setCell ⟨N_g, 0, none⟩ (.slice ya yn yc)).setCell ⟨N_g, 1, none⟩ (.slice yA yN yC) := ⟨_, rfl⟩
    rw [← hw6] at s6
    obtain ⟨m1, m2, m3, m4⟩ := rk_two s5.hl.at0
    have S_w6 := (show Hid (Lw w0 [(N_g, #[.slice ya yn yc, .slice yA yN yC], 25), (w0.heap.size + 1, #[.int .i64 1, .int .i64 0, .int .i64 0], 27), (w0.heap.size, #[.bool false, .slice none 0 0, .slice none 0 0, .int .i64 0, .int .i64 0, .int .i64 0, .slice none 0 0], 30)] [(w0.heap.size, w5.heap.size, .agg #[.slice ya yn yc, .slice yA yN yC], diskOne)] [] w6) from s6)
    clear s5 s6
    go_upto_region 4 with fail
    rw [← hw6]
    clear hw6 m1 m2 m3 m4
    obtain ⟨c0_0, c0_1, _, _⟩ := rk_two (S_w6.out.hl.2 _ (List.mem_cons_self ..))
    obtain ⟨c1_0, c1_1, c1_2, _⟩ := rk_three (S_w6.out.hl.2 _ (List.mem_cons_of_mem _ (List.mem_cons_self ..)))
    obtain ⟨c2_0, c2_1, c2_2, c2_3, c2_4, c2_5, c2_6, _⟩ := rk_seven (S_w6.out.hl.2 _ (List.mem_cons_of_mem _ (List.mem_cons_of_mem _ (List.mem_cons_self ..))))
    have k7 := S_w6.out.hl.at2
    have kf0 := rk_thaw (k := 0) k7
    have kf1 := rk_thaw (k := 1) k7
    have kf2 := rk_thaw (k := 2) k7
    have kf3 := rk_thaw (k := 3) k7
    have kf4 := rk_thaw (k := 4) k7
    have kf5 := rk_thaw (k := 5) k7
    have kf6 := rk_thaw (k := 6) k7
    have s7 := ((S_w6.out.sub (L' := [(w0.heap.size, #[.bool false, .slice none 0 0, .slice none 0 0, .int .i64 0, .int .i64 0, .int .i64 0, .slice none 0 0], 30)]) (by simp) (fun p hp => hp) (fun p hp => hp)).setAr (Nat.le_refl _) (by simp) (.bool true) (.slice ya yn yc) (.slice yA yN yC) (.int .i64 1) (.int .i64 0) (.int .i64 0) (.slice none 0 0))
    have S7 := (show Hid _ from s7)
    clear s7 k7
    go_wp2
    refine bodyPost_ret (results_cell_row rfl _ _ w0.heap.size 30 #[.bool true, .slice ya yn yc, .slice yA yN yC, .int .i64 1, .int .i64 0, .int .i64 0, .slice none 0 0] (0, 0) _ rfl S7.out.hl.at0 Try.underlying30 rfl rfl) rfl ?_
    exact ⟨_, rfl, own_newA (h := headOne) (S7.out.rows _ (List.mem_cons_self ..)).1, S7.out.hl.1⟩
end Go.Proofs.Ytbpncleapnohjaa

/- The exact law of ArchiveNew (written by mk/warnew.py). -/
namespace Go.Proofs.Ytbpncleapnohjaa
open Go.RowKit
set_option maxRecDepth 100000
set_option linter.unusedVariables false

theorem fit_newA : ArFit newA := ⟨fit_right (right_sync diskOne_right).2, Nat.zero_le _, fun p hp => by simp [newA] at hp⟩
set_option maxHeartbeats 4000000 in
set_option maxRecDepth 100000 in
theorem fnExactArchiveNew_walk (w0 : World) : Calls Try.prog 3 #[] w0 fun e w' => e = .returned (.bool true) ∧ Below w0.heap.size w0 w' := by
  have FQ := (show Hid (ArFit newA) from fit_newA)
  have C1 := sarNew_any
  have C2 := iarNew_any
  obtain ⟨qa, hq⟩ : ∃ q, q = newA := ⟨_, rfl⟩
  rw [← hq] at FQ C1 C2
  have CS := (show Hid (∀ L R Y S (W : World) (B : Nat), La w0 L R Y S W → B ≤ W.heap.size → Calls Try.prog 4 #[] W fun e W' => ∃ xa xn xc xA xN xC xp xq xr, e = .returned (.agg #[.bool qa.up, .slice xa xn xc, .slice xA xN xC, .int .i64 qa.head.no, .int .i64 qa.head.area, .int .i64 qa.head.en, .slice xp xq xr]) ∧ OwnAy B W' (.agg #[.bool qa.up, .slice xa xn xc, .slice xA xN xC, .int .i64 qa.head.no, .int .i64 qa.head.area, .int .i64 qa.head.en, .slice xp xq xr]) qa ∧ La w0 L R Y S W' ∧ Below W.heap.size W W') from fun L R Y S W B l hB => (C1 W).mono (by
    rintro e W' ⟨v', rfl, o, k⟩
    have o' := o
    obtain ⟨_, _, _, _, _, _, _, _, _, rfl, _⟩ := o
    exact ⟨_, _, _, _, _, _, _, _, _, rfl, o'.base hB, l.below k, k⟩))
  have CI := (show Hid (∀ L R Y S (W : World) (B : Nat), La w0 L R Y S W → B ≤ W.heap.size → Calls Try.prog 5 #[] W fun e W' => ∃ xa xn xc xA xN xC xp xq xr, e = .returned (.agg #[.bool qa.up, .slice xa xn xc, .slice xA xN xC, .int .i64 qa.head.no, .int .i64 qa.head.area, .int .i64 qa.head.en, .slice xp xq xr]) ∧ OwnAy B W' (.agg #[.bool qa.up, .slice xa xn xc, .slice xA xN xC, .int .i64 qa.head.no, .int .i64 qa.head.area, .int .i64 qa.head.en, .slice xp xq xr]) qa ∧ La w0 L R Y S W' ∧ Below W.heap.size W W') from fun L R Y S W B l hB => (C2 W).mono (by
    rintro e W' ⟨v', rfl, o, k⟩
    have o' := o
    obtain ⟨_, _, _, _, _, _, _, _, _, rfl, _⟩ := o
    exact ⟨_, _, _, _, _, _, _, _, _, rfl, o'.base hB, l.below k, k⟩))
  clear C1 C2 hq
  have hk1 := arEnd_pos qa
  have hk2 : (arEnd qa != arEnd qa) = false := by simp
  have S_w0 := (show Hid (La w0 [] [] [] [] w0) from La.refl w0)
  have Z0 := (show Hid (w0.heap.size ≤ w0.heap.size) from Nat.le_refl _)
  go_enter Try.func3, Try.ntmps3
  go_wp2_with fail
  go_at_call 4
  refine (CS.out _ _ _ _ w0 w0.heap.size S_w0.out (Nat.le_refl _)).mono ?_
  rintro e w1 ⟨aa, an, ac, aA, aN, aC, ap, aq, ar, rfl, ow1, lw1, bw1⟩
  have Z1 := (show Hid (w0.heap.size ≤ w1.heap.size) from bw1.size)
  have S_w1 := (show Hid (La w0 [] [(w0.heap.size, w1.heap.size, .agg #[.bool qa.up, .slice aa an ac, .slice aA aN aC, .int .i64 qa.head.no, .int .i64 qa.head.area, .int .i64 qa.head.en, .slice ap aq ar], qa)] [] [] w1) from lw1.add ow1)
  clear S_w0 bw1
  clear lw1 ow1
  obtain ⟨w1a, hw1a⟩ : ∃ x, x = w1.alloc (.cells #[.bool qa.up, .slice aa an ac, .slice aA aN aC, .int .i64 qa.head.no, .int .i64 qa.head.area, .int .i64 qa.head.en, .slice ap aq ar] 30) := ⟨_, rfl⟩
  have Z2 := (show Hid (w1.heap.size < w1a.heap.size) from (show w1.heap.size < w1a.heap.size by rw [hw1a, World.size_alloc]; omega))
  have S_w1a := (show Hid (La w0 [(w1.heap.size, #[.bool qa.up, .slice aa an ac, .slice aA aN aC, .int .i64 qa.head.no, .int .i64 qa.head.area, .int .i64 qa.head.en, .slice ap aq ar], 30)] [(w0.heap.size, w1.heap.size, .agg #[.bool qa.up, .slice aa an ac, .slice aA aN aC, .int .i64 qa.head.no, .int .i64 qa.head.area, .int .i64 qa.head.en, .slice ap aq ar], qa)] [] [] w1a) from by rw [hw1a]; exact S_w1.out.new #[.bool qa.up, .slice aa an ac, .slice aA aN aC, .int .i64 qa.head.no, .int .i64 qa.head.area, .int .i64 qa.head.en, .slice ap aq ar] 30)
  clear S_w1
  go_wp2_with fail
  go_at_call 5
  rw [← hw1a]
  clear hw1a
  refine (CI.out _ _ _ _ w1a w1a.heap.size S_w1a.out (Nat.le_refl _)).mono ?_
  rintro e w2 ⟨ga, gn, gc, gA, gN, gC, gp, gq, gr, rfl, ow2, lw2, bw2⟩
  have Z3 := (show Hid (w1a.heap.size ≤ w2.heap.size) from bw2.size)
  have S_w2 := (show Hid (La w0 [(w1.heap.size, #[.bool qa.up, .slice aa an ac, .slice aA aN aC, .int .i64 qa.head.no, .int .i64 qa.head.area, .int .i64 qa.head.en, .slice ap aq ar], 30)] [(w1a.heap.size, w2.heap.size, .agg #[.bool qa.up, .slice ga gn gc, .slice gA gN gC, .int .i64 qa.head.no, .int .i64 qa.head.area, .int .i64 qa.head.en, .slice gp gq gr], qa), (w0.heap.size, w1.heap.size, .agg #[.bool qa.up, .slice aa an ac, .slice aA aN aC, .int .i64 qa.head.no, .int .i64 qa.head.area, .int .i64 qa.head.en, .slice ap aq ar], qa)] [] [] w2) from lw2.add ow2)
  clear S_w1a bw2
  clear lw2 ow2
  obtain ⟨w2a, hw2a⟩ : ∃ x, x = w2.alloc (.cells #[.bool qa.up, .slice ga gn gc, .slice gA gN gC, .int .i64 qa.head.no, .int .i64 qa.head.area, .int .i64 qa.head.en, .slice gp gq gr] 30) := ⟨_, rfl⟩
  have Z4 := (show Hid (w2.heap.size < w2a.heap.size) from (show w2.heap.size < w2a.heap.size by rw [hw2a, World.size_alloc]; omega))
  obtain ⟨o0_0, o0_1, o0_2, o0_3, o0_4, o0_5, o0_6, _⟩ := rk_seven (S_w2.out.hl.2 _ (List.mem_cons_self ..))
  have o0_l := lt_of_block (S_w2.out.hl.2 _ (List.mem_cons_self ..))
  have S_w2a := (show Hid (La w0 [(w2.heap.size, #[.bool qa.up, .slice ga gn gc, .slice gA gN gC, .int .i64 qa.head.no, .int .i64 qa.head.area, .int .i64 qa.head.en, .slice gp gq gr], 30), (w1.heap.size, #[.bool qa.up, .slice aa an ac, .slice aA aN aC, .int .i64 qa.head.no, .int .i64 qa.head.area, .int .i64 qa.head.en, .slice ap aq ar], 30)] [(w1a.heap.size, w2.heap.size, .agg #[.bool qa.up, .slice ga gn gc, .slice gA gN gC, .int .i64 qa.head.no, .int .i64 qa.head.area, .int .i64 qa.head.en, .slice gp gq gr], qa), (w0.heap.size, w1.heap.size, .agg #[.bool qa.up, .slice aa an ac, .slice aA aN aC, .int .i64 qa.head.no, .int .i64 qa.head.area, .int .i64 qa.head.en, .slice ap aq ar], qa)] [] [] w2a) from by rw [hw2a]; exact S_w2.out.new #[.bool qa.up, .slice ga gn gc, .slice gA gN gC, .int .i64 qa.head.no, .int .i64 qa.head.area, .int .i64 qa.head.en, .slice gp gq gr] 30)
  clear S_w2
  go_wp2_with fail
  go_at_call 6
  rw [← hw2a]
  clear hw2a
  refine (S_w2a.out.eqA (S_w2a.out.rows _ (List.mem_cons_self ..)).1.at (S_w2a.out.rows _ (List.mem_cons_of_mem _ (List.mem_cons_self ..))).1.at FQ.out).mono ?_
  rintro e w3 ⟨rfl, lw3, bw3⟩
  have Z5 := (show Hid (w2a.heap.size ≤ w3.heap.size) from bw3.size)
  have S_w3 := (show Hid (La w0 [(w2.heap.size, #[.bool qa.up, .slice ga gn gc, .slice gA gN gC, .int .i64 qa.head.no, .int .i64 qa.head.area, .int .i64 qa.head.en, .slice gp gq gr], 30), (w1.heap.size, #[.bool qa.up, .slice aa an ac, .slice aA aN aC, .int .i64 qa.head.no, .int .i64 qa.head.area, .int .i64 qa.head.en, .slice ap aq ar], 30)] [(w1a.heap.size, w2.heap.size, .agg #[.bool qa.up, .slice ga gn gc, .slice gA gN gC, .int .i64 qa.head.no, .int .i64 qa.head.area, .int .i64 qa.head.en, .slice gp gq gr], qa), (w0.heap.size, w1.heap.size, .agg #[.bool qa.up, .slice aa an ac, .slice aA aN aC, .int .i64 qa.head.no, .int .i64 qa.head.area, .int .i64 qa.head.en, .slice ap aq ar], qa)] [] [] w3) from lw3)
  clear S_w2a bw3
  clear o0_0 o0_1 o0_2 o0_3 o0_4 o0_5 o0_6 o0_l
  clear lw3
  have hlo : w0.heap.size ≤ w1a.heap.size := by have := Z0.out; have := Z1.out; have := Z2.out; have := Z3.out; have := Z4.out; have := Z5.out; omega
  have hR : ∀ r ∈ ([(w0.heap.size, w1.heap.size, .agg #[.bool qa.up, .slice aa an ac, .slice aA aN aC, .int .i64 qa.head.no, .int .i64 qa.head.area, .int .i64 qa.head.en, .slice ap aq ar], qa)] : List (Nat × Nat × Value × PArch)), r.2.1 ≤ w1a.heap.size ∨ w2.heap.size ≤ r.1 := by
    intro r hr
    simp only [List.mem_cons, List.not_mem_nil, or_false] at hr
    rcases hr with rfl
    · show w1.heap.size ≤ w1a.heap.size ∨ w2.heap.size ≤ w0.heap.size
      have := Z0.out; have := Z1.out; have := Z2.out; have := Z3.out; have := Z4.out; have := Z5.out; omega
  have hS : ∀ r ∈ ([] : List (Nat × Nat × Value × List ByteArray)), r.2.1 ≤ w1a.heap.size ∨ w2.heap.size ≤ r.1 := by
    intro r hr
    cases hr
  have CM := (show Hid _ from S_w3.out.mkA FQ.out hlo hR hS (by simp))
  clear hlo hR hS
  obtain ⟨c0_0, c0_1, c0_2, c0_3, c0_4, c0_5, c0_6, _⟩ := rk_seven (S_w3.out.hl.2 _ (List.mem_cons_self ..))
  obtain ⟨c1_0, c1_1, c1_2, c1_3, c1_4, c1_5, c1_6, _⟩ := rk_seven (S_w3.out.hl.2 _ (List.mem_cons_of_mem _ (List.mem_cons_self ..)))
  go_wp2_with fail
  go_at_call 7
  refine Calls.mono CM.out ?_
  rintro e w4 ⟨rfl, lw4, zw4⟩
  clear CM
  have Z6 := (show Hid (w3.heap.size ≤ w4.heap.size) from zw4)
  have S_w4 := (show Hid (La w0 [(w2.heap.size, #[.bool qa.up, .slice ga gn gc, .slice gA gN gC, .int .i64 qa.head.no, .int .i64 qa.head.area, .int .i64 qa.head.en, .slice gp gq gr], 30), (w1.heap.size, #[.bool qa.up, .slice aa an ac, .slice aA aN aC, .int .i64 qa.head.no, .int .i64 qa.head.area, .int .i64 qa.head.en, .slice ap aq ar], 30)] [(w1a.heap.size, w2.heap.size, .agg #[.bool qa.up, .slice ga gn gc, .slice gA gN gC, .int .i64 qa.head.no, .int .i64 qa.head.area, .int .i64 qa.head.en, .slice gp gq gr], (markA qa)), (w0.heap.size, w1.heap.size, .agg #[.bool qa.up, .slice aa an ac, .slice aA aN aC, .int .i64 qa.head.no, .int .i64 qa.head.area, .int .i64 qa.head.en, .slice ap aq ar], qa)] [] [] w4) from lw4)
  clear S_w3 lw4 zw4
  clear c0_0 c0_1 c0_2 c0_3 c0_4 c0_5 c0_6 c1_0 c1_1 c1_2 c1_3 c1_4 c1_5 c1_6
  obtain ⟨c0_0, c0_1, c0_2, c0_3, c0_4, c0_5, c0_6, _⟩ := rk_seven (S_w4.out.hl.2 _ (List.mem_cons_self ..))
  obtain ⟨c1_0, c1_1, c1_2, c1_3, c1_4, c1_5, c1_6, _⟩ := rk_seven (S_w4.out.hl.2 _ (List.mem_cons_of_mem _ (List.mem_cons_self ..)))
  go_wp2_with fail
  go_at_call 8
  refine (S_w4.out.heldA (a := qa) (S_w4.out.rows _ (List.mem_cons_self ..)).1.at FQ.out).mono ?_
  rintro e w5 ⟨rfl, lw5, bw5⟩
  have Z7 := (show Hid (w4.heap.size ≤ w5.heap.size) from bw5.size)
  have S_w5 := (show Hid (La w0 [(w2.heap.size, #[.bool qa.up, .slice ga gn gc, .slice gA gN gC, .int .i64 qa.head.no, .int .i64 qa.head.area, .int .i64 qa.head.en, .slice gp gq gr], 30), (w1.heap.size, #[.bool qa.up, .slice aa an ac, .slice aA aN aC, .int .i64 qa.head.no, .int .i64 qa.head.area, .int .i64 qa.head.en, .slice ap aq ar], 30)] [(w1a.heap.size, w2.heap.size, .agg #[.bool qa.up, .slice ga gn gc, .slice gA gN gC, .int .i64 qa.head.no, .int .i64 qa.head.area, .int .i64 qa.head.en, .slice gp gq gr], (markA qa)), (w0.heap.size, w1.heap.size, .agg #[.bool qa.up, .slice aa an ac, .slice aA aN aC, .int .i64 qa.head.no, .int .i64 qa.head.area, .int .i64 qa.head.en, .slice ap aq ar], qa)] [] [] w5) from lw5)
  clear S_w4 bw5
  clear c0_0 c0_1 c0_2 c0_3 c0_4 c0_5 c0_6 c1_0 c1_1 c1_2 c1_3 c1_4 c1_5 c1_6
  clear lw5
  obtain ⟨c0_0, c0_1, c0_2, c0_3, c0_4, c0_5, c0_6, _⟩ := rk_seven (S_w5.out.hl.2 _ (List.mem_cons_self ..))
  obtain ⟨c1_0, c1_1, c1_2, c1_3, c1_4, c1_5, c1_6, _⟩ := rk_seven (S_w5.out.hl.2 _ (List.mem_cons_of_mem _ (List.mem_cons_self ..)))
  go_wp2_with fail
  go_at_call 5
  refine (CI.out _ _ _ _ w5 w5.heap.size S_w5.out (Nat.le_refl _)).mono ?_
  rintro e w6 ⟨ka, kn, kc, kA, kN, kC, kp, kq, kr, rfl, ow6, lw6, bw6⟩
  have Z8 := (show Hid (w5.heap.size ≤ w6.heap.size) from bw6.size)
  have S_w6 := (show Hid (La w0 [(w2.heap.size, #[.bool qa.up, .slice ga gn gc, .slice gA gN gC, .int .i64 qa.head.no, .int .i64 qa.head.area, .int .i64 qa.head.en, .slice gp gq gr], 30), (w1.heap.size, #[.bool qa.up, .slice aa an ac, .slice aA aN aC, .int .i64 qa.head.no, .int .i64 qa.head.area, .int .i64 qa.head.en, .slice ap aq ar], 30)] [(w5.heap.size, w6.heap.size, .agg #[.bool qa.up, .slice ka kn kc, .slice kA kN kC, .int .i64 qa.head.no, .int .i64 qa.head.area, .int .i64 qa.head.en, .slice kp kq kr], qa), (w1a.heap.size, w2.heap.size, .agg #[.bool qa.up, .slice ga gn gc, .slice gA gN gC, .int .i64 qa.head.no, .int .i64 qa.head.area, .int .i64 qa.head.en, .slice gp gq gr], (markA qa)), (w0.heap.size, w1.heap.size, .agg #[.bool qa.up, .slice aa an ac, .slice aA aN aC, .int .i64 qa.head.no, .int .i64 qa.head.area, .int .i64 qa.head.en, .slice ap aq ar], qa)] [] [] w6) from lw6.add ow6)
  clear S_w5 bw6
  clear c0_0 c0_1 c0_2 c0_3 c0_4 c0_5 c0_6 c1_0 c1_1 c1_2 c1_3 c1_4 c1_5 c1_6
  clear lw6 ow6
  obtain ⟨w6a, hw6a⟩ : ∃ x, x = w6.alloc (.cells #[.bool qa.up, .slice ka kn kc, .slice kA kN kC, .int .i64 qa.head.no, .int .i64 qa.head.area, .int .i64 qa.head.en, .slice kp kq kr] 30) := ⟨_, rfl⟩
  have Z9 := (show Hid (w6.heap.size < w6a.heap.size) from (show w6.heap.size < w6a.heap.size by rw [hw6a, World.size_alloc]; omega))
  obtain ⟨o0_0, o0_1, o0_2, o0_3, o0_4, o0_5, o0_6, _⟩ := rk_seven (S_w6.out.hl.2 _ (List.mem_cons_self ..))
  have o0_l := lt_of_block (S_w6.out.hl.2 _ (List.mem_cons_self ..))
  obtain ⟨o1_0, o1_1, o1_2, o1_3, o1_4, o1_5, o1_6, _⟩ := rk_seven (S_w6.out.hl.2 _ (List.mem_cons_of_mem _ (List.mem_cons_self ..)))
  have o1_l := lt_of_block (S_w6.out.hl.2 _ (List.mem_cons_of_mem _ (List.mem_cons_self ..)))
  have S_w6a := (show Hid (La w0 [(w6.heap.size, #[.bool qa.up, .slice ka kn kc, .slice kA kN kC, .int .i64 qa.head.no, .int .i64 qa.head.area, .int .i64 qa.head.en, .slice kp kq kr], 30), (w2.heap.size, #[.bool qa.up, .slice ga gn gc, .slice gA gN gC, .int .i64 qa.head.no, .int .i64 qa.head.area, .int .i64 qa.head.en, .slice gp gq gr], 30), (w1.heap.size, #[.bool qa.up, .slice aa an ac, .slice aA aN aC, .int .i64 qa.head.no, .int .i64 qa.head.area, .int .i64 qa.head.en, .slice ap aq ar], 30)] [(w5.heap.size, w6.heap.size, .agg #[.bool qa.up, .slice ka kn kc, .slice kA kN kC, .int .i64 qa.head.no, .int .i64 qa.head.area, .int .i64 qa.head.en, .slice kp kq kr], qa), (w1a.heap.size, w2.heap.size, .agg #[.bool qa.up, .slice ga gn gc, .slice gA gN gC, .int .i64 qa.head.no, .int .i64 qa.head.area, .int .i64 qa.head.en, .slice gp gq gr], (markA qa)), (w0.heap.size, w1.heap.size, .agg #[.bool qa.up, .slice aa an ac, .slice aA aN aC, .int .i64 qa.head.no, .int .i64 qa.head.area, .int .i64 qa.head.en, .slice ap aq ar], qa)] [] [] w6a) from by rw [hw6a]; exact S_w6.out.new #[.bool qa.up, .slice ka kn kc, .slice kA kN kC, .int .i64 qa.head.no, .int .i64 qa.head.area, .int .i64 qa.head.en, .slice kp kq kr] 30)
  clear S_w6
  go_wp2_with fail
  go_at_call 6
  rw [← hw6a]
  clear hw6a
  refine (S_w6a.out.eqA (S_w6a.out.rows _ (List.mem_cons_self ..)).1.at (S_w6a.out.rows _ (List.mem_cons_of_mem _ (List.mem_cons_of_mem _ (List.mem_cons_self ..)))).1.at FQ.out).mono ?_
  rintro e w7 ⟨rfl, lw7, bw7⟩
  have Z10 := (show Hid (w6a.heap.size ≤ w7.heap.size) from bw7.size)
  have S_w7 := (show Hid (La w0 [(w6.heap.size, #[.bool qa.up, .slice ka kn kc, .slice kA kN kC, .int .i64 qa.head.no, .int .i64 qa.head.area, .int .i64 qa.head.en, .slice kp kq kr], 30), (w2.heap.size, #[.bool qa.up, .slice ga gn gc, .slice gA gN gC, .int .i64 qa.head.no, .int .i64 qa.head.area, .int .i64 qa.head.en, .slice gp gq gr], 30), (w1.heap.size, #[.bool qa.up, .slice aa an ac, .slice aA aN aC, .int .i64 qa.head.no, .int .i64 qa.head.area, .int .i64 qa.head.en, .slice ap aq ar], 30)] [(w5.heap.size, w6.heap.size, .agg #[.bool qa.up, .slice ka kn kc, .slice kA kN kC, .int .i64 qa.head.no, .int .i64 qa.head.area, .int .i64 qa.head.en, .slice kp kq kr], qa), (w1a.heap.size, w2.heap.size, .agg #[.bool qa.up, .slice ga gn gc, .slice gA gN gC, .int .i64 qa.head.no, .int .i64 qa.head.area, .int .i64 qa.head.en, .slice gp gq gr], (markA qa)), (w0.heap.size, w1.heap.size, .agg #[.bool qa.up, .slice aa an ac, .slice aA aN aC, .int .i64 qa.head.no, .int .i64 qa.head.area, .int .i64 qa.head.en, .slice ap aq ar], qa)] [] [] w7) from lw7)
  clear S_w6a bw7
  clear o0_0 o0_1 o0_2 o0_3 o0_4 o0_5 o0_6 o0_l o1_0 o1_1 o1_2 o1_3 o1_4 o1_5 o1_6 o1_l
  clear lw7
  obtain ⟨c0_0, c0_1, c0_2, c0_3, c0_4, c0_5, c0_6, _⟩ := rk_seven (S_w7.out.hl.2 _ (List.mem_cons_self ..))
  obtain ⟨c1_0, c1_1, c1_2, c1_3, c1_4, c1_5, c1_6, _⟩ := rk_seven (S_w7.out.hl.2 _ (List.mem_cons_of_mem _ (List.mem_cons_self ..)))
  obtain ⟨c2_0, c2_1, c2_2, c2_3, c2_4, c2_5, c2_6, _⟩ := rk_seven (S_w7.out.hl.2 _ (List.mem_cons_of_mem _ (List.mem_cons_of_mem _ (List.mem_cons_self ..))))
  go_wp2_with fail
  go_at_call 8
  refine (S_w7.out.heldA (a := qa) (S_w7.out.rows _ (List.mem_cons_of_mem _ (List.mem_cons_self ..))).1.at FQ.out).mono ?_
  rintro e w8 ⟨rfl, lw8, bw8⟩
  have Z11 := (show Hid (w7.heap.size ≤ w8.heap.size) from bw8.size)
  have S_w8 := (show Hid (La w0 [(w6.heap.size, #[.bool qa.up, .slice ka kn kc, .slice kA kN kC, .int .i64 qa.head.no, .int .i64 qa.head.area, .int .i64 qa.head.en, .slice kp kq kr], 30), (w2.heap.size, #[.bool qa.up, .slice ga gn gc, .slice gA gN gC, .int .i64 qa.head.no, .int .i64 qa.head.area, .int .i64 qa.head.en, .slice gp gq gr], 30), (w1.heap.size, #[.bool qa.up, .slice aa an ac, .slice aA aN aC, .int .i64 qa.head.no, .int .i64 qa.head.area, .int .i64 qa.head.en, .slice ap aq ar], 30)] [(w5.heap.size, w6.heap.size, .agg #[.bool qa.up, .slice ka kn kc, .slice kA kN kC, .int .i64 qa.head.no, .int .i64 qa.head.area, .int .i64 qa.head.en, .slice kp kq kr], qa), (w1a.heap.size, w2.heap.size, .agg #[.bool qa.up, .slice ga gn gc, .slice gA gN gC, .int .i64 qa.head.no, .int .i64 qa.head.area, .int .i64 qa.head.en, .slice gp gq gr], (markA qa)), (w0.heap.size, w1.heap.size, .agg #[.bool qa.up, .slice aa an ac, .slice aA aN aC, .int .i64 qa.head.no, .int .i64 qa.head.area, .int .i64 qa.head.en, .slice ap aq ar], qa)] [] [] w8) from lw8)
  clear S_w7 bw8
  clear c0_0 c0_1 c0_2 c0_3 c0_4 c0_5 c0_6 c1_0 c1_1 c1_2 c1_3 c1_4 c1_5 c1_6 c2_0 c2_1 c2_2 c2_3 c2_4 c2_5 c2_6
  clear lw8
  go_wp2
  go_ret
  exact ⟨rfl, S_w8.out.hl.1⟩
end Go.Proofs.Ytbpncleapnohjaa
