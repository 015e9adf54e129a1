/- The laws' toArchive. No condition. -/
import Derived.Test.YtokkigfjabbdaaaGreatDoorU28
import Derived.Test.YtokkigfjabbdaaaGreatDoorU11
import Derived.Test.YtokkigfjabbdaaaGreatDoorU10
import Derived.Test.YtokkigfjabbdaaaGreatDoorU14
import Derived.Test.YtokkigfjabbdaaaGreatDoorU16
namespace Go.Proofs.YtokkigfjabbdaaaGreatDoor
open Go.RowKit
set_option maxRecDepth 100000
set_option linter.unusedVariables false

/-- A block of an archive is turned. -/
theorem OwnDk.setA {B b k : Nat} {w : World} {v u : Value} {d : PDisk} (h : OwnDk B w v d) {cs : Array Value} {fr : Nat × Nat} (hb : w.heap[b]? = some (.cells cs 39 fr)) : OwnDk B (w.setCell ⟨b, k, none⟩ u) v d := by
  obtain ⟨sa, sn, sc, la, ln, lc, e, h1, h2⟩ := h
  exact ⟨sa, sn, sc, la, ln, lc, e, rk_set h1 hb (by decide), rk_set h2 hb (by decide)⟩
theorem Hl.set7 {w W : World} {L : List (Nat × Array Value × TypeId)} {N : Nat} {x0 x1 x2 x3 x4 x5 x6 : Value} {t : TypeId} (h : Hl w ((N, #[x0, x1, x2, x3, x4, x5, x6], t) :: L) W) (hN : w.heap.size ≤ N) (hL : ∀ p ∈ L, p.1 ≠ N) (a0 a1 a2 a3 a4 a5 a6 : Value) : Hl w ((N, #[a0, a1, a2, a3, a4, a5, a6], t) :: L) (((((((W.setCell ⟨N, 0, none⟩ a0).setCell ⟨N, 1, none⟩ a1).setCell ⟨N, 2, none⟩ a2).setCell ⟨N, 3, none⟩ a3).setCell ⟨N, 4, none⟩ a4).setCell ⟨N, 5, none⟩ a5).setCell ⟨N, 6, none⟩ a6) := by
  have h1 : Hl w ((N, #[a0, x1, x2, x3, x4, x5, x6], t) :: L) (W.setCell ⟨N, 0, none⟩ a0) := h.set hN hL 0 a0
  have h2 : Hl w ((N, #[a0, a1, x2, x3, x4, x5, x6], t) :: L) ((W.setCell ⟨N, 0, none⟩ a0).setCell ⟨N, 1, none⟩ a1) := h1.set hN hL 1 a1
  have h3 : Hl w ((N, #[a0, a1, a2, x3, x4, x5, x6], t) :: L) (((W.setCell ⟨N, 0, none⟩ a0).setCell ⟨N, 1, none⟩ a1).setCell ⟨N, 2, none⟩ a2) := h2.set hN hL 2 a2
  have h4 : Hl w ((N, #[a0, a1, a2, a3, x4, x5, x6], t) :: L) ((((W.setCell ⟨N, 0, none⟩ a0).setCell ⟨N, 1, none⟩ a1).setCell ⟨N, 2, none⟩ a2).setCell ⟨N, 3, none⟩ a3) := h3.set hN hL 3 a3
  have h5 : Hl w ((N, #[a0, a1, a2, a3, a4, x5, x6], t) :: L) (((((W.setCell ⟨N, 0, none⟩ a0).setCell ⟨N, 1, none⟩ a1).setCell ⟨N, 2, none⟩ a2).setCell ⟨N, 3, none⟩ a3).setCell ⟨N, 4, none⟩ a4) := h4.set hN hL 4 a4
  have h6 : Hl w ((N, #[a0, a1, a2, a3, a4, a5, x6], t) :: L) ((((((W.setCell ⟨N, 0, none⟩ a0).setCell ⟨N, 1, none⟩ a1).setCell ⟨N, 2, none⟩ a2).setCell ⟨N, 3, none⟩ a3).setCell ⟨N, 4, none⟩ a4).setCell ⟨N, 5, none⟩ a5) := h5.set hN hL 5 a5
  exact h6.set hN hL 6 a6
theorem Lw.setAr {w W : World} {L : List (Nat × Array Value × TypeId)} {R : List (Nat × Nat × Value × PDisk)} {Y : List (Nat × Nat × Value × List Int)} {N : Nat} {x0 x1 x2 x3 x4 x5 x6 : Value} (h : Lw w ((N, #[x0, x1, x2, x3, x4, x5, x6], 39) :: L) R Y W) (hw : w.heap.size ≤ N) (hL : ∀ p ∈ L, p.1 ≠ N) (a0 a1 a2 a3 a4 a5 a6 : Value) : Lw w ((N, #[a0, a1, a2, a3, a4, a5, a6], 39) :: L) R Y (((((((W.setCell ⟨N, 0, none⟩ a0).setCell ⟨N, 1, none⟩ a1).setCell ⟨N, 2, none⟩ a2).setCell ⟨N, 3, none⟩ a3).setCell ⟨N, 4, none⟩ a4).setCell ⟨N, 5, none⟩ a5).setCell ⟨N, 6, none⟩ a6) := by
  have h1 : Lw w ((N, #[a0, x1, x2, x3, x4, x5, x6], 39) :: L) R Y (W.setCell ⟨N, 0, none⟩ a0) := h.set hw hL (by decide) (by decide) (by decide) 0 a0
  have h2 : Lw w ((N, #[a0, a1, x2, x3, x4, x5, x6], 39) :: L) R Y ((W.setCell ⟨N, 0, none⟩ a0).setCell ⟨N, 1, none⟩ a1) := h1.set hw hL (by decide) (by decide) (by decide) 1 a1
  have h3 : Lw w ((N, #[a0, a1, a2, x3, x4, x5, x6], 39) :: L) R Y (((W.setCell ⟨N, 0, none⟩ a0).setCell ⟨N, 1, none⟩ a1).setCell ⟨N, 2, none⟩ a2) := h2.set hw hL (by decide) (by decide) (by decide) 2 a2
  have h4 : Lw w ((N, #[a0, a1, a2, a3, x4, x5, x6], 39) :: L) R Y ((((W.setCell ⟨N, 0, none⟩ a0).setCell ⟨N, 1, none⟩ a1).setCell ⟨N, 2, none⟩ a2).setCell ⟨N, 3, none⟩ a3) := h3.set hw hL (by decide) (by decide) (by decide) 3 a3
  have h5 : Lw w ((N, #[a0, a1, a2, a3, a4, x5, x6], 39) :: L) R Y (((((W.setCell ⟨N, 0, none⟩ a0).setCell ⟨N, 1, none⟩ a1).setCell ⟨N, 2, none⟩ a2).setCell ⟨N, 3, none⟩ a3).setCell ⟨N, 4, none⟩ a4) := h4.set hw hL (by decide) (by decide) (by decide) 4 a4
  have h6 : Lw w ((N, #[a0, a1, a2, a3, a4, a5, x6], 39) :: L) R Y ((((((W.setCell ⟨N, 0, none⟩ a0).setCell ⟨N, 1, none⟩ a1).setCell ⟨N, 2, none⟩ a2).setCell ⟨N, 3, none⟩ a3).setCell ⟨N, 4, none⟩ a4).setCell ⟨N, 5, none⟩ a5) := h5.set hw hL (by decide) (by decide) (by decide) 5 a5
  exact h6.set hw hL (by decide) (by decide) (by decide) 6 a6
/-- A row is kept when an archive's block is turned as a whole. -/
theorem own_row7 {w W : World} {L : List (Nat × Array Value × TypeId)} {N : Nat} {x0 x1 x2 x3 x4 x5 x6 : Value} (h : Hl w ((N, #[x0, x1, x2, x3, x4, x5, x6], 39) :: L) W) (hN : w.heap.size ≤ N) (hL : ∀ p ∈ L, p.1 ≠ N) (a0 a1 a2 a3 a4 a5 a6 : Value) {B' e size n : Nat} {v' : Value} {xs : List Value} (p : W.ownsRow B' e size v' n xs) (he : 39 ≠ e) :
    (((((((W.setCell ⟨N, 0, none⟩ a0).setCell ⟨N, 1, none⟩ a1).setCell ⟨N, 2, none⟩ a2).setCell ⟨N, 3, none⟩ a3).setCell ⟨N, 4, none⟩ a4).setCell ⟨N, 5, none⟩ a5).setCell ⟨N, 6, none⟩ a6).ownsRow B' e size v' n xs := by
  have h1 := h.set hN hL 0 a0
  have h2 := h1.set hN hL 1 a1
  have h3 := h2.set hN hL 2 a2
  have h4 := h3.set hN hL 3 a3
  have h5 := h4.set hN hL 4 a4
  have h6 := h5.set hN hL 5 a5
  exact rk_set (rk_set (rk_set (rk_set (rk_set (rk_set (rk_set p h.at0 he) h1.at0 he) h2.at0 he) h3.at0 he) h4.at0 he) h5.at0 he) h6.at0 he

set_option maxHeartbeats 2000000 in
set_option maxRecDepth 100000 in
theorem toArchive_any {v : Value} {a : PArch} {w : World} (h : ArAt w v a) (hf : ArFit a) :
    Calls Tryz.prog 9 #[v] w fun e w' => ∃ v', e = .returned v' ∧ OwnAy w.heap.size w' v' a ∧ Below w.heap.size w w' := by
  obtain ⟨up, d, ⟨no, ar, en⟩, ls⟩ := a
  obtain ⟨sa, sn, sc, la, ln, lc, ea, en', ec, rfl, h1', h2⟩ := h
  simp only at h1' h2
  have H1 := (show Hid (DiskAt w (.agg #[.slice sa sn sc, .slice la ln lc]) d) from h1')
  have H2 := (show Hid (Sv 2 w (.slice ea en' ec) (pairCells ls)) from h2)
  have HF := (show Hid (DiskFit d) from hf.d)
  have hn : ls.length ≤ 1048576 := hf.el
  clear h1' h2 hf
  obtain ⟨w1, hw1⟩ : ∃ x, x = ((w.alloc (.cells #[.bool up, .slice sa sn sc, .slice la ln lc, .int .i64 no, .int .i64 ar, .int .i64 en, .slice ea en' ec] 30)).alloc (.cells #[.bool false, .slice none 0 0, .slice none 0 0, .int .i64 0, .int .i64 0, .int .i64 0, .slice none 0 0] 39)).alloc (.cells #[.bool up, .slice none 0 0, .slice none 0 0, .int .i64 0, .int .i64 0, .int .i64 0, .slice none 0 0] 39) := ⟨_, rfl⟩
  have hl := (((Lw.refl w).new #[.bool up, .slice sa sn sc, .slice la ln lc, .int .i64 no, .int .i64 ar, .int .i64 en, .slice ea en' ec] 30).new #[.bool false, .slice none 0 0, .slice none 0 0, .int .i64 0, .int .i64 0, .int .i64 0, .slice none 0 0] 39).new #[.bool up, .slice none 0 0, .slice none 0 0, .int .i64 0, .int .i64 0, .int .i64 0, .slice none 0 0] 39
  rw [← hw1, World.size_alloc, World.size_alloc] at hl
  have HL := (show Hid (Lw w [(w.heap.size + 1 + 1, #[.bool up, .slice none 0 0, .slice none 0 0, .int .i64 0, .int .i64 0, .int .i64 0, .slice none 0 0], 39), (w.heap.size + 1, #[.bool false, .slice none 0 0, .slice none 0 0, .int .i64 0, .int .i64 0, .int .i64 0, .slice none 0 0], 39), (w.heap.size, #[.bool up, .slice sa sn sc, .slice la ln lc, .int .i64 no, .int .i64 ar, .int .i64 en, .slice ea en' ec], 30)] [] [] w1) from hl)
  clear hl
  have hL2 : ∀ p ∈ ([(w.heap.size + 1, #[.bool false, .slice none 0 0, .slice none 0 0, .int .i64 0, .int .i64 0, .int .i64 0, .slice none 0 0], 39), (w.heap.size, #[.bool up, .slice sa sn sc, .slice la ln lc, .int .i64 no, .int .i64 ar, .int .i64 en, .slice ea en' ec], 30)] : List (Nat × Array Value × TypeId)), p.1 ≠ w.heap.size + 1 + 1 := by
    intro p hp
    simp only [List.mem_cons, List.not_mem_nil, or_false] at hp
    rcases hp with rfl | rfl
    · show w.heap.size + 1 ≠ w.heap.size + 1 + 1; omega
    · show w.heap.size ≠ w.heap.size + 1 + 1; omega
  have HLL := (show Hid _ from hL2)
  clear hL2
  have hne1 : w.heap.size ≠ w.heap.size + 1 + 1 := by omega
  have hne2 : w.heap.size + 1 ≠ w.heap.size + 1 + 1 := by omega
  go_enter Tryz.func9, Tryz.ntmps9
  go_wp2_with fail
  go_at_call 32
  rw [← hw1]
  refine (toDisk_any (H1.out.below HL.out.hl.1) HF.out).mono ?_
  rintro x w2 ⟨v2, rfl, o2, b2⟩
  clear hw1
  have o2' := OwnDy.of (OwnDz.of o2)
  obtain ⟨ta, tn, tc, ma, mn, mc, rfl, _⟩ := o2
  have s2 := (HL.out.below b2).add (o2'.base HL.out.hl.1.size)
  have s3 : Lw w [(w.heap.size + 1 + 1, #[.bool up, .slice ta tn tc, .slice ma mn mc, .int .i64 0, .int .i64 0, .int .i64 0, .slice none 0 0], 39), (w.heap.size + 1, #[.bool false, .slice none 0 0, .slice none 0 0, .int .i64 0, .int .i64 0, .int .i64 0, .slice none 0 0], 39), (w.heap.size, #[.bool up, .slice sa sn sc, .slice la ln lc, .int .i64 no, .int .i64 ar, .int .i64 en, .slice ea en' ec], 30)] [(w.heap.size, w2.heap.size, .agg #[.slice ta tn tc, .slice ma mn mc], d)] [] ((w2.setCell ⟨w.heap.size + 1 + 1, 1, none⟩ (.slice ta tn tc)).setCell ⟨w.heap.size + 1 + 1, 2, none⟩ (.slice ma mn mc)) := (s2.set (by omega) HLL.out (by decide) (by decide) (by decide) 1 (.slice ta tn tc)).set (by omega) HLL.out (by decide) (by decide) (by decide) 2 (.slice ma mn mc)
  obtain ⟨m0, m1, m2, m3, m4, m5, m6, _⟩ := rk_seven s2.hl.at0
  have f1 := rk_thaw (k := 1) s2.hl.at0
  have f2 := rk_thaw (k := 2) s2.hl.at0
  obtain ⟨w3, hw3⟩ : ∃ x, x = (w2.setCell ⟨w.heap.size + 1 + 1, 1, none⟩ (.slice ta tn tc)).setCell ⟨w.heap.size + 1 + 1, 2, none⟩ (.slice ma mn mc) := ⟨_, rfl⟩
  rw [← hw3] at s3
  have S3 := (show Hid _ from s3)
  clear s2 s3 o2' b2 HL
  go_upto_region 4 with fail
  rw [← hw3]
  clear hw3 m0 m1 m2 m3 m4 m5 m6 f1 f2
  obtain ⟨c0, c1, c2, c3, c4, c5, c6, _⟩ := rk_seven S3.out.hl.at2
  go_wp2_with fail
  go_at_call 33
  refine (toHead_any ⟨no, ar, en⟩ _).mono ?_
  rintro x w4 ⟨rfl, b4⟩
  have s4 := S3.out.below b4
  have s5 : Lw w [(w.heap.size + 1 + 1, #[.bool up, .slice ta tn tc, .slice ma mn mc, .int .i64 no, .int .i64 ar, .int .i64 en, .slice none 0 0], 39), (w.heap.size + 1, #[.bool false, .slice none 0 0, .slice none 0 0, .int .i64 0, .int .i64 0, .int .i64 0, .slice none 0 0], 39), (w.heap.size, #[.bool up, .slice sa sn sc, .slice la ln lc, .int .i64 no, .int .i64 ar, .int .i64 en, .slice ea en' ec], 30)] [(w.heap.size, w2.heap.size, .agg #[.slice ta tn tc, .slice ma mn mc], d)] [] (((w4.setCell ⟨w.heap.size + 1 + 1, 3, none⟩ (.int .i64 no)).setCell ⟨w.heap.size + 1 + 1, 4, none⟩ (.int .i64 ar)).setCell ⟨w.heap.size + 1 + 1, 5, none⟩ (.int .i64 en)) := ((s4.set (by omega) HLL.out (by decide) (by decide) (by decide) 3 (.int .i64 no)).set (by omega) HLL.out (by decide) (by decide) (by decide) 4 (.int .i64 ar)).set (by omega) HLL.out (by decide) (by decide) (by decide) 5 (.int .i64 en)
  obtain ⟨m0, m1, m2, m3, m4, m5, m6, _⟩ := rk_seven s4.hl.at0
  have f3 := rk_thaw (k := 3) s4.hl.at0
  have f4 := rk_thaw (k := 4) s4.hl.at0
  have f5 := rk_thaw (k := 5) s4.hl.at0
  obtain ⟨w5, hw5⟩ : ∃ x, x = ((w4.setCell ⟨w.heap.size + 1 + 1, 3, none⟩ (.int .i64 no)).setCell ⟨w.heap.size + 1 + 1, 4, none⟩ (.int .i64 ar)).setCell ⟨w.heap.size + 1 + 1, 5, none⟩ (.int .i64 en) := ⟨_, rfl⟩
  rw [← hw5] at s5
  have S5 := (show Hid _ from s5)
  clear s4 s5 b4 S3 c0 c1 c2 c3 c4 c5 c6
  unfold headV
  simp only
  go_upto_region 5 with fail
  rw [← hw5]
  clear hw5 m0 m1 m2 m3 m4 m5 m6 f3 f4 f5
  obtain ⟨c0, c1, c2, c3, c4, c5, c6, _⟩ := rk_seven S5.out.hl.at2
  go_wp2_with fail
  go_at_call 34
  refine (toEntryS_any (H2.out.below S5.out.hl.1) hn).mono ?_
  rintro x w6 ⟨v6, rfl, o6, b6⟩
  obtain ⟨fa, fn, fc, rfl⟩ := rk_slice o6
  have s6 := S5.out.below b6
  have s7 : Lw w [(w.heap.size + 1 + 1, #[.bool up, .slice ta tn tc, .slice ma mn mc, .int .i64 no, .int .i64 ar, .int .i64 en, .slice fa fn fc], 39), (w.heap.size + 1, #[.bool false, .slice none 0 0, .slice none 0 0, .int .i64 0, .int .i64 0, .int .i64 0, .slice none 0 0], 39), (w.heap.size, #[.bool up, .slice sa sn sc, .slice la ln lc, .int .i64 no, .int .i64 ar, .int .i64 en, .slice ea en' ec], 30)] [(w.heap.size, w2.heap.size, .agg #[.slice ta tn tc, .slice ma mn mc], d)] [] (w6.setCell ⟨w.heap.size + 1 + 1, 6, none⟩ (.slice fa fn fc)) := s6.set (by omega) HLL.out (by decide) (by decide) (by decide) 6 (.slice fa fn fc)
  have o7 := rk_set (k := 6) (u := .slice fa fn fc) (rk_base o6 S5.out.hl.1.size) s6.hl.at0 (by decide)
  obtain ⟨m0, m1, m2, m3, m4, m5, m6, _⟩ := rk_seven s6.hl.at0
  have f6 := rk_thaw (k := 6) s6.hl.at0
  obtain ⟨w7, hw7⟩ : ∃ x, x = w6.setCell ⟨w.heap.size + 1 + 1, 6, none⟩ (.slice fa fn fc) := ⟨_, rfl⟩
  rw [← hw7] at s7 o7
  have S7 := (show Hid _ from s7)
  have P7 := (show Hid _ from o7)
  clear s6 s7 o6 o7 b6 S5 c0 c1 c2 c3 c4 c5 c6
  go_upto_region 6 with fail
  rw [← hw7]
  clear hw7 m0 m1 m2 m3 m4 m5 m6 f6
  obtain ⟨c0, c1, c2, c3, c4, c5, c6, _⟩ := rk_seven S7.out.hl.at0
  obtain ⟨d0, d1, d2, d3, d4, d5, d6, _⟩ := rk_seven S7.out.hl.at1
  have g0 := rk_thaw (k := 0) S7.out.hl.at1
  have g1 := rk_thaw (k := 1) S7.out.hl.at1
  have g2 := rk_thaw (k := 2) S7.out.hl.at1
  have g3 := rk_thaw (k := 3) S7.out.hl.at1
  have g4 := rk_thaw (k := 4) S7.out.hl.at1
  have g5 := rk_thaw (k := 5) S7.out.hl.at1
  have g6 := rk_thaw (k := 6) S7.out.hl.at1
  have h8 : Hl w [(w.heap.size + 1, #[.bool false, .slice none 0 0, .slice none 0 0, .int .i64 0, .int .i64 0, .int .i64 0, .slice none 0 0], 39)] w7 := S7.out.hl.sub (by simp)
  obtain ⟨dd, er, hd7⟩ : ∃ dd, dd = d ∧ OwnDy w.heap.size w7 (.agg #[.slice ta tn tc, .slice ma mn mc]) dd := ⟨d, rfl, (S7.out.rows _ (List.mem_cons_self ..)).1⟩
  subst er
  have s8 := (S7.out.sub (L' := [(w.heap.size + 1, #[.bool false, .slice none 0 0, .slice none 0 0, .int .i64 0, .int .i64 0, .int .i64 0, .slice none 0 0], 39)]) (by simp) (fun p hp => hp) (fun p hp => hp)).setAr (Nat.le_succ _) (by simp) (.bool up) (.slice ta tn tc) (.slice ma mn mc) (.int .i64 no) (.int .i64 ar) (.int .i64 en) (.slice fa fn fc)
  have o8 := own_row7 h8 (Nat.le_succ _) (by simp) (.bool up) (.slice ta tn tc) (.slice ma mn mc) (.int .i64 no) (.int .i64 ar) (.int .i64 en) (.slice fa fn fc) P7.out (by decide)
  have S8 := (show Hid _ from s8)
  have P8 := (show Hid _ from o8)
  clear s8 o8 h8 hd7
  go_wp2
  refine bodyPost_ret (results_cell_row rfl _ _ (w.heap.size + 1) 39 #[.bool up, .slice ta tn tc, .slice ma mn mc, .int .i64 no, .int .i64 ar, .int .i64 en, .slice fa fn fc] (0, 0) _ rfl S8.out.hl.at0 Tryz.underlying39 rfl rfl) rfl ?_
  exact ⟨_, rfl, ⟨_, _, _, _, _, _, _, _, _, rfl, (S8.out.rows _ (List.mem_cons_self ..)).1, OwnY.of (.inl P8.out)⟩, S8.out.hl.1⟩
end Go.Proofs.YtokkigfjabbdaaaGreatDoor

/- What a law on archives holds while it goes on: the calls. No condition. -/
namespace Go.Proofs.YtokkigfjabbdaaaGreatDoor
open Go.RowKit
set_option maxRecDepth 100000
set_option linter.unusedVariables false

theorem lawA_open : (0 : Nat) = 0 := rfl
section
variable {w : World} {L : List (Nat × Array Value × TypeId)} {R : List (Nat × Nat × Value × PArch)} {Y : List (Nat × Nat × Value × List Int)} {S : List (Nat × Nat × Value × List ByteArray)} {W : World}
theorem La.toA {v : Value} {a : PArch} (h : La w L R Y S W) (hd : ArAt w v a) (hf : ArFit a) : Calls Tryz.prog 9 #[v] W fun e W' => ∃ sa sn sc la ln lc ea en ec, e = .returned (.agg #[.bool a.up, .slice sa sn sc, .slice la ln lc, .int .i64 a.head.no, .int .i64 a.head.area, .int .i64 a.head.en, .slice ea en ec]) ∧ La w L R Y S W' ∧ OwnAy W.heap.size W' (.agg #[.bool a.up, .slice sa sn sc, .slice la ln lc, .int .i64 a.head.no, .int .i64 a.head.area, .int .i64 a.head.en, .slice ea en ec]) a ∧ Below W.heap.size W W' := by
  refine (toArchive_any (hd.below h.hl.1) hf).mono ?_
  rintro e W' ⟨v', rfl, o, b⟩
  have o' := o
  obtain ⟨sa, sn, sc, la, ln, lc, ea, en, ec, rfl, _⟩ := o
  exact ⟨_, _, _, _, _, _, _, _, _, rfl, h.below b, o', b⟩
theorem La.eqA {u v : Value} {a : PArch} (h : La w L R Y S W) (hu : ArAt W u a) (hv : ArAt W v a) (hf : ArFit a) : Calls Tryz.prog 11 #[u, v] W fun e W' => e = .returned (.bool true) ∧ La w L R Y S W' ∧ Below W.heap.size W W' := by
  refine (eqArchive_any hu hv hf).mono ?_
  rintro e W' ⟨rfl, b⟩
  exact ⟨rfl, h.below b, b⟩
theorem La.heldA {v : Value} {a : PArch} (h : La w L R Y S W) (hv : ArAt W v (markA a)) (hf : ArFit a) : Calls Tryz.prog 20 #[v, .int .i64 1] W fun e W' => e = .returned (.int .i64 (arEnd a)) ∧ La w L R Y S W' ∧ Below W.heap.size W W' := by
  refine (heldArchive_any hv hf).mono ?_
  rintro e W' ⟨rfl, b⟩
  exact ⟨rfl, h.below b, b⟩
theorem La.mkA {lo hi : Nat} {v : Value} {a : PArch} (h : La w L ((lo, hi, v, a) :: R) Y S W) (hf : ArFit a) (hlo : w.heap.size ≤ lo) (hR : ∀ r ∈ R, r.2.1 ≤ lo ∨ hi ≤ r.1) (hS : ∀ r ∈ S, r.2.1 ≤ lo ∨ hi ≤ r.1) (hL : ∀ p ∈ L, p.2.2 ≠ 9 ∧ p.2.2 ≠ 88 ∧ p.2.2 ≠ 70) :
    Calls Tryz.prog 15 #[v, .int .i64 1] W fun e W' => e = .returned (.int .i64 (arEnd a)) ∧ La w L ((lo, hi, v, markA a) :: R) Y S W' ∧ W.heap.size ≤ W'.heap.size := by
  refine (markArchive_any (h.rows _ (List.mem_cons_self ..)).1 hf).mono ?_
  rintro e W' ⟨rfl, o, f⟩
  exact ⟨rfl, h.fr hlo hR hS hL o f, f.size⟩
theorem lawA_end : (0 : Nat) = 0 := rfl
end
theorem arEnd_pos (a : PArch) : ¬ (arEnd a < 0) := by unfold arEnd; omega
end Go.Proofs.YtokkigfjabbdaaaGreatDoor

/- A disk among the arguments: slices of texts and of puts. -/
namespace Go.Proofs.YtokkigfjabbdaaaGreatDoor
open Go.RowKit Go.ChangeShapes Go.WideShapes
set_option maxRecDepth 100000
set_option linter.unusedVariables false

theorem rows_strs {rows : List (List Value)} (h : ∀ r ∈ rows, r.length = 1 ∧ ∃ s : ByteArray, r = [.string s] ∧ s.size ≤ maxLen) :
    ∃ ss : List ByteArray, rows.flatten = strCells ss ∧ ∀ s ∈ ss, s.size ≤ maxLen := by
  induction rows with
  | nil => exact ⟨[], rfl, fun p hp => by cases hp⟩
  | cons r rows ih =>
    obtain ⟨rs, h1, h2⟩ := ih (fun q hq => h q (List.mem_cons_of_mem _ hq))
    obtain ⟨_, p, rfl, hp⟩ := h r (List.mem_cons_self ..)
    refine ⟨p :: rs, ?_, fun q hq => ?_⟩
    · rw [List.flatten_cons, h1]; rfl
    · rcases List.mem_cons.mp hq with rfl | hq
      · exact hp
      · exact h2 q hq
theorem rows_puts {rows : List (List Value)} (h : ∀ r ∈ rows, r.length = 2 ∧ ∃ p : Int × ByteArray, r = [.int .i64 p.1, .string p.2] ∧ p.2.size ≤ maxLen) :
    ∃ rs : List (Int × ByteArray), rows.flatten = putCells rs ∧ ∀ p ∈ rs, p.2.size ≤ maxLen := by
  induction rows with
  | nil => exact ⟨[], rfl, fun p hp => by cases hp⟩
  | cons r rows ih =>
    obtain ⟨rs, h1, h2⟩ := ih (fun q hq => h q (List.mem_cons_of_mem _ hq))
    obtain ⟨_, p, rfl, hp⟩ := h r (List.mem_cons_self ..)
    refine ⟨p :: rs, ?_, fun q hq => ?_⟩
    · rw [List.flatten_cons, h1]; rfl
    · rcases List.mem_cons.mp hq with rfl | hq
      · exact hp
      · exact h2 q hq

section
variable {H : Type} {enc : TypeId × Value → H} {P : Program} {w : World} {base : Nat} {spare : Nat → Bool} {held : Bool}

theorem trod_put {t : TypeId} {f0 f1 : Field} {fuel : Nat} {cs : List Value} {x : DataW H × List MemPlace} (ht : P.underlying t = some (.struct #[f0, f1])) (hc : P.cellsOf t = 2)
    (h0 : P.underlying f0.type = some (.int .i64)) (h1 : P.underlying f1.type = some .string) (c0 : P.cellsOf f0.type = 1) (c1 : P.cellsOf f1.type = 1) (o0 : f0.offset = 0) (o1 : f1.offset = 1)
    (h : DataW.trod enc P w base spare held fuel t cs = some x) : ∃ p : Int × ByteArray, cs = [.int .i64 p.1, .string p.2] ∧ p.2.size ≤ maxLen := by
  obtain ⟨xs, n, _, _, hl, hx, hf⟩ := DataW.trod_struct ht h
  have e0 := hf 0 f0 rfl
  have e1 := hf 1 f1 rfl
  rw [c0, o0, List.drop_zero] at e0
  rw [c1, o1] at e1
  have hxs : xs.length = 2 := hx
  rw [List.getElem?_eq_getElem (by omega)] at e0 e1
  obtain ⟨a, ha, _, _⟩ := DataW.trod_int h0 e0
  obtain ⟨b, hb, _, sb⟩ := DataW.trod_string h1 e1
  rw [hc] at hl
  match cs, hl with
  | [u, v], _ =>
    simp at ha hb
    exact ⟨(a, b), by rw [ha, hb], sb⟩
theorem trod_one {t : TypeId} {fuel : Nat} {cs : List Value} {x : DataW H × List MemPlace} (ht : P.underlying t = some .string) (h : DataW.trod enc P w base spare held fuel t cs = some x) : ∃ s : ByteArray, cs = [.string s] ∧ s.size ≤ maxLen := by
  obtain ⟨a, ha, _, sa⟩ := DataW.trod_string ht h
  exact ⟨a, ha, sa⟩
theorem trod_disk {t es ep : TypeId} {f0 f1 g0 g1 : Field} {fuel : Nat} {cs : List Value} {x : DataW H × List MemPlace} (ht : P.underlying t = some (.struct #[f0, f1])) (hc : P.cellsOf t = 2)
    (h0 : P.underlying f0.type = some (.slice es)) (h1 : P.underlying f1.type = some (.slice ep)) (c0 : P.cellsOf f0.type = 1) (c1 : P.cellsOf f1.type = 1) (o0 : f0.offset = 0) (o1 : f1.offset = 1)
    (hes : P.underlying es = some .string) (hesc : P.cellsOf es = 1)
    (he : P.underlying ep = some (.struct #[g0, g1])) (hec : P.cellsOf ep = 2) (q0 : P.underlying g0.type = some (.int .i64)) (q1 : P.underlying g1.type = some .string) (r0 : P.cellsOf g0.type = 1) (r1 : P.cellsOf g1.type = 1) (p0 : g0.offset = 0) (p1 : g1.offset = 1)
    (h : DataW.trod enc P w base spare held fuel t cs = some x) :
    ∃ (va vb : Value) (d : PDisk), cs = [va, vb] ∧ DiskAt w (.agg #[va, vb]) d ∧ (∀ s ∈ d.safe, s.size ≤ maxLen) ∧ (∀ p ∈ d.late, p.2.size ≤ maxLen) := by
  obtain ⟨xs, n, _, _, hl, hx, hf⟩ := DataW.trod_struct ht h
  have e0 := hf 0 f0 rfl
  have e1 := hf 1 f1 rfl
  rw [c0, o0, List.drop_zero] at e0
  rw [c1, o1] at e1
  have hxs : xs.length = 2 := hx
  rw [List.getElem?_eq_getElem (by omega)] at e0 e1
  rw [hc] at hl
  match cs, hl with
  | [v0, v1], _ =>
    simp only [List.drop_succ_cons, List.drop_zero, List.take_succ_cons, List.take_zero] at e0 e1
    obtain ⟨rowsA, hsA, hrA⟩ := open_rows (n := 1) (fun cs => ∃ s : ByteArray, cs = [.string s] ∧ s.size ≤ maxLen) h0 hesc (by decide) (fun m cs y hy => trod_one hes hy) e0
    obtain ⟨rowsB, hsB, hrB⟩ := open_rows (n := 2) (fun cs => ∃ p : Int × ByteArray, cs = [.int .i64 p.1, .string p.2] ∧ p.2.size ≤ maxLen) h1 hec (by decide) (fun m cs y hy => trod_put he hec q0 q1 r0 r1 p0 p1 hy) e1
    obtain ⟨ss, eA, hss⟩ := rows_strs hrA
    obtain ⟨ps, eB, hps⟩ := rows_puts hrB
    rw [eA] at hsA
    rw [eB] at hsB
    have hsA' := hsA
    have hsB' := hsB
    obtain ⟨a, n1, c1', rfl, _⟩ := hsA'
    obtain ⟨b, n2, c2', rfl, _⟩ := hsB'
    exact ⟨_, _, ⟨ss, ps⟩, rfl, ⟨_, _, _, _, _, _, rfl, hsA, hsB⟩, hss, hps⟩
end
end Go.Proofs.YtokkigfjabbdaaaGreatDoor

/- A head among the arguments: a struct of three ints. -/
namespace Go.Proofs.YtokkigfjabbdaaaGreatDoor
open Go.RowKit Go.ChangeShapes Go.WideShapes
set_option maxRecDepth 100000
set_option linter.unusedVariables false

section
variable {H : Type} {enc : TypeId × Value → H} {P : Program} {w : World} {base : Nat} {spare : Nat → Bool} {held : Bool}

theorem trod_head {t : TypeId} {f0 f1 f2 : Field} {fuel : Nat} {cs : List Value} {x : DataW H × List MemPlace} (ht : P.underlying t = some (.struct #[f0, f1, f2])) (hc : P.cellsOf t = 3)
    (h0 : P.underlying f0.type = some (.int .i64)) (h1 : P.underlying f1.type = some (.int .i64)) (h2 : P.underlying f2.type = some (.int .i64)) (c0 : P.cellsOf f0.type = 1) (c1 : P.cellsOf f1.type = 1) (c2 : P.cellsOf f2.type = 1) (o0 : f0.offset = 0) (o1 : f1.offset = 1) (o2 : f2.offset = 2)
    (h : DataW.trod enc P w base spare held fuel t cs = some x) : ∃ p : PHead, cs = [.int .i64 p.no, .int .i64 p.area, .int .i64 p.en] ∧ (Lit.int .i64 p.no).wf = true ∧ (Lit.int .i64 p.area).wf = true ∧ (Lit.int .i64 p.en).wf = true := by
  obtain ⟨xs, n, _, _, hl, hx, hf⟩ := DataW.trod_struct ht h
  have e0 := hf 0 f0 rfl
  have e1 := hf 1 f1 rfl
  have e2 := hf 2 f2 rfl
  rw [c0, o0, List.drop_zero] at e0
  rw [c1, o1] at e1
  rw [c2, o2] at e2
  have hxs : xs.length = 3 := hx
  rw [List.getElem?_eq_getElem (by omega)] at e0 e1 e2
  rw [hc] at hl
  match cs, hl with
  | [u, v, y], _ =>
    simp only [List.drop_succ_cons, List.drop_zero, List.take_succ_cons, List.take_zero] at e0 e1 e2
    obtain ⟨a, ha, _, wa⟩ := DataW.trod_int h0 e0
    obtain ⟨b, hb, _, wb⟩ := DataW.trod_int h1 e1
    obtain ⟨c, hc, _, wc⟩ := DataW.trod_int h2 e2
    cases ha
    cases hb
    cases hc
    exact ⟨⟨a, b, c⟩, rfl, wa, wb, wc⟩
end
end Go.Proofs.YtokkigfjabbdaaaGreatDoor

/- An archive among the arguments: a bool, a disk, a head, a slice of entries. -/
namespace Go.Proofs.YtokkigfjabbdaaaGreatDoor
open Go.RowKit Go.ChangeShapes Go.WideShapes
set_option maxRecDepth 100000
set_option linter.unusedVariables false

section
variable {H : Type} {enc : TypeId × Value → H} {P : Program} {w : World} {base : Nat} {spare : Nat → Bool} {held : Bool}

theorem trod_ents {t e : TypeId} {g0 g1 : Field} {fuel : Nat} {x : DataW H × List MemPlace} (h0 : P.underlying t = some (.slice e))
    (he : P.underlying e = some (.struct #[g0, g1])) (hec : P.cellsOf e = 2) (q0 : P.underlying g0.type = some .string) (q1 : P.underlying g1.type = some .string) (r0 : P.cellsOf g0.type = 1) (r1 : P.cellsOf g1.type = 1) (p0 : g0.offset = 0) (p1 : g1.offset = 1) {v : Value}
    (h : DataW.trod enc P w base spare held fuel t [v] = some x) : ∃ rs : List (ByteArray × ByteArray), Sv 2 w v (pairCells rs) ∧ ∀ p ∈ rs, p.1.size ≤ maxLen ∧ p.2.size ≤ maxLen := by
  obtain ⟨rows, hs, hr⟩ := open_rows (n := 2) (fun cs => ∃ p : ByteArray × ByteArray, cs = [.string p.1, .string p.2] ∧ p.1.size ≤ maxLen ∧ p.2.size ≤ maxLen) h0 hec (by decide)
    (fun m cs y hy => trod_pair he hec q0 q1 r0 r1 p0 p1 hy) h
  obtain ⟨rs, er, hrs⟩ := rows_pairs hr
  rw [er] at hs
  exact ⟨rs, hs, hrs⟩
theorem trod_arch {t : TypeId} {f0 f1 f2 f3 : Field} {fuel : Nat} {cs : List Value} {x : DataW H × List MemPlace} (ht : P.underlying t = some (.struct #[f0, f1, f2, f3])) (hc : P.cellsOf t = 7)
    (h0 : P.underlying f0.type = some .bool) (c0 : P.cellsOf f0.type = 1) (c1 : P.cellsOf f1.type = 2) (c2 : P.cellsOf f2.type = 3) (c3 : P.cellsOf f3.type = 1) (o0 : f0.offset = 0) (o1 : f1.offset = 1) (o2 : f2.offset = 3) (o3 : f3.offset = 6)
    (hD : ∀ (m : Nat) (cs : List Value) (y : DataW H × List MemPlace), DataW.trod enc P w base spare held m f1.type cs = some y → ∃ (va vb : Value) (d : PDisk), cs = [va, vb] ∧ DiskAt w (.agg #[va, vb]) d ∧ (∀ s ∈ d.safe, s.size ≤ maxLen) ∧ (∀ p ∈ d.late, p.2.size ≤ maxLen))
    (hH : ∀ (m : Nat) (cs : List Value) (y : DataW H × List MemPlace), DataW.trod enc P w base spare held m f2.type cs = some y → ∃ p : PHead, cs = [.int .i64 p.no, .int .i64 p.area, .int .i64 p.en] ∧ (Lit.int .i64 p.no).wf = true ∧ (Lit.int .i64 p.area).wf = true ∧ (Lit.int .i64 p.en).wf = true)
    (hE : ∀ (m : Nat) (v : Value) (y : DataW H × List MemPlace), DataW.trod enc P w base spare held m f3.type [v] = some y → ∃ rs : List (ByteArray × ByteArray), Sv 2 w v (pairCells rs) ∧ ∀ p ∈ rs, p.1.size ≤ maxLen ∧ p.2.size ≤ maxLen)
    (h : DataW.trod enc P w base spare held fuel t cs = some x) :
    ∃ (a : PArch) (v0 v1 v2 v3 v4 v5 v6 : Value), cs = [v0, v1, v2, v3, v4, v5, v6] ∧ ArAt w (.agg #[v0, v1, v2, v3, v4, v5, v6]) a ∧ ((Lit.int .i64 a.head.no).wf = true ∧ (Lit.int .i64 a.head.area).wf = true ∧ (Lit.int .i64 a.head.en).wf = true) ∧ (∀ s ∈ a.disk.safe, s.size ≤ maxLen) ∧ (∀ p ∈ a.disk.late, p.2.size ≤ maxLen) ∧ (∀ p ∈ a.list, p.1.size ≤ maxLen ∧ p.2.size ≤ maxLen) := by
  obtain ⟨xs, n, _, _, hl, hx, hf⟩ := DataW.trod_struct ht h
  have e0 := hf 0 f0 rfl
  have e1 := hf 1 f1 rfl
  have e2 := hf 2 f2 rfl
  have e3 := hf 3 f3 rfl
  rw [c0, o0, List.drop_zero] at e0
  rw [c1, o1] at e1
  rw [c2, o2] at e2
  rw [c3, o3] at e3
  have hxs : xs.length = 4 := hx
  rw [List.getElem?_eq_getElem (by omega)] at e0 e1 e2 e3
  rw [hc] at hl
  match cs, hl with
  | [v0, v1, v2, v3, v4, v5, v6], _ =>
    simp only [List.drop_succ_cons, List.drop_zero, List.take_succ_cons, List.take_zero] at e0 e1 e2 e3
    obtain ⟨up, hup, _⟩ := DataW.trod_bool h0 e0
    obtain ⟨va, vb, d, ed, hd, d1, d2⟩ := hD _ _ _ e1
    obtain ⟨p, ep, p1, p2, p3⟩ := hH _ _ _ e2
    obtain ⟨rs, hr1, hr2⟩ := hE _ _ _ e3
    cases hup
    cases ed
    cases ep
    have hd' := hd
    have hr' := hr1
    obtain ⟨sa, sn, sc, la, ln, lc, e, _, _⟩ := hd'
    cases e
    obtain ⟨a, n2, c2', rfl, _⟩ := hr'
    exact ⟨⟨up, d, p, rs⟩, _, _, _, _, _, _, _, rfl, ⟨_, _, _, _, _, _, _, _, _, rfl, hd, hr1⟩, ⟨p1, p2, p3⟩, d1, d2, hr2⟩
end
end Go.Proofs.YtokkigfjabbdaaaGreatDoor

/- The program's small questions on heads and areas. No condition. -/
namespace Go.Proofs.YtokkigfjabbdaaaGreatDoor
open Go.RowKit
set_option maxRecDepth 100000
set_option linter.unusedVariables false

theorem iisArea_any (x : Int) (w : World) : Calls Tryz.prog 104 #[.int .i64 x] w fun e w' => e = .returned (.bool (inB x 0 1)) ∧ w' = w := by
  by_cases h1 : 0 ≤ x
  · by_cases h2 : x < 2
    · rw [inB_yes h1 (by omega)]
      go_enter Tryz.func104, Tryz.ntmps104
      go_wp2
      go_ret
      exact ⟨rfl, rfl⟩
    · have : inB x 0 1 = false := by simp [inB]; omega
      rw [this]
      go_enter Tryz.func104, Tryz.ntmps104
      go_wp2
      go_ret
      exact ⟨rfl, rfl⟩
  · have : inB x 0 1 = false := by simp [inB]; omega
    rw [this]
    go_enter Tryz.func104, Tryz.ntmps104
    go_wp2
    go_ret
    exact ⟨rfl, rfl⟩

set_option maxRecDepth 100000 in
theorem iisRight_any (h : PHead) (w : World) : Calls Tryz.prog 87 #[headV h] w fun e w' => e = .returned (.bool (headB h)) ∧ Below w.heap.size w w' := by
  obtain ⟨no, ar, en⟩ := h
  unfold headV
  simp only
  have b1 : Below w.heap.size w (w.alloc (.cells #[.int .i64 no, .int .i64 ar, .int .i64 en] 36)) := (Below.refl _ _).alloc (Nat.le_refl _) _
  have B1 := (show Hid _ from b1)
  clear b1
  obtain ⟨r, hr⟩ : ∃ r, r = headB ⟨no, ar, en⟩ := ⟨_, rfl⟩
  rw [← hr]
  have HR := (show Hid (r = (inB no 1 1000000000 && inB ar 0 1 && inB en 0 4096)) from hr)
  have CA := (show Hid _ from iisArea_any ar)
  clear hr
  by_cases h1 : 1 ≤ no
  · by_cases h2 : no ≤ 1000000000
    · cases hq : inB ar 0 1
      · rw [hq] at CA
        have HF : Hid (r = false) := (show r = false by rw [HR.out, hq]; simp)
        clear HR hq
        go_enter Tryz.func87, Tryz.ntmps87
        go_wp2_with fail
        go_at_call 104
        refine (CA.out _).mono ?_
        rintro e w2 ⟨rfl, e2⟩
        subst e2
        go_wp2
        go_ret
        exact ⟨ret_bool HF.out.symm, B1.out⟩
      · rw [hq] at CA
        by_cases h3 : 0 ≤ en
        · by_cases h4 : en ≤ 4096
          · have HF : Hid (r = true) := (show r = true by rw [HR.out, hq, inB_yes h1 h2, inB_yes h3 h4]; rfl)
            clear HR hq
            go_enter Tryz.func87, Tryz.ntmps87
            go_wp2_with fail
            go_at_call 104
            refine (CA.out _).mono ?_
            rintro e w2 ⟨rfl, e2⟩
            subst e2
            go_wp2
            go_ret
            exact ⟨ret_bool HF.out.symm, B1.out⟩
          · have HF : Hid (r = false) := (show r = false by rw [HR.out, inB_no (x := en) (lo := 0) (hi := 4096) (by omega)]; simp)
            clear HR hq
            go_enter Tryz.func87, Tryz.ntmps87
            go_wp2_with fail
            go_at_call 104
            refine (CA.out _).mono ?_
            rintro e w2 ⟨rfl, e2⟩
            subst e2
            go_wp2
            go_ret
            exact ⟨ret_bool ((decide_eq_false (by omega)).trans HF.out.symm), B1.out⟩
        · have HF : Hid (r = false) := (show r = false by rw [HR.out, inB_no (x := en) (lo := 0) (hi := 4096) (by omega)]; simp)
          clear HR hq
          go_enter Tryz.func87, Tryz.ntmps87
          go_wp2_with fail
          go_at_call 104
          refine (CA.out _).mono ?_
          rintro e w2 ⟨rfl, e2⟩
          subst e2
          go_wp2
          go_ret
          exact ⟨ret_bool HF.out.symm, B1.out⟩
    · have HF : Hid (r = false) := (show r = false by rw [HR.out, inB_no (x := no) (lo := 1) (hi := 1000000000) (by omega)]; simp)
      clear HR CA
      go_enter Tryz.func87, Tryz.ntmps87
      go_wp2
      go_ret
      exact ⟨ret_bool HF.out.symm, B1.out⟩
  · have HF : Hid (r = false) := (show r = false by rw [HR.out, inB_no (x := no) (lo := 1) (hi := 1000000000) (by omega)]; simp)
    clear HR CA
    go_enter Tryz.func87, Tryz.ntmps87
    go_wp2
    go_ret
    exact ⟨ret_bool HF.out.symm, B1.out⟩

/-- What spanOk answers. -/
def spanB (a at' n : Int) : Bool := inB a 0 1 && inB at' 0 4096 && inB n 0 (4096 - at')
theorem ispanOk_any (a at' n : Int) (w : World) : Calls Tryz.prog 126 #[.int .i64 a, .int .i64 at', .int .i64 n] w fun e w' => e = .returned (.bool (spanB a at' n)) ∧ w' = w := by
  obtain ⟨r, hr⟩ : ∃ r, r = spanB a at' n := ⟨_, rfl⟩
  rw [← hr]
  have HR := (show Hid (r = (inB a 0 1 && inB at' 0 4096 && inB n 0 (4096 - at'))) from hr)
  have CA := (show Hid _ from iisArea_any a)
  clear hr
  cases hq : inB a 0 1
  · rw [hq] at CA
    have HF : Hid (r = false) := (show r = false by rw [HR.out, hq]; simp)
    clear HR hq
    go_enter Tryz.func126, Tryz.ntmps126
    go_wp2_with fail
    go_at_call 104
    refine (CA.out _).mono ?_
    rintro e w2 ⟨rfl, e2⟩
    subst e2
    go_wp2
    go_ret
    exact ⟨ret_bool HF.out.symm, rfl⟩
  · rw [hq] at CA
    have HQ := (show Hid _ from hq)
    clear hq
    by_cases h1 : 0 ≤ at' ∧ at' ≤ 4096
    · obtain ⟨h1, h2⟩ := h1
      by_cases h3 : 0 ≤ n
      · by_cases h4 : n ≤ 4096 - at'
        · have HF : Hid (r = true) := (show r = true by rw [HR.out, HQ.out, inB_yes h1 h2, inB_yes h3 h4]; rfl)
          clear HR HQ
          go_enter Tryz.func126, Tryz.ntmps126
          go_wp2_with fail
          go_at_call 104
          refine (CA.out _).mono ?_
          rintro e w2 ⟨rfl, e2⟩
          subst e2
          go_wp2
          go_ret
          exact ⟨ret_bool HF.out.symm, rfl⟩
        · have HF : Hid (r = false) := (show r = false by rw [HR.out, inB_no (x := n) (lo := 0) (hi := 4096 - at') (by omega)]; simp)
          clear HR HQ
          go_enter Tryz.func126, Tryz.ntmps126
          go_wp2_with fail
          go_at_call 104
          refine (CA.out _).mono ?_
          rintro e w2 ⟨rfl, e2⟩
          subst e2
          go_wp2
          go_ret
          exact ⟨ret_bool ((decide_eq_false (by omega)).trans HF.out.symm), rfl⟩
      · have HF : Hid (r = false) := (show r = false by rw [HR.out, inB_no (x := n) (lo := 0) (hi := 4096 - at') (by omega)]; simp)
        clear HR HQ
        go_enter Tryz.func126, Tryz.ntmps126
        go_wp2_with fail
        go_at_call 104
        refine (CA.out _).mono ?_
        rintro e w2 ⟨rfl, e2⟩
        subst e2
        go_wp2
        go_ret
        exact ⟨ret_bool HF.out.symm, rfl⟩
    · have HF : Hid (r = false) := (show r = false by rw [HR.out, inB_no (x := at') (lo := 0) (hi := 4096) (by omega)]; simp)
      clear HR HQ
      by_cases h0 : 0 ≤ at'
      · have h2 : ¬ (at' ≤ 4096) := fun e => h1 ⟨h0, e⟩
        clear h1
        go_enter Tryz.func126, Tryz.ntmps126
        go_wp2_with fail
        go_at_call 104
        refine (CA.out _).mono ?_
        rintro e w2 ⟨rfl, e2⟩
        subst e2
        go_wp2
        go_ret
        exact ⟨ret_bool HF.out.symm, rfl⟩
      · clear h1
        go_enter Tryz.func126, Tryz.ntmps126
        go_wp2_with fail
        go_at_call 104
        refine (CA.out _).mono ?_
        rintro e w2 ⟨rfl, e2⟩
        subst e2
        go_wp2
        go_ret
        exact ⟨ret_bool HF.out.symm, rfl⟩

theorem isectorAt_any (a : Int) (k : Nat) (w : World) (ha : a = 0 ∨ a = 1) (hk : k ≤ 4096) : Calls Tryz.prog 127 #[.int .i64 a, .int .i64 (k : Int)] w fun e w' => e = .returned (.int .i64 (2 + 64 * a + ((k / 64 : Nat) : Int))) ∧ w' = w := by
  obtain ⟨x, hx⟩ : ∃ x : Int, x = (k : Int) := ⟨_, rfl⟩
  have HX := (show Hid (x = (k : Int)) from hx)
  have h0 : 0 ≤ x := by omega
  have h1 : x ≤ 4096 := by omega
  rw [← hx]
  clear hx hk
  go_enter Tryz.func127, Tryz.ntmps127
  go_wp2
  go_ret
  refine ⟨ret_int ?_, rfl⟩
  have hx := HX.out
  rcases ha with rfl | rfl <;> simp <;> omega
end Go.Proofs.YtokkigfjabbdaaaGreatDoor
