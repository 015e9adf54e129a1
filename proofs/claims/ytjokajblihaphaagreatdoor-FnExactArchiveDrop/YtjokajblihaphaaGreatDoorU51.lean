/- shelfOf, and the program's ArchiveOk (written by mk/iar4.py). No condition. -/
import Derived.Test.YtjokajblihaphaaGreatDoorU50
import Derived.Test.YtjokajblihaphaaGreatDoorU26
import Derived.Test.YtjokajblihaphaaGreatDoorU39
namespace Go.Proofs.YtjokajblihaphaaGreatDoor
open Go.RowKit
set_option maxRecDepth 100000
set_option linter.unusedVariables false

/-- In W block N is a shelf of the archive a; its rows lie in blocks from B on; its lock is m. -/
def Shelf (B : Nat) (W : World) (N : Nat) (a : PArch) (m : Int) : Prop := ∃ sa sn sc la ln lc q r ea en ec st, B ≤ N ∧ W.heap[N]? = some (.cells #[.slice sa sn sc, .slice la ln lc, .int .i32 m, .int .u32 q, .int .i64 r, .bool a.up, .int .i64 a.head.no, .int .i64 a.head.area, .int .i64 a.head.en, .slice ea en ec, st] 93 (0, 0)) ∧ OwnDy B W (.agg #[.slice sa sn sc, .slice la ln lc]) a.disk ∧ OwnEy B W (.slice ea en ec) a.list
/-- What shelfOf answers. -/
def ShOut (B : Nat) (a : PArch) (q : Bool) (e : Ending) (W : World) : Prop := (q = false ∧ e = .returned (.pointer none)) ∨ (q = true ∧ ∃ N, e = .returned (.pointer (some ⟨N, 0, none⟩)) ∧ Shelf B W N a 0)
theorem ShOut.no {B : Nat} {a : PArch} {e : Ending} {W : World} (h : e = .returned (.pointer none)) : ShOut B a false e W := .inl ⟨rfl, h⟩
theorem ShOut.yes {B : Nat} {a : PArch} {e : Ending} {W : World} {N : Nat} (h : e = .returned (.pointer (some ⟨N, 0, none⟩))) (s : Shelf B W N a 0) : ShOut B a true e W := .inr ⟨rfl, N, h, s⟩
theorem own_putLen {B : Nat} {w : World} {a b : Value} {d : PDisk} (h : OwnDy B w (.agg #[a, b]) d) : ∃ sa sn sc la lc, a = .slice sa sn sc ∧ b = .slice la d.late.length lc := by
  obtain ⟨_, _, _, _, _, _, e, _, h2⟩ := h
  cases e
  obtain ⟨la, lc, e2, _⟩ := h2.sv.put
  cases e2
  exact ⟨_, _, _, _, _, rfl, rfl⟩

set_option maxHeartbeats 4000000 in
set_option maxRecDepth 100000 in
theorem ishelfOf_any {w : World} {v : Value} {a : PArch} (h : ArAt w v a) (hf : ArFit a) (hs : Sent w) :
    Calls Tryz.prog 41 #[v] w fun e w' => ShOut w.heap.size a (archB a) e w' ∧ Below w.heap.size w w' := by
  obtain ⟨up, d, ⟨no, ar, en⟩, ls⟩ := a
  obtain ⟨sa, sn, sc, la, ln, lc, ea, en', ec, rfl, h1, h2⟩ := h
  simp only at h1 h2
  have H1 := (show Hid (DiskAt w (.agg #[.slice sa sn sc, .slice la ln lc]) d) from h1)
  have H2 := (show Hid (Sv 2 w (.slice ea en' ec) (pairCells ls)) from h2)
  have HF := (show Hid (DiskFit d) from hf.d)
  have HT := (show Hid (Sent w) from hs)
  have hnl : ls.length ≤ 1099511627776 := by have := hf.el; simp only at this; omega
  have hn2 : d.late.length ≤ 1048576 := hf.d.ll
  clear h1 h2 hf hs
  have hnk := head_neK
  have hl := (Hl.refl w).new #[.bool up, .slice sa sn sc, .slice la ln lc, .int .i64 no, .int .i64 ar, .int .i64 en, .slice ea en' ec] 38
  obtain ⟨w1, hw1⟩ : ∃ x, x = w.alloc (.cells #[.bool up, .slice sa sn sc, .slice la ln lc, .int .i64 no, .int .i64 ar, .int .i64 en, .slice ea en' ec] 38) := ⟨_, rfl⟩
  rw [← hw1] at hl
  have HL := (show Hid (Hl w [(w.heap.size, #[.bool up, .slice sa sn sc, .slice la ln lc, .int .i64 no, .int .i64 ar, .int .i64 en, .slice ea en' ec], 38)] w1) from hl)
  clear hl
  obtain ⟨q, hq⟩ : ∃ q, q = archB ⟨up, d, ⟨no, ar, en⟩, ls⟩ := ⟨_, rfl⟩
  rw [← hq]
  have HQ := (show Hid (q = archB ⟨up, d, ⟨no, ar, en⟩, ls⟩) from hq)
  clear hq
  go_enter Tryz.func41, Tryz.ntmps41
  go_wp2_with fail
  go_at_call 75
  rw [← hw1]
  refine (idiskOk_any (H1.out.below HL.out.1) HF.out).mono ?_
  rintro e w2 ⟨rfl, b2⟩
  clear hw1
  have S_w2 := (show Hid (Hl w [(w.heap.size, #[.bool up, .slice sa sn sc, .slice la ln lc, .int .i64 no, .int .i64 ar, .int .i64 en, .slice ea en' ec], 38)] w2) from HL.out.below b2)
  clear b2 HL
  cases hb : diskB d
  · have hq : q = false := by rw [HQ.out, archB]; simp only; rw [hb]; rfl
    subst hq
    clear hb HQ
    go_wp2
    go_ret
    exact ⟨ShOut.no rfl, S_w2.out.1⟩
  · have HB := (show Hid (diskB d = true) from hb)
    clear hb
    obtain ⟨c0, c1, c2, c3, c4, c5, c6, _⟩ := rk_seven S_w2.out.at0
    go_wp2_with fail
    go_at_call 76
    refine (icopyOfDisk_any (H1.out.below S_w2.out.1) HF.out).mono ?_
    rintro e w3 ⟨v3, rfl, o3, b3⟩
    have o3' := (OwnDy.of o3).base S_w2.out.1.size
    obtain ⟨_, _, _, _, _, _, rfl, _⟩ := o3
    obtain ⟨ta, tn, tc, ma, mc, e1, e2⟩ := own_putLen o3'
    rw [e1, e2] at o3'
    rw [e1, e2]
    clear e1 e2
    have s3 := S_w2.out.below b3
    have N_ : ∃ N, N = w3.heap.size := ⟨_, rfl⟩
    obtain ⟨N, hN⟩ := N_
    have HNN := (show Hid (w.heap.size ≤ N) from by rw [hN]; exact s3.1.size)
    have s4 := s3.new #[.slice ta tn tc, .slice ma d.late.length mc, .int .i32 0, .int .u32 0, .int .i64 0, .bool false, .int .i64 0, .int .i64 0, .int .i64 0, .slice none 0 0, .slice none 0 0] 93
    have od4 := o3'.below ((Below.refl w3.heap.size w3).alloc (Nat.le_refl _) (.cells #[.slice ta tn tc, .slice ma d.late.length mc, .int .i32 0, .int .u32 0, .int .i64 0, .bool false, .int .i64 0, .int .i64 0, .int .i64 0, .slice none 0 0, .slice none 0 0] 93))
    obtain ⟨w4, hw4⟩ : ∃ x, x = w3.alloc (.cells #[.slice ta tn tc, .slice ma d.late.length mc, .int .i32 0, .int .u32 0, .int .i64 0, .bool false, .int .i64 0, .int .i64 0, .int .i64 0, .slice none 0 0, .slice none 0 0] 93) := ⟨_, rfl⟩
    have hz : w3.heap.size < w4.heap.size := by rw [hw4, World.size_alloc]; omega
    rw [← hw4, ← hN] at s4
    rw [← hw4] at od4
    have S_w4 := (show Hid (Hl w [(N, #[.slice ta tn tc, .slice ma d.late.length mc, .int .i32 0, .int .u32 0, .int .i64 0, .bool false, .int .i64 0, .int .i64 0, .int .i64 0, .slice none 0 0, .slice none 0 0], 93), (w.heap.size, #[.bool up, .slice sa sn sc, .slice la ln lc, .int .i64 no, .int .i64 ar, .int .i64 en, .slice ea en' ec], 38)] w4) from s4)
    have OD4 := (show Hid (OwnDy w.heap.size w4 (.agg #[.slice ta tn tc, .slice ma d.late.length mc]) d) from od4)
    have hNe : w.heap.size ≠ N := fun e => by
      have e1 := s4.at0
      have e2 := s4.at1
      rw [e, e1] at e2
      cases e2
    clear s3 s4 od4 o3' b3 hz c0 c1 c2 c3 c4 c5 c6 S_w2
    go_upto_region 4 with fail
    rw [← hw4, ← hN]
    clear hw4 hN
    obtain ⟨c0, c1, c2, c3, c4, c5, c6, _⟩ := rk_seven S_w4.out.at1
    obtain ⟨d0, d1, d2, d3, d4, d5, d6, d7, d8, d9⟩ := rk_ten S_w4.out.at0
    by_cases hlt : 0 < d.late.length
    · have hq : q = false := by
        rw [HQ.out, archB]; simp only
        rw [HB.out, show decide (d.late = []) = false from decide_eq_false (fun e => by rw [e] at hlt; exact absurd hlt (by decide))]; rfl
      subst hq
      clear HQ
      go_wp2
      go_ret
      exact ⟨ShOut.no rfl, S_w4.out.1⟩
    · have hnil : d.late = [] := List.length_eq_zero_iff.mp (by omega)
      have HN := (show Hid (d.late = []) from hnil)
      clear hnil
      cases up
      · have HQ := (show Hid (q = (headEq ⟨0, 0, 0⟩ ⟨no, ar, en⟩ && decide (([] : List (ByteArray × ByteArray)) = ls))) from (show _ = _ by
          rw [HQ.out, archB]; simp only
          rw [HB.out, decide_eq_true HN.out]
          have : decide (ls = []) = decide (([] : List (ByteArray × ByteArray)) = ls) := by
            by_cases e : ls = []
            · rw [decide_eq_true e, decide_eq_true e.symm]
            · rw [decide_eq_false e, decide_eq_false (fun h => e h.symm)]
          rw [this]; rfl))
        have hel : ([] : List (ByteArray × ByteArray)).length ≤ 1099511627776 := by decide
        have OE := (show Hid (OwnEy w.heap.size w4 (.slice none 0 0) []) from .inl ⟨rfl, rfl, none, rfl, fun _ => trivial⟩)
        have OD := OD4
        have CE := (show Hid (∀ n : Wd w4.heap.size w4, Calls Tryz.prog 78 #[.slice none 0 0, .slice ea en' ec] n.w fun e w' => e = .returned (.bool (decide (([] : List (ByteArray × ByteArray)) = ls))) ∧ Below n.w.heap.size n.w w') from fun n => iequal_any (OE.out.sv.below n.below) (H2.out.below (S_w4.out.below n.below).1) hel hnl)
        cases hh : headEq ⟨0, 0, 0⟩ ⟨no, ar, en⟩
        · have hq : q = false := by rw [HQ.out, hh]; rfl
          subst hq
          clear HQ
          go_wp2_with fail
          have gs := fun n : Wd w4.heap.size w4 => rk_ten (S_w4.out.below n.below).at0
          have ga := fun n : Wd w4.heap.size w4 => rk_seven (S_w4.out.below n.below).at1
          have gs6 := fun n : Wd w4.heap.size w4 => (gs n).2.2.2.2.2.2.1
          have gs7 := fun n : Wd w4.heap.size w4 => (gs n).2.2.2.2.2.2.2.1
          have gs8 := fun n : Wd w4.heap.size w4 => (gs n).2.2.2.2.2.2.2.2.1
          have gs9 := fun n : Wd w4.heap.size w4 => (gs n).2.2.2.2.2.2.2.2.2
          have ga3 := fun n : Wd w4.heap.size w4 => (ga n).2.2.2.1
          have ga4 := fun n : Wd w4.heap.size w4 => (ga n).2.2.2.2.1
          have ga5 := fun n : Wd w4.heap.size w4 => (ga n).2.2.2.2.2.1
          have ga6 := fun n : Wd w4.heap.size w4 => (ga n).2.2.2.2.2.2.1
          clear gs ga
          have ne := Wd.any w4.heap.size w4
          refine wp_region_below (by kernel_rfl) (by kernel_rfl) (Below.refl w4.heap.size w4) ?_
          repeat (go_big_quiet_step (fail))
          refine wpQuiet_nil ?_
          intro w9 hq9
          replace hq9 := Wd.of hq9
          clear gs6 gs7 gs8 gs9 ga3 ga4 ga5 ga6 ne
          go_wp2
          go_ret
          exact ⟨ShOut.no rfl, (S_w4.out.below hq9).1⟩
        · by_cases hes : ([] : List (ByteArray × ByteArray)) = ls
          · have hq : q = true := by rw [HQ.out, hh, decide_eq_true hes]; rfl
            subst hq
            rw [decide_eq_true hes] at CE
            have HES := (show Hid _ from And.intro (headEq_iff.mp hh) hes)
            clear HQ hes
            go_wp2_with fail
            have gs := fun n : Wd w4.heap.size w4 => rk_ten (S_w4.out.below n.below).at0
            have ga := fun n : Wd w4.heap.size w4 => rk_seven (S_w4.out.below n.below).at1
            have gs6 := fun n : Wd w4.heap.size w4 => (gs n).2.2.2.2.2.2.1
            have gs7 := fun n : Wd w4.heap.size w4 => (gs n).2.2.2.2.2.2.2.1
            have gs8 := fun n : Wd w4.heap.size w4 => (gs n).2.2.2.2.2.2.2.2.1
            have gs9 := fun n : Wd w4.heap.size w4 => (gs n).2.2.2.2.2.2.2.2.2
            have ga3 := fun n : Wd w4.heap.size w4 => (ga n).2.2.2.1
            have ga4 := fun n : Wd w4.heap.size w4 => (ga n).2.2.2.2.1
            have ga5 := fun n : Wd w4.heap.size w4 => (ga n).2.2.2.2.2.1
            have ga6 := fun n : Wd w4.heap.size w4 => (ga n).2.2.2.2.2.2.1
            clear gs ga
            have ne := Wd.any w4.heap.size w4
            refine wp_region_below (by kernel_rfl) (by kernel_rfl) (Below.refl w4.heap.size w4) ?_
            repeat (go_big_quiet_step ((go_at_call 78; exact quiet_below (CE.out _) (Nat.le_refl _))))
            refine wpQuiet_nil ?_
            intro w9 hq9
            replace hq9 := Wd.of hq9
            clear gs6 gs7 gs8 gs9 ga3 ga4 ga5 ga6 ne
            go_wp2
            go_ret
            refine ⟨ShOut.yes (N := N) rfl ⟨ta, tn, tc, ma, d.late.length, mc, 0, 0, none, 0, 0, .slice none 0 0, HNN.out, ?_, OD.out.below hq9, ?_⟩, (S_w4.out.below hq9).1⟩
            · have e1 := HES.out.1
              cases e1
              exact (S_w4.out.below hq9).at0
            · have e2 := HES.out.2
              subst e2
              exact OE.out.below hq9
          · have hq : q = false := by rw [HQ.out, hh, decide_eq_false hes]; rfl
            subst hq
            rw [decide_eq_false hes] at CE
            clear HQ hes
            go_wp2_with fail
            have gs := fun n : Wd w4.heap.size w4 => rk_ten (S_w4.out.below n.below).at0
            have ga := fun n : Wd w4.heap.size w4 => rk_seven (S_w4.out.below n.below).at1
            have gs6 := fun n : Wd w4.heap.size w4 => (gs n).2.2.2.2.2.2.1
            have gs7 := fun n : Wd w4.heap.size w4 => (gs n).2.2.2.2.2.2.2.1
            have gs8 := fun n : Wd w4.heap.size w4 => (gs n).2.2.2.2.2.2.2.2.1
            have gs9 := fun n : Wd w4.heap.size w4 => (gs n).2.2.2.2.2.2.2.2.2
            have ga3 := fun n : Wd w4.heap.size w4 => (ga n).2.2.2.1
            have ga4 := fun n : Wd w4.heap.size w4 => (ga n).2.2.2.2.1
            have ga5 := fun n : Wd w4.heap.size w4 => (ga n).2.2.2.2.2.1
            have ga6 := fun n : Wd w4.heap.size w4 => (ga n).2.2.2.2.2.2.1
            clear gs ga
            have ne := Wd.any w4.heap.size w4
            refine wp_region_below (by kernel_rfl) (by kernel_rfl) (Below.refl w4.heap.size w4) ?_
            repeat (go_big_quiet_step ((go_at_call 78; exact quiet_below (CE.out _) (Nat.le_refl _))))
            refine wpQuiet_nil ?_
            intro w9 hq9
            replace hq9 := Wd.of hq9
            clear gs6 gs7 gs8 gs9 ga3 ga4 ga5 ga6 ne
            go_wp2
            go_ret
            exact ⟨ShOut.no rfl, (S_w4.out.below hq9).1⟩
      · have HQ := (show Hid (q = (wellA d && (headEq (nowDk d) ⟨no, ar, en⟩ && decide (indexA d (nowDk d) = ls)))) from (show _ = _ by
          rw [HQ.out, archB, tellsA]; simp only
          rw [HB.out, decide_eq_true HN.out]; rfl))
        have CL := ishLoad_any S_w4.out.at0 OD4.out HB.out (HT.out.below S_w4.out.1)
        have NL := (show Hid ((nowDk d).en ≤ 4096) from (now_in d).2.2.2)
        have hel : (indexA d (nowDk d)).length ≤ 1099511627776 := by
          have h1 := indexA_len d (nowDk d)
          have h2 := NL.out
          omega
        obtain ⟨wl, hwl⟩ : ∃ b, b = wellA d := ⟨_, rfl⟩
        rw [← hwl] at CL HQ
        have CL := (show Hid _ from CL)
        clear hwl
        go_wp2_with fail
        go_at_call 77
        refine Calls.mono CL.out ?_
        rintro e w5 ⟨rfl, hno, hyes⟩
        clear c0 c1 c2 c3 c4 c5 c6 d0 d1 d2 d3 d4 d5 d6 d7 d8 d9 CL
        cases wl
        · have hq : q = false := by rw [HQ.out]; rfl
          subst hq
          obtain ⟨r5, f5⟩ := hno rfl
          have B5 := (show Hid (Below w.heap.size w w5) from (S_w4.out.1.grown f5.gr S_w4.out.1.size (fun r e => by cases e; exact HNN.out)))
          clear HQ hno hyes f5
          go_wp2
          go_ret
          exact ⟨ShOut.no rfl, B5.out⟩
        · have HQ := (show Hid (q = (headEq ⟨(nowDk d).no, (nowDk d).area, (nowDk d).en⟩ ⟨no, ar, en⟩ && decide (indexA d (nowDk d) = ls))) from HQ.out)
          obtain ⟨r5, fa, fn, fc, f5, o5⟩ := hyes rfl
          have hl5 : Hl w [(N, #[.slice ta tn tc, .slice ma d.late.length mc, .int .i32 0, .int .u32 0, .int .i64 r5, .bool true, .int .i64 (nowDk d).no, .int .i64 (nowDk d).area, .int .i64 (nowDk d).en, .slice fa fn fc, .slice none 0 0], 93), (w.heap.size, #[.bool true, .slice sa sn sc, .slice la ln lc, .int .i64 no, .int .i64 ar, .int .i64 en, .slice ea en' ec], 38)] w5 := by
            have t := S_w4.out.tail.past f5.gr (fun r e => by cases e; exact ⟨HNN.out, by simp; exact hNe⟩)
            exact ⟨t.1, fun p hp => by
              rcases List.mem_cons.mp hp with rfl | hp
              · exact f5.sh
              · exact t.2 p hp⟩
          have S_w5 := (show Hid (Hl w [(N, #[.slice ta tn tc, .slice ma d.late.length mc, .int .i32 0, .int .u32 0, .int .i64 r5, .bool true, .int .i64 (nowDk d).no, .int .i64 (nowDk d).area, .int .i64 (nowDk d).en, .slice fa fn fc, .slice none 0 0], 93), (w.heap.size, #[.bool true, .slice sa sn sc, .slice la ln lc, .int .i64 no, .int .i64 ar, .int .i64 en, .slice ea en' ec], 38)] w5) from hl5)
          have OE := (show Hid (OwnEy w.heap.size w5 (.slice fa fn fc) (indexA d (nowDk d))) from o5.base S_w4.out.1.size)
          have OD := (show Hid (OwnDy w.heap.size w5 (.agg #[.slice ta tn tc, .slice ma d.late.length mc]) d) from f5.disk S_w4.out.at0 OD4.out)
          obtain ⟨⟨kn, ka, ke⟩, hk⟩ : ∃ k, k = nowDk d := ⟨_, rfl⟩
          rw [← hk] at HQ S_w5 OE hel
          simp only at HQ S_w5
          clear hno hyes f5 o5 hl5 hk NL S_w4 OD4
          have CE := (show Hid (∀ n : Wd w5.heap.size w5, Calls Tryz.prog 78 #[.slice fa fn fc, .slice ea en' ec] n.w fun e w' => e = .returned (.bool (decide (indexA d ⟨kn, ka, ke⟩ = ls))) ∧ Below n.w.heap.size n.w w') from fun n => iequal_any (OE.out.sv.below n.below) (H2.out.below (S_w5.out.below n.below).1) hel hnl)
          cases hh : headEq ⟨kn, ka, ke⟩ ⟨no, ar, en⟩
          · have hq : q = false := by rw [HQ.out, hh]; rfl
            subst hq
            clear HQ
            go_wp2_with fail
            have gs := fun n : Wd w5.heap.size w5 => rk_ten (S_w5.out.below n.below).at0
            have ga := fun n : Wd w5.heap.size w5 => rk_seven (S_w5.out.below n.below).at1
            have gs6 := fun n : Wd w5.heap.size w5 => (gs n).2.2.2.2.2.2.1
            have gs7 := fun n : Wd w5.heap.size w5 => (gs n).2.2.2.2.2.2.2.1
            have gs8 := fun n : Wd w5.heap.size w5 => (gs n).2.2.2.2.2.2.2.2.1
            have gs9 := fun n : Wd w5.heap.size w5 => (gs n).2.2.2.2.2.2.2.2.2
            have ga3 := fun n : Wd w5.heap.size w5 => (ga n).2.2.2.1
            have ga4 := fun n : Wd w5.heap.size w5 => (ga n).2.2.2.2.1
            have ga5 := fun n : Wd w5.heap.size w5 => (ga n).2.2.2.2.2.1
            have ga6 := fun n : Wd w5.heap.size w5 => (ga n).2.2.2.2.2.2.1
            clear gs ga
            have ne := Wd.any w5.heap.size w5
            refine wp_region_below (by kernel_rfl) (by kernel_rfl) (Below.refl w5.heap.size w5) ?_
            repeat (go_big_quiet_step (fail))
            refine wpQuiet_nil ?_
            intro w9 hq9
            replace hq9 := Wd.of hq9
            clear gs6 gs7 gs8 gs9 ga3 ga4 ga5 ga6 ne
            go_wp2
            go_ret
            exact ⟨ShOut.no rfl, (S_w5.out.below hq9).1⟩
          · by_cases hes : indexA d ⟨kn, ka, ke⟩ = ls
            · have hq : q = true := by rw [HQ.out, hh, decide_eq_true hes]; rfl
              subst hq
              rw [decide_eq_true hes] at CE
              have HES := (show Hid _ from And.intro (headEq_iff.mp hh) hes)
              clear HQ hes
              go_wp2_with fail
              have gs := fun n : Wd w5.heap.size w5 => rk_ten (S_w5.out.below n.below).at0
              have ga := fun n : Wd w5.heap.size w5 => rk_seven (S_w5.out.below n.below).at1
              have gs6 := fun n : Wd w5.heap.size w5 => (gs n).2.2.2.2.2.2.1
              have gs7 := fun n : Wd w5.heap.size w5 => (gs n).2.2.2.2.2.2.2.1
              have gs8 := fun n : Wd w5.heap.size w5 => (gs n).2.2.2.2.2.2.2.2.1
              have gs9 := fun n : Wd w5.heap.size w5 => (gs n).2.2.2.2.2.2.2.2.2
              have ga3 := fun n : Wd w5.heap.size w5 => (ga n).2.2.2.1
              have ga4 := fun n : Wd w5.heap.size w5 => (ga n).2.2.2.2.1
              have ga5 := fun n : Wd w5.heap.size w5 => (ga n).2.2.2.2.2.1
              have ga6 := fun n : Wd w5.heap.size w5 => (ga n).2.2.2.2.2.2.1
              clear gs ga
              have ne := Wd.any w5.heap.size w5
              refine wp_region_below (by kernel_rfl) (by kernel_rfl) (Below.refl w5.heap.size w5) ?_
              repeat (go_big_quiet_step ((go_at_call 78; exact quiet_below (CE.out _) (Nat.le_refl _))))
              refine wpQuiet_nil ?_
              intro w9 hq9
              replace hq9 := Wd.of hq9
              clear gs6 gs7 gs8 gs9 ga3 ga4 ga5 ga6 ne
              go_wp2
              go_ret
              refine ⟨ShOut.yes (N := N) rfl ⟨ta, tn, tc, ma, d.late.length, mc, 0, r5, fa, fn, fc, .slice none 0 0, HNN.out, ?_, OD.out.below hq9, ?_⟩, (S_w5.out.below hq9).1⟩
              · have e1 := HES.out.1
                cases e1
                exact (S_w5.out.below hq9).at0
              · have e2 := HES.out.2
                subst e2
                exact OE.out.below hq9
            · have hq : q = false := by rw [HQ.out, hh, decide_eq_false hes]; rfl
              subst hq
              rw [decide_eq_false hes] at CE
              clear HQ hes
              go_wp2_with fail
              have gs := fun n : Wd w5.heap.size w5 => rk_ten (S_w5.out.below n.below).at0
              have ga := fun n : Wd w5.heap.size w5 => rk_seven (S_w5.out.below n.below).at1
              have gs6 := fun n : Wd w5.heap.size w5 => (gs n).2.2.2.2.2.2.1
              have gs7 := fun n : Wd w5.heap.size w5 => (gs n).2.2.2.2.2.2.2.1
              have gs8 := fun n : Wd w5.heap.size w5 => (gs n).2.2.2.2.2.2.2.2.1
              have gs9 := fun n : Wd w5.heap.size w5 => (gs n).2.2.2.2.2.2.2.2.2
              have ga3 := fun n : Wd w5.heap.size w5 => (ga n).2.2.2.1
              have ga4 := fun n : Wd w5.heap.size w5 => (ga n).2.2.2.2.1
              have ga5 := fun n : Wd w5.heap.size w5 => (ga n).2.2.2.2.2.1
              have ga6 := fun n : Wd w5.heap.size w5 => (ga n).2.2.2.2.2.2.1
              clear gs ga
              have ne := Wd.any w5.heap.size w5
              refine wp_region_below (by kernel_rfl) (by kernel_rfl) (Below.refl w5.heap.size w5) ?_
              repeat (go_big_quiet_step ((go_at_call 78; exact quiet_below (CE.out _) (Nat.le_refl _))))
              refine wpQuiet_nil ?_
              intro w9 hq9
              replace hq9 := Wd.of hq9
              clear gs6 gs7 gs8 gs9 ga3 ga4 ga5 ga6 ne
              go_wp2
              go_ret
              exact ⟨ShOut.no rfl, (S_w5.out.below hq9).1⟩

end Go.Proofs.YtjokajblihaphaaGreatDoor

/- The program's ArchiveOk. No condition. -/
namespace Go.Proofs.YtjokajblihaphaaGreatDoor
open Go.RowKit
set_option maxRecDepth 100000
set_option linter.unusedVariables false

end Go.Proofs.YtjokajblihaphaaGreatDoor

/- The shelf's archive, crash, open (written by mk/iar6.py). No condition. -/
namespace Go.Proofs.YtjokajblihaphaaGreatDoor
open Go.RowKit
set_option maxRecDepth 100000
set_option linter.unusedVariables false

theorem Shelf.below {B : Nat} {W W' : World} {N : Nat} {a : PArch} {m : Int} (h : Shelf B W N a m) (b : Below W.heap.size W W') : Shelf B W' N a m := by
  obtain ⟨sa, sn, sc, la, ln, lc, q, r, ea, en', ec, st, hB, hN, hd, he⟩ := h
  exact ⟨sa, sn, sc, la, ln, lc, q, r, ea, en', ec, st, hB, (b.block _ (lt_of_block hN)).trans hN, hd.below b, he.below b⟩
theorem Shelf.ge {B : Nat} {W : World} {N : Nat} {a : PArch} {m : Int} (h : Shelf B W N a m) : B ≤ N := by
  obtain ⟨sa, sn, sc, la, ln, lc, q, r, ea, en', ec, st, hB, hN, hd, he⟩ := h
  exact hB
theorem Shelf.lt {B : Nat} {W : World} {N : Nat} {a : PArch} {m : Int} (h : Shelf B W N a m) : N < W.heap.size := by
  obtain ⟨sa, sn, sc, la, ln, lc, q, r, ea, en', ec, st, hB, hN, hd, he⟩ := h
  exact lt_of_block hN

set_option maxHeartbeats 2000000 in
set_option maxRecDepth 100000 in
theorem ishArchive_any {B : Nat} {w : World} {N : Nat} {a : PArch} {m : Int} (h : Shelf B w N a m) (hw : B ≤ w.heap.size) :
    Calls Tryz.prog 44 #[.pointer (some ⟨N, 0, none⟩)] w fun e w' => ∃ v', e = .returned v' ∧ OwnAy B w' v' a ∧ Below w.heap.size w w' := by
  obtain ⟨sa, sn, sc, la, ln, lc, q, r, ea, en', ec, st, hB, hN, hd, he⟩ := h
  have HN := (show Hid (w.heap[N]? = some (.cells #[.slice sa sn sc, .slice la ln lc, .int .i32 m, .int .u32 q, .int .i64 r, .bool a.up, .int .i64 a.head.no, .int .i64 a.head.area, .int .i64 a.head.en, .slice ea en' ec, st] 93 (0, 0))) from hN)
  have HD := (show Hid (OwnDy B w (.agg #[.slice sa sn sc, .slice la ln lc]) a.disk) from hd)
  have HE := (show Hid (OwnEy B w (.slice ea en' ec) a.list) from he)
  have hNl := lt_of_block hN
  have hne : N ≠ w.heap.size := by omega
  clear hN hd he hB
  have hl := (Hl.refl w).new #[.bool false, .slice none 0 0, .slice none 0 0, .int .i64 0, .int .i64 0, .int .i64 0, .slice none 0 0] 38
  have n1 := (((Below.refl w.heap.size w).alloc (Nat.le_refl _) (.cells #[.bool false, .slice none 0 0, .slice none 0 0, .int .i64 0, .int .i64 0, .int .i64 0, .slice none 0 0] 38)).block _ hNl).trans HN.out
  obtain ⟨w1, hw1⟩ : ∃ x, x = w.alloc (.cells #[.bool false, .slice none 0 0, .slice none 0 0, .int .i64 0, .int .i64 0, .int .i64 0, .slice none 0 0] 38) := ⟨_, rfl⟩
  rw [← hw1] at hl n1
  have HL := (show Hid (Hl w [(w.heap.size, #[.bool false, .slice none 0 0, .slice none 0 0, .int .i64 0, .int .i64 0, .int .i64 0, .slice none 0 0], 38)] w1.drew) from hl.below (below_drewN 1))
  have N1 := (show Hid (w1.drew.heap[N]? = some (.cells #[.slice sa sn sc, .slice la ln lc, .int .i32 m, .int .u32 q, .int .i64 r, .bool a.up, .int .i64 a.head.no, .int .i64 a.head.area, .int .i64 a.head.en, .slice ea en' ec, st] 93 (0, 0))) from n1)
  clear hl n1
  go_enter Tryz.func44, Tryz.ntmps44
  go_upto_region 1 with fail
  rw [← hw1]
  clear hw1
  refine region_tail 17 (by kernel_rfl) (by kernel_rfl) ?_
  intro w2 K2 hW2 hK2
  have ne := One.any w2
  have S2 := (show Hid (Hl w [(w.heap.size, #[.bool false, .slice none 0 0, .slice none 0 0, .int .i64 0, .int .i64 0, .int .i64 0, .slice none 0 0], 38)] w2) from by rw [hW2.out]; exact HL.out)
  have n2 : w2.heap[N]? = some (.cells #[.slice sa sn sc, .slice la ln lc, .int .i32 m, .int .u32 q, .int .i64 r, .bool a.up, .int .i64 a.head.no, .int .i64 a.head.area, .int .i64 a.head.en, .slice ea en' ec, st] 93 (0, 0)) := by rw [hW2.out]; exact N1.out
  have gg := fun n : One w2 => rk_ten (show n.w.heap[N]? = _ by rw [n.eq]; exact n2)
  have g0 := fun n : One w2 => (gg n).1
  have g1 := fun n : One w2 => (gg n).2.1
  have g5 := fun n : One w2 => (gg n).2.2.2.2.2.1
  have g6 := fun n : One w2 => (gg n).2.2.2.2.2.2.1
  have g7 := fun n : One w2 => (gg n).2.2.2.2.2.2.2.1
  have g8 := fun n : One w2 => (gg n).2.2.2.2.2.2.2.2.1
  have g9 := fun n : One w2 => (gg n).2.2.2.2.2.2.2.2.2
  clear gg n2 N1 HL
  simp only [List.take_succ_cons, List.take_zero, List.drop_succ_cons, List.drop_zero] at hK2 ⊢
  repeat (go_big_quiet_step (fail))
  refine wpQuiet_nil ?_
  refine hK2.out _ ?_
  clear hK2 g0 g1 g5 g6 g7 g8 g9
  obtain ⟨d0, d1, d2, d3, d4, d5, d6, _⟩ := rk_seven S2.out.at0
  have j0 := rk_thaw (k := 0) S2.out.at0
  have j1 := rk_thaw (k := 1) S2.out.at0
  have j2 := rk_thaw (k := 2) S2.out.at0
  have j3 := rk_thaw (k := 3) S2.out.at0
  have j4 := rk_thaw (k := 4) S2.out.at0
  have j5 := rk_thaw (k := 5) S2.out.at0
  have j6 := rk_thaw (k := 6) S2.out.at0
  have S9 := (show Hid _ from S2.out.set7 (Nat.le_refl _) (by simp) (.bool a.up) (.slice sa sn sc) (.slice la ln lc) (.int .i64 a.head.no) (.int .i64 a.head.area) (.int .i64 a.head.en) (.slice ea en' ec))
  go_wp2
  refine bodyPost_ret (results_cell_row rfl _ _ w.heap.size 38 #[.bool a.up, .slice sa sn sc, .slice la ln lc, .int .i64 a.head.no, .int .i64 a.head.area, .int .i64 a.head.en, .slice ea en' ec] (0, 0) _ rfl S9.out.at0 Tryz.underlying38 rfl rfl) rfl ?_
  exact ⟨_, rfl, ⟨_, _, _, _, _, _, _, _, _, rfl, HD.out.below S9.out.1, OwnY.below HE.out S9.out.1⟩, S9.out.1⟩

def crashS (a : PArch) : PArch × Int := if a.up = false then (a, 2) else (⟨false, a.disk, zeroH, []⟩, 0)
def openS (a : PArch) : PArch × Int := if a.up = true then (a, 7) else if wellA a.disk = false then (a, 6) else (⟨true, a.disk, nowDk a.disk, indexA a.disk (nowDk a.disk)⟩, 0)
end Go.Proofs.YtjokajblihaphaaGreatDoor

/- worked: a deed is done to a shelf (written by mk/iar7.py). No condition. -/
namespace Go.Proofs.YtjokajblihaphaaGreatDoor
open Go.RowKit Go.MuLone
set_option maxRecDepth 100000
set_option linter.unusedVariables false

theorem Shelf.turn {B : Nat} {W : World} {N : Nat} {a : PArch} {m : Int} (h : Shelf B W N a m) (m' : Int) : Shelf B (W.setCell ⟨N, 2, none⟩ (.int .i32 m')) N a m' ∧ W.cell? ⟨N, 2, none⟩ = some (.int .i32 m) ∧ W.frozen? ⟨N, 2, none⟩ = false := by
  obtain ⟨sa, sn, sc, la, ln, lc, q, r, ea, en', ec, st, hB, hN, hd, he⟩ := h
  have s := (Sf.refl hN).set 2 (.int .i32 m')
  exact ⟨⟨sa, sn, sc, la, ln, lc, q, r, ea, en', ec, st, hB, s.sh, s.disk hN hd, s.ents hN he⟩, (rk_ten hN).2.2.1, rk_thaw hN⟩
theorem Shelf.past {B : Nat} {W W' : World} {N k : Nat} {a : PArch} {m : Int} (h : Shelf B W N a m) (g : W.grownBy W' (some k)) (hk : k ≠ N) {cs : Array Value} {t : TypeId} {fr : Nat × Nat} (hb : W.heap[k]? = some (.cells cs t fr)) (ht : t ≠ 9 ∧ t ≠ 130 ∧ t ≠ 77) : Shelf B W' N a m := by
  obtain ⟨sa, sn, sc, la, ln, lc, q, r, ea, en', ec, st, hB, hN, hd, he⟩ := h
  exact ⟨sa, sn, sc, la, ln, lc, q, r, ea, en', ec, st, hB, (g.block _ (lt_of_block hN) (fun e => hk (Option.some.inj e).symm)).trans hN, hd.turned g (fun j e => by cases e; exact ⟨_, _, _, hb, ht.1, ht.2.1⟩), OwnEy.turned he g (fun j e => by cases e; exact ⟨_, _, _, hb, ht.2.2⟩)⟩
theorem Shelf.ne {B : Nat} {W : World} {N k : Nat} {a : PArch} {m : Int} (h : Shelf B W N a m) {cs : Array Value} {t : TypeId} (hb : W.heap[k]? = some (.cells cs t (0, 0))) (ht : t ≠ 93) : k ≠ N := fun e => by
  obtain ⟨sa, sn, sc, la, ln, lc, q, r, ea, en', ec, st, hB, hN, hd, he⟩ := h
  subst e
  rw [hN] at hb
  cases hb
  exact ht rfl
theorem Shelf.sent {B : Nat} {W W' : World} {N : Nat} {a : PArch} {m : Int} (h : Shelf B W N a m) (g : W.grownBy W' (some N)) (s : Sent W) : Sent W' := by
  obtain ⟨sa, sn, sc, la, ln, lc, q, r, ea, en', ec, st, hB, hN, hd, he⟩ := h
  obtain ⟨x, s⟩ := s
  have hlt := lt_of_cell s
  have hne : 0 ≠ N := fun e => by
    subst e
    rw [(rk_ten hN).1] at s
    cases s
  refine ⟨x, ?_⟩
  rw [← s]
  exact World.cell?_of_block (g.block _ hlt (fun e => hne (Option.some.inj e)))
/-- A shelf's block is one of the call's own: what turns it turns nothing that was there before. -/
theorem Hl.shelf {w W W' : World} {B N : Nat} {a : PArch} {m : Int} {L : List (Nat × Array Value × TypeId)} (h : Hl w L W) (s : Shelf B W N a m) (hB : w.heap.size ≤ B) (g : W.grownBy W' (some N)) (hL : ∀ p ∈ L, p.2.2 ≠ 93) : Hl w L W' :=
  h.past g (fun r e => by cases e; exact ⟨Nat.le_trans hB s.ge, fun p hp => s.ne (h.2 p hp) (hL p hp)⟩)
/-- A deed: done to a shelf of a it leaves one of q, and the code. -/
def Deed (a : PArch) (q : PArch × Int) (f : FuncId) : Prop := ∀ (B : Nat) (W : World) (N : Nat), Shelf B W N a 1 → Sent W → B ≤ W.heap.size → Calls Tryz.prog f #[.pointer (some ⟨N, 0, none⟩)] W fun e w' => e = .returned (.int .i64 q.2) ∧ Shelf B w' N q.1 1 ∧ W.grownBy w' (some N)
def workedA (a : PArch) (q : PArch × Int) : PArch × Int := if archB a = false then (zeroA, 1) else q

set_option maxHeartbeats 4000000 in
set_option maxRecDepth 100000 in
theorem iworked_any {w : World} {v : Value} {a : PArch} {f : FuncId} (q : PArch × Int) (h : ArAt w v a) (hf : ArFit a) (hs : Sent w) (hD : archB a = true → Deed a q f) (he : ∀ (args : Array Value) (w : World), (callFunc f args).run Tryz.prog w = .ok (.enter f args) w) :
    Calls Tryz.prog 20 #[v, .func (.func f) #[] #[]] w fun e w' => ∃ v', e = .returned (.tuple #[v', .int .i64 (workedA a q).2]) ∧ OwnAy w.heap.size w' v' (workedA a q).1 ∧ Below w.heap.size w w' := by
  have HA := (show Hid (ArAt w v a) from h)
  have HF := (show Hid (ArFit a) from hf)
  have HT := (show Hid (Sent w) from hs)
  have HDD := (show Hid (archB a = true → Deed a q f) from hD)
  obtain ⟨qb, hq⟩ : ∃ q, q = archB a := ⟨_, rfl⟩
  have HW : Hid (workedA a q = if qb = false then (zeroA, 1) else q) := (show _ = _ by rw [workedA, hq])
  obtain ⟨⟨ra, rc⟩, hra⟩ : ∃ x, x = workedA a q := ⟨_, rfl⟩
  rw [← hra] at HW
  rw [← hra]
  simp only
  rw [← hq] at HDD
  obtain ⟨sa, sn, sc, la, ln, lc, ea, en', ec, rfl, h1, h2⟩ := h
  have hl := ((Hl.refl w).new #[.bool a.up, .slice sa sn sc, .slice la ln lc, .int .i64 a.head.no, .int .i64 a.head.area, .int .i64 a.head.en, .slice ea en' ec] 38).new #[.bool false, .slice none 0 0, .slice none 0 0, .int .i64 0, .int .i64 0, .int .i64 0, .slice none 0 0] 38
  obtain ⟨w1, hw1⟩ : ∃ x, x = (w.alloc (.cells #[.bool a.up, .slice sa sn sc, .slice la ln lc, .int .i64 a.head.no, .int .i64 a.head.area, .int .i64 a.head.en, .slice ea en' ec] 38)).alloc (.cells #[.bool false, .slice none 0 0, .slice none 0 0, .int .i64 0, .int .i64 0, .int .i64 0, .slice none 0 0] 38) := ⟨_, rfl⟩
  rw [← hw1, World.size_alloc] at hl
  have HL := (show Hid (Hl w [(w.heap.size + 1, #[.bool false, .slice none 0 0, .slice none 0 0, .int .i64 0, .int .i64 0, .int .i64 0, .slice none 0 0], 38), (w.heap.size, #[.bool a.up, .slice sa sn sc, .slice la ln lc, .int .i64 a.head.no, .int .i64 a.head.area, .int .i64 a.head.en, .slice ea en' ec], 38)] w1) from hl)
  have CS := ishelfOf_any (HA.out.below hl.1) hf (hs.below hl.1)
  rw [← hq] at CS
  have CS := (show Hid _ from CS)
  clear hl h1 h2 hf hs hD hq hra
  go_enter_defers Tryz.func20, Tryz.ntmps20
  go_wp2_with fail
  go_at_call 41
  rw [← hw1]
  refine Calls.mono CS.out ?_
  rintro e w2 ⟨ho, b2⟩
  have S2 := (show Hid (Hl w [(w.heap.size + 1, #[.bool false, .slice none 0 0, .slice none 0 0, .int .i64 0, .int .i64 0, .int .i64 0, .slice none 0 0], 38), (w.heap.size, #[.bool a.up, .slice sa sn sc, .slice la ln lc, .int .i64 a.head.no, .int .i64 a.head.area, .int .i64 a.head.en, .slice ea en' ec], 38)] w2) from HL.out.below b2)
  have T2 := (show Hid (Sent w2) from HT.out.below S2.out.1)
  have Z1 := (show Hid (w.heap.size ≤ w1.heap.size) from HL.out.1.size)
  have Z2 := (show Hid (w1.heap.size ≤ w2.heap.size) from b2.size)
  clear hw1 CS b2 HL
  rcases ho with ⟨rfl, rfl⟩ | ⟨rfl, N, rfl, sh⟩
  · have e1 := HW.out
    rw [if_pos rfl] at e1
    cases e1
    clear HW HDD
    obtain ⟨d0, d1, d2, d3, d4, d5, d6, _⟩ := rk_seven S2.out.at0
    have j0 := rk_thaw (k := 0) S2.out.at0
    have j1 := rk_thaw (k := 1) S2.out.at0
    have j2 := rk_thaw (k := 2) S2.out.at0
    have j3 := rk_thaw (k := 3) S2.out.at0
    have j4 := rk_thaw (k := 4) S2.out.at0
    have j5 := rk_thaw (k := 5) S2.out.at0
    have j6 := rk_thaw (k := 6) S2.out.at0
    have S9 := (show Hid _ from S2.out.set7 (Nat.le_succ _) (by simp) (.bool false) (.slice none 0 0) (.slice none 0 0) (.int .i64 0) (.int .i64 0) (.int .i64 0) (.slice none 0 0))
    go_wp2
    exact ⟨_, arch_res rfl rfl rfl S9.out.at0, _, rfl, ⟨none, 0, 0, none, 0, 0, none, 0, 0, rfl, ⟨none, 0, 0, none, 0, 0, rfl, .inl ⟨rfl, rfl, none, rfl, fun _ => trivial⟩, .inl ⟨rfl, rfl, none, rfl, fun _ => trivial⟩⟩, .inl ⟨rfl, rfl, none, rfl, fun _ => trivial⟩⟩, S9.out.1⟩
  · have e1 := HW.out
    rw [if_neg (by decide)] at e1
    subst e1
    have SH := (show Hid (Shelf w1.heap.size w2 N a 0) from sh)
    have DD := (show Hid (Deed a (ra, rc) f) from HDD.out rfl)
    obtain ⟨tu, k2, k3⟩ := sh.turn 1
    have hge := sh.ge
    clear HW HDD sh
    go_wp2_with fail
    go_at_call 42
    refine (lock_free muLib ⟨N, 2, none⟩ _ k2 k3).mono ?_
    rintro e w3 ⟨rfl, hw3⟩
    have SH3 := (show Hid (Shelf w1.heap.size w3 N a 1) from by rw [hw3]; exact tu)
    have g3 : w2.grownBy w3 (some N) := by rw [hw3]; exact grown_setCell _ _ _ _
    have S3 := (show Hid (Hl w [(w.heap.size + 1, #[.bool false, .slice none 0 0, .slice none 0 0, .int .i64 0, .int .i64 0, .int .i64 0, .slice none 0 0], 38), (w.heap.size, #[.bool a.up, .slice sa sn sc, .slice la ln lc, .int .i64 a.head.no, .int .i64 a.head.area, .int .i64 a.head.en, .slice ea en' ec], 38)] w3) from S2.out.shelf SH.out Z1.out g3 (by simp))
    have T3 := (show Hid (Sent w3) from SH.out.sent g3 T2.out)
    have Z3 := (show Hid (w1.heap.size ≤ w3.heap.size) from Nat.le_trans Z2.out g3.size)
    clear hw3 g3 tu k2 k3 S2 SH T2
    go_wp2_with fail
    refine Calls.mono (DD.out _ _ _ SH3.out T3.out Z3.out) ?_
    rintro e w4 ⟨rfl, sh4, g4⟩
    have SH4 := (show Hid (Shelf w1.heap.size w4 N ra 1) from sh4)
    have S4 := (show Hid (Hl w [(w.heap.size + 1, #[.bool false, .slice none 0 0, .slice none 0 0, .int .i64 0, .int .i64 0, .int .i64 0, .slice none 0 0], 38), (w.heap.size, #[.bool a.up, .slice sa sn sc, .slice la ln lc, .int .i64 a.head.no, .int .i64 a.head.area, .int .i64 a.head.en, .slice ea en' ec], 38)] w4) from S3.out.shelf SH3.out Z1.out g4 (by simp))
    have Z4 := (show Hid (w1.heap.size ≤ w4.heap.size) from Nat.le_trans Z3.out g4.size)
    clear sh4 g4 S3 SH3 T3 Z3 DD
    go_wp2_with fail
    go_at_call 44
    refine (ishArchive_any SH4.out Z4.out).mono ?_
    rintro e w5 ⟨v5, rfl, o5, b5⟩
    have S5 := (show Hid (Hl w [(w.heap.size + 1, #[.bool false, .slice none 0 0, .slice none 0 0, .int .i64 0, .int .i64 0, .int .i64 0, .slice none 0 0], 38), (w.heap.size, #[.bool a.up, .slice sa sn sc, .slice la ln lc, .int .i64 a.head.no, .int .i64 a.head.area, .int .i64 a.head.en, .slice ea en' ec], 38)] w5) from S4.out.below b5)
    have SH5 := (show Hid (Shelf w1.heap.size w5 N ra 1) from SH4.out.below b5)
    have O5 := (show Hid (OwnAy w1.heap.size w5 v5 ra) from o5)
    clear b5 o5 S4 SH4 Z4
    obtain ⟨ya, yn, yc, za, zn, zc, fa, fn, fc, e5, _⟩ := O5.out
    subst e5
    obtain ⟨d0, d1, d2, d3, d4, d5, d6, _⟩ := rk_seven S5.out.at0
    have j0 := rk_thaw (k := 0) S5.out.at0
    have j1 := rk_thaw (k := 1) S5.out.at0
    have j2 := rk_thaw (k := 2) S5.out.at0
    have j3 := rk_thaw (k := 3) S5.out.at0
    have j4 := rk_thaw (k := 4) S5.out.at0
    have j5 := rk_thaw (k := 5) S5.out.at0
    have j6 := rk_thaw (k := 6) S5.out.at0
    have hne := SH5.out.ne S5.out.at0 (by decide)
    have S9 := (show Hid _ from S5.out.set7 (Nat.le_succ _) (by simp) (.bool ra.up) (.slice ya yn yc) (.slice za zn zc) (.int .i64 ra.head.no) (.int .i64 ra.head.area) (.int .i64 ra.head.en) (.slice fa fn fc))
    have g9 := (show Hid _ from grown_set7 w5 (w.heap.size + 1) (.bool ra.up) (.slice ya yn yc) (.slice za zn zc) (.int .i64 ra.head.no) (.int .i64 ra.head.area) (.int .i64 ra.head.en) (.slice fa fn fc))
    have O9 := (show Hid _ from O5.out.turned g9.out (fun j e => by cases e; exact ⟨_, _, _, S5.out.at0, by decide, by decide, by decide⟩))
    have SH9 := (show Hid _ from SH5.out.past g9.out hne S5.out.at0 (by decide))
    clear O5 SH5
    go_wp2
    refine leaves_cons (f := 43) (args := #[.pointer (some ⟨N, 2, none⟩)]) (by simp) (by simp [go_sem]) ?_
    obtain ⟨_, k2, k3⟩ := Shelf.turn SH9.out 0
    refine (unlock_deferred muLib ⟨N, 2, none⟩ .returning _ k2 k3).mono ?_
    rintro e u' w7 ⟨rfl, rfl, hw7⟩
    have g7 := (show Hid (World.grownBy _ w7 (some N)) from by rw [hw7]; exact grown_setCell _ _ _ _)
    have S10 := (show Hid _ from S9.out.shelf SH9.out Z1.out g7.out (by simp))
    have O10 := (show Hid (OwnAy w1.heap.size w7 _ ra) from OwnAy.turned O9.out g7.out (fun j e => by
      cases e
      obtain ⟨_, _, _, _, _, _, _, _, _, _, _, _, _, hN, _⟩ := SH9.out
      exact ⟨_, _, _, hN, by decide, by decide, by decide⟩))
    exact ⟨_, arch_res rfl rfl rfl S10.out.at0, _, rfl, OwnAy.base O10.out Z1.out, S10.out.1⟩
end Go.Proofs.YtjokajblihaphaaGreatDoor

/- The shelf's write (written by mk/istep4.py). No condition. -/
namespace Go.Proofs.YtjokajblihaphaaGreatDoor
open Go.RowKit
set_option maxRecDepth 100000
set_option linter.unusedVariables false

/-- What a write makes of an archive. -/
def writeA (a : PArch) (x y : Int) (b : List Int) : PArch × Int :=
  if stepsOk a.disk x y b ⟨a.head.no + 1, x, y + b.length⟩ = true then (⟨true, step4 a.disk x y b ⟨a.head.no + 1, x, y + b.length⟩, nowDk (step4 a.disk x y b ⟨a.head.no + 1, x, y + b.length⟩), indexA (step4 a.disk x y b ⟨a.head.no + 1, x, y + b.length⟩) (nowDk (step4 a.disk x y b ⟨a.head.no + 1, x, y + b.length⟩))⟩, 0) else (a, 5)
theorem rk_el {w : World} {b : Nat} {x0 x1 x2 x3 x4 x5 x6 x7 x8 x9 x10 : Value} {t : TypeId} (h : w.heap[b]? = some (.cells #[x0, x1, x2, x3, x4, x5, x6, x7, x8, x9, x10] t (0, 0))) : w.cell? ⟨b, 10, none⟩ = some x10 := by simp only [World.cell?, h]; rfl
theorem Sf.of {w W : World} {N : Nat} {cs : Array Value} {L : List (Nat × Array Value × TypeId)} (hN : w.heap[N]? = some (.cells cs 93 (0, 0))) (h : Hl w L W) (hL : ∀ p ∈ L, w.heap.size ≤ p.1) : Sf w N cs L W :=
  ⟨⟨h.1.os, h.1.tape, h.1.output, h.1.size, fun j hj _ => h.1.block j hj⟩, (h.1.block _ (lt_of_block hN)).trans hN, fun p hp => ⟨h.2 p hp, fun e => by have := hL p hp; have := lt_of_block hN; omega⟩⟩
theorem Sf.set2 {w W : World} {N b : Nat} {cs : Array Value} {x y : Value} {t : TypeId} {L : List (Nat × Array Value × TypeId)} (h : Sf w N cs ((b, #[x, y], t) :: L) W) (hb : w.heap.size ≤ b) (hL : ∀ p ∈ L, p.1 ≠ b) (u v : Value) : Sf w N cs ((b, #[u, v], t) :: L) ((W.setCell ⟨b, 0, none⟩ u).setCell ⟨b, 1, none⟩ v) := by
  have g : W.grownBy ((W.setCell ⟨b, 0, none⟩ u).setCell ⟨b, 1, none⟩ v) (some b) := grown_trans (grown_setCell _ _ _ _) (grown_setCell _ _ _ _)
  have h1 := rk_at (k := 0) (u := u) h.at0
  refine ⟨grown_past h.gr g (fun j e => by cases e; exact hb), (g.block _ (lt_of_block h.sh) (fun e => h.ne0 (Option.some.inj e).symm)).trans h.sh, fun p hp => ?_⟩
  rcases List.mem_cons.mp hp with rfl | hp
  · exact ⟨rk_at h1, h.ne0⟩
  · have hp' := h.blk p (List.mem_cons_of_mem _ hp)
    exact ⟨(g.block _ (lt_of_block hp'.1) (fun e => hL p hp (Option.some.inj e))).trans hp'.1, hp'.2⟩

set_option maxHeartbeats 4000000 in
set_option maxRecDepth 100000 in
theorem ishWrite_any {w : World} {N B : Nat} {sa : Option Addr} {sn sc : Nat} {la : Option Addr} {ln lc : Nat} {m q r : Int} {up : Bool} {no ar en : Int} {ea : Option Addr} {en' ec : Nat} {st : Value} {d : PDisk} {ls : List (ByteArray × ByteArray)} {x y : Int} {ua : Option Addr} {uc B2 : Nat} {b : List Int} (hS : w.heap[N]? = some (.cells #[.slice sa sn sc, .slice la ln lc, .int .i32 m, .int .u32 q, .int .i64 r, .bool up, .int .i64 no, .int .i64 ar, .int .i64 en, .slice ea en' ec, st] 93 (0, 0))) (hd : OwnDy B w (.agg #[.slice sa sn sc, .slice la ln lc]) d) (hr : diskB d = true) (he : OwnEy B w (.slice ea en' ec) ls) (hs : Sent w) (hB : B ≤ N) (hw : B ≤ w.heap.size) (hn : 0 ≤ no ∧ no ≤ 1099511627776) (hx : 0 ≤ x ∧ x ≤ 1) (hy : 0 ≤ y ∧ y ≤ 1099511627776) (hu : Own B2 5 .u8 w (.slice ua b.length uc) b) (hb : ∀ z ∈ b, 0 ≤ z ∧ z ≤ 255) (hbl : b.length ≤ 1099511627776) (hwell : stepsOk d x y b ⟨no + 1, x, y + b.length⟩ = true → wellA (step4 d x y b ⟨no + 1, x, y + b.length⟩) = true) :
    Calls Tryz.prog 57 #[.pointer (some ⟨N, 0, none⟩), .int .i64 x, .int .i64 y, .slice ua b.length uc] w fun e w' => e = .returned (.int .i64 (writeA ⟨up, d, ⟨no, ar, en⟩, ls⟩ x y b).2) ∧ Shelf B w' N (writeA ⟨up, d, ⟨no, ar, en⟩, ls⟩ x y b).1 m ∧ w.grownBy w' (some N) := by
  have HS := (show Hid (w.heap[N]? = some (.cells #[.slice sa sn sc, .slice la ln lc, .int .i32 m, .int .u32 q, .int .i64 r, .bool up, .int .i64 no, .int .i64 ar, .int .i64 en, .slice ea en' ec, st] 93 (0, 0))) from hS)
  have HD := (show Hid (OwnDy B w (.agg #[.slice sa sn sc, .slice la ln lc]) d) from hd)
  have HR := (show Hid (diskB d = true) from hr)
  have HE := (show Hid (OwnEy B w (.slice ea en' ec) ls) from he)
  have HT := (show Hid (Sent w) from hs)
  have HU := (show Hid (Own B2 5 .u8 w (.slice ua b.length uc) b) from hu)
  have HBB := (show Hid (∀ z ∈ b, 0 ≤ z ∧ z ≤ 255) from hb)
  have HW := (show Hid (stepsOk d x y b ⟨no + 1, x, y + b.length⟩ = true → wellA (step4 d x y b ⟨no + 1, x, y + b.length⟩) = true) from hwell)
  have HBN := (show Hid (B ≤ N) from hB)
  have HQ := (show Hid (writeA ⟨up, d, ⟨no, ar, en⟩, ls⟩ x y b = if stepsOk d x y b ⟨no + 1, x, y + b.length⟩ = true then (⟨true, step4 d x y b ⟨no + 1, x, y + b.length⟩, nowDk (step4 d x y b ⟨no + 1, x, y + b.length⟩), indexA (step4 d x y b ⟨no + 1, x, y + b.length⟩) (nowDk (step4 d x y b ⟨no + 1, x, y + b.length⟩))⟩, 0) else (⟨up, d, ⟨no, ar, en⟩, ls⟩, 5)) from (show _ = _ from rfl))
  obtain ⟨⟨qa, qc⟩, hq⟩ : ∃ z, z = writeA ⟨up, d, ⟨no, ar, en⟩, ls⟩ x y b := ⟨_, rfl⟩
  rw [← hq] at HQ
  rw [← hq]
  simp only
  have CT := (show Hid _ from istepsTo_any (B := B) (x := x) (y := y) (ua := ua) (un := b.length) (uc := uc) hS hn hy hbl)
  have hNl := lt_of_block hS
  clear hS hd hr he hs hu hb hwell hq hB
  go_enter Tryz.func57, Tryz.ntmps57
  go_wp2_with fail
  go_at_call 85
  refine Calls.mono CT.out ?_
  rintro e w1 ⟨sb, ba, bt, bb, bn, rfl, z1, z2, z3, z4, z5, h1⟩
  have s1 := Sf.of HS.out h1 (fun p hp => by
    simp only [List.mem_cons, List.not_mem_nil, or_false] at hp
    rcases hp with rfl | rfl | rfl | rfl | rfl <;> assumption)
  have f10 := rk_thaw (k := 10) s1.sh
  have c10 := rk_el s1.sh
  have s2 := s1.set 10 (.slice (some ⟨sb, 0, none⟩) 4 4)
  have u2 := rk_set (k := 10) (u := .slice (some ⟨sb, 0, none⟩) 4 4) (ownsRow_below HU.out h1.1) s1.sh (by decide)
  obtain ⟨w2, hw2⟩ : ∃ z, z = w1.setCell ⟨N, 10, none⟩ (.slice (some ⟨sb, 0, none⟩) 4 4) := ⟨_, rfl⟩
  rw [← hw2] at s2 u2
  have S2 := (show Hid (Sf w N #[.slice sa sn sc, .slice la ln lc, .int .i32 m, .int .u32 q, .int .i64 r, .bool up, .int .i64 no, .int .i64 ar, .int .i64 en, .slice ea en' ec, .slice (some ⟨sb, 0, none⟩) 4 4] [(sb, #[.func (.func 124) #[] #[.pointer (some ⟨ba, 0, none⟩), .pointer (some ⟨bt, 0, none⟩), .pointer (some ⟨bb, 0, none⟩)], .func (.func 126) #[] #[], .func (.func 127) #[] #[.pointer (some ⟨bn, 0, none⟩)], .func (.func 126) #[] #[]], 180), (bn, #[.int .i64 (no + 1), .int .i64 x, .int .i64 (y + b.length)], 35), (bb, #[.slice ua b.length uc], 68), (bt, #[.int .i64 y], 3), (ba, #[.int .i64 x], 3)] w2) from s2)
  have U2 := (show Hid (Own B2 5 .u8 w2 (.slice ua b.length uc) b) from u2)
  have D2 := (show Hid (OwnDy B w2 (.agg #[.slice sa sn sc, .slice la ln lc]) d) from s2.disk HS.out HD.out)
  clear s1 s2 u2 h1 z1 z2 z3 z4 z5 CT
  have CS := (show Hid (∀ W, Below w2.heap.size w2 W → Calls Tryz.prog 86 #[.agg #[.slice sa sn sc, .slice la ln lc], .slice (some ⟨sb, 0, none⟩) 4 4] W fun e w' => StepOut W (steppedA d x y b ⟨no + 1, x, y + b.length⟩) e w') from fun W h => istepped_any (D2.out.below h).at (fit_right HR.out) (⟨Below.refl _ _, fun p hp => ((S2.out.below h).blk p hp).1⟩) (wf_i64 (by omega) (by omega)) (wf_i64 (by omega) (by omega)) (wf_i64 (by omega) (by omega)) (wf_i64 (by omega) (by omega)) ((Own.sl U2.out).below h) HBB.out hbl)
  obtain ⟨⟨qd, qb⟩, hqd⟩ : ∃ z, z = steppedA d x y b ⟨no + 1, x, y + b.length⟩ := ⟨_, rfl⟩
  rw [← hqd] at CS
  have HQD := (show Hid ((qd, qb) = steppedA d x y b ⟨no + 1, x, y + b.length⟩) from hqd)
  clear hqd
  have KD := (show Hid (Below w2.heap.size w2 w2.drew) from below_drewN 1)
  have KA := (show Hid (∀ X, Below w2.heap.size w2 (w2.drew.alloc X)) from fun X => (below_drewN (w := w2) 1).alloc (Nat.le_refl _) _)
  have KS := (show Hid (∀ W, Below w2.heap.size w2 W → W.cell? ⟨N, 0, none⟩ = some (.slice sa sn sc) ∧ W.cell? ⟨N, 1, none⟩ = some (.slice la ln lc) ∧ W.cell? ⟨N, 10, none⟩ = some (.slice (some ⟨sb, 0, none⟩) 4 4) ∧ Below w2.heap.size w2 W) from fun W h => ⟨(rk_ten (S2.out.below h).sh).1, (rk_ten (S2.out.below h).sh).2.1, rk_el (S2.out.below h).sh, h⟩)
  have SD := (show Hid (Sf w N #[.slice sa sn sc, .slice la ln lc, .int .i32 m, .int .u32 q, .int .i64 r, .bool up, .int .i64 no, .int .i64 ar, .int .i64 en, .slice ea en' ec, .slice (some ⟨sb, 0, none⟩) 4 4] [] w2.drew) from (S2.out.sub (by simp)).below (below_drewN 1))
  go_upto_region 2 with fail
  rw [← hw2]
  clear hw2 f10 c10
  go_cut [9, 10] from 11 to 38 (fun s9 s10 wx => ∃ T ta tn tc ma mn mc, s9 = .pointer (some ⟨T, 0, none⟩) ∧ s10 = .bool qb ∧ Sf w N #[.slice sa sn sc, .slice la ln lc, .int .i32 m, .int .u32 q, .int .i64 r, .bool up, .int .i64 no, .int .i64 ar, .int .i64 en, .slice ea en' ec, .slice (some ⟨sb, 0, none⟩) 4 4] [(T, #[.slice ta tn tc, .slice ma mn mc], 34)] wx ∧ OwnDy w.heap.size wx (.agg #[.slice ta tn tc, .slice ma mn mc]) qd)
  case first =>
    go_region_held3 (fun w' => w'.cell? ⟨N, 0, none⟩ = some (.slice sa sn sc) ∧ w'.cell? ⟨N, 1, none⟩ = some (.slice la ln lc) ∧ w'.cell? ⟨N, 10, none⟩ = some (.slice (some ⟨sb, 0, none⟩) 4 4) ∧ Below w2.heap.size w2 w')
      (first | exact KS.out _ KD.out | exact KS.out _ (KA.out _) | exact KS.out _ T_y.out | exact KS.out _ T_s.out | exact KS.out _ (T_y.out.alloc T_y.out.size _))
      (first
        | (go_at_call 86
           refine Calls.mono (CS.out _ (‹_ ∧ _ ∧ _ ∧ Below _ _ _›).2.2.2) ?_
           rintro e y' ⟨r', rfl, o', b'⟩
           have T_y := (show Hid (Below w2.heap.size w2 y') from (‹_ ∧ _ ∧ _ ∧ Below _ _ _›).2.2.2.trans (b'.mono (‹_ ∧ _ ∧ _ ∧ Below _ _ _›).2.2.2.size))
           have o'' := o'
           obtain ⟨ta, tn, tc, ma, mn, mc, rfl, _, _⟩ := o''
           (first
             | (have n1 : Sf w N #[.slice sa sn sc, .slice la ln lc, .int .i32 m, .int .u32 q, .int .i64 r, .bool up, .int .i64 no, .int .i64 ar, .int .i64 en, .slice ea en' ec, .slice (some ⟨sb, 0, none⟩) 4 4] [(w2.heap.size, #[.slice none 0 0, .slice none 0 0], 34)] y' := (SD.out.new #[.slice none 0 0, .slice none 0 0] 34).below b'
                have no1 := OwnDy.base o' (SD.out.new #[.slice none 0 0, .slice none 0 0] 34).gr.size
                obtain ⟨m1, m2, m3, m4⟩ := rk_two n1.at0
                have PS := (show Hid _ from n1.set2 SD.out.gr.size (by simp) (.slice ta tn tc) (.slice ma mn mc))
                have T_s := (show Hid (Below w2.heap.size w2 ((y'.setCell ⟨w2.heap.size, 0, none⟩ (.slice ta tn tc)).setCell ⟨w2.heap.size, 1, none⟩ (.slice ma mn mc))) from T_y.out.grown (grown_trans (grown_setCell _ _ _ _) (grown_setCell _ _ _ _)) T_y.out.size (fun k e => by cases e; exact Nat.le_refl _))
                have OS := (show Hid (OwnDy w.heap.size ((y'.setCell ⟨w2.heap.size, 0, none⟩ (.slice ta tn tc)).setCell ⟨w2.heap.size, 1, none⟩ (.slice ma mn mc)) (.agg #[.slice ta tn tc, .slice ma mn mc]) qd) from OwnDy.set2 (a := .slice ta tn tc) (b := .slice ma mn mc) no1 n1.at0)
                clear n1 no1)
             | (have PN := (show Hid _ from (SD.out.below b').new #[.slice ta tn tc, .slice ma mn mc] 34)
                have ON := (show Hid (OwnDy w.heap.size (y'.alloc (.cells #[.slice ta tn tc, .slice ma mn mc] 34)) (.agg #[.slice ta tn tc, .slice ma mn mc]) qd) from (OwnDy.base o' SD.out.gr.size).below ((Below.refl _ _).alloc (Nat.le_refl _) (.cells #[.slice ta tn tc, .slice ma mn mc] 34)))))
           clear o' b'))
    all_goals go_wp2
    all_goals go_meet
    all_goals
      case rel =>
        with_reducible first
          | exact ⟨_, _, _, _, _, _, _, rfl, rfl, PS.out, OS.out⟩
          | exact ⟨_, _, _, _, _, _, _, rfl, rfl, PN.out, ON.out⟩
  case rest =>
    obtain ⟨w4, rfl⟩ : ∃ z, z = wc := ⟨_, rfl⟩
    obtain ⟨T, ta, tn, tc, ma, mn, mc, rfl, rfl, hs4, ho4⟩ := hcut
    have S4 := (show Hid (Sf w N #[.slice sa sn sc, .slice la ln lc, .int .i32 m, .int .u32 q, .int .i64 r, .bool up, .int .i64 no, .int .i64 ar, .int .i64 en, .slice ea en' ec, .slice (some ⟨sb, 0, none⟩) 4 4] [(T, #[.slice ta tn tc, .slice ma mn mc], 34)] w4) from hs4)
    have O4 := (show Hid (OwnDy w.heap.size w4 (.agg #[.slice ta tn tc, .slice ma mn mc]) qd) from ho4)
    clear hs4 ho4 KD KA KS SD CS S2 D2 U2
    cases qb
    · have hk : stepsOk d x y b ⟨no + 1, x, y + b.length⟩ = false := by
        have e := HQD.out
        rw [steppedA] at e
        split at e
        · cases e
        · rename_i h; simpa using h
      have e1 := HQ.out
      rw [hk, if_neg (by decide)] at e1
      cases e1
      go_wp2
      go_ret
      exact ⟨rfl, ⟨sa, sn, sc, la, ln, lc, q, r, ea, en', ec, _, HBN.out, S4.out.sh, S4.out.disk HS.out HD.out, S4.out.ents HS.out HE.out⟩, S4.out.gr⟩
    · have hk : stepsOk d x y b ⟨no + 1, x, y + b.length⟩ = true ∧ qd = step4 d x y b ⟨no + 1, x, y + b.length⟩ := by
        have e := HQD.out
        rw [steppedA] at e
        split at e
        · rename_i h; cases e; exact ⟨h, rfl⟩
        · cases e
      obtain ⟨hk, rfl⟩ := hk
      have e1 := HQ.out
      rw [hk, if_pos rfl] at e1
      cases e1
      have HWW := (show Hid _ from HW.out hk)
      have HRR := (show Hid _ from (steps_right hk).2.2.2.1)
      clear hk HQ HQD HW
      obtain ⟨m1, m2, m3, m4⟩ := rk_two S4.out.at0
      obtain ⟨c0, c1, c2, c3, c4, c5, c6, c7, c8, c9⟩ := rk_ten S4.out.sh
      have f0 := rk_thaw (k := 0) S4.out.sh
      have f1 := rk_thaw (k := 1) S4.out.sh
      have s5 := (S4.out.set 0 (.slice ta tn tc)).set 1 (.slice ma mn mc)
      have g5 : w4.grownBy ((w4.setCell ⟨N, 0, none⟩ (.slice ta tn tc)).setCell ⟨N, 1, none⟩ (.slice ma mn mc)) (some N) := grown_trans (grown_setCell _ _ _ _) (grown_setCell _ _ _ _)
      have o5 := OwnDy.turned O4.out g5 (fun j e => by cases e; exact ⟨_, _, _, S4.out.sh, by decide, by decide⟩)
      have s5' : Sf w N #[.slice ta tn tc, .slice ma mn mc, .int .i32 m, .int .u32 q, .int .i64 r, .bool up, .int .i64 no, .int .i64 ar, .int .i64 en, .slice ea en' ec, .slice (some ⟨sb, 0, none⟩) 4 4] [(T, #[.slice ta tn tc, .slice ma mn mc], 34)] ((w4.setCell ⟨N, 0, none⟩ (.slice ta tn tc)).setCell ⟨N, 1, none⟩ (.slice ma mn mc)) := s5
      obtain ⟨w5, hw5⟩ : ∃ z, z = (w4.setCell ⟨N, 0, none⟩ (.slice ta tn tc)).setCell ⟨N, 1, none⟩ (.slice ma mn mc) := ⟨_, rfl⟩
      rw [← hw5] at s5' o5
      have CL := ishLoad_any s5'.sh o5 HRR.out (s5'.sent HS.out (by simp) HT.out)
      rw [HWW.out] at CL
      have CL := (show Hid _ from CL)
      have S5 := (show Hid (Sf w N #[.slice ta tn tc, .slice ma mn mc, .int .i32 m, .int .u32 q, .int .i64 r, .bool up, .int .i64 no, .int .i64 ar, .int .i64 en, .slice ea en' ec, .slice (some ⟨sb, 0, none⟩) 4 4] [(T, #[.slice ta tn tc, .slice ma mn mc], 34)] w5) from s5')
      have O5 := (show Hid (OwnDy w.heap.size w5 (.agg #[.slice ta tn tc, .slice ma mn mc]) (step4 d x y b ⟨no + 1, x, y + b.length⟩)) from o5)
      clear s5 s5' o5 g5 S4 O4
      go_wp2_with fail
      go_at_call 77
      rw [← hw5]
      refine Calls.mono CL.out ?_
      rintro e w6 ⟨rfl, _, hyes⟩
      obtain ⟨r2, fa, fn, fc, f2, o2⟩ := hyes (by trivial)
      have F2 := (show Hid _ from S5.out.trans f2)
      have DD := (show Hid _ from f2.disk S5.out.sh O5.out)
      have O2 := (show Hid _ from o2.base (Nat.le_trans hw S5.out.gr.size))
      clear hw5 CL hyes f2 o2 m1 m2 m3 m4 f0 f1 c0 c1 c2 c3 c4 c5 c6 c7 c8 c9
      go_wp2
      go_ret
      exact ⟨rfl, ⟨ta, tn, tc, ma, mn, mc, q, r2, fa, fn, fc, _, HBN.out, F2.out.sh, OwnDy.base DD.out hw, O2.out⟩, F2.out.gr⟩
end Go.Proofs.YtjokajblihaphaaGreatDoor
