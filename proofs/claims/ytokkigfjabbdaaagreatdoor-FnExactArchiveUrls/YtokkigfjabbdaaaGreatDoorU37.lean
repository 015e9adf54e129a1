/- The specification's ArchiveOk. No condition. -/
import Derived.Test.YtokkigfjabbdaaaGreatDoorU29
import Derived.Test.YtokkigfjabbdaaaGreatDoorU35
import Derived.Test.YtokkigfjabbdaaaGreatDoorU36
import Derived.Test.YtokkigfjabbdaaaGreatDoorU19
import Derived.Test.YtokkigfjabbdaaaGreatDoorU21
import Derived.Test.YtokkigfjabbdaaaGreatDoorU11
import Derived.Deep.RegionHeld3
import Derived.Test.YtokkigfjabbdaaaGreatDoorU33
import Derived.Test.YtokkigfjabbdaaaGreatDoorU32
import Derived.Test.YtokkigfjabbdaaaGreatDoorU20
import Derived.Test.YtokkigfjabbdaaaGreatDoorU30
import Derived.Test.YtokkigfjabbdaaaGreatDoorU31
import Derived.Test.YtokkigfjabbdaaaGreatDoorU13
namespace Go.Proofs.YtokkigfjabbdaaaGreatDoor
open Go.RowKit
set_option maxRecDepth 100000
set_option linter.unusedVariables false

theorem head_eqK (a b c x y z : Int) (w : World) : (binOp .eql 36 (.agg #[.int .i64 a, .int .i64 b, .int .i64 c]) (.agg #[.int .i64 x, .int .i64 y, .int .i64 z])).run Tryz.prog w = .ok (.bool (headEq ⟨a, b, c⟩ ⟨x, y, z⟩)) w := by
  have hu := Tryz.underlying36
  rw [run_eql_struct, show (10000 : Nat) = 9999 + 1 from rfl, run_equalIn_agg w 9999 36 _ _ (by kernel_rfl) (by kernel_rfl)]
  simp only [Program.fieldsOf, hu]
  have h1 := fun (x y : Int) (w : World) => run_equalIn_int (P := Tryz.prog) w 9998 3 .i64 .i64 x y Tryz.underlying3
  have g3 := Tryz.isAgg3
  unfold headEq
  by_cases e1 : a = x
  · by_cases e2 : b = y
    · by_cases e3 : c = z
      · simp [Op.eqFields, part, h1, g3, Result.andThen, e1, e2, e3]
      · simp [Op.eqFields, part, h1, g3, Result.andThen, e1, e2, e3]
    · simp [Op.eqFields, part, h1, g3, Result.andThen, e1, e2]
  · simp [Op.eqFields, part, h1, g3, Result.andThen, e1]
theorem head_neK (a b c x y z : Int) (w : World) : (binOp .neq 36 (.agg #[.int .i64 a, .int .i64 b, .int .i64 c]) (.agg #[.int .i64 x, .int .i64 y, .int .i64 z])).run Tryz.prog w = .ok (.bool (!headEq ⟨a, b, c⟩ ⟨x, y, z⟩)) w := by
  have hu := Tryz.underlying36
  rw [run_neq_struct, show (10000 : Nat) = 9999 + 1 from rfl, run_equalIn_agg w 9999 36 _ _ (by kernel_rfl) (by kernel_rfl)]
  simp only [Program.fieldsOf, hu]
  have h1 := fun (x y : Int) (w : World) => run_equalIn_int (P := Tryz.prog) w 9998 3 .i64 .i64 x y Tryz.underlying3
  have g3 := Tryz.isAgg3
  unfold headEq
  by_cases e1 : a = x
  · by_cases e2 : b = y
    · by_cases e3 : c = z
      · simp [Op.eqFields, part, h1, g3, Result.andThen, e1, e2, e3]
      · simp [Op.eqFields, part, h1, g3, Result.andThen, e1, e2, e3]
    · simp [Op.eqFields, part, h1, g3, Result.andThen, e1, e2]
  · simp [Op.eqFields, part, h1, g3, Result.andThen, e1]

set_option maxHeartbeats 1000000 in
set_option maxRecDepth 100000 in
theorem sl18Bytes_any {w : World} {v : Value} {d : PDisk} (h : DiskAt w v d) (hr : diskB d = true) (k : PHead) (hk : headB k = true) :
    Calls Tryz.prog 29 #[v, headV k] w fun e w' => ∃ u, e = .returned u ∧ Own w.heap.size 5 .u8 w' u (bytesA d k) ∧ Below w.heap.size w w' := by
  obtain ⟨no, ar, en⟩ := k
  have hi := headB_in hk
  simp only at hi
  obtain ⟨n, rfl⟩ : ∃ n : Nat, en = n := ⟨en.toNat, by omega⟩
  have HD := (show Hid (DiskAt w v d) from h)
  have HR := (show Hid (diskB d = true) from hr)
  obtain ⟨sa, sn, sc, la, ln, lc, rfl, _, _⟩ := h
  have hn : n ≤ 4096 := by omega
  have ha : ar = 0 ∨ ar = 1 := by omega
  show Calls Tryz.prog 29 #[.agg #[.slice sa sn sc, .slice la ln lc], .agg #[.int .i64 no, .int .i64 ar, .int .i64 n]] w _
  have hl := ((Hl.refl w).new #[.slice sa sn sc, .slice la ln lc] 35).new #[.int .i64 no, .int .i64 ar, .int .i64 n] 36
  obtain ⟨w1, hw1⟩ : ∃ x, x = (w.alloc (.cells #[.slice sa sn sc, .slice la ln lc] 35)).alloc (.cells #[.int .i64 no, .int .i64 ar, .int .i64 n] 36) := ⟨_, rfl⟩
  rw [← hw1, World.size_alloc] at hl
  have HL := (show Hid _ from hl)
  have CG := (show Hid _ from sl16Get_any (HD.out.below hl.1) HR.out ha 0 n (by omega))
  clear hl hi hk hr
  go_enter Tryz.func29, Tryz.ntmps29
  go_wp2_with fail
  go_at_call 60
  rw [← hw1]
  refine Calls.mono CG.out ?_
  rintro e w2 ⟨u, rfl, o2, b2⟩
  have O2 := (show Hid _ from o2)
  have B2 := (show Hid _ from HL.out.below b2)
  clear o2 b2 hw1 CG
  go_wp2
  go_ret
  exact ⟨_, rfl, Own.base O2.out HL.out.1.size, B2.out.1⟩

set_option maxHeartbeats 2000000 in
set_option maxRecDepth 100000 in
theorem sarOk_any {w : World} {v : Value} {a : PArch} (h : ArAt w v a) (hf : ArFit a) :
    Calls Tryz.prog 8 #[v] w fun e w' => e = .returned (.bool (archB a)) ∧ Below w.heap.size w w' := by
  obtain ⟨up, d, ⟨no, ar, en⟩, ls⟩ := a
  obtain ⟨sa, sn, sc, la, ln, lc, ea, en', ec, rfl, h1, h2⟩ := h
  simp only at h1 h2
  have h1' := h1
  obtain ⟨_, _, _, _, _, _, ee, _, h1b⟩ := h1'
  cases ee
  obtain ⟨la', lc', el, _⟩ := h1b.put
  cases el
  obtain ⟨ea', ec', e2, _⟩ := h2.pair
  cases e2
  have H1 := (show Hid (DiskAt w (.agg #[.slice sa sn sc, .slice la d.late.length lc]) d) from h1)
  have H2 := (show Hid (Sv 2 w (.slice ea ls.length ec) (pairCells ls)) from h2)
  have HF := (show Hid (DiskFit d) from hf.d)
  have hn : ls.length ≤ 1048576 := hf.el
  have hn2 : d.late.length ≤ 1048576 := hf.d.ll
  clear h1b h1 h2 hf
  have hek := head_eqK
  have hnk := head_neK
  have hl := ((Hl.refl w).new #[.bool up, .slice sa sn sc, .slice la d.late.length lc, .int .i64 no, .int .i64 ar, .int .i64 en, .slice ea ls.length ec] 39).new #[.int .i64 0, .int .i64 0, .int .i64 0] 36
  obtain ⟨w1, hw1⟩ : ∃ x, x = (w.alloc (.cells #[.bool up, .slice sa sn sc, .slice la d.late.length lc, .int .i64 no, .int .i64 ar, .int .i64 en, .slice ea ls.length ec] 39)).alloc (.cells #[.int .i64 0, .int .i64 0, .int .i64 0] 36) := ⟨_, rfl⟩
  rw [← hw1, World.size_alloc] at hl
  have HL := (show Hid (Hl w [(w.heap.size + 1, #[.int .i64 0, .int .i64 0, .int .i64 0], 36), (w.heap.size, #[.bool up, .slice sa sn sc, .slice la d.late.length lc, .int .i64 no, .int .i64 ar, .int .i64 en, .slice ea ls.length ec], 39)] w1) from hl)
  clear hl
  obtain ⟨q, hq⟩ : ∃ q, q = archB ⟨up, d, ⟨no, ar, en⟩, ls⟩ := ⟨_, rfl⟩
  rw [← hq]
  have HQ := (show Hid (q = archB ⟨up, d, ⟨no, ar, en⟩, ls⟩) from hq)
  clear hq
  go_enter Tryz.func8, Tryz.ntmps8
  go_wp2_with fail
  go_at_call 25
  rw [← hw1]
  refine (sdiskOk_any (H1.out.below HL.out.1) HF.out).mono ?_
  rintro e w2 ⟨rfl, b2⟩
  clear hw1
  have S_w2 := (show Hid (Hl w [(w.heap.size + 1, #[.int .i64 0, .int .i64 0, .int .i64 0], 36), (w.heap.size, #[.bool up, .slice sa sn sc, .slice la d.late.length lc, .int .i64 no, .int .i64 ar, .int .i64 en, .slice ea ls.length ec], 39)] w2) from HL.out.below b2)
  clear b2 HL
  cases hb : diskB d
  · have hq : q = false := by rw [HQ.out, archB]; simp only; rw [hb]; rfl
    subst hq
    clear hb HQ
    go_wp2
    go_ret
    exact ⟨rfl, S_w2.out.1⟩
  · have HB := (show Hid (diskB d = true) from hb)
    clear hb
    obtain ⟨c0, c1, c2, c3, c4, c5, c6, _⟩ := rk_seven S_w2.out.at1
    obtain ⟨d0, d1, d2, _⟩ := rk_three S_w2.out.at0
    by_cases hlt : 0 < d.late.length
    · have hq : q = false := by
        rw [HQ.out, archB]; simp only
        rw [HB.out, show decide (d.late = []) = false from decide_eq_false (fun e => by rw [e] at hlt; exact absurd hlt (by decide))]; rfl
      subst hq
      clear HQ
      go_wp2
      go_ret
      exact ⟨rfl, S_w2.out.1⟩
    · have hnil : d.late = [] := List.length_eq_zero_iff.mp (by omega)
      have HN := (show Hid (d.late = []) from hnil)
      clear hnil
      cases up
      · have hq : q = (headEq zeroH ⟨no, ar, en⟩ && decide (ls = [])) := by
          rw [HQ.out, archB]; simp only
          rw [HB.out, decide_eq_true HN.out]; rfl
        clear HQ
        rw [headEq_comm] at hq
        unfold zeroH at hq
        cases hh : headEq ⟨no, ar, en⟩ ⟨0, 0, 0⟩
        · rw [hh] at hq
          have hq' : q = false := hq
          subst hq'
          clear hq
          go_wp2
          go_ret
          exact ⟨rfl, S_w2.out.1⟩
        · rw [hh] at hq
          have HQ2 := (show Hid (q = decide (ls = [])) from hq)
          clear hq
          by_cases h0 : ls.length = 0
          · have hz : ((ls.length : Int) == 0) = true := by simp [h0]
            have hq : q = true := by rw [HQ2.out]; exact decide_eq_true (List.length_eq_zero_iff.mp h0)
            subst hq
            clear HQ2 h0
            go_wp2
            go_ret
            exact ⟨rfl, S_w2.out.1⟩
          · have hz : ((ls.length : Int) == 0) = false := by rw [beq_eq_false_iff_ne]; omega
            have hq : q = false := by rw [HQ2.out]; exact decide_eq_false (fun e => h0 (by rw [e]; rfl))
            subst hq
            clear HQ2 h0
            go_wp2
            go_ret
            exact ⟨rfl, S_w2.out.1⟩
      · have hq : q = (wellA d && (headEq (nowDk d) ⟨no, ar, en⟩ && decide (indexA d (nowDk d) = ls))) := by
          rw [HQ.out, archB, tellsA]; simp only
          rw [HB.out, decide_eq_true HN.out]; rfl
        clear HQ
        have HQ := (show Hid _ from hq)
        clear hq
        have CR := sl16Right_any ⟨no, ar, en⟩
        unfold headV at CR
        simp only at CR
        cases hB : headB ⟨no, ar, en⟩
        · rw [hB] at CR
          have CR := (show Hid _ from CR)
          have hq : q = false := by
            rw [HQ.out]
            cases e : headEq (nowDk d) ⟨no, ar, en⟩ with
            | false => simp
            | true => rw [wellA, headEq_iff.mp e, hB]; rfl
          subst hq
          clear HQ hB
          go_wp2_with fail
          have g0 := fun m : Wd w2.heap.size w2 => ((rk_seven (S_w2.out.below m.below).at1).1)
          have g1 := fun m : Wd w2.heap.size w2 => ((rk_seven (S_w2.out.below m.below).at1).2.1)
          have g2 := fun m : Wd w2.heap.size w2 => ((rk_seven (S_w2.out.below m.below).at1).2.2.1)
          have g3 := fun m : Wd w2.heap.size w2 => ((rk_seven (S_w2.out.below m.below).at1).2.2.2.1)
          have g4 := fun m : Wd w2.heap.size w2 => ((rk_seven (S_w2.out.below m.below).at1).2.2.2.2.1)
          have g5 := fun m : Wd w2.heap.size w2 => ((rk_seven (S_w2.out.below m.below).at1).2.2.2.2.2.1)
          have g6 := fun m : Wd w2.heap.size w2 => ((rk_seven (S_w2.out.below m.below).at1).2.2.2.2.2.2.1)
          have ne := Wd.any w2.heap.size w2
          refine wp_region_below (by kernel_rfl) (by kernel_rfl) (Below.refl w2.heap.size w2) ?_
          repeat (go_big_quiet_step (first | (go_at_call 26; exact quiet_below (CR.out _) (Nat.le_refl _))))
          refine wpQuiet_nil ?_
          intro w3 hq
          replace hq := Wd.of hq
          have S_w3 := (show Hid _ from S_w2.out.below hq)
          clear hq ne g0 g1 g2 g3 g4 g5 g6
          go_wp2
          go_ret
          exact ⟨rfl, S_w3.out.1⟩
        · rw [hB] at CR
          have CR := (show Hid _ from CR)
          have HHB := (show Hid (headB ⟨no, ar, en⟩ = true) from hB)
          clear hB
          obtain ⟨⟨n0, n1, n2⟩, hn0⟩ : ∃ x, x = nowDk d := ⟨_, rfl⟩
          have CN := (show Hid (∀ m : Wd w2.heap.size w2, Calls Tryz.prog 27 #[.agg #[.slice sa sn sc, .slice la d.late.length lc]] m.w fun e w' => e = .returned (.agg #[.int .i64 n0, .int .i64 n1, .int .i64 n2]) ∧ Below m.w.heap.size m.w w') from fun m => by
            have := sheadNow_any (H1.out.below (S_w2.out.below m.below).1) HF.out
            rw [← hn0] at this
            exact this)
          rw [← hn0] at HQ
          have HNW := (show Hid (_ = _) from hn0)
          clear hn0
          go_wp2_with fail
          have g0 := fun m : Wd w2.heap.size w2 => ((rk_seven (S_w2.out.below m.below).at1).1)
          have g1 := fun m : Wd w2.heap.size w2 => ((rk_seven (S_w2.out.below m.below).at1).2.1)
          have g2 := fun m : Wd w2.heap.size w2 => ((rk_seven (S_w2.out.below m.below).at1).2.2.1)
          have g3 := fun m : Wd w2.heap.size w2 => ((rk_seven (S_w2.out.below m.below).at1).2.2.2.1)
          have g4 := fun m : Wd w2.heap.size w2 => ((rk_seven (S_w2.out.below m.below).at1).2.2.2.2.1)
          have g5 := fun m : Wd w2.heap.size w2 => ((rk_seven (S_w2.out.below m.below).at1).2.2.2.2.2.1)
          have g6 := fun m : Wd w2.heap.size w2 => ((rk_seven (S_w2.out.below m.below).at1).2.2.2.2.2.2.1)
          have ne := Wd.any w2.heap.size w2
          refine wp_region_below (by kernel_rfl) (by kernel_rfl) (Below.refl w2.heap.size w2) ?_
          repeat (go_big_quiet_step (first | (go_at_call 26; exact quiet_below (CR.out _) (Nat.le_refl _)) | (go_at_call 27; exact quiet_below (CN.out _) (Nat.le_refl _))))
          refine wpQuiet_nil ?_
          intro w4 hq
          replace hq := Wd.of hq
          have S_w4 := (show Hid _ from S_w2.out.below hq)
          clear hq ne g0 g1 g2 g3 g4 g5 g6
          clear S_w2 c0 c1 c2 c3 c4 c5 c6 d0 d1 d2
          cases hh : headEq ⟨n0, n1, n2⟩ ⟨no, ar, en⟩
          · have hq : q = false := by rw [HQ.out, hh]; simp
            subst hq
            clear HQ
            go_wp2
            go_ret
            exact ⟨rfl, S_w4.out.1⟩
          · have e := headEq_iff.mp hh
            cases e
            have HW := (show Hid (q = ((recsA d ⟨no, ar, en⟩).2 && decide (indexA d ⟨no, ar, en⟩ = ls))) from (show _ = _ by rw [HQ.out, wellA, ← HNW.out, HHB.out, headEq_self]; simp))
            clear HQ
            obtain ⟨c0, c1, c2, c3, c4, c5, c6, _⟩ := rk_seven S_w4.out.at1
            go_wp2_with fail
            go_at_call 29
            refine (sl18Bytes_any (H1.out.below S_w4.out.1) HB.out ⟨no, ar, en⟩ HHB.out).mono ?_
            rintro e w5 ⟨u, rfl, o5, b5⟩
            have S_w5 := (show Hid (Hl w [(w.heap.size + 1, #[.int .i64 0, .int .i64 0, .int .i64 0], 36), (w.heap.size, #[.bool true, .slice sa sn sc, .slice la d.late.length lc, .int .i64 no, .int .i64 ar, .int .i64 en, .slice ea ls.length ec], 39)] w5) from S_w4.out.below b5)
            have O5 := (show Hid (Own w4.heap.size 5 .u8 w5 u (bytesA d ⟨no, ar, en⟩)) from o5)
            clear b5 o5 c0 c1 c2 c3 c4 c5 c6 S_w4
            have hi := headB_in HHB.out
            simp only at hi
            have hlen : (bytesA d ⟨no, ar, en⟩).length ≤ 1048576 := by rw [bytesA_len]; simp only; omega
            have CRS := srecords_any O5.out.sl (bytesA_byte d ⟨no, ar, en⟩) hlen
            obtain ⟨⟨rs, rb⟩, hrs⟩ : ∃ x, x = recsA d ⟨no, ar, en⟩ := ⟨_, rfl⟩
            have hrl : rs.length ≤ 1048576 := by
              have := recsA_len d ⟨no, ar, en⟩
              rw [← hrs] at this
              simp only at this
              omega
            have hix : indexA d ⟨no, ar, en⟩ = idxOf rs := by rw [indexA, ← hrs]
            unfold recsA at hrs
            rw [← hrs] at CRS
            rw [hix, recsA, ← hrs] at HW
            simp only at CRS HW
            have CRS := (show Hid _ from CRS)
            have HRL := (show Hid (rs.length ≤ 1048576) from hrl)
            clear hlen hrs hrl hix hi
            go_wp2_with fail
            go_at_call 28
            refine Calls.mono CRS.out ?_
            rintro e w6 ⟨v6, rfl, o6, b6⟩
            have S_w6 := (show Hid (Hl w [(w.heap.size + 1, #[.int .i64 0, .int .i64 0, .int .i64 0], 36), (w.heap.size, #[.bool true, .slice sa sn sc, .slice la d.late.length lc, .int .i64 no, .int .i64 ar, .int .i64 en, .slice ea ls.length ec], 39)] w6) from S_w5.out.below b6)
            have O6 := (show Hid (OwnRs w5.heap.size w6 v6 rs) from o6)
            clear b6 o6 S_w5 CRS O5
            cases rb
            · have hq : q = false := by rw [HW.out]; rfl
              subst hq
              clear HW
              go_wp2_with fail
              have g0 := fun m : Wd w6.heap.size w6 => ((rk_seven (S_w6.out.below m.below).at1).1)
              have g1 := fun m : Wd w6.heap.size w6 => ((rk_seven (S_w6.out.below m.below).at1).2.1)
              have g2 := fun m : Wd w6.heap.size w6 => ((rk_seven (S_w6.out.below m.below).at1).2.2.1)
              have g3 := fun m : Wd w6.heap.size w6 => ((rk_seven (S_w6.out.below m.below).at1).2.2.2.1)
              have g4 := fun m : Wd w6.heap.size w6 => ((rk_seven (S_w6.out.below m.below).at1).2.2.2.2.1)
              have g5 := fun m : Wd w6.heap.size w6 => ((rk_seven (S_w6.out.below m.below).at1).2.2.2.2.2.1)
              have g6 := fun m : Wd w6.heap.size w6 => ((rk_seven (S_w6.out.below m.below).at1).2.2.2.2.2.2.1)
              have ne := Wd.any w6.heap.size w6
              refine wp_region_below (by kernel_rfl) (by kernel_rfl) (Below.refl w6.heap.size w6) ?_
              repeat (go_big_quiet_step (fail))
              refine wpQuiet_nil ?_
              intro w7 hq
              replace hq := Wd.of hq
              have S_w7 := (show Hid _ from S_w6.out.below hq)
              clear hq ne g0 g1 g2 g3 g4 g5 g6
              go_wp2
              go_ret
              exact ⟨rfl, S_w7.out.1⟩
            · have HW := (show Hid (q = decide (idxOf rs = ls)) from (show _ = _ by rw [HW.out]; rfl))
              have CX := (show Hid (∀ W, Below w6.heap.size w6 W → Calls Tryz.prog 31 #[v6] W fun e w' => ∃ v', e = .returned v' ∧ OwnPs W.heap.size w' v' (idxOf rs) ∧ Below W.heap.size W w') from fun W b => sindexOf_any ((sv_of_own O6.out).below b) HRL.out)
              have hxl : (idxOf rs).length ≤ 1099511627776 := by
                have := idxN_len rs []
                have := HRL.out
                unfold idxOf
                simp only [List.length_nil] at *
                omega
              have CE := (show Hid (∀ W u, Below w6.heap.size w6 W → Sv 2 W u (pairCells (idxOf rs)) → Calls Tryz.prog 30 #[u, .slice ea ls.length ec] W fun e w' => e = .returned (.bool (decide (idxOf rs = ls))) ∧ Below W.heap.size W w') from fun W u b h => ssameList_any h (H2.out.below (S_w6.out.below b).1) hxl (by omega))
              rw [← HW.out] at CE
              clear hxl HW
              have KD := (show Hid (Below w6.heap.size w6 w6.drew) from below_drewN 1)
              have HS := (show Hid (∀ W, Below w6.heap.size w6 W → W.cell? ⟨w.heap.size, 0, none⟩ = some (.bool true) ∧ W.cell? ⟨w.heap.size, 1, none⟩ = some (.slice sa sn sc) ∧ W.cell? ⟨w.heap.size, 2, none⟩ = some (.slice la d.late.length lc) ∧ W.cell? ⟨w.heap.size, 3, none⟩ = some (.int .i64 no) ∧ W.cell? ⟨w.heap.size, 4, none⟩ = some (.int .i64 ar) ∧ W.cell? ⟨w.heap.size, 5, none⟩ = some (.int .i64 en) ∧ W.cell? ⟨w.heap.size, 6, none⟩ = some (.slice ea ls.length ec) ∧ Below w6.heap.size w6 W) from fun W h => ⟨(rk_seven (S_w6.out.below h).at1).1, (rk_seven (S_w6.out.below h).at1).2.1, (rk_seven (S_w6.out.below h).at1).2.2.1, (rk_seven (S_w6.out.below h).at1).2.2.2.1, (rk_seven (S_w6.out.below h).at1).2.2.2.2.1, (rk_seven (S_w6.out.below h).at1).2.2.2.2.2.1, (rk_seven (S_w6.out.below h).at1).2.2.2.2.2.2.1, h⟩)
              go_wp2_with fail
              go_region_held3 (fun w' => w'.cell? ⟨w.heap.size, 0, none⟩ = some (.bool true) ∧ w'.cell? ⟨w.heap.size, 1, none⟩ = some (.slice sa sn sc) ∧ w'.cell? ⟨w.heap.size, 2, none⟩ = some (.slice la d.late.length lc) ∧ w'.cell? ⟨w.heap.size, 3, none⟩ = some (.int .i64 no) ∧ w'.cell? ⟨w.heap.size, 4, none⟩ = some (.int .i64 ar) ∧ w'.cell? ⟨w.heap.size, 5, none⟩ = some (.int .i64 en) ∧ w'.cell? ⟨w.heap.size, 6, none⟩ = some (.slice ea ls.length ec) ∧ Below w6.heap.size w6 w')
                (first | exact HS.out _ KD.out | exact HS.out _ T_w7.out | exact HS.out _ T_w8.out)
                (first
                  | (go_at_call 31
                     refine Calls.mono (CX.out _ (‹_ ∧ _ ∧ _ ∧ _ ∧ _ ∧ _ ∧ _ ∧ Below _ _ _›).2.2.2.2.2.2.2) ?_
                     rintro e w7 ⟨v7, rfl, o7, b_w7⟩
                     have T_w7 := (show Hid (Below w6.heap.size w6 w7) from (‹_ ∧ _ ∧ _ ∧ _ ∧ _ ∧ _ ∧ _ ∧ Below _ _ _›).2.2.2.2.2.2.2.trans (b_w7.mono (‹_ ∧ _ ∧ _ ∧ _ ∧ _ ∧ _ ∧ _ ∧ Below _ _ _›).2.2.2.2.2.2.2.size))
                     have O7 := (show Hid (Sv 2 w7 v7 (pairCells (idxOf rs))) from sv_of_own o7)
                     clear o7 b_w7)
                  | (go_at_call 30
                     refine Calls.mono (CE.out _ _ (‹_ ∧ _ ∧ _ ∧ _ ∧ _ ∧ _ ∧ _ ∧ Below _ _ _›).2.2.2.2.2.2.2 O7.out) ?_
                     rintro e w8 ⟨rfl, b_w8⟩
                     have T_w8 := (show Hid (Below w6.heap.size w6 w8) from (‹_ ∧ _ ∧ _ ∧ _ ∧ _ ∧ _ ∧ _ ∧ Below _ _ _›).2.2.2.2.2.2.2.trans (b_w8.mono (‹_ ∧ _ ∧ _ ∧ _ ∧ _ ∧ _ ∧ _ ∧ Below _ _ _›).2.2.2.2.2.2.2.size))
                     clear b_w8))
              go_wp2
              go_ret
              exact ⟨rfl, (S_w6.out.below T_w8.out).1⟩
end Go.Proofs.YtokkigfjabbdaaaGreatDoor

/- The program's HeadRead. -/
namespace Go.Proofs.YtokkigfjabbdaaaGreatDoor
open Go.RowKit
set_option maxRecDepth 100000
set_option linter.unusedVariables false

theorem far3 {w : World} {b g k : Nat} {v1 v2 v3 : Value} {u : Option Value} (hne : b ≠ g) (h : w.drew.cell? ⟨b, k, none⟩ = u) : (((w.setCell ⟨g, 0, none⟩ v1).setCell ⟨g, 1, none⟩ v2).setCell ⟨g, 2, none⟩ v3).drew.cell? ⟨b, k, none⟩ = u :=
  show (((w.setCell ⟨g, 0, none⟩ v1).setCell ⟨g, 1, none⟩ v2).setCell ⟨g, 2, none⟩ v3).cell? ⟨b, k, none⟩ = u from far1 hne (far1 hne (far1 hne (show w.cell? ⟨b, k, none⟩ = u from h)))
theorem Sent.addr {w : World} (h : Sent w) : ∃ a : Addr, ∀ W, Below w.heap.size w W → W.cell? ⟨0, 0, none⟩ = some (.iface 225 (.pointer (some a))) := by
  obtain ⟨a, h⟩ := h
  exact ⟨a, fun W b => (b.cell (p := ⟨0, 0, none⟩) (lt_of_cell h)).trans h⟩
/-- errors.Is of what headIn answers. -/
theorem iis_any {s : ByteArray} {w W : World} {er : Value} {a : Addr} (h : HeadErr s w er) (ha : w.cell? ⟨0, 0, none⟩ = some (.iface 225 (.pointer (some a)))) :
    Calls Tryz.prog 98 #[er, .iface 225 (.pointer (some a))] W fun e w' => e = .returned (.bool (!(readDk s).2)) ∧ w' = W := by
  unfold HeadErr at h
  split at h
  · rename_i e
    subst h
    rw [e]
    exact is_nil a W
  · rename_i e
    obtain ⟨b, hb, rfl⟩ := h
    have e' : (readDk s).2 = false := by simpa using e
    rw [hb] at ha
    injection ha with ha
    injection ha with _ ha
    injection ha with ha
    injection ha with ha
    rw [e', ha]
    exact is_same a W

end Go.Proofs.YtokkigfjabbdaaaGreatDoor

/- The program's HeadNow. -/
namespace Go.Proofs.YtokkigfjabbdaaaGreatDoor
open Go.RowKit
set_option maxRecDepth 100000
set_option linter.unusedVariables false

/-- The head that counts when k sectors have been looked at. -/
def nowK (d : PDisk) : Nat → PHead
  | 0 => zeroH
  | k + 1 => if (readDk (sectorDk d (k : Int)).1).2 = true ∧ (nowK d k).no < (readDk (sectorDk d (k : Int)).1).1.no then (readDk (sectorDk d (k : Int)).1).1 else nowK d k
theorem read_pos {s : ByteArray} (h : (readDk s).2 = true) : 1 ≤ (readDk s).1.no := (headB_in (read_some h).1).1
theorem read_zero {s : ByteArray} (h : ¬ (readDk s).2 = true) : (readDk s).1 = zeroH := by rw [read_none (by simpa using h)]
theorem read_empty : readDk ⟨#[]⟩ = (zeroH, false) := by
  by_cases h : (readDk ⟨#[]⟩).2 = true
  · have := (read_some h).2
    have h2 := packS_size (readDk ⟨#[]⟩).1
    rw [this] at h2
    simp [ByteArray.size] at h2
  · exact read_none (by simpa using h)
theorem nowK_two (d : PDisk) : nowK d 2 = nowDk d := by
  unfold nowDk
  by_cases hb : diskB d = false
  · have h1 : ∀ x : Int, sectorDk d x = (⟨#[]⟩, false) := fun x => by rw [sectorDk, if_pos (.inl hb)]
    rw [if_pos hb]
    simp [nowK, h1, read_empty, zeroH]
  · have hb' : diskB d = true := by simpa using hb
    have h0 : sectorDk d ((0 : Nat) : Int) = (sectorD d 0, true) := by rw [sectorDk, if_neg (by rw [hb']; simp [inB])]; rfl
    have h1 : sectorDk d ((1 : Nat) : Int) = (sectorD d 1, true) := by rw [sectorDk, if_neg (by rw [hb']; simp [inB])]; rfl
    have e1 : nowK d 1 = (readDk (sectorD d 0)).1 := by
      show (if _ then _ else _) = _
      rw [h0]
      by_cases h : (readDk (sectorD d 0)).2 = true
      · rw [if_pos ⟨h, by have := read_pos h; show (0 : Int) < (readDk (sectorD d 0)).1.no; omega⟩]
      · rw [if_neg (fun e => h e.1), read_zero h]; rfl
    rw [if_neg hb]
    show (if _ then _ else _) = _
    rw [h1, e1]
    by_cases h : (readDk (sectorD d 1)).2 = true
    · by_cases hl : (readDk (sectorD d 0)).1.no < (readDk (sectorD d 1)).1.no
      · rw [if_pos ⟨h, hl⟩, if_pos hl]
      · rw [if_neg (fun e => hl e.2), if_neg hl]
    · rw [if_neg (fun e => h e.1), if_neg]
      rw [read_zero h]
      by_cases h' : (readDk (sectorD d 0)).2 = true
      · have := read_pos h'; show ¬ _ < (0 : Int); omega
      · rw [read_zero h']; show ¬ (0 : Int) < 0; omega

set_option maxHeartbeats 400000 in
set_option maxRecDepth 100000 in
theorem iheadNow_any (w : World) (v : Value) (d : PDisk) (hd : DiskAt w v d) (hf : DiskFit d) (he : Sent w) :
    Calls Tryz.prog 85 #[v] w fun e w' => e = .returned (headV (nowDk d)) ∧ Below w.heap.size w w' := by
  rw [← nowK_two]
  have HD := (show Hid (DiskAt w v d) from hd)
  have HF := (show Hid (DiskFit d) from hf)
  have HSn := (show Hid (Sent w) from he)
  obtain ⟨a, hA⟩ := he.addr
  have HA := (show Hid _ from hA)
  obtain ⟨sa, sn, sc, la, ln, lc, rfl, _, _⟩ := hd
  clear hf he hA
  obtain ⟨w1, hw1⟩ : ∃ y, y = ((w.alloc (.cells #[.slice sa sn sc, .slice la ln lc] 35)).alloc (.cells #[.int .i64 0, .int .i64 0, .int .i64 0] 36)).alloc (.cells #[.int .i64 0, .int .i64 0, .int .i64 0] 36) := ⟨_, rfl⟩
  have h1 := (((Hl.refl w).new #[.slice sa sn sc, .slice la ln lc] 35).new #[.int .i64 0, .int .i64 0, .int .i64 0] 36).new #[.int .i64 0, .int .i64 0, .int .i64 0] 36
  rw [← hw1, World.size_alloc, World.size_alloc] at h1
  have H1 := (show Hid _ from h1)
  clear h1
  go_enter Tryz.func85, Tryz.ntmps85
  go_wp2_with fail
  rw [← hw1]
  go_loopw [10] (fun i wr => ∃ k : Nat, k ≤ 2 ∧ i = .int .i64 (k : Int) ∧ Hl w [(w.heap.size + 1 + 1, #[.int .i64 (nowK d k).no, .int .i64 (nowK d k).area, .int .i64 (nowK d k).en], 36), (w.heap.size + 1, #[.int .i64 0, .int .i64 0, .int .i64 0], 36), (w.heap.size, #[.slice sa sn sc, .slice la ln lc], 35)] wr) (fun i _ => 2 - (intOf i).toNat)
  case atStart => exact ⟨0, by omega, rfl, H1.out⟩
  case round =>
    clear H1 hw1
    obtain ⟨k, hk, rfl, hI⟩ := hrel
    have HI := (show Hid (Hl w _ wr) from hI)
    clear hI
    obtain ⟨n1, n2, n3, o1, o2, o3⟩ := rk_three HI.out.at0
    obtain ⟨d1, d2, _, _⟩ := rk_two HI.out.at2
    by_cases hlt : k < 2
    · have hlt' : (k : Int) < 2 := by omega
      have CS := (show Hid _ from isectorOf_any (HD.out.below HI.out.1) HF.out (k : Int))
      obtain ⟨⟨tx, tb⟩, ht⟩ : ∃ q, q = sectorDk d (k : Int) := ⟨_, rfl⟩
      have hts : tx.size ≤ 1099511627776 := by
        have : tx = (sectorDk d (k : Int)).1 := by rw [← ht]
        rw [this, sectorDk]
        split
        · exact Nat.zero_le _
        · rename_i h
          rw [sector_size (by cases hh : diskB d <;> simp_all) (by simp only [inB] at h; constructor <;> simp_all)]
          omega
      rw [← ht] at CS
      simp only at CS
      have HT := (show Hid ((tx, tb) = sectorDk d (k : Int)) from ht)
      clear ht
      go_wp2_with fail
      go_at_call 96
      refine Calls.mono CS.out ?_
      rintro e w2 ⟨rfl, b2⟩
      have H2 := (show Hid _ from HI.out.below b2)
      clear b2 CS
      have CI := (show Hid _ from iheadIn_any tx w2 hts (HSn.out.below H2.out.1))
      have CE := (show Hid (∀ (u W : World) (er : Value), Below w.heap.size w u → HeadErr tx u er → Calls Tryz.prog 98 #[er, .iface 225 (.pointer (some a))] W fun e w' => e = .returned (.bool (!(readDk tx).2)) ∧ w' = W) from fun u W er b h => iis_any h (HA.out u b))
      have HK := (show Hid (nowK d (k + 1) = if (readDk tx).2 = true ∧ (nowK d k).no < (readDk tx).1.no then (readDk tx).1 else nowK d k) from by rw [show tx = (sectorDk d (k : Int)).1 by rw [← HT.out]]; exact rfl)
      obtain ⟨⟨q, qb⟩, hq⟩ : ∃ q, q = readDk tx := ⟨_, rfl⟩
      rw [← hq] at CI CE HK
      simp only at CI CE HK
      obtain ⟨p0, p1, p2⟩ := q
      obtain ⟨N, hN⟩ : ∃ N, N = nowK d k := ⟨_, rfl⟩
      rw [← hN] at HK H2 n1 n2 n3
      obtain ⟨m0, m1, m2⟩ := N
      unfold headV at CI
      simp only at CI HK H2 n1 n2 n3
      clear hq hN HI n1 n2 n3 o1 o2 o3 d1 d2
      go_wp2_with fail
      go_at_call 97
      refine Calls.mono CI.out ?_
      rintro e w3 ⟨⟨er, rfl, her⟩, b3⟩
      have HE := (show Hid (HeadErr tx w2 er) from her)
      have H3 := (show Hid _ from H2.out.below b3)
      clear b3 CI her
      obtain ⟨w4, hw4⟩ : ∃ y, y = w3.alloc (.cells #[.int .i64 p0, .int .i64 p1, .int .i64 p2] 36) := ⟨_, rfl⟩
      have h4 := H3.out.new #[.int .i64 p0, .int .i64 p1, .int .i64 p2] 36
      rw [← hw4] at h4
      have H4 := (show Hid _ from h4)
      clear h4
      obtain ⟨k1, k2, k3, _⟩ := rk_three H4.out.at0
      obtain ⟨n1, n2, n3, o1, o2, o3⟩ := rk_three H4.out.at1
      have ce := HA.out w3 H3.out.1
      have ce0 := lt_of_cell ce
      go_wp2_with fail
      go_at_call 98
      rw [← hw4]
      refine Calls.mono (CE.out w2 _ _ H2.out.1 HE.out) ?_
      rintro e w5 ⟨rfl, e5⟩
      replace e5 := e5.symm
      subst e5
      clear hw4 CE ce ce0
      have H5 := (show Hid (Hl w [(w.heap.size + 1 + 1, #[.int .i64 m0, .int .i64 m1, .int .i64 m2], 36), (w.heap.size + 1, #[.int .i64 0, .int .i64 0, .int .i64 0], 36), (w.heap.size, #[.slice sa sn sc, .slice la ln lc], 35)] w4) from H4.out.tail)
      cases qb
      · have HZ : Hid (nowK d (k + 1) = ⟨m0, m1, m2⟩) := (show nowK d (k + 1) = ⟨m0, m1, m2⟩ by rw [HK.out, if_neg (by simp)])
        clear HK
        go_wp2
        go_roundw
        case rel => exact ⟨k + 1, hlt, by go_num, by rw [HZ.out]; exact H5.out⟩
        case measure => simp [intOf]; omega
      · by_cases hm : m0 < p0
        · have HZ : Hid (nowK d (k + 1) = ⟨p0, p1, p2⟩) := (show nowK d (k + 1) = ⟨p0, p1, p2⟩ by rw [HK.out, if_pos ⟨rfl, hm⟩])
          clear HK
          go_wp2
          go_roundw
          case rel =>
            have H6 := H5.out.set3 (by omega) (fun p hp => by
              simp only [List.mem_cons, List.not_mem_nil, or_false] at hp
              rcases hp with rfl | rfl
              · show w.heap.size + 1 ≠ w.heap.size + 1 + 1; omega
              · show w.heap.size ≠ w.heap.size + 1 + 1; omega) (.int .i64 p0) (.int .i64 p1) (.int .i64 p2)
            exact ⟨k + 1, hlt, by go_num, by rw [HZ.out]; exact H6⟩
          case measure => simp [intOf]; omega
        · have HZ : Hid (nowK d (k + 1) = ⟨m0, m1, m2⟩) := (show nowK d (k + 1) = ⟨m0, m1, m2⟩ by rw [HK.out, if_neg (fun e => hm e.2)])
          clear HK
          go_wp2
          go_roundw
          case rel => exact ⟨k + 1, hlt, by go_num, by rw [HZ.out]; exact H5.out⟩
          case measure => simp [intOf]; omega
    · obtain rfl : k = 2 := by omega
      obtain ⟨_, _, _, r1, r2, r3⟩ := rk_three HI.out.at1
      go_wp2
      have H9 := HI.out.swap.set3 (Nat.le_succ _) (by simp) (.int .i64 (nowK d 2).no) (.int .i64 (nowK d 2).area) (.int .i64 (nowK d 2).en)
      refine bodyPost_ret (results_cell_row rfl _ _ (w.heap.size + 1) 36 _ (0, 0) _ rfl H9.at0 Tryz.underlying36 rfl rfl) rfl ?_
      exact ⟨rfl, H9.1⟩
end Go.Proofs.YtokkigfjabbdaaaGreatDoor

/- The program's UrlOk and recordOk. No condition. -/
namespace Go.Proofs.YtokkigfjabbdaaaGreatDoor
open Go.RowKit
set_option maxRecDepth 100000
set_option linter.unusedVariables false

set_option maxHeartbeats 400000 in
set_option maxRecDepth 100000 in
theorem iurlOk_any (s : ByteArray) (w : World) (hs : s.size ≤ 1099511627776) : Calls Tryz.prog 151 #[.string s] w fun e w' => e = .returned (.bool (urlB s)) ∧ Below w.heap.size w w' := by
  have hl := bs_len s
  rw [urlB_eq]
  by_cases h1 : s.size < 1 ∨ 60 < s.size
  · rw [inB_no (by omega)]
    rcases h1 with h1 | h1
    · go_enter Tryz.func151, Tryz.ntmps151
      go_wp2
      go_ret
      exact ⟨rfl, Below.refl _ _⟩
    · go_enter Tryz.func151, Tryz.ntmps151
      go_wp2
      go_ret
      exact ⟨rfl, Below.refl _ _⟩
  · have h2 : 1 ≤ s.size := by omega
    have h3 : s.size ≤ 60 := by omega
    rw [inB_yes (by omega) (by omega)]
    clear h1
    obtain ⟨cap, w1, hc, hk, hcap, hm, hb⟩ := conv_str s w (by unfold maxLen; omega)
    have HK := (show Hid (Blk .u8 5 w1 w.heap.size (bs s)) from hk)
    have HB := (show Hid (Below w.heap.size w w1) from hb)
    clear hk hb
    go_enter Tryz.func151, Tryz.ntmps151
    go_wp2
    go_loopw [16] (fun i wr => ∃ k : Nat, k ≤ s.size ∧ i = .int .i64 k ∧ ((bs s).take k).any ubad = false ∧ Hid (w1 = wr)) (fun i _ => s.size - (intOf i).toNat)
    case atStart => exact ⟨0, Nat.zero_le _, rfl, by simp, rfl⟩
    case round =>
      obtain ⟨k, hks, rfl, hno, hw⟩ := hrel
      have ew := hw.out
      subst ew
      have HN : Hid (((bs s).take k).any ubad = false) := hno
      clear hno hw
      by_cases hlt : k < s.size
      · have hat := HK.out.cell k (by omega)
        have hbk := bs_bound s k
        have HA : Hid (((bs s).take (k + 1)).any ubad = (((bs s).take k).any ubad || ubad ((bs s).getD k 0))) := uany_succ (by omega)
        have HO : Hid (ubad ((bs s).getD k 0) = true → (bs s).any ubad = true) := uany_of (by omega)
        obtain ⟨x, hx⟩ : ∃ x, x = (bs s).getD k 0 := ⟨_, rfl⟩
        rw [← hx] at hat hbk HA HO
        clear hx
        have hlt' : (k : Int) < (s.size : Int) := by omega
        by_cases g1 : x < 33
        · go_wp2
          go_ret
          refine ⟨?_, HB.out⟩
          rw [HO.out (by simp [ubad, g1])]; rfl
        · by_cases g2 : 126 < x
          · go_wp2
            go_ret
            refine ⟨?_, HB.out⟩
            rw [HO.out (by simp [ubad, g2])]; rfl
          · go_wp2
            go_roundw
            case rel => exact ⟨k + 1, hlt, by go_num, by rw [HA.out, HN.out]; simp [ubad]; omega, trivial⟩
            case measure => simp [intOf]; omega
      · obtain rfl : k = s.size := by omega
        have HN2 : Hid ((bs s).any ubad = false) := (show (bs s).any ubad = false by have := HN.out; rwa [List.take_of_length_le (by omega)] at this)
        clear HN
        go_wp2
        go_ret
        exact ⟨by rw [HN2.out]; rfl, HB.out⟩

set_option maxHeartbeats 400000 in
set_option maxRecDepth 100000 in
theorem irecordOk_any (r : PRec) (w : World) (hu : r.url.size ≤ 1099511627776) : Calls Tryz.prog 147 #[recV r] w fun e w' => e = .returned (.bool (recB r)) ∧ Below w.heap.size w w' := by
  have CU := (show Hid (∀ W, Calls Tryz.prog 151 #[.string r.url] W fun e w' => e = .returned (.bool (urlB r.url)) ∧ Below W.heap.size W w') from fun W => iurlOk_any r.url W hu)
  have HP := (show Hid (recB r = ((decide (r.kind = 1) || decide (r.kind = 2)) && urlB r.url && !(decide (r.kind = 2) && decide (r.body ≠ emptyS)))) from rfl)
  obtain ⟨kd, ur, bo⟩ := r
  unfold recV
  simp only at CU hu HP ⊢
  obtain ⟨w1, hw1⟩ : ∃ y, y = w.alloc (.cells #[.int .i64 kd, .string ur, .string bo] 94) := ⟨_, rfl⟩
  have h1 := (Hl.refl w).new #[.int .i64 kd, .string ur, .string bo] 94
  rw [← hw1] at h1
  have H1 := (show Hid _ from h1)
  clear h1
  obtain ⟨q, hq⟩ : ∃ q, q = urlB ur := ⟨_, rfl⟩
  rw [← hq] at CU HP
  clear hq
  rw [HP.out]
  clear HP
  by_cases h1 : kd = 1
  · subst h1
    go_enter Tryz.func147, Tryz.ntmps147
    go_wp2_with fail
    go_at_call 151
    rw [← hw1]
    refine Calls.mono (CU.out _) ?_
    rintro e w2 ⟨rfl, b2⟩
    have H2 := (show Hid _ from H1.out.below b2)
    clear hw1 b2
    go_wp2
    go_ret
    exact ⟨ret_bool (by cases q <;> simp), H2.out.1⟩
  · have hn1 : (kd == 1) = false := by simp [h1]
    by_cases h2 : kd = 2
    · subst h2
      go_enter Tryz.func147, Tryz.ntmps147
      go_wp2_with fail
      go_at_call 151
      rw [← hw1]
      refine Calls.mono (CU.out _) ?_
      rintro e w2 ⟨rfl, b2⟩
      have H2 := (show Hid _ from H1.out.below b2)
      obtain ⟨m1, m2, m3, _⟩ := rk_three H2.out.at0
      clear hw1 b2
      cases q
      · go_wp2
        go_ret
        exact ⟨ret_bool rfl, H2.out.1⟩
      · by_cases hbo : bo = emptyS
        · have hbe : bo.toList.isEmpty = true := by rw [hbo]; exact emptyS_yes
          go_wp2
          go_ret
          exact ⟨ret_bool (by first | (rw [hbe]; simp [hbo]; done) | (simp [hbo]; done) | (rw [hbo, emptyS_yes]; simp)), H2.out.1⟩
        · have hbe : bo.toList.isEmpty = false := emptyS_ne hbo
          go_wp2
          go_ret
          exact ⟨ret_bool (by first | (rw [hbe]; simp [hbo]; done) | (simp [hbo]; done)), H2.out.1⟩
    · have hn2 : (kd == 2) = false := by simp [h2]
      have HF : Hid (((decide (kd = 1) || decide (kd = 2)) && q && !(decide (kd = 2) && decide (bo ≠ emptyS))) = false) := (show ((decide (kd = 1) || decide (kd = 2)) && q && !(decide (kd = 2) && decide (bo ≠ emptyS))) = false by simp [h1, h2])
      rw [HF.out]
      go_enter Tryz.func147, Tryz.ntmps147
      go_wp2
      go_ret
      exact ⟨ret_bool rfl, by rw [← hw1]; exact H1.out.1⟩
end Go.Proofs.YtokkigfjabbdaaaGreatDoor

/- The program's RecordPack. No condition. -/
namespace Go.Proofs.YtokkigfjabbdaaaGreatDoor
open Go.RowKit
set_option maxRecDepth 100000
set_option linter.unusedVariables false

theorem form_posR {x : Int} (h : 0 ≤ x) : 0 < (form x).length := by
  rw [form, if_neg (by omega)]
  by_cases h' : x < 128
  · rw [nf_lt h']; simp
  · rw [nf_ge (by omega)]; simp
theorem urlB_len {s : ByteArray} (h : urlB s = true) : s.size ≤ 60 := by
  unfold urlB at h
  simp only [Bool.and_eq_true] at h
  by_cases e : s.size ≤ 60
  · exact e
  · rw [inB_no (by omega)] at h; simp at h
theorem iconcat2 {W : World} {v1 v2 : Value} {x y : List Int} (s1 : Sl .u8 W v1 x) (s2 : Sl .u8 W v2 y) (h1 : x.length ≤ 9) (h2 : y.length ≤ 69) (h0 : 0 < x.length) :
    Calls Tryz.prog 143 #[.slice (some ⟨W.heap.size, 0, none⟩) 2 2] (W.alloc (.cells #[v1, v2] 58)) fun e w' => ∃ v', e = .returned v' ∧ Own W.heap.size 5 .u8 w' v' (x ++ y) ∧ Below W.heap.size W w' := by
  have b1 : Below W.heap.size W (W.alloc (.cells #[v1, v2] 58)) := (Below.refl _ _).alloc (Nat.le_refl _) _
  obtain ⟨c1, c2, _⟩ := rk_two (World.alloc_heap_new W (.cells #[v1, v2] 58))
  have hc := iconcat_any (w := W.alloc (.cells #[v1, v2] 58)) (b := W.heap.size) (ps := [(v1, x), (v2, y)]) (by simp) (fun k hk => by
    match k, hk with
    | 0, _ => exact ⟨c1, s1.below b1⟩
    | 1, _ => exact ⟨c2, s2.below b1⟩) (by simp) (fun p hp => by
      simp only [List.mem_cons, List.not_mem_nil, or_false] at hp
      rcases hp with rfl | rfl
      · exact Nat.le_trans h1 (by decide)
      · exact Nat.le_trans h2 (by decide)) (by show 0 < (x ++ (y ++ [])).length; rw [List.length_append]; omega)
  have e1 : catP [(v1, x), (v2, y)] = x ++ y := by simp [catP]
  rw [e1] at hc
  refine Calls.mono hc ?_
  rintro e w' ⟨v', rfl, o, b⟩
  exact ⟨v', rfl, o.base b1.size, b1.trans (b.mono b1.size)⟩

end Go.Proofs.YtokkigfjabbdaaaGreatDoor

/- The program's byteReader: text. -/
namespace Go.Proofs.YtokkigfjabbdaaaGreatDoor
open Go.RowKit
set_option maxRecDepth 100000
set_option linter.unusedVariables false

theorem wrap_fit7 {x : Int} (h0 : -9223372036854775808 ≤ x) (h1 : x ≤ 9223372036854775807) : IntKind.i64.wrap x = x := by
  simp [IntKind.wrap, IntKind.bits, IntKind.signed]; omega

set_option maxHeartbeats 1000000 in
theorem text_any {w0 : World} {g : Nat} {v : Value} {xs : List Int} {i : Int} {w : World} (h : Rdr w0 g v xs i w) (hb : ∀ x ∈ xs, 0 ≤ x ∧ x ≤ 255) :
    Calls Tryz.prog 146 #[.pointer (some ⟨g, 0, none⟩)] w fun e w' => ((∃ t j, rdT xs i = some (t, j) ∧ e = .returned (.string (strOf t)) ∧ Rdr w0 g v xs j w') ∨ (rdT xs i = none ∧ Bad e ∧ ∃ j, Rdr w0 g v xs j w')) ∧ w.grownBy w' (some g) := by
  have CALL := (show Hid (Calls Tryz.prog 121 #[.pointer (some ⟨g, 0, none⟩)] w _) from num_any h hb)
  go_enter Tryz.func146, Tryz.ntmps146
  go_wp2_with fail
  go_at_call 121
  refine CALL.out.mono ?_
  rintro e w2 ⟨hor, g2⟩
  clear CALL
  rcases hor with ⟨y, n, hy, rfl, r2⟩ | ⟨hy, ⟨t, s, rfl⟩, j, r2⟩
  · obtain ⟨k, p, rfl, hp, hpl, hkm, -⟩ := rdI_nats hy hb
    rw [hp] at r2
    obtain ⟨c0, c1, f1⟩ := r2.cells
    have h4 := r2.2.2.2.1
    have hsl := r2.sl
    have R2 := (show Hid (_ ∧ _) from ⟨r2, g2⟩)
    by_cases hk : (k : Int) ≤ xs.length - (p : Int)
    · have HT := (show Hid (_ = _) from rdT_fit hy hp hk)
      clear hy hp r2 g2 h
      obtain ⟨a, ca, rfl, hl1, hl2, hl3, ha⟩ := hsl
      clear ha
      have hwr : IntKind.i64.wrap ((xs.length : Int) - (p : Int)) = (xs.length : Int) - (p : Int) := wrap_fit7 (by omega) (by omega)
      go_wp2
      go_region_held (fun w' => w'.cell? ⟨g, 0, none⟩ = some (.slice a xs.length ca) ∧ w'.cell? ⟨g, 1, none⟩ = some (.int .i64 p)) (go_keep)
        ((go_at_call 142; refine (need_yes _).mono ?_; rintro e w4 ⟨rfl, rfl⟩))
      go_wp2
      refine region_tail 9 (by kernel_rfl) (by kernel_rfl) ?_
      intro w1 K1 hW1 hK1
      have ne := One.any w1
      have r3 : Rdr w0 g (.slice a xs.length ca) xs ((p : Int) + (k : Int)) w1 := by rw [hW1.out]; exact ((R2.out.1.set _).drewN 1).drewN 1
      have g3 : w.grownBy w1 (some g) := by rw [hW1.out]; exact grown_trans (grown_trans R2.out.2 (grown_setCell w2 g 1 (.int .i64 ((p : Int) + (k : Int))))) (grown_drewN _ 2 _)
      have hs1 := r3.sl
      obtain ⟨e0, e1, _⟩ := r3.cells
      have d1 : ∀ n : One w1, n.w.cell? ⟨g, 1, none⟩ = some (.int .i64 ((p : Int) + (k : Int))) := fun n => by rw [n.eq]; exact e1
      have d0 : ∀ n : One w1, n.w.cell? ⟨g, 0, none⟩ = some (.slice a xs.length ca) := fun n => by rw [n.eq]; exact e0
      have END := (show Hid (_ ∧ _ ∧ _) from ⟨HT.out, r3, g3⟩)
      clear HT R2 hW1 r3 g3 c0 c1 f1 hwr
      simp only [List.take_succ_cons, List.take_zero, List.drop_succ_cons, List.drop_zero] at hK1 ⊢
      repeat (go_big_quiet_step (fail))
      refine wpQuiet_nil ?_
      refine hK1.out _ ?_
      clear hK1
      by_cases hca : ca = p
      · subst hca
        obtain rfl : k = 0 := by omega
        have cv := conv_sl (sub_sl0 (K := .u8) (w := w1) a)
        go_wp2
        go_ret
        obtain ⟨t1, t2, t3⟩ := END.out
        exact ⟨.inl ⟨_, _, t1, by simp, t2⟩, t3⟩
      · have cv := conv_sl (sub_sl hs1 (p := p) (k := k) (by omega) hca)
        go_wp2
        go_ret
        obtain ⟨t1, t2, t3⟩ := END.out
        exact ⟨.inl ⟨_, _, t1, rfl, t2⟩, t3⟩
    · have HT := (show Hid (_ = _) from rdT_over hy hp hk)
      clear hy hp r2 g2 h
      obtain ⟨a, ca, rfl, hl1, hl2, hl3, ha⟩ := hsl
      clear ha
      have hk' : decide ((k : Int) ≤ xs.length - (p : Int)) = false := by simp; omega
      go_wp2
      refine region_tail 12 (by kernel_rfl) (by kernel_rfl) ?_
      intro w1 K1 hW1 hK1
      have ne := One.any w1
      have d1 : ∀ n : One w1, n.w.cell? ⟨g, 1, none⟩ = some (.int .i64 p) := fun n => by rw [n.eq, hW1.out]; exact c1
      have d0 : ∀ n : One w1, n.w.cell? ⟨g, 0, none⟩ = some (.slice a xs.length ca) := fun n => by rw [n.eq, hW1.out]; exact c0
      simp only [List.take_succ_cons, List.take_zero, List.drop_succ_cons, List.drop_zero] at hK1 ⊢
      repeat (go_big_quiet_step (fail))
      refine wpQuiet_nil ?_
      refine hK1.out _ ?_
      clear hK1
      go_wp2_with fail
      go_at_call 142
      refine (need_no _).mono ?_
      rintro e w4 ⟨⟨t, s, rfl⟩, rfl⟩
      go_wp2
      rw [hW1.out]
      exact ⟨rfl, .inr ⟨HT.out, ⟨_, _, rfl⟩, _, R2.out.1.drewN 1⟩, grown_trans R2.out.2 (grown_drewN w2 1 _)⟩
  · have END := (show Hid (_ ∧ _ ∧ _) from ⟨rdT_none hy, r2, g2⟩)
    clear hy r2 g2
    go_wp2
    exact ⟨rfl, .inr ⟨END.out.1, ⟨_, _, rfl⟩, _, END.out.2.1⟩, END.out.2.2⟩
end Go.Proofs.YtokkigfjabbdaaaGreatDoor
