/- The specification's ArchiveOk. No condition. -/
import Derived.Test.YtjokajblihaphaaGreatDoorU32
import Derived.Test.YtjokajblihaphaaGreatDoorU37
import Derived.Test.YtjokajblihaphaaGreatDoorU38
import Derived.Test.YtjokajblihaphaaGreatDoorU22
import Derived.Test.YtjokajblihaphaaGreatDoorU24
import Derived.Test.YtjokajblihaphaaGreatDoorU14
import Derived.Deep.RegionHeld3
import Derived.Test.YtjokajblihaphaaGreatDoorU19
import Derived.Test.YtjokajblihaphaaGreatDoorU30
namespace Go.Proofs.YtjokajblihaphaaGreatDoor
open Go.RowKit
set_option maxRecDepth 100000
set_option linter.unusedVariables false

theorem head_eqK (a b c x y z : Int) (w : World) : (binOp .eql 35 (.agg #[.int .i64 a, .int .i64 b, .int .i64 c]) (.agg #[.int .i64 x, .int .i64 y, .int .i64 z])).run Tryz.prog w = .ok (.bool (headEq ⟨a, b, c⟩ ⟨x, y, z⟩)) w := by
  have hu := Tryz.underlying35
  rw [run_eql_struct, show (10000 : Nat) = 9999 + 1 from rfl, run_equalIn_agg w 9999 35 _ _ (by kernel_rfl) (by kernel_rfl)]
  simp only [Program.fieldsOf, hu]
  have h1 := fun (x y : Int) (w : World) => run_equalIn_int (P := Tryz.prog) w 9998 3 .i64 .i64 x y Tryz.underlying3
  have g3 := Tryz.isAgg3
  unfold headEq
  by_cases e1 : a = x
  · by_cases e2 : b = y
    · by_cases e3 : c = z
      · simp [Op.eqFields, part, h1, g3, Result.andThen, e1, e2, e3]
      · simp [Op.eqFields, part, h1, g3, Result.andThen, e1, e2, e3]
    · simp [Op.eqFields, part, h1, g3, Result.andThen, e1, e2]
  · simp [Op.eqFields, part, h1, g3, Result.andThen, e1]
theorem head_neK (a b c x y z : Int) (w : World) : (binOp .neq 35 (.agg #[.int .i64 a, .int .i64 b, .int .i64 c]) (.agg #[.int .i64 x, .int .i64 y, .int .i64 z])).run Tryz.prog w = .ok (.bool (!headEq ⟨a, b, c⟩ ⟨x, y, z⟩)) w := by
  have hu := Tryz.underlying35
  rw [run_neq_struct, show (10000 : Nat) = 9999 + 1 from rfl, run_equalIn_agg w 9999 35 _ _ (by kernel_rfl) (by kernel_rfl)]
  simp only [Program.fieldsOf, hu]
  have h1 := fun (x y : Int) (w : World) => run_equalIn_int (P := Tryz.prog) w 9998 3 .i64 .i64 x y Tryz.underlying3
  have g3 := Tryz.isAgg3
  unfold headEq
  by_cases e1 : a = x
  · by_cases e2 : b = y
    · by_cases e3 : c = z
      · simp [Op.eqFields, part, h1, g3, Result.andThen, e1, e2, e3]
      · simp [Op.eqFields, part, h1, g3, Result.andThen, e1, e2, e3]
    · simp [Op.eqFields, part, h1, g3, Result.andThen, e1, e2]
  · simp [Op.eqFields, part, h1, g3, Result.andThen, e1]

set_option maxHeartbeats 1000000 in
set_option maxRecDepth 100000 in
theorem sl18Bytes_any {w : World} {v : Value} {d : PDisk} (h : DiskAt w v d) (hr : diskB d = true) (k : PHead) (hk : headB k = true) :
    Calls Tryz.prog 63 #[v, headV k] w fun e w' => ∃ u, e = .returned u ∧ Own w.heap.size 5 .u8 w' u (bytesA d k) ∧ Below w.heap.size w w' := by
  obtain ⟨no, ar, en⟩ := k
  have hi := headB_in hk
  simp only at hi
  obtain ⟨n, rfl⟩ : ∃ n : Nat, en = n := ⟨en.toNat, by omega⟩
  have HD := (show Hid (DiskAt w v d) from h)
  have HR := (show Hid (diskB d = true) from hr)
  obtain ⟨sa, sn, sc, la, ln, lc, rfl, _, _⟩ := h
  have hn : n ≤ 4096 := by omega
  have ha : ar = 0 ∨ ar = 1 := by omega
  show Calls Tryz.prog 63 #[.agg #[.slice sa sn sc, .slice la ln lc], .agg #[.int .i64 no, .int .i64 ar, .int .i64 n]] w _
  have hl := ((Hl.refl w).new #[.slice sa sn sc, .slice la ln lc] 34).new #[.int .i64 no, .int .i64 ar, .int .i64 n] 35
  obtain ⟨w1, hw1⟩ : ∃ x, x = (w.alloc (.cells #[.slice sa sn sc, .slice la ln lc] 34)).alloc (.cells #[.int .i64 no, .int .i64 ar, .int .i64 n] 35) := ⟨_, rfl⟩
  rw [← hw1, World.size_alloc] at hl
  have HL := (show Hid _ from hl)
  have CG := (show Hid _ from sl16Get_any (HD.out.below hl.1) HR.out ha 0 n (by omega))
  clear hl hi hk hr
  go_enter Tryz.func63, Tryz.ntmps63
  go_wp2_with fail
  go_at_call 92
  rw [← hw1]
  refine Calls.mono CG.out ?_
  rintro e w2 ⟨u, rfl, o2, b2⟩
  have O2 := (show Hid _ from o2)
  have B2 := (show Hid _ from HL.out.below b2)
  clear o2 b2 hw1 CG
  go_wp2
  go_ret
  exact ⟨_, rfl, Own.base O2.out HL.out.1.size, B2.out.1⟩

set_option maxHeartbeats 2000000 in
set_option maxRecDepth 100000 in
theorem sarOk_any {w : World} {v : Value} {a : PArch} (h : ArAt w v a) (hf : ArFit a) :
    Calls Tryz.prog 34 #[v] w fun e w' => e = .returned (.bool (archB a)) ∧ Below w.heap.size w w' := by
  obtain ⟨up, d, ⟨no, ar, en⟩, ls⟩ := a
  obtain ⟨sa, sn, sc, la, ln, lc, ea, en', ec, rfl, h1, h2⟩ := h
  simp only at h1 h2
  have h1' := h1
  obtain ⟨_, _, _, _, _, _, ee, _, h1b⟩ := h1'
  cases ee
  obtain ⟨la', lc', el, _⟩ := h1b.put
  cases el
  obtain ⟨ea', ec', e2, _⟩ := h2.pair
  cases e2
  have H1 := (show Hid (DiskAt w (.agg #[.slice sa sn sc, .slice la d.late.length lc]) d) from h1)
  have H2 := (show Hid (Sv 2 w (.slice ea ls.length ec) (pairCells ls)) from h2)
  have HF := (show Hid (DiskFit d) from hf.d)
  have hn : ls.length ≤ 1048576 := hf.el
  have hn2 : d.late.length ≤ 1048576 := hf.d.ll
  clear h1b h1 h2 hf
  have hek := head_eqK
  have hnk := head_neK
  have hl := ((Hl.refl w).new #[.bool up, .slice sa sn sc, .slice la d.late.length lc, .int .i64 no, .int .i64 ar, .int .i64 en, .slice ea ls.length ec] 38).new #[.int .i64 0, .int .i64 0, .int .i64 0] 35
  obtain ⟨w1, hw1⟩ : ∃ x, x = (w.alloc (.cells #[.bool up, .slice sa sn sc, .slice la d.late.length lc, .int .i64 no, .int .i64 ar, .int .i64 en, .slice ea ls.length ec] 38)).alloc (.cells #[.int .i64 0, .int .i64 0, .int .i64 0] 35) := ⟨_, rfl⟩
  rw [← hw1, World.size_alloc] at hl
  have HL := (show Hid (Hl w [(w.heap.size + 1, #[.int .i64 0, .int .i64 0, .int .i64 0], 35), (w.heap.size, #[.bool up, .slice sa sn sc, .slice la d.late.length lc, .int .i64 no, .int .i64 ar, .int .i64 en, .slice ea ls.length ec], 38)] w1) from hl)
  clear hl
  obtain ⟨q, hq⟩ : ∃ q, q = archB ⟨up, d, ⟨no, ar, en⟩, ls⟩ := ⟨_, rfl⟩
  rw [← hq]
  have HQ := (show Hid (q = archB ⟨up, d, ⟨no, ar, en⟩, ls⟩) from hq)
  clear hq
  go_enter Tryz.func34, Tryz.ntmps34
  go_wp2_with fail
  go_at_call 59
  rw [← hw1]
  refine (sdiskOk_any (H1.out.below HL.out.1) HF.out).mono ?_
  rintro e w2 ⟨rfl, b2⟩
  clear hw1
  have S_w2 := (show Hid (Hl w [(w.heap.size + 1, #[.int .i64 0, .int .i64 0, .int .i64 0], 35), (w.heap.size, #[.bool up, .slice sa sn sc, .slice la d.late.length lc, .int .i64 no, .int .i64 ar, .int .i64 en, .slice ea ls.length ec], 38)] w2) from HL.out.below b2)
  clear b2 HL
  cases hb : diskB d
  · have hq : q = false := by rw [HQ.out, archB]; simp only; rw [hb]; rfl
    subst hq
    clear hb HQ
    go_wp2
    go_ret
    exact ⟨rfl, S_w2.out.1⟩
  · have HB := (show Hid (diskB d = true) from hb)
    clear hb
    obtain ⟨c0, c1, c2, c3, c4, c5, c6, _⟩ := rk_seven S_w2.out.at1
    obtain ⟨d0, d1, d2, _⟩ := rk_three S_w2.out.at0
    by_cases hlt : 0 < d.late.length
    · have hq : q = false := by
        rw [HQ.out, archB]; simp only
        rw [HB.out, show decide (d.late = []) = false from decide_eq_false (fun e => by rw [e] at hlt; exact absurd hlt (by decide))]; rfl
      subst hq
      clear HQ
      go_wp2
      go_ret
      exact ⟨rfl, S_w2.out.1⟩
    · have hnil : d.late = [] := List.length_eq_zero_iff.mp (by omega)
      have HN := (show Hid (d.late = []) from hnil)
      clear hnil
      cases up
      · have hq : q = (headEq zeroH ⟨no, ar, en⟩ && decide (ls = [])) := by
          rw [HQ.out, archB]; simp only
          rw [HB.out, decide_eq_true HN.out]; rfl
        clear HQ
        rw [headEq_comm] at hq
        unfold zeroH at hq
        cases hh : headEq ⟨no, ar, en⟩ ⟨0, 0, 0⟩
        · rw [hh] at hq
          have hq' : q = false := hq
          subst hq'
          clear hq
          go_wp2
          go_ret
          exact ⟨rfl, S_w2.out.1⟩
        · rw [hh] at hq
          have HQ2 := (show Hid (q = decide (ls = [])) from hq)
          clear hq
          by_cases h0 : ls.length = 0
          · have hz : ((ls.length : Int) == 0) = true := by simp [h0]
            have hq : q = true := by rw [HQ2.out]; exact decide_eq_true (List.length_eq_zero_iff.mp h0)
            subst hq
            clear HQ2 h0
            go_wp2
            go_ret
            exact ⟨rfl, S_w2.out.1⟩
          · have hz : ((ls.length : Int) == 0) = false := by rw [beq_eq_false_iff_ne]; omega
            have hq : q = false := by rw [HQ2.out]; exact decide_eq_false (fun e => h0 (by rw [e]; rfl))
            subst hq
            clear HQ2 h0
            go_wp2
            go_ret
            exact ⟨rfl, S_w2.out.1⟩
      · have hq : q = (wellA d && (headEq (nowDk d) ⟨no, ar, en⟩ && decide (indexA d (nowDk d) = ls))) := by
          rw [HQ.out, archB, tellsA]; simp only
          rw [HB.out, decide_eq_true HN.out]; rfl
        clear HQ
        have HQ := (show Hid _ from hq)
        clear hq
        have CR := sl16Right_any ⟨no, ar, en⟩
        unfold headV at CR
        simp only at CR
        cases hB : headB ⟨no, ar, en⟩
        · rw [hB] at CR
          have CR := (show Hid _ from CR)
          have hq : q = false := by
            rw [HQ.out]
            cases e : headEq (nowDk d) ⟨no, ar, en⟩ with
            | false => simp
            | true => rw [wellA, headEq_iff.mp e, hB]; rfl
          subst hq
          clear HQ hB
          go_wp2_with fail
          have g0 := fun m : Wd w2.heap.size w2 => ((rk_seven (S_w2.out.below m.below).at1).1)
          have g1 := fun m : Wd w2.heap.size w2 => ((rk_seven (S_w2.out.below m.below).at1).2.1)
          have g2 := fun m : Wd w2.heap.size w2 => ((rk_seven (S_w2.out.below m.below).at1).2.2.1)
          have g3 := fun m : Wd w2.heap.size w2 => ((rk_seven (S_w2.out.below m.below).at1).2.2.2.1)
          have g4 := fun m : Wd w2.heap.size w2 => ((rk_seven (S_w2.out.below m.below).at1).2.2.2.2.1)
          have g5 := fun m : Wd w2.heap.size w2 => ((rk_seven (S_w2.out.below m.below).at1).2.2.2.2.2.1)
          have g6 := fun m : Wd w2.heap.size w2 => ((rk_seven (S_w2.out.below m.below).at1).2.2.2.2.2.2.1)
          have ne := Wd.any w2.heap.size w2
          refine wp_region_below (by kernel_rfl) (by kernel_rfl) (Below.refl w2.heap.size w2) ?_
          repeat (go_big_quiet_step (first | (go_at_call 60; exact quiet_below (CR.out _) (Nat.le_refl _))))
          refine wpQuiet_nil ?_
          intro w3 hq
          replace hq := Wd.of hq
          have S_w3 := (show Hid _ from S_w2.out.below hq)
          clear hq ne g0 g1 g2 g3 g4 g5 g6
          go_wp2
          go_ret
          exact ⟨rfl, S_w3.out.1⟩
        · rw [hB] at CR
          have CR := (show Hid _ from CR)
          have HHB := (show Hid (headB ⟨no, ar, en⟩ = true) from hB)
          clear hB
          obtain ⟨⟨n0, n1, n2⟩, hn0⟩ : ∃ x, x = nowDk d := ⟨_, rfl⟩
          have CN := (show Hid (∀ m : Wd w2.heap.size w2, Calls Tryz.prog 61 #[.agg #[.slice sa sn sc, .slice la d.late.length lc]] m.w fun e w' => e = .returned (.agg #[.int .i64 n0, .int .i64 n1, .int .i64 n2]) ∧ Below m.w.heap.size m.w w') from fun m => by
            have := sheadNow_any (H1.out.below (S_w2.out.below m.below).1) HF.out
            rw [← hn0] at this
            exact this)
          rw [← hn0] at HQ
          have HNW := (show Hid (_ = _) from hn0)
          clear hn0
          go_wp2_with fail
          have g0 := fun m : Wd w2.heap.size w2 => ((rk_seven (S_w2.out.below m.below).at1).1)
          have g1 := fun m : Wd w2.heap.size w2 => ((rk_seven (S_w2.out.below m.below).at1).2.1)
          have g2 := fun m : Wd w2.heap.size w2 => ((rk_seven (S_w2.out.below m.below).at1).2.2.1)
          have g3 := fun m : Wd w2.heap.size w2 => ((rk_seven (S_w2.out.below m.below).at1).2.2.2.1)
          have g4 := fun m : Wd w2.heap.size w2 => ((rk_seven (S_w2.out.below m.below).at1).2.2.2.2.1)
          have g5 := fun m : Wd w2.heap.size w2 => ((rk_seven (S_w2.out.below m.below).at1).2.2.2.2.2.1)
          have g6 := fun m : Wd w2.heap.size w2 => ((rk_seven (S_w2.out.below m.below).at1).2.2.2.2.2.2.1)
          have ne := Wd.any w2.heap.size w2
          refine wp_region_below (by kernel_rfl) (by kernel_rfl) (Below.refl w2.heap.size w2) ?_
          repeat (go_big_quiet_step (first | (go_at_call 60; exact quiet_below (CR.out _) (Nat.le_refl _)) | (go_at_call 61; exact quiet_below (CN.out _) (Nat.le_refl _))))
          refine wpQuiet_nil ?_
          intro w4 hq
          replace hq := Wd.of hq
          have S_w4 := (show Hid _ from S_w2.out.below hq)
          clear hq ne g0 g1 g2 g3 g4 g5 g6
          clear S_w2 c0 c1 c2 c3 c4 c5 c6 d0 d1 d2
          cases hh : headEq ⟨n0, n1, n2⟩ ⟨no, ar, en⟩
          · have hq : q = false := by rw [HQ.out, hh]; simp
            subst hq
            clear HQ
            go_wp2
            go_ret
            exact ⟨rfl, S_w4.out.1⟩
          · have e := headEq_iff.mp hh
            cases e
            have HW := (show Hid (q = ((recsA d ⟨no, ar, en⟩).2 && decide (indexA d ⟨no, ar, en⟩ = ls))) from (show _ = _ by rw [HQ.out, wellA, ← HNW.out, HHB.out, headEq_self]; simp))
            clear HQ
            obtain ⟨c0, c1, c2, c3, c4, c5, c6, _⟩ := rk_seven S_w4.out.at1
            go_wp2_with fail
            go_at_call 63
            refine (sl18Bytes_any (H1.out.below S_w4.out.1) HB.out ⟨no, ar, en⟩ HHB.out).mono ?_
            rintro e w5 ⟨u, rfl, o5, b5⟩
            have S_w5 := (show Hid (Hl w [(w.heap.size + 1, #[.int .i64 0, .int .i64 0, .int .i64 0], 35), (w.heap.size, #[.bool true, .slice sa sn sc, .slice la d.late.length lc, .int .i64 no, .int .i64 ar, .int .i64 en, .slice ea ls.length ec], 38)] w5) from S_w4.out.below b5)
            have O5 := (show Hid (Own w4.heap.size 5 .u8 w5 u (bytesA d ⟨no, ar, en⟩)) from o5)
            clear b5 o5 c0 c1 c2 c3 c4 c5 c6 S_w4
            have hi := headB_in HHB.out
            simp only at hi
            have hlen : (bytesA d ⟨no, ar, en⟩).length ≤ 1048576 := by rw [bytesA_len]; simp only; omega
            have CRS := srecords_any O5.out.sl (bytesA_byte d ⟨no, ar, en⟩) hlen
            obtain ⟨⟨rs, rb⟩, hrs⟩ : ∃ x, x = recsA d ⟨no, ar, en⟩ := ⟨_, rfl⟩
            have hrl : rs.length ≤ 1048576 := by
              have := recsA_len d ⟨no, ar, en⟩
              rw [← hrs] at this
              simp only at this
              omega
            have hix : indexA d ⟨no, ar, en⟩ = idxOf rs := by rw [indexA, ← hrs]
            unfold recsA at hrs
            rw [← hrs] at CRS
            rw [hix, recsA, ← hrs] at HW
            simp only at CRS HW
            have CRS := (show Hid _ from CRS)
            have HRL := (show Hid (rs.length ≤ 1048576) from hrl)
            clear hlen hrs hrl hix hi
            go_wp2_with fail
            go_at_call 62
            refine Calls.mono CRS.out ?_
            rintro e w6 ⟨v6, rfl, o6, b6⟩
            have S_w6 := (show Hid (Hl w [(w.heap.size + 1, #[.int .i64 0, .int .i64 0, .int .i64 0], 35), (w.heap.size, #[.bool true, .slice sa sn sc, .slice la d.late.length lc, .int .i64 no, .int .i64 ar, .int .i64 en, .slice ea ls.length ec], 38)] w6) from S_w5.out.below b6)
            have O6 := (show Hid (OwnRs w5.heap.size w6 v6 rs) from o6)
            clear b6 o6 S_w5 CRS O5
            cases rb
            · have hq : q = false := by rw [HW.out]; rfl
              subst hq
              clear HW
              go_wp2_with fail
              have g0 := fun m : Wd w6.heap.size w6 => ((rk_seven (S_w6.out.below m.below).at1).1)
              have g1 := fun m : Wd w6.heap.size w6 => ((rk_seven (S_w6.out.below m.below).at1).2.1)
              have g2 := fun m : Wd w6.heap.size w6 => ((rk_seven (S_w6.out.below m.below).at1).2.2.1)
              have g3 := fun m : Wd w6.heap.size w6 => ((rk_seven (S_w6.out.below m.below).at1).2.2.2.1)
              have g4 := fun m : Wd w6.heap.size w6 => ((rk_seven (S_w6.out.below m.below).at1).2.2.2.2.1)
              have g5 := fun m : Wd w6.heap.size w6 => ((rk_seven (S_w6.out.below m.below).at1).2.2.2.2.2.1)
              have g6 := fun m : Wd w6.heap.size w6 => ((rk_seven (S_w6.out.below m.below).at1).2.2.2.2.2.2.1)
              have ne := Wd.any w6.heap.size w6
              refine wp_region_below (by kernel_rfl) (by kernel_rfl) (Below.refl w6.heap.size w6) ?_
              repeat (go_big_quiet_step (fail))
              refine wpQuiet_nil ?_
              intro w7 hq
              replace hq := Wd.of hq
              have S_w7 := (show Hid _ from S_w6.out.below hq)
              clear hq ne g0 g1 g2 g3 g4 g5 g6
              go_wp2
              go_ret
              exact ⟨rfl, S_w7.out.1⟩
            · have HW := (show Hid (q = decide (idxOf rs = ls)) from (show _ = _ by rw [HW.out]; rfl))
              have CX := (show Hid (∀ W, Below w6.heap.size w6 W → Calls Tryz.prog 65 #[v6] W fun e w' => ∃ v', e = .returned v' ∧ OwnPs W.heap.size w' v' (idxOf rs) ∧ Below W.heap.size W w') from fun W b => sindexOf_any ((sv_of_own O6.out).below b) HRL.out)
              have hxl : (idxOf rs).length ≤ 1099511627776 := by
                have := idxN_len rs []
                have := HRL.out
                unfold idxOf
                simp only [List.length_nil] at *
                omega
              have CE := (show Hid (∀ W u, Below w6.heap.size w6 W → Sv 2 W u (pairCells (idxOf rs)) → Calls Tryz.prog 64 #[u, .slice ea ls.length ec] W fun e w' => e = .returned (.bool (decide (idxOf rs = ls))) ∧ Below W.heap.size W w') from fun W u b h => ssameList_any h (H2.out.below (S_w6.out.below b).1) hxl (by omega))
              rw [← HW.out] at CE
              clear hxl HW
              have KD := (show Hid (Below w6.heap.size w6 w6.drew) from below_drewN 1)
              have HS := (show Hid (∀ W, Below w6.heap.size w6 W → W.cell? ⟨w.heap.size, 0, none⟩ = some (.bool true) ∧ W.cell? ⟨w.heap.size, 1, none⟩ = some (.slice sa sn sc) ∧ W.cell? ⟨w.heap.size, 2, none⟩ = some (.slice la d.late.length lc) ∧ W.cell? ⟨w.heap.size, 3, none⟩ = some (.int .i64 no) ∧ W.cell? ⟨w.heap.size, 4, none⟩ = some (.int .i64 ar) ∧ W.cell? ⟨w.heap.size, 5, none⟩ = some (.int .i64 en) ∧ W.cell? ⟨w.heap.size, 6, none⟩ = some (.slice ea ls.length ec) ∧ Below w6.heap.size w6 W) from fun W h => ⟨(rk_seven (S_w6.out.below h).at1).1, (rk_seven (S_w6.out.below h).at1).2.1, (rk_seven (S_w6.out.below h).at1).2.2.1, (rk_seven (S_w6.out.below h).at1).2.2.2.1, (rk_seven (S_w6.out.below h).at1).2.2.2.2.1, (rk_seven (S_w6.out.below h).at1).2.2.2.2.2.1, (rk_seven (S_w6.out.below h).at1).2.2.2.2.2.2.1, h⟩)
              go_wp2_with fail
              go_region_held3 (fun w' => w'.cell? ⟨w.heap.size, 0, none⟩ = some (.bool true) ∧ w'.cell? ⟨w.heap.size, 1, none⟩ = some (.slice sa sn sc) ∧ w'.cell? ⟨w.heap.size, 2, none⟩ = some (.slice la d.late.length lc) ∧ w'.cell? ⟨w.heap.size, 3, none⟩ = some (.int .i64 no) ∧ w'.cell? ⟨w.heap.size, 4, none⟩ = some (.int .i64 ar) ∧ w'.cell? ⟨w.heap.size, 5, none⟩ = some (.int .i64 en) ∧ w'.cell? ⟨w.heap.size, 6, none⟩ = some (.slice ea ls.length ec) ∧ Below w6.heap.size w6 w')
                (first | exact HS.out _ KD.out | exact HS.out _ T_w7.out | exact HS.out _ T_w8.out)
                (first
                  | (go_at_call 65
                     refine Calls.mono (CX.out _ (‹_ ∧ _ ∧ _ ∧ _ ∧ _ ∧ _ ∧ _ ∧ Below _ _ _›).2.2.2.2.2.2.2) ?_
                     rintro e w7 ⟨v7, rfl, o7, b_w7⟩
                     have T_w7 := (show Hid (Below w6.heap.size w6 w7) from (‹_ ∧ _ ∧ _ ∧ _ ∧ _ ∧ _ ∧ _ ∧ Below _ _ _›).2.2.2.2.2.2.2.trans (b_w7.mono (‹_ ∧ _ ∧ _ ∧ _ ∧ _ ∧ _ ∧ _ ∧ Below _ _ _›).2.2.2.2.2.2.2.size))
                     have O7 := (show Hid (Sv 2 w7 v7 (pairCells (idxOf rs))) from sv_of_own o7)
                     clear o7 b_w7)
                  | (go_at_call 64
                     refine Calls.mono (CE.out _ _ (‹_ ∧ _ ∧ _ ∧ _ ∧ _ ∧ _ ∧ _ ∧ Below _ _ _›).2.2.2.2.2.2.2 O7.out) ?_
                     rintro e w8 ⟨rfl, b_w8⟩
                     have T_w8 := (show Hid (Below w6.heap.size w6 w8) from (‹_ ∧ _ ∧ _ ∧ _ ∧ _ ∧ _ ∧ _ ∧ Below _ _ _›).2.2.2.2.2.2.2.trans (b_w8.mono (‹_ ∧ _ ∧ _ ∧ _ ∧ _ ∧ _ ∧ _ ∧ Below _ _ _›).2.2.2.2.2.2.2.size))
                     clear b_w8))
              go_wp2
              go_ret
              exact ⟨rfl, (S_w6.out.below T_w8.out).1⟩
end Go.Proofs.YtjokajblihaphaaGreatDoor

/- The specification's l18Copy (written by mk/sar2.py). No condition. -/
namespace Go.Proofs.YtjokajblihaphaaGreatDoor
open Go.RowKit
set_option maxRecDepth 100000
set_option linter.unusedVariables false

theorem arPair_oneCell (ps : List (ByteArray × ByteArray)) : ∀ y ∈ pairCells ps, y.oneCell' = true := by
  intro y hy
  simp only [pairCells, List.mem_flatMap, List.mem_cons, List.not_mem_nil, or_false] at hy
  obtain ⟨s, _, rfl | rfl⟩ := hy
  · rfl
  · rfl
/-- A disk is kept while a row of entries grows. -/
theorem own_pastE {B B' : Nat} {w w' : World} {v u : Value} {d : PDisk} {n : Nat} {xs : List Value} (h : OwnDk B w v d) (g : w.grownBy w' u.ownBlock) (o : w.ownsRow B' 77 2 u n xs) : OwnDk B w' v d := by
  obtain ⟨sa, sn, sc, la, ln, lc, e, h1, h2⟩ := h
  refine ⟨sa, sn, sc, la, ln, lc, e, rk_type h1 g (fun r er => ?_), rk_type h2 g (fun r er => ?_)⟩
  · obtain ⟨c, f, k⟩ := rk_kind o er
    exact ⟨_, _, _, k, by decide⟩
  · obtain ⟨c, f, k⟩ := rk_kind o er
    exact ⟨_, _, _, k, by decide⟩

theorem grown_set7 (W : World) (N : Nat) (a0 a1 a2 a3 a4 a5 a6 : Value) : W.grownBy (((((((W.setCell ⟨N, 0, none⟩ a0).setCell ⟨N, 1, none⟩ a1).setCell ⟨N, 2, none⟩ a2).setCell ⟨N, 3, none⟩ a3).setCell ⟨N, 4, none⟩ a4).setCell ⟨N, 5, none⟩ a5).setCell ⟨N, 6, none⟩ a6) (some N) :=
  grown_trans (grown_trans (grown_trans (grown_trans (grown_trans (grown_trans (grown_setCell _ _ _ _) (grown_setCell _ _ _ _)) (grown_setCell _ _ _ _)) (grown_setCell _ _ _ _)) (grown_setCell _ _ _ _)) (grown_setCell _ _ _ _)) (grown_setCell _ _ _ _)
set_option maxHeartbeats 4000000 in
set_option maxRecDepth 100000 in
theorem sl18Copy_any {w : World} {v : Value} {a : PArch} (h : ArAt w v a) (hf : ArFit a) :
    Calls Tryz.prog 36 #[v] w fun e w' => ∃ v', e = .returned v' ∧ OwnAy w.heap.size w' v' a ∧ Below w.heap.size w w' := by
  obtain ⟨sa, sn, sc, la, ln, lc, ea, en', ec, rfl, h1, h2⟩ := h
  have H1 := (show Hid (DiskAt w (.agg #[.slice sa sn sc, .slice la ln lc]) a.disk) from h1)
  have H2 := (show Hid (Sv 2 w (.slice ea en' ec) (pairCells a.list)) from h2)
  have HF := (show Hid (DiskFit a.disk) from hf.d)
  have hn : a.list.length ≤ 1048576 := hf.el
  obtain ⟨iE, hiE, he0, he1, he2⟩ := info_parts Tryz.infoEnt
  clear h1 h2 hf
  have hl := ((Hl.refl w).new #[.bool a.up, .slice sa sn sc, .slice la ln lc, .int .i64 a.head.no, .int .i64 a.head.area, .int .i64 a.head.en, .slice ea en' ec] 38).new #[.bool false, .slice none 0 0, .slice none 0 0, .int .i64 0, .int .i64 0, .int .i64 0, .slice none 0 0] 38
  obtain ⟨wb, hw1⟩ : ∃ x, x = (w.alloc (.cells #[.bool a.up, .slice sa sn sc, .slice la ln lc, .int .i64 a.head.no, .int .i64 a.head.area, .int .i64 a.head.en, .slice ea en' ec] 38)).alloc (.cells #[.bool false, .slice none 0 0, .slice none 0 0, .int .i64 0, .int .i64 0, .int .i64 0, .slice none 0 0] 38) := ⟨_, rfl⟩
  rw [← hw1, World.size_alloc] at hl
  have hzb : w.heap.size + 1 < wb.heap.size := by rw [hw1, World.size_alloc, World.size_alloc]; omega
  have HB := (show Hid (Hl w [(w.heap.size + 1, #[.bool false, .slice none 0 0, .slice none 0 0, .int .i64 0, .int .i64 0, .int .i64 0, .slice none 0 0], 38), (w.heap.size, #[.bool a.up, .slice sa sn sc, .slice la ln lc, .int .i64 a.head.no, .int .i64 a.head.area, .int .i64 a.head.en, .slice ea en' ec], 38)] wb) from hl)
  have CC := (show Hid (∀ W, Below wb.heap.size wb W → Calls Tryz.prog 73 #[.agg #[.slice sa sn sc, .slice la ln lc]] W fun e w' => ∃ ta tn tc ma mn mc, e = .returned (.agg #[.slice ta tn tc, .slice ma mn mc]) ∧ OwnDk w.heap.size w' (.agg #[.slice ta tn tc, .slice ma mn mc]) a.disk ∧ Hl w [(w.heap.size + 1, #[.bool false, .slice none 0 0, .slice none 0 0, .int .i64 0, .int .i64 0, .int .i64 0, .slice none 0 0], 38), (w.heap.size, #[.bool a.up, .slice sa sn sc, .slice la ln lc, .int .i64 a.head.no, .int .i64 a.head.area, .int .i64 a.head.en, .slice ea en' ec], 38)] w' ∧ Below W.heap.size W w') from fun W b => (sl15Copy_any (H1.out.below (HB.out.below b).1) HF.out).mono (by
    rintro e w' ⟨v', rfl, o, k⟩
    have o' := o.based (HB.out.below b).1.size
    obtain ⟨_, _, _, _, _, _, rfl, _⟩ := o
    exact ⟨_, _, _, _, _, _, rfl, o', (HB.out.below b).below k, k⟩))
  have KD := (show Hid (Hl w [(w.heap.size, #[.bool a.up, .slice sa sn sc, .slice la ln lc, .int .i64 a.head.no, .int .i64 a.head.area, .int .i64 a.head.en, .slice ea en' ec], 38)] wb.drew) from (HB.out.tail).below (below_drewN 1))
  have KE := (show Hid (Hl w [(w.heap.size, #[.bool a.up, .slice sa sn sc, .slice la ln lc, .int .i64 a.head.no, .int .i64 a.head.area, .int .i64 a.head.en, .slice ea en' ec], 38)] (wb.alloc (Obj.cells #[] 77)).drew) from ((HB.out.tail).below ((Below.refl wb.heap.size wb).alloc (Nat.le_refl _) (Obj.cells #[] 77))).below (below_drewN 1))
  have HS := (show Hid (∀ W, Hl w [(w.heap.size, #[.bool a.up, .slice sa sn sc, .slice la ln lc, .int .i64 a.head.no, .int .i64 a.head.area, .int .i64 a.head.en, .slice ea en' ec], 38)] W → W.cell? ⟨w.heap.size, 0, none⟩ = some (.bool a.up) ∧ W.cell? ⟨w.heap.size, 1, none⟩ = some (.slice sa sn sc) ∧ W.cell? ⟨w.heap.size, 2, none⟩ = some (.slice la ln lc) ∧ W.cell? ⟨w.heap.size, 3, none⟩ = some (.int .i64 a.head.no) ∧ W.cell? ⟨w.heap.size, 4, none⟩ = some (.int .i64 a.head.area) ∧ W.cell? ⟨w.heap.size, 5, none⟩ = some (.int .i64 a.head.en) ∧ W.cell? ⟨w.heap.size, 6, none⟩ = some (.slice ea en' ec) ∧ Hl w [(w.heap.size, #[.bool a.up, .slice sa sn sc, .slice la ln lc, .int .i64 a.head.no, .int .i64 a.head.area, .int .i64 a.head.en, .slice ea en' ec], 38)] W) from fun W h => ⟨(rk_seven h.at0).1, (rk_seven h.at0).2.1, (rk_seven h.at0).2.2.1, (rk_seven h.at0).2.2.2.1, (rk_seven h.at0).2.2.2.2.1, (rk_seven h.at0).2.2.2.2.2.1, (rk_seven h.at0).2.2.2.2.2.2.1, h⟩)
  clear hl
  go_enter Tryz.func36, Tryz.ntmps36
  go_upto_region 1 with fail
  rw [← hw1]
  clear hw1
  go_region_held3 (fun w' => w'.cell? ⟨w.heap.size, 0, none⟩ = some (.bool a.up) ∧ w'.cell? ⟨w.heap.size, 1, none⟩ = some (.slice sa sn sc) ∧ w'.cell? ⟨w.heap.size, 2, none⟩ = some (.slice la ln lc) ∧ w'.cell? ⟨w.heap.size, 3, none⟩ = some (.int .i64 a.head.no) ∧ w'.cell? ⟨w.heap.size, 4, none⟩ = some (.int .i64 a.head.area) ∧ w'.cell? ⟨w.heap.size, 5, none⟩ = some (.int .i64 a.head.en) ∧ w'.cell? ⟨w.heap.size, 6, none⟩ = some (.slice ea en' ec) ∧ Hl w [(w.heap.size, #[.bool a.up, .slice sa sn sc, .slice la ln lc, .int .i64 a.head.no, .int .i64 a.head.area, .int .i64 a.head.en, .slice ea en' ec], 38)] w')
    (with_reducible first | exact HS.out _ KD.out | exact HS.out _ KE.out | exact HS.out _ Q0.out.tail | exact HS.out _ Q0a.out.tail | exact HS.out _ T6.out.tail | exact HS.out _ PS.out.tail)
    (first
    | (go_at_call 73
       refine Calls.mono (CC.out _ ?_) ?_
       · first | exact below_drewN 1 | exact ((Below.refl _ _).alloc (Nat.le_refl _) _).trans (below_drewN 1)
       rintro e y0 ⟨ta, tn, tc, ma, mn, mc, rfl, o0, q0, b0⟩
       have Q0 := (show Hid (Hl w [(w.heap.size + 1, #[.bool false, .slice none 0 0, .slice none 0 0, .int .i64 0, .int .i64 0, .int .i64 0, .slice none 0 0], 38), (w.heap.size, #[.bool a.up, .slice sa sn sc, .slice la ln lc, .int .i64 a.head.no, .int .i64 a.head.area, .int .i64 a.head.en, .slice ea en' ec], 38)] y0) from q0)
       have O0 := (show Hid (OwnDk w.heap.size y0 (.agg #[.slice ta tn tc, .slice ma mn mc]) a.disk) from o0)
       have Q0a := (show Hid (Hl w [(w.heap.size + 1, #[.bool false, .slice none 0 0, .slice none 0 0, .int .i64 0, .int .i64 0, .int .i64 0, .slice none 0 0], 38), (w.heap.size, #[.bool a.up, .slice sa sn sc, .slice la ln lc, .int .i64 a.head.no, .int .i64 a.head.area, .int .i64 a.head.en, .slice ea en' ec], 38)] (y0.alloc (Obj.cells #[] 77))) from Q0.out.below ((Below.refl y0.heap.size y0).alloc (Nat.le_refl _) (Obj.cells #[] 77)))
       have O0a := (show Hid (OwnDk w.heap.size (y0.alloc (Obj.cells #[] 77)) (.agg #[.slice ta tn tc, .slice ma mn mc]) a.disk) from O0.out.below ((Below.refl y0.heap.size y0).alloc (Nat.le_refl _) (Obj.cells #[] 77)))
       have EA := (show Hid ((y0.alloc (Obj.cells #[] 77)).ownsRow w.heap.size 77 2 (.slice (some ⟨y0.heap.size, 0, none⟩) 0 0) 0 []) from empty_row y0 w.heap.size 77 2 Q0.out.1.size)
       have V0a := (show Hid (Sv 2 (y0.alloc (Obj.cells #[] 77)) (.slice ea en' ec) (pairCells a.list)) from H2.out.below Q0a.out.1)
       have V0 := (show Hid (Sv 2 y0 (.slice ea en' ec) (pairCells a.list)) from H2.out.below Q0.out.1)
       have Z0a := (show Hid (w.heap.size ≤ (y0.alloc (Obj.cells #[] 77)).heap.size) from Q0a.out.1.size)
       have Z0 := (show Hid (w.heap.size ≤ y0.heap.size) from Q0.out.1.size)
       have hy0 : w.heap.size ≤ y0.heap.size := Z0.out
       (first
         | (have EB := (show Hid (y0.ownsRow w.heap.size 77 2 (.slice (some ⟨wb.heap.size, 0, none⟩) 0 0) 0 []) from ownsRow_below (ownsRow_below (empty_row wb w.heap.size 77 2 (by omega)) (below_drewN 1)) b0))
         | skip)
       clear o0 q0 b0)
    | (with_reducible refine step_appS (w := y0.alloc (Obj.cells #[] 77)) ?_ (.tmp 10) (.tmp 12) 36 ?_ w.heap.size 77 iE _ 2 32 ?_ hiE he0 he1 he2 ?_ ?_ (.slice (some ⟨y0.heap.size, 0, none⟩) 0 0) 0 [] ?_ ?_ (.slice ea en' ec) a.list.length (pairCells a.list) ?_ ?_ ?_ ?_ ?_ ?_ ?_ ?_
       · rfl
       · rfl
       · exact Tryz.underlying36
       · rfl
       · decide
       · simp [Act.eval]
       · exact EA.out
       · simp [Act.eval]
       · exact V0a.out
       · exact pairCells_len _
       · exact arPair_oneCell _
       · (unfold maxLen; omega)
       · omega
       · exact Z0a.out
       intro v6 y6 o6 g6
       rw [List.nil_append, Nat.zero_add] at o6
       obtain ⟨fa, fn, fc, rfl⟩ := rk_slice o6
       have T6 := (show Hid (Hl w [(w.heap.size + 1, #[.bool false, .slice none 0 0, .slice none 0 0, .int .i64 0, .int .i64 0, .int .i64 0, .slice none 0 0], 38), (w.heap.size, #[.bool a.up, .slice sa sn sc, .slice la ln lc, .int .i64 a.head.no, .int .i64 a.head.area, .int .i64 a.head.en, .slice ea en' ec], 38)] y6) from Q0a.out.past g6 (fun r e => by
         have e' : r = y0.heap.size := (Option.some.inj e).symm
         subst e'
         exact ⟨by omega, fun p hp => Nat.ne_of_lt (Q0.out.lt hp)⟩))
       have D6 := (show Hid (OwnDk w.heap.size y6 (.agg #[.slice ta tn tc, .slice ma mn mc]) a.disk) from own_pastE O0a.out g6 EA.out)
       have E6 := (show Hid (y6.ownsRow w.heap.size 77 2 (.slice fa fn fc) a.list.length (pairCells a.list)) from o6)
       obtain ⟨m0, m1, m2, m3, m4, m5, m6, _⟩ := rk_seven T6.out.at0
       have j0 := rk_thaw (k := 0) T6.out.at0
       have j1 := rk_thaw (k := 1) T6.out.at0
       have j2 := rk_thaw (k := 2) T6.out.at0
       have j3 := rk_thaw (k := 3) T6.out.at0
       have j4 := rk_thaw (k := 4) T6.out.at0
       have j5 := rk_thaw (k := 5) T6.out.at0
       have j6 := rk_thaw (k := 6) T6.out.at0
       have PS := (show Hid _ from T6.out.set7 (Nat.le_succ _) (by simp) (.bool a.up) (.slice ta tn tc) (.slice ma mn mc) (.int .i64 a.head.no) (.int .i64 a.head.area) (.int .i64 a.head.en) (.slice fa fn fc))
       clear o6 g6)
    | (with_reducible refine step_appS (w := y0) ?_ (.tmp 10) (.tmp 12) 36 ?_ w.heap.size 77 iE _ 2 32 ?_ hiE he0 he1 he2 ?_ ?_ (.slice (some ⟨wb.heap.size, 0, none⟩) 0 0) 0 [] ?_ ?_ (.slice ea en' ec) a.list.length (pairCells a.list) ?_ ?_ ?_ ?_ ?_ ?_ ?_ ?_
       · rfl
       · rfl
       · exact Tryz.underlying36
       · rfl
       · decide
       · simp [Act.eval]
       · exact EB.out
       · simp [Act.eval]
       · exact V0.out
       · exact pairCells_len _
       · exact arPair_oneCell _
       · (unfold maxLen; omega)
       · omega
       · exact Z0.out
       intro v6 y6 o6 g6
       rw [List.nil_append, Nat.zero_add] at o6
       obtain ⟨fa, fn, fc, rfl⟩ := rk_slice o6
       have T6 := (show Hid (Hl w [(w.heap.size + 1, #[.bool false, .slice none 0 0, .slice none 0 0, .int .i64 0, .int .i64 0, .int .i64 0, .slice none 0 0], 38), (w.heap.size, #[.bool a.up, .slice sa sn sc, .slice la ln lc, .int .i64 a.head.no, .int .i64 a.head.area, .int .i64 a.head.en, .slice ea en' ec], 38)] y6) from Q0.out.past g6 (fun r e => by
         have e' : r = wb.heap.size := (Option.some.inj e).symm
         subst e'
         exact ⟨by omega, fun p hp => Nat.ne_of_lt (HB.out.lt hp)⟩))
       have D6 := (show Hid (OwnDk w.heap.size y6 (.agg #[.slice ta tn tc, .slice ma mn mc]) a.disk) from own_pastE O0.out g6 EB.out)
       have E6 := (show Hid (y6.ownsRow w.heap.size 77 2 (.slice fa fn fc) a.list.length (pairCells a.list)) from o6)
       obtain ⟨m0, m1, m2, m3, m4, m5, m6, _⟩ := rk_seven T6.out.at0
       have j0 := rk_thaw (k := 0) T6.out.at0
       have j1 := rk_thaw (k := 1) T6.out.at0
       have j2 := rk_thaw (k := 2) T6.out.at0
       have j3 := rk_thaw (k := 3) T6.out.at0
       have j4 := rk_thaw (k := 4) T6.out.at0
       have j5 := rk_thaw (k := 5) T6.out.at0
       have j6 := rk_thaw (k := 6) T6.out.at0
       have PS := (show Hid _ from T6.out.set7 (Nat.le_succ _) (by simp) (.bool a.up) (.slice ta tn tc) (.slice ma mn mc) (.int .i64 a.head.no) (.int .i64 a.head.area) (.int .i64 a.head.en) (.slice fa fn fc))
       clear o6 g6))
  all_goals go_wp2
  all_goals refine bodyPost_ret (results_cell_row rfl _ _ (w.heap.size + 1) 38 #[.bool a.up, .slice ta tn tc, .slice ma mn mc, .int .i64 a.head.no, .int .i64 a.head.area, .int .i64 a.head.en, .slice fa fn fc] (0, 0) _ rfl PS.out.at0 Tryz.underlying38 rfl rfl) rfl ?_
  all_goals
    have g9 := grown_set7 y6 (w.heap.size + 1) (.bool a.up) (.slice ta tn tc) (.slice ma mn mc) (.int .i64 a.head.no) (.int .i64 a.head.area) (.int .i64 a.head.en) (.slice fa fn fc)
    have o9 : OwnAy w.heap.size y6 (.agg #[.bool a.up, .slice ta tn tc, .slice ma mn mc, .int .i64 a.head.no, .int .i64 a.head.area, .int .i64 a.head.en, .slice fa fn fc]) a := ⟨_, _, _, _, _, _, _, _, _, rfl, OwnDy.of (OwnDz.of D6.out), OwnY.of (.inl E6.out)⟩
    exact ⟨_, rfl, OwnAy.turned o9 g9 (fun j e => by cases e; exact ⟨_, _, _, T6.out.at0, by decide, by decide, by decide⟩), PS.out.1⟩
end Go.Proofs.YtjokajblihaphaaGreatDoor

/- The specification's ArchiveCrash, l18Up, ArchiveOpen (written by mk/sar3.py). No condition. -/
namespace Go.Proofs.YtjokajblihaphaaGreatDoor
open Go.RowKit
set_option maxRecDepth 100000
set_option linter.unusedVariables false

theorem arch_res {fn : Func} {p u : Tmp} (hr : fn.results = #[.cell p 38, .tmp u]) {tmps : Array Value} {w : World} {g : Nat} {x0 x1 x2 x3 x4 x5 x6 r : Value} (h4 : tmps.getD p undef = .pointer (some ⟨g, 0, none⟩)) (h5 : tmps.getD u undef = r) (hb : w.heap[g]? = some (.cells #[x0, x1, x2, x3, x4, x5, x6] 38 (0, 0))) :
    (results fn tmps).run Tryz.prog w = .ok (.tuple #[.agg #[x0, x1, x2, x3, x4, x5, x6], r]) w := by
  rw [results_cell_tmp (p := p) (u := u) (ty := 38) hr, h4, h5]
  simp [asAddr, run_loadVar_row w g 38 38 #[x0, x1, x2, x3, x4, x5, x6] (0, 0) _ hb Tryz.underlying38 rfl rfl, Result.andThen]

end Go.Proofs.YtjokajblihaphaaGreatDoor

/- The specification's l18Up, ArchiveOpen (written by mk/sar4.py). No condition. -/
namespace Go.Proofs.YtjokajblihaphaaGreatDoor
open Go.RowKit
set_option maxRecDepth 100000
set_option linter.unusedVariables false

set_option maxHeartbeats 4000000 in
set_option maxRecDepth 100000 in
theorem sl18Up_any {B : Nat} {w : World} {v : Value} {d : PDisk} (o : OwnDy B w v d) (hB : B ≤ w.heap.size) (hr : diskB d = true) (k : PHead) (hk : headB k = true) :
    Calls Tryz.prog 37 #[v, headV k] w fun e w' => ∃ v', e = .returned v' ∧ OwnAy B w' v' ⟨true, d, k, indexA d k⟩ ∧ Below w.heap.size w w' := by
  have OD := (show Hid (OwnDy B w v d) from o)
  have HR := (show Hid (diskB d = true) from hr)
  have HK := (show Hid (headB k = true) from hk)
  have hrl : (recsA d k).1.length ≤ 1048576 := by
    have h1 := recsA_len d k
    have h2 := headB_in hk
    omega
  have hlen : (bytesA d k).length ≤ 1048576 := by
    have h2 := headB_in hk
    rw [bytesA_len]
    omega
  obtain ⟨rs, hrs⟩ : ∃ x, x = recsR (bytesA d k) := ⟨_, rfl⟩
  have hix : indexA d k = idxOf rs.1 := by rw [hrs]; rfl
  have hrl' : rs.1.length ≤ 1048576 := by rw [hrs]; exact hrl
  rw [hix]
  have HRS := (show Hid (rs = recsR (bytesA d k)) from hrs)
  clear hrl hix hrs
  obtain ⟨rs, rb⟩ := rs
  simp only at hrl' ⊢
  obtain ⟨sa, sn, sc, la, ln, lc, rfl, _, _⟩ := o
  obtain ⟨kn, ka, ke⟩ := k
  show Calls Tryz.prog 37 #[.agg #[.slice sa sn sc, .slice la ln lc], .agg #[.int .i64 kn, .int .i64 ka, .int .i64 ke]] w _
  have hl := (((Hl.refl w).new #[.slice sa sn sc, .slice la ln lc] 34).new #[.int .i64 kn, .int .i64 ka, .int .i64 ke] 35).new #[.bool false, .slice none 0 0, .slice none 0 0, .int .i64 0, .int .i64 0, .int .i64 0, .slice none 0 0] 38
  obtain ⟨w1, hw1⟩ : ∃ x, x = ((w.alloc (.cells #[.slice sa sn sc, .slice la ln lc] 34)).alloc (.cells #[.int .i64 kn, .int .i64 ka, .int .i64 ke] 35)).alloc (.cells #[.bool false, .slice none 0 0, .slice none 0 0, .int .i64 0, .int .i64 0, .int .i64 0, .slice none 0 0] 38) := ⟨_, rfl⟩
  rw [← hw1, World.size_alloc, World.size_alloc] at hl
  have HL := (show Hid (Hl w [(w.heap.size + 1 + 1, #[.bool false, .slice none 0 0, .slice none 0 0, .int .i64 0, .int .i64 0, .int .i64 0, .slice none 0 0], 38), (w.heap.size + 1, #[.int .i64 kn, .int .i64 ka, .int .i64 ke], 35), (w.heap.size, #[.slice sa sn sc, .slice la ln lc], 34)] w1) from hl)
  clear hl hr hk
  go_enter Tryz.func37, Tryz.ntmps37
  go_wp2_with fail
  go_at_call 63
  rw [← hw1]
  refine (sl18Bytes_any (OD.out.below HL.out.1).at HR.out ⟨kn, ka, ke⟩ HK.out).mono ?_
  rintro e w2 ⟨u, rfl, o2, b2⟩
  have S2 := (show Hid (Hl w [(w.heap.size + 1 + 1, #[.bool false, .slice none 0 0, .slice none 0 0, .int .i64 0, .int .i64 0, .int .i64 0, .slice none 0 0], 38), (w.heap.size + 1, #[.int .i64 kn, .int .i64 ka, .int .i64 ke], 35), (w.heap.size, #[.slice sa sn sc, .slice la ln lc], 34)] w2) from HL.out.below b2)
  have CR := srecords_any o2.sl (bytesA_byte d ⟨kn, ka, ke⟩) hlen
  rw [← HRS.out] at CR
  simp only at CR
  have CR := (show Hid _ from CR)
  clear b2 o2 hw1 HL
  go_wp2_with fail
  go_at_call 62
  refine Calls.mono CR.out ?_
  rintro e w3 ⟨v3, rfl, o3, b3⟩
  have S3 := (show Hid (Hl w [(w.heap.size + 1 + 1, #[.bool false, .slice none 0 0, .slice none 0 0, .int .i64 0, .int .i64 0, .int .i64 0, .slice none 0 0], 38), (w.heap.size + 1, #[.int .i64 kn, .int .i64 ka, .int .i64 ke], 35), (w.heap.size, #[.slice sa sn sc, .slice la ln lc], 34)] w3) from S2.out.below b3)
  have O3 := (show Hid (Sv 3 w3 v3 (recCells rs)) from sv_of_own o3)
  clear b3 o3 CR S2
  have CX := (show Hid (Calls Tryz.prog 65 #[v3] w3.drew fun e w' => ∃ fa fn fc, e = .returned (.slice fa fn fc) ∧ OwnPs w.heap.size w' (.slice fa fn fc) (idxOf rs) ∧ Hl w [(w.heap.size + 1 + 1, #[.bool false, .slice none 0 0, .slice none 0 0, .int .i64 0, .int .i64 0, .int .i64 0, .slice none 0 0], 38), (w.heap.size + 1, #[.int .i64 kn, .int .i64 ka, .int .i64 ke], 35), (w.heap.size, #[.slice sa sn sc, .slice la ln lc], 34)] w') from (sindexOf_any (O3.out.below (below_drewN 1)) hrl').mono (by
    rintro e w' ⟨v', rfl, o, b⟩
    obtain ⟨fa, fn, fc, rfl⟩ := rk_slice o
    have s := (S3.out.below (below_drewN 1)).below b
    exact ⟨fa, fn, fc, rfl, rk_base o (S3.out.below (below_drewN 1)).1.size, s⟩))
  have KD := (show Hid (Hl w [(w.heap.size + 1, #[.int .i64 kn, .int .i64 ka, .int .i64 ke], 35), (w.heap.size, #[.slice sa sn sc, .slice la ln lc], 34)] w3.drew) from S3.out.tail.below (below_drewN 1))
  have HS := (show Hid (∀ W, Hl w [(w.heap.size + 1, #[.int .i64 kn, .int .i64 ka, .int .i64 ke], 35), (w.heap.size, #[.slice sa sn sc, .slice la ln lc], 34)] W → W.cell? ⟨w.heap.size, 0, none⟩ = some (.slice sa sn sc) ∧ W.cell? ⟨w.heap.size, 1, none⟩ = some (.slice la ln lc) ∧ W.cell? ⟨w.heap.size + 1, 0, none⟩ = some (.int .i64 kn) ∧ W.cell? ⟨w.heap.size + 1, 1, none⟩ = some (.int .i64 ka) ∧ W.cell? ⟨w.heap.size + 1, 2, none⟩ = some (.int .i64 ke) ∧ Hl w [(w.heap.size + 1, #[.int .i64 kn, .int .i64 ka, .int .i64 ke], 35), (w.heap.size, #[.slice sa sn sc, .slice la ln lc], 34)] W) from fun W h => ⟨(rk_two h.at1).1, (rk_two h.at1).2.1, (rk_three h.at0).1, (rk_three h.at0).2.1, (rk_three h.at0).2.2.1, h⟩)
  go_upto_region 2 with fail
  go_region_held3 (fun w' => w'.cell? ⟨w.heap.size, 0, none⟩ = some (.slice sa sn sc) ∧ w'.cell? ⟨w.heap.size, 1, none⟩ = some (.slice la ln lc) ∧ w'.cell? ⟨w.heap.size + 1, 0, none⟩ = some (.int .i64 kn) ∧ w'.cell? ⟨w.heap.size + 1, 1, none⟩ = some (.int .i64 ka) ∧ w'.cell? ⟨w.heap.size + 1, 2, none⟩ = some (.int .i64 ke) ∧ Hl w [(w.heap.size + 1, #[.int .i64 kn, .int .i64 ka, .int .i64 ke], 35), (w.heap.size, #[.slice sa sn sc, .slice la ln lc], 34)] w')
    (with_reducible first | exact HS.out _ KD.out | exact HS.out _ T4.out.tail | exact HS.out _ PS.out.tail)
    (first
    | (go_at_call 65
       refine Calls.mono CX.out ?_
       rintro e y4 ⟨fa, fn, fc, rfl, o4, s4⟩
       have T4 := (show Hid (Hl w [(w.heap.size + 1 + 1, #[.bool false, .slice none 0 0, .slice none 0 0, .int .i64 0, .int .i64 0, .int .i64 0, .slice none 0 0], 38), (w.heap.size + 1, #[.int .i64 kn, .int .i64 ka, .int .i64 ke], 35), (w.heap.size, #[.slice sa sn sc, .slice la ln lc], 34)] y4) from s4)
       have E4 := (show Hid (OwnPs w.heap.size y4 (.slice fa fn fc) (idxOf rs)) from o4)
       obtain ⟨m0, m1, m2, m3, m4, m5, m6, _⟩ := rk_seven T4.out.at0
       have j0 := rk_thaw (k := 0) T4.out.at0
       have j1 := rk_thaw (k := 1) T4.out.at0
       have j2 := rk_thaw (k := 2) T4.out.at0
       have j3 := rk_thaw (k := 3) T4.out.at0
       have j4 := rk_thaw (k := 4) T4.out.at0
       have j5 := rk_thaw (k := 5) T4.out.at0
       have j6 := rk_thaw (k := 6) T4.out.at0
       have PS := (show Hid _ from T4.out.set7 (by omega) (by simp; omega) (.bool true) (.slice sa sn sc) (.slice la ln lc) (.int .i64 kn) (.int .i64 ka) (.int .i64 ke) (.slice fa fn fc))
       clear o4 s4))
  all_goals go_wp2
  all_goals refine bodyPost_ret (results_cell_row rfl _ _ (w.heap.size + 1 + 1) 38 #[.bool true, .slice sa sn sc, .slice la ln lc, .int .i64 kn, .int .i64 ka, .int .i64 ke, .slice fa fn fc] (0, 0) _ rfl PS.out.at0 Tryz.underlying38 rfl rfl) rfl ?_
  all_goals
    have g9 := grown_set7 y4 (w.heap.size + 1 + 1) (.bool true) (.slice sa sn sc) (.slice la ln lc) (.int .i64 kn) (.int .i64 ka) (.int .i64 ke) (.slice fa fn fc)
    have o9 : OwnAy B y4 (.agg #[.bool true, .slice sa sn sc, .slice la ln lc, .int .i64 kn, .int .i64 ka, .int .i64 ke, .slice fa fn fc]) ⟨true, d, ⟨kn, ka, ke⟩, idxOf rs⟩ := ⟨_, _, _, _, _, _, _, _, _, rfl, OD.out.below T4.out.1, OwnY.base (OwnY.of (.inl E4.out)) hB⟩
    exact ⟨_, rfl, OwnAy.turned o9 g9 (fun j e => by cases e; exact ⟨_, _, _, T4.out.at0, by decide, by decide, by decide⟩), PS.out.1⟩

end Go.Proofs.YtjokajblihaphaaGreatDoor

/- The archive, plainly: what is written is what the disk tells then. No condition. -/
namespace Go.Proofs.YtjokajblihaphaaGreatDoor
open Go.RowKit
set_option maxRecDepth 100000
set_option linter.unusedVariables false

theorem recL_byte {r : PRec} (h : recB r = true) (hb : r.body.size ≤ 1048576) : ∀ x ∈ recL r, 0 ≤ x ∧ x ≤ 255 := by
  have hk : r.kind = 1 ∨ r.kind = 2 := by
    simp only [recB, Bool.and_eq_true, Bool.or_eq_true, decide_eq_true_eq] at h
    exact h.1.1
  have hu : r.url.size ≤ 60 := by
    simp only [recB, urlB, inB, Bool.and_eq_true, decide_eq_true_eq] at h
    have := h.1.2.1.2
    omega
  have tf : ∀ s : ByteArray, s.size ≤ 1048576 → ∀ x ∈ textForm s, 0 ≤ x ∧ x ≤ 255 := fun s hs x hx => by
    simp only [textForm, List.mem_append] at hx
    rcases hx with hx | hx
    · exact form_byte (by omega) x hx
    · obtain ⟨k, hk, rfl⟩ := List.getElem_of_mem hx
      have := bs_bound s k
      rwa [List.getD_eq_getElem?_getD, List.getElem?_eq_getElem hk, Option.getD_some] at this
  intro x hx
  simp only [recL, List.mem_append] at hx
  rcases hx with (hx | hx) | hx
  · exact form_byte (by omega) x hx
  · exact tf _ (by omega) x hx
  · split at hx
    · exact tf _ hb x hx
    · cases hx
/-- A record that is added: the disk tells it behind the others. -/
theorem recs_add {d : PDisk} {h : PHead} {r : PRec} (hh : headB h = true) (hw : (recsA d h).2 = true) (hr : recB r = true) (hb : r.body.size ≤ 1048576) {n : Int} (hs : stepsOk d h.area h.en (recL r) ⟨n, h.area, h.en + (recL r).length⟩ = true) :
    recsA (step4 d h.area h.en (recL r) ⟨n, h.area, h.en + (recL r).length⟩) ⟨n, h.area, h.en + (recL r).length⟩ = ((recsA d h).1 ++ [r], true) := by
  have hi := headB_in hh
  have hby := steps_bytes (recL_byte hr hb) hs
  obtain ⟨h1, h2⟩ := recsR_back (bytesA_byte d h) hw
  have hsz := recsA_size d h
  have e : bytesA (step4 d h.area h.en (recL r) ⟨n, h.area, h.en + (recL r).length⟩) ⟨n, h.area, h.en + (recL r).length⟩ = ((recsA d h).1 ++ [r]).flatMap recL := by
    rw [List.flatMap_append, List.flatMap_singleton]
    unfold recsA
    rw [← h1]
    exact hby
  unfold recsA
  rw [e]
  refine recsR_of (fun q hq => ?_)
  rcases List.mem_append.mp hq with hq | hq
  · exact ⟨h2 q hq, by have := (hsz q hq).2; omega⟩
  · rw [List.mem_singleton.mp hq]; exact ⟨hr, by omega⟩
/-- What is made compact is told as it was. -/
theorem recs_compact {d : PDisk} {ar n : Int} {ps : List (ByteArray × ByteArray)} (hp : (packX ps).2 = true) (hsz : ∀ p ∈ ps, p.2.size ≤ 1048576) (hs : stepsOk d ar 0 (packX ps).1 ⟨n, ar, (packX ps).1.length⟩ = true) :
    recsA (step4 d ar 0 (packX ps).1 ⟨n, ar, (packX ps).1.length⟩) ⟨n, ar, (packX ps).1.length⟩ = (ps.map recE, true) := by
  have hall : ∀ x ∈ (packX ps).1, 0 ≤ x ∧ x ≤ 255 := by
    unfold packX at hp ⊢
    cases hq : packE ps with
    | none => rw [hq] at hp; cases hp
    | some b =>
      obtain ⟨e1, e2⟩ := packE_flat ps b hq
      simp only
      intro x hx
      rw [e1] at hx
      simp only [List.mem_flatMap, List.mem_map] at hx
      obtain ⟨r, ⟨p, hp', rfl⟩, hx⟩ := hx
      exact recL_byte (e2 p hp') (hsz p hp') x hx
  have hby := steps_bytes hall hs
  unfold recsA
  have e : bytesA (step4 d ar 0 (packX ps).1 ⟨n, ar, (packX ps).1.length⟩) ⟨n, ar, (packX ps).1.length⟩ = (packX ps).1 := by
    have e0 : getL d ar 0 (0 : Int).toNat = [] := rfl
    rw [e0, List.nil_append, Int.zero_add] at hby
    exact hby
  rw [e]
  exact packX_read (fun p hp' => by have := hsz p hp'; omega) hp
/-- Behind the four steps the disk alone tells a right archive. -/
theorem well_steps {d : PDisk} {ar at' : Int} {b : List Int} {h : PHead} (hs : stepsOk d ar at' b h = true) (hn : (nowDk d).no < h.no) (hw : (recsA (step4 d ar at' b h) h).2 = true) : nowDk (step4 d ar at' b h) = h ∧ wellA (step4 d ar at' b h) = true ∧ archB ⟨true, step4 d ar at' b h, h, indexA (step4 d ar at' b h) h⟩ = true := by
  obtain ⟨_, _, _, r4, l4, hh⟩ := steps_right hs
  have hk := steps_now hs hn
  have hwl : wellA (step4 d ar at' b h) = true := by rw [wellA, hk, hh, hw]; rfl
  refine ⟨hk, hwl, ?_⟩
  simp only [archB, tellsA, hwl, hk, headEq_self, r4, l4, decide_true, Bool.and_true, if_true]
end Go.Proofs.YtjokajblihaphaaGreatDoor

/- The exact law of AreaPut, from the program's contract (written by mk/warea.py). -/
namespace Go.Proofs.YtjokajblihaphaaGreatDoor
open Go.RowKit
set_option maxRecDepth 100000
set_option linter.unusedVariables false

def AreaPutOz : Prop := ∀ (w : World) (v : Value) (d : PDisk) (ar at' : Int) (u : Value) (b : List Int), DiskAt w v d → DiskFit d → (Lit.int .i64 ar).wf = true → (Lit.int .i64 at').wf = true → Sl .u8 w u b → (∀ x ∈ b, 0 ≤ x ∧ x ≤ 255) → b.length ≤ 1099511627776 → Calls Tryz.prog 125 #[v, .int .i64 ar, .int .i64 at', u] w fun e w' => ∃ v', e = .returned (.tuple #[v', .bool (areaDk d ar at' b).2]) ∧ OwnDz w.heap.size w' v' (areaDk d ar at' b).1 ∧ Below w.heap.size w w'
theorem fit_area {d : PDisk} (h : DiskFit d) (ar at' : Int) (b : List Int) : DiskFit (areaDk d ar at' b).1 := by
  unfold areaDk
  split
  · exact fit_zero
  · rename_i hb
    split
    · exact h
    · rename_i hp
      have ha : ar = 0 ∨ ar = 1 := by
        simp only [putOkA, Bool.not_eq_false, Bool.and_eq_true, Bool.or_eq_true, decide_eq_true_eq] at hp
        exact hp.1.1
      cases e : areaN d ar b at'.toNat 64 with
      | none => exact h
      | some e' => exact fit_right (areaN_right (by simpa using hb) ha (Nat.le_refl _) e)

end Go.Proofs.YtjokajblihaphaaGreatDoor
