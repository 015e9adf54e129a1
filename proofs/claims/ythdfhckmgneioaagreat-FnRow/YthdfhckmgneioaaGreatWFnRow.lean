/- The law FnRow, walked. No condition. -/
import Derived.Test.YthdfhckmgneioaaGreatB26
import Derived.Deep.Cut
namespace Go.Proofs.YthdfhckmgneioaaGreat
open Go.RowKit
set_option maxRecDepth 100000
set_option linter.unusedVariables false

set_option maxHeartbeats 4000000 in
set_option maxRecDepth 100000 in
theorem fnRow_walk {v : Value} {xs : List Int} (w : World) (h : Sl .u8 w v xs) (hwf : ∀ n ∈ xs, (Lit.int .u8 n).wf = true) :
    Calls Tryz.prog 3 #[v] w fun e w' => e = .returned (.bool true) ∧ Below w.heap.size w w' := by
  have HB : Hid (∀ x ∈ xs, 0 ≤ x ∧ x ≤ 255) := byte_ok hwf
  clear hwf
  have hbig := big_any h
  by_cases hl : 1048576 < xs.length
  · rw [decide_eq_true hl] at hbig
    go_enter Tryz.func3, Tryz.ntmps3
    go_wp2_with fail
    go_at_call 5
    refine hbig.mono ?_
    rintro e w1 ⟨rfl, rfl⟩
    go_wp2
    go_ret
    exact ⟨rfl, Below.refl _ _⟩
  rw [decide_eq_false hl] at hbig
  have HD := (show Hid _ from drawPopTo_any h HB.out (by omega))
  have HBG := (show Hid _ from hbig)
  clear h HB hl hbig
  go_enter Tryz.func3, Tryz.ntmps3
  go_wp2_with fail
  go_at_call 5
  refine Calls.mono HBG.out ?_
  rintro e w0 ⟨rfl, rfl⟩
  clear HBG
  go_wp2_with fail
  go_at_call 6
  refine Calls.mono HD.out ?_
  rintro e w1 ⟨nv, rv, ns, row, nm, rfl, B1⟩
  clear HD
  obtain ⟨na, ncap, rfl, hc1, hc2, j1⟩ := B1.own.nodes.slice
  obtain ⟨ra, rc, rfl, hrc, hrm, j2, j3⟩ := B1.rw.sl
  clear j1 j2 j3
  have HNA := (show Hid (NodesAt w1 (.slice na ns.length ncap) ns) from B1.own.nodes)
  have HRV := (show Hid (Sl .i64 w1 (.slice ra row.length rc) row) from B1.rw.sl)
  have HFT := (show Hid (∀ n ∈ ns, NodeFit n) from B1.fit)
  have HP0 := (show Hid (parOf ns 0 = -1) from B1.par0)
  have HBE := (show Hid (Below w0.heap.size w0 w1) from B1.bel)
  have hlen := B1.len
  have hrl := B1.rl
  have hnm := B1.nm
  clear B1
  obtain ⟨w2, hw2⟩ : ∃ w2, w2 = w1.alloc (.cells #[.slice na ns.length ncap] 26) := ⟨_, rfl⟩
  have b2 : Below w1.heap.size w1 w2 := by rw [hw2]; exact (Below.refl _ _).alloc (Nat.le_refl _) _
  have gT2 : w2.heap[w1.heap.size]? = some (.cells #[.slice na ns.length ncap] 26 (0, 0)) := by rw [hw2]; exact World.alloc_heap_new _ _
  have HT2 := (show Hid _ from gT2)
  have HB2 := (show Hid (Below w0.heap.size w0 w2) from HBE.out.trans (b2.mono HBE.out.size))
  have HN2 := (show Hid (NodesAt w2 (.slice na ns.length ncap) ns) from HNA.out.below b2)
  have HR2 := (show Hid (Sl .i64 w2 (.slice ra row.length rc) row) from HRV.out.below b2)
  clear b2 gT2 HNA HRV HBE
  have cT : ∀ W, Below w2.heap.size w2 W → W.cell? ⟨w1.heap.size, 0, none⟩ = some (.slice na ns.length ncap) := fun W hb => by
    have := (hb.block _ (blk_lt HT2.out)).trans HT2.out
    simp only [World.cell?, this]; rfl
  have CT := (show Hid _ from cT)
  have k2 := cT w2 (Below.refl _ _)
  clear cT
  go_upto_region 4 with fail
  rw [← hw2]
  clear hw2
  go_wp2_with fail
  go_at_call 7
  refine Calls.mono (ipopTo_any HN2.out HFT.out (by omega) HR2.out (by omega) nm) ?_
  rintro e w3 ⟨v3, ys, rfl, o3, ⟨hy1, hy2⟩, b3⟩
  have hyle : ys.length ≤ row.length := by
    by_cases hP : TreeOkP ns ∧ RowP ns row
    · rw [hy1 hP]; exact popL_le _ _ _
    · rw [hy2 hP]; exact Nat.le_refl _
  have HYT : Hid (ys = row.take ys.length) := (show ys = row.take ys.length by
    by_cases hP : TreeOkP ns ∧ RowP ns row
    · rw [hy1 hP]; exact popL_take _ _ _
    · rw [hy2 hP, List.take_length])
  have HY1 := (show Hid (TreeOkP ns ∧ RowP ns row → ys = popL ns nm row) from hy1)
  have HY2 := (show Hid (¬ (TreeOkP ns ∧ RowP ns row) → ys = row) from hy2)
  have HB3 := (show Hid (Below w2.heap.size w2 w3) from b3)
  obtain ⟨ta, tc, rfl, htc, htm, j1, j2⟩ := o3.sl
  clear j1 j2
  have HO3 := (show Hid (Sl .i64 w3 (.slice ta ys.length tc) ys) from o3.sl)
  have k3 := CT.out w3 b3
  clear hy1 hy2 o3 b3 k2
  go_wp2_with fail
  go_at_call 9
  refine Calls.mono (spopTo_any (HN2.out.below HB3.out) HFT.out (by omega) (HR2.out.below HB3.out) (by omega) nm) ?_
  rintro e w4 ⟨v4, zs, rfl, o4, hz1, hz2, b4⟩
  obtain rfl : zs = ys := by
    by_cases hP : TreeOkP ns ∧ RowP ns row
    · rw [hz1 ((okP_iff HP0.out).mpr hP), HY1.out hP]
    · rw [hz2 (fun h => hP ((okP_iff HP0.out).mp h)), HY2.out hP]
  have HB4 := (show Hid (Below w2.heap.size w2 w4) from HB3.out.trans (b4.mono HB3.out.size))
  have HO4 := (show Hid (Sl .i64 w4 (.slice ta zs.length tc) zs) from HO3.out.below b4)
  have CS := (show Hid _ from sameInts_any HO4.out o4.sl (by omega) (by omega))
  rw [decide_eq_true (rfl : zs = zs)] at CS
  obtain ⟨ua, uc, rfl, j1, j2, j3, j4⟩ := o4.sl
  clear j1 j2 j3 j4
  clear hz1 hz2 o4 b4 HB3 HO3 k3
  go_wp2_with fail
  go_at_call 8
  refine Calls.mono CS.out ?_
  rintro e w5 ⟨rfl, b5⟩
  clear CS
  have HB5 := (show Hid (Below w2.heap.size w2 w5) from HB4.out.trans (b5.mono HB4.out.size))
  have HO5 := (show Hid (Sl .i64 w5 (.slice ta zs.length tc) zs) from HO4.out.below b5)
  have hle2 : ¬ ((row.length : Int) < (zs.length : Int)) := by omega
  have hcap : zs.length ≤ rc := by omega
  have ht5 := sl_take (HR2.out.below HB5.out) (k := zs.length) hyle
  rw [← HYT.out] at ht5
  have CS := (show Hid _ from sameInts_any HO5.out ht5 (by omega) (by omega))
  rw [decide_eq_true (rfl : zs = zs)] at CS
  clear b5 HB4 HO4 ht5
  go_wp2_with fail
  go_at_call 8
  refine Calls.mono CS.out ?_
  rintro e w6 ⟨rfl, b6⟩
  clear CS
  have HB6 := (show Hid (Below w2.heap.size w2 w6) from HB5.out.trans (b6.mono HB5.out.size))
  have k6 := CT.out w6 HB6.out
  clear b6 HB5 HO5
  go_wp2_with fail
  go_at_call 10
  refine Calls.mono (iopenAt_any (HN2.out.below HB6.out) HFT.out (by omega) (HR2.out.below HB6.out) (by omega) nm) ?_
  rintro e w7 ⟨pl, rfl, ⟨hp1, hp2⟩, b7⟩
  have HPL1 := (show Hid _ from hp1)
  have HPL2 := (show Hid _ from hp2)
  have HB7 := (show Hid (Below w2.heap.size w2 w7) from HB6.out.trans (b7.mono HB6.out.size))
  have k7 := CT.out w7 HB7.out
  clear hp1 hp2 b7 HB6 k6
  go_wp2_with fail
  go_at_call 11
  refine Calls.mono (sstackOk_any (HN2.out.below HB7.out) HFT.out (by omega) (HR2.out.below HB7.out) (by omega)) ?_
  rintro e w8 ⟨ok, rfl, hok, b8⟩
  have HB8 := (show Hid (Below w2.heap.size w2 w8) from HB7.out.trans (b8.mono HB7.out.size))
  have k8 := CT.out w8 HB8.out
  clear b8 HB7 k7
  cases ok
  · have HNO : Hid (¬ (TreeOkP ns ∧ RowP ns row)) := fun h => by have := hok.mpr ((okP_iff HP0.out).mpr h); cases this
    have hpl := HPL2.out HNO.out
    have hzr : zs.length = row.length := by rw [HY2.out HNO.out]
    subst hpl
    clear hok
    go_wp2
    go_ret
    exact ⟨rfl, HB2.out.trans (HB8.out.mono HB2.out.size)⟩
  · have HOK : Hid (TreeOkP ns ∧ RowP ns row) := (okP_iff HP0.out).mp (hok.mp rfl)
    have hpl := HPL1.out HOK.out
    have HZP := (show Hid (zs = popL ns nm row) from HY1.out HOK.out)
    clear hok HY1 HY2 HPL1 HPL2
    obtain ⟨p0, hp0⟩ : ∃ p0, p0 = lastAt (named ns nm) row row.length := ⟨_, rfl⟩
    have HP0E := (show Hid (p0 = lastAt (named ns nm) row row.length) from hp0)
    have hp0l : p0 ≤ row.length := by rw [hp0]; exact lastAt_le _ _ _
    rw [← hp0] at hpl
    clear hp0
    subst hpl
    go_wp2_with fail
    go_at_call 12
    refine Calls.mono (ipopImplied_any (HN2.out.below HB8.out) HFT.out (by omega) (HR2.out.below HB8.out) (by omega) nm) ?_
    rintro e w9 ⟨v9, is, rfl, o9, ⟨hi1, j1⟩, b9⟩
    clear j1
    have HIS := (show Hid (is = impL ns nm row) from hi1 HOK.out)
    have hisl : is.length ≤ row.length := by rw [HIS.out]; exact impL_le _ _ _
    have HIT : Hid (is = row.take is.length) := (show is = row.take is.length by rw [HIS.out]; exact impL_take _ _ _)
    have his1 : (0 : Int) < (row.length : Int) → ¬ ((is.length : Int) < 1) := fun h => by
      have := impL_one ns nm (row := row) (by omega)
      rw [← HIS.out] at this
      omega
    have HB9 := (show Hid (Below w2.heap.size w2 w9) from HB8.out.trans (b9.mono HB8.out.size))
    have HO9 := (show Hid (Sl .i64 w9 v9 is) from o9.sl)
    obtain ⟨ia, ic, rfl, hic, him, j1, j2⟩ := o9.sl
    clear j1 j2
    have hle3 : ¬ ((row.length : Int) < (is.length : Int)) := by omega
    have hcap3 : is.length ≤ rc := by omega
    have ht9 := sl_take (HR2.out.below HB9.out) (k := is.length) hisl
    rw [← HIT.out] at ht9
    have CS := (show Hid _ from sameInts_any HO9.out ht9 (by omega) (by omega))
    rw [decide_eq_true (rfl : is = is)] at CS
    have HI1 := (show Hid _ from his1)
    clear hi1 o9 b9 HB8 k8 ht9 his1 HO9
    go_wp2_with fail
    go_at_call 8
    refine Calls.mono CS.out ?_
    rintro e w10 ⟨rfl, b10⟩
    clear CS
    have HB10 := (show Hid (Below w2.heap.size w2 w10) from HB9.out.trans (b10.mono HB9.out.size))
    have k10 := CT.out w10 HB10.out
    clear b10 HB9
    have ne := Wd.any w2.heap.size w2
    by_cases hr0 : (0 : Int) < (row.length : Int)
    all_goals
      (try have hi2 := HI1.out hr0)
      go_wp2
      go_loopw [9] (fun i wr => ∃ k : Nat, is.length ≤ k ∧ k ≤ row.length ∧ i = .int .i64 k ∧ Below w2.heap.size w2 wr) (fun i _ => row.length - (intOf i).toNat)
      case atStart => exact ⟨is.length, Nat.le_refl _, hisl, rfl, HB10.out⟩
      case round =>
        clear k10
        obtain ⟨k, hk1, hk2, rfl, bel⟩ := hrel
        by_cases hlt : k < row.length
        · have hpos : (0 : Int) < (row.length : Int) := by omega
          first
            | (exfalso; omega)
            |(obtain ⟨m, hm, hmlt⟩ := elB_at (HOK.out.2.el k hlt)
              have hg : row.getD k 0 = (m : Int) := by rw [← hm]; simp [List.getD_eq_getElem?_getD, hlt]
              obtain ⟨j1, j2, e3, j3, j4, j5, hrc3⟩ := HR2.out
              cases e3
              clear j3 j4 j5
              obtain ⟨rb, ro, rfl, c1⟩ := hrc3 k hlt
              have hrb := lt_of_cell c1
              rw [hg] at c1
              obtain ⟨j6, j7, e4, j8, j9, hcs⟩ := HN2.out.slice
              cases e4
              clear j8 j9
              obtain ⟨b, off, av, kv, rfl, hblt, j1, d1, j2⟩ := hcs m hmlt
              clear j1 j2
              have hst : stays ns nm (m : Int) = false := by rw [← hg]; exact impL_behind (by rw [← HIS.out]; exact hk1) hlt
              rw [stays, nmOf_at hmlt, Bool.or_eq_false_iff] at hst
              have hsz : ns[m].name.size ≤ maxLen := by have := (HFT.out ns[m] (List.getElem_mem hmlt)).nm; unfold maxLen; omega
              obtain ⟨y, hy⟩ : ∃ y, y = ns[m].name := ⟨_, rfl⟩
              rw [← hy] at d1 hst hsz
              have hq : ¬ y = nm := by simpa using hst.1
              have hii : hasB implieds y = true := by simpa using hst.2
              have CI := (show Hid (∀ w, Calls Tryz.prog 13 #[.string y] w fun e w' => e = .returned (.bool (hasB implieds y)) ∧ Below w.heap.size w w') from fun w => iisImplied_any y hsz w)
              rw [hii] at CI
              have hd := toList_ne hq
              have f0 : ∀ n : Wd w2.heap.size w2, n.w.cell? ⟨w1.heap.size, 0, none⟩ = some (.slice (some ⟨b, off, none⟩) ns.length ncap) := fun n => CT.out n.w n.below
              have f1 : ∀ n : Wd w2.heap.size w2, n.w.cell? ⟨rb, ro + k, none⟩ = some (.int .i64 m) := fun n => (n.below.cell (p := ⟨rb, ro + k, none⟩) hrb).trans c1
              have f2 : ∀ n : Wd w2.heap.size w2, n.w.cell? ⟨b, off + m * 6 + 1, none⟩ = some (.string y) := fun n => (n.below.cell (p := ⟨b, off + m * 6 + 1, none⟩) hblt).trans d1
              clear hy hst hii c1 d1 hcs hrc3 hg hm hpos hr0 hi2 hle2 hle3 hcap hcap3 htc htm hic him hyle hp0l hisl hc1
              go_wp2
              refine wp_region_below (by kernel_rfl) (by kernel_rfl) bel ?_
              repeat (go_big_quiet_step ((go_at_call 13; exact quiet_below (CI.out _) (Nat.le_refl _))))
              refine wpQuiet_nil ?_
              intro wq hqq
              replace hqq := Wd.of hqq
              go_wp2
              go_roundw
              case rel => exact ⟨k + 1, by omega, by omega, by go_num, hqq⟩
              case measure => simp [intOf]; omega)
        · have hfin := HB2.out.trans (bel.mono HB2.out.size)
          by_cases hp : p0 = 0
          · have hzl : zs.length = row.length := by rw [HZP.out, popL_none (by rw [← HP0E.out]; exact hp)]
            subst hp
            go_wp2
            go_ret
            exact ⟨rfl, hfin⟩
          · have hpp := popL_place (ns := ns) (nm := nm) (row := row) (by rw [← HP0E.out]; exact hp)
            rw [← HZP.out, ← HP0E.out] at hpp
            have hneg : ¬ ((p0 : Int) - 1 < 0) := by omega
            rcases hpp with ⟨h1, h2⟩ | ⟨h1, h2⟩
            · have he : ((zs.length : Int) == (p0 : Int) - 1) = true := by simp; omega
              clear h1 h2
              go_wp2
              go_ret
              exact ⟨rfl, hfin⟩
            · subst h1
              have he : ((zs.length : Int) == 0) = false := by rw [h2]; decide
              have he1 : ((zs.length : Int) == 1) = true := by rw [h2]; decide
              clear h2
              go_wp2
              go_ret
              exact ⟨rfl, hfin⟩
end Go.Proofs.YthdfhckmgneioaaGreat
