/- The specification's l18Up, ArchiveOpen (written by mk/sar4.py). No condition. -/
import Derived.Test.YtokkigfjabbdaaaGreatDoorU45
import Derived.Test.YtokkigfjabbdaaaGreatDoorU17
import Derived.Test.YtokkigfjabbdaaaGreatDoorU29
namespace Go.Proofs.YtokkigfjabbdaaaGreatDoor
open Go.RowKit
set_option maxRecDepth 100000
set_option linter.unusedVariables false

set_option maxHeartbeats 4000000 in
set_option maxRecDepth 100000 in
theorem sl18Up_any {B : Nat} {w : World} {v : Value} {d : PDisk} (o : OwnDy B w v d) (hB : B ≤ w.heap.size) (hr : diskB d = true) (k : PHead) (hk : headB k = true) :
    Calls Tryz.prog 50 #[v, headV k] w fun e w' => ∃ v', e = .returned v' ∧ OwnAy B w' v' ⟨true, d, k, indexA d k⟩ ∧ Below w.heap.size w w' := by
  have OD := (show Hid (OwnDy B w v d) from o)
  have HR := (show Hid (diskB d = true) from hr)
  have HK := (show Hid (headB k = true) from hk)
  have hrl : (recsA d k).1.length ≤ 1048576 := by
    have h1 := recsA_len d k
    have h2 := headB_in hk
    omega
  have hlen : (bytesA d k).length ≤ 1048576 := by
    have h2 := headB_in hk
    rw [bytesA_len]
    omega
  obtain ⟨rs, hrs⟩ : ∃ x, x = recsR (bytesA d k) := ⟨_, rfl⟩
  have hix : indexA d k = idxOf rs.1 := by rw [hrs]; rfl
  have hrl' : rs.1.length ≤ 1048576 := by rw [hrs]; exact hrl
  rw [hix]
  have HRS := (show Hid (rs = recsR (bytesA d k)) from hrs)
  clear hrl hix hrs
  obtain ⟨rs, rb⟩ := rs
  simp only at hrl' ⊢
  obtain ⟨sa, sn, sc, la, ln, lc, rfl, _, _⟩ := o
  obtain ⟨kn, ka, ke⟩ := k
  show Calls Tryz.prog 50 #[.agg #[.slice sa sn sc, .slice la ln lc], .agg #[.int .i64 kn, .int .i64 ka, .int .i64 ke]] w _
  have hl := (((Hl.refl w).new #[.slice sa sn sc, .slice la ln lc] 35).new #[.int .i64 kn, .int .i64 ka, .int .i64 ke] 36).new #[.bool false, .slice none 0 0, .slice none 0 0, .int .i64 0, .int .i64 0, .int .i64 0, .slice none 0 0] 39
  obtain ⟨w1, hw1⟩ : ∃ x, x = ((w.alloc (.cells #[.slice sa sn sc, .slice la ln lc] 35)).alloc (.cells #[.int .i64 kn, .int .i64 ka, .int .i64 ke] 36)).alloc (.cells #[.bool false, .slice none 0 0, .slice none 0 0, .int .i64 0, .int .i64 0, .int .i64 0, .slice none 0 0] 39) := ⟨_, rfl⟩
  rw [← hw1, World.size_alloc, World.size_alloc] at hl
  have HL := (show Hid (Hl w [(w.heap.size + 1 + 1, #[.bool false, .slice none 0 0, .slice none 0 0, .int .i64 0, .int .i64 0, .int .i64 0, .slice none 0 0], 39), (w.heap.size + 1, #[.int .i64 kn, .int .i64 ka, .int .i64 ke], 36), (w.heap.size, #[.slice sa sn sc, .slice la ln lc], 35)] w1) from hl)
  clear hl hr hk
  go_enter Tryz.func50, Tryz.ntmps50
  go_wp2_with fail
  go_at_call 29
  rw [← hw1]
  refine (sl18Bytes_any (OD.out.below HL.out.1).at HR.out ⟨kn, ka, ke⟩ HK.out).mono ?_
  rintro e w2 ⟨u, rfl, o2, b2⟩
  have S2 := (show Hid (Hl w [(w.heap.size + 1 + 1, #[.bool false, .slice none 0 0, .slice none 0 0, .int .i64 0, .int .i64 0, .int .i64 0, .slice none 0 0], 39), (w.heap.size + 1, #[.int .i64 kn, .int .i64 ka, .int .i64 ke], 36), (w.heap.size, #[.slice sa sn sc, .slice la ln lc], 35)] w2) from HL.out.below b2)
  have CR := srecords_any o2.sl (bytesA_byte d ⟨kn, ka, ke⟩) hlen
  rw [← HRS.out] at CR
  simp only at CR
  have CR := (show Hid _ from CR)
  clear b2 o2 hw1 HL
  go_wp2_with fail
  go_at_call 28
  refine Calls.mono CR.out ?_
  rintro e w3 ⟨v3, rfl, o3, b3⟩
  have S3 := (show Hid (Hl w [(w.heap.size + 1 + 1, #[.bool false, .slice none 0 0, .slice none 0 0, .int .i64 0, .int .i64 0, .int .i64 0, .slice none 0 0], 39), (w.heap.size + 1, #[.int .i64 kn, .int .i64 ka, .int .i64 ke], 36), (w.heap.size, #[.slice sa sn sc, .slice la ln lc], 35)] w3) from S2.out.below b3)
  have O3 := (show Hid (Sv 3 w3 v3 (recCells rs)) from sv_of_own o3)
  clear b3 o3 CR S2
  have CX := (show Hid (Calls Tryz.prog 31 #[v3] w3.drew fun e w' => ∃ fa fn fc, e = .returned (.slice fa fn fc) ∧ OwnPs w.heap.size w' (.slice fa fn fc) (idxOf rs) ∧ Hl w [(w.heap.size + 1 + 1, #[.bool false, .slice none 0 0, .slice none 0 0, .int .i64 0, .int .i64 0, .int .i64 0, .slice none 0 0], 39), (w.heap.size + 1, #[.int .i64 kn, .int .i64 ka, .int .i64 ke], 36), (w.heap.size, #[.slice sa sn sc, .slice la ln lc], 35)] w') from (sindexOf_any (O3.out.below (below_drewN 1)) hrl').mono (by
    rintro e w' ⟨v', rfl, o, b⟩
    obtain ⟨fa, fn, fc, rfl⟩ := rk_slice o
    have s := (S3.out.below (below_drewN 1)).below b
    exact ⟨fa, fn, fc, rfl, rk_base o (S3.out.below (below_drewN 1)).1.size, s⟩))
  have KD := (show Hid (Hl w [(w.heap.size + 1, #[.int .i64 kn, .int .i64 ka, .int .i64 ke], 36), (w.heap.size, #[.slice sa sn sc, .slice la ln lc], 35)] w3.drew) from S3.out.tail.below (below_drewN 1))
  have HS := (show Hid (∀ W, Hl w [(w.heap.size + 1, #[.int .i64 kn, .int .i64 ka, .int .i64 ke], 36), (w.heap.size, #[.slice sa sn sc, .slice la ln lc], 35)] W → W.cell? ⟨w.heap.size, 0, none⟩ = some (.slice sa sn sc) ∧ W.cell? ⟨w.heap.size, 1, none⟩ = some (.slice la ln lc) ∧ W.cell? ⟨w.heap.size + 1, 0, none⟩ = some (.int .i64 kn) ∧ W.cell? ⟨w.heap.size + 1, 1, none⟩ = some (.int .i64 ka) ∧ W.cell? ⟨w.heap.size + 1, 2, none⟩ = some (.int .i64 ke) ∧ Hl w [(w.heap.size + 1, #[.int .i64 kn, .int .i64 ka, .int .i64 ke], 36), (w.heap.size, #[.slice sa sn sc, .slice la ln lc], 35)] W) from fun W h => ⟨(rk_two h.at1).1, (rk_two h.at1).2.1, (rk_three h.at0).1, (rk_three h.at0).2.1, (rk_three h.at0).2.2.1, h⟩)
  go_upto_region 2 with fail
  go_region_held3 (fun w' => w'.cell? ⟨w.heap.size, 0, none⟩ = some (.slice sa sn sc) ∧ w'.cell? ⟨w.heap.size, 1, none⟩ = some (.slice la ln lc) ∧ w'.cell? ⟨w.heap.size + 1, 0, none⟩ = some (.int .i64 kn) ∧ w'.cell? ⟨w.heap.size + 1, 1, none⟩ = some (.int .i64 ka) ∧ w'.cell? ⟨w.heap.size + 1, 2, none⟩ = some (.int .i64 ke) ∧ Hl w [(w.heap.size + 1, #[.int .i64 kn, .int .i64 ka, .int .i64 ke], 36), (w.heap.size, #[.slice sa sn sc, .slice la ln lc], 35)] w')
    (with_reducible first | exact HS.out _ KD.out | exact HS.out _ T4.out.tail | exact HS.out _ PS.out.tail)
    (first
    | (go_at_call 31
       refine Calls.mono CX.out ?_
       rintro e y4 ⟨fa, fn, fc, rfl, o4, s4⟩
       have T4 := (show Hid (Hl w [(w.heap.size + 1 + 1, #[.bool false, .slice none 0 0, .slice none 0 0, .int .i64 0, .int .i64 0, .int .i64 0, .slice none 0 0], 39), (w.heap.size + 1, #[.int .i64 kn, .int .i64 ka, .int .i64 ke], 36), (w.heap.size, #[.slice sa sn sc, .slice la ln lc], 35)] y4) from s4)
       have E4 := (show Hid (OwnPs w.heap.size y4 (.slice fa fn fc) (idxOf rs)) from o4)
       obtain ⟨m0, m1, m2, m3, m4, m5, m6, _⟩ := rk_seven T4.out.at0
       have j0 := rk_thaw (k := 0) T4.out.at0
       have j1 := rk_thaw (k := 1) T4.out.at0
       have j2 := rk_thaw (k := 2) T4.out.at0
       have j3 := rk_thaw (k := 3) T4.out.at0
       have j4 := rk_thaw (k := 4) T4.out.at0
       have j5 := rk_thaw (k := 5) T4.out.at0
       have j6 := rk_thaw (k := 6) T4.out.at0
       have PS := (show Hid _ from T4.out.set7 (by omega) (by simp; omega) (.bool true) (.slice sa sn sc) (.slice la ln lc) (.int .i64 kn) (.int .i64 ka) (.int .i64 ke) (.slice fa fn fc))
       clear o4 s4))
  all_goals go_wp2
  all_goals refine bodyPost_ret (results_cell_row rfl _ _ (w.heap.size + 1 + 1) 39 #[.bool true, .slice sa sn sc, .slice la ln lc, .int .i64 kn, .int .i64 ka, .int .i64 ke, .slice fa fn fc] (0, 0) _ rfl PS.out.at0 Tryz.underlying39 rfl rfl) rfl ?_
  all_goals
    have g9 := grown_set7 y4 (w.heap.size + 1 + 1) (.bool true) (.slice sa sn sc) (.slice la ln lc) (.int .i64 kn) (.int .i64 ka) (.int .i64 ke) (.slice fa fn fc)
    have o9 : OwnAy B y4 (.agg #[.bool true, .slice sa sn sc, .slice la ln lc, .int .i64 kn, .int .i64 ka, .int .i64 ke, .slice fa fn fc]) ⟨true, d, ⟨kn, ka, ke⟩, idxOf rs⟩ := ⟨_, _, _, _, _, _, _, _, _, rfl, OD.out.below T4.out.1, OwnY.base (OwnY.of (.inl E4.out)) hB⟩
    exact ⟨_, rfl, OwnAy.turned o9 g9 (fun j e => by cases e; exact ⟨_, _, _, T4.out.at0, by decide, by decide, by decide⟩), PS.out.1⟩

set_option maxHeartbeats 4000000 in
set_option maxRecDepth 100000 in
theorem sarOpen_any {w : World} {v : Value} {a : PArch} (h : ArAt w v a) (hf : ArFit a) :
    Calls Tryz.prog 21 #[v] w fun e w' => ∃ v', e = .returned (.tuple #[v', .int .i64 (openA a).2]) ∧ OwnAy w.heap.size w' v' (openA a).1 ∧ Below w.heap.size w w' := by
  have HA := (show Hid (ArAt w v a) from h)
  have HF := (show Hid (ArFit a) from hf)
  obtain ⟨⟨ra, rc⟩, hra⟩ : ∃ x, x = openA a := ⟨_, rfl⟩
  have HQ := (show Hid ((ra, rc) = openA a) from hra)
  rw [← hra]
  simp only
  obtain ⟨q, hq⟩ : ∃ q, q = archB a := ⟨_, rfl⟩
  obtain ⟨sa, sn, sc, la, ln, lc, ea, en', ec, rfl, h1, h2⟩ := h
  have H1 := (show Hid (DiskAt w (.agg #[.slice sa sn sc, .slice la ln lc]) a.disk) from h1)
  have hl := ((Hl.refl w).new #[.bool a.up, .slice sa sn sc, .slice la ln lc, .int .i64 a.head.no, .int .i64 a.head.area, .int .i64 a.head.en, .slice ea en' ec] 39).new #[.bool false, .slice none 0 0, .slice none 0 0, .int .i64 0, .int .i64 0, .int .i64 0, .slice none 0 0] 39
  obtain ⟨w1, hw1⟩ : ∃ x, x = (w.alloc (.cells #[.bool a.up, .slice sa sn sc, .slice la ln lc, .int .i64 a.head.no, .int .i64 a.head.area, .int .i64 a.head.en, .slice ea en' ec] 39)).alloc (.cells #[.bool false, .slice none 0 0, .slice none 0 0, .int .i64 0, .int .i64 0, .int .i64 0, .slice none 0 0] 39) := ⟨_, rfl⟩
  rw [← hw1, World.size_alloc] at hl
  have HL := (show Hid (Hl w [(w.heap.size + 1, #[.bool false, .slice none 0 0, .slice none 0 0, .int .i64 0, .int .i64 0, .int .i64 0, .slice none 0 0], 39), (w.heap.size, #[.bool a.up, .slice sa sn sc, .slice la ln lc, .int .i64 a.head.no, .int .i64 a.head.area, .int .i64 a.head.en, .slice ea en' ec], 39)] w1) from hl)
  have CO := sarOk_any (HA.out.below hl.1) hf
  rw [← hq] at CO
  have CO := (show Hid _ from CO)
  have HAQ := (show Hid (q = archB a) from hq)
  clear hl h1 h2 hf hq hra
  go_enter Tryz.func21, Tryz.ntmps21
  go_wp2_with fail
  go_at_call 8
  rw [← hw1]
  refine Calls.mono CO.out ?_
  rintro e w2 ⟨rfl, b2⟩
  have S2 := (show Hid (Hl w [(w.heap.size + 1, #[.bool false, .slice none 0 0, .slice none 0 0, .int .i64 0, .int .i64 0, .int .i64 0, .slice none 0 0], 39), (w.heap.size, #[.bool a.up, .slice sa sn sc, .slice la ln lc, .int .i64 a.head.no, .int .i64 a.head.area, .int .i64 a.head.en, .slice ea en' ec], 39)] w2) from HL.out.below b2)
  clear b2 hw1 HL CO
  cases q
  · have e1 := HQ.out
    rw [openA, if_pos HAQ.out.symm] at e1
    cases e1
    clear HQ
    obtain ⟨m0, m1, m2, m3, m4, m5, m6, _⟩ := rk_seven S2.out.at0
    have j0 := rk_thaw (k := 0) S2.out.at0
    have j1 := rk_thaw (k := 1) S2.out.at0
    have j2 := rk_thaw (k := 2) S2.out.at0
    have j3 := rk_thaw (k := 3) S2.out.at0
    have j4 := rk_thaw (k := 4) S2.out.at0
    have j5 := rk_thaw (k := 5) S2.out.at0
    have j6 := rk_thaw (k := 6) S2.out.at0
    have S9 := (show Hid _ from S2.out.set7 (Nat.le_succ _) (by simp) (.bool false) (.slice none 0 0) (.slice none 0 0) (.int .i64 0) (.int .i64 0) (.int .i64 0) (.slice none 0 0))
    go_wp2
    refine bodyPost_ret (arch_res rfl rfl rfl S9.out.at0) rfl ?_
    exact ⟨_, rfl, ⟨none, 0, 0, none, 0, 0, none, 0, 0, rfl, ⟨none, 0, 0, none, 0, 0, rfl, .inl ⟨rfl, rfl, none, rfl, fun _ => trivial⟩, .inl ⟨rfl, rfl, none, rfl, fun _ => trivial⟩⟩, .inl ⟨rfl, rfl, none, rfl, fun _ => trivial⟩⟩, S9.out.1⟩
  · obtain ⟨c0, c1, c2, c3, c4, c5, c6, _⟩ := rk_seven S2.out.at1
    obtain ⟨up, hup⟩ : ∃ u, u = a.up := ⟨_, rfl⟩
    have e1 := HQ.out
    rw [openA, if_neg (by rw [← HAQ.out]; decide)] at e1
    cases hu : a.up
    · rw [if_neg (by rw [hu]; decide)] at e1
      have HE := (show Hid (_ = _) from e1)
      rw [hu] at c0
      have hbd := archB_disk HAQ.out.symm
      have HB := (show Hid (diskB a.disk = true) from hbd.1)
      obtain ⟨⟨kn, ka, ke⟩, hk⟩ : ∃ k, k = nowDk a.disk := ⟨_, rfl⟩
      have CN := sheadNow_any (H1.out.below S2.out.1) HF.out.d
      rw [← hk] at CN
      have CN := (show Hid (Calls Tryz.prog 27 #[.agg #[.slice sa sn sc, .slice la ln lc]] w2 fun e w' => e = .returned (.agg #[.int .i64 kn, .int .i64 ka, .int .i64 ke]) ∧ Below w2.heap.size w2 w') from CN)
      unfold wellA at HE
      rw [← hk] at HE
      clear HQ hup e1 hbd hk
      go_wp2_with fail
      go_at_call 27
      refine Calls.mono CN.out ?_
      rintro e w3 ⟨rfl, b3⟩
      have s3 := S2.out.below b3
      have HZ3 := (show Hid (w.heap.size + 1 < w3.heap.size) from s3.lt (List.mem_cons_self ..))
      have s4 := s3.new #[.int .i64 kn, .int .i64 ka, .int .i64 ke] 36
      obtain ⟨w4, hw4⟩ : ∃ x, x = w3.alloc (.cells #[.int .i64 kn, .int .i64 ka, .int .i64 ke] 36) := ⟨_, rfl⟩
      rw [← hw4] at s4
      have S4 := (show Hid (Hl w [(w3.heap.size, #[.int .i64 kn, .int .i64 ka, .int .i64 ke], 36), (w.heap.size + 1, #[.bool false, .slice none 0 0, .slice none 0 0, .int .i64 0, .int .i64 0, .int .i64 0, .slice none 0 0], 39), (w.heap.size, #[.bool a.up, .slice sa sn sc, .slice la ln lc, .int .i64 a.head.no, .int .i64 a.head.area, .int .i64 a.head.en, .slice ea en' ec], 39)] w4) from s4)
      clear s3 s4 b3 CN c0 c1 c2 c3 c4 c5 c6 S2
      obtain ⟨d0, d1, d2, _⟩ := rk_three S4.out.at0
      go_wp2_with fail
      go_at_call 26
      rw [← hw4]
      clear hw4
      refine (sl16Right_any ⟨kn, ka, ke⟩ _).mono ?_
      rintro e w5 ⟨rfl, b5⟩
      have S5 := (show Hid (Hl w [(w3.heap.size, #[.int .i64 kn, .int .i64 ka, .int .i64 ke], 36), (w.heap.size + 1, #[.bool false, .slice none 0 0, .slice none 0 0, .int .i64 0, .int .i64 0, .int .i64 0, .slice none 0 0], 39), (w.heap.size, #[.bool a.up, .slice sa sn sc, .slice la ln lc, .int .i64 a.head.no, .int .i64 a.head.area, .int .i64 a.head.en, .slice ea en' ec], 39)] w5) from S4.out.below b5)
      clear b5 d0 d1 d2 S4
      cases hB : headB ⟨kn, ka, ke⟩
      · have e1 := HE.out
        rw [hB, Bool.false_and, if_pos rfl] at e1
        cases e1
        clear HE hB hu
        go_upto_region 7 with fail
        obtain ⟨c0, c1, c2, c3, c4, c5, c6, _⟩ := rk_seven (S5.out.sub (L' := [(w.heap.size + 1, #[.bool false, .slice none 0 0, .slice none 0 0, .int .i64 0, .int .i64 0, .int .i64 0, .slice none 0 0], 39), (w.heap.size, #[.bool a.up, .slice sa sn sc, .slice la ln lc, .int .i64 a.head.no, .int .i64 a.head.area, .int .i64 a.head.en, .slice ea en' ec], 39)]) (by simp)).at1
        go_wp2_with fail
        go_at_call 44
        refine (sl18Copy_any (HA.out.below S5.out.1) HF.out).mono ?_
        rintro e y1 ⟨v1, rfl, o1, b1⟩
        have T1 := (show Hid (Hl w [(w.heap.size + 1, #[.bool false, .slice none 0 0, .slice none 0 0, .int .i64 0, .int .i64 0, .int .i64 0, .slice none 0 0], 39), (w.heap.size, #[.bool a.up, .slice sa sn sc, .slice la ln lc, .int .i64 a.head.no, .int .i64 a.head.area, .int .i64 a.head.en, .slice ea en' ec], 39)] y1) from (S5.out.sub (L' := [(w.heap.size + 1, #[.bool false, .slice none 0 0, .slice none 0 0, .int .i64 0, .int .i64 0, .int .i64 0, .slice none 0 0], 39), (w.heap.size, #[.bool a.up, .slice sa sn sc, .slice la ln lc, .int .i64 a.head.no, .int .i64 a.head.area, .int .i64 a.head.en, .slice ea en' ec], 39)]) (by simp)).below b1)
        have O1 := (show Hid (OwnAy w.heap.size y1 v1 a) from OwnAy.base o1 S5.out.1.size)
        clear b1 o1 c0 c1 c2 c3 c4 c5 c6
        obtain ⟨ya, yn, yc, za, zn, zc, fa, fn, fc, e1, _⟩ := O1.out
        subst e1
        obtain ⟨m0, m1, m2, m3, m4, m5, m6, _⟩ := rk_seven T1.out.at0
        have j0 := rk_thaw (k := 0) T1.out.at0
        have j1 := rk_thaw (k := 1) T1.out.at0
        have j2 := rk_thaw (k := 2) T1.out.at0
        have j3 := rk_thaw (k := 3) T1.out.at0
        have j4 := rk_thaw (k := 4) T1.out.at0
        have j5 := rk_thaw (k := 5) T1.out.at0
        have j6 := rk_thaw (k := 6) T1.out.at0
        have S9 := (show Hid _ from T1.out.set7 (Nat.le_succ _) (by simp) (.bool a.up) (.slice ya yn yc) (.slice za zn zc) (.int .i64 a.head.no) (.int .i64 a.head.area) (.int .i64 a.head.en) (.slice fa fn fc))
        have g9 := grown_set7 y1 (w.heap.size + 1) (.bool a.up) (.slice ya yn yc) (.slice za zn zc) (.int .i64 a.head.no) (.int .i64 a.head.area) (.int .i64 a.head.en) (.slice fa fn fc)
        have O9 := (show Hid _ from OwnAy.turned O1.out g9 (fun j e => by cases e; exact ⟨_, _, _, T1.out.at0, by decide, by decide, by decide⟩))
        clear g9 O1
        go_wp2
        refine bodyPost_ret (arch_res rfl rfl rfl S9.out.at0) rfl ?_
        exact ⟨_, rfl, O9.out, S9.out.1⟩
      · have HHB := (show Hid (headB ⟨kn, ka, ke⟩ = true) from hB)
        rw [hB, Bool.true_and] at HE
        clear hB
        obtain ⟨d0, d1, d2, _⟩ := rk_three S5.out.at0
        obtain ⟨c0, c1, c2, c3, c4, c5, c6, _⟩ := rk_seven S5.out.at2
        go_wp2_with fail
        go_at_call 29
        refine (sl18Bytes_any (H1.out.below S5.out.1) HB.out ⟨kn, ka, ke⟩ HHB.out).mono ?_
        rintro e w6 ⟨u, rfl, o6, b6⟩
        have S6 := (show Hid (Hl w [(w3.heap.size, #[.int .i64 kn, .int .i64 ka, .int .i64 ke], 36), (w.heap.size + 1, #[.bool false, .slice none 0 0, .slice none 0 0, .int .i64 0, .int .i64 0, .int .i64 0, .slice none 0 0], 39), (w.heap.size, #[.bool a.up, .slice sa sn sc, .slice la ln lc, .int .i64 a.head.no, .int .i64 a.head.area, .int .i64 a.head.en, .slice ea en' ec], 39)] w6) from S5.out.below b6)
        have hlen : (bytesA a.disk ⟨kn, ka, ke⟩).length ≤ 1048576 := by
          have h2 := headB_in HHB.out
          rw [bytesA_len]
          simp only at h2 ⊢
          omega
        have CR := srecords_any o6.sl (bytesA_byte a.disk ⟨kn, ka, ke⟩) hlen
        obtain ⟨⟨rs, rb⟩, hrs⟩ : ∃ x, x = recsR (bytesA a.disk ⟨kn, ka, ke⟩) := ⟨_, rfl⟩
        unfold recsA at HE
        rw [← hrs] at CR HE
        simp only at CR HE
        have CR := (show Hid _ from CR)
        clear b6 o6 hlen hrs S5 c0 c1 c2 c3 c4 c5 c6 d0 d1 d2
        go_wp2_with fail
        go_at_call 28
        refine Calls.mono CR.out ?_
        rintro e w7 ⟨v7, rfl, _, b7⟩
        have S7 := (show Hid (Hl w [(w3.heap.size, #[.int .i64 kn, .int .i64 ka, .int .i64 ke], 36), (w.heap.size + 1, #[.bool false, .slice none 0 0, .slice none 0 0, .int .i64 0, .int .i64 0, .int .i64 0, .slice none 0 0], 39), (w.heap.size, #[.bool a.up, .slice sa sn sc, .slice la ln lc, .int .i64 a.head.no, .int .i64 a.head.area, .int .i64 a.head.en, .slice ea en' ec], 39)] w7) from S6.out.below b7)
        clear b7 CR S6
        cases rb
        · have e1 := HE.out
          rw [if_pos rfl] at e1
          cases e1
          clear HE hu
          go_upto_region 10 with fail
          obtain ⟨c0, c1, c2, c3, c4, c5, c6, _⟩ := rk_seven (S7.out.sub (L' := [(w.heap.size + 1, #[.bool false, .slice none 0 0, .slice none 0 0, .int .i64 0, .int .i64 0, .int .i64 0, .slice none 0 0], 39), (w.heap.size, #[.bool a.up, .slice sa sn sc, .slice la ln lc, .int .i64 a.head.no, .int .i64 a.head.area, .int .i64 a.head.en, .slice ea en' ec], 39)]) (by simp)).at1
          go_wp2_with fail
          go_at_call 44
          refine (sl18Copy_any (HA.out.below S7.out.1) HF.out).mono ?_
          rintro e y1 ⟨v1, rfl, o1, b1⟩
          have T1 := (show Hid (Hl w [(w.heap.size + 1, #[.bool false, .slice none 0 0, .slice none 0 0, .int .i64 0, .int .i64 0, .int .i64 0, .slice none 0 0], 39), (w.heap.size, #[.bool a.up, .slice sa sn sc, .slice la ln lc, .int .i64 a.head.no, .int .i64 a.head.area, .int .i64 a.head.en, .slice ea en' ec], 39)] y1) from (S7.out.sub (L' := [(w.heap.size + 1, #[.bool false, .slice none 0 0, .slice none 0 0, .int .i64 0, .int .i64 0, .int .i64 0, .slice none 0 0], 39), (w.heap.size, #[.bool a.up, .slice sa sn sc, .slice la ln lc, .int .i64 a.head.no, .int .i64 a.head.area, .int .i64 a.head.en, .slice ea en' ec], 39)]) (by simp)).below b1)
          have O1 := (show Hid (OwnAy w.heap.size y1 v1 a) from OwnAy.base o1 S7.out.1.size)
          clear b1 o1 c0 c1 c2 c3 c4 c5 c6
          obtain ⟨ya, yn, yc, za, zn, zc, fa, fn, fc, e1, _⟩ := O1.out
          subst e1
          obtain ⟨m0, m1, m2, m3, m4, m5, m6, _⟩ := rk_seven T1.out.at0
          have j0 := rk_thaw (k := 0) T1.out.at0
          have j1 := rk_thaw (k := 1) T1.out.at0
          have j2 := rk_thaw (k := 2) T1.out.at0
          have j3 := rk_thaw (k := 3) T1.out.at0
          have j4 := rk_thaw (k := 4) T1.out.at0
          have j5 := rk_thaw (k := 5) T1.out.at0
          have j6 := rk_thaw (k := 6) T1.out.at0
          have S9 := (show Hid _ from T1.out.set7 (Nat.le_succ _) (by simp) (.bool a.up) (.slice ya yn yc) (.slice za zn zc) (.int .i64 a.head.no) (.int .i64 a.head.area) (.int .i64 a.head.en) (.slice fa fn fc))
          have g9 := grown_set7 y1 (w.heap.size + 1) (.bool a.up) (.slice ya yn yc) (.slice za zn zc) (.int .i64 a.head.no) (.int .i64 a.head.area) (.int .i64 a.head.en) (.slice fa fn fc)
          have O9 := (show Hid _ from OwnAy.turned O1.out g9 (fun j e => by cases e; exact ⟨_, _, _, T1.out.at0, by decide, by decide, by decide⟩))
          clear g9 O1
          go_wp2
          refine bodyPost_ret (arch_res rfl rfl rfl S9.out.at0) rfl ?_
          exact ⟨_, rfl, O9.out, S9.out.1⟩
        · have e1 := HE.out
          rw [if_neg (by decide)] at e1
          cases e1
          clear HE hu
          have CC := (show Hid (Calls Tryz.prog 45 #[.agg #[.slice sa sn sc, .slice la ln lc]] w7.drew fun e w' => ∃ ta tn tc ma mn mc, e = .returned (.agg #[.slice ta tn tc, .slice ma mn mc]) ∧ OwnDy w.heap.size w' (.agg #[.slice ta tn tc, .slice ma mn mc]) a.disk ∧ Hl w [(w3.heap.size, #[.int .i64 kn, .int .i64 ka, .int .i64 ke], 36), (w.heap.size + 1, #[.bool false, .slice none 0 0, .slice none 0 0, .int .i64 0, .int .i64 0, .int .i64 0, .slice none 0 0], 39), (w.heap.size, #[.bool a.up, .slice sa sn sc, .slice la ln lc, .int .i64 a.head.no, .int .i64 a.head.area, .int .i64 a.head.en, .slice ea en' ec], 39)] w') from (sl15Copy_any (H1.out.below (S7.out.below (below_drewN 1)).1) HF.out.d).mono (by
            rintro e w' ⟨v', rfl, o, b⟩
            have o' := OwnDy.base (OwnDy.of (OwnDz.of o)) (S7.out.below (below_drewN 1)).1.size
            obtain ⟨_, _, _, _, _, _, rfl, _⟩ := o
            exact ⟨_, _, _, _, _, _, rfl, o', (S7.out.below (below_drewN 1)).below b⟩))
          have CU := (show Hid (∀ (W : World) (v : Value), OwnDy w.heap.size W v a.disk → Hl w [(w3.heap.size, #[.int .i64 kn, .int .i64 ka, .int .i64 ke], 36), (w.heap.size + 1, #[.bool false, .slice none 0 0, .slice none 0 0, .int .i64 0, .int .i64 0, .int .i64 0, .slice none 0 0], 39), (w.heap.size, #[.bool a.up, .slice sa sn sc, .slice la ln lc, .int .i64 a.head.no, .int .i64 a.head.area, .int .i64 a.head.en, .slice ea en' ec], 39)] W → Calls Tryz.prog 50 #[v, .agg #[.int .i64 kn, .int .i64 ka, .int .i64 ke]] W fun e w' => ∃ ya yn yc za zn zc fa fn fc, e = .returned (.agg #[.bool true, .slice ya yn yc, .slice za zn zc, .int .i64 kn, .int .i64 ka, .int .i64 ke, .slice fa fn fc]) ∧ OwnAy w.heap.size w' (.agg #[.bool true, .slice ya yn yc, .slice za zn zc, .int .i64 kn, .int .i64 ka, .int .i64 ke, .slice fa fn fc]) ⟨true, a.disk, ⟨kn, ka, ke⟩, indexA a.disk ⟨kn, ka, ke⟩⟩ ∧ Hl w [(w3.heap.size, #[.int .i64 kn, .int .i64 ka, .int .i64 ke], 36), (w.heap.size + 1, #[.bool false, .slice none 0 0, .slice none 0 0, .int .i64 0, .int .i64 0, .int .i64 0, .slice none 0 0], 39), (w.heap.size, #[.bool a.up, .slice sa sn sc, .slice la ln lc, .int .i64 a.head.no, .int .i64 a.head.area, .int .i64 a.head.en, .slice ea en' ec], 39)] w') from fun W v o s => (sl18Up_any o s.1.size HB.out ⟨kn, ka, ke⟩ HHB.out).mono (by
            rintro e w' ⟨v', rfl, o, b⟩
            have o' := o
            obtain ⟨_, _, _, _, _, _, _, _, _, rfl, _⟩ := o
            exact ⟨_, _, _, _, _, _, _, _, _, rfl, o', s.below b⟩))
          have pk := fun (W : World) (h : Hl w [(w3.heap.size, #[.int .i64 kn, .int .i64 ka, .int .i64 ke], 36), (w.heap.size + 1, #[.bool false, .slice none 0 0, .slice none 0 0, .int .i64 0, .int .i64 0, .int .i64 0, .slice none 0 0], 39), (w.heap.size, #[.bool a.up, .slice sa sn sc, .slice la ln lc, .int .i64 a.head.no, .int .i64 a.head.area, .int .i64 a.head.en, .slice ea en' ec], 39)] W) => (h.sub (L' := [(w3.heap.size, #[.int .i64 kn, .int .i64 ka, .int .i64 ke], 36), (w.heap.size, #[.bool a.up, .slice sa sn sc, .slice la ln lc, .int .i64 a.head.no, .int .i64 a.head.area, .int .i64 a.head.en, .slice ea en' ec], 39)]) (by simp))
          have KD := (show Hid (Hl w [(w3.heap.size, #[.int .i64 kn, .int .i64 ka, .int .i64 ke], 36), (w.heap.size, #[.bool a.up, .slice sa sn sc, .slice la ln lc, .int .i64 a.head.no, .int .i64 a.head.area, .int .i64 a.head.en, .slice ea en' ec], 39)] w7.drew) from pk _ (S7.out.below (below_drewN 1)))
          have KS := (show Hid (∀ W, Hl w [(w3.heap.size, #[.int .i64 kn, .int .i64 ka, .int .i64 ke], 36), (w.heap.size, #[.bool a.up, .slice sa sn sc, .slice la ln lc, .int .i64 a.head.no, .int .i64 a.head.area, .int .i64 a.head.en, .slice ea en' ec], 39)] W → W.cell? ⟨w.heap.size, 1, none⟩ = some (.slice sa sn sc) ∧ W.cell? ⟨w.heap.size, 2, none⟩ = some (.slice la ln lc) ∧ W.cell? ⟨w3.heap.size, 0, none⟩ = some (.int .i64 kn) ∧ W.cell? ⟨w3.heap.size, 1, none⟩ = some (.int .i64 ka) ∧ W.cell? ⟨w3.heap.size, 2, none⟩ = some (.int .i64 ke) ∧ Hl w [(w3.heap.size, #[.int .i64 kn, .int .i64 ka, .int .i64 ke], 36), (w.heap.size, #[.bool a.up, .slice sa sn sc, .slice la ln lc, .int .i64 a.head.no, .int .i64 a.head.area, .int .i64 a.head.en, .slice ea en' ec], 39)] W) from fun W h => ⟨(rk_seven h.at1).2.1, (rk_seven h.at1).2.2.1, (rk_three h.at0).1, (rk_three h.at0).2.1, (rk_three h.at0).2.2.1, h⟩)
          have hw3 : w.heap.size + 1 < w3.heap.size := HZ3.out
          go_upto_region 11 with fail
          go_region_held3 (fun w' => w'.cell? ⟨w.heap.size, 1, none⟩ = some (.slice sa sn sc) ∧ w'.cell? ⟨w.heap.size, 2, none⟩ = some (.slice la ln lc) ∧ w'.cell? ⟨w3.heap.size, 0, none⟩ = some (.int .i64 kn) ∧ w'.cell? ⟨w3.heap.size, 1, none⟩ = some (.int .i64 ka) ∧ w'.cell? ⟨w3.heap.size, 2, none⟩ = some (.int .i64 ke) ∧ Hl w [(w3.heap.size, #[.int .i64 kn, .int .i64 ka, .int .i64 ke], 36), (w.heap.size, #[.bool a.up, .slice sa sn sc, .slice la ln lc, .int .i64 a.head.no, .int .i64 a.head.area, .int .i64 a.head.en, .slice ea en' ec], 39)] w')
            (with_reducible first | exact KS.out _ KD.out | exact KS.out _ P8.out | exact KS.out _ P9.out | exact KS.out _ PT.out)
            (first
            | (go_at_call 45
               refine Calls.mono CC.out ?_
               rintro e y8 ⟨ta, tn, tc, ma, mn, mc, rfl, o8, s8⟩
               have T8 := (show Hid (Hl w [(w3.heap.size, #[.int .i64 kn, .int .i64 ka, .int .i64 ke], 36), (w.heap.size + 1, #[.bool false, .slice none 0 0, .slice none 0 0, .int .i64 0, .int .i64 0, .int .i64 0, .slice none 0 0], 39), (w.heap.size, #[.bool a.up, .slice sa sn sc, .slice la ln lc, .int .i64 a.head.no, .int .i64 a.head.area, .int .i64 a.head.en, .slice ea en' ec], 39)] y8) from s8)
               have O8 := (show Hid (OwnDy w.heap.size y8 (.agg #[.slice ta tn tc, .slice ma mn mc]) a.disk) from o8)
               have P8 := (show Hid (Hl w [(w3.heap.size, #[.int .i64 kn, .int .i64 ka, .int .i64 ke], 36), (w.heap.size, #[.bool a.up, .slice sa sn sc, .slice la ln lc, .int .i64 a.head.no, .int .i64 a.head.area, .int .i64 a.head.en, .slice ea en' ec], 39)] y8) from pk _ s8)
               clear o8 s8)
            | (go_at_call 50
               refine Calls.mono (CU.out _ _ O8.out T8.out) ?_
               rintro e y9 ⟨ya, yn, yc, za, zn, zc, fa, fn, fc, rfl, o9, s9⟩
               have P9 := (show Hid (Hl w [(w3.heap.size, #[.int .i64 kn, .int .i64 ka, .int .i64 ke], 36), (w.heap.size, #[.bool a.up, .slice sa sn sc, .slice la ln lc, .int .i64 a.head.no, .int .i64 a.head.area, .int .i64 a.head.en, .slice ea en' ec], 39)] y9) from pk _ s9)
               have T9 := (show Hid (Hl w [(w.heap.size + 1, #[.bool false, .slice none 0 0, .slice none 0 0, .int .i64 0, .int .i64 0, .int .i64 0, .slice none 0 0], 39), (w3.heap.size, #[.int .i64 kn, .int .i64 ka, .int .i64 ke], 36), (w.heap.size, #[.bool a.up, .slice sa sn sc, .slice la ln lc, .int .i64 a.head.no, .int .i64 a.head.area, .int .i64 a.head.en, .slice ea en' ec], 39)] y9) from s9.sub (by simp))
               have O9 := (show Hid (OwnAy w.heap.size y9 (.agg #[.bool true, .slice ya yn yc, .slice za zn zc, .int .i64 kn, .int .i64 ka, .int .i64 ke, .slice fa fn fc]) ⟨true, a.disk, ⟨kn, ka, ke⟩, indexA a.disk ⟨kn, ka, ke⟩⟩) from o9)
               obtain ⟨m0, m1, m2, m3, m4, m5, m6, _⟩ := rk_seven T9.out.at0
               have j0 := rk_thaw (k := 0) T9.out.at0
               have j1 := rk_thaw (k := 1) T9.out.at0
               have j2 := rk_thaw (k := 2) T9.out.at0
               have j3 := rk_thaw (k := 3) T9.out.at0
               have j4 := rk_thaw (k := 4) T9.out.at0
               have j5 := rk_thaw (k := 5) T9.out.at0
               have j6 := rk_thaw (k := 6) T9.out.at0
               have PS := (show Hid _ from T9.out.set7 (Nat.le_succ _) (by simp; omega) (.bool true) (.slice ya yn yc) (.slice za zn zc) (.int .i64 kn) (.int .i64 ka) (.int .i64 ke) (.slice fa fn fc))
               have PT := (show Hid _ from PS.out.tail)
               clear o9 s9))
          all_goals go_wp2
          all_goals refine bodyPost_ret (arch_res rfl rfl rfl PS.out.at0) rfl ?_
          all_goals
            have g9 := grown_set7 y9 (w.heap.size + 1) (.bool true) (.slice ya yn yc) (.slice za zn zc) (.int .i64 kn) (.int .i64 ka) (.int .i64 ke) (.slice fa fn fc)
            exact ⟨_, rfl, OwnAy.turned O9.out g9 (fun j e => by cases e; exact ⟨_, _, _, T9.out.at0, by decide, by decide, by decide⟩), PS.out.1⟩
    · rw [if_pos hu] at e1
      cases e1
      rw [hu] at c0
      clear HQ hup
      go_upto_region 4 with fail
      clear c0 c1 c2 c3 c4 c5 c6 hu
      obtain ⟨c0, c1, c2, c3, c4, c5, c6, _⟩ := rk_seven S2.out.at1
      go_wp2_with fail
      go_at_call 44
      refine (sl18Copy_any (HA.out.below S2.out.1) HF.out).mono ?_
      rintro e y1 ⟨v1, rfl, o1, b1⟩
      have T1 := (show Hid (Hl w [(w.heap.size + 1, #[.bool false, .slice none 0 0, .slice none 0 0, .int .i64 0, .int .i64 0, .int .i64 0, .slice none 0 0], 39), (w.heap.size, #[.bool a.up, .slice sa sn sc, .slice la ln lc, .int .i64 a.head.no, .int .i64 a.head.area, .int .i64 a.head.en, .slice ea en' ec], 39)] y1) from S2.out.below b1)
      have O1 := (show Hid (OwnAy w.heap.size y1 v1 a) from OwnAy.base o1 S2.out.1.size)
      clear b1 o1 c0 c1 c2 c3 c4 c5 c6
      obtain ⟨ya, yn, yc, za, zn, zc, fa, fn, fc, e1, _⟩ := O1.out
      subst e1
      obtain ⟨m0, m1, m2, m3, m4, m5, m6, _⟩ := rk_seven T1.out.at0
      have j0 := rk_thaw (k := 0) T1.out.at0
      have j1 := rk_thaw (k := 1) T1.out.at0
      have j2 := rk_thaw (k := 2) T1.out.at0
      have j3 := rk_thaw (k := 3) T1.out.at0
      have j4 := rk_thaw (k := 4) T1.out.at0
      have j5 := rk_thaw (k := 5) T1.out.at0
      have j6 := rk_thaw (k := 6) T1.out.at0
      have S9 := (show Hid _ from T1.out.set7 (Nat.le_succ _) (by simp) (.bool a.up) (.slice ya yn yc) (.slice za zn zc) (.int .i64 a.head.no) (.int .i64 a.head.area) (.int .i64 a.head.en) (.slice fa fn fc))
      have g9 := grown_set7 y1 (w.heap.size + 1) (.bool a.up) (.slice ya yn yc) (.slice za zn zc) (.int .i64 a.head.no) (.int .i64 a.head.area) (.int .i64 a.head.en) (.slice fa fn fc)
      have O9 := (show Hid _ from OwnAy.turned O1.out g9 (fun j e => by cases e; exact ⟨_, _, _, T1.out.at0, by decide, by decide, by decide⟩))
      clear g9 O1
      go_wp2
      refine bodyPost_ret (arch_res rfl rfl rfl S9.out.at0) rfl ?_
      exact ⟨_, rfl, O9.out, S9.out.1⟩
end Go.Proofs.YtokkigfjabbdaaaGreatDoor

/- The specification's ArchiveUrls (written by mk/sar5.py). No condition. -/
namespace Go.Proofs.YtokkigfjabbdaaaGreatDoor
open Go.RowKit
set_option maxRecDepth 100000
set_option linter.unusedVariables false

set_option maxHeartbeats 4000000 in
set_option maxRecDepth 100000 in
theorem sarUrls_any {w : World} {v : Value} {a : PArch} (h : ArAt w v a) (hf : ArFit a) :
    Calls Tryz.prog 12 #[v] w fun e w' => ∃ v', e = .returned (.tuple #[v', .int .i64 (urlsA a).2]) ∧ w'.ownsRow w.heap.size 9 1 v' (urlsA a).1.length (strCells (urlsA a).1) ∧ Below w.heap.size w w' := by
  have HA := (show Hid (ArAt w v a) from h)
  have HF := (show Hid (ArFit a) from hf)
  have hn : a.list.length ≤ 1048576 := hf.el
  obtain ⟨⟨us, uc⟩, hu⟩ : ∃ x, x = urlsA a := ⟨_, rfl⟩
  have HQ := (show Hid ((us, uc) = urlsA a) from hu)
  rw [← hu]
  simp only
  obtain ⟨q, hq⟩ : ∃ q, q = archB a := ⟨_, rfl⟩
  obtain ⟨sa, sn, sc, la, ln, lc, ea, en', ec, rfl, h1, h2⟩ := h
  obtain ⟨ea', ec', e2, _, _, hca⟩ := h2.pair
  cases e2
  have HCA := (show Hid _ from hca)
  obtain ⟨iS, hiS, hs0, hs1, hs2⟩ := info_parts Tryz.infoStr
  have hl := (Hl.refl w).new #[.bool a.up, .slice sa sn sc, .slice la ln lc, .int .i64 a.head.no, .int .i64 a.head.area, .int .i64 a.head.en, .slice ea a.list.length ec] 39
  have hl1 := hl.below ((Below.refl _ _).alloc (Nat.le_refl _) (.cells #[] 9))
  have o1 := empty_row (w.alloc (.cells #[.bool a.up, .slice sa sn sc, .slice la ln lc, .int .i64 a.head.no, .int .i64 a.head.area, .int .i64 a.head.en, .slice ea a.list.length ec] 39)) w.heap.size 9 1 hl.1.size
  rw [World.size_alloc] at o1
  obtain ⟨w1, hw1⟩ : ∃ x, x = (w.alloc (.cells #[.bool a.up, .slice sa sn sc, .slice la ln lc, .int .i64 a.head.no, .int .i64 a.head.area, .int .i64 a.head.en, .slice ea a.list.length ec] 39)).alloc (.cells #[] 9) := ⟨_, rfl⟩
  rw [← hw1] at hl1 o1
  have HL := (show Hid (Hl w [(w.heap.size, #[.bool a.up, .slice sa sn sc, .slice la ln lc, .int .i64 a.head.no, .int .i64 a.head.area, .int .i64 a.head.en, .slice ea a.list.length ec], 39)] w1) from hl1)
  have O1 := (show Hid (w1.ownsRow w.heap.size 9 1 (.slice (some ⟨w.heap.size + 1, 0, none⟩) 0 0) 0 []) from o1)
  have CO := sarOk_any (HA.out.below hl1.1) hf
  rw [← hq] at CO
  have CO := (show Hid _ from CO)
  have HAQ := (show Hid (q = archB a) from hq)
  clear hl hl1 o1 h1 h2 hf hq hu hca
  go_enter Tryz.func12, Tryz.ntmps12
  go_wp2_with fail
  go_at_call 8
  rw [← hw1]
  refine Calls.mono CO.out ?_
  rintro e w2 ⟨rfl, b2⟩
  have S2 := (show Hid (Hl w [(w.heap.size, #[.bool a.up, .slice sa sn sc, .slice la ln lc, .int .i64 a.head.no, .int .i64 a.head.area, .int .i64 a.head.en, .slice ea a.list.length ec], 39)] w2) from HL.out.below b2)
  have O2 := (show Hid (w2.ownsRow w.heap.size 9 1 (.slice (some ⟨w.heap.size + 1, 0, none⟩) 0 0) 0 []) from ownsRow_below O1.out b2)
  clear b2 hw1 HL CO O1
  cases q
  · have e1 := HQ.out
    rw [urlsA, if_pos HAQ.out.symm] at e1
    cases e1
    clear HQ
    go_wp2
    refine bodyPost_ret (results_tmp2 rfl _ _ _) rfl ?_
    exact ⟨_, rfl, O2.out, S2.out.1⟩
  · obtain ⟨c0, c1, c2, c3, c4, c5, c6, _⟩ := rk_seven S2.out.at0
    have e1 := HQ.out
    rw [urlsA, if_neg (by rw [← HAQ.out]; decide)] at e1
    cases hup : a.up
    · rw [if_pos hup] at e1
      cases e1
      rw [hup] at c0
      clear HQ
      go_wp2
      refine bodyPost_ret (results_tmp2 rfl _ _ _) rfl ?_
      exact ⟨_, rfl, O2.out, S2.out.1⟩
    · rw [if_neg (by rw [hup]; decide)] at e1
      have eus : us = a.list.map Prod.fst := congrArg Prod.fst e1
      have euc : uc = 0 := congrArg Prod.snd e1
      subst euc
      have hul : us.length = a.list.length := by rw [eus, List.length_map]
      have HU := (show Hid (∀ k (h1 : k < us.length) (h2 : k < a.list.length), us[k] = a.list[k].1) from fun k h1 h2 => by subst eus; simp)
      have HUL := (show Hid (us.length = a.list.length) from hul)
      rw [hup] at c0
      clear HQ e1 eus hul
      go_wp2_with fail
      go_loopw [4, 5] (fun z i wr => ∃ k : Nat, k ≤ a.list.length ∧ i = .int .i64 k ∧ Hid (wr.ownsRow w.heap.size 9 1 z k (strCells (us.take k)) ∧ Hl w [(w.heap.size, #[.bool a.up, .slice sa sn sc, .slice la ln lc, .int .i64 a.head.no, .int .i64 a.head.area, .int .i64 a.head.en, .slice ea a.list.length ec], 39)] wr)) (fun _ i _ => a.list.length - (intOf i).toNat)
      case atStart => exact ⟨0, Nat.zero_le _, rfl, O2.out, S2.out⟩
      case round =>
        clear c0 c1 c2 c3 c4 c5 c6
        obtain ⟨k, hk, rfl, I⟩ := hrel
        obtain ⟨c0, c1, c2, c3, c4, c5, c6, _⟩ := rk_seven I.out.2.at0
        obtain ⟨va, vn, vc, ev⟩ := rk_slice I.out.1
        subst ev
        by_cases hlt : k < a.list.length
        · have hlu : k < us.length := by have := HUL.out; omega
          obtain ⟨b1, o1, rfl, l1, c1', c2'⟩ := HCA.out k hlt
          have d1 : wr.cell? ⟨b1, o1 + k * 2, none⟩ = some (.string a.list[k].1) := (I.out.2.1.cell (p := ⟨b1, o1 + k * 2, none⟩) l1).trans c1'
          have HTK := (show Hid (strCells (us.take k) ++ [.string a.list[k].1] = strCells (us.take (k + 1))) from (show _ = _ by rw [← HU.out k hlu hlt, List.take_succ_eq_append_getElem hlu, strCells_app]; rfl))
          obtain ⟨x, hx⟩ : ∃ x, x = a.list[k].1 := ⟨_, rfl⟩
          rw [← hx] at d1 HTK
          have OA := (show Hid ((wr.alloc (.cells #[.string x] 9)).ownsRow w.heap.size 9 1 (.slice va vn vc) k (strCells (us.take k))) from ownsRow_below I.out.1 ((Below.refl _ _).alloc (Nat.le_refl _) _))
          have LA := (show Hid (Hl w [(w.heap.size, #[.bool a.up, .slice sa sn sc, .slice la ln lc, .int .i64 a.head.no, .int .i64 a.head.area, .int .i64 a.head.en, .slice (some ⟨b1, o1, none⟩) a.list.length ec], 39)] (wr.alloc (.cells #[.string x] 9))) from I.out.2.below ((Below.refl _ _).alloc (Nat.le_refl _) _))
          have SV := (show Hid (Sv 1 (wr.alloc (.cells #[.string x] 9)) (.slice (some ⟨wr.heap.size, 0, none⟩) 1 1) (strCells [x])) from sv_oneStr (World.alloc_heap_new wr _))
          have ZA := (show Hid (w.heap.size ≤ (wr.alloc (.cells #[.string x] 9)).heap.size) from LA.out.1.size)
          clear hx c1' c2'
          go_wp2_with (at_builtin; refine wpList_appV _ rfl _ _ 22 rfl w.heap.size 9 iS _ 1 16 Tryz.underlying22 hiS hs0 hs1 hs2 rfl (by decide) (.slice va vn vc) (.slice (some ⟨wr.heap.size, 0, none⟩) 1 1) k 1 (strCells (us.take k)) (strCells [x]) rfl rfl OA.out SV.out rfl (str_oneCell _) (by omega) (by unfold maxLen; omega) ZA.out ?_; intro v9 w9 o9 g9)
          have L9 := (show Hid (Hl w [(w.heap.size, #[.bool a.up, .slice sa sn sc, .slice la ln lc, .int .i64 a.head.no, .int .i64 a.head.area, .int .i64 a.head.en, .slice (some ⟨b1, o1, none⟩) a.list.length ec], 39)] w9) from LA.out.past g9 (fun r e => ⟨by
            have := (World.ownsRow.lt OA.out r e).1
            omega, fun p hp => by
            rintro rfl
            obtain ⟨c, f, kk⟩ := rk_kind OA.out e
            rw [LA.out.2 p hp] at kk
            simp only [List.mem_cons, List.not_mem_nil, or_false] at hp
            subst hp
            cases kk⟩))
          have O9 := (show Hid (w9.ownsRow w.heap.size 9 1 v9 (k + 1) (strCells (us.take (k + 1)))) from by rw [← HTK.out]; exact o9)
          clear o9 g9
          go_wp2
          go_roundw
          case rel => exact ⟨k + 1, by omega, by go_num, O9.out, L9.out⟩
          case measure => simp [intOf]; omega
        · have hke : k = a.list.length := by omega
          have OE := (show Hid (wr.ownsRow w.heap.size 9 1 (.slice va vn vc) us.length (strCells us)) from (show _ by
            have e := I.out.1
            rw [hke, ← HUL.out, List.take_length] at e
            exact e))
          go_wp2
          refine bodyPost_ret (results_tmp2 rfl _ _ _) rfl ?_
          exact ⟨_, rfl, OE.out, I.out.2.1⟩
end Go.Proofs.YtokkigfjabbdaaaGreatDoor

/- What a law on archives and rows of texts holds while it goes on: the calls on rows of texts. No condition. -/
namespace Go.Proofs.YtokkigfjabbdaaaGreatDoor
open Go.RowKit
set_option maxRecDepth 100000
set_option linter.unusedVariables false

theorem lawS_open : (0 : Nat) = 0 := rfl
section
variable {w : World} {L : List (Nat × Array Value × TypeId)} {R : List (Nat × Nat × Value × PArch)} {Y : List (Nat × Nat × Value × List Int)} {S : List (Nat × Nat × Value × List ByteArray)} {W : World}
theorem La.eqS {u v : Value} {ss : List ByteArray} (h : La w L R Y S W) (hu : Sv 1 W u (strCells ss)) (hv : Sv 1 W v (strCells ss)) (hn : ss.length ≤ 1048576) : Calls Tryz.prog 14 #[u, v] W fun e W' => e = .returned (.bool true) ∧ La w L R Y S W' ∧ Below W.heap.size W W' := by
  refine (eqStringS_any hu hv (by omega) (by omega)).mono ?_
  rintro e W' ⟨rfl, b⟩
  exact ⟨by rw [decide_eq_true rfl], h.below b, b⟩
theorem La.heldS {v : Value} {n : Nat} (h : La w L R Y S W) (hv : Sv 1 W v (strCells (markStrs 1 n))) (hn : n ≤ 1048576) : Calls Tryz.prog 17 #[v, .int .i64 1] W fun e W' => e = .returned (.int .i64 (1 + n)) ∧ La w L R Y S W' ∧ Below W.heap.size W W' := by
  refine (heldStringS_any 1 hv (by decide) (by decide) (by omega)).mono ?_
  rintro e W' ⟨rfl, b⟩
  exact ⟨rfl, h.below b, b⟩
theorem La.mkS {lo hi : Nat} {v : Value} {ss : List ByteArray} (h : La w L R Y ((lo, hi, v, ss) :: S) W) (hn : ss.length ≤ 1048576) (hlo : w.heap.size ≤ lo) (hR : ∀ r ∈ R, r.2.1 ≤ lo ∨ hi ≤ r.1) (hS : ∀ r ∈ S, r.2.1 ≤ lo ∨ hi ≤ r.1) (hL : ∀ p ∈ L, p.2.2 ≠ 9) :
    Calls Tryz.prog 16 #[v, .int .i64 1] W fun e W' => e = .returned (.int .i64 (1 + ss.length)) ∧ La w L R Y ((lo, hi, v, markStrs 1 ss.length) :: S) W' ∧ W.heap.size ≤ W'.heap.size := by
  obtain ⟨o, hh⟩ := h.strs _ (List.mem_cons_self ..)
  simp only at o hh
  refine (markStringS_Y o 1 (by decide) (by decide) (by omega)).mono ?_
  rintro e W' ⟨rfl, o', g⟩
  have f : FrT (fun j => zB v = some j) W W' := .of_grown g (fun j e => e)
  have hlt : ∀ j, zB v = some j → lo ≤ j ∧ j < hi := fun j hj => ⟨(o.lt j hj).1, hh j hj⟩
  refine ⟨rfl, ⟨⟨h.hl.1.trans (f.below h.hl.1.size (fun j hj => by have := (hlt j hj).1; omega)), fun p hp => (f.block _ (lt_of_block (h.hl.2 p hp)) (fun hj => ?_)).trans (h.hl.2 p hp)⟩, fun r hr => ⟨f.ar (h.rows r hr).1 (fun j hj ht => ?_), (h.rows r hr).2⟩, fun y hy => ⟨?_, (h.bys y hy).2⟩, fun s hs => ?_⟩, f.size⟩
  · obtain ⟨c, fr, k⟩ := o.kind hj
    rw [h.hl.2 p hp] at k
    injection k with k
    injection k with _ k2 _
    exact hL p hp k2
  · have q1 := hlt j ht
    have q2 := (h.rows r hr).2 j hj
    have q3 := ((h.rows r hr).1.lt hj).1
    rcases hR r hr with q | q <;> omega
  · have o3 := (h.bys y hy).1
    obtain ⟨hl, ⟨hv, h0⟩ | ⟨g', cap, cur, hv, hB, hb, hr⟩⟩ := o3
    · exact ⟨hl, .inl ⟨hv, h0⟩⟩
    · refine ⟨hl, .inr ⟨g', cap, cur, hv, hB, ?_, hr⟩⟩
      rw [f.block _ (lt_of_block hb) (fun hj => ?_)]
      · exact hb
      · obtain ⟨c, fr, k⟩ := o.kind hj
        rw [hb] at k
        cases k
  · rcases List.mem_cons.mp hs with rfl | hs'
    · refine ⟨?_, hh⟩
      show OwnY _ _ _ _ _ (markStrs 1 ss.length).length _
      rw [markStrs_len]
      exact o'
    · obtain ⟨o2, h2⟩ := h.strs s (List.mem_cons_of_mem _ hs')
      refine ⟨f.rowY o2 (fun j hj ht => ?_), h2⟩
      have q1 := hlt j ht
      have q2 := h2 j hj
      have q3 := (o2.lt j hj).1
      rcases hS s hs' with q | q <;> omega
theorem lawS_end : (0 : Nat) = 0 := rfl
end
end Go.Proofs.YtokkigfjabbdaaaGreatDoor
