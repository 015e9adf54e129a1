/- The exact law of HeadPut, from the program's contract (written by mk/whead2.py). -/
import Derived.Test.YtjokajblihaphaaGreatDoorU31
import Derived.Test.YtjokajblihaphaaGreatDoorU22
import Derived.Test.YtjokajblihaphaaGreatDoorU30
import Derived.Deep.RegionHeld3
import Derived.Test.YtjokajblihaphaaGreatDoorU39
import Derived.Test.YtjokajblihaphaaGreatDoorU17
import Derived.Test.YtjokajblihaphaaGreatDoorU37
import Derived.Test.YtjokajblihaphaaGreatDoorU25
import Derived.Test.YtjokajblihaphaaGreatDoorU23
namespace Go.Proofs.YtjokajblihaphaaGreatDoor
open Go.RowKit
set_option maxRecDepth 100000
set_option linter.unusedVariables false

def HeadPutOz : Prop := ∀ (w : World) (v : Value) (d : PDisk) (h : PHead), DiskAt w v d → DiskFit d → (Lit.int .i64 h.no).wf = true → (Lit.int .i64 h.area).wf = true → (Lit.int .i64 h.en).wf = true → Calls Tryz.prog 128 #[v, headV h] w fun e w' => ∃ v', e = .returned (.tuple #[v', .bool (headPutDk d h).2]) ∧ OwnDz w.heap.size w' v' (headPutDk d h).1 ∧ Below w.heap.size w w'
theorem fit_headPut {d : PDisk} (h : DiskFit d) (q : PHead) : DiskFit (headPutDk d q).1 := by
  unfold headPutDk
  split
  · exact fit_zero
  · split
    · exact h
    · exact fit_put h _ (by rw [packS_size]; omega)

end Go.Proofs.YtjokajblihaphaaGreatDoor

/- The specification's l18Steps (written by mk/sstep1.py). No condition. -/
namespace Go.Proofs.YtjokajblihaphaaGreatDoor
open Go.RowKit
set_option maxRecDepth 100000
set_option linter.unusedVariables false

theorem area_rightS {d : PDisk} {x y : Int} {b : List Int} (h1 : (areaDk d x y b).2 = true) : diskB (step1 d x y b) = true := by
  obtain ⟨hd, ha, h0, _, _, hN⟩ := area_yes h1
  exact areaN_right hd ha (Nat.le_refl _) hN
theorem sync_yesS {d : PDisk} (h : diskB d = true) : (syncDk d).2 = true := by rw [syncDk, if_neg (by rw [h]; decide)]
theorem Tryz.infoDisk : (Tryz.prog.info? 34).map (fun i => (i.zero, i.size, i.bytes)) = some (some (.agg #[.slice none 0 0, .slice none 0 0]), 2, 48) := by kernel_rfl
theorem OwnDy.alloc {B : Nat} {w : World} {v : Value} {d : PDisk} (o : OwnDy B w v d) (X : Obj) : OwnDy B (w.alloc X) v d := OwnDy.below o ((Below.refl _ _).alloc (Nat.le_refl _) X)
/-- A row of eight cells: four disks. -/
theorem sv_four {w : World} {g : Nat} {a1 b1 a2 b2 a3 b3 a4 b4 : Value} {t : TypeId} (h : w.heap[g]? = some (.cells #[a1, b1, a2, b2, a3, b3, a4, b4] t (0, 0))) : Sv 2 w (.slice (some ⟨g, 0, none⟩) 4 4) [a1, b1, a2, b2, a3, b3, a4, b4] := by
  refine ⟨some ⟨g, 0, none⟩, 4, 4, rfl, rfl, Nat.le_refl _, by unfold maxLen; omega, (fun e => by cases e), fun i hi => ⟨g, 0, rfl, ?_⟩⟩
  have hi' : i < 8 := hi
  simp only [World.cell?, Nat.zero_add, h]
  match i, hi' with
  | 0, _ => rfl
  | 1, _ => rfl
  | 2, _ => rfl
  | 3, _ => rfl
  | 4, _ => rfl
  | 5, _ => rfl
  | 6, _ => rfl
  | 7, _ => rfl
/-- What l18Steps answers: the row, whose fourth disk is the last step's. -/
def StepsRow (B : Nat) (W : World) (v : Value) (d : PDisk) : Prop := ∃ a1 b1 a2 b2 a3 b3 sa sn sc la ln lc, W.ownsRow B 34 2 v 4 [a1, b1, a2, b2, a3, b3, .slice sa sn sc, .slice la ln lc] ∧ OwnDy B W (.agg #[.slice sa sn sc, .slice la ln lc]) d
def StepsOut (w : World) (q : Bool) (d : PDisk) (e : Ending) (W : World) : Prop := ∃ sa sn sc, e = .returned (.tuple #[.slice sa sn sc, .bool q]) ∧ (q = true → StepsRow w.heap.size W (.slice sa sn sc) d) ∧ Below w.heap.size w W

set_option maxHeartbeats 4000000 in
set_option maxRecDepth 100000 in
theorem sl18Steps_any {w : World} {v u : Value} {d : PDisk} {x y no ar en : Int} {b : List Int} (hd : DiskAt w v d) (hf : DiskFit d) (hu : Sl .u8 w u b) (hb : ∀ z ∈ b, 0 ≤ z ∧ z ≤ 255) (hbl : b.length ≤ 1099511627776) :
    Calls Tryz.prog 67 #[v, .int .i64 x, .int .i64 y, u, .agg #[.int .i64 no, .int .i64 ar, .int .i64 en]] w fun e w' => StepsOut w (stepsOk d x y b ⟨no, ar, en⟩) (step4 d x y b ⟨no, ar, en⟩) e w' := by
  have HD := (show Hid (DiskAt w v d) from hd)
  have HF := (show Hid (DiskFit d) from hf)
  have HU := (show Hid (Sl .u8 w u b) from hu)
  have HBB := (show Hid (∀ z ∈ b, 0 ≤ z ∧ z ≤ 255) from hb)
  obtain ⟨i0, hi0, hz0, hz1, hz2⟩ := info_parts Tryz.infoDisk
  obtain ⟨sa0, sn0, sc0, la0, ln0, lc0, rfl, _, _⟩ := hd
  obtain ⟨ua, uc, rfl, _⟩ := hu
  have hl := (((Hl.refl w).new #[.slice sa0 sn0 sc0, .slice la0 ln0 lc0] 34).new #[.int .i64 no, .int .i64 ar, .int .i64 en] 35).new #[] 34
  rw [World.size_alloc, World.size_alloc] at hl
  obtain ⟨w0, hw0⟩ : ∃ z, z = ((w.alloc (.cells #[.slice sa0 sn0 sc0, .slice la0 ln0 lc0] 34)).alloc (.cells #[.int .i64 no, .int .i64 ar, .int .i64 en] 35)).alloc (.cells #[] 34) := ⟨_, rfl⟩
  rw [← hw0] at hl
  have H0 := (show Hid (Hl w [(w.heap.size + 1 + 1, #[], 34), (w.heap.size + 1, #[.int .i64 no, .int .i64 ar, .int .i64 en], 35), (w.heap.size, #[.slice sa0 sn0 sc0, .slice la0 ln0 lc0], 34)] w0) from hl)
  have D0 := (show Hid (DiskAt w0 (.agg #[.slice sa0 sn0 sc0, .slice la0 ln0 lc0]) d) from HD.out.below hl.1)
  clear hl hf hb
  go_enter Tryz.func67, Tryz.ntmps67
  have CC := (show Hid _ from sareaPut_any D0.out HF.out x y (HU.out.below H0.out.1) HBB.out hbl)
  go_wp2_with fail
  go_at_call 93
  rw [← hw0]
  refine Calls.mono CC.out ?_
  rintro e v1 ⟨r1, rfl, o1, b1⟩
  have V1 := (show Hid (Hl w [(w.heap.size + 1 + 1, #[], 34), (w.heap.size + 1, #[.int .i64 no, .int .i64 ar, .int .i64 en], 35), (w.heap.size, #[.slice sa0 sn0 sc0, .slice la0 ln0 lc0], 34)] v1) from H0.out.below b1)
  have O1 := (show Hid (OwnDy w.heap.size v1 r1 (step1 d x y b)) from OwnDy.base (.of (.of o1)) H0.out.1.size)
  clear b1 CC hw0
  obtain ⟨sa1, sn1, sc1, la1, ln1, lc1, rfl, _, _⟩ := o1
  cases hk1 : (areaDk d x y b).2
  · have HQ := (show Hid (stepsOk d x y b ⟨no, ar, en⟩ = false) from (show _ = _ by unfold stepsOk; rw [hk1]; rfl))
    have H9 := (show Hid _ from V1.out.new #[.slice sa1 sn1 sc1, .slice la1 ln1 lc1] 34)
    go_wp2
    refine bodyPost_ret (results_tmp2 rfl _ _ _) rfl ?_
    rw [HQ.out]
    exact ⟨_, _, _, rfl, (fun e => by cases e), H9.out.1⟩
  · have HK1 := (show Hid ((areaDk d x y b).2 = true) from hk1)
    clear hk1
    obtain ⟨N1, hN1⟩ : ∃ z, z = v1.heap.size := ⟨_, rfl⟩
    have h1 := V1.out.new #[.slice sa1 sn1 sc1, .slice la1 ln1 lc1] 34
    obtain ⟨w1, hw1⟩ : ∃ z, z = v1.alloc (.cells #[.slice sa1 sn1 sc1, .slice la1 ln1 lc1] 34) := ⟨_, rfl⟩
    rw [← hw1, ← hN1] at h1
    have H1 := (show Hid (Hl w [(N1, #[.slice sa1 sn1 sc1, .slice la1 ln1 lc1], 34), (w.heap.size + 1 + 1, #[], 34), (w.heap.size + 1, #[.int .i64 no, .int .i64 ar, .int .i64 en], 35), (w.heap.size, #[.slice sa0 sn0 sc0, .slice la0 ln0 lc0], 34)] w1) from h1)
    have P1 := (show Hid (OwnDy w.heap.size w1 (.agg #[.slice sa1 sn1 sc1, .slice la1 ln1 lc1]) (step1 d x y b)) from by rw [hw1]; exact OwnDy.alloc O1.out _)
    have D1 := (show Hid (DiskAt w1 (.agg #[.slice sa1 sn1 sc1, .slice la1 ln1 lc1]) (step1 d x y b)) from P1.out.at)
    have F1 := (show Hid (DiskFit (step1 d x y b)) from fit_area HF.out _ _ _)
    clear h1 V1 O1 H0
    go_upto_region 5 with fail
    rw [← hw1, ← hN1]
    clear hw1 hN1
    obtain ⟨c1, c2, _, _⟩ := rk_two H1.out.at0
    have CC := (show Hid _ from sdiskSync_any D1.out F1.out)
    go_wp2_with fail
    go_at_call 94
    refine Calls.mono CC.out ?_
    rintro e v2 ⟨r2, rfl, o2, b2⟩
    have V2 := (show Hid (Hl w [(N1, #[.slice sa1 sn1 sc1, .slice la1 ln1 lc1], 34), (w.heap.size + 1 + 1, #[], 34), (w.heap.size + 1, #[.int .i64 no, .int .i64 ar, .int .i64 en], 35), (w.heap.size, #[.slice sa0 sn0 sc0, .slice la0 ln0 lc0], 34)] v2) from H1.out.below b2)
    have O2 := (show Hid (OwnDy w.heap.size v2 r2 (step2 d x y b)) from OwnDy.base (.of (.of o2)) H1.out.1.size)
    have P1 := (show Hid (OwnDy w.heap.size v2 (.agg #[.slice sa1 sn1 sc1, .slice la1 ln1 lc1]) (step1 d x y b)) from OwnDy.below P1.out b2)
    clear b2 CC c1 c2
    obtain ⟨sa2, sn2, sc2, la2, ln2, lc2, rfl, _, _⟩ := o2
    obtain ⟨N2, hN2⟩ : ∃ z, z = v2.heap.size := ⟨_, rfl⟩
    have h2 := V2.out.new #[.slice sa2 sn2 sc2, .slice la2 ln2 lc2] 34
    obtain ⟨w2, hw2⟩ : ∃ z, z = v2.alloc (.cells #[.slice sa2 sn2 sc2, .slice la2 ln2 lc2] 34) := ⟨_, rfl⟩
    rw [← hw2, ← hN2] at h2
    have H2 := (show Hid (Hl w [(N2, #[.slice sa2 sn2 sc2, .slice la2 ln2 lc2], 34), (N1, #[.slice sa1 sn1 sc1, .slice la1 ln1 lc1], 34), (w.heap.size + 1 + 1, #[], 34), (w.heap.size + 1, #[.int .i64 no, .int .i64 ar, .int .i64 en], 35), (w.heap.size, #[.slice sa0 sn0 sc0, .slice la0 ln0 lc0], 34)] w2) from h2)
    have P1 := (show Hid (OwnDy w.heap.size w2 (.agg #[.slice sa1 sn1 sc1, .slice la1 ln1 lc1]) (step1 d x y b)) from by rw [hw2]; exact OwnDy.alloc P1.out _)
    have P2 := (show Hid (OwnDy w.heap.size w2 (.agg #[.slice sa2 sn2 sc2, .slice la2 ln2 lc2]) (step2 d x y b)) from by rw [hw2]; exact OwnDy.alloc O2.out _)
    have D2 := (show Hid (DiskAt w2 (.agg #[.slice sa2 sn2 sc2, .slice la2 ln2 lc2]) (step2 d x y b)) from P2.out.at)
    have F2 := (show Hid (DiskFit (step2 d x y b)) from fit_sync F1.out)
    clear h2 V2 O2 H1
    go_upto_region 6 with fail
    rw [← hw2, ← hN2]
    clear hw2 hN2
    obtain ⟨c1, c2, _, _⟩ := rk_two H2.out.at0
    obtain ⟨j1, j2, j3, _⟩ := rk_three (H2.out.at (b := w.heap.size + 1) (cs := #[.int .i64 no, .int .i64 ar, .int .i64 en]) (t := 35) (by simp))
    have CC := (show Hid _ from sheadPut_any D2.out F2.out ⟨no, ar, en⟩)
    go_wp2_with fail
    go_at_call 95
    refine Calls.mono CC.out ?_
    rintro e v3 ⟨r3, rfl, o3, b3⟩
    have V3 := (show Hid (Hl w [(N2, #[.slice sa2 sn2 sc2, .slice la2 ln2 lc2], 34), (N1, #[.slice sa1 sn1 sc1, .slice la1 ln1 lc1], 34), (w.heap.size + 1 + 1, #[], 34), (w.heap.size + 1, #[.int .i64 no, .int .i64 ar, .int .i64 en], 35), (w.heap.size, #[.slice sa0 sn0 sc0, .slice la0 ln0 lc0], 34)] v3) from H2.out.below b3)
    have O3 := (show Hid (OwnDy w.heap.size v3 r3 (step3 d x y b ⟨no, ar, en⟩)) from OwnDy.base (.of (.of o3)) H2.out.1.size)
    have P1 := (show Hid (OwnDy w.heap.size v3 (.agg #[.slice sa1 sn1 sc1, .slice la1 ln1 lc1]) (step1 d x y b)) from OwnDy.below P1.out b3)
    have P2 := (show Hid (OwnDy w.heap.size v3 (.agg #[.slice sa2 sn2 sc2, .slice la2 ln2 lc2]) (step2 d x y b)) from OwnDy.below P2.out b3)
    clear b3 CC c1 c2 j1 j2 j3
    obtain ⟨sa3, sn3, sc3, la3, ln3, lc3, rfl, _, _⟩ := o3
    cases hk3 : (headPutDk (step2 d x y b) ⟨no, ar, en⟩).2
    · have HQ := (show Hid (stepsOk d x y b ⟨no, ar, en⟩ = false) from (show _ = _ by unfold stepsOk; rw [HK1.out, hk3]; rfl))
      have H9 := (show Hid _ from V3.out.new #[.slice sa3 sn3 sc3, .slice la3 ln3 lc3] 34)
      go_wp2
      refine bodyPost_ret (results_tmp2 rfl _ _ _) rfl ?_
      rw [HQ.out]
      exact ⟨_, _, _, rfl, (fun e => by cases e), H9.out.1⟩
    · have HK3 := (show Hid ((headPutDk (step2 d x y b) ⟨no, ar, en⟩).2 = true) from hk3)
      clear hk3
      obtain ⟨N3, hN3⟩ : ∃ z, z = v3.heap.size := ⟨_, rfl⟩
      have h3 := V3.out.new #[.slice sa3 sn3 sc3, .slice la3 ln3 lc3] 34
      obtain ⟨w3, hw3⟩ : ∃ z, z = v3.alloc (.cells #[.slice sa3 sn3 sc3, .slice la3 ln3 lc3] 34) := ⟨_, rfl⟩
      rw [← hw3, ← hN3] at h3
      have H3 := (show Hid (Hl w [(N3, #[.slice sa3 sn3 sc3, .slice la3 ln3 lc3], 34), (N2, #[.slice sa2 sn2 sc2, .slice la2 ln2 lc2], 34), (N1, #[.slice sa1 sn1 sc1, .slice la1 ln1 lc1], 34), (w.heap.size + 1 + 1, #[], 34), (w.heap.size + 1, #[.int .i64 no, .int .i64 ar, .int .i64 en], 35), (w.heap.size, #[.slice sa0 sn0 sc0, .slice la0 ln0 lc0], 34)] w3) from h3)
      have P1 := (show Hid (OwnDy w.heap.size w3 (.agg #[.slice sa1 sn1 sc1, .slice la1 ln1 lc1]) (step1 d x y b)) from by rw [hw3]; exact OwnDy.alloc P1.out _)
      have P2 := (show Hid (OwnDy w.heap.size w3 (.agg #[.slice sa2 sn2 sc2, .slice la2 ln2 lc2]) (step2 d x y b)) from by rw [hw3]; exact OwnDy.alloc P2.out _)
      have P3 := (show Hid (OwnDy w.heap.size w3 (.agg #[.slice sa3 sn3 sc3, .slice la3 ln3 lc3]) (step3 d x y b ⟨no, ar, en⟩)) from by rw [hw3]; exact OwnDy.alloc O3.out _)
      have D3 := (show Hid (DiskAt w3 (.agg #[.slice sa3 sn3 sc3, .slice la3 ln3 lc3]) (step3 d x y b ⟨no, ar, en⟩)) from P3.out.at)
      have F3 := (show Hid (DiskFit (step3 d x y b ⟨no, ar, en⟩)) from fit_headPut F2.out _)
      clear h3 V3 O3 H2
      go_upto_region 9 with fail
      rw [← hw3, ← hN3]
      clear hw3 hN3
      obtain ⟨c1, c2, _, _⟩ := rk_two H3.out.at0
      have CC := (show Hid _ from sdiskSync_any D3.out F3.out)
      go_wp2_with fail
      go_at_call 94
      refine Calls.mono CC.out ?_
      rintro e v4 ⟨r4, rfl, o4, b4⟩
      have V4 := (show Hid (Hl w [(N3, #[.slice sa3 sn3 sc3, .slice la3 ln3 lc3], 34), (N2, #[.slice sa2 sn2 sc2, .slice la2 ln2 lc2], 34), (N1, #[.slice sa1 sn1 sc1, .slice la1 ln1 lc1], 34), (w.heap.size + 1 + 1, #[], 34), (w.heap.size + 1, #[.int .i64 no, .int .i64 ar, .int .i64 en], 35), (w.heap.size, #[.slice sa0 sn0 sc0, .slice la0 ln0 lc0], 34)] v4) from H3.out.below b4)
      have O4 := (show Hid (OwnDy w.heap.size v4 r4 (step4 d x y b ⟨no, ar, en⟩)) from OwnDy.base (.of (.of o4)) H3.out.1.size)
      have P1 := (show Hid (OwnDy w.heap.size v4 (.agg #[.slice sa1 sn1 sc1, .slice la1 ln1 lc1]) (step1 d x y b)) from OwnDy.below P1.out b4)
      have P2 := (show Hid (OwnDy w.heap.size v4 (.agg #[.slice sa2 sn2 sc2, .slice la2 ln2 lc2]) (step2 d x y b)) from OwnDy.below P2.out b4)
      have P3 := (show Hid (OwnDy w.heap.size v4 (.agg #[.slice sa3 sn3 sc3, .slice la3 ln3 lc3]) (step3 d x y b ⟨no, ar, en⟩)) from OwnDy.below P3.out b4)
      clear b4 CC c1 c2
      obtain ⟨sa4, sn4, sc4, la4, ln4, lc4, rfl, _, _⟩ := o4
      obtain ⟨N4, hN4⟩ : ∃ z, z = v4.heap.size := ⟨_, rfl⟩
      have h4 := V4.out.new #[.slice sa4 sn4 sc4, .slice la4 ln4 lc4] 34
      obtain ⟨w4, hw4⟩ : ∃ z, z = v4.alloc (.cells #[.slice sa4 sn4 sc4, .slice la4 ln4 lc4] 34) := ⟨_, rfl⟩
      rw [← hw4, ← hN4] at h4
      have H4 := (show Hid (Hl w [(N4, #[.slice sa4 sn4 sc4, .slice la4 ln4 lc4], 34), (N3, #[.slice sa3 sn3 sc3, .slice la3 ln3 lc3], 34), (N2, #[.slice sa2 sn2 sc2, .slice la2 ln2 lc2], 34), (N1, #[.slice sa1 sn1 sc1, .slice la1 ln1 lc1], 34), (w.heap.size + 1 + 1, #[], 34), (w.heap.size + 1, #[.int .i64 no, .int .i64 ar, .int .i64 en], 35), (w.heap.size, #[.slice sa0 sn0 sc0, .slice la0 ln0 lc0], 34)] w4) from h4)
      have P1 := (show Hid (OwnDy w.heap.size w4 (.agg #[.slice sa1 sn1 sc1, .slice la1 ln1 lc1]) (step1 d x y b)) from by rw [hw4]; exact OwnDy.alloc P1.out _)
      have P2 := (show Hid (OwnDy w.heap.size w4 (.agg #[.slice sa2 sn2 sc2, .slice la2 ln2 lc2]) (step2 d x y b)) from by rw [hw4]; exact OwnDy.alloc P2.out _)
      have P3 := (show Hid (OwnDy w.heap.size w4 (.agg #[.slice sa3 sn3 sc3, .slice la3 ln3 lc3]) (step3 d x y b ⟨no, ar, en⟩)) from by rw [hw4]; exact OwnDy.alloc P3.out _)
      have P4 := (show Hid (OwnDy w.heap.size w4 (.agg #[.slice sa4 sn4 sc4, .slice la4 ln4 lc4]) (step4 d x y b ⟨no, ar, en⟩)) from by rw [hw4]; exact OwnDy.alloc O4.out _)
      have D4 := (show Hid (DiskAt w4 (.agg #[.slice sa4 sn4 sc4, .slice la4 ln4 lc4]) (step4 d x y b ⟨no, ar, en⟩)) from P4.out.at)
      have F4 := (show Hid (DiskFit (step4 d x y b ⟨no, ar, en⟩)) from fit_sync F3.out)
      clear h4 V4 O4 H3
      go_upto_region 10 with fail
      rw [← hw4, ← hN4]
      clear hw4 hN4
      obtain ⟨c11, c12, _, _⟩ := rk_two (H4.out.at (b := N1) (cs := #[.slice sa1 sn1 sc1, .slice la1 ln1 lc1]) (t := 34) (by simp))
      obtain ⟨c21, c22, _, _⟩ := rk_two (H4.out.at (b := N2) (cs := #[.slice sa2 sn2 sc2, .slice la2 ln2 lc2]) (t := 34) (by simp))
      obtain ⟨c31, c32, _, _⟩ := rk_two (H4.out.at (b := N3) (cs := #[.slice sa3 sn3 sc3, .slice la3 ln3 lc3]) (t := 34) (by simp))
      obtain ⟨c41, c42, _, _⟩ := rk_two (H4.out.at (b := N4) (cs := #[.slice sa4 sn4 sc4, .slice la4 ln4 lc4]) (t := 34) (by simp))
      have h5 := H4.out.new #[.slice sa1 sn1 sc1, .slice la1 ln1 lc1, .slice sa2 sn2 sc2, .slice la2 ln2 lc2, .slice sa3 sn3 sc3, .slice la3 ln3 lc3, .slice sa4 sn4 sc4, .slice la4 ln4 lc4] 34
      have p5 := OwnDy.alloc P4.out (.cells #[.slice sa1 sn1 sc1, .slice la1 ln1 lc1, .slice sa2 sn2 sc2, .slice la2 ln2 lc2, .slice sa3 sn3 sc3, .slice la3 ln3 lc3, .slice sa4 sn4 sc4, .slice la4 ln4 lc4] 34)
      have e5 : w4.heap[w.heap.size + 1 + 1]? = some (.cells #[] 34 (0, 0)) := H4.out.at (b := w.heap.size + 1 + 1) (cs := #[]) (t := 34) (by simp)
      obtain ⟨w5, hw5⟩ : ∃ z, z = w4.alloc (.cells #[.slice sa1 sn1 sc1, .slice la1 ln1 lc1, .slice sa2 sn2 sc2, .slice la2 ln2 lc2, .slice sa3 sn3 sc3, .slice la3 ln3 lc3, .slice sa4 sn4 sc4, .slice la4 ln4 lc4] 34) := ⟨_, rfl⟩
      rw [← hw5] at h5 p5
      have SV := (show Hid (Sv 2 w5 (.slice (some ⟨w4.heap.size, 0, none⟩) 4 4) [.slice sa1 sn1 sc1, .slice la1 ln1 lc1, .slice sa2 sn2 sc2, .slice la2 ln2 lc2, .slice sa3 sn3 sc3, .slice la3 ln3 lc3, .slice sa4 sn4 sc4, .slice la4 ln4 lc4]) from sv_four h5.at0)
      have OE := (show Hid (w5.ownsRow w.heap.size 34 2 (.slice (some ⟨w.heap.size + 1 + 1, 0, none⟩) 0 0) 0 []) from ⟨rfl, .inr ⟨_, _, _, rfl, by omega, h5.at (b := w.heap.size + 1 + 1) (cs := #[]) (t := 34) (by simp), Nat.le_refl _, Nat.zero_le _, rfl, rfl⟩⟩)
      have H5 := (show Hid (Below w.heap.size w w5) from h5.1)
      have P5 := (show Hid (OwnDy w.heap.size w5 (.agg #[.slice sa4 sn4 sc4, .slice la4 ln4 lc4]) (step4 d x y b ⟨no, ar, en⟩)) from p5)
      have E5 := (show Hid (w5.heap[w.heap.size + 1 + 1]? = some (.cells #[] 34 (0, 0))) from h5.at (b := w.heap.size + 1 + 1) (cs := #[]) (t := 34) (by simp))
      have HQ := (show Hid (stepsOk d x y b ⟨no, ar, en⟩ = true) from (show _ = _ by unfold stepsOk; rw [HK1.out, HK3.out]; rfl))
      clear h5 p5 e5 P1 P2 P3 P4 D0 D1 D2 D3 D4
      go_wp2_with (at_builtin
                   rw [← hw5]
                   refine wpList_appV _ rfl (.tmp 52) (.tmp 57) 70 rfl w.heap.size 34 i0 _ 2 48 Tryz.underlying70 hi0 hz0 hz1 hz2 rfl (by decide) (.slice (some ⟨w.heap.size + 1 + 1, 0, none⟩) 0 0) (.slice (some ⟨w4.heap.size, 0, none⟩) 4 4) 0 4 [] [.slice sa1 sn1 sc1, .slice la1 ln1 lc1, .slice sa2 sn2 sc2, .slice la2 ln2 lc2, .slice sa3 sn3 sc3, .slice la3 ln3 lc3, .slice sa4 sn4 sc4, .slice la4 ln4 lc4] rfl rfl OE.out SV.out rfl (by simp [Value.oneCell']) (by omega) (by unfold maxLen; omega) H5.out.size ?_
                   intro v6 w6 o6 g6
                   have B6 := (show Hid (Below w.heap.size w w6) from H5.out.grown g6 H5.out.size (fun r e => by cases e; show w.heap.size ≤ w.heap.size + 1 + 1; omega))
                   have P6 := (show Hid (OwnDy w.heap.size w6 (.agg #[.slice sa4 sn4 sc4, .slice la4 ln4 lc4]) (step4 d x y b ⟨no, ar, en⟩)) from P5.out.turned g6 (fun j e => by cases e; exact ⟨_, _, _, E5.out, by decide, by decide⟩))
                   obtain ⟨fa, fn, fc, ev⟩ := rk_slice o6
                   subst ev
                   have O6 := (show Hid (w6.ownsRow w.heap.size 34 2 (.slice fa fn fc) 4 [.slice sa1 sn1 sc1, .slice la1 ln1 lc1, .slice sa2 sn2 sc2, .slice la2 ln2 lc2, .slice sa3 sn3 sc3, .slice la3 ln3 lc3, .slice sa4 sn4 sc4, .slice la4 ln4 lc4]) from o6)
                   clear o6 g6 hw5)
      refine bodyPost_ret (results_tmp2 rfl _ _ _) rfl ?_
      rw [HQ.out]
      exact ⟨_, _, _, rfl, fun _ => ⟨_, _, _, _, _, _, _, _, _, _, _, _, O6.out, P6.out⟩, B6.out⟩
end Go.Proofs.YtjokajblihaphaaGreatDoor

/- Plainly: what a compact and a drop write. No condition. -/
namespace Go.Proofs.YtjokajblihaphaaGreatDoor
open Go.RowKit
set_option maxRecDepth 100000
set_option linter.unusedVariables false

def dropR (u : ByteArray) : PRec := ⟨2, u, emptyS⟩
theorem drop_recB {u : ByteArray} (h : urlB u = true) : recB (dropR u) = true := by simp [recB, dropR, h]
theorem packX_byte {ps : List (ByteArray × ByteArray)} (hp : (packX ps).2 = true) (hsz : ∀ p ∈ ps, p.2.size ≤ 1048576) : ∀ x ∈ (packX ps).1, 0 ≤ x ∧ x ≤ 255 := by
  unfold packX at hp ⊢
  cases hq : packE ps with
  | none => rw [hq] at hp; cases hp
  | some b =>
    obtain ⟨e1, e2⟩ := packE_flat ps b hq
    simp only
    intro x hx
    rw [e1] at hx
    simp only [List.mem_flatMap, List.mem_map] at hx
    obtain ⟨r, ⟨p, hp', rfl⟩, hx⟩ := hx
    exact recL_byte (e2 p hp') (hsz p hp') x hx
theorem packX_no {ps : List (ByteArray × ByteArray)} (h : (packX ps).2 = false) : (packX ps).1 = [] := by
  unfold packX at h ⊢
  cases hq : packE ps with
  | none => rfl
  | some b => rw [hq] at h; cases h
/-- The list of a right archive that is up, bounded. -/
theorem arch_list {a : PArch} (h : archB a = true) (hu : a.up = true) : a.list.length ≤ 4096 ∧ ∀ p ∈ a.list, p.1.size ≤ 60 ∧ p.2.size ≤ 4096 := by
  obtain ⟨h1, h2, h3, h4⟩ := archB_up h hu
  have hi := headB_in h1
  rw [← h4]
  refine ⟨by have := indexA_len a.disk a.head; omega, fun p hp => ?_⟩
  have := indexA_size a.disk a.head p hp
  omega
theorem drop_len {u : ByteArray} (h : u.size ≤ 60) : (recL (dropR u)).length ≤ 1048576 := by
  have h1 := form_len (2 : Int)
  have h2 := textForm_len u
  unfold recL
  rw [if_neg (show ¬ (dropR u).kind = 1 from (by decide : ¬ (2 : Int) = 1)), List.append_nil, List.length_append]
  show (form 2).length + (textForm u).length ≤ 1048576
  omega
theorem recL_lenS {r : PRec} (hr : recB r = true) : (recL r).length ≤ 87 + r.body.size := by
  have h1 := form_len r.kind
  have h2 := textForm_len r.url
  have h3 := textForm_len r.body
  have h4 : r.url.size ≤ 60 := by
    have := (recB_kind hr).2.1
    simp only [urlB, inB, Bool.and_eq_true, decide_eq_true_eq] at this
    omega
  unfold recL
  rw [List.length_append, List.length_append]
  split
  · omega
  · rw [List.length_nil]; omega
theorem packE_lenS (m : Nat) : ∀ (ps : List (ByteArray × ByteArray)) (l : List Int), (∀ p ∈ ps, p.2.size ≤ m) → packE ps = some l → l.length ≤ ps.length * (87 + m) := by
  intro ps
  induction ps with
  | nil => intro l _ h; simp only [packE, Option.some.injEq] at h; rw [← h]; exact Nat.zero_le _
  | cons p ps ih =>
    intro l hs h
    unfold packE at h
    split at h
    · rename_i hr
      cases hq : packE ps with
      | none => rw [hq] at h; cases h
      | some l' =>
        rw [hq] at h
        simp only [Option.map_some, Option.some.injEq] at h
        have h1 := ih l' (fun q hq => hs q (List.mem_cons_of_mem _ hq)) hq
        have h2 := recL_lenS hr
        have h3 : (recE p).body.size ≤ m := hs p (List.mem_cons_self ..)
        rw [← h, List.length_append, List.length_cons, Nat.succ_mul]
        omega
    · cases h
theorem packX_lenS {ps : List (ByteArray × ByteArray)} (hs : ∀ p ∈ ps, p.2.size ≤ 4096) (hn : ps.length ≤ 4096) : (packX ps).1.length ≤ 1099511627776 := by
  have h : (packX ps).1.length ≤ ps.length * (87 + 4096) := by
    unfold packX
    cases h : packE ps with
    | none => exact Nat.zero_le _
    | some l => exact packE_lenS 4096 ps l hs h
  omega
theorem well_drop {a : PArch} {u : ByteArray} (h : archB a = true) (hu : a.up = true) (hr : urlB u = true) (hs : stepsOk a.disk a.head.area a.head.en (recL (dropR u)) ⟨a.head.no + 1, a.head.area, a.head.en + (recL (dropR u)).length⟩ = true) : wellA (step4 a.disk a.head.area a.head.en (recL (dropR u)) ⟨a.head.no + 1, a.head.area, a.head.en + (recL (dropR u)).length⟩) = true := by
  obtain ⟨h1, h2, h3, h4⟩ := archB_up h hu
  have e := recs_add h1 h3 (drop_recB hr) (show (dropR u).body.size ≤ 1048576 from Nat.zero_le _) hs
  exact (well_steps hs (by rw [h2]; show a.head.no < a.head.no + 1; omega) (by rw [e])).2.1
theorem well_compact {a : PArch} (h : archB a = true) (hu : a.up = true) (hp : (packX a.list).2 = true) (hs : stepsOk a.disk (1 - a.head.area) 0 (packX a.list).1 ⟨a.head.no + 1, 1 - a.head.area, 0 + (packX a.list).1.length⟩ = true) : wellA (step4 a.disk (1 - a.head.area) 0 (packX a.list).1 ⟨a.head.no + 1, 1 - a.head.area, 0 + (packX a.list).1.length⟩) = true := by
  obtain ⟨h1, h2, h3, h4⟩ := archB_up h hu
  have e := recs_compact hp (fun p hp' => by have := ((arch_list h hu).2 p hp').2; omega) (by rw [Int.zero_add] at hs; exact hs)
  rw [Int.zero_add] at hs ⊢
  exact (well_steps hs (by rw [h2]; show a.head.no < a.head.no + 1; omega) (by rw [e])).2.1
end Go.Proofs.YtjokajblihaphaaGreatDoor
