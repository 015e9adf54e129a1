/- The specification's cutter: remarks, comments, marks, characters (written by mk/scut5.py). No condition. -/
import Derived.Test.YtggfifchkecnjaaGreatDoorY45
import Derived.Deep.QuietTactic
namespace Go.Proofs.YtggfifchkecnjaaGreatDoor
open Go.RowKit
set_option maxRecDepth 100000
set_option linter.unusedVariables false

theorem past_min {ys : List Int} {k : Nat} (h : k ≤ ys.length) : min (k + 1) ys.length = past ys k := by unfold past; split <;> omega
theorem SPage.has {w : World} {v : Value} {xs ys : List Int} (h : SPage w v xs ys) (k : Nat) (hk : k ≤ 5000) (s : ByteArray) (l : List Int) (hs : bs s = l) (hl : ∀ y ∈ l, 1 ≤ y ∧ y ≤ 127) (hz : s.size ≤ 10) :
    Calls Tryz.prog 81 #[v, .int .i64 k, .string s] w fun e w' => e = .returned (.bool (stands ys k l)) ∧ Below w.heap.size w w' := by
  refine (l3Stands_any h.sl k s (by have := h.few; omega) (by omega) (by omega)).mono ?_
  rintro e w' ⟨rfl, n, rfl⟩
  rw [hs, h.ys, stands_clean hl]
  exact ⟨rfl, below_drewN n⟩
structure RBx (w wr : World) : Prop where
  bel : Below w.heap.size w wr
  r : wr.heap[w.heap.size]? = some (.cells #[.int .i64 0, .string ⟨#[]⟩, .slice none 0 0, .string ⟨#[]⟩, .bool false] 30 (0, 0))
theorem RBx.new (w : World) : RBx w (w.alloc (.cells #[.int .i64 0, .string ⟨#[]⟩, .slice none 0 0, .string ⟨#[]⟩, .bool false] 30)) := ⟨(Below.refl _ _).alloc (Nat.le_refl _) _, heap_alloc_new _ _⟩
theorem RBx.below {w wr wr' : World} (h : RBx w wr) (b : Below wr.heap.size wr wr') : RBx w wr' := ⟨h.bel.trans (b.mono h.bel.size), (b.block _ (lt_of_block h.r)).trans h.r⟩
theorem RBx.out {w wr : World} (h : RBx w wr) (k : Int) (nm tx : ByteArray) : (tokSet wr w.heap.size k nm (.slice none 0 0) tx false).heap[w.heap.size]? = some (.cells #[.int .i64 k, .string nm, .slice none 0 0, .string tx, .bool false] 30 (0, 0)) ∧
    (TokIs w.heap.size (tokSet wr w.heap.size k nm (.slice none 0 0) tx false) (tokVal k nm (.slice none 0 0) tx false) ⟨k, nm, [], tx, false⟩ ∧ Below w.heap.size w (tokSet wr w.heap.size k nm (.slice none 0 0) tx false)) :=
  tok_out h.bel (Nat.le_refl _) h.r (nil_row _ _) k nm tx false

set_option maxHeartbeats 1000000 in
theorem l5Remark_any {v : Value} {xs ys : List Int} {w : World} (h : SPage w v xs ys) (i : Nat) (hi : i ≤ ys.length) :
    Calls Tryz.prog 51 #[v, .int .i64 i] w fun e w' => ∃ u, e = .returned (.tuple #[u, .int .i64 ((remM ys i).2 : Nat)]) ∧ TokIs w.heap.size w' u (remM ys i).1 ∧ Below w.heap.size w w' := by
  have hlen := h.len
  have hyl : ys.length ≤ 3000 := by rw [hlen]; exact h.few
  have HP := (show Hid (∀ W, Below w.heap.size w W → SPage W v xs ys) from fun W b => h.below b)
  obtain ⟨la, lc, rfl, _⟩ := h.sl
  obtain ⟨e1, he1⟩ : ∃ z, z = upTo isGr ys i := ⟨_, rfl⟩
  have hie : i ≤ e1 := by rw [he1]; exact upTo_ge _ _ _
  have hel : e1 ≤ ys.length := by rw [he1]; exact upTo_le hi
  obtain ⟨tx, htx⟩ : ∃ z, z = txtOf ys i e1 := ⟨_, rfl⟩
  have HM := (show Hid (remM ys i = (remarkT tx, min (e1 + 1) ys.length)) from (show _ = _ by rw [past_min hel]; unfold remM; rw [← he1, ← htx]))
  have HE1 := (show Hid (upTo isGr ys i = e1) from he1.symm)
  have HTX := (show Hid (txtOf ys i e1 = tx) from htx.symm)
  have hw2 : IntKind.i64.wrap ((e1 : Int) + 1) = ((e1 + 1 : Nat) : Int) := by rw [wrap_fit (by omega) (by omega)]; omega
  clear he1 htx
  obtain ⟨w1, hw1⟩ : ∃ z, z = w.alloc (.cells #[.int .i64 0, .string ⟨#[]⟩, .slice none 0 0, .string ⟨#[]⟩, .bool false] 30) := ⟨_, rfl⟩
  have T1 := (show Hid (RBx w w1) from by rw [hw1]; exact RBx.new w)
  clear h
  go_enter Tryz.func51, Tryz.ntmps51
  go_upto_region 1 with fail
  rw [← hw1]
  clear hw1
  go_wp2_with fail
  go_at_call 86
  refine ((HP.out w1 T1.out.bel).until' i (by omega) false 62 62 62 until_gr).mono ?_
  rintro e w2 ⟨rfl, rfl⟩
  rw [HE1.out]
  go_wp2_with fail
  go_at_call 94
  refine ((HP.out w2 T1.out.bel).txt i e1 hie hel).mono ?_
  rintro e w3 ⟨rfl, b3⟩
  rw [HTX.out]
  have T3 := (show Hid _ from T1.out.below b3)
  clear T1 b3
  go_wp2_with fail
  go_at_call 93
  refine (l1Min_any (e1 + 1) xs.length w3).mono ?_
  rintro e w4 ⟨rfl, rfl⟩
  obtain ⟨o1, o2⟩ := T3.out.out 3 ⟨#[]⟩ tx
  have O2 := (show Hid _ from o2)
  unfold tokSet at o1
  have O1 := (show Hid _ from o1)
  obtain ⟨⟨p0, p1, p2, p3, p4⟩, q0, q1, q2, q3, q4⟩ := tok_cells T3.out.r
  clear o1 o2 T3
  go_wp2
  (try simp only [Exit.inBlock, Exit.then])
  refine bodyPost_ret (tok_res (f := Tryz.f51) (p := 4) (q := 5) rfl (k := 3) (nm := ⟨#[]⟩) (va := .slice none 0 0) (tx := tx) (sf := false) rfl rfl O1.out) rfl ?_
  rw [HM.out, hlen]
  exact ⟨_, rfl, O2.out⟩

set_option maxHeartbeats 1000000 in
theorem l5Char_any {v : Value} {xs ys : List Int} {w : World} (h : SPage w v xs ys) (i : Nat) (hi : i < ys.length) :
    Calls Tryz.prog 46 #[v, .int .i64 i] w fun e w' => ∃ u, e = .returned (.tuple #[u, .int .i64 ((charM ys i).2 : Nat)]) ∧ TokIs w.heap.size w' u (charM ys i).1 ∧ Below w.heap.size w w' := by
  have hlen := h.len
  have hyl : ys.length ≤ 3000 := by rw [hlen]; exact h.few
  have HP := (show Hid (∀ W, Below w.heap.size w W → SPage W v xs ys) from fun W b => h.below b)
  obtain ⟨la, lc, rfl, _⟩ := h.sl
  obtain ⟨x, hx⟩ : ∃ x, x = atL ys i := ⟨_, rfl⟩
  have HM := (show Hid (charM ys i = (charT (strOf (put x)), i + 1)) from (show _ = _ by rw [hx]; rfl))
  have CA := (show Hid (∀ W, Below w.heap.size w W → Calls Tryz.prog 43 #[.slice la xs.length lc, .int .i64 i] W fun e w' => e = .returned (.int .i64 x) ∧ w' = W) from fun W b => by rw [hx]; exact (HP.out W b).at' i)
  have hw2 : IntKind.i64.wrap ((i : Int) + 1) = ((i + 1 : Nat) : Int) := by rw [wrap_fit (by omega) (by omega)]; omega
  have hpl := put_len x
  clear hx
  obtain ⟨w1, hw1⟩ : ∃ z, z = w.alloc (.cells #[.int .i64 0, .string ⟨#[]⟩, .slice none 0 0, .string ⟨#[]⟩, .bool false] 30) := ⟨_, rfl⟩
  have T1 := (show Hid (RBx w w1) from by rw [hw1]; exact RBx.new w)
  clear h
  go_enter Tryz.func46, Tryz.ntmps46
  go_upto_region 1 with fail
  rw [← hw1]
  clear hw1
  go_wp2_with fail
  go_at_call 43
  refine (CA.out w1 T1.out.bel).mono ?_
  rintro e w2 ⟨rfl, rfl⟩
  go_wp2_with fail
  go_at_call 83
  refine (sput_any _ _).mono ?_
  rintro e w3 ⟨vp, rfl, op, b3⟩
  have T3 := (show Hid _ from T1.out.below b3)
  obtain ⟨tx, htx⟩ : ∃ z, z = strOf (put x) := ⟨_, rfl⟩
  rw [← htx] at HM
  have cv := conv_sl op.sl
  rw [← htx] at cv
  clear T1 b3 CA htx
  obtain ⟨o1, o2⟩ := T3.out.out 2 ⟨#[]⟩ tx
  have O2 := (show Hid _ from o2)
  unfold tokSet at o1
  have O1 := (show Hid _ from o1)
  obtain ⟨⟨p0, p1, p2, p3, p4⟩, q0, q1, q2, q3, q4⟩ := tok_cells T3.out.r
  clear o1 o2 T3
  go_wp2
  (try simp only [Exit.inBlock, Exit.then])
  refine bodyPost_ret (tok_res (f := Tryz.f46) (p := 4) (q := 5) rfl (k := 2) (nm := ⟨#[]⟩) (va := .slice none 0 0) (tx := tx) (sf := false) rfl rfl O1.out) rfl ?_
  rw [HM.out]
  exact ⟨_, rfl, O2.out⟩

set_option maxHeartbeats 1000000 in
theorem l5Comment_any {v : Value} {xs ys : List Int} {w : World} (h : SPage w v xs ys) (i : Nat) (hi : i ≤ ys.length) :
    Calls Tryz.prog 92 #[v, .int .i64 i] w fun e w' => ∃ u, e = .returned (.tuple #[u, .int .i64 ((comM ys i).2 : Nat)]) ∧ TokIs w.heap.size w' u (comM ys i).1 ∧ Below w.heap.size w w' := by
  have hlen := h.len
  have hyl : ys.length ≤ 3000 := by rw [hlen]; exact h.few
  have HP := (show Hid (∀ W, Below w.heap.size w W → SPage W v xs ys) from fun W b => h.below b)
  obtain ⟨la, lc, rfl, _⟩ := h.sl
  have hcm : comM ys i = (if stands ys i [62] = true then (remarkT ⟨#[]⟩, i + 1) else if stands ys i [45, 62] = true then (remarkT ⟨#[]⟩, i + 2) else (remarkT (comV ys i i).1, (comV ys i i).2)) := rfl
  obtain ⟨cM, hcM⟩ : ∃ z, z = comM ys i := ⟨_, rfl⟩
  rw [← hcM] at hcm ⊢
  clear hcM
  have hwa1 : IntKind.i64.wrap ((i : Int) + 1) = ((i + 1 : Nat) : Int) := by rw [wrap_fit (by omega) (by omega)]; omega
  have hwa2 : IntKind.i64.wrap ((i : Int) + 2) = ((i + 2 : Nat) : Int) := by rw [wrap_fit (by omega) (by omega)]; omega
  obtain ⟨w1, hw1⟩ : ∃ z, z = w.alloc (.cells #[.int .i64 0, .string ⟨#[]⟩, .slice none 0 0, .string ⟨#[]⟩, .bool false] 30) := ⟨_, rfl⟩
  have T1 := (show Hid (RBx w w1) from by rw [hw1]; exact RBx.new w)
  clear h
  go_enter Tryz.func92, Tryz.ntmps92
  go_upto_region 1 with fail
  rw [← hw1]
  clear hw1
  rcases e1 : stands ys i [62] with _ | _
  rotate_left
  · go_wp2_with fail
    go_at_call 81
    refine ((HP.out w1 T1.out.bel).has i (by omega) _ [62] (by kernel_rfl) (by decide) (by decide)).mono ?_
    rintro e w2 ⟨rfl, b2⟩
    have T2 := (show Hid _ from T1.out.below b2)
    clear b2 T1
    rw [e1]
    rw [if_pos e1] at hcm
    have HM := (show Hid _ from hcm)
    clear hcm e1
    obtain ⟨o1, o2⟩ := T2.out.out 3 ⟨#[]⟩ ⟨#[]⟩
    have O2 := (show Hid _ from o2)
    unfold tokSet at o1
    have O1 := (show Hid _ from o1)
    obtain ⟨⟨p0, p1, p2, p3, p4⟩, q0, q1, q2, q3, q4⟩ := tok_cells T2.out.r
    clear o1 o2 T2
    go_wp2
    (try simp only [Exit.inBlock, Exit.then])
    refine bodyPost_ret (tok_res (f := Tryz.f92) (p := 4) (q := 5) rfl (k := 3) (nm := ⟨#[]⟩) (va := .slice none 0 0) (tx := ⟨#[]⟩) (sf := false) rfl rfl O1.out) rfl ?_
    rw [HM.out]
    exact ⟨_, rfl, O2.out⟩
  rw [if_neg (by rw [e1]; decide)] at hcm
  go_wp2_with fail
  go_at_call 81
  refine ((HP.out w1 T1.out.bel).has i (by omega) _ [62] (by kernel_rfl) (by decide) (by decide)).mono ?_
  rintro e w2 ⟨rfl, b2⟩
  have T2 := (show Hid _ from T1.out.below b2)
  clear b2 T1
  rw [e1]
  clear e1
  rcases e2 : stands ys i [45, 62] with _ | _
  rotate_left
  · go_wp2_with fail
    go_at_call 81
    refine ((HP.out w2 T2.out.bel).has i (by omega) _ [45, 62] (by kernel_rfl) (by decide) (by decide)).mono ?_
    rintro e w3 ⟨rfl, b3⟩
    have T3 := (show Hid _ from T2.out.below b3)
    clear b3 T2
    rw [e2]
    rw [if_pos e2] at hcm
    have HM := (show Hid _ from hcm)
    clear hcm e2
    obtain ⟨o1, o2⟩ := T3.out.out 3 ⟨#[]⟩ ⟨#[]⟩
    have O2 := (show Hid _ from o2)
    unfold tokSet at o1
    have O1 := (show Hid _ from o1)
    obtain ⟨⟨p0, p1, p2, p3, p4⟩, q0, q1, q2, q3, q4⟩ := tok_cells T3.out.r
    clear o1 o2 T3
    go_wp2
    (try simp only [Exit.inBlock, Exit.then])
    refine bodyPost_ret (tok_res (f := Tryz.f92) (p := 4) (q := 5) rfl (k := 3) (nm := ⟨#[]⟩) (va := .slice none 0 0) (tx := ⟨#[]⟩) (sf := false) rfl rfl O1.out) rfl ?_
    rw [HM.out]
    exact ⟨_, rfl, O2.out⟩
  rw [if_neg (by rw [e2]; decide)] at hcm
  go_wp2_with fail
  go_at_call 81
  refine ((HP.out w2 T2.out.bel).has i (by omega) _ [45, 62] (by kernel_rfl) (by decide) (by decide)).mono ?_
  rintro e w3 ⟨rfl, b3⟩
  have T3 := (show Hid _ from T2.out.below b3)
  clear b3 T2
  rw [e2]
  clear e2
  obtain ⟨cv, hcv⟩ : ∃ z, z = comV ys i i := ⟨_, rfl⟩
  rw [← hcv] at hcm
  have HM := (show Hid (cM = (remarkT cv.1, cv.2)) from hcm)
  have HCV := (show Hid (comV ys i i = cv) from hcv.symm)
  clear hcm hcv
  go_wp2_with fail
  go_loopw [6] (fun u wr => ∃ (k : Nat), i ≤ k ∧ k ≤ ys.length ∧ u = .int .i64 k ∧ Hid (RBx w wr ∧ comV ys i k = cv)) (fun u _ => ys.length + 1 - (intOf u).toNat)
  case atStart => exact ⟨i, Nat.le_refl _, hi, rfl, T3.out, HCV.out⟩
  case round =>
    clear T3 HCV
    obtain ⟨k, hik, hkl, rfl, I⟩ := hrel
    have TR := (show Hid (RBx w wr) from I.out.1)
    have HV := (show Hid (comV ys i k = cv) from I.out.2)
    clear I
    by_cases hk : k < ys.length
    · have hkx : (k : Int) < (xs.length : Int) := by omega
      have hw1 : IntKind.i64.wrap ((k : Int) + 1) = ((k + 1 : Nat) : Int) := by rw [wrap_fit (by omega) (by omega)]; omega
      have hw3 : IntKind.i64.wrap ((k : Int) + 3) = ((k + 3 : Nat) : Int) := by rw [wrap_fit (by omega) (by omega)]; omega
      have hw4 : IntKind.i64.wrap ((k : Int) + 4) = ((k + 4 : Nat) : Int) := by rw [wrap_fit (by omega) (by omega)]; omega
      have e3 : ∃ q, stands ys k [45, 45, 62] = q := ⟨_, rfl⟩
      obtain ⟨q3, e3⟩ := e3
      go_wp2_with fail
      go_at_call 81
      refine ((HP.out wr TR.out.bel).has k (by omega) _ [45, 45, 62] (by kernel_rfl) (by decide) (by decide)).mono ?_
      rintro e w4 ⟨rfl, b4⟩
      have T4 := (show Hid _ from TR.out.below b4)
      clear b4 TR
      rw [e3]
      cases q3
      rotate_left
      · have HW := HV.out
        rw [com_three hk e3] at HW
        obtain ⟨tx, htx⟩ : ∃ z, z = txtOf ys i k := ⟨_, rfl⟩
        rw [← htx] at HW
        have HC := (show Hid _ from HW)
        have HTX := (show Hid _ from htx.symm)
        clear HW htx e3
        go_wp2_with fail
        go_at_call 94
        refine ((HP.out w4 T4.out.bel).txt i k hik hkl).mono ?_
        rintro e w5 ⟨rfl, b5⟩
        rw [HTX.out]
        have T5 := (show Hid _ from T4.out.below b5)
        clear T4 b5
        obtain ⟨o1, o2⟩ := T5.out.out 3 ⟨#[]⟩ tx
        have O2 := (show Hid _ from o2)
        unfold tokSet at o1
        have O1 := (show Hid _ from o1)
        obtain ⟨⟨p0, p1, p2, p3, p4⟩, q0, q1, q2, q3, q4⟩ := tok_cells T5.out.r
        clear o1 o2 T5
        go_wp2
        (try simp only [Exit.inBlock, Exit.then])
        refine bodyPost_ret (tok_res (f := Tryz.f92) (p := 4) (q := 5) rfl (k := 3) (nm := ⟨#[]⟩) (va := .slice none 0 0) (tx := tx) (sf := false) rfl rfl O1.out) rfl ?_
        rw [HM.out, ← HC.out]
        exact ⟨_, rfl, O2.out⟩
      have e4 : ∃ q, stands ys k [45, 45, 33, 62] = q := ⟨_, rfl⟩
      obtain ⟨q4, e4⟩ := e4
      go_wp2_with fail
      go_at_call 81
      refine ((HP.out w4 T4.out.bel).has k (by omega) _ [45, 45, 33, 62] (by kernel_rfl) (by decide) (by decide)).mono ?_
      rintro e w5 ⟨rfl, b5⟩
      have T5 := (show Hid _ from T4.out.below b5)
      clear b5 T4
      rw [e4]
      cases q4
      rotate_left
      · have HW := HV.out
        rw [com_four hk e3 e4] at HW
        obtain ⟨tx, htx⟩ : ∃ z, z = txtOf ys i k := ⟨_, rfl⟩
        rw [← htx] at HW
        have HC := (show Hid _ from HW)
        have HTX := (show Hid _ from htx.symm)
        clear HW htx e3 e4
        go_wp2_with fail
        go_at_call 94
        refine ((HP.out w5 T5.out.bel).txt i k hik hkl).mono ?_
        rintro e w6 ⟨rfl, b6⟩
        rw [HTX.out]
        have T6 := (show Hid _ from T5.out.below b6)
        clear T5 b6
        obtain ⟨o1, o2⟩ := T6.out.out 3 ⟨#[]⟩ tx
        have O2 := (show Hid _ from o2)
        unfold tokSet at o1
        have O1 := (show Hid _ from o1)
        obtain ⟨⟨p0, p1, p2, p3, p4⟩, q0, q1, q2, q3, q4⟩ := tok_cells T6.out.r
        clear o1 o2 T6
        go_wp2
        (try simp only [Exit.inBlock, Exit.then])
        refine bodyPost_ret (tok_res (f := Tryz.f92) (p := 4) (q := 5) rfl (k := 3) (nm := ⟨#[]⟩) (va := .slice none 0 0) (tx := tx) (sf := false) rfl rfl O1.out) rfl ?_
        rw [HM.out, ← HC.out]
        exact ⟨_, rfl, O2.out⟩
      have HW := HV.out
      rw [com_next hk e3 e4] at HW
      have HC := (show Hid _ from HW)
      clear HW e3 e4
      go_wp2
      go_roundw
      case rel => exact ⟨k + 1, by omega, hk, rfl, T5.out, HC.out⟩
      case measure => simp [intOf]; omega
    · have hkx : ¬ (k : Int) < (xs.length : Int) := by omega
      have HW := HV.out
      rw [com_out (by omega)] at HW
      have hln : (ys.length : Int) = (xs.length : Int) := by omega
      have hd : IntKind.i64.wrap ((xs.length : Int) - (i : Int)) = ((xs.length - i : Nat) : Int) := by rw [wrap_fit (by omega) (by omega)]; omega
      by_cases c3 : i + 3 ≤ ys.length
      · have g3 : ((3 : Int) ≤ ((xs.length - i : Nat) : Int)) := by omega
        have f3 : IntKind.i64.wrap ((xs.length : Int) - 3) = ((xs.length - 3 : Nat) : Int) := by rw [wrap_fit (by omega) (by omega)]; omega
        obtain ⟨s3, e3⟩ : ∃ q, stands ys (xs.length - 3) [45, 45, 33] = q := ⟨_, rfl⟩
        go_wp2_with fail
        go_at_call 81
        refine ((HP.out wr TR.out.bel).has (xs.length - 3) (by omega) _ [45, 45, 33] (by kernel_rfl) (by decide) (by decide)).mono ?_
        rintro e w1 ⟨rfl, b1⟩
        have T1 := (show Hid _ from TR.out.below b1)
        clear b1 TR
        rw [e3]
        cases s3
        rotate_left
        · have ht : tornE ys i = xs.length - 3 := by unfold tornE; rw [if_pos ⟨c3, by rw [hlen]; exact e3⟩]; omega
          clear e3
          obtain ⟨tx, htx⟩ : ∃ z, z = txtOf ys i (xs.length - 3) := ⟨_, rfl⟩
          have HTX := (show Hid _ from htx.symm)
          have HC := (show Hid (cv = (tx, ys.length)) from (show _ = _ by rw [← HW, htx, ht]))
          clear HW htx ht hd
          go_wp2_with fail
          go_at_call 94
          refine ((HP.out w1 T1.out.bel).txt i (xs.length - 3) (by omega) (by omega)).mono ?_
          rintro e w2 ⟨rfl, b2⟩
          rw [HTX.out]
          have T2 := (show Hid _ from T1.out.below b2)
          clear T1 b2
          obtain ⟨o1, o2⟩ := T2.out.out 3 ⟨#[]⟩ tx
          have O2 := (show Hid _ from o2)
          unfold tokSet at o1
          have O1 := (show Hid _ from o1)
          obtain ⟨⟨p0, p1, p2, p3, p4⟩, q0, q1, q2, q3, q4⟩ := tok_cells T2.out.r
          clear o1 o2 T2
          go_wp2
          (try simp only [Exit.inBlock, Exit.then])
          refine bodyPost_ret (tok_res (f := Tryz.f92) (p := 4) (q := 5) rfl (k := 3) (nm := ⟨#[]⟩) (va := .slice none 0 0) (tx := tx) (sf := false) rfl rfl O1.out) rfl ?_
          rw [HM.out, HC.out, hlen]
          exact ⟨_, rfl, O2.out⟩
        by_cases c2 : i + 2 ≤ ys.length
        · have g2 : ((2 : Int) ≤ ((xs.length - i : Nat) : Int)) := by omega
          have f2 : IntKind.i64.wrap ((xs.length : Int) - 2) = ((xs.length - 2 : Nat) : Int) := by rw [wrap_fit (by omega) (by omega)]; omega
          obtain ⟨s2, e2⟩ : ∃ q, stands ys (xs.length - 2) [45, 45] = q := ⟨_, rfl⟩
          go_wp2_with fail
          go_at_call 81
          refine ((HP.out w1 T1.out.bel).has (xs.length - 2) (by omega) _ [45, 45] (by kernel_rfl) (by decide) (by decide)).mono ?_
          rintro e w2 ⟨rfl, b2⟩
          have T2 := (show Hid _ from T1.out.below b2)
          clear b2 T1
          rw [e2]
          cases s2
          rotate_left
          · have ht : tornE ys i = xs.length - 2 := by unfold tornE; rw [if_neg (fun h => by rw [hlen, e3] at h; exact absurd h.2 (by decide)), if_pos ⟨c2, by rw [hlen]; exact e2⟩]; omega
            clear e2
            obtain ⟨tx, htx⟩ : ∃ z, z = txtOf ys i (xs.length - 2) := ⟨_, rfl⟩
            have HTX := (show Hid _ from htx.symm)
            have HC := (show Hid (cv = (tx, ys.length)) from (show _ = _ by rw [← HW, htx, ht]))
            clear HW htx ht hd
            go_wp2_with fail
            go_at_call 94
            refine ((HP.out w2 T2.out.bel).txt i (xs.length - 2) (by omega) (by omega)).mono ?_
            rintro e w3 ⟨rfl, b3⟩
            rw [HTX.out]
            have T3 := (show Hid _ from T2.out.below b3)
            clear T2 b3
            obtain ⟨o1, o2⟩ := T3.out.out 3 ⟨#[]⟩ tx
            have O2 := (show Hid _ from o2)
            unfold tokSet at o1
            have O1 := (show Hid _ from o1)
            obtain ⟨⟨p0, p1, p2, p3, p4⟩, q0, q1, q2, q3, q4⟩ := tok_cells T3.out.r
            clear o1 o2 T3
            go_wp2
            (try simp only [Exit.inBlock, Exit.then])
            refine bodyPost_ret (tok_res (f := Tryz.f92) (p := 4) (q := 5) rfl (k := 3) (nm := ⟨#[]⟩) (va := .slice none 0 0) (tx := tx) (sf := false) rfl rfl O1.out) rfl ?_
            rw [HM.out, HC.out, hlen]
            exact ⟨_, rfl, O2.out⟩
          by_cases c1 : i + 1 ≤ ys.length
          · have g1 : ((1 : Int) ≤ ((xs.length - i : Nat) : Int)) := by omega
            have f1 : IntKind.i64.wrap ((xs.length : Int) - 1) = ((xs.length - 1 : Nat) : Int) := by rw [wrap_fit (by omega) (by omega)]; omega
            obtain ⟨s1, e1⟩ : ∃ q, stands ys (xs.length - 1) [45] = q := ⟨_, rfl⟩
            go_wp2_with fail
            go_at_call 81
            refine ((HP.out w2 T2.out.bel).has (xs.length - 1) (by omega) _ [45] (by kernel_rfl) (by decide) (by decide)).mono ?_
            rintro e w3 ⟨rfl, b3⟩
            have T3 := (show Hid _ from T2.out.below b3)
            clear b3 T2
            rw [e1]
            cases s1
            rotate_left
            · have ht : tornE ys i = xs.length - 1 := by unfold tornE; rw [if_neg (fun h => by rw [hlen, e3] at h; exact absurd h.2 (by decide)), if_neg (fun h => by rw [hlen, e2] at h; exact absurd h.2 (by decide)), if_pos ⟨c1, by rw [hlen]; exact e1⟩]; omega
              clear e1
              obtain ⟨tx, htx⟩ : ∃ z, z = txtOf ys i (xs.length - 1) := ⟨_, rfl⟩
              have HTX := (show Hid _ from htx.symm)
              have HC := (show Hid (cv = (tx, ys.length)) from (show _ = _ by rw [← HW, htx, ht]))
              clear HW htx ht hd
              go_wp2_with fail
              go_at_call 94
              refine ((HP.out w3 T3.out.bel).txt i (xs.length - 1) (by omega) (by omega)).mono ?_
              rintro e w4 ⟨rfl, b4⟩
              rw [HTX.out]
              have T4 := (show Hid _ from T3.out.below b4)
              clear T3 b4
              obtain ⟨o1, o2⟩ := T4.out.out 3 ⟨#[]⟩ tx
              have O2 := (show Hid _ from o2)
              unfold tokSet at o1
              have O1 := (show Hid _ from o1)
              obtain ⟨⟨p0, p1, p2, p3, p4⟩, q0, q1, q2, q3, q4⟩ := tok_cells T4.out.r
              clear o1 o2 T4
              go_wp2
              (try simp only [Exit.inBlock, Exit.then])
              refine bodyPost_ret (tok_res (f := Tryz.f92) (p := 4) (q := 5) rfl (k := 3) (nm := ⟨#[]⟩) (va := .slice none 0 0) (tx := tx) (sf := false) rfl rfl O1.out) rfl ?_
              rw [HM.out, HC.out, hlen]
              exact ⟨_, rfl, O2.out⟩
            have ht : tornE ys i = xs.length := by unfold tornE; rw [if_neg (fun h => by rw [hlen, e3] at h; exact absurd h.2 (by decide)), if_neg (fun h => by rw [hlen, e2] at h; exact absurd h.2 (by decide)), if_neg (fun h => by rw [hlen, e1] at h; exact absurd h.2 (by decide))]; exact hlen
            obtain ⟨tx, htx⟩ : ∃ z, z = txtOf ys i xs.length := ⟨_, rfl⟩
            have HTX := (show Hid _ from htx.symm)
            have HC := (show Hid (cv = (tx, ys.length)) from (show _ = _ by rw [← HW, htx, ht]))
            clear HW htx ht hd
            go_wp2_with fail
            go_at_call 94
            refine ((HP.out w3 T3.out.bel).txt i xs.length (by omega) (by omega)).mono ?_
            rintro e w4 ⟨rfl, b4⟩
            rw [HTX.out]
            have T4 := (show Hid _ from T3.out.below b4)
            clear T3 b4
            obtain ⟨o1, o2⟩ := T4.out.out 3 ⟨#[]⟩ tx
            have O2 := (show Hid _ from o2)
            unfold tokSet at o1
            have O1 := (show Hid _ from o1)
            obtain ⟨⟨p0, p1, p2, p3, p4⟩, q0, q1, q2, q3, q4⟩ := tok_cells T4.out.r
            clear o1 o2 T4
            go_wp2
            (try simp only [Exit.inBlock, Exit.then])
            refine bodyPost_ret (tok_res (f := Tryz.f92) (p := 4) (q := 5) rfl (k := 3) (nm := ⟨#[]⟩) (va := .slice none 0 0) (tx := tx) (sf := false) rfl rfl O1.out) rfl ?_
            rw [HM.out, HC.out, hlen]
            exact ⟨_, rfl, O2.out⟩
          · exact absurd (show i + 1 ≤ ys.length by omega) c1
        · exact absurd (show i + 2 ≤ ys.length by omega) c2
      · have g3 : ¬ ((3 : Int) ≤ ((xs.length - i : Nat) : Int)) := by omega
        by_cases c2 : i + 2 ≤ ys.length
        · have g2 : ((2 : Int) ≤ ((xs.length - i : Nat) : Int)) := by omega
          have f2 : IntKind.i64.wrap ((xs.length : Int) - 2) = ((xs.length - 2 : Nat) : Int) := by rw [wrap_fit (by omega) (by omega)]; omega
          obtain ⟨s2, e2⟩ : ∃ q, stands ys (xs.length - 2) [45, 45] = q := ⟨_, rfl⟩
          go_wp2_with fail
          go_at_call 81
          refine ((HP.out wr TR.out.bel).has (xs.length - 2) (by omega) _ [45, 45] (by kernel_rfl) (by decide) (by decide)).mono ?_
          rintro e w1 ⟨rfl, b1⟩
          have T1 := (show Hid _ from TR.out.below b1)
          clear b1 TR
          rw [e2]
          cases s2
          rotate_left
          · have ht : tornE ys i = xs.length - 2 := by unfold tornE; rw [if_neg (fun h => c3 h.1), if_pos ⟨c2, by rw [hlen]; exact e2⟩]; omega
            clear e2
            obtain ⟨tx, htx⟩ : ∃ z, z = txtOf ys i (xs.length - 2) := ⟨_, rfl⟩
            have HTX := (show Hid _ from htx.symm)
            have HC := (show Hid (cv = (tx, ys.length)) from (show _ = _ by rw [← HW, htx, ht]))
            clear HW htx ht hd
            go_wp2_with fail
            go_at_call 94
            refine ((HP.out w1 T1.out.bel).txt i (xs.length - 2) (by omega) (by omega)).mono ?_
            rintro e w2 ⟨rfl, b2⟩
            rw [HTX.out]
            have T2 := (show Hid _ from T1.out.below b2)
            clear T1 b2
            obtain ⟨o1, o2⟩ := T2.out.out 3 ⟨#[]⟩ tx
            have O2 := (show Hid _ from o2)
            unfold tokSet at o1
            have O1 := (show Hid _ from o1)
            obtain ⟨⟨p0, p1, p2, p3, p4⟩, q0, q1, q2, q3, q4⟩ := tok_cells T2.out.r
            clear o1 o2 T2
            go_wp2
            (try simp only [Exit.inBlock, Exit.then])
            refine bodyPost_ret (tok_res (f := Tryz.f92) (p := 4) (q := 5) rfl (k := 3) (nm := ⟨#[]⟩) (va := .slice none 0 0) (tx := tx) (sf := false) rfl rfl O1.out) rfl ?_
            rw [HM.out, HC.out, hlen]
            exact ⟨_, rfl, O2.out⟩
          by_cases c1 : i + 1 ≤ ys.length
          · have g1 : ((1 : Int) ≤ ((xs.length - i : Nat) : Int)) := by omega
            have f1 : IntKind.i64.wrap ((xs.length : Int) - 1) = ((xs.length - 1 : Nat) : Int) := by rw [wrap_fit (by omega) (by omega)]; omega
            obtain ⟨s1, e1⟩ : ∃ q, stands ys (xs.length - 1) [45] = q := ⟨_, rfl⟩
            go_wp2_with fail
            go_at_call 81
            refine ((HP.out w1 T1.out.bel).has (xs.length - 1) (by omega) _ [45] (by kernel_rfl) (by decide) (by decide)).mono ?_
            rintro e w2 ⟨rfl, b2⟩
            have T2 := (show Hid _ from T1.out.below b2)
            clear b2 T1
            rw [e1]
            cases s1
            rotate_left
            · have ht : tornE ys i = xs.length - 1 := by unfold tornE; rw [if_neg (fun h => c3 h.1), if_neg (fun h => by rw [hlen, e2] at h; exact absurd h.2 (by decide)), if_pos ⟨c1, by rw [hlen]; exact e1⟩]; omega
              clear e1
              obtain ⟨tx, htx⟩ : ∃ z, z = txtOf ys i (xs.length - 1) := ⟨_, rfl⟩
              have HTX := (show Hid _ from htx.symm)
              have HC := (show Hid (cv = (tx, ys.length)) from (show _ = _ by rw [← HW, htx, ht]))
              clear HW htx ht hd
              go_wp2_with fail
              go_at_call 94
              refine ((HP.out w2 T2.out.bel).txt i (xs.length - 1) (by omega) (by omega)).mono ?_
              rintro e w3 ⟨rfl, b3⟩
              rw [HTX.out]
              have T3 := (show Hid _ from T2.out.below b3)
              clear T2 b3
              obtain ⟨o1, o2⟩ := T3.out.out 3 ⟨#[]⟩ tx
              have O2 := (show Hid _ from o2)
              unfold tokSet at o1
              have O1 := (show Hid _ from o1)
              obtain ⟨⟨p0, p1, p2, p3, p4⟩, q0, q1, q2, q3, q4⟩ := tok_cells T3.out.r
              clear o1 o2 T3
              go_wp2
              (try simp only [Exit.inBlock, Exit.then])
              refine bodyPost_ret (tok_res (f := Tryz.f92) (p := 4) (q := 5) rfl (k := 3) (nm := ⟨#[]⟩) (va := .slice none 0 0) (tx := tx) (sf := false) rfl rfl O1.out) rfl ?_
              rw [HM.out, HC.out, hlen]
              exact ⟨_, rfl, O2.out⟩
            have ht : tornE ys i = xs.length := by unfold tornE; rw [if_neg (fun h => c3 h.1), if_neg (fun h => by rw [hlen, e2] at h; exact absurd h.2 (by decide)), if_neg (fun h => by rw [hlen, e1] at h; exact absurd h.2 (by decide))]; exact hlen
            obtain ⟨tx, htx⟩ : ∃ z, z = txtOf ys i xs.length := ⟨_, rfl⟩
            have HTX := (show Hid _ from htx.symm)
            have HC := (show Hid (cv = (tx, ys.length)) from (show _ = _ by rw [← HW, htx, ht]))
            clear HW htx ht hd
            go_wp2_with fail
            go_at_call 94
            refine ((HP.out w2 T2.out.bel).txt i xs.length (by omega) (by omega)).mono ?_
            rintro e w3 ⟨rfl, b3⟩
            rw [HTX.out]
            have T3 := (show Hid _ from T2.out.below b3)
            clear T2 b3
            obtain ⟨o1, o2⟩ := T3.out.out 3 ⟨#[]⟩ tx
            have O2 := (show Hid _ from o2)
            unfold tokSet at o1
            have O1 := (show Hid _ from o1)
            obtain ⟨⟨p0, p1, p2, p3, p4⟩, q0, q1, q2, q3, q4⟩ := tok_cells T3.out.r
            clear o1 o2 T3
            go_wp2
            (try simp only [Exit.inBlock, Exit.then])
            refine bodyPost_ret (tok_res (f := Tryz.f92) (p := 4) (q := 5) rfl (k := 3) (nm := ⟨#[]⟩) (va := .slice none 0 0) (tx := tx) (sf := false) rfl rfl O1.out) rfl ?_
            rw [HM.out, HC.out, hlen]
            exact ⟨_, rfl, O2.out⟩
          · exact absurd (show i + 1 ≤ ys.length by omega) c1
        · have g2 : ¬ ((2 : Int) ≤ ((xs.length - i : Nat) : Int)) := by omega
          by_cases c1 : i + 1 ≤ ys.length
          · have g1 : ((1 : Int) ≤ ((xs.length - i : Nat) : Int)) := by omega
            have f1 : IntKind.i64.wrap ((xs.length : Int) - 1) = ((xs.length - 1 : Nat) : Int) := by rw [wrap_fit (by omega) (by omega)]; omega
            obtain ⟨s1, e1⟩ : ∃ q, stands ys (xs.length - 1) [45] = q := ⟨_, rfl⟩
            go_wp2_with fail
            go_at_call 81
            refine ((HP.out wr TR.out.bel).has (xs.length - 1) (by omega) _ [45] (by kernel_rfl) (by decide) (by decide)).mono ?_
            rintro e w1 ⟨rfl, b1⟩
            have T1 := (show Hid _ from TR.out.below b1)
            clear b1 TR
            rw [e1]
            cases s1
            rotate_left
            · have ht : tornE ys i = xs.length - 1 := by unfold tornE; rw [if_neg (fun h => c3 h.1), if_neg (fun h => c2 h.1), if_pos ⟨c1, by rw [hlen]; exact e1⟩]; omega
              clear e1
              obtain ⟨tx, htx⟩ : ∃ z, z = txtOf ys i (xs.length - 1) := ⟨_, rfl⟩
              have HTX := (show Hid _ from htx.symm)
              have HC := (show Hid (cv = (tx, ys.length)) from (show _ = _ by rw [← HW, htx, ht]))
              clear HW htx ht hd
              go_wp2_with fail
              go_at_call 94
              refine ((HP.out w1 T1.out.bel).txt i (xs.length - 1) (by omega) (by omega)).mono ?_
              rintro e w2 ⟨rfl, b2⟩
              rw [HTX.out]
              have T2 := (show Hid _ from T1.out.below b2)
              clear T1 b2
              obtain ⟨o1, o2⟩ := T2.out.out 3 ⟨#[]⟩ tx
              have O2 := (show Hid _ from o2)
              unfold tokSet at o1
              have O1 := (show Hid _ from o1)
              obtain ⟨⟨p0, p1, p2, p3, p4⟩, q0, q1, q2, q3, q4⟩ := tok_cells T2.out.r
              clear o1 o2 T2
              go_wp2
              (try simp only [Exit.inBlock, Exit.then])
              refine bodyPost_ret (tok_res (f := Tryz.f92) (p := 4) (q := 5) rfl (k := 3) (nm := ⟨#[]⟩) (va := .slice none 0 0) (tx := tx) (sf := false) rfl rfl O1.out) rfl ?_
              rw [HM.out, HC.out, hlen]
              exact ⟨_, rfl, O2.out⟩
            have ht : tornE ys i = xs.length := by unfold tornE; rw [if_neg (fun h => c3 h.1), if_neg (fun h => c2 h.1), if_neg (fun h => by rw [hlen, e1] at h; exact absurd h.2 (by decide))]; exact hlen
            obtain ⟨tx, htx⟩ : ∃ z, z = txtOf ys i xs.length := ⟨_, rfl⟩
            have HTX := (show Hid _ from htx.symm)
            have HC := (show Hid (cv = (tx, ys.length)) from (show _ = _ by rw [← HW, htx, ht]))
            clear HW htx ht hd
            go_wp2_with fail
            go_at_call 94
            refine ((HP.out w1 T1.out.bel).txt i xs.length (by omega) (by omega)).mono ?_
            rintro e w2 ⟨rfl, b2⟩
            rw [HTX.out]
            have T2 := (show Hid _ from T1.out.below b2)
            clear T1 b2
            obtain ⟨o1, o2⟩ := T2.out.out 3 ⟨#[]⟩ tx
            have O2 := (show Hid _ from o2)
            unfold tokSet at o1
            have O1 := (show Hid _ from o1)
            obtain ⟨⟨p0, p1, p2, p3, p4⟩, q0, q1, q2, q3, q4⟩ := tok_cells T2.out.r
            clear o1 o2 T2
            go_wp2
            (try simp only [Exit.inBlock, Exit.then])
            refine bodyPost_ret (tok_res (f := Tryz.f92) (p := 4) (q := 5) rfl (k := 3) (nm := ⟨#[]⟩) (va := .slice none 0 0) (tx := tx) (sf := false) rfl rfl O1.out) rfl ?_
            rw [HM.out, HC.out, hlen]
            exact ⟨_, rfl, O2.out⟩
          · have g1 : ¬ ((1 : Int) ≤ ((xs.length - i : Nat) : Int)) := by omega
            have ht : tornE ys i = xs.length := by unfold tornE; rw [if_neg (fun h => c3 h.1), if_neg (fun h => c2 h.1), if_neg (fun h => c1 h.1)]; exact hlen
            obtain ⟨tx, htx⟩ : ∃ z, z = txtOf ys i xs.length := ⟨_, rfl⟩
            have HTX := (show Hid _ from htx.symm)
            have HC := (show Hid (cv = (tx, ys.length)) from (show _ = _ by rw [← HW, htx, ht]))
            clear HW htx ht hd
            go_wp2_with fail
            go_at_call 94
            refine ((HP.out wr TR.out.bel).txt i xs.length (by omega) (by omega)).mono ?_
            rintro e w1 ⟨rfl, b1⟩
            rw [HTX.out]
            have T1 := (show Hid _ from TR.out.below b1)
            clear TR b1
            obtain ⟨o1, o2⟩ := T1.out.out 3 ⟨#[]⟩ tx
            have O2 := (show Hid _ from o2)
            unfold tokSet at o1
            have O1 := (show Hid _ from o1)
            obtain ⟨⟨p0, p1, p2, p3, p4⟩, q0, q1, q2, q3, q4⟩ := tok_cells T1.out.r
            clear o1 o2 T1
            go_wp2
            (try simp only [Exit.inBlock, Exit.then])
            refine bodyPost_ret (tok_res (f := Tryz.f92) (p := 4) (q := 5) rfl (k := 3) (nm := ⟨#[]⟩) (va := .slice none 0 0) (tx := tx) (sf := false) rfl rfl O1.out) rfl ?_
            rw [HM.out, HC.out, hlen]
            exact ⟨_, rfl, O2.out⟩
end Go.Proofs.YtggfifchkecnjaaGreatDoor
