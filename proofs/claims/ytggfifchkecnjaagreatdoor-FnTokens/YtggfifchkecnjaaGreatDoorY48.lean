/- The specification's cutter: NextToken of data (written by mk/scut7.py). No condition. -/
import Derived.Test.YtggfifchkecnjaaGreatDoorY47
namespace Go.Proofs.YtggfifchkecnjaaGreatDoor
open Go.RowKit
set_option maxRecDepth 100000
set_option linter.unusedVariables false

theorem tok_rem {ys : List Int} {f k : Nat} (h0 : k < ys.length) (h60 : atL ys k = 60) (h47 : atL ys (k + 1) = 47) (h1 : atL ys (k + 2) ≠ -1) (h2 : atL ys (k + 2) ≠ 62) (h3 : isAlp (atL ys (k + 2)) = false) : tokM ys (f + 1) k = remM ys (k + 2) := by
  unfold tokM
  rw [if_neg (by omega), if_neg (by omega), if_neg (by omega), if_neg (by omega), if_pos h47, if_neg h1, if_neg h2, if_neg (by rw [h3]; decide)]
theorem tok_close {ys : List Int} {f k : Nat} (h0 : k < ys.length) (h60 : atL ys k = 60) (h47 : atL ys (k + 1) = 47) (h3 : isAlp (atL ys (k + 2)) = true) : tokM ys (f + 1) k = tagM ys 6 (k + 2) := by
  have h1 : atL ys (k + 2) ≠ -1 := fun h => by rw [h] at h3; exact absurd h3 (by decide)
  have h2 : atL ys (k + 2) ≠ 62 := fun h => by rw [h] at h3; exact absurd h3 (by decide)
  unfold tokM
  rw [if_neg (by omega), if_neg (by omega), if_neg (by omega), if_neg (by omega), if_pos h47, if_neg h1, if_neg h2, if_pos h3]
theorem tok_again {ys : List Int} {f k : Nat} (h0 : k < ys.length) (h60 : atL ys k = 60) (h47 : atL ys (k + 1) = 47) (h2 : atL ys (k + 2) = 62) : tokM ys (f + 1) k = tokM ys f (k + 3) := by
  conv => lhs; unfold tokM
  rw [if_neg (by omega), if_neg (by omega), if_neg (by omega), if_neg (by omega), if_pos h47, if_neg (by omega), if_pos h2]
theorem tok_none {ys : List Int} {f k : Nat} (h0 : k < ys.length) (h60 : atL ys k = 60) (h47 : atL ys (k + 1) = 47) (h2 : atL ys (k + 2) = -1) : tokM ys (f + 1) k = charM ys k := by
  unfold tokM
  rw [if_neg (by omega), if_neg (by omega), if_neg (by omega), if_neg (by omega), if_pos h47, if_pos h2]
theorem tok_mark {ys : List Int} {f k : Nat} (h0 : k < ys.length) (h60 : atL ys k = 60) (h33 : atL ys (k + 1) = 33) : tokM ys (f + 1) k = markM ys (k + 2) := by
  unfold tokM
  rw [if_neg (by omega), if_neg (by omega), if_neg (by omega), if_pos h33]
theorem tok_open {ys : List Int} {f k : Nat} (h0 : k < ys.length) (h60 : atL ys k = 60) (h3 : isAlp (atL ys (k + 1)) = true) : tokM ys (f + 1) k = tagM ys 5 (k + 1) := by
  have h1 : atL ys (k + 1) ≠ 33 := fun h => by rw [h] at h3; exact absurd h3 (by decide)
  have h2 : atL ys (k + 1) ≠ 47 := fun h => by rw [h] at h3; exact absurd h3 (by decide)
  unfold tokM
  rw [if_neg (by omega), if_neg (by omega), if_neg (by omega), if_neg h1, if_neg h2, if_pos h3]
theorem tok_ask {ys : List Int} {f k : Nat} (h0 : k < ys.length) (h60 : atL ys k = 60) (h3 : atL ys (k + 1) = 63) : tokM ys (f + 1) k = remM ys (k + 1) := by
  have h2 : isAlp (atL ys (k + 1)) = false := by rw [h3]; decide
  unfold tokM
  rw [if_neg (by omega), if_neg (by omega), if_neg (by omega), if_neg (by omega), if_neg (by omega), if_neg (by rw [h2]; decide), if_pos h3]
theorem tok_else {ys : List Int} {f k : Nat} (h0 : k < ys.length) (h60 : atL ys k = 60) (h33 : atL ys (k + 1) ≠ 33) (h47 : atL ys (k + 1) ≠ 47) (h3 : isAlp (atL ys (k + 1)) = false) (h63 : atL ys (k + 1) ≠ 63) : tokM ys (f + 1) k = charM ys k := by
  unfold tokM
  rw [if_neg (by omega), if_neg (by omega), if_neg (by omega), if_neg h33, if_neg h47, if_neg (by rw [h3]; decide), if_neg h63]
theorem tok_plain {ys : List Int} {f k : Nat} (h0 : k < ys.length) (h38 : atL ys k ≠ 38) (h60 : atL ys k ≠ 60) : tokM ys (f + 1) k = charM ys k := by
  unfold tokM
  rw [if_neg (by omega), if_neg h38, if_pos h60]
theorem tok_ref {ys : List Int} {f k : Nat} (h0 : k < ys.length) (h38 : atL ys k = 38) : tokM ys (f + 1) k = (charT (strOf (puts (refRead ys k false).1)), (refRead ys k false).2.toNat) := by
  unfold tokM
  rw [if_neg (by omega), if_pos h38]
theorem tok_over {ys : List Int} {f k : Nat} (h0 : ys.length ≤ k) : tokM ys (f + 1) k = (endT, ys.length) := by
  unfold tokM
  rw [if_pos h0]
theorem at_lt {ys : List Int} {k : Nat} (h : atL ys k ≠ -1) : k < ys.length := by
  by_cases hk : k < ys.length
  · exact hk
  · exact absurd (atL_out (by omega)) h

set_option maxHeartbeats 1000000 in
theorem nextToken_data {v : Value} {xs ys : List Int} {w : World} (h : SPage w v xs ys) (i : Nat) (hi : i ≤ ys.length) (s : ByteArray) :
    Calls Tryz.prog 24 #[v, .int .i64 i, .int .i64 1, .string s] w fun e w' => ∃ u, e = .returned (.tuple #[u, .int .i64 ((tokV ys i).2 : Nat)]) ∧ TokIs w.heap.size w' u (tokV ys i).1 ∧ Below w.heap.size w w' := by
  have hlen := h.len
  have hyl : ys.length ≤ 3000 := by rw [hlen]; exact h.few
  have HP := (show Hid (∀ W, Below w.heap.size w W → SPage W v xs ys) from fun W b => h.below b)
  obtain ⟨la, lc, rfl, _⟩ := h.sl
  have hx3 : ¬ (3000 : Int) < (xs.length : Int) := by omega
  have hwl : IntKind.i64.wrap ((xs.length : Int) - 1) = (xs.length : Int) - 1 := wrap_fit (by omega) (by omega)
  obtain ⟨tV, htV⟩ : ∃ z, z = tokV ys i := ⟨_, rfl⟩
  have HT := (show Hid (tokM ys (ys.length + 1) i = tV) from htV.symm)
  rw [← htV]
  obtain ⟨w1, hw1⟩ : ∃ z, z = w.alloc (.cells #[.int .i64 0, .string ⟨#[]⟩, .slice none 0 0, .string ⟨#[]⟩, .bool false] 30) := ⟨_, rfl⟩
  have T1 := (show Hid (RBx w w1) from by rw [hw1]; exact RBx.new w)
  clear h htV
  go_enter Tryz.func24, Tryz.ntmps24
  go_upto_region 1 with fail
  rw [← hw1]
  clear hw1
  go_wp2_with fail
  go_at_call 42
  refine (l1In_any 1 1 4 w1).mono ?_
  rintro e w2 ⟨rfl, rfl⟩
  rw [show inB 1 1 4 = true from rfl]
  go_wp2_with fail
  go_loopw [1] (fun u wr => ∃ (k f : Nat), k ≤ ys.length ∧ ys.length - k < f ∧ u = .int .i64 k ∧ Hid (RBx w wr ∧ tokM ys f k = tV)) (fun u _ => ys.length + 1 - (intOf u).toNat)
  case atStart => exact ⟨i, ys.length + 1, hi, by omega, rfl, T1.out, HT.out⟩
  case round =>
    clear T1 HT
    obtain ⟨k, f0, hkl, hf, rfl, I⟩ := hrel
    obtain ⟨f, rfl⟩ : ∃ f, f0 = f + 1 := ⟨f0 - 1, by omega⟩
    have TR := (show Hid (RBx w wr) from I.out.1)
    have HT := (show Hid (tokM ys (f + 1) k = tV) from I.out.2)
    clear I
    go_wp2_with fail
    go_at_call 42
    refine (l1In_any (k : Int) 0 ((xs.length : Int) - 1) wr).mono ?_
    rintro e w2 ⟨rfl, rfl⟩
    by_cases hk : k < ys.length
    · rw [inB_yes (x := (k : Int)) (lo := 0) (hi := (xs.length : Int) - 1) (by omega) (by omega)]
      have hw1 : IntKind.i64.wrap ((k : Int) + 1) = ((k + 1 : Nat) : Int) := by rw [wrap_fit (by omega) (by omega)]; omega
      have hw2 : IntKind.i64.wrap ((k : Int) + 2) = ((k + 2 : Nat) : Int) := by rw [wrap_fit (by omega) (by omega)]; omega
      have hw3 : IntKind.i64.wrap ((k : Int) + 3) = ((k + 3 : Nat) : Int) := by rw [wrap_fit (by omega) (by omega)]; omega
      obtain ⟨x, hx⟩ : ∃ x, x = atL ys k := ⟨_, rfl⟩
      obtain ⟨y, hy⟩ : ∃ x, x = atL ys (k + 1) := ⟨_, rfl⟩
      obtain ⟨z, hz⟩ : ∃ x, x = atL ys (k + 2) := ⟨_, rfl⟩
      have CX := (show Hid (∀ W, Below w.heap.size w W → Calls Tryz.prog 43 #[.slice la xs.length lc, .int .i64 k] W fun e w' => e = .returned (.int .i64 x) ∧ w' = W) from fun W b => by rw [hx]; exact (HP.out W b).at' k)
      have CY := (show Hid (∀ W, Below w.heap.size w W → Calls Tryz.prog 43 #[.slice la xs.length lc, .int .i64 ((k + 1 : Nat) : Int)] W fun e w' => e = .returned (.int .i64 y) ∧ w' = W) from fun W b => by rw [hy]; exact (HP.out W b).at' (k + 1))
      have CZ := (show Hid (∀ W, Below w.heap.size w W → Calls Tryz.prog 43 #[.slice la xs.length lc, .int .i64 ((k + 2 : Nat) : Int)] W fun e w' => e = .returned (.int .i64 z) ∧ w' = W) from fun W b => by rw [hz]; exact (HP.out W b).at' (k + 2))
      have HX := (show Hid (x = atL ys k) from hx)
      have HY := (show Hid (y = atL ys (k + 1)) from hy)
      have HZ := (show Hid (z = atL ys (k + 2)) from hz)
      clear hx hy hz
      go_wp2_with fail
      go_at_call 43
      refine (CX.out w2 TR.out.bel).mono ?_
      rintro e w3 ⟨rfl, rfl⟩
      go_wp2_with fail
      go_at_call 43
      refine (CY.out w3 TR.out.bel).mono ?_
      rintro e w4 ⟨rfl, rfl⟩
      go_wp2_with fail
      go_at_call 43
      refine (CZ.out w4 TR.out.bel).mono ?_
      rintro e w5 ⟨rfl, rfl⟩
      clear CX CY CZ
      by_cases hx38 : x = 38
      · obtain ⟨nn, yy, he, hkn, hnl, hyo, _⟩ := ref_facts (xs := ys) false hyl hk (by rw [← HX.out]; exact hx38)
        have HM0 := HT.out
        rw [tok_ref hk (by rw [← HX.out]; exact hx38), he] at HM0
        simp only [Int.toNat_natCast] at HM0
        obtain ⟨tx, htx⟩ : ∃ z, z = strOf (puts [yy]) := ⟨_, rfl⟩
        rw [← htx] at HM0
        have HM := (show Hid (tV = (charT tx, nn)) from HM0.symm)
        have cr := srefRead_any (HP.out w5 TR.out.bel).sl (k : Int) false (by omega)
        rw [← refRead_clean, ← (HP.out w5 TR.out.bel).ys, he] at cr
        have CR := (show Hid _ from cr)
        have HTX := (show Hid (tx = _) from htx)
        clear HM0 HT he cr htx HX HY HZ
        subst hx38
        go_wp2_with fail
        go_at_call 44
        refine Calls.mono CR.out ?_
        rintro e w6 ⟨vx, rfl, ox, b6⟩
        have T6 := (show Hid _ from TR.out.below b6)
        have CP := (show Hid _ from l1Put_any ox.sl (by simp))
        clear CR TR b6 ox
        go_wp2_with fail
        go_at_call 45
        refine Calls.mono CP.out ?_
        rintro e w7 ⟨vp, rfl, op, b7⟩
        have T7 := (show Hid _ from T6.out.below b7)
        have cv := conv_sl op.sl
        rw [← HTX.out] at cv
        have hpp := puts_len [yy]
        clear CP T6 b7 HTX
        obtain ⟨o1, o2⟩ := T7.out.out 2 ⟨#[]⟩ tx
        have O2 := (show Hid _ from o2)
        unfold tokSet at o1
        have O1 := (show Hid _ from o1)
        obtain ⟨⟨p0, p1, p2, p3, p4⟩, q0, q1, q2, q3, q4⟩ := tok_cells T7.out.r
        clear o1 o2 T7
        go_wp2
        (try simp only [Exit.inBlock, Exit.then])
        refine bodyPost_ret (tok_res (f := Tryz.f24) (p := 8) (q := 9) rfl (k := 2) (nm := ⟨#[]⟩) (va := .slice none 0 0) (tx := tx) (sf := false) rfl rfl O1.out) rfl ?_
        rw [HM.out]
        exact ⟨_, rfl, O2.out⟩
      · have nx38 : (x == 38) = false := by simp [hx38]
        by_cases hx60 : x = 60
        · have nx60 : (x != 60) = false := by simp [hx60]
          by_cases hy33 : y = 33
          · have ey33 : (y == 33) = true := by simp [hy33]
            have hk1 : k + 1 < ys.length := at_lt (by rw [← HY.out, hy33]; decide)
            have HM0 := HT.out
            rw [tok_mark hk (by rw [← HX.out]; exact hx60) (by rw [← HY.out]; exact hy33)] at HM0
            obtain ⟨mm, hmm0⟩ : ∃ z, z = markM ys (k + 2) := ⟨_, rfl⟩
            have cc := l5Mark_any (HP.out w5 TR.out.bel) (k + 2) (by omega)
            rw [← hmm0] at HM0 cc
            have HM := (show Hid (tV = mm) from HM0.symm)
            clear hmm0 HM0 HT
            clear HX HY HZ
            go_wp2_with fail
            go_at_call 49
            refine Calls.mono cc ?_
            rintro e w6 ⟨u, rfl, t6, b6⟩
            have HB := (show Hid _ from TR.out.bel.size)
            have T6 := (show Hid _ from TR.out.below b6)
            clear TR cc b6
            obtain ⟨⟨⟨tk, tn, tr, tt, ts⟩, mj⟩, hmm⟩ : ∃ z, z = mm := ⟨_, rfl⟩
            subst hmm
            have HM2 := (show Hid _ from HM.out)
            obtain ⟨va, hu, row⟩ := t6
            obtain ⟨va1, va2, va3, rfl⟩ := row_slice row
            simp only at hu row
            obtain ⟨o1, o2⟩ := T6.out.outT (HB.out) row tk tn tt ts
            have O2 := (show Hid _ from o2)
            unfold tokSet at o1
            have O1 := (show Hid _ from o1)
            obtain ⟨⟨p0, p1, p2, p3, p4⟩, q0, q1, q2, q3, q4⟩ := tok_cells T6.out.r
            subst hu
            clear o1 o2 T6 HM row
            unfold tokVal
            go_wp2
            (try simp only [Exit.inBlock, Exit.then])
            refine bodyPost_ret (tok_res (f := Tryz.f24) (p := 8) (q := 9) rfl (k := tk) (nm := tn) (va := .slice va1 va2 va3) (tx := tt) (sf := ts) rfl rfl O1.out) rfl ?_
            rw [HM2.out]
            exact ⟨_, rfl, O2.out⟩
          · have ey33 : (y == 33) = false := by simp [hy33]
            by_cases hy47 : y = 47
            · have ey47 : (y == 47) = true := by simp [hy47]
              have hk1 : k + 1 < ys.length := at_lt (by rw [← HY.out, hy47]; decide)
              have ealp := fun W => salpha_any z W
              have hia : isAlp z = (inB z 65 90 || inB z 97 122) := rfl
              rw [← hia] at ealp
              obtain ⟨qa, hqa⟩ : ∃ q, q = isAlp z := ⟨_, rfl⟩
              rw [← hqa] at ealp
              have HQ := (show Hid (qa = isAlp z) from hqa)
              clear hia hqa
              go_wp2_with fail
              go_at_call 50
              refine (ealp w5).mono ?_
              rintro e w6 ⟨rfl, rfl⟩
              clear ealp
              obtain ⟨w5, hw5⟩ : ∃ z, z = w6 := ⟨_, rfl⟩
              subst hw5
              cases qa
              rotate_left
              · have HM0 := HT.out
                rw [tok_close hk (by rw [← HX.out]; exact hx60) (by rw [← HY.out]; exact hy47) (by rw [← HZ.out]; exact HQ.out.symm)] at HM0
                obtain ⟨mm, hmm0⟩ : ∃ z, z = tagM ys 6 (k + 2) := ⟨_, rfl⟩
                have cc := l5Tag_any (HP.out w5 TR.out.bel) (k + 2) (by omega) 6 (.inr rfl)
                rw [← hmm0] at HM0 cc
                have HM := (show Hid (tV = mm) from HM0.symm)
                clear hmm0 HM0 HT
                clear HX HY HZ
                go_wp2_with fail
                go_at_call 48
                refine Calls.mono cc ?_
                rintro e w6 ⟨u, rfl, t6, b6⟩
                have HB := (show Hid _ from TR.out.bel.size)
                have T6 := (show Hid _ from TR.out.below b6)
                clear TR cc b6
                obtain ⟨⟨⟨tk, tn, tr, tt, ts⟩, mj⟩, hmm⟩ : ∃ z, z = mm := ⟨_, rfl⟩
                subst hmm
                have HM2 := (show Hid _ from HM.out)
                obtain ⟨va, hu, row⟩ := t6
                obtain ⟨va1, va2, va3, rfl⟩ := row_slice row
                simp only at hu row
                obtain ⟨o1, o2⟩ := T6.out.outT (HB.out) row tk tn tt ts
                have O2 := (show Hid _ from o2)
                unfold tokSet at o1
                have O1 := (show Hid _ from o1)
                obtain ⟨⟨p0, p1, p2, p3, p4⟩, q0, q1, q2, q3, q4⟩ := tok_cells T6.out.r
                subst hu
                clear o1 o2 T6 HM row
                unfold tokVal
                go_wp2
                (try simp only [Exit.inBlock, Exit.then])
                refine bodyPost_ret (tok_res (f := Tryz.f24) (p := 8) (q := 9) rfl (k := tk) (nm := tn) (va := .slice va1 va2 va3) (tx := tt) (sf := ts) rfl rfl O1.out) rfl ?_
                rw [HM2.out]
                exact ⟨_, rfl, O2.out⟩
              by_cases hz62 : z = 62
              · have ez62 : (z == 62) = true := by simp [hz62]
                have hk2 : k + 2 < ys.length := at_lt (by rw [← HZ.out, hz62]; decide)
                have HM0 := HT.out
                rw [tok_again hk (by rw [← HX.out]; exact hx60) (by rw [← HY.out]; exact hy47) (by rw [← HZ.out]; exact hz62)] at HM0
                have HM := (show Hid _ from HM0)
                clear HM0 HT HX HY HZ
                go_wp2
                go_roundw
                case rel => exact ⟨k + 3, f, by omega, by omega, rfl, TR.out, HM.out⟩
                case measure => simp [intOf]; omega
              · have ez62 : (z == 62) = false := by simp [hz62]
                by_cases hz0 : z = -1
                · have gz : ¬ 0 ≤ z := by omega
                  have ey63 : (y == 63) = false := by simp [hy47]
                  have ealp := fun W => salpha_any 47 W
                  have hia : (inB 47 65 90 || inB 47 97 122) = false := by decide
                  rw [hia] at ealp
                  clear hia
                  go_wp2_with fail
                  go_at_call 50
                  refine (ealp w5).mono ?_
                  rintro e w6 ⟨rfl, rfl⟩
                  clear ealp
                  obtain ⟨w5, hw5⟩ : ∃ z, z = w6 := ⟨_, rfl⟩
                  subst hw5
                  have HM0 := HT.out
                  rw [tok_none hk (by rw [← HX.out]; exact hx60) (by rw [← HY.out]; exact hy47) (by rw [← HZ.out]; exact hz0)] at HM0
                  obtain ⟨mm, hmm0⟩ : ∃ z, z = charM ys k := ⟨_, rfl⟩
                  have cc := l5Char_any (HP.out w5 TR.out.bel) k hk
                  rw [← hmm0] at HM0 cc
                  have HM := (show Hid (tV = mm) from HM0.symm)
                  clear hmm0 HM0 HT
                  clear HX HY HZ
                  go_wp2_with fail
                  go_at_call 46
                  refine Calls.mono cc ?_
                  rintro e w6 ⟨u, rfl, t6, b6⟩
                  have HB := (show Hid _ from TR.out.bel.size)
                  have T6 := (show Hid _ from TR.out.below b6)
                  clear TR cc b6
                  obtain ⟨⟨⟨tk, tn, tr, tt, ts⟩, mj⟩, hmm⟩ : ∃ z, z = mm := ⟨_, rfl⟩
                  subst hmm
                  have HM2 := (show Hid _ from HM.out)
                  obtain ⟨va, hu, row⟩ := t6
                  obtain ⟨va1, va2, va3, rfl⟩ := row_slice row
                  simp only at hu row
                  obtain ⟨o1, o2⟩ := T6.out.outT (HB.out) row tk tn tt ts
                  have O2 := (show Hid _ from o2)
                  unfold tokSet at o1
                  have O1 := (show Hid _ from o1)
                  obtain ⟨⟨p0, p1, p2, p3, p4⟩, q0, q1, q2, q3, q4⟩ := tok_cells T6.out.r
                  subst hu
                  clear o1 o2 T6 HM row
                  unfold tokVal
                  go_wp2
                  (try simp only [Exit.inBlock, Exit.then])
                  refine bodyPost_ret (tok_res (f := Tryz.f24) (p := 8) (q := 9) rfl (k := tk) (nm := tn) (va := .slice va1 va2 va3) (tx := tt) (sf := ts) rfl rfl O1.out) rfl ?_
                  rw [HM2.out]
                  exact ⟨_, rfl, O2.out⟩
                · have hk2 : k + 2 < ys.length := at_lt (by rw [← HZ.out]; exact hz0)
                  have gz : 0 ≤ z := by
                    have hr := (HP.out w5 TR.out.bel).ys
                    have := ((pointOk_iff _).mp (at_ok (xs := ys) (by rw [hr]; exact clean_all xs) hk2)).1
                    rw [HZ.out]; exact this
                  have HM0 := HT.out
                  rw [tok_rem hk (by rw [← HX.out]; exact hx60) (by rw [← HY.out]; exact hy47) (by rw [← HZ.out]; exact hz0) (by rw [← HZ.out]; exact hz62) (by rw [← HZ.out]; exact HQ.out.symm)] at HM0
                  obtain ⟨mm, hmm0⟩ : ∃ z, z = remM ys (k + 2) := ⟨_, rfl⟩
                  have cc := l5Remark_any (HP.out w5 TR.out.bel) (k + 2) (by omega)
                  rw [← hmm0] at HM0 cc
                  have HM := (show Hid (tV = mm) from HM0.symm)
                  clear hmm0 HM0 HT
                  clear HX HY HZ
                  go_wp2_with fail
                  go_at_call 51
                  refine Calls.mono cc ?_
                  rintro e w6 ⟨u, rfl, t6, b6⟩
                  have HB := (show Hid _ from TR.out.bel.size)
                  have T6 := (show Hid _ from TR.out.below b6)
                  clear TR cc b6
                  obtain ⟨⟨⟨tk, tn, tr, tt, ts⟩, mj⟩, hmm⟩ : ∃ z, z = mm := ⟨_, rfl⟩
                  subst hmm
                  have HM2 := (show Hid _ from HM.out)
                  obtain ⟨va, hu, row⟩ := t6
                  obtain ⟨va1, va2, va3, rfl⟩ := row_slice row
                  simp only at hu row
                  obtain ⟨o1, o2⟩ := T6.out.outT (HB.out) row tk tn tt ts
                  have O2 := (show Hid _ from o2)
                  unfold tokSet at o1
                  have O1 := (show Hid _ from o1)
                  obtain ⟨⟨p0, p1, p2, p3, p4⟩, q0, q1, q2, q3, q4⟩ := tok_cells T6.out.r
                  subst hu
                  clear o1 o2 T6 HM row
                  unfold tokVal
                  go_wp2
                  (try simp only [Exit.inBlock, Exit.then])
                  refine bodyPost_ret (tok_res (f := Tryz.f24) (p := 8) (q := 9) rfl (k := tk) (nm := tn) (va := .slice va1 va2 va3) (tx := tt) (sf := ts) rfl rfl O1.out) rfl ?_
                  rw [HM2.out]
                  exact ⟨_, rfl, O2.out⟩
            · have ey47 : (y == 47) = false := by simp [hy47]
              have ealp := fun W => salpha_any y W
              have hia : isAlp y = (inB y 65 90 || inB y 97 122) := rfl
              rw [← hia] at ealp
              obtain ⟨qa, hqa⟩ : ∃ q, q = isAlp y := ⟨_, rfl⟩
              rw [← hqa] at ealp
              have HQ := (show Hid (qa = isAlp y) from hqa)
              clear hia hqa
              go_wp2_with fail
              go_at_call 50
              refine (ealp w5).mono ?_
              rintro e w6 ⟨rfl, rfl⟩
              clear ealp
              obtain ⟨w5, hw5⟩ : ∃ z, z = w6 := ⟨_, rfl⟩
              subst hw5
              cases qa
              rotate_left
              · have hk1 : k + 1 < ys.length := at_lt (fun h => by rw [← HY.out] at h; have hqa := HQ.out; rw [h] at hqa; exact absurd hqa (by decide))
                have HM0 := HT.out
                rw [tok_open hk (by rw [← HX.out]; exact hx60) (by rw [← HY.out]; exact HQ.out.symm)] at HM0
                obtain ⟨mm, hmm0⟩ : ∃ z, z = tagM ys 5 (k + 1) := ⟨_, rfl⟩
                have cc := l5Tag_any (HP.out w5 TR.out.bel) (k + 1) (by omega) 5 (.inl rfl)
                rw [← hmm0] at HM0 cc
                have HM := (show Hid (tV = mm) from HM0.symm)
                clear hmm0 HM0 HT
                clear HX HY HZ
                go_wp2_with fail
                go_at_call 48
                refine Calls.mono cc ?_
                rintro e w6 ⟨u, rfl, t6, b6⟩
                have HB := (show Hid _ from TR.out.bel.size)
                have T6 := (show Hid _ from TR.out.below b6)
                clear TR cc b6
                obtain ⟨⟨⟨tk, tn, tr, tt, ts⟩, mj⟩, hmm⟩ : ∃ z, z = mm := ⟨_, rfl⟩
                subst hmm
                have HM2 := (show Hid _ from HM.out)
                obtain ⟨va, hu, row⟩ := t6
                obtain ⟨va1, va2, va3, rfl⟩ := row_slice row
                simp only at hu row
                obtain ⟨o1, o2⟩ := T6.out.outT (HB.out) row tk tn tt ts
                have O2 := (show Hid _ from o2)
                unfold tokSet at o1
                have O1 := (show Hid _ from o1)
                obtain ⟨⟨p0, p1, p2, p3, p4⟩, q0, q1, q2, q3, q4⟩ := tok_cells T6.out.r
                subst hu
                clear o1 o2 T6 HM row
                unfold tokVal
                go_wp2
                (try simp only [Exit.inBlock, Exit.then])
                refine bodyPost_ret (tok_res (f := Tryz.f24) (p := 8) (q := 9) rfl (k := tk) (nm := tn) (va := .slice va1 va2 va3) (tx := tt) (sf := ts) rfl rfl O1.out) rfl ?_
                rw [HM2.out]
                exact ⟨_, rfl, O2.out⟩
              by_cases hy63 : y = 63
              · have ey63 : (y == 63) = true := by simp [hy63]
                have hk1 : k + 1 < ys.length := at_lt (by rw [← HY.out, hy63]; decide)
                have HM0 := HT.out
                rw [tok_ask hk (by rw [← HX.out]; exact hx60) (by rw [← HY.out]; exact hy63)] at HM0
                obtain ⟨mm, hmm0⟩ : ∃ z, z = remM ys (k + 1) := ⟨_, rfl⟩
                have cc := l5Remark_any (HP.out w5 TR.out.bel) (k + 1) (by omega)
                rw [← hmm0] at HM0 cc
                have HM := (show Hid (tV = mm) from HM0.symm)
                clear hmm0 HM0 HT
                clear HX HY HZ
                go_wp2_with fail
                go_at_call 51
                refine Calls.mono cc ?_
                rintro e w6 ⟨u, rfl, t6, b6⟩
                have HB := (show Hid _ from TR.out.bel.size)
                have T6 := (show Hid _ from TR.out.below b6)
                clear TR cc b6
                obtain ⟨⟨⟨tk, tn, tr, tt, ts⟩, mj⟩, hmm⟩ : ∃ z, z = mm := ⟨_, rfl⟩
                subst hmm
                have HM2 := (show Hid _ from HM.out)
                obtain ⟨va, hu, row⟩ := t6
                obtain ⟨va1, va2, va3, rfl⟩ := row_slice row
                simp only at hu row
                obtain ⟨o1, o2⟩ := T6.out.outT (HB.out) row tk tn tt ts
                have O2 := (show Hid _ from o2)
                unfold tokSet at o1
                have O1 := (show Hid _ from o1)
                obtain ⟨⟨p0, p1, p2, p3, p4⟩, q0, q1, q2, q3, q4⟩ := tok_cells T6.out.r
                subst hu
                clear o1 o2 T6 HM row
                unfold tokVal
                go_wp2
                (try simp only [Exit.inBlock, Exit.then])
                refine bodyPost_ret (tok_res (f := Tryz.f24) (p := 8) (q := 9) rfl (k := tk) (nm := tn) (va := .slice va1 va2 va3) (tx := tt) (sf := ts) rfl rfl O1.out) rfl ?_
                rw [HM2.out]
                exact ⟨_, rfl, O2.out⟩
              · have ey63 : (y == 63) = false := by simp [hy63]
                have HM0 := HT.out
                rw [tok_else hk (by rw [← HX.out]; exact hx60) (by rw [← HY.out]; exact hy33) (by rw [← HY.out]; exact hy47) (by rw [← HY.out]; exact HQ.out.symm) (by rw [← HY.out]; exact hy63)] at HM0
                obtain ⟨mm, hmm0⟩ : ∃ z, z = charM ys k := ⟨_, rfl⟩
                have cc := l5Char_any (HP.out w5 TR.out.bel) k hk
                rw [← hmm0] at HM0 cc
                have HM := (show Hid (tV = mm) from HM0.symm)
                clear hmm0 HM0 HT
                clear HX HY HZ
                go_wp2_with fail
                go_at_call 46
                refine Calls.mono cc ?_
                rintro e w6 ⟨u, rfl, t6, b6⟩
                have HB := (show Hid _ from TR.out.bel.size)
                have T6 := (show Hid _ from TR.out.below b6)
                clear TR cc b6
                obtain ⟨⟨⟨tk, tn, tr, tt, ts⟩, mj⟩, hmm⟩ : ∃ z, z = mm := ⟨_, rfl⟩
                subst hmm
                have HM2 := (show Hid _ from HM.out)
                obtain ⟨va, hu, row⟩ := t6
                obtain ⟨va1, va2, va3, rfl⟩ := row_slice row
                simp only at hu row
                obtain ⟨o1, o2⟩ := T6.out.outT (HB.out) row tk tn tt ts
                have O2 := (show Hid _ from o2)
                unfold tokSet at o1
                have O1 := (show Hid _ from o1)
                obtain ⟨⟨p0, p1, p2, p3, p4⟩, q0, q1, q2, q3, q4⟩ := tok_cells T6.out.r
                subst hu
                clear o1 o2 T6 HM row
                unfold tokVal
                go_wp2
                (try simp only [Exit.inBlock, Exit.then])
                refine bodyPost_ret (tok_res (f := Tryz.f24) (p := 8) (q := 9) rfl (k := tk) (nm := tn) (va := .slice va1 va2 va3) (tx := tt) (sf := ts) rfl rfl O1.out) rfl ?_
                rw [HM2.out]
                exact ⟨_, rfl, O2.out⟩
        · have nx60 : (x != 60) = true := by simp [hx60]
          skip
          have HM0 := HT.out
          rw [tok_plain hk (by rw [← HX.out]; exact hx38) (by rw [← HX.out]; exact hx60)] at HM0
          obtain ⟨mm, hmm0⟩ : ∃ z, z = charM ys k := ⟨_, rfl⟩
          have cc := l5Char_any (HP.out w5 TR.out.bel) k hk
          rw [← hmm0] at HM0 cc
          have HM := (show Hid (tV = mm) from HM0.symm)
          clear hmm0 HM0 HT
          clear HX HY HZ
          go_wp2_with fail
          go_at_call 46
          refine Calls.mono cc ?_
          rintro e w6 ⟨u, rfl, t6, b6⟩
          have HB := (show Hid _ from TR.out.bel.size)
          have T6 := (show Hid _ from TR.out.below b6)
          clear TR cc b6
          obtain ⟨⟨⟨tk, tn, tr, tt, ts⟩, mj⟩, hmm⟩ : ∃ z, z = mm := ⟨_, rfl⟩
          subst hmm
          have HM2 := (show Hid _ from HM.out)
          obtain ⟨va, hu, row⟩ := t6
          obtain ⟨va1, va2, va3, rfl⟩ := row_slice row
          simp only at hu row
          obtain ⟨o1, o2⟩ := T6.out.outT (HB.out) row tk tn tt ts
          have O2 := (show Hid _ from o2)
          unfold tokSet at o1
          have O1 := (show Hid _ from o1)
          obtain ⟨⟨p0, p1, p2, p3, p4⟩, q0, q1, q2, q3, q4⟩ := tok_cells T6.out.r
          subst hu
          clear o1 o2 T6 HM row
          unfold tokVal
          go_wp2
          (try simp only [Exit.inBlock, Exit.then])
          refine bodyPost_ret (tok_res (f := Tryz.f24) (p := 8) (q := 9) rfl (k := tk) (nm := tn) (va := .slice va1 va2 va3) (tx := tt) (sf := ts) rfl rfl O1.out) rfl ?_
          rw [HM2.out]
          exact ⟨_, rfl, O2.out⟩
    · have hb : inB (k : Int) 0 ((xs.length : Int) - 1) = false := inB_no (by omega)
      rw [hb]
      have HM0 := HT.out
      rw [tok_over (by omega)] at HM0
      have HM := (show Hid (tV = (endT, ys.length)) from HM0.symm)
      clear HM0 HT hb
      obtain ⟨o1, o2⟩ := TR.out.out 1 ⟨#[]⟩ ⟨#[]⟩
      have O2 := (show Hid _ from o2)
      unfold tokSet at o1
      have O1 := (show Hid _ from o1)
      obtain ⟨⟨p0, p1, p2, p3, p4⟩, q0, q1, q2, q3, q4⟩ := tok_cells TR.out.r
      clear o1 o2 TR
      go_wp2
      (try simp only [Exit.inBlock, Exit.then])
      refine bodyPost_ret (tok_res (f := Tryz.f24) (p := 8) (q := 9) rfl (k := 1) (nm := ⟨#[]⟩) (va := .slice none 0 0) (tx := ⟨#[]⟩) (sf := false) rfl rfl O1.out) rfl ?_
      rw [HM.out, hlen]
      exact ⟨_, rfl, O2.out⟩
end Go.Proofs.YtggfifchkecnjaaGreatDoor
