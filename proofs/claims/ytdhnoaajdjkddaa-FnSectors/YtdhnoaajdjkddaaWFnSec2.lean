/- The law FnSectors, walked. No condition. -/
import Derived.Test.YtdhnoaajdjkddaaWFnSec
namespace Go.Proofs.Ytdhnoaajdjkddaa
open Go.RowKit
set_option maxRecDepth 100000
set_option linter.unusedVariables false

set_option maxHeartbeats 2000000 in
set_option maxRecDepth 100000 in
theorem fnSectors_walk {v : Value} {xs : List Int} (w : World) (h : Sl .u8 w v xs) (hf : ∀ n ∈ xs, (Lit.int .u8 n).wf = true) :
    Calls Try.prog 3 #[v] w fun e w' => e = .returned (.bool true) ∧ Below w.heap.size w w' := by
  have hb : ∀ x ∈ xs, 0 ≤ x ∧ x ≤ 255 := byte_ok hf
  by_cases hbig : 1048576 < xs.length
  · have CB := (show Hid _ from big_any h)
    have hd : decide (1048576 < xs.length) = true := decide_eq_true hbig
    rw [hd] at CB
    go_enter Try.func3, Try.ntmps3
    go_wp2_with fail
    go_at_call 11
    refine Calls.mono CB.out ?_
    rintro e w1 ⟨rfl, e1⟩
    subst e1
    go_wp2
    go_ret
    exact ⟨rfl, Below.refl _ _⟩
  · have CB := (show Hid _ from big_any h)
    have hd : decide (1048576 < xs.length) = false := decide_eq_false hbig
    rw [hd] at CB
    have CD := (show Hid _ from drawDiskCrash_any h hb (by omega))
    clear hd hf hb hbig h
    go_enter Try.func3, Try.ntmps3
    go_wp2_with fail
    go_at_call 11
    refine Calls.mono CB.out ?_
    rintro e w1 ⟨rfl, e1⟩
    subst e1
    clear CB
    go_wp2_with fail
    go_at_call 12
    refine Calls.mono CD.out ?_
    rintro e w2 ⟨u2, d, x, rfl, hd2, hf2, b2⟩
    clear CD
    have hd2' := hd2
    obtain ⟨sa, sn, sc, la, ln, lc, rfl, e1, e2⟩ := hd2'
    obtain ⟨_, _, q1, _⟩ := e1.str
    cases q1
    obtain ⟨_, _, q2, _⟩ := e2.put
    cases q2
    have HF := (show Hid (DiskFit d) from hf2)
    have f1 := hf2.sl
    have f2 := hf2.ll
    obtain ⟨w3, hw3⟩ : ∃ y, y = w2.alloc (.cells #[.slice sa d.safe.length sc, .slice la d.late.length lc] 27) := ⟨_, rfl⟩
    have b3 : Below w2.heap.size w2 w3 := by rw [hw3]; exact (Below.refl _ _).alloc (Nat.le_refl _) _
    have x3 : w3.heap[w2.heap.size]? = some (.cells #[.slice sa d.safe.length sc, .slice la d.late.length lc] 27 (0, 0)) := by rw [hw3]; exact World.alloc_heap_new _ _
    have B3 := (show Hid (Below w1.heap.size w1 w3) from b2.trans (b3.mono b2.size))
    have D3 := (show Hid (DiskAt w3 (.agg #[.slice sa d.safe.length sc, .slice la d.late.length lc]) d) from hd2.below b3)
    have X3 := (show Hid _ from x3)
    have CI := (show Hid _ from idiskCrash_any D3.out HF.out x)
    have CS := (show Hid (∀ W, DiskAt W (.agg #[.slice sa d.safe.length sc, .slice la d.late.length lc]) d → Calls Try.prog 14 #[.agg #[.slice sa d.safe.length sc, .slice la d.late.length lc], .int .i64 x] W fun e w' => ∃ v', e = .returned (.tuple #[v', .bool (crashDk d x).2]) ∧ OwnDk W.heap.size w' v' (crashDk d x).1 ∧ Below W.heap.size W w') from fun W h => sdiskCrash_any h HF.out x)
    have HY := (show Hid ((crashDk d x).2 = true → diskB d = true ∧ crashDk d x = (doneDk x d, true)) from crashDk_yes)
    have HNO := (show Hid ((crashDk d x).2 = false → (crashDk d x).1 = zeroDk) from crashDk_no)
    have HQF := (show Hid (DiskFit (crashDk d x).1) from crashDk_fit HF.out x)
    obtain ⟨q, hq⟩ : ∃ q, q = crashDk d x := ⟨_, rfl⟩
    rw [← hq] at CI CS HY HNO HQF
    clear hq
    obtain ⟨qd, qb⟩ := q
    simp only at CI CS HY HNO HQF
    have g1 := HQF.out.sl
    have g2 := HQF.out.ll
    clear b2 b3 x3 hd2 e1 e2 hf2
    go_wp2_with fail
    go_at_call 13
    rw [← hw3]
    refine Calls.mono CI.out ?_
    rintro e w4 ⟨v4, rfl, o4, b4⟩
    clear hw3 CI
    have d4 := o4.at
    have d4' := d4
    obtain ⟨na, nn, nc, ma, mn, mc, rfl, e1, e2⟩ := d4'
    obtain ⟨_, _, q1, _⟩ := e1.str
    cases q1
    obtain ⟨_, _, q2, _⟩ := e2.put
    cases q2
    obtain ⟨w5, hw5⟩ : ∃ y, y = w4.alloc (.cells #[.slice na qd.safe.length nc, .slice ma qd.late.length mc] 27) := ⟨_, rfl⟩
    have b5 : Below w4.heap.size w4 w5 := by rw [hw5]; exact (Below.refl _ _).alloc (Nat.le_refl _) _
    have x5 : w5.heap[w4.heap.size]? = some (.cells #[.slice na qd.safe.length nc, .slice ma qd.late.length mc] 27 (0, 0)) := by rw [hw5]; exact World.alloc_heap_new _ _
    have b35 : Below w3.heap.size w3 w5 := b4.trans (b5.mono b4.size)
    have y5 := (b35.block _ (lt_of_block X3.out)).trans X3.out
    have hl3 := lt_of_block X3.out
    have hs34 := b4.size
    have o1 : w4.cell? ⟨w2.heap.size, 0, none⟩ = some (.slice sa d.safe.length sc) := (rk_two ((b4.block _ hl3).trans X3.out)).1
    have o2 : w4.cell? ⟨w2.heap.size, 1, none⟩ = some (.slice la d.late.length lc) := (rk_two ((b4.block _ hl3).trans X3.out)).2.1
    have hl4 : w2.heap.size < w4.heap.size := by omega
    have D5 := (show Hid (DiskAt w5 (.agg #[.slice sa d.safe.length sc, .slice la d.late.length lc]) d ∧ DiskAt w5 (.agg #[.slice na qd.safe.length nc, .slice ma qd.late.length mc]) qd) from ⟨D3.out.below b35, d4.below b5⟩)
    have B5 := (show Hid (Below w1.heap.size w1 w5) from B3.out.trans (b35.mono B3.out.size))
    have Y5 := (show Hid (w5.heap[w2.heap.size]? = some (.cells #[.slice sa d.safe.length sc, .slice la d.late.length lc] 27 (0, 0)) ∧ w5.heap[w4.heap.size]? = some (.cells #[.slice na qd.safe.length nc, .slice ma qd.late.length mc] 27 (0, 0))) from ⟨y5, x5⟩)
    clear e1 e2 d4 o4 b4 b5 x5 b35 y5 X3 D3 B3
    go_wp2_with fail
    go_at_call 14
    rw [← hw5]
    refine Calls.mono (CS.out w5 D5.out.1) ?_
    rintro e w6 ⟨v6, rfl, o6, b6⟩
    clear hw5 CS o1 o2
    obtain ⟨ta, tn, tc, pa, pn, pc, rfl, _, _⟩ := o6
    obtain ⟨w7, hw7⟩ : ∃ y, y = w6.alloc (.cells #[.slice ta tn tc, .slice pa pn pc] 27) := ⟨_, rfl⟩
    have b7 : Below w6.heap.size w6 w7 := by rw [hw7]; exact (Below.refl _ _).alloc (Nat.le_refl _) _
    have b57 := b6.trans (b7.mono b6.size)
    have D7 := (show Hid (DiskAt w7 (.agg #[.slice sa d.safe.length sc, .slice la d.late.length lc]) d ∧ DiskAt w7 (.agg #[.slice na qd.safe.length nc, .slice ma qd.late.length mc]) qd) from ⟨D5.out.1.below b57, D5.out.2.below b57⟩)
    have B7 := (show Hid (Below w1.heap.size w1 w7) from B5.out.trans (b57.mono B5.out.size))
    have Y7 := (show Hid (w7.heap[w2.heap.size]? = some (.cells #[.slice sa d.safe.length sc, .slice la d.late.length lc] 27 (0, 0)) ∧ w7.heap[w4.heap.size]? = some (.cells #[.slice na qd.safe.length nc, .slice ma qd.late.length mc] 27 (0, 0))) from ⟨(b57.block _ (lt_of_block Y5.out.1)).trans Y5.out.1, (b57.block _ (lt_of_block Y5.out.2)).trans Y5.out.2⟩)
    clear D5 B5 Y5 b6 b7 b57 hl4 hs34 hl3
    go_upto_region 6 with fail
    rw [← hw7]
    clear hw7
    obtain ⟨k1, k2, _, _⟩ := rk_two Y7.out.1
    obtain ⟨m1, m2, _, _⟩ := rk_two Y7.out.2
    cases qb
    · have hz := HNO.out rfl
      subst hz
      have hlI : (((zeroDk.safe.length : Nat) : Int) == 0) = true := by decide
      clear HNO HY
      go_wp2
      go_ret
      exact ⟨rfl, B7.out⟩
    · obtain ⟨hdb, hqe⟩ := HY.out rfl
      obtain rfl : qd = doneDk x d := (Prod.mk.inj hqe).1
      have DB := (show Hid (diskB d = true) from hdb)
      have CY := idiskSync_any D7.out.1 HF.out
      have hsy := right_sync hdb
      have hsd : (syncDk d).1 = doneDk 2147483647 d := by rw [syncDk, if_neg (by rw [hdb]; simp)]
      rw [hsy.1, hsd] at CY
      have CY' := (show Hid _ from CY)
      clear HY HNO hdb hqe CY hsy hsd
      go_wp2_with fail
      go_at_call 15
      refine Calls.mono CY'.out ?_
      rintro e w8 ⟨v8, rfl, o8, b8⟩
      clear CY'
      have d8 := o8.at
      have d8' := d8
      obtain ⟨ra, rn, rc, qa, qn, qc, rfl, e1, e2⟩ := d8'
      obtain ⟨_, _, q1, _⟩ := e1.str
      cases q1
      obtain ⟨_, _, q2, _⟩ := e2.put
      cases q2
      have hl0 : (doneDk x d).late.length = 0 := rfl
      have hl1 : (doneDk 2147483647 d).late.length = 0 := rfl
      rw [hl0] at D7 Y7
      rw [hl1] at d8
      obtain ⟨w9, hw9⟩ : ∃ y, y = w8.alloc (.cells #[.slice ra (doneDk 2147483647 d).safe.length rc, .slice qa 0 qc] 27) := ⟨_, rfl⟩
      have b9 : Below w8.heap.size w8 w9 := by rw [hw9]; exact (Below.refl _ _).alloc (Nat.le_refl _) _
      have x9 : w9.heap[w8.heap.size]? = some (.cells #[.slice ra (doneDk 2147483647 d).safe.length rc, .slice qa 0 qc] 27 (0, 0)) := by rw [hw9]; exact World.alloc_heap_new _ _
      have b79 := b8.trans (b9.mono b8.size)
      have D9 := (show Hid (DiskAt w9 (.agg #[.slice sa d.safe.length sc, .slice la d.late.length lc]) d ∧ DiskAt w9 (.agg #[.slice na (doneDk x d).safe.length nc, .slice ma 0 mc]) (doneDk x d) ∧ DiskAt w9 (.agg #[.slice ra (doneDk 2147483647 d).safe.length rc, .slice qa 0 qc]) (doneDk 2147483647 d)) from ⟨D7.out.1.below b79, D7.out.2.below b79, d8.below b9⟩)
      have B9 := (show Hid (Below w1.heap.size w1 w9) from B7.out.trans (b79.mono B7.out.size))
      have Y9 := (show Hid (w9.heap[w2.heap.size]? = some (.cells #[.slice sa d.safe.length sc, .slice la d.late.length lc] 27 (0, 0)) ∧ w9.heap[w4.heap.size]? = some (.cells #[.slice na (doneDk x d).safe.length nc, .slice ma 0 mc] 27 (0, 0)) ∧ w9.heap[w8.heap.size]? = some (.cells #[.slice ra (doneDk 2147483647 d).safe.length rc, .slice qa 0 qc] 27 (0, 0))) from ⟨(b79.block _ (lt_of_block Y7.out.1)).trans Y7.out.1, (b79.block _ (lt_of_block Y7.out.2)).trans Y7.out.2, x9⟩)
      rw [hl1]
      obtain ⟨k1, k2, _, _⟩ := rk_two ((b8.block _ (lt_of_block Y7.out.1)).trans Y7.out.1)
      obtain ⟨m1, m2, _, _⟩ := rk_two ((b8.block _ (lt_of_block Y7.out.2)).trans Y7.out.2)
      have hl28 := Nat.lt_of_lt_of_le (lt_of_block Y7.out.1) b8.size
      have hl48 := Nat.lt_of_lt_of_le (lt_of_block Y7.out.2) b8.size
      clear D7 B7 Y7 b8 b9 b79 x9 d8 e1 e2 o8 hl0 hl1
      have HD2 := (show Hid (DiskFit (doneDk x d) ∧ DiskFit (doneDk 2147483647 d) ∧ diskB (doneDk x d) = true ∧ diskB (doneDk 2147483647 d) = true) from ⟨HQF.out, fit_right (right_done DB.out _), right_done DB.out _, right_done DB.out _⟩)
      have HSX := (show Hid (∀ (i : Nat) (hi : i < d.safe.length), sectorD (doneDk x d) i = d.safe[i] ∨ someP i (sectorD (doneDk x d) i) d.late = true) from fun i hi => by
        rw [sector_done x d i hi]
        have := done_some (keep := x) DB.out i hi d.late.length (Nat.le_refl _)
        rw [List.take_length] at this
        exact this)
      have HSY := (show Hid (∀ (i : Nat) (hi : i < d.safe.length), sectorD (doneDk 2147483647 d) i = sectorD d i) from fun i hi => by
        rw [sector_done 2147483647 d i hi, sector_at d i hi]
        have := done_all DB.out i hi d.late.length (Nat.le_refl _)
        rw [List.take_length] at this
        exact this)
      obtain ⟨dx, hdx⟩ : ∃ y, y = doneDk x d := ⟨_, rfl⟩
      obtain ⟨dy, hdy⟩ : ∃ y, y = doneDk 2147483647 d := ⟨_, rfl⟩
      rw [← hdx] at D9 Y9 HD2 HSX HQF g1 g2 m1
      rw [← hdy] at D9 Y9 HD2 HSY
      rw [← hdx, ← hdy]
      rw [← hdy] at hw9
      clear hdx hdy
      go_wp2_with fail
      go_at_call 16
      rw [← hw9]
      have CO := idiskOk_any D9.out.2.1 HD2.out.1
      rw [HD2.out.2.2.1] at CO
      refine Calls.mono CO ?_
      rintro e wa ⟨rfl, ba⟩
      clear hw9 CO k1 k2 m1 m2 hl28 hl48
      have D10 := (show Hid (DiskAt wa (.agg #[.slice sa d.safe.length sc, .slice la d.late.length lc]) d ∧ DiskAt wa (.agg #[.slice na dx.safe.length nc, .slice ma 0 mc]) dx ∧ DiskAt wa (.agg #[.slice ra dy.safe.length rc, .slice qa 0 qc]) dy) from ⟨D9.out.1.below ba, D9.out.2.1.below ba, D9.out.2.2.below ba⟩)
      have B10 := (show Hid (Below w1.heap.size w1 wa) from B9.out.trans (ba.mono B9.out.size))
      have Y10 := (show Hid (wa.heap[w2.heap.size]? = some (.cells #[.slice sa d.safe.length sc, .slice la d.late.length lc] 27 (0, 0)) ∧ wa.heap[w4.heap.size]? = some (.cells #[.slice na dx.safe.length nc, .slice ma 0 mc] 27 (0, 0)) ∧ wa.heap[w8.heap.size]? = some (.cells #[.slice ra dy.safe.length rc, .slice qa 0 qc] 27 (0, 0))) from ⟨(ba.block _ (lt_of_block Y9.out.1)).trans Y9.out.1, (ba.block _ (lt_of_block Y9.out.2.1)).trans Y9.out.2.1, (ba.block _ (lt_of_block Y9.out.2.2)).trans Y9.out.2.2⟩)
      clear D9 B9 Y9 ba
      have hl130 := (diskB_len DB.out).1
      have HL := (show Hid (d.safe.length = 130) from hl130)
      clear hl130
      go_wp2
      go_loopw [11] (fun i wr => ∃ k : Nat, k ≤ 130 ∧ i = .int .i64 k ∧ Below wa.heap.size wa wr) (fun i _ => 130 - (intOf i).toNat)
      case atStart => exact ⟨0, by decide, rfl, Below.refl _ _⟩
      case round =>
        obtain ⟨k, hk, rfl, bel⟩ := hrel
        have y1 := (bel.block _ (lt_of_block Y10.out.1)).trans Y10.out.1
        have y2 := (bel.block _ (lt_of_block Y10.out.2.1)).trans Y10.out.2.1
        have y3 := (bel.block _ (lt_of_block Y10.out.2.2)).trans Y10.out.2.2
        have YR := (show Hid _ from (⟨y1, y2, y3⟩ : _ ∧ _ ∧ _))
        clear y1 y2 y3
        by_cases hlt : k < 130
        · have hltI : (k : Int) < 130 := by omega
          have hks : k < d.safe.length := by have := HL.out; omega
          have CX := isectorOf_any (D10.out.2.1.below bel) HD2.out.1 (k : Int)
          rw [sectorDk_ok HD2.out.2.2.1 (by omega) (by omega)] at CX
          have CY := (show Hid (∀ W, Below wr.heap.size wr W → Calls Try.prog 17 #[.agg #[.slice ra dy.safe.length rc, .slice qa 0 qc], .int .i64 (k : Int)] W fun e w' => e = .returned (.tuple #[.string (sectorD dy k), .bool true]) ∧ Below W.heap.size W w') from fun W b => by
            have := isectorOf_any ((D10.out.2.2.below bel).below b) HD2.out.2.1 (k : Int)
            rw [sectorDk_ok HD2.out.2.2.2 (by omega) (by omega)] at this
            exact this)
          have CL := (show Hid (∀ W, Below wr.heap.size wr W → Calls Try.prog 18 #[.agg #[.slice sa d.safe.length sc, .slice la d.late.length lc], .int .i64 (k : Int)] W fun e w' => e = .returned (.tuple #[.string (sectorD d k), .bool true]) ∧ Below W.heap.size W w') from fun W b => by
            have := ssectorOf_any ((D10.out.1.below bel).below b) HF.out (k : Int)
            rw [sectorDk_ok DB.out (by omega) (by omega)] at this
            exact this)
          simp only at CX
          have hsx := HSX.out k hks
          rw [HSY.out k hks] at CY
          obtain ⟨t, ht⟩ : ∃ t, t = sectorD dx k := ⟨_, rfl⟩
          obtain ⟨y, hy⟩ : ∃ y, y = sectorD d k := ⟨_, rfl⟩
          rw [← ht] at CX hsx
          rw [← hy] at CY CL
          have HSX' := (show Hid _ from hsx)
          have CX' := (show Hid _ from CX)
          clear ht hy hsx CX
          obtain ⟨m1, m2, _, _⟩ := rk_two YR.out.2.1
          go_wp2_with fail
          go_at_call 17
          refine Calls.mono CX'.out ?_
          rintro e wb ⟨rfl, bb⟩
          clear CX' m1 m2
          obtain ⟨r1, r2, _, _⟩ := rk_two ((bb.block _ (lt_of_block YR.out.2.2)).trans YR.out.2.2)
          go_wp2_with fail
          go_at_call 17
          refine (CY.out wb bb).mono ?_
          rintro e wc ⟨rfl, bc⟩
          have bbc := bb.trans (bc.mono bb.size)
          clear CY r1 r2
          obtain ⟨k1, k2, _, _⟩ := rk_two ((bbc.block _ (lt_of_block YR.out.1)).trans YR.out.1)
          go_wp2_with fail
          go_at_call 18
          refine (CL.out wc bbc).mono ?_
          rintro e wd ⟨rfl, bd⟩
          have bbd := bbc.trans (bd.mono bbc.size)
          clear CL k1 k2 bb bc bd bbc
          have bad : Below wa.heap.size wa wd := bel.trans (bbd.mono bel.size)
          have yd := (bbd.block _ (lt_of_block YR.out.1)).trans YR.out.1
          obtain ⟨k1, k2, _, _⟩ := rk_two yd
          have dd := D10.out.1.below bad
          obtain ⟨_, _, _, _, _, _, ev, s1, s2⟩ := dd
          cases ev
          obtain ⟨_, _, q1, _, _, hcs⟩ := s1.str
          cases q1
          obtain ⟨_, _, q2, _, _, hcp⟩ := s2.put
          cases q2
          obtain ⟨b, o, rfl, _, cs⟩ := hcs k hks
          have HCP := (show Hid (∀ k (hk : k < d.late.length), ∃ b off, la = some ⟨b, off, none⟩ ∧ b < wd.heap.size ∧ wd.cell? ⟨b, off + k * 2, none⟩ = some (.int .i64 d.late[k].1) ∧ wd.cell? ⟨b, off + k * 2 + 1, none⟩ = some (.string d.late[k].2)) from hcp)
          have hksI : (k : Int) < (d.safe.length : Int) := by omega
          have BAD := (show Hid (Below wa.heap.size wa wd) from bad)
          have YD := (show Hid _ from yd)
          obtain ⟨si, hsi⟩ : ∃ si, si = d.safe[k] := ⟨_, rfl⟩
          rw [← hsi] at cs HSX'
          clear hsi hcs hcp s1 s2 bbd bad yd
          obtain ⟨b0, hb0⟩ : ∃ b0, b0 = decide (t = si) := ⟨_, rfl⟩
          have HB0 := (show Hid ((b0 || someP k t d.late) = true) from by
            show (b0 || someP k t d.late) = true
            rcases HSX'.out with e | e
            · rw [hb0, decide_eq_true e]; rfl
            · rw [e]; simp)
          have hsb : (t.toList == si.toList) = b0 := by
            rw [hb0]
            by_cases e : t = si
            · rw [e]; simp
            · rw [decide_eq_false e]; exact toList_ne e
          clear HSX' hb0
          go_wp2
          go_loopw [18, 19] (fun z i wr => ∃ m : Nat, m ≤ d.late.length ∧ i = .int .i64 m ∧ z = .bool (b0 || someP k t (d.late.take m)) ∧ Below wd.heap.size wd wr) (fun _ i _ => d.late.length - (intOf i).toNat)
          case atStart => exact ⟨0, Nat.zero_le _, rfl, by simp [someP], Below.refl _ _⟩
          case round =>
            clear k1 k2 cs
            obtain ⟨m, hm, rfl, rfl, bel2⟩ := hrel
            have ye := (bel2.block _ (lt_of_block YD.out)).trans YD.out
            obtain ⟨k1, k2, _, _⟩ := rk_two ye
            clear ye
            by_cases hlm : m < d.late.length
            · have hlmI : (m : Int) < (d.late.length : Int) := by omega
              obtain ⟨b2, o2, rfl, hb2, c3, c4⟩ := HCP.out m hlm
              have c3' := (bel2.cell (p := ⟨b2, o2 + m * 2, none⟩) hb2).trans c3
              have c4' := (bel2.cell (p := ⟨b2, o2 + m * 2 + 1, none⟩) hb2).trans c4
              have hst := someP_take (i := (k : Int)) (t := t) hlm
              obtain ⟨pm, hpm⟩ : ∃ z, z = d.late[m] := ⟨_, rfl⟩
              rw [← hpm] at c3' c4' hst
              obtain ⟨pa', ps'⟩ := pm
              simp only at c3' c4' hst
              have HST := (show Hid _ from hst)
              clear hpm c3 c4 hst
              obtain ⟨bb, hbb⟩ : ∃ bb, bb = (b0 || someP k t (d.late.take m)) := ⟨_, rfl⟩
              have HBB := (show Hid _ from hbb)
              rw [← hbb]
              clear hbb
              cases bb
              · by_cases e1 : pa' = (k : Int)
                · by_cases e2 : ps' = t
                  · have HE := (show Hid ((b0 || someP k t (d.late.take (m + 1))) = true) from by show _ = true; rw [HST.out, e1, e2]; simp)
                    subst e1 e2
                    clear HST HBB
                    go_wp2
                    go_roundw
                    case rel => exact ⟨m + 1, by omega, by go_num, by rw [HE.out], bel2⟩
                    case measure => simp [intOf]; omega
                  · have HE := (show Hid ((b0 || someP k t (d.late.take (m + 1))) = false) from by show _ = false; rw [HST.out, decide_eq_false e2, Bool.and_false, Bool.or_false]; exact HBB.out.symm)
                    have hne := toList_ne e2
                    subst e1
                    clear HST HBB e2
                    go_wp2
                    go_roundw
                    case rel => exact ⟨m + 1, by omega, by go_num, by rw [HE.out], bel2⟩
                    case measure => simp [intOf]; omega
                · have HE := (show Hid ((b0 || someP k t (d.late.take (m + 1))) = false) from by show _ = false; rw [HST.out, decide_eq_false e1, Bool.false_and, Bool.or_false]; exact HBB.out.symm)
                  have hne : (pa' == (k : Int)) = false := by simpa using e1
                  clear HST HBB
                  go_wp2
                  go_roundw
                  case rel => exact ⟨m + 1, by omega, by go_num, by rw [HE.out], bel2⟩
                  case measure => simp [intOf]; omega
              · have HE := (show Hid ((b0 || someP k t (d.late.take (m + 1))) = true) from by show _ = true; rw [HST.out, ← Bool.or_assoc, ← HBB.out]; rfl)
                clear HST HBB
                go_wp2
                go_roundw
                case rel => exact ⟨m + 1, by omega, by go_num, by rw [HE.out], bel2⟩
                case measure => simp [intOf]; omega
            · obtain rfl : m = d.late.length := by omega
              have hB := HB0.out
              rw [List.take_length, hB]
              have b3 := BAD.out.trans (bel2.mono BAD.out.size)
              clear hB
              go_wp2
              go_roundw
              case rel => exact ⟨k + 1, by omega, by go_num, b3⟩
              case measure => simp [intOf]; omega
        · have hltI : ¬ (k : Int) < 130 := by omega
          have b1 := B10.out.trans (bel.mono B10.out.size)
          go_wp2
          go_ret
          exact ⟨rfl, b1⟩
end Go.Proofs.Ytdhnoaajdjkddaa
