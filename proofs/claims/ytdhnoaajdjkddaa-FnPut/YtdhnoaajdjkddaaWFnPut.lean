/- The law FnPut, walked. No condition. -/
import Derived.Test.YtdhnoaajdjkddaaDrawD5
import Derived.Test.YtdhnoaajdjkddaaID3
import Derived.Test.YtdhnoaajdjkddaaID2
namespace Go.Proofs.Ytdhnoaajdjkddaa
open Go.RowKit
set_option maxRecDepth 100000
set_option linter.unusedVariables false

theorem OwnDz.at {B : Nat} {w : World} {v : Value} {d : PDisk} (h : OwnDz B w v d) : DiskAt w v d := by
  obtain ⟨sa, sn, sc, la, ln, lc, e, h1, h2⟩ := h
  exact ⟨sa, sn, sc, la, ln, lc, e, h1.sv, h2.sv⟩
theorem putDk_fit {d : PDisk} (h : DiskFit d) (x : Int) {s : ByteArray} (hs : s.size ≤ 1099511627776) : DiskFit (putDk d x s).1 := by
  unfold putDk
  split
  · exact ⟨by decide, by decide, (fun s hs => by cases hs), (fun p hp => by cases hp)⟩
  · rename_i hb
    split
    · exact h
    · have hl := diskB_len (d := d) (by simpa using hb)
      exact fit_snoc h hl.2 hs
theorem putDk_yes {d : PDisk} {x : Int} {s : ByteArray} (h : (putDk d x s).2 = true) : diskB d = true ∧ putDk d x s = (⟨d.safe, d.late ++ [(x, s)]⟩, true) := by
  unfold putDk at h ⊢
  split at h
  · cases h
  · rename_i hb
    split at h
    · cases h
    · rename_i hn
      rw [if_neg hb, if_neg hn]
      exact ⟨by simpa using hb, rfl⟩
theorem putDk_no {d : PDisk} {x : Int} {s : ByteArray} (h : (putDk d x s).2 = false) : (putDk d x s).1.late.length = d.late.length ∨ (putDk d x s).1.safe.length = 0 := by
  unfold putDk at h ⊢
  split at h
  · rename_i hb
    rw [if_pos hb]
    exact .inr rfl
  · rename_i hb
    split at h
    · rename_i hn
      rw [if_neg hb, if_pos hn]
      exact .inl rfl
    · cases h
theorem sector_snoc (d : PDisk) (x : Int) (s : ByteArray) (i : Int) : sectorD ⟨d.safe, d.late ++ [(x, s)]⟩ i = if x = i then s else sectorD d i := by
  unfold sectorD
  simp only [putAt_snoc]
  by_cases h : x = i
  · simp [h]
  · simp [h]
theorem sectorDk_right {d : PDisk} (h : diskB d = true) {i : Int} (h0 : 0 ≤ i) (h1 : i ≤ 129) : sectorDk d i = (sectorD d i, true) := by
  rw [sectorDk, if_neg (by rw [h, inB_yes h0 (by omega)]; simp)]

set_option maxHeartbeats 2000000 in
set_option maxRecDepth 100000 in
theorem fnPut_walk {v : Value} {xs : List Int} (w : World) (h : Sl .u8 w v xs) (hf : ∀ n ∈ xs, (Lit.int .u8 n).wf = true) :
    Calls Try.prog 4 #[v] w fun e w' => e = .returned (.bool true) ∧ Below w.heap.size w w' := by
  have hb : ∀ x ∈ xs, 0 ≤ x ∧ x ≤ 255 := byte_ok hf
  by_cases hbig : 1048576 < xs.length
  · have CB := (show Hid _ from big_any h)
    have hd : decide (1048576 < xs.length) = true := decide_eq_true hbig
    rw [hd] at CB
    go_enter Try.func4, Try.ntmps4
    go_wp2_with fail
    go_at_call 11
    refine Calls.mono CB.out ?_
    rintro e w1 ⟨rfl, e1⟩
    subst e1
    go_wp2
    go_ret
    exact ⟨rfl, Below.refl _ _⟩
  · have CB := (show Hid _ from big_any h)
    have hd : decide (1048576 < xs.length) = false := decide_eq_false hbig
    rw [hd] at CB
    have CD := (show Hid _ from drawDiskPut_any h hb (by omega))
    clear hd hf hb hbig h
    go_enter Try.func4, Try.ntmps4
    go_wp2_with fail
    go_at_call 11
    refine Calls.mono CB.out ?_
    rintro e w1 ⟨rfl, e1⟩
    subst e1
    clear CB
    go_wp2_with fail
    go_at_call 19
    refine Calls.mono CD.out ?_
    rintro e w2 ⟨u2, d, x, s, rfl, hd2, hf2, hs2, b2⟩
    clear CD
    have hd2' := hd2
    obtain ⟨sa, sn, sc, la, ln, lc, rfl, e1, e2⟩ := hd2'
    obtain ⟨_, _, q1, _⟩ := e1.str
    cases q1
    obtain ⟨_, _, q2, _⟩ := e2.put
    cases q2
    have HF := (show Hid (DiskFit d) from hf2)
    have f1 := hf2.sl
    have f2 := hf2.ll
    have hs40 : s.size ≤ 1099511627776 := by omega
    obtain ⟨w3, hw3⟩ : ∃ y, y = w2.alloc (.cells #[.slice sa d.safe.length sc, .slice la d.late.length lc] 27) := ⟨_, rfl⟩
    have b3 : Below w2.heap.size w2 w3 := by rw [hw3]; exact (Below.refl _ _).alloc (Nat.le_refl _) _
    have x3 : w3.heap[w2.heap.size]? = some (.cells #[.slice sa d.safe.length sc, .slice la d.late.length lc] 27 (0, 0)) := by rw [hw3]; exact World.alloc_heap_new _ _
    have B3 := (show Hid (Below w1.heap.size w1 w3) from b2.trans (b3.mono b2.size))
    have D3 := (show Hid (DiskAt w3 (.agg #[.slice sa d.safe.length sc, .slice la d.late.length lc]) d) from hd2.below b3)
    have X3 := (show Hid _ from x3)
    have CI := (show Hid _ from idiskPut_any w3 _ d x s D3.out HF.out hs40)
    have CS := (show Hid (∀ W, DiskAt W (.agg #[.slice sa d.safe.length sc, .slice la d.late.length lc]) d → Calls Try.prog 21 #[.agg #[.slice sa d.safe.length sc, .slice la d.late.length lc], .int .i64 x, .string s] W fun e w' => ∃ v', e = .returned (.tuple #[v', .bool (putDk d x s).2]) ∧ OwnDk W.heap.size w' v' (putDk d x s).1 ∧ Below W.heap.size W w') from fun W h => sdiskPut_any h HF.out x s hs40)
    have HY := (show Hid ((putDk d x s).2 = true → diskB d = true ∧ putDk d x s = (⟨d.safe, d.late ++ [(x, s)]⟩, true)) from putDk_yes)
    have HR := (show Hid (diskB d = true → (putDk d x s).2 = true → diskB (putDk d x s).1 = true) from fun h => right_put h)
    have HNO := (show Hid ((putDk d x s).2 = false → (putDk d x s).1.late.length = d.late.length ∨ (putDk d x s).1.safe.length = 0) from putDk_no)
    have HQF := (show Hid (DiskFit (putDk d x s).1) from putDk_fit HF.out x hs40)
    obtain ⟨q, hq⟩ : ∃ q, q = putDk d x s := ⟨_, rfl⟩
    rw [← hq] at CI CS HY HR HNO HQF
    clear hq
    obtain ⟨qd, qb⟩ := q
    simp only at CI CS HY HR HNO HQF
    have g1 := HQF.out.sl
    have g2 := HQF.out.ll
    clear b2 b3 x3 hd2 e1 e2 hf2
    go_wp2_with fail
    go_at_call 20
    rw [← hw3]
    refine Calls.mono CI.out ?_
    rintro e w4 ⟨v4, rfl, o4, b4⟩
    clear hw3 CI
    have d4 := o4.at
    have d4' := d4
    obtain ⟨na, nn, nc, ma, mn, mc, rfl, e1, e2⟩ := d4'
    obtain ⟨_, _, q1, _⟩ := e1.str
    cases q1
    obtain ⟨_, _, q2, _⟩ := e2.put
    cases q2
    obtain ⟨w5, hw5⟩ : ∃ y, y = w4.alloc (.cells #[.slice na qd.safe.length nc, .slice ma qd.late.length mc] 27) := ⟨_, rfl⟩
    have b5 : Below w4.heap.size w4 w5 := by rw [hw5]; exact (Below.refl _ _).alloc (Nat.le_refl _) _
    have x5 : w5.heap[w4.heap.size]? = some (.cells #[.slice na qd.safe.length nc, .slice ma qd.late.length mc] 27 (0, 0)) := by rw [hw5]; exact World.alloc_heap_new _ _
    have b35 : Below w3.heap.size w3 w5 := b4.trans (b5.mono b4.size)
    have y5 := (b35.block _ (lt_of_block X3.out)).trans X3.out
    obtain ⟨k1, k2, _, _⟩ := rk_two y5
    have hl3 := lt_of_block X3.out
    have hs34 := b4.size
    have o1 : w4.cell? ⟨w2.heap.size, 0, none⟩ = some (.slice sa d.safe.length sc) := (rk_two ((b4.block _ hl3).trans X3.out)).1
    have o2 : w4.cell? ⟨w2.heap.size, 1, none⟩ = some (.slice la d.late.length lc) := (rk_two ((b4.block _ hl3).trans X3.out)).2.1
    have hl4 : w2.heap.size < w4.heap.size := by omega
    have D5 := (show Hid (DiskAt w5 (.agg #[.slice sa d.safe.length sc, .slice la d.late.length lc]) d ∧ DiskAt w5 (.agg #[.slice na qd.safe.length nc, .slice ma qd.late.length mc]) qd) from ⟨D3.out.below b35, d4.below b5⟩)
    have B5 := (show Hid (Below w1.heap.size w1 w5) from B3.out.trans (b35.mono B3.out.size))
    have Y5 := (show Hid (w5.heap[w2.heap.size]? = some (.cells #[.slice sa d.safe.length sc, .slice la d.late.length lc] 27 (0, 0)) ∧ w5.heap[w4.heap.size]? = some (.cells #[.slice na qd.safe.length nc, .slice ma qd.late.length mc] 27 (0, 0))) from ⟨y5, x5⟩)
    clear e1 e2 d4 o4 b4 b5 x5 b35 y5 X3 D3 B3
    go_wp2_with fail
    go_at_call 21
    rw [← hw5]
    refine Calls.mono (CS.out w5 D5.out.1) ?_
    rintro e w6 ⟨v6, rfl, o6, b6⟩
    clear hw5 CS o1 o2 k1 k2
    have D6 := (show Hid (DiskAt w6 (.agg #[.slice sa d.safe.length sc, .slice la d.late.length lc]) d ∧ DiskAt w6 (.agg #[.slice na qd.safe.length nc, .slice ma qd.late.length mc]) qd) from ⟨D5.out.1.below b6, D5.out.2.below b6⟩)
    have B6 := (show Hid (Below w1.heap.size w1 w6) from B5.out.trans (b6.mono B5.out.size))
    have Y6 := (show Hid (w6.heap[w2.heap.size]? = some (.cells #[.slice sa d.safe.length sc, .slice la d.late.length lc] 27 (0, 0)) ∧ w6.heap[w4.heap.size]? = some (.cells #[.slice na qd.safe.length nc, .slice ma qd.late.length mc] 27 (0, 0))) from ⟨(b6.block _ (lt_of_block Y5.out.1)).trans Y5.out.1, (b6.block _ (lt_of_block Y5.out.2)).trans Y5.out.2⟩)
    obtain ⟨ta, tn, tc, pa, pn, pc, rfl, _, _⟩ := o6
    clear D5 B5 Y5 b6
    obtain ⟨k1, k2, _, _⟩ := rk_two Y6.out.1
    obtain ⟨m1, m2, _, _⟩ := rk_two Y6.out.2
    have hl26 := lt_of_block Y6.out.1
    have hl46 := lt_of_block Y6.out.2
    obtain ⟨w7, hw7⟩ : ∃ y, y = w6.alloc (.cells #[.slice ta tn tc, .slice pa pn pc] 27) := ⟨_, rfl⟩
    have b7 : Below w6.heap.size w6 w7 := by rw [hw7]; exact (Below.refl _ _).alloc (Nat.le_refl _) _
    cases qb
    · have HNO' := HNO.out rfl
      clear HNO HY HR
      have B7 := (show Hid (Below w1.heap.size w1 w7) from B6.out.trans (b7.mono B6.out.size))
      rw [hw7] at B7
      rcases HNO' with hl | hl
      · have hlI : ((qd.late.length : Int) == (d.late.length : Int)) = true := by rw [hl]; simp
        clear hl hw7
        go_wp2
        go_ret
        exact ⟨rfl, B7.out⟩
      · have hlI : ((qd.safe.length : Int) == 0) = true := by rw [hl]; simp
        clear hw7
        by_cases he : qd.late.length = d.late.length
        · have heI : ((qd.late.length : Int) == (d.late.length : Int)) = true := by rw [he]; simp
          clear he hl
          go_wp2
          go_ret
          exact ⟨rfl, B7.out⟩
        · have heI : ((qd.late.length : Int) == (d.late.length : Int)) = false := by simp; omega
          clear he hl
          go_wp2
          go_ret
          exact ⟨rfl, B7.out⟩
    · obtain ⟨hdb, hqe⟩ := HY.out rfl
      have hqd := HR.out hdb rfl
      have DB := (show Hid (diskB d = true ∧ diskB qd = true) from ⟨hdb, hqd⟩)
      have HQ := (show Hid (∀ i, sectorD qd i = if x = i then s else sectorD d i) from fun i => by
        have : qd = ⟨d.safe, d.late ++ [(x, s)]⟩ := (Prod.mk.inj hqe).1
        rw [this]; exact sector_snoc d x s i)
      have D7 := (show Hid (DiskAt w7 (.agg #[.slice sa d.safe.length sc, .slice la d.late.length lc]) d ∧ DiskAt w7 (.agg #[.slice na qd.safe.length nc, .slice ma qd.late.length mc]) qd) from ⟨D6.out.1.below b7, D6.out.2.below b7⟩)
      have B7 := (show Hid (Below w1.heap.size w1 w7) from B6.out.trans (b7.mono B6.out.size))
      have Y7 := (show Hid (w7.heap[w2.heap.size]? = some (.cells #[.slice sa d.safe.length sc, .slice la d.late.length lc] 27 (0, 0)) ∧ w7.heap[w4.heap.size]? = some (.cells #[.slice na qd.safe.length nc, .slice ma qd.late.length mc] 27 (0, 0))) from ⟨(b7.block _ hl26).trans Y6.out.1, (b7.block _ hl46).trans Y6.out.2⟩)
      clear HY HR HNO hdb hqe hqd D6 B6 Y6 b7
      go_wp2
      rw [← hw7]
      clear hw7 k1 k2 m1 m2 hl26 hl46 hl4
      go_loopw [10] (fun i wr => ∃ k : Nat, k ≤ 130 ∧ i = .int .i64 k ∧ Below w7.heap.size w7 wr) (fun i _ => 130 - (intOf i).toNat)
      case atStart => exact ⟨0, by decide, rfl, Below.refl _ _⟩
      case round =>
        obtain ⟨k, hk, rfl, bel⟩ := hrel
        have y1 := (bel.block _ (lt_of_block Y7.out.1)).trans Y7.out.1
        have y2 := (bel.block _ (lt_of_block Y7.out.2)).trans Y7.out.2
        obtain ⟨k1, k2, _, _⟩ := rk_two y1
        obtain ⟨m1, m2, _, _⟩ := rk_two y2
        have Y8 := (show Hid _ from y1)
        clear y1 y2
        by_cases hlt : k < 130
        · have hltI : (k : Int) < 130 := by omega
          have CI := isectorOf_any (D7.out.2.below bel) HQF.out (k : Int)
          rw [sectorDk_right DB.out.2 (by omega) (by omega)] at CI
          have CS := (show Hid (∀ W, Below wr.heap.size wr W → Calls Try.prog 18 #[.agg #[.slice sa d.safe.length sc, .slice la d.late.length lc], .int .i64 (k : Int)] W fun e w' => e = .returned (.tuple #[.string (sectorD d k), .bool true]) ∧ Below W.heap.size W w') from fun W b => by
            have := ssectorOf_any ((D7.out.1.below bel).below b) HF.out (k : Int)
            rw [sectorDk_right DB.out.1 (by omega) (by omega)] at this
            exact this)
          simp only at CI
          have hsec := HQ.out (k : Int)
          obtain ⟨t, ht⟩ : ∃ t, t = sectorD qd k := ⟨_, rfl⟩
          obtain ⟨y, hy⟩ : ∃ y, y = sectorD d k := ⟨_, rfl⟩
          rw [← ht] at CI hsec
          rw [← hy] at CS hsec
          clear ht hy
          by_cases hx : x = (k : Int)
          · rw [if_pos hx] at hsec
            subst hsec
            subst hx
            have CI' := (show Hid _ from CI)
            clear CI
            go_wp2_with fail
            go_at_call 17
            refine Calls.mono CI'.out ?_
            rintro e w8 ⟨rfl, b8⟩
            have z1 := (b8.block _ (lt_of_block Y8.out)).trans Y8.out
            obtain ⟨k1, k2, _, _⟩ := rk_two z1
            clear CI' z1
            go_wp2_with fail
            go_at_call 18
            refine (CS.out w8 b8).mono ?_
            rintro e w9 ⟨rfl, b9⟩
            have b79 := bel.trans ((b8.trans (b9.mono b8.size)).mono bel.size)
            clear CS b8 b9
            go_wp2
            go_roundw
            case rel => exact ⟨k + 1, by omega, by go_num, b79⟩
            case measure => simp [intOf]; omega
          · rw [if_neg hx] at hsec
            subst hsec
            have hxE : ¬ (k : Int) = x := fun e => hx e.symm
            have CI' := (show Hid _ from CI)
            clear CI hx
            go_wp2_with fail
            go_at_call 17
            refine Calls.mono CI'.out ?_
            rintro e w8 ⟨rfl, b8⟩
            have z1 := (b8.block _ (lt_of_block Y8.out)).trans Y8.out
            obtain ⟨k1, k2, _, _⟩ := rk_two z1
            clear CI' z1
            go_wp2_with fail
            go_at_call 18
            refine (CS.out w8 b8).mono ?_
            rintro e w9 ⟨rfl, b9⟩
            have b79 := bel.trans ((b8.trans (b9.mono b8.size)).mono bel.size)
            clear CS b8 b9
            go_wp2
            go_roundw
            case rel => exact ⟨k + 1, by omega, by go_num, b79⟩
            case measure => simp [intOf]; omega
        · have hltI : ¬ (k : Int) < 130 := by omega
          have CO := idiskOk_any (D7.out.2.below bel) HQF.out
          rw [DB.out.2] at CO
          have CO' := (show Hid _ from CO)
          clear CO
          go_wp2_with fail
          go_at_call 16
          refine Calls.mono CO'.out ?_
          rintro e w8 ⟨rfl, b8⟩
          have b18 := B7.out.trans ((bel.trans (b8.mono bel.size)).mono B7.out.size)
          clear CO'
          go_wp2
          go_ret
          exact ⟨rfl, b18⟩
end Go.Proofs.Ytdhnoaajdjkddaa
