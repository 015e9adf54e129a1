/- The program's SectorOf. No condition. -/
import Derived.Test.YtdhnoaajdjkddaaID1
namespace Go.Proofs.Ytdhnoaajdjkddaa
open Go.RowKit
set_option maxRecDepth 100000
set_option linter.unusedVariables false

theorem sectorOf1_any (g : Nat) (x y : Int) (s : ByteArray) (w : World) (hg : w.cell? ⟨g, 0, none⟩ = some (.int .i64 y)) (hlt : g < w.heap.size) :
    Calls Try.prog 44 #[.agg #[.int .i64 x, .string s], .pointer (some ⟨g, 0, none⟩)] w fun e w' => e = .returned (.bool (decide (x = y))) ∧ Below w.heap.size w w' := by
  have hb : Below w.heap.size w (w.alloc (.cells #[.int .i64 x, .string s] 37)) := (Below.refl _ _).alloc (Nat.le_refl _) _
  have hg2 := (hb.cell (p := ⟨g, 0, none⟩) hlt).trans hg
  by_cases hm : x = y
  · rw [decide_eq_true hm]
    subst hm
    go_enter Try.func44, Try.ntmps44
    go_wp2
    go_ret
    exact ⟨rfl, hb⟩
  · rw [decide_eq_false hm]
    have hn : (x == y) = false := by simp [hm]
    go_enter Try.func44, Try.ntmps44
    go_wp2
    go_ret
    exact ⟨rfl, hb⟩

set_option maxHeartbeats 2000000 in
set_option maxRecDepth 100000 in
theorem lastPut_any {v : Value} {ps : List (Int × ByteArray)} {w : World} (h : Sv 2 w v (putCells ps)) (g : Nat) (y : Int) (hg : w.cell? ⟨g, 0, none⟩ = some (.int .i64 y)) (hgl : g < w.heap.size) (hn : ps.length ≤ 1048576) :
    Calls Try.prog 43 #[v, .func (.func 44) #[] #[.pointer (some ⟨g, 0, none⟩)]] w fun e w' => ∃ r : Int, e = .returned (.int .i64 r) ∧ ((r = -1 ∧ putAt y ps = none) ∨ (∃ k, ∃ hk : k < ps.length, r = (k : Int) ∧ putAt y ps = some ps[k].2)) ∧ Below w.heap.size w w' := by
  obtain ⟨a2, c2, e2, _, _, hp⟩ := h.put
  subst e2
  have HP := (show Hid (∀ k (hk : k < ps.length), ∃ b off, a2 = some ⟨b, off, none⟩ ∧ b < w.heap.size ∧ w.cell? ⟨b, off + k * 2, none⟩ = some (.int .i64 ps[k].1) ∧ w.cell? ⟨b, off + k * 2 + 1, none⟩ = some (.string ps[k].2)) from hp)
  have HG := (show Hid (w.cell? ⟨g, 0, none⟩ = some (.int .i64 y)) from hg)
  clear h hp hg
  go_enter Try.func43, Try.ntmps43
  go_wp2
  go_loopw [5] (fun i wr => ∃ k : Nat, k ≤ ps.length ∧ i = .int .i64 ((k : Int) - 1) ∧ putAt y ps = putAt y (ps.take k) ∧ Below w.heap.size w wr) (fun i _ => (intOf i + 1).toNat)
  case atStart => exact ⟨ps.length, Nat.le_refl _, by go_num, by rw [List.take_length], Below.refl _ _⟩
  case round =>
    obtain ⟨k, hk, rfl, he, bel⟩ := hrel
    have HE := (show Hid (putAt y ps = putAt y (ps.take k)) from he)
    clear he
    cases k with
    | zero =>
      have HR : Hid (putAt y ps = none) := (show putAt y ps = none by rw [HE.out]; simp [putAt])
      have e0 : ((0 : Nat) : Int) - 1 = -1 := by omega
      rw [e0]
      clear HE e0
      go_wp2
      go_ret
      exact ⟨-1, rfl, .inl ⟨rfl, HR.out⟩, bel⟩
    | succ k =>
      have hk' : k < ps.length := by omega
      obtain ⟨b2, o2, rfl, hb2, c3, c4⟩ := HP.out k hk'
      have c3' := (bel.cell (p := ⟨b2, o2 + k * 2, none⟩) hb2).trans c3
      have c4' := (bel.cell (p := ⟨b2, o2 + k * 2 + 1, none⟩) hb2).trans c4
      have HT := (show Hid (putAt y ps = if ps[k].1 = y then some ps[k].2 else putAt y (ps.take k)) from HE.out.trans (putAt_take hk'))
      have ek : ((k + 1 : Nat) : Int) - 1 = (k : Int) := by omega
      rw [ek]
      have KF := (show Hid (ps[k].1 = y → ∃ k', ∃ hk : k' < ps.length, (k : Int) = (k' : Int) ∧ putAt y ps = some ps[k'].2) from fun e => ⟨k, hk', rfl, by rw [HT.out, if_pos e]⟩)
      have KN := (show Hid (ps[k].1 ≠ y → putAt y ps = putAt y (ps.take k)) from fun e => by rw [HT.out, if_neg e])
      obtain ⟨z, hz⟩ : ∃ z, z = ps[k] := ⟨_, rfl⟩
      rw [← hz] at c3' c4' KF KN
      obtain ⟨za, zs⟩ := z
      simp only at c3' c4' KF KN
      have CC := (show Hid _ from sectorOf1_any g za y zs wr ((bel.cell (p := ⟨g, 0, none⟩) hgl).trans HG.out) (Nat.lt_of_lt_of_le hgl bel.size))
      clear hz c3 c4 HT HE ek
      go_wp2_with fail
      go_at_call 44
      refine Calls.mono CC.out ?_
      rintro e w2 ⟨rfl, b2⟩
      replace b2 := bel.trans (b2.mono bel.size)
      clear CC c3' c4'
      by_cases e : za = y
      · have KF' := (show Hid _ from KF.out e)
        have hd : decide (za = y) = true := decide_eq_true e
        rw [hd]
        clear KF KN e hd
        go_wp2
        go_ret
        exact ⟨(k : Int), rfl, .inr KF'.out, b2⟩
      · have KN' := (show Hid _ from KN.out e)
        have hd : decide (za = y) = false := decide_eq_false e
        rw [hd]
        clear KF KN e hd
        go_wp2
        go_roundw
        case rel => exact ⟨k, by omega, by go_num, KN'.out, b2⟩
        case measure => simp [intOf]

set_option maxHeartbeats 2000000 in
set_option maxRecDepth 100000 in
theorem isectorOf_any {w : World} {v : Value} {d : PDisk} (h : DiskAt w v d) (hf : DiskFit d) (x : Int) :
    Calls Try.prog 17 #[v, .int .i64 x] w fun e w' => e = .returned (.tuple #[.string (sectorDk d x).1, .bool (sectorDk d x).2]) ∧ Below w.heap.size w w' := by
  have HD := (show Hid (DiskAt w v d) from h)
  have HF := (show Hid (DiskFit d) from hf)
  have f1 := hf.sl
  have f2 := hf.ll
  obtain ⟨sa, sn, sc, la, ln, lc, rfl, h1, h2⟩ := h
  obtain ⟨_, _, e1, _, _, _⟩ := h1.str
  cases e1
  obtain ⟨_, _, e2, _, _, _⟩ := h2.put
  cases e2
  have H1 := (show Hid (Sv 1 w (.slice sa d.safe.length sc) (strCells d.safe)) from h1)
  have H2 := (show Hid (Sv 2 w (.slice la d.late.length lc) (putCells d.late)) from h2)
  clear h1 h2 hf
  obtain ⟨w1, hw1⟩ : ∃ y, y = (w.alloc (.cells #[.slice sa d.safe.length sc, .slice la d.late.length lc] 27)).alloc (.cells #[.int .i64 x] 3) := ⟨_, rfl⟩
  have b1 : Below w.heap.size w w1 := by rw [hw1]; exact ((Below.refl _ _).alloc (Nat.le_refl _) _).alloc (by simp) _
  have x1 : w1.heap[w.heap.size]? = some (.cells #[.slice sa d.safe.length sc, .slice la d.late.length lc] 27 (0, 0)) := by rw [hw1, Below.heap_alloc _ _ _ (by simp)]; exact World.alloc_heap_new _ _
  have x2 : w1.heap[w.heap.size + 1]? = some (.cells #[.int .i64 x] 3 (0, 0)) := by
    rw [hw1]
    have := World.alloc_heap_new (w.alloc (.cells #[.slice sa d.safe.length sc, .slice la d.late.length lc] 27)) (.cells #[.int .i64 x] 3)
    rwa [World.size_alloc] at this
  have X1 := (show Hid _ from x1)
  have X2 := (show Hid _ from x2)
  have B1 := (show Hid (Below w.heap.size w w1) from b1)
  clear b1 x1 x2
  go_enter Try.func17, Try.ntmps17
  go_wp2_with fail
  go_at_call 16
  rw [← hw1]
  refine (idiskOk_any (HD.out.below B1.out) HF.out).mono ?_
  rintro e w2 ⟨rfl, b2⟩
  clear hw1
  have B2 := (show Hid (Below w.heap.size w w2) from B1.out.trans (b2.mono B1.out.size))
  have y1 := (b2.block _ (lt_of_block X1.out)).trans X1.out
  have y2 := (b2.block _ (lt_of_block X2.out)).trans X2.out
  obtain ⟨q1, q2, _, _⟩ := rk_two y1
  have r1 : w2.cell? ⟨w.heap.size + 1, 0, none⟩ = some (.int .i64 x) := by simp only [World.cell?, y2]; rfl
  have Y1 := (show Hid _ from y1)
  have Y2 := (show Hid _ from y2)
  clear b2 y1 y2 X1 X2
  cases hb : diskB d
  · have HR : Hid (sectorDk d x = (⟨#[]⟩, false)) := (show sectorDk d x = (⟨#[]⟩, false) by rw [sectorDk, if_pos (.inl hb)])
    clear hb
    go_wp2
    go_ret2
    exact ⟨by rw [HR.out]; rfl, B2.out⟩
  · have HB := (show Hid (diskB d = true) from hb)
    clear hb
    go_wp2_with fail
    go_at_call 42
    refine (ihasSector_any x w2).mono ?_
    rintro e w3 ⟨rfl, e3⟩
    subst e3
    cases hi : inB x 0 129
    · have HR : Hid (sectorDk d x = (⟨#[]⟩, false)) := (show sectorDk d x = (⟨#[]⟩, false) by rw [sectorDk, if_pos (.inr hi)])
      clear hi
      go_wp2
      go_ret2
      exact ⟨by rw [HR.out]; rfl, B2.out⟩
    · have HR : Hid (sectorDk d x = (sectorD d x, true)) := (show sectorDk d x = (sectorD d x, true) by rw [sectorDk, if_neg (by rw [HB.out, hi]; simp)])
      have hx : 0 ≤ x ∧ x < 130 := by simp [inB] at hi; omega
      obtain ⟨m, rfl⟩ := Int.eq_ofNat_of_zero_le hx.1
      have hm : m < d.safe.length := by have := (diskB_len HB.out).1; omega
      clear hi hx
      have CC := (show Hid _ from lastPut_any (H2.out.below B2.out) (w.heap.size + 1) (m : Int) r1 (lt_of_block Y2.out) f2)
      go_wp2_with fail
      go_at_call 43
      refine Calls.mono CC.out ?_
      rintro e w4 ⟨r, rfl, hr, b4⟩
      clear CC
      have B4 := (show Hid (Below w.heap.size w w4) from B2.out.trans (b4.mono B2.out.size))
      have z1 := (b4.block _ (lt_of_block Y1.out)).trans Y1.out
      have z2 := (b4.block _ (lt_of_block Y2.out)).trans Y2.out
      obtain ⟨q1, q2, _, _⟩ := rk_two z1
      have r1 : w4.cell? ⟨w.heap.size + 1, 0, none⟩ = some (.int .i64 (m : Int)) := by simp only [World.cell?, z2]; rfl
      obtain ⟨_, _, e1, _, _, hs⟩ := (H1.out.below B4.out).str
      cases e1
      obtain ⟨_, _, e2, _, _, hp⟩ := (H2.out.below B4.out).put
      cases e2
      have HV : Hid (sectorD d m = (putAt m d.late).getD d.safe[m]) := (show sectorD d m = (putAt m d.late).getD d.safe[m] by simp [sectorD, List.getD_eq_getElem?_getD, hm])
      rcases hr with ⟨rfl, hn⟩ | ⟨k, hk, rfl, hn⟩
      · obtain ⟨b, o, rfl, hb, c⟩ := hs m hm
        have HW : Hid (sectorDk d m = (d.safe[m], true)) := (show sectorDk d m = (d.safe[m], true) by rw [HR.out, HV.out, hn]; rfl)
        obtain ⟨y, hy⟩ : ∃ y, y = d.safe[m] := ⟨_, rfl⟩
        rw [← hy] at c HW
        clear hn HV HR z1 z2 hs hp b4 hy
        go_wp2
        go_ret2
        exact ⟨by rw [HW.out]; rfl, B4.out⟩
      · obtain ⟨b, o, rfl, hb, c, c'⟩ := hp k hk
        have HW : Hid (sectorDk d m = (d.late[k].2, true)) := (show sectorDk d m = (d.late[k].2, true) by rw [HR.out, HV.out, hn]; rfl)
        obtain ⟨y, hy⟩ : ∃ y, y = d.late[k].2 := ⟨_, rfl⟩
        rw [← hy] at c' HW
        clear hn HV HR z1 z2 hs hp b4 hy c
        go_wp2
        go_ret2
        exact ⟨by rw [HW.out]; rfl, B4.out⟩
theorem sectorOfOk_any (w : World) (v : Value) (d : PDisk) (x : Int) (h : DiskAt w v d) (hf : DiskFit d) : Calls Try.prog 17 #[v, .int .i64 x] w fun e w' => e = .returned (.tuple #[.string (sectorDk d x).1, .bool (sectorDk d x).2]) ∧ Below w.heap.size w w' := isectorOf_any h hf x
end Go.Proofs.Ytdhnoaajdjkddaa
