/- Contracts of the laws' helpers on disks: held against each other, measured, copied. No condition. -/
import Derived.Test.YtokkigfjabbdaaaGreatDoorU11
import Derived.Test.YtokkigfjabbdaaaGreatDoorU4
import Derived.OwnWalk
import Derived.RangeFuncRecord
import Derived.Test.YtokkigfjabbdaaaGreatDoorU0
namespace Go.Proofs.YtokkigfjabbdaaaGreatDoor
open Go.RowKit
set_option maxRecDepth 100000
set_option linter.unusedVariables false

theorem eqPut_any (a b : Int × ByteArray) (w : World) : Calls Tryz.prog 89 #[.agg #[.int .i64 a.1, .string a.2], .agg #[.int .i64 b.1, .string b.2]] w fun e w' => e = .returned (.bool (decide (a = b))) ∧ Below w.heap.size w w' := by
  obtain ⟨an, ap⟩ := a
  obtain ⟨bn, bp⟩ := b
  simp only
  have b2 : Below w.heap.size w ((w.alloc (.cells #[.int .i64 an, .string ap] 88)).alloc (.cells #[.int .i64 bn, .string bp] 88)) := ((Below.refl _ _).alloc (Nat.le_refl _) _).alloc (by simp) _
  by_cases hn : an = bn
  · subst hn
    by_cases hp : ap = bp
    · subst hp
      go_enter Tryz.func89, Tryz.ntmps89
      go_wp2
      go_ret
      exact ⟨ret_bool (by simp), b2⟩
    · have hd := toList_ne hp
      go_enter Tryz.func89, Tryz.ntmps89
      go_wp2
      go_ret
      exact ⟨ret_bool (by simp [hp]), b2⟩
  · have hd : (an != bn) = true := by simp [hn]
    go_enter Tryz.func89, Tryz.ntmps89
    go_wp2
    go_ret
    exact ⟨ret_bool (by simp [hn]), b2⟩

set_option maxHeartbeats 2000000 in
set_option maxRecDepth 100000 in
theorem eqPutS_any {va vb : Value} {rs qs : List (Int × ByteArray)} {w : World} (ha : Sv 2 w va (putCells rs)) (hb : Sv 2 w vb (putCells qs)) (hn : rs.length ≤ 1099511627776) (hm : qs.length ≤ 1099511627776) :
    Calls Tryz.prog 68 #[va, vb] w fun e w' => e = .returned (.bool (decide (rs = qs))) ∧ Below w.heap.size w w' := by
  obtain ⟨a, ca, rfl, _, _, hca⟩ := ha.put
  obtain ⟨b, cb, rfl, _, _, hcb⟩ := hb.put
  clear ha hb
  by_cases hl : rs.length = qs.length
  · have hn2 : ((rs.length : Int) != (qs.length : Int)) = false := by simp [hl]
    go_enter Tryz.func68, Tryz.ntmps68
    go_wp2
    go_loopw [5] (fun i wr => ∃ k : Nat, k ≤ rs.length ∧ i = .int .i64 k ∧ rs.take k = qs.take k ∧ Below w.heap.size w wr) (fun i _ => rs.length - (intOf i).toNat)
    case atStart => exact ⟨0, Nat.zero_le _, rfl, rfl, Below.refl _ _⟩
    case round =>
      obtain ⟨k, hk, rfl, he, bel⟩ := hrel
      have HE := (show Hid _ from he)
      clear he
      by_cases hlt : k < rs.length
      · have hlt' : k < qs.length := by omega
        obtain ⟨b1, o1, rfl, l1, c1, c2⟩ := hca k hlt
        obtain ⟨b2, o2, rfl, l2, c3, c4⟩ := hcb k hlt'
        have g1 : ∀ n : Wd w.heap.size w, n.w.cell? ⟨b1, o1 + k * 2, none⟩ = some (.int .i64 rs[k].1) := fun n => (n.below.cell (p := ⟨b1, o1 + k * 2, none⟩) l1).trans c1
        have g2 : ∀ n : Wd w.heap.size w, n.w.cell? ⟨b1, o1 + k * 2 + 1, none⟩ = some (.string rs[k].2) := fun n => (n.below.cell (p := ⟨b1, o1 + k * 2 + 1, none⟩) l1).trans c2
        have g3 : ∀ n : Wd w.heap.size w, n.w.cell? ⟨b2, o2 + k * 2, none⟩ = some (.int .i64 qs[k].1) := fun n => (n.below.cell (p := ⟨b2, o2 + k * 2, none⟩) l2).trans c3
        have g4 : ∀ n : Wd w.heap.size w, n.w.cell? ⟨b2, o2 + k * 2 + 1, none⟩ = some (.string qs[k].2) := fun n => (n.below.cell (p := ⟨b2, o2 + k * 2 + 1, none⟩) l2).trans c4
        have HT : Hid (rs[k] = qs[k] → rs.take (k + 1) = qs.take (k + 1)) := fun e => by rw [List.take_succ_eq_append_getElem hlt, List.take_succ_eq_append_getElem hlt', HE.out, e]
        have HF : Hid (rs[k] ≠ qs[k] → rs ≠ qs) := fun e h => e (by subst h; rfl)
        obtain ⟨x, hx⟩ : ∃ x, x = rs[k] := ⟨_, rfl⟩
        obtain ⟨y, hy⟩ : ∃ y, y = qs[k] := ⟨_, rfl⟩
        rw [← hx] at g1 g2 HT HF
        rw [← hy] at g3 g4 HT HF
        clear hx hy c1 c2 c3 c4
        have cc := fun w => eqPut_any x y w
        obtain ⟨p, hp⟩ : ∃ p, p = decide (x = y) := ⟨_, rfl⟩
        rw [← hp] at cc
        have CC := (show Hid _ from cc)
        have HP := (show Hid (p = decide (x = y)) from hp)
        clear cc hp
        have ne := Wd.any w.heap.size w
        go_wp2
        refine wp_region_below (by kernel_rfl) (by kernel_rfl) bel ?_
        repeat (go_big_quiet_step ((go_at_call 89; exact quiet_below (CC.out _) (Nat.le_refl _))))
        refine wpQuiet_nil ?_
        intro wq hq
        replace hq := Wd.of hq
        cases p
        · have hxy : Hid (x ≠ y) := (show x ≠ y by simpa using HP.out.symm)
          go_wp2
          go_ret
          exact ⟨ret_bool (by rw [decide_eq_false (HF.out hxy.out)]), hq⟩
        · have hxy : Hid (x = y) := (show x = y by simpa using HP.out.symm)
          go_wp2
          go_roundw
          case rel => exact ⟨k + 1, by omega, by go_num, HT.out hxy.out, hq⟩
          case measure => simp [intOf]; omega
      · have hke : k = rs.length := by omega
        have hab : rs = qs := by have := HE.out; rw [hke, List.take_length, hl, List.take_length] at this; exact this
        go_wp2
        go_ret
        exact ⟨ret_bool (by rw [decide_eq_true hab]), bel⟩
  · have hab : rs ≠ qs := fun e => hl (by rw [e])
    have hn2 : ((rs.length : Int) != (qs.length : Int)) = true := by simp; omega
    rw [decide_eq_false hab]
    go_enter Tryz.func68, Tryz.ntmps68
    go_wp2
    go_ret
    exact ⟨rfl, Below.refl _ _⟩


set_option maxHeartbeats 2000000 in
set_option maxRecDepth 100000 in
theorem eqStringS_any {va vb : Value} {rs qs : List ByteArray} {w : World} (ha : Sv 1 w va (strCells rs)) (hb : Sv 1 w vb (strCells qs)) (hn : rs.length ≤ 1099511627776) (hm : qs.length ≤ 1099511627776) :
    Calls Tryz.prog 14 #[va, vb] w fun e w' => e = .returned (.bool (decide (rs = qs))) ∧ Below w.heap.size w w' := by
  obtain ⟨a, ca, rfl, _, _, hca⟩ := ha.str
  obtain ⟨b, cb, rfl, _, _, hcb⟩ := hb.str
  clear ha hb
  by_cases hl : rs.length = qs.length
  · have hn2 : ((rs.length : Int) != (qs.length : Int)) = false := by simp [hl]
    go_enter Tryz.func14, Tryz.ntmps14
    go_wp2
    go_loopw [5] (fun i wr => ∃ k : Nat, k ≤ rs.length ∧ i = .int .i64 k ∧ rs.take k = qs.take k ∧ ∃ n, wr = w.drewN n) (fun i _ => rs.length - (intOf i).toNat)
    case atStart => exact ⟨0, Nat.zero_le _, rfl, rfl, 0, rfl⟩
    case round =>
      obtain ⟨k, hk, rfl, he, n, rfl⟩ := hrel
      have HE := (show Hid _ from he)
      clear he
      by_cases hlt : k < rs.length
      · have hlt' : k < qs.length := by omega
        obtain ⟨b1, o1, rfl, l1, c1⟩ := hca k hlt
        obtain ⟨b2, o2, rfl, l2, c3⟩ := hcb k hlt'
        have HT : Hid (rs[k] = qs[k] → rs.take (k + 1) = qs.take (k + 1)) := fun e => by rw [List.take_succ_eq_append_getElem hlt, List.take_succ_eq_append_getElem hlt', HE.out, e]
        have HF : Hid (rs[k] ≠ qs[k] → rs ≠ qs) := fun e h => e (by subst h; rfl)
        obtain ⟨x, hx⟩ : ∃ x, x = rs[k] := ⟨_, rfl⟩
        obtain ⟨y, hy⟩ : ∃ y, y = qs[k] := ⟨_, rfl⟩
        rw [← hx] at c1 HT HF
        rw [← hy] at c3 HT HF
        clear hx hy hca hcb
        by_cases e : x = y
        · subst e
          have HT' := (show Hid _ from HT.out rfl)
          clear HT
          go_wp2
          go_quiet (fail)
          go_wp2
          go_roundw
          case rel => exact ⟨k + 1, by omega, by go_num, HT'.out, _, rfl⟩
          case measure => simp [intOf]; omega
        · have hd := toList_ne e
          have HF' := (show Hid _ from HF.out e)
          clear HF e
          go_wp2
          go_quiet (fail)
          go_wp2
          go_ret
          exact ⟨ret_bool (by rw [decide_eq_false HF'.out]), (below_drewN _).trans (below_drewN _)⟩
      · have hke : k = rs.length := by omega
        have hab : rs = qs := by have := HE.out; rw [hke, List.take_length, hl, List.take_length] at this; exact this
        go_wp2
        go_ret
        exact ⟨ret_bool (by rw [decide_eq_true hab]), below_drewN n⟩
  · have hab : rs ≠ qs := fun e => hl (by rw [e])
    have hn2 : ((rs.length : Int) != (qs.length : Int)) = true := by simp; omega
    go_enter Tryz.func14, Tryz.ntmps14
    go_wp2
    go_ret
    exact ⟨ret_bool (by rw [decide_eq_false hab]), Below.refl _ _⟩

theorem pdisk_eq {d e : PDisk} : decide (d.safe = e.safe ∧ d.late = e.late) = true ↔ d = e := by
  cases d; cases e; simp
set_option maxHeartbeats 1000000 in
set_option maxRecDepth 100000 in
theorem eqDisk_any {va vb : Value} {d e : PDisk} {w : World} (ha : DiskAt w va d) (hb : DiskAt w vb e) (hd : DiskFit d) (he : DiskFit e) :
    Calls Tryz.prog 36 #[va, vb] w fun x w' => x = .returned (.bool (decide (d.safe = e.safe ∧ d.late = e.late))) ∧ Below w.heap.size w w' := by
  obtain ⟨sa, sn, sc, la, ln, lc, rfl, h1, h2⟩ := ha
  obtain ⟨ta, tn, tc, ma, mn, mc, rfl, h3, h4⟩ := hb
  have H1 := (show Hid (Sv 1 w (.slice sa sn sc) (strCells d.safe)) from h1)
  have H2 := (show Hid (Sv 2 w (.slice la ln lc) (putCells d.late)) from h2)
  have H3 := (show Hid (Sv 1 w (.slice ta tn tc) (strCells e.safe)) from h3)
  have H4 := (show Hid (Sv 2 w (.slice ma mn mc) (putCells e.late)) from h4)
  have f1 := hd.sl
  have f2 := hd.ll
  have f3 := he.sl
  have f4 := he.ll
  clear h1 h2 h3 h4 hd he
  obtain ⟨w1, hw1⟩ : ∃ x, x = (w.alloc (.cells #[.slice sa sn sc, .slice la ln lc] 35)).alloc (.cells #[.slice ta tn tc, .slice ma mn mc] 35) := ⟨_, rfl⟩
  have b1 : Below w.heap.size w w1 := by rw [hw1]; exact ((Below.refl _ _).alloc (Nat.le_refl _) _).alloc (by simp) _
  have x1 : w1.heap[w.heap.size]? = some (.cells #[.slice sa sn sc, .slice la ln lc] 35 (0, 0)) := by rw [hw1, Below.heap_alloc _ _ _ (by simp)]; exact World.alloc_heap_new _ _
  have x2 : w1.heap[w.heap.size + 1]? = some (.cells #[.slice ta tn tc, .slice ma mn mc] 35 (0, 0)) := by
    rw [hw1]
    have := World.alloc_heap_new (w.alloc (.cells #[.slice sa sn sc, .slice la ln lc] 35)) (.cells #[.slice ta tn tc, .slice ma mn mc] 35)
    rwa [World.size_alloc] at this
  have X1 := (show Hid _ from x1)
  have X2 := (show Hid _ from x2)
  clear x1 x2
  go_enter Tryz.func36, Tryz.ntmps36
  go_wp2_with fail
  go_at_call 14
  rw [← hw1]
  refine (eqStringS_any (H1.out.below b1) (H3.out.below b1) (by omega) (by omega)).mono ?_
  rintro x w2 ⟨rfl, b2⟩
  clear hw1
  have c2 : w2.cell? ⟨w.heap.size, 1, none⟩ = some (.slice la ln lc) := by simp only [World.cell?, (b2.block _ (lt_of_block X1.out)).trans X1.out]; rfl
  have c4 : w2.cell? ⟨w.heap.size + 1, 1, none⟩ = some (.slice ma mn mc) := by simp only [World.cell?, (b2.block _ (lt_of_block X2.out)).trans X2.out]; rfl
  have bb := b1.trans (b2.mono b1.size)
  have BB := (show Hid (Below w.heap.size w w2) from bb)
  clear b2 b1 bb
  by_cases e1 : d.safe = e.safe
  · rw [decide_eq_true e1]
    have E1 := (show Hid _ from e1)
    clear e1
    go_wp2_with fail
    go_at_call 68
    refine (eqPutS_any (H2.out.below BB.out) (H4.out.below BB.out) (by omega) (by omega)).mono ?_
    rintro x w3 ⟨rfl, b3⟩
    have B3 := (show Hid (Below w.heap.size w w3) from BB.out.trans (b3.mono BB.out.size))
    clear b3
    by_cases e2 : d.late = e.late
    · rw [decide_eq_true e2]
      have E2 := (show Hid _ from e2)
      clear e2
      go_wp2
      go_ret
      exact ⟨ret_bool (by rw [decide_eq_true ⟨E1.out, E2.out⟩]), B3.out⟩
    · rw [decide_eq_false e2]
      have E2 := (show Hid _ from e2)
      clear e2
      go_wp2
      go_ret
      exact ⟨ret_bool (by rw [decide_eq_false (fun h => E2.out h.2)]), B3.out⟩
  · rw [decide_eq_false e1]
    have E1 := (show Hid _ from e1)
    clear e1
    go_wp2
    go_ret
    exact ⟨ret_bool (by rw [decide_eq_false (fun h => E1.out h.1)]), BB.out⟩

theorem szPut_any (x : Int × ByteArray) (r : Int) (w : World) (h0 : 0 ≤ r) (h1 : r ≤ 1099511627776) (hs : x.2.size ≤ maxLen) : Calls Tryz.prog 76 #[.agg #[.int .i64 x.1, .string x.2], .int .i64 r] w fun e w' => ∃ q : Int, e = .returned (.int .i64 q) ∧ (q < 0 ∨ (0 ≤ q ∧ q ≤ r ∧ (x.2.size : Int) ≤ r)) ∧ Below w.heap.size w w' := by
  unfold maxLen at hs
  obtain ⟨b, s⟩ := x
  simp only at hs ⊢
  by_cases hl : r - s.size < 0
  · go_enter Tryz.func76, Tryz.ntmps76
    go_wp2
    go_ret
    exact ⟨_, rfl, .inl (by decide), (Below.refl _ _).alloc (Nat.le_refl _) _⟩
  · have hl2 : 0 ≤ r - s.size := by omega
    go_enter Tryz.func76, Tryz.ntmps76
    go_wp2
    go_ret
    exact ⟨_, rfl, .inr ⟨hl2, by omega, by omega⟩, (Below.refl _ _).alloc (Nat.le_refl _) _⟩

set_option maxHeartbeats 1000000 in
set_option maxRecDepth 100000 in
theorem szPutS_any {v : Value} {rs : List (Int × ByteArray)} {w : World} (h : Sv 2 w v (putCells rs)) (hs : ∀ p ∈ rs, p.2.size ≤ maxLen) (l : Int) (h0 : 0 ≤ l) (h1 : l ≤ 1099511627776) :
    Calls Tryz.prog 53 #[v, .int .i64 l] w fun e w' => ∃ r : Int, e = .returned (.int .i64 r) ∧ (r < 0 ∨ (0 ≤ r ∧ r ≤ l ∧ (rs.length : Int) ≤ l ∧ ∀ p ∈ rs, (p.2.size : Int) ≤ l)) ∧ Below w.heap.size w w' := by
  obtain ⟨a, ca, rfl, hc1, hc2, hca⟩ := h.put
  have HS := (show Hid (∀ p ∈ rs, p.2.size ≤ maxLen) from hs)
  clear hs h
  unfold maxLen at hc2
  by_cases hl : l - rs.length < 0
  · go_enter Tryz.func53, Tryz.ntmps53
    go_wp2
    go_ret
    exact ⟨_, rfl, .inl (by decide), Below.refl _ _⟩
  · have hl2 : 0 ≤ l - rs.length := by omega
    go_enter Tryz.func53, Tryz.ntmps53
    go_wp2
    go_loopw [1, 5] (fun q i wr => ∃ (k : Nat) (r : Int), k ≤ rs.length ∧ i = .int .i64 k ∧ q = .int .i64 r ∧ 0 ≤ r ∧ r ≤ l ∧ (∀ p ∈ rs.take k, (p.2.size : Int) ≤ l) ∧ Below w.heap.size w wr) (fun _ i _ => rs.length - (intOf i).toNat)
    case atStart => exact ⟨0, _, Nat.zero_le _, rfl, rfl, hl2, by omega, fun p hp => by simp at hp, Below.refl _ _⟩
    case round =>
      obtain ⟨k, r, hk, rfl, rfl, hr0, hr1, hall, bel⟩ := hrel
      have HA := (show Hid (∀ p ∈ rs.take k, (p.2.size : Int) ≤ l) from hall)
      clear hall
      by_cases hlt : k < rs.length
      · obtain ⟨b1, o1, rfl, l1, c1, c2⟩ := hca k hlt
        have d1 : wr.cell? ⟨b1, o1 + k * 2, none⟩ = some (.int .i64 rs[k].1) := (bel.cell (p := ⟨b1, o1 + k * 2, none⟩) l1).trans c1
        have d2 : wr.cell? ⟨b1, o1 + k * 2 + 1, none⟩ = some (.string rs[k].2) := (bel.cell (p := ⟨b1, o1 + k * 2 + 1, none⟩) l1).trans c2
        have hsz := HS.out rs[k] (List.getElem_mem hlt)
        have HT : Hid ((rs[k].2.size : Int) ≤ l → ∀ p ∈ rs.take (k + 1), (p.2.size : Int) ≤ l) := fun hp p hp' => by
          rw [List.take_succ_eq_append_getElem hlt] at hp'
          rcases List.mem_append.mp hp' with h | h
          · exact HA.out p h
          · rw [List.mem_singleton.mp h]; exact hp
        obtain ⟨x, hx⟩ : ∃ x, x = rs[k] := ⟨_, rfl⟩
        rw [← hx] at d1 d2 hsz HT
        clear hx c1 c2
        have CC := (show Hid (∀ w, Calls Tryz.prog 76 #[.agg #[.int .i64 x.1, .string x.2], .int .i64 r] w fun e w' => ∃ q : Int, e = .returned (.int .i64 q) ∧ (q < 0 ∨ (0 ≤ q ∧ q ≤ r ∧ (x.2.size : Int) ≤ r)) ∧ Below w.heap.size w w') from fun w => szPut_any x r w hr0 (by omega) hsz)
        clear hsz
        go_wp2_with fail
        go_at_call 76
        refine (CC.out _).mono ?_
        rintro e w2 ⟨q, rfl, hq, b2⟩
        replace b2 := bel.trans (b2.mono bel.size)
        clear d1 d2
        rcases hq with hq | ⟨hq0, hq1, hq2⟩
        · go_wp2
          go_ret
          exact ⟨_, rfl, .inl (by decide), b2⟩
        · go_wp2
          go_roundw
          case rel => exact ⟨k + 1, _, by omega, by go_num, rfl, hq0, by omega, HT.out (by omega), b2⟩
          case measure => simp [intOf]; omega
      · have hke : k = rs.length := by omega
        have hall : ∀ p ∈ rs, (p.2.size : Int) ≤ l := by have := HA.out; rw [hke, List.take_length] at this; exact this
        have HL := (show Hid _ from hall)
        clear hall
        go_wp2
        go_ret
        exact ⟨_, rfl, .inr ⟨hr0, hr1, by omega, HL.out⟩, bel⟩


set_option maxHeartbeats 1000000 in
set_option maxRecDepth 100000 in
theorem szStringS_any {v : Value} {rs : List ByteArray} {w : World} (h : Sv 1 w v (strCells rs)) (hs : ∀ p ∈ rs, p.size ≤ maxLen) (l : Int) (h0 : 0 ≤ l) (h1 : l ≤ 1099511627776) :
    Calls Tryz.prog 52 #[v, .int .i64 l] w fun e w' => ∃ r : Int, e = .returned (.int .i64 r) ∧ (r < 0 ∨ (0 ≤ r ∧ r ≤ l ∧ (rs.length : Int) ≤ l ∧ ∀ p ∈ rs, (p.size : Int) ≤ l)) ∧ Below w.heap.size w w' := by
  obtain ⟨a, ca, rfl, hc1, hc2, hca⟩ := h.str
  have HS := (show Hid (∀ p ∈ rs, p.size ≤ maxLen) from hs)
  clear hs h
  unfold maxLen at hc2
  by_cases hl : l - rs.length < 0
  · go_enter Tryz.func52, Tryz.ntmps52
    go_wp2
    go_ret
    exact ⟨_, rfl, .inl (by decide), Below.refl _ _⟩
  · have hl2 : 0 ≤ l - rs.length := by omega
    go_enter Tryz.func52, Tryz.ntmps52
    go_wp2
    go_loopw [1, 5] (fun q i wr => ∃ (k : Nat) (r : Int), k ≤ rs.length ∧ i = .int .i64 k ∧ q = .int .i64 r ∧ 0 ≤ r ∧ r ≤ l ∧ (∀ p ∈ rs.take k, (p.size : Int) ≤ l) ∧ wr = w) (fun _ i _ => rs.length - (intOf i).toNat)
    case atStart => exact ⟨0, _, Nat.zero_le _, rfl, rfl, hl2, by omega, fun p hp => by simp at hp, rfl⟩
    case round =>
      obtain ⟨k, r, hk, rfl, rfl, hr0, hr1, hall, rfl⟩ := hrel
      have HA := (show Hid (∀ p ∈ rs.take k, (p.size : Int) ≤ l) from hall)
      clear hall
      by_cases hlt : k < rs.length
      · obtain ⟨b1, o1, rfl, l1, d1⟩ := hca k hlt
        have hsz := HS.out rs[k] (List.getElem_mem hlt)
        have HT : Hid ((rs[k].size : Int) ≤ l → ∀ p ∈ rs.take (k + 1), (p.size : Int) ≤ l) := fun hp p hp' => by
          rw [List.take_succ_eq_append_getElem hlt] at hp'
          rcases List.mem_append.mp hp' with h | h
          · exact HA.out p h
          · rw [List.mem_singleton.mp h]; exact hp
        obtain ⟨x, hx⟩ : ∃ x, x = rs[k] := ⟨_, rfl⟩
        rw [← hx] at d1 hsz HT
        clear hx hca
        unfold maxLen at hsz
        by_cases hq : r - x.size < 0
        · go_wp2
          go_ret
          exact ⟨_, rfl, .inl (by decide), Below.refl _ _⟩
        · have hq0 : 0 ≤ r - x.size := by omega
          go_wp2
          go_roundw
          case rel => exact ⟨k + 1, _, by omega, by go_num, rfl, hq0, by omega, HT.out (by omega), by first | rfl | trivial⟩
          case measure => simp [intOf]; omega
      · have hke : k = rs.length := by omega
        have hall : ∀ p ∈ rs, (p.size : Int) ≤ l := by have := HA.out; rw [hke, List.take_length] at this; exact this
        have HL := (show Hid _ from hall)
        clear hall
        go_wp2
        go_ret
        exact ⟨_, rfl, .inr ⟨hr0, hr1, by omega, HL.out⟩, Below.refl _ _⟩

set_option maxHeartbeats 1000000 in
set_option maxRecDepth 100000 in
theorem szDisk_any {v : Value} {d : PDisk} {w : World} (h : DiskAt w v d) (hs : ∀ s ∈ d.safe, s.size ≤ maxLen) (hp : ∀ p ∈ d.late, p.2.size ≤ maxLen) (l : Int) (h0 : 0 ≤ l) (h1 : l ≤ 1048576) :
    Calls Tryz.prog 23 #[v, .int .i64 l] w fun e w' => ∃ r : Int, e = .returned (.int .i64 r) ∧ (r < 0 ∨ (0 ≤ r ∧ r ≤ l ∧ DiskFit d)) ∧ Below w.heap.size w w' := by
  obtain ⟨sa, sn, sc, la, ln, lc, rfl, h1', h2⟩ := h
  have H1 := (show Hid (Sv 1 w (.slice sa sn sc) (strCells d.safe)) from h1')
  have H2 := (show Hid (Sv 2 w (.slice la ln lc) (putCells d.late)) from h2)
  have HS := (show Hid (∀ s ∈ d.safe, s.size ≤ maxLen) from hs)
  have HP := (show Hid (∀ p ∈ d.late, p.2.size ≤ maxLen) from hp)
  clear h1' h2 hs hp
  obtain ⟨w1, hw1⟩ : ∃ x, x = w.alloc (.cells #[.slice sa sn sc, .slice la ln lc] 25) := ⟨_, rfl⟩
  have b1 : Below w.heap.size w w1 := by rw [hw1]; exact (Below.refl _ _).alloc (Nat.le_refl _) _
  have x1 : w1.heap[w.heap.size]? = some (.cells #[.slice sa sn sc, .slice la ln lc] 25 (0, 0)) := by rw [hw1]; exact World.alloc_heap_new _ _
  have X1 := (show Hid _ from x1)
  clear x1
  go_enter Tryz.func23, Tryz.ntmps23
  go_wp2_with fail
  go_at_call 52
  rw [← hw1]
  refine (szStringS_any (H1.out.below b1) HS.out l h0 (by omega)).mono ?_
  rintro x w2 ⟨r, rfl, hr, b2⟩
  clear hw1
  have c2 : w2.cell? ⟨w.heap.size, 1, none⟩ = some (.slice la ln lc) := by simp only [World.cell?, (b2.block _ (lt_of_block X1.out)).trans X1.out]; rfl
  have BB := (show Hid (Below w.heap.size w w2) from b1.trans (b2.mono b1.size))
  clear b2 b1
  rcases hr with hr | ⟨hr0, hr1, hr2, hr3⟩
  · go_wp2
    go_ret
    exact ⟨_, rfl, .inl (by decide), BB.out⟩
  · have HR := (show Hid (∀ p ∈ d.safe, (p.size : Int) ≤ l) from hr3)
    clear hr3
    go_wp2_with fail
    go_at_call 53
    refine (szPutS_any (H2.out.below BB.out) HP.out r hr0 (by omega)).mono ?_
    rintro x w3 ⟨q, rfl, hq, b3⟩
    have B3 := (show Hid (Below w.heap.size w w3) from BB.out.trans (b3.mono BB.out.size))
    clear b3
    rcases hq with hq | ⟨hq0, hq1, hq2, hq3⟩
    · go_wp2
      go_ret
      exact ⟨_, rfl, .inl (by decide), B3.out⟩
    · have HQ := (show Hid (∀ p ∈ d.late, (p.2.size : Int) ≤ r) from hq3)
      clear hq3
      go_wp2
      go_ret
      refine ⟨_, rfl, .inr ⟨hq0, by omega, ⟨by omega, by omega, fun s hs => ?_, fun p hp => ?_⟩⟩, B3.out⟩
      · have := HR.out s hs; omega
      · have := HQ.out p hp; omega

theorem Tryz.infoPut : (Tryz.prog.info? 88).map (fun i => (i.zero, i.size, i.bytes)) = some (some (.agg #[.int .i64 0, .string ⟨#[]⟩]), 2, 24) := by kernel_rfl
theorem Tryz.infoStr : (Tryz.prog.info? 9).map (fun i => (i.zero, i.size, i.bytes)) = some (some (.string ⟨#[]⟩), 1, 16) := by kernel_rfl

theorem toPut_any (a : Int × ByteArray) (w : World) : Calls Tryz.prog 81 #[.agg #[.int .i64 a.1, .string a.2]] w fun e w' => e = .returned (.agg #[.int .i64 a.1, .string a.2]) ∧ Below w.heap.size w w' := by
  obtain ⟨an, ap⟩ := a
  simp only
  go_enter Tryz.func81, Tryz.ntmps81
  go_wp2
  refine bodyPost_ret (v := .agg #[.int .i64 an, .string ap]) (by simp [results, Tryz.results81, go_sem]) rfl ⟨rfl, ?_⟩
  exact (((Below.refl _ _).alloc (Nat.le_refl _) _).alloc (by simp) _).alloc (by simp; omega) _

theorem put_take_set {cs : List Value} {rs : List (Int × ByteArray)} {k : Nat} (hk : k < rs.length) (hl : cs.length = rs.length * 2) (h : cs.take (k * 2) = putCells (rs.take k)) :
    ((cs.set (k * 2) (.int .i64 rs[k].1)).set (k * 2 + 1) (.string rs[k].2)).take ((k + 1) * 2) = putCells (rs.take (k + 1)) := by
  have e1 : putCells (rs.take (k + 1)) = putCells (rs.take k) ++ [.int .i64 rs[k].1, .string rs[k].2] := by
    rw [List.take_succ_eq_append_getElem hk]
    unfold putCells
    rw [List.flatMap_append]
    rfl
  rw [e1, ← h]
  apply List.ext_getElem?
  intro i
  have e2 : (k + 1) * 2 = k * 2 + 2 := by omega
  by_cases hi : i < k * 2
  · rw [List.getElem?_take_of_lt (by omega), List.getElem?_set_ne (by omega), List.getElem?_set_ne (by omega), List.getElem?_append_left (by simp; omega), List.getElem?_take_of_lt hi]
  · have hlt : (cs.take (k * 2)).length = k * 2 := by simp; omega
    rw [List.getElem?_append_right (by omega), hlt]
    by_cases h0 : i = k * 2
    · subst h0
      rw [List.getElem?_take_of_lt (by omega), List.getElem?_set_ne (by omega), List.getElem?_set_self (by omega)]
      simp
    · by_cases h1 : i = k * 2 + 1
      · subst h1
        rw [List.getElem?_take_of_lt (by omega), List.getElem?_set_self (by rw [List.length_set]; omega)]
        simp
      · rw [List.getElem?_eq_none (by simp; omega), List.getElem?_eq_none (by simp; omega)]

set_option maxHeartbeats 2000000 in
set_option maxRecDepth 100000 in
theorem toPutS_any {v : Value} {rs : List (Int × ByteArray)} {w : World} (h : Sv 2 w v (putCells rs)) (hn : rs.length ≤ 1048576) :
    Calls Tryz.prog 62 #[v] w fun e w' => ∃ v', e = .returned v' ∧ w'.ownsRow w.heap.size 88 2 v' rs.length (putCells rs) ∧ Below w.heap.size w w' := by
  obtain ⟨a, ca, rfl, _, _, hca⟩ := h.put
  clear h
  obtain ⟨i0, hi, hz0, hz1, hz2⟩ := info_parts Tryz.infoPut
  go_enter Tryz.func62, Tryz.ntmps62
  go_wp2_with (at_make; refine wpList_make_full _ rfl (.tmp 6) (.tmp 6) 33 rfl w.heap.size 88 i0 _ 2 Tryz.underlying33 hi hz0 hz1 .i64 .i64 _ _ rs.length rfl rfl rfl rfl (by rw [hz2]; omega) (by unfold maxLen; omega) (Nat.le_refl _) ?_; intro w1 o1 g1)
  have b1 : Below w.heap.size w w1 := (Below.refl _ _).grown g1 (Nat.le_refl _) (fun k hk => by cases hk)
  go_loopw [4] (fun i wr => ∃ (k : Nat) (cs : List Value), k ≤ rs.length ∧ i = .int .i64 k ∧ wr.ownsRow w.heap.size 88 2 (.slice (some ⟨w.heap.size, 0, none⟩) rs.length rs.length) rs.length cs ∧ cs.take (k * 2) = putCells (rs.take k) ∧ Below w.heap.size w wr) (fun i _ => rs.length - (intOf i).toNat)
  case atStart => exact ⟨0, _, Nat.zero_le _, rfl, o1, by simp [putCells], b1⟩
  case round =>
    clear o1 g1 b1
    obtain ⟨k, cs, hk, rfl, own, htk, bel⟩ := hrel
    have hcl : cs.length = rs.length * 2 := own.1
    by_cases hlt : k < rs.length
    · obtain ⟨b1, o1, rfl, l1, c1, c2⟩ := hca k hlt
      have d1 : wr.cell? ⟨b1, o1 + k * 2, none⟩ = some (.int .i64 rs[k].1) := (bel.cell (p := ⟨b1, o1 + k * 2, none⟩) l1).trans c1
      have d2 : wr.cell? ⟨b1, o1 + k * 2 + 1, none⟩ = some (.string rs[k].2) := (bel.cell (p := ⟨b1, o1 + k * 2 + 1, none⟩) l1).trans c2
      have HTS := (show Hid _ from put_take_set hlt hcl htk)
      obtain ⟨x, hx⟩ : ∃ x, x = rs[k] := ⟨_, rfl⟩
      rw [← hx] at d1 d2 HTS
      have OW := (show Hid (wr.ownsRow w.heap.size 88 2 (.slice (some ⟨w.heap.size, 0, none⟩) rs.length rs.length) rs.length cs) from own)
      clear hx c1 c2 htk own
      go_wp2_with fail
      go_at_call 81
      refine (toPut_any x _).mono ?_
      rintro e w2 ⟨rfl, b2⟩
      have o2 : w2.ownsRow w.heap.size 88 2 (.slice (some ⟨w.heap.size, 0, none⟩) rs.length rs.length) rs.length cs := by
        obtain ⟨a1, a2 | ⟨g', c', cu', e1, e2, e3, e4⟩⟩ := OW.out
        · cases a2.1
        · cases e1
          exact ⟨a1, .inr ⟨_, _, cu', rfl, e2, by rw [b2.block _ (lt_of_block e3)]; exact e3, e4⟩⟩
      replace b2 := bel.trans (b2.mono bel.size)
      obtain ⟨z1, hc1⟩ : ∃ z, w2.cell? ⟨w.heap.size, k * 2, none⟩ = some z := by
        rw [o2.cellAt (k * 2) (by omega)]; exact ⟨_, List.getElem?_eq_getElem (by omega)⟩
      have f1 := o2.frozenAt (k * 2)
      obtain ⟨z2, hc2⟩ : ∃ z, w2.cell? ⟨w.heap.size, k * 2 + 1, none⟩ = some z := by
        rw [o2.cellAt (k * 2 + 1) (by omega)]; exact ⟨_, List.getElem?_eq_getElem (by omega)⟩
      have f2 := o2.frozenAt (k * 2 + 1)
      have s1 := o2.stored (k * 2) (.int .i64 x.1)
      have s2 := s1.1.stored (k * 2 + 1) (.string x.2)
      have S2 := (show Hid _ from s2)
      clear s1 s2 o2 d1 d2
      go_wp2
      go_roundw
      case rel => exact ⟨k + 1, _, by omega, by go_num, S2.out.1, HTS.out, (b2.setCell (Nat.le_refl _) _).setCell (Nat.le_refl _) _⟩
      case measure => simp [intOf]; omega
    · have hke : k = rs.length := by omega
      have hcs : cs = putCells rs := by rw [hke, List.take_length, ← hcl, List.take_length] at htk; exact htk
      subst hcs
      go_wp2
      go_ret
      exact ⟨_, rfl, own, bel⟩

set_option maxHeartbeats 2000000 in
set_option maxRecDepth 100000 in
theorem toStringS_any {v : Value} {rs : List ByteArray} {w : World} (h : Sv 1 w v (strCells rs)) (hn : rs.length ≤ 1048576) :
    Calls Tryz.prog 61 #[v] w fun e w' => ∃ v', e = .returned v' ∧ w'.ownsRow w.heap.size 9 1 v' rs.length (strCells rs) ∧ Below w.heap.size w w' := by
  obtain ⟨a, ca, rfl, _, _, hca⟩ := h.str
  clear h
  obtain ⟨i0, hi, hz0, hz1, hz2⟩ := info_parts Tryz.infoStr
  go_enter Tryz.func61, Tryz.ntmps61
  go_wp2_with (at_make; refine wpList_make_full _ rfl (.tmp 6) (.tmp 6) 22 rfl w.heap.size 9 i0 _ 1 Tryz.underlying22 hi hz0 hz1 .i64 .i64 _ _ rs.length rfl rfl rfl rfl (by rw [hz2]; omega) (by unfold maxLen; omega) (Nat.le_refl _) ?_; intro w1 o1 g1)
  have b1 : Below w.heap.size w w1 := (Below.refl _ _).grown g1 (Nat.le_refl _) (fun k hk => by cases hk)
  go_loopw [4] (fun i wr => ∃ (k : Nat) (cs : List Value), k ≤ rs.length ∧ i = .int .i64 k ∧ wr.ownsRow w.heap.size 9 1 (.slice (some ⟨w.heap.size, 0, none⟩) rs.length rs.length) rs.length cs ∧ cs.take k = strCells (rs.take k) ∧ Below w.heap.size w wr) (fun i _ => rs.length - (intOf i).toNat)
  case atStart => exact ⟨0, _, Nat.zero_le _, rfl, o1, by simp [strCells], b1⟩
  case round =>
    clear o1 g1 b1
    obtain ⟨k, cs, hk, rfl, own, htk, bel⟩ := hrel
    have hcl : cs.length = rs.length * 1 := own.1
    by_cases hlt : k < rs.length
    · obtain ⟨b1, o1, rfl, l1, c1⟩ := hca k hlt
      have d1 : wr.cell? ⟨b1, o1 + k, none⟩ = some (.string rs[k]) := (bel.cell (p := ⟨b1, o1 + k, none⟩) l1).trans c1
      have HTS : Hid ((cs.set k (.string rs[k])).take (k + 1) = strCells (rs.take (k + 1))) := by
        show (cs.set k (.string rs[k])).take (k + 1) = strCells (rs.take (k + 1))
        rw [List.take_succ_eq_append_getElem hlt, strCells_app, ← htk, List.take_succ_eq_append_getElem (by rw [List.length_set]; omega), List.take_set_of_le (Nat.le_refl _)]
        simp [strCells]
      obtain ⟨x, hx⟩ : ∃ x, x = rs[k] := ⟨_, rfl⟩
      rw [← hx] at d1 HTS
      obtain ⟨z1, hc1⟩ : ∃ z, wr.cell? ⟨w.heap.size, k, none⟩ = some z := by
        rw [own.cellAt k (by omega)]; exact ⟨_, List.getElem?_eq_getElem (by omega)⟩
      have f1 := own.frozenAt k
      have S1 := (show Hid _ from own.stored k (.string x))
      clear hx c1 htk own
      go_wp2
      go_roundw
      case rel => exact ⟨k + 1, _, by omega, by go_num, S1.out.1, HTS.out, bel.setCell (Nat.le_refl _) _⟩
      case measure => simp [intOf]; omega
    · have hke : k = rs.length := by omega
      have hcs : cs = strCells rs := by rw [hke, List.take_length, ← Nat.mul_one rs.length, ← hcl, List.take_length] at htk; exact htk
      subst hcs
      go_wp2
      go_ret
      exact ⟨_, rfl, own, bel⟩

set_option maxHeartbeats 1000000 in
set_option maxRecDepth 100000 in
theorem toDisk_any {v : Value} {d : PDisk} {w : World} (h : DiskAt w v d) (hd : DiskFit d) :
    Calls Tryz.prog 32 #[v] w fun e w' => ∃ v', e = .returned v' ∧ OwnDk w.heap.size w' v' d ∧ Below w.heap.size w w' := by
  obtain ⟨sa, sn, sc, la, ln, lc, rfl, h1', h2⟩ := h
  have H1 := (show Hid (Sv 1 w (.slice sa sn sc) (strCells d.safe)) from h1')
  have H2 := (show Hid (Sv 2 w (.slice la ln lc) (putCells d.late)) from h2)
  have f1 := hd.sl
  have f2 := hd.ll
  clear h1' h2 hd
  obtain ⟨w1, hw1⟩ : ∃ x, x = ((w.alloc (.cells #[.slice sa sn sc, .slice la ln lc] 25)).alloc (.cells #[.slice none 0 0, .slice none 0 0] 35)).alloc (.cells #[.slice none 0 0, .slice none 0 0] 35) := ⟨_, rfl⟩
  have b1 : Below w.heap.size w w1 := by rw [hw1]; exact (((Below.refl _ _).alloc (Nat.le_refl _) _).alloc (by simp) _).alloc (by simp; omega) _
  have x1 : w1.heap[w.heap.size]? = some (.cells #[.slice sa sn sc, .slice la ln lc] 25 (0, 0)) := by rw [hw1, Below.heap_alloc _ _ _ (by simp; omega), Below.heap_alloc _ _ _ (by simp)]; exact World.alloc_heap_new _ _
  have x2 : w1.heap[w.heap.size + 1]? = some (.cells #[.slice none 0 0, .slice none 0 0] 35 (0, 0)) := by
    rw [hw1, Below.heap_alloc _ _ _ (by simp)]
    have := World.alloc_heap_new (w.alloc (.cells #[.slice sa sn sc, .slice la ln lc] 25)) (.cells #[.slice none 0 0, .slice none 0 0] 35)
    rwa [World.size_alloc] at this
  have x3 : w1.heap[w.heap.size + 1 + 1]? = some (.cells #[.slice none 0 0, .slice none 0 0] 35 (0, 0)) := by
    rw [hw1]
    have := World.alloc_heap_new ((w.alloc (.cells #[.slice sa sn sc, .slice la ln lc] 25)).alloc (.cells #[.slice none 0 0, .slice none 0 0] 35)) (.cells #[.slice none 0 0, .slice none 0 0] 35)
    rwa [World.size_alloc, World.size_alloc] at this
  have hs1 : w1.heap.size = w.heap.size + 1 + 1 + 1 := by rw [hw1, World.size_alloc, World.size_alloc, World.size_alloc]
  have X1 := (show Hid _ from x1)
  have X2 := (show Hid _ from x2)
  have X3 := (show Hid _ from x3)
  have HS := (show Hid (w1.heap.size = w.heap.size + 1 + 1 + 1) from hs1)
  clear x1 x2 x3 hs1
  go_enter Tryz.func32, Tryz.ntmps32
  go_wp2_with fail
  go_at_call 61
  rw [← hw1]
  refine (toStringS_any (H1.out.below b1) (by omega)).mono ?_
  rintro x w2 ⟨v2, rfl, o2, b2⟩
  clear hw1
  obtain ⟨ta, tn, tc, rfl⟩ := rk_slice o2
  have y1 := (b2.block _ (lt_of_block X1.out)).trans X1.out
  have y2 := (b2.block _ (lt_of_block X2.out)).trans X2.out
  have y3 := (b2.block _ (lt_of_block X3.out)).trans X3.out
  obtain ⟨w3, hw3⟩ : ∃ x, x = w2.setCell ⟨w.heap.size + 1 + 1, 0, none⟩ (.slice ta tn tc) := ⟨_, rfl⟩
  have g3 : w2.grownBy w3 (some (w.heap.size + 1 + 1)) := by rw [hw3]; exact grown_setCell _ _ _ _
  have bb := b1.trans (b2.mono b1.size)
  have b3 : Below w.heap.size w w3 := bb.grown g3 bb.size (fun r e => by cases e; omega)
  have z3 : w3.heap[w.heap.size + 1 + 1]? = some (.cells #[.slice ta tn tc, .slice none 0 0] 35 (0, 0)) := by rw [hw3]; exact rk_at y3
  have z2 : w3.heap[w.heap.size + 1]? = some (.cells #[.slice none 0 0, .slice none 0 0] 35 (0, 0)) := by rw [hw3]; exact (Below.heap_setCell _ _ _ _ (by simp)).trans y2
  have z1 : w3.heap[w.heap.size]? = some (.cells #[.slice sa sn sc, .slice la ln lc] 25 (0, 0)) := by rw [hw3]; exact (Below.heap_setCell _ _ _ _ (by simp; omega)).trans y1
  have o3 := rk_type (rk_base o2 b1.size) g3 (fun r e => by cases e; exact ⟨_, _, _, y3, by decide⟩)
  obtain ⟨d1, d2, e1, e2⟩ := rk_two y3
  obtain ⟨_, c2, _, _⟩ := rk_two y1
  obtain ⟨_, c2', _, _⟩ := rk_two z1
  have O3 := (show Hid (w3.ownsRow w.heap.size 9 1 (.slice ta tn tc) d.safe.length (strCells d.safe)) from o3)
  have Z2 := (show Hid _ from z2)
  have Z3 := (show Hid _ from z3)
  have B3 := (show Hid (Below w.heap.size w w3) from b3)
  have hne : w.heap.size ≠ w.heap.size + 1 + 1 := by omega
  clear o2 b1 b2 o3 y1 y2 y3 g3 bb z1 z2 z3 X1 X2 X3 b3
  go_wp2_with fail
  go_at_call 62
  rw [← hw3]
  refine (toPutS_any (H2.out.below B3.out) (by omega)).mono ?_
  rintro x w4 ⟨v4, rfl, o4, b4⟩
  clear hw3
  obtain ⟨ma, mn, mc, rfl⟩ := rk_slice o4
  have y2 := (b4.block _ (lt_of_block Z2.out)).trans Z2.out
  have y3 := (b4.block _ (lt_of_block Z3.out)).trans Z3.out
  have o3 := ownsRow_below O3.out b4
  have bb := B3.out.trans (b4.mono B3.out.size)
  have q1 := rk_at (k := 1) (u := .slice ma mn mc) y3
  have q2 := (Below.heap_setCell w4 ⟨w.heap.size + 1 + 1, 1, none⟩ (.slice ma mn mc) (w.heap.size + 1) (by simp)).trans y2
  have r1 := rk_at (k := 0) (u := .slice ta tn tc) q2
  have r2 := rk_at (k := 1) (u := .slice ma mn mc) r1
  have P1 := (show Hid _ from rk_set (k := 1) (u := .slice ma mn mc) (rk_set (k := 0) (u := .slice ta tn tc) (rk_set (k := 1) (u := .slice ma mn mc) o3 y3 (by decide)) q2 (by decide)) r1 (by decide))
  have P2 := (show Hid _ from rk_set (k := 1) (u := .slice ma mn mc) (rk_set (k := 0) (u := .slice ta tn tc) (rk_set (k := 1) (u := .slice ma mn mc) (rk_base o4 B3.out.size) y3 (by decide)) q2 (by decide)) r1 (by decide))
  have BB := (show Hid (Below w.heap.size w w4) from bb)
  obtain ⟨d1, d2, e1, e2⟩ := rk_two y3
  obtain ⟨f1, f2, i1, i2⟩ := rk_two y2
  have R2 := (show Hid _ from r2)
  clear o3 o4 b4 y2 y3 bb q1 q2 r1 r2 Z2 Z3 O3 B3
  go_wp2
  (try simp only [Exit.inBlock, Exit.then])
  refine bodyPost_ret (results_cell_row rfl _ _ (w.heap.size + 1) 35 #[.slice ta tn tc, .slice ma mn mc] (0, 0) _ rfl R2.out Tryz.underlying35 rfl rfl) rfl ?_
  refine ⟨_, rfl, ⟨_, _, _, _, _, _, rfl, P1.out, P2.out⟩, ?_⟩
  exact ((BB.out.setCell (by show w.heap.size ≤ w.heap.size + 1 + 1; omega) _).setCell (Nat.le_succ _) _).setCell (Nat.le_succ _) _
end Go.Proofs.YtokkigfjabbdaaaGreatDoor

/- The specification's questions of a disk: DiskOk, SectorOf. No condition. -/
namespace Go.Proofs.YtokkigfjabbdaaaGreatDoor
open Go.RowKit
set_option maxRecDepth 100000
set_option linter.unusedVariables false

theorem diskB_len {d : PDisk} (h : diskB d = true) : d.safe.length = 130 ∧ d.late.length ≤ 200 := by
  simp only [diskB, Bool.and_eq_true, decide_eq_true_eq] at h
  exact h.1.1
theorem diskB_safe {d : PDisk} (h : diskB d = true) {k : Nat} (hk : k < d.safe.length) : d.safe[k].size = 64 := by
  simp only [diskB, Bool.and_eq_true, decide_eq_true_eq, List.all_eq_true] at h
  exact h.1.2 _ (List.getElem_mem hk)
theorem diskB_late {d : PDisk} (h : diskB d = true) {k : Nat} (hk : k < d.late.length) : 0 ≤ d.late[k].1 ∧ d.late[k].1 < 130 ∧ d.late[k].2.size = 64 := by
  simp only [diskB, Bool.and_eq_true, decide_eq_true_eq, List.all_eq_true] at h
  have := h.2 _ (List.getElem_mem hk)
  simp only [inB, Bool.and_eq_true, decide_eq_true_eq] at this
  omega
theorem diskB_no1 {d : PDisk} (h : d.safe.length ≠ 130) : diskB d = false := by simp [diskB, h]
theorem diskB_no2 {d : PDisk} (h : 200 < d.late.length) : diskB d = false := by
  have : ¬ d.late.length ≤ 200 := by omega
  simp [diskB, this]
theorem diskB_no3 {d : PDisk} {k : Nat} (hk : k < d.safe.length) (h : d.safe[k].size ≠ 64) : diskB d = false := by
  cases hb : diskB d
  · rfl
  · exact absurd (diskB_safe hb hk) h
theorem diskB_no4 {d : PDisk} {k : Nat} (hk : k < d.late.length) (h : inB d.late[k].1 0 129 = false ∨ d.late[k].2.size ≠ 64) : diskB d = false := by
  cases hb : diskB d
  · rfl
  · have := diskB_late hb hk
    rcases h with h | h
    · rw [inB_yes (by omega) (by omega)] at h; cases h
    · exact absurd this.2.2 h
theorem diskB_yes {d : PDisk} (h1 : d.safe.length = 130) (h2 : d.late.length ≤ 200) (h3 : ∀ k (hk : k < d.safe.length), d.safe[k].size = 64) (h4 : ∀ k (hk : k < d.late.length), inB d.late[k].1 0 129 = true ∧ d.late[k].2.size = 64) : diskB d = true := by
  simp only [diskB, Bool.and_eq_true, decide_eq_true_eq, List.all_eq_true]
  refine ⟨⟨⟨h1, h2⟩, fun s hs => ?_⟩, fun p hp => ?_⟩
  · obtain ⟨k, hk, rfl⟩ := List.getElem_of_mem hs; exact h3 k hk
  · obtain ⟨k, hk, rfl⟩ := List.getElem_of_mem hp; exact h4 k hk

theorem sl15Sector_any (x : Int) (w : World) : Calls Tryz.prog 55 #[.int .i64 x] w fun e w' => e = .returned (.bool (inB x 0 129)) ∧ w' = w := by
  go_enter Tryz.func55, Tryz.ntmps55
  go_wp2_with fail
  go_at_call 56
  refine (l1In_any _ _ _ _).mono ?_
  rintro e w' ⟨rfl, rfl⟩
  go_wp2
  go_ret
  exact ⟨rfl, rfl⟩

set_option maxHeartbeats 2000000 in
set_option maxRecDepth 100000 in
theorem sdiskOk_any {w : World} {v : Value} {d : PDisk} (h : DiskAt w v d) (hf : DiskFit d) :
    Calls Tryz.prog 25 #[v] w fun e w' => e = .returned (.bool (diskB d)) ∧ Below w.heap.size w w' := by
  obtain ⟨sa, sn, sc, la, ln, lc, rfl, h1, h2⟩ := h
  have f1 := hf.sl
  have f2 := hf.ll
  have F3 := (show Hid (∀ s ∈ d.safe, s.size ≤ 1099511627776) from hf.st)
  have F4 := (show Hid (∀ p ∈ d.late, p.2.size ≤ 1099511627776) from hf.lt)
  obtain ⟨a1, c1, e1, _, _, hs⟩ := h1.str
  cases e1
  obtain ⟨a2, c2, e2, _, _, hp⟩ := h2.put
  cases e2
  have HS := (show Hid (∀ k (hk : k < d.safe.length), ∃ b off, sa = some ⟨b, off, none⟩ ∧ b < w.heap.size ∧ w.cell? ⟨b, off + k, none⟩ = some (.string d.safe[k])) from hs)
  have HP := (show Hid (∀ k (hk : k < d.late.length), ∃ b off, la = some ⟨b, off, none⟩ ∧ b < w.heap.size ∧ w.cell? ⟨b, off + k * 2, none⟩ = some (.int .i64 d.late[k].1) ∧ w.cell? ⟨b, off + k * 2 + 1, none⟩ = some (.string d.late[k].2)) from hp)
  clear h1 h2 hf hs hp
  obtain ⟨w1, hw1⟩ : ∃ x, x = w.alloc (.cells #[.slice sa d.safe.length sc, .slice la d.late.length lc] 35) := ⟨_, rfl⟩
  have b1 : Below w.heap.size w w1 := by rw [hw1]; exact (Below.refl _ _).alloc (Nat.le_refl _) _
  have x1 : w1.heap[w.heap.size]? = some (.cells #[.slice sa d.safe.length sc, .slice la d.late.length lc] 35 (0, 0)) := by rw [hw1]; exact World.alloc_heap_new _ _
  have X1 := (show Hid _ from x1)
  have B1 := (show Hid (Below w.heap.size w w1) from b1)
  obtain ⟨q1, q2, _, _⟩ := rk_two x1
  have Q := (show Hid (w1.cell? ⟨w.heap.size, 0, none⟩ = some (.slice sa d.safe.length sc) ∧ w1.cell? ⟨w.heap.size, 1, none⟩ = some (.slice la d.late.length lc)) from ⟨q1, q2⟩)
  clear x1 b1 q1 q2
  by_cases hl1 : d.safe.length = 130
  · by_cases hl2 : d.late.length ≤ 200
    · have hl2' : ¬ (200 < (d.late.length : Int)) := by omega
      have hn1 : ((d.safe.length : Int) != 130) = false := by simp; omega
      have HL1 := (show Hid (d.safe.length = 130) from hl1)
      clear hl1
      go_enter Tryz.func25, Tryz.ntmps25
      go_wp2
      rw [← hw1]
      go_loopw [3] (fun i wr => ∃ k : Nat, k ≤ d.safe.length ∧ i = .int .i64 k ∧ (∀ j (hj : j < d.safe.length), j < k → d.safe[j].size = 64) ∧ w1 = wr) (fun i _ => d.safe.length - (intOf i).toNat)
      case atStart => exact ⟨0, Nat.zero_le _, rfl, fun j hj h => by omega, rfl⟩
      case round =>
        obtain ⟨k, hk, rfl, he, rfl⟩ := hrel
        have HE := (show Hid (∀ j (hj : j < d.safe.length), j < k → d.safe[j].size = 64) from he)
        clear he hw1
        obtain ⟨q1, q2⟩ := Q.out
        by_cases hlt : k < d.safe.length
        · obtain ⟨b, o, rfl, hb, c⟩ := HS.out k hlt
          have c' := (B1.out.cell (p := ⟨b, o + k, none⟩) hb).trans c
          have hz := F3.out _ (List.getElem_mem hlt)
          have HN := (show Hid (d.safe[k].size ≠ 64 → diskB d = false) from diskB_no3 hlt)
          have HX := (show Hid (d.safe[k].size = 64 → ∀ j (hj : j < d.safe.length), j < k + 1 → d.safe[j].size = 64) from fun e j hj h => by
            by_cases e2 : j = k
            · subst e2; exact e
            · exact HE.out j hj (by omega))
          obtain ⟨x, hx⟩ : ∃ x, x = d.safe[k] := ⟨_, rfl⟩
          rw [← hx] at c' hz HN HX
          clear hx c
          by_cases e : x.size = 64
          · have hn : ((x.size : Int) != 64) = false := by simp; omega
            have HX' := (show Hid _ from HX.out e)
            clear HX HN e
            go_wp2
            go_roundw
            case rel => exact ⟨k + 1, by omega, by go_num, HX'.out, by first | rfl | trivial⟩
            case measure => simp [intOf]; omega
          · have hn : ((x.size : Int) != 64) = true := by simp; omega
            have HN' := (show Hid _ from HN.out e)
            clear HX HN e
            go_wp2
            go_ret
            exact ⟨ret_bool HN'.out.symm, B1.out⟩
        · have HE2 := (show Hid (∀ j (hj : j < d.safe.length), d.safe[j].size = 64) from fun j hj => HE.out j hj (by omega))
          clear HE
          go_wp2
          go_loopw [4] (fun i wr => ∃ k : Nat, k ≤ d.late.length ∧ i = .int .i64 k ∧ (∀ j (hj : j < d.late.length), j < k → inB d.late[j].1 0 129 = true ∧ d.late[j].2.size = 64) ∧ Below w1.heap.size w1 wr) (fun i _ => d.late.length - (intOf i).toNat)
          case atStart => exact ⟨0, Nat.zero_le _, rfl, fun j hj h => by omega, Below.refl _ _⟩
          case round =>
            clear q1 q2
            obtain ⟨m, hm, rfl, he, bel⟩ := hrel
            have HE := (show Hid (∀ j (hj : j < d.late.length), j < m → inB d.late[j].1 0 129 = true ∧ d.late[j].2.size = 64) from he)
            clear he
            have hwl := lt_of_block X1.out
            obtain ⟨q1, q2⟩ := Q.out
            replace q2 := (bel.cell (p := ⟨w.heap.size, 1, none⟩) hwl).trans q2
            clear q1
            by_cases hlt2 : m < d.late.length
            · obtain ⟨b, o, rfl, hb, c3, c4⟩ := HP.out m hlt2
              have hb1 : b < w1.heap.size := Nat.lt_of_lt_of_le hb B1.out.size
              have c3' := (bel.cell (p := ⟨b, o + m * 2, none⟩) hb1).trans ((B1.out.cell (p := ⟨b, o + m * 2, none⟩) hb).trans c3)
              have c4' := (bel.cell (p := ⟨b, o + m * 2 + 1, none⟩) hb1).trans ((B1.out.cell (p := ⟨b, o + m * 2 + 1, none⟩) hb).trans c4)
              have hz := F4.out _ (List.getElem_mem hlt2)
              have HN := (show Hid (inB d.late[m].1 0 129 = false ∨ d.late[m].2.size ≠ 64 → diskB d = false) from diskB_no4 hlt2)
              have HX := (show Hid (inB d.late[m].1 0 129 = true → d.late[m].2.size = 64 → ∀ j (hj : j < d.late.length), j < m + 1 → inB d.late[j].1 0 129 = true ∧ d.late[j].2.size = 64) from fun e e' j hj h => by
                by_cases e2 : j = m
                · subst e2; exact ⟨e, e'⟩
                · exact HE.out j hj (by omega))
              obtain ⟨x, hx⟩ : ∃ x, x = d.late[m] := ⟨_, rfl⟩
              rw [← hx] at c3' c4' hz HN HX
              obtain ⟨xa, xs⟩ := x
              simp only at c3' c4' hz HN HX
              clear hx c3 c4
              cases hi : inB xa 0 129
              · have HN' := (show Hid _ from HN.out (.inl hi))
                have CC := sl15Sector_any xa wr
                rw [hi] at CC
                have C2 := (show Hid _ from CC)
                clear HX HN CC hi
                go_wp2_with fail
                go_at_call 55
                refine Calls.mono C2.out ?_
                rintro e w' ⟨rfl, rfl⟩
                clear C2
                go_wp2
                go_ret
                exact ⟨ret_bool HN'.out.symm, B1.out.trans (bel.mono B1.out.size)⟩
              · have CC := sl15Sector_any xa wr
                rw [hi] at CC
                have C2 := (show Hid _ from CC)
                have HI := (show Hid _ from hi)
                clear CC hi
                go_wp2_with fail
                go_at_call 55
                refine Calls.mono C2.out ?_
                rintro e w' ⟨rfl, rfl⟩
                clear C2
                by_cases e : xs.size = 64
                · have hn : ((xs.size : Int) != 64) = false := by simp; omega
                  have HX' := (show Hid _ from HX.out HI.out e)
                  clear HX HN e HI
                  go_wp2
                  go_roundw
                  case rel => exact ⟨m + 1, by omega, by go_num, HX'.out, bel⟩
                  case measure => simp [intOf]; omega
                · have hn : ((xs.size : Int) != 64) = true := by simp; omega
                  have HN' := (show Hid _ from HN.out (.inr e))
                  clear HX HN e HI
                  go_wp2
                  go_ret
                  exact ⟨ret_bool HN'.out.symm, B1.out.trans (bel.mono B1.out.size)⟩
            · have HD : Hid (diskB d = true) := diskB_yes HL1.out hl2 HE2.out (fun j hj => HE.out j hj (by omega))
              go_wp2
              go_ret
              exact ⟨ret_bool HD.out.symm, B1.out.trans (bel.mono B1.out.size)⟩
    · have hn1 : ((d.safe.length : Int) != 130) = false := by simp; omega
      have hl2' : 200 < (d.late.length : Int) := by omega
      have HD := (show Hid (diskB d = false) from diskB_no2 (by omega))
      clear hl1
      have B2 := (show Hid _ from B1.out)
      rw [hw1] at B2
      go_enter Tryz.func25, Tryz.ntmps25
      go_wp2
      go_ret
      exact ⟨ret_bool HD.out.symm, B2.out⟩
  · have hn1 : ((d.safe.length : Int) != 130) = true := by simp; omega
    have HD := (show Hid (diskB d = false) from diskB_no1 hl1)
    have B2 := (show Hid _ from B1.out)
    rw [hw1] at B2
    go_enter Tryz.func25, Tryz.ntmps25
    go_wp2
    go_ret
    exact ⟨ret_bool HD.out.symm, B2.out⟩
end Go.Proofs.YtokkigfjabbdaaaGreatDoor

/- What disks answer, in plain words. No condition. -/
namespace Go.Proofs.YtokkigfjabbdaaaGreatDoor
open Go.RowKit
set_option maxRecDepth 100000
set_option linter.unusedVariables false

/-- The text of the last put of a sector, if there is one. -/
def putAt (x : Int) : List (Int × ByteArray) → Option ByteArray
  | [] => none
  | p :: ps => match putAt x ps with
    | some s => some s
    | none => if p.1 = x then some p.2 else none
theorem putAt_snoc (x : Int) (ps : List (Int × ByteArray)) (p : Int × ByteArray) : putAt x (ps ++ [p]) = if p.1 = x then some p.2 else putAt x ps := by
  induction ps with
  | nil => simp [putAt]
  | cons q ps ih =>
    rw [List.cons_append, putAt, ih]
    by_cases h : p.1 = x
    · simp [h]
    · simp [h, putAt]
theorem putAt_take {x : Int} {ps : List (Int × ByteArray)} {k : Nat} (hk : k < ps.length) : putAt x (ps.take (k + 1)) = if ps[k].1 = x then some ps[k].2 else putAt x (ps.take k) := by
  rw [List.take_succ_eq_append_getElem hk, putAt_snoc]
/-- What a sector has. -/
def sectorD (d : PDisk) (x : Int) : ByteArray := (putAt x d.late).getD (d.safe.getD x.toNat ⟨#[]⟩)
/-- Number k is among those that are kept. -/
def bitB (keep : Int) (k : Nat) : Bool := decide (keep / 2 ^ (k % 31) % 2 = 1)
/-- The texts when k puts are done, or left out. -/
def doneN (keep : Int) (safe : List ByteArray) (ps : List (Int × ByteArray)) : Nat → List ByteArray
  | 0 => safe
  | k + 1 => match ps[k]? with
    | some p => if bitB keep k then (doneN keep safe ps k).set p.1.toNat p.2 else doneN keep safe ps k
    | none => doneN keep safe ps k
theorem doneN_succ {keep : Int} {safe : List ByteArray} {ps : List (Int × ByteArray)} {k : Nat} (h : k < ps.length) : doneN keep safe ps (k + 1) = if bitB keep k then (doneN keep safe ps k).set ps[k].1.toNat ps[k].2 else doneN keep safe ps k := by
  simp [doneN, h]
theorem doneN_len (keep : Int) (safe : List ByteArray) (ps : List (Int × ByteArray)) (k : Nat) : (doneN keep safe ps k).length = safe.length := by
  induction k with
  | zero => rfl
  | succ k ih =>
    rw [doneN]
    split
    · split
      · rw [List.length_set, ih]
      · exact ih
    · exact ih
theorem doneN_size {keep : Int} {safe : List ByteArray} {ps : List (Int × ByteArray)} {m : Nat} (h1 : ∀ s ∈ safe, s.size ≤ m) (h2 : ∀ p ∈ ps, p.2.size ≤ m) (k : Nat) : ∀ s ∈ doneN keep safe ps k, s.size ≤ m := by
  induction k with
  | zero => exact h1
  | succ k ih =>
    rw [doneN]
    split
    · rename_i p hp
      split
      · intro s hs
        rcases List.mem_or_eq_of_mem_set hs with h | h
        · exact ih s h
        · subst h; exact h2 p (List.mem_of_getElem? hp)
      · exact ih
    · exact ih
def doneDk (keep : Int) (d : PDisk) : PDisk := ⟨doneN keep d.safe d.late d.late.length, []⟩
def zeroDk : PDisk := ⟨[], []⟩
def zeros64 : ByteArray := strOf (List.replicate 64 0)
theorem zeros64_size : zeros64.size = 64 := by decide +kernel
def newDk : PDisk := ⟨List.replicate 130 zeros64, []⟩
def putDk (d : PDisk) (x : Int) (s : ByteArray) : PDisk × Bool :=
  if diskB d = false then (zeroDk, false) else if inB x 0 129 = false ∨ s.size ≠ 64 ∨ d.late.length = 200 then (d, false) else (⟨d.safe, d.late ++ [(x, s)]⟩, true)
def syncDk (d : PDisk) : PDisk × Bool := if diskB d = false then (zeroDk, false) else (doneDk 2147483647 d, true)
def crashDk (d : PDisk) (keep : Int) : PDisk × Bool := if diskB d = false ∨ inB keep 0 2147483647 = false then (zeroDk, false) else (doneDk keep d, true)
def sectorDk (d : PDisk) (x : Int) : ByteArray × Bool := if diskB d = false ∨ inB x 0 129 = false then (⟨#[]⟩, false) else (sectorD d x, true)
end Go.Proofs.YtokkigfjabbdaaaGreatDoor

/- The number form as a list, and its plain laws. No condition. -/
namespace Go.Proofs.YtokkigfjabbdaaaGreatDoor
open Go.RowKit
set_option maxRecDepth 100000
set_option linter.unusedVariables false

/-- The number form, with how many bytes may stand behind the first. -/
def nf : Nat → Int → List Int
  | 0, x => [x]
  | m + 1, x => if x < 128 then [x] else (128 + x % 128) :: nf m (x / 128)

/-- The number form of any number. -/
def form (x : Int) : List Int := if x < 0 then [] else nf 8 x

/-- The number has a form of at most m + 1 bytes. -/
def Bd (m : Nat) (x : Int) : Prop := 0 ≤ x ∧ x < 128 ^ (m + 1)

theorem Bd.next {m : Nat} {x : Int} (h : Bd m x) (hx : 128 ≤ x) : ∃ n, m = n + 1 ∧ Bd n (x / 128) := by
  obtain ⟨h0, h1⟩ := h
  cases m with
  | zero => simp at h1; omega
  | succ n =>
    refine ⟨n, rfl, by omega, ?_⟩
    rw [Int.pow_succ] at h1
    exact Int.ediv_lt_of_lt_mul (by omega) h1
theorem bd_of {x : Int} (h0 : 0 ≤ x) (h1 : x ≤ 9223372036854775807) : Bd 8 x := ⟨h0, by
  have : (128 : Int) ^ (8 + 1) = 9223372036854775808 := by decide
  omega⟩

theorem nf_lt {m : Nat} {x : Int} (h : x < 128) : nf m x = [x] := by
  cases m with
  | zero => rfl
  | succ m => simp [nf, h]
theorem nf_ge {m : Nat} {x : Int} (h : 128 ≤ x) : nf (m + 1) x = (128 + x % 128) :: nf m (x / 128) := by
  have : ¬ x < 128 := by omega
  simp [nf, this]
theorem nf_len (m : Nat) (x : Int) : 1 ≤ (nf m x).length ∧ (nf m x).length ≤ m + 1 := by
  induction m generalizing x with
  | zero => simp [nf]
  | succ m ih =>
    unfold nf
    split
    · simp
    · have := ih (x / 128); simp; omega
theorem nf_byte {m : Nat} {x : Int} (h : Bd m x) : ∀ y ∈ nf m x, 0 ≤ y ∧ y ≤ 255 := by
  induction m generalizing x with
  | zero =>
    intro y hy
    have h0 := h.1
    have h1 := h.2
    simp [nf] at hy h1
    omega
  | succ m ih =>
    intro y hy
    have h0 := h.1
    by_cases hx : x < 128
    · rw [nf_lt hx] at hy; simp at hy; omega
    · obtain ⟨n, e, hb⟩ := h.next (by omega)
      cases e
      rw [nf_ge (by omega)] at hy
      rcases List.mem_cons.mp hy with e | hy
      · omega
      · exact ih hb y hy
theorem form_len (x : Int) : (form x).length ≤ 9 := by
  unfold form; split
  · simp
  · exact (nf_len 8 x).2
theorem form_byte {x : Int} (h : x ≤ 9223372036854775807) : ∀ y ∈ form x, 0 ≤ y ∧ y ≤ 255 := by
  unfold form; split
  · simp
  · exact nf_byte (bd_of (by omega) h)
end Go.Proofs.YtokkigfjabbdaaaGreatDoor

/- Reading a number form off a list of bytes. No condition. -/
namespace Go.Proofs.YtokkigfjabbdaaaGreatDoor
open Go.RowKit
set_option maxRecDepth 100000
set_option linter.unusedVariables false

/-- At most m bytes more, k have been read, acc is what they give. -/
def rdA : Nat → Nat → Int → List Int → Option (Int × Nat)
  | 0, _, _, _ => none
  | _ + 1, _, _, [] => none
  | m + 1, k, acc, d :: ds => if d < 128 then (if d = 0 ∧ 0 < k then none else some (acc + d * 128 ^ k, k + 1)) else rdA m (k + 1) (acc + d % 128 * 128 ^ k) ds

/-- What GetNum finds at a place. -/
def rdI (xs : List Int) (i : Int) : Option (Int × Nat) := if i < 0 then none else rdA 9 0 0 (xs.drop i.toNat)

theorem rdA_nil {m k : Nat} {acc : Int} : rdA m k acc [] = none := by cases m <;> rfl
theorem rdA_zero {k : Nat} {acc : Int} {ds : List Int} : rdA 0 k acc ds = none := rfl
theorem rdA_end {m k : Nat} {acc d : Int} {ds : List Int} (h : d < 128) (h0 : ¬ (d = 0 ∧ 0 < k)) : rdA (m + 1) k acc (d :: ds) = some (acc + d * 128 ^ k, k + 1) := by
  simp only [rdA, if_pos h, if_neg h0]
theorem rdA_bad {m k : Nat} {acc d : Int} {ds : List Int} (h : d < 128) (h0 : d = 0 ∧ 0 < k) : rdA (m + 1) k acc (d :: ds) = none := by
  simp only [rdA, if_pos h, if_pos h0]
theorem rdA_on {m k : Nat} {acc d : Int} {ds : List Int} (h : ¬ d < 128) : rdA (m + 1) k acc (d :: ds) = rdA m (k + 1) (acc + d % 128 * 128 ^ k) ds := by
  simp only [rdA, if_neg h]
theorem rdI_neg {xs : List Int} {i : Int} (h : i < 0) : rdI xs i = none := by simp [rdI, h]
theorem rdI_out {xs : List Int} {i : Int} (h : (xs.length : Int) ≤ i) : rdI xs i = none := by
  unfold rdI
  rw [if_neg (by omega), List.drop_eq_nil_of_le (by omega), rdA_nil]
theorem rdI_nat (xs : List Int) (k : Nat) : rdI xs k = rdA 9 0 0 (xs.drop k) := by
  unfold rdI
  rw [if_neg (by omega), Int.toNat_natCast]

/-- What the powers of 128 are, up to nine. -/
theorem pow_pos7 (k : Nat) : (1 : Int) ≤ 128 ^ k := by
  induction k with
  | zero => simp
  | succ k ih => rw [Int.pow_succ]; omega
theorem pow_le7 {k : Nat} (h : k ≤ 8) : (128 : Int) ^ k ≤ 72057594037927936 := by
  have : ∀ k, k ≤ 8 → (128 : Int) ^ k ≤ 72057594037927936 := by decide
  exact this k h
/-- One more byte of a form: no wrap. -/
theorem acc_step {k : Nat} {acc d : Int} (h0 : 0 ≤ acc) (h1 : acc < 128 ^ k) (d0 : 0 ≤ d) (d1 : d < 128) : 0 ≤ acc + d * 128 ^ k ∧ acc + d * 128 ^ k < 128 ^ (k + 1) := by
  have hp := pow_pos7 k
  rw [Int.pow_succ]
  generalize (128 : Int) ^ k = p at *
  have e1 : 0 ≤ d * p := Int.mul_nonneg d0 (by omega)
  have e2 : d * p ≤ 127 * p := Int.mul_le_mul_of_nonneg_right (by omega) (by omega)
  omega
/-- What is read lies within the list, and is a number not below nought. -/
theorem rdA_some {m k : Nat} {acc y : Int} {n : Nat} {ds : List Int} (h : rdA m k acc ds = some (y, n)) (hb : ∀ x ∈ ds, 0 ≤ x ∧ x ≤ 255) (h0 : 0 ≤ acc) (h1 : acc < 128 ^ k) (hm : k + m ≤ 9) :
    k < n ∧ n ≤ k + ds.length ∧ n ≤ 9 ∧ 0 ≤ y ∧ y ≤ 9223372036854775807 := by
  induction m generalizing k acc ds with
  | zero => rw [rdA_zero] at h; cases h
  | succ m ih =>
    cases ds with
    | nil => rw [rdA_nil] at h; cases h
    | cons d ds =>
      have hd := hb d (by simp)
      by_cases hl : d < 128
      · by_cases hz : d = 0 ∧ 0 < k
        · rw [rdA_bad hl hz] at h; cases h
        · rw [rdA_end hl hz] at h
          cases h
          have hs := acc_step (k := k) h0 h1 hd.1 hl
          have hp := pow_le7 (k := k) (by omega)
          rw [Int.pow_succ] at hs
          simp only [List.length_cons]
          omega
      · rw [rdA_on hl] at h
        have hs := acc_step (k := k) (d := d % 128) h0 h1 (by omega) (by omega)
        have := ih h (fun x hx => hb x (by simp [hx])) hs.1 hs.2 (by omega)
        simp only [List.length_cons]
        omega
theorem rdI_some {xs : List Int} {i y : Int} {n : Nat} (h : rdI xs i = some (y, n)) (hb : ∀ x ∈ xs, 0 ≤ x ∧ x ≤ 255) : 0 ≤ i ∧ i < xs.length ∧ 0 < n ∧ i + n ≤ xs.length ∧ n ≤ 9 ∧ 0 ≤ y ∧ y ≤ 9223372036854775807 := by
  by_cases h0 : i < 0
  · rw [rdI_neg h0] at h; cases h
  · by_cases h1 : (xs.length : Int) ≤ i
    · rw [rdI_out h1] at h; cases h
    · unfold rdI at h
      rw [if_neg h0] at h
      have := rdA_some h (fun x hx => hb x (List.mem_of_mem_drop hx)) (by omega) (by simp) (by omega)
      rw [List.length_drop] at this
      omega
end Go.Proofs.YtokkigfjabbdaaaGreatDoor
