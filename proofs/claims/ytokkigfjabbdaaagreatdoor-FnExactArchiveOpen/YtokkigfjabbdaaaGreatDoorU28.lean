/- Contracts of the laws' copies and measures of a list of attributes. -/
import Derived.Test.YtokkigfjabbdaaaGreatDoorU11
import Derived.OwnWalk
import Derived.Test.YtokkigfjabbdaaaGreatDoorU23
import Derived.Test.YtokkigfjabbdaaaGreatDoorU26
import Derived.Test.YtokkigfjabbdaaaGreatDoorU27
import Derived.Test.YtokkigfjabbdaaaGreatDoorU19
namespace Go.Proofs.YtokkigfjabbdaaaGreatDoor
open Go.RowKit
set_option maxRecDepth 100000
set_option linter.unusedVariables false

theorem pair_take_set {cs : List Value} {rs : List (ByteArray × ByteArray)} {k : Nat} (hk : k < rs.length) (hl : cs.length = rs.length * 2) (h : cs.take (k * 2) = pairCells (rs.take k)) :
    ((cs.set (k * 2) (.string rs[k].1)).set (k * 2 + 1) (.string rs[k].2)).take ((k + 1) * 2) = pairCells (rs.take (k + 1)) := by
  have e1 : pairCells (rs.take (k + 1)) = pairCells (rs.take k) ++ [.string rs[k].1, .string rs[k].2] := by
    rw [List.take_succ_eq_append_getElem hk]
    unfold pairCells
    rw [List.flatMap_append]
    rfl
  rw [e1, ← h]
  apply List.ext_getElem?
  intro i
  have e2 : (k + 1) * 2 = k * 2 + 2 := by omega
  by_cases hi : i < k * 2
  · rw [List.getElem?_take_of_lt (by omega), List.getElem?_set_ne (by omega), List.getElem?_set_ne (by omega), List.getElem?_append_left (by simp; omega), List.getElem?_take_of_lt hi]
  · have hlt : (cs.take (k * 2)).length = k * 2 := by simp; omega
    rw [List.getElem?_append_right (by omega), hlt]
    by_cases h0 : i = k * 2
    · subst h0
      rw [List.getElem?_take_of_lt (by omega), List.getElem?_set_ne (by omega), List.getElem?_set_self (by omega)]
      simp
    · by_cases h1 : i = k * 2 + 1
      · subst h1
        rw [List.getElem?_take_of_lt (by omega), List.getElem?_set_self (by rw [List.length_set]; omega)]
        simp
      · rw [List.getElem?_eq_none (by simp; omega), List.getElem?_eq_none (by simp; omega)]

end Go.Proofs.YtokkigfjabbdaaaGreatDoor

/- Contracts of the laws' marks of a list of attributes. -/
namespace Go.Proofs.YtokkigfjabbdaaaGreatDoor
open Go.RowKit
set_option maxRecDepth 100000
set_option linter.unusedVariables false

/-- The marks that are laid over a list of pairs, from k on. -/
def markPairs (k : Int) (n : Nat) : List (ByteArray × ByteArray) := (List.range n).map fun i : Nat => (mt (k + 2 * (i : Int)), mt (k + 2 * (i : Int) + 1))
theorem markPairs_len (k : Int) (n : Nat) : (markPairs k n).length = n := by simp [markPairs]
theorem markPairs_at (k : Int) (n i : Nat) (h : i < (markPairs k n).length) : (markPairs k n)[i] = (mt (k + 2 * (i : Int)), mt (k + 2 * (i : Int) + 1)) := by simp [markPairs]
theorem markPairs_succ (k : Int) (rs : List (ByteArray × ByteArray)) (i : Nat) (h : i < rs.length) :
    (markPairs k i ++ rs.drop i).set i (mt (k + 2 * (i : Int)), mt (k + 2 * (i : Int) + 1)) = markPairs k (i + 1) ++ rs.drop (i + 1) := by
  rw [List.set_append_right _ _ (by rw [markPairs_len]; exact Nat.le_refl _), markPairs_len, Nat.sub_self, List.drop_eq_getElem_cons h, List.set_cons_zero]
  simp [markPairs, List.range_succ]

theorem pairCells_set (ls : List (ByteArray × ByteArray)) (j : Nat) (a p : ByteArray) (h : j < ls.length) : ((pairCells ls).set (j * 2) (.string a)).set (j * 2 + 1) (.string p) = pairCells (ls.set j (a, p)) := by
  induction ls generalizing j with
  | nil => simp at h
  | cons r rs ih =>
    cases j with
    | zero => simp [pairCells]
    | succ j =>
      have e := ih j (by simpa using h)
      have e1 : (j + 1) * 2 = j * 2 + 1 + 1 := by omega
      have e2 : (j + 1) * 2 + 1 = j * 2 + 1 + 1 + 1 := by omega
      simp only [pairCells, List.flatMap_cons, List.cons_append, List.nil_append, e1, List.set_cons_succ] at e ⊢
      rw [e]

end Go.Proofs.YtokkigfjabbdaaaGreatDoor

/- The laws' helpers on entries (written by mk/helpe.py). No condition. -/
namespace Go.Proofs.YtokkigfjabbdaaaGreatDoor
open Go.RowKit
set_option maxRecDepth 100000
set_option linter.unusedVariables false

theorem eqEntry_any (a b : ByteArray × ByteArray) (w : World) : Calls Tryz.prog 69 #[.agg #[.string a.1, .string a.2], .agg #[.string b.1, .string b.2]] w fun e w' => e = .returned (.bool (decide (a = b))) ∧ Below w.heap.size w w' := by
  obtain ⟨an, ap⟩ := a
  obtain ⟨bn, bp⟩ := b
  simp only
  have b2 : Below w.heap.size w ((w.alloc (.cells #[.string an, .string ap] 70)).alloc (.cells #[.string bn, .string bp] 70)) := ((Below.refl _ _).alloc (Nat.le_refl _) _).alloc (by simp) _
  by_cases hn : an = bn
  · subst hn
    by_cases hp : ap = bp
    · subst hp
      go_enter Tryz.func69, Tryz.ntmps69
      go_wp2
      go_ret
      exact ⟨ret_bool (by simp), b2⟩
    · have hd := toList_ne hp
      go_enter Tryz.func69, Tryz.ntmps69
      go_wp2
      go_ret
      exact ⟨ret_bool (by simp [hp]), b2⟩
  · have hd := toList_ne hn
    go_enter Tryz.func69, Tryz.ntmps69
    go_wp2
    go_ret
    exact ⟨ret_bool (by simp [hn]), b2⟩

set_option maxHeartbeats 2000000 in
set_option maxRecDepth 100000 in
theorem eqEntryS_any {va vb : Value} {rs qs : List (ByteArray × ByteArray)} {w : World} (ha : Sv 2 w va (pairCells rs)) (hb : Sv 2 w vb (pairCells qs)) (hn : rs.length ≤ 1099511627776) (hm : qs.length ≤ 1099511627776) :
    Calls Tryz.prog 38 #[va, vb] w fun e w' => e = .returned (.bool (decide (rs = qs))) ∧ Below w.heap.size w w' := by
  obtain ⟨a, ca, rfl, _, _, hca⟩ := ha.pair
  obtain ⟨b, cb, rfl, _, _, hcb⟩ := hb.pair
  clear ha hb
  by_cases hl : rs.length = qs.length
  · have hn2 : ((rs.length : Int) != (qs.length : Int)) = false := by simp [hl]
    go_enter Tryz.func38, Tryz.ntmps38
    go_wp2
    go_loopw [5] (fun i wr => ∃ k : Nat, k ≤ rs.length ∧ i = .int .i64 k ∧ rs.take k = qs.take k ∧ Below w.heap.size w wr) (fun i _ => rs.length - (intOf i).toNat)
    case atStart => exact ⟨0, Nat.zero_le _, rfl, rfl, Below.refl _ _⟩
    case round =>
      obtain ⟨k, hk, rfl, he, bel⟩ := hrel
      have HE := (show Hid _ from he)
      clear he
      by_cases hlt : k < rs.length
      · have hlt' : k < qs.length := by omega
        obtain ⟨b1, o1, rfl, l1, c1, c2⟩ := hca k hlt
        obtain ⟨b2, o2, rfl, l2, c3, c4⟩ := hcb k hlt'
        have g1 : ∀ n : Wd w.heap.size w, n.w.cell? ⟨b1, o1 + k * 2, none⟩ = some (.string rs[k].1) := fun n => (n.below.cell (p := ⟨b1, o1 + k * 2, none⟩) l1).trans c1
        have g2 : ∀ n : Wd w.heap.size w, n.w.cell? ⟨b1, o1 + k * 2 + 1, none⟩ = some (.string rs[k].2) := fun n => (n.below.cell (p := ⟨b1, o1 + k * 2 + 1, none⟩) l1).trans c2
        have g3 : ∀ n : Wd w.heap.size w, n.w.cell? ⟨b2, o2 + k * 2, none⟩ = some (.string qs[k].1) := fun n => (n.below.cell (p := ⟨b2, o2 + k * 2, none⟩) l2).trans c3
        have g4 : ∀ n : Wd w.heap.size w, n.w.cell? ⟨b2, o2 + k * 2 + 1, none⟩ = some (.string qs[k].2) := fun n => (n.below.cell (p := ⟨b2, o2 + k * 2 + 1, none⟩) l2).trans c4
        have HT : Hid (rs[k] = qs[k] → rs.take (k + 1) = qs.take (k + 1)) := fun e => by rw [List.take_succ_eq_append_getElem hlt, List.take_succ_eq_append_getElem hlt', HE.out, e]
        have HF : Hid (rs[k] ≠ qs[k] → rs ≠ qs) := fun e h => e (by subst h; rfl)
        obtain ⟨x, hx⟩ : ∃ x, x = rs[k] := ⟨_, rfl⟩
        obtain ⟨y, hy⟩ : ∃ y, y = qs[k] := ⟨_, rfl⟩
        rw [← hx] at g1 g2 HT HF
        rw [← hy] at g3 g4 HT HF
        clear hx hy c1 c2 c3 c4
        have cc := fun w => eqEntry_any x y w
        obtain ⟨p, hp⟩ : ∃ p, p = decide (x = y) := ⟨_, rfl⟩
        rw [← hp] at cc
        have CC := (show Hid _ from cc)
        have HP := (show Hid (p = decide (x = y)) from hp)
        clear cc hp
        have ne := Wd.any w.heap.size w
        go_wp2
        refine wp_region_below (by kernel_rfl) (by kernel_rfl) bel ?_
        repeat (go_big_quiet_step ((go_at_call 69; exact quiet_below (CC.out _) (Nat.le_refl _))))
        refine wpQuiet_nil ?_
        intro wq hq
        replace hq := Wd.of hq
        cases p
        · have hxy : Hid (x ≠ y) := (show x ≠ y by simpa using HP.out.symm)
          go_wp2
          go_ret
          exact ⟨ret_bool (by rw [decide_eq_false (HF.out hxy.out)]), hq⟩
        · have hxy : Hid (x = y) := (show x = y by simpa using HP.out.symm)
          go_wp2
          go_roundw
          case rel => exact ⟨k + 1, by omega, by go_num, HT.out hxy.out, hq⟩
          case measure => simp [intOf]; omega
      · have hke : k = rs.length := by omega
        have hab : rs = qs := by have := HE.out; rw [hke, List.take_length, hl, List.take_length] at this; exact this
        go_wp2
        go_ret
        exact ⟨ret_bool (by rw [decide_eq_true hab]), bel⟩
  · have hab : rs ≠ qs := fun e => hl (by rw [e])
    have hn2 : ((rs.length : Int) != (qs.length : Int)) = true := by simp; omega
    rw [decide_eq_false hab]
    go_enter Tryz.func38, Tryz.ntmps38
    go_wp2
    go_ret
    exact ⟨rfl, Below.refl _ _⟩

/-- What is left of a bound behind one pair: below 0, or the pair is no longer than it. -/
theorem szEntry_any (a : ByteArray × ByteArray) (l : Int) (w : World) (h0 : 0 ≤ l) (h1 : l ≤ 1099511627776) (ha : a.1.size ≤ maxLen) (hb : a.2.size ≤ maxLen) : Calls Tryz.prog 54 #[.agg #[.string a.1, .string a.2], .int .i64 l] w fun e w' =>
    ∃ r : Int, e = .returned (.int .i64 r) ∧ (r < 0 ∨ (0 ≤ r ∧ r ≤ l ∧ (a.1.size : Int) + a.2.size ≤ l)) ∧ Below w.heap.size w w' := by
  obtain ⟨an, ap⟩ := a
  simp only at ha hb ⊢
  have b2 : Below w.heap.size w (w.alloc (.cells #[.string an, .string ap] 85)) := (Below.refl _ _).alloc (Nat.le_refl _) _
  unfold maxLen at ha hb
  rcases (show l - an.size < 0 ∨ (0 ≤ l - an.size ∧ l - an.size - ap.size < 0) ∨ (0 ≤ l - an.size ∧ 0 ≤ l - an.size - ap.size) by omega) with h | ⟨h, h'⟩ | ⟨h, h'⟩
  · go_enter Tryz.func54, Tryz.ntmps54
    go_wp2
    go_ret
    exact ⟨_, rfl, .inl (by decide), b2⟩
  · go_enter Tryz.func54, Tryz.ntmps54
    go_wp2
    go_ret
    exact ⟨_, rfl, .inl (by decide), b2⟩
  · go_enter Tryz.func54, Tryz.ntmps54
    go_wp2
    go_ret
    exact ⟨_, rfl, .inr ⟨by omega, by omega, by omega⟩, b2⟩

theorem toEntry_any (a : ByteArray × ByteArray) (w : World) : Calls Tryz.prog 63 #[.agg #[.string a.1, .string a.2]] w fun e w' => e = .returned (.agg #[.string a.1, .string a.2]) ∧ Below w.heap.size w w' := by
  obtain ⟨an, ap⟩ := a
  simp only
  go_enter Tryz.func63, Tryz.ntmps63
  go_wp2
  refine bodyPost_ret (v := .agg #[.string an, .string ap]) (by simp [results, Tryz.results63, go_sem]) rfl ⟨rfl, ?_⟩
  exact (((Below.refl _ _).alloc (Nat.le_refl _) _).alloc (by simp) _).alloc (by simp; omega) _

set_option maxHeartbeats 1000000 in
set_option maxRecDepth 100000 in
theorem szEntryS_any {v : Value} {rs : List (ByteArray × ByteArray)} {w : World} (h : Sv 2 w v (pairCells rs)) (hs : ∀ p ∈ rs, p.1.size ≤ maxLen ∧ p.2.size ≤ maxLen) (l : Int) (h0 : 0 ≤ l) (h1 : l ≤ 1099511627776) :
    Calls Tryz.prog 24 #[v, .int .i64 l] w fun e w' => ∃ r : Int, e = .returned (.int .i64 r) ∧ (r < 0 ∨ (0 ≤ r ∧ r ≤ l ∧ (rs.length : Int) ≤ l ∧ ∀ p ∈ rs, (p.1.size : Int) + p.2.size ≤ l)) ∧ Below w.heap.size w w' := by
  obtain ⟨a, ca, rfl, hc1, hc2, hca⟩ := h.pair
  have HS := (show Hid (∀ p ∈ rs, p.1.size ≤ maxLen ∧ p.2.size ≤ maxLen) from hs)
  clear hs h
  unfold maxLen at hc2
  by_cases hl : l - rs.length < 0
  · go_enter Tryz.func24, Tryz.ntmps24
    go_wp2
    go_ret
    exact ⟨_, rfl, .inl (by decide), Below.refl _ _⟩
  · have hl2 : 0 ≤ l - rs.length := by omega
    go_enter Tryz.func24, Tryz.ntmps24
    go_wp2
    go_loopw [1, 5] (fun q i wr => ∃ (k : Nat) (r : Int), k ≤ rs.length ∧ i = .int .i64 k ∧ q = .int .i64 r ∧ 0 ≤ r ∧ r ≤ l ∧ (∀ p ∈ rs.take k, (p.1.size : Int) + p.2.size ≤ l) ∧ Below w.heap.size w wr) (fun _ i _ => rs.length - (intOf i).toNat)
    case atStart => exact ⟨0, _, Nat.zero_le _, rfl, rfl, hl2, by omega, fun p hp => by simp at hp, Below.refl _ _⟩
    case round =>
      obtain ⟨k, r, hk, rfl, rfl, hr0, hr1, hall, bel⟩ := hrel
      have HA := (show Hid (∀ p ∈ rs.take k, (p.1.size : Int) + p.2.size ≤ l) from hall)
      clear hall
      by_cases hlt : k < rs.length
      · obtain ⟨b1, o1, rfl, l1, c1, c2⟩ := hca k hlt
        have d1 : wr.cell? ⟨b1, o1 + k * 2, none⟩ = some (.string rs[k].1) := (bel.cell (p := ⟨b1, o1 + k * 2, none⟩) l1).trans c1
        have d2 : wr.cell? ⟨b1, o1 + k * 2 + 1, none⟩ = some (.string rs[k].2) := (bel.cell (p := ⟨b1, o1 + k * 2 + 1, none⟩) l1).trans c2
        have hsz := HS.out rs[k] (List.getElem_mem hlt)
        have HT : Hid ((rs[k].1.size : Int) + rs[k].2.size ≤ l → ∀ p ∈ rs.take (k + 1), (p.1.size : Int) + p.2.size ≤ l) := fun hp p hp' => by
          rw [List.take_succ_eq_append_getElem hlt] at hp'
          rcases List.mem_append.mp hp' with h | h
          · exact HA.out p h
          · rw [List.mem_singleton.mp h]; exact hp
        obtain ⟨x, hx⟩ : ∃ x, x = rs[k] := ⟨_, rfl⟩
        rw [← hx] at d1 d2 hsz HT
        clear hx c1 c2
        have CC := (show Hid (∀ w, Calls Tryz.prog 54 #[.agg #[.string x.1, .string x.2], .int .i64 r] w fun e w' => ∃ q : Int, e = .returned (.int .i64 q) ∧ (q < 0 ∨ (0 ≤ q ∧ q ≤ r ∧ (x.1.size : Int) + x.2.size ≤ r)) ∧ Below w.heap.size w w') from fun w => szEntry_any x r w hr0 (by omega) hsz.1 hsz.2)
        clear hsz
        go_wp2_with fail
        go_at_call 54
        refine (CC.out _).mono ?_
        rintro e w2 ⟨q, rfl, hq, b2⟩
        replace b2 := bel.trans (b2.mono bel.size)
        clear d1 d2
        rcases hq with hq | ⟨hq0, hq1, hq2⟩
        · go_wp2
          go_ret
          exact ⟨_, rfl, .inl (by decide), b2⟩
        · go_wp2
          go_roundw
          case rel => exact ⟨k + 1, _, by omega, by go_num, rfl, hq0, by omega, HT.out (by omega), b2⟩
          case measure => simp [intOf]; omega
      · have hke : k = rs.length := by omega
        have hall : ∀ p ∈ rs, (p.1.size : Int) + p.2.size ≤ l := by have := HA.out; rw [hke, List.take_length] at this; exact this
        have HL := (show Hid _ from hall)
        clear hall
        go_wp2
        go_ret
        exact ⟨_, rfl, .inr ⟨hr0, hr1, by omega, HL.out⟩, bel⟩

set_option maxHeartbeats 2000000 in
set_option maxRecDepth 100000 in
theorem toEntryS_any {v : Value} {rs : List (ByteArray × ByteArray)} {w : World} (h : Sv 2 w v (pairCells rs)) (hn : rs.length ≤ 1048576) :
    Calls Tryz.prog 34 #[v] w fun e w' => ∃ v', e = .returned v' ∧ w'.ownsRow w.heap.size 70 2 v' rs.length (pairCells rs) ∧ Below w.heap.size w w' := by
  obtain ⟨a, ca, rfl, _, _, hca⟩ := h.pair
  clear h
  obtain ⟨i0, hi, hz0, hz1, hz2⟩ := info_parts Tryz.infoEnt
  go_enter Tryz.func34, Tryz.ntmps34
  go_wp2_with (at_make; refine wpList_make_full _ rfl (.tmp 6) (.tmp 6) 37 rfl w.heap.size 70 i0 _ 2 Tryz.underlying37 hi hz0 hz1 .i64 .i64 _ _ rs.length rfl rfl rfl rfl (by rw [hz2]; omega) (by unfold maxLen; omega) (Nat.le_refl _) ?_; intro w1 o1 g1)
  have b1 : Below w.heap.size w w1 := (Below.refl _ _).grown g1 (Nat.le_refl _) (fun k hk => by cases hk)
  go_loopw [4] (fun i wr => ∃ (k : Nat) (cs : List Value), k ≤ rs.length ∧ i = .int .i64 k ∧ wr.ownsRow w.heap.size 70 2 (.slice (some ⟨w.heap.size, 0, none⟩) rs.length rs.length) rs.length cs ∧ cs.take (k * 2) = pairCells (rs.take k) ∧ Below w.heap.size w wr) (fun i _ => rs.length - (intOf i).toNat)
  case atStart => exact ⟨0, _, Nat.zero_le _, rfl, o1, by simp [pairCells], b1⟩
  case round =>
    clear o1 g1 b1
    obtain ⟨k, cs, hk, rfl, own, htk, bel⟩ := hrel
    have hcl : cs.length = rs.length * 2 := own.1
    by_cases hlt : k < rs.length
    · obtain ⟨b1, o1, rfl, l1, c1, c2⟩ := hca k hlt
      have d1 : wr.cell? ⟨b1, o1 + k * 2, none⟩ = some (.string rs[k].1) := (bel.cell (p := ⟨b1, o1 + k * 2, none⟩) l1).trans c1
      have d2 : wr.cell? ⟨b1, o1 + k * 2 + 1, none⟩ = some (.string rs[k].2) := (bel.cell (p := ⟨b1, o1 + k * 2 + 1, none⟩) l1).trans c2
      have HTS := (show Hid _ from pair_take_set hlt hcl htk)
      obtain ⟨x, hx⟩ : ∃ x, x = rs[k] := ⟨_, rfl⟩
      rw [← hx] at d1 d2 HTS
      have OW := (show Hid (wr.ownsRow w.heap.size 70 2 (.slice (some ⟨w.heap.size, 0, none⟩) rs.length rs.length) rs.length cs) from own)
      clear hx c1 c2 htk own
      go_wp2_with fail
      go_at_call 63
      refine (toEntry_any x _).mono ?_
      rintro e w2 ⟨rfl, b2⟩
      have o2 : w2.ownsRow w.heap.size 70 2 (.slice (some ⟨w.heap.size, 0, none⟩) rs.length rs.length) rs.length cs := by
        obtain ⟨a1, a2 | ⟨g', c', cu', e1, e2, e3, e4⟩⟩ := OW.out
        · cases a2.1
        · cases e1
          exact ⟨a1, .inr ⟨_, _, cu', rfl, e2, by rw [b2.block _ (lt_of_block e3)]; exact e3, e4⟩⟩
      replace b2 := bel.trans (b2.mono bel.size)
      obtain ⟨z1, hc1⟩ : ∃ z, w2.cell? ⟨w.heap.size, k * 2, none⟩ = some z := by
        rw [o2.cellAt (k * 2) (by omega)]; exact ⟨_, List.getElem?_eq_getElem (by omega)⟩
      have f1 := o2.frozenAt (k * 2)
      obtain ⟨z2, hc2⟩ : ∃ z, w2.cell? ⟨w.heap.size, k * 2 + 1, none⟩ = some z := by
        rw [o2.cellAt (k * 2 + 1) (by omega)]; exact ⟨_, List.getElem?_eq_getElem (by omega)⟩
      have f2 := o2.frozenAt (k * 2 + 1)
      have s1 := o2.stored (k * 2) (.string x.1)
      have s2 := s1.1.stored (k * 2 + 1) (.string x.2)
      have S2 := (show Hid _ from s2)
      clear s1 s2 o2 d1 d2
      go_wp2
      go_roundw
      case rel => exact ⟨k + 1, _, by omega, by go_num, S2.out.1, HTS.out, (b2.setCell (Nat.le_refl _) _).setCell (Nat.le_refl _) _⟩
      case measure => simp [intOf]; omega
    · have hke : k = rs.length := by omega
      have hcs : cs = pairCells rs := by rw [hke, List.take_length, ← hcl, List.take_length] at htk; exact htk
      subst hcs
      go_wp2
      go_ret
      exact ⟨_, rfl, own, bel⟩

set_option maxHeartbeats 2000000 in
set_option maxRecDepth 100000 in
theorem markEntryS_any {B : Nat} {v : Value} {rs : List (ByteArray × ByteArray)} {w : World} (h : w.ownsRow B 70 2 v rs.length (pairCells rs)) (k0 : Int) (h0 : 0 ≤ k0) (hk : k0 ≤ 4000000) (hn : rs.length ≤ 4000000) :
    Calls Tryz.prog 42 #[v, .int .i64 k0] w fun e w' => e = .returned (.int .i64 (k0 + 2 * rs.length)) ∧ w'.ownsRow B 70 2 v rs.length (pairCells (markPairs k0 rs.length)) ∧ w.grownBy w' v.ownBlock := by
  have h' := h
  obtain ⟨hl, ⟨hv, hz⟩ | ⟨g, cap, cur, hv, hB, hh, hn', hm, hz, ht⟩⟩ := h'
  · subst hv
    have hr : rs = [] := List.length_eq_zero_iff.mp hz
    subst hr
    go_enter Tryz.func42, Tryz.ntmps42
    go_wp2
    go_loop [1, 5] (fun q i => i = .int .i64 0 ∧ q = .int .i64 k0) (fun _ _ => 0)
    case atStart => exact ⟨rfl, rfl⟩
    case round =>
      obtain ⟨rfl, rfl⟩ := hrel
      go_wp2
      go_ret
      exact ⟨ret_int (by simp), h, World.grownBy.refl _ _⟩
  · subst hv
    clear hh ht hz hl
    go_enter Tryz.func42, Tryz.ntmps42
    go_wp2
    go_loopw [1, 5] (fun q i wr => ∃ k : Nat, k ≤ rs.length ∧ i = .int .i64 k ∧ q = .int .i64 (k0 + 2 * k) ∧ wr.ownsRow B 70 2 (.slice (some ⟨g, 0, none⟩) rs.length cap) rs.length (pairCells (markPairs k0 k ++ rs.drop k)) ∧ w.grownBy wr (some g)) (fun _ i _ => rs.length - (intOf i).toNat)
    case atStart => exact ⟨0, Nat.zero_le _, rfl, by go_num, h, World.grownBy.refl _ _⟩
    case round =>
      clear h
      obtain ⟨k, hk', rfl, rfl, hown, hgr⟩ := hrel
      by_cases hlt : k < rs.length
      · have HO := (show Hid _ from hown)
        have HG := (show Hid _ from hgr)
        clear hown hgr
        go_wp2_with fail
        go_at_call 43
        refine (markText_any _ _ (by omega)).mono ?_
        rintro e w2 ⟨rfl, b2⟩
        have hlen : (markPairs k0 k ++ rs.drop k).length = rs.length := by simp [markPairs_len]; omega
        have o2 : w2.ownsRow B 70 2 (.slice (some ⟨g, 0, none⟩) rs.length cap) rs.length (pairCells (markPairs k0 k ++ rs.drop k)) := by
          obtain ⟨a1, a2 | ⟨g', c', cu', e1, e2, e3, e4⟩⟩ := HO.out
          · cases a2.1
          · cases e1
            exact ⟨a1, .inr ⟨g, cap, cu', rfl, e2, by rw [b2.block g (lt_of_block e3)]; exact e3, e4⟩⟩
        have hl2 := pairCells_len (markPairs k0 k ++ rs.drop k)
        obtain ⟨z1, hc1⟩ : ∃ z, w2.cell? ⟨g, k * 2, none⟩ = some z := by
          rw [o2.cellAt (k * 2) (by omega)]; exact ⟨_, List.getElem?_eq_getElem (by omega)⟩
        have f1 := o2.frozenAt (k * 2)
        have s1 := o2.stored (k * 2) (.string (mt (k0 + 2 * k)))
        have S1 := (show Hid _ from s1)
        clear s1 o2
        go_wp2_with fail
        go_at_call 43
        refine (markText_any _ _ (by omega)).mono ?_
        rintro e w3 ⟨rfl, b3⟩
        have o3 : w3.ownsRow B 70 2 (.slice (some ⟨g, 0, none⟩) rs.length cap) rs.length ((pairCells (markPairs k0 k ++ rs.drop k)).set (k * 2) (.string (mt (k0 + 2 * k)))) := by
          obtain ⟨a1, a2 | ⟨g', c', cu', e1, e2, e3, e4⟩⟩ := S1.out.1
          · cases a2.1
          · cases e1
            exact ⟨a1, .inr ⟨g, cap, cu', rfl, e2, by rw [b3.block g (lt_of_block e3)]; exact e3, e4⟩⟩
        obtain ⟨z2, hc2⟩ : ∃ z, w3.cell? ⟨g, k * 2 + 1, none⟩ = some z := by
          rw [o3.cellAt (k * 2 + 1) (by omega)]; exact ⟨_, List.getElem?_eq_getElem (by rw [List.length_set]; omega)⟩
        have f2 := o3.frozenAt (k * 2 + 1)
        have s2 := o3.stored (k * 2 + 1) (.string (mt (k0 + 2 * k + 1)))
        rw [pairCells_set _ _ _ _ (by omega), markPairs_succ k0 rs k hlt] at s2
        have S2 := (show Hid _ from s2)
        clear s2 o3
        go_wp2
        go_roundw
        case rel => exact ⟨k + 1, by omega, by go_num, by go_num, S2.out.1, grown_trans (grown_below (grown_trans (grown_below HG.out b2) S1.out.2) b3) S2.out.2⟩
        case measure => simp [intOf]; omega
      · go_wp2
        go_ret
        have hke : k = rs.length := by omega
        rw [hke, List.drop_length, List.append_nil] at hown
        exact ⟨ret_int (by rw [hke]), hown, hgr⟩

set_option maxHeartbeats 2000000 in
set_option maxRecDepth 100000 in
theorem heldEntryS_any {v : Value} {n : Nat} {w : World} (k0 : Int) (h : Sv 2 w v (pairCells (markPairs k0 n))) (h0 : 0 ≤ k0) (hk : k0 ≤ 4000000) (hn : n ≤ 4000000) :
    Calls Tryz.prog 49 #[v, .int .i64 k0] w fun e w' => e = .returned (.int .i64 (k0 + 2 * n)) ∧ Below w.heap.size w w' := by
  obtain ⟨a, ca, rfl, _, _, hca⟩ := h.pair
  have hlen := markPairs_len k0 n
  rw [hlen]
  go_enter Tryz.func49, Tryz.ntmps49
  go_wp2
  go_loopw [1, 5] (fun q i wr => ∃ k : Nat, k ≤ n ∧ i = .int .i64 k ∧ q = .int .i64 (k0 + 2 * k) ∧ Below w.heap.size w wr) (fun _ i _ => n - (intOf i).toNat)
  case atStart => exact ⟨0, Nat.zero_le _, rfl, by go_num, Below.refl _ _⟩
  case round =>
    obtain ⟨k, hk', rfl, rfl, bel⟩ := hrel
    by_cases hlt : k < n
    · obtain ⟨b1, o1, rfl, l1, c1, c2⟩ := hca k (by omega)
      rw [markPairs_at] at c1 c2
      simp only at c1 c2
      have g1 : ∀ m : Wd w.heap.size w, m.w.cell? ⟨b1, o1 + k * 2, none⟩ = some (.string (mt (k0 + 2 * k))) := fun m => (m.below.cell (p := ⟨b1, o1 + k * 2, none⟩) l1).trans c1
      have g2 : ∀ m : Wd w.heap.size w, m.w.cell? ⟨b1, o1 + k * 2 + 1, none⟩ = some (.string (mt (k0 + 2 * k + 1))) := fun m => (m.below.cell (p := ⟨b1, o1 + k * 2 + 1, none⟩) l1).trans c2
      have CC := (show Hid (∀ w, Calls Tryz.prog 43 #[.int .i64 (k0 + 2 * k)] w fun e w' => e = .returned (.string (mt (k0 + 2 * k))) ∧ Below w.heap.size w w') from fun w => markText_any _ _ (by omega))
      have CD := (show Hid (∀ w, Calls Tryz.prog 43 #[.int .i64 (k0 + 2 * k + 1)] w fun e w' => e = .returned (.string (mt (k0 + 2 * k + 1))) ∧ Below w.heap.size w w') from fun w => markText_any _ _ (by omega))
      have ne := Wd.any w.heap.size w
      clear c1 c2 hca
      go_wp2
      refine wp_region_below (by kernel_rfl) (by kernel_rfl) bel ?_
      repeat (go_big_quiet_step ((go_at_call 43; exact quiet_below (CC.out _) (Nat.le_refl _))))
      refine wpQuiet_nil ?_
      intro wq hq
      replace hq := Wd.of hq
      go_wp2
      refine wp_region_below (by kernel_rfl) (by kernel_rfl) hq ?_
      repeat (go_big_quiet_step ((go_at_call 43; exact quiet_below (CD.out _) (Nat.le_refl _))))
      refine wpQuiet_nil ?_
      intro wq2 hq2
      replace hq2 := Wd.of hq2
      go_wp2
      go_roundw
      case rel => exact ⟨k + 1, by omega, by go_num, by go_num, hq2⟩
      case measure => simp [intOf]; omega
    · have hke : k = n := by omega
      go_wp2
      go_ret
      exact ⟨ret_int (by rw [hke]), bel⟩
end Go.Proofs.YtokkigfjabbdaaaGreatDoor

/- Archives in memory. No condition. -/
namespace Go.Proofs.YtokkigfjabbdaaaGreatDoor
open Go.RowKit
set_option maxRecDepth 100000
set_option linter.unusedVariables false

/-- The value of an archive, from its rows. -/
def arV (a : PArch) (s l e : Value) : Value := .agg #[.bool a.up, s, l, .int .i64 a.head.no, .int .i64 a.head.area, .int .i64 a.head.en, e]
/-- The value v is the archive a. -/
def ArAt (w : World) (v : Value) (a : PArch) : Prop := ∃ sa sn sc la ln lc ea en ec, v = .agg #[.bool a.up, .slice sa sn sc, .slice la ln lc, .int .i64 a.head.no, .int .i64 a.head.area, .int .i64 a.head.en, .slice ea en ec] ∧ DiskAt w (.agg #[.slice sa sn sc, .slice la ln lc]) a.disk ∧ Sv 2 w (.slice ea en ec) (pairCells a.list)
theorem ArAt.below {w w' : World} {v : Value} {a : PArch} (h : ArAt w v a) (b : Below w.heap.size w w') : ArAt w' v a := by
  obtain ⟨sa, sn, sc, la, ln, lc, ea, en, ec, e, h1, h2⟩ := h
  exact ⟨sa, sn, sc, la, ln, lc, ea, en, ec, e, h1.below b, h2.below b⟩
abbrev OwnEy (B : Nat) (w : World) (v : Value) (ps : List (ByteArray × ByteArray)) : Prop := OwnY B 70 2 w v ps.length (pairCells ps)
/-- An archive of the call's own; what is empty may have no room. -/
def OwnAy (B : Nat) (w : World) (v : Value) (a : PArch) : Prop := ∃ sa sn sc la ln lc ea en ec, v = .agg #[.bool a.up, .slice sa sn sc, .slice la ln lc, .int .i64 a.head.no, .int .i64 a.head.area, .int .i64 a.head.en, .slice ea en ec] ∧ OwnDy B w (.agg #[.slice sa sn sc, .slice la ln lc]) a.disk ∧ OwnEy B w (.slice ea en ec) a.list
theorem OwnAy.at {B : Nat} {w : World} {v : Value} {a : PArch} (h : OwnAy B w v a) : ArAt w v a := by
  obtain ⟨sa, sn, sc, la, ln, lc, ea, en, ec, e, h1, h2⟩ := h
  exact ⟨sa, sn, sc, la, ln, lc, ea, en, ec, e, h1.at, h2.sv⟩
theorem OwnAy.below {B : Nat} {w w' : World} {v : Value} {a : PArch} (h : OwnAy B w v a) (b : Below w.heap.size w w') : OwnAy B w' v a := by
  obtain ⟨sa, sn, sc, la, ln, lc, ea, en, ec, e, h1, h2⟩ := h
  exact ⟨sa, sn, sc, la, ln, lc, ea, en, ec, e, h1.below b, h2.below b⟩
theorem OwnY.base {B B' e size n : Nat} {w : World} {v : Value} {xs : List Value} (h : OwnY B e size w v n xs) (hB : B' ≤ B) : OwnY B' e size w v n xs := by
  rcases h with h | ⟨h, k⟩
  · exact .inl h
  · exact .inr ⟨rk_base h hB, k⟩
theorem OwnAy.base {B B' : Nat} {w : World} {v : Value} {a : PArch} (h : OwnAy B w v a) (hB : B' ≤ B) : OwnAy B' w v a := by
  obtain ⟨sa, sn, sc, la, ln, lc, ea, en, ec, e, h1, h2⟩ := h
  exact ⟨sa, sn, sc, la, ln, lc, ea, en, ec, e, h1.base hB, h2.base hB⟩
theorem OwnEy.turned {B : Nat} {w w' : World} {v : Value} {ps : List (ByteArray × ByteArray)} {r : Option Nat} (h : OwnEy B w v ps) (g : w.grownBy w' r) (hr : ∀ j, r = some j → ∃ cs t fr, w.heap[j]? = some (.cells cs t fr) ∧ t ≠ 70) : OwnEy B w' v ps := by
  refine h.row g (fun j hj er => ?_)
  obtain ⟨cs, t, fr, k1, k2⟩ := hr j er.symm
  obtain ⟨c2, f2, k⟩ := h.kind hj
  rw [k1] at k; cases k; exact k2 rfl
theorem OwnAy.turned {B : Nat} {w w' : World} {v : Value} {a : PArch} {r : Option Nat} (h : OwnAy B w v a) (g : w.grownBy w' r) (hr : ∀ j, r = some j → ∃ cs t fr, w.heap[j]? = some (.cells cs t fr) ∧ t ≠ 9 ∧ t ≠ 88 ∧ t ≠ 70) : OwnAy B w' v a := by
  obtain ⟨sa, sn, sc, la, ln, lc, ea, en, ec, e, h1, h2⟩ := h
  refine ⟨sa, sn, sc, la, ln, lc, ea, en, ec, e, h1.turned g (fun j e => ?_), h2.turned g (fun j e => ?_)⟩
  · obtain ⟨cs, t, fr, k1, k2, k3, k4⟩ := hr j e
    exact ⟨cs, t, fr, k1, k2, k3⟩
  · obtain ⟨cs, t, fr, k1, k2, k3, k4⟩ := hr j e
    exact ⟨cs, t, fr, k1, k4⟩
/-- The blocks through which an archive's rows can be written. -/
def arB (v : Value) (j : Nat) : Prop := ∃ u s l h0 h1 h2 e, v = .agg #[u, s, l, h0, h1, h2, e] ∧ (zB s = some j ∨ zB l = some j ∨ zB e = some j)
theorem OwnAy.lt {B : Nat} {w : World} {v : Value} {a : PArch} (h : OwnAy B w v a) {j : Nat} (hj : arB v j) : B ≤ j ∧ j < w.heap.size := by
  obtain ⟨sa, sn, sc, la, ln, lc, ea, en, ec, e, ⟨_, _, _, _, _, _, e2, h1, h2⟩, h3⟩ := h
  obtain ⟨_, _, _, _, _, _, _, e3, hj⟩ := hj
  cases e2
  rw [e] at e3
  cases e3
  rcases hj with hj | hj | hj
  · exact h1.lt j hj
  · exact h2.lt j hj
  · exact h3.lt j hj
theorem OwnAy.kind {B : Nat} {w : World} {v : Value} {a : PArch} (h : OwnAy B w v a) {j : Nat} (hj : arB v j) : ∃ cs t fr, w.heap[j]? = some (.cells cs t fr) ∧ (t = 9 ∨ t = 88 ∨ t = 70) := by
  obtain ⟨sa, sn, sc, la, ln, lc, ea, en, ec, e, ⟨_, _, _, _, _, _, e2, h1, h2⟩, h3⟩ := h
  obtain ⟨_, _, _, _, _, _, _, e3, hj⟩ := hj
  cases e2
  rw [e] at e3
  cases e3
  rcases hj with hj | hj | hj
  · obtain ⟨c, f, k⟩ := h1.kind hj; exact ⟨c, _, f, k, .inl rfl⟩
  · obtain ⟨c, f, k⟩ := h2.kind hj; exact ⟨c, _, f, k, .inr (.inl rfl)⟩
  · obtain ⟨c, f, k⟩ := h3.kind hj; exact ⟨c, _, f, k, .inr (.inr rfl)⟩
/-- Nothing but the blocks T is turned. -/
structure FrT (T : Nat → Prop) (w w' : World) : Prop where
  os : w'.os = w.os
  tape : w'.tape = w.tape
  output : w'.output = w.output
  size : w.heap.size ≤ w'.heap.size
  block : ∀ j, j < w.heap.size → ¬ T j → w'.heap[j]? = w.heap[j]?
theorem FrT.trans {T : Nat → Prop} {w w1 w2 : World} (h : FrT T w w1) (k : FrT T w1 w2) : FrT T w w2 := ⟨k.os.trans h.os, k.tape.trans h.tape, k.output.trans h.output, Nat.le_trans h.size k.size, fun j hj ht => (k.block j (Nat.lt_of_lt_of_le hj h.size) ht).trans (h.block j hj ht)⟩
theorem FrT.of_below {T : Nat → Prop} {w w' : World} (h : Below w.heap.size w w') : FrT T w w' := ⟨h.os, h.tape, h.output, h.size, fun j hj _ => h.block j hj⟩
theorem FrT.of_grown {T : Nat → Prop} {w w' : World} {r : Option Nat} (h : w.grownBy w' r) (hr : ∀ j, r = some j → T j) : FrT T w w' := ⟨h.os, h.tape, h.output, h.size, fun j hj ht => h.block j hj (fun e => ht (hr j e.symm))⟩
theorem FrT.of_two {T : Nat → Prop} {w w' : World} {r s : Option Nat} (h : TwoFr r s w w') (hr : ∀ j, r = some j → T j) (hs : ∀ j, s = some j → T j) : FrT T w w' := ⟨h.os, h.tape, h.output, h.size, fun j hj ht => h.block j hj (fun e => ht (hr j e.symm)) (fun e => ht (hs j e.symm))⟩
theorem FrT.below {T : Nat → Prop} {B : Nat} {w w' : World} (h : FrT T w w') (hB : B ≤ w.heap.size) (ht : ∀ j, T j → B ≤ j) : Below B w w' := ⟨h.os, h.tape, h.output, h.size, fun j hj => h.block j (Nat.lt_of_lt_of_le hj hB) (fun t => by have := ht j t; omega)⟩
theorem FrT.rowY {T : Nat → Prop} {B e size n : Nat} {w w' : World} {v : Value} {xs : List Value} (h : FrT T w w') (o : OwnY B e size w v n xs) (ht : ∀ j, zB v = some j → ¬ T j) : OwnY B e size w' v n xs := by
  rcases o with o | ⟨o, g, m, c, rfl⟩
  · exact .inl o
  · refine .inr ⟨?_, g, m, c, rfl⟩
    obtain ⟨hl, ⟨hv, h0⟩ | ⟨g', cap, cur, hv, hB, hh, hr⟩⟩ := o
    · cases hv
    · cases hv
      exact ⟨hl, .inr ⟨_, _, cur, rfl, hB, by rw [h.block _ (lt_of_block hh) (ht _ rfl)]; exact hh, hr⟩⟩
theorem FrT.ar {T : Nat → Prop} {B : Nat} {w w' : World} {v : Value} {a : PArch} (h : FrT T w w') (o : OwnAy B w v a) (ht : ∀ j, arB v j → ¬ T j) : OwnAy B w' v a := by
  obtain ⟨sa, sn, sc, la, ln, lc, ea, en, ec, e, ⟨_, _, _, _, _, _, e2, h1, h2⟩, h3⟩ := o
  cases e2
  exact ⟨_, _, _, _, _, _, _, _, _, e, ⟨_, _, _, _, _, _, rfl, h.rowY h1 (fun j hj => ht j ⟨_, _, _, _, _, _, _, e, .inl hj⟩), h.rowY h2 (fun j hj => ht j ⟨_, _, _, _, _, _, _, e, .inr (.inl hj)⟩)⟩, h.rowY h3 (fun j hj => ht j ⟨_, _, _, _, _, _, _, e, .inr (.inr hj)⟩)⟩

/-- Nothing of the archive is too long. -/
structure ArFit (a : PArch) : Prop where
  d : DiskFit a.disk
  el : a.list.length ≤ 1048576
  es : ∀ p ∈ a.list, p.1.size ≤ 1048576 ∧ p.2.size ≤ 1048576
/-- An archive as it is marked. -/
def markA (a : PArch) : PArch := ⟨a.up, markDk a.disk, a.head, markPairs (1 + a.disk.safe.length + 2 * a.disk.late.length) a.list.length⟩
def arEnd (a : PArch) : Int := 1 + a.disk.safe.length + 2 * a.disk.late.length + 2 * a.list.length

/-- The listed blocks, archives, rows of bytes and rows of texts, in a world that is w with more. -/
structure La (w : World) (L : List (Nat × Array Value × TypeId)) (R : List (Nat × Nat × Value × PArch)) (Y : List (Nat × Nat × Value × List Int)) (S : List (Nat × Nat × Value × List ByteArray)) (W : World) : Prop where
  hl : Hl w L W
  rows : ∀ r ∈ R, OwnAy r.1 W r.2.2.1 r.2.2.2 ∧ ∀ j, arB r.2.2.1 j → j < r.2.1
  bys : ∀ y ∈ Y, Own y.1 5 .u8 W y.2.2.1 y.2.2.2 ∧ ∀ k, y.2.2.1.ownBlock = some k → k < y.2.1
  strs : ∀ s ∈ S, OwnY s.1 9 1 W s.2.2.1 s.2.2.2.length (strCells s.2.2.2) ∧ ∀ k, zB s.2.2.1 = some k → k < s.2.1
theorem arP_open : (0 : Nat) = 0 := rfl
section
variable {w : World} {L : List (Nat × Array Value × TypeId)} {R : List (Nat × Nat × Value × PArch)} {Y : List (Nat × Nat × Value × List Int)} {S : List (Nat × Nat × Value × List ByteArray)} {W W' : World}
theorem La.refl (w : World) : La w [] [] [] [] w := ⟨.refl w, fun r hr => by simp at hr, fun r hr => by simp at hr, fun r hr => by simp at hr⟩
theorem La.below (h : La w L R Y S W) (b : Below W.heap.size W W') : La w L R Y S W' := ⟨h.hl.below b, fun r hr => ⟨(h.rows r hr).1.below b, (h.rows r hr).2⟩, fun y hy => ⟨(h.bys y hy).1.below b, (h.bys y hy).2⟩, fun y hy => ⟨(h.strs y hy).1.below b, (h.strs y hy).2⟩⟩
theorem La.new (h : La w L R Y S W) (cs : Array Value) (t : TypeId) : La w ((W.heap.size, cs, t) :: L) R Y S (W.alloc (.cells cs t)) := by
  have hb : Below W.heap.size W (W.alloc (.cells cs t)) := (Below.refl _ _).alloc (Nat.le_refl _) _
  exact ⟨h.hl.new cs t, (h.below hb).rows, (h.below hb).bys, (h.below hb).strs⟩
theorem La.add {lo : Nat} {v : Value} {a : PArch} (h : La w L R Y S W) (o : OwnAy lo W v a) : La w L ((lo, W.heap.size, v, a) :: R) Y S W := ⟨h.hl, fun r hr => by
    rcases List.mem_cons.mp hr with rfl | hr
    · exact ⟨o, fun j hj => (o.lt hj).2⟩
    · exact h.rows r hr, h.bys, h.strs⟩
theorem La.addY {lo : Nat} {v : Value} {xs : List Int} (h : La w L R Y S W) (o : Own lo 5 .u8 W v xs) : La w L R ((lo, W.heap.size, v, xs) :: Y) S W := ⟨h.hl, h.rows, fun r hr => by
    rcases List.mem_cons.mp hr with rfl | hr
    · exact ⟨o, fun k hk => (o.lt k hk).2⟩
    · exact h.bys r hr, h.strs⟩
theorem La.addS {lo : Nat} {v : Value} {ss : List ByteArray} (h : La w L R Y S W) (o : OwnY lo 9 1 W v ss.length (strCells ss)) : La w L R Y ((lo, W.heap.size, v, ss) :: S) W := ⟨h.hl, h.rows, h.bys, fun r hr => by
    rcases List.mem_cons.mp hr with rfl | hr
    · exact ⟨o, fun k hk => (o.lt k hk).2⟩
    · exact h.strs r hr⟩
theorem La.tail {p : Nat × Array Value × TypeId} (h : La w (p :: L) R Y S W) : La w L R Y S W := ⟨h.hl.tail, h.rows, h.bys, h.strs⟩
theorem La.sub {L' : List (Nat × Array Value × TypeId)} {R' : List (Nat × Nat × Value × PArch)} {Y' : List (Nat × Nat × Value × List Int)} {S' : List (Nat × Nat × Value × List ByteArray)} (h : La w L R Y S W) (h1 : ∀ p ∈ L', p ∈ L) (h2 : ∀ p ∈ R', p ∈ R) (h3 : ∀ p ∈ Y', p ∈ Y) (h4 : ∀ p ∈ S', p ∈ S) : La w L' R' Y' S' W := ⟨h.hl.sub h1, fun r hr => h.rows r (h2 r hr), fun r hr => h.bys r (h3 r hr), fun r hr => h.strs r (h4 r hr)⟩
/-- A block of a struct's is turned; what is listed besides it is kept. -/
theorem La.past (h : La w L R Y S W) {N k : Nat} {u : Value} {cs : Array Value} {t : TypeId} {fr : Nat × Nat} (hN : W.heap[N]? = some (.cells cs t fr)) (hw : w.heap.size ≤ N) (hL : ∀ p ∈ L, p.1 ≠ N) (ht : t ≠ 9 ∧ t ≠ 88 ∧ t ≠ 5 ∧ t ≠ 70) : La w L R Y S (W.setCell ⟨N, k, none⟩ u) :=
  ⟨h.hl.past (grown_setCell _ _ _ _) (fun r e => by cases e; exact ⟨hw, hL⟩),
   fun r hr => ⟨(h.rows r hr).1.turned (grown_setCell _ _ _ _) (fun j e => by cases e; exact ⟨_, _, _, hN, ht.1, ht.2.1, ht.2.2.2⟩), (h.rows r hr).2⟩,
   fun y hy => ⟨rk_set (h.bys y hy).1 hN ht.2.2.1, (h.bys y hy).2⟩,
   fun y hy => ⟨(h.strs y hy).1.row (grown_setCell _ _ _ _) (fun j hj er => by
     cases er
     obtain ⟨c2, f2, k⟩ := (h.strs y hy).1.kind hj
     rw [hN] at k; cases k; exact ht.1 rfl), (h.strs y hy).2⟩⟩
theorem La.set {N : Nat} {cs : Array Value} {t : TypeId} (h : La w ((N, cs, t) :: L) R Y S W) (hw : w.heap.size ≤ N) (hL : ∀ p ∈ L, p.1 ≠ N) (ht : t ≠ 9 ∧ t ≠ 88 ∧ t ≠ 5 ∧ t ≠ 70) (k : Nat) (u : Value) : La w ((N, cs.setIfInBounds k u, t) :: L) R Y S (W.setCell ⟨N, k, none⟩ u) := by
  have h' := h.tail.past (k := k) (u := u) h.hl.at0 hw hL ht
  exact ⟨h.hl.set hw hL k u, h'.rows, h'.bys, h'.strs⟩
theorem La.set7 {N : Nat} {x0 x1 x2 x3 x4 x5 x6 : Value} (h : La w ((N, #[x0, x1, x2, x3, x4, x5, x6], 39) :: L) R Y S W) (hw : w.heap.size ≤ N) (hL : ∀ p ∈ L, p.1 ≠ N) (a0 a1 a2 a3 a4 a5 a6 : Value) : La w ((N, #[a0, a1, a2, a3, a4, a5, a6], 39) :: L) R Y S (((((((W.setCell ⟨N, 0, none⟩ a0).setCell ⟨N, 1, none⟩ a1).setCell ⟨N, 2, none⟩ a2).setCell ⟨N, 3, none⟩ a3).setCell ⟨N, 4, none⟩ a4).setCell ⟨N, 5, none⟩ a5).setCell ⟨N, 6, none⟩ a6) := by
  have h1 : La w ((N, #[a0, x1, x2, x3, x4, x5, x6], 39) :: L) R Y S (W.setCell ⟨N, 0, none⟩ a0) := h.set hw hL (by decide) 0 a0
  have h2 : La w ((N, #[a0, a1, x2, x3, x4, x5, x6], 39) :: L) R Y S ((W.setCell ⟨N, 0, none⟩ a0).setCell ⟨N, 1, none⟩ a1) := h1.set hw hL (by decide) 1 a1
  have h3 : La w ((N, #[a0, a1, a2, x3, x4, x5, x6], 39) :: L) R Y S (((W.setCell ⟨N, 0, none⟩ a0).setCell ⟨N, 1, none⟩ a1).setCell ⟨N, 2, none⟩ a2) := h2.set hw hL (by decide) 2 a2
  have h4 : La w ((N, #[a0, a1, a2, a3, x4, x5, x6], 39) :: L) R Y S ((((W.setCell ⟨N, 0, none⟩ a0).setCell ⟨N, 1, none⟩ a1).setCell ⟨N, 2, none⟩ a2).setCell ⟨N, 3, none⟩ a3) := h3.set hw hL (by decide) 3 a3
  have h5 : La w ((N, #[a0, a1, a2, a3, a4, x5, x6], 39) :: L) R Y S (((((W.setCell ⟨N, 0, none⟩ a0).setCell ⟨N, 1, none⟩ a1).setCell ⟨N, 2, none⟩ a2).setCell ⟨N, 3, none⟩ a3).setCell ⟨N, 4, none⟩ a4) := h4.set hw hL (by decide) 4 a4
  have h6 : La w ((N, #[a0, a1, a2, a3, a4, a5, x6], 39) :: L) R Y S ((((((W.setCell ⟨N, 0, none⟩ a0).setCell ⟨N, 1, none⟩ a1).setCell ⟨N, 2, none⟩ a2).setCell ⟨N, 3, none⟩ a3).setCell ⟨N, 4, none⟩ a4).setCell ⟨N, 5, none⟩ a5) := h5.set hw hL (by decide) 5 a5
  exact h6.set hw hL (by decide) 6 a6
/-- An archive is turned within its own rows: the others are kept. -/
theorem La.fr {lo hi : Nat} {v : Value} {a a' : PArch} (h : La w L ((lo, hi, v, a) :: R) Y S W) (hlo : w.heap.size ≤ lo) (hR : ∀ r ∈ R, r.2.1 ≤ lo ∨ hi ≤ r.1) (hS : ∀ r ∈ S, r.2.1 ≤ lo ∨ hi ≤ r.1) (hL : ∀ p ∈ L, p.2.2 ≠ 9 ∧ p.2.2 ≠ 88 ∧ p.2.2 ≠ 70) (o' : OwnAy lo W' v a') (f : FrT (arB v) W W') :
    La w L ((lo, hi, v, a') :: R) Y S W' := by
  obtain ⟨o, hh⟩ := h.rows _ (List.mem_cons_self ..)
  simp only at o hh
  have hlt : ∀ j, arB v j → lo ≤ j ∧ j < hi := fun j hj => ⟨(o.lt hj).1, hh j hj⟩
  refine ⟨⟨h.hl.1.trans (f.below h.hl.1.size (fun j hj => by have := (hlt j hj).1; omega)), fun p hp => (f.block _ (lt_of_block (h.hl.2 p hp)) (fun hj => ?_)).trans (h.hl.2 p hp)⟩, fun r hr => ?_, fun y hy => ⟨?_, (h.bys y hy).2⟩, fun s hs => ⟨f.rowY (h.strs s hs).1 (fun j hj ht => ?_), (h.strs s hs).2⟩⟩
  · obtain ⟨cs, t, fr, k1, k2⟩ := o.kind hj
    rw [h.hl.2 p hp] at k1
    cases k1
    rcases k2 with k2 | k2 | k2
    · exact (hL p hp).1 k2
    · exact (hL p hp).2.1 k2
    · exact (hL p hp).2.2 k2
  · rcases List.mem_cons.mp hr with rfl | hr'
    · exact ⟨o', hh⟩
    · obtain ⟨o2, h2⟩ := h.rows r (List.mem_cons_of_mem _ hr')
      refine ⟨f.ar o2 (fun j hj ht => ?_), h2⟩
      have q1 := hlt j ht
      have q2 := h2 j hj
      have q3 := (o2.lt hj).1
      rcases hR r hr' with q | q <;> omega
  · have o3 := (h.bys y hy).1
    obtain ⟨hl, ⟨hv, h0⟩ | ⟨g', cap, cur, hv, hB, hb, hr⟩⟩ := o3
    · exact ⟨hl, .inl ⟨hv, h0⟩⟩
    · refine ⟨hl, .inr ⟨g', cap, cur, hv, hB, ?_, hr⟩⟩
      rw [f.block _ (lt_of_block hb) (fun hj => ?_)]
      · exact hb
      · obtain ⟨cs, t, fr, k1, k2⟩ := o.kind hj
        rw [hb] at k1
        cases k1
        rcases k2 with k2 | k2 | k2 <;> exact absurd k2 (by decide)
  · have q1 := hlt j ht
    have q2 := (h.strs s hs).2 j hj
    have q3 := ((h.strs s hs).1.lt j hj).1
    rcases hS s hs with q | q <;> omega
theorem arP_end : (0 : Nat) = 0 := rfl
end
theorem size_set7 (W : World) (p0 p1 p2 p3 p4 p5 p6 : Addr) (a0 a1 a2 a3 a4 a5 a6 : Value) : W.heap.size ≤ (((((((W.setCell p0 a0).setCell p1 a1).setCell p2 a2).setCell p3 a3).setCell p4 a4).setCell p5 a5).setCell p6 a6).heap.size := by simp [World.setCell]
end Go.Proofs.YtokkigfjabbdaaaGreatDoor

/- The laws' helpers on heads. No condition. -/
namespace Go.Proofs.YtokkigfjabbdaaaGreatDoor
open Go.RowKit
set_option maxRecDepth 100000
set_option linter.unusedVariables false

set_option maxRecDepth 100000 in
theorem toHead_any (h : PHead) (w : World) : Calls Tryz.prog 33 #[headV h] w fun e w' => e = .returned (headV h) ∧ Below w.heap.size w w' := by
  obtain ⟨no, ar, en⟩ := h
  show Calls Tryz.prog 33 #[.agg #[.int .i64 no, .int .i64 ar, .int .i64 en]] w _
  have h1 := (((Hl.refl w).new #[.int .i64 no, .int .i64 ar, .int .i64 en] 27).new #[.int .i64 no, .int .i64 ar, .int .i64 en] 36).new #[.int .i64 no, .int .i64 ar, .int .i64 en] 36
  rw [World.size_alloc, World.size_alloc] at h1
  have H1 := (show Hid _ from h1)
  clear h1
  go_enter Tryz.func33, Tryz.ntmps33
  go_wp2
  refine bodyPost_ret (results_cell_row rfl _ _ (w.heap.size + 1) 36 #[.int .i64 no, .int .i64 ar, .int .i64 en] (0, 0) _ rfl H1.out.at1 Tryz.underlying36 rfl rfl) rfl ?_
  exact ⟨rfl, H1.out.1⟩
set_option maxRecDepth 100000 in
theorem eqHead_same (h : PHead) (w : World) : Calls Tryz.prog 37 #[headV h, headV h] w fun e w' => e = .returned (.bool true) ∧ Below w.heap.size w w' := by
  obtain ⟨a, b, c⟩ := h
  show Calls Tryz.prog 37 #[.agg #[.int .i64 a, .int .i64 b, .int .i64 c], .agg #[.int .i64 a, .int .i64 b, .int .i64 c]] w _
  have e1 : (a != a) = false := by simp
  have e2 : (b != b) = false := by simp
  have e3 : (c != c) = false := by simp
  have h1 := ((Hl.refl w).new #[.int .i64 a, .int .i64 b, .int .i64 c] 36).new #[.int .i64 a, .int .i64 b, .int .i64 c] 36
  have H1 := (show Hid _ from h1)
  clear h1
  go_enter Tryz.func37, Tryz.ntmps37
  go_wp2
  go_ret
  exact ⟨rfl, H1.out.1⟩

/-- What the program must keep. -/
def HeadPackOk : Prop := ∀ (h : PHead) (w : World), (Lit.int .i64 h.no).wf = true → (Lit.int .i64 h.area).wf = true → (Lit.int .i64 h.en).wf = true → Calls Tryz.prog 122 #[headV h] w fun e w' => e = .returned (.tuple #[.string (packDk h).1, .bool (packDk h).2]) ∧ Below w.heap.size w w'
def HeadNowOk (w0 : World) : Prop := ∀ (w : World) (v : Value) (d : PDisk), Below w0.heap.size w0 w → DiskAt w v d → DiskFit d → Calls Tryz.prog 85 #[v] w fun e w' => e = .returned (headV (nowDk d)) ∧ Below w.heap.size w w'

end Go.Proofs.YtokkigfjabbdaaaGreatDoor

/- The laws' helpers on archives. No condition. -/
namespace Go.Proofs.YtokkigfjabbdaaaGreatDoor
open Go.RowKit
set_option maxRecDepth 100000
set_option linter.unusedVariables false

theorem rk_seven {w : World} {b : Nat} {x0 x1 x2 x3 x4 x5 x6 : Value} {t : TypeId} (h : w.heap[b]? = some (.cells #[x0, x1, x2, x3, x4, x5, x6] t (0, 0))) : w.cell? ⟨b, 0, none⟩ = some x0 ∧ w.cell? ⟨b, 1, none⟩ = some x1 ∧ w.cell? ⟨b, 2, none⟩ = some x2 ∧ w.cell? ⟨b, 3, none⟩ = some x3 ∧ w.cell? ⟨b, 4, none⟩ = some x4 ∧ w.cell? ⟨b, 5, none⟩ = some x5 ∧ w.cell? ⟨b, 6, none⟩ = some x6 ∧ w.frozen? ⟨b, 0, none⟩ = false :=
  ⟨by simp only [World.cell?, h]; rfl, by simp only [World.cell?, h]; rfl, by simp only [World.cell?, h]; rfl, by simp only [World.cell?, h]; rfl, by simp only [World.cell?, h]; rfl, by simp only [World.cell?, h]; rfl, by simp only [World.cell?, h]; rfl, by simp only [World.frozen?, h]; rfl⟩
theorem rk_thaw {w : World} {b k : Nat} {cs : Array Value} {t : TypeId} (h : w.heap[b]? = some (.cells cs t (0, 0))) : w.frozen? ⟨b, k, none⟩ = false := by simp only [World.frozen?, h]; simp

set_option maxHeartbeats 1000000 in
set_option maxRecDepth 100000 in
theorem szArchive_any {v : Value} {a : PArch} {w : World} (h : ArAt w v a) (hs : ∀ s ∈ a.disk.safe, s.size ≤ maxLen) (hp : ∀ p ∈ a.disk.late, p.2.size ≤ maxLen) (he : ∀ p ∈ a.list, p.1.size ≤ maxLen ∧ p.2.size ≤ maxLen) (l : Int) (h0 : 0 ≤ l) (h1 : l ≤ 1048576) :
    Calls Tryz.prog 7 #[v, .int .i64 l] w fun e w' => ∃ r : Int, e = .returned (.int .i64 r) ∧ (r < 0 ∨ (0 ≤ r ∧ ArFit a)) ∧ Below w.heap.size w w' := by
  obtain ⟨up, d, ⟨no, ar, en⟩, ls⟩ := a
  obtain ⟨sa, sn, sc, la, ln, lc, ea, en', ec, rfl, h1', h2⟩ := h
  simp only at h1' h2 hs hp he
  have H1 := (show Hid (DiskAt w (.agg #[.slice sa sn sc, .slice la ln lc]) d) from h1')
  have H2 := (show Hid (Sv 2 w (.slice ea en' ec) (pairCells ls)) from h2)
  have HS := (show Hid (∀ s ∈ d.safe, s.size ≤ maxLen) from hs)
  have HP := (show Hid (∀ p ∈ d.late, p.2.size ≤ maxLen) from hp)
  have HE := (show Hid (∀ p ∈ ls, p.1.size ≤ maxLen ∧ p.2.size ≤ maxLen) from he)
  clear h1' h2 hs hp he
  have hl := (Hl.refl w).new #[.bool up, .slice sa sn sc, .slice la ln lc, .int .i64 no, .int .i64 ar, .int .i64 en, .slice ea en' ec] 30
  obtain ⟨w1, hw1⟩ : ∃ x, x = w.alloc (.cells #[.bool up, .slice sa sn sc, .slice la ln lc, .int .i64 no, .int .i64 ar, .int .i64 en, .slice ea en' ec] 30) := ⟨_, rfl⟩
  rw [← hw1] at hl
  have HL := (show Hid _ from hl)
  clear hl
  go_enter Tryz.func7, Tryz.ntmps7
  go_wp2_with fail
  go_at_call 23
  rw [← hw1]
  refine (szDisk_any (H1.out.below HL.out.1) HS.out HP.out l h0 h1).mono ?_
  rintro x w2 ⟨r, rfl, hr, b2⟩
  clear hw1
  have hl := HL.out.below b2
  clear HL
  have HL := (show Hid _ from hl)
  clear hl b2
  rcases hr with hr | ⟨hr0, hr1, hf⟩
  · go_wp2
    go_ret
    exact ⟨_, rfl, .inl (by decide), HL.out.1⟩
  · have HF := (show Hid (DiskFit d) from hf)
    clear hf
    obtain ⟨c0, c1, c2, c3, c4, c5, c6, _⟩ := rk_seven HL.out.at0
    go_wp2_with fail
    go_at_call 24
    refine (szEntryS_any (H2.out.below HL.out.1) HE.out r hr0 (by omega)).mono ?_
    rintro x w3 ⟨q, rfl, hq, b3⟩
    have hl := HL.out.below b3
    have B3 := (show Hid _ from hl.1)
    clear b3 hl c0 c1 c2 c3 c4 c5 c6
    rcases hq with hq | ⟨hq0, hq1, hq2, hq3⟩
    · go_wp2
      go_ret
      exact ⟨_, rfl, .inl (by decide), B3.out⟩
    · have HQ := (show Hid (∀ p ∈ ls, (p.1.size : Int) + p.2.size ≤ r) from hq3)
      clear hq3
      go_wp2
      go_ret
      exact ⟨_, rfl, .inr ⟨hq0, ⟨HF.out, by simp only; omega, fun p hp => by have := HQ.out p hp; omega⟩⟩, B3.out⟩

set_option maxHeartbeats 1000000 in
set_option maxRecDepth 100000 in
theorem eqArchive_any {u v : Value} {a : PArch} {w : World} (h : ArAt w u a) (k : ArAt w v a) (hf : ArFit a) :
    Calls Tryz.prog 11 #[u, v] w fun e w' => e = .returned (.bool true) ∧ Below w.heap.size w w' := by
  obtain ⟨up, d, ⟨no, ar, en⟩, ls⟩ := a
  obtain ⟨sa, sn, sc, la, ln, lc, ea, en', ec, rfl, h1, h2⟩ := h
  obtain ⟨ta, tn, tc, ma, mn, mc, fa, fn, fc, rfl, k1, k2⟩ := k
  simp only at h1 h2 k1 k2
  have H1 := (show Hid (DiskAt w (.agg #[.slice sa sn sc, .slice la ln lc]) d) from h1)
  have H2 := (show Hid (Sv 2 w (.slice ea en' ec) (pairCells ls)) from h2)
  have K1 := (show Hid (DiskAt w (.agg #[.slice ta tn tc, .slice ma mn mc]) d) from k1)
  have K2 := (show Hid (Sv 2 w (.slice fa fn fc) (pairCells ls)) from k2)
  have HF := (show Hid (DiskFit d) from hf.d)
  have hn : ls.length ≤ 1048576 := hf.el
  clear h1 h2 k1 k2 hf
  have hl := ((Hl.refl w).new #[.bool up, .slice sa sn sc, .slice la ln lc, .int .i64 no, .int .i64 ar, .int .i64 en, .slice ea en' ec] 39).new #[.bool up, .slice ta tn tc, .slice ma mn mc, .int .i64 no, .int .i64 ar, .int .i64 en, .slice fa fn fc] 39
  obtain ⟨w1, hw1⟩ : ∃ x, x = (w.alloc (.cells #[.bool up, .slice sa sn sc, .slice la ln lc, .int .i64 no, .int .i64 ar, .int .i64 en, .slice ea en' ec] 39)).alloc (.cells #[.bool up, .slice ta tn tc, .slice ma mn mc, .int .i64 no, .int .i64 ar, .int .i64 en, .slice fa fn fc] 39) := ⟨_, rfl⟩
  rw [← hw1, World.size_alloc] at hl
  have HL := (show Hid _ from hl)
  clear hl
  have hup : (up != up) = false := by cases up <;> rfl
  go_enter Tryz.func11, Tryz.ntmps11
  go_wp2_with fail
  go_at_call 36
  rw [← hw1]
  refine (eqDisk_any (H1.out.below HL.out.1) (K1.out.below HL.out.1) HF.out HF.out).mono ?_
  rintro x w2 ⟨rfl, b2⟩
  rw [same_dk]
  clear hw1
  have hl := HL.out.below b2
  clear HL
  have HL := (show Hid _ from hl)
  clear hl b2
  obtain ⟨c0, c1, c2, c3, c4, c5, c6, _⟩ := rk_seven HL.out.at0
  obtain ⟨d0, d1, d2, d3, d4, d5, d6, _⟩ := rk_seven HL.out.at1
  go_wp2_with fail
  go_at_call 37
  refine (eqHead_same ⟨no, ar, en⟩ _).mono ?_
  rintro x w3 ⟨rfl, b3⟩
  have hl := HL.out.below b3
  clear HL
  have HL := (show Hid _ from hl)
  clear hl b3 c0 c1 c2 c3 c4 c5 c6 d0 d1 d2 d3 d4 d5 d6
  obtain ⟨c0, c1, c2, c3, c4, c5, c6, _⟩ := rk_seven HL.out.at0
  obtain ⟨d0, d1, d2, d3, d4, d5, d6, _⟩ := rk_seven HL.out.at1
  go_wp2_with fail
  go_at_call 38
  refine (eqEntryS_any (H2.out.below HL.out.1) (K2.out.below HL.out.1) (by omega) (by omega)).mono ?_
  rintro x w4 ⟨rfl, b4⟩
  rw [decide_eq_true rfl]
  have hl := HL.out.below b4
  have B4 := (show Hid _ from hl.1)
  clear hl b4 c0 c1 c2 c3 c4 c5 c6 d0 d1 d2 d3 d4 d5 d6
  go_wp2
  go_ret
  exact ⟨rfl, B4.out⟩

set_option maxHeartbeats 1000000 in
set_option maxRecDepth 100000 in
theorem markEntryS_Y {B : Nat} {v : Value} {rs : List (ByteArray × ByteArray)} {w : World} (h : OwnEy B w v rs) (k0 : Int) (h0 : 0 ≤ k0) (hk : k0 ≤ 4000000) (hn : rs.length ≤ 4000000) :
    Calls Tryz.prog 42 #[v, .int .i64 k0] w fun e w' => e = .returned (.int .i64 (k0 + 2 * rs.length)) ∧ OwnEy B w' v (markPairs k0 rs.length) ∧ w.grownBy w' (zB v) := by
  rcases h with ⟨hz, hx, a, rfl, ha⟩ | ⟨h, g, m, c, rfl⟩
  · have hr : rs = [] := List.length_eq_zero_iff.mp hz
    subst hr
    have hb : zB (.slice a 0 0) = none := by cases a <;> rfl
    rw [hb]
    go_enter Tryz.func42, Tryz.ntmps42
    go_wp2
    go_loop [1, 5] (fun q i => i = .int .i64 0 ∧ q = .int .i64 k0) (fun _ _ => 0)
    case atStart => exact ⟨rfl, rfl⟩
    case round =>
      obtain ⟨rfl, rfl⟩ := hrel
      go_wp2
      go_ret
      exact ⟨ret_int (by simp), .inl ⟨rfl, rfl, a, rfl, ha⟩, World.grownBy.refl _ _⟩
  · refine (markEntryS_any h k0 h0 hk hn).mono ?_
    rintro e w' ⟨rfl, o, gr⟩
    refine ⟨rfl, .inr ⟨?_, g, m, c, rfl⟩, gr⟩
    rw [markPairs_len]
    exact o

set_option maxHeartbeats 1000000 in
set_option maxRecDepth 100000 in
theorem markArchive_any {B : Nat} {v : Value} {a : PArch} {w : World} (h : OwnAy B w v a) (hf : ArFit a) :
    Calls Tryz.prog 15 #[v, .int .i64 1] w fun e w' => e = .returned (.int .i64 (arEnd a)) ∧ OwnAy B w' v (markA a) ∧ FrT (arB v) w w' := by
  obtain ⟨up, d, ⟨no, ar, en⟩, ls⟩ := a
  obtain ⟨sa, sn, sc, la, ln, lc, ea, en', ec, rfl, h1, h2⟩ := h
  simp only at h1 h2
  obtain ⟨_, _, _, _, _, _, ee, o1, o2⟩ := h1
  cases ee
  have O1 := (show Hid (OwnY B 9 1 w (.slice sa sn sc) d.safe.length (strCells d.safe)) from o1)
  have O2 := (show Hid (OwnY B 88 2 w (.slice la ln lc) d.late.length (putCells d.late)) from o2)
  have O3 := (show Hid (OwnEy B w (.slice ea en' ec) ls) from h2)
  have HF := (show Hid (DiskFit d) from hf.d)
  have hn : ls.length ≤ 1048576 := hf.el
  have f1 := hf.d.sl
  have f2 := hf.d.ll
  simp only at f1 f2
  unfold arEnd markA
  simp only
  clear o1 o2 h2 hf
  obtain ⟨v, hv⟩ : ∃ x, x = Value.agg #[.bool up, .slice sa sn sc, .slice la ln lc, .int .i64 no, .int .i64 ar, .int .i64 en, .slice ea en' ec] := ⟨_, rfl⟩
  have t1 : Hid (∀ j, zB (.slice sa sn sc) = some j → arB v j) := fun j hj => ⟨_, _, _, _, _, _, _, hv, .inl hj⟩
  have t2 : Hid (∀ j, zB (.slice la ln lc) = some j → arB v j) := fun j hj => ⟨_, _, _, _, _, _, _, hv, .inr (.inl hj)⟩
  have t3 : Hid (∀ j, zB (.slice ea en' ec) = some j → arB v j) := fun j hj => ⟨_, _, _, _, _, _, _, hv, .inr (.inr hj)⟩
  have HV := (show Hid (v = Value.agg #[.bool up, .slice sa sn sc, .slice la ln lc, .int .i64 no, .int .i64 ar, .int .i64 en, .slice ea en' ec]) from hv)
  rw [← hv]
  have TT : Hid (FrT (arB v) w w) := ⟨rfl, rfl, rfl, Nat.le_refl _, fun _ _ _ => rfl⟩
  obtain ⟨T, hT⟩ : ∃ T, T = arB v := ⟨_, rfl⟩
  rw [← hT] at t1 t2 t3 TT ⊢
  rw [hv]
  clear hv hT
  have hl := (Hl.refl w).new #[.bool up, .slice sa sn sc, .slice la ln lc, .int .i64 no, .int .i64 ar, .int .i64 en, .slice ea en' ec] 39
  obtain ⟨w1, hw1⟩ : ∃ x, x = w.alloc (.cells #[.bool up, .slice sa sn sc, .slice la ln lc, .int .i64 no, .int .i64 ar, .int .i64 en, .slice ea en' ec] 39) := ⟨_, rfl⟩
  rw [← hw1] at hl
  have HL := (show Hid _ from hl)
  clear hl
  go_enter Tryz.func15, Tryz.ntmps15
  go_wp2_with fail
  go_at_call 41
  rw [← hw1]
  refine (markDisk_Y (O1.out.below HL.out.1) (O2.out.below HL.out.1) HF.out).mono ?_
  rintro x w2 ⟨rfl, m1, m2, fr⟩
  clear hw1
  have fr2 : FrT T w1 w2 := .of_two fr t1.out t2.out
  have hne : ∀ j, (zB (.slice sa sn sc) = some j ∨ zB (.slice la ln lc) = some j) → j ≠ w.heap.size := fun j hj e => by
    rcases hj with hj | hj
    · have := (O1.out.lt j hj).2; omega
    · have := (O2.out.lt j hj).2; omega
  have y1 := (fr.block _ (lt_of_block HL.out.at0) (fun e => hne _ (.inl e.symm) rfl) (fun e => hne _ (.inr e.symm) rfl)).trans HL.out.at0
  obtain ⟨c0, c1, c2, c3, c4, c5, c6, _⟩ := rk_seven y1
  have o3 : OwnEy B w2 (.slice ea en' ec) ls := (FrT.of_two (T := fun j => zB (.slice sa sn sc) = some j ∨ zB (.slice la ln lc) = some j) fr (fun j e => .inl e) (fun j e => .inr e)).rowY (O3.out.below HL.out.1) (fun j hj ht => by
    obtain ⟨c, f, k⟩ := (O3.out.below HL.out.1).kind hj
    rcases ht with ht | ht
    · obtain ⟨c', f', k'⟩ := (O1.out.below HL.out.1).kind ht
      rw [k] at k'; cases k'
    · obtain ⟨c', f', k'⟩ := (O2.out.below HL.out.1).kind ht
      rw [k] at k'; cases k')
  have P3 := (show Hid (OwnEy B w2 (.slice ea en' ec) ls) from o3)
  have M1 := (show Hid (OwnY B 9 1 w2 (.slice sa sn sc) d.safe.length (strCells (markStrs 1 d.safe.length))) from m1)
  have M2 := (show Hid (OwnY B 88 2 w2 (.slice la ln lc) d.late.length (putCells (markPuts (1 + d.safe.length) d.late.length))) from m2)
  have F2 := (show Hid (FrT T w w2) from (FrT.of_below HL.out.1).trans fr2)
  clear o3 m1 m2 fr fr2 y1 HL O1 O2 O3 hne
  go_wp2_with fail
  go_at_call 42
  refine (markEntryS_Y P3.out (1 + d.safe.length + 2 * d.late.length) (by omega) (by omega) (by omega)).mono ?_
  rintro x w3 ⟨rfl, o4, g4⟩
  have q1 : OwnY B 9 1 w3 (.slice sa sn sc) d.safe.length (strCells (markStrs 1 d.safe.length)) := OwnY.other P3.out g4 M1.out (by decide)
  have q2 : OwnY B 88 2 w3 (.slice la ln lc) d.late.length (putCells (markPuts (1 + d.safe.length) d.late.length)) := OwnY.other P3.out g4 M2.out (by decide)
  have Q1 := (show Hid _ from q1)
  have Q2 := (show Hid _ from q2)
  have Q3 := (show Hid _ from o4)
  have F3 := (show Hid (FrT T w w3) from F2.out.trans (.of_grown g4 t3.out))
  clear q1 q2 o4 g4 c0 c1 c2 c3 c4 c5 c6
  go_wp2
  go_ret
  refine ⟨rfl, ⟨_, _, _, _, _, _, _, _, _, rfl, ⟨_, _, _, _, _, _, rfl, ?_, ?_⟩, Q3.out⟩, F3.out⟩
  · show OwnY _ _ _ _ _ (markStrs 1 d.safe.length).length _
    rw [markStrs_len]; exact Q1.out
  · show OwnY _ _ _ _ _ (markPuts (1 + d.safe.length) d.late.length).length _
    rw [markPuts_len]; exact Q2.out

set_option maxHeartbeats 1000000 in
set_option maxRecDepth 100000 in
theorem heldArchive_any {v : Value} {a : PArch} {w : World} (h : ArAt w v (markA a)) (hf : ArFit a) :
    Calls Tryz.prog 20 #[v, .int .i64 1] w fun e w' => e = .returned (.int .i64 (arEnd a)) ∧ Below w.heap.size w w' := by
  obtain ⟨up, d, ⟨no, ar, en⟩, ls⟩ := a
  obtain ⟨sa, sn, sc, la, ln, lc, ea, en', ec, rfl, h1, h2⟩ := h
  simp only [markA] at h1 h2 ⊢
  obtain ⟨_, _, _, _, _, _, ee, o1, o2⟩ := h1
  cases ee
  have H1 := (show Hid (Sv 1 w (.slice sa sn sc) (strCells (markStrs 1 d.safe.length))) from o1)
  have H2 := (show Hid (Sv 2 w (.slice la ln lc) (putCells (markPuts (1 + d.safe.length) d.late.length))) from o2)
  have H3 := (show Hid (Sv 2 w (.slice ea en' ec) (pairCells (markPairs (1 + d.safe.length + 2 * d.late.length) ls.length))) from h2)
  have hn : ls.length ≤ 1048576 := hf.el
  have f1 := hf.d.sl
  have f2 := hf.d.ll
  simp only at f1 f2
  unfold arEnd
  simp only
  clear o1 o2 h2 hf
  have hl := (Hl.refl w).new #[.bool up, .slice sa sn sc, .slice la ln lc, .int .i64 no, .int .i64 ar, .int .i64 en, .slice ea en' ec] 39
  obtain ⟨w1, hw1⟩ : ∃ x, x = w.alloc (.cells #[.bool up, .slice sa sn sc, .slice la ln lc, .int .i64 no, .int .i64 ar, .int .i64 en, .slice ea en' ec] 39) := ⟨_, rfl⟩
  rw [← hw1] at hl
  have HL := (show Hid _ from hl)
  clear hl
  go_enter Tryz.func20, Tryz.ntmps20
  go_wp2_with fail
  go_at_call 48
  rw [← hw1]
  refine (heldDisk_any (H1.out.below HL.out.1) (H2.out.below HL.out.1) f1 f2).mono ?_
  rintro x w2 ⟨rfl, b2⟩
  clear hw1
  have hl := HL.out.below b2
  clear HL
  have HL := (show Hid _ from hl)
  clear hl b2
  obtain ⟨c0, c1, c2, c3, c4, c5, c6, _⟩ := rk_seven HL.out.at0
  have hk0 : ¬ (1 + (d.safe.length : Int) + 2 * d.late.length < 0) := by omega
  go_wp2_with fail
  go_at_call 49
  refine (heldEntryS_any (1 + d.safe.length + 2 * d.late.length) (H3.out.below HL.out.1) (by omega) (by omega) (by omega)).mono ?_
  rintro x w3 ⟨rfl, b3⟩
  have hl := HL.out.below b3
  have B3 := (show Hid _ from hl.1)
  have hk1 : ¬ (1 + (d.safe.length : Int) + 2 * d.late.length + 2 * ls.length < 0) := by omega
  clear hl b3 c0 c1 c2 c3 c4 c5 c6
  go_wp2
  go_ret
  exact ⟨rfl, B3.out⟩
end Go.Proofs.YtokkigfjabbdaaaGreatDoor
