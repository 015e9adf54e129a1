/- Contracts of the laws' copies and measures of a list of attributes. -/
import Derived.Test.YtmpgbonolmmcpaaV11
import Derived.OwnWalk
import Derived.Test.YtmpgbonolmmcpaaV19
import Derived.Test.YtmpgbonolmmcpaaV18
import Derived.Test.YtmpgbonolmmcpaaV14
namespace Go.Proofs.Ytmpgbonolmmcpaa
open Go.RowKit
set_option maxRecDepth 100000
set_option linter.unusedVariables false

theorem pair_take_set {cs : List Value} {rs : List (ByteArray × ByteArray)} {k : Nat} (hk : k < rs.length) (hl : cs.length = rs.length * 2) (h : cs.take (k * 2) = pairCells (rs.take k)) :
    ((cs.set (k * 2) (.string rs[k].1)).set (k * 2 + 1) (.string rs[k].2)).take ((k + 1) * 2) = pairCells (rs.take (k + 1)) := by
  have e1 : pairCells (rs.take (k + 1)) = pairCells (rs.take k) ++ [.string rs[k].1, .string rs[k].2] := by
    rw [List.take_succ_eq_append_getElem hk]
    unfold pairCells
    rw [List.flatMap_append]
    rfl
  rw [e1, ← h]
  apply List.ext_getElem?
  intro i
  have e2 : (k + 1) * 2 = k * 2 + 2 := by omega
  by_cases hi : i < k * 2
  · rw [List.getElem?_take_of_lt (by omega), List.getElem?_set_ne (by omega), List.getElem?_set_ne (by omega), List.getElem?_append_left (by simp; omega), List.getElem?_take_of_lt hi]
  · have hlt : (cs.take (k * 2)).length = k * 2 := by simp; omega
    rw [List.getElem?_append_right (by omega), hlt]
    by_cases h0 : i = k * 2
    · subst h0
      rw [List.getElem?_take_of_lt (by omega), List.getElem?_set_ne (by omega), List.getElem?_set_self (by omega)]
      simp
    · by_cases h1 : i = k * 2 + 1
      · subst h1
        rw [List.getElem?_take_of_lt (by omega), List.getElem?_set_self (by rw [List.length_set]; omega)]
        simp
      · rw [List.getElem?_eq_none (by simp; omega), List.getElem?_eq_none (by simp; omega)]

end Go.Proofs.Ytmpgbonolmmcpaa

/- The laws' helpers on rows of records: held against each other, measured, copied. No condition. -/
namespace Go.Proofs.Ytmpgbonolmmcpaa
open Go.RowKit
set_option maxRecDepth 100000
set_option linter.unusedVariables false

set_option maxHeartbeats 2000000 in
set_option maxRecDepth 100000 in
theorem eqRecordS_same {va vb : Value} {rs : List PRec} {w : World} (ha : Sv 3 w va (recCells rs)) (hb : Sv 3 w vb (recCells rs)) (hn : rs.length ≤ 1099511627776) :
    Calls Try.prog 36 #[va, vb] w fun e w' => e = .returned (.bool true) ∧ Below w.heap.size w w' := by
  obtain ⟨a, ca, rfl, _, _, hca⟩ := ha.recs
  obtain ⟨b, cb, rfl, _, _, hcb⟩ := hb.recs
  clear ha hb
  have hn2 : ((rs.length : Int) != (rs.length : Int)) = false := by simp
  go_enter Try.func36, Try.ntmps36
  go_wp2
  go_loopw [5] (fun i wr => ∃ k : Nat, k ≤ rs.length ∧ i = .int .i64 k ∧ Below w.heap.size w wr) (fun i _ => rs.length - (intOf i).toNat)
  case atStart => exact ⟨0, Nat.zero_le _, rfl, Below.refl _ _⟩
  case round =>
    obtain ⟨k, hk, rfl, bel⟩ := hrel
    by_cases hlt : k < rs.length
    · obtain ⟨b1, o1, rfl, l1, c1, c2, c5⟩ := hca k hlt
      obtain ⟨b2, o2, rfl, l2, c3, c4, c6⟩ := hcb k hlt
      have d1 : ∀ n : Wd w.heap.size w, n.w.cell? ⟨b1, o1 + k * 3, none⟩ = some (.int .i64 rs[k].kind) := fun n => (n.below.cell (p := ⟨b1, o1 + k * 3, none⟩) l1).trans c1
      have d2 : ∀ n : Wd w.heap.size w, n.w.cell? ⟨b1, o1 + k * 3 + 1, none⟩ = some (.string rs[k].url) := fun n => (n.below.cell (p := ⟨b1, o1 + k * 3 + 1, none⟩) l1).trans c2
      have d5 : ∀ n : Wd w.heap.size w, n.w.cell? ⟨b1, o1 + k * 3 + 2, none⟩ = some (.string rs[k].body) := fun n => (n.below.cell (p := ⟨b1, o1 + k * 3 + 2, none⟩) l1).trans c5
      have d3 : ∀ n : Wd w.heap.size w, n.w.cell? ⟨b2, o2 + k * 3, none⟩ = some (.int .i64 rs[k].kind) := fun n => (n.below.cell (p := ⟨b2, o2 + k * 3, none⟩) l2).trans c3
      have d4 : ∀ n : Wd w.heap.size w, n.w.cell? ⟨b2, o2 + k * 3 + 1, none⟩ = some (.string rs[k].url) := fun n => (n.below.cell (p := ⟨b2, o2 + k * 3 + 1, none⟩) l2).trans c4
      have d6 : ∀ n : Wd w.heap.size w, n.w.cell? ⟨b2, o2 + k * 3 + 2, none⟩ = some (.string rs[k].body) := fun n => (n.below.cell (p := ⟨b2, o2 + k * 3 + 2, none⟩) l2).trans c6
      obtain ⟨x, hx⟩ : ∃ x, x = rs[k] := ⟨_, rfl⟩
      rw [← hx] at d1 d2 d5 d3 d4 d6
      clear hx c1 c2 c3 c4 c5 c6
      have CC := (show Hid (∀ w : World, Calls Try.prog 35 #[.agg #[.int .i64 x.kind, .string x.url, .string x.body], .agg #[.int .i64 x.kind, .string x.url, .string x.body]] w fun e w' => e = .returned (.bool true) ∧ Below w.heap.size w w') from fun w => eqRecord_same x w)
      have ne := Wd.any w.heap.size w
      go_wp2
      refine wp_region_below (by kernel_rfl) (by kernel_rfl) bel ?_
      repeat (go_big_quiet_step ((go_at_call 35; exact quiet_below (CC.out _) (Nat.le_refl _))))
      refine wpQuiet_nil ?_
      intro wq hq
      replace hq := Wd.of hq
      clear d1 d2 d3 d4 d5 d6
      go_wp2
      go_roundw
      case rel => exact ⟨k + 1, by omega, by go_num, hq⟩
      case measure => simp [intOf]; omega
    · have hke : k = rs.length := by omega
      go_wp2
      go_ret
      exact ⟨rfl, bel⟩

set_option maxHeartbeats 1000000 in
set_option maxRecDepth 100000 in
theorem szRecordS_any {v : Value} {rs : List PRec} {w : World} (h : Sv 3 w v (recCells rs)) (hs : ∀ p ∈ rs, p.url.size ≤ maxLen ∧ p.body.size ≤ maxLen) (l : Int) (h0 : 0 ≤ l) (h1 : l ≤ 1099511627776) :
    Calls Try.prog 39 #[v, .int .i64 l] w fun e w' => ∃ r : Int, e = .returned (.int .i64 r) ∧ (r < 0 ∨ (0 ≤ r ∧ r ≤ l ∧ (rs.length : Int) ≤ l ∧ ∀ p ∈ rs, (p.url.size : Int) + p.body.size ≤ l)) ∧ Below w.heap.size w w' := by
  obtain ⟨a, ca, rfl, hc1, hc2, hca⟩ := h.recs
  have HS := (show Hid (∀ p ∈ rs, p.url.size ≤ maxLen ∧ p.body.size ≤ maxLen) from hs)
  clear hs h
  unfold maxLen at hc2
  by_cases hl : l - rs.length < 0
  · go_enter Try.func39, Try.ntmps39
    go_wp2
    go_ret
    exact ⟨_, rfl, .inl (by decide), Below.refl _ _⟩
  · have hl2 : 0 ≤ l - rs.length := by omega
    go_enter Try.func39, Try.ntmps39
    go_wp2
    go_loopw [1, 5] (fun q i wr => ∃ (k : Nat) (r : Int), k ≤ rs.length ∧ i = .int .i64 k ∧ q = .int .i64 r ∧ 0 ≤ r ∧ r ≤ l ∧ (∀ p ∈ rs.take k, (p.url.size : Int) + p.body.size ≤ l) ∧ Below w.heap.size w wr) (fun _ i _ => rs.length - (intOf i).toNat)
    case atStart => exact ⟨0, _, Nat.zero_le _, rfl, rfl, hl2, by omega, fun p hp => by simp at hp, Below.refl _ _⟩
    case round =>
      obtain ⟨k, r, hk, rfl, rfl, hr0, hr1, hall, bel⟩ := hrel
      have HA := (show Hid (∀ p ∈ rs.take k, (p.url.size : Int) + p.body.size ≤ l) from hall)
      clear hall
      by_cases hlt : k < rs.length
      · obtain ⟨b1, o1, rfl, l1, c1, c2, c3⟩ := hca k hlt
        have d1 : wr.cell? ⟨b1, o1 + k * 3, none⟩ = some (.int .i64 rs[k].kind) := (bel.cell (p := ⟨b1, o1 + k * 3, none⟩) l1).trans c1
        have d2 : wr.cell? ⟨b1, o1 + k * 3 + 1, none⟩ = some (.string rs[k].url) := (bel.cell (p := ⟨b1, o1 + k * 3 + 1, none⟩) l1).trans c2
        have d3 : wr.cell? ⟨b1, o1 + k * 3 + 2, none⟩ = some (.string rs[k].body) := (bel.cell (p := ⟨b1, o1 + k * 3 + 2, none⟩) l1).trans c3
        have hsz := HS.out rs[k] (List.getElem_mem hlt)
        have HT : Hid ((rs[k].url.size : Int) + rs[k].body.size ≤ l → ∀ p ∈ rs.take (k + 1), (p.url.size : Int) + p.body.size ≤ l) := fun hp p hp' => by
          rw [List.take_succ_eq_append_getElem hlt] at hp'
          rcases List.mem_append.mp hp' with h | h
          · exact HA.out p h
          · rw [List.mem_singleton.mp h]; exact hp
        obtain ⟨x, hx⟩ : ∃ x, x = rs[k] := ⟨_, rfl⟩
        rw [← hx] at d1 d2 d3 hsz HT
        clear hx c1 c2 c3
        have CC := (show Hid (∀ w : World, Calls Try.prog 28 #[.agg #[.int .i64 x.kind, .string x.url, .string x.body], .int .i64 r] w fun e w' => ∃ q : Int, e = .returned (.int .i64 q) ∧ (q < 0 ∨ (0 ≤ q ∧ q = r - x.url.size - x.body.size)) ∧ Below w.heap.size w w') from fun w => szRecord_any x r w hr0 (by omega) hsz.1 hsz.2)
        clear hsz
        go_wp2_with fail
        go_at_call 28
        refine (CC.out _).mono ?_
        rintro e w2 ⟨q, rfl, hq, b2⟩
        replace b2 := bel.trans (b2.mono bel.size)
        clear d1 d2 d3
        rcases hq with hq | ⟨hq0, hq1⟩
        · go_wp2
          go_ret
          exact ⟨_, rfl, .inl (by decide), b2⟩
        · go_wp2
          go_roundw
          case rel => exact ⟨k + 1, _, by omega, by go_num, rfl, by omega, by omega, HT.out (by omega), b2⟩
          case measure => simp [intOf]; omega
      · have hke : k = rs.length := by omega
        have hall : ∀ p ∈ rs, (p.url.size : Int) + p.body.size ≤ l := by have := HA.out; rw [hke, List.take_length] at this; exact this
        have HL := (show Hid _ from hall)
        clear hall
        go_wp2
        go_ret
        exact ⟨_, rfl, .inr ⟨hr0, hr1, by omega, HL.out⟩, bel⟩
end Go.Proofs.Ytmpgbonolmmcpaa

/- Contracts of the laws' marks of a list of attributes. -/
namespace Go.Proofs.Ytmpgbonolmmcpaa
open Go.RowKit
set_option maxRecDepth 100000
set_option linter.unusedVariables false

/-- The marks that are laid over a list of pairs, from k on. -/
def markPairs (k : Int) (n : Nat) : List (ByteArray × ByteArray) := (List.range n).map fun i : Nat => (mt (k + 2 * (i : Int)), mt (k + 2 * (i : Int) + 1))
theorem markPairs_len (k : Int) (n : Nat) : (markPairs k n).length = n := by simp [markPairs]
theorem markPairs_at (k : Int) (n i : Nat) (h : i < (markPairs k n).length) : (markPairs k n)[i] = (mt (k + 2 * (i : Int)), mt (k + 2 * (i : Int) + 1)) := by simp [markPairs]
theorem markPairs_succ (k : Int) (rs : List (ByteArray × ByteArray)) (i : Nat) (h : i < rs.length) :
    (markPairs k i ++ rs.drop i).set i (mt (k + 2 * (i : Int)), mt (k + 2 * (i : Int) + 1)) = markPairs k (i + 1) ++ rs.drop (i + 1) := by
  rw [List.set_append_right _ _ (by rw [markPairs_len]; exact Nat.le_refl _), markPairs_len, Nat.sub_self, List.drop_eq_getElem_cons h, List.set_cons_zero]
  simp [markPairs, List.range_succ]

theorem pairCells_set (ls : List (ByteArray × ByteArray)) (j : Nat) (a p : ByteArray) (h : j < ls.length) : ((pairCells ls).set (j * 2) (.string a)).set (j * 2 + 1) (.string p) = pairCells (ls.set j (a, p)) := by
  induction ls generalizing j with
  | nil => simp at h
  | cons r rs ih =>
    cases j with
    | zero => simp [pairCells]
    | succ j =>
      have e := ih j (by simpa using h)
      have e1 : (j + 1) * 2 = j * 2 + 1 + 1 := by omega
      have e2 : (j + 1) * 2 + 1 = j * 2 + 1 + 1 + 1 := by omega
      simp only [pairCells, List.flatMap_cons, List.cons_append, List.nil_append, e1, List.set_cons_succ] at e ⊢
      rw [e]

end Go.Proofs.Ytmpgbonolmmcpaa

/- The laws' copies and marks of a row of records. No condition. -/
namespace Go.Proofs.Ytmpgbonolmmcpaa
open Go.RowKit
set_option maxRecDepth 100000
set_option linter.unusedVariables false

theorem rec_take_set {cs : List Value} {rs : List PRec} {k : Nat} (hk : k < rs.length) (hl : cs.length = rs.length * 3) (h : cs.take (k * 3) = recCells (rs.take k)) :
    (((cs.set (k * 3) (.int .i64 rs[k].kind)).set (k * 3 + 1) (.string rs[k].url)).set (k * 3 + 2) (.string rs[k].body)).take ((k + 1) * 3) = recCells (rs.take (k + 1)) := by
  have e1 : recCells (rs.take (k + 1)) = recCells (rs.take k) ++ [.int .i64 rs[k].kind, .string rs[k].url, .string rs[k].body] := by
    rw [List.take_succ_eq_append_getElem hk, recCells_app]
    rfl
  rw [e1, ← h]
  apply List.ext_getElem?
  intro i
  have e2 : (k + 1) * 3 = k * 3 + 3 := by omega
  by_cases hi : i < k * 3
  · rw [List.getElem?_take_of_lt (by omega), List.getElem?_set_ne (by omega), List.getElem?_set_ne (by omega), List.getElem?_set_ne (by omega), List.getElem?_append_left (by simp; omega), List.getElem?_take_of_lt hi]
  · have hlt : (cs.take (k * 3)).length = k * 3 := by simp; omega
    rw [List.getElem?_append_right (by omega), hlt]
    by_cases h0 : i = k * 3
    · subst h0
      rw [List.getElem?_take_of_lt (by omega), List.getElem?_set_ne (by omega), List.getElem?_set_ne (by omega), List.getElem?_set_self (by omega)]
      simp
    · by_cases h1 : i = k * 3 + 1
      · subst h1
        rw [List.getElem?_take_of_lt (by omega), List.getElem?_set_ne (by omega), List.getElem?_set_self (by rw [List.length_set]; omega)]
        simp
      · by_cases h2 : i = k * 3 + 2
        · subst h2
          rw [List.getElem?_take_of_lt (by omega), List.getElem?_set_self (by rw [List.length_set, List.length_set]; omega)]
          simp
        · rw [List.getElem?_eq_none (by simp; omega), List.getElem?_eq_none (by simp; omega)]

set_option maxHeartbeats 2000000 in
set_option maxRecDepth 100000 in
theorem toRecordS_any {v : Value} {rs : List PRec} {w : World} (h : Sv 3 w v (recCells rs)) (hn : rs.length ≤ 1048576) :
    Calls Try.prog 40 #[v] w fun e w' => ∃ v', e = .returned v' ∧ OwnRs w.heap.size w' v' rs ∧ Below w.heap.size w w' := by
  obtain ⟨a, ca, rfl, _, _, hca⟩ := h.recs
  clear h
  obtain ⟨i0, hi, hz0, hz1, hz2⟩ := info_parts Try.infoRec
  go_enter Try.func40, Try.ntmps40
  go_wp2_with (at_make; refine wpList_make_full _ rfl (.tmp 6) (.tmp 6) 32 rfl w.heap.size 25 i0 _ 3 Try.underlying32 hi hz0 hz1 .i64 .i64 _ _ rs.length rfl rfl rfl rfl (by rw [hz2]; omega) (by unfold maxLen; omega) (Nat.le_refl _) ?_; intro w1 o1 g1)
  have b1 : Below w.heap.size w w1 := (Below.refl _ _).grown g1 (Nat.le_refl _) (fun k hk => by cases hk)
  go_loopw [4] (fun i wr => ∃ (k : Nat) (cs : List Value), k ≤ rs.length ∧ i = .int .i64 k ∧ wr.ownsRow w.heap.size 25 3 (.slice (some ⟨w.heap.size, 0, none⟩) rs.length rs.length) rs.length cs ∧ cs.take (k * 3) = recCells (rs.take k) ∧ Below w.heap.size w wr) (fun i _ => rs.length - (intOf i).toNat)
  case atStart => exact ⟨0, _, Nat.zero_le _, rfl, o1, by simp [recCells], b1⟩
  case round =>
    clear o1 g1 b1
    obtain ⟨k, cs, hk, rfl, own, htk, bel⟩ := hrel
    have hcl : cs.length = rs.length * 3 := own.1
    by_cases hlt : k < rs.length
    · obtain ⟨b1, o1, rfl, l1, c1, c2, c3⟩ := hca k hlt
      have d1 : wr.cell? ⟨b1, o1 + k * 3, none⟩ = some (.int .i64 rs[k].kind) := (bel.cell (p := ⟨b1, o1 + k * 3, none⟩) l1).trans c1
      have d2 : wr.cell? ⟨b1, o1 + k * 3 + 1, none⟩ = some (.string rs[k].url) := (bel.cell (p := ⟨b1, o1 + k * 3 + 1, none⟩) l1).trans c2
      have d3 : wr.cell? ⟨b1, o1 + k * 3 + 2, none⟩ = some (.string rs[k].body) := (bel.cell (p := ⟨b1, o1 + k * 3 + 2, none⟩) l1).trans c3
      have HTS := (show Hid _ from rec_take_set hlt hcl htk)
      obtain ⟨x, hx⟩ : ∃ x, x = rs[k] := ⟨_, rfl⟩
      rw [← hx] at d1 d2 d3 HTS
      have OW := (show Hid (wr.ownsRow w.heap.size 25 3 (.slice (some ⟨w.heap.size, 0, none⟩) rs.length rs.length) rs.length cs) from own)
      have CC := (show Hid (∀ w : World, Calls Try.prog 29 #[.agg #[.int .i64 x.kind, .string x.url, .string x.body]] w fun e w' => e = .returned (.agg #[.int .i64 x.kind, .string x.url, .string x.body]) ∧ Below w.heap.size w w') from fun w => toRecord_any x w)
      clear hx c1 c2 c3 htk own
      go_wp2_with fail
      go_at_call 29
      refine (CC.out _).mono ?_
      rintro e w2 ⟨rfl, b2⟩
      have o2 : w2.ownsRow w.heap.size 25 3 (.slice (some ⟨w.heap.size, 0, none⟩) rs.length rs.length) rs.length cs := by
        obtain ⟨a1, a2 | ⟨g', c', cu', e1, e2, e3, e4⟩⟩ := OW.out
        · cases a2.1
        · cases e1
          exact ⟨a1, .inr ⟨_, _, cu', rfl, e2, by rw [b2.block _ (lt_of_block e3)]; exact e3, e4⟩⟩
      replace b2 := bel.trans (b2.mono bel.size)
      obtain ⟨z1, hc1⟩ : ∃ z, w2.cell? ⟨w.heap.size, k * 3, none⟩ = some z := by
        rw [o2.cellAt (k * 3) (by omega)]; exact ⟨_, List.getElem?_eq_getElem (by omega)⟩
      have f1 := o2.frozenAt (k * 3)
      obtain ⟨z2, hc2⟩ : ∃ z, w2.cell? ⟨w.heap.size, k * 3 + 1, none⟩ = some z := by
        rw [o2.cellAt (k * 3 + 1) (by omega)]; exact ⟨_, List.getElem?_eq_getElem (by omega)⟩
      have f2 := o2.frozenAt (k * 3 + 1)
      obtain ⟨z3, hc3⟩ : ∃ z, w2.cell? ⟨w.heap.size, k * 3 + 2, none⟩ = some z := by
        rw [o2.cellAt (k * 3 + 2) (by omega)]; exact ⟨_, List.getElem?_eq_getElem (by omega)⟩
      have f3 := o2.frozenAt (k * 3 + 2)
      have s1 := o2.stored (k * 3) (.int .i64 x.kind)
      have s2 := s1.1.stored (k * 3 + 1) (.string x.url)
      have s3 := s2.1.stored (k * 3 + 2) (.string x.body)
      have S3 := (show Hid _ from s3)
      clear s1 s2 s3 o2 d1 d2 d3
      go_wp2
      go_roundw
      case rel => exact ⟨k + 1, _, by omega, by go_num, S3.out.1, HTS.out, ((b2.setCell (Nat.le_refl _) _).setCell (Nat.le_refl _) _).setCell (Nat.le_refl _) _⟩
      case measure => simp [intOf]; omega
    · have hke : k = rs.length := by omega
      have hcs : cs = recCells rs := by rw [hke, List.take_length, ← hcl, List.take_length] at htk; exact htk
      subst hcs
      go_wp2
      go_ret
      exact ⟨_, rfl, own, bel⟩

/-- The marks that are laid over a row of records, from k on. -/
def markRecs (k : Int) (n : Nat) : List PRec := (List.range n).map fun i : Nat => ⟨k + 3 * (i : Int), mt (k + 3 * (i : Int) + 1), mt (k + 3 * (i : Int) + 1 + 1)⟩
theorem markRecs_len (k : Int) (n : Nat) : (markRecs k n).length = n := by simp [markRecs]
theorem markRecs_at (k : Int) (n i : Nat) (h : i < (markRecs k n).length) : (markRecs k n)[i] = ⟨k + 3 * (i : Int), mt (k + 3 * (i : Int) + 1), mt (k + 3 * (i : Int) + 1 + 1)⟩ := by simp [markRecs]
theorem markRecs_succ (k : Int) (rs : List PRec) (i : Nat) (h : i < rs.length) :
    (markRecs k i ++ rs.drop i).set i ⟨k + 3 * (i : Int), mt (k + 3 * (i : Int) + 1), mt (k + 3 * (i : Int) + 1 + 1)⟩ = markRecs k (i + 1) ++ rs.drop (i + 1) := by
  rw [List.set_append_right _ _ (by rw [markRecs_len]; exact Nat.le_refl _), markRecs_len, Nat.sub_self, List.drop_eq_getElem_cons h, List.set_cons_zero]
  simp [markRecs, List.range_succ]
theorem recCells_set (ls : List PRec) (j : Nat) (a : Int) (p q : ByteArray) (h : j < ls.length) : (((recCells ls).set (j * 3) (.int .i64 a)).set (j * 3 + 1) (.string p)).set (j * 3 + 2) (.string q) = recCells (ls.set j ⟨a, p, q⟩) := by
  induction ls generalizing j with
  | nil => simp at h
  | cons r rs ih =>
    cases j with
    | zero => simp [recCells]
    | succ j =>
      have e := ih j (by simpa using h)
      have e1 : (j + 1) * 3 = j * 3 + 1 + 1 + 1 := by omega
      simp only [recCells, List.flatMap_cons, List.cons_append, List.nil_append, e1, List.set_cons_succ] at e ⊢
      rw [e]

set_option maxHeartbeats 2000000 in
set_option maxRecDepth 100000 in
theorem markRecordS_any {B : Nat} {v : Value} {rs : List PRec} {w : World} (h : OwnRs B w v rs) (k0 : Int) (h0 : 0 ≤ k0) (hk : k0 ≤ 4000000) (hn : rs.length ≤ 4000000) :
    Calls Try.prog 37 #[v, .int .i64 k0] w fun e w' => e = .returned (.int .i64 (k0 + 3 * rs.length)) ∧ w'.ownsRow B 25 3 v rs.length (recCells (markRecs k0 rs.length)) ∧ w.grownBy w' v.ownBlock := by
  have h' := h
  obtain ⟨hl, ⟨hv, hz⟩ | ⟨g, cap, cur, hv, hB, hh, hn', hm, hz, ht⟩⟩ := h'
  · subst hv
    have hr : rs = [] := List.length_eq_zero_iff.mp hz
    subst hr
    go_enter Try.func37, Try.ntmps37
    go_wp2
    go_loop [1, 5] (fun q i => i = .int .i64 0 ∧ q = .int .i64 k0) (fun _ _ => 0)
    case atStart => exact ⟨rfl, rfl⟩
    case round =>
      obtain ⟨rfl, rfl⟩ := hrel
      go_wp2
      go_ret
      exact ⟨ret_int (by simp), h, World.grownBy.refl _ _⟩
  · subst hv
    clear hh ht hz hl
    go_enter Try.func37, Try.ntmps37
    go_wp2
    go_loopw [1, 5] (fun q i wr => ∃ k : Nat, k ≤ rs.length ∧ i = .int .i64 k ∧ q = .int .i64 (k0 + 3 * k) ∧ wr.ownsRow B 25 3 (.slice (some ⟨g, 0, none⟩) rs.length cap) rs.length (recCells (markRecs k0 k ++ rs.drop k)) ∧ w.grownBy wr (some g)) (fun _ i _ => rs.length - (intOf i).toNat)
    case atStart => exact ⟨0, Nat.zero_le _, rfl, by go_num, h, World.grownBy.refl _ _⟩
    case round =>
      clear h
      obtain ⟨k, hk', rfl, rfl, hown, hgr⟩ := hrel
      by_cases hlt : k < rs.length
      · have hlen : (markRecs k0 k ++ rs.drop k).length = rs.length := by simp [markRecs_len]; omega
        have hl2 := recCells_len (markRecs k0 k ++ rs.drop k)
        obtain ⟨z0, hc0⟩ : ∃ z, wr.cell? ⟨g, k * 3, none⟩ = some z := by
          rw [hown.cellAt (k * 3) (by omega)]; exact ⟨_, List.getElem?_eq_getElem (by omega)⟩
        have f0 := hown.frozenAt (k * 3)
        have S0 := (show Hid _ from hown.stored (k * 3) (.int .i64 (k0 + 3 * k)))
        have HG := (show Hid _ from hgr)
        clear hown hgr
        go_wp2_with fail
        go_at_call 70
        refine (markText_any _ _ (by omega)).mono ?_
        rintro e w2 ⟨rfl, b2⟩
        have o2 : w2.ownsRow B 25 3 (.slice (some ⟨g, 0, none⟩) rs.length cap) rs.length ((recCells (markRecs k0 k ++ rs.drop k)).set (k * 3) (.int .i64 (k0 + 3 * k))) := by
          obtain ⟨a1, a2 | ⟨g', c', cu', e1, e2, e3, e4⟩⟩ := S0.out.1
          · cases a2.1
          · cases e1
            exact ⟨a1, .inr ⟨g, cap, cu', rfl, e2, by rw [b2.block g (lt_of_block e3)]; exact e3, e4⟩⟩
        obtain ⟨z1, hc1⟩ : ∃ z, w2.cell? ⟨g, k * 3 + 1, none⟩ = some z := by
          rw [o2.cellAt (k * 3 + 1) (by omega)]; exact ⟨_, List.getElem?_eq_getElem (by rw [List.length_set]; omega)⟩
        have f1 := o2.frozenAt (k * 3 + 1)
        have S1 := (show Hid _ from o2.stored (k * 3 + 1) (.string (mt (k0 + 3 * k + 1))))
        clear o2 hc0 f0
        go_wp2_with fail
        go_at_call 70
        refine (markText_any _ _ (by omega)).mono ?_
        rintro e w3 ⟨rfl, b3⟩
        have o3 : w3.ownsRow B 25 3 (.slice (some ⟨g, 0, none⟩) rs.length cap) rs.length (((recCells (markRecs k0 k ++ rs.drop k)).set (k * 3) (.int .i64 (k0 + 3 * k))).set (k * 3 + 1) (.string (mt (k0 + 3 * k + 1)))) := by
          obtain ⟨a1, a2 | ⟨g', c', cu', e1, e2, e3, e4⟩⟩ := S1.out.1
          · cases a2.1
          · cases e1
            exact ⟨a1, .inr ⟨g, cap, cu', rfl, e2, by rw [b3.block g (lt_of_block e3)]; exact e3, e4⟩⟩
        obtain ⟨z2, hc2⟩ : ∃ z, w3.cell? ⟨g, k * 3 + 2, none⟩ = some z := by
          rw [o3.cellAt (k * 3 + 2) (by omega)]; exact ⟨_, List.getElem?_eq_getElem (by rw [List.length_set, List.length_set]; omega)⟩
        have f2 := o3.frozenAt (k * 3 + 2)
        have s2 := o3.stored (k * 3 + 2) (.string (mt (k0 + 3 * k + 1 + 1)))
        rw [recCells_set _ _ _ _ _ (by omega), markRecs_succ k0 rs k hlt] at s2
        have S2 := (show Hid _ from s2)
        clear s2 o3 hc1 f1
        go_wp2
        go_roundw
        case rel => exact ⟨k + 1, by omega, by go_num, by go_num, S2.out.1, grown_trans (grown_below (grown_trans (grown_below (grown_trans HG.out S0.out.2) b2) S1.out.2) b3) S2.out.2⟩
        case measure => simp [intOf]; omega
      · go_wp2
        go_ret
        have hke : k = rs.length := by omega
        rw [hke, List.drop_length, List.append_nil] at hown
        exact ⟨ret_int (by rw [hke]), hown, hgr⟩

set_option maxHeartbeats 2000000 in
set_option maxRecDepth 100000 in
theorem heldRecordS_any {v : Value} {n : Nat} {w : World} (k0 : Int) (h : Sv 3 w v (recCells (markRecs k0 n))) (h0 : 0 ≤ k0) (hk : k0 ≤ 4000000) (hn : n ≤ 4000000) :
    Calls Try.prog 38 #[v, .int .i64 k0] w fun e w' => e = .returned (.int .i64 (k0 + 3 * n)) ∧ Below w.heap.size w w' := by
  obtain ⟨a, ca, rfl, _, _, hca⟩ := h.recs
  have hlen := markRecs_len k0 n
  rw [hlen]
  go_enter Try.func38, Try.ntmps38
  go_wp2
  go_loopw [1, 5] (fun q i wr => ∃ k : Nat, k ≤ n ∧ i = .int .i64 k ∧ q = .int .i64 (k0 + 3 * k) ∧ Below w.heap.size w wr) (fun _ i _ => n - (intOf i).toNat)
  case atStart => exact ⟨0, Nat.zero_le _, rfl, by go_num, Below.refl _ _⟩
  case round =>
    obtain ⟨k, hk', rfl, rfl, bel⟩ := hrel
    by_cases hlt : k < n
    · obtain ⟨b1, o1, rfl, l1, c1, c2, c3⟩ := hca k (by omega)
      rw [markRecs_at] at c1 c2 c3
      simp only at c1 c2 c3
      have g0 : ∀ m : Wd w.heap.size w, m.w.cell? ⟨b1, o1 + k * 3, none⟩ = some (.int .i64 (k0 + 3 * k)) := fun m => (m.below.cell (p := ⟨b1, o1 + k * 3, none⟩) l1).trans c1
      have d0 : wr.cell? ⟨b1, o1 + k * 3, none⟩ = some (.int .i64 (k0 + 3 * k)) := (bel.cell (p := ⟨b1, o1 + k * 3, none⟩) l1).trans c1
      have e0 : ((k0 + 3 * (k : Int)) != (k0 + 3 * (k : Int))) = false := by simp
      have g1 : ∀ m : Wd w.heap.size w, m.w.cell? ⟨b1, o1 + k * 3 + 1, none⟩ = some (.string (mt (k0 + 3 * k + 1))) := fun m => (m.below.cell (p := ⟨b1, o1 + k * 3 + 1, none⟩) l1).trans c2
      have g2 : ∀ m : Wd w.heap.size w, m.w.cell? ⟨b1, o1 + k * 3 + 2, none⟩ = some (.string (mt (k0 + 3 * k + 1 + 1))) := fun m => (m.below.cell (p := ⟨b1, o1 + k * 3 + 2, none⟩) l1).trans c3
      have CC := (show Hid (∀ w, Calls Try.prog 70 #[.int .i64 (k0 + 3 * k + 1)] w fun e w' => e = .returned (.string (mt (k0 + 3 * k + 1))) ∧ Below w.heap.size w w') from fun w => markText_any _ _ (by omega))
      have CD := (show Hid (∀ w, Calls Try.prog 70 #[.int .i64 (k0 + 3 * k + 1 + 1)] w fun e w' => e = .returned (.string (mt (k0 + 3 * k + 1 + 1))) ∧ Below w.heap.size w w') from fun w => markText_any _ _ (by omega))
      have ne := Wd.any w.heap.size w
      clear c1 c2 c3 hca
      go_wp2
      refine wp_region_below (by kernel_rfl) (by kernel_rfl) bel ?_
      repeat (go_big_quiet_step ((go_at_call 70; exact quiet_below (CC.out _) (Nat.le_refl _))))
      refine wpQuiet_nil ?_
      intro wq hq
      replace hq := Wd.of hq
      clear d0
      go_wp2
      refine wp_region_below (by kernel_rfl) (by kernel_rfl) hq ?_
      repeat (go_big_quiet_step ((go_at_call 70; exact quiet_below (CD.out _) (Nat.le_refl _))))
      refine wpQuiet_nil ?_
      intro wq2 hq2
      replace hq2 := Wd.of hq2
      go_wp2
      go_roundw
      case rel => exact ⟨k + 1, by omega, by go_num, by go_num, hq2⟩
      case measure => simp [intOf]; omega
    · have hke : k = n := by omega
      go_wp2
      go_ret
      exact ⟨ret_int (by rw [hke]), bel⟩
end Go.Proofs.Ytmpgbonolmmcpaa

/- Contracts of the specification's AttrsOk and AttrsSame. -/
namespace Go.Proofs.Ytmpgbonolmmcpaa
open Go.RowKit
set_option maxRecDepth 100000
set_option linter.unusedVariables false

theorem attrsTo_iff (rs : List (ByteArray × ByteArray)) : attrsTo rs = true ↔ (∀ i (hi : i < rs.length), attrOk rs[i] = true) ∧ ∀ i j (hi : i < rs.length) (hj : j < rs.length), i < j → rs[i].1 ≠ rs[j].1 := by
  unfold attrsTo
  rw [Bool.and_eq_true, List.all_eq_true, decide_eq_true_eq, List.pairwise_iff_getElem]
  constructor
  · rintro ⟨h1, h2⟩
    exact ⟨fun i hi => h1 _ (List.getElem_mem hi), h2⟩
  · rintro ⟨h1, h2⟩
    refine ⟨fun p hp => ?_, h2⟩
    obtain ⟨i, hi, rfl⟩ := List.getElem_of_mem hp
    exact h1 i hi
theorem attrsTo_succ {rs : List (ByteArray × ByteArray)} {k : Nat} (hk : k < rs.length) (h : attrsTo (rs.take k) = true) (ha : attrOk rs[k] = true) (hd : ∀ j (hj : j < k), (rs[j]'(by omega)).1 ≠ rs[k].1) : attrsTo (rs.take (k + 1)) = true := by
  rw [attrsTo_iff] at h ⊢
  have hl : (rs.take (k + 1)).length = k + 1 := by simp; omega
  have hl0 : (rs.take k).length = k := by simp; omega
  refine ⟨fun i hi => ?_, fun i j hi hj hij => ?_⟩
  · rw [List.getElem_take]
    by_cases hik : i < k
    · have := h.1 i (by omega); rw [List.getElem_take] at this; exact this
    · have e : i = k := by omega
      subst e; exact ha
  · rw [List.getElem_take, List.getElem_take]
    by_cases hjk : j < k
    · have := h.2 i j (by omega) (by omega) hij
      rw [List.getElem_take, List.getElem_take] at this; exact this
    · have e : j = k := by omega
      subst e; exact hd i hij
theorem attrsTo_bad {rs : List (ByteArray × ByteArray)} {k : Nat} (hk : k < rs.length) (h : attrOk rs[k] = false) : attrsTo rs = false := by
  rcases he : attrsTo rs with _ | _
  · rfl
  · rw [((attrsTo_iff rs).mp he).1 k hk] at h; cases h
theorem attrsTo_twice {rs : List (ByteArray × ByteArray)} {j k : Nat} (hj : j < rs.length) (hk : k < rs.length) (hjk : j < k) (h : rs[j].1 = rs[k].1) : attrsTo rs = false := by
  rcases he : attrsTo rs with _ | _
  · rfl
  · exact absurd h (((attrsTo_iff rs).mp he).2 j k hj hk hjk)

end Go.Proofs.Ytmpgbonolmmcpaa

/- Contracts of the specification's AttrsSame and AttrAdd. -/
namespace Go.Proofs.Ytmpgbonolmmcpaa
open Go.RowKit
set_option maxRecDepth 100000
set_option linter.unusedVariables false

theorem pair_oneCell (rs : List (ByteArray × ByteArray)) : ∀ y ∈ pairCells rs, y.oneCell' = true := by
  intro y hy
  unfold pairCells at hy
  obtain ⟨r, _, hr⟩ := List.mem_flatMap.mp hy
  simp at hr
  rcases hr with rfl | rfl <;> rfl
theorem pairCells_app (rs qs : List (ByteArray × ByteArray)) : pairCells rs ++ pairCells qs = pairCells (rs ++ qs) := by unfold pairCells; rw [List.flatMap_append]

theorem attrsSame_len {a b : List (ByteArray × ByteArray)} (h : a.length ≠ b.length) : attrsSame a b = false := by unfold attrsSame; rw [decide_eq_false h]; rfl
theorem attrsSame_no {a b : List (ByteArray × ByteArray)} {k : Nat} (hk : k < a.length) (h : attrOf b a[k].1 ≠ (a[k].2, true)) : attrsSame a b = false := by
  unfold attrsSame
  rw [Bool.and_eq_false_iff]
  right
  rw [List.all_eq_false]
  exact ⟨a[k], List.getElem_mem hk, by simpa using h⟩
theorem attrsSame_yes {a b : List (ByteArray × ByteArray)} (hl : a.length = b.length) (h : ∀ k (hk : k < a.length), attrOf b a[k].1 = (a[k].2, true)) : attrsSame a b = true := by
  unfold attrsSame
  rw [decide_eq_true hl, Bool.true_and, List.all_eq_true]
  intro p hp
  obtain ⟨k, hk, rfl⟩ := List.getElem_of_mem hp
  simpa using h k hk

theorem grown_cell {w w' : World} {g b k : Nat} (h : w.grownBy w' (some g)) (hne : b ≠ g) (hb : b < w.heap.size) : w'.cell? ⟨b, k, none⟩ = w.cell? ⟨b, k, none⟩ := by
  simp only [World.cell?, h.block b hb (fun e => hne (Option.some.inj e))]
theorem attrAdd_no {rs : List (ByteArray × ByteArray)} {p : ByteArray × ByteArray} (h : ((attrOf rs p.1).2 || decide (20 ≤ rs.length) || !attrOk p) = true) : attrAdd rs p = rs := by unfold attrAdd; rw [if_pos h]
theorem attrAdd_yes {rs : List (ByteArray × ByteArray)} {p : ByteArray × ByteArray} (h : ((attrOf rs p.1).2 || decide (20 ≤ rs.length) || !attrOk p) = false) : attrAdd rs p = rs ++ [p] := by unfold attrAdd; rw [if_neg (by rw [h]; decide)]

end Go.Proofs.Ytmpgbonolmmcpaa
