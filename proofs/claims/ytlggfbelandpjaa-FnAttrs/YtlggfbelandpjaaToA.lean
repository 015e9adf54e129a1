/- Contracts of the laws' copies and measures of a list of attributes. -/
import Derived.Test.YtlggfbelandpjaaHelpA
import Derived.OwnWalk
namespace Go.Proofs.Ytlggfbelandpjaa
open Go.RowKit
set_option linter.unusedVariables false

theorem toAttr_any (a : ByteArray × ByteArray) (w : World) : Calls Try.prog 21 #[.agg #[.string a.1, .string a.2]] w fun e w' => e = .returned (.agg #[.string a.1, .string a.2]) ∧ Below w.heap.size w w' := by
  obtain ⟨an, ap⟩ := a
  simp only
  go_enter Try.func21, Try.ntmps21
  go_wp2
  refine bodyPost_ret (v := .agg #[.string an, .string ap]) (by simp [results, Try.results21, go_sem]) rfl ⟨rfl, ?_⟩
  exact (((Below.refl _ _).alloc (Nat.le_refl _) _).alloc (by simp) _).alloc (by simp; omega) _

set_option maxHeartbeats 1000000 in
set_option maxRecDepth 100000 in
theorem szAttrS_any {v : Value} {rs : List (ByteArray × ByteArray)} {w : World} (h : Sv 2 w v (pairCells rs)) (hs : ∀ p ∈ rs, p.1.size ≤ maxLen ∧ p.2.size ≤ maxLen) (l : Int) (h0 : 0 ≤ l) (h1 : l ≤ 1099511627776) :
    Calls Try.prog 15 #[v, .int .i64 l] w fun e w' => ∃ r : Int, e = .returned (.int .i64 r) ∧ (r < 0 ∨ (0 ≤ r ∧ r ≤ l ∧ (rs.length : Int) ≤ l ∧ ∀ p ∈ rs, (p.1.size : Int) + p.2.size ≤ l)) ∧ Below w.heap.size w w' := by
  obtain ⟨a, ca, rfl, hc1, hc2, hca⟩ := h.pair
  have HS := (show Hid (∀ p ∈ rs, p.1.size ≤ maxLen ∧ p.2.size ≤ maxLen) from hs)
  clear hs h
  unfold maxLen at hc2
  by_cases hl : l - rs.length < 0
  · go_enter Try.func15, Try.ntmps15
    go_wp2
    go_ret
    exact ⟨_, rfl, .inl (by decide), Below.refl _ _⟩
  · have hl2 : 0 ≤ l - rs.length := by omega
    go_enter Try.func15, Try.ntmps15
    go_wp2
    go_loopw [1, 5] (fun q i wr => ∃ (k : Nat) (r : Int), k ≤ rs.length ∧ i = .int .i64 k ∧ q = .int .i64 r ∧ 0 ≤ r ∧ r ≤ l ∧ (∀ p ∈ rs.take k, (p.1.size : Int) + p.2.size ≤ l) ∧ Below w.heap.size w wr) (fun _ i _ => rs.length - (intOf i).toNat)
    case atStart => exact ⟨0, _, Nat.zero_le _, rfl, rfl, hl2, by omega, fun p hp => by simp at hp, Below.refl _ _⟩
    case round =>
      obtain ⟨k, r, hk, rfl, rfl, hr0, hr1, hall, bel⟩ := hrel
      have HA := (show Hid (∀ p ∈ rs.take k, (p.1.size : Int) + p.2.size ≤ l) from hall)
      clear hall
      by_cases hlt : k < rs.length
      · obtain ⟨b1, o1, rfl, l1, c1, c2⟩ := hca k hlt
        have d1 : wr.cell? ⟨b1, o1 + k * 2, none⟩ = some (.string rs[k].1) := (bel.cell (p := ⟨b1, o1 + k * 2, none⟩) l1).trans c1
        have d2 : wr.cell? ⟨b1, o1 + k * 2 + 1, none⟩ = some (.string rs[k].2) := (bel.cell (p := ⟨b1, o1 + k * 2 + 1, none⟩) l1).trans c2
        have hsz := HS.out rs[k] (List.getElem_mem hlt)
        have HT : Hid ((rs[k].1.size : Int) + rs[k].2.size ≤ l → ∀ p ∈ rs.take (k + 1), (p.1.size : Int) + p.2.size ≤ l) := fun hp p hp' => by
          rw [List.take_succ_eq_append_getElem hlt] at hp'
          rcases List.mem_append.mp hp' with h | h
          · exact HA.out p h
          · rw [List.mem_singleton.mp h]; exact hp
        obtain ⟨x, hx⟩ : ∃ x, x = rs[k] := ⟨_, rfl⟩
        rw [← hx] at d1 d2 hsz HT
        clear hx c1 c2
        have CC := (show Hid (∀ w, Calls Try.prog 20 #[.agg #[.string x.1, .string x.2], .int .i64 r] w fun e w' => ∃ q : Int, e = .returned (.int .i64 q) ∧ (q < 0 ∨ (0 ≤ q ∧ q ≤ r ∧ (x.1.size : Int) + x.2.size ≤ r)) ∧ Below w.heap.size w w') from fun w => szAttr_any x r w hr0 (by omega) hsz.1 hsz.2)
        clear hsz
        go_wp2_with fail
        go_at_call 20
        refine (CC.out _).mono ?_
        rintro e w2 ⟨q, rfl, hq, b2⟩
        replace b2 := bel.trans (b2.mono bel.size)
        clear d1 d2
        rcases hq with hq | ⟨hq0, hq1, hq2⟩
        · go_wp2
          go_ret
          exact ⟨_, rfl, .inl (by decide), b2⟩
        · go_wp2
          go_roundw
          case rel => exact ⟨k + 1, _, by omega, by go_num, rfl, hq0, by omega, HT.out (by omega), b2⟩
          case measure => simp [intOf]; omega
      · have hke : k = rs.length := by omega
        have hall : ∀ p ∈ rs, (p.1.size : Int) + p.2.size ≤ l := by have := HA.out; rw [hke, List.take_length] at this; exact this
        have HL := (show Hid _ from hall)
        clear hall
        go_wp2
        go_ret
        exact ⟨_, rfl, .inr ⟨hr0, hr1, by omega, HL.out⟩, bel⟩

theorem Try.infoA : (Try.prog.info? 26).map (fun i => (i.zero, i.size, i.bytes)) = some (some (.agg #[.string ⟨#[]⟩, .string ⟨#[]⟩]), 2, 32) := by kernel_rfl

theorem pair_take_set {cs : List Value} {rs : List (ByteArray × ByteArray)} {k : Nat} (hk : k < rs.length) (hl : cs.length = rs.length * 2) (h : cs.take (k * 2) = pairCells (rs.take k)) :
    ((cs.set (k * 2) (.string rs[k].1)).set (k * 2 + 1) (.string rs[k].2)).take ((k + 1) * 2) = pairCells (rs.take (k + 1)) := by
  have e1 : pairCells (rs.take (k + 1)) = pairCells (rs.take k) ++ [.string rs[k].1, .string rs[k].2] := by
    rw [List.take_succ_eq_append_getElem hk]
    unfold pairCells
    rw [List.flatMap_append]
    rfl
  rw [e1, ← h]
  apply List.ext_getElem?
  intro i
  have e2 : (k + 1) * 2 = k * 2 + 2 := by omega
  by_cases hi : i < k * 2
  · rw [List.getElem?_take_of_lt (by omega), List.getElem?_set_ne (by omega), List.getElem?_set_ne (by omega), List.getElem?_append_left (by simp; omega), List.getElem?_take_of_lt hi]
  · have hlt : (cs.take (k * 2)).length = k * 2 := by simp; omega
    rw [List.getElem?_append_right (by omega), hlt]
    by_cases h0 : i = k * 2
    · subst h0
      rw [List.getElem?_take_of_lt (by omega), List.getElem?_set_ne (by omega), List.getElem?_set_self (by omega)]
      simp
    · by_cases h1 : i = k * 2 + 1
      · subst h1
        rw [List.getElem?_take_of_lt (by omega), List.getElem?_set_self (by rw [List.length_set]; omega)]
        simp
      · rw [List.getElem?_eq_none (by simp; omega), List.getElem?_eq_none (by simp; omega)]

set_option maxHeartbeats 2000000 in
set_option maxRecDepth 100000 in
theorem toAttrS_any {v : Value} {rs : List (ByteArray × ByteArray)} {w : World} (h : Sv 2 w v (pairCells rs)) (hn : rs.length ≤ 1048576) :
    Calls Try.prog 17 #[v] w fun e w' => ∃ v', e = .returned v' ∧ w'.ownsRow w.heap.size 26 2 v' rs.length (pairCells rs) ∧ Below w.heap.size w w' := by
  obtain ⟨a, ca, rfl, _, _, hca⟩ := h.pair
  clear h
  obtain ⟨i0, hi, hz0, hz1, hz2⟩ := info_parts Try.infoA
  go_enter Try.func17, Try.ntmps17
  go_wp2_with (at_make; refine wpList_make_full _ rfl (.tmp 6) (.tmp 6) 24 rfl w.heap.size 26 i0 _ 2 Try.underlying24 hi hz0 hz1 .i64 .i64 _ _ rs.length rfl rfl rfl rfl (by rw [hz2]; omega) (by unfold maxLen; omega) (Nat.le_refl _) ?_; intro w1 o1 g1)
  have b1 : Below w.heap.size w w1 := (Below.refl _ _).grown g1 (Nat.le_refl _) (fun k hk => by cases hk)
  go_loopw [4] (fun i wr => ∃ (k : Nat) (cs : List Value), k ≤ rs.length ∧ i = .int .i64 k ∧ wr.ownsRow w.heap.size 26 2 (.slice (some ⟨w.heap.size, 0, none⟩) rs.length rs.length) rs.length cs ∧ cs.take (k * 2) = pairCells (rs.take k) ∧ Below w.heap.size w wr) (fun i _ => rs.length - (intOf i).toNat)
  case atStart => exact ⟨0, _, Nat.zero_le _, rfl, o1, by simp [pairCells], b1⟩
  case round =>
    clear o1 g1 b1
    obtain ⟨k, cs, hk, rfl, own, htk, bel⟩ := hrel
    have hcl : cs.length = rs.length * 2 := own.1
    by_cases hlt : k < rs.length
    · obtain ⟨b1, o1, rfl, l1, c1, c2⟩ := hca k hlt
      have d1 : wr.cell? ⟨b1, o1 + k * 2, none⟩ = some (.string rs[k].1) := (bel.cell (p := ⟨b1, o1 + k * 2, none⟩) l1).trans c1
      have d2 : wr.cell? ⟨b1, o1 + k * 2 + 1, none⟩ = some (.string rs[k].2) := (bel.cell (p := ⟨b1, o1 + k * 2 + 1, none⟩) l1).trans c2
      have HTS := (show Hid _ from pair_take_set hlt hcl htk)
      obtain ⟨x, hx⟩ : ∃ x, x = rs[k] := ⟨_, rfl⟩
      rw [← hx] at d1 d2 HTS
      have OW := (show Hid (wr.ownsRow w.heap.size 26 2 (.slice (some ⟨w.heap.size, 0, none⟩) rs.length rs.length) rs.length cs) from own)
      clear hx c1 c2 htk own
      go_wp2_with fail
      go_at_call 21
      refine (toAttr_any x _).mono ?_
      rintro e w2 ⟨rfl, b2⟩
      have o2 : w2.ownsRow w.heap.size 26 2 (.slice (some ⟨w.heap.size, 0, none⟩) rs.length rs.length) rs.length cs := by
        obtain ⟨a1, a2 | ⟨g', c', cu', e1, e2, e3, e4⟩⟩ := OW.out
        · cases a2.1
        · cases e1
          exact ⟨a1, .inr ⟨_, _, cu', rfl, e2, by rw [b2.block _ (lt_of_block e3)]; exact e3, e4⟩⟩
      replace b2 := bel.trans (b2.mono bel.size)
      obtain ⟨z1, hc1⟩ : ∃ z, w2.cell? ⟨w.heap.size, k * 2, none⟩ = some z := by
        rw [o2.cellAt (k * 2) (by omega)]; exact ⟨_, List.getElem?_eq_getElem (by omega)⟩
      have f1 := o2.frozenAt (k * 2)
      obtain ⟨z2, hc2⟩ : ∃ z, w2.cell? ⟨w.heap.size, k * 2 + 1, none⟩ = some z := by
        rw [o2.cellAt (k * 2 + 1) (by omega)]; exact ⟨_, List.getElem?_eq_getElem (by omega)⟩
      have f2 := o2.frozenAt (k * 2 + 1)
      have s1 := o2.stored (k * 2) (.string x.1)
      have s2 := s1.1.stored (k * 2 + 1) (.string x.2)
      have S2 := (show Hid _ from s2)
      clear s1 s2 o2 d1 d2
      go_wp2
      go_roundw
      case rel => exact ⟨k + 1, _, by omega, by go_num, S2.out.1, HTS.out, (b2.setCell (Nat.le_refl _) _).setCell (Nat.le_refl _) _⟩
      case measure => simp [intOf]; omega
    · have hke : k = rs.length := by omega
      have hcs : cs = pairCells rs := by rw [hke, List.take_length, ← hcl, List.take_length] at htk; exact htk
      subst hcs
      go_wp2
      go_ret
      exact ⟨_, rfl, own, bel⟩
end Go.Proofs.Ytlggfbelandpjaa
