/- The specification's questions of a disk: DiskOk, SectorOf. No condition. -/
import Derived.Test.YtiejfnnokfedkaaHelpD
namespace Go.Proofs.Ytiejfnnokfedkaa
open Go.RowKit
set_option maxRecDepth 100000
set_option linter.unusedVariables false

theorem diskB_len {d : PDisk} (h : diskB d = true) : d.safe.length = 130 ∧ d.late.length ≤ 200 := by
  simp only [diskB, Bool.and_eq_true, decide_eq_true_eq] at h
  exact h.1.1
theorem diskB_safe {d : PDisk} (h : diskB d = true) {k : Nat} (hk : k < d.safe.length) : d.safe[k].size = 64 := by
  simp only [diskB, Bool.and_eq_true, decide_eq_true_eq, List.all_eq_true] at h
  exact h.1.2 _ (List.getElem_mem hk)
theorem diskB_late {d : PDisk} (h : diskB d = true) {k : Nat} (hk : k < d.late.length) : 0 ≤ d.late[k].1 ∧ d.late[k].1 < 130 ∧ d.late[k].2.size = 64 := by
  simp only [diskB, Bool.and_eq_true, decide_eq_true_eq, List.all_eq_true] at h
  have := h.2 _ (List.getElem_mem hk)
  simp only [inB, Bool.and_eq_true, decide_eq_true_eq] at this
  omega
theorem diskB_no1 {d : PDisk} (h : d.safe.length ≠ 130) : diskB d = false := by simp [diskB, h]
theorem diskB_no2 {d : PDisk} (h : 200 < d.late.length) : diskB d = false := by
  have : ¬ d.late.length ≤ 200 := by omega
  simp [diskB, this]
theorem diskB_no3 {d : PDisk} {k : Nat} (hk : k < d.safe.length) (h : d.safe[k].size ≠ 64) : diskB d = false := by
  cases hb : diskB d
  · rfl
  · exact absurd (diskB_safe hb hk) h
theorem diskB_no4 {d : PDisk} {k : Nat} (hk : k < d.late.length) (h : inB d.late[k].1 0 129 = false ∨ d.late[k].2.size ≠ 64) : diskB d = false := by
  cases hb : diskB d
  · rfl
  · have := diskB_late hb hk
    rcases h with h | h
    · rw [inB_yes (by omega) (by omega)] at h; cases h
    · exact absurd this.2.2 h
theorem diskB_yes {d : PDisk} (h1 : d.safe.length = 130) (h2 : d.late.length ≤ 200) (h3 : ∀ k (hk : k < d.safe.length), d.safe[k].size = 64) (h4 : ∀ k (hk : k < d.late.length), inB d.late[k].1 0 129 = true ∧ d.late[k].2.size = 64) : diskB d = true := by
  simp only [diskB, Bool.and_eq_true, decide_eq_true_eq, List.all_eq_true]
  refine ⟨⟨⟨h1, h2⟩, fun s hs => ?_⟩, fun p hp => ?_⟩
  · obtain ⟨k, hk, rfl⟩ := List.getElem_of_mem hs; exact h3 k hk
  · obtain ⟨k, hk, rfl⟩ := List.getElem_of_mem hp; exact h4 k hk

theorem sl15Sector_any (x : Int) (w : World) : Calls Try.prog 58 #[.int .i64 x] w fun e w' => e = .returned (.bool (inB x 0 129)) ∧ w' = w := by
  go_enter Try.func58, Try.ntmps58
  go_wp2_with fail
  go_at_call 46
  refine (l1In_any _ _ _ _).mono ?_
  rintro e w' ⟨rfl, rfl⟩
  go_wp2
  go_ret
  exact ⟨rfl, rfl⟩

set_option maxHeartbeats 2000000 in
set_option maxRecDepth 100000 in
theorem sdiskOk_any {w : World} {v : Value} {d : PDisk} (h : DiskAt w v d) (hf : DiskFit d) :
    Calls Try.prog 33 #[v] w fun e w' => e = .returned (.bool (diskB d)) ∧ Below w.heap.size w w' := by
  obtain ⟨sa, sn, sc, la, ln, lc, rfl, h1, h2⟩ := h
  have f1 := hf.sl
  have f2 := hf.ll
  have F3 := (show Hid (∀ s ∈ d.safe, s.size ≤ 1099511627776) from hf.st)
  have F4 := (show Hid (∀ p ∈ d.late, p.2.size ≤ 1099511627776) from hf.lt)
  obtain ⟨a1, c1, e1, _, _, hs⟩ := h1.str
  cases e1
  obtain ⟨a2, c2, e2, _, _, hp⟩ := h2.put
  cases e2
  have HS := (show Hid (∀ k (hk : k < d.safe.length), ∃ b off, sa = some ⟨b, off, none⟩ ∧ b < w.heap.size ∧ w.cell? ⟨b, off + k, none⟩ = some (.string d.safe[k])) from hs)
  have HP := (show Hid (∀ k (hk : k < d.late.length), ∃ b off, la = some ⟨b, off, none⟩ ∧ b < w.heap.size ∧ w.cell? ⟨b, off + k * 2, none⟩ = some (.int .i64 d.late[k].1) ∧ w.cell? ⟨b, off + k * 2 + 1, none⟩ = some (.string d.late[k].2)) from hp)
  clear h1 h2 hf hs hp
  obtain ⟨w1, hw1⟩ : ∃ x, x = w.alloc (.cells #[.slice sa d.safe.length sc, .slice la d.late.length lc] 36) := ⟨_, rfl⟩
  have b1 : Below w.heap.size w w1 := by rw [hw1]; exact (Below.refl _ _).alloc (Nat.le_refl _) _
  have x1 : w1.heap[w.heap.size]? = some (.cells #[.slice sa d.safe.length sc, .slice la d.late.length lc] 36 (0, 0)) := by rw [hw1]; exact World.alloc_heap_new _ _
  have X1 := (show Hid _ from x1)
  have B1 := (show Hid (Below w.heap.size w w1) from b1)
  obtain ⟨q1, q2, _, _⟩ := rk_two x1
  have Q := (show Hid (w1.cell? ⟨w.heap.size, 0, none⟩ = some (.slice sa d.safe.length sc) ∧ w1.cell? ⟨w.heap.size, 1, none⟩ = some (.slice la d.late.length lc)) from ⟨q1, q2⟩)
  clear x1 b1 q1 q2
  by_cases hl1 : d.safe.length = 130
  · by_cases hl2 : d.late.length ≤ 200
    · have hl2' : ¬ (200 < (d.late.length : Int)) := by omega
      have hn1 : ((d.safe.length : Int) != 130) = false := by simp; omega
      have HL1 := (show Hid (d.safe.length = 130) from hl1)
      clear hl1
      go_enter Try.func33, Try.ntmps33
      go_wp2
      rw [← hw1]
      go_loopw [3] (fun i wr => ∃ k : Nat, k ≤ d.safe.length ∧ i = .int .i64 k ∧ (∀ j (hj : j < d.safe.length), j < k → d.safe[j].size = 64) ∧ w1 = wr) (fun i _ => d.safe.length - (intOf i).toNat)
      case atStart => exact ⟨0, Nat.zero_le _, rfl, fun j hj h => by omega, rfl⟩
      case round =>
        obtain ⟨k, hk, rfl, he, rfl⟩ := hrel
        have HE := (show Hid (∀ j (hj : j < d.safe.length), j < k → d.safe[j].size = 64) from he)
        clear he hw1
        obtain ⟨q1, q2⟩ := Q.out
        by_cases hlt : k < d.safe.length
        · obtain ⟨b, o, rfl, hb, c⟩ := HS.out k hlt
          have c' := (B1.out.cell (p := ⟨b, o + k, none⟩) hb).trans c
          have hz := F3.out _ (List.getElem_mem hlt)
          have HN := (show Hid (d.safe[k].size ≠ 64 → diskB d = false) from diskB_no3 hlt)
          have HX := (show Hid (d.safe[k].size = 64 → ∀ j (hj : j < d.safe.length), j < k + 1 → d.safe[j].size = 64) from fun e j hj h => by
            by_cases e2 : j = k
            · subst e2; exact e
            · exact HE.out j hj (by omega))
          obtain ⟨x, hx⟩ : ∃ x, x = d.safe[k] := ⟨_, rfl⟩
          rw [← hx] at c' hz HN HX
          clear hx c
          by_cases e : x.size = 64
          · have hn : ((x.size : Int) != 64) = false := by simp; omega
            have HX' := (show Hid _ from HX.out e)
            clear HX HN e
            go_wp2
            go_roundw
            case rel => exact ⟨k + 1, by omega, by go_num, HX'.out, by first | rfl | trivial⟩
            case measure => simp [intOf]; omega
          · have hn : ((x.size : Int) != 64) = true := by simp; omega
            have HN' := (show Hid _ from HN.out e)
            clear HX HN e
            go_wp2
            go_ret
            exact ⟨ret_bool HN'.out.symm, B1.out⟩
        · have HE2 := (show Hid (∀ j (hj : j < d.safe.length), d.safe[j].size = 64) from fun j hj => HE.out j hj (by omega))
          clear HE
          go_wp2
          go_loopw [4] (fun i wr => ∃ k : Nat, k ≤ d.late.length ∧ i = .int .i64 k ∧ (∀ j (hj : j < d.late.length), j < k → inB d.late[j].1 0 129 = true ∧ d.late[j].2.size = 64) ∧ Below w1.heap.size w1 wr) (fun i _ => d.late.length - (intOf i).toNat)
          case atStart => exact ⟨0, Nat.zero_le _, rfl, fun j hj h => by omega, Below.refl _ _⟩
          case round =>
            clear q1 q2
            obtain ⟨m, hm, rfl, he, bel⟩ := hrel
            have HE := (show Hid (∀ j (hj : j < d.late.length), j < m → inB d.late[j].1 0 129 = true ∧ d.late[j].2.size = 64) from he)
            clear he
            have hwl := lt_of_block X1.out
            obtain ⟨q1, q2⟩ := Q.out
            replace q2 := (bel.cell (p := ⟨w.heap.size, 1, none⟩) hwl).trans q2
            clear q1
            by_cases hlt2 : m < d.late.length
            · obtain ⟨b, o, rfl, hb, c3, c4⟩ := HP.out m hlt2
              have hb1 : b < w1.heap.size := Nat.lt_of_lt_of_le hb B1.out.size
              have c3' := (bel.cell (p := ⟨b, o + m * 2, none⟩) hb1).trans ((B1.out.cell (p := ⟨b, o + m * 2, none⟩) hb).trans c3)
              have c4' := (bel.cell (p := ⟨b, o + m * 2 + 1, none⟩) hb1).trans ((B1.out.cell (p := ⟨b, o + m * 2 + 1, none⟩) hb).trans c4)
              have hz := F4.out _ (List.getElem_mem hlt2)
              have HN := (show Hid (inB d.late[m].1 0 129 = false ∨ d.late[m].2.size ≠ 64 → diskB d = false) from diskB_no4 hlt2)
              have HX := (show Hid (inB d.late[m].1 0 129 = true → d.late[m].2.size = 64 → ∀ j (hj : j < d.late.length), j < m + 1 → inB d.late[j].1 0 129 = true ∧ d.late[j].2.size = 64) from fun e e' j hj h => by
                by_cases e2 : j = m
                · subst e2; exact ⟨e, e'⟩
                · exact HE.out j hj (by omega))
              obtain ⟨x, hx⟩ : ∃ x, x = d.late[m] := ⟨_, rfl⟩
              rw [← hx] at c3' c4' hz HN HX
              obtain ⟨xa, xs⟩ := x
              simp only at c3' c4' hz HN HX
              clear hx c3 c4
              cases hi : inB xa 0 129
              · have HN' := (show Hid _ from HN.out (.inl hi))
                have CC := sl15Sector_any xa wr
                rw [hi] at CC
                have C2 := (show Hid _ from CC)
                clear HX HN CC hi
                go_wp2_with fail
                go_at_call 58
                refine Calls.mono C2.out ?_
                rintro e w' ⟨rfl, rfl⟩
                clear C2
                go_wp2
                go_ret
                exact ⟨ret_bool HN'.out.symm, B1.out.trans (bel.mono B1.out.size)⟩
              · have CC := sl15Sector_any xa wr
                rw [hi] at CC
                have C2 := (show Hid _ from CC)
                have HI := (show Hid _ from hi)
                clear CC hi
                go_wp2_with fail
                go_at_call 58
                refine Calls.mono C2.out ?_
                rintro e w' ⟨rfl, rfl⟩
                clear C2
                by_cases e : xs.size = 64
                · have hn : ((xs.size : Int) != 64) = false := by simp; omega
                  have HX' := (show Hid _ from HX.out HI.out e)
                  clear HX HN e HI
                  go_wp2
                  go_roundw
                  case rel => exact ⟨m + 1, by omega, by go_num, HX'.out, bel⟩
                  case measure => simp [intOf]; omega
                · have hn : ((xs.size : Int) != 64) = true := by simp; omega
                  have HN' := (show Hid _ from HN.out (.inr e))
                  clear HX HN e HI
                  go_wp2
                  go_ret
                  exact ⟨ret_bool HN'.out.symm, B1.out.trans (bel.mono B1.out.size)⟩
            · have HD : Hid (diskB d = true) := diskB_yes HL1.out hl2 HE2.out (fun j hj => HE.out j hj (by omega))
              go_wp2
              go_ret
              exact ⟨ret_bool HD.out.symm, B1.out.trans (bel.mono B1.out.size)⟩
    · have hn1 : ((d.safe.length : Int) != 130) = false := by simp; omega
      have hl2' : 200 < (d.late.length : Int) := by omega
      have HD := (show Hid (diskB d = false) from diskB_no2 (by omega))
      clear hl1
      have B2 := (show Hid _ from B1.out)
      rw [hw1] at B2
      go_enter Try.func33, Try.ntmps33
      go_wp2
      go_ret
      exact ⟨ret_bool HD.out.symm, B2.out⟩
  · have hn1 : ((d.safe.length : Int) != 130) = true := by simp; omega
    have HD := (show Hid (diskB d = false) from diskB_no1 hl1)
    have B2 := (show Hid _ from B1.out)
    rw [hw1] at B2
    go_enter Try.func33, Try.ntmps33
    go_wp2
    go_ret
    exact ⟨ret_bool HD.out.symm, B2.out⟩
end Go.Proofs.Ytiejfnnokfedkaa
