/- The program's DiskOk. No condition. -/
import Derived.Test.YtiejfnnokfedkaaDiskL
namespace Go.Proofs.Ytiejfnnokfedkaa
open Go.RowKit
set_option maxRecDepth 100000
set_option linter.unusedVariables false

theorem ihasSector_any (x : Int) (w : World) : Calls Try.prog 65 #[.int .i64 x] w fun e w' => e = .returned (.bool (inB x 0 129)) ∧ w' = w := by
  by_cases h1 : 0 ≤ x
  · by_cases h2 : x < 130
    · rw [inB_yes h1 (by omega)]
      go_enter Try.func65, Try.ntmps65
      go_wp2
      go_ret
      exact ⟨rfl, rfl⟩
    · have : inB x 0 129 = false := by simp [inB]; omega
      rw [this]
      go_enter Try.func65, Try.ntmps65
      go_wp2
      go_ret
      exact ⟨rfl, rfl⟩
  · have : inB x 0 129 = false := by simp [inB]; omega
    rw [this]
    go_enter Try.func65, Try.ntmps65
    go_wp2
    go_ret
    exact ⟨rfl, rfl⟩

/-- A put that is right. -/
def putB (p : Int × ByteArray) : Bool := inB p.1 0 129 && decide (p.2.size = 64)
set_option maxRecDepth 100000 in
theorem iputOk_any (x : Int) (s : ByteArray) (w : World) (hs : s.size ≤ 1099511627776) : Calls Try.prog 60 #[.agg #[.int .i64 x, .string s]] w fun e w' => e = .returned (.bool (putB (x, s))) ∧ Below w.heap.size w w' := by
  obtain ⟨w1, hw1⟩ : ∃ y, y = w.alloc (.cells #[.int .i64 x, .string s] 80) := ⟨_, rfl⟩
  have b1 : Below w.heap.size w w1 := by rw [hw1]; exact (Below.refl _ _).alloc (Nat.le_refl _) _
  have x1 : w1.heap[w.heap.size]? = some (.cells #[.int .i64 x, .string s] 80 (0, 0)) := by rw [hw1]; exact World.alloc_heap_new _ _
  obtain ⟨q1, q2, _, _⟩ := rk_two x1
  have B1 := (show Hid (Below w.heap.size w w1) from b1)
  have Q := (show Hid _ from q2)
  clear x1 b1 q2
  go_enter Try.func60, Try.ntmps60
  go_wp2_with fail
  go_at_call 65
  rw [← hw1]
  refine (ihasSector_any x w1).mono ?_
  rintro e w2 ⟨rfl, e2⟩
  subst e2
  clear hw1
  have q2 := Q.out
  cases hi : inB x 0 129
  · have HR : Hid (putB (x, s) = false) := (show putB (x, s) = false by simp [putB, hi])
    clear hi
    go_wp2
    go_ret
    exact ⟨ret_bool HR.out.symm, B1.out⟩
  · by_cases e : s.size = 64
    · have HR : Hid (putB (x, s) = true) := (show putB (x, s) = true by simp [putB, hi, e])
      have hn : ((s.size : Int) == 64) = true := by simp; omega
      clear hi e
      go_wp2
      go_ret
      exact ⟨ret_bool HR.out.symm, B1.out⟩
    · have HR : Hid (putB (x, s) = false) := (show putB (x, s) = false by simp [putB, hi, e])
      have hn : ((s.size : Int) == 64) = false := by simp; omega
      clear hi e
      go_wp2
      go_ret
      exact ⟨ret_bool HR.out.symm, B1.out⟩

theorem putB_no {d : PDisk} {k : Nat} (hk : k < d.late.length) (h : putB d.late[k] = false) : diskB d = false := by
  apply diskB_no4 hk
  simp only [putB, Bool.and_eq_false_iff, decide_eq_false_iff_not] at h
  exact h
theorem putB_yes {p : Int × ByteArray} (h : putB p = true) : inB p.1 0 129 = true ∧ p.2.size = 64 := by simpa [putB] using h

set_option maxHeartbeats 2000000 in
set_option maxRecDepth 100000 in
theorem idiskOk_any {w : World} {v : Value} {d : PDisk} (h : DiskAt w v d) (hf : DiskFit d) :
    Calls Try.prog 48 #[v] w fun e w' => e = .returned (.bool (diskB d)) ∧ Below w.heap.size w w' := by
  obtain ⟨sa, sn, sc, la, ln, lc, rfl, h1, h2⟩ := h
  have f1 := hf.sl
  have f2 := hf.ll
  have F3 := (show Hid (∀ s ∈ d.safe, s.size ≤ 1099511627776) from hf.st)
  have F4 := (show Hid (∀ p ∈ d.late, p.2.size ≤ 1099511627776) from hf.lt)
  obtain ⟨a1, c1, e1, _, _, hs⟩ := h1.str
  cases e1
  obtain ⟨a2, c2, e2, _, _, hp⟩ := h2.put
  cases e2
  have HS := (show Hid (∀ k (hk : k < d.safe.length), ∃ b off, sa = some ⟨b, off, none⟩ ∧ b < w.heap.size ∧ w.cell? ⟨b, off + k, none⟩ = some (.string d.safe[k])) from hs)
  have HP := (show Hid (∀ k (hk : k < d.late.length), ∃ b off, la = some ⟨b, off, none⟩ ∧ b < w.heap.size ∧ w.cell? ⟨b, off + k * 2, none⟩ = some (.int .i64 d.late[k].1) ∧ w.cell? ⟨b, off + k * 2 + 1, none⟩ = some (.string d.late[k].2)) from hp)
  clear h1 h2 hf hs hp
  obtain ⟨w1, hw1⟩ : ∃ x, x = w.alloc (.cells #[.slice sa d.safe.length sc, .slice la d.late.length lc] 36) := ⟨_, rfl⟩
  have b1 : Below w.heap.size w w1 := by rw [hw1]; exact (Below.refl _ _).alloc (Nat.le_refl _) _
  have x1 : w1.heap[w.heap.size]? = some (.cells #[.slice sa d.safe.length sc, .slice la d.late.length lc] 36 (0, 0)) := by rw [hw1]; exact World.alloc_heap_new _ _
  have X1 := (show Hid _ from x1)
  have B1 := (show Hid (Below w.heap.size w w1) from b1)
  obtain ⟨q1, q2, _, _⟩ := rk_two x1
  have Q := (show Hid (w1.cell? ⟨w.heap.size, 0, none⟩ = some (.slice sa d.safe.length sc) ∧ w1.cell? ⟨w.heap.size, 1, none⟩ = some (.slice la d.late.length lc)) from ⟨q1, q2⟩)
  clear x1 b1 q1 q2
  by_cases hl1 : d.safe.length = 130
  · by_cases hl2 : d.late.length ≤ 200
    · have hl2' : ¬ (200 < (d.late.length : Int)) := by omega
      have hn1 : ((d.safe.length : Int) != 130) = false := by simp; omega
      have HL1 := (show Hid (d.safe.length = 130) from hl1)
      clear hl1
      obtain ⟨q1, q2⟩ := Q.out
      go_enter Try.func48, Try.ntmps48
      go_wp2
      rw [← hw1]
      go_loopw [20] (fun i wr => ∃ k : Nat, k ≤ d.safe.length ∧ i = .int .i64 k ∧ (∀ j (hj : j < d.safe.length), j < k → d.safe[j].size = 64) ∧ w1 = wr) (fun i _ => d.safe.length - (intOf i).toNat)
      case atStart => exact ⟨0, Nat.zero_le _, rfl, fun j hj h => by omega, rfl⟩
      case round =>
        obtain ⟨k, hk, rfl, he, rfl⟩ := hrel
        have HE := (show Hid (∀ j (hj : j < d.safe.length), j < k → d.safe[j].size = 64) from he)
        clear he hw1
        by_cases hlt : k < d.safe.length
        · obtain ⟨b, o, rfl, hb, c⟩ := HS.out k hlt
          have c' := (B1.out.cell (p := ⟨b, o + k, none⟩) hb).trans c
          have hz := F3.out _ (List.getElem_mem hlt)
          have HN := (show Hid (d.safe[k].size ≠ 64 → diskB d = false) from diskB_no3 hlt)
          have HX := (show Hid (d.safe[k].size = 64 → ∀ j (hj : j < d.safe.length), j < k + 1 → d.safe[j].size = 64) from fun e j hj h => by
            by_cases e2 : j = k
            · subst e2; exact e
            · exact HE.out j hj (by omega))
          obtain ⟨x, hx⟩ : ∃ x, x = d.safe[k] := ⟨_, rfl⟩
          rw [← hx] at c' hz HN HX
          clear hx c
          by_cases e : x.size = 64
          · have hn : ((x.size : Int) != 64) = false := by simp; omega
            have HX' := (show Hid _ from HX.out e)
            clear HX HN e
            go_wp2
            go_roundw
            case rel => exact ⟨k + 1, by omega, by go_num, HX'.out, by first | rfl | trivial⟩
            case measure => simp [intOf]; omega
          · have hn : ((x.size : Int) != 64) = true := by simp; omega
            have HN' := (show Hid _ from HN.out e)
            clear HX HN e
            go_wp2
            go_ret
            exact ⟨ret_bool HN'.out.symm, B1.out⟩
        · have HE2 := (show Hid (∀ j (hj : j < d.safe.length), d.safe[j].size = 64) from fun j hj => HE.out j hj (by omega))
          clear HE
          go_wp2
          go_loopw [31] (fun i wr => ∃ k : Nat, k ≤ d.late.length ∧ i = .int .i64 k ∧ (∀ j (hj : j < d.late.length), j < k → inB d.late[j].1 0 129 = true ∧ d.late[j].2.size = 64) ∧ Below w1.heap.size w1 wr) (fun i _ => d.late.length - (intOf i).toNat)
          case atStart => exact ⟨0, Nat.zero_le _, rfl, fun j hj h => by omega, Below.refl _ _⟩
          case round =>
            clear q1 q2
            obtain ⟨m, hm, rfl, he, bel⟩ := hrel
            have HE := (show Hid (∀ j (hj : j < d.late.length), j < m → inB d.late[j].1 0 129 = true ∧ d.late[j].2.size = 64) from he)
            clear he
            by_cases hlt2 : m < d.late.length
            · obtain ⟨b, o, rfl, hb, c3, c4⟩ := HP.out m hlt2
              have hb1 : b < w1.heap.size := Nat.lt_of_lt_of_le hb B1.out.size
              have c3' := (bel.cell (p := ⟨b, o + m * 2, none⟩) hb1).trans ((B1.out.cell (p := ⟨b, o + m * 2, none⟩) hb).trans c3)
              have c4' := (bel.cell (p := ⟨b, o + m * 2 + 1, none⟩) hb1).trans ((B1.out.cell (p := ⟨b, o + m * 2 + 1, none⟩) hb).trans c4)
              have hz := F4.out _ (List.getElem_mem hlt2)
              have HN := (show Hid (putB d.late[m] = false → diskB d = false) from putB_no hlt2)
              have HX := (show Hid (putB d.late[m] = true → ∀ j (hj : j < d.late.length), j < m + 1 → inB d.late[j].1 0 129 = true ∧ d.late[j].2.size = 64) from fun e j hj h => by
                by_cases e2 : j = m
                · subst e2; exact putB_yes e
                · exact HE.out j hj (by omega))
              obtain ⟨x, hx⟩ : ∃ x, x = d.late[m] := ⟨_, rfl⟩
              rw [← hx] at c3' c4' hz HN HX
              obtain ⟨xa, xs⟩ := x
              simp only at c3' c4' hz HN HX
              clear hx c3 c4
              obtain ⟨wx, hwx⟩ : ∃ wx, wx = wr.alloc (.cells #[.int .i64 xa, .string xs] 80) := ⟨_, rfl⟩
              have bx : Below wr.heap.size wr wx := by rw [hwx]; exact (Below.refl _ _).alloc (Nat.le_refl _) _
              have belx := bel.trans (bx.mono bel.size)
              have CC := iputOk_any xa xs wx hz
              obtain ⟨r, hr⟩ : ∃ r, r = putB (xa, xs) := ⟨_, rfl⟩
              rw [← hr] at CC HN HX
              have C2 := (show Hid _ from CC)
              have BX := (show Hid (Below w1.heap.size w1 wx) from belx)
              clear hr CC bx belx
              go_wp2_with fail
              go_at_call 60
              rw [← hwx]
              refine Calls.mono C2.out ?_
              rintro e w2 ⟨rfl, b2⟩
              replace b2 := BX.out.trans (b2.mono BX.out.size)
              clear C2 hwx c3' c4'
              cases r
              · have HN' := (show Hid _ from HN.out rfl)
                clear HX HN
                go_wp2
                go_ret
                exact ⟨ret_bool HN'.out.symm, B1.out.trans (b2.mono B1.out.size)⟩
              · have HX' := (show Hid _ from HX.out rfl)
                clear HX HN
                go_wp2
                go_roundw
                case rel => exact ⟨m + 1, by omega, by go_num, HX'.out, b2⟩
                case measure => simp [intOf]; omega
            · have HD : Hid (diskB d = true) := diskB_yes HL1.out hl2 HE2.out (fun j hj => HE.out j hj (by omega))
              go_wp2
              go_ret
              exact ⟨ret_bool HD.out.symm, B1.out.trans (bel.mono B1.out.size)⟩
    · have hn1 : ((d.safe.length : Int) != 130) = false := by simp; omega
      have hl2' : 200 < (d.late.length : Int) := by omega
      have HD := (show Hid (diskB d = false) from diskB_no2 (by omega))
      clear hl1
      have B2 := (show Hid _ from B1.out)
      rw [hw1] at B2
      go_enter Try.func48, Try.ntmps48
      go_wp2
      go_ret
      exact ⟨ret_bool HD.out.symm, B2.out⟩
  · have hn1 : ((d.safe.length : Int) != 130) = true := by simp; omega
    have HD := (show Hid (diskB d = false) from diskB_no1 hl1)
    have B2 := (show Hid _ from B1.out)
    rw [hw1] at B2
    go_enter Try.func48, Try.ntmps48
    go_wp2
    go_ret
    exact ⟨ret_bool HD.out.symm, B2.out⟩
end Go.Proofs.Ytiejfnnokfedkaa
