/- The contract of the specification's question whether a text stands at a place. -/
import Derived.Test.YtidmnckcofclbaaDoorSRefs
import Derived.Test.YtidmnckcofclbaaDoorName
namespace Go.Proofs.YtidmnckcofclbaaDoor
open Go.RowKit
set_option linter.unusedVariables false

theorem stands_no {xs nm : List Int} {k i : Nat} (h : i < nm.length) (e : atL xs (k + i) ≠ nm.getD i 0) : stands xs k nm = false := by
  unfold stands
  rw [List.all_eq_false]
  exact ⟨i, List.mem_range.mpr h, by simpa using e⟩
theorem stands_yes {xs nm : List Int} {k : Nat} (h : ∀ i, i < nm.length → atL xs (k + i) = nm.getD i 0) : stands xs k nm = true := by
  unfold stands
  rw [List.all_eq_true]
  intro i hi
  simpa using h i (List.mem_range.mp hi)

set_option maxRecDepth 100000 in
theorem l3Stands_any {v : Value} {xs : List Int} {w : World} (h : Sl .i64 w v xs) (k : Nat) (s : ByteArray) (hn : xs.length ≤ 1099511627776) (hk : k ≤ 1099511627776) (hs : s.size ≤ 1099511627776) :
    Calls Tryd.prog 31 #[v, .int .i64 k, .string s] w fun e w' => e = .returned (.bool (stands xs k (bs s))) ∧ ∃ n, w' = w.drewN n := by
  have hl := bs_len s
  go_enter Tryd.func31, Tryd.ntmps31
  go_wp2
  go_loopw [7] (fun i wr => ∃ j : Nat, j ≤ s.size ∧ i = .int .i64 j ∧ (∀ t, t < j → atL xs (k + t) = (bs s).getD t 0) ∧ ∃ n, wr = w.drewN n) (fun i _ => s.size - (intOf i).toNat)
  case atStart => exact ⟨0, Nat.zero_le _, rfl, fun t ht => absurd ht (by omega), 0, rfl⟩
  case round =>
    obtain ⟨j, hj, rfl, hall, hw⟩ := hrel
    have h' : Sl .i64 wr v xs := by obtain ⟨n, rfl⟩ := hw; exact h.below (below_drewN n)
    have HW := (show Hid (∃ n, wr = w.drewN n) from hw)
    clear hw
    have HA := (show Hid _ from hall)
    clear hall
    by_cases hlt : j < s.size
    · have hat := bs_at s j hlt
      have hbk := bs_bound s j
      obtain ⟨m, hm⟩ : ∃ m : Nat, m = k + j := ⟨_, rfl⟩
      have hme : (k : Int) + (j : Int) = (m : Int) := by omega
      have c1 := fun n => l3At_any (h'.below (below_drewN n)) m hn
      have HN : Hid (atL xs m ≠ (bs s).getD j 0 → stands xs k (bs s) = false) := fun e => stands_no (i := j) (by omega) (by rw [← hm]; exact e)
      have HY : Hid (atL xs m = (bs s).getD j 0 → ∀ t, t < j + 1 → atL xs (k + t) = (bs s).getD t 0) := fun e t ht => by
        by_cases htj : t = j
        · subst htj; rw [← hm]; exact e
        · exact HA.out t (by omega)
      obtain ⟨x, hx⟩ : ∃ x, x = (bs s).getD j 0 := ⟨_, rfl⟩
      obtain ⟨c, hc⟩ : ∃ c, c = atL xs m := ⟨_, rfl⟩
      rw [← hx] at hat hbk HN HY
      rw [← hc] at c1 HN HY
      have hwx : IntKind.i64.wrap x = x := wrap_byte hbk.1 hbk.2
      have C1 := (show Hid _ from c1)
      clear c1 hx hc hm
      by_cases hcx : c = x
      · subst hcx
        go_wp2
        go_quiet ((go_at_call 28; refine Calls.quiet_of_same (C1.out _)))
        go_wp2
        go_roundw
        case rel => exact ⟨j + 1, by omega, by go_num, HY.out (by simp), by obtain ⟨n, hn⟩ := HW.out; exact ⟨n + nq, by rw [hn, World.drewN_drewN]⟩⟩
        case measure => simp [intOf]; omega
      · have e : (c != x) = true := by simpa using hcx
        go_wp2
        go_quiet ((go_at_call 28; refine Calls.quiet_of_same (C1.out _)))
        go_wp2
        go_ret
        exact ⟨ret_bool (HN.out hcx).symm, by obtain ⟨n, hn⟩ := HW.out; exact ⟨n + nq, by rw [hn, World.drewN_drewN]⟩⟩
    · go_wp2
      go_ret
      exact ⟨ret_bool (by rw [stands_yes (fun i hi => HA.out i (by omega))]), HW.out⟩
end Go.Proofs.YtidmnckcofclbaaDoor
