/- The contract of the comparison of slices of integers in the laws' package, for every slice of up to 2^40 of them. -/
import Derived.Test.YtidmnckcofclbaaDoorHelpI
namespace Go.Proofs.YtidmnckcofclbaaDoor
open Go.RowKit
set_option linter.unusedVariables false

theorem same_any {v1 v2 : Value} {xs ys : List Int} {w : World} (h1 : Sl .i64 w v1 xs) (h2 : Sl .i64 w v2 ys) (hx : xs.length ≤ 1099511627776) (hy : ys.length ≤ 1099511627776) :
    Calls Tryd.prog 10 #[v1, v2] w fun e w' => e = .returned (.bool (decide (xs = ys))) ∧ Below w.heap.size w w' := by
  obtain ⟨a, ca, rfl, _, _, _, ha⟩ := h1
  obtain ⟨b, cb, rfl, _, _, _, hb⟩ := h2
  by_cases hl : xs.length = ys.length
  · have hl1 : ((xs.length : Int) != (ys.length : Int)) = false := by simp [hl]
    have HL : Hid (xs.length = ys.length) := hl
    clear hl
    go_enter Tryd.func10, Tryd.ntmps10
    go_wp2
    go_loopw [5] (fun i wr => ∃ k : Nat, k ≤ xs.length ∧ i = .int .i64 k ∧ xs.take k = ys.take k ∧ ∃ n, wr = w.drewN n) (fun i _ => xs.length - (intOf i).toNat)
    case atStart => exact ⟨0, Nat.zero_le _, rfl, by simp, 0, rfl⟩
    case round =>
      obtain ⟨k, hk, rfl, ht, n, rfl⟩ := hrel
      by_cases hlt : k < xs.length
      · have hlt2 : k < ys.length := by rw [← HL.out]; exact hlt
        obtain ⟨b1, o1, rfl, c1⟩ := ha k hlt
        obtain ⟨b2, o2, rfl, c2⟩ := hb k hlt2
        have HT : Hid (xs.take k = ys.take k) := ht
        clear ht ha hb
        go_wp2
        go_quiet (fail)
        go_wp2
        · go_ret
          have hne : (xs[k] != ys[k]) = true := by assumption
          exact ⟨ret_bool (by simp at hne; simp; intro h; subst h; exact hne rfl), (below_drewN _).trans (below_drewN _)⟩
        · have hne : (xs[k] != ys[k]) = false := by assumption
          go_roundw
          case rel => exact ⟨k + 1, by omega, by go_num, take_eq_succ hlt hlt2 HT.out (by simp at hne; simpa [List.getD_eq_getElem?_getD, hlt, hlt2] using hne), _, rfl⟩
          case measure => simp [intOf]; omega
      · have HT : Hid (xs.take k = ys.take k) := ht
        clear ht ha hb
        go_wp2
        go_ret
        have hke : k = xs.length := by omega
        exact ⟨ret_bool (by have h := HT.out; rw [hke] at h; simp [eq_of_take HL.out h]), below_drewN n⟩
  · have hl1 : ((xs.length : Int) != (ys.length : Int)) = true := by simp; omega
    go_enter Tryd.func10, Tryd.ntmps10
    go_wp2
    go_ret
    exact ⟨ret_bool (by simp; intro h; exact hl (by rw [h])), Below.refl _ _⟩

end Go.Proofs.YtidmnckcofclbaaDoor
