/- The law FnRow: its helper, and plain facts. No condition. -/
import Derived.Test.YthdfhckmgneioaaGreatDrawPop
import Derived.Test.YthdfhckmgneioaaGreatIRow4
import Derived.Test.YthdfhckmgneioaaGreatDraw1
namespace Go.Proofs.YthdfhckmgneioaaGreat
open Go.RowKit
set_option maxRecDepth 100000
set_option linter.unusedVariables false

theorem sameInts_any {v1 v2 : Value} {xs ys : List Int} {w : World} (h1 : Sl .i64 w v1 xs) (h2 : Sl .i64 w v2 ys) (hx : xs.length ≤ 1099511627776) (hy : ys.length ≤ 1099511627776) :
    Calls Tryz.prog 8 #[v1, v2] w fun e w' => e = .returned (.bool (decide (xs = ys))) ∧ Below w.heap.size w w' := by
  obtain ⟨a, ca, rfl, _, _, _, ha⟩ := h1
  obtain ⟨b, cb, rfl, _, _, _, hb⟩ := h2
  by_cases hl : xs.length = ys.length
  · have hl1 : ((xs.length : Int) != (ys.length : Int)) = false := by simp [hl]
    have HL : Hid (xs.length = ys.length) := hl
    clear hl
    go_enter Tryz.func8, Tryz.ntmps8
    go_wp2
    go_loopw [5] (fun i wr => ∃ k : Nat, k ≤ xs.length ∧ i = .int .i64 k ∧ xs.take k = ys.take k ∧ ∃ n, wr = w.drewN n) (fun i _ => xs.length - (intOf i).toNat)
    case atStart => exact ⟨0, Nat.zero_le _, rfl, by simp, 0, rfl⟩
    case round =>
      obtain ⟨k, hk, rfl, ht, n, rfl⟩ := hrel
      by_cases hlt : k < xs.length
      · have hlt2 : k < ys.length := by rw [← HL.out]; exact hlt
        obtain ⟨b1, o1, rfl, c1⟩ := ha k hlt
        obtain ⟨b2, o2, rfl, c2⟩ := hb k hlt2
        have HT : Hid (xs.take k = ys.take k) := ht
        clear ht ha hb
        go_wp2
        go_quiet (fail)
        go_wp2
        · go_ret
          have hne : (xs[k] != ys[k]) = true := by assumption
          exact ⟨ret_bool (by simp at hne; simp; intro h; subst h; exact hne rfl), (below_drewN _).trans (below_drewN _)⟩
        · have hne : (xs[k] != ys[k]) = false := by assumption
          go_roundw
          case rel => exact ⟨k + 1, by omega, by go_num, take_eq_succ hlt hlt2 HT.out (by simp at hne; simpa [List.getD_eq_getElem?_getD, hlt, hlt2] using hne), _, rfl⟩
          case measure => simp [intOf]; omega
      · have HT : Hid (xs.take k = ys.take k) := ht
        clear ht ha hb
        go_wp2
        go_ret
        have hke : k = xs.length := by omega
        exact ⟨ret_bool (by have h := HT.out; rw [hke] at h; simp [eq_of_take HL.out h]), below_drewN n⟩
  · have hl1 : ((xs.length : Int) != (ys.length : Int)) = true := by simp; omega
    go_enter Tryz.func8, Tryz.ntmps8
    go_wp2
    go_ret
    exact ⟨ret_bool (by simp; intro h; exact hl (by rw [h])), Below.refl _ _⟩


theorem popL_le (ns : List PNode) (nm : ByteArray) (row : List Int) : (popL ns nm row).length ≤ row.length := by
  unfold popL; split
  · exact Nat.le_refl _
  · simp; omega
theorem take_self {xs row : List Int} {n : Nat} (h : xs = row.take n) : xs = row.take xs.length := by
  rw [h, List.length_take]
  by_cases hn : n ≤ row.length
  · rw [Nat.min_eq_left hn]
  · rw [Nat.min_eq_right (by omega), List.take_length, List.take_of_length_le (by omega)]
theorem popL_take (ns : List PNode) (nm : ByteArray) (row : List Int) : popL ns nm row = row.take (popL ns nm row).length := by
  unfold popL; split
  · rw [List.take_length]
  · exact take_self rfl
theorem impL_take (ns : List PNode) (nm : ByteArray) (row : List Int) : impL ns nm row = row.take (impL ns nm row).length := take_self (show impL ns nm row = row.take _ from rfl)
theorem impL_le (ns : List PNode) (nm : ByteArray) (row : List Int) : (impL ns nm row).length ≤ row.length := by simp [impL]; omega
theorem impL_one (ns : List PNode) (nm : ByteArray) {row : List Int} (h : 0 < row.length) : 1 ≤ (impL ns nm row).length := by simp [impL]; omega
theorem impL_behind {ns : List PNode} {nm : ByteArray} {row : List Int} {i : Nat} (h : (impL ns nm row).length ≤ i) (hi : i < row.length) : stays ns nm (row.getD i 0) = false := by
  refine lastAt_above i ?_ hi
  simp only [impL, List.length_take] at h
  omega
theorem popL_place {ns : List PNode} {nm : ByteArray} {row : List Int} (h : ¬ lastAt (named ns nm) row row.length = 0) : ((popL ns nm row).length = lastAt (named ns nm) row row.length - 1 ∧ 1 < lastAt (named ns nm) row row.length) ∨ (lastAt (named ns nm) row row.length = 1 ∧ (popL ns nm row).length = 1) := by
  have hl := lastAt_le (named ns nm) row row.length
  rw [popL, if_neg h, List.length_take]
  omega
theorem popL_none {ns : List PNode} {nm : ByteArray} {row : List Int} (h : lastAt (named ns nm) row row.length = 0) : popL ns nm row = row := by rw [popL, if_pos h]
theorem okP_iff {ns : List PNode} (h : parOf ns 0 = -1) {Q : Prop} : (STreeOkP ns ∧ Q) ↔ (TreeOkP ns ∧ Q) := ⟨fun x => ⟨x.1.1, x.2⟩, fun x => ⟨⟨x.1, h⟩, x.2⟩⟩
end Go.Proofs.YthdfhckmgneioaaGreat
