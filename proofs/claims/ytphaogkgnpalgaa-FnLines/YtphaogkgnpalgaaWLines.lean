/- The law FnLines, walked: at every slice of bytes it returns true and writes nothing that was there. -/
import Derived.Test.YtphaogkgnpalgaaDraw2
import Derived.Test.YtphaogkgnpalgaaSame
import Derived.Test.YtphaogkgnpalgaaUtfRead
namespace Go.Proofs.Ytphaogkgnpalgaa
open Go.RowKit
set_option linter.unusedVariables false

theorem lineAt_no13 (xs : List Int) (i : Nat) : ∀ y ∈ lineAt xs i, y ≠ 13 := by
  intro y hy
  unfold lineAt at hy
  split at hy
  · simp at hy; rename_i h; rw [hy]; simpa using h
  · split at hy
    · simp at hy; omega
    · cases hy
theorem linesTo_no13 (xs : List Int) (k : Nat) : ∀ y ∈ linesTo xs k, y ≠ 13 := by
  intro y hy
  obtain ⟨i, _, h⟩ := List.mem_flatMap.mp hy
  exact lineAt_no13 xs i y h
theorem linesOf_no13 (xs : List Int) : ∀ y ∈ linesOf xs, y ≠ 13 := by
  unfold linesOf; split
  · exact linesTo_no13 xs _
  · intro y hy; cases hy
theorem linesTo_plain {ys : List Int} (h : ∀ y ∈ ys, y ≠ 13) (k : Nat) (hk : k ≤ ys.length) : linesTo ys k = ys.take k := by
  induction k with
  | zero => simp [linesTo]
  | succ k ih =>
    have hl : k < ys.length := by omega
    rw [linesTo_succ, ih (by omega), lineC hl (h _ (List.getElem_mem hl)), List.take_succ_eq_append_getElem hl]
theorem linesOf_twice (xs : List Int) : linesOf (linesOf xs) = linesOf xs := by
  have hl := linesOf_len xs
  have h := linesTo_plain (linesOf_no13 xs) (linesOf xs).length (Nat.le_refl _)
  rw [List.take_length] at h
  have e : ∀ ys : List Int, ys.length ≤ 3000 → linesOf ys = linesTo ys ys.length := fun ys h => by unfold linesOf; rw [if_pos h]
  rw [e _ hl, h]
theorem linesOf_le (xs : List Int) : (linesOf xs).length ≤ xs.length := by
  unfold linesOf; split
  · exact linesTo_len xs _
  · simp

set_option maxHeartbeats 2000000 in
theorem fnLines_walk {v : Value} {xs : List Int} (w : World) (h : Sl .u8 w v xs) (hwf : ∀ n ∈ xs, (Lit.int .u8 n).wf = true) :
    Calls Try.prog 4 #[v] w fun e w' => e = .returned (.bool true) ∧ Below w.heap.size w w' := by
  by_cases hbig : 1048576 < xs.length
  · have hbg := big_any h
    rw [decide_eq_true hbig] at hbg
    have HG : Hid (Calls Try.prog 12 #[v] w fun e w' => e = .returned (.bool true) ∧ w' = w) := hbg
    clear hbg
    go_enter Try.func4, Try.ntmps4
    go_wp2_with fail
    go_at_call 12
    refine HG.out.mono ?_
    rintro e w1 ⟨rfl, rfl⟩
    go_wp2
    go_ret
    exact ⟨rfl, Below.refl _ _⟩
  have hbg := big_any h
  rw [decide_eq_false hbig] at hbg
  have HG : Hid (Calls Try.prog 12 #[v] w fun e w' => e = .returned (.bool false) ∧ w' = w) := hbg
  clear hbg
  have hn : xs.length ≤ 1048576 := by omega
  have HB : Hid (∀ x ∈ xs, 0 ≤ x ∧ x ≤ 255) := byte_ok hwf
  clear hwf
  go_enter Try.func4, Try.ntmps4
  go_wp2_with fail
  go_at_call 12
  refine HG.out.mono ?_
  rintro e w1 ⟨rfl, rfl⟩
  go_wp2_with fail
  go_at_call 21
  refine (drawLines_any h HB.out (by omega)).mono ?_
  rintro e w2 ⟨v1, zs, rfl, o1, hzl, B⟩
  have hll := linesOf_len zs
  have hle := linesOf_le zs
  have HTW : Hid (linesOf (linesOf zs) = linesOf zs) := linesOf_twice zs
  have HNO : Hid (∀ y ∈ linesOf zs, y ≠ 13) := linesOf_no13 zs
  obtain ⟨ys, hys⟩ : ∃ ys, ys = linesOf zs := ⟨_, rfl⟩
  go_wp2_with fail
  go_at_call 22
  refine (ilines_any o1.sl (by omega)).mono ?_
  rintro e w3 ⟨v2, rfl, o2, b3⟩
  replace o1 := o1.below b3
  replace B := B.trans (b3.mono B.size)
  clear b3 h
  go_wp2_with fail
  go_at_call 23
  refine (slines_any o1.sl (by omega)).mono ?_
  rintro e w4 ⟨v3, rfl, o3, b4⟩
  replace o1 := o1.below b4
  replace o2 := o2.below b4
  replace B := B.trans (b4.mono B.size)
  clear b4
  rw [← hys] at o2 o3 hll hle HTW HNO
  clear hys
  go_wp2_with fail
  go_at_call 15
  refine (same_any o2.sl o3.sl (by omega) (by omega)).mono ?_
  rintro e w5 ⟨rfl, b5⟩
  replace o1 := o1.below b5
  replace o2 := o2.below b5
  replace B := B.trans (b5.mono B.size)
  clear b5 o3
  obtain ⟨a1, c1, rfl, _, _, _, ha1⟩ := o1.sl
  have hs2 := o2.sl
  obtain ⟨a2, c2, rfl, _, _, _, ha2⟩ := hs2
  clear ha1 o1
  go_wp2
  go_loop [5] (fun i => ∃ k : Nat, k ≤ ys.length ∧ i = .int .i64 k) (fun i => ys.length - (intOf i).toNat)
  case atStart => exact ⟨0, Nat.zero_le _, rfl⟩
  case round =>
    obtain ⟨k, hk, rfl⟩ := hrel
    by_cases hlt : k < ys.length
    · obtain ⟨b1, o1, rfl, d1⟩ := ha2 k hlt
      have hne : (ys[k] == 13) = false := by have := HNO.out _ (List.getElem_mem hlt); simpa using this
      clear ha2
      go_wp2
      go_round
      case rel => exact ⟨k + 1, by omega, by go_num⟩
      case measure => simp [intOf]; omega
    · clear ha2
      go_wp2_with fail
      go_at_call 22
      refine (ilines_any o2.sl (by omega)).mono ?_
      rintro e w6 ⟨v6, rfl, o6, b6⟩
      rw [HTW.out] at o6
      replace o2 := o2.below b6
      replace B := B.trans (b6.mono B.size)
      clear b6
      go_wp2_with fail
      go_at_call 15
      refine (same_any o6.sl o2.sl (by omega) (by omega)).mono ?_
      rintro e w7 ⟨rfl, b7⟩
      replace B := B.trans (b7.mono B.size)
      clear b7 o6 o2
      go_wp2
      go_ret
      exact ⟨ret_bool (by first | rfl | (simp; omega)), B⟩
end Go.Proofs.Ytphaogkgnpalgaa
