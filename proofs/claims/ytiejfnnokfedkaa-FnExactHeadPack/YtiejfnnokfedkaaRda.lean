/- Reading a number form off a list of bytes. No condition. -/
import Derived.Test.YtiejfnnokfedkaaNf
namespace Go.Proofs.Ytiejfnnokfedkaa
open Go.RowKit
set_option maxRecDepth 100000
set_option linter.unusedVariables false

/-- At most m bytes more, k have been read, acc is what they give. -/
def rdA : Nat → Nat → Int → List Int → Option (Int × Nat)
  | 0, _, _, _ => none
  | _ + 1, _, _, [] => none
  | m + 1, k, acc, d :: ds => if d < 128 then (if d = 0 ∧ 0 < k then none else some (acc + d * 128 ^ k, k + 1)) else rdA m (k + 1) (acc + d % 128 * 128 ^ k) ds

/-- What GetNum finds at a place. -/
def rdI (xs : List Int) (i : Int) : Option (Int × Nat) := if i < 0 then none else rdA 9 0 0 (xs.drop i.toNat)

theorem rdA_nil {m k : Nat} {acc : Int} : rdA m k acc [] = none := by cases m <;> rfl
theorem rdA_zero {k : Nat} {acc : Int} {ds : List Int} : rdA 0 k acc ds = none := rfl
theorem rdA_end {m k : Nat} {acc d : Int} {ds : List Int} (h : d < 128) (h0 : ¬ (d = 0 ∧ 0 < k)) : rdA (m + 1) k acc (d :: ds) = some (acc + d * 128 ^ k, k + 1) := by
  simp only [rdA, if_pos h, if_neg h0]
theorem rdA_bad {m k : Nat} {acc d : Int} {ds : List Int} (h : d < 128) (h0 : d = 0 ∧ 0 < k) : rdA (m + 1) k acc (d :: ds) = none := by
  simp only [rdA, if_pos h, if_pos h0]
theorem rdA_on {m k : Nat} {acc d : Int} {ds : List Int} (h : ¬ d < 128) : rdA (m + 1) k acc (d :: ds) = rdA m (k + 1) (acc + d % 128 * 128 ^ k) ds := by
  simp only [rdA, if_neg h]
theorem rdI_neg {xs : List Int} {i : Int} (h : i < 0) : rdI xs i = none := by simp [rdI, h]
theorem rdI_out {xs : List Int} {i : Int} (h : (xs.length : Int) ≤ i) : rdI xs i = none := by
  unfold rdI
  rw [if_neg (by omega), List.drop_eq_nil_of_le (by omega), rdA_nil]
theorem rdI_nat (xs : List Int) (k : Nat) : rdI xs k = rdA 9 0 0 (xs.drop k) := by
  unfold rdI
  rw [if_neg (by omega), Int.toNat_natCast]

/-- What the powers of 128 are, up to nine. -/
theorem pow_pos7 (k : Nat) : (1 : Int) ≤ 128 ^ k := by
  induction k with
  | zero => simp
  | succ k ih => rw [Int.pow_succ]; omega
theorem pow_le7 {k : Nat} (h : k ≤ 8) : (128 : Int) ^ k ≤ 72057594037927936 := by
  have : ∀ k, k ≤ 8 → (128 : Int) ^ k ≤ 72057594037927936 := by decide
  exact this k h
/-- One more byte of a form: no wrap. -/
theorem acc_step {k : Nat} {acc d : Int} (h0 : 0 ≤ acc) (h1 : acc < 128 ^ k) (d0 : 0 ≤ d) (d1 : d < 128) : 0 ≤ acc + d * 128 ^ k ∧ acc + d * 128 ^ k < 128 ^ (k + 1) := by
  have hp := pow_pos7 k
  rw [Int.pow_succ]
  generalize (128 : Int) ^ k = p at *
  have e1 : 0 ≤ d * p := Int.mul_nonneg d0 (by omega)
  have e2 : d * p ≤ 127 * p := Int.mul_le_mul_of_nonneg_right (by omega) (by omega)
  omega
/-- What is read lies within the list, and is a number not below nought. -/
theorem rdA_some {m k : Nat} {acc y : Int} {n : Nat} {ds : List Int} (h : rdA m k acc ds = some (y, n)) (hb : ∀ x ∈ ds, 0 ≤ x ∧ x ≤ 255) (h0 : 0 ≤ acc) (h1 : acc < 128 ^ k) (hm : k + m ≤ 9) :
    k < n ∧ n ≤ k + ds.length ∧ n ≤ 9 ∧ 0 ≤ y ∧ y ≤ 9223372036854775807 := by
  induction m generalizing k acc ds with
  | zero => rw [rdA_zero] at h; cases h
  | succ m ih =>
    cases ds with
    | nil => rw [rdA_nil] at h; cases h
    | cons d ds =>
      have hd := hb d (by simp)
      by_cases hl : d < 128
      · by_cases hz : d = 0 ∧ 0 < k
        · rw [rdA_bad hl hz] at h; cases h
        · rw [rdA_end hl hz] at h
          cases h
          have hs := acc_step (k := k) h0 h1 hd.1 hl
          have hp := pow_le7 (k := k) (by omega)
          rw [Int.pow_succ] at hs
          simp only [List.length_cons]
          omega
      · rw [rdA_on hl] at h
        have hs := acc_step (k := k) (d := d % 128) h0 h1 (by omega) (by omega)
        have := ih h (fun x hx => hb x (by simp [hx])) hs.1 hs.2 (by omega)
        simp only [List.length_cons]
        omega
theorem rdI_some {xs : List Int} {i y : Int} {n : Nat} (h : rdI xs i = some (y, n)) (hb : ∀ x ∈ xs, 0 ≤ x ∧ x ≤ 255) : 0 ≤ i ∧ i < xs.length ∧ 0 < n ∧ i + n ≤ xs.length ∧ n ≤ 9 ∧ 0 ≤ y ∧ y ≤ 9223372036854775807 := by
  by_cases h0 : i < 0
  · rw [rdI_neg h0] at h; cases h
  · by_cases h1 : (xs.length : Int) ≤ i
    · rw [rdI_out h1] at h; cases h
    · unfold rdI at h
      rw [if_neg h0] at h
      have := rdA_some h (fun x hx => hb x (List.mem_of_mem_drop hx)) (by omega) (by simp) (by omega)
      rw [List.length_drop] at this
      omega
end Go.Proofs.Ytiejfnnokfedkaa
