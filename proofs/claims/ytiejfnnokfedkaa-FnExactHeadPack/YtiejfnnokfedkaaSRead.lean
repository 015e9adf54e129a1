/- The contracts of the specification's reading of points: it reads what the plain function 'dec' tells. -/
import Derived.Test.YtiejfnnokfedkaaHelpI
import Derived.Test.YtiejfnnokfedkaaIn
import Derived.Test.YtiejfnnokfedkaaGrow
import Derived.Test.YtiejfnnokfedkaaDec
import Derived.Test.YtiejfnnokfedkaaLines
namespace Go.Proofs.Ytiejfnnokfedkaa
open Go.RowKit
set_option maxRecDepth 100000
set_option linter.unusedVariables false

/-- How many bytes a form has. -/
def formsOf (b : Int) : Int := if b < 128 then 1 else if 194 ≤ b ∧ b ≤ 223 then 2 else if 224 ≤ b ∧ b ≤ 239 then 3 else if 240 ≤ b ∧ b ≤ 244 then 4 else 0
theorem forms1 {b : Int} (h : b < 128) : formsOf b = 1 := by unfold formsOf; rw [if_pos h]
theorem forms2 {b : Int} (h : 194 ≤ b ∧ b ≤ 223) : formsOf b = 2 := by unfold formsOf; rw [if_neg (by omega), if_pos h]
theorem forms3 {b : Int} (h : 224 ≤ b ∧ b ≤ 239) : formsOf b = 3 := by unfold formsOf; rw [if_neg (by omega), if_neg (by omega), if_pos h]
theorem forms4 {b : Int} (h : 240 ≤ b ∧ b ≤ 244) : formsOf b = 4 := by unfold formsOf; rw [if_neg (by omega), if_neg (by omega), if_neg (by omega), if_pos h]
theorem forms0 {b : Int} (h : 128 ≤ b ∧ b < 194 ∨ 244 < b) : formsOf b = 0 := by unfold formsOf; rw [if_neg (by omega), if_neg (by omega), if_neg (by omega), if_neg (by omega)]

/-- The bounds of byte number j + 1 behind the first. -/
def loJ (b : Int) (j : Nat) : Int := if j = 0 then loOf b else 128
def hiJ (b : Int) (j : Nat) : Int := if j = 0 then hiOf b else 191
/-- The point that a form at place i comes to behind j of its bytes. -/
def pf (xs : List Int) (i : Nat) (p0 : Int) : Nat → Int
  | 0 => p0
  | j + 1 => pf xs i p0 j * 64 + xs.getD (i + 1 + j) 0 - 128
/-- How much the first byte of a form of m bytes more has besides its point. -/
def baseOf (m : Nat) : Int := if m = 1 then 192 else if m = 2 then 224 else 240

theorem getD_ok {xs : List Int} (h : ∀ x ∈ xs, 0 ≤ x ∧ x ≤ 255) (k : Nat) : 0 ≤ xs.getD k 0 ∧ xs.getD k 0 ≤ 255 := by
  by_cases hk : k < xs.length
  · have := h xs[k] (List.getElem_mem hk)
    simpa [List.getD_eq_getElem?_getD, hk] using this
  · simp [List.getD_eq_getElem?_getD, hk]
theorem pf_bound {xs : List Int} (h : ∀ x ∈ xs, 0 ≤ x ∧ x ≤ 255) (i : Nat) (p0 : Int) (h0 : 0 ≤ p0 ∧ p0 ≤ 255) (j : Nat) (hj : j ≤ 3) : -1000000000 ≤ pf xs i p0 j ∧ pf xs i p0 j ≤ 1000000000 := by
  have a0 := getD_ok h (i + 1 + 0)
  have a1 := getD_ok h (i + 1 + 1)
  have a2 := getD_ok h (i + 1 + 2)
  rcases (show j = 0 ∨ j = 1 ∨ j = 2 ∨ j = 3 by omega) with rfl | rfl | rfl | rfl
  · simp only [pf]; omega
  · simp only [pf]; omega
  · simp only [pf]; omega
  · simp only [pf]; omega

theorem tail_step {xs : List Int} {i m j : Nat} {b p0 : Int} (T : tailOf p0 m (loOf b) (hiOf b) (xs.drop (i + 1)) = tailOf (pf xs i p0 j) (m - j) (loJ b j) (hiJ b j) (xs.drop (i + 1 + j)))
    (hj : j < m) (hl : i + 1 + j < xs.length) (h1 : loJ b j ≤ xs[i + 1 + j]) (h2 : xs[i + 1 + j] ≤ hiJ b j) :
    tailOf p0 m (loOf b) (hiOf b) (xs.drop (i + 1)) = tailOf (pf xs i p0 (j + 1)) (m - (j + 1)) (loJ b (j + 1)) (hiJ b (j + 1)) (xs.drop (i + 1 + (j + 1))) := by
  obtain ⟨d, hd⟩ : ∃ d, m - j = d + 1 := ⟨m - j - 1, by omega⟩
  have hd' : m - (j + 1) = d := by omega
  have e : xs.getD (i + 1 + j) 0 = xs[i + 1 + j] := by simp [List.getD_eq_getElem?_getD, hl]
  rw [T, hd, hd', List.drop_eq_getElem_cons hl, tail_in _ _ _ h1 h2]
  simp only [pf, e, loJ, hiJ]
  simp [Nat.add_assoc]
theorem tail_all {xs : List Int} {i m : Nat} {b p0 : Int} (T : tailOf p0 m (loOf b) (hiOf b) (xs.drop (i + 1)) = tailOf (pf xs i p0 m) (m - m) (loJ b m) (hiJ b m) (xs.drop (i + 1 + m))) :
    tailOf p0 m (loOf b) (hiOf b) (xs.drop (i + 1)) = (pf xs i p0 m, xs.drop (i + 1 + m)) := by rw [T, Nat.sub_self]; rfl
theorem tail_stop {xs : List Int} {i m j : Nat} {b p0 : Int} (T : tailOf p0 m (loOf b) (hiOf b) (xs.drop (i + 1)) = tailOf (pf xs i p0 j) (m - j) (loJ b j) (hiJ b j) (xs.drop (i + 1 + j)))
    (hj : j < m) (hl : i + 1 + j = xs.length) : tailOf p0 m (loOf b) (hiOf b) (xs.drop (i + 1)) = (65533, xs.drop (i + 1 + j)) := by
  obtain ⟨d, hd⟩ : ∃ d, m - j = d + 1 := ⟨m - j - 1, by omega⟩
  rw [T, hd, List.drop_eq_nil_of_le (by omega), tail_end]
theorem tail_bad {xs : List Int} {i m j : Nat} {b p0 : Int} (T : tailOf p0 m (loOf b) (hiOf b) (xs.drop (i + 1)) = tailOf (pf xs i p0 j) (m - j) (loJ b j) (hiJ b j) (xs.drop (i + 1 + j)))
    (hj : j < m) (hl : i + 1 + j < xs.length) (h : xs[i + 1 + j] < loJ b j ∨ hiJ b j < xs[i + 1 + j]) : tailOf p0 m (loOf b) (hiOf b) (xs.drop (i + 1)) = (65533, xs.drop (i + 1 + j)) := by
  obtain ⟨d, hd⟩ : ∃ d, m - j = d + 1 := ⟨m - j - 1, by omega⟩
  rw [T, hd, List.drop_eq_getElem_cons hl, tail_out _ _ _ h]
theorem dec_form {b : Int} {m : Nat} (hm : 1 ≤ m ∧ m ≤ 3) (h : formsOf b = (m : Int) + 1) (r : List Int) :
    dec (b :: r) = (tailOf (b - baseOf m) m (loOf b) (hiOf b) r).1 :: dec (tailOf (b - baseOf m) m (loOf b) (hiOf b) r).2 := by
  by_cases h1 : b < 128
  · rw [forms1 h1] at h; omega
  by_cases h2 : 194 ≤ b ∧ b ≤ 223
  · rw [forms2 h2] at h
    obtain rfl : m = 1 := by omega
    exact dec_two r h2
  by_cases h3 : 224 ≤ b ∧ b ≤ 239
  · rw [forms3 h3] at h
    obtain rfl : m = 2 := by omega
    exact dec_three r h3
  by_cases h4 : 240 ≤ b ∧ b ≤ 244
  · rw [forms4 h4] at h
    obtain rfl : m = 3 := by omega
    exact dec_four r h4
  · rw [forms0 (by omega)] at h; omega
/-- What the outer loop keeps: one point more, and the place behind it. -/
theorem dec_snoc {xs out : List Int} {i k : Nat} {p : Int} (h : out ++ dec (xs.drop i) = dec xs) (hi : i < xs.length) (hd : dec (xs[i] :: xs.drop (i + 1)) = p :: dec (xs.drop k)) : (out ++ [p]) ++ dec (xs.drop k) = dec xs := by
  rw [List.drop_eq_getElem_cons hi, hd] at h
  rw [List.append_assoc]; exact h
theorem dec_snoc_form {xs out : List Int} {i k m : Nat} {p : Int} (h : out ++ dec (xs.drop i) = dec xs) (hi : i < xs.length) (hm : 1 ≤ m ∧ m ≤ 3) (hf : formsOf xs[i] = (m : Int) + 1)
    (ht : tailOf (xs[i] - baseOf m) m (loOf xs[i]) (hiOf xs[i]) (xs.drop (i + 1)) = (p, xs.drop k)) : (out ++ [p]) ++ dec (xs.drop k) = dec xs :=
  dec_snoc h hi (by rw [dec_form hm hf, ht])

end Go.Proofs.Ytiejfnnokfedkaa
