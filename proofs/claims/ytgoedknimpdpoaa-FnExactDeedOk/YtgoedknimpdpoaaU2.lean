/- Contracts of chapter 2's functions on one number, the program's and the specification's. No condition. -/
import Derived.Test.YtgoedknimpdpoaaU1
import Derived.Laws.EntriesVeiled
import Derived.Test.YtgoedknimpdpoaaU0
import Derived.Test.YtgoedknimpdpoaaRows
namespace Go.Proofs.Ytgoedknimpdpoaa
open Go.RowKit
set_option maxRecDepth 100000
set_option linter.unusedVariables false

def isBlank (x : Int) : Bool := x == 9 || x == 10 || x == 12 || x == 32
def isBar (x : Int) : Bool := x == 0 || x == 47 || x == 62
def lowerOf (x : Int) : Int := if inB x 65 90 then x + 32 else x
def digitOf (x b : Int) : Int :=
  if b ≠ 10 ∧ b ≠ 16 then -1 else if inB x 48 57 then x - 48 else if b = 16 ∧ inB x 65 70 then x - 55 else if b = 16 ∧ inB x 97 102 then x - 87 else -1

end Go.Proofs.Ytgoedknimpdpoaa

/- What references stand for, as plain functions of lists of integers. -/
namespace Go.Proofs.Ytgoedknimpdpoaa
open Go.RowKit
set_option maxRecDepth 100000
set_option linter.unusedVariables false

/-- The points that the numbers 128 to 159 stand for. -/
def oldPoints : List Int := [8364, 129, 8218, 402, 8222, 8230, 8224, 8225, 710, 8240, 352, 8249, 338, 141, 381, 143, 144, 8216, 8217, 8220, 8221, 8226, 8211, 8212, 732, 8482, 353, 8250, 339, 157, 382, 376]
def refNumber (x : Int) : Int := if x = 0 ∨ pointOk x = false then 65533 else if inB x 128 159 then oldPoints.getD (x - 128).toNat 0 else x

/-- A number of a list, or -1 behind its end. -/
def atL (xs : List Int) (k : Nat) : Int := xs.getD k (-1)
theorem atL_in {xs : List Int} {k : Nat} (h : k < xs.length) : atL xs k = xs.getD k 0 := by simp [atL, List.getD_eq_getElem?_getD, h]
theorem atL_out {xs : List Int} {k : Nat} (h : xs.length ≤ k) : atL xs k = -1 := by simp [atL, List.getD_eq_getElem?_getD, h]

/-- The digits that stand at a list's beginning. -/
def digs (b : Int) : List Int → List Int
  | [] => []
  | c :: cs => if 0 ≤ digitOf c b then digitOf c b :: digs b cs else []

theorem digs_le (b : Int) (l : List Int) : (digs b l).length ≤ l.length := by
  induction l with
  | nil => simp [digs]
  | cons c cs ih => unfold digs; split <;> simp; exact ih
theorem digs_at (b : Int) (l : List Int) (k : Nat) (h : k < (digs b l).length) : (digs b l).getD k 0 = digitOf (l.getD k (-1)) b ∧ 0 ≤ digitOf (l.getD k (-1)) b := by
  induction l generalizing k with
  | nil => simp [digs] at h
  | cons c cs ih =>
    unfold digs at h ⊢
    by_cases hc : 0 ≤ digitOf c b
    · rw [if_pos hc] at h ⊢
      cases k with
      | zero => exact ⟨rfl, hc⟩
      | succ k =>
        have := ih k (by simpa using h)
        simpa using this
    · rw [if_neg hc] at h; simp at h
theorem digitOf_neg (b : Int) : digitOf (-1) b < 0 := by
  unfold digitOf
  rw [inB_no (by omega), inB_no (by omega), inB_no (by omega)]
  split <;> simp
theorem digs_end (b : Int) (l : List Int) : digitOf (l.getD (digs b l).length (-1)) b < 0 := by
  induction l with
  | nil => exact digitOf_neg b
  | cons c cs ih =>
    unfold digs
    by_cases hc : 0 ≤ digitOf c b
    · rw [if_pos hc]; simpa using ih
    · rw [if_neg hc]; simp; omega
theorem digitOf_le (x b : Int) (h : b = 10 ∨ b = 16) : digitOf x b < b := by
  rcases h with rfl | rfl
  · unfold digitOf
    by_cases h : 48 ≤ x ∧ x ≤ 57
    · rw [inB_yes h.1 h.2]; simp; omega
    · rw [inB_no (by omega)]; simp
  · unfold digitOf
    by_cases h : 48 ≤ x ∧ x ≤ 57
    · rw [inB_yes h.1 h.2]; simp; omega
    · rw [inB_no (x := x) (lo := 48) (hi := 57) (by omega)]
      by_cases h : 65 ≤ x ∧ x ≤ 70
      · rw [inB_yes h.1 h.2]; simp; omega
      · rw [inB_no (x := x) (lo := 65) (hi := 70) (by omega)]
        by_cases h : 97 ≤ x ∧ x ≤ 102
        · rw [inB_yes h.1 h.2]; simp; omega
        · rw [inB_no (x := x) (lo := 97) (hi := 102) (by omega)]; simp

/-- One digit more: the value, and how many digits there are behind leading noughts. -/
def digStep (b : Int) (p : Int × Nat) (d : Int) : Int × Nat :=
  let n := if 0 < p.2 ∨ 0 < d then p.2 + 1 else p.2
  (if n ≤ 7 then b * p.1 + d else p.1, n)
def digVal (b : Int) (ds : List Int) : Int × Nat := ds.foldl (digStep b) (0, 0)
theorem digVal_succ (b : Int) (ds : List Int) (k : Nat) (h : k < ds.length) : digVal b (ds.take (k + 1)) = digStep b (digVal b (ds.take k)) (ds.getD k 0) := by
  have hg : ds.getD k 0 = ds[k] := by simp [List.getD_eq_getElem?_getD, h]
  unfold digVal
  rw [List.take_succ_eq_append_getElem h, List.foldl_append, hg]; rfl

/-- The reference by number whose digits stand from 'at' on: its point, and the place behind it; 0: there is none. -/
def refDigits (xs : List Int) (b : Int) (k : Nat) : Int × Int :=
  let ds := digs b (xs.drop k)
  let p := digVal b ds
  if ds = [] then (0, 0) else (refNumber (if 7 < p.2 then 1114112 else p.1), (k + ds.length + (if atL xs (k + ds.length) = 59 then 1 else 0) : Nat))
def refNum (xs : List Int) (k : Nat) : Int × Int :=
  if atL xs k = 120 ∨ atL xs k = 88 then refDigits xs 16 (k + 1) else refDigits xs 10 k

/-- A text stands at a place. -/
def stands (xs : List Int) (k : Nat) (nm : List Int) : Bool := (List.range nm.length).all fun i => atL xs (k + i) == nm.getD i 0

/-- The value stays below 16 to the count of its digits, at most to the seventh. -/
theorem digStep_bound {b : Int} (hb : b = 10 ∨ b = 16) {p : Int × Nat} {d : Int} (d0 : 0 ≤ d) (d1 : d < b) (h0 : 0 ≤ p.1) (h1 : p.1 < 16 ^ (min p.2 7)) :
    0 ≤ (digStep b p d).1 ∧ (digStep b p d).1 < 16 ^ (min (digStep b p d).2 7) := by
  obtain ⟨x, n⟩ := p
  simp only at h0 h1
  unfold digStep
  simp only
  by_cases hz : 0 < n ∨ 0 < d
  · rw [if_pos hz]
    by_cases h7 : n + 1 ≤ 7
    · rw [if_pos h7]
      have e1 : min (n + 1) 7 = n + 1 := by omega
      have e2 : min n 7 = n := by omega
      rw [e1, Int.pow_succ]
      rw [e2] at h1
      generalize (16 : Int) ^ n = q at h1
      rcases hb with rfl | rfl <;> omega
    · rw [if_neg h7]
      have e1 : min (n + 1) 7 = 7 := by omega
      have e2 : min n 7 = 7 := by omega
      rw [e1]
      rw [e2] at h1
      exact ⟨h0, h1⟩
  · rw [if_neg hz]
    have hn : n = 0 := by omega
    have hd : d = 0 := by omega
    subst hn hd
    simp at h1
    have hx : x = 0 := by omega
    subst hx
    simp
theorem digVal_bound {b : Int} (hb : b = 10 ∨ b = 16) (l : List Int) (hl : ∀ d ∈ l, 0 ≤ d ∧ d < b) (p : Int × Nat) (h0 : 0 ≤ p.1) (h1 : p.1 < 16 ^ (min p.2 7)) :
    0 ≤ (l.foldl (digStep b) p).1 ∧ (l.foldl (digStep b) p).1 < 16 ^ (min (l.foldl (digStep b) p).2 7) := by
  induction l generalizing p with
  | nil => exact ⟨h0, h1⟩
  | cons d ds ih =>
    have hd := hl d (List.mem_cons_self ..)
    have hs := digStep_bound hb hd.1 hd.2 h0 h1
    exact ih (fun e he => hl e (List.mem_cons_of_mem _ he)) _ hs.1 hs.2
theorem pow_seven (n : Nat) : (16 : Int) ^ (min n 7) ≤ 268435456 := by
  have h : min n 7 ≤ 7 := by omega
  generalize min n 7 = k at h
  rcases (show k = 0 ∨ k = 1 ∨ k = 2 ∨ k = 3 ∨ k = 4 ∨ k = 5 ∨ k = 6 ∨ k = 7 by omega) with rfl | rfl | rfl | rfl | rfl | rfl | rfl | rfl <;> decide
theorem digs_mem {b : Int} (hb : b = 10 ∨ b = 16) (l : List Int) : ∀ d ∈ digs b l, 0 ≤ d ∧ d < b := by
  induction l with
  | nil => intro d hd; cases hd
  | cons c cs ih =>
    intro d hd
    unfold digs at hd
    by_cases hc : 0 ≤ digitOf c b
    · rw [if_pos hc] at hd
      rcases List.mem_cons.mp hd with rfl | hd
      · exact ⟨hc, digitOf_le c b hb⟩
      · exact ih d hd
    · rw [if_neg hc] at hd; cases hd
theorem digVal_ok {b : Int} (hb : b = 10 ∨ b = 16) (l : List Int) (k : Nat) : 0 ≤ (digVal b ((digs b l).take k)).1 ∧ (digVal b ((digs b l).take k)).1 < 268435456 := by
  have h := digVal_bound hb ((digs b l).take k) (fun d hd => digs_mem hb l d (List.mem_of_mem_take hd)) (0, 0) (Int.le_refl _) (by decide)
  have h7 := pow_seven (((digs b l).take k).foldl (digStep b) (0, 0)).2
  exact ⟨h.1, by have := h.2; unfold digVal; omega⟩
theorem digVal_count {b : Int} (l : List Int) (p : Int × Nat) : (l.foldl (digStep b) p).2 ≤ p.2 + l.length := by
  induction l generalizing p with
  | nil => simp
  | cons d ds ih =>
    have := ih (digStep b p d)
    have h2 : (digStep b p d).2 ≤ p.2 + 1 := by unfold digStep; simp only; split <;> omega
    simp only [List.foldl_cons, List.length_cons]
    omega
theorem digStep_inc {b x d : Int} {n : Nat} (h : 0 < n ∨ 0 < d) (h7 : n + 1 ≤ 7) : digStep b (x, n) d = (b * x + d, n + 1) := by
  unfold digStep; simp only; rw [if_pos h, if_pos h7]
theorem digStep_over {b x d : Int} {n : Nat} (h : 0 < n ∨ 0 < d) (h7 : ¬ n + 1 ≤ 7) : digStep b (x, n) d = (x, n + 1) := by
  unfold digStep; simp only; rw [if_pos h, if_neg h7]
theorem digStep_nought {b x : Int} : digStep b (x, 0) 0 = (b * x + 0, 0) := by
  unfold digStep; simp
end Go.Proofs.Ytgoedknimpdpoaa

/- Contracts of the small functions of the laws' package (copies, comparisons, marks of slices of bytes), for every slice of up to 2^40 of them. -/
namespace Go.Proofs.Ytgoedknimpdpoaa
open Go.RowKit
set_option maxRecDepth 100000
set_option linter.unusedVariables false

theorem Try.infoB : (Try.prog.info? 5).map (fun i => (i.zero, i.size, i.bytes)) = some (some (.int .u8 0), 1, 1) := by kernel_rfl

end Go.Proofs.Ytgoedknimpdpoaa

/- Contracts of the small functions of the laws' package (copies, comparisons, marks of slices of integers), for every slice of up to 2^40 of them. -/
namespace Go.Proofs.Ytgoedknimpdpoaa
open Go.RowKit
set_option maxRecDepth 100000
set_option linter.unusedVariables false

theorem Try.infoI : (Try.prog.info? 3).map (fun i => (i.zero, i.size, i.bytes)) = some (some (.int .i64 0), 1, 8) := by kernel_rfl

end Go.Proofs.Ytgoedknimpdpoaa
