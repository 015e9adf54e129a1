/- The plain mathematics of points and their bytes: what is put, as lists of integers. No condition. -/
import Derived.WalkKit
namespace Go.Proofs.YtggfifchkecnjaaGreatDoor

def pointOk (x : Int) : Bool := decide (0 ≤ x) && decide (x ≤ 1114111) && !(decide (55296 ≤ x) && decide (x ≤ 57343))
def pt (x : Int) : Int := bif pointOk x then x else 65533
def enc (x : Int) : List Int :=
  if x < 128 then [x]
  else if x < 2048 then [192 + x / 64, 128 + x % 64]
  else if x < 65536 then [224 + x / 4096, 128 + x / 64 % 64, 128 + x % 64]
  else [240 + x / 262144, 128 + x / 4096 % 64, 128 + x / 64 % 64, 128 + x % 64]
def put (x : Int) : List Int := enc (pt x)
def puts (xs : List Int) : List Int := xs.flatMap put

theorem pointOk_iff (x : Int) : pointOk x = true ↔ (0 ≤ x ∧ x ≤ 1114111 ∧ (x < 55296 ∨ 57343 < x)) := by
  simp [pointOk]; omega
theorem pt_ok (x : Int) : 0 ≤ pt x ∧ pt x ≤ 1114111 ∧ (pt x < 55296 ∨ 57343 < pt x) := by
  unfold pt
  cases h : pointOk x
  · simp
  · simpa using (pointOk_iff x).mp h
theorem pt_of (x : Int) (h : pointOk x = true) : pt x = x := by simp [pt, h]
theorem pt_not (x : Int) (h : pointOk x = false) : pt x = 65533 := by simp [pt, h]
theorem enc1 {x : Int} (h : x < 128) : enc x = [x] := by simp [enc, h]
theorem enc2 {x : Int} (h : 128 ≤ x) (h' : x < 2048) : enc x = [192 + x / 64, 128 + x % 64] := by
  have : ¬ x < 128 := by omega
  simp [enc, h', this]
theorem enc3 {x : Int} (h : 2048 ≤ x) (h' : x < 65536) : enc x = [224 + x / 4096, 128 + x / 64 % 64, 128 + x % 64] := by
  have h1 : ¬ x < 128 := by omega
  have h2 : ¬ x < 2048 := by omega
  simp [enc, h', h1, h2]
theorem enc4 {x : Int} (h : 65536 ≤ x) : enc x = [240 + x / 262144, 128 + x / 4096 % 64, 128 + x / 64 % 64, 128 + x % 64] := by
  have h1 : ¬ x < 128 := by omega
  have h2 : ¬ x < 2048 := by omega
  have h3 : ¬ x < 65536 := by omega
  simp [enc, h1, h2, h3]
theorem enc_len (x : Int) : 1 ≤ (enc x).length ∧ (enc x).length ≤ 4 := by
  unfold enc; repeat (split <;> try simp)
theorem put_len (x : Int) : 1 ≤ (put x).length ∧ (put x).length ≤ 4 := enc_len _
theorem puts_len (xs : List Int) : (puts xs).length ≤ 4 * xs.length := by
  induction xs with
  | nil => simp [puts]
  | cons x xs ih => have := (put_len x).2; simp [puts] at ih ⊢; omega
theorem puts_snoc (xs : List Int) (x : Int) : puts (xs ++ [x]) = puts xs ++ put x := by simp [puts]
theorem puts_take_succ (xs : List Int) (k : Nat) (h : k < xs.length) : puts (xs.take (k + 1)) = puts (xs.take k) ++ put xs[k] := by
  rw [List.take_succ_eq_append_getElem h, puts_snoc]
end Go.Proofs.YtggfifchkecnjaaGreatDoor
