/- The plain mathematics of points and their bytes: what is put, as lists of integers. No condition. -/
import Derived.WalkKit
namespace Go.Proofs.YtggfifchkecnjaaDoor

/-- 'x is a point'. -/
def pointOk (x : Int) : Bool := decide (0 ≤ x) && decide (x ≤ 1114111) && !(decide (55296 ≤ x) && decide (x ≤ 57343))
/-- A number as a point: the stand-in for what is none. -/
def pt (x : Int) : Int := bif pointOk x then x else 65533
/-- The bytes of a point. -/
def enc (x : Int) : List Int :=
  if x < 128 then [x]
  else if x < 2048 then [192 + x / 64, 128 + x % 64]
  else if x < 65536 then [224 + x / 4096, 128 + x / 64 % 64, 128 + x % 64]
  else [240 + x / 262144, 128 + x / 4096 % 64, 128 + x / 64 % 64, 128 + x % 64]
def put (x : Int) : List Int := enc (pt x)
/-- The bytes of several numbers. -/
def puts (xs : List Int) : List Int := xs.flatMap put

theorem pointOk_iff (x : Int) : pointOk x = true ↔ (0 ≤ x ∧ x ≤ 1114111 ∧ (x < 55296 ∨ 57343 < x)) := by
  simp [pointOk]; omega
theorem pt_ok (x : Int) : 0 ≤ pt x ∧ pt x ≤ 1114111 ∧ (pt x < 55296 ∨ 57343 < pt x) := by
  unfold pt
  cases h : pointOk x
  · simp
  · simpa using (pointOk_iff x).mp h
theorem pt_of (x : Int) (h : pointOk x = true) : pt x = x := by simp [pt, h]
theorem pt_not (x : Int) (h : pointOk x = false) : pt x = 65533 := by simp [pt, h]
theorem pointOk_pt (x : Int) : pointOk (pt x) = true := (pointOk_iff _).mpr (pt_ok x)
theorem enc1 {x : Int} (h : x < 128) : enc x = [x] := by simp [enc, h]
theorem enc2 {x : Int} (h : 128 ≤ x) (h' : x < 2048) : enc x = [192 + x / 64, 128 + x % 64] := by
  have : ¬ x < 128 := by omega
  simp [enc, h', this]
theorem enc3 {x : Int} (h : 2048 ≤ x) (h' : x < 65536) : enc x = [224 + x / 4096, 128 + x / 64 % 64, 128 + x % 64] := by
  have h1 : ¬ x < 128 := by omega
  have h2 : ¬ x < 2048 := by omega
  simp [enc, h', h1, h2]
theorem enc4 {x : Int} (h : 65536 ≤ x) : enc x = [240 + x / 262144, 128 + x / 4096 % 64, 128 + x / 64 % 64, 128 + x % 64] := by
  have h1 : ¬ x < 128 := by omega
  have h2 : ¬ x < 2048 := by omega
  have h3 : ¬ x < 65536 := by omega
  simp [enc, h1, h2, h3]
theorem enc_len (x : Int) : 1 ≤ (enc x).length ∧ (enc x).length ≤ 4 := by
  unfold enc; repeat (split <;> try simp)
theorem put_len (x : Int) : 1 ≤ (put x).length ∧ (put x).length ≤ 4 := enc_len _
theorem puts_len (xs : List Int) : (puts xs).length ≤ 4 * xs.length := by
  induction xs with
  | nil => simp [puts]
  | cons x xs ih => have := (put_len x).2; simp [puts] at ih ⊢; omega
theorem puts_snoc (xs : List Int) (x : Int) : puts (xs ++ [x]) = puts xs ++ put x := by simp [puts]
theorem puts_take_succ (xs : List Int) (k : Nat) (h : k < xs.length) : puts (xs.take (k + 1)) = puts (xs.take k) ++ put xs[k] := by
  rw [List.take_succ_eq_append_getElem h, puts_snoc]
end Go.Proofs.YtggfifchkecnjaaDoor

/- The plain mathematics of reading points from bytes, as lists of integers. No condition. -/
namespace Go.Proofs.YtggfifchkecnjaaDoor

def loOf (b : Int) : Int := if b = 224 then 160 else if b = 240 then 144 else 128
def hiOf (b : Int) : Int := if b = 237 then 159 else if b = 244 then 143 else 191

/-- What a form that has p of its point so far comes to, if 'left' bytes are still to come, the next one in 'lo .. hi': the point, and what stands behind. -/
def tailOf (p : Int) : Nat → Int → Int → List Int → Int × List Int
  | 0, _, _, r => (p, r)
  | _ + 1, _, _, [] => (65533, [])
  | k + 1, lo, hi, c :: r => if lo ≤ c ∧ c ≤ hi then tailOf (p * 64 + c - 128) k 128 191 r else (65533, c :: r)

/-- The first point of bytes that begin with b, and what stands behind it. -/
def stepOf (b : Int) (r : List Int) : Int × List Int :=
  if b < 128 then (b, r)
  else if 194 ≤ b ∧ b ≤ 223 then tailOf (b - 192) 1 (loOf b) (hiOf b) r
  else if 224 ≤ b ∧ b ≤ 239 then tailOf (b - 224) 2 (loOf b) (hiOf b) r
  else if 240 ≤ b ∧ b ≤ 244 then tailOf (b - 240) 3 (loOf b) (hiOf b) r
  else (65533, r)

theorem tailOf_le (p : Int) (k : Nat) (lo hi : Int) (r : List Int) : (tailOf p k lo hi r).2.length ≤ r.length := by
  induction k generalizing p lo hi r with
  | zero => simp [tailOf]
  | succ k ih =>
    cases r with
    | nil => simp [tailOf]
    | cons c r =>
      unfold tailOf; split
      · exact Nat.le_trans (ih ..) (by simp)
      · simp
theorem stepOf_le (b : Int) (r : List Int) : (stepOf b r).2.length ≤ r.length := by
  unfold stepOf; repeat' split
  all_goals first | exact tailOf_le .. | exact Nat.le_refl _

/-- The points of bytes, at most n of them. -/
def decF : Nat → List Int → List Int
  | 0, _ => []
  | _ + 1, [] => []
  | n + 1, b :: r => (stepOf b r).1 :: decF n (stepOf b r).2
/-- The points of bytes. -/
def dec (l : List Int) : List Int := decF l.length l

theorem decF_more (n m : Nat) (l : List Int) (hn : l.length ≤ n) (hm : l.length ≤ m) : decF n l = decF m l := by
  induction n generalizing m l with
  | zero =>
    have : l = [] := List.length_eq_zero_iff.mp (by omega)
    subst this
    cases m <;> rfl
  | succ n ih =>
    cases l with
    | nil => cases m <;> rfl
    | cons b r =>
      cases m with
      | zero => simp at hm
      | succ m =>
        have h := stepOf_le b r
        simp at hn hm
        show (stepOf b r).1 :: decF n (stepOf b r).2 = (stepOf b r).1 :: decF m (stepOf b r).2
        rw [ih m (stepOf b r).2 (by omega) (by omega)]
theorem dec_nil : dec [] = [] := rfl
theorem dec_cons (b : Int) (r : List Int) : dec (b :: r) = (stepOf b r).1 :: dec (stepOf b r).2 := by
  show (stepOf b r).1 :: decF r.length (stepOf b r).2 = _
  rw [decF_more r.length (stepOf b r).2.length _ (stepOf_le b r) (Nat.le_refl _)]
  rfl
theorem dec_len (n : Nat) (l : List Int) (h : l.length ≤ n) : (dec l).length ≤ l.length := by
  induction n generalizing l with
  | zero => have : l = [] := List.length_eq_zero_iff.mp (by omega)
            subst this; simp [dec_nil]
  | succ n ih =>
    cases l with
    | nil => simp [dec_nil]
    | cons b r =>
      rw [dec_cons]
      have h1 := stepOf_le b r
      have h2 := ih (stepOf b r).2 (by simp at h; omega)
      simp; omega

theorem dec_ascii {b : Int} (r : List Int) (h : b < 128) : dec (b :: r) = b :: dec r := by rw [dec_cons]; simp [stepOf, h]
theorem dec_bad {b : Int} (r : List Int) (h : 128 ≤ b ∧ b < 194 ∨ 244 < b) : dec (b :: r) = 65533 :: dec r := by
  have e : stepOf b r = (65533, r) := by
    unfold stepOf
    rw [if_neg (by omega), if_neg (by omega), if_neg (by omega), if_neg (by omega)]
  rw [dec_cons, e]
theorem dec_two {b : Int} (r : List Int) (h : 194 ≤ b ∧ b ≤ 223) : dec (b :: r) = (tailOf (b - 192) 1 (loOf b) (hiOf b) r).1 :: dec (tailOf (b - 192) 1 (loOf b) (hiOf b) r).2 := by
  have e : stepOf b r = tailOf (b - 192) 1 (loOf b) (hiOf b) r := by
    unfold stepOf
    rw [if_neg (by omega), if_pos h]
  rw [dec_cons, e]
theorem dec_three {b : Int} (r : List Int) (h : 224 ≤ b ∧ b ≤ 239) : dec (b :: r) = (tailOf (b - 224) 2 (loOf b) (hiOf b) r).1 :: dec (tailOf (b - 224) 2 (loOf b) (hiOf b) r).2 := by
  have e : stepOf b r = tailOf (b - 224) 2 (loOf b) (hiOf b) r := by
    unfold stepOf
    rw [if_neg (by omega), if_neg (by omega), if_pos h]
  rw [dec_cons, e]
theorem dec_four {b : Int} (r : List Int) (h : 240 ≤ b ∧ b ≤ 244) : dec (b :: r) = (tailOf (b - 240) 3 (loOf b) (hiOf b) r).1 :: dec (tailOf (b - 240) 3 (loOf b) (hiOf b) r).2 := by
  have e : stepOf b r = tailOf (b - 240) 3 (loOf b) (hiOf b) r := by
    unfold stepOf
    rw [if_neg (by omega), if_neg (by omega), if_neg (by omega), if_pos h]
  rw [dec_cons, e]
theorem tail_end (p : Int) (k : Nat) (lo hi : Int) : tailOf p (k + 1) lo hi [] = (65533, []) := rfl
theorem tail_out {c : Int} (p : Int) (k : Nat) {lo hi : Int} (r : List Int) (h : c < lo ∨ hi < c) : tailOf p (k + 1) lo hi (c :: r) = (65533, c :: r) := by
  rw [tailOf, if_neg (by omega)]
theorem tail_in {c : Int} (p : Int) (k : Nat) {lo hi : Int} (r : List Int) (h : lo ≤ c) (h' : c ≤ hi) : tailOf p (k + 1) lo hi (c :: r) = tailOf (p * 64 + c - 128) k 128 191 r := by
  rw [tailOf, if_pos ⟨h, h'⟩]
theorem lo_hi (b : Int) : 128 ≤ loOf b ∧ loOf b ≤ 160 ∧ 143 ≤ hiOf b ∧ hiOf b ≤ 191 := by
  unfold loOf hiOf; repeat' split
  all_goals omega

/-- The mark at the very beginning is left out. -/
def unmark (bs : List Int) : List Int := if bs.take 3 = [239, 187, 191] then bs.drop 3 else bs
/-- What UtfRead answers. -/
def utfRead (bs : List Int) : List Int := if bs.length ≤ 3000 then dec (unmark bs) else []
theorem unmark_len (bs : List Int) : (unmark bs).length ≤ bs.length := by unfold unmark; split <;> simp
theorem utfRead_len (bs : List Int) : (utfRead bs).length ≤ 3000 := by
  unfold utfRead; split
  · have h1 := dec_len _ (unmark bs) (Nat.le_refl _)
    have h2 := unmark_len bs
    omega
  · simp
end Go.Proofs.YtggfifchkecnjaaDoor
