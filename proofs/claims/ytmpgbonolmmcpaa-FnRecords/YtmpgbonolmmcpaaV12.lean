/- Contracts of the laws' helpers on disks: held against each other, measured, copied. No condition. -/
import Derived.Test.YtmpgbonolmmcpaaV11
import Derived.Test.YtmpgbonolmmcpaaV4
import Derived.OwnWalk
import Derived.RangeFuncRecord
import Derived.Test.YtmpgbonolmmcpaaV0
import Derived.Test.YtmpgbonolmmcpaaRows
namespace Go.Proofs.Ytmpgbonolmmcpaa
open Go.RowKit
set_option maxRecDepth 100000
set_option linter.unusedVariables false

theorem pdisk_eq {d e : PDisk} : decide (d.safe = e.safe ∧ d.late = e.late) = true ↔ d = e := by
  cases d; cases e; simp
theorem Try.infoStr : (Try.prog.info? 9).map (fun i => (i.zero, i.size, i.bytes)) = some (some (.string ⟨#[]⟩), 1, 16) := by kernel_rfl

theorem put_take_set {cs : List Value} {rs : List (Int × ByteArray)} {k : Nat} (hk : k < rs.length) (hl : cs.length = rs.length * 2) (h : cs.take (k * 2) = putCells (rs.take k)) :
    ((cs.set (k * 2) (.int .i64 rs[k].1)).set (k * 2 + 1) (.string rs[k].2)).take ((k + 1) * 2) = putCells (rs.take (k + 1)) := by
  have e1 : putCells (rs.take (k + 1)) = putCells (rs.take k) ++ [.int .i64 rs[k].1, .string rs[k].2] := by
    rw [List.take_succ_eq_append_getElem hk]
    unfold putCells
    rw [List.flatMap_append]
    rfl
  rw [e1, ← h]
  apply List.ext_getElem?
  intro i
  have e2 : (k + 1) * 2 = k * 2 + 2 := by omega
  by_cases hi : i < k * 2
  · rw [List.getElem?_take_of_lt (by omega), List.getElem?_set_ne (by omega), List.getElem?_set_ne (by omega), List.getElem?_append_left (by simp; omega), List.getElem?_take_of_lt hi]
  · have hlt : (cs.take (k * 2)).length = k * 2 := by simp; omega
    rw [List.getElem?_append_right (by omega), hlt]
    by_cases h0 : i = k * 2
    · subst h0
      rw [List.getElem?_take_of_lt (by omega), List.getElem?_set_ne (by omega), List.getElem?_set_self (by omega)]
      simp
    · by_cases h1 : i = k * 2 + 1
      · subst h1
        rw [List.getElem?_take_of_lt (by omega), List.getElem?_set_self (by rw [List.length_set]; omega)]
        simp
      · rw [List.getElem?_eq_none (by simp; omega), List.getElem?_eq_none (by simp; omega)]

end Go.Proofs.Ytmpgbonolmmcpaa

/- The specification's questions of a disk: DiskOk, SectorOf. No condition. -/
namespace Go.Proofs.Ytmpgbonolmmcpaa
open Go.RowKit
set_option maxRecDepth 100000
set_option linter.unusedVariables false

theorem diskB_len {d : PDisk} (h : diskB d = true) : d.safe.length = 130 ∧ d.late.length ≤ 200 := by
  simp only [diskB, Bool.and_eq_true, decide_eq_true_eq] at h
  exact h.1.1
theorem diskB_safe {d : PDisk} (h : diskB d = true) {k : Nat} (hk : k < d.safe.length) : d.safe[k].size = 64 := by
  simp only [diskB, Bool.and_eq_true, decide_eq_true_eq, List.all_eq_true] at h
  exact h.1.2 _ (List.getElem_mem hk)
theorem diskB_late {d : PDisk} (h : diskB d = true) {k : Nat} (hk : k < d.late.length) : 0 ≤ d.late[k].1 ∧ d.late[k].1 < 130 ∧ d.late[k].2.size = 64 := by
  simp only [diskB, Bool.and_eq_true, decide_eq_true_eq, List.all_eq_true] at h
  have := h.2 _ (List.getElem_mem hk)
  simp only [inB, Bool.and_eq_true, decide_eq_true_eq] at this
  omega
theorem diskB_no1 {d : PDisk} (h : d.safe.length ≠ 130) : diskB d = false := by simp [diskB, h]
theorem diskB_no2 {d : PDisk} (h : 200 < d.late.length) : diskB d = false := by
  have : ¬ d.late.length ≤ 200 := by omega
  simp [diskB, this]
theorem diskB_no3 {d : PDisk} {k : Nat} (hk : k < d.safe.length) (h : d.safe[k].size ≠ 64) : diskB d = false := by
  cases hb : diskB d
  · rfl
  · exact absurd (diskB_safe hb hk) h
theorem diskB_no4 {d : PDisk} {k : Nat} (hk : k < d.late.length) (h : inB d.late[k].1 0 129 = false ∨ d.late[k].2.size ≠ 64) : diskB d = false := by
  cases hb : diskB d
  · rfl
  · have := diskB_late hb hk
    rcases h with h | h
    · rw [inB_yes (by omega) (by omega)] at h; cases h
    · exact absurd this.2.2 h
theorem diskB_yes {d : PDisk} (h1 : d.safe.length = 130) (h2 : d.late.length ≤ 200) (h3 : ∀ k (hk : k < d.safe.length), d.safe[k].size = 64) (h4 : ∀ k (hk : k < d.late.length), inB d.late[k].1 0 129 = true ∧ d.late[k].2.size = 64) : diskB d = true := by
  simp only [diskB, Bool.and_eq_true, decide_eq_true_eq, List.all_eq_true]
  refine ⟨⟨⟨h1, h2⟩, fun s hs => ?_⟩, fun p hp => ?_⟩
  · obtain ⟨k, hk, rfl⟩ := List.getElem_of_mem hs; exact h3 k hk
  · obtain ⟨k, hk, rfl⟩ := List.getElem_of_mem hp; exact h4 k hk

end Go.Proofs.Ytmpgbonolmmcpaa

/- What disks answer, in plain words. No condition. -/
namespace Go.Proofs.Ytmpgbonolmmcpaa
open Go.RowKit
set_option maxRecDepth 100000
set_option linter.unusedVariables false

/-- The text of the last put of a sector, if there is one. -/
def putAt (x : Int) : List (Int × ByteArray) → Option ByteArray
  | [] => none
  | p :: ps => match putAt x ps with
    | some s => some s
    | none => if p.1 = x then some p.2 else none
theorem putAt_snoc (x : Int) (ps : List (Int × ByteArray)) (p : Int × ByteArray) : putAt x (ps ++ [p]) = if p.1 = x then some p.2 else putAt x ps := by
  induction ps with
  | nil => simp [putAt]
  | cons q ps ih =>
    rw [List.cons_append, putAt, ih]
    by_cases h : p.1 = x
    · simp [h]
    · simp [h, putAt]
theorem putAt_take {x : Int} {ps : List (Int × ByteArray)} {k : Nat} (hk : k < ps.length) : putAt x (ps.take (k + 1)) = if ps[k].1 = x then some ps[k].2 else putAt x (ps.take k) := by
  rw [List.take_succ_eq_append_getElem hk, putAt_snoc]
/-- What a sector has. -/
def sectorD (d : PDisk) (x : Int) : ByteArray := (putAt x d.late).getD (d.safe.getD x.toNat ⟨#[]⟩)
/-- Number k is among those that are kept. -/
def bitB (keep : Int) (k : Nat) : Bool := decide (keep / 2 ^ (k % 31) % 2 = 1)
/-- The texts when k puts are done, or left out. -/
def doneN (keep : Int) (safe : List ByteArray) (ps : List (Int × ByteArray)) : Nat → List ByteArray
  | 0 => safe
  | k + 1 => match ps[k]? with
    | some p => if bitB keep k then (doneN keep safe ps k).set p.1.toNat p.2 else doneN keep safe ps k
    | none => doneN keep safe ps k
theorem doneN_succ {keep : Int} {safe : List ByteArray} {ps : List (Int × ByteArray)} {k : Nat} (h : k < ps.length) : doneN keep safe ps (k + 1) = if bitB keep k then (doneN keep safe ps k).set ps[k].1.toNat ps[k].2 else doneN keep safe ps k := by
  simp [doneN, h]
theorem doneN_len (keep : Int) (safe : List ByteArray) (ps : List (Int × ByteArray)) (k : Nat) : (doneN keep safe ps k).length = safe.length := by
  induction k with
  | zero => rfl
  | succ k ih =>
    rw [doneN]
    split
    · split
      · rw [List.length_set, ih]
      · exact ih
    · exact ih
theorem doneN_size {keep : Int} {safe : List ByteArray} {ps : List (Int × ByteArray)} {m : Nat} (h1 : ∀ s ∈ safe, s.size ≤ m) (h2 : ∀ p ∈ ps, p.2.size ≤ m) (k : Nat) : ∀ s ∈ doneN keep safe ps k, s.size ≤ m := by
  induction k with
  | zero => exact h1
  | succ k ih =>
    rw [doneN]
    split
    · rename_i p hp
      split
      · intro s hs
        rcases List.mem_or_eq_of_mem_set hs with h | h
        · exact ih s h
        · subst h; exact h2 p (List.mem_of_getElem? hp)
      · exact ih
    · exact ih
def doneDk (keep : Int) (d : PDisk) : PDisk := ⟨doneN keep d.safe d.late d.late.length, []⟩
def zeroDk : PDisk := ⟨[], []⟩
def zeros64 : ByteArray := strOf (List.replicate 64 0)
theorem zeros64_size : zeros64.size = 64 := by decide +kernel
def newDk : PDisk := ⟨List.replicate 130 zeros64, []⟩
def putDk (d : PDisk) (x : Int) (s : ByteArray) : PDisk × Bool :=
  if diskB d = false then (zeroDk, false) else if inB x 0 129 = false ∨ s.size ≠ 64 ∨ d.late.length = 200 then (d, false) else (⟨d.safe, d.late ++ [(x, s)]⟩, true)
def syncDk (d : PDisk) : PDisk × Bool := if diskB d = false then (zeroDk, false) else (doneDk 2147483647 d, true)
def crashDk (d : PDisk) (keep : Int) : PDisk × Bool := if diskB d = false ∨ inB keep 0 2147483647 = false then (zeroDk, false) else (doneDk keep d, true)
def sectorDk (d : PDisk) (x : Int) : ByteArray × Bool := if diskB d = false ∨ inB x 0 129 = false then (⟨#[]⟩, false) else (sectorD d x, true)
end Go.Proofs.Ytmpgbonolmmcpaa

/- The number form as a list, and its plain laws. No condition. -/
namespace Go.Proofs.Ytmpgbonolmmcpaa
open Go.RowKit
set_option maxRecDepth 100000
set_option linter.unusedVariables false

/-- The number form, with how many bytes may stand behind the first. -/
def nf : Nat → Int → List Int
  | 0, x => [x]
  | m + 1, x => if x < 128 then [x] else (128 + x % 128) :: nf m (x / 128)

/-- The number form of any number. -/
def form (x : Int) : List Int := if x < 0 then [] else nf 8 x

/-- The number has a form of at most m + 1 bytes. -/
def Bd (m : Nat) (x : Int) : Prop := 0 ≤ x ∧ x < 128 ^ (m + 1)

theorem Bd.next {m : Nat} {x : Int} (h : Bd m x) (hx : 128 ≤ x) : ∃ n, m = n + 1 ∧ Bd n (x / 128) := by
  obtain ⟨h0, h1⟩ := h
  cases m with
  | zero => simp at h1; omega
  | succ n =>
    refine ⟨n, rfl, by omega, ?_⟩
    rw [Int.pow_succ] at h1
    exact Int.ediv_lt_of_lt_mul (by omega) h1
theorem bd_of {x : Int} (h0 : 0 ≤ x) (h1 : x ≤ 9223372036854775807) : Bd 8 x := ⟨h0, by
  have : (128 : Int) ^ (8 + 1) = 9223372036854775808 := by decide
  omega⟩

theorem nf_lt {m : Nat} {x : Int} (h : x < 128) : nf m x = [x] := by
  cases m with
  | zero => rfl
  | succ m => simp [nf, h]
theorem nf_ge {m : Nat} {x : Int} (h : 128 ≤ x) : nf (m + 1) x = (128 + x % 128) :: nf m (x / 128) := by
  have : ¬ x < 128 := by omega
  simp [nf, this]
theorem nf_len (m : Nat) (x : Int) : 1 ≤ (nf m x).length ∧ (nf m x).length ≤ m + 1 := by
  induction m generalizing x with
  | zero => simp [nf]
  | succ m ih =>
    unfold nf
    split
    · simp
    · have := ih (x / 128); simp; omega
theorem nf_byte {m : Nat} {x : Int} (h : Bd m x) : ∀ y ∈ nf m x, 0 ≤ y ∧ y ≤ 255 := by
  induction m generalizing x with
  | zero =>
    intro y hy
    have h0 := h.1
    have h1 := h.2
    simp [nf] at hy h1
    omega
  | succ m ih =>
    intro y hy
    have h0 := h.1
    by_cases hx : x < 128
    · rw [nf_lt hx] at hy; simp at hy; omega
    · obtain ⟨n, e, hb⟩ := h.next (by omega)
      cases e
      rw [nf_ge (by omega)] at hy
      rcases List.mem_cons.mp hy with e | hy
      · omega
      · exact ih hb y hy
theorem form_len (x : Int) : (form x).length ≤ 9 := by
  unfold form; split
  · simp
  · exact (nf_len 8 x).2
theorem form_byte {x : Int} (h : x ≤ 9223372036854775807) : ∀ y ∈ form x, 0 ≤ y ∧ y ≤ 255 := by
  unfold form; split
  · simp
  · exact nf_byte (bd_of (by omega) h)
end Go.Proofs.Ytmpgbonolmmcpaa

/- Reading a number form off a list of bytes. No condition. -/
namespace Go.Proofs.Ytmpgbonolmmcpaa
open Go.RowKit
set_option maxRecDepth 100000
set_option linter.unusedVariables false

/-- At most m bytes more, k have been read, acc is what they give. -/
def rdA : Nat → Nat → Int → List Int → Option (Int × Nat)
  | 0, _, _, _ => none
  | _ + 1, _, _, [] => none
  | m + 1, k, acc, d :: ds => if d < 128 then (if d = 0 ∧ 0 < k then none else some (acc + d * 128 ^ k, k + 1)) else rdA m (k + 1) (acc + d % 128 * 128 ^ k) ds

/-- What GetNum finds at a place. -/
def rdI (xs : List Int) (i : Int) : Option (Int × Nat) := if i < 0 then none else rdA 9 0 0 (xs.drop i.toNat)

theorem rdA_nil {m k : Nat} {acc : Int} : rdA m k acc [] = none := by cases m <;> rfl
theorem rdA_zero {k : Nat} {acc : Int} {ds : List Int} : rdA 0 k acc ds = none := rfl
theorem rdA_end {m k : Nat} {acc d : Int} {ds : List Int} (h : d < 128) (h0 : ¬ (d = 0 ∧ 0 < k)) : rdA (m + 1) k acc (d :: ds) = some (acc + d * 128 ^ k, k + 1) := by
  simp only [rdA, if_pos h, if_neg h0]
theorem rdA_bad {m k : Nat} {acc d : Int} {ds : List Int} (h : d < 128) (h0 : d = 0 ∧ 0 < k) : rdA (m + 1) k acc (d :: ds) = none := by
  simp only [rdA, if_pos h, if_pos h0]
theorem rdA_on {m k : Nat} {acc d : Int} {ds : List Int} (h : ¬ d < 128) : rdA (m + 1) k acc (d :: ds) = rdA m (k + 1) (acc + d % 128 * 128 ^ k) ds := by
  simp only [rdA, if_neg h]
theorem rdI_neg {xs : List Int} {i : Int} (h : i < 0) : rdI xs i = none := by simp [rdI, h]
theorem rdI_out {xs : List Int} {i : Int} (h : (xs.length : Int) ≤ i) : rdI xs i = none := by
  unfold rdI
  rw [if_neg (by omega), List.drop_eq_nil_of_le (by omega), rdA_nil]
theorem rdI_nat (xs : List Int) (k : Nat) : rdI xs k = rdA 9 0 0 (xs.drop k) := by
  unfold rdI
  rw [if_neg (by omega), Int.toNat_natCast]

/-- What the powers of 128 are, up to nine. -/
theorem pow_pos7 (k : Nat) : (1 : Int) ≤ 128 ^ k := by
  induction k with
  | zero => simp
  | succ k ih => rw [Int.pow_succ]; omega
theorem pow_le7 {k : Nat} (h : k ≤ 8) : (128 : Int) ^ k ≤ 72057594037927936 := by
  have : ∀ k, k ≤ 8 → (128 : Int) ^ k ≤ 72057594037927936 := by decide
  exact this k h
/-- One more byte of a form: no wrap. -/
theorem acc_step {k : Nat} {acc d : Int} (h0 : 0 ≤ acc) (h1 : acc < 128 ^ k) (d0 : 0 ≤ d) (d1 : d < 128) : 0 ≤ acc + d * 128 ^ k ∧ acc + d * 128 ^ k < 128 ^ (k + 1) := by
  have hp := pow_pos7 k
  rw [Int.pow_succ]
  generalize (128 : Int) ^ k = p at *
  have e1 : 0 ≤ d * p := Int.mul_nonneg d0 (by omega)
  have e2 : d * p ≤ 127 * p := Int.mul_le_mul_of_nonneg_right (by omega) (by omega)
  omega
/-- What is read lies within the list, and is a number not below nought. -/
theorem rdA_some {m k : Nat} {acc y : Int} {n : Nat} {ds : List Int} (h : rdA m k acc ds = some (y, n)) (hb : ∀ x ∈ ds, 0 ≤ x ∧ x ≤ 255) (h0 : 0 ≤ acc) (h1 : acc < 128 ^ k) (hm : k + m ≤ 9) :
    k < n ∧ n ≤ k + ds.length ∧ n ≤ 9 ∧ 0 ≤ y ∧ y ≤ 9223372036854775807 := by
  induction m generalizing k acc ds with
  | zero => rw [rdA_zero] at h; cases h
  | succ m ih =>
    cases ds with
    | nil => rw [rdA_nil] at h; cases h
    | cons d ds =>
      have hd := hb d (by simp)
      by_cases hl : d < 128
      · by_cases hz : d = 0 ∧ 0 < k
        · rw [rdA_bad hl hz] at h; cases h
        · rw [rdA_end hl hz] at h
          cases h
          have hs := acc_step (k := k) h0 h1 hd.1 hl
          have hp := pow_le7 (k := k) (by omega)
          rw [Int.pow_succ] at hs
          simp only [List.length_cons]
          omega
      · rw [rdA_on hl] at h
        have hs := acc_step (k := k) (d := d % 128) h0 h1 (by omega) (by omega)
        have := ih h (fun x hx => hb x (by simp [hx])) hs.1 hs.2 (by omega)
        simp only [List.length_cons]
        omega
theorem rdI_some {xs : List Int} {i y : Int} {n : Nat} (h : rdI xs i = some (y, n)) (hb : ∀ x ∈ xs, 0 ≤ x ∧ x ≤ 255) : 0 ≤ i ∧ i < xs.length ∧ 0 < n ∧ i + n ≤ xs.length ∧ n ≤ 9 ∧ 0 ≤ y ∧ y ≤ 9223372036854775807 := by
  by_cases h0 : i < 0
  · rw [rdI_neg h0] at h; cases h
  · by_cases h1 : (xs.length : Int) ≤ i
    · rw [rdI_out h1] at h; cases h
    · unfold rdI at h
      rw [if_neg h0] at h
      have := rdA_some h (fun x hx => hb x (List.mem_of_mem_drop hx)) (by omega) (by simp) (by omega)
      rw [List.length_drop] at this
      omega
end Go.Proofs.Ytmpgbonolmmcpaa

/- The specification's GetNum, at every list of bytes. -/
namespace Go.Proofs.Ytmpgbonolmmcpaa
open Go.RowKit
set_option maxRecDepth 100000
set_option linter.unusedVariables false

/-- What GetNum answers, of what is read at a place. -/
def numVal (i : Int) : Option (Int × Nat) → Value
  | some (y, n) => .tuple #[.int .i64 y, .int .i64 (i + n), .bool true]
  | none => .tuple #[.int .i64 0, .int .i64 0, .bool false]

theorem mul_eq7 {k : Nat} {acc d : Int} (hk : k ≤ 8) (h0 : 0 ≤ acc) (h1 : acc < 128 ^ k) (d0 : 0 ≤ d) (d1 : d < 128) : wrap64 (acc + wrap64 (d * 128 ^ k)) = acc + d * 128 ^ k := by
  have hs := acc_step (k := k) h0 h1 d0 d1
  have hp := pow_le7 hk
  have hq := pow_pos7 k
  rw [Int.pow_succ] at hs
  have e1 : 0 ≤ d * 128 ^ k := Int.mul_nonneg d0 (by omega)
  generalize d * 128 ^ k = q at *
  generalize (128 : Int) ^ k = p at *
  have w1 : wrap64 q = q := by unfold wrap64; omega
  rw [w1]
  unfold wrap64
  omega

theorem tup3 {a a' b b' : Int} {c : Bool} (ha : a = a') (hb : b = b') : Ending.returned (.tuple #[.int .i64 a, .int .i64 b, .bool c]) = .returned (.tuple #[.int .i64 a', .int .i64 b', .bool c]) := by rw [ha, hb]

theorem sgetNum_any {v : Value} {xs : List Int} {i : Int} {w : World} (h : Sl .u8 w v xs) (hb : ∀ x ∈ xs, 0 ≤ x ∧ x ≤ 255) (hn : xs.length ≤ 1099511627776) :
    Calls Try.prog 68 #[v, .int .i64 i] w fun e w' => e = .returned (numVal i (rdI xs i)) ∧ w' = w := by
  obtain ⟨a, ca, rfl, _, _, _, ha⟩ := h
  have HB : Hid (∀ x ∈ xs, 0 ≤ x ∧ x ≤ 255) := hb
  clear hb
  by_cases hi : i < 0
  · rw [rdI_neg hi]
    go_enter Try.func68, Try.ntmps68
    go_wp2
    go_ret3
    exact ⟨rfl, rfl⟩
  · by_cases hl : (xs.length : Int) ≤ i
    · rw [rdI_out hl]
      go_enter Try.func68, Try.ntmps68
      go_wp2
      go_ret3
      exact ⟨rfl, rfl⟩
    · obtain ⟨k0, rfl⟩ : ∃ k : Nat, i = k := ⟨i.toNat, by omega⟩
      rw [rdI_nat]
      have hk0 : k0 < xs.length := by omega
      obtain ⟨R, hR⟩ : ∃ R, R = rdA 9 0 0 (xs.drop k0) := ⟨_, rfl⟩
      rw [← hR]
      have HR := (show Hid (_ = _) from hR)
      clear hR
      go_enter Try.func68, Try.ntmps68
      go_wp2
      go_loop [7, 8, 9] (fun x u s => ∃ (k : Nat) (acc : Int), k ≤ 9 ∧ k0 + k ≤ xs.length ∧ s = .int .i64 k ∧ x = .int .i64 acc ∧ (∃ p : Int, u = .int .i64 p ∧ Hid (k ≤ 8 → p = 128 ^ k)) ∧ Hid (0 ≤ acc ∧ acc < 128 ^ k) ∧ Hid (rdA (9 - k) k acc (xs.drop (k0 + k)) = R)) (fun _ _ s => 9 - (intOf s).toNat)
      case atStart => exact ⟨0, 0, by omega, by omega, rfl, rfl, ⟨1, rfl, fun _ => by simp⟩, ⟨by omega, by simp⟩, HR.out.symm⟩
      case round =>
        clear HR
        obtain ⟨k, acc, hk, hkl, rfl, rfl, ⟨p, rfl, HP⟩, HA, HEQ⟩ := hrel
        by_cases hk9 : k < 9
        · by_cases hin : k0 + k < xs.length
          · obtain ⟨b1, o1, rfl, cx⟩ := ha (k0 + k) hin
            obtain ⟨d, hd⟩ : ∃ d, d = xs.getD (k0 + k) 0 := ⟨_, rfl⟩
            rw [← hd] at cx
            have hdb : 0 ≤ d ∧ d ≤ 255 := by
              rw [hd, List.getD_eq_getElem?_getD, List.getElem?_eq_getElem hin]
              exact HB.out _ (List.getElem_mem hin)
            have hdrop : xs.drop (k0 + k) = d :: xs.drop (k0 + k + 1) := by
              rw [hd, List.drop_eq_getElem_cons hin, List.getD_eq_getElem?_getD, List.getElem?_eq_getElem hin]
              rfl
            have HD := (show Hid (_ = _) from hdrop)
            clear hd hdrop ha
            have hin' : (k0 : Int) + k < xs.length := by omega
            by_cases hlt : d < 128
            · have hdm : d % 128 = d := by omega
              by_cases hbad : d = 0 ∧ 0 < k
              · obtain ⟨rfl, hkp⟩ := hbad
                have hkp' : (0 : Int) < k := by omega
                go_wp2
                go_ret3
                have e : R = none := by
                  rw [← HEQ.out, HD.out]
                  obtain ⟨m, hm⟩ : ∃ m, 9 - k = m + 1 := ⟨9 - k - 1, by omega⟩
                  rw [hm, rdA_bad (by omega) ⟨rfl, hkp⟩]
                rw [e]
                exact ⟨rfl, rfl⟩
              · have e : R = some (acc + d * 128 ^ k, k + 1) := by
                  rw [← HEQ.out, HD.out]
                  obtain ⟨m, hm⟩ : ∃ m, 9 - k = m + 1 := ⟨9 - k - 1, by omega⟩
                  rw [hm, rdA_end hlt hbad]
                have E := (show Hid (_ = _) from e)
                clear e
                by_cases hd0 : d = 0
                · have hkz : k = 0 := by omega
                  have hkn : ¬ ((0 : Int) < k) := by omega
                  have hkn' : decide ((0 : Int) < k) = false := by simp; omega
                  have HK := (show Hid (k = 0) from hkz)
                  subst hd0
                  clear hkz
                  go_wp2
                  go_ret3
                  rw [E.out]
                  have ha := HA.out
                  rw [HK.out] at ha
                  have ha0 : acc = 0 := by have := ha.2; simp at this; omega
                  refine ⟨tup3 ?_ (by omega), rfl⟩
                  rw [ha0]
                  simp [wrap64]
                · have e1 := mul_eq7 (k := k) (d := d) (by omega) HA.out.1 HA.out.2 hdb.1 hlt
                  rw [← HP.out (by omega)] at e1
                  have E1 := (show Hid (_ = _) from e1)
                  clear e1
                  go_wp2
                  go_ret3
                  rw [E.out]
                  exact ⟨tup3 (by rw [E1.out, HP.out (by omega)]) (by omega), rfl⟩
            · have e1 := mul_eq7 (k := k) (d := d % 128) (by omega) HA.out.1 HA.out.2 (by omega) (by omega)
              have e2 := acc_step (k := k) (d := d % 128) HA.out.1 HA.out.2 (by omega) (by omega)
              rw [← HP.out (by omega)] at e1
              have E1 := (show Hid (_ = _) from e1)
              have E2 := (show Hid (_ ∧ _) from e2)
              clear e1 e2
              go_wp2
              go_round
              case rel =>
                have hp := HP.out (by omega)
                refine ⟨k + 1, _, by omega, by omega, by go_num, rfl, ⟨_, rfl, fun h8 => ?_⟩, ?_, ?_⟩
                · have h7 := pow_le7 (k := k + 1) h8
                  have h6 := pow_pos7 (k + 1)
                  rw [hp, ← Int.pow_succ]
                  unfold wrap64
                  omega
                · rw [E1.out, hp]
                  exact E2.out
                · show rdA (9 - (k + 1)) (k + 1) _ _ = R
                  rw [E1.out, hp, ← HEQ.out, HD.out, ← Nat.add_assoc]
                  obtain ⟨m, hm⟩ : ∃ m, 9 - k = m + 1 := ⟨9 - k - 1, by omega⟩
                  have hm' : 9 - (k + 1) = m := by omega
                  rw [hm, hm', rdA_on (by omega)]
              case measure => simp [intOf]; omega
          · have hke : k0 + k = xs.length := by omega
            have hke' : (k0 : Int) + k = xs.length := by omega
            clear ha
            go_wp2
            go_ret3
            have e : R = none := by rw [← HEQ.out, List.drop_eq_nil_of_le (by omega), rdA_nil]
            rw [e]
            exact ⟨rfl, rfl⟩
        · have hke : k = 9 := by omega
          subst hke
          clear ha
          go_wp2
          go_ret3
          have e : R = none := by rw [← HEQ.out]; rfl
          rw [e]
          exact ⟨rfl, rfl⟩
end Go.Proofs.Ytmpgbonolmmcpaa
