/- What disks answer, in plain words. No condition. -/
import Derived.Test.YtiejfnnokfedkaaDiskS
namespace Go.Proofs.Ytiejfnnokfedkaa
open Go.RowKit
set_option maxRecDepth 100000
set_option linter.unusedVariables false

/-- The text of the last put of a sector, if there is one. -/
def putAt (x : Int) : List (Int × ByteArray) → Option ByteArray
  | [] => none
  | p :: ps => match putAt x ps with
    | some s => some s
    | none => if p.1 = x then some p.2 else none
theorem putAt_snoc (x : Int) (ps : List (Int × ByteArray)) (p : Int × ByteArray) : putAt x (ps ++ [p]) = if p.1 = x then some p.2 else putAt x ps := by
  induction ps with
  | nil => simp [putAt]
  | cons q ps ih =>
    rw [List.cons_append, putAt, ih]
    by_cases h : p.1 = x
    · simp [h]
    · simp [h, putAt]
theorem putAt_take {x : Int} {ps : List (Int × ByteArray)} {k : Nat} (hk : k < ps.length) : putAt x (ps.take (k + 1)) = if ps[k].1 = x then some ps[k].2 else putAt x (ps.take k) := by
  rw [List.take_succ_eq_append_getElem hk, putAt_snoc]
/-- What a sector has. -/
def sectorD (d : PDisk) (x : Int) : ByteArray := (putAt x d.late).getD (d.safe.getD x.toNat ⟨#[]⟩)
/-- Number k is among those that are kept. -/
def bitB (keep : Int) (k : Nat) : Bool := decide (keep / 2 ^ (k % 31) % 2 = 1)
/-- The texts when k puts are done, or left out. -/
def doneN (keep : Int) (safe : List ByteArray) (ps : List (Int × ByteArray)) : Nat → List ByteArray
  | 0 => safe
  | k + 1 => match ps[k]? with
    | some p => if bitB keep k then (doneN keep safe ps k).set p.1.toNat p.2 else doneN keep safe ps k
    | none => doneN keep safe ps k
theorem doneN_succ {keep : Int} {safe : List ByteArray} {ps : List (Int × ByteArray)} {k : Nat} (h : k < ps.length) : doneN keep safe ps (k + 1) = if bitB keep k then (doneN keep safe ps k).set ps[k].1.toNat ps[k].2 else doneN keep safe ps k := by
  simp [doneN, h]
theorem doneN_len (keep : Int) (safe : List ByteArray) (ps : List (Int × ByteArray)) (k : Nat) : (doneN keep safe ps k).length = safe.length := by
  induction k with
  | zero => rfl
  | succ k ih =>
    rw [doneN]
    split
    · split
      · rw [List.length_set, ih]
      · exact ih
    · exact ih
theorem doneN_size {keep : Int} {safe : List ByteArray} {ps : List (Int × ByteArray)} {m : Nat} (h1 : ∀ s ∈ safe, s.size ≤ m) (h2 : ∀ p ∈ ps, p.2.size ≤ m) (k : Nat) : ∀ s ∈ doneN keep safe ps k, s.size ≤ m := by
  induction k with
  | zero => exact h1
  | succ k ih =>
    rw [doneN]
    split
    · rename_i p hp
      split
      · intro s hs
        rcases List.mem_or_eq_of_mem_set hs with h | h
        · exact ih s h
        · subst h; exact h2 p (List.mem_of_getElem? hp)
      · exact ih
    · exact ih
def doneDk (keep : Int) (d : PDisk) : PDisk := ⟨doneN keep d.safe d.late d.late.length, []⟩
def zeroDk : PDisk := ⟨[], []⟩
def zeros64 : ByteArray := strOf (List.replicate 64 0)
theorem zeros64_size : zeros64.size = 64 := by decide +kernel
def newDk : PDisk := ⟨List.replicate 130 zeros64, []⟩
def putDk (d : PDisk) (x : Int) (s : ByteArray) : PDisk × Bool :=
  if diskB d = false then (zeroDk, false) else if inB x 0 129 = false ∨ s.size ≠ 64 ∨ d.late.length = 200 then (d, false) else (⟨d.safe, d.late ++ [(x, s)]⟩, true)
def syncDk (d : PDisk) : PDisk × Bool := if diskB d = false then (zeroDk, false) else (doneDk 2147483647 d, true)
def crashDk (d : PDisk) (keep : Int) : PDisk × Bool := if diskB d = false ∨ inB keep 0 2147483647 = false then (zeroDk, false) else (doneDk keep d, true)
def sectorDk (d : PDisk) (x : Int) : ByteArray × Bool := if diskB d = false ∨ inB x 0 129 = false then (⟨#[]⟩, false) else (sectorD d x, true)
end Go.Proofs.Ytiejfnnokfedkaa
