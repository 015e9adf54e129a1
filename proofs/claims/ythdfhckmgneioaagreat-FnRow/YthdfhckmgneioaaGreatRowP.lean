/- A row of open elements, in plain words. No condition. -/
import Derived.Test.YthdfhckmgneioaaGreatSTreeP
import Derived.Test.YthdfhckmgneioaaGreatIn
namespace Go.Proofs.YthdfhckmgneioaaGreat
open Go.RowKit
set_option maxRecDepth 100000
set_option linter.unusedVariables false

def nmOf (ns : List PNode) (x : Int) : ByteArray := (ns[x.toNat]?.map PNode.name).getD ⟨#[]⟩
def kdOf (ns : List PNode) (x : Int) : Int := (ns[x.toNat]?.map PNode.kind).getD 0
theorem nmOf_at {ns : List PNode} {k : Nat} (h : k < ns.length) : nmOf ns (k : Int) = ns[k].name := by simp [nmOf, h]
theorem kdOf_at {ns : List PNode} {k : Nat} (h : k < ns.length) : kdOf ns (k : Int) = ns[k].kind := by simp [kdOf, h]
/-- The number x is that of an element. -/
def elB (ns : List PNode) (x : Int) : Bool := inB x 0 ((ns.length : Int) - 1) && decide (kdOf ns x = 3)
theorem inB_at {ns : List PNode} {x : Int} (h : inB x 0 ((ns.length : Int) - 1) = true) : ∃ k : Nat, x = (k : Int) ∧ k < ns.length := by
  have h' : 0 ≤ x ∧ x ≤ (ns.length : Int) - 1 := by simpa [inB] using h
  exact ⟨x.toNat, by omega, by omega⟩
theorem elB_at {ns : List PNode} {x : Int} (h : elB ns x = true) : ∃ k : Nat, x = (k : Int) ∧ k < ns.length := by
  rw [elB, Bool.and_eq_true] at h
  exact inB_at h.1
structure RowP (ns : List PNode) (row : List Int) : Prop where
  len : row.length ≤ 40
  el : ∀ i (h : i < row.length), elB ns row[i] = true
  once : ∀ i k (h : i < row.length) (hk : k < i), row[k] ≠ row[i]
/-- One more than the place of the last one that fits among the first n; 0 where there is none. -/
def lastAt (p : Int → Bool) (xs : List Int) : Nat → Nat
  | 0 => 0
  | n + 1 => if p (xs.getD n 0) then n + 1 else lastAt p xs n
theorem lastAt_le (p : Int → Bool) (xs : List Int) (n : Nat) : lastAt p xs n ≤ n := by
  induction n with
  | zero => exact Nat.le_refl _
  | succ n ih => unfold lastAt; split <;> omega
theorem lastAt_no {p : Int → Bool} {xs : List Int} {n : Nat} (h : p (xs.getD n 0) = false) : lastAt p xs (n + 1) = lastAt p xs n := by rw [lastAt, h]; rfl
theorem lastAt_yes {p : Int → Bool} {xs : List Int} {n : Nat} (h : p (xs.getD n 0) = true) : lastAt p xs (n + 1) = n + 1 := by rw [lastAt, h]; rfl
theorem lastAt_above {p : Int → Bool} {xs : List Int} {n : Nat} : ∀ i, lastAt p xs n ≤ i → i < n → p (xs.getD i 0) = false := by
  induction n with
  | zero => intro i _ h; omega
  | succ n ih =>
    intro i h1 h2
    cases hp : p (xs.getD n 0) with
    | true => rw [lastAt_yes hp] at h1; omega
    | false =>
      rw [lastAt_no hp] at h1
      by_cases e : i = n
      · subst e; exact hp
      · exact ih i h1 (by omega)
end Go.Proofs.YthdfhckmgneioaaGreat
