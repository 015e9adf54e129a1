/- The contracts of the draws of strings: some string, of a bounded length. -/
import Derived.Test.YteddljmekpnojaaU7
import Derived.Test.YteddljmekpnojaaU6
import Derived.Laws.Concat
import Derived.Test.YteddljmekpnojaaU5
namespace Go.Proofs.Yteddljmekpnojaa
open Go.RowKit
set_option maxRecDepth 100000
set_option linter.unusedVariables false

theorem grown_past {w w1 w2 : World} {g : Nat} {row : Option Nat} (h : w.grownBy w1 (some g)) (k : w1.grownBy w2 row) (hr : ∀ j, row = some j → w.heap.size ≤ j) : w.grownBy w2 (some g) :=
  ⟨k.os.trans h.os, k.tape.trans h.tape, k.output.trans h.output, Nat.le_trans h.size k.size, fun j hj hne => (k.block j (Nat.lt_of_lt_of_le hj h.size) (fun e => by have := hr j e.symm; omega)).trans (h.block j hj hne)⟩
theorem grown_below {w w1 w2 : World} {g : Nat} (h : w.grownBy w1 (some g)) (k : Below w1.heap.size w1 w2) : w.grownBy w2 (some g) :=
  ⟨k.os.trans h.os, k.tape.trans h.tape, k.output.trans h.output, Nat.le_trans h.size k.size, fun j hj hne => (k.block j (Nat.lt_of_lt_of_le hj h.size)).trans (h.block j hj hne)⟩

theorem add_size (a b : ByteArray) : (a ++ b).size = a.size + b.size := by simp

theorem strOf_size (zs : List Int) : (strOf zs).size = zs.length := by
  have e := congrArg List.length (strOf_list zs ByteArray.empty)
  have e0 : ByteArray.empty.data.toList = [] := rfl
  rw [e0, List.nil_append, List.length_map] at e
  exact e

end Go.Proofs.Yteddljmekpnojaa

/- Numbers as texts, plainly; the specification's NumText. No condition. -/
namespace Go.Proofs.Yteddljmekpnojaa
open Go.RowKit
set_option maxRecDepth 100000
set_option linter.unusedVariables false

/-- The decimal digits of n, by a bound. -/
def digF : Nat → Nat → List Int
  | 0, _ => []
  | f + 1, n => if n = 0 then [] else digF f (n / 10) ++ [48 + ((n % 10 : Nat) : Int)]
def numL (x : Int) : List Int := if x = 0 then [48] else (if x < 0 then [45] else []) ++ digF x.natAbs x.natAbs
def numS (x : Int) : ByteArray := strOf (numL x)
theorem strOf_app2 (xs ys : List Int) : strOf xs ++ strOf ys = strOf (xs ++ ys) := by
  have e : (strOf xs ++ strOf ys).data.toList = (strOf (xs ++ ys)).data.toList := by
    rw [show (strOf xs ++ strOf ys).data.toList = (strOf xs).data.toList ++ (strOf ys).data.toList by simp]
    unfold strOf
    rw [strOf_list, strOf_list, strOf_list, List.map_append]
    simp
  have e2 := Array.toList_inj.mp e
  cases h1 : strOf xs ++ strOf ys
  cases h2 : strOf (xs ++ ys)
  rw [h1, h2] at e2
  simp only at e2
  rw [e2]
theorem digF_byte : ∀ (f n : Nat), ∀ x ∈ digF f n, 48 ≤ x ∧ x ≤ 57 := by
  intro f
  induction f with
  | zero => intro n x hx; cases hx
  | succ f ih =>
    intro n x hx
    unfold digF at hx
    split at hx
    · cases hx
    · rcases List.mem_append.mp hx with hx | hx
      · exact ih _ _ hx
      · rw [List.mem_singleton.mp hx]; omega
theorem digF_step {f : Nat} {y : Int} {L : List Int} (hy : y ≠ 0) (hf : y.natAbs ≤ f) : ∃ f', f = f' + 1 ∧ (y.tdiv 10).natAbs ≤ f' ∧ digF f y.natAbs ++ L = digF f' (y.tdiv 10).natAbs ++ ((48 + ((y.natAbs % 10 : Nat) : Int)) :: L) := by
  obtain ⟨f', rfl⟩ : ∃ f', f = f' + 1 := ⟨f - 1, by omega⟩
  have hd : (y.tdiv 10).natAbs = y.natAbs / 10 := by
    rw [Int.natAbs_tdiv]; rfl
  refine ⟨f', rfl, by rw [hd]; omega, ?_⟩
  rw [hd]
  conv => lhs; unfold digF
  rw [if_neg (by omega), List.append_assoc]
  rfl
theorem digF_len : ∀ (k f n : Nat), n < 10 ^ k → (digF f n).length ≤ k := by
  intro k
  induction k with
  | zero => intro f n h; have : n = 0 := by simpa using h
            subst this; cases f <;> simp [digF]
  | succ k ih =>
    intro f n h
    cases f with
    | zero => simp [digF]
    | succ f =>
      unfold digF
      split
      · simp
      · have := ih f (n / 10) (by rw [Nat.pow_succ] at h; omega)
        simp; omega
theorem one_byte (w : World) (z : Int) : Sl .u8 (w.alloc (.cells #[.int .u8 z] 5)) (.slice (some ⟨w.heap.size, 0, none⟩) 1 1) [z] :=
  Own.sl (World.ownsRow_lit w #[.int .u8 z] 1 (Nat.le_refl _) (by unfold maxLen; omega) rfl : Own w.heap.size 5 .u8 _ _ [z])

end Go.Proofs.Yteddljmekpnojaa
