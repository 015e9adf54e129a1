/- Contracts of the laws' marks of a list of attributes. -/
import Derived.Test.YtkljadaggnbjkaaGreatB11
namespace Go.Proofs.YtkljadaggnbjkaaGreat
open Go.RowKit
set_option maxRecDepth 100000
set_option linter.unusedVariables false

/-- The marks that are laid over a list of pairs, from k on. -/
def markPairs (k : Int) (n : Nat) : List (ByteArray × ByteArray) := (List.range n).map fun i : Nat => (mt (k + 2 * (i : Int)), mt (k + 2 * (i : Int) + 1))
theorem markPairs_len (k : Int) (n : Nat) : (markPairs k n).length = n := by simp [markPairs]
theorem markPairs_at (k : Int) (n i : Nat) (h : i < (markPairs k n).length) : (markPairs k n)[i] = (mt (k + 2 * (i : Int)), mt (k + 2 * (i : Int) + 1)) := by simp [markPairs]
theorem markPairs_succ (k : Int) (rs : List (ByteArray × ByteArray)) (i : Nat) (h : i < rs.length) :
    (markPairs k i ++ rs.drop i).set i (mt (k + 2 * (i : Int)), mt (k + 2 * (i : Int) + 1)) = markPairs k (i + 1) ++ rs.drop (i + 1) := by
  rw [List.set_append_right _ _ (by rw [markPairs_len]; exact Nat.le_refl _), markPairs_len, Nat.sub_self, List.drop_eq_getElem_cons h, List.set_cons_zero]
  simp [markPairs, List.range_succ]

theorem pairCells_set (ls : List (ByteArray × ByteArray)) (j : Nat) (a p : ByteArray) (h : j < ls.length) : ((pairCells ls).set (j * 2) (.string a)).set (j * 2 + 1) (.string p) = pairCells (ls.set j (a, p)) := by
  induction ls generalizing j with
  | nil => simp at h
  | cons r rs ih =>
    cases j with
    | zero => simp [pairCells]
    | succ j =>
      have e := ih j (by simpa using h)
      have e1 : (j + 1) * 2 = j * 2 + 1 + 1 := by omega
      have e2 : (j + 1) * 2 + 1 = j * 2 + 1 + 1 + 1 := by omega
      simp only [pairCells, List.flatMap_cons, List.cons_append, List.nil_append, e1, List.set_cons_succ] at e ⊢
      rw [e]

end Go.Proofs.YtkljadaggnbjkaaGreat
