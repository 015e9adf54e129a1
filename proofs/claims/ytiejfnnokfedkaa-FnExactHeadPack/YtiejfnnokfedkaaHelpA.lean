/- Contracts of the laws' helpers on lists of attributes: held against each other, measured. -/
import Derived.Test.YtiejfnnokfedkaaMark
import Derived.Test.YtiejfnnokfedkaaOpenS
import Derived.Test.YtiejfnnokfedkaaRegB
namespace Go.Proofs.Ytiejfnnokfedkaa
open Go.RowKit
set_option maxRecDepth 100000
set_option linter.unusedVariables false

theorem toList_ne {a b : ByteArray} (h : a ≠ b) : (a.toList == b.toList) = false := by
  rw [beq_eq_false_iff_ne]
  exact fun e => h ((toList_eq_iff a b).mp e)

theorem pairCells_name (rs : List (ByteArray × ByteArray)) (k : Nat) (h : k < rs.length) : (pairCells rs).getD (k * 2) undef = .string rs[k].1 := by
  induction rs generalizing k with
  | nil => simp at h
  | cons r rs ih =>
    cases k with
    | zero => simp [pairCells]
    | succ k =>
      have := ih k (by simpa using h)
      have e : (k + 1) * 2 = k * 2 + 1 + 1 := by omega
      simp only [pairCells, List.flatMap_cons, List.cons_append, List.nil_append, e, List.getD_cons_succ, List.getElem_cons_succ] at this ⊢
      exact this
theorem pairCells_value (rs : List (ByteArray × ByteArray)) (k : Nat) (h : k < rs.length) : (pairCells rs).getD (k * 2 + 1) undef = .string rs[k].2 := by
  induction rs generalizing k with
  | nil => simp at h
  | cons r rs ih =>
    cases k with
    | zero => simp [pairCells]
    | succ k =>
      have := ih k (by simpa using h)
      have e : (k + 1) * 2 + 1 = k * 2 + 1 + 1 + 1 := by omega
      simp only [pairCells, List.flatMap_cons, List.cons_append, List.nil_append, e, List.getD_cons_succ, List.getElem_cons_succ] at this ⊢
      exact this

/-- A cell of a slice of pairs, by its number. -/
theorem Sv.pair {w : World} {v : Value} {rs : List (ByteArray × ByteArray)} (h : Sv 2 w v (pairCells rs)) : ∃ a cap, v = .slice a rs.length cap ∧ rs.length ≤ cap ∧ cap ≤ maxLen ∧
    ∀ k (hk : k < rs.length), ∃ b off, a = some ⟨b, off, none⟩ ∧ b < w.heap.size ∧ w.cell? ⟨b, off + k * 2, none⟩ = some (.string rs[k].1) ∧ w.cell? ⟨b, off + k * 2 + 1, none⟩ = some (.string rs[k].2) := by
  obtain ⟨a, len, cap, rfl, h1, h2, h3, h4, hc⟩ := h
  have hl := pairCells_len rs
  have hlen : len = rs.length := by omega
  subst hlen
  refine ⟨a, cap, rfl, h2, h3, fun k hk => ?_⟩
  obtain ⟨b, off, rfl, c0⟩ := hc (k * 2) (by omega)
  obtain ⟨b', off', e, c1⟩ := hc (k * 2 + 1) (by omega)
  injection e with e
  cases e
  rw [pairCells_name _ _ hk] at c0
  rw [pairCells_value _ _ hk] at c1
  have hlt : b < w.heap.size := by
    by_cases hlt : b < w.heap.size
    · exact hlt
    · exfalso; simp [World.cell?, Array.getElem?_eq_none (Nat.le_of_not_lt hlt)] at c0
  exact ⟨b, off, rfl, hlt, c0, c1⟩

end Go.Proofs.Ytiejfnnokfedkaa
