/- The contracts of the draws: a cursor over any bytes gives some number below a bound, and turns nothing but itself. -/
import Derived.Test.YtokkigfjabbdaaaGreatDoorU0
import Derived.Test.YtokkigfjabbdaaaGreatDoorU1
import Derived.OneCell
namespace Go.Proofs.YtokkigfjabbdaaaGreatDoor
open Go.RowKit
set_option maxRecDepth 100000
set_option linter.unusedVariables false

theorem grown_drewN (w : World) (n : Nat) (row : Option Nat) : w.grownBy (w.drewN n) row := ⟨rfl, rfl, rfl, Nat.le_refl _, fun _ _ _ => rfl⟩
theorem grown_setCell (w : World) (g k : Nat) (u : Value) : w.grownBy (w.setCell ⟨g, k, none⟩ u) (some g) :=
  ⟨rfl, rfl, rfl, by simp [World.setCell], fun j _ hne => Below.heap_setCell w _ u j (fun e => hne (by rw [e]))⟩
theorem three_setCell {w : World} {b k : Nat} {cs : Array Value} {u : Value} {t : TypeId} (h : w.heap[b]? = some (.cells cs t (0, 0))) : (w.setCell ⟨b, k, none⟩ u).heap[b]? = some (.cells (cs.setIfInBounds k u) t (0, 0)) := by
  have hlt := lt_of_block h
  have h' : w.heap[b] = .cells cs t (0, 0) := by simpa [Array.getElem?_eq_getElem hlt] using h
  show (w.heap.modify b _)[b]? = _
  rw [Array.getElem?_eq_getElem (by simpa using hlt), Array.getElem_modify_self, h']
  rfl
theorem mask255 (x : Int) : 0 ≤ bits .and .i64 x 255 ∧ bits .and .i64 x 255 ≤ 255 := by
  have h : ((BitVec.ofInt 64 x) &&& (BitVec.ofInt 64 255)).toNat ≤ 255 := by
    rw [BitVec.toNat_and]; exact Nat.le_trans Nat.and_le_right (by decide)
  have e : bits .and .i64 x 255 = IntKind.i64.wrap (((BitVec.ofInt 64 x) &&& (BitVec.ofInt 64 255)).toNat : Int) := rfl
  rw [e]
  generalize ((BitVec.ofInt 64 x) &&& (BitVec.ofInt 64 255)).toNat = n at h
  have e2 : IntKind.i64.wrap (n : Int) = n := by
    have h1 : (n : Int) % 2 ^ 64 = n := by omega
    simp only [IntKind.wrap, IntKind.bits, h1]
    rw [if_neg]
    simp; omega
  rw [e2]; omega

end Go.Proofs.YtokkigfjabbdaaaGreatDoor

/- Contracts of LinesOf, the program's and the specification's, and of copyOf, at every list of integers. -/
namespace Go.Proofs.YtokkigfjabbdaaaGreatDoor
open Go.RowKit
set_option maxRecDepth 100000
set_option linter.unusedVariables false

/-- What LinesOf tells of the number at place i. -/
def lineAt (xs : List Int) (i : Nat) : List Int :=
  if xs.getD i 0 ≠ 13 then [xs.getD i 0] else if i + 1 = xs.length ∨ xs.getD (i + 1) 0 ≠ 10 then [10] else []
/-- .. of the first k. -/
def linesTo (xs : List Int) (k : Nat) : List Int := (List.range k).flatMap (lineAt xs)
/-- What LinesOf answers. -/
def linesOf (xs : List Int) : List Int := if xs.length ≤ 3000 then linesTo xs xs.length else []

theorem linesTo_succ (xs : List Int) (k : Nat) : linesTo xs (k + 1) = linesTo xs k ++ lineAt xs k := by simp [linesTo, List.range_succ]
theorem lineAt_len (xs : List Int) (i : Nat) : (lineAt xs i).length ≤ 1 := by unfold lineAt; repeat (split <;> try simp)
theorem linesTo_len (xs : List Int) (k : Nat) : (linesTo xs k).length ≤ k := by
  induction k with
  | zero => simp [linesTo]
  | succ k ih => have := lineAt_len xs k; rw [linesTo_succ, List.length_append]; omega
theorem linesOf_len (xs : List Int) : (linesOf xs).length ≤ 3000 := by
  unfold linesOf; split
  · have := linesTo_len xs xs.length; omega
  · simp
theorem lineAt_char {xs : List Int} {i : Nat} (h : xs.getD i 0 ≠ 13) : lineAt xs i = [xs.getD i 0] := by simp only [lineAt, if_pos h]
theorem lineAt_end {xs : List Int} {i : Nat} (h : xs.getD i 0 = 13) (h' : i + 1 = xs.length ∨ xs.getD (i + 1) 0 ≠ 10) : lineAt xs i = [10] := by
  simp only [lineAt, h, ne_eq, not_true_eq_false, if_false]; rw [if_pos h']
theorem lineAt_none {xs : List Int} {i : Nat} (h : xs.getD i 0 = 13) (h1 : i + 1 ≠ xs.length) (h' : xs.getD (i + 1) 0 = 10) : lineAt xs i = [] := by
  simp only [lineAt, h, ne_eq, not_true_eq_false, if_false]; rw [if_neg (by rintro (h2 | h2); exact h1 h2; exact h2 h')]

theorem lineC {xs : List Int} {k : Nat} (h : k < xs.length) (h' : xs[k] ≠ 13) : lineAt xs k = [xs[k]] := by
  have e : xs.getD k 0 = xs[k] := by simp [List.getD_eq_getElem?_getD, h]
  rw [lineAt_char (by rw [e]; exact h'), e]
theorem lineE {xs : List Int} {k : Nat} (h : k < xs.length) (h' : xs[k] = 13) (h2 : k + 1 = xs.length) : lineAt xs k = [10] :=
  lineAt_end (by simp [List.getD_eq_getElem?_getD, h, h']) (.inl h2)
theorem lineX {xs : List Int} {k : Nat} (h : k < xs.length) (h' : xs[k] = 13) (h2 : k + 1 < xs.length) (h3 : xs[k + 1] ≠ 10) : lineAt xs k = [10] :=
  lineAt_end (by simp [List.getD_eq_getElem?_getD, h, h']) (.inr (by simpa [List.getD_eq_getElem?_getD, h2] using h3))
theorem lineN {xs : List Int} {k : Nat} (h : k < xs.length) (h' : xs[k] = 13) (h2 : k + 1 < xs.length) (h3 : xs[k + 1] = 10) : lineAt xs k = [] :=
  lineAt_none (by simp [List.getD_eq_getElem?_getD, h, h']) (by omega) (by simp [List.getD_eq_getElem?_getD, h2, h3])

theorem Tryz.sizeI : Option.map (fun x => x.size) (Tryz.prog.info? 3) = some 1 := by kernel_rfl

theorem sl_one (e : TypeId) (K : IntKind) (w : World) (x : Int) : Sl K (w.alloc (.cells #[.int K x] e)) (.slice (some ⟨w.heap.size, 0, none⟩) 1 1) [x] :=
  Own.sl (World.ownsRow_lit w #[Value.int K x] 1 (Nat.le_refl _) (by unfold maxLen; omega) rfl : Own w.heap.size e K _ _ [x])

end Go.Proofs.YtokkigfjabbdaaaGreatDoor

/- The contracts of the draws of points and of lines: some integers, in new memory. -/
namespace Go.Proofs.YtokkigfjabbdaaaGreatDoor
open Go.RowKit
set_option maxRecDepth 100000
set_option linter.unusedVariables false

theorem own_past {B g : Nat} {e : TypeId} {K : IntKind} {w w' : World} {v : Value} {xs : List Int} (h : Own B e K w v xs) (hg : w.grownBy w' (some g)) (hlt : g < B) : Own B e K w' v xs := by
  refine World.ownsRow.kept h hg ?_
  by_cases h0 : v.ownBlock = none
  · exact .inl h0
  · obtain ⟨k, hk⟩ := Option.ne_none_iff_exists'.mp h0
    refine .inr ?_
    have := (h.lt k hk).1
    rw [hk]; intro e; cases e; omega

theorem Own.kept1 {B g : Nat} {e : TypeId} {K : IntKind} {w w' : World} {v : Value} {xs : List Int} (h : Own B e K w v xs) (hg : w.grownBy w' (some g)) (hne : ∀ k, v.ownBlock = some k → k ≠ g) : Own B e K w' v xs := by
  refine World.ownsRow.kept h hg ?_
  by_cases h0 : v.ownBlock = none
  · exact .inl h0
  · obtain ⟨k, hk⟩ := Option.ne_none_iff_exists'.mp h0
    refine .inr ?_
    rw [hk]; intro e; cases e; exact hne _ hk rfl

theorem bytes_app {xs ys : List Int} (h : ∀ y ∈ xs, 0 ≤ y ∧ y ≤ 255) (h' : ∀ y ∈ ys, 0 ≤ y ∧ y ≤ 255) : ∀ y ∈ xs ++ ys, 0 ≤ y ∧ y ≤ 255 := fun y hy => by
  rcases List.mem_append.mp hy with a | a
  · exact h y a
  · exact h' y a

end Go.Proofs.YtokkigfjabbdaaaGreatDoor
