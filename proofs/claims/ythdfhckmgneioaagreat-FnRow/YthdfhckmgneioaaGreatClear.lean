/- What stands ahead of the last bar: the specification's l11From and FmtClear, the program's lastBar, first and FmtClear, of every list. -/
import Derived.Test.YthdfhckmgneioaaGreatHelpI
import Derived.Test.YthdfhckmgneioaaGreatGrow
import Derived.Test.YthdfhckmgneioaaGreatLines
import Derived.Test.YthdfhckmgneioaaGreatCopyV
namespace Go.Proofs.YthdfhckmgneioaaGreat
open Go.RowKit
set_option maxRecDepth 100000
set_option linter.unusedVariables false

/-- The place behind the last bar among the first n. -/
def barAt (xs : List Int) : Nat → Nat
  | 0 => 0
  | n + 1 => if xs.getD n 0 = -1 then n + 1 else barAt xs n
theorem barAt_le (xs : List Int) (n : Nat) : barAt xs n ≤ n := by
  induction n with
  | zero => exact Nat.le_refl _
  | succ n ih => unfold barAt; split <;> omega
theorem barAt_no {xs : List Int} {n : Nat} (h : ¬ xs.getD n 0 = -1) : barAt xs (n + 1) = barAt xs n := by rw [barAt, if_neg h]
theorem barAt_yes {xs : List Int} {n : Nat} (h : xs.getD n 0 = -1) : barAt xs (n + 1) = n + 1 := by rw [barAt, if_pos h]
def clearL (xs : List Int) : List Int := xs.take (barAt xs xs.length - 1)
theorem clearL_len (xs : List Int) : (clearL xs).length ≤ xs.length := by simp [clearL]; omega
theorem sl_take {K : IntKind} {w : World} {a : Option Addr} {xs : List Int} {ca k : Nat} (h : Sl K w (.slice a xs.length ca) xs) (hk : k ≤ xs.length) : Sl K w (.slice a k ca) (xs.take k) := by
  obtain ⟨a', ca', e, h1, h2, h3, h4⟩ := h
  cases e
  have hl : (xs.take k).length = k := by simp; omega
  refine ⟨a, ca, by rw [hl], by omega, h2, h3, ?_⟩
  intro j hj
  rw [hl] at hj
  obtain ⟨b, off, e, c⟩ := h4 j (by omega)
  refine ⟨b, off, e, ?_⟩
  rw [c]
  simp [List.getD_eq_getElem?_getD, hj]

theorem smax_any (x y : Int) (w : World) :
    Calls Tryz.prog 46 #[.int .i64 x, .int .i64 y] w fun e w' => e = .returned (.int .i64 (if x > y then x else y)) ∧ w' = w := by
  by_cases h : x > y
  · rw [if_pos h]
    go_enter Tryz.func46, Tryz.ntmps46
    go_wp2
    go_ret
    exact ⟨rfl, rfl⟩
  · rw [if_neg h]
    go_enter Tryz.func46, Tryz.ntmps46
    go_wp2
    go_ret
    exact ⟨rfl, rfl⟩

set_option maxRecDepth 100000 in
theorem iwith_none {v : Value} {xs : List Int} {w : World} (h : Sl .i64 w v xs) (hn : xs.length ≤ 1048576) :
    Calls Tryz.prog 20 #[v, .slice none 0 0] w fun e w' => ∃ v', e = .returned v' ∧ Own w.heap.size 3 .i64 w' v' xs ∧ Below w.heap.size w w' := by
  have HS := (show Hid (Sl .i64 w v xs) from h)
  obtain ⟨a, ca, rfl, _, _, _, ha⟩ := h
  clear ha
  obtain ⟨i0, hi, hz0, hz1, hz2⟩ := info_parts Tryz.infoI
  go_enter Tryz.func20, Tryz.ntmps20
  go_wp2_with (first
    | (at_make; refine wpList_mkn _ rfl (.tmp 10) (.tmp 10) 43 rfl 3 i0 .i64 Tryz.underlying43 hi hz0 hz1 xs.length xs.length xs.length rfl rfl rfl rfl (by rw [hz2]; omega) (by unfold maxLen; omega) ?_; intro w1 o1 b1)
    | (refine wpList_cp rfl (.tmp 12) (.tmp 13) 43 rfl 3 Tryz.underlying43 Tryz.sizeI w.heap.size .i64 _ _ _ xs rfl rfl o1 (HS.out.below b1) (by simp) ?_; intro w2 o2 g2; have b2 := b1.grown g2 b1.size o1.grownAt)
    | (refine wpList_copy_nothing rfl (.tmp 18) (.tmp 19) 43 27 rfl 3 Tryz.underlying43 Tryz.sizeI _ _ 0 _ 0 0 rfl rfl rfl ?_))
  go_ret
  exact ⟨_, rfl, o2, b2⟩

set_option maxRecDepth 100000 in
theorem ifirst_any {v : Value} {xs : List Int} {w : World} (h : Sl .i64 w v xs) (hn : xs.length ≤ 1048576) (k : Nat) (hk : k ≤ xs.length) :
    Calls Tryz.prog 73 #[v, .int .i64 k] w fun e w' => ∃ v', e = .returned v' ∧ Own w.heap.size 3 .i64 w' v' (xs.take k) ∧ Below w.heap.size w w' := by
  have HS := (show Hid (Sl .i64 w v xs) from h)
  obtain ⟨a, ca, rfl, _, _, _, ha⟩ := h
  clear ha
  go_enter Tryz.func73, Tryz.ntmps73
  go_wp2_with fail
  go_at_call 20
  have ht := sl_take HS.out hk
  have hl : (xs.take k).length = k := by simp; omega
  refine (iwith_none ht (by omega)).mono ?_
  rintro e w1 ⟨v1, rfl, o1, b1⟩
  go_wp2
  go_ret
  exact ⟨_, rfl, o1, b1⟩

set_option maxRecDepth 100000 in
theorem ifirst_one {a : Option Addr} {ca : Nat} {w : World} (h : Sl .i64 w (.slice a 0 ca) []) :
    Calls Tryz.prog 73 #[.slice a 0 ca, .int .i64 1] w fun e w' => ∃ v', e = .returned v' ∧ Own w.heap.size 3 .i64 w' v' [] ∧ Below w.heap.size w w' := by
  have HS := (show Hid (Sl .i64 w (.slice a 0 ca) []) from h)
  clear h
  go_enter Tryz.func73, Tryz.ntmps73
  go_wp2_with fail
  go_at_call 20
  refine (iwith_none HS.out (by simp)).mono ?_
  rintro e w1 ⟨v1, rfl, o1, b1⟩
  go_wp2
  go_ret
  exact ⟨_, rfl, o1, b1⟩

theorem barIf (n : Nat) : (if (n : Int) - 1 > 0 then (n : Int) - 1 else 0) = ((n - 1 : Nat) : Int) := by split <;> omega

end Go.Proofs.YthdfhckmgneioaaGreat
