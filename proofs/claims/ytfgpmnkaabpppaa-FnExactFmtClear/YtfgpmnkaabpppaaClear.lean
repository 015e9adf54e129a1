/- What stands ahead of the last bar: the specification's l11From and FmtClear, the program's lastBar, first and FmtClear, of every list. -/
import Derived.Test.YtfgpmnkaabpppaaHelpI
import Derived.Test.YtfgpmnkaabpppaaGrow
import Derived.Test.YtfgpmnkaabpppaaLines
import Derived.Test.YtfgpmnkaabpppaaCopyV
namespace Go.Proofs.Ytfgpmnkaabpppaa
open Go.RowKit
set_option maxRecDepth 100000
set_option linter.unusedVariables false

/-- The place behind the last bar among the first n. -/
def barAt (xs : List Int) : Nat → Nat
  | 0 => 0
  | n + 1 => if xs.getD n 0 = -1 then n + 1 else barAt xs n
theorem barAt_le (xs : List Int) (n : Nat) : barAt xs n ≤ n := by
  induction n with
  | zero => exact Nat.le_refl _
  | succ n ih => unfold barAt; split <;> omega
theorem barAt_no {xs : List Int} {n : Nat} (h : ¬ xs.getD n 0 = -1) : barAt xs (n + 1) = barAt xs n := by rw [barAt, if_neg h]
theorem barAt_yes {xs : List Int} {n : Nat} (h : xs.getD n 0 = -1) : barAt xs (n + 1) = n + 1 := by rw [barAt, if_pos h]
def clearL (xs : List Int) : List Int := xs.take (barAt xs xs.length - 1)
theorem clearL_len (xs : List Int) : (clearL xs).length ≤ xs.length := by simp [clearL]; omega
theorem sl_take {K : IntKind} {w : World} {a : Option Addr} {xs : List Int} {ca k : Nat} (h : Sl K w (.slice a xs.length ca) xs) (hk : k ≤ xs.length) : Sl K w (.slice a k ca) (xs.take k) := by
  obtain ⟨a', ca', e, h1, h2, h3, h4⟩ := h
  cases e
  have hl : (xs.take k).length = k := by simp; omega
  refine ⟨a, ca, by rw [hl], by omega, h2, h3, ?_⟩
  intro j hj
  rw [hl] at hj
  obtain ⟨b, off, e, c⟩ := h4 j (by omega)
  refine ⟨b, off, e, ?_⟩
  rw [c]
  simp [List.getD_eq_getElem?_getD, hj]

theorem sfrom_any {v : Value} {xs : List Int} {w : World} (h : Sl .i64 w v xs) (hn : xs.length ≤ 1048576) :
    Calls Try.prog 29 #[v] w fun e w' => e = .returned (.int .i64 (barAt xs xs.length)) ∧ Below w.heap.size w w' := by
  obtain ⟨a, ca, rfl, _, _, _, ha⟩ := h
  go_enter Try.func29, Try.ntmps29
  go_wp2
  go_loopw [3] (fun i wr => ∃ k : Nat, k ≤ xs.length ∧ i = .int .i64 k ∧ barAt xs xs.length = barAt xs k ∧ ∃ n, wr = w.drewN n) (fun i _ => (intOf i).toNat)
  case atStart => exact ⟨xs.length, Nat.le_refl _, rfl, rfl, 0, rfl⟩
  case round =>
    obtain ⟨k, hk, rfl, he, n, rfl⟩ := hrel
    have HE := (show Hid (barAt xs xs.length = barAt xs k) from he)
    clear he
    cases k with
    | zero =>
      clear ha
      go_wp2
      go_ret
      exact ⟨by rw [HE.out]; rfl, below_drewN n⟩
    | succ k =>
      have hp : (0 : Int) < ((k + 1 : Nat) : Int) := by omega
      have hs : ((k + 1 : Nat) : Int) - 1 = (k : Int) := by omega
      obtain ⟨b1, o1, rfl, c1⟩ := ha k (by omega)
      obtain ⟨y, hy⟩ : ∃ y, y = xs.getD k 0 := ⟨_, rfl⟩
      rw [← hy] at c1
      have HY := (show Hid (y = xs.getD k 0) from hy)
      clear ha hy
      by_cases hb : y = -1
      · subst hb
        go_wp2
        go_ret
        exact ⟨by rw [HE.out, barAt_yes HY.out.symm]; rfl, below_drewN n⟩
      · have hb1 : (y != -1) = true := by simp [hb]
        have HB := (show Hid (¬ y = -1) from hb)
        clear hb
        go_wp2
        go_roundw
        case rel => exact ⟨k, by omega, by go_num, by rw [HE.out, barAt_no (by rw [← HY.out]; exact HB.out)], n, rfl⟩
        case measure => simp [intOf]

theorem smax_any (x y : Int) (w : World) :
    Calls Try.prog 28 #[.int .i64 x, .int .i64 y] w fun e w' => e = .returned (.int .i64 (if x > y then x else y)) ∧ w' = w := by
  by_cases h : x > y
  · rw [if_pos h]
    go_enter Try.func28, Try.ntmps28
    go_wp2
    go_ret
    exact ⟨rfl, rfl⟩
  · rw [if_neg h]
    go_enter Try.func28, Try.ntmps28
    go_wp2
    go_ret
    exact ⟨rfl, rfl⟩

theorem ilastBar1_any (x : Int) (w : World) :
    Calls Try.prog 47 #[.int .i64 x] w fun e w' => e = .returned (.bool (x == -1)) ∧ w' = w := by
  go_enter Try.func47, Try.ntmps47
  go_wp2
  go_ret
  exact ⟨rfl, rfl⟩

set_option maxRecDepth 100000 in
theorem ilastThat_bar {v : Value} {xs : List Int} {w : World} (h : Sl .i64 w v xs) (hn : xs.length ≤ 1048576) :
    Calls Try.prog 46 #[v, .func (.func 47) #[] #[]] w fun e w' => e = .returned (.int .i64 ((barAt xs xs.length : Int) - 1)) ∧ Below w.heap.size w w' := by
  obtain ⟨a, ca, rfl, _, _, _, ha⟩ := h
  go_enter Try.func46, Try.ntmps46
  go_wp2
  go_loopw [5] (fun i wr => ∃ k : Nat, k ≤ xs.length ∧ i = .int .i64 ((k : Int) - 1) ∧ barAt xs xs.length = barAt xs k ∧ ∃ n, wr = w.drewN n) (fun i _ => (intOf i + 1).toNat)
  case atStart => exact ⟨xs.length, Nat.le_refl _, by go_num, rfl, 0, rfl⟩
  case round =>
    obtain ⟨k, hk, rfl, he, n, rfl⟩ := hrel
    have HE := (show Hid (barAt xs xs.length = barAt xs k) from he)
    clear he
    cases k with
    | zero =>
      clear ha
      go_wp2
      go_ret
      exact ⟨by rw [HE.out]; rfl, below_drewN n⟩
    | succ k =>
      have hs : ((k + 1 : Nat) : Int) - 1 = (k : Int) := by omega
      obtain ⟨b1, o1, rfl, c1⟩ := ha k (by omega)
      obtain ⟨y, hy⟩ : ∃ y, y = xs.getD k 0 := ⟨_, rfl⟩
      rw [← hy] at c1
      rw [hs]
      have HY := (show Hid (y = xs.getD k 0) from hy)
      clear ha hy hs
      have cc := ilastBar1_any y
      by_cases hb : y = -1
      · have hb1 : (y == -1) = true := by simp [hb]
        rw [hb1] at cc
        have HB := (show Hid (y = -1) from hb)
        clear hb hb1
        go_wp2_with (go_at_call 47; refine (cc _).mono ?_; rintro e w1 ⟨rfl, rfl⟩)
        go_ret
        exact ⟨by rw [HE.out, barAt_yes (by rw [← HY.out]; exact HB.out)]; simp, below_drewN n⟩
      · have hb1 : (y == -1) = false := by simp [hb]
        rw [hb1] at cc
        have HB := (show Hid (¬ y = -1) from hb)
        clear hb hb1
        go_wp2_with (go_at_call 47; refine (cc _).mono ?_; rintro e w1 ⟨rfl, rfl⟩)
        go_roundw
        case rel => exact ⟨k, by omega, by go_num, by rw [HE.out, barAt_no (by rw [← HY.out]; exact HB.out)], n, rfl⟩
        case measure => simp [intOf]

theorem ilastBar_any {v : Value} {xs : List Int} {w : World} (h : Sl .i64 w v xs) (hn : xs.length ≤ 1048576) :
    Calls Try.prog 31 #[v] w fun e w' => e = .returned (.int .i64 ((barAt xs xs.length : Int) - 1)) ∧ Below w.heap.size w w' := by
  have HS := (show Hid (Sl .i64 w v xs) from h)
  obtain ⟨a, ca, rfl, _, _, _, ha⟩ := h
  clear ha
  go_enter Try.func31, Try.ntmps31
  go_wp2_with fail
  go_at_call 46
  refine (ilastThat_bar HS.out hn).mono ?_
  rintro e w1 ⟨rfl, b1⟩
  go_wp2
  go_ret
  exact ⟨rfl, b1⟩

set_option maxRecDepth 100000 in
theorem iwith_none {v : Value} {xs : List Int} {w : World} (h : Sl .i64 w v xs) (hn : xs.length ≤ 1048576) :
    Calls Try.prog 45 #[v, .slice none 0 0] w fun e w' => ∃ v', e = .returned v' ∧ Own w.heap.size 3 .i64 w' v' xs ∧ Below w.heap.size w w' := by
  have HS := (show Hid (Sl .i64 w v xs) from h)
  obtain ⟨a, ca, rfl, _, _, _, ha⟩ := h
  clear ha
  obtain ⟨i0, hi, hz0, hz1, hz2⟩ := info_parts Try.infoI
  go_enter Try.func45, Try.ntmps45
  go_wp2_with (first
    | (at_make; refine wpList_mkn _ rfl (.tmp 10) (.tmp 10) 45 rfl 3 i0 .i64 Try.underlying45 hi hz0 hz1 xs.length xs.length xs.length rfl rfl rfl rfl (by rw [hz2]; omega) (by unfold maxLen; omega) ?_; intro w1 o1 b1)
    | (refine wpList_cp rfl (.tmp 12) (.tmp 13) 45 rfl 3 Try.underlying45 Try.sizeI w.heap.size .i64 _ _ _ xs rfl rfl o1 (HS.out.below b1) (by simp) ?_; intro w2 o2 g2; have b2 := b1.grown g2 b1.size o1.grownAt)
    | (refine wpList_copy_nothing rfl (.tmp 18) (.tmp 19) 45 25 rfl 3 Try.underlying45 Try.sizeI _ _ 0 _ 0 0 rfl rfl rfl ?_))
  go_ret
  exact ⟨_, rfl, o2, b2⟩

set_option maxRecDepth 100000 in
theorem ifirst_any {v : Value} {xs : List Int} {w : World} (h : Sl .i64 w v xs) (hn : xs.length ≤ 1048576) (k : Nat) (hk : k ≤ xs.length) :
    Calls Try.prog 30 #[v, .int .i64 k] w fun e w' => ∃ v', e = .returned v' ∧ Own w.heap.size 3 .i64 w' v' (xs.take k) ∧ Below w.heap.size w w' := by
  have HS := (show Hid (Sl .i64 w v xs) from h)
  obtain ⟨a, ca, rfl, _, _, _, ha⟩ := h
  clear ha
  go_enter Try.func30, Try.ntmps30
  go_wp2_with fail
  go_at_call 45
  have ht := sl_take HS.out hk
  have hl : (xs.take k).length = k := by simp; omega
  refine (iwith_none ht (by omega)).mono ?_
  rintro e w1 ⟨v1, rfl, o1, b1⟩
  go_wp2
  go_ret
  exact ⟨_, rfl, o1, b1⟩

theorem ifmtClear_any {v : Value} {xs : List Int} {w : World} (h : Sl .i64 w v xs) (hn : xs.length ≤ 1048576) :
    Calls Try.prog 15 #[v] w fun e w' => ∃ v', e = .returned v' ∧ Own w.heap.size 3 .i64 w' v' (clearL xs) ∧ Below w.heap.size w w' := by
  have HS := (show Hid (Sl .i64 w v xs) from h)
  have hb := barAt_le xs xs.length
  obtain ⟨n, hnb⟩ : ∃ n, n = barAt xs xs.length := ⟨_, rfl⟩
  obtain ⟨a, ca, rfl, _, _, _, ha⟩ := h
  clear ha
  have cl : Hid (xs.take (n - 1) = clearL xs) := by rw [hnb]; rfl
  have LB := (show Hid _ from ilastBar_any HS.out hn)
  rw [← hnb] at LB hb
  clear hnb
  go_enter Try.func15, Try.ntmps15
  go_wp2_with fail
  go_at_call 31
  refine Calls.mono LB.out ?_
  rintro e w1 ⟨rfl, b1⟩
  go_wp2_with fail
  · go_at_call 30
    have F := ifirst_any (HS.out.below b1) hn (n - 1) (by omega)
    rw [show ((n - 1 : Nat) : Int) = 0 by omega] at F
    refine Calls.mono F ?_
    rintro e w2 ⟨v2, rfl, o2, b2⟩
    go_wp2
    go_ret
    exact ⟨_, rfl, by rw [← cl.out]; exact o2.base b1.size, b1.trans (b2.mono b1.size)⟩
  · go_at_call 30
    have F := ifirst_any (HS.out.below b1) hn (n - 1) (by omega)
    rw [show ((n - 1 : Nat) : Int) = (n : Int) - 1 by omega] at F
    refine Calls.mono F ?_
    rintro e w2 ⟨v2, rfl, o2, b2⟩
    go_wp2
    go_ret
    exact ⟨_, rfl, by rw [← cl.out]; exact o2.base b1.size, b1.trans (b2.mono b1.size)⟩

theorem barIf (n : Nat) : (if (n : Int) - 1 > 0 then (n : Int) - 1 else 0) = ((n - 1 : Nat) : Int) := by split <;> omega

set_option maxRecDepth 100000 in
theorem sfmtClear_any {v : Value} {xs : List Int} {w : World} (h : Sl .i64 w v xs) (hn : xs.length ≤ 1048576) :
    Calls Try.prog 14 #[v] w fun e w' => ∃ v', e = .returned v' ∧ Own w.heap.size 3 .i64 w' v' (clearL xs) ∧ Below w.heap.size w w' := by
  have HS := (show Hid (Sl .i64 w v xs) from h)
  have hb := barAt_le xs xs.length
  obtain ⟨i0, hi, hz0, hz1, hz2⟩ := info_parts Try.infoI
  obtain ⟨n, hnb⟩ : ∃ n, n = barAt xs xs.length := ⟨_, rfl⟩
  obtain ⟨a, ca, rfl, _, _, _, ha⟩ := h
  clear ha
  have cl : Hid (xs.take (n - 1) = clearL xs) := by rw [hnb]; rfl
  have b0 : Below w.heap.size w (w.alloc (.cells #[] 3)) := (Below.refl _ _).alloc (Nat.le_refl _) _
  have o0 := own_empty 3 .i64 w
  have LB := (show Hid _ from sfrom_any (HS.out.below b0) hn)
  rw [← hnb] at LB hb
  have MX := (show Hid _ from smax_any ((n : Int) - 1) 0)
  rw [barIf n] at MX
  clear hnb
  go_enter Try.func14, Try.ntmps14
  go_wp2_with fail
  go_at_call 29
  refine Calls.mono LB.out ?_
  rintro e w1 ⟨rfl, b1⟩
  have B1 := b0.trans (b1.mono b0.size)
  have O1 := o0.below b1
  go_wp2_with fail
  go_at_call 28
  refine Calls.mono (MX.out _) ?_
  rintro e w2 ⟨rfl, rfl⟩
  have hl : (xs.take (n - 1)).length = n - 1 := by simp; omega
  have ht := sl_take (HS.out.below B1) (k := n - 1) (by omega)
  go_wp2_with (refine wpList_app _ rfl (.tmp 3) (.tmp 9) 25 rfl w.heap.size 3 i0 (.int .i64 0) 8 Try.underlying25 hi hz0 hz1 hz2 rfl .i64 _ _ [] (xs.take (n - 1)) rfl rfl O1 ht (by simp; omega) (by unfold maxLen; simp; omega) B1.size ?_; intro v' w3 o3 g3)
  go_ret
  exact ⟨_, rfl, by rw [← cl.out]; exact o3, B1.grown g3 B1.size O1.grownAt⟩
end Go.Proofs.Ytfgpmnkaabpppaa
