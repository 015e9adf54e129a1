/- Contracts of LinesOf, the program's and the specification's, and of copyOf, at every list of integers. -/
import Derived.Test.YtphaogkgnpalgaaHelpI
import Derived.Test.YtphaogkgnpalgaaGrow
namespace Go.Proofs.Ytphaogkgnpalgaa
open Go.RowKit
set_option linter.unusedVariables false

/-- What LinesOf tells of the number at place i. -/
def lineAt (xs : List Int) (i : Nat) : List Int :=
  if xs.getD i 0 ≠ 13 then [xs.getD i 0] else if i + 1 = xs.length ∨ xs.getD (i + 1) 0 ≠ 10 then [10] else []
/-- .. of the first k. -/
def linesTo (xs : List Int) (k : Nat) : List Int := (List.range k).flatMap (lineAt xs)
/-- What LinesOf answers. -/
def linesOf (xs : List Int) : List Int := if xs.length ≤ 3000 then linesTo xs xs.length else []

theorem linesTo_succ (xs : List Int) (k : Nat) : linesTo xs (k + 1) = linesTo xs k ++ lineAt xs k := by simp [linesTo, List.range_succ]
theorem lineAt_len (xs : List Int) (i : Nat) : (lineAt xs i).length ≤ 1 := by unfold lineAt; repeat (split <;> try simp)
theorem linesTo_len (xs : List Int) (k : Nat) : (linesTo xs k).length ≤ k := by
  induction k with
  | zero => simp [linesTo]
  | succ k ih => have := lineAt_len xs k; rw [linesTo_succ, List.length_append]; omega
theorem linesOf_len (xs : List Int) : (linesOf xs).length ≤ 3000 := by
  unfold linesOf; split
  · have := linesTo_len xs xs.length; omega
  · simp
theorem lineAt_char {xs : List Int} {i : Nat} (h : xs.getD i 0 ≠ 13) : lineAt xs i = [xs.getD i 0] := by simp only [lineAt, if_pos h]
theorem lineAt_end {xs : List Int} {i : Nat} (h : xs.getD i 0 = 13) (h' : i + 1 = xs.length ∨ xs.getD (i + 1) 0 ≠ 10) : lineAt xs i = [10] := by
  simp only [lineAt, h, ne_eq, not_true_eq_false, if_false]; rw [if_pos h']
theorem lineAt_none {xs : List Int} {i : Nat} (h : xs.getD i 0 = 13) (h1 : i + 1 ≠ xs.length) (h' : xs.getD (i + 1) 0 = 10) : lineAt xs i = [] := by
  simp only [lineAt, h, ne_eq, not_true_eq_false, if_false]; rw [if_neg (by rintro (h2 | h2); exact h1 h2; exact h2 h')]

theorem lineC {xs : List Int} {k : Nat} (h : k < xs.length) (h' : xs[k] ≠ 13) : lineAt xs k = [xs[k]] := by
  have e : xs.getD k 0 = xs[k] := by simp [List.getD_eq_getElem?_getD, h]
  rw [lineAt_char (by rw [e]; exact h'), e]
theorem lineE {xs : List Int} {k : Nat} (h : k < xs.length) (h' : xs[k] = 13) (h2 : k + 1 = xs.length) : lineAt xs k = [10] :=
  lineAt_end (by simp [List.getD_eq_getElem?_getD, h, h']) (.inl h2)
theorem lineX {xs : List Int} {k : Nat} (h : k < xs.length) (h' : xs[k] = 13) (h2 : k + 1 < xs.length) (h3 : xs[k + 1] ≠ 10) : lineAt xs k = [10] :=
  lineAt_end (by simp [List.getD_eq_getElem?_getD, h, h']) (.inr (by simpa [List.getD_eq_getElem?_getD, h2] using h3))
theorem lineN {xs : List Int} {k : Nat} (h : k < xs.length) (h' : xs[k] = 13) (h2 : k + 1 < xs.length) (h3 : xs[k + 1] = 10) : lineAt xs k = [] :=
  lineAt_none (by simp [List.getD_eq_getElem?_getD, h, h']) (by omega) (by simp [List.getD_eq_getElem?_getD, h2, h3])

theorem Try.sizeI : Option.map (fun x => x.size) (Try.prog.info? 3) = some 1 := by kernel_rfl

theorem copyOf_any {v : Value} {xs : List Int} {w : World} (h : Sl .i64 w v xs) (hn : xs.length ≤ 1099511627776) :
    Calls Try.prog 38 #[v] w fun e w' => ∃ v', e = .returned v' ∧ Own w.heap.size 3 .i64 w' v' xs ∧ Below w.heap.size w w' := by
  have h0 := h
  obtain ⟨a, ca, rfl, _, _, _, ha⟩ := h
  clear ha
  obtain ⟨i0, hi, hz0, hz1, hz2⟩ := info_parts Try.infoI
  go_enter Try.func38, Try.ntmps38
  go_wp2_with (first
    | (at_make; refine wpList_mkn _ rfl (.tmp 5) (.tmp 5) 25 rfl 3 i0 .i64 Try.underlying25 hi hz0 hz1 xs.length xs.length xs.length rfl rfl rfl rfl (by rw [hz2]; omega) (by unfold maxLen; omega) ?_; intro w1 hown hbel; have h1 := h0.below hbel)
    | (refine wpList_cp rfl (.tmp 7) (.tmp 8) 25 rfl 3 Try.underlying25 Try.sizeI w.heap.size .i64 _ _ _ xs rfl rfl hown h1 (by simp) ?_; intro w2 hown2 hgr2))
  go_ret
  exact ⟨_, rfl, hown2, hbel.grown hgr2 hbel.size hown.grownAt⟩

theorem sl_one (e : TypeId) (K : IntKind) (w : World) (x : Int) : Sl K (w.alloc (.cells #[.int K x] e)) (.slice (some ⟨w.heap.size, 0, none⟩) 1 1) [x] :=
  Own.sl (World.ownsRow_lit w #[Value.int K x] 1 (Nat.le_refl _) (by unfold maxLen; omega) rfl : Own w.heap.size e K _ _ [x])

theorem slines_any {v : Value} {xs : List Int} {w : World} (h : Sl .i64 w v xs) (hn : xs.length ≤ 1099511627776) :
    Calls Try.prog 23 #[v] w fun e w' => ∃ v', e = .returned v' ∧ Own w.heap.size 3 .i64 w' v' (linesOf xs) ∧ Below w.heap.size w w' := by
  obtain ⟨a, ca, rfl, _, _, _, ha⟩ := h
  have hown0 := own_empty 3 .i64 w
  have hbel0 : Below w.heap.size w (w.alloc (.cells #[] 3)) := (Below.refl _ _).alloc (Nat.le_refl _) _
  unfold linesOf
  by_cases hlen : xs.length ≤ 3000
  · rw [if_pos hlen]
    obtain ⟨i0, hi, hz0, hz1, hz2⟩ := info_parts Try.infoI
    go_enter Try.func23, Try.ntmps23
    go_wp2
    go_loopw [3, 4] (fun v i wr => ∃ k : Nat, k ≤ xs.length ∧ i = .int .i64 k ∧ Own w.heap.size 3 .i64 wr v (linesTo xs k) ∧ Below w.heap.size w wr) (fun _ i _ => xs.length - (intOf i).toNat)
    case atStart => exact ⟨0, Nat.zero_le _, rfl, hown0, hbel0⟩
    case round =>
      clear hown0 hbel0
      obtain ⟨k, hk, rfl, hown, hbel⟩ := hrel
      have hbs := hbel.size
      have hpl := linesTo_len xs k
      by_cases hlt : k < xs.length
      · have ha' := ha.below hbel
        obtain ⟨b1, o1, rfl, c1⟩ := ha' k hlt
        by_cases h13 : xs[k] = 13
        · have e1 : (xs[k] != 13) = false := by simp [h13]
          by_cases hend : k + 1 = xs.length
          · have L1 : Hid (lineAt xs k = [10]) := (lineE hlt h13 hend : lineAt xs k = [10])
            clear ha ha' h13
            go_wp2_with (at_builtin; refine wpList_app _ rfl (.tmp 44) (.tmp 45) 25 rfl w.heap.size 3 i0 (.int .i64 0) 8 Try.underlying25 hi hz0 hz1 hz2 rfl .i64 _ _ (linesTo xs k) [10] rfl rfl (hown.alloc _) (sl_one _ _ _ _) (by simp; omega) (by unfold maxLen; simp; omega) (by simp; omega) ?_; intro v' w3 o3 g3)
            go_roundw
            case rel => exact ⟨k + 1, by omega, by go_num, by rw [linesTo_succ, L1.out]; exact o3, (hbel.alloc hbs _).grown g3 (by simp; omega) hown.grownAt⟩
            case measure => simp [intOf]; omega
          · have hlt2 : k + 1 < xs.length := by omega
            obtain ⟨b2, o2, eb, c2⟩ := ha' (k + 1) hlt2
            cases eb
            have e2 : ((k : Int) + 1 == (xs.length : Int)) = false := by simp; omega
            by_cases h10 : xs[k + 1] = 10
            · have e3 : (xs[k + 1] != 10) = false := by simp [h10]
              have L1 : Hid (lineAt xs k = []) := (lineN hlt h13 hlt2 h10 : lineAt xs k = [])
              clear ha ha' h13 h10
              go_wp2
              go_roundw
              case rel => exact ⟨k + 1, by omega, by go_num, by rw [linesTo_succ, L1.out, List.append_nil]; exact hown, hbel⟩
              case measure => simp [intOf]; omega
            · have e3 : (xs[k + 1] != 10) = true := by simp [h10]
              have L1 : Hid (lineAt xs k = [10]) := (lineX hlt h13 hlt2 h10 : lineAt xs k = [10])
              clear ha ha' h13 h10
              go_wp2_with (at_builtin; refine wpList_app _ rfl (.tmp 44) (.tmp 45) 25 rfl w.heap.size 3 i0 (.int .i64 0) 8 Try.underlying25 hi hz0 hz1 hz2 rfl .i64 _ _ (linesTo xs k) [10] rfl rfl (hown.alloc _) (sl_one _ _ _ _) (by simp; omega) (by unfold maxLen; simp; omega) (by simp; omega) ?_; intro v' w3 o3 g3)
              go_roundw
              case rel => exact ⟨k + 1, by omega, by go_num, by rw [linesTo_succ, L1.out]; exact o3, (hbel.alloc hbs _).grown g3 (by simp; omega) hown.grownAt⟩
              case measure => simp [intOf]; omega
        · have e1 : (xs[k] != 13) = true := by simp [h13]
          have L1 : Hid (lineAt xs k = [xs[k]]) := (lineC hlt h13 : lineAt xs k = [xs[k]])
          clear ha ha' h13
          go_wp2_with (at_builtin; refine wpList_app _ rfl (.tmp 23) (.tmp 28) 25 rfl w.heap.size 3 i0 (.int .i64 0) 8 Try.underlying25 hi hz0 hz1 hz2 rfl .i64 _ _ (linesTo xs k) [xs[k]] rfl rfl (hown.alloc _) (sl_one _ _ _ _) (by simp; omega) (by unfold maxLen; simp; omega) (by simp; omega) ?_; intro v' w3 o3 g3)
          go_roundw
          case rel => exact ⟨k + 1, by omega, by go_num, by rw [linesTo_succ, L1.out]; exact o3, (hbel.alloc hbs _).grown g3 (by simp; omega) hown.grownAt⟩
          case measure => simp [intOf]; omega
      · go_wp2
        go_ret
        have hke : k = xs.length := by omega
        rw [hke] at hown
        exact ⟨_, rfl, hown, hbel⟩
  · rw [if_neg hlen]
    go_enter Try.func23, Try.ntmps23
    go_wp2
    refine wp_loop_rounds 1 ?_
    rw [rounds_succ]
    go_wp2
    go_ret
    exact ⟨_, rfl, hown0, hbel0⟩

theorem ilines_any {v : Value} {xs : List Int} {w : World} (h : Sl .i64 w v xs) (hn : xs.length ≤ 1099511627776) :
    Calls Try.prog 22 #[v] w fun e w' => ∃ v', e = .returned v' ∧ Own w.heap.size 3 .i64 w' v' (linesOf xs) ∧ Below w.heap.size w w' := by
  obtain ⟨a, ca, rfl, _, _, _, ha⟩ := h
  unfold linesOf
  by_cases hlen : xs.length ≤ 3000
  · rw [if_pos hlen]
    obtain ⟨i0, hi, hz0, hz1, hz2⟩ := info_parts Try.infoI
    go_enter Try.func22, Try.ntmps22
    go_wp2_with (at_make; refine wpList_mk0 _ rfl _ (.tmp 11) 25 rfl 3 i0 (.int .i64 0) Try.underlying25 hi hz0 hz1 .i64 xs.length xs.length rfl rfl rfl (by rw [hz2]; omega) (by unfold maxLen; omega) ?_; intro v0 w1 hown0 hbel0)
    go_loopw [3, 15] (fun v i wr => ∃ k : Nat, k ≤ xs.length ∧ i = .int .i64 k ∧ Own w.heap.size 3 .i64 wr v (linesTo xs k) ∧ Below w.heap.size w wr) (fun _ i _ => xs.length - (intOf i).toNat)
    case atStart => exact ⟨0, Nat.zero_le _, rfl, hown0, hbel0⟩
    case round =>
      clear hown0 hbel0
      obtain ⟨k, hk, rfl, hown, hbel⟩ := hrel
      have hbs := hbel.size
      have hpl := linesTo_len xs k
      by_cases hlt : k < xs.length
      · have ha' := ha.below hbel
        obtain ⟨b1, o1, rfl, c1⟩ := ha' k hlt
        by_cases h13 : xs[k] = 13
        · have e1 : (xs[k] != 13) = false := by simp [h13]
          by_cases hend : k + 1 = xs.length
          · have L1 : Hid (lineAt xs k = [10]) := (lineE hlt h13 hend : lineAt xs k = [10])
            clear ha ha' h13
            go_wp2_with (at_builtin; refine wpList_app _ rfl (.tmp 41) (.tmp 42) 25 rfl w.heap.size 3 i0 (.int .i64 0) 8 Try.underlying25 hi hz0 hz1 hz2 rfl .i64 _ _ (linesTo xs k) [10] rfl rfl (hown.alloc _) (sl_one _ _ _ _) (by simp; omega) (by unfold maxLen; simp; omega) (by simp; omega) ?_; intro v' w3 o3 g3)
            go_roundw
            case rel => exact ⟨k + 1, by omega, by go_num, by rw [linesTo_succ, L1.out]; exact o3, (hbel.alloc hbs _).grown g3 (by simp; omega) hown.grownAt⟩
            case measure => simp [intOf]; omega
          · have hlt2 : k + 1 < xs.length := by omega
            obtain ⟨b2, o2, eb, c2⟩ := ha' (k + 1) hlt2
            cases eb
            have e2 : ((k : Int) + 1 == (xs.length : Int)) = false := by simp; omega
            by_cases h10 : xs[k + 1] = 10
            · have e3 : (xs[k + 1] != 10) = false := by simp [h10]
              have L1 : Hid (lineAt xs k = []) := (lineN hlt h13 hlt2 h10 : lineAt xs k = [])
              clear ha ha' h13 h10
              go_wp2
              go_roundw
              case rel => exact ⟨k + 1, by omega, by go_num, by rw [linesTo_succ, L1.out, List.append_nil]; exact hown, hbel⟩
              case measure => simp [intOf]; omega
            · have e3 : (xs[k + 1] != 10) = true := by simp [h10]
              have L1 : Hid (lineAt xs k = [10]) := (lineX hlt h13 hlt2 h10 : lineAt xs k = [10])
              clear ha ha' h13 h10
              go_wp2_with (at_builtin; refine wpList_app _ rfl (.tmp 41) (.tmp 42) 25 rfl w.heap.size 3 i0 (.int .i64 0) 8 Try.underlying25 hi hz0 hz1 hz2 rfl .i64 _ _ (linesTo xs k) [10] rfl rfl (hown.alloc _) (sl_one _ _ _ _) (by simp; omega) (by unfold maxLen; simp; omega) (by simp; omega) ?_; intro v' w3 o3 g3)
              go_roundw
              case rel => exact ⟨k + 1, by omega, by go_num, by rw [linesTo_succ, L1.out]; exact o3, (hbel.alloc hbs _).grown g3 (by simp; omega) hown.grownAt⟩
              case measure => simp [intOf]; omega
        · have e1 : (xs[k] != 13) = true := by simp [h13]
          have L1 : Hid (lineAt xs k = [xs[k]]) := (lineC hlt h13 : lineAt xs k = [xs[k]])
          clear ha ha' h13
          go_wp2_with (at_builtin; refine wpList_app _ rfl (.tmp 23) (.tmp 25) 25 rfl w.heap.size 3 i0 (.int .i64 0) 8 Try.underlying25 hi hz0 hz1 hz2 rfl .i64 _ _ (linesTo xs k) [xs[k]] rfl rfl (hown.alloc _) (sl_one _ _ _ _) (by simp; omega) (by unfold maxLen; simp; omega) (by simp; omega) ?_; intro v' w3 o3 g3)
          go_roundw
          case rel => exact ⟨k + 1, by omega, by go_num, by rw [linesTo_succ, L1.out]; exact o3, (hbel.alloc hbs _).grown g3 (by simp; omega) hown.grownAt⟩
          case measure => simp [intOf]; omega
      · have hke : k = xs.length := by omega
        have hpl2 := linesTo_len xs xs.length
        rw [hke] at hown
        go_wp2_with fail
        go_at_call 38
        refine (copyOf_any hown.sl (by omega)).mono ?_
        rintro e w5 ⟨v5, rfl, o5, b5⟩
        go_wp2
        go_ret
        exact ⟨_, rfl, o5.base hbs, hbel.trans (b5.mono hbs)⟩
  · rw [if_neg hlen]
    go_enter Try.func22, Try.ntmps22
    go_wp2
    go_ret
    exact ⟨_, rfl, own_empty _ _ _, (Below.refl _ _).alloc (Nat.le_refl _) _⟩
end Go.Proofs.Ytphaogkgnpalgaa
