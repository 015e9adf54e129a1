/- A list without all numbers that are x: the specification's l6Less and the program's withoutNumber, of every list of up to 2^40 numbers. -/
import Derived.Test.YtfgpmnkaabpppaaHelpI
import Derived.Test.YtfgpmnkaabpppaaGrow
import Derived.Test.YtfgpmnkaabpppaaLines
namespace Go.Proofs.Ytfgpmnkaabpppaa
open Go.RowKit
set_option maxRecDepth 100000
set_option linter.unusedVariables false

def lessL (x : Int) (xs : List Int) : List Int := xs.filter (fun y => y != x)
theorem lessL_len (x : Int) (xs : List Int) : (lessL x xs).length ≤ xs.length := List.length_filter_le _ _
theorem lessL_keep {x : Int} {xs : List Int} {k : Nat} (h : k < xs.length) (hn : (xs[k] != x) = true) : lessL x (xs.take k) ++ [xs[k]] = lessL x (xs.take (k + 1)) := by
  rw [List.take_succ_eq_append_getElem h, lessL, lessL, List.filter_append]
  simp only [List.filter_cons, hn, if_true, List.filter_nil]
theorem lessL_skip {x : Int} {xs : List Int} {k : Nat} (h : k < xs.length) (hn : (xs[k] != x) = false) : lessL x (xs.take k) = lessL x (xs.take (k + 1)) := by
  rw [List.take_succ_eq_append_getElem h, lessL, lessL, List.filter_append]
  simp [hn]
theorem lessL_take (x : Int) (xs : List Int) (k : Nat) : (lessL x (xs.take k)).length ≤ k := Nat.le_trans (lessL_len _ _) (by simp; omega)

set_option maxRecDepth 100000 in
theorem sless_any {v : Value} {xs : List Int} (x : Int) {w : World} (h : Sl .i64 w v xs) (hn : xs.length ≤ 1048576) :
    Calls Try.prog 34 #[v, .int .i64 x] w fun e w' => ∃ v', e = .returned v' ∧ Own w.heap.size 3 .i64 w' v' (lessL x xs) ∧ Below w.heap.size w w' := by
  obtain ⟨a, ca, rfl, _, _, _, ha⟩ := h
  obtain ⟨i0, hi, hz0, hz1, hz2⟩ := info_parts Try.infoI
  go_enter Try.func34, Try.ntmps34
  go_wp2
  go_loopw [5, 6] (fun v i wr => ∃ k : Nat, k ≤ xs.length ∧ i = .int .i64 k ∧ Own w.heap.size 3 .i64 wr v (lessL x (xs.take k)) ∧ Below w.heap.size w wr) (fun _ i _ => xs.length - (intOf i).toNat)
  case atStart => exact ⟨0, Nat.zero_le _, rfl, own_empty _ _ w, (Below.refl _ _).alloc (Nat.le_refl _) _⟩
  case round =>
    obtain ⟨k, hk, rfl, hown, hbel⟩ := hrel
    have hbs := hbel.size
    have hlt' := lessL_take x xs k
    by_cases hlt : k < xs.length
    · have ha' := ha.below hbel
      obtain ⟨b1, o1, rfl, c1⟩ := ha' k hlt
      clear ha ha'
      go_wp2_with (at_builtin; refine wpList_app _ rfl (.tmp 20) (.tmp 25) 25 rfl w.heap.size 3 i0 (.int .i64 0) 8 Try.underlying25 hi hz0 hz1 hz2 rfl .i64 _ _ (lessL x (xs.take k)) [xs[k]] rfl rfl (hown.alloc _) (sl_one _ _ _ _) (by simp; omega) (by unfold maxLen; simp; omega) (by simp; omega) ?_; intro v' w3 o3 g3)
      · have hne : (xs[k] != x) = true := by assumption
        go_roundw
        case rel => exact ⟨k + 1, by omega, by go_num, by rw [← lessL_keep hlt hne]; exact o3, (hbel.alloc hbs _).grown g3 (by simp; omega) hown.grownAt⟩
        case measure => simp [intOf]; omega
      · have hne : (xs[k] != x) = false := by assumption
        go_roundw
        case rel => exact ⟨k + 1, by omega, by go_num, by rw [← lessL_skip hlt hne]; exact hown, hbel⟩
        case measure => simp [intOf]; omega
    · go_wp2
      go_ret
      have hke : k = xs.length := by omega
      rw [hke, List.take_length] at hown
      exact ⟨_, rfl, hown, hbel⟩
set_option maxRecDepth 100000 in
theorem iless_any {v : Value} {xs : List Int} (x : Int) {w : World} (h : Sl .i64 w v xs) (hn : xs.length ≤ 1048576) :
    Calls Try.prog 35 #[v, .int .i64 x] w fun e w' => ∃ v', e = .returned v' ∧ Own w.heap.size 3 .i64 w' v' (lessL x xs) ∧ Below w.heap.size w w' := by
  obtain ⟨a, ca, rfl, _, _, _, ha⟩ := h
  obtain ⟨i0, hi, hz0, hz1, hz2⟩ := info_parts Try.infoI
  go_enter Try.func35, Try.ntmps35
  go_wp2_with (at_make; refine wpList_mk0 _ rfl _ _ 25 rfl 3 i0 _ Try.underlying25 hi hz0 hz1 .i64 _ xs.length rfl rfl rfl (by rw [hz2]; omega) (by unfold maxLen; omega) ?_; intro v0 w0 o0 b0)
  go_loopw [5, 13] (fun v i wr => ∃ k : Nat, k ≤ xs.length ∧ i = .int .i64 k ∧ Own w.heap.size 3 .i64 wr v (lessL x (xs.take k)) ∧ Below w.heap.size w wr) (fun _ i _ => xs.length - (intOf i).toNat)
  case atStart => exact ⟨0, Nat.zero_le _, rfl, o0, b0⟩
  case round =>
    clear o0 b0
    obtain ⟨k, hk, rfl, hown, hbel⟩ := hrel
    have hbs := hbel.size
    have hlt' := lessL_take x xs k
    by_cases hlt : k < xs.length
    · have ha' := ha.below hbel
      obtain ⟨b1, o1, rfl, c1⟩ := ha' k hlt
      clear ha ha'
      go_wp2_with (at_builtin; refine wpList_app _ rfl (.tmp 20) (.tmp 22) 25 rfl w.heap.size 3 i0 (.int .i64 0) 8 Try.underlying25 hi hz0 hz1 hz2 rfl .i64 _ _ (lessL x (xs.take k)) [xs[k]] rfl rfl (hown.alloc _) (sl_one _ _ _ _) (by simp; omega) (by unfold maxLen; simp; omega) (by simp; omega) ?_; intro v' w3 o3 g3)
      · have hne : (xs[k] != x) = true := by assumption
        go_roundw
        case rel => exact ⟨k + 1, by omega, by go_num, by rw [← lessL_keep hlt hne]; exact o3, (hbel.alloc hbs _).grown g3 (by simp; omega) hown.grownAt⟩
        case measure => simp [intOf]; omega
      · have hne : (xs[k] != x) = false := by assumption
        go_roundw
        case rel => exact ⟨k + 1, by omega, by go_num, by rw [← lessL_skip hlt hne]; exact hown, hbel⟩
        case measure => simp [intOf]; omega
    · go_wp2
      go_ret
      have hke : k = xs.length := by omega
      rw [hke, List.take_length] at hown
      exact ⟨_, rfl, hown, hbel⟩
theorem sfmtLess_any {v : Value} {xs : List Int} (x : Int) {w : World} (h : Sl .i64 w v xs) (hn : xs.length ≤ 1048576) :
    Calls Try.prog 20 #[v, .int .i64 x] w fun e w' => ∃ v', e = .returned v' ∧ Own w.heap.size 3 .i64 w' v' (lessL x xs) ∧ Below w.heap.size w w' := by
  have HS := (show Hid (Sl .i64 w v xs) from h)
  obtain ⟨a, ca, rfl, _, _, _, ha⟩ := h
  clear ha
  go_enter Try.func20, Try.ntmps20
  go_wp2_with fail
  go_at_call 34
  refine ((sless_any) x HS.out hn).mono ?_
  rintro e w1 ⟨v1, rfl, o1, b1⟩
  go_wp2
  go_ret
  exact ⟨_, rfl, o1, b1⟩

theorem ifmtLess_any {v : Value} {xs : List Int} (x : Int) {w : World} (h : Sl .i64 w v xs) (hn : xs.length ≤ 1048576) :
    Calls Try.prog 21 #[v, .int .i64 x] w fun e w' => ∃ v', e = .returned v' ∧ Own w.heap.size 3 .i64 w' v' (lessL x xs) ∧ Below w.heap.size w w' := by
  have HS := (show Hid (Sl .i64 w v xs) from h)
  obtain ⟨a, ca, rfl, _, _, _, ha⟩ := h
  clear ha
  go_enter Try.func21, Try.ntmps21
  go_wp2_with fail
  go_at_call 35
  refine ((iless_any) x HS.out hn).mono ?_
  rintro e w1 ⟨v1, rfl, o1, b1⟩
  go_wp2
  go_ret
  exact ⟨_, rfl, o1, b1⟩
end Go.Proofs.Ytfgpmnkaabpppaa
