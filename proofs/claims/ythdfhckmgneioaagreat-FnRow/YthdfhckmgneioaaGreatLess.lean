/- A list without all numbers that are x: the specification's l6Less and the program's withoutNumber, of every list of up to 2^40 numbers. -/
import Derived.Test.YthdfhckmgneioaaGreatHelpI
import Derived.Test.YthdfhckmgneioaaGreatGrow
import Derived.Test.YthdfhckmgneioaaGreatLines
namespace Go.Proofs.YthdfhckmgneioaaGreat
open Go.RowKit
set_option maxRecDepth 100000
set_option linter.unusedVariables false

def lessL (x : Int) (xs : List Int) : List Int := xs.filter (fun y => y != x)
theorem lessL_len (x : Int) (xs : List Int) : (lessL x xs).length ≤ xs.length := List.length_filter_le _ _
theorem lessL_keep {x : Int} {xs : List Int} {k : Nat} (h : k < xs.length) (hn : (xs[k] != x) = true) : lessL x (xs.take k) ++ [xs[k]] = lessL x (xs.take (k + 1)) := by
  rw [List.take_succ_eq_append_getElem h, lessL, lessL, List.filter_append]
  simp only [List.filter_cons, hn, if_true, List.filter_nil]
theorem lessL_skip {x : Int} {xs : List Int} {k : Nat} (h : k < xs.length) (hn : (xs[k] != x) = false) : lessL x (xs.take k) = lessL x (xs.take (k + 1)) := by
  rw [List.take_succ_eq_append_getElem h, lessL, lessL, List.filter_append]
  simp [hn]
theorem lessL_take (x : Int) (xs : List Int) (k : Nat) : (lessL x (xs.take k)).length ≤ k := Nat.le_trans (lessL_len _ _) (by simp; omega)

set_option maxRecDepth 100000 in
theorem sless_any {v : Value} {xs : List Int} (x : Int) {w : World} (h : Sl .i64 w v xs) (hn : xs.length ≤ 1048576) :
    Calls Tryz.prog 85 #[v, .int .i64 x] w fun e w' => ∃ v', e = .returned v' ∧ Own w.heap.size 3 .i64 w' v' (lessL x xs) ∧ Below w.heap.size w w' := by
  obtain ⟨a, ca, rfl, _, _, _, ha⟩ := h
  obtain ⟨i0, hi, hz0, hz1, hz2⟩ := info_parts Tryz.infoI
  go_enter Tryz.func85, Tryz.ntmps85
  go_wp2
  go_loopw [5, 6] (fun v i wr => ∃ k : Nat, k ≤ xs.length ∧ i = .int .i64 k ∧ Own w.heap.size 3 .i64 wr v (lessL x (xs.take k)) ∧ Below w.heap.size w wr) (fun _ i _ => xs.length - (intOf i).toNat)
  case atStart => exact ⟨0, Nat.zero_le _, rfl, own_empty _ _ w, (Below.refl _ _).alloc (Nat.le_refl _) _⟩
  case round =>
    obtain ⟨k, hk, rfl, hown, hbel⟩ := hrel
    have hbs := hbel.size
    have hlt' := lessL_take x xs k
    by_cases hlt : k < xs.length
    · have ha' := ha.below hbel
      obtain ⟨b1, o1, rfl, c1⟩ := ha' k hlt
      clear ha ha'
      go_wp2_with (at_builtin; refine wpList_app _ rfl (.tmp 20) (.tmp 25) 27 rfl w.heap.size 3 i0 (.int .i64 0) 8 Tryz.underlying27 hi hz0 hz1 hz2 rfl .i64 _ _ (lessL x (xs.take k)) [xs[k]] rfl rfl (hown.alloc _) (sl_one _ _ _ _) (by simp; omega) (by unfold maxLen; simp; omega) (by simp; omega) ?_; intro v' w3 o3 g3)
      · have hne : (xs[k] != x) = true := by assumption
        go_roundw
        case rel => exact ⟨k + 1, by omega, by go_num, by rw [← lessL_keep hlt hne]; exact o3, (hbel.alloc hbs _).grown g3 (by simp; omega) hown.grownAt⟩
        case measure => simp [intOf]; omega
      · have hne : (xs[k] != x) = false := by assumption
        go_roundw
        case rel => exact ⟨k + 1, by omega, by go_num, by rw [← lessL_skip hlt hne]; exact hown, hbel⟩
        case measure => simp [intOf]; omega
    · go_wp2
      go_ret
      have hke : k = xs.length := by omega
      rw [hke, List.take_length] at hown
      exact ⟨_, rfl, hown, hbel⟩
end Go.Proofs.YthdfhckmgneioaaGreat
