/- Contracts of PointsPut, the program's and the specification's, at every list of integers. -/
import Derived.Test.YtogdbjafibejdaaGreatX0
import Derived.Test.YtogdbjafibejdaaGreatX5
import Derived.Test.YtogdbjafibejdaaGreatX1
namespace Go.Proofs.YtogdbjafibejdaaGreat
open Go.RowKit
set_option maxRecDepth 100000
set_option linter.unusedVariables false

/-- What PointsPut answers. -/
def pointsPut (xs : List Int) : List Int := if xs.length ≤ 3000 then puts xs else []

theorem iputs_any {v : Value} {xs : List Int} {w : World} (h : Sl .i64 w v xs) (hn : xs.length ≤ 1099511627776) :
    Calls Tryz.prog 181 #[v] w fun e w' => ∃ v', e = .returned v' ∧ Own w.heap.size 5 .u8 w' v' (pointsPut xs) ∧ Below w.heap.size w w' := by
  obtain ⟨a, ca, rfl, _, _, _, ha⟩ := h
  unfold pointsPut
  by_cases hlen : xs.length ≤ 3000
  · rw [if_pos hlen]
    obtain ⟨i0, hi, hz0, hz1, hz2⟩ := info_parts Tryz.infoB
    go_enter Tryz.func181, Tryz.ntmps181
    go_wp2_with (at_make; refine wpList_mk0 _ rfl _ (.tmp 11) 22 rfl 5 i0 (.int .u8 0) Tryz.underlying22 hi hz0 hz1 .u8 xs.length xs.length rfl rfl rfl (by rw [hz2]; omega) (by unfold maxLen; omega) ?_; intro v0 w1 hown0 hbel0)
    go_loopw [3, 15] (fun v i wr => ∃ k : Nat, k ≤ xs.length ∧ i = .int .i64 k ∧ Own w.heap.size 5 .u8 wr v (puts (xs.take k)) ∧ Below w.heap.size w wr) (fun _ i _ => xs.length - (intOf i).toNat)
    case atStart => exact ⟨0, Nat.zero_le _, rfl, hown0, hbel0⟩
    case round =>
      clear hown0 hbel0
      obtain ⟨k, hk, rfl, hown, hbel⟩ := hrel
      by_cases hlt : k < xs.length
      · have ha' := ha.below hbel
        obtain ⟨b1, o1, rfl, c1⟩ := ha' k hlt
        clear ha ha'
        have hpl := puts_len (xs.take k)
        have htl : (xs.take k).length ≤ k := List.length_take_le _ _
        have hql := (put_len xs[k]).2
        go_wp2_with fail
        go_at_call 202
        refine (iput_any xs[k] _).mono ?_
        rintro e w2 ⟨u, rfl, ou, bu⟩
        replace hown := hown.below bu
        have hbs := hbel.size
        replace hbel := hbel.trans (bu.mono hbs)
        have hbs2 := hbel.size
        clear bu
        go_wp2_with (at_builtin; refine wpList_app _ rfl (.tmp 19) (.tmp 21) 22 rfl w.heap.size 5 i0 (.int .u8 0) 1 Tryz.underlying22 hi hz0 hz1 hz2 rfl .u8 _ _ (puts (xs.take k)) (put xs[k]) rfl rfl hown ou.sl (by omega) (by unfold maxLen; omega) hbs2 ?_; intro v' w3 o3 g3)
        go_roundw
        case rel => exact ⟨k + 1, by omega, by go_num, by rw [puts_take_succ xs k hlt]; exact o3, hbel.grown g3 hbs2 hown.grownAt⟩
        case measure => simp [intOf]; omega
      · go_wp2
        go_ret
        have hke : k = xs.length := by omega
        rw [hke, List.take_length] at hown
        exact ⟨_, rfl, hown, hbel⟩
  · rw [if_neg hlen]
    go_enter Tryz.func181, Tryz.ntmps181
    go_wp2
    go_ret
    exact ⟨_, rfl, own_empty _ _ _, (Below.refl _ _).alloc (Nat.le_refl _) _⟩

theorem l1Put_any {v : Value} {xs : List Int} {w : World} (h : Sl .i64 w v xs) (hn : xs.length ≤ 1099511627776) :
    Calls Tryz.prog 192 #[v] w fun e w' => ∃ v', e = .returned v' ∧ Own w.heap.size 5 .u8 w' v' (puts xs) ∧ Below w.heap.size w w' := by
  obtain ⟨a, ca, rfl, _, _, _, ha⟩ := h
  obtain ⟨i0, hi, hz0, hz1, hz2⟩ := info_parts Tryz.infoB
  have hown0 := own_empty 5 .u8 w
  have hbel0 : Below w.heap.size w (w.alloc (.cells #[] 5)) := (Below.refl _ _).alloc (Nat.le_refl _) _
  go_enter Tryz.func192, Tryz.ntmps192
  go_wp2
  go_loopw [3, 4] (fun v i wr => ∃ k : Nat, k ≤ xs.length ∧ i = .int .i64 k ∧ Own w.heap.size 5 .u8 wr v (puts (xs.take k)) ∧ Below w.heap.size w wr) (fun _ i _ => xs.length - (intOf i).toNat)
  case atStart => exact ⟨0, Nat.zero_le _, rfl, hown0, hbel0⟩
  case round =>
    clear hown0 hbel0
    obtain ⟨k, hk, rfl, hown, hbel⟩ := hrel
    by_cases hlt : k < xs.length
    · have ha' := ha.below hbel
      obtain ⟨b1, o1, rfl, c1⟩ := ha' k hlt
      clear ha ha'
      have hpl := puts_len (xs.take k)
      have htl : (xs.take k).length ≤ k := List.length_take_le _ _
      have hql := (put_len xs[k]).2
      go_wp2_with fail
      go_at_call 206
      refine (sput_any xs[k] _).mono ?_
      rintro e w2 ⟨u, rfl, ou, bu⟩
      replace hown := hown.below bu
      have hbs := hbel.size
      replace hbel := hbel.trans (bu.mono hbs)
      have hbs2 := hbel.size
      clear bu
      go_wp2_with (at_builtin; refine wpList_app _ rfl (.tmp 12) (.tmp 17) 22 rfl w.heap.size 5 i0 (.int .u8 0) 1 Tryz.underlying22 hi hz0 hz1 hz2 rfl .u8 _ _ (puts (xs.take k)) (put xs[k]) rfl rfl hown ou.sl (by omega) (by unfold maxLen; omega) hbs2 ?_; intro v' w3 o3 g3)
      go_roundw
      case rel => exact ⟨k + 1, by omega, by go_num, by rw [puts_take_succ xs k hlt]; exact o3, hbel.grown g3 hbs2 hown.grownAt⟩
      case measure => simp [intOf]; omega
    · go_wp2
      go_ret
      have hke : k = xs.length := by omega
      rw [hke, List.take_length] at hown
      exact ⟨_, rfl, hown, hbel⟩

theorem sputs_any {v : Value} {xs : List Int} {w : World} (h : Sl .i64 w v xs) (hn : xs.length ≤ 1099511627776) :
    Calls Tryz.prog 159 #[v] w fun e w' => ∃ v', e = .returned v' ∧ Own w.heap.size 5 .u8 w' v' (pointsPut xs) ∧ Below w.heap.size w w' := by
  have h0 := h
  obtain ⟨a, ca, rfl, _, _, _, ha⟩ := h
  unfold pointsPut
  by_cases hlen : xs.length ≤ 3000
  · rw [if_pos hlen]
    go_enter Tryz.func159, Tryz.ntmps159
    go_wp2_with fail
    go_at_call 192
    refine (l1Put_any h0 hn).mono ?_
    rintro e w2 ⟨u, rfl, ou, bu⟩
    go_wp2
    go_ret
    exact ⟨_, rfl, ou, bu⟩
  · rw [if_neg hlen]
    go_enter Tryz.func159, Tryz.ntmps159
    go_wp2
    go_ret
    exact ⟨_, rfl, own_empty _ _ _, (Below.refl _ _).alloc (Nat.le_refl _) _⟩

theorem pointsPut_len (xs : List Int) : (pointsPut xs).length ≤ 12000 := by
  unfold pointsPut; split
  · have := puts_len xs; omega
  · simp
end Go.Proofs.YtogdbjafibejdaaGreat
