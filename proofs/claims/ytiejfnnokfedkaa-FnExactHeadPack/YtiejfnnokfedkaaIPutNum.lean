/- Contracts of PutNum, the program's and the specification's, at every number. -/
import Derived.Test.YtiejfnnokfedkaaRows
import Derived.Test.YtiejfnnokfedkaaGrow
import Derived.Test.YtiejfnnokfedkaaHelp
import Derived.Test.YtiejfnnokfedkaaNf
namespace Go.Proofs.Ytiejfnnokfedkaa
open Go.RowKit
set_option maxRecDepth 100000
set_option linter.unusedVariables false

theorem own_nil (B : Nat) (e : TypeId) (K : IntKind) (w : World) : Own B e K w (.slice none 0 0) [] := ⟨rfl, .inl ⟨rfl, rfl⟩⟩
theorem sl_byte1 (w : World) (t : TypeId) (x : Int) : Sl .u8 (w.alloc (.cells #[.int .u8 x] t)) (.slice (some ⟨w.heap.size, 0, none⟩) 1 1) [x] :=
  Own.sl (World.ownsRow_lit w #[.int .u8 x] 1 (Nat.le_refl _) (by unfold maxLen; omega) rfl : Own w.heap.size t .u8 _ _ [x])

theorem inum_any (x : Int) (w : World) (hx : x ≤ 9223372036854775807) :
    Calls Try.prog 29 #[.int .i64 x] w fun e w' => ∃ v, e = .returned v ∧ Own w.heap.size 5 .u8 w' v (form x) ∧ Below w.heap.size w w' := by
  unfold form
  by_cases h0 : x < 0
  · rw [if_pos h0]
    go_enter Try.func29, Try.ntmps29
    go_wp2
    go_ret
    exact ⟨_, rfl, own_nil _ _ _ _, Below.refl _ _⟩
  · rw [if_neg h0]
    have hb := bd_of (by omega) hx
    obtain ⟨i0, hi, hz0, hz1, hz2⟩ := info_parts Try.infoB
    have hown0 := own_empty 5 .u8 w
    have hbel0 : Below w.heap.size w (w.alloc (.cells #[] 5)) := (Below.refl _ _).alloc (Nat.le_refl _) _
    go_enter Try.func29, Try.ntmps29
    go_wp2
    go_loopw [0, 3] (fun y v wr => ∃ (z : Int) (m : Nat) (pre : List Int), y = .int .i64 z ∧ z ≤ x ∧ Bd m z ∧ pre.length + m = 8 ∧ pre ++ nf m z = nf 8 x ∧ Own w.heap.size 5 .u8 wr v pre ∧ Below w.heap.size w wr) (fun y _ _ => (intOf y).toNat)
    case atStart => exact ⟨x, 8, [], rfl, Int.le_refl _, hb, rfl, rfl, hown0, hbel0⟩
    case round =>
      clear hown0 hbel0 hb
      obtain ⟨z, m, pre, rfl, hzx, hb, hl, he, hown, hbel⟩ := hrel
      have hz0' := hb.1
      have hsz := hbel.size
      by_cases hlt : z < 128
      · rw [nf_lt hlt] at he
        have ez : z % 256 = z := by omega
        have hone := sl_byte1 (w := wr) 5 z
        go_wp2_with (at_builtin; refine wpList_app _ rfl _ _ 43 rfl w.heap.size 5 i0 (.int .u8 0) 1 Try.underlying43 hi hz0 hz1 hz2 rfl .u8 _ _ pre [z] rfl rfl (hown.alloc _) hone (by simp; omega) (by unfold maxLen; simp; omega) (by simp; omega) ?_; intro v' w3 o3 g3)
        go_ret
        rw [he] at o3
        exact ⟨_, rfl, o3, (hbel.alloc (by omega) _).grown g3 (by simp; omega) hown.grownAt⟩
      · obtain ⟨n, rfl, hb'⟩ := hb.next (by omega)
        rw [nf_ge (by omega)] at he
        have ez : (128 + z % 128) % 256 = 128 + z % 128 := by omega
        have hone := sl_byte1 (w := wr) 5 (128 + z % 128)
        go_wp2_with (at_builtin; refine wpList_app _ rfl _ _ 43 rfl w.heap.size 5 i0 (.int .u8 0) 1 Try.underlying43 hi hz0 hz1 hz2 rfl .u8 _ _ pre [128 + z % 128] rfl rfl (hown.alloc _) hone (by simp; omega) (by unfold maxLen; simp; omega) (by simp; omega) ?_; intro v' w3 o3 g3)
        go_roundw
        case rel => exact ⟨z / 128, n, pre ++ [128 + z % 128], by go_num, by omega, hb', by simp; omega, by rw [List.append_assoc]; exact he, o3, (hbel.alloc (by omega) _).grown g3 (by simp; omega) hown.grownAt⟩
        case measure => simp [intOf]; omega

theorem snum_any (x : Int) (w : World) (hx : x ≤ 9223372036854775807) :
    Calls Try.prog 26 #[.int .i64 x] w fun e w' => ∃ v, e = .returned v ∧ Own w.heap.size 5 .u8 w' v (form x) ∧ Below w.heap.size w w' := by
  unfold form
  by_cases h0 : x < 0
  · rw [if_pos h0]
    go_enter Try.func26, Try.ntmps26
    go_wp2
    go_ret
    exact ⟨_, rfl, own_empty _ _ _, (Below.refl _ _).alloc (Nat.le_refl _) _⟩
  · rw [if_neg h0]
    have hb := bd_of (by omega) hx
    obtain ⟨i0, hi, hz0, hz1, hz2⟩ := info_parts Try.infoB
    have hown0 := own_empty 5 .u8 w
    have hbel0 : Below w.heap.size w (w.alloc (.cells #[] 5)) := (Below.refl _ _).alloc (Nat.le_refl _) _
    go_enter Try.func26, Try.ntmps26
    go_wp2
    go_loopw [0, 3] (fun y v wr => ∃ (z : Int) (m : Nat) (pre : List Int), y = .int .i64 z ∧ z ≤ x ∧ Bd m z ∧ pre.length + m = 8 ∧ pre ++ nf m z = nf 8 x ∧ Own w.heap.size 5 .u8 wr v pre ∧ Below w.heap.size w wr) (fun y _ _ => (intOf y).toNat)
    case atStart => exact ⟨x, 8, [], rfl, Int.le_refl _, hb, rfl, rfl, hown0, hbel0⟩
    case round =>
      clear hown0 hbel0 hb
      obtain ⟨z, m, pre, rfl, hzx, hb, hl, he, hown, hbel⟩ := hrel
      have hz0' := hb.1
      have hsz := hbel.size
      by_cases hlt : z < 128
      · rw [nf_lt hlt] at he
        have ez : z % 256 = z := by omega
        have hone := sl_byte1 (w := wr) 5 z
        go_wp2_with (at_builtin; refine wpList_app _ rfl _ _ 43 rfl w.heap.size 5 i0 (.int .u8 0) 1 Try.underlying43 hi hz0 hz1 hz2 rfl .u8 _ _ pre [z] rfl rfl (hown.alloc _) hone (by simp; omega) (by unfold maxLen; simp; omega) (by simp; omega) ?_; intro v' w3 o3 g3)
        go_ret
        rw [he] at o3
        exact ⟨_, rfl, o3, (hbel.alloc (by omega) _).grown g3 (by simp; omega) hown.grownAt⟩
      · obtain ⟨n, rfl, hb'⟩ := hb.next (by omega)
        rw [nf_ge (by omega), Int.add_comm] at he
        have ez : (z % 128 + 128) % 256 = z % 128 + 128 := by omega
        have hone := sl_byte1 (w := wr) 5 (z % 128 + 128)
        go_wp2_with (at_builtin; refine wpList_app _ rfl _ _ 43 rfl w.heap.size 5 i0 (.int .u8 0) 1 Try.underlying43 hi hz0 hz1 hz2 rfl .u8 _ _ pre [z % 128 + 128] rfl rfl (hown.alloc _) hone (by simp; omega) (by unfold maxLen; simp; omega) (by simp; omega) ?_; intro v' w3 o3 g3)
        go_roundw
        case rel => exact ⟨z / 128, n, pre ++ [z % 128 + 128], by go_num, by omega, hb', by simp; omega, by rw [List.append_assoc]; exact he, o3, (hbel.alloc (by omega) _).grown g3 (by simp; omega) hown.grownAt⟩
        case measure => simp [intOf]; omega
end Go.Proofs.Ytiejfnnokfedkaa
