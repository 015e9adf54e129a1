/- Contracts of PointOk and PointPut, the program's and the specification's, at every number. -/
import Derived.Test.YtmccbommmjdbdaaRows
import Derived.Test.YtmccbommmjdbdaaBase
import Derived.Test.YtmccbommmjdbdaaUtf
namespace Go.Proofs.Ytmccbommmjdbdaa
open Go.RowKit
set_option maxRecDepth 100000
set_option linter.unusedVariables false

theorem iok_any (x : Int) (w : World) : Calls Try.prog 113 #[.int .i64 x] w fun e w' => e = .returned (.bool (pointOk x)) ∧ w' = w := by
  rcases (show x < 0 ∨ (0 ≤ x ∧ x < 55296) ∨ (55296 ≤ x ∧ x ≤ 57343) ∨ (57343 < x ∧ x ≤ 1114111) ∨ 1114111 < x by omega) with h | ⟨h, h'⟩ | ⟨h, h'⟩ | ⟨h, h'⟩ | h
  all_goals
    go_enter Try.func113, Try.ntmps113
    go_wp2
    go_ret
    exact ⟨ret_bool (by rw [eq_comm, Bool.eq_iff_iff, pointOk_iff]; simp <;> omega), rfl⟩

theorem sok_any (x : Int) (w : World) : Calls Try.prog 117 #[.int .i64 x] w fun e w' => e = .returned (.bool (pointOk x)) ∧ w' = w := by
  rcases (show x < 0 ∨ (0 ≤ x ∧ x < 55296) ∨ (55296 ≤ x ∧ x ≤ 57343) ∨ (57343 < x ∧ x ≤ 1114111) ∨ 1114111 < x by omega) with h | ⟨h, h'⟩ | ⟨h, h'⟩ | ⟨h, h'⟩ | h
  all_goals
    go_enter Try.func117, Try.ntmps117
    go_wp2
    go_ret
    exact ⟨ret_bool (by rw [eq_comm, Bool.eq_iff_iff, pointOk_iff]; simp <;> omega), rfl⟩

theorem iput_pt (x : Int) (w : World) (hp : pointOk x = true) :
    Calls Try.prog 106 #[.int .i64 x] w fun e w' => ∃ v, e = .returned v ∧ Own w.heap.size 5 .u8 w' v (enc x) ∧ Below w.heap.size w w' := by
  have hb := (pointOk_iff x).mp hp
  obtain ⟨h0, h1, -⟩ := hb
  rcases (show x < 128 ∨ (128 ≤ x ∧ x < 2048) ∨ (2048 ≤ x ∧ x < 65536) ∨ 65536 ≤ x by omega) with h | ⟨h, h'⟩ | ⟨h, h'⟩ | h
  · rw [enc1 h]
    go_enter Try.func106, Try.ntmps106
    go_wp2_with (first | (go_at_call 113; refine (iok_any _ _).mono ?_; rintro e w' ⟨rfl, rfl⟩) | go_in)
    go_ret
    exact ⟨_, rfl, World.ownsRow_lit _ _ 1 (Nat.le_refl _) (by unfold maxLen; omega) rfl, (Below.refl _ _).alloc (Nat.le_refl _) _⟩
  · rw [enc2 h h']
    go_enter Try.func106, Try.ntmps106
    go_wp2_with (first | (go_at_call 113; refine (iok_any _ _).mono ?_; rintro e w' ⟨rfl, rfl⟩) | go_in)
    go_ret
    exact ⟨_, rfl, World.ownsRow_lit _ _ 2 (Nat.le_refl _) (by unfold maxLen; omega) rfl, (Below.refl _ _).alloc (Nat.le_refl _) _⟩
  · rw [enc3 h h']
    go_enter Try.func106, Try.ntmps106
    go_wp2_with (first | (go_at_call 113; refine (iok_any _ _).mono ?_; rintro e w' ⟨rfl, rfl⟩) | go_in)
    go_ret
    exact ⟨_, rfl, World.ownsRow_lit _ _ 3 (Nat.le_refl _) (by unfold maxLen; omega) rfl, (Below.refl _ _).alloc (Nat.le_refl _) _⟩
  · rw [enc4 h]
    go_enter Try.func106, Try.ntmps106
    go_wp2_with (first | (go_at_call 113; refine (iok_any _ _).mono ?_; rintro e w' ⟨rfl, rfl⟩) | go_in)
    go_ret
    exact ⟨_, rfl, World.ownsRow_lit _ _ 4 (Nat.le_refl _) (by unfold maxLen; omega) rfl, (Below.refl _ _).alloc (Nat.le_refl _) _⟩

theorem sput_pt (x : Int) (w : World) (hp : pointOk x = true) :
    Calls Try.prog 110 #[.int .i64 x] w fun e w' => ∃ v, e = .returned v ∧ Own w.heap.size 5 .u8 w' v (enc x) ∧ Below w.heap.size w w' := by
  have hb := (pointOk_iff x).mp hp
  obtain ⟨h0, h1, -⟩ := hb
  rcases (show x < 128 ∨ (128 ≤ x ∧ x < 2048) ∨ (2048 ≤ x ∧ x < 65536) ∨ 65536 ≤ x by omega) with h | ⟨h, h'⟩ | ⟨h, h'⟩ | h
  · rw [enc1 h]
    go_enter Try.func110, Try.ntmps110
    go_wp2_with (first | (go_at_call 117; refine (sok_any _ _).mono ?_; rintro e w' ⟨rfl, rfl⟩) | go_in)
    go_ret
    exact ⟨_, rfl, World.ownsRow_lit _ _ 1 (Nat.le_refl _) (by unfold maxLen; omega) rfl, (Below.refl _ _).alloc (Nat.le_refl _) _⟩
  · rw [enc2 h h']
    go_enter Try.func110, Try.ntmps110
    go_wp2_with (first | (go_at_call 117; refine (sok_any _ _).mono ?_; rintro e w' ⟨rfl, rfl⟩) | go_in)
    go_ret
    exact ⟨_, rfl, World.ownsRow_lit _ _ 2 (Nat.le_refl _) (by unfold maxLen; omega) rfl, (Below.refl _ _).alloc (Nat.le_refl _) _⟩
  · rw [enc3 h h']
    go_enter Try.func110, Try.ntmps110
    go_wp2_with (first | (go_at_call 117; refine (sok_any _ _).mono ?_; rintro e w' ⟨rfl, rfl⟩) | go_in)
    go_ret
    exact ⟨_, rfl, World.ownsRow_lit _ _ 3 (Nat.le_refl _) (by unfold maxLen; omega) rfl, (Below.refl _ _).alloc (Nat.le_refl _) _⟩
  · rw [enc4 h]
    go_enter Try.func110, Try.ntmps110
    go_wp2_with (first | (go_at_call 117; refine (sok_any _ _).mono ?_; rintro e w' ⟨rfl, rfl⟩) | go_in)
    go_ret
    exact ⟨_, rfl, World.ownsRow_lit _ _ 4 (Nat.le_refl _) (by unfold maxLen; omega) rfl, (Below.refl _ _).alloc (Nat.le_refl _) _⟩

theorem iput_any (x : Int) (w : World) :
    Calls Try.prog 106 #[.int .i64 x] w fun e w' => ∃ v, e = .returned v ∧ Own w.heap.size 5 .u8 w' v (put x) ∧ Below w.heap.size w w' := by
  unfold put
  cases hp : pointOk x
  · rw [pt_not x hp, enc3 (by omega) (by omega)]
    go_enter Try.func106, Try.ntmps106
    go_wp2_with (first | (go_at_call 113; refine (iok_any _ _).mono ?_; rintro e w' ⟨rfl, rfl⟩) | go_in)
    go_ret
    exact ⟨_, rfl, World.ownsRow_lit _ _ 3 (Nat.le_refl _) (by unfold maxLen; omega) rfl, (Below.refl _ _).alloc (Nat.le_refl _) _⟩
  · rw [pt_of x hp]
    exact iput_pt x w hp

theorem sput_any (x : Int) (w : World) :
    Calls Try.prog 110 #[.int .i64 x] w fun e w' => ∃ v, e = .returned v ∧ Own w.heap.size 5 .u8 w' v (put x) ∧ Below w.heap.size w w' := by
  unfold put
  cases hp : pointOk x
  · rw [pt_not x hp, enc3 (by omega) (by omega)]
    go_enter Try.func110, Try.ntmps110
    go_wp2_with (first | (go_at_call 117; refine (sok_any _ _).mono ?_; rintro e w' ⟨rfl, rfl⟩) | go_in)
    go_ret
    exact ⟨_, rfl, World.ownsRow_lit _ _ 3 (Nat.le_refl _) (by unfold maxLen; omega) rfl, (Below.refl _ _).alloc (Nat.le_refl _) _⟩
  · rw [pt_of x hp]
    exact sput_pt x w hp

end Go.Proofs.Ytmccbommmjdbdaa
