/- The contracts of the draws: a cursor over any bytes gives some number below a bound, and turns nothing but itself. -/
import Derived.Test.YtggfifchkecnjaaGreatDoorX6
import Derived.Test.YtggfifchkecnjaaGreatDoorX3
import Derived.OneCell
namespace Go.Proofs.YtggfifchkecnjaaGreatDoor
open Go.RowKit
set_option maxRecDepth 100000
set_option linter.unusedVariables false

def Cur (w0 : World) (g : Nat) (v : Value) (xs : List Int) (w : World) : Prop :=
  w0.heap.size ≤ g ∧ Sl .u8 w0 v xs ∧ Below w0.heap.size w0 w ∧ xs.length ≤ 1099511627776 ∧ ∃ (i : Nat) (h : Int), i ≤ xs.length ∧ w.heap[g]? = some (.cells #[v, .int .i64 i, .int .i64 h] 57 (0, 0))

theorem Cur.lt {w0 : World} {g : Nat} {v : Value} {xs : List Int} {w : World} (h : Cur w0 g v xs w) : g < w.heap.size := by
  obtain ⟨_, _, _, _, i, k, _, hh⟩ := h
  exact lt_of_block hh
theorem Cur.below {w0 : World} {g : Nat} {v : Value} {xs : List Int} {w w' : World} (h : Cur w0 g v xs w) (hb : Below w.heap.size w w') : Cur w0 g v xs w' := by
  have hlt := h.lt
  obtain ⟨h1, h2, h3, h4, i, k, hi, hh⟩ := h
  exact ⟨h1, h2, h3.trans (hb.mono h3.size), h4, i, k, hi, by rw [hb.block g hlt]; exact hh⟩
theorem Cur.kept {w0 : World} {g : Nat} {v : Value} {xs : List Int} {w w' : World} {row : Option Nat} (h : Cur w0 g v xs w) (hg : w.grownBy w' row) (hne : row ≠ some g) (hr : ∀ k, row = some k → w0.heap.size ≤ k) : Cur w0 g v xs w' := by
  have hlt := h.lt
  obtain ⟨h1, h2, h3, h4, i, k, hi, hh⟩ := h
  exact ⟨h1, h2, h3.grown hg h3.size hr, h4, i, k, hi, by rw [hg.block g hlt (fun e => hne e.symm)]; exact hh⟩

theorem Cur.drewN {w0 : World} {g : Nat} {v : Value} {xs : List Int} {w : World} (h : Cur w0 g v xs w) (n : Nat) : Cur w0 g v xs (w.drewN n) := h.below (below_drewN n)
end Go.Proofs.YtggfifchkecnjaaGreatDoor

/- Contracts of the specification's functions of chapter 2 on one number. No condition. -/
namespace Go.Proofs.YtggfifchkecnjaaGreatDoor
open Go.RowKit
set_option maxRecDepth 100000
set_option linter.unusedVariables false

theorem sblank_any (x : Int) (w : World) : Calls Tryz.prog 85 #[.int .i64 x] w fun e w' => e = .returned (.bool (isBlank x)) ∧ w' = w := by
  go_enter Tryz.func85, Tryz.ntmps85
  go_wp2
  all_goals
    go_ret
    exact ⟨ret_bool (by unfold isBlank; simp_all), rfl⟩

theorem salpha_any (x : Int) (w : World) : Calls Tryz.prog 50 #[.int .i64 x] w fun e w' => e = .returned (.bool (inB x 65 90 || inB x 97 122)) ∧ w' = w := by
  have c0 := fun w => l1In_any x 65 90 w
  have c1 := fun w => l1In_any x 97 122 w
  obtain ⟨p0, e0⟩ : ∃ p, p = inB x 65 90 := ⟨_, rfl⟩
  obtain ⟨p1, e1⟩ : ∃ p, p = inB x 97 122 := ⟨_, rfl⟩
  rw [← e0] at c0 ⊢
  rw [← e1] at c1 ⊢
  clear e0 e1
  cases p0
  · go_enter Tryz.func50, Tryz.ntmps50
    go_wp2_with fail
    go_at_call 42
    refine (c0 _).mono ?_
    rintro e w1 ⟨rfl, rfl⟩
    go_wp2_with fail
    go_at_call 42
    refine (c1 _).mono ?_
    rintro e w1 ⟨rfl, rfl⟩
    go_wp2
    go_ret
    exact ⟨rfl, rfl⟩
  · go_enter Tryz.func50, Tryz.ntmps50
    go_wp2_with fail
    go_at_call 42
    refine (c0 _).mono ?_
    rintro e w1 ⟨rfl, rfl⟩
    go_wp2
    go_ret
    exact ⟨rfl, rfl⟩

theorem slower_any (x : Int) (w : World) : Calls Tryz.prog 84 #[.int .i64 x] w fun e w' => e = .returned (.int .i64 (lowerOf x)) ∧ w' = w := by
  have c := fun w => l1In_any x 65 90 w
  by_cases h : 65 ≤ x ∧ x ≤ 90
  · have hl : lowerOf x = x + 32 := by unfold lowerOf; rw [inB_yes h.1 h.2]; rfl
    rw [inB_yes h.1 h.2] at c
    rw [hl]
    obtain ⟨h0, h1⟩ := h
    clear hl
    go_enter Tryz.func84, Tryz.ntmps84
    go_wp2_with fail
    go_at_call 42
    refine (c _).mono ?_
    rintro e w1 ⟨rfl, rfl⟩
    go_wp2
    go_ret
    exact ⟨rfl, rfl⟩
  · have hn := inB_no (x := x) (lo := 65) (hi := 90) (by omega)
    have hl : lowerOf x = x := by unfold lowerOf; rw [hn]; rfl
    rw [hn] at c
    rw [hl]
    clear hl h hn
    go_enter Tryz.func84, Tryz.ntmps84
    go_wp2_with fail
    go_at_call 42
    refine (c _).mono ?_
    rintro e w1 ⟨rfl, rfl⟩
    go_wp2
    go_ret
    exact ⟨rfl, rfl⟩
end Go.Proofs.YtggfifchkecnjaaGreatDoor

/- Contracts of DigitOf, the program's, and of the specification's functions of chapter 2 on one number. No condition. -/
namespace Go.Proofs.YtggfifchkecnjaaGreatDoor
open Go.RowKit
set_option maxRecDepth 100000
set_option linter.unusedVariables false

theorem digitOf_none {x b : Int} (h : b ≠ 10 ∧ b ≠ 16) : digitOf x b = -1 := by unfold digitOf; rw [if_pos h]
theorem digitOf_ten {x : Int} : digitOf x 10 = if inB x 48 57 then x - 48 else -1 := by unfold digitOf; simp
theorem digitOf_hex {x : Int} : digitOf x 16 = if inB x 48 57 then x - 48 else if inB x 65 70 then x - 55 else if inB x 97 102 then x - 87 else -1 := by unfold digitOf; simp

theorem idigit_none (x b : Int) (w : World) (h10 : b ≠ 10) (h16 : b ≠ 16) : Calls Tryz.prog 150 #[.int .i64 x, .int .i64 b] w fun e w' => e = .returned (.int .i64 (digitOf x b)) ∧ Below w.heap.size w w' := by
  rw [digitOf_none ⟨h10, h16⟩]
  have e10 : (b != 10) = true := by simpa using h10
  have e16 : (b != 16) = true := by simpa using h16
  go_enter Tryz.func150, Tryz.ntmps150
  go_wp2
  go_ret
  exact ⟨rfl, Below.refl _ _⟩

set_option maxHeartbeats 2000000 in
set_option maxRecDepth 100000 in
theorem idigit_ten (x : Int) (w : World) : Calls Tryz.prog 150 #[.int .i64 x, .int .i64 10] w fun e w' => e = .returned (.int .i64 (digitOf x 10)) ∧ Below w.heap.size w w' := by
  rw [digitOf_ten]
  have c0 := fun w => k4_any x w
  by_cases h : 48 ≤ x ∧ x ≤ 57
  · rw [inB_yes h.1 h.2] at c0 ⊢
    obtain ⟨h0, h1⟩ := h
    go_enter Tryz.func150, Tryz.ntmps150
    go_wp2_with fail
    go_at_call 55
    refine (pointKinds_any _).mono ?_
    rintro e w1 ⟨rfl, b1⟩
    go_wp2_with fail
    go_at_call 101
    refine (c0 _).mono ?_
    rintro e w2 ⟨rfl, rfl⟩
    go_wp2
    go_ret
    exact ⟨ret_int (by first | omega | (simp; done) | (simp; omega)), b1.alloc b1.size _⟩
  · rw [inB_no (by omega)] at c0 ⊢
    clear h
    go_enter Tryz.func150, Tryz.ntmps150
    go_wp2_with fail
    go_at_call 55
    refine (pointKinds_any _).mono ?_
    rintro e w1 ⟨rfl, b1⟩
    go_wp2_with fail
    go_at_call 101
    refine (c0 _).mono ?_
    rintro e w2 ⟨rfl, rfl⟩
    go_wp2
    go_ret
    exact ⟨rfl, b1.alloc b1.size _⟩

set_option maxHeartbeats 2000000 in
set_option maxRecDepth 100000 in
theorem idigit_hex (x : Int) (w : World) : Calls Tryz.prog 150 #[.int .i64 x, .int .i64 16] w fun e w' => e = .returned (.int .i64 (digitOf x 16)) ∧ Below w.heap.size w w' := by
  rw [digitOf_hex]
  have c0 := fun w => k4_any x w
  have c1 := fun w => k5_any x w
  have c2 := fun w => k6_any x w
  rcases (show (48 ≤ x ∧ x ≤ 57) ∨ (65 ≤ x ∧ x ≤ 70) ∨ (97 ≤ x ∧ x ≤ 102) ∨ ((x < 48 ∨ 57 < x) ∧ (x < 65 ∨ 70 < x) ∧ (x < 97 ∨ 102 < x)) by omega) with h | h | h | h
  · rw [inB_yes h.1 h.2] at c0 ⊢
    obtain ⟨h0, h1⟩ := h
    go_enter Tryz.func150, Tryz.ntmps150
    go_wp2_with fail
    go_at_call 55
    refine (pointKinds_any _).mono ?_
    rintro e w1 ⟨rfl, b1⟩
    go_wp2_with fail
    go_at_call 101
    refine (c0 _).mono ?_
    rintro e w2 ⟨rfl, rfl⟩
    go_wp2
    go_ret
    exact ⟨ret_int (by first | omega | (simp; done) | (simp; omega)), b1.alloc b1.size _⟩
  · rw [inB_no (by omega)] at c0 ⊢
    rw [inB_yes h.1 h.2] at c1 ⊢
    obtain ⟨h0, h1⟩ := h
    go_enter Tryz.func150, Tryz.ntmps150
    go_wp2_with fail
    go_at_call 55
    refine (pointKinds_any _).mono ?_
    rintro e w1 ⟨rfl, b1⟩
    go_wp2_with fail
    go_at_call 101
    refine (c0 _).mono ?_
    rintro e w2 ⟨rfl, rfl⟩
    go_wp2_with fail
    go_at_call 102
    refine (c1 _).mono ?_
    rintro e w2 ⟨rfl, rfl⟩
    go_wp2
    go_ret
    exact ⟨ret_int (by first | omega | (simp; done) | (simp; omega)), b1.alloc b1.size _⟩
  · have n0 := inB_no (x := x) (lo := 48) (hi := 57) (by omega)
    have n1 := inB_no (x := x) (lo := 65) (hi := 70) (by omega)
    rw [n0] at c0 ⊢
    rw [n1] at c1 ⊢
    clear n0 n1
    rw [inB_yes h.1 h.2] at c2 ⊢
    obtain ⟨h0, h1⟩ := h
    go_enter Tryz.func150, Tryz.ntmps150
    go_wp2_with fail
    go_at_call 55
    refine (pointKinds_any _).mono ?_
    rintro e w1 ⟨rfl, b1⟩
    go_wp2_with fail
    go_at_call 101
    refine (c0 _).mono ?_
    rintro e w2 ⟨rfl, rfl⟩
    go_wp2_with fail
    go_at_call 102
    refine (c1 _).mono ?_
    rintro e w2 ⟨rfl, rfl⟩
    go_wp2_with fail
    go_at_call 103
    refine (c2 _).mono ?_
    rintro e w2 ⟨rfl, rfl⟩
    go_wp2
    go_ret
    exact ⟨ret_int (by first | omega | (simp; done) | (simp; omega)), b1.alloc b1.size _⟩
  · obtain ⟨h0, h1, h2⟩ := h
    rw [inB_no h0] at c0 ⊢
    rw [inB_no h1] at c1 ⊢
    rw [inB_no h2] at c2 ⊢
    clear h0 h1 h2
    go_enter Tryz.func150, Tryz.ntmps150
    go_wp2_with fail
    go_at_call 55
    refine (pointKinds_any _).mono ?_
    rintro e w1 ⟨rfl, b1⟩
    go_wp2_with fail
    go_at_call 101
    refine (c0 _).mono ?_
    rintro e w2 ⟨rfl, rfl⟩
    go_wp2_with fail
    go_at_call 102
    refine (c1 _).mono ?_
    rintro e w2 ⟨rfl, rfl⟩
    go_wp2_with fail
    go_at_call 103
    refine (c2 _).mono ?_
    rintro e w2 ⟨rfl, rfl⟩
    go_wp2
    go_ret
    exact ⟨rfl, b1.alloc b1.size _⟩

theorem idigit_any (x b : Int) (w : World) : Calls Tryz.prog 150 #[.int .i64 x, .int .i64 b] w fun e w' => e = .returned (.int .i64 (digitOf x b)) ∧ Below w.heap.size w w' := by
  by_cases h10 : b = 10
  · subst h10; exact idigit_ten x w
  by_cases h16 : b = 16
  · subst h16; exact idigit_hex x w
  exact idigit_none x b w h10 h16
end Go.Proofs.YtggfifchkecnjaaGreatDoor
