/- Contracts of chapter 2's functions on one number, the program's and the specification's. No condition. -/
import Derived.Test.YtmccbommmjdbdaaIn
import Derived.Laws.EntriesVeiled
namespace Go.Proofs.Ytmccbommmjdbdaa
open Go.RowKit
set_option maxRecDepth 100000
set_option linter.unusedVariables false

def isBlank (x : Int) : Bool := x == 9 || x == 10 || x == 12 || x == 32
def isBar (x : Int) : Bool := x == 0 || x == 47 || x == 62
def lowerOf (x : Int) : Int := if inB x 65 90 then x + 32 else x
def digitOf (x b : Int) : Int :=
  if b ≠ 10 ∧ b ≠ 16 then -1 else if inB x 48 57 then x - 48 else if b = 16 ∧ inB x 65 70 then x - 55 else if b = 16 ∧ inB x 97 102 then x - 87 else -1

theorem pointKinds_any (w : World) : Calls Try.prog 79 #[] w fun e w' =>
    e = .returned (.agg #[.func (.func 94) #[] #[], .func (.func 95) #[] #[], .func (.func 96) #[] #[], .func (.func 97) #[] #[],
      .func (.func 98) #[] #[], .func (.func 99) #[] #[], .func (.func 100) #[] #[]]) ∧ Below w.heap.size w w' := by
  go_enter Try.func79, Try.ntmps79
  go_wp2
  refine bodyPost_ret (v := .agg #[.func (.func 94) #[] #[], .func (.func 95) #[] #[], .func (.func 96) #[] #[], .func (.func 97) #[] #[], .func (.func 98) #[] #[], .func (.func 99) #[] #[], .func (.func 100) #[] #[]]) (by simp [results, Try.results79, go_sem]) rfl ?_
  exact ⟨rfl, (Below.refl _ _).alloc (Nat.le_refl _) _⟩

theorem kind0_at (w : World) : (Instr.index 105 (.agg #[.func (.func 94) #[] #[], .func (.func 95) #[] #[], .func (.func 96) #[] #[], .func (.func 97) #[] #[], .func (.func 98) #[] #[], .func (.func 99) #[] #[], .func (.func 100) #[] #[]]) (.int .i64 0)).run Try.prog w = .ok (.func (.func 94) #[] #[]) w := by
  kernel_rfl
theorem kind1_at (w : World) : (Instr.index 105 (.agg #[.func (.func 94) #[] #[], .func (.func 95) #[] #[], .func (.func 96) #[] #[], .func (.func 97) #[] #[], .func (.func 98) #[] #[], .func (.func 99) #[] #[], .func (.func 100) #[] #[]]) (.int .i64 1)).run Try.prog w = .ok (.func (.func 95) #[] #[]) w := by
  kernel_rfl

theorem k1_any (x : Int) (w : World) : Calls Try.prog 94 #[.int .i64 x] w fun e w' => e = .returned (.bool (isBlank x)) ∧ w' = w := by
  go_enter Try.func94, Try.ntmps94
  go_wp2
  all_goals
    go_ret
    exact ⟨ret_bool (by unfold isBlank; simp_all), rfl⟩

theorem k2_any (x : Int) (w : World) : Calls Try.prog 95 #[.int .i64 x] w fun e w' => e = .returned (.bool (inB x 65 90)) ∧ w' = w := by
  go_enter Try.func95, Try.ntmps95
  go_wp2
  all_goals
    go_ret
    exact ⟨ret_bool (by unfold inB; simp_all <;> (intros; omega)), rfl⟩
theorem k3_any (x : Int) (w : World) : Calls Try.prog 96 #[.int .i64 x] w fun e w' => e = .returned (.bool (inB x 97 122)) ∧ w' = w := by
  go_enter Try.func96, Try.ntmps96
  go_wp2
  all_goals
    go_ret
    exact ⟨ret_bool (by unfold inB; simp_all <;> (intros; omega)), rfl⟩
theorem k4_any (x : Int) (w : World) : Calls Try.prog 97 #[.int .i64 x] w fun e w' => e = .returned (.bool (inB x 48 57)) ∧ w' = w := by
  go_enter Try.func97, Try.ntmps97
  go_wp2
  all_goals
    go_ret
    exact ⟨ret_bool (by unfold inB; simp_all <;> (intros; omega)), rfl⟩
theorem k5_any (x : Int) (w : World) : Calls Try.prog 98 #[.int .i64 x] w fun e w' => e = .returned (.bool (inB x 65 70)) ∧ w' = w := by
  go_enter Try.func98, Try.ntmps98
  go_wp2
  all_goals
    go_ret
    exact ⟨ret_bool (by unfold inB; simp_all <;> (intros; omega)), rfl⟩
theorem k6_any (x : Int) (w : World) : Calls Try.prog 99 #[.int .i64 x] w fun e w' => e = .returned (.bool (inB x 97 102)) ∧ w' = w := by
  go_enter Try.func99, Try.ntmps99
  go_wp2
  all_goals
    go_ret
    exact ⟨ret_bool (by unfold inB; simp_all <;> (intros; omega)), rfl⟩
theorem k7_any (x : Int) (w : World) : Calls Try.prog 100 #[.int .i64 x] w fun e w' => e = .returned (.bool (isBar x)) ∧ w' = w := by
  go_enter Try.func100, Try.ntmps100
  go_wp2
  all_goals
    go_ret
    exact ⟨ret_bool (by unfold isBar; simp_all), rfl⟩

theorem any2_any (x : Int) {b : Nat} {w : World} (h0 : w.cell? ⟨b, 0, none⟩ = some (.func (.func 95) #[] #[])) (h1 : w.cell? ⟨b, 1, none⟩ = some (.func (.func 96) #[] #[])) :
    Calls Try.prog 80 #[.int .i64 x, .slice (some ⟨b, 0, none⟩) 2 2] w fun e w' => e = .returned (.bool (inB x 65 90 || inB x 97 122)) ∧ w' = w := by
  obtain ⟨p0, e0⟩ : ∃ p, p = inB x 65 90 := ⟨_, rfl⟩
  obtain ⟨p1, e1⟩ : ∃ p, p = inB x 97 122 := ⟨_, rfl⟩
  have c0 := fun w => k2_any x w
  have c1 := fun w => k3_any x w
  rw [← e0] at c0 ⊢
  rw [← e1] at c1 ⊢
  clear e0 e1
  go_enter Try.func80, Try.ntmps80
  go_wp2
  go_loop [9] (fun i => ∃ k : Nat, k ≤ 2 ∧ i = .int .i64 k ∧ (1 ≤ k → p0 = false) ∧ (2 ≤ k → p1 = false)) (fun i => 2 - (intOf i).toNat)
  case atStart => exact ⟨0, by omega, rfl, fun h => absurd h (by omega), fun h => absurd h (by omega)⟩
  case round =>
    obtain ⟨k, hk, rfl, r0, r1⟩ := hrel
    rcases (show k = 0 ∨ k = 1 ∨ k = 2 by omega) with rfl | rfl | rfl
    · clear r0 r1
      go_wp2_with fail
      go_at_call 95
      refine (c0 _).mono ?_
      rintro e w1 ⟨rfl, rfl⟩
      cases p0
      · go_wp2
        go_round
        case rel => exact ⟨1, by omega, rfl, fun _ => (by simp), fun h => absurd h (by omega)⟩
        case measure => simp [intOf]
      · go_wp2
        go_ret
        exact ⟨rfl, rfl⟩
    · have := r0 (by omega)
      subst this
      clear r0 r1
      go_wp2_with fail
      go_at_call 96
      refine (c1 _).mono ?_
      rintro e w1 ⟨rfl, rfl⟩
      cases p1
      · go_wp2
        go_round
        case rel => exact ⟨2, by omega, rfl, fun _ => (by simp), fun _ => (by simp)⟩
        case measure => simp [intOf]
      · go_wp2
        go_ret
        exact ⟨rfl, rfl⟩
    · have := r0 (by omega)
      subst this
      have := r1 (by omega)
      subst this
      go_wp2
      go_ret
      exact ⟨rfl, rfl⟩

theorem any3_any (x : Int) {b : Nat} {w : World} (h0 : w.cell? ⟨b, 0, none⟩ = some (.func (.func 94) #[] #[])) (h1 : w.cell? ⟨b, 1, none⟩ = some (.func (.func 95) #[] #[]))
    (h2 : w.cell? ⟨b, 2, none⟩ = some (.func (.func 100) #[] #[])) :
    Calls Try.prog 80 #[.int .i64 x, .slice (some ⟨b, 0, none⟩) 3 3] w fun e w' => e = .returned (.bool (isBlank x || inB x 65 90 || isBar x)) ∧ w' = w := by
  obtain ⟨p0, e0⟩ : ∃ p, p = isBlank x := ⟨_, rfl⟩
  obtain ⟨p1, e1⟩ : ∃ p, p = inB x 65 90 := ⟨_, rfl⟩
  obtain ⟨p2, e2⟩ : ∃ p, p = isBar x := ⟨_, rfl⟩
  have c0 := fun w => k1_any x w
  have c1 := fun w => k2_any x w
  have c2 := fun w => k7_any x w
  rw [← e0] at c0 ⊢
  rw [← e1] at c1 ⊢
  rw [← e2] at c2 ⊢
  clear e0 e1 e2
  go_enter Try.func80, Try.ntmps80
  go_wp2
  go_loop [9] (fun i => ∃ k : Nat, k ≤ 3 ∧ i = .int .i64 k ∧ (1 ≤ k → p0 = false) ∧ (2 ≤ k → p1 = false) ∧ (3 ≤ k → p2 = false)) (fun i => 3 - (intOf i).toNat)
  case atStart => exact ⟨0, by omega, rfl, fun h => absurd h (by omega), fun h => absurd h (by omega), fun h => absurd h (by omega)⟩
  case round =>
    obtain ⟨k, hk, rfl, r0, r1, r2⟩ := hrel
    rcases (show k = 0 ∨ k = 1 ∨ k = 2 ∨ k = 3 by omega) with rfl | rfl | rfl | rfl
    · clear r0 r1 r2
      go_wp2_with fail
      go_at_call 94
      refine (c0 _).mono ?_
      rintro e w1 ⟨rfl, rfl⟩
      cases p0
      · go_wp2
        go_round
        case rel => exact ⟨1, by omega, rfl, fun _ => (by simp), fun h => absurd h (by omega), fun h => absurd h (by omega)⟩
        case measure => simp [intOf]
      · go_wp2
        go_ret
        exact ⟨rfl, rfl⟩
    · have := r0 (by omega)
      subst this
      clear r0 r1 r2
      go_wp2_with fail
      go_at_call 95
      refine (c1 _).mono ?_
      rintro e w1 ⟨rfl, rfl⟩
      cases p1
      · go_wp2
        go_round
        case rel => exact ⟨2, by omega, rfl, fun _ => (by simp), fun _ => (by simp), fun h => absurd h (by omega)⟩
        case measure => simp [intOf]
      · go_wp2
        go_ret
        exact ⟨rfl, rfl⟩
    · have := r0 (by omega)
      subst this
      have := r1 (by omega)
      subst this
      clear r0 r1 r2
      go_wp2_with fail
      go_at_call 100
      refine (c2 _).mono ?_
      rintro e w1 ⟨rfl, rfl⟩
      cases p2
      · go_wp2
        go_round
        case rel => exact ⟨3, by omega, rfl, fun _ => (by simp), fun _ => (by simp), fun _ => (by simp)⟩
        case measure => simp [intOf]
      · go_wp2
        go_ret
        exact ⟨rfl, rfl⟩
    · have := r0 (by omega)
      subst this
      have := r1 (by omega)
      subst this
      have := r2 (by omega)
      subst this
      go_wp2
      go_ret
      exact ⟨rfl, rfl⟩

end Go.Proofs.Ytmccbommmjdbdaa
