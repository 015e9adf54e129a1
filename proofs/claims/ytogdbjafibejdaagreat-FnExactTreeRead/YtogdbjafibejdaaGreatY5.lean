/- Contracts of chapter 2's functions on one number, the program's and the specification's. No condition. -/
import Derived.Test.YtogdbjafibejdaaGreatY4
import Derived.Laws.EntriesVeiled
namespace Go.Proofs.YtogdbjafibejdaaGreat
open Go.RowKit
set_option maxRecDepth 100000
set_option linter.unusedVariables false

def isBlank (x : Int) : Bool := x == 9 || x == 10 || x == 12 || x == 32
def isBar (x : Int) : Bool := x == 0 || x == 47 || x == 62
theorem pointKinds_any (w : World) : Calls Tryz.prog 154 #[] w fun e w' =>
    e = .returned (.agg #[.func (.func 183) #[] #[], .func (.func 184) #[] #[], .func (.func 185) #[] #[], .func (.func 186) #[] #[],
      .func (.func 187) #[] #[], .func (.func 188) #[] #[], .func (.func 189) #[] #[]]) ∧ Below w.heap.size w w' := by
  go_enter Tryz.func154, Tryz.ntmps154
  go_wp2
  refine bodyPost_ret (v := .agg #[.func (.func 183) #[] #[], .func (.func 184) #[] #[], .func (.func 185) #[] #[], .func (.func 186) #[] #[], .func (.func 187) #[] #[], .func (.func 188) #[] #[], .func (.func 189) #[] #[]]) (by simp [results, Tryz.results154, go_sem]) rfl ?_
  exact ⟨rfl, (Below.refl _ _).alloc (Nat.le_refl _) _⟩

theorem k1_any (x : Int) (w : World) : Calls Tryz.prog 183 #[.int .i64 x] w fun e w' => e = .returned (.bool (isBlank x)) ∧ w' = w := by
  go_enter Tryz.func183, Tryz.ntmps183
  go_wp2
  all_goals
    go_ret
    exact ⟨ret_bool (by unfold isBlank; simp_all), rfl⟩

theorem k2_any (x : Int) (w : World) : Calls Tryz.prog 184 #[.int .i64 x] w fun e w' => e = .returned (.bool (inB x 65 90)) ∧ w' = w := by
  go_enter Tryz.func184, Tryz.ntmps184
  go_wp2
  all_goals
    go_ret
    exact ⟨ret_bool (by unfold inB; simp_all <;> (intros; omega)), rfl⟩
theorem k3_any (x : Int) (w : World) : Calls Tryz.prog 185 #[.int .i64 x] w fun e w' => e = .returned (.bool (inB x 97 122)) ∧ w' = w := by
  go_enter Tryz.func185, Tryz.ntmps185
  go_wp2
  all_goals
    go_ret
    exact ⟨ret_bool (by unfold inB; simp_all <;> (intros; omega)), rfl⟩
theorem k7_any (x : Int) (w : World) : Calls Tryz.prog 189 #[.int .i64 x] w fun e w' => e = .returned (.bool (isBar x)) ∧ w' = w := by
  go_enter Tryz.func189, Tryz.ntmps189
  go_wp2
  all_goals
    go_ret
    exact ⟨ret_bool (by unfold isBar; simp_all), rfl⟩

theorem any3_any (x : Int) {b : Nat} {w : World} (h0 : w.cell? ⟨b, 0, none⟩ = some (.func (.func 183) #[] #[])) (h1 : w.cell? ⟨b, 1, none⟩ = some (.func (.func 184) #[] #[]))
    (h2 : w.cell? ⟨b, 2, none⟩ = some (.func (.func 189) #[] #[])) :
    Calls Tryz.prog 155 #[.int .i64 x, .slice (some ⟨b, 0, none⟩) 3 3] w fun e w' => e = .returned (.bool (isBlank x || inB x 65 90 || isBar x)) ∧ w' = w := by
  obtain ⟨p0, e0⟩ : ∃ p, p = isBlank x := ⟨_, rfl⟩
  obtain ⟨p1, e1⟩ : ∃ p, p = inB x 65 90 := ⟨_, rfl⟩
  obtain ⟨p2, e2⟩ : ∃ p, p = isBar x := ⟨_, rfl⟩
  have c0 := fun w => k1_any x w
  have c1 := fun w => k2_any x w
  have c2 := fun w => k7_any x w
  rw [← e0] at c0 ⊢
  rw [← e1] at c1 ⊢
  rw [← e2] at c2 ⊢
  clear e0 e1 e2
  go_enter Tryz.func155, Tryz.ntmps155
  go_wp2
  go_loop [9] (fun i => ∃ k : Nat, k ≤ 3 ∧ i = .int .i64 k ∧ (1 ≤ k → p0 = false) ∧ (2 ≤ k → p1 = false) ∧ (3 ≤ k → p2 = false)) (fun i => 3 - (intOf i).toNat)
  case atStart => exact ⟨0, by omega, rfl, fun h => absurd h (by omega), fun h => absurd h (by omega), fun h => absurd h (by omega)⟩
  case round =>
    obtain ⟨k, hk, rfl, r0, r1, r2⟩ := hrel
    rcases (show k = 0 ∨ k = 1 ∨ k = 2 ∨ k = 3 by omega) with rfl | rfl | rfl | rfl
    · clear r0 r1 r2
      go_wp2_with fail
      go_at_call 183
      refine (c0 _).mono ?_
      rintro e w1 ⟨rfl, rfl⟩
      cases p0
      · go_wp2
        go_round
        case rel => exact ⟨1, by omega, rfl, fun _ => (by simp), fun h => absurd h (by omega), fun h => absurd h (by omega)⟩
        case measure => simp [intOf]
      · go_wp2
        go_ret
        exact ⟨rfl, rfl⟩
    · have := r0 (by omega)
      subst this
      clear r0 r1 r2
      go_wp2_with fail
      go_at_call 184
      refine (c1 _).mono ?_
      rintro e w1 ⟨rfl, rfl⟩
      cases p1
      · go_wp2
        go_round
        case rel => exact ⟨2, by omega, rfl, fun _ => (by simp), fun _ => (by simp), fun h => absurd h (by omega)⟩
        case measure => simp [intOf]
      · go_wp2
        go_ret
        exact ⟨rfl, rfl⟩
    · have := r0 (by omega)
      subst this
      have := r1 (by omega)
      subst this
      clear r0 r1 r2
      go_wp2_with fail
      go_at_call 189
      refine (c2 _).mono ?_
      rintro e w1 ⟨rfl, rfl⟩
      cases p2
      · go_wp2
        go_round
        case rel => exact ⟨3, by omega, rfl, fun _ => (by simp), fun _ => (by simp), fun _ => (by simp)⟩
        case measure => simp [intOf]
      · go_wp2
        go_ret
        exact ⟨rfl, rfl⟩
    · have := r0 (by omega)
      subst this
      have := r1 (by omega)
      subst this
      have := r2 (by omega)
      subst this
      go_wp2
      go_ret
      exact ⟨rfl, rfl⟩

end Go.Proofs.YtogdbjafibejdaaGreat
