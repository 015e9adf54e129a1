/- Contracts of chapter 2's functions on one number, the program's and the specification's. No condition. -/
import Derived.Test.YtggfifchkecnjaaGreatDoorY2
import Derived.Laws.EntriesVeiled
import Derived.Test.YtggfifchkecnjaaGreatDoorRows
import Derived.Test.YtggfifchkecnjaaGreatDoorY3
import Derived.Test.YtggfifchkecnjaaGreatDoorY0
namespace Go.Proofs.YtggfifchkecnjaaGreatDoor
open Go.RowKit
set_option maxRecDepth 100000
set_option linter.unusedVariables false

def isBlank (x : Int) : Bool := x == 9 || x == 10 || x == 12 || x == 32
def isBar (x : Int) : Bool := x == 0 || x == 47 || x == 62
def lowerOf (x : Int) : Int := if inB x 65 90 then x + 32 else x
def digitOf (x b : Int) : Int :=
  if b ≠ 10 ∧ b ≠ 16 then -1 else if inB x 48 57 then x - 48 else if b = 16 ∧ inB x 65 70 then x - 55 else if b = 16 ∧ inB x 97 102 then x - 87 else -1

theorem pointKinds_any (w : World) : Calls Tryz.prog 55 #[] w fun e w' =>
    e = .returned (.agg #[.func (.func 98) #[] #[], .func (.func 99) #[] #[], .func (.func 100) #[] #[], .func (.func 101) #[] #[],
      .func (.func 102) #[] #[], .func (.func 103) #[] #[], .func (.func 104) #[] #[]]) ∧ Below w.heap.size w w' := by
  go_enter Tryz.func55, Tryz.ntmps55
  go_wp2
  refine bodyPost_ret (v := .agg #[.func (.func 98) #[] #[], .func (.func 99) #[] #[], .func (.func 100) #[] #[], .func (.func 101) #[] #[], .func (.func 102) #[] #[], .func (.func 103) #[] #[], .func (.func 104) #[] #[]]) (by simp [results, Tryz.results55, go_sem]) rfl ?_
  exact ⟨rfl, (Below.refl _ _).alloc (Nat.le_refl _) _⟩

theorem kind0_at (w : World) : (Instr.index 77 (.agg #[.func (.func 98) #[] #[], .func (.func 99) #[] #[], .func (.func 100) #[] #[], .func (.func 101) #[] #[], .func (.func 102) #[] #[], .func (.func 103) #[] #[], .func (.func 104) #[] #[]]) (.int .i64 0)).run Tryz.prog w = .ok (.func (.func 98) #[] #[]) w := by
  kernel_rfl
theorem kind1_at (w : World) : (Instr.index 77 (.agg #[.func (.func 98) #[] #[], .func (.func 99) #[] #[], .func (.func 100) #[] #[], .func (.func 101) #[] #[], .func (.func 102) #[] #[], .func (.func 103) #[] #[], .func (.func 104) #[] #[]]) (.int .i64 1)).run Tryz.prog w = .ok (.func (.func 99) #[] #[]) w := by
  kernel_rfl

theorem k1_any (x : Int) (w : World) : Calls Tryz.prog 98 #[.int .i64 x] w fun e w' => e = .returned (.bool (isBlank x)) ∧ w' = w := by
  go_enter Tryz.func98, Tryz.ntmps98
  go_wp2
  all_goals
    go_ret
    exact ⟨ret_bool (by unfold isBlank; simp_all), rfl⟩

theorem k2_any (x : Int) (w : World) : Calls Tryz.prog 99 #[.int .i64 x] w fun e w' => e = .returned (.bool (inB x 65 90)) ∧ w' = w := by
  go_enter Tryz.func99, Tryz.ntmps99
  go_wp2
  all_goals
    go_ret
    exact ⟨ret_bool (by unfold inB; simp_all <;> (intros; omega)), rfl⟩
theorem k3_any (x : Int) (w : World) : Calls Tryz.prog 100 #[.int .i64 x] w fun e w' => e = .returned (.bool (inB x 97 122)) ∧ w' = w := by
  go_enter Tryz.func100, Tryz.ntmps100
  go_wp2
  all_goals
    go_ret
    exact ⟨ret_bool (by unfold inB; simp_all <;> (intros; omega)), rfl⟩
theorem k4_any (x : Int) (w : World) : Calls Tryz.prog 101 #[.int .i64 x] w fun e w' => e = .returned (.bool (inB x 48 57)) ∧ w' = w := by
  go_enter Tryz.func101, Tryz.ntmps101
  go_wp2
  all_goals
    go_ret
    exact ⟨ret_bool (by unfold inB; simp_all <;> (intros; omega)), rfl⟩
theorem k5_any (x : Int) (w : World) : Calls Tryz.prog 102 #[.int .i64 x] w fun e w' => e = .returned (.bool (inB x 65 70)) ∧ w' = w := by
  go_enter Tryz.func102, Tryz.ntmps102
  go_wp2
  all_goals
    go_ret
    exact ⟨ret_bool (by unfold inB; simp_all <;> (intros; omega)), rfl⟩
theorem k6_any (x : Int) (w : World) : Calls Tryz.prog 103 #[.int .i64 x] w fun e w' => e = .returned (.bool (inB x 97 102)) ∧ w' = w := by
  go_enter Tryz.func103, Tryz.ntmps103
  go_wp2
  all_goals
    go_ret
    exact ⟨ret_bool (by unfold inB; simp_all <;> (intros; omega)), rfl⟩
theorem k7_any (x : Int) (w : World) : Calls Tryz.prog 104 #[.int .i64 x] w fun e w' => e = .returned (.bool (isBar x)) ∧ w' = w := by
  go_enter Tryz.func104, Tryz.ntmps104
  go_wp2
  all_goals
    go_ret
    exact ⟨ret_bool (by unfold isBar; simp_all), rfl⟩

theorem iblank_any (x : Int) (w : World) : Calls Tryz.prog 133 #[.int .i64 x] w fun e w' => e = .returned (.bool (isBlank x)) ∧ Below w.heap.size w w' := by
  go_enter Tryz.func133, Tryz.ntmps133
  go_wp2_with fail
  go_at_call 55
  refine (pointKinds_any _).mono ?_
  rintro e w1 ⟨rfl, b1⟩
  have hi := kind0_at w1
  go_wp2_with fail
  go_at_call 98
  refine (k1_any _ _).mono ?_
  rintro e w2 ⟨rfl, rfl⟩
  go_wp2
  go_ret
  exact ⟨rfl, b1⟩

theorem any2_any (x : Int) {b : Nat} {w : World} (h0 : w.cell? ⟨b, 0, none⟩ = some (.func (.func 99) #[] #[])) (h1 : w.cell? ⟨b, 1, none⟩ = some (.func (.func 100) #[] #[])) :
    Calls Tryz.prog 56 #[.int .i64 x, .slice (some ⟨b, 0, none⟩) 2 2] w fun e w' => e = .returned (.bool (inB x 65 90 || inB x 97 122)) ∧ w' = w := by
  obtain ⟨p0, e0⟩ : ∃ p, p = inB x 65 90 := ⟨_, rfl⟩
  obtain ⟨p1, e1⟩ : ∃ p, p = inB x 97 122 := ⟨_, rfl⟩
  have c0 := fun w => k2_any x w
  have c1 := fun w => k3_any x w
  rw [← e0] at c0 ⊢
  rw [← e1] at c1 ⊢
  clear e0 e1
  go_enter Tryz.func56, Tryz.ntmps56
  go_wp2
  go_loop [9] (fun i => ∃ k : Nat, k ≤ 2 ∧ i = .int .i64 k ∧ (1 ≤ k → p0 = false) ∧ (2 ≤ k → p1 = false)) (fun i => 2 - (intOf i).toNat)
  case atStart => exact ⟨0, by omega, rfl, fun h => absurd h (by omega), fun h => absurd h (by omega)⟩
  case round =>
    obtain ⟨k, hk, rfl, r0, r1⟩ := hrel
    rcases (show k = 0 ∨ k = 1 ∨ k = 2 by omega) with rfl | rfl | rfl
    · clear r0 r1
      go_wp2_with fail
      go_at_call 99
      refine (c0 _).mono ?_
      rintro e w1 ⟨rfl, rfl⟩
      cases p0
      · go_wp2
        go_round
        case rel => exact ⟨1, by omega, rfl, fun _ => (by simp), fun h => absurd h (by omega)⟩
        case measure => simp [intOf]
      · go_wp2
        go_ret
        exact ⟨rfl, rfl⟩
    · have := r0 (by omega)
      subst this
      clear r0 r1
      go_wp2_with fail
      go_at_call 100
      refine (c1 _).mono ?_
      rintro e w1 ⟨rfl, rfl⟩
      cases p1
      · go_wp2
        go_round
        case rel => exact ⟨2, by omega, rfl, fun _ => (by simp), fun _ => (by simp)⟩
        case measure => simp [intOf]
      · go_wp2
        go_ret
        exact ⟨rfl, rfl⟩
    · have := r0 (by omega)
      subst this
      have := r1 (by omega)
      subst this
      go_wp2
      go_ret
      exact ⟨rfl, rfl⟩

theorem any3_any (x : Int) {b : Nat} {w : World} (h0 : w.cell? ⟨b, 0, none⟩ = some (.func (.func 98) #[] #[])) (h1 : w.cell? ⟨b, 1, none⟩ = some (.func (.func 99) #[] #[]))
    (h2 : w.cell? ⟨b, 2, none⟩ = some (.func (.func 104) #[] #[])) :
    Calls Tryz.prog 56 #[.int .i64 x, .slice (some ⟨b, 0, none⟩) 3 3] w fun e w' => e = .returned (.bool (isBlank x || inB x 65 90 || isBar x)) ∧ w' = w := by
  obtain ⟨p0, e0⟩ : ∃ p, p = isBlank x := ⟨_, rfl⟩
  obtain ⟨p1, e1⟩ : ∃ p, p = inB x 65 90 := ⟨_, rfl⟩
  obtain ⟨p2, e2⟩ : ∃ p, p = isBar x := ⟨_, rfl⟩
  have c0 := fun w => k1_any x w
  have c1 := fun w => k2_any x w
  have c2 := fun w => k7_any x w
  rw [← e0] at c0 ⊢
  rw [← e1] at c1 ⊢
  rw [← e2] at c2 ⊢
  clear e0 e1 e2
  go_enter Tryz.func56, Tryz.ntmps56
  go_wp2
  go_loop [9] (fun i => ∃ k : Nat, k ≤ 3 ∧ i = .int .i64 k ∧ (1 ≤ k → p0 = false) ∧ (2 ≤ k → p1 = false) ∧ (3 ≤ k → p2 = false)) (fun i => 3 - (intOf i).toNat)
  case atStart => exact ⟨0, by omega, rfl, fun h => absurd h (by omega), fun h => absurd h (by omega), fun h => absurd h (by omega)⟩
  case round =>
    obtain ⟨k, hk, rfl, r0, r1, r2⟩ := hrel
    rcases (show k = 0 ∨ k = 1 ∨ k = 2 ∨ k = 3 by omega) with rfl | rfl | rfl | rfl
    · clear r0 r1 r2
      go_wp2_with fail
      go_at_call 98
      refine (c0 _).mono ?_
      rintro e w1 ⟨rfl, rfl⟩
      cases p0
      · go_wp2
        go_round
        case rel => exact ⟨1, by omega, rfl, fun _ => (by simp), fun h => absurd h (by omega), fun h => absurd h (by omega)⟩
        case measure => simp [intOf]
      · go_wp2
        go_ret
        exact ⟨rfl, rfl⟩
    · have := r0 (by omega)
      subst this
      clear r0 r1 r2
      go_wp2_with fail
      go_at_call 99
      refine (c1 _).mono ?_
      rintro e w1 ⟨rfl, rfl⟩
      cases p1
      · go_wp2
        go_round
        case rel => exact ⟨2, by omega, rfl, fun _ => (by simp), fun _ => (by simp), fun h => absurd h (by omega)⟩
        case measure => simp [intOf]
      · go_wp2
        go_ret
        exact ⟨rfl, rfl⟩
    · have := r0 (by omega)
      subst this
      have := r1 (by omega)
      subst this
      clear r0 r1 r2
      go_wp2_with fail
      go_at_call 104
      refine (c2 _).mono ?_
      rintro e w1 ⟨rfl, rfl⟩
      cases p2
      · go_wp2
        go_round
        case rel => exact ⟨3, by omega, rfl, fun _ => (by simp), fun _ => (by simp), fun _ => (by simp)⟩
        case measure => simp [intOf]
      · go_wp2
        go_ret
        exact ⟨rfl, rfl⟩
    · have := r0 (by omega)
      subst this
      have := r1 (by omega)
      subst this
      have := r2 (by omega)
      subst this
      go_wp2
      go_ret
      exact ⟨rfl, rfl⟩

theorem ialpha_any (x : Int) (w : World) : Calls Tryz.prog 113 #[.int .i64 x] w fun e w' => e = .returned (.bool (inB x 65 90 || inB x 97 122)) ∧ Below w.heap.size w w' := by
  go_enter Tryz.func113, Tryz.ntmps113
  go_wp2_with fail
  go_at_call 55
  refine (pointKinds_any _).mono ?_
  rintro e w1 ⟨rfl, b1⟩
  go_wp2_with fail
  go_at_call 56
  refine (any2_any x ?_ ?_).mono ?_
  · simp
  · simp
  rintro e w2 ⟨rfl, rfl⟩
  go_wp2
  go_ret
  exact ⟨rfl, (b1.alloc b1.size _).alloc (by have := b1.size; simp; omega) _⟩

theorem ilower_any (x : Int) (w : World) : Calls Tryz.prog 132 #[.int .i64 x] w fun e w' => e = .returned (.int .i64 (lowerOf x)) ∧ Below w.heap.size w w' := by
  have c := fun w => k2_any x w
  by_cases h : 65 ≤ x ∧ x ≤ 90
  · have hl : lowerOf x = x + 32 := by unfold lowerOf; rw [inB_yes h.1 h.2]; rfl
    rw [inB_yes h.1 h.2] at c
    rw [hl]
    obtain ⟨h0, h1⟩ := h
    clear hl
    go_enter Tryz.func132, Tryz.ntmps132
    go_wp2_with fail
    go_at_call 55
    refine (pointKinds_any _).mono ?_
    rintro e w1 ⟨rfl, b1⟩
    have hi := kind1_at w1
    go_wp2_with fail
    go_at_call 99
    refine (c _).mono ?_
    rintro e w2 ⟨rfl, rfl⟩
    go_wp2
    go_ret
    exact ⟨ret_int (by omega), b1⟩
  · have hn := inB_no (x := x) (lo := 65) (hi := 90) (by omega)
    have hl : lowerOf x = x := by unfold lowerOf; rw [hn]; rfl
    rw [hn] at c
    rw [hl]
    clear hl h hn
    go_enter Tryz.func132, Tryz.ntmps132
    go_wp2_with fail
    go_at_call 55
    refine (pointKinds_any _).mono ?_
    rintro e w1 ⟨rfl, b1⟩
    have hi := kind1_at w1
    go_wp2_with fail
    go_at_call 99
    refine (c _).mono ?_
    rintro e w2 ⟨rfl, rfl⟩
    go_wp2
    go_ret
    exact ⟨rfl, b1⟩
end Go.Proofs.YtggfifchkecnjaaGreatDoor

/- Contracts of the small functions of the laws' package (copies, comparisons, marks of slices of integers), for every slice of up to 2^40 of them. -/
namespace Go.Proofs.YtggfifchkecnjaaGreatDoor
open Go.RowKit
set_option maxRecDepth 100000
set_option linter.unusedVariables false
theorem Tryz.infoI : (Tryz.prog.info? 3).map (fun i => (i.zero, i.size, i.bytes)) = some (some (.int .i64 0), 1, 8) := by kernel_rfl

end Go.Proofs.YtggfifchkecnjaaGreatDoor

/- Contracts of PointsPut, the program's and the specification's, at every list of integers. -/
namespace Go.Proofs.YtggfifchkecnjaaGreatDoor
open Go.RowKit
set_option maxRecDepth 100000
set_option linter.unusedVariables false

def pointsPut (xs : List Int) : List Int := if xs.length ≤ 3000 then puts xs else []

theorem iputs_any {v : Value} {xs : List Int} {w : World} (h : Sl .i64 w v xs) (hn : xs.length ≤ 1099511627776) :
    Calls Tryz.prog 96 #[v] w fun e w' => ∃ v', e = .returned v' ∧ Own w.heap.size 5 .u8 w' v' (pointsPut xs) ∧ Below w.heap.size w w' := by
  obtain ⟨a, ca, rfl, _, _, _, ha⟩ := h
  unfold pointsPut
  by_cases hlen : xs.length ≤ 3000
  · rw [if_pos hlen]
    obtain ⟨i0, hi, hz0, hz1, hz2⟩ := info_parts Tryz.infoB
    go_enter Tryz.func96, Tryz.ntmps96
    go_wp2_with (at_make; refine wpList_mk0 _ rfl _ (.tmp 11) 22 rfl 5 i0 (.int .u8 0) Tryz.underlying22 hi hz0 hz1 .u8 xs.length xs.length rfl rfl rfl (by rw [hz2]; omega) (by unfold maxLen; omega) ?_; intro v0 w1 hown0 hbel0)
    go_loopw [3, 15] (fun v i wr => ∃ k : Nat, k ≤ xs.length ∧ i = .int .i64 k ∧ Own w.heap.size 5 .u8 wr v (puts (xs.take k)) ∧ Below w.heap.size w wr) (fun _ i _ => xs.length - (intOf i).toNat)
    case atStart => exact ⟨0, Nat.zero_le _, rfl, hown0, hbel0⟩
    case round =>
      clear hown0 hbel0
      obtain ⟨k, hk, rfl, hown, hbel⟩ := hrel
      by_cases hlt : k < xs.length
      · have ha' := ha.below hbel
        obtain ⟨b1, o1, rfl, c1⟩ := ha' k hlt
        clear ha ha'
        have hpl := puts_len (xs.take k)
        have htl : (xs.take k).length ≤ k := List.length_take_le _ _
        have hql := (put_len xs[k]).2
        go_wp2_with fail
        go_at_call 111
        refine (iput_any xs[k] _).mono ?_
        rintro e w2 ⟨u, rfl, ou, bu⟩
        replace hown := hown.below bu
        have hbs := hbel.size
        replace hbel := hbel.trans (bu.mono hbs)
        have hbs2 := hbel.size
        clear bu
        go_wp2_with (at_builtin; refine wpList_app _ rfl (.tmp 19) (.tmp 21) 22 rfl w.heap.size 5 i0 (.int .u8 0) 1 Tryz.underlying22 hi hz0 hz1 hz2 rfl .u8 _ _ (puts (xs.take k)) (put xs[k]) rfl rfl hown ou.sl (by omega) (by unfold maxLen; omega) hbs2 ?_; intro v' w3 o3 g3)
        go_roundw
        case rel => exact ⟨k + 1, by omega, by go_num, by rw [puts_take_succ xs k hlt]; exact o3, hbel.grown g3 hbs2 hown.grownAt⟩
        case measure => simp [intOf]; omega
      · go_wp2
        go_ret
        have hke : k = xs.length := by omega
        rw [hke, List.take_length] at hown
        exact ⟨_, rfl, hown, hbel⟩
  · rw [if_neg hlen]
    go_enter Tryz.func96, Tryz.ntmps96
    go_wp2
    go_ret
    exact ⟨_, rfl, own_empty _ _ _, (Below.refl _ _).alloc (Nat.le_refl _) _⟩

theorem l1Put_any {v : Value} {xs : List Int} {w : World} (h : Sl .i64 w v xs) (hn : xs.length ≤ 1099511627776) :
    Calls Tryz.prog 45 #[v] w fun e w' => ∃ v', e = .returned v' ∧ Own w.heap.size 5 .u8 w' v' (puts xs) ∧ Below w.heap.size w w' := by
  obtain ⟨a, ca, rfl, _, _, _, ha⟩ := h
  obtain ⟨i0, hi, hz0, hz1, hz2⟩ := info_parts Tryz.infoB
  have hown0 := own_empty 5 .u8 w
  have hbel0 : Below w.heap.size w (w.alloc (.cells #[] 5)) := (Below.refl _ _).alloc (Nat.le_refl _) _
  go_enter Tryz.func45, Tryz.ntmps45
  go_wp2
  go_loopw [3, 4] (fun v i wr => ∃ k : Nat, k ≤ xs.length ∧ i = .int .i64 k ∧ Own w.heap.size 5 .u8 wr v (puts (xs.take k)) ∧ Below w.heap.size w wr) (fun _ i _ => xs.length - (intOf i).toNat)
  case atStart => exact ⟨0, Nat.zero_le _, rfl, hown0, hbel0⟩
  case round =>
    clear hown0 hbel0
    obtain ⟨k, hk, rfl, hown, hbel⟩ := hrel
    by_cases hlt : k < xs.length
    · have ha' := ha.below hbel
      obtain ⟨b1, o1, rfl, c1⟩ := ha' k hlt
      clear ha ha'
      have hpl := puts_len (xs.take k)
      have htl : (xs.take k).length ≤ k := List.length_take_le _ _
      have hql := (put_len xs[k]).2
      go_wp2_with fail
      go_at_call 83
      refine (sput_any xs[k] _).mono ?_
      rintro e w2 ⟨u, rfl, ou, bu⟩
      replace hown := hown.below bu
      have hbs := hbel.size
      replace hbel := hbel.trans (bu.mono hbs)
      have hbs2 := hbel.size
      clear bu
      go_wp2_with (at_builtin; refine wpList_app _ rfl (.tmp 12) (.tmp 17) 22 rfl w.heap.size 5 i0 (.int .u8 0) 1 Tryz.underlying22 hi hz0 hz1 hz2 rfl .u8 _ _ (puts (xs.take k)) (put xs[k]) rfl rfl hown ou.sl (by omega) (by unfold maxLen; omega) hbs2 ?_; intro v' w3 o3 g3)
      go_roundw
      case rel => exact ⟨k + 1, by omega, by go_num, by rw [puts_take_succ xs k hlt]; exact o3, hbel.grown g3 hbs2 hown.grownAt⟩
      case measure => simp [intOf]; omega
    · go_wp2
      go_ret
      have hke : k = xs.length := by omega
      rw [hke, List.take_length] at hown
      exact ⟨_, rfl, hown, hbel⟩

theorem sputs_any {v : Value} {xs : List Int} {w : World} (h : Sl .i64 w v xs) (hn : xs.length ≤ 1099511627776) :
    Calls Tryz.prog 155 #[v] w fun e w' => ∃ v', e = .returned v' ∧ Own w.heap.size 5 .u8 w' v' (pointsPut xs) ∧ Below w.heap.size w w' := by
  have h0 := h
  obtain ⟨a, ca, rfl, _, _, _, ha⟩ := h
  unfold pointsPut
  by_cases hlen : xs.length ≤ 3000
  · rw [if_pos hlen]
    go_enter Tryz.func155, Tryz.ntmps155
    go_wp2_with fail
    go_at_call 45
    refine (l1Put_any h0 hn).mono ?_
    rintro e w2 ⟨u, rfl, ou, bu⟩
    go_wp2
    go_ret
    exact ⟨_, rfl, ou, bu⟩
  · rw [if_neg hlen]
    go_enter Tryz.func155, Tryz.ntmps155
    go_wp2
    go_ret
    exact ⟨_, rfl, own_empty _ _ _, (Below.refl _ _).alloc (Nat.le_refl _) _⟩

end Go.Proofs.YtggfifchkecnjaaGreatDoor

/- What references stand for, as plain functions of lists of integers. -/
namespace Go.Proofs.YtggfifchkecnjaaGreatDoor
open Go.RowKit
set_option maxRecDepth 100000
set_option linter.unusedVariables false

def oldPoints : List Int := [8364, 129, 8218, 402, 8222, 8230, 8224, 8225, 710, 8240, 352, 8249, 338, 141, 381, 143, 144, 8216, 8217, 8220, 8221, 8226, 8211, 8212, 732, 8482, 353, 8250, 339, 157, 382, 376]
def refNumber (x : Int) : Int := if x = 0 ∨ pointOk x = false then 65533 else if inB x 128 159 then oldPoints.getD (x - 128).toNat 0 else x

def atL (xs : List Int) (k : Nat) : Int := xs.getD k (-1)
theorem atL_in {xs : List Int} {k : Nat} (h : k < xs.length) : atL xs k = xs.getD k 0 := by simp [atL, List.getD_eq_getElem?_getD, h]
theorem atL_out {xs : List Int} {k : Nat} (h : xs.length ≤ k) : atL xs k = -1 := by simp [atL, List.getD_eq_getElem?_getD, h]

def digs (b : Int) : List Int → List Int
  | [] => []
  | c :: cs => if 0 ≤ digitOf c b then digitOf c b :: digs b cs else []

theorem digs_le (b : Int) (l : List Int) : (digs b l).length ≤ l.length := by
  induction l with
  | nil => simp [digs]
  | cons c cs ih => unfold digs; split <;> simp; exact ih
theorem digs_at (b : Int) (l : List Int) (k : Nat) (h : k < (digs b l).length) : (digs b l).getD k 0 = digitOf (l.getD k (-1)) b ∧ 0 ≤ digitOf (l.getD k (-1)) b := by
  induction l generalizing k with
  | nil => simp [digs] at h
  | cons c cs ih =>
    unfold digs at h ⊢
    by_cases hc : 0 ≤ digitOf c b
    · rw [if_pos hc] at h ⊢
      cases k with
      | zero => exact ⟨rfl, hc⟩
      | succ k =>
        have := ih k (by simpa using h)
        simpa using this
    · rw [if_neg hc] at h; simp at h
theorem digitOf_neg (b : Int) : digitOf (-1) b < 0 := by
  unfold digitOf
  rw [inB_no (by omega), inB_no (by omega), inB_no (by omega)]
  split <;> simp
theorem digs_end (b : Int) (l : List Int) : digitOf (l.getD (digs b l).length (-1)) b < 0 := by
  induction l with
  | nil => exact digitOf_neg b
  | cons c cs ih =>
    unfold digs
    by_cases hc : 0 ≤ digitOf c b
    · rw [if_pos hc]; simpa using ih
    · rw [if_neg hc]; simp; omega
theorem digitOf_le (x b : Int) (h : b = 10 ∨ b = 16) : digitOf x b < b := by
  rcases h with rfl | rfl
  · unfold digitOf
    by_cases h : 48 ≤ x ∧ x ≤ 57
    · rw [inB_yes h.1 h.2]; simp; omega
    · rw [inB_no (by omega)]; simp
  · unfold digitOf
    by_cases h : 48 ≤ x ∧ x ≤ 57
    · rw [inB_yes h.1 h.2]; simp; omega
    · rw [inB_no (x := x) (lo := 48) (hi := 57) (by omega)]
      by_cases h : 65 ≤ x ∧ x ≤ 70
      · rw [inB_yes h.1 h.2]; simp; omega
      · rw [inB_no (x := x) (lo := 65) (hi := 70) (by omega)]
        by_cases h : 97 ≤ x ∧ x ≤ 102
        · rw [inB_yes h.1 h.2]; simp; omega
        · rw [inB_no (x := x) (lo := 97) (hi := 102) (by omega)]; simp

def digStep (b : Int) (p : Int × Nat) (d : Int) : Int × Nat :=
  let n := if 0 < p.2 ∨ 0 < d then p.2 + 1 else p.2
  (if n ≤ 7 then b * p.1 + d else p.1, n)
def digVal (b : Int) (ds : List Int) : Int × Nat := ds.foldl (digStep b) (0, 0)
theorem digVal_succ (b : Int) (ds : List Int) (k : Nat) (h : k < ds.length) : digVal b (ds.take (k + 1)) = digStep b (digVal b (ds.take k)) (ds.getD k 0) := by
  have hg : ds.getD k 0 = ds[k] := by simp [List.getD_eq_getElem?_getD, h]
  unfold digVal
  rw [List.take_succ_eq_append_getElem h, List.foldl_append, hg]; rfl

def refDigits (xs : List Int) (b : Int) (k : Nat) : Int × Int :=
  let ds := digs b (xs.drop k)
  let p := digVal b ds
  if ds = [] then (0, 0) else (refNumber (if 7 < p.2 then 1114112 else p.1), (k + ds.length + (if atL xs (k + ds.length) = 59 then 1 else 0) : Nat))
def refNum (xs : List Int) (k : Nat) : Int × Int :=
  if atL xs k = 120 ∨ atL xs k = 88 then refDigits xs 16 (k + 1) else refDigits xs 10 k

def stands (xs : List Int) (k : Nat) (nm : List Int) : Bool := (List.range nm.length).all fun i => atL xs (k + i) == nm.getD i 0

theorem digStep_bound {b : Int} (hb : b = 10 ∨ b = 16) {p : Int × Nat} {d : Int} (d0 : 0 ≤ d) (d1 : d < b) (h0 : 0 ≤ p.1) (h1 : p.1 < 16 ^ (min p.2 7)) :
    0 ≤ (digStep b p d).1 ∧ (digStep b p d).1 < 16 ^ (min (digStep b p d).2 7) := by
  obtain ⟨x, n⟩ := p
  simp only at h0 h1
  unfold digStep
  simp only
  by_cases hz : 0 < n ∨ 0 < d
  · rw [if_pos hz]
    by_cases h7 : n + 1 ≤ 7
    · rw [if_pos h7]
      have e1 : min (n + 1) 7 = n + 1 := by omega
      have e2 : min n 7 = n := by omega
      rw [e1, Int.pow_succ]
      rw [e2] at h1
      generalize (16 : Int) ^ n = q at h1
      rcases hb with rfl | rfl <;> omega
    · rw [if_neg h7]
      have e1 : min (n + 1) 7 = 7 := by omega
      have e2 : min n 7 = 7 := by omega
      rw [e1]
      rw [e2] at h1
      exact ⟨h0, h1⟩
  · rw [if_neg hz]
    have hn : n = 0 := by omega
    have hd : d = 0 := by omega
    subst hn hd
    simp at h1
    have hx : x = 0 := by omega
    subst hx
    simp
theorem digVal_bound {b : Int} (hb : b = 10 ∨ b = 16) (l : List Int) (hl : ∀ d ∈ l, 0 ≤ d ∧ d < b) (p : Int × Nat) (h0 : 0 ≤ p.1) (h1 : p.1 < 16 ^ (min p.2 7)) :
    0 ≤ (l.foldl (digStep b) p).1 ∧ (l.foldl (digStep b) p).1 < 16 ^ (min (l.foldl (digStep b) p).2 7) := by
  induction l generalizing p with
  | nil => exact ⟨h0, h1⟩
  | cons d ds ih =>
    have hd := hl d (List.mem_cons_self ..)
    have hs := digStep_bound hb hd.1 hd.2 h0 h1
    exact ih (fun e he => hl e (List.mem_cons_of_mem _ he)) _ hs.1 hs.2
theorem pow_seven (n : Nat) : (16 : Int) ^ (min n 7) ≤ 268435456 := by
  have h : min n 7 ≤ 7 := by omega
  generalize min n 7 = k at h
  rcases (show k = 0 ∨ k = 1 ∨ k = 2 ∨ k = 3 ∨ k = 4 ∨ k = 5 ∨ k = 6 ∨ k = 7 by omega) with rfl | rfl | rfl | rfl | rfl | rfl | rfl | rfl <;> decide
theorem digs_mem {b : Int} (hb : b = 10 ∨ b = 16) (l : List Int) : ∀ d ∈ digs b l, 0 ≤ d ∧ d < b := by
  induction l with
  | nil => intro d hd; cases hd
  | cons c cs ih =>
    intro d hd
    unfold digs at hd
    by_cases hc : 0 ≤ digitOf c b
    · rw [if_pos hc] at hd
      rcases List.mem_cons.mp hd with rfl | hd
      · exact ⟨hc, digitOf_le c b hb⟩
      · exact ih d hd
    · rw [if_neg hc] at hd; cases hd
theorem digVal_ok {b : Int} (hb : b = 10 ∨ b = 16) (l : List Int) (k : Nat) : 0 ≤ (digVal b ((digs b l).take k)).1 ∧ (digVal b ((digs b l).take k)).1 < 268435456 := by
  have h := digVal_bound hb ((digs b l).take k) (fun d hd => digs_mem hb l d (List.mem_of_mem_take hd)) (0, 0) (Int.le_refl _) (by decide)
  have h7 := pow_seven (((digs b l).take k).foldl (digStep b) (0, 0)).2
  exact ⟨h.1, by have := h.2; unfold digVal; omega⟩
theorem digVal_count {b : Int} (l : List Int) (p : Int × Nat) : (l.foldl (digStep b) p).2 ≤ p.2 + l.length := by
  induction l generalizing p with
  | nil => simp
  | cons d ds ih =>
    have := ih (digStep b p d)
    have h2 : (digStep b p d).2 ≤ p.2 + 1 := by unfold digStep; simp only; split <;> omega
    simp only [List.foldl_cons, List.length_cons]
    omega
theorem digStep_inc {b x d : Int} {n : Nat} (h : 0 < n ∨ 0 < d) (h7 : n + 1 ≤ 7) : digStep b (x, n) d = (b * x + d, n + 1) := by
  unfold digStep; simp only; rw [if_pos h, if_pos h7]
theorem digStep_over {b x d : Int} {n : Nat} (h : 0 < n ∨ 0 < d) (h7 : ¬ n + 1 ≤ 7) : digStep b (x, n) d = (x, n + 1) := by
  unfold digStep; simp only; rw [if_pos h, if_neg h7]
theorem digStep_nought {b x : Int} : digStep b (x, 0) 0 = (b * x + 0, 0) := by
  unfold digStep; simp
end Go.Proofs.YtggfifchkecnjaaGreatDoor
