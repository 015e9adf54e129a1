/- Contracts of chapter 2's functions on one number, the program's and the specification's. No condition. -/
import Derived.Test.YtggfifchkecnjaaDoorU3
import Derived.Laws.EntriesVeiled
import Derived.Test.YtggfifchkecnjaaDoorU2
import Derived.Test.YtggfifchkecnjaaDoorU6
import Derived.Test.YtggfifchkecnjaaDoorU7
import Derived.Test.YtggfifchkecnjaaDoorU5
import Derived.Test.YtggfifchkecnjaaDoorU1
namespace Go.Proofs.YtggfifchkecnjaaDoor
open Go.RowKit
set_option maxRecDepth 100000
set_option linter.unusedVariables false

def isBlank (x : Int) : Bool := x == 9 || x == 10 || x == 12 || x == 32
def isBar (x : Int) : Bool := x == 0 || x == 47 || x == 62
def lowerOf (x : Int) : Int := if inB x 65 90 then x + 32 else x
def digitOf (x b : Int) : Int :=
  if b ≠ 10 ∧ b ≠ 16 then -1 else if inB x 48 57 then x - 48 else if b = 16 ∧ inB x 65 70 then x - 55 else if b = 16 ∧ inB x 97 102 then x - 87 else -1

theorem pointKinds_any (w : World) : Calls Tryd.prog 44 #[] w fun e w' =>
    e = .returned (.agg #[.func (.func 47) #[] #[], .func (.func 48) #[] #[], .func (.func 49) #[] #[], .func (.func 50) #[] #[],
      .func (.func 51) #[] #[], .func (.func 52) #[] #[], .func (.func 53) #[] #[]]) ∧ Below w.heap.size w w' := by
  go_enter Tryd.func44, Tryd.ntmps44
  go_wp2
  refine bodyPost_ret (v := .agg #[.func (.func 47) #[] #[], .func (.func 48) #[] #[], .func (.func 49) #[] #[], .func (.func 50) #[] #[], .func (.func 51) #[] #[], .func (.func 52) #[] #[], .func (.func 53) #[] #[]]) (by simp [results, Tryd.results44, go_sem]) rfl ?_
  exact ⟨rfl, (Below.refl _ _).alloc (Nat.le_refl _) _⟩

theorem kind0_at (w : World) : (Instr.index 73 (.agg #[.func (.func 47) #[] #[], .func (.func 48) #[] #[], .func (.func 49) #[] #[], .func (.func 50) #[] #[], .func (.func 51) #[] #[], .func (.func 52) #[] #[], .func (.func 53) #[] #[]]) (.int .i64 0)).run Tryd.prog w = .ok (.func (.func 47) #[] #[]) w := by
  kernel_rfl
theorem kind1_at (w : World) : (Instr.index 73 (.agg #[.func (.func 47) #[] #[], .func (.func 48) #[] #[], .func (.func 49) #[] #[], .func (.func 50) #[] #[], .func (.func 51) #[] #[], .func (.func 52) #[] #[], .func (.func 53) #[] #[]]) (.int .i64 1)).run Tryd.prog w = .ok (.func (.func 48) #[] #[]) w := by
  kernel_rfl

theorem k1_any (x : Int) (w : World) : Calls Tryd.prog 47 #[.int .i64 x] w fun e w' => e = .returned (.bool (isBlank x)) ∧ w' = w := by
  go_enter Tryd.func47, Tryd.ntmps47
  go_wp2
  all_goals
    go_ret
    exact ⟨ret_bool (by unfold isBlank; simp_all), rfl⟩

theorem k2_any (x : Int) (w : World) : Calls Tryd.prog 48 #[.int .i64 x] w fun e w' => e = .returned (.bool (inB x 65 90)) ∧ w' = w := by
  go_enter Tryd.func48, Tryd.ntmps48
  go_wp2
  all_goals
    go_ret
    exact ⟨ret_bool (by unfold inB; simp_all <;> (intros; omega)), rfl⟩
theorem k3_any (x : Int) (w : World) : Calls Tryd.prog 49 #[.int .i64 x] w fun e w' => e = .returned (.bool (inB x 97 122)) ∧ w' = w := by
  go_enter Tryd.func49, Tryd.ntmps49
  go_wp2
  all_goals
    go_ret
    exact ⟨ret_bool (by unfold inB; simp_all <;> (intros; omega)), rfl⟩
theorem k4_any (x : Int) (w : World) : Calls Tryd.prog 50 #[.int .i64 x] w fun e w' => e = .returned (.bool (inB x 48 57)) ∧ w' = w := by
  go_enter Tryd.func50, Tryd.ntmps50
  go_wp2
  all_goals
    go_ret
    exact ⟨ret_bool (by unfold inB; simp_all <;> (intros; omega)), rfl⟩
theorem k5_any (x : Int) (w : World) : Calls Tryd.prog 51 #[.int .i64 x] w fun e w' => e = .returned (.bool (inB x 65 70)) ∧ w' = w := by
  go_enter Tryd.func51, Tryd.ntmps51
  go_wp2
  all_goals
    go_ret
    exact ⟨ret_bool (by unfold inB; simp_all <;> (intros; omega)), rfl⟩
theorem k6_any (x : Int) (w : World) : Calls Tryd.prog 52 #[.int .i64 x] w fun e w' => e = .returned (.bool (inB x 97 102)) ∧ w' = w := by
  go_enter Tryd.func52, Tryd.ntmps52
  go_wp2
  all_goals
    go_ret
    exact ⟨ret_bool (by unfold inB; simp_all <;> (intros; omega)), rfl⟩
theorem k7_any (x : Int) (w : World) : Calls Tryd.prog 53 #[.int .i64 x] w fun e w' => e = .returned (.bool (isBar x)) ∧ w' = w := by
  go_enter Tryd.func53, Tryd.ntmps53
  go_wp2
  all_goals
    go_ret
    exact ⟨ret_bool (by unfold isBar; simp_all), rfl⟩

theorem any2_any (x : Int) {b : Nat} {w : World} (h0 : w.cell? ⟨b, 0, none⟩ = some (.func (.func 48) #[] #[])) (h1 : w.cell? ⟨b, 1, none⟩ = some (.func (.func 49) #[] #[])) :
    Calls Tryd.prog 45 #[.int .i64 x, .slice (some ⟨b, 0, none⟩) 2 2] w fun e w' => e = .returned (.bool (inB x 65 90 || inB x 97 122)) ∧ w' = w := by
  obtain ⟨p0, e0⟩ : ∃ p, p = inB x 65 90 := ⟨_, rfl⟩
  obtain ⟨p1, e1⟩ : ∃ p, p = inB x 97 122 := ⟨_, rfl⟩
  have c0 := fun w => k2_any x w
  have c1 := fun w => k3_any x w
  rw [← e0] at c0 ⊢
  rw [← e1] at c1 ⊢
  clear e0 e1
  go_enter Tryd.func45, Tryd.ntmps45
  go_wp2
  go_loop [9] (fun i => ∃ k : Nat, k ≤ 2 ∧ i = .int .i64 k ∧ (1 ≤ k → p0 = false) ∧ (2 ≤ k → p1 = false)) (fun i => 2 - (intOf i).toNat)
  case atStart => exact ⟨0, by omega, rfl, fun h => absurd h (by omega), fun h => absurd h (by omega)⟩
  case round =>
    obtain ⟨k, hk, rfl, r0, r1⟩ := hrel
    rcases (show k = 0 ∨ k = 1 ∨ k = 2 by omega) with rfl | rfl | rfl
    · clear r0 r1
      go_wp2_with fail
      go_at_call 48
      refine (c0 _).mono ?_
      rintro e w1 ⟨rfl, rfl⟩
      cases p0
      · go_wp2
        go_round
        case rel => exact ⟨1, by omega, rfl, fun _ => (by simp), fun h => absurd h (by omega)⟩
        case measure => simp [intOf]
      · go_wp2
        go_ret
        exact ⟨rfl, rfl⟩
    · have := r0 (by omega)
      subst this
      clear r0 r1
      go_wp2_with fail
      go_at_call 49
      refine (c1 _).mono ?_
      rintro e w1 ⟨rfl, rfl⟩
      cases p1
      · go_wp2
        go_round
        case rel => exact ⟨2, by omega, rfl, fun _ => (by simp), fun _ => (by simp)⟩
        case measure => simp [intOf]
      · go_wp2
        go_ret
        exact ⟨rfl, rfl⟩
    · have := r0 (by omega)
      subst this
      have := r1 (by omega)
      subst this
      go_wp2
      go_ret
      exact ⟨rfl, rfl⟩

theorem any3_any (x : Int) {b : Nat} {w : World} (h0 : w.cell? ⟨b, 0, none⟩ = some (.func (.func 47) #[] #[])) (h1 : w.cell? ⟨b, 1, none⟩ = some (.func (.func 48) #[] #[]))
    (h2 : w.cell? ⟨b, 2, none⟩ = some (.func (.func 53) #[] #[])) :
    Calls Tryd.prog 45 #[.int .i64 x, .slice (some ⟨b, 0, none⟩) 3 3] w fun e w' => e = .returned (.bool (isBlank x || inB x 65 90 || isBar x)) ∧ w' = w := by
  obtain ⟨p0, e0⟩ : ∃ p, p = isBlank x := ⟨_, rfl⟩
  obtain ⟨p1, e1⟩ : ∃ p, p = inB x 65 90 := ⟨_, rfl⟩
  obtain ⟨p2, e2⟩ : ∃ p, p = isBar x := ⟨_, rfl⟩
  have c0 := fun w => k1_any x w
  have c1 := fun w => k2_any x w
  have c2 := fun w => k7_any x w
  rw [← e0] at c0 ⊢
  rw [← e1] at c1 ⊢
  rw [← e2] at c2 ⊢
  clear e0 e1 e2
  go_enter Tryd.func45, Tryd.ntmps45
  go_wp2
  go_loop [9] (fun i => ∃ k : Nat, k ≤ 3 ∧ i = .int .i64 k ∧ (1 ≤ k → p0 = false) ∧ (2 ≤ k → p1 = false) ∧ (3 ≤ k → p2 = false)) (fun i => 3 - (intOf i).toNat)
  case atStart => exact ⟨0, by omega, rfl, fun h => absurd h (by omega), fun h => absurd h (by omega), fun h => absurd h (by omega)⟩
  case round =>
    obtain ⟨k, hk, rfl, r0, r1, r2⟩ := hrel
    rcases (show k = 0 ∨ k = 1 ∨ k = 2 ∨ k = 3 by omega) with rfl | rfl | rfl | rfl
    · clear r0 r1 r2
      go_wp2_with fail
      go_at_call 47
      refine (c0 _).mono ?_
      rintro e w1 ⟨rfl, rfl⟩
      cases p0
      · go_wp2
        go_round
        case rel => exact ⟨1, by omega, rfl, fun _ => (by simp), fun h => absurd h (by omega), fun h => absurd h (by omega)⟩
        case measure => simp [intOf]
      · go_wp2
        go_ret
        exact ⟨rfl, rfl⟩
    · have := r0 (by omega)
      subst this
      clear r0 r1 r2
      go_wp2_with fail
      go_at_call 48
      refine (c1 _).mono ?_
      rintro e w1 ⟨rfl, rfl⟩
      cases p1
      · go_wp2
        go_round
        case rel => exact ⟨2, by omega, rfl, fun _ => (by simp), fun _ => (by simp), fun h => absurd h (by omega)⟩
        case measure => simp [intOf]
      · go_wp2
        go_ret
        exact ⟨rfl, rfl⟩
    · have := r0 (by omega)
      subst this
      have := r1 (by omega)
      subst this
      clear r0 r1 r2
      go_wp2_with fail
      go_at_call 53
      refine (c2 _).mono ?_
      rintro e w1 ⟨rfl, rfl⟩
      cases p2
      · go_wp2
        go_round
        case rel => exact ⟨3, by omega, rfl, fun _ => (by simp), fun _ => (by simp), fun _ => (by simp)⟩
        case measure => simp [intOf]
      · go_wp2
        go_ret
        exact ⟨rfl, rfl⟩
    · have := r0 (by omega)
      subst this
      have := r1 (by omega)
      subst this
      have := r2 (by omega)
      subst this
      go_wp2
      go_ret
      exact ⟨rfl, rfl⟩

theorem ialpha_any (x : Int) (w : World) : Calls Tryd.prog 42 #[.int .i64 x] w fun e w' => e = .returned (.bool (inB x 65 90 || inB x 97 122)) ∧ Below w.heap.size w w' := by
  go_enter Tryd.func42, Tryd.ntmps42
  go_wp2_with fail
  go_at_call 44
  refine (pointKinds_any _).mono ?_
  rintro e w1 ⟨rfl, b1⟩
  go_wp2_with fail
  go_at_call 45
  refine (any2_any x ?_ ?_).mono ?_
  · simp
  · simp
  rintro e w2 ⟨rfl, rfl⟩
  go_wp2
  go_ret
  exact ⟨rfl, (b1.alloc b1.size _).alloc (by have := b1.size; simp; omega) _⟩

end Go.Proofs.YtggfifchkecnjaaDoor

/- What references stand for, as plain functions of lists of integers. -/
namespace Go.Proofs.YtggfifchkecnjaaDoor
open Go.RowKit
set_option maxRecDepth 100000
set_option linter.unusedVariables false

/-- The points that the numbers 128 to 159 stand for. -/
def oldPoints : List Int := [8364, 129, 8218, 402, 8222, 8230, 8224, 8225, 710, 8240, 352, 8249, 338, 141, 381, 143, 144, 8216, 8217, 8220, 8221, 8226, 8211, 8212, 732, 8482, 353, 8250, 339, 157, 382, 376]
def refNumber (x : Int) : Int := if x = 0 ∨ pointOk x = false then 65533 else if inB x 128 159 then oldPoints.getD (x - 128).toNat 0 else x

/-- A number of a list, or -1 behind its end. -/
def atL (xs : List Int) (k : Nat) : Int := xs.getD k (-1)
theorem atL_in {xs : List Int} {k : Nat} (h : k < xs.length) : atL xs k = xs.getD k 0 := by simp [atL, List.getD_eq_getElem?_getD, h]
theorem atL_out {xs : List Int} {k : Nat} (h : xs.length ≤ k) : atL xs k = -1 := by simp [atL, List.getD_eq_getElem?_getD, h]

/-- The digits that stand at a list's beginning. -/
def digs (b : Int) : List Int → List Int
  | [] => []
  | c :: cs => if 0 ≤ digitOf c b then digitOf c b :: digs b cs else []

theorem digs_le (b : Int) (l : List Int) : (digs b l).length ≤ l.length := by
  induction l with
  | nil => simp [digs]
  | cons c cs ih => unfold digs; split <;> simp; exact ih
theorem digs_at (b : Int) (l : List Int) (k : Nat) (h : k < (digs b l).length) : (digs b l).getD k 0 = digitOf (l.getD k (-1)) b ∧ 0 ≤ digitOf (l.getD k (-1)) b := by
  induction l generalizing k with
  | nil => simp [digs] at h
  | cons c cs ih =>
    unfold digs at h ⊢
    by_cases hc : 0 ≤ digitOf c b
    · rw [if_pos hc] at h ⊢
      cases k with
      | zero => exact ⟨rfl, hc⟩
      | succ k =>
        have := ih k (by simpa using h)
        simpa using this
    · rw [if_neg hc] at h; simp at h
theorem digitOf_neg (b : Int) : digitOf (-1) b < 0 := by
  unfold digitOf
  rw [inB_no (by omega), inB_no (by omega), inB_no (by omega)]
  split <;> simp
theorem digs_end (b : Int) (l : List Int) : digitOf (l.getD (digs b l).length (-1)) b < 0 := by
  induction l with
  | nil => exact digitOf_neg b
  | cons c cs ih =>
    unfold digs
    by_cases hc : 0 ≤ digitOf c b
    · rw [if_pos hc]; simpa using ih
    · rw [if_neg hc]; simp; omega
theorem digitOf_le (x b : Int) (h : b = 10 ∨ b = 16) : digitOf x b < b := by
  rcases h with rfl | rfl
  · unfold digitOf
    by_cases h : 48 ≤ x ∧ x ≤ 57
    · rw [inB_yes h.1 h.2]; simp; omega
    · rw [inB_no (by omega)]; simp
  · unfold digitOf
    by_cases h : 48 ≤ x ∧ x ≤ 57
    · rw [inB_yes h.1 h.2]; simp; omega
    · rw [inB_no (x := x) (lo := 48) (hi := 57) (by omega)]
      by_cases h : 65 ≤ x ∧ x ≤ 70
      · rw [inB_yes h.1 h.2]; simp; omega
      · rw [inB_no (x := x) (lo := 65) (hi := 70) (by omega)]
        by_cases h : 97 ≤ x ∧ x ≤ 102
        · rw [inB_yes h.1 h.2]; simp; omega
        · rw [inB_no (x := x) (lo := 97) (hi := 102) (by omega)]; simp

/-- One digit more: the value, and how many digits there are behind leading noughts. -/
def digStep (b : Int) (p : Int × Nat) (d : Int) : Int × Nat :=
  let n := if 0 < p.2 ∨ 0 < d then p.2 + 1 else p.2
  (if n ≤ 7 then b * p.1 + d else p.1, n)
def digVal (b : Int) (ds : List Int) : Int × Nat := ds.foldl (digStep b) (0, 0)
theorem digVal_succ (b : Int) (ds : List Int) (k : Nat) (h : k < ds.length) : digVal b (ds.take (k + 1)) = digStep b (digVal b (ds.take k)) (ds.getD k 0) := by
  have hg : ds.getD k 0 = ds[k] := by simp [List.getD_eq_getElem?_getD, h]
  unfold digVal
  rw [List.take_succ_eq_append_getElem h, List.foldl_append, hg]; rfl

/-- The reference by number whose digits stand from 'at' on: its point, and the place behind it; 0: there is none. -/
def refDigits (xs : List Int) (b : Int) (k : Nat) : Int × Int :=
  let ds := digs b (xs.drop k)
  let p := digVal b ds
  if ds = [] then (0, 0) else (refNumber (if 7 < p.2 then 1114112 else p.1), (k + ds.length + (if atL xs (k + ds.length) = 59 then 1 else 0) : Nat))
def refNum (xs : List Int) (k : Nat) : Int × Int :=
  if atL xs k = 120 ∨ atL xs k = 88 then refDigits xs 16 (k + 1) else refDigits xs 10 k

/-- A text stands at a place. -/
def stands (xs : List Int) (k : Nat) (nm : List Int) : Bool := (List.range nm.length).all fun i => atL xs (k + i) == nm.getD i 0

/-- The value stays below 16 to the count of its digits, at most to the seventh. -/
theorem digStep_bound {b : Int} (hb : b = 10 ∨ b = 16) {p : Int × Nat} {d : Int} (d0 : 0 ≤ d) (d1 : d < b) (h0 : 0 ≤ p.1) (h1 : p.1 < 16 ^ (min p.2 7)) :
    0 ≤ (digStep b p d).1 ∧ (digStep b p d).1 < 16 ^ (min (digStep b p d).2 7) := by
  obtain ⟨x, n⟩ := p
  simp only at h0 h1
  unfold digStep
  simp only
  by_cases hz : 0 < n ∨ 0 < d
  · rw [if_pos hz]
    by_cases h7 : n + 1 ≤ 7
    · rw [if_pos h7]
      have e1 : min (n + 1) 7 = n + 1 := by omega
      have e2 : min n 7 = n := by omega
      rw [e1, Int.pow_succ]
      rw [e2] at h1
      generalize (16 : Int) ^ n = q at h1
      rcases hb with rfl | rfl <;> omega
    · rw [if_neg h7]
      have e1 : min (n + 1) 7 = 7 := by omega
      have e2 : min n 7 = 7 := by omega
      rw [e1]
      rw [e2] at h1
      exact ⟨h0, h1⟩
  · rw [if_neg hz]
    have hn : n = 0 := by omega
    have hd : d = 0 := by omega
    subst hn hd
    simp at h1
    have hx : x = 0 := by omega
    subst hx
    simp
theorem digVal_bound {b : Int} (hb : b = 10 ∨ b = 16) (l : List Int) (hl : ∀ d ∈ l, 0 ≤ d ∧ d < b) (p : Int × Nat) (h0 : 0 ≤ p.1) (h1 : p.1 < 16 ^ (min p.2 7)) :
    0 ≤ (l.foldl (digStep b) p).1 ∧ (l.foldl (digStep b) p).1 < 16 ^ (min (l.foldl (digStep b) p).2 7) := by
  induction l generalizing p with
  | nil => exact ⟨h0, h1⟩
  | cons d ds ih =>
    have hd := hl d (List.mem_cons_self ..)
    have hs := digStep_bound hb hd.1 hd.2 h0 h1
    exact ih (fun e he => hl e (List.mem_cons_of_mem _ he)) _ hs.1 hs.2
theorem pow_seven (n : Nat) : (16 : Int) ^ (min n 7) ≤ 268435456 := by
  have h : min n 7 ≤ 7 := by omega
  generalize min n 7 = k at h
  rcases (show k = 0 ∨ k = 1 ∨ k = 2 ∨ k = 3 ∨ k = 4 ∨ k = 5 ∨ k = 6 ∨ k = 7 by omega) with rfl | rfl | rfl | rfl | rfl | rfl | rfl | rfl <;> decide
theorem digs_mem {b : Int} (hb : b = 10 ∨ b = 16) (l : List Int) : ∀ d ∈ digs b l, 0 ≤ d ∧ d < b := by
  induction l with
  | nil => intro d hd; cases hd
  | cons c cs ih =>
    intro d hd
    unfold digs at hd
    by_cases hc : 0 ≤ digitOf c b
    · rw [if_pos hc] at hd
      rcases List.mem_cons.mp hd with rfl | hd
      · exact ⟨hc, digitOf_le c b hb⟩
      · exact ih d hd
    · rw [if_neg hc] at hd; cases hd
theorem digVal_ok {b : Int} (hb : b = 10 ∨ b = 16) (l : List Int) (k : Nat) : 0 ≤ (digVal b ((digs b l).take k)).1 ∧ (digVal b ((digs b l).take k)).1 < 268435456 := by
  have h := digVal_bound hb ((digs b l).take k) (fun d hd => digs_mem hb l d (List.mem_of_mem_take hd)) (0, 0) (Int.le_refl _) (by decide)
  have h7 := pow_seven (((digs b l).take k).foldl (digStep b) (0, 0)).2
  exact ⟨h.1, by have := h.2; unfold digVal; omega⟩
theorem digVal_count {b : Int} (l : List Int) (p : Int × Nat) : (l.foldl (digStep b) p).2 ≤ p.2 + l.length := by
  induction l generalizing p with
  | nil => simp
  | cons d ds ih =>
    have := ih (digStep b p d)
    have h2 : (digStep b p d).2 ≤ p.2 + 1 := by unfold digStep; simp only; split <;> omega
    simp only [List.foldl_cons, List.length_cons]
    omega
theorem digStep_inc {b x d : Int} {n : Nat} (h : 0 < n ∨ 0 < d) (h7 : n + 1 ≤ 7) : digStep b (x, n) d = (b * x + d, n + 1) := by
  unfold digStep; simp only; rw [if_pos h, if_pos h7]
theorem digStep_over {b x d : Int} {n : Nat} (h : 0 < n ∨ 0 < d) (h7 : ¬ n + 1 ≤ 7) : digStep b (x, n) d = (x, n + 1) := by
  unfold digStep; simp only; rw [if_pos h, if_neg h7]
theorem digStep_nought {b x : Int} : digStep b (x, 0) 0 = (b * x + 0, 0) := by
  unfold digStep; simp
end Go.Proofs.YtggfifchkecnjaaDoor

/- Slices of any values, several cells an element, and lists of references as such. No condition. -/
namespace Go.Proofs.YtggfifchkecnjaaDoor
open Go.RowKit
set_option maxRecDepth 100000
set_option linter.unusedVariables false

/-- The slice value v has the cells 'cs', 'size' of them an element. -/
def Sv (size : Nat) (w : World) (v : Value) (cs : List Value) : Prop :=
  ∃ a len cap, v = .slice a len cap ∧ cs.length = len * size ∧ len ≤ cap ∧ cap ≤ maxLen ∧ (a = none → cap = 0) ∧
    ∀ i, i < cs.length → ∃ b off, a = some ⟨b, off, none⟩ ∧ w.cell? ⟨b, off + i, none⟩ = some (cs.getD i undef)

theorem Sv.below {size : Nat} {w w' : World} {v : Value} {cs : List Value} (h : Sv size w v cs) (hb : Below w.heap.size w w') : Sv size w' v cs := by
  obtain ⟨a, len, cap, e, h1, h2, h3, h4, hc⟩ := h
  refine ⟨a, len, cap, e, h1, h2, h3, h4, fun i hi => ?_⟩
  obtain ⟨b, off, e, c⟩ := hc i hi
  refine ⟨b, off, e, ?_⟩
  have hlt : b < w.heap.size := by
    by_cases hlt : b < w.heap.size
    · exact hlt
    · exfalso; simp [World.cell?, Array.getElem?_eq_none (Nat.le_of_not_lt hlt)] at c
  exact (hb.cell (p := ⟨b, off + i, none⟩) hlt).trans c

theorem sv_of_own {B size n : Nat} {e : TypeId} {w : World} {v : Value} {cs : List Value} (h : w.ownsRow B e size v n cs) : Sv size w v cs := by
  have h0 := h
  obtain ⟨hl, ⟨hv, hn⟩ | ⟨g, cap, cur, hv, hB, hh, hn, hm, hz, ht⟩⟩ := h
  · subst hn
    have hc : cs = [] := List.length_eq_zero_iff.mp (by omega)
    subst hc
    exact ⟨none, 0, 0, hv, by simp, Nat.le_refl _, Nat.zero_le _, fun _ => rfl, fun i hi => absurd hi (by simp)⟩
  · refine ⟨some ⟨g, 0, none⟩, n, cap, hv, hl, hn, hm, (fun e => by cases e), fun i hi => ⟨g, 0, rfl, ?_⟩⟩
    have e1 : cur[i]? = some (cs.getD i undef) := by
      have : (cur.toList.take (n * size))[i]? = some (cs.getD i undef) := by rw [ht]; simp [List.getD_eq_getElem?_getD, hi]
      rw [List.getElem?_take] at this
      simpa [show i < n * size by omega] using this
    simp only [World.cell?, hh, Nat.zero_add]
    simpa using e1

theorem ownsRow_below {B : Nat} {e : TypeId} {size n : Nat} {w w' : World} {v : Value} {cs : List Value} (h : w.ownsRow B e size v n cs) (hb : Below w.heap.size w w') : w'.ownsRow B e size v n cs := by
  obtain ⟨hl, hv | ⟨g, cap, cur, hv, hB, hh, r⟩⟩ := h
  · exact ⟨hl, .inl hv⟩
  · exact ⟨hl, .inr ⟨g, cap, cur, hv, hB, by rw [hb.block g (lt_of_block hh)]; exact hh, r⟩⟩

/-- The cells of a list of references. -/
def refCells (rs : List (ByteArray × Int)) : List Value := rs.flatMap fun r => [.string r.1, .int .i64 r.2]
theorem refCells_len (rs : List (ByteArray × Int)) : (refCells rs).length = rs.length * 2 := by
  induction rs with
  | nil => rfl
  | cons r rs ih => simp only [refCells, List.flatMap_cons, List.length_append, List.length_cons, List.length_nil] at ih ⊢; omega
theorem refCells_name (rs : List (ByteArray × Int)) (k : Nat) (h : k < rs.length) : (refCells rs).getD (k * 2) undef = .string rs[k].1 := by
  induction rs generalizing k with
  | nil => simp at h
  | cons r rs ih =>
    cases k with
    | zero => simp [refCells]
    | succ k =>
      have := ih k (by simpa using h)
      have e : (k + 1) * 2 = k * 2 + 1 + 1 := by omega
      simp only [refCells, List.flatMap_cons, List.cons_append, List.nil_append, e, List.getD_cons_succ, List.getElem_cons_succ] at this ⊢
      exact this
theorem refCells_point (rs : List (ByteArray × Int)) (k : Nat) (h : k < rs.length) : (refCells rs).getD (k * 2 + 1) undef = .int .i64 rs[k].2 := by
  induction rs generalizing k with
  | nil => simp at h
  | cons r rs ih =>
    cases k with
    | zero => simp [refCells]
    | succ k =>
      have := ih k (by simpa using h)
      have e : (k + 1) * 2 + 1 = k * 2 + 1 + 1 + 1 := by omega
      simp only [refCells, List.flatMap_cons, List.cons_append, List.nil_append, e, List.getD_cons_succ, List.getElem_cons_succ] at this ⊢
      exact this

/-- The names that stand for points, in the document's order. -/
def refList : List (ByteArray × Int) := [(⟨#[97, 109, 112]⟩, 38), (⟨#[97, 109, 112, 59]⟩, 38), (⟨#[99, 111, 112, 121]⟩, 169), (⟨#[99, 111, 112, 121, 59]⟩, 169), (⟨#[102, 114, 97, 99, 49, 50, 59]⟩, 189), (⟨#[103, 116]⟩, 62), (⟨#[103, 116, 59]⟩, 62), (⟨#[104, 101, 108, 108, 105, 112, 59]⟩, 8230), (⟨#[108, 116]⟩, 60), (⟨#[108, 116, 59]⟩, 60), (⟨#[109, 100, 97, 115, 104, 59]⟩, 8212), (⟨#[110, 98, 115, 112]⟩, 160), (⟨#[110, 98, 115, 112, 59]⟩, 160), (⟨#[110, 111, 116]⟩, 172), (⟨#[110, 111, 116, 59]⟩, 172), (⟨#[110, 111, 116, 105, 110, 59]⟩, 8713), (⟨#[113, 117, 111, 116]⟩, 34), (⟨#[113, 117, 111, 116, 59]⟩, 34), (⟨#[114, 101, 103]⟩, 174), (⟨#[114, 101, 103, 59]⟩, 174), (⟨#[115, 117, 112, 49]⟩, 185), (⟨#[115, 117, 112, 49, 59]⟩, 185), (⟨#[116, 105, 109, 101, 115, 59]⟩, 215), (⟨#[121, 101, 110, 59]⟩, 165)]
theorem refList_len : refList.length = 24 := rfl
theorem refList_size : ∀ r ∈ refList, r.1.size ≤ 7 := by decide

/-- The longest name that stands at a place; the first of them, if any. -/
def best (xs : List Int) (k : Nat) (rs : List (ByteArray × Int)) : ByteArray × Int :=
  rs.foldl (fun b r => if stands xs k (bs r.1) && decide (b.1.size < r.1.size) then r else b) (⟨#[]⟩, 0)
theorem best_succ (xs : List Int) (k : Nat) (rs : List (ByteArray × Int)) (j : Nat) (h : j < rs.length) :
    best xs k (rs.take (j + 1)) = if stands xs k (bs rs[j].1) && decide ((best xs k (rs.take j)).1.size < rs[j].1.size) then rs[j] else best xs k (rs.take j) := by
  unfold best
  rw [List.take_succ_eq_append_getElem h, List.foldl_append]
  rfl
theorem best_size (xs : List Int) (k : Nat) (rs : List (ByteArray × Int)) (h : ∀ r ∈ rs, r.1.size ≤ 7) : (best xs k rs).1.size ≤ 7 := by
  unfold best
  suffices ∀ (b : ByteArray × Int), b.1.size ≤ 7 → (rs.foldl (fun b r => if stands xs k (bs r.1) && decide (b.1.size < r.1.size) then r else b) b).1.size ≤ 7 from this _ (by decide)
  induction rs with
  | nil => intro b hb; exact hb
  | cons r rs ih =>
    intro b hb
    rw [List.foldl_cons]
    refine ih (fun r hr => h r (List.mem_cons_of_mem _ hr)) _ ?_
    split
    · exact h r (List.mem_cons_self ..)
    · exact hb

/-- What stands for the reference at a place, and the place behind it. -/
def refName (xs : List Int) (k : Nat) (value : Bool) : List Int × Int :=
  let r := best xs (k + 1) refList
  let n := r.1.size
  let c := atL xs (k + 1 + n)
  if n = 0 then ([38], (k : Int) + 1) else if value && ((bs r.1).getD (n - 1) 0 != 59) && (c == 61 || (inB c 65 90 || inB c 97 122) || decide (0 ≤ digitOf c 10)) then ([38], (k : Int) + 1) else ([r.2], (k : Int) + 1 + n)
def refRead (xs : List Int) (i : Int) (value : Bool) : List Int × Int :=
  if 3000 < xs.length ∨ inB i 0 (xs.length - 1) = false ∨ xs.getD i.toNat 0 ≠ 38 then ([], i)
  else if atL xs (i.toNat + 1) = 35 then
    let p := refNum xs (i.toNat + 2)
    if 0 < p.2 then ([p.1], p.2) else ([38], i + 1)
  else refName xs i.toNat value
end Go.Proofs.YtggfifchkecnjaaDoor

/- Escape, plain: what is escaped is read by references as it was, and has no sign. No condition. -/
namespace Go.Proofs.YtggfifchkecnjaaDoor
open Go.RowKit
set_option maxRecDepth 100000
set_option linter.unusedVariables false

/-- What stands for a point. -/
def escPt (v : Bool) (x : Int) : List Int :=
  if x = 38 then [38, 97, 109, 112, 59] else if x = 160 then [38, 110, 98, 115, 112, 59] else if x = 34 ∧ v = true then [38, 113, 117, 111, 116, 59] else if x = 60 ∧ v = false then [38, 108, 116, 59] else if x = 62 ∧ v = false then [38, 103, 116, 59] else [x]
theorem escPt_len (v : Bool) (x : Int) : 1 ≤ (escPt v x).length ∧ (escPt v x).length ≤ 6 := by
  unfold escPt
  repeat' split
  all_goals first | decide | exact ⟨Nat.le_refl 1, by simp⟩
/-- A point that is no sign stands for itself, and is no 38. -/
theorem escPt_self (v : Bool) (x : Int) : (escPt v x = [x] ∧ x ≠ 38) ∨ ((escPt v x).length ≠ 1 ∧ (escPt v x).getD 0 0 = 38) := by
  unfold escPt
  repeat' split
  all_goals first | exact .inr ⟨by decide, rfl⟩ | exact .inl ⟨rfl, by assumption⟩

/-- The best name, by what stands behind the place. -/
def bestF (f : Nat → Int) (rs : List (ByteArray × Int)) : ByteArray × Int :=
  rs.foldl (fun b r => if ((List.range (bs r.1).length).all fun i => f i == (bs r.1).getD i 0) && decide (b.1.size < r.1.size) then r else b) (⟨#[]⟩, 0)
theorem best_F (xs : List Int) (k : Nat) (rs : List (ByteArray × Int)) : best xs k rs = bestF (fun i => atL xs (k + i)) rs := rfl
def nmL : List (List Int × Nat × Int) := refList.map fun r => (bs r.1, r.1.size, r.2)
def bestN (f : Nat → Int) (rs : List (List Int × Nat × Int)) : Nat × Int :=
  rs.foldl (fun b r => if ((List.range r.1.length).all fun i => f i == r.1.getD i 0) && decide (b.1 < r.2.1) then (r.2.1, r.2.2) else b) (0, 0)
theorem best_N (f : Nat → Int) (rs : List (ByteArray × Int)) : ((bestF f rs).1.size, (bestF f rs).2) = bestN f (rs.map fun r => (bs r.1, r.1.size, r.2)) := by
  unfold bestF bestN
  rw [List.foldl_map]
  suffices ∀ (b : ByteArray × Int) (c : Nat × Int), (b.1.size, b.2) = c → ((rs.foldl (fun b r => if ((List.range (bs r.1).length).all fun i => f i == (bs r.1).getD i 0) && decide (b.1.size < r.1.size) then r else b) b).1.size, (rs.foldl (fun b r => if ((List.range (bs r.1).length).all fun i => f i == (bs r.1).getD i 0) && decide (b.1.size < r.1.size) then r else b) b).2) = rs.foldl (fun b r => if ((List.range (bs r.1).length).all fun i => f i == (bs r.1).getD i 0) && decide (b.1 < r.1.size) then (r.1.size, r.2) else b) c from this _ _ rfl
  induction rs with
  | nil => intro b c h; exact h
  | cons r rs ih =>
    intro b c h
    simp only [List.foldl_cons]
    apply ih
    rw [← h]
    split <;> rfl
theorem nmL_is : nmL = [([97, 109, 112], 3, 38), ([97, 109, 112, 59], 4, 38), ([99, 111, 112, 121], 4, 169), ([99, 111, 112, 121, 59], 5, 169), ([102, 114, 97, 99, 49, 50, 59], 7, 189), ([103, 116], 2, 62), ([103, 116, 59], 3, 62), ([104, 101, 108, 108, 105, 112, 59], 7, 8230), ([108, 116], 2, 60), ([108, 116, 59], 3, 60), ([109, 100, 97, 115, 104, 59], 6, 8212), ([110, 98, 115, 112], 4, 160), ([110, 98, 115, 112, 59], 5, 160), ([110, 111, 116], 3, 172), ([110, 111, 116, 59], 4, 172), ([110, 111, 116, 105, 110, 59], 6, 8713), ([113, 117, 111, 116], 4, 34), ([113, 117, 111, 116, 59], 5, 34), ([114, 101, 103], 3, 174), ([114, 101, 103, 59], 4, 174), ([115, 117, 112, 49], 4, 185), ([115, 117, 112, 49, 59], 5, 185), ([116, 105, 109, 101, 115, 59], 6, 215), ([121, 101, 110, 59], 4, 165)] := by decide
/-- One name after the other. -/
theorem bestN_cons (f : Nat → Int) (b : Nat × Int) (r : List Int × Nat × Int) (rs : List (List Int × Nat × Int)) :
    (r :: rs).foldl (fun b r => if ((List.range r.1.length).all fun i => f i == r.1.getD i 0) && decide (b.1 < r.2.1) then (r.2.1, r.2.2) else b) b = rs.foldl (fun b r => if ((List.range r.1.length).all fun i => f i == r.1.getD i 0) && decide (b.1 < r.2.1) then (r.2.1, r.2.2) else b) (if ((List.range r.1.length).all fun i => f i == r.1.getD i 0) && decide (b.1 < r.2.1) then (r.2.1, r.2.2) else b) := rfl
theorem stands_not {f : Nat → Int} {l : List Int} (i : Nat) (hi : i < l.length) (h : f i ≠ l.getD i 0) : ((List.range l.length).all fun i => f i == l.getD i 0) = false := by
  cases e : ((List.range l.length).all fun i => f i == l.getD i 0)
  · rfl
  · rw [List.all_eq_true] at e
    exact absurd (by simpa using e i (List.mem_range.mpr hi)) h
/-- A name that ends by 59 stands, the longest one: that is read. -/
theorem ref_named {xs : List Int} {k n : Nat} {p : Int} {b : Bool} (hl : xs.length ≤ 3000) (hk : k < xs.length) (h0 : atL xs k = 38) (h1 : atL xs (k + 1) ≠ 35) (hb : bestN (fun i => atL xs (k + 1 + i)) nmL = (n, p)) (hn : 0 < n) (h59 : atL xs (k + n) = 59) : refRead xs k b = ([p], (k : Int) + 1 + n) := by
  have hg : xs.getD k 0 = 38 := by rw [← atL_in hk]; exact h0
  unfold refRead
  rw [if_neg (by
    rintro (h | h | h)
    · omega
    · unfold inB at h; simp at h; omega
    · rw [Int.toNat_natCast] at h; exact h hg), Int.toNat_natCast, if_neg h1]
  have e := best_N (fun i => atL xs (k + 1 + i)) refList
  rw [show (refList.map fun r => (bs r.1, r.1.size, r.2)) = nmL from rfl, hb, ← best_F] at e
  obtain ⟨e1, e2⟩ := Prod.mk.inj e
  unfold refName
  simp only [e1, e2]
  rw [if_neg (by omega), if_neg]
  rw [Bool.and_eq_true, Bool.and_eq_true]
  rintro ⟨⟨_, h⟩, _⟩
  have hs : stands xs (k + 1) (bs (best xs (k + 1) refList).1) = true := by
    have key : ∀ (rs : List (ByteArray × Int)), (best xs (k + 1) rs).1.size = 0 ∨ stands xs (k + 1) (bs (best xs (k + 1) rs).1) = true := by
      intro rs
      unfold best
      suffices ∀ (b : ByteArray × Int), (b.1.size = 0 ∨ stands xs (k + 1) (bs b.1) = true) → ((rs.foldl (fun b r => if stands xs (k + 1) (bs r.1) && decide (b.1.size < r.1.size) then r else b) b).1.size = 0 ∨ stands xs (k + 1) (bs (rs.foldl (fun b r => if stands xs (k + 1) (bs r.1) && decide (b.1.size < r.1.size) then r else b) b).1) = true) from this _ (.inl rfl)
      induction rs with
      | nil => intro b h; exact h
      | cons r rs ih =>
        intro b h
        simp only [List.foldl_cons]
        apply ih
        split
        · rename_i hc
          rw [Bool.and_eq_true] at hc
          exact .inr hc.1
        · exact h
    rcases key refList with h | h
    · omega
    · exact h
  unfold stands at hs
  rw [List.all_eq_true] at hs
  have hsz : (bs (best xs (k + 1) refList).1).length = n := by rw [← e1]; simp [bs]
  have := hs (n - 1) (by rw [hsz, List.mem_range]; omega)
  rw [show k + 1 + (n - 1) = k + n by omega, h59] at this
  simp only [beq_iff_eq] at this
  rw [← this] at h
  exact absurd h (by decide)

theorem at_of {xs : List Int} {k : Nat} {l r : List Int} (h : xs.drop k = l ++ r) (i : Nat) (hi : i < l.length) : atL xs (k + i) = l.getD i 0 := by
  unfold atL
  rw [List.getD_eq_getElem?_getD, ← List.getElem?_drop, h, List.getElem?_append_left hi, List.getD_eq_getElem?_getD, List.getElem?_eq_getElem hi]
  rfl
/-- What stands for a sign is read as the sign. -/
theorem ref_esc {xs : List Int} {k : Nat} {v : Bool} {x : Int} {r : List Int} (hl : xs.length ≤ 3000) (h : xs.drop k = escPt v x ++ r) (h38 : (escPt v x).getD 0 0 = 38) : refRead xs k v = ([x], (k : Int) + (escPt v x).length) := by
  have hlen := (escPt_len v x).1
  have hk : k < xs.length := by
    have := congrArg List.length h
    rw [List.length_drop, List.length_append] at this
    omega
  have h0 : atL xs k = 38 := by have := at_of h 0 hlen; rw [h38] at this; exact this
  have key : ∀ (l : List Int) (n : Nat) (p : Int), escPt v x = 38 :: l → l.length = n → 0 < n → l.getD 0 0 ≠ 35 → l.getD (n - 1) 0 = 59 → (∀ f : Nat → Int, (∀ i, i < n → f i = l.getD i 0) → bestN f nmL = (n, p)) → p = x → refRead xs k v = ([x], (k : Int) + (escPt v x).length) := by
    intro l n p e1 e2 e3 e4 e5 e6 e7
    rw [e1] at h
    have ha : ∀ i, i < n → atL xs (k + 1 + i) = l.getD i 0 := fun i hi => by
      have := at_of h (i + 1) (by rw [List.length_cons, e2]; omega)
      rw [show k + 1 + i = k + (i + 1) by omega, this]
      rfl
    have := ref_named (b := v) hl hk h0 (by have := ha 0 e3; rw [Nat.add_zero] at this; rw [this]; exact e4) (e6 _ ha) e3 (by have := ha (n - 1) (by omega); rw [e5, show k + 1 + (n - 1) = k + n by omega] at this; exact this)
    rw [this, e7, e1, List.length_cons, e2]
    congr 1
    push_cast
    omega
  by_cases e38 : x = 38
  · have he : escPt v x = [38, 97, 109, 112, 59] := by unfold escPt; rw [if_pos e38]
    exact key _ 4 38 he rfl (by decide) (by decide) (by decide) (fun f hf => by
      have f0 := hf 0 (by decide); have f1 := hf 1 (by decide); have f2 := hf 2 (by decide); have f3 := hf 3 (by decide)
      simp only [List.getD_cons_zero, List.getD_cons_succ] at f0 f1 f2 f3
      rw [nmL_is]
      simp [bestN, List.range, List.range.loop, f0, f1, f2, f3]) e38.symm
  by_cases e160 : x = 160
  · have he : escPt v x = [38, 110, 98, 115, 112, 59] := by unfold escPt; rw [if_neg e38, if_pos e160]
    exact key _ 5 160 he rfl (by decide) (by decide) (by decide) (fun f hf => by
      have f0 := hf 0 (by decide); have f1 := hf 1 (by decide); have f2 := hf 2 (by decide); have f3 := hf 3 (by decide); have f4 := hf 4 (by decide)
      simp only [List.getD_cons_zero, List.getD_cons_succ] at f0 f1 f2 f3 f4
      rw [nmL_is]
      simp [bestN, List.range, List.range.loop, f0, f1, f2, f3, f4]) e160.symm
  by_cases e34 : x = 34 ∧ v = true
  · have he : escPt v x = [38, 113, 117, 111, 116, 59] := by unfold escPt; rw [if_neg e38, if_neg e160, if_pos e34]
    exact key _ 5 34 he rfl (by decide) (by decide) (by decide) (fun f hf => by
      have f0 := hf 0 (by decide); have f1 := hf 1 (by decide); have f2 := hf 2 (by decide); have f3 := hf 3 (by decide); have f4 := hf 4 (by decide)
      simp only [List.getD_cons_zero, List.getD_cons_succ] at f0 f1 f2 f3 f4
      rw [nmL_is]
      simp [bestN, List.range, List.range.loop, f0, f1, f2, f3, f4]) e34.1.symm
  by_cases e60 : x = 60 ∧ v = false
  · have he : escPt v x = [38, 108, 116, 59] := by unfold escPt; rw [if_neg e38, if_neg e160, if_neg e34, if_pos e60]
    exact key _ 3 60 he rfl (by decide) (by decide) (by decide) (fun f hf => by
      have f0 := hf 0 (by decide); have f1 := hf 1 (by decide); have f2 := hf 2 (by decide)
      simp only [List.getD_cons_zero, List.getD_cons_succ] at f0 f1 f2
      rw [nmL_is]
      simp [bestN, List.range, List.range.loop, f0, f1, f2]) e60.1.symm
  by_cases e62 : x = 62 ∧ v = false
  · have he : escPt v x = [38, 103, 116, 59] := by unfold escPt; rw [if_neg e38, if_neg e160, if_neg e34, if_neg e60, if_pos e62]
    exact key _ 3 62 he rfl (by decide) (by decide) (by decide) (fun f hf => by
      have f0 := hf 0 (by decide); have f1 := hf 1 (by decide); have f2 := hf 2 (by decide)
      simp only [List.getD_cons_zero, List.getD_cons_succ] at f0 f1 f2
      rw [nmL_is]
      simp [bestN, List.range, List.range.loop, f0, f1, f2]) e62.1.symm
  · exfalso
    unfold escPt at h38
    rw [if_neg e38, if_neg e160, if_neg e34, if_neg e60, if_neg e62] at h38
    exact e38 h38
end Go.Proofs.YtggfifchkecnjaaDoor

/- Escape, plain: what is escaped, point by point. No condition. -/
namespace Go.Proofs.YtggfifchkecnjaaDoor
open Go.RowKit
set_option maxRecDepth 100000
set_option linter.unusedVariables false

def toI (b : UInt8) : Int := (b.toNat : Int)
theorem toI_inj {b : UInt8} {n : Nat} (h : toI b = (n : Int)) : b.toNat = n := by unfold toI at h; omega
theorem puts_one (x : Int) (h0 : 0 ≤ x) (h : x < 128) : puts [x] = [x] := by
  have : pointOk x = true := (pointOk_iff x).mpr ⟨h0, by omega, by omega⟩
  simp [puts, put, pt_of x this, enc1 h]
theorem puts_app (xs ys : List Int) : puts (xs ++ ys) = puts xs ++ puts ys := by simp [puts]
theorem puts_low : ∀ (l : List Int), (∀ x ∈ l, 0 ≤ x ∧ x < 128) → puts l = l := by
  intro l
  induction l with
  | nil => intro _; rfl
  | cons x l ih =>
    intro h
    have := puts_app [x] l
    rw [List.singleton_append] at this
    rw [this, ih (fun y hy => h y (List.mem_cons_of_mem _ hy)), puts_one x (h x (List.mem_cons_self ..)).1 (h x (List.mem_cons_self ..)).2]
    rfl
theorem esc1_low (v : Bool) (b : UInt8) (h : b.toNat < 128) : (esc1 v b).map toI = escPt v (b.toNat : Int) := by
  have key : ∀ n : Nat, n < 256 → (b = UInt8.ofNat n ↔ ((b.toNat : Int) = (n : Int))) := fun n hn => by
    constructor
    · intro e; subst e; simp [Nat.mod_eq_of_lt hn]
    · intro e
      have : b.toNat = n := by omega
      exact u8_eq this hn
  have k38 : b = 38 ↔ (b.toNat : Int) = 38 := key 38 (by decide)
  have k34 : b = 34 ↔ (b.toNat : Int) = 34 := key 34 (by decide)
  have k60 : b = 60 ↔ (b.toNat : Int) = 60 := key 60 (by decide)
  have k62 : b = 62 ↔ (b.toNat : Int) = 62 := key 62 (by decide)
  unfold esc1 escPt
  rw [if_neg (show ¬ (b.toNat : Int) = 160 by omega)]
  by_cases h38 : b = 38
  · rw [if_pos h38, if_pos (k38.mp h38)]; rfl
  rw [if_neg h38, if_neg (show ¬ (b.toNat : Int) = 38 from fun e => h38 (k38.mpr e))]
  by_cases h34 : b = 34 ∧ v = true
  · rw [if_pos h34, if_pos ⟨k34.mp h34.1, h34.2⟩]; rfl
  rw [if_neg h34, if_neg (show ¬ ((b.toNat : Int) = 34 ∧ v = true) from fun e => h34 ⟨k34.mpr e.1, e.2⟩)]
  by_cases h60 : b = 60 ∧ v = false
  · rw [if_pos h60, if_pos ⟨k60.mp h60.1, h60.2⟩]; rfl
  rw [if_neg h60, if_neg (show ¬ ((b.toNat : Int) = 60 ∧ v = false) from fun e => h60 ⟨k60.mpr e.1, e.2⟩)]
  by_cases h62 : b = 62 ∧ v = false
  · rw [if_pos h62, if_pos ⟨k62.mp h62.1, h62.2⟩]; rfl
  rw [if_neg h62, if_neg (show ¬ ((b.toNat : Int) = 62 ∧ v = false) from fun e => h62 ⟨k62.mpr e.1, e.2⟩)]
  rfl
theorem escPt_high (v : Bool) (x : Int) (h : 128 ≤ x) (h2 : x ≠ 160) : escPt v x = [x] := by
  unfold escPt
  rw [if_neg (by omega), if_neg h2, if_neg (by omega), if_neg (by omega), if_neg (by omega)]
theorem escPt_low (v : Bool) (x : Int) (h0 : 0 ≤ x) (h : x < 128 ∨ x = 160) : ∀ y ∈ escPt v x, 0 ≤ y ∧ y < 128 := by
  by_cases hx : x = 160
  · subst hx; cases v <;> decide
  unfold escPt
  repeat' split
  all_goals first | (exact absurd ‹_› hx) | decide | (intro y hy; rw [List.mem_singleton] at hy; omega)
theorem esc_cont (v : Bool) (b : UInt8) (r : List UInt8) (h0 : 128 ≤ b.toNat) (h1 : b.toNat < 192) : esc v (b :: r) = b :: esc v r := esc_high v b r h0 (by omega)

/-- What is escaped, point by point. -/
theorem esc_puts (v : Bool) : ∀ (ps : List Int) (l : List UInt8), (∀ p ∈ ps, pointOk p = true) → l.map toI = puts ps → (esc v l).map toI = puts (ps.flatMap (escPt v)) := by
  intro ps
  induction ps with
  | nil =>
    intro l _ h
    have : l = [] := List.map_eq_nil_iff.mp h
    subst this
    rfl
  | cons p ps ih =>
    intro l hok h
    have hp := hok p (List.mem_cons_self ..)
    obtain ⟨p0, p1, p2⟩ := (pointOk_iff p).mp hp
    have ih' := fun l' => ih l' (fun q hq => hok q (List.mem_cons_of_mem _ hq))
    have e0 := puts_app [p] ps
    rw [List.singleton_append] at e0
    have e1 : puts [p] = enc p := by simp [puts, put, pt_of p hp]
    rw [e0, e1] at h
    rw [List.flatMap_cons, puts_app]
    by_cases h1 : p < 128
    · rw [enc1 h1] at h
      match l, h with
      | b :: l, h =>
        rw [List.map_cons, List.singleton_append] at h
        injection h with hb hl
        have hbn : (b.toNat : Int) = p := hb
        rw [esc_cons v b l (by rintro ⟨rfl, _⟩; revert hbn; simp; omega), List.map_append, ih' l hl, esc1_low v b (by omega), hbn, puts_low _ (escPt_low v p p0 (.inl h1))]
    by_cases h2 : p < 2048
    · rw [enc2 (by omega) h2] at h
      match l, h with
      | [], h => simp at h
      | [b], h => simp at h
      | b :: c :: l, h =>
        simp only [List.map_cons, List.cons_append, List.nil_append] at h
        injection h with hb h
        injection h with hc hl
        have hbn : (b.toNat : Int) = 192 + p / 64 := hb
        have hcn : (c.toNat : Int) = 128 + p % 64 := hc
        by_cases h160 : p = 160
        · have b1 : b = 194 := u8_eq (n := 194) (by omega) (by decide)
          have c1 : c = 160 := u8_eq (n := 160) (by omega) (by decide)
          subst b1 c1
          rw [esc_hard, List.map_append, ih' l hl, puts_low _ (escPt_low v p p0 (.inr h160))]
          subst h160
          rfl
        · rw [esc_high v b _ (by omega) (by
            rintro ⟨q1, _, q3⟩
            have q3' : c.toNat = 160 := q3
            omega), esc_cont v c _ (by omega) (by omega), List.map_cons, List.map_cons, ih' l hl, escPt_high v p (by omega) h160, e1, enc2 (by omega) h2, hb, hc]
          rfl
    by_cases h3 : p < 65536
    · rw [enc3 (by omega) h3] at h
      match l, h with
      | [], h => simp at h
      | [b], h => simp at h
      | [b, c], h => simp at h
      | b :: c :: d :: l, h =>
        simp only [List.map_cons, List.cons_append, List.nil_append] at h
        injection h with hb h
        injection h with hc h
        injection h with hd hl
        have hbn : (b.toNat : Int) = 224 + p / 4096 := hb
        have hcn : (c.toNat : Int) = 128 + p / 64 % 64 := hc
        have hdn : (d.toNat : Int) = 128 + p % 64 := hd
        rw [esc_high v b _ (by omega) (by omega), esc_cont v c _ (by omega) (by omega), esc_cont v d _ (by omega) (by omega), List.map_cons, List.map_cons, List.map_cons, ih' l hl, escPt_high v p (by omega) (by omega), e1, enc3 (by omega) h3, hb, hc, hd]
        rfl
    · rw [enc4 (by omega)] at h
      match l, h with
      | [], h => simp at h
      | [b], h => simp at h
      | [b, c], h => simp at h
      | [b, c, d], h => simp at h
      | b :: c :: d :: f :: l, h =>
        simp only [List.map_cons, List.cons_append, List.nil_append] at h
        injection h with hb h
        injection h with hc h
        injection h with hd h
        injection h with hf hl
        have hbn : (b.toNat : Int) = 240 + p / 262144 := hb
        have hcn : (c.toNat : Int) = 128 + p / 4096 % 64 := hc
        have hdn : (d.toNat : Int) = 128 + p / 64 % 64 := hd
        have hfn : (f.toNat : Int) = 128 + p % 64 := hf
        rw [esc_high v b _ (by omega) (by omega), esc_cont v c _ (by omega) (by omega), esc_cont v d _ (by omega) (by omega), esc_cont v f _ (by omega) (by omega), List.map_cons, List.map_cons, List.map_cons, List.map_cons, ih' l hl, escPt_high v p (by omega) (by omega), e1, enc4 (by omega), hb, hc, hd, hf]
        rfl

/-- What is escaped has no sign. -/
def plainB (v : Bool) (b : UInt8) : Bool := if v then b != 34 else (b != 60 && b != 62)
theorem esc1_plain (v : Bool) (b : UInt8) : ∀ c ∈ esc1 v b, plainB v c = true := by
  unfold esc1
  repeat' split
  · cases v <;> decide
  · cases v <;> decide
  · cases v <;> decide
  · cases v <;> decide
  · rename_i h1 h2 h3 h4
    intro c hc
    rw [List.mem_singleton] at hc
    subst hc
    unfold plainB
    cases v
    · simp at h3 h4; simp [h3, h4]
    · simp at h2; simp [h2]
theorem esc_plain (v : Bool) : ∀ (n : Nat) (l : List UInt8), l.length ≤ n → ∀ c ∈ esc v l, plainB v c = true := by
  intro n
  induction n with
  | zero =>
    intro l h c hc
    have : l = [] := List.length_eq_zero_iff.mp (by omega)
    subst this
    cases hc
  | succ n ih =>
    intro l h c hc
    match l, h, hc with
    | [], _, hc => cases hc
    | [b], _, hc => exact esc1_plain v b c hc
    | b :: d :: r, h, hc =>
      rw [esc] at hc
      simp only [List.length_cons] at h
      split at hc
      · rcases List.mem_append.mp hc with hc | hc
        · have h9 : ∀ c ∈ nbspS, plainB v c = true := by cases v <;> decide
          exact h9 c hc
        · exact ih r (by omega) c hc
      · rcases List.mem_append.mp hc with hc | hc
        · exact esc1_plain v b c hc
        · exact ih (d :: r) (by simp; omega) c hc
theorem esc_size (v : Bool) : ∀ (n : Nat) (l : List UInt8), l.length ≤ n → (esc v l).length ≤ 6 * l.length := by
  intro n
  induction n with
  | zero =>
    intro l h
    have : l = [] := List.length_eq_zero_iff.mp (by omega)
    subst this
    simp [esc]
  | succ n ih =>
    intro l h
    match l, h with
    | [], _ => simp [esc]
    | [b], _ => exact esc1_le v b
    | b :: d :: r, h =>
      rw [esc]
      simp only [List.length_cons] at h ⊢
      split
      · have := ih r (by omega)
        have : nbspS.length = 6 := rfl
        rw [List.length_append]
        omega
      · have h7 := ih (d :: r) (by simp; omega)
        have h8 := esc1_le v b
        rw [List.length_append]
        have h9 : (d :: r).length = r.length + 1 := rfl
        omega

/-- Where point j's form begins. -/
def posE (v : Bool) (ps : List Int) (j : Nat) : Nat := ((ps.take j).flatMap (escPt v)).length
theorem posE_succ (v : Bool) (ps : List Int) (j : Nat) (h : j < ps.length) : posE v ps (j + 1) = posE v ps j + (escPt v ps[j]).length := by
  unfold posE
  rw [List.take_succ_eq_append_getElem h, List.flatMap_append, List.length_append]
  simp
theorem posE_drop (v : Bool) (ps : List Int) (j : Nat) (h : j < ps.length) : ∃ r, (ps.flatMap (escPt v)).drop (posE v ps j) = escPt v ps[j] ++ r := by
  have e : ps = ps.take j ++ (ps[j] :: ps.drop (j + 1)) := by rw [← List.drop_eq_getElem_cons h, List.take_append_drop]
  refine ⟨(ps.drop (j + 1)).flatMap (escPt v), ?_⟩
  have e2 : ps.flatMap (escPt v) = (ps.take j).flatMap (escPt v) ++ (escPt v ps[j] ++ (ps.drop (j + 1)).flatMap (escPt v)) := by
    conv => lhs; rw [e]
    rw [List.flatMap_append, List.flatMap_cons]
  rw [e2, posE, List.drop_left]
theorem posE_all (v : Bool) (ps : List Int) : posE v ps ps.length = (ps.flatMap (escPt v)).length := by unfold posE; rw [List.take_length]
theorem posE_lt (v : Bool) (ps : List Int) (j : Nat) (h : j < ps.length) : posE v ps j < (ps.flatMap (escPt v)).length := by
  obtain ⟨r, e⟩ := posE_drop v ps j h
  have := congrArg List.length e
  have := (escPt_len v ps[j]).1
  rw [List.length_drop, List.length_append] at *
  omega
theorem escPts_ok (v : Bool) (ps : List Int) (h : ∀ p ∈ ps, pointOk p = true) : ∀ p ∈ ps.flatMap (escPt v), pointOk p = true := by
  intro p hp
  obtain ⟨q, hq, hm⟩ := List.mem_flatMap.mp hp
  have hok := h q hq
  obtain ⟨q0, q1, q2⟩ := (pointOk_iff q).mp hok
  by_cases hl : q < 128 ∨ q = 160
  · obtain ⟨a, b⟩ := escPt_low v q q0 hl p hm
    exact (pointOk_iff p).mpr ⟨a, by omega, by omega⟩
  · rw [escPt_high v q (by omega) (by omega), List.mem_singleton] at hm
    subst hm; exact hok
end Go.Proofs.YtggfifchkecnjaaDoor

/- 'append(v, s...)' where v is the call's own and s a string. No condition. -/
namespace Go.Proofs.YtggfifchkecnjaaDoor
open Go.RowKit
set_option maxRecDepth 100000
set_option linter.unusedVariables false

theorem bs_cells (s : ByteArray) : (bs s).map (Value.int .u8) = (s.data.map (fun b => Value.int .u8 b.toNat)).toList := by
  simp [bs, Function.comp_def]

theorem first_str {P : Program} (w : World) (s : ByteArray) : (Builtin.firstCells 1 s.size (.string s)).run P w = .ok ((bs s).map (Value.int .u8)).toArray w := by
  rw [bs_cells]
  simp [Builtin.firstCells]
  apply Array.ext'
  simp

theorem run_append_str {P : Program} (w : World) (base : Nat) (t u ty e : TypeId) (i : TypeInfo) (z : Value) (ht : P.underlying t = some (.slice e)) (hu : P.underlying u = some .string)
    (hi : P.info? e = some i) (hz : i.zero = some z) (hsize : i.size = 1) (hby : i.bytes = 1) (hzs : z.cells.size = 1) (v : Value) (xs : List Int) (hown : Own base e .u8 w v xs) (hne : xs ≠ [])
    (s : ByteArray) (hb : xs.length + s.size ≤ 140737488355328) (hbase : base ≤ w.heap.size) :
    ∃ v' w', (Builtin.append_ #[t, u] ty #[v, .string s]).run P w = .ok v' w' ∧ Own base e .u8 w' v' (xs ++ bs s) ∧ w.grownBy w' v.ownBlock := by
  have h63 : xs.length + s.size ≤ maxLen := by unfold maxLen; omega
  obtain ⟨ys, hys⟩ : ∃ ys, ys = xs.map (Value.int .u8) := ⟨_, rfl⟩
  obtain ⟨news, hnw⟩ : ∃ ns, ns = (bs s).map (Value.int .u8) := ⟨_, rfl⟩
  have hnl : news.length = s.size := by rw [hnw, List.length_map, bs_len]
  have hyl : ys.length = xs.length := by rw [hys, List.length_map]
  have hpos : 0 < xs.length := List.length_pos_iff.mpr hne
  have h1 : ∀ u ∈ news, u.oneCell' = true := by rw [hnw]; exact ints_oneCell .u8 (bs s)
  have hlen : (ys ++ news).length = xs.length + s.size := by rw [List.length_append, hyl, hnl]
  have hxl : (xs ++ bs s).length = xs.length + s.size := by rw [List.length_append, bs_len]
  have hmap : (xs ++ bs s).map (Value.int .u8) = ys ++ news := by rw [List.map_append, ← hys, ← hnw]
  have hown' := hown
  unfold Own at hown ⊢
  rw [← hys] at hown
  rw [hmap, hxl]
  rcases hown.2 with ⟨rfl, h0⟩ | ⟨g, cap, cur, rfl, hbg, hg, hnc, hcm, hcs, htake⟩
  · omega
  · simp only [Nat.mul_one] at hcs htake
    by_cases hroom : xs.length + s.size ≤ cap
    · have hf := first_str (P := P) w s
      rw [← hnw] at hf
      have hfit : xs.length * 1 + news.length ≤ cur.size := by rw [hnl, hcs]; omega
      have hst := run_storeCells_at P g (xs.length * 1) e news 0 cur w hg (by simpa using hfit) h1
      simp only [Nat.add_zero, Nat.mul_one] at hst
      have hr : (Builtin.append_ #[t, u] ty #[.slice (some ⟨g, 0, none⟩) xs.length cap, .string s]).run P w = .ok (.slice (some ⟨g, 0, none⟩) (xs.length + s.size) cap) (w.setRow g (cur.toList.take xs.length ++ news ++ cur.toList.drop (xs.length + news.length)).toArray) := by
        simp [Builtin.append_, run_underlying ht, run_underlying hu, sizeOf, typeInfo, hi, hsize, Builtin.lenOf, hroom, hf, Addr.add_lit, hst]
      refine ⟨_, _, hr, ⟨by rw [hlen, Nat.mul_one], .inr ⟨g, cap, _, rfl, hbg, setRow_heap w g cur _ e _ hg, hroom, hcm, ?_, ?_⟩⟩, ⟨rfl, rfl, rfl, by simp, fun k _ hk => setRow_other w g k _ (fun e => hk (by simp [Value.ownBlock, e]))⟩⟩
      · simp only [List.size_toArray, List.length_append, List.length_take, List.length_drop, Array.length_toList]
        omega
      · simp only [Nat.mul_one]
        rw [htake, ← hlen]
        exact List.take_left
    · have holds : ∀ j u, ys[j]? = some u → w.cell? ((⟨g, 0, none⟩ : Addr).add j) = some u := hown.cells (g := g) rfl
      have hfo := run_firstCells_some (P := P) w.drew 1 xs.length ⟨g, 0, none⟩ xs.length cap ys (by rw [hyl, Nat.mul_one]) (by simpa using holds)
      have hf := first_str (P := P) w.drew s
      rw [← hnw] at hf
      have h63' : ¬ (9223372036854775807 < ((xs.length : Int) + (s.size : Int))) := by unfold maxLen at h63; omega
      have hfits := growslice_fits (need := xs.length + s.size) (old := cap) (bytes := 1) (by omega) (by omega)
      have h48' : ¬ (281474976710656 < Builtin.nextslicecap (xs.length + s.size) cap) := by omega
      have hge := grownCap_ge w (xs.length + s.size) cap e
      have hcm' : grownCap w (xs.length + s.size) cap e ≤ maxLen := grownCap_le_maxLen w (xs.length + s.size) cap e h63
      have hr : (Builtin.append_ #[t, u] ty #[.slice (some ⟨g, 0, none⟩) xs.length cap, .string s]).run P w = .ok (.slice (some ⟨w.heap.size, 0, none⟩) (xs.length + s.size) (grownCap w (xs.length + s.size) cap e))
          (w.drew.alloc (.cells (ys.toArray ++ news.toArray ++ Builtin.zeroCells z.cells (grownCap w (xs.length + s.size) cap e - (xs.length + s.size))) e)) := by
        simp [Builtin.append_, run_underlying ht, run_underlying hu, sizeOf, typeInfo, zeroValue, hi, hz, hsize, hby, Builtin.lenOf, hroom, h63', h48', Question.forced, hf, hfo, newRow, grownCap]
        congr 2
        apply Array.ext'
        simp [List.append_assoc]
      refine ⟨_, _, hr, ⟨by rw [hlen, Nat.mul_one], .inr ⟨w.heap.size, _, _, rfl, hbase, heap_alloc_new w.drew _, hge, hcm', ?_, ?_⟩⟩, ⟨rfl, rfl, rfl, by simp, fun k hk _ => Below.heap_alloc w.drew _ k hk⟩⟩
      · simp only [Array.size_append, List.size_toArray, size_zeroCells, hzs, hyl, hnl, Nat.mul_one]
        omega
      · simp only [Array.toList_append, List.append_assoc, Nat.mul_one]
        rw [← List.append_assoc, ← hlen]
        exact List.take_left

theorem wpList_app_str {P : Program} (w : World) {ops : Array Oper} {rest : List Oper} {o : Oper} {a : Act} {Q : Exit → Act → World → Prop} (hgd : o.guard = none)
    (s x : Operand) (t u : TypeId) (ho : o.op = Op.call { callee := Callee.builtin Builtin.append, args := #[s, x], argTypes := #[t, u] }) (B : Nat) (e : TypeId) (i : TypeInfo)
    (z : Value) (ht : P.underlying t = some (TypeDesc.slice e)) (hu : P.underlying u = some .string) (hi : P.info? e = some i) (hz : i.zero = some z) (hsize : i.size = 1) (hby : i.bytes = 1)
    (hzs : z.cells.size = 1) (v : Value) (st : ByteArray) (xs : List Int) (hs : a.eval s = v) (hx : a.eval x = .string st) (hown : Own B e .u8 w v xs) (hne : xs ≠ [])
    (hb : xs.length + st.size ≤ 140737488355328) (hbase : B ≤ w.heap.size)
    (h : ∀ (v' : Value) (w' : World), Own B e .u8 w' v' (xs ++ bs st) → w.grownBy w' v.ownBlock → wpList P ops Q rest (a.put o.dst v') w') :
    wpList P ops Q (o :: rest) a w := by
  obtain ⟨v', w', hr, h2, h3⟩ := run_append_str (P := P) w B t u o.type e i z ht hu hi hz hsize hby hzs v xs hown hne st hb hbase
  refine wpList_plain hgd fun _ hK => ?_
  unfold Oper.wp execOp
  simp only [ho, resolve, invoke, builtin, Sem.run_bind, Sem.run_pure, Result.andThen_ok, List.map_toArray, List.map_cons, List.map_nil, hs, hx, hr]
  exact hK _ _ (h v' w' h2 h3)
end Go.Proofs.YtggfifchkecnjaaDoor
