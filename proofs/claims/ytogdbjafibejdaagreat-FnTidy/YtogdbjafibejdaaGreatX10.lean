/- Contracts of chapter 2's functions on one number, the program's and the specification's. No condition. -/
import Derived.Test.YtogdbjafibejdaaGreatX4
import Derived.Laws.EntriesVeiled
import Derived.Test.YtogdbjafibejdaaGreatX3
import Derived.Test.YtogdbjafibejdaaGreatX8
namespace Go.Proofs.YtogdbjafibejdaaGreat
open Go.RowKit
set_option maxRecDepth 100000
set_option linter.unusedVariables false

def isBlank (x : Int) : Bool := x == 9 || x == 10 || x == 12 || x == 32
def isBar (x : Int) : Bool := x == 0 || x == 47 || x == 62
def lowerOf (x : Int) : Int := if inB x 65 90 then x + 32 else x
def digitOf (x b : Int) : Int :=
  if b ≠ 10 ∧ b ≠ 16 then -1 else if inB x 48 57 then x - 48 else if b = 16 ∧ inB x 65 70 then x - 55 else if b = 16 ∧ inB x 97 102 then x - 87 else -1

theorem pointKinds_any (w : World) : Calls Tryz.prog 154 #[] w fun e w' =>
    e = .returned (.agg #[.func (.func 183) #[] #[], .func (.func 184) #[] #[], .func (.func 185) #[] #[], .func (.func 186) #[] #[],
      .func (.func 187) #[] #[], .func (.func 188) #[] #[], .func (.func 189) #[] #[]]) ∧ Below w.heap.size w w' := by
  go_enter Tryz.func154, Tryz.ntmps154
  go_wp2
  refine bodyPost_ret (v := .agg #[.func (.func 183) #[] #[], .func (.func 184) #[] #[], .func (.func 185) #[] #[], .func (.func 186) #[] #[], .func (.func 187) #[] #[], .func (.func 188) #[] #[], .func (.func 189) #[] #[]]) (by simp [results, Tryz.results154, go_sem]) rfl ?_
  exact ⟨rfl, (Below.refl _ _).alloc (Nat.le_refl _) _⟩

theorem kind0_at (w : World) : (Instr.index 170 (.agg #[.func (.func 183) #[] #[], .func (.func 184) #[] #[], .func (.func 185) #[] #[], .func (.func 186) #[] #[], .func (.func 187) #[] #[], .func (.func 188) #[] #[], .func (.func 189) #[] #[]]) (.int .i64 0)).run Tryz.prog w = .ok (.func (.func 183) #[] #[]) w := by
  kernel_rfl
theorem kind1_at (w : World) : (Instr.index 170 (.agg #[.func (.func 183) #[] #[], .func (.func 184) #[] #[], .func (.func 185) #[] #[], .func (.func 186) #[] #[], .func (.func 187) #[] #[], .func (.func 188) #[] #[], .func (.func 189) #[] #[]]) (.int .i64 1)).run Tryz.prog w = .ok (.func (.func 184) #[] #[]) w := by
  kernel_rfl

theorem k1_any (x : Int) (w : World) : Calls Tryz.prog 183 #[.int .i64 x] w fun e w' => e = .returned (.bool (isBlank x)) ∧ w' = w := by
  go_enter Tryz.func183, Tryz.ntmps183
  go_wp2
  all_goals
    go_ret
    exact ⟨ret_bool (by unfold isBlank; simp_all), rfl⟩

theorem k2_any (x : Int) (w : World) : Calls Tryz.prog 184 #[.int .i64 x] w fun e w' => e = .returned (.bool (inB x 65 90)) ∧ w' = w := by
  go_enter Tryz.func184, Tryz.ntmps184
  go_wp2
  all_goals
    go_ret
    exact ⟨ret_bool (by unfold inB; simp_all <;> (intros; omega)), rfl⟩
theorem k3_any (x : Int) (w : World) : Calls Tryz.prog 185 #[.int .i64 x] w fun e w' => e = .returned (.bool (inB x 97 122)) ∧ w' = w := by
  go_enter Tryz.func185, Tryz.ntmps185
  go_wp2
  all_goals
    go_ret
    exact ⟨ret_bool (by unfold inB; simp_all <;> (intros; omega)), rfl⟩
theorem k4_any (x : Int) (w : World) : Calls Tryz.prog 186 #[.int .i64 x] w fun e w' => e = .returned (.bool (inB x 48 57)) ∧ w' = w := by
  go_enter Tryz.func186, Tryz.ntmps186
  go_wp2
  all_goals
    go_ret
    exact ⟨ret_bool (by unfold inB; simp_all <;> (intros; omega)), rfl⟩
theorem k5_any (x : Int) (w : World) : Calls Tryz.prog 187 #[.int .i64 x] w fun e w' => e = .returned (.bool (inB x 65 70)) ∧ w' = w := by
  go_enter Tryz.func187, Tryz.ntmps187
  go_wp2
  all_goals
    go_ret
    exact ⟨ret_bool (by unfold inB; simp_all <;> (intros; omega)), rfl⟩
theorem k6_any (x : Int) (w : World) : Calls Tryz.prog 188 #[.int .i64 x] w fun e w' => e = .returned (.bool (inB x 97 102)) ∧ w' = w := by
  go_enter Tryz.func188, Tryz.ntmps188
  go_wp2
  all_goals
    go_ret
    exact ⟨ret_bool (by unfold inB; simp_all <;> (intros; omega)), rfl⟩
theorem k7_any (x : Int) (w : World) : Calls Tryz.prog 189 #[.int .i64 x] w fun e w' => e = .returned (.bool (isBar x)) ∧ w' = w := by
  go_enter Tryz.func189, Tryz.ntmps189
  go_wp2
  all_goals
    go_ret
    exact ⟨ret_bool (by unfold isBar; simp_all), rfl⟩

theorem any2_any (x : Int) {b : Nat} {w : World} (h0 : w.cell? ⟨b, 0, none⟩ = some (.func (.func 184) #[] #[])) (h1 : w.cell? ⟨b, 1, none⟩ = some (.func (.func 185) #[] #[])) :
    Calls Tryz.prog 155 #[.int .i64 x, .slice (some ⟨b, 0, none⟩) 2 2] w fun e w' => e = .returned (.bool (inB x 65 90 || inB x 97 122)) ∧ w' = w := by
  obtain ⟨p0, e0⟩ : ∃ p, p = inB x 65 90 := ⟨_, rfl⟩
  obtain ⟨p1, e1⟩ : ∃ p, p = inB x 97 122 := ⟨_, rfl⟩
  have c0 := fun w => k2_any x w
  have c1 := fun w => k3_any x w
  rw [← e0] at c0 ⊢
  rw [← e1] at c1 ⊢
  clear e0 e1
  go_enter Tryz.func155, Tryz.ntmps155
  go_wp2
  go_loop [9] (fun i => ∃ k : Nat, k ≤ 2 ∧ i = .int .i64 k ∧ (1 ≤ k → p0 = false) ∧ (2 ≤ k → p1 = false)) (fun i => 2 - (intOf i).toNat)
  case atStart => exact ⟨0, by omega, rfl, fun h => absurd h (by omega), fun h => absurd h (by omega)⟩
  case round =>
    obtain ⟨k, hk, rfl, r0, r1⟩ := hrel
    rcases (show k = 0 ∨ k = 1 ∨ k = 2 by omega) with rfl | rfl | rfl
    · clear r0 r1
      go_wp2_with fail
      go_at_call 184
      refine (c0 _).mono ?_
      rintro e w1 ⟨rfl, rfl⟩
      cases p0
      · go_wp2
        go_round
        case rel => exact ⟨1, by omega, rfl, fun _ => (by simp), fun h => absurd h (by omega)⟩
        case measure => simp [intOf]
      · go_wp2
        go_ret
        exact ⟨rfl, rfl⟩
    · have := r0 (by omega)
      subst this
      clear r0 r1
      go_wp2_with fail
      go_at_call 185
      refine (c1 _).mono ?_
      rintro e w1 ⟨rfl, rfl⟩
      cases p1
      · go_wp2
        go_round
        case rel => exact ⟨2, by omega, rfl, fun _ => (by simp), fun _ => (by simp)⟩
        case measure => simp [intOf]
      · go_wp2
        go_ret
        exact ⟨rfl, rfl⟩
    · have := r0 (by omega)
      subst this
      have := r1 (by omega)
      subst this
      go_wp2
      go_ret
      exact ⟨rfl, rfl⟩

theorem any3_any (x : Int) {b : Nat} {w : World} (h0 : w.cell? ⟨b, 0, none⟩ = some (.func (.func 183) #[] #[])) (h1 : w.cell? ⟨b, 1, none⟩ = some (.func (.func 184) #[] #[]))
    (h2 : w.cell? ⟨b, 2, none⟩ = some (.func (.func 189) #[] #[])) :
    Calls Tryz.prog 155 #[.int .i64 x, .slice (some ⟨b, 0, none⟩) 3 3] w fun e w' => e = .returned (.bool (isBlank x || inB x 65 90 || isBar x)) ∧ w' = w := by
  obtain ⟨p0, e0⟩ : ∃ p, p = isBlank x := ⟨_, rfl⟩
  obtain ⟨p1, e1⟩ : ∃ p, p = inB x 65 90 := ⟨_, rfl⟩
  obtain ⟨p2, e2⟩ : ∃ p, p = isBar x := ⟨_, rfl⟩
  have c0 := fun w => k1_any x w
  have c1 := fun w => k2_any x w
  have c2 := fun w => k7_any x w
  rw [← e0] at c0 ⊢
  rw [← e1] at c1 ⊢
  rw [← e2] at c2 ⊢
  clear e0 e1 e2
  go_enter Tryz.func155, Tryz.ntmps155
  go_wp2
  go_loop [9] (fun i => ∃ k : Nat, k ≤ 3 ∧ i = .int .i64 k ∧ (1 ≤ k → p0 = false) ∧ (2 ≤ k → p1 = false) ∧ (3 ≤ k → p2 = false)) (fun i => 3 - (intOf i).toNat)
  case atStart => exact ⟨0, by omega, rfl, fun h => absurd h (by omega), fun h => absurd h (by omega), fun h => absurd h (by omega)⟩
  case round =>
    obtain ⟨k, hk, rfl, r0, r1, r2⟩ := hrel
    rcases (show k = 0 ∨ k = 1 ∨ k = 2 ∨ k = 3 by omega) with rfl | rfl | rfl | rfl
    · clear r0 r1 r2
      go_wp2_with fail
      go_at_call 183
      refine (c0 _).mono ?_
      rintro e w1 ⟨rfl, rfl⟩
      cases p0
      · go_wp2
        go_round
        case rel => exact ⟨1, by omega, rfl, fun _ => (by simp), fun h => absurd h (by omega), fun h => absurd h (by omega)⟩
        case measure => simp [intOf]
      · go_wp2
        go_ret
        exact ⟨rfl, rfl⟩
    · have := r0 (by omega)
      subst this
      clear r0 r1 r2
      go_wp2_with fail
      go_at_call 184
      refine (c1 _).mono ?_
      rintro e w1 ⟨rfl, rfl⟩
      cases p1
      · go_wp2
        go_round
        case rel => exact ⟨2, by omega, rfl, fun _ => (by simp), fun _ => (by simp), fun h => absurd h (by omega)⟩
        case measure => simp [intOf]
      · go_wp2
        go_ret
        exact ⟨rfl, rfl⟩
    · have := r0 (by omega)
      subst this
      have := r1 (by omega)
      subst this
      clear r0 r1 r2
      go_wp2_with fail
      go_at_call 189
      refine (c2 _).mono ?_
      rintro e w1 ⟨rfl, rfl⟩
      cases p2
      · go_wp2
        go_round
        case rel => exact ⟨3, by omega, rfl, fun _ => (by simp), fun _ => (by simp), fun _ => (by simp)⟩
        case measure => simp [intOf]
      · go_wp2
        go_ret
        exact ⟨rfl, rfl⟩
    · have := r0 (by omega)
      subst this
      have := r1 (by omega)
      subst this
      have := r2 (by omega)
      subst this
      go_wp2
      go_ret
      exact ⟨rfl, rfl⟩

end Go.Proofs.YtogdbjafibejdaaGreat

/- What references stand for, as plain functions of lists of integers. -/
namespace Go.Proofs.YtogdbjafibejdaaGreat
open Go.RowKit
set_option maxRecDepth 100000
set_option linter.unusedVariables false

/-- The points that the numbers 128 to 159 stand for. -/
def oldPoints : List Int := [8364, 129, 8218, 402, 8222, 8230, 8224, 8225, 710, 8240, 352, 8249, 338, 141, 381, 143, 144, 8216, 8217, 8220, 8221, 8226, 8211, 8212, 732, 8482, 353, 8250, 339, 157, 382, 376]
def refNumber (x : Int) : Int := if x = 0 ∨ pointOk x = false then 65533 else if inB x 128 159 then oldPoints.getD (x - 128).toNat 0 else x

/-- A number of a list, or -1 behind its end. -/
def atL (xs : List Int) (k : Nat) : Int := xs.getD k (-1)
theorem atL_in {xs : List Int} {k : Nat} (h : k < xs.length) : atL xs k = xs.getD k 0 := by simp [atL, List.getD_eq_getElem?_getD, h]
theorem atL_out {xs : List Int} {k : Nat} (h : xs.length ≤ k) : atL xs k = -1 := by simp [atL, List.getD_eq_getElem?_getD, h]

/-- The digits that stand at a list's beginning. -/
def digs (b : Int) : List Int → List Int
  | [] => []
  | c :: cs => if 0 ≤ digitOf c b then digitOf c b :: digs b cs else []

theorem digs_le (b : Int) (l : List Int) : (digs b l).length ≤ l.length := by
  induction l with
  | nil => simp [digs]
  | cons c cs ih => unfold digs; split <;> simp; exact ih
theorem digs_at (b : Int) (l : List Int) (k : Nat) (h : k < (digs b l).length) : (digs b l).getD k 0 = digitOf (l.getD k (-1)) b ∧ 0 ≤ digitOf (l.getD k (-1)) b := by
  induction l generalizing k with
  | nil => simp [digs] at h
  | cons c cs ih =>
    unfold digs at h ⊢
    by_cases hc : 0 ≤ digitOf c b
    · rw [if_pos hc] at h ⊢
      cases k with
      | zero => exact ⟨rfl, hc⟩
      | succ k =>
        have := ih k (by simpa using h)
        simpa using this
    · rw [if_neg hc] at h; simp at h
theorem digitOf_neg (b : Int) : digitOf (-1) b < 0 := by
  unfold digitOf
  rw [inB_no (by omega), inB_no (by omega), inB_no (by omega)]
  split <;> simp
theorem digs_end (b : Int) (l : List Int) : digitOf (l.getD (digs b l).length (-1)) b < 0 := by
  induction l with
  | nil => exact digitOf_neg b
  | cons c cs ih =>
    unfold digs
    by_cases hc : 0 ≤ digitOf c b
    · rw [if_pos hc]; simpa using ih
    · rw [if_neg hc]; simp; omega
theorem digitOf_le (x b : Int) (h : b = 10 ∨ b = 16) : digitOf x b < b := by
  rcases h with rfl | rfl
  · unfold digitOf
    by_cases h : 48 ≤ x ∧ x ≤ 57
    · rw [inB_yes h.1 h.2]; simp; omega
    · rw [inB_no (by omega)]; simp
  · unfold digitOf
    by_cases h : 48 ≤ x ∧ x ≤ 57
    · rw [inB_yes h.1 h.2]; simp; omega
    · rw [inB_no (x := x) (lo := 48) (hi := 57) (by omega)]
      by_cases h : 65 ≤ x ∧ x ≤ 70
      · rw [inB_yes h.1 h.2]; simp; omega
      · rw [inB_no (x := x) (lo := 65) (hi := 70) (by omega)]
        by_cases h : 97 ≤ x ∧ x ≤ 102
        · rw [inB_yes h.1 h.2]; simp; omega
        · rw [inB_no (x := x) (lo := 97) (hi := 102) (by omega)]; simp

/-- One digit more: the value, and how many digits there are behind leading noughts. -/
def digStep (b : Int) (p : Int × Nat) (d : Int) : Int × Nat :=
  let n := if 0 < p.2 ∨ 0 < d then p.2 + 1 else p.2
  (if n ≤ 7 then b * p.1 + d else p.1, n)
def digVal (b : Int) (ds : List Int) : Int × Nat := ds.foldl (digStep b) (0, 0)
theorem digVal_succ (b : Int) (ds : List Int) (k : Nat) (h : k < ds.length) : digVal b (ds.take (k + 1)) = digStep b (digVal b (ds.take k)) (ds.getD k 0) := by
  have hg : ds.getD k 0 = ds[k] := by simp [List.getD_eq_getElem?_getD, h]
  unfold digVal
  rw [List.take_succ_eq_append_getElem h, List.foldl_append, hg]; rfl

/-- The reference by number whose digits stand from 'at' on: its point, and the place behind it; 0: there is none. -/
def refDigits (xs : List Int) (b : Int) (k : Nat) : Int × Int :=
  let ds := digs b (xs.drop k)
  let p := digVal b ds
  if ds = [] then (0, 0) else (refNumber (if 7 < p.2 then 1114112 else p.1), (k + ds.length + (if atL xs (k + ds.length) = 59 then 1 else 0) : Nat))
def refNum (xs : List Int) (k : Nat) : Int × Int :=
  if atL xs k = 120 ∨ atL xs k = 88 then refDigits xs 16 (k + 1) else refDigits xs 10 k

/-- A text stands at a place. -/
def stands (xs : List Int) (k : Nat) (nm : List Int) : Bool := (List.range nm.length).all fun i => atL xs (k + i) == nm.getD i 0

/-- The value stays below 16 to the count of its digits, at most to the seventh. -/
theorem digStep_bound {b : Int} (hb : b = 10 ∨ b = 16) {p : Int × Nat} {d : Int} (d0 : 0 ≤ d) (d1 : d < b) (h0 : 0 ≤ p.1) (h1 : p.1 < 16 ^ (min p.2 7)) :
    0 ≤ (digStep b p d).1 ∧ (digStep b p d).1 < 16 ^ (min (digStep b p d).2 7) := by
  obtain ⟨x, n⟩ := p
  simp only at h0 h1
  unfold digStep
  simp only
  by_cases hz : 0 < n ∨ 0 < d
  · rw [if_pos hz]
    by_cases h7 : n + 1 ≤ 7
    · rw [if_pos h7]
      have e1 : min (n + 1) 7 = n + 1 := by omega
      have e2 : min n 7 = n := by omega
      rw [e1, Int.pow_succ]
      rw [e2] at h1
      generalize (16 : Int) ^ n = q at h1
      rcases hb with rfl | rfl <;> omega
    · rw [if_neg h7]
      have e1 : min (n + 1) 7 = 7 := by omega
      have e2 : min n 7 = 7 := by omega
      rw [e1]
      rw [e2] at h1
      exact ⟨h0, h1⟩
  · rw [if_neg hz]
    have hn : n = 0 := by omega
    have hd : d = 0 := by omega
    subst hn hd
    simp at h1
    have hx : x = 0 := by omega
    subst hx
    simp
theorem digVal_bound {b : Int} (hb : b = 10 ∨ b = 16) (l : List Int) (hl : ∀ d ∈ l, 0 ≤ d ∧ d < b) (p : Int × Nat) (h0 : 0 ≤ p.1) (h1 : p.1 < 16 ^ (min p.2 7)) :
    0 ≤ (l.foldl (digStep b) p).1 ∧ (l.foldl (digStep b) p).1 < 16 ^ (min (l.foldl (digStep b) p).2 7) := by
  induction l generalizing p with
  | nil => exact ⟨h0, h1⟩
  | cons d ds ih =>
    have hd := hl d (List.mem_cons_self ..)
    have hs := digStep_bound hb hd.1 hd.2 h0 h1
    exact ih (fun e he => hl e (List.mem_cons_of_mem _ he)) _ hs.1 hs.2
theorem pow_seven (n : Nat) : (16 : Int) ^ (min n 7) ≤ 268435456 := by
  have h : min n 7 ≤ 7 := by omega
  generalize min n 7 = k at h
  rcases (show k = 0 ∨ k = 1 ∨ k = 2 ∨ k = 3 ∨ k = 4 ∨ k = 5 ∨ k = 6 ∨ k = 7 by omega) with rfl | rfl | rfl | rfl | rfl | rfl | rfl | rfl <;> decide
theorem digs_mem {b : Int} (hb : b = 10 ∨ b = 16) (l : List Int) : ∀ d ∈ digs b l, 0 ≤ d ∧ d < b := by
  induction l with
  | nil => intro d hd; cases hd
  | cons c cs ih =>
    intro d hd
    unfold digs at hd
    by_cases hc : 0 ≤ digitOf c b
    · rw [if_pos hc] at hd
      rcases List.mem_cons.mp hd with rfl | hd
      · exact ⟨hc, digitOf_le c b hb⟩
      · exact ih d hd
    · rw [if_neg hc] at hd; cases hd
theorem digVal_ok {b : Int} (hb : b = 10 ∨ b = 16) (l : List Int) (k : Nat) : 0 ≤ (digVal b ((digs b l).take k)).1 ∧ (digVal b ((digs b l).take k)).1 < 268435456 := by
  have h := digVal_bound hb ((digs b l).take k) (fun d hd => digs_mem hb l d (List.mem_of_mem_take hd)) (0, 0) (Int.le_refl _) (by decide)
  have h7 := pow_seven (((digs b l).take k).foldl (digStep b) (0, 0)).2
  exact ⟨h.1, by have := h.2; unfold digVal; omega⟩
theorem digVal_count {b : Int} (l : List Int) (p : Int × Nat) : (l.foldl (digStep b) p).2 ≤ p.2 + l.length := by
  induction l generalizing p with
  | nil => simp
  | cons d ds ih =>
    have := ih (digStep b p d)
    have h2 : (digStep b p d).2 ≤ p.2 + 1 := by unfold digStep; simp only; split <;> omega
    simp only [List.foldl_cons, List.length_cons]
    omega
theorem digStep_inc {b x d : Int} {n : Nat} (h : 0 < n ∨ 0 < d) (h7 : n + 1 ≤ 7) : digStep b (x, n) d = (b * x + d, n + 1) := by
  unfold digStep; simp only; rw [if_pos h, if_pos h7]
theorem digStep_over {b x d : Int} {n : Nat} (h : 0 < n ∨ 0 < d) (h7 : ¬ n + 1 ≤ 7) : digStep b (x, n) d = (x, n + 1) := by
  unfold digStep; simp only; rw [if_pos h, if_neg h7]
theorem digStep_nought {b x : Int} : digStep b (x, 0) 0 = (b * x + 0, 0) := by
  unfold digStep; simp
end Go.Proofs.YtogdbjafibejdaaGreat

/- Slices of any values, several cells an element, and lists of references as such. No condition. -/
namespace Go.Proofs.YtogdbjafibejdaaGreat
open Go.RowKit
set_option maxRecDepth 100000
set_option linter.unusedVariables false

/-- The slice value v has the cells 'cs', 'size' of them an element. -/
def Sv (size : Nat) (w : World) (v : Value) (cs : List Value) : Prop :=
  ∃ a len cap, v = .slice a len cap ∧ cs.length = len * size ∧ len ≤ cap ∧ cap ≤ maxLen ∧ (a = none → cap = 0) ∧
    ∀ i, i < cs.length → ∃ b off, a = some ⟨b, off, none⟩ ∧ w.cell? ⟨b, off + i, none⟩ = some (cs.getD i undef)

theorem Sv.below {size : Nat} {w w' : World} {v : Value} {cs : List Value} (h : Sv size w v cs) (hb : Below w.heap.size w w') : Sv size w' v cs := by
  obtain ⟨a, len, cap, e, h1, h2, h3, h4, hc⟩ := h
  refine ⟨a, len, cap, e, h1, h2, h3, h4, fun i hi => ?_⟩
  obtain ⟨b, off, e, c⟩ := hc i hi
  refine ⟨b, off, e, ?_⟩
  have hlt : b < w.heap.size := by
    by_cases hlt : b < w.heap.size
    · exact hlt
    · exfalso; simp [World.cell?, Array.getElem?_eq_none (Nat.le_of_not_lt hlt)] at c
  exact (hb.cell (p := ⟨b, off + i, none⟩) hlt).trans c

theorem sv_of_own {B size n : Nat} {e : TypeId} {w : World} {v : Value} {cs : List Value} (h : w.ownsRow B e size v n cs) : Sv size w v cs := by
  have h0 := h
  obtain ⟨hl, ⟨hv, hn⟩ | ⟨g, cap, cur, hv, hB, hh, hn, hm, hz, ht⟩⟩ := h
  · subst hn
    have hc : cs = [] := List.length_eq_zero_iff.mp (by omega)
    subst hc
    exact ⟨none, 0, 0, hv, by simp, Nat.le_refl _, Nat.zero_le _, fun _ => rfl, fun i hi => absurd hi (by simp)⟩
  · refine ⟨some ⟨g, 0, none⟩, n, cap, hv, hl, hn, hm, (fun e => by cases e), fun i hi => ⟨g, 0, rfl, ?_⟩⟩
    have e1 : cur[i]? = some (cs.getD i undef) := by
      have : (cur.toList.take (n * size))[i]? = some (cs.getD i undef) := by rw [ht]; simp [List.getD_eq_getElem?_getD, hi]
      rw [List.getElem?_take] at this
      simpa [show i < n * size by omega] using this
    simp only [World.cell?, hh, Nat.zero_add]
    simpa using e1

theorem ownsRow_below {B : Nat} {e : TypeId} {size n : Nat} {w w' : World} {v : Value} {cs : List Value} (h : w.ownsRow B e size v n cs) (hb : Below w.heap.size w w') : w'.ownsRow B e size v n cs := by
  obtain ⟨hl, hv | ⟨g, cap, cur, hv, hB, hh, r⟩⟩ := h
  · exact ⟨hl, .inl hv⟩
  · exact ⟨hl, .inr ⟨g, cap, cur, hv, hB, by rw [hb.block g (lt_of_block hh)]; exact hh, r⟩⟩

/-- The cells of a list of references. -/
def refCells (rs : List (ByteArray × Int)) : List Value := rs.flatMap fun r => [.string r.1, .int .i64 r.2]
theorem refCells_len (rs : List (ByteArray × Int)) : (refCells rs).length = rs.length * 2 := by
  induction rs with
  | nil => rfl
  | cons r rs ih => simp only [refCells, List.flatMap_cons, List.length_append, List.length_cons, List.length_nil] at ih ⊢; omega
theorem refCells_name (rs : List (ByteArray × Int)) (k : Nat) (h : k < rs.length) : (refCells rs).getD (k * 2) undef = .string rs[k].1 := by
  induction rs generalizing k with
  | nil => simp at h
  | cons r rs ih =>
    cases k with
    | zero => simp [refCells]
    | succ k =>
      have := ih k (by simpa using h)
      have e : (k + 1) * 2 = k * 2 + 1 + 1 := by omega
      simp only [refCells, List.flatMap_cons, List.cons_append, List.nil_append, e, List.getD_cons_succ, List.getElem_cons_succ] at this ⊢
      exact this
theorem refCells_point (rs : List (ByteArray × Int)) (k : Nat) (h : k < rs.length) : (refCells rs).getD (k * 2 + 1) undef = .int .i64 rs[k].2 := by
  induction rs generalizing k with
  | nil => simp at h
  | cons r rs ih =>
    cases k with
    | zero => simp [refCells]
    | succ k =>
      have := ih k (by simpa using h)
      have e : (k + 1) * 2 + 1 = k * 2 + 1 + 1 + 1 := by omega
      simp only [refCells, List.flatMap_cons, List.cons_append, List.nil_append, e, List.getD_cons_succ, List.getElem_cons_succ] at this ⊢
      exact this

/-- The names that stand for points, in the document's order. -/
def refList : List (ByteArray × Int) := [(⟨#[97, 109, 112]⟩, 38), (⟨#[97, 109, 112, 59]⟩, 38), (⟨#[99, 111, 112, 121]⟩, 169), (⟨#[99, 111, 112, 121, 59]⟩, 169), (⟨#[102, 114, 97, 99, 49, 50, 59]⟩, 189), (⟨#[103, 116]⟩, 62), (⟨#[103, 116, 59]⟩, 62), (⟨#[104, 101, 108, 108, 105, 112, 59]⟩, 8230), (⟨#[108, 116]⟩, 60), (⟨#[108, 116, 59]⟩, 60), (⟨#[109, 100, 97, 115, 104, 59]⟩, 8212), (⟨#[110, 98, 115, 112]⟩, 160), (⟨#[110, 98, 115, 112, 59]⟩, 160), (⟨#[110, 111, 116]⟩, 172), (⟨#[110, 111, 116, 59]⟩, 172), (⟨#[110, 111, 116, 105, 110, 59]⟩, 8713), (⟨#[113, 117, 111, 116]⟩, 34), (⟨#[113, 117, 111, 116, 59]⟩, 34), (⟨#[114, 101, 103]⟩, 174), (⟨#[114, 101, 103, 59]⟩, 174), (⟨#[115, 117, 112, 49]⟩, 185), (⟨#[115, 117, 112, 49, 59]⟩, 185), (⟨#[116, 105, 109, 101, 115, 59]⟩, 215), (⟨#[121, 101, 110, 59]⟩, 165)]
theorem refList_len : refList.length = 24 := rfl
theorem refList_size : ∀ r ∈ refList, r.1.size ≤ 7 := by decide

/-- The longest name that stands at a place; the first of them, if any. -/
def best (xs : List Int) (k : Nat) (rs : List (ByteArray × Int)) : ByteArray × Int :=
  rs.foldl (fun b r => if stands xs k (bs r.1) && decide (b.1.size < r.1.size) then r else b) (⟨#[]⟩, 0)
theorem best_succ (xs : List Int) (k : Nat) (rs : List (ByteArray × Int)) (j : Nat) (h : j < rs.length) :
    best xs k (rs.take (j + 1)) = if stands xs k (bs rs[j].1) && decide ((best xs k (rs.take j)).1.size < rs[j].1.size) then rs[j] else best xs k (rs.take j) := by
  unfold best
  rw [List.take_succ_eq_append_getElem h, List.foldl_append]
  rfl
theorem best_size (xs : List Int) (k : Nat) (rs : List (ByteArray × Int)) (h : ∀ r ∈ rs, r.1.size ≤ 7) : (best xs k rs).1.size ≤ 7 := by
  unfold best
  suffices ∀ (b : ByteArray × Int), b.1.size ≤ 7 → (rs.foldl (fun b r => if stands xs k (bs r.1) && decide (b.1.size < r.1.size) then r else b) b).1.size ≤ 7 from this _ (by decide)
  induction rs with
  | nil => intro b hb; exact hb
  | cons r rs ih =>
    intro b hb
    rw [List.foldl_cons]
    refine ih (fun r hr => h r (List.mem_cons_of_mem _ hr)) _ ?_
    split
    · exact h r (List.mem_cons_self ..)
    · exact hb

/-- What stands for the reference at a place, and the place behind it. -/
def refName (xs : List Int) (k : Nat) (value : Bool) : List Int × Int :=
  let r := best xs (k + 1) refList
  let n := r.1.size
  let c := atL xs (k + 1 + n)
  if n = 0 then ([38], (k : Int) + 1) else if value && ((bs r.1).getD (n - 1) 0 != 59) && (c == 61 || (inB c 65 90 || inB c 97 122) || decide (0 ≤ digitOf c 10)) then ([38], (k : Int) + 1) else ([r.2], (k : Int) + 1 + n)
def refRead (xs : List Int) (i : Int) (value : Bool) : List Int × Int :=
  if 3000 < xs.length ∨ inB i 0 (xs.length - 1) = false ∨ xs.getD i.toNat 0 ≠ 38 then ([], i)
  else if atL xs (i.toNat + 1) = 35 then
    let p := refNum xs (i.toNat + 2)
    if 0 < p.2 then ([p.1], p.2) else ([38], i + 1)
  else refName xs i.toNat value
end Go.Proofs.YtogdbjafibejdaaGreat
