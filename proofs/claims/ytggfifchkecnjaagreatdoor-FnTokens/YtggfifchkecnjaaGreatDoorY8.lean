/- The contracts of the draws: a cursor over any bytes gives some number below a bound, and turns nothing but itself. -/
import Derived.Test.YtggfifchkecnjaaGreatDoorY6
import Derived.Test.YtggfifchkecnjaaGreatDoorY3
import Derived.OneCell
namespace Go.Proofs.YtggfifchkecnjaaGreatDoor
open Go.RowKit
set_option maxRecDepth 100000
set_option linter.unusedVariables false

def Cur (w0 : World) (g : Nat) (v : Value) (xs : List Int) (w : World) : Prop :=
  w0.heap.size ≤ g ∧ Sl .u8 w0 v xs ∧ Below w0.heap.size w0 w ∧ xs.length ≤ 1099511627776 ∧ ∃ (i : Nat) (h : Int), i ≤ xs.length ∧ w.heap[g]? = some (.cells #[v, .int .i64 i, .int .i64 h] 57 (0, 0))

theorem Cur.lt {w0 : World} {g : Nat} {v : Value} {xs : List Int} {w : World} (h : Cur w0 g v xs w) : g < w.heap.size := by
  obtain ⟨_, _, _, _, i, k, _, hh⟩ := h
  exact lt_of_block hh
theorem Cur.below {w0 : World} {g : Nat} {v : Value} {xs : List Int} {w w' : World} (h : Cur w0 g v xs w) (hb : Below w.heap.size w w') : Cur w0 g v xs w' := by
  have hlt := h.lt
  obtain ⟨h1, h2, h3, h4, i, k, hi, hh⟩ := h
  exact ⟨h1, h2, h3.trans (hb.mono h3.size), h4, i, k, hi, by rw [hb.block g hlt]; exact hh⟩
theorem Cur.kept {w0 : World} {g : Nat} {v : Value} {xs : List Int} {w w' : World} {row : Option Nat} (h : Cur w0 g v xs w) (hg : w.grownBy w' row) (hne : row ≠ some g) (hr : ∀ k, row = some k → w0.heap.size ≤ k) : Cur w0 g v xs w' := by
  have hlt := h.lt
  obtain ⟨h1, h2, h3, h4, i, k, hi, hh⟩ := h
  exact ⟨h1, h2, h3.grown hg h3.size hr, h4, i, k, hi, by rw [hg.block g hlt (fun e => hne e.symm)]; exact hh⟩

theorem Cur.drewN {w0 : World} {g : Nat} {v : Value} {xs : List Int} {w : World} (h : Cur w0 g v xs w) (n : Nat) : Cur w0 g v xs (w.drewN n) := h.below (below_drewN n)
theorem grown_drewN (w : World) (n : Nat) (row : Option Nat) : w.grownBy (w.drewN n) row := ⟨rfl, rfl, rfl, Nat.le_refl _, fun _ _ _ => rfl⟩
theorem grown_setCell (w : World) (g k : Nat) (u : Value) : w.grownBy (w.setCell ⟨g, k, none⟩ u) (some g) :=
  ⟨rfl, rfl, rfl, by simp [World.setCell], fun j _ hne => Below.heap_setCell w _ u j (fun e => hne (by rw [e]))⟩
theorem three_setCell {w : World} {b k : Nat} {cs : Array Value} {u : Value} {t : TypeId} (h : w.heap[b]? = some (.cells cs t (0, 0))) : (w.setCell ⟨b, k, none⟩ u).heap[b]? = some (.cells (cs.setIfInBounds k u) t (0, 0)) := by
  have hlt := lt_of_block h
  have h' : w.heap[b] = .cells cs t (0, 0) := by simpa [Array.getElem?_eq_getElem hlt] using h
  show (w.heap.modify b _)[b]? = _
  rw [Array.getElem?_eq_getElem (by simpa using hlt), Array.getElem_modify_self, h']
  rfl
theorem Cur.set2 {w0 : World} {g : Nat} {v : Value} {xs : List Int} {w : World} (h : Cur w0 g v xs w) (q : Int) : Cur w0 g v xs (w.setCell ⟨g, 2, none⟩ (.int .i64 q)) := by
  obtain ⟨h1, h2, h3, h4, i, k, hi, hh⟩ := h
  exact ⟨h1, h2, h3.setCell h1 _, h4, i, q, hi, three_setCell hh⟩
theorem Cur.set1 {w0 : World} {g : Nat} {v : Value} {xs : List Int} {w : World} (h : Cur w0 g v xs w) (j : Nat) (hj : j ≤ xs.length) : Cur w0 g v xs (w.setCell ⟨g, 1, none⟩ (.int .i64 j)) := by
  obtain ⟨h1, h2, h3, h4, i, k, hi, hh⟩ := h
  exact ⟨h1, h2, h3.setCell h1 _, h4, j, k, hj, three_setCell hh⟩

theorem mask255 (x : Int) : 0 ≤ bits .and .i64 x 255 ∧ bits .and .i64 x 255 ≤ 255 := by
  have h : ((BitVec.ofInt 64 x) &&& (BitVec.ofInt 64 255)).toNat ≤ 255 := by
    rw [BitVec.toNat_and]; exact Nat.le_trans Nat.and_le_right (by decide)
  have e : bits .and .i64 x 255 = IntKind.i64.wrap (((BitVec.ofInt 64 x) &&& (BitVec.ofInt 64 255)).toNat : Int) := rfl
  rw [e]
  generalize ((BitVec.ofInt 64 x) &&& (BitVec.ofInt 64 255)).toNat = n at h
  have e2 : IntKind.i64.wrap (n : Int) = n := by
    have h1 : (n : Int) % 2 ^ 64 = n := by omega
    simp only [IntKind.wrap, IntKind.bits, h1]
    rw [if_neg]
    simp; omega
  rw [e2]; omega

set_option maxRecDepth 100000 in
theorem new_any {v : Value} {xs : List Int} {w : World} (h : Sl .u8 w v xs) (hb : ∀ x ∈ xs, 0 ≤ x ∧ x ≤ 255) (hn : xs.length ≤ 1099511627776) :
    Calls Tryz.prog 16 #[v] w fun e w' => e = .returned (.pointer (some ⟨w.heap.size, 0, none⟩)) ∧ Cur w w.heap.size v xs w' ∧ Below w.heap.size w w' := by
  have h0 := h
  obtain ⟨a, ca, rfl, _, _, _, ha⟩ := h
  have HB : Hid (∀ x ∈ xs, 0 ≤ x ∧ x ≤ 255) := hb
  clear hb
  have hcur : ∀ q : Int, Cur w w.heap.size (.slice a xs.length ca) xs (w.alloc (.cells #[.slice a xs.length ca, .int .i64 0, .int .i64 q] 57)) := fun q =>
    ⟨Nat.le_refl _, h0, (Below.refl _ _).alloc (Nat.le_refl _) _, hn, 0, q, Nat.zero_le _, heap_alloc_new _ _⟩
  have HCU : Hid (∀ q : Int, Cur w w.heap.size (.slice a xs.length ca) xs (w.alloc (.cells #[.slice a xs.length ca, .int .i64 0, .int .i64 q] 57))) := hcur
  clear hcur
  go_enter Tryz.func16, Tryz.ntmps16
  go_wp2
  go_loop [3, 4] (fun q i => ∃ (k : Nat) (hh : Int), k ≤ xs.length ∧ i = .int .i64 k ∧ q = .int .i64 hh) (fun _ i => xs.length - (intOf i).toNat)
  case atStart => exact ⟨0, _, Nat.zero_le _, rfl, rfl⟩
  case round =>
    obtain ⟨k, hh, hk, rfl, rfl⟩ := hrel
    by_cases hlt : k < xs.length
    · by_cases h4 : k < 4000
      · obtain ⟨b1, o1, rfl, c1⟩ := ha k hlt
        have hx : 0 ≤ xs[k] ∧ xs[k] ≤ 255 := HB.out _ (List.getElem_mem hlt)
        clear ha
        go_wp2
        go_round
        case rel => exact ⟨k + 1, _, by omega, by go_num, rfl⟩
        case measure => simp [intOf]; omega
      · go_wp2
        go_ret
        exact ⟨rfl, HCU.out _, (Below.refl _ _).alloc (Nat.le_refl _) _⟩
    · go_wp2
      go_ret
      exact ⟨rfl, HCU.out _, (Below.refl _ _).alloc (Nat.le_refl _) _⟩

theorem byte_any {w0 : World} {g : Nat} {v : Value} {xs : List Int} {w : World} (h : Cur w0 g v xs w) (hb : ∀ x ∈ xs, 0 ≤ x ∧ x ≤ 255) :
    Calls Tryz.prog 38 #[.pointer (some ⟨g, 0, none⟩)] w fun e w' => ∃ x : Int, e = .returned (.int .i64 x) ∧ 0 ≤ x ∧ x ≤ 255 ∧ Cur w0 g v xs w' ∧ w.grownBy w' (some g) := by
  have h0 := h
  obtain ⟨h1, h2, h3, h4, i, hh, hi, hg⟩ := h
  obtain ⟨a, ca, rfl, hca, hcm, hnn, ha⟩ := h2
  have c0 : w.cell? ⟨g, 0, none⟩ = some (.slice a xs.length ca) := by simp [World.cell?, hg]
  have c1 : w.cell? ⟨g, 1, none⟩ = some (.int .i64 i) := by simp [World.cell?, hg]
  have c2 : w.cell? ⟨g, 2, none⟩ = some (.int .i64 hh) := by simp [World.cell?, hg]
  have f1 : w.frozen? ⟨g, 1, none⟩ = false := by simp [World.frozen?, hg]
  have f2 : w.frozen? ⟨g, 2, none⟩ = false := by simp [World.frozen?, hg]
  have HG : Hid (w.heap[g]? = some (.cells #[.slice a xs.length ca, .int .i64 i, .int .i64 hh] 57 (0, 0))) := hg
  have HB : Hid (∀ x ∈ xs, 0 ≤ x ∧ x ≤ 255) := hb
  have HN : Hid (a = none → ca = 0) := hnn
  clear hg hb hnn
  by_cases hlt : i < xs.length
  · obtain ⟨b1, o1, rfl, e0⟩ := ha i hlt
    have hbl : b1 < w0.heap.size := by
      by_cases hl : b1 < w0.heap.size
      · exact hl
      · exfalso; simp [World.cell?, Array.getElem?_eq_none (Nat.le_of_not_lt hl)] at e0
    have e1 : w.cell? ⟨b1, o1 + i, none⟩ = some (.int .u8 (xs.getD i 0)) := (h3.cell (p := ⟨b1, o1 + i, none⟩) hbl).trans e0
    have hne : b1 ≠ g := by omega
    clear ha e0
    go_enter Tryz.func38, Tryz.ntmps38
    go_wp2
    go_quiet (fail)
    go_wp2
    go_quiet (fail)
    go_wp2
    go_quiet (fail)
    go_wp2
    go_ret
    exact ⟨_, rfl, (mask255 _).1, (mask255 _).2, ((h0.set2 _).drewN _).set1 (i + 1) (by omega), grown_trans (grown_trans (grown_setCell _ _ _ _) (grown_drewN _ _ _)) (grown_setCell _ _ _ _)⟩
  · have hd : decide ((i : Int) < (xs.length : Int)) = false := by simp; omega
    clear ha
    go_enter Tryz.func38, Tryz.ntmps38
    go_wp2
    go_quiet (fail)
    go_wp2
    go_quiet (fail)
    go_wp2
    go_ret
    exact ⟨_, rfl, (mask255 _).1, (mask255 _).2, ((h0.set2 _).drewN _).drewN _, grown_trans (grown_trans (grown_setCell _ _ _ _) (grown_drewN _ _ _)) (grown_drewN _ _ _)⟩

theorem below_any {w0 : World} {g : Nat} {v : Value} {xs : List Int} {w : World} (n : Int) (hn : n ≤ 1099511627776) (h : Cur w0 g v xs w) (hb : ∀ x ∈ xs, 0 ≤ x ∧ x ≤ 255) :
    Calls Tryz.prog 21 #[.pointer (some ⟨g, 0, none⟩), .int .i64 n] w fun e w' => ∃ x : Int, e = .returned (.int .i64 x) ∧ 0 ≤ x ∧ (0 < n → x < n) ∧ (n ≤ 0 → x = 0) ∧ Cur w0 g v xs w' ∧ w.grownBy w' (some g) := by
  have HB : Hid (∀ x ∈ xs, 0 ≤ x ∧ x ≤ 255) := hb
  clear hb
  by_cases h0 : n ≤ 0
  · go_enter Tryz.func21, Tryz.ntmps21
    go_wp2
    go_ret
    exact ⟨_, rfl, by omega, by omega, fun _ => rfl, h, World.grownBy.refl _ _⟩
  · have hp : 0 < n := by omega
    by_cases h2 : n ≤ 256
    · go_enter Tryz.func21, Tryz.ntmps21
      go_wp2_with fail
      go_at_call 38
      refine (byte_any h HB.out).mono ?_
      rintro e w1 ⟨x, rfl, x0, x1, k1, g1⟩
      go_wp2
      go_ret
      exact ⟨_, rfl, Int.emod_nonneg _ (by omega), fun _ => Int.emod_lt_of_pos _ hp, fun h => absurd h (by omega), k1, g1⟩
    · go_enter Tryz.func21, Tryz.ntmps21
      go_wp2_with fail
      go_at_call 38
      refine (byte_any h HB.out).mono ?_
      rintro e w1 ⟨x, rfl, x0, x1, k1, g1⟩
      go_wp2_with fail
      go_at_call 38
      refine (byte_any k1 HB.out).mono ?_
      rintro e w2 ⟨y, rfl, y0, y1, k2, g2⟩
      go_wp2_with fail
      go_at_call 38
      refine (byte_any k2 HB.out).mono ?_
      rintro e w3 ⟨z, rfl, z0, z1, k3, g3⟩
      go_wp2_with fail
      go_at_call 38
      refine (byte_any k3 HB.out).mono ?_
      rintro e w4 ⟨u, rfl, u0, u1, k4, g4⟩
      go_wp2
      go_ret
      exact ⟨_, rfl, Int.emod_nonneg _ (by omega), fun _ => Int.emod_lt_of_pos _ hp, fun h => absurd h (by omega), k4, grown_trans (grown_trans (grown_trans g1 g2) g3) g4⟩

theorem once_any {w0 : World} {g : Nat} {v : Value} {xs : List Int} {w : World} (n : Int) (hn : n ≤ 1099511627776) (h : Cur w0 g v xs w) (hb : ∀ x ∈ xs, 0 ≤ x ∧ x ≤ 255) :
    Calls Tryz.prog 20 #[.pointer (some ⟨g, 0, none⟩), .int .i64 n] w fun e w' => ∃ b : Bool, e = .returned (.bool b) ∧ Cur w0 g v xs w' ∧ w.grownBy w' (some g) := by
  go_enter Tryz.func20, Tryz.ntmps20
  go_wp2_with fail
  go_at_call 21
  refine (below_any n hn h hb).mono ?_
  rintro e w1 ⟨x, rfl, x0, x1, x2, k1, g1⟩
  clear x1 x2
  go_wp2
  go_ret
  exact ⟨_, rfl, k1, g1⟩

end Go.Proofs.YtggfifchkecnjaaGreatDoor

/- Contracts of the specification's functions of chapter 2 on one number. No condition. -/
namespace Go.Proofs.YtggfifchkecnjaaGreatDoor
open Go.RowKit
set_option maxRecDepth 100000
set_option linter.unusedVariables false

theorem sblank_any (x : Int) (w : World) : Calls Tryz.prog 85 #[.int .i64 x] w fun e w' => e = .returned (.bool (isBlank x)) ∧ w' = w := by
  go_enter Tryz.func85, Tryz.ntmps85
  go_wp2
  all_goals
    go_ret
    exact ⟨ret_bool (by unfold isBlank; simp_all), rfl⟩

theorem salpha_any (x : Int) (w : World) : Calls Tryz.prog 50 #[.int .i64 x] w fun e w' => e = .returned (.bool (inB x 65 90 || inB x 97 122)) ∧ w' = w := by
  have c0 := fun w => l1In_any x 65 90 w
  have c1 := fun w => l1In_any x 97 122 w
  obtain ⟨p0, e0⟩ : ∃ p, p = inB x 65 90 := ⟨_, rfl⟩
  obtain ⟨p1, e1⟩ : ∃ p, p = inB x 97 122 := ⟨_, rfl⟩
  rw [← e0] at c0 ⊢
  rw [← e1] at c1 ⊢
  clear e0 e1
  cases p0
  · go_enter Tryz.func50, Tryz.ntmps50
    go_wp2_with fail
    go_at_call 42
    refine (c0 _).mono ?_
    rintro e w1 ⟨rfl, rfl⟩
    go_wp2_with fail
    go_at_call 42
    refine (c1 _).mono ?_
    rintro e w1 ⟨rfl, rfl⟩
    go_wp2
    go_ret
    exact ⟨rfl, rfl⟩
  · go_enter Tryz.func50, Tryz.ntmps50
    go_wp2_with fail
    go_at_call 42
    refine (c0 _).mono ?_
    rintro e w1 ⟨rfl, rfl⟩
    go_wp2
    go_ret
    exact ⟨rfl, rfl⟩

theorem slower_any (x : Int) (w : World) : Calls Tryz.prog 84 #[.int .i64 x] w fun e w' => e = .returned (.int .i64 (lowerOf x)) ∧ w' = w := by
  have c := fun w => l1In_any x 65 90 w
  by_cases h : 65 ≤ x ∧ x ≤ 90
  · have hl : lowerOf x = x + 32 := by unfold lowerOf; rw [inB_yes h.1 h.2]; rfl
    rw [inB_yes h.1 h.2] at c
    rw [hl]
    obtain ⟨h0, h1⟩ := h
    clear hl
    go_enter Tryz.func84, Tryz.ntmps84
    go_wp2_with fail
    go_at_call 42
    refine (c _).mono ?_
    rintro e w1 ⟨rfl, rfl⟩
    go_wp2
    go_ret
    exact ⟨rfl, rfl⟩
  · have hn := inB_no (x := x) (lo := 65) (hi := 90) (by omega)
    have hl : lowerOf x = x := by unfold lowerOf; rw [hn]; rfl
    rw [hn] at c
    rw [hl]
    clear hl h hn
    go_enter Tryz.func84, Tryz.ntmps84
    go_wp2_with fail
    go_at_call 42
    refine (c _).mono ?_
    rintro e w1 ⟨rfl, rfl⟩
    go_wp2
    go_ret
    exact ⟨rfl, rfl⟩
end Go.Proofs.YtggfifchkecnjaaGreatDoor

/- Contracts of DigitOf, the program's, and of the specification's functions of chapter 2 on one number. No condition. -/
namespace Go.Proofs.YtggfifchkecnjaaGreatDoor
open Go.RowKit
set_option maxRecDepth 100000
set_option linter.unusedVariables false

theorem digitOf_none {x b : Int} (h : b ≠ 10 ∧ b ≠ 16) : digitOf x b = -1 := by unfold digitOf; rw [if_pos h]
theorem digitOf_ten {x : Int} : digitOf x 10 = if inB x 48 57 then x - 48 else -1 := by unfold digitOf; simp
theorem digitOf_hex {x : Int} : digitOf x 16 = if inB x 48 57 then x - 48 else if inB x 65 70 then x - 55 else if inB x 97 102 then x - 87 else -1 := by unfold digitOf; simp

theorem idigit_none (x b : Int) (w : World) (h10 : b ≠ 10) (h16 : b ≠ 16) : Calls Tryz.prog 150 #[.int .i64 x, .int .i64 b] w fun e w' => e = .returned (.int .i64 (digitOf x b)) ∧ Below w.heap.size w w' := by
  rw [digitOf_none ⟨h10, h16⟩]
  have e10 : (b != 10) = true := by simpa using h10
  have e16 : (b != 16) = true := by simpa using h16
  go_enter Tryz.func150, Tryz.ntmps150
  go_wp2
  go_ret
  exact ⟨rfl, Below.refl _ _⟩

set_option maxHeartbeats 2000000 in
set_option maxRecDepth 100000 in
theorem idigit_ten (x : Int) (w : World) : Calls Tryz.prog 150 #[.int .i64 x, .int .i64 10] w fun e w' => e = .returned (.int .i64 (digitOf x 10)) ∧ Below w.heap.size w w' := by
  rw [digitOf_ten]
  have c0 := fun w => k4_any x w
  by_cases h : 48 ≤ x ∧ x ≤ 57
  · rw [inB_yes h.1 h.2] at c0 ⊢
    obtain ⟨h0, h1⟩ := h
    go_enter Tryz.func150, Tryz.ntmps150
    go_wp2_with fail
    go_at_call 55
    refine (pointKinds_any _).mono ?_
    rintro e w1 ⟨rfl, b1⟩
    go_wp2_with fail
    go_at_call 101
    refine (c0 _).mono ?_
    rintro e w2 ⟨rfl, rfl⟩
    go_wp2
    go_ret
    exact ⟨ret_int (by first | omega | (simp; done) | (simp; omega)), b1.alloc b1.size _⟩
  · rw [inB_no (by omega)] at c0 ⊢
    clear h
    go_enter Tryz.func150, Tryz.ntmps150
    go_wp2_with fail
    go_at_call 55
    refine (pointKinds_any _).mono ?_
    rintro e w1 ⟨rfl, b1⟩
    go_wp2_with fail
    go_at_call 101
    refine (c0 _).mono ?_
    rintro e w2 ⟨rfl, rfl⟩
    go_wp2
    go_ret
    exact ⟨rfl, b1.alloc b1.size _⟩

set_option maxHeartbeats 2000000 in
set_option maxRecDepth 100000 in
theorem idigit_hex (x : Int) (w : World) : Calls Tryz.prog 150 #[.int .i64 x, .int .i64 16] w fun e w' => e = .returned (.int .i64 (digitOf x 16)) ∧ Below w.heap.size w w' := by
  rw [digitOf_hex]
  have c0 := fun w => k4_any x w
  have c1 := fun w => k5_any x w
  have c2 := fun w => k6_any x w
  rcases (show (48 ≤ x ∧ x ≤ 57) ∨ (65 ≤ x ∧ x ≤ 70) ∨ (97 ≤ x ∧ x ≤ 102) ∨ ((x < 48 ∨ 57 < x) ∧ (x < 65 ∨ 70 < x) ∧ (x < 97 ∨ 102 < x)) by omega) with h | h | h | h
  · rw [inB_yes h.1 h.2] at c0 ⊢
    obtain ⟨h0, h1⟩ := h
    go_enter Tryz.func150, Tryz.ntmps150
    go_wp2_with fail
    go_at_call 55
    refine (pointKinds_any _).mono ?_
    rintro e w1 ⟨rfl, b1⟩
    go_wp2_with fail
    go_at_call 101
    refine (c0 _).mono ?_
    rintro e w2 ⟨rfl, rfl⟩
    go_wp2
    go_ret
    exact ⟨ret_int (by first | omega | (simp; done) | (simp; omega)), b1.alloc b1.size _⟩
  · rw [inB_no (by omega)] at c0 ⊢
    rw [inB_yes h.1 h.2] at c1 ⊢
    obtain ⟨h0, h1⟩ := h
    go_enter Tryz.func150, Tryz.ntmps150
    go_wp2_with fail
    go_at_call 55
    refine (pointKinds_any _).mono ?_
    rintro e w1 ⟨rfl, b1⟩
    go_wp2_with fail
    go_at_call 101
    refine (c0 _).mono ?_
    rintro e w2 ⟨rfl, rfl⟩
    go_wp2_with fail
    go_at_call 102
    refine (c1 _).mono ?_
    rintro e w2 ⟨rfl, rfl⟩
    go_wp2
    go_ret
    exact ⟨ret_int (by first | omega | (simp; done) | (simp; omega)), b1.alloc b1.size _⟩
  · have n0 := inB_no (x := x) (lo := 48) (hi := 57) (by omega)
    have n1 := inB_no (x := x) (lo := 65) (hi := 70) (by omega)
    rw [n0] at c0 ⊢
    rw [n1] at c1 ⊢
    clear n0 n1
    rw [inB_yes h.1 h.2] at c2 ⊢
    obtain ⟨h0, h1⟩ := h
    go_enter Tryz.func150, Tryz.ntmps150
    go_wp2_with fail
    go_at_call 55
    refine (pointKinds_any _).mono ?_
    rintro e w1 ⟨rfl, b1⟩
    go_wp2_with fail
    go_at_call 101
    refine (c0 _).mono ?_
    rintro e w2 ⟨rfl, rfl⟩
    go_wp2_with fail
    go_at_call 102
    refine (c1 _).mono ?_
    rintro e w2 ⟨rfl, rfl⟩
    go_wp2_with fail
    go_at_call 103
    refine (c2 _).mono ?_
    rintro e w2 ⟨rfl, rfl⟩
    go_wp2
    go_ret
    exact ⟨ret_int (by first | omega | (simp; done) | (simp; omega)), b1.alloc b1.size _⟩
  · obtain ⟨h0, h1, h2⟩ := h
    rw [inB_no h0] at c0 ⊢
    rw [inB_no h1] at c1 ⊢
    rw [inB_no h2] at c2 ⊢
    clear h0 h1 h2
    go_enter Tryz.func150, Tryz.ntmps150
    go_wp2_with fail
    go_at_call 55
    refine (pointKinds_any _).mono ?_
    rintro e w1 ⟨rfl, b1⟩
    go_wp2_with fail
    go_at_call 101
    refine (c0 _).mono ?_
    rintro e w2 ⟨rfl, rfl⟩
    go_wp2_with fail
    go_at_call 102
    refine (c1 _).mono ?_
    rintro e w2 ⟨rfl, rfl⟩
    go_wp2_with fail
    go_at_call 103
    refine (c2 _).mono ?_
    rintro e w2 ⟨rfl, rfl⟩
    go_wp2
    go_ret
    exact ⟨rfl, b1.alloc b1.size _⟩

theorem idigit_any (x b : Int) (w : World) : Calls Tryz.prog 150 #[.int .i64 x, .int .i64 b] w fun e w' => e = .returned (.int .i64 (digitOf x b)) ∧ Below w.heap.size w w' := by
  by_cases h10 : b = 10
  · subst h10; exact idigit_ten x w
  by_cases h16 : b = 16
  · subst h16; exact idigit_hex x w
  exact idigit_none x b w h10 h16
end Go.Proofs.YtggfifchkecnjaaGreatDoor
