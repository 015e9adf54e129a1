/- Bytes as digits, plainly; the specification's HexText. No condition. -/
import Derived.Test.YteddljmekpnojaaDoorU8
import Derived.Test.YteddljmekpnojaaDoorU12
import Derived.RangeFuncRecord
import Derived.Test.YteddljmekpnojaaDoorU0
import Derived.Test.YteddljmekpnojaaDoorU9
namespace Go.Proofs.YteddljmekpnojaaDoor
open Go.RowKit
set_option maxRecDepth 100000
set_option linter.unusedVariables false

def hexD (k : Int) : Int := if k < 10 then 48 + k else 87 + k
def hexL (xs : List Int) : List Int := xs.flatMap fun b => [hexD (b / 16), hexD (b % 16)]
def hexS (s : ByteArray) : ByteArray := if 3000 < s.size then ⟨#[]⟩ else strOf (hexL (bs s))

theorem and_i64_nat20 (a b : Nat) (ha : a < 9223372036854775808) (hb : b < 9223372036854775808) : bits .and .i64 (a : Int) (b : Int) = ((a &&& b : Nat) : Int) := by
  have hx : a &&& b < 2 ^ 63 := Nat.and_lt_two_pow _ (by omega)
  have h1 : (BitVec.ofInt 64 (a : Int)).toNat = a := by
    rw [BitVec.ofInt_natCast, BitVec.toNat_ofNat]; exact Nat.mod_eq_of_lt (by omega)
  have h2 : (BitVec.ofInt 64 (b : Int)).toNat = b := by
    rw [BitVec.ofInt_natCast, BitVec.toNat_ofNat]; exact Nat.mod_eq_of_lt (by omega)
  show IntKind.i64.wrap ((BitVec.ofInt 64 (a : Int) &&& BitVec.ofInt 64 (b : Int)).toNat : Int) = _
  rw [BitVec.toNat_and, h1, h2, IntKind.wrap_i64]
  omega
theorem and_15 {x : Int} (h0 : 0 ≤ x) (h1 : x ≤ 255) : bits BinOp.and IntKind.i64 x 15 = x % 16 := by
  obtain ⟨n, rfl⟩ : ∃ n : Nat, x = n := ⟨x.toNat, by omega⟩
  have := and_i64_nat20 n 15 (by omega) (by decide)
  rw [show ((15 : Nat) : Int) = 15 from rfl] at this
  rw [this, show (15 : Nat) = 2 ^ 4 - 1 from rfl, Nat.and_two_pow_sub_one_eq_mod]
  rfl
theorem digit_at (k : Nat) (hk : k < 16) : ((⟨#[48, 49, 50, 51, 52, 53, 54, 55, 56, 57, 97, 98, 99, 100, 101, 102]⟩ : ByteArray)[k]'hk).toNat = (hexD (k : Int)).toNat := by
  match k, hk with
  | 0, _ => rfl
  | 1, _ => rfl
  | 2, _ => rfl
  | 3, _ => rfl
  | 4, _ => rfl
  | 5, _ => rfl
  | 6, _ => rfl
  | 7, _ => rfl
  | 8, _ => rfl
  | 9, _ => rfl
  | 10, _ => rfl
  | 11, _ => rfl
  | 12, _ => rfl
  | 13, _ => rfl
  | 14, _ => rfl
  | 15, _ => rfl
  | n + 16, h => exact absurd (show n + 16 < 16 from h) (by omega)
theorem hexD_in {k : Int} (h0 : 0 ≤ k) (h1 : k < 16) : 48 ≤ hexD k ∧ hexD k ≤ 102 := by
  unfold hexD
  split <;> omega

set_option maxRecDepth 100000 in
theorem l20Digit_any (x : Int) (w : World) (h0 : 0 ≤ x) (h1 : x ≤ 255) : Calls Tryd.prog 27 #[.int .i64 x] w fun e w' => e = .returned (.int .u8 (hexD (x % 16))) ∧ w' = w := by
  have ha := and_15 h0 h1
  obtain ⟨k, hk, hlt⟩ : ∃ k : Nat, x % 16 = k ∧ k < 16 := ⟨(x % 16).toNat, by omega, by omega⟩
  rw [hk] at ha ⊢
  have hd := digit_at k hlt
  have hi := hexD_in (k := k) (by omega) (by omega)
  have he : (((⟨#[48, 49, 50, 51, 52, 53, 54, 55, 56, 57, 97, 98, 99, 100, 101, 102]⟩ : ByteArray)[k]'hlt).toNat : Int) = hexD k := by rw [hd]; omega
  clear hd
  go_enter Tryd.func27, Tryd.ntmps27
  go_wp2
  go_ret
  exact ⟨by rw [← he]; rfl, rfl⟩
theorem hexL_take {xs : List Int} {k : Nat} (h : k < xs.length) : hexL (xs.take k) ++ [hexD (xs.getD k 0 / 16), hexD (xs.getD k 0 % 16)] = hexL (xs.take (k + 1)) := by
  have e : xs[k]? = some (xs.getD k 0) := by simp [h]
  unfold hexL
  rw [List.take_add_one, e, List.flatMap_append]
  simp
theorem hexL_len (xs : List Int) : (hexL xs).length = 2 * xs.length := by
  induction xs with
  | nil => rfl
  | cons x xs ih =>
    have : hexL (x :: xs) = hexD (x / 16) :: hexD (x % 16) :: hexL xs := rfl
    rw [this]
    simp only [List.length_cons, ih]
    omega
theorem two_sv {w : World} {g : Nat} {a b : Value} {t : TypeId} (h : w.heap[g]? = some (.cells #[a, b] t (0, 0))) : Sv 1 w (.slice (some ⟨g, 0, none⟩) 2 2) [a, b] := by
  refine ⟨some ⟨g, 0, none⟩, 2, 2, rfl, rfl, Nat.le_refl _, by unfold maxLen; omega, (fun e => by cases e), fun i hi => ⟨g, 0, rfl, ?_⟩⟩
  have hi' : i < 2 := hi
  simp only [World.cell?, Nat.zero_add, h]
  match i, hi' with
  | 0, _ => rfl
  | 1, _ => rfl
theorem two_bytes (w : World) (a b : Int) : Sl .u8 (w.alloc (.cells #[.int .u8 a, .int .u8 b] 5)) (.slice (some ⟨w.heap.size, 0, none⟩) 2 2) [a, b] :=
  Own.sl (World.ownsRow_lit w #[.int .u8 a, .int .u8 b] 2 (Nat.le_refl _) (by unfold maxLen; omega) rfl : Own w.heap.size 5 .u8 _ _ [a, b])
end Go.Proofs.YteddljmekpnojaaDoor

/- The specification's HexText. No condition. -/
namespace Go.Proofs.YteddljmekpnojaaDoor
open Go.RowKit
set_option maxRecDepth 100000
set_option linter.unusedVariables false

set_option maxHeartbeats 2000000 in
set_option maxRecDepth 100000 in
theorem shexText_any (s : ByteArray) (w : World) (hs : s.size ≤ 1099511627776) : Calls Tryd.prog 20 #[.string s] w fun e w' => e = .returned (.string (hexS s)) ∧ Below w.heap.size w w' := by
  have hl := bs_len s
  obtain ⟨i0, hi, hz0, hz1, hz2⟩ := info_parts Tryd.infoB
  have o1 := own_empty 5 .u8 w
  have ba : Below w.heap.size w (w.alloc (.cells #[] 5)) := (Below.refl _ _).alloc (Nat.le_refl _) _
  by_cases hb : 3000 < s.size
  · have hq : hexS s = ⟨#[]⟩ := by rw [hexS, if_pos hb]
    go_enter Tryd.func20, Tryd.ntmps20
    go_wp2
    go_ret
    exact ⟨by rw [hq]; rfl, ba⟩
  · have HQ := (show Hid (hexS s = strOf (hexL (bs s))) from (show _ = _ by rw [hexS, if_neg hb]))
    go_enter Tryd.func20, Tryd.ntmps20
    go_wp2
    go_loopw [3, 4] (fun u i wr => ∃ k : Nat, k ≤ s.size ∧ i = .int .i64 k ∧ Own w.heap.size 5 .u8 wr u (hexL ((bs s).take k)) ∧ Below w.heap.size w wr) (fun _ i _ => s.size - (intOf i).toNat)
    case atStart => exact ⟨0, Nat.zero_le _, rfl, by simpa [hexL] using o1, ba⟩
    case round =>
      clear o1 ba
      obtain ⟨k, hks, rfl, own, bel⟩ := hrel
      by_cases hlt : k < s.size
      · have hat := bs_at s k hlt
        have hbk := bs_bound s k
        have hm := hexL_take (xs := bs s) (k := k) (by omega)
        obtain ⟨y, hy⟩ : ∃ y, y = (bs s).getD k 0 := ⟨_, rfl⟩
        rw [← hy] at hat hbk hm
        have hkl := hexL_len ((bs s).take k)
        rw [List.length_take] at hkl
        obtain ⟨zs, hzs⟩ : ∃ zs, zs = hexL ((bs s).take k) := ⟨_, rfl⟩
        rw [← hzs] at own hkl hm
        have HM := (show Hid (zs ++ [hexD (y / 16), hexD (y % 16)] = hexL ((bs s).take (k + 1))) from hm)
        have OW := (show Hid (Own w.heap.size 5 .u8 wr _ zs) from own)
        have BL := (show Hid (Below w.heap.size w wr) from bel)
        have c2 : y / 16 % 16 = y / 16 := by omega
        have d1 := fun W => l20Digit_any (y / 16) W (by omega) (by omega)
        have d2 := fun W => l20Digit_any y W (by omega) (by omega)
        rw [c2] at d1
        obtain ⟨ha1, ha2⟩ := hexD_in (k := y / 16) (by omega) (by omega)
        obtain ⟨hb1, hb2⟩ := hexD_in (k := y % 16) (by omega) (by omega)
        obtain ⟨za, hza⟩ : ∃ z, z = hexD (y / 16) := ⟨_, rfl⟩
        obtain ⟨zb, hzb⟩ : ∃ z, z = hexD (y % 16) := ⟨_, rfl⟩
        rw [← hza, ← hzb] at HM
        rw [← hza] at ha1 ha2 d1
        rw [← hzb] at hb1 hb2 d2
        have C1 := (show Hid (∀ W, Calls Tryd.prog 27 #[.int .i64 (y / 16)] W fun e w' => e = .returned (.int .u8 za) ∧ w' = W) from d1)
        have C2 := (show Hid (∀ W, Calls Tryd.prog 27 #[.int .i64 y] W fun e w' => e = .returned (.int .u8 zb) ∧ w' = W) from d2)
        have OX := (show Hid (Own w.heap.size 5 .u8 (wr.alloc (.cells #[.int .u8 za, .int .u8 zb] 5)).drew _ zs) from Own.below (own.alloc _) (below_drewN 1))
        have BX := (show Hid (Below w.heap.size w (wr.alloc (.cells #[.int .u8 za, .int .u8 zb] 5)).drew) from (bel.alloc bel.size _).trans (below_drewN 1))
        have SX := (show Hid (Sv 1 (wr.alloc (.cells #[.int .u8 za, .int .u8 zb] 5)).drew (.slice (some ⟨wr.heap.size, 0, none⟩) 2 2) [.int .u8 za, .int .u8 zb]) from (two_sv (World.alloc_heap_new wr _)).below (below_drewN 1))
        have hw1 : IntKind.i64.wrap y = y := by rw [IntKind.wrap_i64]; omega
        have hw2 : IntKind.i64.wrap (y.tdiv 16) = y / 16 := by rw [Int.tdiv_eq_ediv_of_nonneg (by omega), IntKind.wrap_i64]; omega
        have hsz := bel.size
        clear hza hzb hy hzs hm own bel c2 d1 d2
        go_wp2_with fail
        go_region_law (first
          | (with_reducible refine step_appS (w := (wr.alloc (Obj.cells #[.int .u8 za, .int .u8 zb] 5)).drew) ?_ (.tmp 15) (.tmp 27) 22 ?_ w.heap.size 5 i0 _ 1 1 ?_ hi hz0 hz1 hz2 ?_ ?_ u3 zs.length (zs.map (Value.int .u8)) ?_ ?_ (.slice (some ⟨wr.heap.size, 0, none⟩) 2 2) 2 [.int .u8 za, .int .u8 zb] ?_ ?_ ?_ ?_ ?_ ?_ ?_ ?_
             · rfl
             · rfl
             · exact Tryd.underlying22
             · rfl
             · decide
             · simp [Act.eval]
             · exact OX.out
             · simp [Act.eval]
             · exact SX.out
             · rfl
             · simp [Value.oneCell']
             · (unfold maxLen; omega)
             · omega
             · exact BX.out.size
             intro v9 w9 o9 g9)
          | (go_simp
             refine Calls.mono (C1.out _) ?_
             rintro e w' ⟨rfl, ew⟩
             rw [ew]
             clear ew)
          | (go_simp
             refine Calls.mono (C2.out _) ?_
             rintro e w' ⟨rfl, ew⟩
             rw [ew]
             clear ew))
        all_goals go_wp2
        all_goals go_roundw
        all_goals first
          | exact ⟨k + 1, by omega, by go_num, by rw [← HM.out]; show World.ownsRow _ _ _ _ _ _ _; rw [List.length_append, List.map_append]; exact o9, BX.out.grown g9 BX.out.size OX.out.grownAt⟩
          | (simp [intOf]; omega)
      · have hke : k = s.size := by omega
        subst hke
        have ht : (bs s).take s.size = bs s := by rw [← hl]; exact List.take_length
        rw [ht] at own
        have hcv := conv_sl own.sl
        go_wp2
        go_ret
        exact ⟨by rw [HQ.out]; rfl, bel⟩
end Go.Proofs.YteddljmekpnojaaDoor

/- Contracts of DigitOf, the program's, and of the specification's functions of chapter 2 on one number. No condition. -/
namespace Go.Proofs.YteddljmekpnojaaDoor
open Go.RowKit
set_option maxRecDepth 100000
set_option linter.unusedVariables false

theorem digitOf_none {x b : Int} (h : b ≠ 10 ∧ b ≠ 16) : digitOf x b = -1 := by unfold digitOf; rw [if_pos h]
theorem digitOf_ten {x : Int} : digitOf x 10 = if inB x 48 57 then x - 48 else -1 := by unfold digitOf; simp
theorem digitOf_hex {x : Int} : digitOf x 16 = if inB x 48 57 then x - 48 else if inB x 65 70 then x - 55 else if inB x 97 102 then x - 87 else -1 := by unfold digitOf; simp

end Go.Proofs.YteddljmekpnojaaDoor

/- Contracts of the specification's DigitOf. No condition. -/
namespace Go.Proofs.YteddljmekpnojaaDoor
open Go.RowKit
set_option maxRecDepth 100000
set_option linter.unusedVariables false

theorem sdigit_none (x b : Int) (w : World) (h10 : b ≠ 10) (h16 : b ≠ 16) : Calls Tryd.prog 28 #[.int .i64 x, .int .i64 b] w fun e w' => e = .returned (.int .i64 (digitOf x b)) ∧ w' = w := by
  rw [digitOf_none ⟨h10, h16⟩]
  have e10 : (b != 10) = true := by simpa using h10
  have e16 : (b != 16) = true := by simpa using h16
  go_enter Tryd.func28, Tryd.ntmps28
  go_wp2
  go_ret
  exact ⟨rfl, rfl⟩

set_option maxHeartbeats 2000000 in
set_option maxRecDepth 100000 in
theorem sdigit_ten (x : Int) (w : World) : Calls Tryd.prog 28 #[.int .i64 x, .int .i64 10] w fun e w' => e = .returned (.int .i64 (digitOf x 10)) ∧ w' = w := by
  rw [digitOf_ten]
  have c0 := fun w => l1In_any x 48 57 w
  by_cases h : 48 ≤ x ∧ x ≤ 57
  · rw [inB_yes h.1 h.2] at c0 ⊢
    obtain ⟨h0, h1⟩ := h
    go_enter Tryd.func28, Tryd.ntmps28
    go_wp2_with fail
    go_at_call 31
    refine (c0 _).mono ?_
    rintro e w2 ⟨rfl, rfl⟩
    go_wp2
    go_ret
    exact ⟨ret_int (by first | omega | (simp; done) | (simp; omega)), rfl⟩
  · rw [inB_no (by omega)] at c0 ⊢
    clear h
    go_enter Tryd.func28, Tryd.ntmps28
    go_wp2_with fail
    go_at_call 31
    refine (c0 _).mono ?_
    rintro e w2 ⟨rfl, rfl⟩
    go_wp2
    go_ret
    exact ⟨rfl, rfl⟩

set_option maxHeartbeats 2000000 in
set_option maxRecDepth 100000 in
theorem sdigit_hex (x : Int) (w : World) : Calls Tryd.prog 28 #[.int .i64 x, .int .i64 16] w fun e w' => e = .returned (.int .i64 (digitOf x 16)) ∧ w' = w := by
  rw [digitOf_hex]
  have c0 := fun w => l1In_any x 48 57 w
  have c1 := fun w => l1In_any x 65 70 w
  have c2 := fun w => l1In_any x 97 102 w
  rcases (show (48 ≤ x ∧ x ≤ 57) ∨ (65 ≤ x ∧ x ≤ 70) ∨ (97 ≤ x ∧ x ≤ 102) ∨ ((x < 48 ∨ 57 < x) ∧ (x < 65 ∨ 70 < x) ∧ (x < 97 ∨ 102 < x)) by omega) with h | h | h | h
  · rw [inB_yes h.1 h.2] at c0 ⊢
    obtain ⟨h0, h1⟩ := h
    go_enter Tryd.func28, Tryd.ntmps28
    go_wp2_with fail
    go_at_call 31
    refine (c0 _).mono ?_
    rintro e w2 ⟨rfl, rfl⟩
    go_wp2
    go_ret
    exact ⟨ret_int (by first | omega | (simp; done) | (simp; omega)), rfl⟩
  · rw [inB_no (by omega)] at c0 ⊢
    rw [inB_yes h.1 h.2] at c1 ⊢
    obtain ⟨h0, h1⟩ := h
    go_enter Tryd.func28, Tryd.ntmps28
    go_wp2_with fail
    go_at_call 31
    refine (c0 _).mono ?_
    rintro e w2 ⟨rfl, rfl⟩
    go_wp2_with fail
    go_at_call 31
    refine (c1 _).mono ?_
    rintro e w2 ⟨rfl, rfl⟩
    go_wp2
    go_ret
    exact ⟨ret_int (by first | omega | (simp; done) | (simp; omega)), rfl⟩
  · have n0 := inB_no (x := x) (lo := 48) (hi := 57) (by omega)
    have n1 := inB_no (x := x) (lo := 65) (hi := 70) (by omega)
    rw [n0] at c0 ⊢
    rw [n1] at c1 ⊢
    clear n0 n1
    rw [inB_yes h.1 h.2] at c2 ⊢
    obtain ⟨h0, h1⟩ := h
    go_enter Tryd.func28, Tryd.ntmps28
    go_wp2_with fail
    go_at_call 31
    refine (c0 _).mono ?_
    rintro e w2 ⟨rfl, rfl⟩
    go_wp2_with fail
    go_at_call 31
    refine (c1 _).mono ?_
    rintro e w2 ⟨rfl, rfl⟩
    go_wp2_with fail
    go_at_call 31
    refine (c2 _).mono ?_
    rintro e w2 ⟨rfl, rfl⟩
    go_wp2
    go_ret
    exact ⟨ret_int (by first | omega | (simp; done) | (simp; omega)), rfl⟩
  · obtain ⟨h0, h1, h2⟩ := h
    rw [inB_no h0] at c0 ⊢
    rw [inB_no h1] at c1 ⊢
    rw [inB_no h2] at c2 ⊢
    clear h0 h1 h2
    go_enter Tryd.func28, Tryd.ntmps28
    go_wp2_with fail
    go_at_call 31
    refine (c0 _).mono ?_
    rintro e w2 ⟨rfl, rfl⟩
    go_wp2_with fail
    go_at_call 31
    refine (c1 _).mono ?_
    rintro e w2 ⟨rfl, rfl⟩
    go_wp2_with fail
    go_at_call 31
    refine (c2 _).mono ?_
    rintro e w2 ⟨rfl, rfl⟩
    go_wp2
    go_ret
    exact ⟨rfl, rfl⟩

theorem sdigit_any (x b : Int) (w : World) : Calls Tryd.prog 28 #[.int .i64 x, .int .i64 b] w fun e w' => e = .returned (.int .i64 (digitOf x b)) ∧ w' = w := by
  by_cases h10 : b = 10
  · subst h10; exact sdigit_ten x w
  by_cases h16 : b = 16
  · subst h16; exact sdigit_hex x w
  exact sdigit_none x b w h10 h16
end Go.Proofs.YteddljmekpnojaaDoor
