/- The specification's GetNum, at every list of bytes. -/
import Derived.Test.YtogdbjafibejdaaGreatRows
import Derived.Test.YtogdbjafibejdaaGreatY2
import Derived.Test.YtogdbjafibejdaaGreatY4
import Derived.OwnWalk
import Derived.Test.YtogdbjafibejdaaGreatY3
import Derived.Test.YtogdbjafibejdaaGreatY1
import Derived.Test.YtogdbjafibejdaaGreatY0
import Derived.Test.YtogdbjafibejdaaGreatY5
import Derived.Test.YtogdbjafibejdaaGreatY7
namespace Go.Proofs.YtogdbjafibejdaaGreat
open Go.RowKit
set_option maxRecDepth 100000
set_option linter.unusedVariables false

def numVal (i : Int) : Option (Int × Nat) → Value
  | some (y, n) => .tuple #[.int .i64 y, .int .i64 (i + n), .bool true]
  | none => .tuple #[.int .i64 0, .int .i64 0, .bool false]

theorem mul_eq7 {k : Nat} {acc d : Int} (hk : k ≤ 8) (h0 : 0 ≤ acc) (h1 : acc < 128 ^ k) (d0 : 0 ≤ d) (d1 : d < 128) : wrap64 (acc + wrap64 (d * 128 ^ k)) = acc + d * 128 ^ k := by
  have hs := acc_step (k := k) h0 h1 d0 d1
  have hp := pow_le7 hk
  have hq := pow_pos7 k
  rw [Int.pow_succ] at hs
  have e1 : 0 ≤ d * 128 ^ k := Int.mul_nonneg d0 (by omega)
  generalize d * 128 ^ k = q at *
  generalize (128 : Int) ^ k = p at *
  have w1 : wrap64 q = q := by unfold wrap64; omega
  rw [w1]
  unfold wrap64
  omega

theorem tup3 {a a' b b' : Int} {c : Bool} (ha : a = a') (hb : b = b') : Ending.returned (.tuple #[.int .i64 a, .int .i64 b, .bool c]) = .returned (.tuple #[.int .i64 a', .int .i64 b', .bool c]) := by rw [ha, hb]

theorem sgetNum_any {v : Value} {xs : List Int} {i : Int} {w : World} (h : Sl .u8 w v xs) (hb : ∀ x ∈ xs, 0 ≤ x ∧ x ≤ 255) (hn : xs.length ≤ 1099511627776) :
    Calls Tryz.prog 95 #[v, .int .i64 i] w fun e w' => e = .returned (numVal i (rdI xs i)) ∧ w' = w := by
  obtain ⟨a, ca, rfl, _, _, _, ha⟩ := h
  have HB : Hid (∀ x ∈ xs, 0 ≤ x ∧ x ≤ 255) := hb
  clear hb
  by_cases hi : i < 0
  · rw [rdI_neg hi]
    go_enter Tryz.func95, Tryz.ntmps95
    go_wp2
    go_ret3
    exact ⟨rfl, rfl⟩
  · by_cases hl : (xs.length : Int) ≤ i
    · rw [rdI_out hl]
      go_enter Tryz.func95, Tryz.ntmps95
      go_wp2
      go_ret3
      exact ⟨rfl, rfl⟩
    · obtain ⟨k0, rfl⟩ : ∃ k : Nat, i = k := ⟨i.toNat, by omega⟩
      rw [rdI_nat]
      have hk0 : k0 < xs.length := by omega
      obtain ⟨R, hR⟩ : ∃ R, R = rdA 9 0 0 (xs.drop k0) := ⟨_, rfl⟩
      rw [← hR]
      have HR := (show Hid (_ = _) from hR)
      clear hR
      go_enter Tryz.func95, Tryz.ntmps95
      go_wp2
      go_loop [7, 8, 9] (fun x u s => ∃ (k : Nat) (acc : Int), k ≤ 9 ∧ k0 + k ≤ xs.length ∧ s = .int .i64 k ∧ x = .int .i64 acc ∧ (∃ p : Int, u = .int .i64 p ∧ Hid (k ≤ 8 → p = 128 ^ k)) ∧ Hid (0 ≤ acc ∧ acc < 128 ^ k) ∧ Hid (rdA (9 - k) k acc (xs.drop (k0 + k)) = R)) (fun _ _ s => 9 - (intOf s).toNat)
      case atStart => exact ⟨0, 0, by omega, by omega, rfl, rfl, ⟨1, rfl, fun _ => by simp⟩, ⟨by omega, by simp⟩, HR.out.symm⟩
      case round =>
        clear HR
        obtain ⟨k, acc, hk, hkl, rfl, rfl, ⟨p, rfl, HP⟩, HA, HEQ⟩ := hrel
        by_cases hk9 : k < 9
        · by_cases hin : k0 + k < xs.length
          · obtain ⟨b1, o1, rfl, cx⟩ := ha (k0 + k) hin
            obtain ⟨d, hd⟩ : ∃ d, d = xs.getD (k0 + k) 0 := ⟨_, rfl⟩
            rw [← hd] at cx
            have hdb : 0 ≤ d ∧ d ≤ 255 := by
              rw [hd, List.getD_eq_getElem?_getD, List.getElem?_eq_getElem hin]
              exact HB.out _ (List.getElem_mem hin)
            have hdrop : xs.drop (k0 + k) = d :: xs.drop (k0 + k + 1) := by
              rw [hd, List.drop_eq_getElem_cons hin, List.getD_eq_getElem?_getD, List.getElem?_eq_getElem hin]
              rfl
            have HD := (show Hid (_ = _) from hdrop)
            clear hd hdrop ha
            have hin' : (k0 : Int) + k < xs.length := by omega
            by_cases hlt : d < 128
            · have hdm : d % 128 = d := by omega
              by_cases hbad : d = 0 ∧ 0 < k
              · obtain ⟨rfl, hkp⟩ := hbad
                have hkp' : (0 : Int) < k := by omega
                go_wp2
                go_ret3
                have e : R = none := by
                  rw [← HEQ.out, HD.out]
                  obtain ⟨m, hm⟩ : ∃ m, 9 - k = m + 1 := ⟨9 - k - 1, by omega⟩
                  rw [hm, rdA_bad (by omega) ⟨rfl, hkp⟩]
                rw [e]
                exact ⟨rfl, rfl⟩
              · have e : R = some (acc + d * 128 ^ k, k + 1) := by
                  rw [← HEQ.out, HD.out]
                  obtain ⟨m, hm⟩ : ∃ m, 9 - k = m + 1 := ⟨9 - k - 1, by omega⟩
                  rw [hm, rdA_end hlt hbad]
                have E := (show Hid (_ = _) from e)
                clear e
                by_cases hd0 : d = 0
                · have hkz : k = 0 := by omega
                  have hkn : ¬ ((0 : Int) < k) := by omega
                  have hkn' : decide ((0 : Int) < k) = false := by simp; omega
                  have HK := (show Hid (k = 0) from hkz)
                  subst hd0
                  clear hkz
                  go_wp2
                  go_ret3
                  rw [E.out]
                  have ha := HA.out
                  rw [HK.out] at ha
                  have ha0 : acc = 0 := by have := ha.2; simp at this; omega
                  refine ⟨tup3 ?_ (by omega), rfl⟩
                  rw [ha0]
                  simp [wrap64]
                · have e1 := mul_eq7 (k := k) (d := d) (by omega) HA.out.1 HA.out.2 hdb.1 hlt
                  rw [← HP.out (by omega)] at e1
                  have E1 := (show Hid (_ = _) from e1)
                  clear e1
                  go_wp2
                  go_ret3
                  rw [E.out]
                  exact ⟨tup3 (by rw [E1.out, HP.out (by omega)]) (by omega), rfl⟩
            · have e1 := mul_eq7 (k := k) (d := d % 128) (by omega) HA.out.1 HA.out.2 (by omega) (by omega)
              have e2 := acc_step (k := k) (d := d % 128) HA.out.1 HA.out.2 (by omega) (by omega)
              rw [← HP.out (by omega)] at e1
              have E1 := (show Hid (_ = _) from e1)
              have E2 := (show Hid (_ ∧ _) from e2)
              clear e1 e2
              go_wp2
              go_round
              case rel =>
                have hp := HP.out (by omega)
                refine ⟨k + 1, _, by omega, by omega, by go_num, rfl, ⟨_, rfl, fun h8 => ?_⟩, ?_, ?_⟩
                · have h7 := pow_le7 (k := k + 1) h8
                  have h6 := pow_pos7 (k + 1)
                  rw [hp, ← Int.pow_succ]
                  unfold wrap64
                  omega
                · rw [E1.out, hp]
                  exact E2.out
                · show rdA (9 - (k + 1)) (k + 1) _ _ = R
                  rw [E1.out, hp, ← HEQ.out, HD.out, ← Nat.add_assoc]
                  obtain ⟨m, hm⟩ : ∃ m, 9 - k = m + 1 := ⟨9 - k - 1, by omega⟩
                  have hm' : 9 - (k + 1) = m := by omega
                  rw [hm, hm', rdA_on (by omega)]
              case measure => simp [intOf]; omega
          · have hke : k0 + k = xs.length := by omega
            have hke' : (k0 : Int) + k = xs.length := by omega
            clear ha
            go_wp2
            go_ret3
            have e : R = none := by rw [← HEQ.out, List.drop_eq_nil_of_le (by omega), rdA_nil]
            rw [e]
            exact ⟨rfl, rfl⟩
        · have hke : k = 9 := by omega
          subst hke
          clear ha
          go_wp2
          go_ret3
          have e : R = none := by rw [← HEQ.out]; rfl
          rw [e]
          exact ⟨rfl, rfl⟩
end Go.Proofs.YtogdbjafibejdaaGreat

/- The contract of readPoints: it reads from bytes the points that the plain function 'dec' tells, into a room that is long enough. -/
namespace Go.Proofs.YtogdbjafibejdaaGreat
open Go.RowKit
set_option maxRecDepth 100000
set_option linter.unusedVariables false

theorem sb_any (b : Int) (w : World) : Calls Tryz.prog 214 #[.int .u8 b] w fun e w' => e = .returned (.tuple #[.int .u8 (loOf b), .int .u8 (hiOf b)]) ∧ w' = w := by
  rcases (show b = 224 ∨ b = 237 ∨ b = 240 ∨ b = 244 ∨ (b ≠ 224 ∧ b ≠ 237 ∧ b ≠ 240 ∧ b ≠ 244) by omega) with rfl | rfl | rfl | rfl | ⟨h1, h2, h3, h4⟩
  · go_enter Tryz.func214, Tryz.ntmps214
    go_wp2
    go_ret2
    exact ⟨rfl, rfl⟩
  · go_enter Tryz.func214, Tryz.ntmps214
    go_wp2
    go_ret2
    exact ⟨rfl, rfl⟩
  · go_enter Tryz.func214, Tryz.ntmps214
    go_wp2
    go_ret2
    exact ⟨rfl, rfl⟩
  · go_enter Tryz.func214, Tryz.ntmps214
    go_wp2
    go_ret2
    exact ⟨rfl, rfl⟩
  · have e1 : (b == 224) = false := by simpa using h1
    have e2 : (b == 237) = false := by simpa using h2
    have e3 : (b == 240) = false := by simpa using h3
    have e4 : (b == 244) = false := by simpa using h4
    have hl : loOf b = 128 := by unfold loOf; rw [if_neg h1, if_neg h3]
    have hh : hiOf b = 191 := by unfold hiOf; rw [if_neg h2, if_neg h4]
    rw [hl, hh]
    clear h1 h2 h3 h4 hl hh
    go_enter Tryz.func214, Tryz.ntmps214
    go_wp2
    go_ret2
    exact ⟨rfl, rfl⟩

structure RdFrame (v0 v1 s5 s6 s7 s8 s9 s10 s11 : Value) (act : Act) : Prop where
  size : act.tmps.size = 104
  defers : act.defers = []
  h0 : act.tmps.getD 0 undef = v0
  h1 : act.tmps.getD 1 undef = v1
  h2 : act.tmps.getD 2 undef = undef
  h3 : act.tmps.getD 3 undef = undef
  h4 : act.tmps.getD 4 undef = .int .i64 0
  h5 : act.tmps.getD 5 undef = s5
  h6 : act.tmps.getD 6 undef = s6
  h7 : act.tmps.getD 7 undef = s7
  h8 : act.tmps.getD 8 undef = s8
  h9 : act.tmps.getD 9 undef = s9
  h10 : act.tmps.getD 10 undef = s10
  h11 : act.tmps.getD 11 undef = s11

theorem RdFrame.lit {v0 v1 s5 s6 s7 s8 s9 s10 s11 : Value} {act : Act} (h : RdFrame v0 v1 s5 s6 s7 s8 s9 s10 s11 act) :
    ∃ u : Nat → Value, act = { tmps := #[v0, v1, undef, undef, .int .i64 0, s5, s6, s7, s8, s9, s10, s11, u 12, u 13, u 14, u 15, u 16, u 17, u 18, u 19, u 20, u 21, u 22, u 23, u 24, u 25, u 26, u 27, u 28, u 29, u 30, u 31, u 32, u 33, u 34, u 35, u 36, u 37, u 38, u 39, u 40, u 41, u 42, u 43, u 44, u 45, u 46, u 47, u 48, u 49, u 50, u 51, u 52, u 53, u 54, u 55, u 56, u 57, u 58, u 59, u 60, u 61, u 62, u 63, u 64, u 65, u 66, u 67, u 68, u 69, u 70, u 71, u 72, u 73, u 74, u 75, u 76, u 77, u 78, u 79, u 80, u 81, u 82, u 83, u 84, u 85, u 86, u 87, u 88, u 89, u 90, u 91, u 92, u 93, u 94, u 95, u 96, u 97, u 98, u 99, u 100, u 101, u 102, u 103], defers := [] } := by
  obtain ⟨tmps, defers⟩ := act
  obtain ⟨hs, hd, h0, h1, h2, h3, h4, h5, h6, h7, h8, h9, h10, h11⟩ := h
  have hd' : defers = [] := hd
  subst hd'
  have key : tmps = #[tmps.getD 0 undef, tmps.getD 1 undef, tmps.getD 2 undef, tmps.getD 3 undef, tmps.getD 4 undef, tmps.getD 5 undef, tmps.getD 6 undef, tmps.getD 7 undef, tmps.getD 8 undef, tmps.getD 9 undef, tmps.getD 10 undef, tmps.getD 11 undef, tmps.getD 12 undef, tmps.getD 13 undef, tmps.getD 14 undef, tmps.getD 15 undef, tmps.getD 16 undef, tmps.getD 17 undef, tmps.getD 18 undef, tmps.getD 19 undef, tmps.getD 20 undef, tmps.getD 21 undef, tmps.getD 22 undef, tmps.getD 23 undef, tmps.getD 24 undef, tmps.getD 25 undef, tmps.getD 26 undef, tmps.getD 27 undef, tmps.getD 28 undef, tmps.getD 29 undef, tmps.getD 30 undef, tmps.getD 31 undef, tmps.getD 32 undef, tmps.getD 33 undef, tmps.getD 34 undef, tmps.getD 35 undef, tmps.getD 36 undef, tmps.getD 37 undef, tmps.getD 38 undef, tmps.getD 39 undef, tmps.getD 40 undef, tmps.getD 41 undef, tmps.getD 42 undef, tmps.getD 43 undef, tmps.getD 44 undef, tmps.getD 45 undef, tmps.getD 46 undef, tmps.getD 47 undef, tmps.getD 48 undef, tmps.getD 49 undef, tmps.getD 50 undef, tmps.getD 51 undef, tmps.getD 52 undef, tmps.getD 53 undef, tmps.getD 54 undef, tmps.getD 55 undef, tmps.getD 56 undef, tmps.getD 57 undef, tmps.getD 58 undef, tmps.getD 59 undef, tmps.getD 60 undef, tmps.getD 61 undef, tmps.getD 62 undef, tmps.getD 63 undef, tmps.getD 64 undef, tmps.getD 65 undef, tmps.getD 66 undef, tmps.getD 67 undef, tmps.getD 68 undef, tmps.getD 69 undef, tmps.getD 70 undef, tmps.getD 71 undef, tmps.getD 72 undef, tmps.getD 73 undef, tmps.getD 74 undef, tmps.getD 75 undef, tmps.getD 76 undef, tmps.getD 77 undef, tmps.getD 78 undef, tmps.getD 79 undef, tmps.getD 80 undef, tmps.getD 81 undef, tmps.getD 82 undef, tmps.getD 83 undef, tmps.getD 84 undef, tmps.getD 85 undef, tmps.getD 86 undef, tmps.getD 87 undef, tmps.getD 88 undef, tmps.getD 89 undef, tmps.getD 90 undef, tmps.getD 91 undef, tmps.getD 92 undef, tmps.getD 93 undef, tmps.getD 94 undef, tmps.getD 95 undef, tmps.getD 96 undef, tmps.getD 97 undef, tmps.getD 98 undef, tmps.getD 99 undef, tmps.getD 100 undef, tmps.getD 101 undef, tmps.getD 102 undef, tmps.getD 103 undef] := frame_arr tmps 104 hs
  simp only at h0 h1 h2 h3 h4 h5 h6 h7 h8 h9 h10 h11
  rw [h0, h1, h2, h3, h4, h5, h6, h7, h8, h9, h10, h11] at key
  exact ⟨fun i => tmps.getD i undef, congrArg (fun t => Act.mk t []) key⟩

def RdRoom (B g n : Nat) (w w' : World) (out : List Int) : Prop :=
  ∃ zs, Own B 3 .i64 w' (.slice (some ⟨g, 0, none⟩) n n) zs ∧ zs.length = n ∧ zs.take out.length = out ∧ w.grownBy w' (some g)

def RdHas (xs : List Int) (i : Nat) (out : List Int) (s7 s8 s10 s11 : Value) : Nat → Prop
  | 0 => out.length ≤ i ∧ out ++ dec (xs.drop i) = dec xs
  | 1 => out.length + 1 ≤ i ∧ ∃ p, s7 = .int .i64 p ∧ out ++ p :: dec (xs.drop i) = dec xs
  | 2 => out.length + 1 ≤ i ∧ out ++ 65533 :: dec (xs.drop i) = dec xs
  | 3 => out.length + 1 ≤ i ∧ ∃ (p : Int) (k : Nat) (lo hi : Int), s7 = .int .i64 p ∧ s8 = .int .i64 ((k : Int) + 1) ∧ s10 = .int .u8 lo ∧ s11 = .int .u8 hi ∧ 128 ≤ lo ∧ hi ≤ 191 ∧ 0 ≤ p ∧ k ≤ 2 ∧ (p + 1) * 64 ^ (k + 1) ≤ 1073741824 ∧
        out ++ (tailOf p (k + 1) lo hi (xs.drop i)).1 :: dec (tailOf p (k + 1) lo hi (xs.drop i)).2 = dec xs
  | _ => False

def RdAt (B g n : Nat) (v1 : Value) (xs : List Int) (w : World) (l : Nat) (act : Act) (w' : World) : Prop :=
  ∃ (i : Nat) (out : List Int) (s7 s8 s9 s10 s11 : Value), RdFrame (.slice (some ⟨g, 0, none⟩) n n) v1 (.int .i64 i) (.int .i64 out.length) s7 s8 s9 s10 s11 act ∧ RdRoom B g n w w' out ∧ i ≤ xs.length ∧ RdHas xs i out s7 s8 s10 s11 l

def rdLeft (n : Nat) (l : Nat) (act : Act) (_ : World) : Nat := 8 * (n - (intOf (act.tmps.getD 5 undef)).toNat) + l

theorem rdLeft_eq {v0 v1 s6 s7 s8 s9 s10 s11 : Value} {i n l : Nat} {act : Act} {w : World} (h : RdFrame v0 v1 (.int .i64 i) s6 s7 s8 s9 s10 s11 act) : rdLeft n l act w = 8 * (n - i) + l := by
  unfold rdLeft; rw [h.h5]; simp [intOf]

theorem rdAt_lt {B g n : Nat} {v1 : Value} {xs : List Int} {w : World} (l : Nat) (act : Act) (w' : World) (h : RdAt B g n v1 xs w l act w') : l < 4 := by
  obtain ⟨i, out, s7, s8, s9, s10, s11, _, _, _, h⟩ := h
  match l, h with
  | 0, _ => omega
  | 1, _ => omega
  | 2, _ => omega
  | 3, _ => omega

theorem rdJump {B g n l M i : Nat} {v1 s7 s8 s9 s10 s11 : Value} {xs out : List Int} {w w' : World} {act : Act}
    (hF : RdFrame (.slice (some ⟨g, 0, none⟩) n n) v1 (.int .i64 i) (.int .i64 out.length) s7 s8 s9 s10 s11 act) (hr : RdRoom B g n w w' out) (hi : i ≤ xs.length) (hh : RdHas xs i out s7 s8 s10 s11 l)
    (hM : 8 * (xs.length - i) + l < M) : lower (RdAt B g n v1 xs w) (rdLeft xs.length) M l act w' :=
  ⟨⟨i, out, s7, s8, s9, s10, s11, hF, hr, hi, hh⟩, by rw [rdLeft_eq hF]; exact hM⟩

theorem rdFall {B g n l M i : Nat} {v1 s7 s8 s9 s10 s11 : Value} {xs out : List Int} {w w' : World} {act : Act} {P : Program} {s : Code} {Q : Exit → Act → World → Prop}
    (H : ∀ a w', RdAt B g n v1 xs w l a w' → rdLeft xs.length l a w' ≤ M → s.wp P Q a w')
    (hF : RdFrame (.slice (some ⟨g, 0, none⟩) n n) v1 (.int .i64 i) (.int .i64 out.length) s7 s8 s9 s10 s11 act) (hr : RdRoom B g n w w' out) (hi : i ≤ xs.length) (hh : RdHas xs i out s7 s8 s10 s11 l)
    (hM : 8 * (xs.length - i) + l ≤ M) : s.wp P Q act w' :=
  H _ _ ⟨i, out, s7, s8, s9, s10, s11, hF, hr, hi, hh⟩ (by rw [rdLeft_eq hF]; exact hM)

theorem RdRoom.put {B g n : Nat} {w w' : World} {out : List Int} (h : RdRoom B g n w w' out) (hl : out.length < n) (p : Int) :
    (∃ z, w'.cell? ⟨g, out.length, none⟩ = some (.int .i64 z)) ∧ w'.frozen? ⟨g, out.length, none⟩ = false ∧ RdRoom B g n w (w'.setCell ⟨g, out.length, none⟩ (.int .i64 p)) (out ++ [p]) := by
  obtain ⟨zs, ho, hz, ht, hg⟩ := h
  unfold Own at ho
  rw [hz] at ho
  have hk : out.length < zs.length := by omega
  refine ⟨?_, ho.frozenAt _, zs.set out.length p, ?_, by simpa using hz, ?_, grown_trans hg (ho.stored _ _).2⟩
  · have hc := ho.cellAt out.length (by omega)
    rw [hc, List.getElem?_map, List.getElem?_eq_getElem hk]; exact ⟨_, rfl⟩
  · unfold Own
    rw [List.length_set, hz, List.map_set]; exact (ho.stored _ _).1
  · rw [List.length_append, List.length_singleton, List.take_succ_eq_append_getElem (by simpa using hk), List.getElem_set_self, List.take_set_of_le (Nat.le_refl _), ht]

set_option maxHeartbeats 4000000 in
theorem read_any {B g n m c : Nat} {a : Option Addr} {xs zs : List Int} {w : World} (hown : Own B 3 .i64 w (.slice (some ⟨g, 0, none⟩) n n) zs) (hz : zs.length = n)
    (hs : Sl .u8 w (.slice a m c) xs) (hb : ∀ x ∈ xs, 0 ≤ x ∧ x ≤ 255) (hne : ∀ b off, 0 < xs.length → a = some ⟨b, off, none⟩ → b ≠ g) (hn : xs.length ≤ n) (hn3 : n ≤ 3000) :
    Calls Tryz.prog 204 #[.slice (some ⟨g, 0, none⟩) n n, .slice a m c] w fun e w' => e = .returned (.int .i64 (dec xs).length) ∧ RdRoom B g n w w' (dec xs) := by
  obtain ⟨a', c', ev, hmc, hcm, hnone, ha⟩ := hs
  cases ev
  have hcell : ∀ w' out k, RdRoom B g n w w' out → k < xs.length → ∃ b off, a = some ⟨b, off, none⟩ ∧ w'.cell? ⟨b, off + k, none⟩ = some (.int .u8 (xs.getD k 0)) := by
    intro w' out k hr hk
    obtain ⟨b, off, e, hc⟩ := ha k hk
    obtain ⟨_, _, _, _, hg⟩ := hr
    exact ⟨b, off, e, hg.cell hc (by simpa using hne b off (by omega) e)⟩
  have HC : Hid (∀ w' out k, RdRoom B g n w w' out → k < xs.length → ∃ b off, a = some ⟨b, off, none⟩ ∧ w'.cell? ⟨b, off + k, none⟩ = some (.int .u8 (xs.getD k 0))) := hcell
  have HB : Hid (∀ k (h : k < xs.length), 0 ≤ xs[k] ∧ xs[k] ≤ 255) := fun k h => hb _ (List.getElem_mem h)
  have hR : RdRoom B g n w w [] := ⟨zs, hown, hz, by simp, World.grownBy.refl _ _⟩
  clear hcell ha hne hnone hb hown
  go_enter Tryz.func204, Tryz.ntmps204
  go_wp2_with fail
  refine wp_scope_four (RdAt B g n (.slice a xs.length c) xs w) (rdLeft xs.length) rfl rfl rfl rfl rdAt_lt ?_ ?_ ?_ ?_ ?_
  · intro h0
    have H0 := (show Hid _ from h0)
    clear h0
    go_wp2
    go_step3
    apply_assumption
    refine H0.out _ _ ?_
    exact ⟨0, [], _, _, _, _, _, ⟨rfl, rfl, rfl, rfl, rfl, rfl, rfl, rfl, rfl, rfl, rfl, rfl, rfl, rfl⟩, hR, Nat.zero_le _, ⟨Nat.le_refl _, rfl⟩⟩
  · rintro M act w' ⟨i, out, s7, s8, s9, s10, s11, hF, hr, hi, hio, p, rfl, hp⟩ hM
    rw [rdLeft_eq hF] at hM
    obtain ⟨u, rfl⟩ := hF.lit
    obtain ⟨⟨z, hc⟩, hf, hr'⟩ := hr.put (by omega) p
    have HP : Hid (out ++ p :: dec (xs.drop i) = dec xs) := hp
    clear hp hF
    go_wp2
    go_step3
    refine rdJump (i := i) (out := out ++ [p]) ⟨rfl, rfl, rfl, rfl, rfl, rfl, rfl, rfl, by simp [Array.getD], rfl, rfl, rfl, rfl, rfl⟩ hr' hi ⟨by simpa using hio, by rw [List.append_assoc]; exact HP.out⟩ (by omega)
  · rintro M h1 act w' ⟨i, out, s7, s8, s9, s10, s11, hF, hr, hi, hio, hp⟩ hM
    rw [rdLeft_eq hF] at hM
    obtain ⟨u, rfl⟩ := hF.lit
    have H1 := (show Hid _ from h1)
    have HP : Hid (out ++ 65533 :: dec (xs.drop i) = dec xs) := hp
    clear hp hF h1
    go_wp2
    go_step3
    apply_assumption
    exact rdFall H1.out (i := i) (out := out) ⟨rfl, rfl, rfl, rfl, rfl, rfl, rfl, (by first | rfl | go_num), rfl, rfl, (by first | rfl | go_num), rfl, rfl, rfl⟩ hr hi ⟨hio, 65533, rfl, HP.out⟩ (by omega)
  · rintro M act w' ⟨i, out, s7, s8, s9, s10, s11, hF, hr, hi, hio, p, k, lo, hi', rfl, rfl, rfl, rfl, hlo, hhi, hp0, hk2, hpk, hp⟩ hM
    rw [rdLeft_eq hF] at hM
    obtain ⟨u, rfl⟩ := hF.lit
    have HP : Hid (out ++ (tailOf p (k + 1) lo hi' (xs.drop i)).1 :: dec (tailOf p (k + 1) lo hi' (xs.drop i)).2 = dec xs) := hp
    have hpb : p ≤ 16777216 := by
      rcases (show k = 0 ∨ k = 1 ∨ k = 2 by omega) with rfl | rfl | rfl <;> omega
    have HK : Hid ((p + 1) * 64 ^ (k + 1) ≤ 1073741824) := hpk
    clear hp hF hpk
    by_cases hend : i = xs.length
    · have HE : Hid (i = xs.length) := hend
      have e1 : ((i : Int) == (xs.length : Int)) = true := by simp [hend]
      clear hend
      go_wp2
      go_step3
      refine rdJump (i := i) (out := out) ⟨rfl, rfl, rfl, rfl, rfl, rfl, rfl, (by first | rfl | go_num), rfl, rfl, (by first | rfl | go_num), rfl, rfl, rfl⟩ hr hi ⟨hio, ?_⟩ (by omega)
      have h := HP.out
      rw [List.drop_eq_nil_of_le (by rw [HE.out]; exact Nat.le_refl _), tail_end] at h
      rw [List.drop_eq_nil_of_le (by rw [HE.out]; exact Nat.le_refl _)]; exact h
    · have hlt : i < xs.length := by omega
      have e1 : ((i : Int) == (xs.length : Int)) = false := by simp; omega
      obtain ⟨b1, o1, rfl, c1⟩ := HC.out w' out i hr hlt
      have hx := HB.out i hlt
      have hd : xs.drop i = xs[i] :: xs.drop (i + 1) := List.drop_eq_getElem_cons hlt
      have HD : Hid (xs.drop i = xs[i] :: xs.drop (i + 1)) := hd
      clear hd hend
      rcases (show xs[i] < lo ∨ (lo ≤ xs[i] ∧ hi' < xs[i]) ∨ (lo ≤ xs[i] ∧ xs[i] ≤ hi') by omega) with h1 | ⟨h1, h2⟩ | ⟨h1, h2⟩
      · go_wp2
        go_step3
        refine rdJump (i := i) (out := out) ⟨rfl, rfl, rfl, rfl, rfl, rfl, rfl, (by first | rfl | go_num), rfl, rfl, (by first | rfl | go_num), rfl, rfl, rfl⟩ hr hi ⟨hio, ?_⟩ (by omega)
        have h := HP.out
        rw [HD.out, tail_out p k _ (.inl h1)] at h
        rw [HD.out]; exact h
      · go_wp2
        go_step3
        refine rdJump (i := i) (out := out) ⟨rfl, rfl, rfl, rfl, rfl, rfl, rfl, (by first | rfl | go_num), rfl, rfl, (by first | rfl | go_num), rfl, rfl, rfl⟩ hr hi ⟨hio, ?_⟩ (by omega)
        have h := HP.out
        rw [HD.out, tail_out p k _ (.inr h2)] at h
        rw [HD.out]; exact h
      · have h3 := HP.out
        rw [HD.out, tail_in p k _ h1 h2] at h3
        have HQ : Hid (out ++ (tailOf (p * 64 + xs[i] - 128) k 128 191 (xs.drop (i + 1))).1 :: dec (tailOf (p * 64 + xs[i] - 128) k 128 191 (xs.drop (i + 1))).2 = dec xs) := h3
        clear h3
        by_cases hk0 : k = 0
        · subst hk0
          go_wp2
          go_step3
          exact rdJump (i := i + 1) (out := out) ⟨rfl, rfl, rfl, rfl, rfl, rfl, rfl, (by first | rfl | go_num), rfl, rfl, (by first | rfl | go_num), rfl, rfl, rfl⟩ hr hlt ⟨by omega, _, rfl, HQ.out⟩ (by omega)
        · obtain ⟨j, rfl⟩ : ∃ j, k = j + 1 := ⟨k - 1, by omega⟩
          go_wp2
          go_step3
          refine rdJump (i := i + 1) (out := out) ⟨rfl, rfl, rfl, rfl, rfl, rfl, rfl, (by first | rfl | go_num), rfl, rfl, (by first | rfl | go_num), rfl, rfl, rfl⟩ hr hlt ⟨by omega, p * 64 + xs[i] - 128, j, 128, 191, rfl, (by go_num), rfl, rfl, by omega, by omega, by omega, by omega, ?_, HQ.out⟩ (by omega)
          have h := HK.out
          rw [Int.pow_succ 64 (j + 1)] at h
          refine Int.le_trans ?_ h
          rw [Int.mul_comm ((64 : Int) ^ (j + 1)) 64, ← Int.mul_assoc]
          exact Int.mul_le_mul_of_nonneg_right (by omega) (Int.pow_nonneg (by omega))
  · rintro M h3 act w' ⟨i, out, s7, s8, s9, s10, s11, hF, hr, hi, hio, hp⟩ hM
    rw [rdLeft_eq hF] at hM
    obtain ⟨u, rfl⟩ := hF.lit
    have H3 := (show Hid _ from h3)
    have HP : Hid (out ++ dec (xs.drop i) = dec xs) := hp
    clear hp hF h3
    by_cases hend : i = xs.length
    · have HE : Hid (i = xs.length) := hend
      have e1 : ((i : Int) == (xs.length : Int)) = true := by simp [hend]
      clear hend
      go_wp2
      rw [jumps_ret]
      go_ret
      have h := HP.out
      rw [List.drop_eq_nil_of_le (by rw [HE.out]; exact Nat.le_refl _), dec_nil, List.append_nil] at h
      rw [← h]
      exact ⟨rfl, hr⟩
    · have hlt : i < xs.length := by omega
      have e1 : ((i : Int) == (xs.length : Int)) = false := by simp; omega
      obtain ⟨b1, o1, rfl, c1⟩ := HC.out w' out i hr hlt
      have hx := HB.out i hlt
      have hd : xs.drop i = xs[i] :: xs.drop (i + 1) := List.drop_eq_getElem_cons hlt
      have HQ : Hid (out ++ dec (xs[i] :: xs.drop (i + 1)) = dec xs) := by have h := HP.out; rw [hd] at h; exact h
      clear hd hend HP
      rcases (show xs[i] < 128 ∨ (128 ≤ xs[i] ∧ xs[i] < 194) ∨ 244 < xs[i] ∨ (194 ≤ xs[i] ∧ xs[i] ≤ 223) ∨ (224 ≤ xs[i] ∧ xs[i] ≤ 239) ∨ (240 ≤ xs[i] ∧ xs[i] ≤ 244) by omega) with h1 | ⟨h1, h2⟩ | h1 | ⟨h1, h2⟩ | ⟨h1, h2⟩ | ⟨h1, h2⟩
      · go_wp2
        go_step3
        exact rdJump (i := i + 1) (out := out) ⟨rfl, rfl, rfl, rfl, rfl, rfl, rfl, (by first | rfl | go_num), rfl, rfl, (by first | rfl | go_num), rfl, rfl, rfl⟩ hr hlt ⟨by omega, _, rfl, by rw [← dec_ascii _ h1]; exact HQ.out⟩ (by omega)
      · go_wp2
        go_step3
        exact rdJump (i := i + 1) (out := out) ⟨rfl, rfl, rfl, rfl, rfl, rfl, rfl, (by first | rfl | go_num), rfl, rfl, (by first | rfl | go_num), rfl, rfl, rfl⟩ hr hlt ⟨by omega, by rw [← dec_bad _ (.inl ⟨h1, h2⟩)]; exact HQ.out⟩ (by omega)
      · go_wp2
        go_step3
        exact rdJump (i := i + 1) (out := out) ⟨rfl, rfl, rfl, rfl, rfl, rfl, rfl, (by first | rfl | go_num), rfl, rfl, (by first | rfl | go_num), rfl, rfl, rfl⟩ hr hlt ⟨by omega, by rw [← dec_bad _ (.inr h1)]; exact HQ.out⟩ (by omega)
      · have hlh := lo_hi xs[i]
        go_wp2_with (go_at_call 214; refine (sb_any _ _).mono ?_; rintro e w2 ⟨rfl, rfl⟩)
        go_step3
        apply_assumption
        refine rdFall H3.out (i := i + 1) (out := out) ⟨rfl, rfl, rfl, rfl, rfl, rfl, rfl, (by first | rfl | go_num), rfl, rfl, (by first | rfl | go_num), rfl, rfl, rfl⟩ hr hlt ⟨by omega, xs[i] - 192, 0, loOf xs[i], hiOf xs[i], rfl, rfl, rfl, rfl, by omega, by omega, by omega, by omega, by omega, ?_⟩ (by omega)
        have h := HQ.out
        rw [dec_two _ ⟨h1, h2⟩] at h
        exact h
      · have hlh := lo_hi xs[i]
        go_wp2_with (go_at_call 214; refine (sb_any _ _).mono ?_; rintro e w2 ⟨rfl, rfl⟩)
        go_step3
        apply_assumption
        refine rdFall H3.out (i := i + 1) (out := out) ⟨rfl, rfl, rfl, rfl, rfl, rfl, rfl, (by first | rfl | go_num), rfl, rfl, (by first | rfl | go_num), rfl, rfl, rfl⟩ hr hlt ⟨by omega, xs[i] - 224, 1, loOf xs[i], hiOf xs[i], rfl, rfl, rfl, rfl, by omega, by omega, by omega, by omega, by omega, ?_⟩ (by omega)
        have h := HQ.out
        rw [dec_three _ ⟨h1, h2⟩] at h
        exact h
      · have hlh := lo_hi xs[i]
        go_wp2_with (go_at_call 214; refine (sb_any _ _).mono ?_; rintro e w2 ⟨rfl, rfl⟩)
        go_step3
        apply_assumption
        refine rdFall H3.out (i := i + 1) (out := out) ⟨rfl, rfl, rfl, rfl, rfl, rfl, rfl, (by first | rfl | go_num), rfl, rfl, (by first | rfl | go_num), rfl, rfl, rfl⟩ hr hlt ⟨by omega, xs[i] - 240, 2, loOf xs[i], hiOf xs[i], rfl, rfl, rfl, rfl, by omega, by omega, by omega, by omega, by omega, ?_⟩ (by omega)
        have h := HQ.out
        rw [dec_four _ ⟨h1, h2⟩] at h
        exact h
end Go.Proofs.YtogdbjafibejdaaGreat

/- Contracts of LinesOf, the program's and the specification's, and of copyOf, at every list of integers. -/
namespace Go.Proofs.YtogdbjafibejdaaGreat
open Go.RowKit
set_option maxRecDepth 100000
set_option linter.unusedVariables false
theorem Tryz.sizeI : Option.map (fun x => x.size) (Tryz.prog.info? 3) = some 1 := by kernel_rfl

theorem copyOf_any {v : Value} {xs : List Int} {w : World} (h : Sl .i64 w v xs) (hn : xs.length ≤ 1099511627776) :
    Calls Tryz.prog 203 #[v] w fun e w' => ∃ v', e = .returned v' ∧ Own w.heap.size 3 .i64 w' v' xs ∧ Below w.heap.size w w' := by
  have h0 := h
  obtain ⟨a, ca, rfl, _, _, _, ha⟩ := h
  clear ha
  obtain ⟨i0, hi, hz0, hz1, hz2⟩ := info_parts Tryz.infoI
  go_enter Tryz.func203, Tryz.ntmps203
  go_wp2_with (first
    | (at_make; refine wpList_mkn _ rfl (.tmp 5) (.tmp 5) 34 rfl 3 i0 .i64 Tryz.underlying34 hi hz0 hz1 xs.length xs.length xs.length rfl rfl rfl rfl (by rw [hz2]; omega) (by unfold maxLen; omega) ?_; intro w1 hown hbel; have h1 := h0.below hbel)
    | (refine wpList_cp rfl (.tmp 7) (.tmp 8) 34 rfl 3 Tryz.underlying34 Tryz.sizeI w.heap.size .i64 _ _ _ xs rfl rfl hown h1 (by simp) ?_; intro w2 hown2 hgr2))
  go_ret
  exact ⟨_, rfl, hown2, hbel.grown hgr2 hbel.size hown.grownAt⟩

theorem sl_one (e : TypeId) (K : IntKind) (w : World) (x : Int) : Sl K (w.alloc (.cells #[.int K x] e)) (.slice (some ⟨w.heap.size, 0, none⟩) 1 1) [x] :=
  Own.sl (World.ownsRow_lit w #[Value.int K x] 1 (Nat.le_refl _) (by unfold maxLen; omega) rfl : Own w.heap.size e K _ _ [x])

end Go.Proofs.YtogdbjafibejdaaGreat

/- What references stand for, as plain functions of lists of integers. -/
namespace Go.Proofs.YtogdbjafibejdaaGreat
open Go.RowKit
set_option maxRecDepth 100000
set_option linter.unusedVariables false
end Go.Proofs.YtogdbjafibejdaaGreat

/- Contracts of the specification's functions of chapter 2 on one number. No condition. -/
namespace Go.Proofs.YtogdbjafibejdaaGreat
open Go.RowKit
set_option maxRecDepth 100000
set_option linter.unusedVariables false

theorem sblank_any (x : Int) (w : World) : Calls Tryz.prog 151 #[.int .i64 x] w fun e w' => e = .returned (.bool (isBlank x)) ∧ w' = w := by
  go_enter Tryz.func151, Tryz.ntmps151
  go_wp2
  all_goals
    go_ret
    exact ⟨ret_bool (by unfold isBlank; simp_all), rfl⟩

end Go.Proofs.YtogdbjafibejdaaGreat

/- As RoundT, where the first operations are taken ahead of all: what they tell does not hang on the world. No condition. -/
namespace Go.Proofs.YtogdbjafibejdaaGreat
open Go.RowKit
set_option maxRecDepth 100000
set_option linter.unusedVariables false

theorem operW_of_still {n : Nat} {P : Program} {o : Oper} {a : Act} {w : World} {K0 : Act → Prop} {K : Act → World → Prop} {Q : Exit → Act → World → Prop} (h : o.still P a w K0) (hK : ∀ a, K0 a → K a w) : o.wpIn Fence.wide n P a w K Q := by
  refine ⟨fun f _ => trivial, ?_⟩
  rw [show Fence.wide.round = none from rfl, Oper.semAt_none]
  unfold Oper.still at h
  generalize (execOp a.eval o).run P w = r at *
  cases r with
  | ok x w' =>
    cases x <;> simp only [Oper.stillUpon] at h
    case value v =>
      obtain ⟨rfl, h⟩ := h
      exact hK _ h
    case skip =>
      obtain ⟨rfl, h⟩ := h
      exact hK _ h
    case enter f args =>
      obtain ⟨rfl, v, hc, h⟩ := h
      refine ⟨(fun h => by cases h), (callsIn_wide.2 hc).mono ?_⟩
      rintro e w'' ⟨rfl, rfl⟩
      exact hK _ h
  | halt x w' => simp only [Oper.stillUpon] at h
theorem opW_of_st {n : Nat} {P : Program} {ops : Array Oper} {i : Nat} {a : Act} {w : World} {K0 : Act → Prop} {K : Act → World → Prop} {Q : Exit → Act → World → Prop} (h : stOp P ops w i K0 a) (hK : ∀ a, K0 a → K a w) : wpOpIn Fence.wide n P ops Q i K a w := by
  unfold stOp at h
  unfold wpOpIn
  split
  · rename_i ho; simp only [ho] at h; exact hK _ h
  · rename_i o ho
    simp only [ho] at h
    split
    · rename_i hw
      simp only [hw, if_true] at h
      exact operW_of_still h hK
    · rename_i hw
      simp only [hw] at h
      exact ⟨fun f _ => trivial, hK _ h⟩
theorem anyW_of_head {m n g : Nat} {P : Program} {md : Region.Mode} {ops : Array Oper} {w : World} {L : Array Bool → Act → Prop} {Q : Exit → Act → World → Prop} (hL : ∀ listed a, L listed a → wpAnyIn Fence.wide m P md ops Q g listed a w) :
    ∀ (f : Nat) (listed : Array Bool) (a : Act), wpAnyL P md ops w n L f listed a → wpAnyIn Fence.wide m P md ops Q (f + g) listed a w
  | 0, listed, a, h => by rw [Nat.zero_add]; exact hL _ _ h
  | f + 1, listed, a, h => by
    rw [show f + 1 + g = (f + g) + 1 by omega]
    exact ⟨fun h0 => absurd h0 h.1, fun i hi => opW_of_st (h.2 i hi).2 (fun a' h' => anyW_of_head hL f _ a' h')⟩

section
variable {P : Program} {ops : Array Oper} {md : Region.Mode} {w : World}
def sinkF (md : Region.Mode) (ops : Array Oper) (k n : Nat) : Bool := (List.range n).all fun i => decide (i < k) || (List.range (n + 1)).any fun j => decide (i < j) && Region.waitsFor md ops j i
theorem tail_waitsF {k n : Nat} {listed : Array Bool} (hs : sinkF md ops k n = true) (hc : Region.chainB md ops n = true) (hn : n < ops.size) (inv : HeadInv md ops n listed) (hk : ∀ i, i < k → listed.getD i true = true) :
    ∀ (d i : Nat), n - i = d → i < n → listed.getD i true = false → ∀ t, n ≤ t → t ∉ Region.ready md ops listed := by
  intro d
  induction d using Nat.strongRecOn with
  | _ d ih =>
    intro i hd hi hun t ht hr
    obtain ⟨_, ot, hot, hall⟩ := mem_ready.1 hr
    have htlt : t < ops.size := (Array.getElem?_eq_some_iff.1 hot).1
    have hik : ¬ i < k := fun h => by rw [hk i h] at hun; cases hun
    by_cases htn : t = n
    · subst htn
      have h1 := List.all_eq_true.1 hs i (List.mem_range.2 hi)
      simp only [hik, decide_false, Bool.false_or] at h1
      obtain ⟨j, hj, hj2⟩ := List.any_eq_true.1 h1
      simp only [Bool.and_eq_true, decide_eq_true_eq] at hj2
      obtain ⟨oj, hoj, e, he, hb, hon⟩ := Region.waitsFor_spec hj2.2
      have hjle : j ≤ t := by have := List.mem_range.1 hj; omega
      by_cases hjt : j = t
      · subst hjt
        have : oj = ot := Option.some.inj (hoj.symm.trans hot)
        subst this
        have h2 := hall e he hb
        rw [hon, getD_both hun] at h2
        cases h2
      · cases hl : listed.getD j false with
        | true =>
          have h2 := inv.closed j oj hoj hl e he hb
          rw [hon, getD_both hun] at h2
          cases h2
        | false =>
          have hjs : j < listed.size := by rw [inv.size]; omega
          exact ih (t - j) (by omega) j rfl (by omega) (getD_in hjs hl) t (Nat.le_refl _) hr
    · have h1 := List.all_eq_true.1 hc t (List.mem_range.2 htlt)
      simp only [Bool.or_eq_true, decide_eq_true_eq] at h1
      rcases h1 with h1 | h1
      · omega
      · obtain ⟨o', ho', e, he, hb, hon⟩ := Region.waitsFor_spec h1
        have : o' = ot := Option.some.inj (ho'.symm.trans hot)
        subst this
        have h2 := hall e he hb
        rw [hon, getD_both (inv.tail (t - 1) (by omega) (by omega))] at h2
        cases h2
theorem set_true {listed : Array Bool} {i j : Nat} (h : listed.getD i true = true) : (listed.setIfInBounds j true).getD i true = true := by
  by_cases e : j = i
  · subst e
    by_cases hlt : j < listed.size
    · simp [hlt]
    · simp [Nat.le_of_not_lt hlt]
  · rw [getD_set_ne true e]; exact h
theorem anyL_firstF {k n i : Nat} {oi : Oper} {v : Value} {L : Array Bool → Act → Prop} (hi : ops[i]? = some oi) (hsel : ∀ (j : Nat) (o : Oper) cs b, ops[j]? = some o → o.op ≠ .select cs b)
    (hs : sinkF md ops k n = true) (hc : Region.chainB md ops n = true) (hn : n < ops.size) (hin : i < n)
    (hdone : ∀ listed a, L listed a → ∀ j ∈ Region.ready md ops listed, n ≤ j) :
    ∀ (f : Nat) (listed : Array Bool) (a : Act), HeadInv md ops n listed → (∀ i, i < k → listed.getD i true = true) →
      (∀ j oj, ops[j]? = some oj → j ≠ i → listed.getD j true = false → (∀ e ∈ oj.after, Region.binds md e = true → e.on ≠ i) → oi.apart ops oj = true) →
      i ∈ Region.ready md ops listed → YieldsAt P ops w oi v a →
      wpAnyL P md ops w n L f (listed.setIfInBounds i true) (a.put oi.dst v) → wpAnyL P md ops w n L (f + 1) listed a := by
  intro f
  induction f with
  | zero =>
    intro listed a inv hk _ hr hy H
    have hun := (mem_ready.1 hr).1
    refine ⟨fun h => (by rw [h] at hr; cases hr), fun j hj => ?_⟩
    have hjn : j < n := by
      rcases Nat.lt_or_ge j n with h | h
      · exact h
      · exact absurd hj (tail_waitsF hs hc hn inv hk _ i rfl hin hun j h)
    refine ⟨hjn, ?_⟩
    by_cases hji : j = i
    · subst hji; exact hy.stOp hi H
    · have := hdone _ _ H j (ready_mono hj hji)
      omega
  | succ f ih =>
    intro listed a inv hk hfree hr hy H
    have hun := (mem_ready.1 hr).1
    refine ⟨fun h => (by rw [h] at hr; cases hr), fun j hj => ?_⟩
    have hjn : j < n := by
      rcases Nat.lt_or_ge j n with h | h
      · exact h
      · exact absurd hj (tail_waitsF hs hc hn inv hk _ i rfl hin hun j h)
    refine ⟨hjn, ?_⟩
    by_cases hji : j = i
    · subst hji; exact hy.stOp hi H
    · have h1 := (H.2 j (ready_mono hj hji)).2
      obtain ⟨hjun, oj, hoj, hall⟩ := mem_ready.1 hj
      have hnot : ∀ e ∈ oj.after, Region.binds md e = true → e.on ≠ i := fun e he hb heq => by
        have h1 := hall e he hb
        rw [heq, getD_both hun] at h1
        cases h1
      have h2 := stOp_put hoj (hfree j oj hoj hji hjun hnot) (fun cs b => hsel i oi cs b hi) (fun cs b => hsel j oj cs b hoj) hy h1
      have hfree' : ∀ k ok, ops[k]? = some ok → k ≠ i → (listed.setIfInBounds j true).getD k true = false →
          (∀ e ∈ ok.after, Region.binds md e = true → e.on ≠ i) → oi.apart ops ok = true := fun k ok hk hki hun hno => by
        refine hfree k ok hk hki ?_ hno
        by_cases hjk : j = k
        · subst hjk; exact hjun
        · rw [getD_set_ne true hjk] at hun; exact hun
      refine stOp_mono (fun a' h3 => ih (listed.setIfInBounds j true) a' (inv.set hj hjn) (fun i hi => set_true (hk i hi)) hfree' (ready_mono hr (Ne.symm hji)) h3.1 ?_) h2
      rw [Array.setIfInBounds_comm _ _ hji]
      exact h3.2
theorem anyL_lexF {k0 n g : Nat} {Lq : Act → Prop} (hsel : Region.noSelect ops = true) (hs : sinkF md ops k0 n = true) (hc : Region.chainB md ops n = true) (hn : n < ops.size) :
    ∀ (l : List Oper) (k : Nat) (listed : Array Bool) (a : Act), (∀ j, j < l.length → l[j]? = ops[k + j]?) → k + l.length = n → HeadInv md ops n listed → (∀ i, i < k0 → listed.getD i true = true) →
    Region.lexHead md ops g l.length k listed = true → wpStill P ops w Lq l a →
    wpAnyL P md ops w n (fun listed' a' => Region.seqB md ops g n listed' = true ∧ Lq a') l.length listed a
  | [], k, listed, a, _, hk, _, _, hB, h => by
    have : k = n := by simpa using hk
    subst this
    exact ⟨by simpa [Region.lexHead] using hB, h⟩
  | o :: l, k, listed, a, hl, hk, inv, hk0, hB, h => by
    have h0 : ops[k]? = some o := by simpa using (hl 0 (by simp)).symm
    simp only [List.length_cons, Region.lexHead, Bool.and_eq_true] at hB
    obtain ⟨⟨hr, hf⟩, hB'⟩ := hB
    have hkn : k < n := by simp only [List.length_cons] at hk; omega
    have hr' : k ∈ Region.ready md ops listed := by simpa using hr
    have hst : stOp P ops w k (wpStill P ops w Lq l) a := by unfold stOp; simp only [h0]; exact h
    obtain ⟨v, hy, hK⟩ := yieldsAt_of_stOp h0 hst
    exact anyL_firstF h0 (Region.noSelect_spec hsel) hs hc hn hkn (fun listed' a' hL => seqB_ready hL.1) l.length listed a inv hk0 (Region.free_spec h0 hf) hr' hy
      (anyL_lexF hsel hs hc hn l (k + 1) _ _ (fun j hj => by have := hl (j + 1) (by simp; omega); simpa [Nat.add_assoc, Nat.add_comm 1 j] using this) (by simp only [List.length_cons] at hk; omega) (inv.set hr' hkn) (fun i hi => set_true (hk0 i hi)) hB' hK)
end
def tailF (ops : Array Oper) (n : Nat) : Bool := Region.noSelect ops && decide (n < ops.size) && decide (1 ≤ n) && sinkF .any ops 1 n && Region.chainB .any ops n && Region.free .any ops (Array.replicate ops.size false) 0 && (Region.ready .any ops (Array.replicate ops.size false)).contains 0 && Region.lexHead .any ops (ops.size - n) (n - 1) 1 ((Array.replicate ops.size false).setIfInBounds 0 true) && ((ops[0]?).map fun o => o.after.isEmpty).getD false
theorem region_first_round {m l0 : Nat} {P : Program} {id : Nat} {Q : Exit → Act → World → Prop} {a : Act} {w : World} {o : Oper} {l : List Oper} (n : Nat) (v : Value) (hd : ((o :: l).all noDefer) = true) (hm : P.follows .mixedOrders = true) (hB : tailF (o :: l).toArray n = true)
    (hQ : ∀ c a w, Q (.panic c) (a.put o.dst v) w → Q (.panic c) a w) (hy : YieldsFenced P (o :: l).toArray o v a)
    (h : ∀ (w1 : World) (K : Act → Prop), Hid (w1 = w.drew) → Hid (∀ a', wpListIn Fence.wide m P (o :: l).toArray Q ((o :: l).drop n) a' w1 → K a') → wpQuiet P (o :: l).toArray (fun w' => ∃ n : One w1, w' = n.w) K (l.take (n - 1)) (a.put o.dst v)) : (Code.region id (o :: l).toArray true).wpIn (Fence.wide.inRound l0) m P Q a w := by
  have hd' : ∀ p ∈ (o :: l).toArray, noDefer p = true := fun p hp => List.all_eq_true.mp hd p (by simpa using hp)
  have hs := still_of_quiet _ _ (h w.drew _ rfl (fun _ h => h))
  simp only [tailF, Bool.and_eq_true, decide_eq_true_eq] at hB
  obtain ⟨⟨⟨⟨⟨⟨⟨⟨hsel, hn⟩, h1⟩, hsk⟩, hc⟩, hfr⟩, hrd⟩, hlex⟩, haf⟩ := hB
  have hn' : n < l.length + 1 := by simpa using hn
  have htl : (l.take (n - 1)).length = n - 1 := by simp; omega
  have hdl : ((o :: l).drop n).length = (o :: l).toArray.size - n := by simp
  have haf' : o.after = #[] := by simpa using haf
  have inv1 : HeadInv .any (o :: l).toArray n ((Array.replicate (o :: l).toArray.size false).setIfInBounds 0 true) := by
    refine ⟨by simp, fun j oj hj hl e he hb => ?_, fun t ht ht' => ?_⟩
    · by_cases hj0 : 0 = j
      · subst hj0
        have : oj = o := by simpa using hj.symm
        subst this
        rw [haf'] at he; simp at he
      · rw [getD_set_ne false hj0, getD_replicate_false] at hl; cases hl
    · rw [getD_set_ne true (by omega)]; exact getD_in (by simpa using ht') (getD_replicate_false _ _)
  have H := anyL_lexF (md := .any) (k0 := 1) (g := (o :: l).toArray.size - n) hsel hsk hc hn (l.take (n - 1)) 1 _ (a.put o.dst v) (fun j hj => by
    have hj' : j < n - 1 := by rw [htl] at hj; exact hj
    simp only [List.getElem?_toArray, Nat.add_comm 1 j, List.getElem?_cons_succ]
    rw [List.getElem?_take, if_pos hj']) (by rw [htl]; omega) inv1 (fun i hi => by
    have : i = 0 := by omega
    subst this
    simp) (by rw [htl]; exact hlex) hs
  refine wpIn_region_any hm (anyIn_round l0 rfl hd' _ _ _ _ ?_)
  have H2 := anyW_of_head (m := m) (Q := Q) (g := (o :: l).toArray.size - n) (fun listed a' hL => by
    have := anyIn_of_seq (F := Fence.wide) (m := m) (md := .any) (Q := Q) ((o :: l).drop n) n listed a' w.drew (fun j => by simp [List.getElem?_drop]) (by rw [hdl]; exact hL.1) hL.2
    rwa [hdl] at this) _ _ _ H
  rw [htl] at H2
  have hz : (o :: l).toArray.size = (n - 1 + ((o :: l).toArray.size - n)) + 1 := by omega
  have H3 := wpAnyIn_take (F := Fence.wide) (i := 0) (oi := o) (v := v) (fuel := n - 1 + ((o :: l).toArray.size - n)) (listed := Array.replicate (o :: l).toArray.size false) (a := a) (w := w.drew) rfl rfl hsel hfr hrd hQ hy H2
  rw [← hz] at H3
  exact H3
end Go.Proofs.YtogdbjafibejdaaGreat
