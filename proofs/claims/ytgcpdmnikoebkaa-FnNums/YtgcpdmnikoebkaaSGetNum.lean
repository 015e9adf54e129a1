/- The specification's GetNum, at every list of bytes. -/
import Derived.Test.YtgcpdmnikoebkaaRows
import Derived.Test.YtgcpdmnikoebkaaHelp
import Derived.Test.YtgcpdmnikoebkaaRda
import Derived.OwnWalk
namespace Go.Proofs.Ytgcpdmnikoebkaa
open Go.RowKit
set_option maxRecDepth 100000
set_option linter.unusedVariables false

/-- What GetNum answers, of what is read at a place. -/
def numVal (i : Int) : Option (Int × Nat) → Value
  | some (y, n) => .tuple #[.int .i64 y, .int .i64 (i + n), .bool true]
  | none => .tuple #[.int .i64 0, .int .i64 0, .bool false]

theorem mul_eq7 {k : Nat} {acc d : Int} (hk : k ≤ 8) (h0 : 0 ≤ acc) (h1 : acc < 128 ^ k) (d0 : 0 ≤ d) (d1 : d < 128) : wrap64 (acc + wrap64 (d * 128 ^ k)) = acc + d * 128 ^ k := by
  have hs := acc_step (k := k) h0 h1 d0 d1
  have hp := pow_le7 hk
  have hq := pow_pos7 k
  rw [Int.pow_succ] at hs
  have e1 : 0 ≤ d * 128 ^ k := Int.mul_nonneg d0 (by omega)
  generalize d * 128 ^ k = q at *
  generalize (128 : Int) ^ k = p at *
  have w1 : wrap64 q = q := by unfold wrap64; omega
  rw [w1]
  unfold wrap64
  omega

theorem tup3 {a a' b b' : Int} {c : Bool} (ha : a = a') (hb : b = b') : Ending.returned (.tuple #[.int .i64 a, .int .i64 b, .bool c]) = .returned (.tuple #[.int .i64 a', .int .i64 b', .bool c]) := by rw [ha, hb]

theorem sgetNum_any {v : Value} {xs : List Int} {i : Int} {w : World} (h : Sl .u8 w v xs) (hb : ∀ x ∈ xs, 0 ≤ x ∧ x ≤ 255) (hn : xs.length ≤ 1099511627776) :
    Calls Try.prog 20 #[v, .int .i64 i] w fun e w' => e = .returned (numVal i (rdI xs i)) ∧ w' = w := by
  obtain ⟨a, ca, rfl, _, _, _, ha⟩ := h
  have HB : Hid (∀ x ∈ xs, 0 ≤ x ∧ x ≤ 255) := hb
  clear hb
  by_cases hi : i < 0
  · rw [rdI_neg hi]
    go_enter Try.func20, Try.ntmps20
    go_wp2
    go_ret3
    exact ⟨rfl, rfl⟩
  · by_cases hl : (xs.length : Int) ≤ i
    · rw [rdI_out hl]
      go_enter Try.func20, Try.ntmps20
      go_wp2
      go_ret3
      exact ⟨rfl, rfl⟩
    · obtain ⟨k0, rfl⟩ : ∃ k : Nat, i = k := ⟨i.toNat, by omega⟩
      rw [rdI_nat]
      have hk0 : k0 < xs.length := by omega
      obtain ⟨R, hR⟩ : ∃ R, R = rdA 9 0 0 (xs.drop k0) := ⟨_, rfl⟩
      rw [← hR]
      have HR := (show Hid (_ = _) from hR)
      clear hR
      go_enter Try.func20, Try.ntmps20
      go_wp2
      go_loop [7, 8, 9] (fun x u s => ∃ (k : Nat) (acc : Int), k ≤ 9 ∧ k0 + k ≤ xs.length ∧ s = .int .i64 k ∧ x = .int .i64 acc ∧ (∃ p : Int, u = .int .i64 p ∧ Hid (k ≤ 8 → p = 128 ^ k)) ∧ Hid (0 ≤ acc ∧ acc < 128 ^ k) ∧ Hid (rdA (9 - k) k acc (xs.drop (k0 + k)) = R)) (fun _ _ s => 9 - (intOf s).toNat)
      case atStart => exact ⟨0, 0, by omega, by omega, rfl, rfl, ⟨1, rfl, fun _ => by simp⟩, ⟨by omega, by simp⟩, HR.out.symm⟩
      case round =>
        clear HR
        obtain ⟨k, acc, hk, hkl, rfl, rfl, ⟨p, rfl, HP⟩, HA, HEQ⟩ := hrel
        by_cases hk9 : k < 9
        · by_cases hin : k0 + k < xs.length
          · obtain ⟨b1, o1, rfl, cx⟩ := ha (k0 + k) hin
            obtain ⟨d, hd⟩ : ∃ d, d = xs.getD (k0 + k) 0 := ⟨_, rfl⟩
            rw [← hd] at cx
            have hdb : 0 ≤ d ∧ d ≤ 255 := by
              rw [hd, List.getD_eq_getElem?_getD, List.getElem?_eq_getElem hin]
              exact HB.out _ (List.getElem_mem hin)
            have hdrop : xs.drop (k0 + k) = d :: xs.drop (k0 + k + 1) := by
              rw [hd, List.drop_eq_getElem_cons hin, List.getD_eq_getElem?_getD, List.getElem?_eq_getElem hin]
              rfl
            have HD := (show Hid (_ = _) from hdrop)
            clear hd hdrop ha
            have hin' : (k0 : Int) + k < xs.length := by omega
            by_cases hlt : d < 128
            · have hdm : d % 128 = d := by omega
              by_cases hbad : d = 0 ∧ 0 < k
              · obtain ⟨rfl, hkp⟩ := hbad
                have hkp' : (0 : Int) < k := by omega
                go_wp2
                go_ret3
                have e : R = none := by
                  rw [← HEQ.out, HD.out]
                  obtain ⟨m, hm⟩ : ∃ m, 9 - k = m + 1 := ⟨9 - k - 1, by omega⟩
                  rw [hm, rdA_bad (by omega) ⟨rfl, hkp⟩]
                rw [e]
                exact ⟨rfl, rfl⟩
              · have e : R = some (acc + d * 128 ^ k, k + 1) := by
                  rw [← HEQ.out, HD.out]
                  obtain ⟨m, hm⟩ : ∃ m, 9 - k = m + 1 := ⟨9 - k - 1, by omega⟩
                  rw [hm, rdA_end hlt hbad]
                have E := (show Hid (_ = _) from e)
                clear e
                by_cases hd0 : d = 0
                · have hkz : k = 0 := by omega
                  have hkn : ¬ ((0 : Int) < k) := by omega
                  have hkn' : decide ((0 : Int) < k) = false := by simp; omega
                  have HK := (show Hid (k = 0) from hkz)
                  subst hd0
                  clear hkz
                  go_wp2
                  go_ret3
                  rw [E.out]
                  have ha := HA.out
                  rw [HK.out] at ha
                  have ha0 : acc = 0 := by have := ha.2; simp at this; omega
                  refine ⟨tup3 ?_ (by omega), rfl⟩
                  rw [ha0]
                  simp [wrap64]
                · have e1 := mul_eq7 (k := k) (d := d) (by omega) HA.out.1 HA.out.2 hdb.1 hlt
                  rw [← HP.out (by omega)] at e1
                  have E1 := (show Hid (_ = _) from e1)
                  clear e1
                  go_wp2
                  go_ret3
                  rw [E.out]
                  exact ⟨tup3 (by rw [E1.out, HP.out (by omega)]) (by omega), rfl⟩
            · have e1 := mul_eq7 (k := k) (d := d % 128) (by omega) HA.out.1 HA.out.2 (by omega) (by omega)
              have e2 := acc_step (k := k) (d := d % 128) HA.out.1 HA.out.2 (by omega) (by omega)
              rw [← HP.out (by omega)] at e1
              have E1 := (show Hid (_ = _) from e1)
              have E2 := (show Hid (_ ∧ _) from e2)
              clear e1 e2
              go_wp2
              go_round
              case rel =>
                have hp := HP.out (by omega)
                refine ⟨k + 1, _, by omega, by omega, by go_num, rfl, ⟨_, rfl, fun h8 => ?_⟩, ?_, ?_⟩
                · have h7 := pow_le7 (k := k + 1) h8
                  have h6 := pow_pos7 (k + 1)
                  rw [hp, ← Int.pow_succ]
                  unfold wrap64
                  omega
                · rw [E1.out, hp]
                  exact E2.out
                · show rdA (9 - (k + 1)) (k + 1) _ _ = R
                  rw [E1.out, hp, ← HEQ.out, HD.out, ← Nat.add_assoc]
                  obtain ⟨m, hm⟩ : ∃ m, 9 - k = m + 1 := ⟨9 - k - 1, by omega⟩
                  have hm' : 9 - (k + 1) = m := by omega
                  rw [hm, hm', rdA_on (by omega)]
              case measure => simp [intOf]; omega
          · have hke : k0 + k = xs.length := by omega
            have hke' : (k0 : Int) + k = xs.length := by omega
            clear ha
            go_wp2
            go_ret3
            have e : R = none := by rw [← HEQ.out, List.drop_eq_nil_of_le (by omega), rdA_nil]
            rw [e]
            exact ⟨rfl, rfl⟩
        · have hke : k = 9 := by omega
          subst hke
          clear ha
          go_wp2
          go_ret3
          have e : R = none := by rw [← HEQ.out]; rfl
          rw [e]
          exact ⟨rfl, rfl⟩
end Go.Proofs.Ytgcpdmnikoebkaa
