/- The program's byteReader: num. -/
import Derived.Test.YtgcpdmnikoebkaaIRd1
import Derived.Test.YtgcpdmnikoebkaaRda
namespace Go.Proofs.Ytgcpdmnikoebkaa
open Go.RowKit
set_option maxRecDepth 100000
set_option linter.unusedVariables false

theorem sh_eq {k : Nat} {acc d : Int} (hk : k ≤ 8) (h0 : 0 ≤ acc) (h1 : acc < 128 ^ k) (d0 : 0 ≤ d) (d1 : d < 128) : wrap64 (acc + wrap64 (d * 2 ^ (7 * k))) = acc + d * 128 ^ k := by
  have e : (2 : Int) ^ (7 * k) = 128 ^ k := by rw [Int.pow_mul]; rfl
  have hs := acc_step (k := k) h0 h1 d0 d1
  have hp := pow_le7 hk
  have hq := pow_pos7 k
  rw [Int.pow_succ] at hs
  rw [e]
  have e1 : 0 ≤ d * 128 ^ k := Int.mul_nonneg d0 (by omega)
  generalize d * 128 ^ k = q at *
  generalize (128 : Int) ^ k = p at *
  have w1 : wrap64 q = q := by unfold wrap64; omega
  rw [w1]
  unfold wrap64
  omega

theorem num_at {w0 : World} {g : Nat} {v : Value} {xs : List Int} {k0 : Nat} {w : World} (h : Rdr w0 g v xs k0 w) (hb : ∀ x ∈ xs, 0 ≤ x ∧ x ≤ 255) :
    Calls Try.prog 29 #[.pointer (some ⟨g, 0, none⟩)] w fun e w' => ((∃ y n, rdA 9 0 0 (xs.drop k0) = some (y, n) ∧ e = .returned (.int .i64 y) ∧ Rdr w0 g v xs (k0 + n : Nat) w') ∨ (rdA 9 0 0 (xs.drop k0) = none ∧ Bad e ∧ ∃ j, Rdr w0 g v xs j w')) ∧ w.grownBy w' (some g) := by
  have HB : Hid (∀ x ∈ xs, 0 ≤ x ∧ x ≤ 255) := hb
  clear hb
  go_enter Try.func29, Try.ntmps29
  go_wp2
  go_loopw [3, 6] (fun x s wr => ∃ (k : Nat) (acc : Int), k ≤ 9 ∧ s = .int .i64 k ∧ x = .int .i64 acc ∧ 0 ≤ acc ∧ acc < 128 ^ k ∧ rdA (9 - k) k acc (xs.drop (k0 + k)) = rdA 9 0 0 (xs.drop k0) ∧ Rdr w0 g v xs (k0 + k : Nat) wr ∧ w.grownBy wr (some g)) (fun _ s _ => 9 - (intOf s).toNat)
  case atStart => exact ⟨0, 0, by omega, rfl, rfl, by omega, by simp, rfl, h, World.grownBy.refl _ _⟩
  case round =>
    clear h
    obtain ⟨k, acc, hk, rfl, rfl, a0, a1, heq, rdr, gro⟩ := hrel
    have HEQ := (show Hid (_ = _) from heq)
    have HA := (show Hid (_ ∧ _) from ⟨a0, a1⟩)
    clear heq a1
    by_cases hk9 : k < 9
    · by_cases hin : k0 + k < xs.length
      · obtain ⟨d, hd⟩ : ∃ d, d = xs.getD (k0 + k) 0 := ⟨_, rfl⟩
        have one := oneByte_yes rdr HB.out hin
        rw [← hd] at one
        have hdb : 0 ≤ d ∧ d ≤ 255 := by
          rw [hd, List.getD_eq_getElem?_getD, List.getElem?_eq_getElem hin]
          exact HB.out _ (List.getElem_mem hin)
        have hdrop : xs.drop (k0 + k) = d :: xs.drop (k0 + k + 1) := by
          rw [hd, List.drop_eq_getElem_cons hin, List.getD_eq_getElem?_getD, List.getElem?_eq_getElem hin]
          rfl
        have HD := (show Hid (_ = _) from hdrop)
        have ONE : Hid (Calls Try.prog 36 #[.pointer (some ⟨g, 0, none⟩)] wr fun e w' => e = .returned (.int .i64 d) ∧ Rdr w0 g v xs (k0 + k + 1 : Nat) w' ∧ wr.grownBy w' (some g)) := one
        clear hd hdrop one
        go_wp2_with fail
        go_at_call 36
        refine ONE.out.mono ?_
        rintro e w2 ⟨rfl, r2, g2⟩
        replace g2 := grown_trans gro g2
        have R2 := (show Hid (_ ∧ _) from ⟨r2, g2⟩)
        clear r2 g2 ONE gro rdr
        by_cases hlt : d < 128
        · have hdm : d % 128 = d := by omega
          have hsh := sh_eq (k := k) (d := d) (by omega) HA.out.1 HA.out.2 hdb.1 hlt
          have HSH := (show Hid (_ = _) from hsh)
          clear hsh
          by_cases hbad : d = 0 ∧ 0 < k
          · obtain ⟨rfl, hkp⟩ := hbad
            have hz : ((k : Int) == 0) = false := by simp; omega
            go_wp2_with fail
            go_at_call 37
            refine (need_no _).mono ?_
            rintro e w4 ⟨⟨t, s, rfl⟩, rfl⟩
            go_wp2
            refine ⟨rfl, .inr ⟨?_, ⟨_, _, rfl⟩, _, R2.out.1⟩, R2.out.2⟩
            rw [← HEQ.out, HD.out]
            obtain ⟨m, hm⟩ : ∃ m, 9 - k = m + 1 := ⟨9 - k - 1, by omega⟩
            rw [hm, rdA_bad (by omega) ⟨rfl, hkp⟩]
          · have hend : ∃ y n, rdA 9 0 0 (xs.drop k0) = some (y, n) ∧ y = acc + d * 128 ^ k ∧ n = k + 1 := by
              refine ⟨_, _, ?_, rfl, rfl⟩
              rw [← HEQ.out, HD.out]
              obtain ⟨m, hm⟩ : ∃ m, 9 - k = m + 1 := ⟨9 - k - 1, by omega⟩
              rw [hm, rdA_end hlt hbad]
            have HEND := (show Hid (∃ y n, _) from hend)
            clear hend
            by_cases hd0 : 0 < d
            · go_wp2_with fail
              go_at_call 37
              refine (need_yes _).mono ?_
              rintro e w4 ⟨rfl, rfl⟩
              go_wp2
              go_ret
              obtain ⟨y, n, h1, rfl, rfl⟩ := HEND.out
              refine ⟨.inl ⟨_, _, h1, ret_int ?_, by rw [← Nat.add_assoc]; exact R2.out.1⟩, R2.out.2⟩
              first | exact HSH.out | (rw [hdm]; exact HSH.out)
            · have hz0 : d = 0 := by omega
              have hk0 : k = 0 := by omega
              subst hz0 hk0
              go_wp2_with fail
              go_at_call 37
              refine (need_yes _).mono ?_
              rintro e w4 ⟨rfl, rfl⟩
              go_wp2
              go_ret
              obtain ⟨y, n, h1, rfl, rfl⟩ := HEND.out
              refine ⟨.inl ⟨_, _, h1, ret_int ?_, by rw [← Nat.add_assoc]; exact R2.out.1⟩, R2.out.2⟩
              have ha := HA.out
              have hac : acc = 0 := by have := ha.2; simp at this; omega
              subst hac
              simp [wrap64]
        · have hsh := sh_eq (k := k) (d := d % 128) (by omega) HA.out.1 HA.out.2 (by omega) (by omega)
          have hac := acc_step (k := k) (d := d % 128) HA.out.1 HA.out.2 (by omega) (by omega)
          have HSH := (show Hid (_ ∧ _) from ⟨hsh, hac⟩)
          clear hsh hac
          go_wp2
          go_roundw
          case rel =>
            refine ⟨k + 1, _, by omega, by go_num, rfl, by rw [HSH.out.1]; exact HSH.out.2.1, by rw [HSH.out.1]; exact HSH.out.2.2, ?_, by rw [← Nat.add_assoc]; exact R2.out.1, R2.out.2⟩
            rw [HSH.out.1, ← HEQ.out, HD.out, ← Nat.add_assoc]
            obtain ⟨m, hm⟩ : ∃ m, 9 - k = m + 1 := ⟨9 - k - 1, by omega⟩
            have hm' : 9 - (k + 1) = m := by omega
            rw [hm, hm', rdA_on (by omega)]
          case measure => simp [intOf]; omega
      · have hno := oneByte_no rdr (.inr (by omega))
        have ONE : Hid (Calls Try.prog 36 #[.pointer (some ⟨g, 0, none⟩)] wr fun e w' => Bad e ∧ Rdr w0 g v xs (k0 + k : Nat) w' ∧ wr.grownBy w' (some g)) := hno
        clear hno
        go_wp2_with fail
        go_at_call 36
        refine ONE.out.mono ?_
        rintro e w2 ⟨⟨t, s, rfl⟩, r2, g2⟩
        go_wp2
        refine ⟨rfl, .inr ⟨?_, ⟨_, _, rfl⟩, _, r2⟩, grown_trans gro g2⟩
        rw [← HEQ.out, List.drop_eq_nil_of_le (by omega), rdA_nil]
    · have hke : k = 9 := by omega
      subst hke
      go_wp2
      refine ⟨rfl, .inr ⟨?_, ⟨_, _, rfl⟩, _, rdr⟩, gro⟩
      rw [← HEQ.out]
      rfl

theorem num_neg {w0 : World} {g : Nat} {v : Value} {xs : List Int} {i : Int} {w : World} (h : Rdr w0 g v xs i w) (hi : i < 0) :
    Calls Try.prog 29 #[.pointer (some ⟨g, 0, none⟩)] w fun e w' => Bad e ∧ (∃ j, Rdr w0 g v xs j w') ∧ w.grownBy w' (some g) := by
  have ONE : Hid (Calls Try.prog 36 #[.pointer (some ⟨g, 0, none⟩)] w fun e w' => Bad e ∧ Rdr w0 g v xs i w' ∧ w.grownBy w' (some g)) := oneByte_no h (.inl hi)
  go_enter Try.func29, Try.ntmps29
  go_wp2
  go_loopw [3, 6] (fun x s wr => x = .int .i64 0 ∧ s = .int .i64 0 ∧ Hid (wr = w)) (fun _ _ _ => 0)
  case atStart => exact ⟨rfl, rfl, rfl⟩
  case round =>
    obtain ⟨rfl, rfl, hw⟩ := hrel
    have e := hw.out
    subst e
    go_wp2_with fail
    go_at_call 36
    refine ONE.out.mono ?_
    rintro e w2 ⟨⟨t, s, rfl⟩, r2, g2⟩
    go_wp2
    exact ⟨rfl, ⟨_, _, rfl⟩, ⟨_, r2⟩, g2⟩

/-- num, at whatever place. -/
theorem num_any {w0 : World} {g : Nat} {v : Value} {xs : List Int} {i : Int} {w : World} (h : Rdr w0 g v xs i w) (hb : ∀ x ∈ xs, 0 ≤ x ∧ x ≤ 255) :
    Calls Try.prog 29 #[.pointer (some ⟨g, 0, none⟩)] w fun e w' => ((∃ y n, rdI xs i = some (y, n) ∧ e = .returned (.int .i64 y) ∧ Rdr w0 g v xs (i + n) w') ∨ (rdI xs i = none ∧ Bad e ∧ ∃ j, Rdr w0 g v xs j w')) ∧ w.grownBy w' (some g) := by
  by_cases hi : i < 0
  · refine (num_neg h hi).mono ?_
    rintro e w' ⟨h1, h2, h3⟩
    exact ⟨.inr ⟨rdI_neg hi, h1, h2⟩, h3⟩
  · obtain ⟨k, rfl⟩ : ∃ k : Nat, i = k := ⟨i.toNat, by omega⟩
    rw [rdI_nat]
    refine (num_at h hb).mono ?_
    rintro e w' ⟨h1, h3⟩
    refine ⟨?_, h3⟩
    rcases h1 with ⟨y, n, h1, h2, h4⟩ | h1
    · exact .inl ⟨y, n, h1, h2, by rw [Int.natCast_add] at h4; exact h4⟩
    · exact .inr h1
end Go.Proofs.Ytgcpdmnikoebkaa
