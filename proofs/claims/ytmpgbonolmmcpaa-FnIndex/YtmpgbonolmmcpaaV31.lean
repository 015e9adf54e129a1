/- The program's byteReader: need, oneByte. -/
import Derived.Test.YtmpgbonolmmcpaaV2
import Derived.Test.YtmpgbonolmmcpaaV12
import Derived.Defers
import Derived.Recover
import Derived.WalkLawsBesides
import Derived.Deep.RegionHeld
import Derived.Test.YtmpgbonolmmcpaaV19
import Derived.Test.YtmpgbonolmmcpaaV11
import Derived.Test.YtmpgbonolmmcpaaV13
import Derived.Test.YtmpgbonolmmcpaaV30
import Derived.Test.YtmpgbonolmmcpaaV8
import Derived.Test.YtmpgbonolmmcpaaV17
namespace Go.Proofs.Ytmpgbonolmmcpaa
open Go.RowKit
set_option maxRecDepth 100000
set_option linter.unusedVariables false

theorem wrap_b7 {x : Int} (h0 : 0 ≤ x) (h1 : x ≤ 255) : IntKind.i64.wrap x = x := by
  simp [IntKind.wrap, IntKind.bits, IntKind.signed]; omega
/-- One panic with a text. -/
def Bad (e : Ending) : Prop := ∃ (t : TypeId) (s : ByteArray), e = .panicked [{ v := .iface t (.string s), recovered := false }]

theorem need_yes (w : World) : Calls Try.prog 82 #[.bool true] w fun e w' => e = .returned (.tuple #[]) ∧ w' = w := by
  go_enter Try.func82, Try.ntmps82
  go_wp2
  go_end0
  exact ⟨rfl, rfl⟩
theorem need_no (w : World) : Calls Try.prog 82 #[.bool false] w fun e w' => Bad e ∧ w' = w := by
  go_enter Try.func82, Try.ntmps82
  go_wp2
  exact ⟨rfl, ⟨_, _, rfl⟩, rfl⟩

/-- The reader in block g, at the place i of the bytes xs, which lay in the world w0 before it. -/
def Rdr (w0 : World) (g : Nat) (v : Value) (xs : List Int) (i : Int) (w : World) : Prop :=
  w0.heap.size ≤ g ∧ Sl .u8 w0 v xs ∧ Below w0.heap.size w0 w ∧ xs.length ≤ 1099511627776 ∧ w.heap[g]? = some (.cells #[v, .int .i64 i] 74 (0, 0))
theorem Rdr.lt {w0 : World} {g : Nat} {v : Value} {xs : List Int} {i : Int} {w : World} (h : Rdr w0 g v xs i w) : g < w.heap.size := lt_of_block h.2.2.2.2
theorem Rdr.below {w0 : World} {g : Nat} {v : Value} {xs : List Int} {i : Int} {w w' : World} (h : Rdr w0 g v xs i w) (hb : Below w.heap.size w w') : Rdr w0 g v xs i w' := by
  have hlt := h.lt
  obtain ⟨h1, h2, h3, h4, h5⟩ := h
  exact ⟨h1, h2, h3.trans (hb.mono h3.size), h4, (hb.block g hlt).trans h5⟩
theorem Rdr.kept {w0 : World} {g : Nat} {v : Value} {xs : List Int} {i : Int} {w w' : World} {row : Option Nat} (h : Rdr w0 g v xs i w) (hg : w.grownBy w' row) (hne : row ≠ some g) (hr : ∀ k, row = some k → w0.heap.size ≤ k) : Rdr w0 g v xs i w' := by
  have hlt := h.lt
  obtain ⟨h1, h2, h3, h4, h5⟩ := h
  exact ⟨h1, h2, h3.grown hg h3.size hr, h4, by rw [hg.block g hlt (fun e => hne e.symm)]; exact h5⟩
theorem Rdr.sl {w0 : World} {g : Nat} {v : Value} {xs : List Int} {i : Int} {w : World} (h : Rdr w0 g v xs i w) : Sl .u8 w v xs := h.2.1.below h.2.2.1
theorem Rdr.drewN {w0 : World} {g : Nat} {v : Value} {xs : List Int} {i : Int} {w : World} (h : Rdr w0 g v xs i w) (n : Nat) : Rdr w0 g v xs i (w.drewN n) := h.below (below_drewN n)
theorem Rdr.set {w0 : World} {g : Nat} {v : Value} {xs : List Int} {i : Int} {w : World} (h : Rdr w0 g v xs i w) (j : Int) : Rdr w0 g v xs j (w.setCell ⟨g, 1, none⟩ (.int .i64 j)) := by
  obtain ⟨h1, h2, h3, h4, h5⟩ := h
  exact ⟨h1, h2, h3.setCell h1 _, h4, three_setCell h5⟩
theorem Rdr.cells {w0 : World} {g : Nat} {v : Value} {xs : List Int} {i : Int} {w : World} (h : Rdr w0 g v xs i w) :
    w.cell? ⟨g, 0, none⟩ = some v ∧ w.cell? ⟨g, 1, none⟩ = some (.int .i64 i) ∧ w.frozen? ⟨g, 1, none⟩ = false := by
  have hh := h.2.2.2.2
  refine ⟨?_, ?_, ?_⟩
  · simp only [World.cell?, hh]; rfl
  · simp only [World.cell?, hh]; rfl
  · simp only [World.frozen?, hh]; rfl

theorem oneByte_yes {w0 : World} {g : Nat} {v : Value} {xs : List Int} {k : Nat} {w : World} (h : Rdr w0 g v xs k w) (hb : ∀ x ∈ xs, 0 ≤ x ∧ x ≤ 255) (hk : k < xs.length) :
    Calls Try.prog 87 #[.pointer (some ⟨g, 0, none⟩)] w fun e w' => e = .returned (.int .i64 (xs.getD k 0)) ∧ Rdr w0 g v xs (k + 1 : Nat) w' ∧ w.grownBy w' (some g) := by
  obtain ⟨c0, c1, f1⟩ := h.cells
  have h4 := h.2.2.2.1
  have h0 := h
  obtain ⟨a, ca, rfl, _, _, _, ha⟩ := h.sl
  obtain ⟨b1, o1, rfl, cx⟩ := ha k hk
  clear ha h
  go_enter Try.func87, Try.ntmps87
  have hk0 : (0 : Int) ≤ k := by omega
  have hk1 : (k : Int) < xs.length := by omega
  go_wp2
  go_region_held (fun w' => w'.cell? ⟨g, 0, none⟩ = some (.slice (some ⟨b1, o1, none⟩) xs.length ca) ∧ w'.cell? ⟨g, 1, none⟩ = some (.int .i64 k)) (go_keep)
    ((go_at_call 82; refine (need_yes _).mono ?_; rintro e w4 ⟨rfl, rfl⟩))
  go_wp2
  go_region_held (fun w' => w'.cell? ⟨g, 0, none⟩ = some (.slice (some ⟨b1, o1, none⟩) xs.length ca) ∧ w'.cell? ⟨g, 1, none⟩ = some (.int .i64 k) ∧ w'.cell? ⟨b1, o1 + k, none⟩ = some (.int .u8 (xs.getD k 0))) (go_keep) (fail)
  have hwx : IntKind.i64.wrap xs[k] = xs.getD k 0 := by
    have := hb _ (List.getElem_mem hk)
    have e : xs.getD k 0 = xs[k] := by simp [List.getD_eq_getElem?_getD, hk]
    rw [e]
    exact wrap_b7 this.1 this.2
  have r2 := (h0.drewN 2).set (k + 1 : Nat)
  have g2 := grown_trans (grown_drewN w 2 (some g)) (grown_setCell (w.drewN 2) g 1 (.int .i64 (k + 1 : Nat)))
  have R2 := (show Hid (_ ∧ _) from ⟨r2, g2⟩)
  clear r2 g2 hb
  go_wp2
  go_ret
  exact ⟨ret_int hwx, R2.out⟩

set_option maxHeartbeats 400000 in
theorem oneByte_no {w0 : World} {g : Nat} {v : Value} {xs : List Int} {i : Int} {w : World} (h : Rdr w0 g v xs i w) (hk : i < 0 ∨ (xs.length : Int) ≤ i) :
    Calls Try.prog 87 #[.pointer (some ⟨g, 0, none⟩)] w fun e w' => Bad e ∧ Rdr w0 g v xs i w' ∧ w.grownBy w' (some g) := by
  obtain ⟨c0, c1, f1⟩ := h.cells
  have h0 := h
  obtain ⟨a, ca, rfl, _, _, _, ha⟩ := h.sl
  have R2 := (show Hid (_ ∧ _) from ⟨h0.drewN 1, grown_drewN w 1 (some g)⟩)
  clear ha h h0
  rcases hk with hk | hk
  · have hn : ¬ (0 ≤ i) := by omega
    have hn' : decide (0 ≤ i) = false := by simp; omega
    go_enter Try.func87, Try.ntmps87
    go_wp2
    refine region_tail 17 (by kernel_rfl) (by kernel_rfl) ?_
    intro w1 K1 hW1 hK1
    have ne := One.any w1
    have d1 : ∀ n : One w1, n.w.cell? ⟨g, 1, none⟩ = some (.int .i64 i) := fun n => by rw [n.eq, hW1.out]; exact c1
    simp only [List.take_succ_cons, List.take_zero, List.drop_succ_cons, List.drop_zero] at hK1 ⊢
    repeat (go_big_quiet_step (fail))
    refine wpQuiet_nil ?_
    refine hK1.out _ ?_
    clear hK1
    go_wp2_with fail
    go_at_call 82
    refine (need_no _).mono ?_
    rintro e w4 ⟨⟨t, s, rfl⟩, rfl⟩
    go_wp2
    rw [hW1.out]
    exact ⟨rfl, ⟨_, _, rfl⟩, R2.out⟩
  · by_cases h0 : 0 ≤ i
    · have hn : ¬ (i < xs.length) := by omega
      have hn' : decide (i < (xs.length : Int)) = false := by simp; omega
      go_enter Try.func87, Try.ntmps87
      go_wp2
      refine region_tail 17 (by kernel_rfl) (by kernel_rfl) ?_
      intro w1 K1 hW1 hK1
      have ne := One.any w1
      have d1 : ∀ n : One w1, n.w.cell? ⟨g, 1, none⟩ = some (.int .i64 i) := fun n => by rw [n.eq, hW1.out]; exact c1
      have d0 : ∀ n : One w1, n.w.cell? ⟨g, 0, none⟩ = some (.slice a xs.length ca) := fun n => by rw [n.eq, hW1.out]; exact c0
      simp only [List.take_succ_cons, List.take_zero, List.drop_succ_cons, List.drop_zero] at hK1 ⊢
      repeat (go_big_quiet_step (fail))
      refine wpQuiet_nil ?_
      refine hK1.out _ ?_
      clear hK1
      go_wp2_with fail
      go_at_call 82
      refine (need_no _).mono ?_
      rintro e w4 ⟨⟨t, s, rfl⟩, rfl⟩
      go_wp2
      rw [hW1.out]
      exact ⟨rfl, ⟨_, _, rfl⟩, R2.out⟩
    · omega
end Go.Proofs.Ytmpgbonolmmcpaa

/- The program's byteReader: num. -/
namespace Go.Proofs.Ytmpgbonolmmcpaa
open Go.RowKit
set_option maxRecDepth 100000
set_option linter.unusedVariables false

theorem sh_eq {k : Nat} {acc d : Int} (hk : k ≤ 8) (h0 : 0 ≤ acc) (h1 : acc < 128 ^ k) (d0 : 0 ≤ d) (d1 : d < 128) : wrap64 (acc + wrap64 (d * 2 ^ (7 * k))) = acc + d * 128 ^ k := by
  have e : (2 : Int) ^ (7 * k) = 128 ^ k := by rw [Int.pow_mul]; rfl
  have hs := acc_step (k := k) h0 h1 d0 d1
  have hp := pow_le7 hk
  have hq := pow_pos7 k
  rw [Int.pow_succ] at hs
  rw [e]
  have e1 : 0 ≤ d * 128 ^ k := Int.mul_nonneg d0 (by omega)
  generalize d * 128 ^ k = q at *
  generalize (128 : Int) ^ k = p at *
  have w1 : wrap64 q = q := by unfold wrap64; omega
  rw [w1]
  unfold wrap64
  omega

theorem num_at {w0 : World} {g : Nat} {v : Value} {xs : List Int} {k0 : Nat} {w : World} (h : Rdr w0 g v xs k0 w) (hb : ∀ x ∈ xs, 0 ≤ x ∧ x ≤ 255) :
    Calls Try.prog 80 #[.pointer (some ⟨g, 0, none⟩)] w fun e w' => ((∃ y n, rdA 9 0 0 (xs.drop k0) = some (y, n) ∧ e = .returned (.int .i64 y) ∧ Rdr w0 g v xs (k0 + n : Nat) w') ∨ (rdA 9 0 0 (xs.drop k0) = none ∧ Bad e ∧ ∃ j, Rdr w0 g v xs j w')) ∧ w.grownBy w' (some g) := by
  have HB : Hid (∀ x ∈ xs, 0 ≤ x ∧ x ≤ 255) := hb
  clear hb
  go_enter Try.func80, Try.ntmps80
  go_wp2
  go_loopw [3, 6] (fun x s wr => ∃ (k : Nat) (acc : Int), k ≤ 9 ∧ s = .int .i64 k ∧ x = .int .i64 acc ∧ 0 ≤ acc ∧ acc < 128 ^ k ∧ rdA (9 - k) k acc (xs.drop (k0 + k)) = rdA 9 0 0 (xs.drop k0) ∧ Rdr w0 g v xs (k0 + k : Nat) wr ∧ w.grownBy wr (some g)) (fun _ s _ => 9 - (intOf s).toNat)
  case atStart => exact ⟨0, 0, by omega, rfl, rfl, by omega, by simp, rfl, h, World.grownBy.refl _ _⟩
  case round =>
    clear h
    obtain ⟨k, acc, hk, rfl, rfl, a0, a1, heq, rdr, gro⟩ := hrel
    have HEQ := (show Hid (_ = _) from heq)
    have HA := (show Hid (_ ∧ _) from ⟨a0, a1⟩)
    clear heq a1
    by_cases hk9 : k < 9
    · by_cases hin : k0 + k < xs.length
      · obtain ⟨d, hd⟩ : ∃ d, d = xs.getD (k0 + k) 0 := ⟨_, rfl⟩
        have one := oneByte_yes rdr HB.out hin
        rw [← hd] at one
        have hdb : 0 ≤ d ∧ d ≤ 255 := by
          rw [hd, List.getD_eq_getElem?_getD, List.getElem?_eq_getElem hin]
          exact HB.out _ (List.getElem_mem hin)
        have hdrop : xs.drop (k0 + k) = d :: xs.drop (k0 + k + 1) := by
          rw [hd, List.drop_eq_getElem_cons hin, List.getD_eq_getElem?_getD, List.getElem?_eq_getElem hin]
          rfl
        have HD := (show Hid (_ = _) from hdrop)
        have ONE : Hid (Calls Try.prog 87 #[.pointer (some ⟨g, 0, none⟩)] wr fun e w' => e = .returned (.int .i64 d) ∧ Rdr w0 g v xs (k0 + k + 1 : Nat) w' ∧ wr.grownBy w' (some g)) := one
        clear hd hdrop one
        go_wp2_with fail
        go_at_call 87
        refine ONE.out.mono ?_
        rintro e w2 ⟨rfl, r2, g2⟩
        replace g2 := grown_trans gro g2
        have R2 := (show Hid (_ ∧ _) from ⟨r2, g2⟩)
        clear r2 g2 ONE gro rdr
        by_cases hlt : d < 128
        · have hdm : d % 128 = d := by omega
          have hsh := sh_eq (k := k) (d := d) (by omega) HA.out.1 HA.out.2 hdb.1 hlt
          have HSH := (show Hid (_ = _) from hsh)
          clear hsh
          by_cases hbad : d = 0 ∧ 0 < k
          · obtain ⟨rfl, hkp⟩ := hbad
            have hz : ((k : Int) == 0) = false := by simp; omega
            go_wp2_with fail
            go_at_call 82
            refine (need_no _).mono ?_
            rintro e w4 ⟨⟨t, s, rfl⟩, rfl⟩
            go_wp2
            refine ⟨rfl, .inr ⟨?_, ⟨_, _, rfl⟩, _, R2.out.1⟩, R2.out.2⟩
            rw [← HEQ.out, HD.out]
            obtain ⟨m, hm⟩ : ∃ m, 9 - k = m + 1 := ⟨9 - k - 1, by omega⟩
            rw [hm, rdA_bad (by omega) ⟨rfl, hkp⟩]
          · have hend : ∃ y n, rdA 9 0 0 (xs.drop k0) = some (y, n) ∧ y = acc + d * 128 ^ k ∧ n = k + 1 := by
              refine ⟨_, _, ?_, rfl, rfl⟩
              rw [← HEQ.out, HD.out]
              obtain ⟨m, hm⟩ : ∃ m, 9 - k = m + 1 := ⟨9 - k - 1, by omega⟩
              rw [hm, rdA_end hlt hbad]
            have HEND := (show Hid (∃ y n, _) from hend)
            clear hend
            by_cases hd0 : 0 < d
            · go_wp2_with fail
              go_at_call 82
              refine (need_yes _).mono ?_
              rintro e w4 ⟨rfl, rfl⟩
              go_wp2
              go_ret
              obtain ⟨y, n, h1, rfl, rfl⟩ := HEND.out
              refine ⟨.inl ⟨_, _, h1, ret_int ?_, by rw [← Nat.add_assoc]; exact R2.out.1⟩, R2.out.2⟩
              first | exact HSH.out | (rw [hdm]; exact HSH.out)
            · have hz0 : d = 0 := by omega
              have hk0 : k = 0 := by omega
              subst hz0 hk0
              go_wp2_with fail
              go_at_call 82
              refine (need_yes _).mono ?_
              rintro e w4 ⟨rfl, rfl⟩
              go_wp2
              go_ret
              obtain ⟨y, n, h1, rfl, rfl⟩ := HEND.out
              refine ⟨.inl ⟨_, _, h1, ret_int ?_, by rw [← Nat.add_assoc]; exact R2.out.1⟩, R2.out.2⟩
              have ha := HA.out
              have hac : acc = 0 := by have := ha.2; simp at this; omega
              subst hac
              simp [wrap64]
        · have hsh := sh_eq (k := k) (d := d % 128) (by omega) HA.out.1 HA.out.2 (by omega) (by omega)
          have hac := acc_step (k := k) (d := d % 128) HA.out.1 HA.out.2 (by omega) (by omega)
          have HSH := (show Hid (_ ∧ _) from ⟨hsh, hac⟩)
          clear hsh hac
          go_wp2
          go_roundw
          case rel =>
            refine ⟨k + 1, _, by omega, by go_num, rfl, by rw [HSH.out.1]; exact HSH.out.2.1, by rw [HSH.out.1]; exact HSH.out.2.2, ?_, by rw [← Nat.add_assoc]; exact R2.out.1, R2.out.2⟩
            rw [HSH.out.1, ← HEQ.out, HD.out, ← Nat.add_assoc]
            obtain ⟨m, hm⟩ : ∃ m, 9 - k = m + 1 := ⟨9 - k - 1, by omega⟩
            have hm' : 9 - (k + 1) = m := by omega
            rw [hm, hm', rdA_on (by omega)]
          case measure => simp [intOf]; omega
      · have hno := oneByte_no rdr (.inr (by omega))
        have ONE : Hid (Calls Try.prog 87 #[.pointer (some ⟨g, 0, none⟩)] wr fun e w' => Bad e ∧ Rdr w0 g v xs (k0 + k : Nat) w' ∧ wr.grownBy w' (some g)) := hno
        clear hno
        go_wp2_with fail
        go_at_call 87
        refine ONE.out.mono ?_
        rintro e w2 ⟨⟨t, s, rfl⟩, r2, g2⟩
        go_wp2
        refine ⟨rfl, .inr ⟨?_, ⟨_, _, rfl⟩, _, r2⟩, grown_trans gro g2⟩
        rw [← HEQ.out, List.drop_eq_nil_of_le (by omega), rdA_nil]
    · have hke : k = 9 := by omega
      subst hke
      go_wp2
      refine ⟨rfl, .inr ⟨?_, ⟨_, _, rfl⟩, _, rdr⟩, gro⟩
      rw [← HEQ.out]
      rfl

theorem num_neg {w0 : World} {g : Nat} {v : Value} {xs : List Int} {i : Int} {w : World} (h : Rdr w0 g v xs i w) (hi : i < 0) :
    Calls Try.prog 80 #[.pointer (some ⟨g, 0, none⟩)] w fun e w' => Bad e ∧ (∃ j, Rdr w0 g v xs j w') ∧ w.grownBy w' (some g) := by
  have ONE : Hid (Calls Try.prog 87 #[.pointer (some ⟨g, 0, none⟩)] w fun e w' => Bad e ∧ Rdr w0 g v xs i w' ∧ w.grownBy w' (some g)) := oneByte_no h (.inl hi)
  go_enter Try.func80, Try.ntmps80
  go_wp2
  go_loopw [3, 6] (fun x s wr => x = .int .i64 0 ∧ s = .int .i64 0 ∧ Hid (wr = w)) (fun _ _ _ => 0)
  case atStart => exact ⟨rfl, rfl, rfl⟩
  case round =>
    obtain ⟨rfl, rfl, hw⟩ := hrel
    have e := hw.out
    subst e
    go_wp2_with fail
    go_at_call 87
    refine ONE.out.mono ?_
    rintro e w2 ⟨⟨t, s, rfl⟩, r2, g2⟩
    go_wp2
    exact ⟨rfl, ⟨_, _, rfl⟩, ⟨_, r2⟩, g2⟩

/-- num, at whatever place. -/
theorem num_any {w0 : World} {g : Nat} {v : Value} {xs : List Int} {i : Int} {w : World} (h : Rdr w0 g v xs i w) (hb : ∀ x ∈ xs, 0 ≤ x ∧ x ≤ 255) :
    Calls Try.prog 80 #[.pointer (some ⟨g, 0, none⟩)] w fun e w' => ((∃ y n, rdI xs i = some (y, n) ∧ e = .returned (.int .i64 y) ∧ Rdr w0 g v xs (i + n) w') ∨ (rdI xs i = none ∧ Bad e ∧ ∃ j, Rdr w0 g v xs j w')) ∧ w.grownBy w' (some g) := by
  by_cases hi : i < 0
  · refine (num_neg h hi).mono ?_
    rintro e w' ⟨h1, h2, h3⟩
    exact ⟨.inr ⟨rdI_neg hi, h1, h2⟩, h3⟩
  · obtain ⟨k, rfl⟩ : ∃ k : Nat, i = k := ⟨i.toNat, by omega⟩
    rw [rdI_nat]
    refine (num_at h hb).mono ?_
    rintro e w' ⟨h1, h3⟩
    refine ⟨?_, h3⟩
    rcases h1 with ⟨y, n, h1, h2, h4⟩ | h1
    · exact .inl ⟨y, n, h1, h2, by rw [Int.natCast_add] at h4; exact h4⟩
    · exact .inr h1
end Go.Proofs.Ytmpgbonolmmcpaa

/- The program's readWell: what is recovered at the face. -/
namespace Go.Proofs.Ytmpgbonolmmcpaa
open Go.RowKit
set_option maxRecDepth 100000
set_option linter.unusedVariables false

theorem catch_bad (p : Addr) (x : Bool) (t : TypeId) (s : ByteArray) (older : List PanicEntry) (w : World) (hc : w.cell? p = some (.bool x)) (hz : w.frozen? p = false) :
    CallsD Try.prog 79 #[.pointer (some p)] (.panicking ({ v := .iface t (.string s), recovered := false } :: older)) w fun e u' w' =>
      e = .returned (.tuple #[]) ∧ u' = .panicking ({ v := .iface t (.string s), recovered := true } :: older) ∧ w' = w.setCell p (.bool false) := by
  refine callsD_of_wpS Try.func79 rfl fun c₀ cs hu => ?_
  apply wpS_region
  simp [wpOpsS, go_sem, recoverD, hu, hc, hz, Try.ntmps79, bodyPostS, results, Try.results79]

theorem catch_idle (p : Addr) (x : Bool) (w : World) (hc : w.cell? p = some (.bool x)) (hz : w.frozen? p = false) :
    CallsD Try.prog 79 #[.pointer (some p)] .returning w fun e u' w' => e = .returned (.tuple #[]) ∧ u' = .returning ∧ w' = w.setCell p (.bool true) := by
  refine callsD_of_wpS Try.func79 rfl fun c₀ cs hu => ?_
  apply wpS_region
  simp [wpOpsS, go_sem, recoverD, hu, hc, hz, Try.ntmps79, bodyPostS, results, Try.results79]
  all_goals (cases c₀; simp_all)

/-- A variable of the call's own that a closure has caught: one cell. -/
def Box (w : World) (b : Nat) (t : TypeId) (u : Value) : Prop := w.heap[b]? = some (.cells #[u] t (0, 0))
theorem Box.lt {w : World} {b : Nat} {t : TypeId} {u : Value} (h : Box w b t u) : b < w.heap.size := lt_of_block h
theorem Box.cell {w : World} {b : Nat} {t : TypeId} {u : Value} (h : Box w b t u) : w.cell? ⟨b, 0, none⟩ = some u ∧ w.frozen? ⟨b, 0, none⟩ = false := by
  unfold Box at h
  constructor
  · simp only [World.cell?, h]; rfl
  · simp only [World.frozen?, h]; rfl
theorem Box.grown {w w' : World} {b : Nat} {t : TypeId} {u : Value} {row : Option Nat} (h : Box w b t u) (hg : w.grownBy w' row) (hne : row ≠ some b) : Box w' b t u :=
  (hg.block b h.lt (fun e => hne e.symm)).trans h
theorem Box.set {w : World} {b : Nat} {t : TypeId} {u : Value} (h : Box w b t u) (u' : Value) : Box (w.setCell ⟨b, 0, none⟩ u') b t u' := three_setCell h
/-- Nothing but the blocks g and x is turned. -/
def Only (g x : Nat) (w w' : World) : Prop := w.heap.size ≤ w'.heap.size ∧ ∀ j, j < w.heap.size → j ≠ g → j ≠ x → w'.heap[j]? = w.heap[j]?
theorem only_grown {g x : Nat} {w w' : World} (h : w.grownBy w' (some g)) : Only g x w w' := ⟨h.size, fun j hj h1 _ => h.block j hj (fun e => h1 (by injection e))⟩
theorem Only.set {g x : Nat} {w w' : World} (h : Only g x w w') (u : Value) : Only g x w (w'.setCell ⟨x, 0, none⟩ u) :=
  ⟨by simp [World.setCell]; exact h.1, fun j hj h1 h2 => (Below.heap_setCell _ _ _ j (fun e => h2 (by rw [e]))).trans (h.2 j hj h1 h2)⟩
theorem Only.box {g x : Nat} {w w' : World} (h : Only g x w w') {b : Nat} {t : TypeId} {u : Value} (hb : Box w b t u) (h1 : b ≠ g) (h2 : b ≠ x) : Box w' b t u := (h.2 b hb.lt h1 h2).trans hb
end Go.Proofs.Ytmpgbonolmmcpaa

/- The program's byteReader: text. -/
namespace Go.Proofs.Ytmpgbonolmmcpaa
open Go.RowKit
set_option maxRecDepth 100000
set_option linter.unusedVariables false

theorem wrap_fit7 {x : Int} (h0 : -9223372036854775808 ≤ x) (h1 : x ≤ 9223372036854775807) : IntKind.i64.wrap x = x := by
  simp [IntKind.wrap, IntKind.bits, IntKind.signed]; omega

set_option maxHeartbeats 1000000 in
theorem text_any {w0 : World} {g : Nat} {v : Value} {xs : List Int} {i : Int} {w : World} (h : Rdr w0 g v xs i w) (hb : ∀ x ∈ xs, 0 ≤ x ∧ x ≤ 255) :
    Calls Try.prog 81 #[.pointer (some ⟨g, 0, none⟩)] w fun e w' => ((∃ t j, rdT xs i = some (t, j) ∧ e = .returned (.string (strOf t)) ∧ Rdr w0 g v xs j w') ∨ (rdT xs i = none ∧ Bad e ∧ ∃ j, Rdr w0 g v xs j w')) ∧ w.grownBy w' (some g) := by
  have CALL := (show Hid (Calls Try.prog 80 #[.pointer (some ⟨g, 0, none⟩)] w _) from num_any h hb)
  go_enter Try.func81, Try.ntmps81
  go_wp2_with fail
  go_at_call 80
  refine CALL.out.mono ?_
  rintro e w2 ⟨hor, g2⟩
  clear CALL
  rcases hor with ⟨y, n, hy, rfl, r2⟩ | ⟨hy, ⟨t, s, rfl⟩, j, r2⟩
  · obtain ⟨k, p, rfl, hp, hpl, hkm, -⟩ := rdI_nats hy hb
    rw [hp] at r2
    obtain ⟨c0, c1, f1⟩ := r2.cells
    have h4 := r2.2.2.2.1
    have hsl := r2.sl
    have R2 := (show Hid (_ ∧ _) from ⟨r2, g2⟩)
    by_cases hk : (k : Int) ≤ xs.length - (p : Int)
    · have HT := (show Hid (_ = _) from rdT_fit hy hp hk)
      clear hy hp r2 g2 h
      obtain ⟨a, ca, rfl, hl1, hl2, hl3, ha⟩ := hsl
      clear ha
      have hwr : IntKind.i64.wrap ((xs.length : Int) - (p : Int)) = (xs.length : Int) - (p : Int) := wrap_fit7 (by omega) (by omega)
      go_wp2
      go_region_held (fun w' => w'.cell? ⟨g, 0, none⟩ = some (.slice a xs.length ca) ∧ w'.cell? ⟨g, 1, none⟩ = some (.int .i64 p)) (go_keep)
        ((go_at_call 82; refine (need_yes _).mono ?_; rintro e w4 ⟨rfl, rfl⟩))
      go_wp2
      refine region_tail 9 (by kernel_rfl) (by kernel_rfl) ?_
      intro w1 K1 hW1 hK1
      have ne := One.any w1
      have r3 : Rdr w0 g (.slice a xs.length ca) xs ((p : Int) + (k : Int)) w1 := by rw [hW1.out]; exact ((R2.out.1.set _).drewN 1).drewN 1
      have g3 : w.grownBy w1 (some g) := by rw [hW1.out]; exact grown_trans (grown_trans R2.out.2 (grown_setCell w2 g 1 (.int .i64 ((p : Int) + (k : Int))))) (grown_drewN _ 2 _)
      have hs1 := r3.sl
      obtain ⟨e0, e1, _⟩ := r3.cells
      have d1 : ∀ n : One w1, n.w.cell? ⟨g, 1, none⟩ = some (.int .i64 ((p : Int) + (k : Int))) := fun n => by rw [n.eq]; exact e1
      have d0 : ∀ n : One w1, n.w.cell? ⟨g, 0, none⟩ = some (.slice a xs.length ca) := fun n => by rw [n.eq]; exact e0
      have END := (show Hid (_ ∧ _ ∧ _) from ⟨HT.out, r3, g3⟩)
      clear HT R2 hW1 r3 g3 c0 c1 f1 hwr
      simp only [List.take_succ_cons, List.take_zero, List.drop_succ_cons, List.drop_zero] at hK1 ⊢
      repeat (go_big_quiet_step (fail))
      refine wpQuiet_nil ?_
      refine hK1.out _ ?_
      clear hK1
      by_cases hca : ca = p
      · subst hca
        obtain rfl : k = 0 := by omega
        have cv := conv_sl (sub_sl0 (K := .u8) (w := w1) a)
        go_wp2
        go_ret
        obtain ⟨t1, t2, t3⟩ := END.out
        exact ⟨.inl ⟨_, _, t1, by simp, t2⟩, t3⟩
      · have cv := conv_sl (sub_sl hs1 (p := p) (k := k) (by omega) hca)
        go_wp2
        go_ret
        obtain ⟨t1, t2, t3⟩ := END.out
        exact ⟨.inl ⟨_, _, t1, rfl, t2⟩, t3⟩
    · have HT := (show Hid (_ = _) from rdT_over hy hp hk)
      clear hy hp r2 g2 h
      obtain ⟨a, ca, rfl, hl1, hl2, hl3, ha⟩ := hsl
      clear ha
      have hk' : decide ((k : Int) ≤ xs.length - (p : Int)) = false := by simp; omega
      go_wp2
      refine region_tail 12 (by kernel_rfl) (by kernel_rfl) ?_
      intro w1 K1 hW1 hK1
      have ne := One.any w1
      have d1 : ∀ n : One w1, n.w.cell? ⟨g, 1, none⟩ = some (.int .i64 p) := fun n => by rw [n.eq, hW1.out]; exact c1
      have d0 : ∀ n : One w1, n.w.cell? ⟨g, 0, none⟩ = some (.slice a xs.length ca) := fun n => by rw [n.eq, hW1.out]; exact c0
      simp only [List.take_succ_cons, List.take_zero, List.drop_succ_cons, List.drop_zero] at hK1 ⊢
      repeat (go_big_quiet_step (fail))
      refine wpQuiet_nil ?_
      refine hK1.out _ ?_
      clear hK1
      go_wp2_with fail
      go_at_call 82
      refine (need_no _).mono ?_
      rintro e w4 ⟨⟨t, s, rfl⟩, rfl⟩
      go_wp2
      rw [hW1.out]
      exact ⟨rfl, .inr ⟨HT.out, ⟨_, _, rfl⟩, _, R2.out.1.drewN 1⟩, grown_trans R2.out.2 (grown_drewN w2 1 _)⟩
  · have END := (show Hid (_ ∧ _ ∧ _) from ⟨rdT_none hy, r2, g2⟩)
    clear hy r2 g2
    go_wp2
    exact ⟨rfl, .inr ⟨END.out.1, ⟨_, _, rfl⟩, _, END.out.2.1⟩, END.out.2.2⟩
end Go.Proofs.Ytmpgbonolmmcpaa

/- The program's byteReader: record. -/
namespace Go.Proofs.Ytmpgbonolmmcpaa
open Go.RowKit
set_option maxRecDepth 100000
set_option linter.unusedVariables false

/-- The reader in block g at the place i, and listed blocks that the call made, in a world W that is w with more, but for block g. -/
structure RdL (w0 w : World) (g : Nat) (v : Value) (xs : List Int) (i : Int) (L : List (Nat × Array Value × TypeId)) (W : World) : Prop where
  rd : Rdr w0 g v xs i W
  gr : w.grownBy W (some g)
  blk : ∀ p ∈ L, W.heap[p.1]? = some (.cells p.2.1 p.2.2 (0, 0)) ∧ p.1 ≠ g ∧ w.heap.size ≤ p.1
theorem RdL.start {w0 w : World} {g : Nat} {v : Value} {xs : List Int} {i : Int} (h : Rdr w0 g v xs i w) : RdL w0 w g v xs i [] w := ⟨h, World.grownBy.refl _ _, fun p hp => absurd hp (by simp)⟩
theorem RdL.call {w0 w : World} {g : Nat} {v : Value} {xs : List Int} {i j : Int} {L : List (Nat × Array Value × TypeId)} {W W' : World} (h : RdL w0 w g v xs i L W) (r : Rdr w0 g v xs j W') (k : W.grownBy W' (some g)) : RdL w0 w g v xs j L W' :=
  ⟨r, grown_trans h.gr k, fun p hp => by
    obtain ⟨h1, h2, h3⟩ := h.blk p hp
    exact ⟨(k.block p.1 (lt_of_block h1) (fun e => h2 (by injection e))).trans h1, h2, h3⟩⟩
theorem RdL.below {w0 w : World} {g : Nat} {v : Value} {xs : List Int} {i : Int} {L : List (Nat × Array Value × TypeId)} {W W' : World} (h : RdL w0 w g v xs i L W) (b : Below W.heap.size W W') : RdL w0 w g v xs i L W' :=
  ⟨h.rd.below b, grown_below h.gr b, fun p hp => by
    obtain ⟨h1, h2, h3⟩ := h.blk p hp
    exact ⟨(b.block p.1 (lt_of_block h1)).trans h1, h2, h3⟩⟩
theorem RdL.new {w0 w : World} {g : Nat} {v : Value} {xs : List Int} {i : Int} {L : List (Nat × Array Value × TypeId)} {W : World} (h : RdL w0 w g v xs i L W) (cs : Array Value) (t : TypeId) : RdL w0 w g v xs i ((W.heap.size, cs, t) :: L) (W.alloc (.cells cs t)) := by
  have hb : Below W.heap.size W (W.alloc (.cells cs t)) := (Below.refl _ _).alloc (Nat.le_refl _) _
  have h' := h.below hb
  refine ⟨h'.rd, h'.gr, fun p hp => ?_⟩
  rcases List.mem_cons.mp hp with rfl | hp
  · exact ⟨World.alloc_heap_new _ _, Nat.ne_of_gt h.rd.lt, h.gr.size⟩
  · exact h'.blk p hp
theorem RdL.set {w0 w : World} {g : Nat} {v : Value} {xs : List Int} {i : Int} {L : List (Nat × Array Value × TypeId)} {N : Nat} {cs : Array Value} {t : TypeId} {W : World} (h : RdL w0 w g v xs i ((N, cs, t) :: L) W) (hw : w0.heap.size ≤ w.heap.size) (hL : ∀ p ∈ L, p.1 ≠ N) (k : Nat) (u : Value) : RdL w0 w g v xs i ((N, cs.setIfInBounds k u, t) :: L) (W.setCell ⟨N, k, none⟩ u) := by
  obtain ⟨n1, n2, n3⟩ := h.blk (N, cs, t) (List.mem_cons_self ..)
  have hg := grown_setCell W N k u
  have hn2 : N ≠ g := n2
  have hn3 : w.heap.size ≤ N := n3
  refine ⟨h.rd.kept hg (fun e => hn2 (by injection e)) (fun j hj => by injection hj with hj; omega), grown_past h.gr hg (fun j hj => by injection hj with hj; omega), fun p hp => ?_⟩
  rcases List.mem_cons.mp hp with rfl | hp
  · exact ⟨rk_at n1, n2, n3⟩
  · obtain ⟨h1, h2, h3⟩ := h.blk p (List.mem_cons_of_mem _ hp)
    exact ⟨(hg.block p.1 (lt_of_block h1) (fun e => hL p hp (Option.some.inj e))).trans h1, h2, h3⟩
theorem RdL.at0 {w0 w : World} {g : Nat} {v : Value} {xs : List Int} {i : Int} {L : List (Nat × Array Value × TypeId)} {N : Nat} {cs : Array Value} {t : TypeId} {W : World} (h : RdL w0 w g v xs i ((N, cs, t) :: L) W) : W.heap[N]? = some (.cells cs t (0, 0)) := (h.blk _ (List.mem_cons_self ..)).1
theorem RdL.at1 {w0 w : World} {g : Nat} {v : Value} {xs : List Int} {i : Int} {L : List (Nat × Array Value × TypeId)} {q : Nat × Array Value × TypeId} {N : Nat} {cs : Array Value} {t : TypeId} {W : World} (h : RdL w0 w g v xs i (q :: (N, cs, t) :: L) W) : W.heap[N]? = some (.cells cs t (0, 0)) := (h.blk _ (List.mem_cons_of_mem _ (List.mem_cons_self ..))).1
theorem RdL.swap {w0 w : World} {g : Nat} {v : Value} {xs : List Int} {i : Int} {L : List (Nat × Array Value × TypeId)} {p q : Nat × Array Value × TypeId} {W : World} (h : RdL w0 w g v xs i (p :: q :: L) W) : RdL w0 w g v xs i (q :: p :: L) W := ⟨h.rd, h.gr, fun r hr => h.blk r (by simp only [List.mem_cons] at hr ⊢; rcases hr with hr | hr | hr <;> simp [hr])⟩
theorem RdL.set3 {w0 w : World} {g : Nat} {v : Value} {xs : List Int} {i : Int} {L : List (Nat × Array Value × TypeId)} {N : Nat} {x y z : Value} {t : TypeId} {W : World} (h : RdL w0 w g v xs i ((N, #[x, y, z], t) :: L) W) (hw : w0.heap.size ≤ w.heap.size) (hL : ∀ p ∈ L, p.1 ≠ N) (a b c : Value) : RdL w0 w g v xs i ((N, #[a, b, c], t) :: L) (((W.setCell ⟨N, 0, none⟩ a).setCell ⟨N, 1, none⟩ b).setCell ⟨N, 2, none⟩ c) := ((h.set hw hL 0 a).set hw hL 1 b).set hw hL 2 c

theorem recOne_res {fn : Func} {p : Tmp} (hr : fn.results = #[.cell p 25]) {tmps : Array Value} {w : World} {g : Nat} {a b c : Value} (h4 : tmps.getD p undef = .pointer (some ⟨g, 0, none⟩)) (hb : w.heap[g]? = some (.cells #[a, b, c] 25 (0, 0))) :
    (results fn tmps).run Try.prog w = .ok (.agg #[a, b, c]) w := results_cell_row hr tmps w g 25 #[a, b, c] (0, 0) _ h4 hb Try.underlying25 rfl rfl

/-- What record answers: the record at a place, or a panic. -/
def RecAt (w0 w : World) (g : Nat) (v : Value) (xs : List Int) (i : Int) (e : Ending) (w' : World) : Prop :=
  ((∃ r j, readR xs i = (r, j, true) ∧ e = .returned (recV r) ∧ Rdr w0 g v xs j w') ∨ ((readR xs i).2.2 = false ∧ Bad e ∧ ∃ j, Rdr w0 g v xs j w')) ∧ w.grownBy w' (some g)

/-- The end of record: what was read is held against recordOk. -/
theorem recEnd_pair {xs : List Int} {i : Int} {r : PRec} {j : Int} (h : readR xs i = if recB r = true then (r, j, true) else (zeroR, 0, false)) : (recB r = true → readR xs i = (r, j, true)) ∧ (recB r = false → (readR xs i).2.2 = false) :=
  ⟨fun e => by rw [h, if_pos e], fun e => by rw [h, if_neg (by rw [e]; decide)]⟩

set_option maxHeartbeats 400000 in
set_option maxRecDepth 100000 in
theorem irecord_any {w0 : World} {g : Nat} {v : Value} {xs : List Int} {i : Int} {w : World} (h : Rdr w0 g v xs i w) (hb : ∀ x ∈ xs, 0 ≤ x ∧ x ≤ 255) :
    Calls Try.prog 58 #[.pointer (some ⟨g, 0, none⟩)] w fun e w' => RecAt w0 w g v xs i e w' := by
  have HB := (show Hid (∀ x ∈ xs, 0 ≤ x ∧ x ≤ 255) from hb)
  have HW := (show Hid (w0.heap.size ≤ w.heap.size) from h.2.2.1.size)
  have HN := (show Hid (xs.length ≤ 1099511627776) from h.2.2.2.1)
  clear hb
  obtain ⟨w1, hw1⟩ : ∃ y, y = w.alloc (.cells #[.int .i64 0, .string ⟨#[]⟩, .string ⟨#[]⟩] 25) := ⟨_, rfl⟩
  have h1 := (RdL.start h).new #[.int .i64 0, .string ⟨#[]⟩, .string ⟨#[]⟩] 25
  rw [← hw1] at h1
  have H1 := (show Hid (RdL w0 w g v xs i [(w.heap.size, #[.int .i64 0, .string ⟨#[]⟩, .string ⟨#[]⟩], 25)] w1) from h1)
  have C1 := (show Hid (Calls Try.prog 80 #[.pointer (some ⟨g, 0, none⟩)] w1 _) from num_any h1.rd HB.out)
  clear h1 h
  go_enter Try.func58, Try.ntmps58
  go_wp2_with fail
  go_at_call 80
  rw [← hw1]
  clear hw1
  refine C1.out.mono ?_
  rintro e w2 ⟨hor, g2⟩
  clear C1
  rcases hor with ⟨k, n, hy, rfl, r2⟩ | ⟨hy, ⟨t, s, rfl⟩, j, r2⟩
  rotate_left
  · have END := (show Hid ((readR xs i).2.2 = false ∧ RdL w0 w g v xs j [(w.heap.size, #[.int .i64 0, .string ⟨#[]⟩, .string ⟨#[]⟩], 25)] w2) from ⟨by rw [readR, hy], H1.out.call r2 g2⟩)
    clear hy r2 g2
    go_wp2
    exact ⟨rfl, .inr ⟨END.out.1, ⟨_, _, rfl⟩, _, END.out.2.rd⟩, END.out.2.gr⟩
  have H2 := (show Hid (RdL w0 w g v xs (i + n) [(w.heap.size, #[.int .i64 0, .string ⟨#[]⟩, .string ⟨#[]⟩], 25)] w2) from H1.out.call r2 g2)
  have Y1 := (show Hid (rdI xs i = some (k, n)) from hy)
  have C2 := (show Hid (Calls Try.prog 81 #[.pointer (some ⟨g, 0, none⟩)] w2 _) from text_any r2 HB.out)
  clear hy r2 g2 H1
  go_wp2_with fail
  go_at_call 81
  refine C2.out.mono ?_
  rintro e w3 ⟨hor, g3⟩
  clear C2
  rcases hor with ⟨t, j, hy, rfl, r3⟩ | ⟨hy, ⟨t, s, rfl⟩, j, r3⟩
  rotate_left
  · have END := (show Hid ((readR xs i).2.2 = false ∧ RdL w0 w g v xs j [(w.heap.size, #[.int .i64 0, .string ⟨#[]⟩, .string ⟨#[]⟩], 25)] w3) from ⟨by rw [readR, Y1.out]; simp only; rw [hy], H2.out.call r3 g3⟩)
    clear hy r3 g3
    go_wp2
    exact ⟨rfl, .inr ⟨END.out.1, ⟨_, _, rfl⟩, _, END.out.2.rd⟩, END.out.2.gr⟩
  have H3 := (show Hid (RdL w0 w g v xs j [(w.heap.size, #[.int .i64 0, .string ⟨#[]⟩, .string ⟨#[]⟩], 25)] w3) from H2.out.call r3 g3)
  have Y2 := (show Hid (rdT xs (i + n) = some (t, j)) from hy)
  have L2 := (show Hid ((strOf t).size ≤ 1099511627776) from by rw [strOf_size]; exact Nat.le_trans (rdT_len hy) HN.out)
  clear hy r3 g3 H2
  obtain ⟨w4, hw4⟩ : ∃ y, y = w3.alloc (.cells #[.int .i64 k, .string (strOf t), .string ⟨#[]⟩] 25) := ⟨_, rfl⟩
  have h4 := H3.out.new #[.int .i64 k, .string (strOf t), .string ⟨#[]⟩] 25
  rw [← hw4] at h4
  have H4 := (show Hid (RdL w0 w g v xs j [(w3.heap.size, #[.int .i64 k, .string (strOf t), .string ⟨#[]⟩], 25), (w.heap.size, #[.int .i64 0, .string ⟨#[]⟩, .string ⟨#[]⟩], 25)] w4) from h4)
  have NE := (show Hid (w.heap.size ≠ w3.heap.size) from Nat.ne_of_lt (lt_of_block H3.out.at0))
  clear h4
  obtain ⟨m1, m2, m3, x1, x2, x3⟩ := rk_three H4.out.at0
  by_cases hk : k = 1
  · subst hk
    have C3 := (show Hid (Calls Try.prog 81 #[.pointer (some ⟨g, 0, none⟩)] w4 _) from text_any H4.out.rd HB.out)
    go_wp2_with fail
    go_at_call 81
    rw [← hw4]
    clear hw4
    refine C3.out.mono ?_
    rintro e w5 ⟨hor, g5⟩
    clear C3 m1 m2 m3 x1 x2 x3
    rcases hor with ⟨t2, m, hy, rfl, r5⟩ | ⟨hy, ⟨t', s, rfl⟩, m, r5⟩
    rotate_left
    · have END := (show Hid ((readR xs i).2.2 = false ∧ RdL w0 w g v xs m [(w3.heap.size, #[.int .i64 1, .string (strOf t), .string ⟨#[]⟩], 25), (w.heap.size, #[.int .i64 0, .string ⟨#[]⟩, .string ⟨#[]⟩], 25)] w5) from ⟨by rw [readR, Y1.out]; simp only; rw [Y2.out]; simp only; rw [if_pos trivial, hy], H4.out.call r5 g5⟩)
      clear hy r5 g5
      go_wp2
      exact ⟨rfl, .inr ⟨END.out.1, ⟨_, _, rfl⟩, _, END.out.2.rd⟩, END.out.2.gr⟩
    have H5 := (show Hid (RdL w0 w g v xs m [(w3.heap.size, #[.int .i64 1, .string (strOf t), .string ⟨#[]⟩], 25), (w.heap.size, #[.int .i64 0, .string ⟨#[]⟩, .string ⟨#[]⟩], 25)] w5) from H4.out.call r5 g5)
    have HR := (show Hid ((recB ⟨1, strOf t, strOf t2⟩ = true → readR xs i = (⟨1, strOf t, strOf t2⟩, m, true)) ∧ (recB ⟨1, strOf t, strOf t2⟩ = false → (readR xs i).2.2 = false)) from recEnd_pair (by rw [readR, Y1.out]; simp only; rw [Y2.out]; simp only; rw [if_pos trivial, hy]))
    clear hy r5 g5 H4 Y1 Y2
    obtain ⟨m1, m2, m3, x1, x2, x3⟩ := rk_three H5.out.at0
    obtain ⟨w6, hw6⟩ : ∃ y, y = w5.setCell ⟨w3.heap.size, 2, none⟩ (.string (strOf t2)) := ⟨_, rfl⟩
    have h6 := H5.out.set HW.out (fun p hp => by
      simp only [List.mem_cons, List.not_mem_nil, or_false] at hp
      rw [hp]; exact NE.out) 2 (.string (strOf t2))
    rw [← hw6] at h6
    have H6 := (show Hid (RdL w0 w g v xs m [(w3.heap.size, #[.int .i64 1, .string (strOf t), .string (strOf t2)], 25), (w.heap.size, #[.int .i64 0, .string ⟨#[]⟩, .string ⟨#[]⟩], 25)] w6) from h6)
    have CO := (show Hid (Calls Try.prog 50 #[.agg #[.int .i64 1, .string (strOf t), .string (strOf t2)]] w6 _) from irecordOk_any ⟨1, strOf t, strOf t2⟩ w6 L2.out)
    clear h6 H5
    obtain ⟨q, hq⟩ : ∃ q, q = recB ⟨1, strOf t, strOf t2⟩ := ⟨_, rfl⟩
    rw [← hq] at CO HR
    clear hq
    go_wp2_with fail
    go_at_call 50
    rw [← hw6]
    clear hw6 m1 m2 m3 x1 x2 x3
    refine CO.out.mono ?_
    rintro e w7 ⟨rfl, b7⟩
    have H7 := (show Hid (RdL w0 w g v xs m [(w3.heap.size, #[.int .i64 1, .string (strOf t), .string (strOf t2)], 25), (w.heap.size, #[.int .i64 0, .string ⟨#[]⟩, .string ⟨#[]⟩], 25)] w7) from H6.out.below b7)
    clear b7 CO H6
    cases q
    · go_wp2_with fail
      go_at_call 82
      refine (need_no _).mono ?_
      rintro e w8 ⟨⟨t', s, rfl⟩, rfl⟩
      go_wp2
      exact ⟨rfl, .inr ⟨HR.out.2 trivial, ⟨_, _, rfl⟩, _, H7.out.rd⟩, H7.out.gr⟩
    · go_wp2_with fail
      go_at_call 82
      refine (need_yes _).mono ?_
      rintro e w8 ⟨rfl, e8⟩
      replace e8 := e8.symm
      subst e8
      obtain ⟨m1, m2, m3, _⟩ := rk_three H7.out.at0
      obtain ⟨_, _, _, x1, x2, x3⟩ := rk_three H7.out.at1
      go_wp2
      have H9 := H7.out.swap.set3 HW.out (fun p hp => by
        simp only [List.mem_cons, List.not_mem_nil, or_false] at hp
        rw [hp]; exact NE.out.symm) (.int .i64 1) (.string (strOf t)) (.string (strOf t2))
      refine bodyPost_ret (recOne_res rfl rfl H9.at0) rfl ?_
      exact ⟨.inl ⟨_, _, HR.out.1 trivial, rfl, H9.rd⟩, H9.gr⟩
  · have hkn : (k == 1) = false := by simp [hk]
    have HR := (show Hid ((recB ⟨k, strOf t, emptyS⟩ = true → readR xs i = (⟨k, strOf t, emptyS⟩, j, true)) ∧ (recB ⟨k, strOf t, emptyS⟩ = false → (readR xs i).2.2 = false)) from recEnd_pair (by rw [readR, Y1.out]; simp only; rw [Y2.out]; simp only; rw [if_neg hk]))
    have CO := (show Hid (Calls Try.prog 50 #[.agg #[.int .i64 k, .string (strOf t), .string ⟨#[]⟩]] w4 _) from irecordOk_any ⟨k, strOf t, emptyS⟩ w4 L2.out)
    clear Y1 Y2
    obtain ⟨q, hq⟩ : ∃ q, q = recB ⟨k, strOf t, emptyS⟩ := ⟨_, rfl⟩
    rw [← hq] at CO HR
    clear hq
    go_wp2_with fail
    go_at_call 50
    rw [← hw4]
    clear hw4 m1 m2 m3 x1 x2 x3
    refine CO.out.mono ?_
    rintro e w7 ⟨rfl, b7⟩
    have H7 := (show Hid (RdL w0 w g v xs j [(w3.heap.size, #[.int .i64 k, .string (strOf t), .string ⟨#[]⟩], 25), (w.heap.size, #[.int .i64 0, .string ⟨#[]⟩, .string ⟨#[]⟩], 25)] w7) from H4.out.below b7)
    clear b7 CO H4
    cases q
    · go_wp2_with fail
      go_at_call 82
      refine (need_no _).mono ?_
      rintro e w8 ⟨⟨t', s, rfl⟩, rfl⟩
      go_wp2
      exact ⟨rfl, .inr ⟨HR.out.2 trivial, ⟨_, _, rfl⟩, _, H7.out.rd⟩, H7.out.gr⟩
    · go_wp2_with fail
      go_at_call 82
      refine (need_yes _).mono ?_
      rintro e w8 ⟨rfl, e8⟩
      replace e8 := e8.symm
      subst e8
      obtain ⟨m1, m2, m3, _⟩ := rk_three H7.out.at0
      obtain ⟨_, _, _, x1, x2, x3⟩ := rk_three H7.out.at1
      go_wp2
      have H9 := H7.out.swap.set3 HW.out (fun p hp => by
        simp only [List.mem_cons, List.not_mem_nil, or_false] at hp
        rw [hp]; exact NE.out.symm) (.int .i64 k) (.string (strOf t)) (.string ⟨#[]⟩)
      refine bodyPost_ret (recOne_res rfl rfl H9.at0) rfl ?_
      exact ⟨.inl ⟨_, _, HR.out.1 trivial, rfl, H9.rd⟩, H9.gr⟩
end Go.Proofs.Ytmpgbonolmmcpaa

/- The program's RecordRead: its closure, readWell, the face. -/
namespace Go.Proofs.Ytmpgbonolmmcpaa
open Go.RowKit
set_option maxRecDepth 100000
set_option linter.unusedVariables false

theorem Only.setR {g x : Nat} {w w' : World} (h : Only g x w w') (k : Nat) (u : Value) : Only g x w (w'.setCell ⟨x, k, none⟩ u) :=
  ⟨by simp [World.setCell]; exact h.1, fun j hj h1 h2 => (Below.heap_setCell _ _ _ j (fun e => h2 (by rw [e]))).trans (h.2 j hj h1 h2)⟩

set_option maxHeartbeats 400000 in
theorem closeRec_any {w0 : World} {g r x : Nat} {v : Value} {xs : List Int} {i : Int} {w : World} (h : Rdr w0 g v xs i w) (hb : ∀ x ∈ xs, 0 ≤ x ∧ x ≤ 255) (hr : Box w r 72 (.pointer (some ⟨g, 0, none⟩))) (hx : w.heap[x]? = some (.cells #[.int .i64 0, .string ⟨#[]⟩, .string ⟨#[]⟩] 25 (0, 0)))
    (h1 : r ≠ g) (h2 : x ≠ g) (h3 : r ≠ x) (h4 : w0.heap.size ≤ x) :
    Calls Try.prog 57 #[.pointer (some ⟨r, 0, none⟩), .pointer (some ⟨x, 0, none⟩)] w fun e w' =>
      ((∃ q j, readR xs i = (q, j, true) ∧ e = .returned (.tuple #[]) ∧ Rdr w0 g v xs j w' ∧ w'.heap[x]? = some (.cells #[.int .i64 q.kind, .string q.url, .string q.body] 25 (0, 0))) ∨ ((readR xs i).2.2 = false ∧ Bad e)) ∧ Only g x w w' ∧ Below w0.heap.size w0 w' := by
  obtain ⟨cr, _⟩ := hr.cell
  have CALL := (show Hid (Calls Try.prog 58 #[.pointer (some ⟨g, 0, none⟩)] w fun e w' => RecAt w0 w g v xs i e w') from irecord_any h hb)
  have HX := (show Hid _ from hx)
  clear hr hx
  go_enter Try.func57, Try.ntmps57
  go_wp2_with fail
  go_at_call 58
  refine CALL.out.mono ?_
  rintro e w2 ⟨hor, g2⟩
  have X2 := (show Hid (w2.heap[x]? = some (.cells #[.int .i64 0, .string ⟨#[]⟩, .string ⟨#[]⟩] 25 (0, 0))) from (g2.block x (lt_of_block HX.out) (fun e => h2 (by injection e))).trans HX.out)
  rcases hor with ⟨q, j, hy, rfl, r2⟩ | ⟨hy, ⟨t, s, rfl⟩, j, r2⟩
  · obtain ⟨_, _, _, x1, x2, x3⟩ := rk_three X2.out
    have ks : ∀ (W : World) (k : Nat) (u : Value), Rdr w0 g v xs j W → Rdr w0 g v xs j (W.setCell ⟨x, k, none⟩ u) := fun W k u hr => hr.kept (grown_setCell W x k u) (fun e => h2 (by injection e)) (fun m hm => by injection hm with hm; omega)
    have s3 := rk_at (k := 2) (u := .string q.body) (rk_at (k := 1) (u := .string q.url) (rk_at (k := 0) (u := .int .i64 q.kind) X2.out))
    have r3 := ks _ 2 (.string q.body) (ks _ 1 (.string q.url) (ks _ 0 (.int .i64 q.kind) r2))
    have END := (show Hid (_ ∧ _ ∧ _ ∧ _ ∧ _) from ⟨hy, r3, s3, ((((only_grown (x := x) g2).setR 0 (.int .i64 q.kind)).setR 1 (.string q.url)).setR 2 (.string q.body)), r3.2.2.1⟩)
    clear hy r2 r3 s3 g2 ks
    unfold recV
    go_wp2
    go_end0
    obtain ⟨e1, e2, e3, e4, e5⟩ := END.out
    exact ⟨.inl ⟨q, j, e1, rfl, e2, e3⟩, e4, e5⟩
  · have END := (show Hid (_ ∧ _ ∧ _) from ⟨hy, only_grown (x := x) g2, r2.2.2.1⟩)
    clear hy r2 g2
    go_wp2
    exact ⟨rfl, .inr ⟨END.out.1, _, _, rfl⟩, END.out.2⟩

set_option maxHeartbeats 400000 in
theorem wellRec_any {w0 : World} {g r x : Nat} {v : Value} {xs : List Int} {i : Int} {w : World} (h : Rdr w0 g v xs i w) (hb : ∀ x ∈ xs, 0 ≤ x ∧ x ≤ 255) (hr : Box w r 72 (.pointer (some ⟨g, 0, none⟩))) (hx : w.heap[x]? = some (.cells #[.int .i64 0, .string ⟨#[]⟩, .string ⟨#[]⟩] 25 (0, 0)))
    (h1 : r ≠ g) (h2 : x ≠ g) (h3 : r ≠ x) (h4 : w0.heap.size ≤ x) :
    Calls Try.prog 56 #[.func (.func 57) #[] #[.pointer (some ⟨r, 0, none⟩), .pointer (some ⟨x, 0, none⟩)]] w fun e w' =>
      ((∃ q j, readR xs i = (q, j, true) ∧ e = .returned (.bool true) ∧ Rdr w0 g v xs j w' ∧ w'.heap[x]? = some (.cells #[.int .i64 q.kind, .string q.url, .string q.body] 25 (0, 0)) ∧ Box w' r 72 (.pointer (some ⟨g, 0, none⟩))) ∨ ((readR xs i).2.2 = false ∧ e = .returned (.bool false))) ∧ Only g x w w' ∧ Below w0.heap.size w0 w' := by
  have hmf : ∀ (fn : Fn) (first cap : Array Value) (w : World), (Instr.makeFunc fn first cap).run Try.prog w = .ok (.func fn first cap) w := fun _ _ _ _ => rfl
  have hlt := h.lt
  have hltr := hr.lt
  have hltx := lt_of_block hx
  have hsz := h.2.2.1.size
  have ga := fun (o : Obj) (row : Option Nat) => World.grownBy_alloc w o row
  have hal : Below w.heap.size w (w.alloc (.cells #[.bool false] 4)) := (Below.refl _ _).alloc (Nat.le_refl _) _
  have hq : Box (w.alloc (.cells #[.bool false] 4)) w.heap.size 4 (.bool false) := World.alloc_heap_new _ _
  have hr' := hr.grown (ga (.cells #[.bool false] 4) none) (by simp)
  have hx' := (hal.block x hltx).trans hx
  have h' := h.below hal
  have CALL := (show Hid (Calls Try.prog 57 #[.pointer (some ⟨r, 0, none⟩), .pointer (some ⟨x, 0, none⟩)] (w.alloc (.cells #[.bool false] 4)) _) from closeRec_any h' hb hr' hx' h1 h2 h3 h4)
  have OA : Hid (Only g x w (w.alloc (.cells #[.bool false] 4))) := only_grown (ga _ (some g))
  clear h hr hx hal ga h' hx'
  go_enter_defers Try.func56, Try.ntmps56
  go_wp2_with fail
  go_at_call 57
  refine CALL.out.mono ?_
  rintro e w2 ⟨hor, on2, b2⟩
  have hq2 := on2.box hq (by omega) (by omega)
  have hr2 := on2.box hr' h1 h3
  obtain ⟨cq, fq⟩ := hq2.cell
  have hs2 := on2.1
  have ow : ∀ u : Value, Only g x w (w2.setCell ⟨w.heap.size, 0, none⟩ u) := fun u => ⟨by have := OA.out.1; rw [World.size_setCell]; omega, fun j hj n1 n2 => by
    rw [Below.heap_setCell _ _ _ j (by show j ≠ w.heap.size; omega), on2.2 j (by rw [World.size_alloc]; omega) n1 n2]
    exact OA.out.2 j hj n1 n2⟩
  have ow2 : ∀ u u' : Value, Only g x w ((w2.setCell ⟨w.heap.size, 0, none⟩ u).setCell ⟨w.heap.size, 0, none⟩ u') := fun u u' => ⟨by rw [World.size_setCell]; exact (ow u).1, fun j hj n1 n2 => by
    rw [Below.heap_setCell _ _ _ j (by show j ≠ w.heap.size; omega)]
    exact (ow u).2 j hj n1 n2⟩
  have OW := (show Hid (_ ∧ _) from ⟨ow (.bool false), ow2 (.bool true) (.bool true)⟩)
  clear ow ow2
  rcases hor with ⟨q, j, hy, rfl, r2, hx2⟩ | ⟨hy, t, s, rfl⟩
  · have g3 := grown_setCell w2 w.heap.size 0 (.bool true)
    have q3 := hq2.set (.bool true)
    have r3 := r2.kept g3 (fun e => by injection e with e; omega) (fun k hk => by injection hk with hk; omega)
    have hx3 := (Below.heap_setCell w2 ⟨w.heap.size, 0, none⟩ (.bool true) x (by show x ≠ w.heap.size; omega)).trans hx2
    have hr3 := hr2.grown g3 (fun e => by injection e with e; omega)
    have P3 := (show Hid (_ ∧ _ ∧ _ ∧ _ ∧ _) from ⟨hy, q3, r3, hx3, hr3⟩)
    clear hy q3 r3 hx3 hr3 g3 r2 hx2 hr2
    go_wp2
    refine leaves_cons (f := 79) (args := #[.pointer (some ⟨w.heap.size, 0, none⟩)]) (by simp) (by simp [go_sem]) ?_
    obtain ⟨hy, q3, r3, hx3, hr3⟩ := P3.out
    refine (catch_idle _ true _ q3.cell.1 q3.cell.2).mono ?_
    rintro e u' w3 ⟨rfl, rfl, rfl⟩
    have g4 := grown_setCell (w2.setCell ⟨w.heap.size, 0, none⟩ (.bool true)) w.heap.size 0 (.bool true)
    have q4 := q3.set (.bool true)
    have r4 := r3.kept g4 (fun e => by injection e with e; omega) (fun k hk => by injection hk with hk; omega)
    have hx4 := (Below.heap_setCell (w2.setCell ⟨w.heap.size, 0, none⟩ (.bool true)) ⟨w.heap.size, 0, none⟩ (.bool true) x (by show x ≠ w.heap.size; omega)).trans hx3
    have hr4 := hr3.grown g4 (fun e => by injection e with e; omega)
    have c4 := q4.cell.1
    simp [Leaves, settle, results, Try.results56, go_sem, c4]
    exact ⟨⟨q, j, hy, r4, hx4, hr4⟩, OW.out.2, r4.2.2.1⟩
  · have q3 := hq2.set (.bool false)
    have b3 := b2.setCell (p := ⟨w.heap.size, 0, none⟩) hsz (.bool false)
    have P3 := (show Hid (_ ∧ _ ∧ _) from ⟨hy, q3, b3⟩)
    clear hy q3 b3 hr2
    go_wp2
    refine leaves_cons (f := 79) (args := #[.pointer (some ⟨w.heap.size, 0, none⟩)]) (by simp) (by simp [go_sem]) ?_
    refine (catch_bad _ false t s [] _ cq fq).mono ?_
    rintro e u' w3 ⟨rfl, rfl, rfl⟩
    obtain ⟨hy, q3, b3⟩ := P3.out
    have c4 := q3.cell.1
    simp [Leaves, settle, results, Try.results56, go_sem, c4]
    exact ⟨hy, OW.out.1, b3⟩

set_option maxHeartbeats 400000 in
set_option maxRecDepth 100000 in
theorem irecRead_any {v : Value} {xs : List Int} {i : Int} {w : World} (h : Sl .u8 w v xs) (hb : ∀ x ∈ xs, 0 ≤ x ∧ x ≤ 255) (hn : xs.length ≤ 1099511627776) :
    Calls Try.prog 16 #[v, .int .i64 i] w fun e w' => e = .returned (.tuple #[recV (readR xs i).1, .int .i64 (readR xs i).2.1, .bool (readR xs i).2.2]) ∧ Below w.heap.size w w' := by
  have hmf : ∀ (fn : Fn) (first cap : Array Value) (w : World), (Instr.makeFunc fn first cap).run Try.prog w = .ok (.func fn first cap) w := fun _ _ _ _ => rfl
  have h0 := h
  obtain ⟨a, ca, rfl, _, _, _, ha⟩ := h
  clear ha
  obtain ⟨v, hv⟩ : ∃ v, v = Value.slice a xs.length ca := ⟨_, rfl⟩
  rw [← hv] at h0
  obtain ⟨u, hu⟩ : ∃ u, u = w.alloc (.cells #[.int .i64 0, .string ⟨#[]⟩, .string ⟨#[]⟩] 25) := ⟨_, rfl⟩
  have hus : u.heap.size = w.heap.size + 1 := by rw [hu, World.size_alloc]
  have bu : Below w.heap.size w u := by rw [hu]; exact (Below.refl _ _).alloc (Nat.le_refl _) _
  have U0 : Hid (u.heap[w.heap.size]? = some (.cells #[.int .i64 0, .string ⟨#[]⟩, .string ⟨#[]⟩] 25 (0, 0))) := (show u.heap[w.heap.size]? = some (.cells #[.int .i64 0, .string ⟨#[]⟩, .string ⟨#[]⟩] 25 (0, 0)) by rw [hu]; exact World.alloc_heap_new _ _)
  obtain ⟨W, hW⟩ : ∃ W, W = ((u.alloc (.cells #[v, .int .i64 i] 74)).alloc (.cells #[.pointer (some ⟨w.heap.size + 1, 0, none⟩)] 72)).alloc (.cells #[.int .i64 0, .string ⟨#[]⟩, .string ⟨#[]⟩] 25) := ⟨_, rfl⟩
  have s1 : (u.alloc (.cells #[v, .int .i64 i] 74)).heap.size = w.heap.size + 1 + 1 := by rw [World.size_alloc, hus]
  have s2 : ((u.alloc (.cells #[v, .int .i64 i] 74)).alloc (.cells #[.pointer (some ⟨w.heap.size + 1, 0, none⟩)] 72)).heap.size = w.heap.size + 1 + 1 + 1 := by rw [World.size_alloc, s1]
  have b3 : Below u.heap.size u W := by rw [hW]; exact (((Below.refl _ _).alloc (Nat.le_refl _) _).alloc (by rw [World.size_alloc]; omega) _).alloc (by rw [World.size_alloc, World.size_alloc]; omega) _
  have rd : Rdr u (w.heap.size + 1) v xs i W := by
    refine ⟨by omega, h0.below bu, b3, hn, ?_⟩
    rw [hW, Below.heap_alloc _ _ _ (by rw [s2]; omega), Below.heap_alloc _ _ _ (by rw [s1]; omega)]
    have e := World.alloc_heap_new u (.cells #[v, .int .i64 i] 74)
    rw [hus] at e
    exact e
  have hr : Box W (w.heap.size + 1 + 1) 72 (.pointer (some ⟨w.heap.size + 1, 0, none⟩)) := by
    unfold Box
    rw [hW, Below.heap_alloc _ _ _ (by rw [s2]; omega)]
    have e := World.alloc_heap_new (u.alloc (.cells #[v, .int .i64 i] 74)) (.cells #[.pointer (some ⟨w.heap.size + 1, 0, none⟩)] 72)
    rw [s1] at e
    exact e
  have hx : W.heap[w.heap.size + 1 + 1 + 1]? = some (.cells #[.int .i64 0, .string ⟨#[]⟩, .string ⟨#[]⟩] 25 (0, 0)) := by
    rw [hW]
    have e := World.alloc_heap_new ((u.alloc (.cells #[v, .int .i64 i] 74)).alloc (.cells #[.pointer (some ⟨w.heap.size + 1, 0, none⟩)] 72)) (.cells #[.int .i64 0, .string ⟨#[]⟩, .string ⟨#[]⟩] 25)
    rw [s2] at e
    exact e
  have CALL := (show Hid (Calls Try.prog 56 #[.func (.func 57) #[] #[.pointer (some ⟨w.heap.size + 1 + 1, 0, none⟩), .pointer (some ⟨w.heap.size + 1 + 1 + 1, 0, none⟩)]] W _) from wellRec_any rd hb hr hx (by omega) (by omega) (by omega) (by omega))
  have BU := (show Hid (Below w.heap.size w u ∧ u.heap.size = w.heap.size + 1) from ⟨bu, hus⟩)
  rw [hv, hu] at hW
  clear rd hr hx h0 hb s1 s2 b3 bu hus hu hv
  go_enter Try.func16, Try.ntmps16
  go_wp2_with fail
  go_at_call 56
  rw [← hW]
  clear hW
  refine CALL.out.mono ?_
  rintro e w2 ⟨hor, _, b2⟩
  have X2 := (show Hid (w2.heap[w.heap.size]? = some (.cells #[.int .i64 0, .string ⟨#[]⟩, .string ⟨#[]⟩] 25 (0, 0))) from (b2.block _ (lt_of_block U0.out)).trans U0.out)
  have B2 := (show Hid (Below w.heap.size w w2) from BU.out.1.trans (b2.mono BU.out.1.size))
  obtain ⟨_, _, _, x1, x2, x3⟩ := rk_three X2.out
  clear b2 CALL
  rcases hor with ⟨q, j, hy, rfl, r2, hx2, hr2⟩ | ⟨hy, rfl⟩
  · obtain ⟨c0, c1, _⟩ := r2.cells
    obtain ⟨k1, k2, k3, _⟩ := rk_three hx2
    obtain ⟨cr, _⟩ := hr2.cell
    have HY := (show Hid (readR xs i = (q, j, true)) from hy)
    clear hy r2 hx2 hr2
    go_wp2
    go_region
    all_goals
      go_wp2
      have H9 := rk_at (k := 2) (u := .string q.body) (rk_at (k := 1) (u := .string q.url) (rk_at (k := 0) (u := .int .i64 q.kind) X2.out))
      refine bodyPost_ret (rec_res rfl rfl rfl rfl H9) rfl ?_
      rw [HY.out]
      exact ⟨rfl, (((B2.out.setCell (p := ⟨w.heap.size, 0, none⟩) (Nat.le_refl _) _).setCell (p := ⟨w.heap.size, 1, none⟩) (Nat.le_refl _) _).setCell (p := ⟨w.heap.size, 2, none⟩) (Nat.le_refl _) _).trans (below_drewN 1)⟩
  · have HY := (show Hid (readR xs i = (zeroR, 0, false)) from readR_no hy)
    clear hy
    go_wp2
    have H9 := rk_at (k := 2) (u := .string ⟨#[]⟩) (rk_at (k := 1) (u := .string ⟨#[]⟩) (rk_at (k := 0) (u := .int .i64 0) X2.out))
    refine bodyPost_ret (rec_res rfl rfl rfl rfl H9) rfl ?_
    rw [HY.out]
    exact ⟨rfl, ((B2.out.setCell (p := ⟨w.heap.size, 0, none⟩) (Nat.le_refl _) _).setCell (p := ⟨w.heap.size, 1, none⟩) (Nat.le_refl _) _).setCell (p := ⟨w.heap.size, 2, none⟩) (Nat.le_refl _) _⟩
end Go.Proofs.Ytmpgbonolmmcpaa
