/- The program's byteReader: need, oneByte. -/
import Derived.Test.YtokkigfjabbdaaaGreatDoorU2
import Derived.Test.YtokkigfjabbdaaaGreatDoorU12
import Derived.Defers
import Derived.Recover
import Derived.WalkLawsBesides
import Derived.Deep.RegionHeld
import Derived.Test.YtokkigfjabbdaaaGreatDoorU23
import Derived.Test.YtokkigfjabbdaaaGreatDoorU11
namespace Go.Proofs.YtokkigfjabbdaaaGreatDoor
open Go.RowKit
set_option maxRecDepth 100000
set_option linter.unusedVariables false

theorem wrap_b7 {x : Int} (h0 : 0 ≤ x) (h1 : x ≤ 255) : IntKind.i64.wrap x = x := by
  simp [IntKind.wrap, IntKind.bits, IntKind.signed]; omega
/-- One panic with a text. -/
def Bad (e : Ending) : Prop := ∃ (t : TypeId) (s : ByteArray), e = .panicked [{ v := .iface t (.string s), recovered := false }]

theorem need_yes (w : World) : Calls Tryz.prog 142 #[.bool true] w fun e w' => e = .returned (.tuple #[]) ∧ w' = w := by
  go_enter Tryz.func142, Tryz.ntmps142
  go_wp2
  go_end0
  exact ⟨rfl, rfl⟩
theorem need_no (w : World) : Calls Tryz.prog 142 #[.bool false] w fun e w' => Bad e ∧ w' = w := by
  go_enter Tryz.func142, Tryz.ntmps142
  go_wp2
  exact ⟨rfl, ⟨_, _, rfl⟩, rfl⟩

/-- The reader in block g, at the place i of the bytes xs, which lay in the world w0 before it. -/
def Rdr (w0 : World) (g : Nat) (v : Value) (xs : List Int) (i : Int) (w : World) : Prop :=
  w0.heap.size ≤ g ∧ Sl .u8 w0 v xs ∧ Below w0.heap.size w0 w ∧ xs.length ≤ 1099511627776 ∧ w.heap[g]? = some (.cells #[v, .int .i64 i] 168 (0, 0))
theorem Rdr.lt {w0 : World} {g : Nat} {v : Value} {xs : List Int} {i : Int} {w : World} (h : Rdr w0 g v xs i w) : g < w.heap.size := lt_of_block h.2.2.2.2
theorem Rdr.below {w0 : World} {g : Nat} {v : Value} {xs : List Int} {i : Int} {w w' : World} (h : Rdr w0 g v xs i w) (hb : Below w.heap.size w w') : Rdr w0 g v xs i w' := by
  have hlt := h.lt
  obtain ⟨h1, h2, h3, h4, h5⟩ := h
  exact ⟨h1, h2, h3.trans (hb.mono h3.size), h4, (hb.block g hlt).trans h5⟩
theorem Rdr.kept {w0 : World} {g : Nat} {v : Value} {xs : List Int} {i : Int} {w w' : World} {row : Option Nat} (h : Rdr w0 g v xs i w) (hg : w.grownBy w' row) (hne : row ≠ some g) (hr : ∀ k, row = some k → w0.heap.size ≤ k) : Rdr w0 g v xs i w' := by
  have hlt := h.lt
  obtain ⟨h1, h2, h3, h4, h5⟩ := h
  exact ⟨h1, h2, h3.grown hg h3.size hr, h4, by rw [hg.block g hlt (fun e => hne e.symm)]; exact h5⟩
theorem Rdr.sl {w0 : World} {g : Nat} {v : Value} {xs : List Int} {i : Int} {w : World} (h : Rdr w0 g v xs i w) : Sl .u8 w v xs := h.2.1.below h.2.2.1
theorem Rdr.drewN {w0 : World} {g : Nat} {v : Value} {xs : List Int} {i : Int} {w : World} (h : Rdr w0 g v xs i w) (n : Nat) : Rdr w0 g v xs i (w.drewN n) := h.below (below_drewN n)
theorem Rdr.set {w0 : World} {g : Nat} {v : Value} {xs : List Int} {i : Int} {w : World} (h : Rdr w0 g v xs i w) (j : Int) : Rdr w0 g v xs j (w.setCell ⟨g, 1, none⟩ (.int .i64 j)) := by
  obtain ⟨h1, h2, h3, h4, h5⟩ := h
  exact ⟨h1, h2, h3.setCell h1 _, h4, three_setCell h5⟩
theorem Rdr.cells {w0 : World} {g : Nat} {v : Value} {xs : List Int} {i : Int} {w : World} (h : Rdr w0 g v xs i w) :
    w.cell? ⟨g, 0, none⟩ = some v ∧ w.cell? ⟨g, 1, none⟩ = some (.int .i64 i) ∧ w.frozen? ⟨g, 1, none⟩ = false := by
  have hh := h.2.2.2.2
  refine ⟨?_, ?_, ?_⟩
  · simp only [World.cell?, hh]; rfl
  · simp only [World.cell?, hh]; rfl
  · simp only [World.frozen?, hh]; rfl

theorem oneByte_yes {w0 : World} {g : Nat} {v : Value} {xs : List Int} {k : Nat} {w : World} (h : Rdr w0 g v xs k w) (hb : ∀ x ∈ xs, 0 ≤ x ∧ x ≤ 255) (hk : k < xs.length) :
    Calls Tryz.prog 141 #[.pointer (some ⟨g, 0, none⟩)] w fun e w' => e = .returned (.int .i64 (xs.getD k 0)) ∧ Rdr w0 g v xs (k + 1 : Nat) w' ∧ w.grownBy w' (some g) := by
  obtain ⟨c0, c1, f1⟩ := h.cells
  have h4 := h.2.2.2.1
  have h0 := h
  obtain ⟨a, ca, rfl, _, _, _, ha⟩ := h.sl
  obtain ⟨b1, o1, rfl, cx⟩ := ha k hk
  clear ha h
  go_enter Tryz.func141, Tryz.ntmps141
  have hk0 : (0 : Int) ≤ k := by omega
  have hk1 : (k : Int) < xs.length := by omega
  go_wp2
  go_region_held (fun w' => w'.cell? ⟨g, 0, none⟩ = some (.slice (some ⟨b1, o1, none⟩) xs.length ca) ∧ w'.cell? ⟨g, 1, none⟩ = some (.int .i64 k)) (go_keep)
    ((go_at_call 142; refine (need_yes _).mono ?_; rintro e w4 ⟨rfl, rfl⟩))
  go_wp2
  go_region_held (fun w' => w'.cell? ⟨g, 0, none⟩ = some (.slice (some ⟨b1, o1, none⟩) xs.length ca) ∧ w'.cell? ⟨g, 1, none⟩ = some (.int .i64 k) ∧ w'.cell? ⟨b1, o1 + k, none⟩ = some (.int .u8 (xs.getD k 0))) (go_keep) (fail)
  have hwx : IntKind.i64.wrap xs[k] = xs.getD k 0 := by
    have := hb _ (List.getElem_mem hk)
    have e : xs.getD k 0 = xs[k] := by simp [List.getD_eq_getElem?_getD, hk]
    rw [e]
    exact wrap_b7 this.1 this.2
  have r2 := (h0.drewN 2).set (k + 1 : Nat)
  have g2 := grown_trans (grown_drewN w 2 (some g)) (grown_setCell (w.drewN 2) g 1 (.int .i64 (k + 1 : Nat)))
  have R2 := (show Hid (_ ∧ _) from ⟨r2, g2⟩)
  clear r2 g2 hb
  go_wp2
  go_ret
  exact ⟨ret_int hwx, R2.out⟩

set_option maxHeartbeats 400000 in
theorem oneByte_no {w0 : World} {g : Nat} {v : Value} {xs : List Int} {i : Int} {w : World} (h : Rdr w0 g v xs i w) (hk : i < 0 ∨ (xs.length : Int) ≤ i) :
    Calls Tryz.prog 141 #[.pointer (some ⟨g, 0, none⟩)] w fun e w' => Bad e ∧ Rdr w0 g v xs i w' ∧ w.grownBy w' (some g) := by
  obtain ⟨c0, c1, f1⟩ := h.cells
  have h0 := h
  obtain ⟨a, ca, rfl, _, _, _, ha⟩ := h.sl
  have R2 := (show Hid (_ ∧ _) from ⟨h0.drewN 1, grown_drewN w 1 (some g)⟩)
  clear ha h h0
  rcases hk with hk | hk
  · have hn : ¬ (0 ≤ i) := by omega
    have hn' : decide (0 ≤ i) = false := by simp; omega
    go_enter Tryz.func141, Tryz.ntmps141
    go_wp2
    refine region_tail 17 (by kernel_rfl) (by kernel_rfl) ?_
    intro w1 K1 hW1 hK1
    have ne := One.any w1
    have d1 : ∀ n : One w1, n.w.cell? ⟨g, 1, none⟩ = some (.int .i64 i) := fun n => by rw [n.eq, hW1.out]; exact c1
    simp only [List.take_succ_cons, List.take_zero, List.drop_succ_cons, List.drop_zero] at hK1 ⊢
    repeat (go_big_quiet_step (fail))
    refine wpQuiet_nil ?_
    refine hK1.out _ ?_
    clear hK1
    go_wp2_with fail
    go_at_call 142
    refine (need_no _).mono ?_
    rintro e w4 ⟨⟨t, s, rfl⟩, rfl⟩
    go_wp2
    rw [hW1.out]
    exact ⟨rfl, ⟨_, _, rfl⟩, R2.out⟩
  · by_cases h0 : 0 ≤ i
    · have hn : ¬ (i < xs.length) := by omega
      have hn' : decide (i < (xs.length : Int)) = false := by simp; omega
      go_enter Tryz.func141, Tryz.ntmps141
      go_wp2
      refine region_tail 17 (by kernel_rfl) (by kernel_rfl) ?_
      intro w1 K1 hW1 hK1
      have ne := One.any w1
      have d1 : ∀ n : One w1, n.w.cell? ⟨g, 1, none⟩ = some (.int .i64 i) := fun n => by rw [n.eq, hW1.out]; exact c1
      have d0 : ∀ n : One w1, n.w.cell? ⟨g, 0, none⟩ = some (.slice a xs.length ca) := fun n => by rw [n.eq, hW1.out]; exact c0
      simp only [List.take_succ_cons, List.take_zero, List.drop_succ_cons, List.drop_zero] at hK1 ⊢
      repeat (go_big_quiet_step (fail))
      refine wpQuiet_nil ?_
      refine hK1.out _ ?_
      clear hK1
      go_wp2_with fail
      go_at_call 142
      refine (need_no _).mono ?_
      rintro e w4 ⟨⟨t, s, rfl⟩, rfl⟩
      go_wp2
      rw [hW1.out]
      exact ⟨rfl, ⟨_, _, rfl⟩, R2.out⟩
    · omega
end Go.Proofs.YtokkigfjabbdaaaGreatDoor

/- The program's byteReader: num. -/
namespace Go.Proofs.YtokkigfjabbdaaaGreatDoor
open Go.RowKit
set_option maxRecDepth 100000
set_option linter.unusedVariables false

theorem sh_eq {k : Nat} {acc d : Int} (hk : k ≤ 8) (h0 : 0 ≤ acc) (h1 : acc < 128 ^ k) (d0 : 0 ≤ d) (d1 : d < 128) : wrap64 (acc + wrap64 (d * 2 ^ (7 * k))) = acc + d * 128 ^ k := by
  have e : (2 : Int) ^ (7 * k) = 128 ^ k := by rw [Int.pow_mul]; rfl
  have hs := acc_step (k := k) h0 h1 d0 d1
  have hp := pow_le7 hk
  have hq := pow_pos7 k
  rw [Int.pow_succ] at hs
  rw [e]
  have e1 : 0 ≤ d * 128 ^ k := Int.mul_nonneg d0 (by omega)
  generalize d * 128 ^ k = q at *
  generalize (128 : Int) ^ k = p at *
  have w1 : wrap64 q = q := by unfold wrap64; omega
  rw [w1]
  unfold wrap64
  omega

theorem num_at {w0 : World} {g : Nat} {v : Value} {xs : List Int} {k0 : Nat} {w : World} (h : Rdr w0 g v xs k0 w) (hb : ∀ x ∈ xs, 0 ≤ x ∧ x ≤ 255) :
    Calls Tryz.prog 121 #[.pointer (some ⟨g, 0, none⟩)] w fun e w' => ((∃ y n, rdA 9 0 0 (xs.drop k0) = some (y, n) ∧ e = .returned (.int .i64 y) ∧ Rdr w0 g v xs (k0 + n : Nat) w') ∨ (rdA 9 0 0 (xs.drop k0) = none ∧ Bad e ∧ ∃ j, Rdr w0 g v xs j w')) ∧ w.grownBy w' (some g) := by
  have HB : Hid (∀ x ∈ xs, 0 ≤ x ∧ x ≤ 255) := hb
  clear hb
  go_enter Tryz.func121, Tryz.ntmps121
  go_wp2
  go_loopw [3, 6] (fun x s wr => ∃ (k : Nat) (acc : Int), k ≤ 9 ∧ s = .int .i64 k ∧ x = .int .i64 acc ∧ 0 ≤ acc ∧ acc < 128 ^ k ∧ rdA (9 - k) k acc (xs.drop (k0 + k)) = rdA 9 0 0 (xs.drop k0) ∧ Rdr w0 g v xs (k0 + k : Nat) wr ∧ w.grownBy wr (some g)) (fun _ s _ => 9 - (intOf s).toNat)
  case atStart => exact ⟨0, 0, by omega, rfl, rfl, by omega, by simp, rfl, h, World.grownBy.refl _ _⟩
  case round =>
    clear h
    obtain ⟨k, acc, hk, rfl, rfl, a0, a1, heq, rdr, gro⟩ := hrel
    have HEQ := (show Hid (_ = _) from heq)
    have HA := (show Hid (_ ∧ _) from ⟨a0, a1⟩)
    clear heq a1
    by_cases hk9 : k < 9
    · by_cases hin : k0 + k < xs.length
      · obtain ⟨d, hd⟩ : ∃ d, d = xs.getD (k0 + k) 0 := ⟨_, rfl⟩
        have one := oneByte_yes rdr HB.out hin
        rw [← hd] at one
        have hdb : 0 ≤ d ∧ d ≤ 255 := by
          rw [hd, List.getD_eq_getElem?_getD, List.getElem?_eq_getElem hin]
          exact HB.out _ (List.getElem_mem hin)
        have hdrop : xs.drop (k0 + k) = d :: xs.drop (k0 + k + 1) := by
          rw [hd, List.drop_eq_getElem_cons hin, List.getD_eq_getElem?_getD, List.getElem?_eq_getElem hin]
          rfl
        have HD := (show Hid (_ = _) from hdrop)
        have ONE : Hid (Calls Tryz.prog 141 #[.pointer (some ⟨g, 0, none⟩)] wr fun e w' => e = .returned (.int .i64 d) ∧ Rdr w0 g v xs (k0 + k + 1 : Nat) w' ∧ wr.grownBy w' (some g)) := one
        clear hd hdrop one
        go_wp2_with fail
        go_at_call 141
        refine ONE.out.mono ?_
        rintro e w2 ⟨rfl, r2, g2⟩
        replace g2 := grown_trans gro g2
        have R2 := (show Hid (_ ∧ _) from ⟨r2, g2⟩)
        clear r2 g2 ONE gro rdr
        by_cases hlt : d < 128
        · have hdm : d % 128 = d := by omega
          have hsh := sh_eq (k := k) (d := d) (by omega) HA.out.1 HA.out.2 hdb.1 hlt
          have HSH := (show Hid (_ = _) from hsh)
          clear hsh
          by_cases hbad : d = 0 ∧ 0 < k
          · obtain ⟨rfl, hkp⟩ := hbad
            have hz : ((k : Int) == 0) = false := by simp; omega
            go_wp2_with fail
            go_at_call 142
            refine (need_no _).mono ?_
            rintro e w4 ⟨⟨t, s, rfl⟩, rfl⟩
            go_wp2
            refine ⟨rfl, .inr ⟨?_, ⟨_, _, rfl⟩, _, R2.out.1⟩, R2.out.2⟩
            rw [← HEQ.out, HD.out]
            obtain ⟨m, hm⟩ : ∃ m, 9 - k = m + 1 := ⟨9 - k - 1, by omega⟩
            rw [hm, rdA_bad (by omega) ⟨rfl, hkp⟩]
          · have hend : ∃ y n, rdA 9 0 0 (xs.drop k0) = some (y, n) ∧ y = acc + d * 128 ^ k ∧ n = k + 1 := by
              refine ⟨_, _, ?_, rfl, rfl⟩
              rw [← HEQ.out, HD.out]
              obtain ⟨m, hm⟩ : ∃ m, 9 - k = m + 1 := ⟨9 - k - 1, by omega⟩
              rw [hm, rdA_end hlt hbad]
            have HEND := (show Hid (∃ y n, _) from hend)
            clear hend
            by_cases hd0 : 0 < d
            · go_wp2_with fail
              go_at_call 142
              refine (need_yes _).mono ?_
              rintro e w4 ⟨rfl, rfl⟩
              go_wp2
              go_ret
              obtain ⟨y, n, h1, rfl, rfl⟩ := HEND.out
              refine ⟨.inl ⟨_, _, h1, ret_int ?_, by rw [← Nat.add_assoc]; exact R2.out.1⟩, R2.out.2⟩
              first | exact HSH.out | (rw [hdm]; exact HSH.out)
            · have hz0 : d = 0 := by omega
              have hk0 : k = 0 := by omega
              subst hz0 hk0
              go_wp2_with fail
              go_at_call 142
              refine (need_yes _).mono ?_
              rintro e w4 ⟨rfl, rfl⟩
              go_wp2
              go_ret
              obtain ⟨y, n, h1, rfl, rfl⟩ := HEND.out
              refine ⟨.inl ⟨_, _, h1, ret_int ?_, by rw [← Nat.add_assoc]; exact R2.out.1⟩, R2.out.2⟩
              have ha := HA.out
              have hac : acc = 0 := by have := ha.2; simp at this; omega
              subst hac
              simp [wrap64]
        · have hsh := sh_eq (k := k) (d := d % 128) (by omega) HA.out.1 HA.out.2 (by omega) (by omega)
          have hac := acc_step (k := k) (d := d % 128) HA.out.1 HA.out.2 (by omega) (by omega)
          have HSH := (show Hid (_ ∧ _) from ⟨hsh, hac⟩)
          clear hsh hac
          go_wp2
          go_roundw
          case rel =>
            refine ⟨k + 1, _, by omega, by go_num, rfl, by rw [HSH.out.1]; exact HSH.out.2.1, by rw [HSH.out.1]; exact HSH.out.2.2, ?_, by rw [← Nat.add_assoc]; exact R2.out.1, R2.out.2⟩
            rw [HSH.out.1, ← HEQ.out, HD.out, ← Nat.add_assoc]
            obtain ⟨m, hm⟩ : ∃ m, 9 - k = m + 1 := ⟨9 - k - 1, by omega⟩
            have hm' : 9 - (k + 1) = m := by omega
            rw [hm, hm', rdA_on (by omega)]
          case measure => simp [intOf]; omega
      · have hno := oneByte_no rdr (.inr (by omega))
        have ONE : Hid (Calls Tryz.prog 141 #[.pointer (some ⟨g, 0, none⟩)] wr fun e w' => Bad e ∧ Rdr w0 g v xs (k0 + k : Nat) w' ∧ wr.grownBy w' (some g)) := hno
        clear hno
        go_wp2_with fail
        go_at_call 141
        refine ONE.out.mono ?_
        rintro e w2 ⟨⟨t, s, rfl⟩, r2, g2⟩
        go_wp2
        refine ⟨rfl, .inr ⟨?_, ⟨_, _, rfl⟩, _, r2⟩, grown_trans gro g2⟩
        rw [← HEQ.out, List.drop_eq_nil_of_le (by omega), rdA_nil]
    · have hke : k = 9 := by omega
      subst hke
      go_wp2
      refine ⟨rfl, .inr ⟨?_, ⟨_, _, rfl⟩, _, rdr⟩, gro⟩
      rw [← HEQ.out]
      rfl

theorem num_neg {w0 : World} {g : Nat} {v : Value} {xs : List Int} {i : Int} {w : World} (h : Rdr w0 g v xs i w) (hi : i < 0) :
    Calls Tryz.prog 121 #[.pointer (some ⟨g, 0, none⟩)] w fun e w' => Bad e ∧ (∃ j, Rdr w0 g v xs j w') ∧ w.grownBy w' (some g) := by
  have ONE : Hid (Calls Tryz.prog 141 #[.pointer (some ⟨g, 0, none⟩)] w fun e w' => Bad e ∧ Rdr w0 g v xs i w' ∧ w.grownBy w' (some g)) := oneByte_no h (.inl hi)
  go_enter Tryz.func121, Tryz.ntmps121
  go_wp2
  go_loopw [3, 6] (fun x s wr => x = .int .i64 0 ∧ s = .int .i64 0 ∧ Hid (wr = w)) (fun _ _ _ => 0)
  case atStart => exact ⟨rfl, rfl, rfl⟩
  case round =>
    obtain ⟨rfl, rfl, hw⟩ := hrel
    have e := hw.out
    subst e
    go_wp2_with fail
    go_at_call 141
    refine ONE.out.mono ?_
    rintro e w2 ⟨⟨t, s, rfl⟩, r2, g2⟩
    go_wp2
    exact ⟨rfl, ⟨_, _, rfl⟩, ⟨_, r2⟩, g2⟩

/-- num, at whatever place. -/
theorem num_any {w0 : World} {g : Nat} {v : Value} {xs : List Int} {i : Int} {w : World} (h : Rdr w0 g v xs i w) (hb : ∀ x ∈ xs, 0 ≤ x ∧ x ≤ 255) :
    Calls Tryz.prog 121 #[.pointer (some ⟨g, 0, none⟩)] w fun e w' => ((∃ y n, rdI xs i = some (y, n) ∧ e = .returned (.int .i64 y) ∧ Rdr w0 g v xs (i + n) w') ∨ (rdI xs i = none ∧ Bad e ∧ ∃ j, Rdr w0 g v xs j w')) ∧ w.grownBy w' (some g) := by
  by_cases hi : i < 0
  · refine (num_neg h hi).mono ?_
    rintro e w' ⟨h1, h2, h3⟩
    exact ⟨.inr ⟨rdI_neg hi, h1, h2⟩, h3⟩
  · obtain ⟨k, rfl⟩ : ∃ k : Nat, i = k := ⟨i.toNat, by omega⟩
    rw [rdI_nat]
    refine (num_at h hb).mono ?_
    rintro e w' ⟨h1, h3⟩
    refine ⟨?_, h3⟩
    rcases h1 with ⟨y, n, h1, h2, h4⟩ | h1
    · exact .inl ⟨y, n, h1, h2, by rw [Int.natCast_add] at h4; exact h4⟩
    · exact .inr h1
end Go.Proofs.YtokkigfjabbdaaaGreatDoor

/- The program's readWell: what is recovered at the face. -/
namespace Go.Proofs.YtokkigfjabbdaaaGreatDoor
open Go.RowKit
set_option maxRecDepth 100000
set_option linter.unusedVariables false

theorem catch_bad (p : Addr) (x : Bool) (t : TypeId) (s : ByteArray) (older : List PanicEntry) (w : World) (hc : w.cell? p = some (.bool x)) (hz : w.frozen? p = false) :
    CallsD Tryz.prog 140 #[.pointer (some p)] (.panicking ({ v := .iface t (.string s), recovered := false } :: older)) w fun e u' w' =>
      e = .returned (.tuple #[]) ∧ u' = .panicking ({ v := .iface t (.string s), recovered := true } :: older) ∧ w' = w.setCell p (.bool false) := by
  refine callsD_of_wpS Tryz.func140 rfl fun c₀ cs hu => ?_
  apply wpS_region
  simp [wpOpsS, go_sem, recoverD, hu, hc, hz, Tryz.ntmps140, bodyPostS, results, Tryz.results140]

theorem catch_idle (p : Addr) (x : Bool) (w : World) (hc : w.cell? p = some (.bool x)) (hz : w.frozen? p = false) :
    CallsD Tryz.prog 140 #[.pointer (some p)] .returning w fun e u' w' => e = .returned (.tuple #[]) ∧ u' = .returning ∧ w' = w.setCell p (.bool true) := by
  refine callsD_of_wpS Tryz.func140 rfl fun c₀ cs hu => ?_
  apply wpS_region
  simp [wpOpsS, go_sem, recoverD, hu, hc, hz, Tryz.ntmps140, bodyPostS, results, Tryz.results140]
  all_goals (cases c₀; simp_all)

/-- A variable of the call's own that a closure has caught: one cell. -/
def Box (w : World) (b : Nat) (t : TypeId) (u : Value) : Prop := w.heap[b]? = some (.cells #[u] t (0, 0))
theorem Box.lt {w : World} {b : Nat} {t : TypeId} {u : Value} (h : Box w b t u) : b < w.heap.size := lt_of_block h
theorem Box.cell {w : World} {b : Nat} {t : TypeId} {u : Value} (h : Box w b t u) : w.cell? ⟨b, 0, none⟩ = some u ∧ w.frozen? ⟨b, 0, none⟩ = false := by
  unfold Box at h
  constructor
  · simp only [World.cell?, h]; rfl
  · simp only [World.frozen?, h]; rfl
theorem Box.grown {w w' : World} {b : Nat} {t : TypeId} {u : Value} {row : Option Nat} (h : Box w b t u) (hg : w.grownBy w' row) (hne : row ≠ some b) : Box w' b t u :=
  (hg.block b h.lt (fun e => hne e.symm)).trans h
theorem Box.set {w : World} {b : Nat} {t : TypeId} {u : Value} (h : Box w b t u) (u' : Value) : Box (w.setCell ⟨b, 0, none⟩ u') b t u' := three_setCell h
/-- Nothing but the blocks g and x is turned. -/
def Only (g x : Nat) (w w' : World) : Prop := w.heap.size ≤ w'.heap.size ∧ ∀ j, j < w.heap.size → j ≠ g → j ≠ x → w'.heap[j]? = w.heap[j]?
theorem only_grown {g x : Nat} {w w' : World} (h : w.grownBy w' (some g)) : Only g x w w' := ⟨h.size, fun j hj h1 _ => h.block j hj (fun e => h1 (by injection e))⟩
theorem Only.set {g x : Nat} {w w' : World} (h : Only g x w w') (u : Value) : Only g x w (w'.setCell ⟨x, 0, none⟩ u) :=
  ⟨by simp [World.setCell]; exact h.1, fun j hj h1 h2 => (Below.heap_setCell _ _ _ j (fun e => h2 (by rw [e]))).trans (h.2 j hj h1 h2)⟩
theorem Only.box {g x : Nat} {w w' : World} (h : Only g x w w') {b : Nat} {t : TypeId} {u : Value} (hb : Box w b t u) (h1 : b ≠ g) (h2 : b ≠ x) : Box w' b t u := (h.2 b hb.lt h1 h2).trans hb
end Go.Proofs.YtokkigfjabbdaaaGreatDoor
