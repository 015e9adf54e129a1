/- The program's byteReader where it lies in a treeReader (written by mk/irdt1.py). No condition. -/
import Derived.Test.YtogdbjafibejdaaGreatY13
import Derived.Test.YtogdbjafibejdaaGreatY42
namespace Go.Proofs.YtogdbjafibejdaaGreat
open Go.RowKit
set_option maxRecDepth 100000
set_option linter.unusedVariables false

def RdrT (w0 : World) (g : Nat) (v : Value) (xs : List Int) (tl : List Value) (i : Int) (w : World) : Prop :=
  w0.heap.size ≤ g ∧ Sl .u8 w0 v xs ∧ Below w0.heap.size w0 w ∧ xs.length ≤ 1099511627776 ∧ w.heap[g]? = some (.cells (v :: .int .i64 i :: tl).toArray 120 (0, 0))
theorem RdrT.lt {w0 : World} {g : Nat} {v : Value} {xs : List Int} {tl : List Value} {i : Int} {w : World} (h : RdrT w0 g v xs tl i w) : g < w.heap.size := lt_of_block h.2.2.2.2
theorem RdrT.below {w0 : World} {g : Nat} {v : Value} {xs : List Int} {tl : List Value} {i : Int} {w w' : World} (h : RdrT w0 g v xs tl i w) (hb : Below w.heap.size w w') : RdrT w0 g v xs tl i w' := by
  have hlt := h.lt
  obtain ⟨h1, h2, h3, h4, h5⟩ := h
  exact ⟨h1, h2, h3.trans (hb.mono h3.size), h4, (hb.block g hlt).trans h5⟩
theorem RdrT.kept {w0 : World} {g : Nat} {v : Value} {xs : List Int} {tl : List Value} {i : Int} {w w' : World} {row : Option Nat} (h : RdrT w0 g v xs tl i w) (hg : w.grownBy w' row) (hne : row ≠ some g) (hr : ∀ k, row = some k → w0.heap.size ≤ k) : RdrT w0 g v xs tl i w' := by
  have hlt := h.lt
  obtain ⟨h1, h2, h3, h4, h5⟩ := h
  exact ⟨h1, h2, h3.grown hg h3.size hr, h4, by rw [hg.block g hlt (fun e => hne e.symm)]; exact h5⟩
theorem RdrT.sl {w0 : World} {g : Nat} {v : Value} {xs : List Int} {tl : List Value} {i : Int} {w : World} (h : RdrT w0 g v xs tl i w) : Sl .u8 w v xs := h.2.1.below h.2.2.1
theorem RdrT.drewN {w0 : World} {g : Nat} {v : Value} {xs : List Int} {tl : List Value} {i : Int} {w : World} (h : RdrT w0 g v xs tl i w) (n : Nat) : RdrT w0 g v xs tl i (w.drewN n) := h.below (below_drewN n)
theorem RdrT.set {w0 : World} {g : Nat} {v : Value} {xs : List Int} {tl : List Value} {i : Int} {w : World} (h : RdrT w0 g v xs tl i w) (j : Int) : RdrT w0 g v xs tl j (w.setCell ⟨g, 1, none⟩ (.int .i64 j)) := by
  obtain ⟨h1, h2, h3, h4, h5⟩ := h
  exact ⟨h1, h2, h3.setCell h1 _, h4, by
    have := three_setCell (k := 1) (u := .int .i64 j) h5
    simpa using this⟩
theorem RdrT.cells {w0 : World} {g : Nat} {v : Value} {xs : List Int} {tl : List Value} {i : Int} {w : World} (h : RdrT w0 g v xs tl i w) :
    w.cell? ⟨g, 0, none⟩ = some v ∧ w.cell? ⟨g, 1, none⟩ = some (.int .i64 i) ∧ w.frozen? ⟨g, 1, none⟩ = false := by
  have hh := h.2.2.2.2
  refine ⟨?_, ?_, ?_⟩
  · simp only [World.cell?, hh]; rfl
  · simp only [World.cell?, hh]; rfl
  · simp only [World.frozen?, hh]; rfl

theorem oneByteT_yes {w0 : World} {g : Nat} {v : Value} {xs : List Int} {tl : List Value} {k : Nat} {w : World} (h : RdrT w0 g v xs tl k w) (hb : ∀ x ∈ xs, 0 ≤ x ∧ x ≤ 255) (hk : k < xs.length) :
    Calls Tryz.prog 169 #[.pointer (some ⟨g, 0, none⟩)] w fun e w' => e = .returned (.int .i64 (xs.getD k 0)) ∧ RdrT w0 g v xs tl (k + 1 : Nat) w' ∧ w.grownBy w' (some g) := by
  obtain ⟨c0, c1, f1⟩ := h.cells
  have h4 := h.2.2.2.1
  have h0 := h
  obtain ⟨a, ca, rfl, _, _, _, ha⟩ := h.sl
  obtain ⟨b1, o1, rfl, cx⟩ := ha k hk
  clear ha h
  go_enter Tryz.func169, Tryz.ntmps169
  have hk0 : (0 : Int) ≤ k := by omega
  have hk1 : (k : Int) < xs.length := by omega
  go_wp2
  go_region_held (fun w' => w'.cell? ⟨g, 0, none⟩ = some (.slice (some ⟨b1, o1, none⟩) xs.length ca) ∧ w'.cell? ⟨g, 1, none⟩ = some (.int .i64 k)) (go_keep)
    ((go_at_call 135; refine (need_yes _).mono ?_; rintro e w4 ⟨rfl, rfl⟩))
  go_wp2
  go_region_held (fun w' => w'.cell? ⟨g, 0, none⟩ = some (.slice (some ⟨b1, o1, none⟩) xs.length ca) ∧ w'.cell? ⟨g, 1, none⟩ = some (.int .i64 k) ∧ w'.cell? ⟨b1, o1 + k, none⟩ = some (.int .u8 (xs.getD k 0))) (go_keep) (fail)
  have hwx : IntKind.i64.wrap xs[k] = xs.getD k 0 := by
    have := hb _ (List.getElem_mem hk)
    have e : xs.getD k 0 = xs[k] := by simp [List.getD_eq_getElem?_getD, hk]
    rw [e]
    exact wrap_b7 this.1 this.2
  have r2 := (h0.drewN 2).set (k + 1 : Nat)
  have g2 := grown_trans (grown_drewN w 2 (some g)) (grown_setCell (w.drewN 2) g 1 (.int .i64 (k + 1 : Nat)))
  have R2 := (show Hid (_ ∧ _) from ⟨r2, g2⟩)
  clear r2 g2 hb
  go_wp2
  go_ret
  exact ⟨ret_int hwx, R2.out⟩

set_option maxHeartbeats 400000 in
theorem oneByteT_no {w0 : World} {g : Nat} {v : Value} {xs : List Int} {tl : List Value} {i : Int} {w : World} (h : RdrT w0 g v xs tl i w) (hk : i < 0 ∨ (xs.length : Int) ≤ i) :
    Calls Tryz.prog 169 #[.pointer (some ⟨g, 0, none⟩)] w fun e w' => Bad e ∧ RdrT w0 g v xs tl i w' ∧ w.grownBy w' (some g) := by
  obtain ⟨c0, c1, f1⟩ := h.cells
  have h0 := h
  obtain ⟨a, ca, rfl, _, _, _, ha⟩ := h.sl
  have R2 := (show Hid (_ ∧ _) from ⟨h0.drewN 1, grown_drewN w 1 (some g)⟩)
  clear ha h h0
  rcases hk with hk | hk
  · have hn : ¬ (0 ≤ i) := by omega
    have hn' : decide (0 ≤ i) = false := by simp; omega
    go_enter Tryz.func169, Tryz.ntmps169
    go_wp2
    refine region_tail 17 (by kernel_rfl) (by kernel_rfl) ?_
    intro w1 K1 hW1 hK1
    have ne := One.any w1
    have d1 : ∀ n : One w1, n.w.cell? ⟨g, 1, none⟩ = some (.int .i64 i) := fun n => by rw [n.eq, hW1.out]; exact c1
    simp only [List.take_succ_cons, List.take_zero, List.drop_succ_cons, List.drop_zero] at hK1 ⊢
    repeat (go_big_quiet_step (fail))
    refine wpQuiet_nil ?_
    refine hK1.out _ ?_
    clear hK1
    go_wp2_with fail
    go_at_call 135
    refine (need_no _).mono ?_
    rintro e w4 ⟨⟨t, s, rfl⟩, rfl⟩
    go_wp2
    rw [hW1.out]
    exact ⟨rfl, ⟨_, _, rfl⟩, R2.out⟩
  · by_cases h0 : 0 ≤ i
    · have hn : ¬ (i < xs.length) := by omega
      have hn' : decide (i < (xs.length : Int)) = false := by simp; omega
      go_enter Tryz.func169, Tryz.ntmps169
      go_wp2
      refine region_tail 17 (by kernel_rfl) (by kernel_rfl) ?_
      intro w1 K1 hW1 hK1
      have ne := One.any w1
      have d1 : ∀ n : One w1, n.w.cell? ⟨g, 1, none⟩ = some (.int .i64 i) := fun n => by rw [n.eq, hW1.out]; exact c1
      have d0 : ∀ n : One w1, n.w.cell? ⟨g, 0, none⟩ = some (.slice a xs.length ca) := fun n => by rw [n.eq, hW1.out]; exact c0
      simp only [List.take_succ_cons, List.take_zero, List.drop_succ_cons, List.drop_zero] at hK1 ⊢
      repeat (go_big_quiet_step (fail))
      refine wpQuiet_nil ?_
      refine hK1.out _ ?_
      clear hK1
      go_wp2_with fail
      go_at_call 135
      refine (need_no _).mono ?_
      rintro e w4 ⟨⟨t, s, rfl⟩, rfl⟩
      go_wp2
      rw [hW1.out]
      exact ⟨rfl, ⟨_, _, rfl⟩, R2.out⟩
    · omega
theorem numT_at {w0 : World} {g : Nat} {v : Value} {xs : List Int} {tl : List Value} {k0 : Nat} {w : World} (h : RdrT w0 g v xs tl k0 w) (hb : ∀ x ∈ xs, 0 ≤ x ∧ x ≤ 255) :
    Calls Tryz.prog 136 #[.pointer (some ⟨g, 0, none⟩)] w fun e w' => ((∃ y n, rdA 9 0 0 (xs.drop k0) = some (y, n) ∧ e = .returned (.int .i64 y) ∧ RdrT w0 g v xs tl (k0 + n : Nat) w') ∨ (rdA 9 0 0 (xs.drop k0) = none ∧ Bad e ∧ ∃ j, RdrT w0 g v xs tl j w')) ∧ w.grownBy w' (some g) := by
  have HB : Hid (∀ x ∈ xs, 0 ≤ x ∧ x ≤ 255) := hb
  clear hb
  go_enter Tryz.func136, Tryz.ntmps136
  go_wp2
  go_loopw [3, 6] (fun x s wr => ∃ (k : Nat) (acc : Int), k ≤ 9 ∧ s = .int .i64 k ∧ x = .int .i64 acc ∧ 0 ≤ acc ∧ acc < 128 ^ k ∧ rdA (9 - k) k acc (xs.drop (k0 + k)) = rdA 9 0 0 (xs.drop k0) ∧ RdrT w0 g v xs tl (k0 + k : Nat) wr ∧ w.grownBy wr (some g)) (fun _ s _ => 9 - (intOf s).toNat)
  case atStart => exact ⟨0, 0, by omega, rfl, rfl, by omega, by simp, rfl, h, World.grownBy.refl _ _⟩
  case round =>
    clear h
    obtain ⟨k, acc, hk, rfl, rfl, a0, a1, heq, rdr, gro⟩ := hrel
    have HEQ := (show Hid (_ = _) from heq)
    have HA := (show Hid (_ ∧ _) from ⟨a0, a1⟩)
    clear heq a1
    by_cases hk9 : k < 9
    · by_cases hin : k0 + k < xs.length
      · obtain ⟨d, hd⟩ : ∃ d, d = xs.getD (k0 + k) 0 := ⟨_, rfl⟩
        have one := oneByteT_yes rdr HB.out hin
        rw [← hd] at one
        have hdb : 0 ≤ d ∧ d ≤ 255 := by
          rw [hd, List.getD_eq_getElem?_getD, List.getElem?_eq_getElem hin]
          exact HB.out _ (List.getElem_mem hin)
        have hdrop : xs.drop (k0 + k) = d :: xs.drop (k0 + k + 1) := by
          rw [hd, List.drop_eq_getElem_cons hin, List.getD_eq_getElem?_getD, List.getElem?_eq_getElem hin]
          rfl
        have HD := (show Hid (_ = _) from hdrop)
        have ONE : Hid (Calls Tryz.prog 169 #[.pointer (some ⟨g, 0, none⟩)] wr fun e w' => e = .returned (.int .i64 d) ∧ RdrT w0 g v xs tl (k0 + k + 1 : Nat) w' ∧ wr.grownBy w' (some g)) := one
        clear hd hdrop one
        go_wp2_with fail
        go_at_call 169
        refine ONE.out.mono ?_
        rintro e w2 ⟨rfl, r2, g2⟩
        replace g2 := grown_trans gro g2
        have R2 := (show Hid (_ ∧ _) from ⟨r2, g2⟩)
        clear r2 g2 ONE gro rdr
        by_cases hlt : d < 128
        · have hdm : d % 128 = d := by omega
          have hsh := sh_eq (k := k) (d := d) (by omega) HA.out.1 HA.out.2 hdb.1 hlt
          have HSH := (show Hid (_ = _) from hsh)
          clear hsh
          by_cases hbad : d = 0 ∧ 0 < k
          · obtain ⟨rfl, hkp⟩ := hbad
            have hz : ((k : Int) == 0) = false := by simp; omega
            go_wp2_with fail
            go_at_call 135
            refine (need_no _).mono ?_
            rintro e w4 ⟨⟨t, s, rfl⟩, rfl⟩
            go_wp2
            refine ⟨rfl, .inr ⟨?_, ⟨_, _, rfl⟩, _, R2.out.1⟩, R2.out.2⟩
            rw [← HEQ.out, HD.out]
            obtain ⟨m, hm⟩ : ∃ m, 9 - k = m + 1 := ⟨9 - k - 1, by omega⟩
            rw [hm, rdA_bad (by omega) ⟨rfl, hkp⟩]
          · have hend : ∃ y n, rdA 9 0 0 (xs.drop k0) = some (y, n) ∧ y = acc + d * 128 ^ k ∧ n = k + 1 := by
              refine ⟨_, _, ?_, rfl, rfl⟩
              rw [← HEQ.out, HD.out]
              obtain ⟨m, hm⟩ : ∃ m, 9 - k = m + 1 := ⟨9 - k - 1, by omega⟩
              rw [hm, rdA_end hlt hbad]
            have HEND := (show Hid (∃ y n, _) from hend)
            clear hend
            by_cases hd0 : 0 < d
            · go_wp2_with fail
              go_at_call 135
              refine (need_yes _).mono ?_
              rintro e w4 ⟨rfl, rfl⟩
              go_wp2
              go_ret
              obtain ⟨y, n, h1, rfl, rfl⟩ := HEND.out
              refine ⟨.inl ⟨_, _, h1, ret_int ?_, by rw [← Nat.add_assoc]; exact R2.out.1⟩, R2.out.2⟩
              first | exact HSH.out | (rw [hdm]; exact HSH.out)
            · have hz0 : d = 0 := by omega
              have hk0 : k = 0 := by omega
              subst hz0 hk0
              go_wp2_with fail
              go_at_call 135
              refine (need_yes _).mono ?_
              rintro e w4 ⟨rfl, rfl⟩
              go_wp2
              go_ret
              obtain ⟨y, n, h1, rfl, rfl⟩ := HEND.out
              refine ⟨.inl ⟨_, _, h1, ret_int ?_, by rw [← Nat.add_assoc]; exact R2.out.1⟩, R2.out.2⟩
              have ha := HA.out
              have hac : acc = 0 := by have := ha.2; simp at this; omega
              subst hac
              simp [wrap64]
        · have hsh := sh_eq (k := k) (d := d % 128) (by omega) HA.out.1 HA.out.2 (by omega) (by omega)
          have hac := acc_step (k := k) (d := d % 128) HA.out.1 HA.out.2 (by omega) (by omega)
          have HSH := (show Hid (_ ∧ _) from ⟨hsh, hac⟩)
          clear hsh hac
          go_wp2
          go_roundw
          case rel =>
            refine ⟨k + 1, _, by omega, by go_num, rfl, by rw [HSH.out.1]; exact HSH.out.2.1, by rw [HSH.out.1]; exact HSH.out.2.2, ?_, by rw [← Nat.add_assoc]; exact R2.out.1, R2.out.2⟩
            rw [HSH.out.1, ← HEQ.out, HD.out, ← Nat.add_assoc]
            obtain ⟨m, hm⟩ : ∃ m, 9 - k = m + 1 := ⟨9 - k - 1, by omega⟩
            have hm' : 9 - (k + 1) = m := by omega
            rw [hm, hm', rdA_on (by omega)]
          case measure => simp [intOf]; omega
      · have hno := oneByteT_no rdr (.inr (by omega))
        have ONE : Hid (Calls Tryz.prog 169 #[.pointer (some ⟨g, 0, none⟩)] wr fun e w' => Bad e ∧ RdrT w0 g v xs tl (k0 + k : Nat) w' ∧ wr.grownBy w' (some g)) := hno
        clear hno
        go_wp2_with fail
        go_at_call 169
        refine ONE.out.mono ?_
        rintro e w2 ⟨⟨t, s, rfl⟩, r2, g2⟩
        go_wp2
        refine ⟨rfl, .inr ⟨?_, ⟨_, _, rfl⟩, _, r2⟩, grown_trans gro g2⟩
        rw [← HEQ.out, List.drop_eq_nil_of_le (by omega), rdA_nil]
    · have hke : k = 9 := by omega
      subst hke
      go_wp2
      refine ⟨rfl, .inr ⟨?_, ⟨_, _, rfl⟩, _, rdr⟩, gro⟩
      rw [← HEQ.out]
      rfl

theorem numT_neg {w0 : World} {g : Nat} {v : Value} {xs : List Int} {tl : List Value} {i : Int} {w : World} (h : RdrT w0 g v xs tl i w) (hi : i < 0) :
    Calls Tryz.prog 136 #[.pointer (some ⟨g, 0, none⟩)] w fun e w' => Bad e ∧ (∃ j, RdrT w0 g v xs tl j w') ∧ w.grownBy w' (some g) := by
  have ONE : Hid (Calls Tryz.prog 169 #[.pointer (some ⟨g, 0, none⟩)] w fun e w' => Bad e ∧ RdrT w0 g v xs tl i w' ∧ w.grownBy w' (some g)) := oneByteT_no h (.inl hi)
  go_enter Tryz.func136, Tryz.ntmps136
  go_wp2
  go_loopw [3, 6] (fun x s wr => x = .int .i64 0 ∧ s = .int .i64 0 ∧ Hid (wr = w)) (fun _ _ _ => 0)
  case atStart => exact ⟨rfl, rfl, rfl⟩
  case round =>
    obtain ⟨rfl, rfl, hw⟩ := hrel
    have e := hw.out
    subst e
    go_wp2_with fail
    go_at_call 169
    refine ONE.out.mono ?_
    rintro e w2 ⟨⟨t, s, rfl⟩, r2, g2⟩
    go_wp2
    exact ⟨rfl, ⟨_, _, rfl⟩, ⟨_, r2⟩, g2⟩

theorem numT_any {w0 : World} {g : Nat} {v : Value} {xs : List Int} {tl : List Value} {i : Int} {w : World} (h : RdrT w0 g v xs tl i w) (hb : ∀ x ∈ xs, 0 ≤ x ∧ x ≤ 255) :
    Calls Tryz.prog 136 #[.pointer (some ⟨g, 0, none⟩)] w fun e w' => ((∃ y n, rdI xs i = some (y, n) ∧ e = .returned (.int .i64 y) ∧ RdrT w0 g v xs tl (i + n) w') ∨ (rdI xs i = none ∧ Bad e ∧ ∃ j, RdrT w0 g v xs tl j w')) ∧ w.grownBy w' (some g) := by
  by_cases hi : i < 0
  · refine (numT_neg h hi).mono ?_
    rintro e w' ⟨h1, h2, h3⟩
    exact ⟨.inr ⟨rdI_neg hi, h1, h2⟩, h3⟩
  · obtain ⟨k, rfl⟩ : ∃ k : Nat, i = k := ⟨i.toNat, by omega⟩
    rw [rdI_nat]
    refine (numT_at h hb).mono ?_
    rintro e w' ⟨h1, h3⟩
    refine ⟨?_, h3⟩
    rcases h1 with ⟨y, n, h1, h2, h4⟩ | h1
    · exact .inl ⟨y, n, h1, h2, by rw [Int.natCast_add] at h4; exact h4⟩
    · exact .inr h1
set_option maxHeartbeats 1000000 in
theorem textT_any {w0 : World} {g : Nat} {v : Value} {xs : List Int} {tl : List Value} {i : Int} {w : World} (h : RdrT w0 g v xs tl i w) (hb : ∀ x ∈ xs, 0 ≤ x ∧ x ≤ 255) :
    Calls Tryz.prog 137 #[.pointer (some ⟨g, 0, none⟩)] w fun e w' => ((∃ t j, rdT xs i = some (t, j) ∧ e = .returned (.string (strOf t)) ∧ RdrT w0 g v xs tl j w') ∨ (rdT xs i = none ∧ Bad e ∧ ∃ j, RdrT w0 g v xs tl j w')) ∧ w.grownBy w' (some g) := by
  have CALL := (show Hid (Calls Tryz.prog 136 #[.pointer (some ⟨g, 0, none⟩)] w _) from numT_any h hb)
  go_enter Tryz.func137, Tryz.ntmps137
  go_wp2_with fail
  go_at_call 136
  refine CALL.out.mono ?_
  rintro e w2 ⟨hor, g2⟩
  clear CALL
  rcases hor with ⟨y, n, hy, rfl, r2⟩ | ⟨hy, ⟨t, s, rfl⟩, j, r2⟩
  · obtain ⟨k, p, rfl, hp, hpl, hkm, -⟩ := rdI_nats hy hb
    rw [hp] at r2
    obtain ⟨c0, c1, f1⟩ := r2.cells
    have h4 := r2.2.2.2.1
    have hsl := r2.sl
    have R2 := (show Hid (_ ∧ _) from ⟨r2, g2⟩)
    by_cases hk : (k : Int) ≤ xs.length - (p : Int)
    · have HT := (show Hid (_ = _) from rdT_fit hy hp hk)
      clear hy hp r2 g2 h
      obtain ⟨a, ca, rfl, hl1, hl2, hl3, ha⟩ := hsl
      clear ha
      have hwr : IntKind.i64.wrap ((xs.length : Int) - (p : Int)) = (xs.length : Int) - (p : Int) := wrap_fit7 (by omega) (by omega)
      go_wp2
      go_region_held (fun w' => w'.cell? ⟨g, 0, none⟩ = some (.slice a xs.length ca) ∧ w'.cell? ⟨g, 1, none⟩ = some (.int .i64 p)) (go_keep)
        ((go_at_call 135; refine (need_yes _).mono ?_; rintro e w4 ⟨rfl, rfl⟩))
      go_wp2
      refine region_tail 9 (by kernel_rfl) (by kernel_rfl) ?_
      intro w1 K1 hW1 hK1
      have ne := One.any w1
      have r3 : RdrT w0 g (.slice a xs.length ca) xs tl ((p : Int) + (k : Int)) w1 := by rw [hW1.out]; exact ((R2.out.1.set _).drewN 1).drewN 1
      have g3 : w.grownBy w1 (some g) := by rw [hW1.out]; exact grown_trans (grown_trans R2.out.2 (grown_setCell w2 g 1 (.int .i64 ((p : Int) + (k : Int))))) (grown_drewN _ 2 _)
      have hs1 := r3.sl
      obtain ⟨e0, e1, _⟩ := r3.cells
      have d1 : ∀ n : One w1, n.w.cell? ⟨g, 1, none⟩ = some (.int .i64 ((p : Int) + (k : Int))) := fun n => by rw [n.eq]; exact e1
      have d0 : ∀ n : One w1, n.w.cell? ⟨g, 0, none⟩ = some (.slice a xs.length ca) := fun n => by rw [n.eq]; exact e0
      have END := (show Hid (_ ∧ _ ∧ _) from ⟨HT.out, r3, g3⟩)
      clear HT R2 hW1 r3 g3 c0 c1 f1 hwr
      simp only [List.take_succ_cons, List.take_zero, List.drop_succ_cons, List.drop_zero] at hK1 ⊢
      repeat (go_big_quiet_step (fail))
      refine wpQuiet_nil ?_
      refine hK1.out _ ?_
      clear hK1
      by_cases hca : ca = p
      · subst hca
        obtain rfl : k = 0 := by omega
        have cv := conv_sl (sub_sl0 (K := .u8) (w := w1) a)
        go_wp2
        go_ret
        obtain ⟨t1, t2, t3⟩ := END.out
        exact ⟨.inl ⟨_, _, t1, by simp, t2⟩, t3⟩
      · have cv := conv_sl (sub_sl hs1 (p := p) (k := k) (by omega) hca)
        go_wp2
        go_ret
        obtain ⟨t1, t2, t3⟩ := END.out
        exact ⟨.inl ⟨_, _, t1, rfl, t2⟩, t3⟩
    · have HT := (show Hid (_ = _) from rdT_over hy hp hk)
      clear hy hp r2 g2 h
      obtain ⟨a, ca, rfl, hl1, hl2, hl3, ha⟩ := hsl
      clear ha
      have hk' : decide ((k : Int) ≤ xs.length - (p : Int)) = false := by simp; omega
      go_wp2
      refine region_tail 12 (by kernel_rfl) (by kernel_rfl) ?_
      intro w1 K1 hW1 hK1
      have ne := One.any w1
      have d1 : ∀ n : One w1, n.w.cell? ⟨g, 1, none⟩ = some (.int .i64 p) := fun n => by rw [n.eq, hW1.out]; exact c1
      have d0 : ∀ n : One w1, n.w.cell? ⟨g, 0, none⟩ = some (.slice a xs.length ca) := fun n => by rw [n.eq, hW1.out]; exact c0
      simp only [List.take_succ_cons, List.take_zero, List.drop_succ_cons, List.drop_zero] at hK1 ⊢
      repeat (go_big_quiet_step (fail))
      refine wpQuiet_nil ?_
      refine hK1.out _ ?_
      clear hK1
      go_wp2_with fail
      go_at_call 135
      refine (need_no _).mono ?_
      rintro e w4 ⟨⟨t, s, rfl⟩, rfl⟩
      go_wp2
      rw [hW1.out]
      exact ⟨rfl, .inr ⟨HT.out, ⟨_, _, rfl⟩, _, R2.out.1.drewN 1⟩, grown_trans R2.out.2 (grown_drewN w2 1 _)⟩
  · have END := (show Hid (_ ∧ _ ∧ _) from ⟨rdT_none hy, r2, g2⟩)
    clear hy r2 g2
    go_wp2
    exact ⟨rfl, .inr ⟨END.out.1, ⟨_, _, rfl⟩, _, END.out.2.1⟩, END.out.2.2⟩

theorem pT_any {w0 : World} {g : Nat} {v : Value} {xs : List Int} {tl : List Value} {i : Nat} {w : World} (h : RdrT w0 g v xs tl i w) (hb : ∀ x ∈ xs, 0 ≤ x ∧ x ≤ 255) :
    Calls Tryz.prog 136 #[.pointer (some ⟨g, 0, none⟩)] w fun e w' => ((∃ k j : Nat, rdP xs i = some (k, j) ∧ e = .returned (.int .i64 (k : Int)) ∧ RdrT w0 g v xs tl j w') ∨ (rdP xs i = none ∧ Bad e ∧ ∃ j, RdrT w0 g v xs tl j w')) ∧ w.grownBy w' (some g) := by
  refine (numT_any h hb).mono ?_
  rintro e w' ⟨ho, hg⟩
  refine ⟨?_, hg⟩
  rcases ho with ⟨y, n, hy, rfl, hr⟩ | ⟨hy, hbad, hr⟩
  · obtain ⟨k, p, rfl, e2, _, _, _⟩ := rdI_nats hy hb
    refine .inl ⟨k, p, ?_, rfl, by rw [e2] at hr; exact hr⟩
    unfold rdP
    rw [hy]
    simp only [Int.toNat_natCast, Option.some.injEq, Prod.mk.injEq, true_and]
    omega
  · exact .inr ⟨by unfold rdP; rw [hy], hbad, hr⟩
theorem xT_any {w0 : World} {g : Nat} {v : Value} {xs : List Int} {tl : List Value} {i : Nat} {w : World} (h : RdrT w0 g v xs tl i w) (hb : ∀ x ∈ xs, 0 ≤ x ∧ x ≤ 255) :
    Calls Tryz.prog 137 #[.pointer (some ⟨g, 0, none⟩)] w fun e w' => ((∃ (s : ByteArray) (j : Nat), rdX xs i = some (s, j) ∧ e = .returned (.string s) ∧ RdrT w0 g v xs tl j w') ∨ (rdX xs i = none ∧ Bad e ∧ ∃ j, RdrT w0 g v xs tl j w')) ∧ w.grownBy w' (some g) := by
  refine (textT_any h hb).mono ?_
  rintro e w' ⟨ho, hg⟩
  refine ⟨?_, hg⟩
  rcases ho with ⟨t, j, ht, rfl, hr⟩ | ⟨ht, hbad, hr⟩
  · have hs := rdT_some2 ht hb
    refine .inl ⟨strOf t, j.toNat, by unfold rdX; rw [ht], rfl, ?_⟩
    have ej : (j.toNat : Int) = j := by omega
    rw [ej]
    exact hr
  · exact .inr ⟨by unfold rdX; rw [ht], hbad, hr⟩
end Go.Proofs.YtogdbjafibejdaaGreat
