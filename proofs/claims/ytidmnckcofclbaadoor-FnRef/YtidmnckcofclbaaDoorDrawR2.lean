/- The contract of the draw of a list of points with a place in it. -/
import Derived.Test.YtidmnckcofclbaaDoorDrawR
import Derived.OwnWalk
namespace Go.Proofs.YtidmnckcofclbaaDoor
open Go.RowKit
set_option linter.unusedVariables false

/-- A slice of noughts that was just made, and its first cell written. -/
theorem made_first {B g n : Nat} {w : World} (h : Own B 3 .i64 w (.slice (some ⟨g, 0, none⟩) n n) (List.replicate n 0)) (hn : 0 < n) (x : Int) :
    w.cell? ⟨g, 0, none⟩ = some (.int .i64 0) ∧ w.frozen? ⟨g, 0, none⟩ = false ∧ Own B 3 .i64 (w.setCell ⟨g, 0, none⟩ (.int .i64 x)) (.slice (some ⟨g, 0, none⟩) n n) ((List.replicate n 0).set 0 x) ∧
      w.grownBy (w.setCell ⟨g, 0, none⟩ (.int .i64 x)) (some g) := by
  unfold Own at h ⊢
  rw [List.length_replicate] at h
  have hs := h.stored 0 (.int .i64 x)
  refine ⟨?_, h.frozenAt 0, ?_, hs.2⟩
  · rw [h.cellAt 0 (by omega)]
    simp [hn]
  · rw [List.length_set, List.length_replicate, List.map_set]; exact hs.1

set_option maxHeartbeats 4000000 in
set_option maxRecDepth 100000 in
theorem drawRefRead_any {v : Value} {xs : List Int} {w : World} (h : Sl .u8 w v xs) (hb : ∀ x ∈ xs, 0 ≤ x ∧ x ≤ 255) (hn : xs.length ≤ 1099511627776) :
    Calls Tryd.prog 7 #[v] w fun e w' => ∃ v' zs i b, e = .returned (.tuple #[v', .int .i64 i, .bool b]) ∧ Own w.heap.size 3 .i64 w' v' zs ∧ zs.length ≤ 4000 ∧ (-1 ≤ i ∧ i ≤ 4000) ∧ (zs.length ≤ 200 ∨ ∃ n : Nat, zs = (List.replicate n 0).set 0 38 ∧ i = 0) ∧ Below w.heap.size w w' := by
  have HB : Hid (∀ x ∈ xs, 0 ≤ x ∧ x ≤ 255) := hb
  clear hb
  obtain ⟨i0, hi, hz0, hz1, hz2⟩ := info_parts Tryd.infoI
  go_enter Tryd.func7, Tryd.ntmps7
  go_wp2_with fail
  go_at_call 18
  refine (new_any h HB.out hn).mono ?_
  rintro e w1 ⟨rfl, k1, b1⟩
  go_wp2_with fail
  go_at_call 20
  refine (pickS_any k1 HB.out [⟨#[]⟩, ⟨#[97]⟩] (by simp) (by simp) _ rfl 2 rfl).mono ?_
  rintro e w2 ⟨t, rfl, ht, k2, g2⟩
  have hts : t.size ≤ 1 := by
    have : ∀ t ∈ ([⟨#[]⟩, ⟨#[97]⟩] : List ByteArray), t.size ≤ 1 := by decide
    exact this t ht
  have b2 := b1.grown g2 b1.size (fun k hk => by cases hk; exact Nat.le_refl _)
  clear ht k1 g2 b1
  go_wp2_with fail
  go_at_call 21
  refine (drawRef_any k2 HB.out).mono ?_
  rintro e w3 ⟨s, rfl, hs, k3, g3⟩
  have b3 := b2.grown g3 b2.size (fun k hk => by cases hk; exact Nat.le_refl _)
  clear k2 g3 b2
  have hadd := run_string_add_sum (P := Tryd.prog) w3 t s (by omega)
  have hsz := add_size t s
  obtain ⟨ts, hts2⟩ : ∃ ts, ts = t ++ s := ⟨_, rfl⟩
  rw [← hts2] at hadd hsz
  clear hts2
  go_wp2_with fail
  go_at_call 20
  refine (pickS_any k3 HB.out [⟨#[]⟩, ⟨#[59]⟩, ⟨#[61]⟩, ⟨#[97]⟩, ⟨#[49]⟩, ⟨#[32]⟩] (by simp) (by simp) _ rfl 6 rfl).mono ?_
  rintro e w4 ⟨r, rfl, hr, k4, g4⟩
  have hrs : r.size ≤ 1 := by
    have : ∀ t ∈ ([⟨#[]⟩, ⟨#[59]⟩, ⟨#[61]⟩, ⟨#[97]⟩, ⟨#[49]⟩, ⟨#[32]⟩] : List ByteArray), t.size ≤ 1 := by decide
    exact this r hr
  have b4 := b3.grown g4 b3.size (fun k hk => by cases hk; exact Nat.le_refl _)
  clear hr k3 g4 b3 hadd
  have hadd := run_string_add_sum (P := Tryd.prog) w4 ts r (by omega)
  have hsz2 := add_size ts r
  obtain ⟨al, hal⟩ : ∃ al, al = ts ++ r := ⟨_, rfl⟩
  rw [← hal] at hadd hsz2
  clear hal
  go_wp2_with fail
  go_at_call 19
  refine (l3Points_any al w4 (by omega)).mono ?_
  rintro e w5 ⟨u, zs, rfl, o5, hzl, b5⟩
  have k5 := k4.below b5
  have hlt4 := k4.lt
  replace o5 := o5.base (B' := w.heap.size + 1) (by omega)
  replace b5 := b4.trans (b5.mono b4.size)
  clear k4 b4 hadd
  have hzz : zs.length ≤ 200 := by omega
  have OW := (show Hid (Own (w.heap.size + 1) 3 .i64 w5 u zs) from o5)
  obtain ⟨a, ca, rfl, _, _, _, ha⟩ := o5.sl
  clear o5
  go_wp2
  go_loop [7] (fun i => ∃ j : Nat, j ≤ zs.length ∧ i = .int .i64 j) (fun i => zs.length - (intOf i).toNat)
  case atStart => exact ⟨0, Nat.zero_le _, rfl⟩
  case round =>
    obtain ⟨j, hj, rfl⟩ := hrel
    have hstop : (¬ j < zs.length ∨ (j < zs.length ∧ zs.getD j 0 = 38)) ∨ (j < zs.length ∧ zs.getD j 0 ≠ 38) := by omega
    rcases hstop with hstop | ⟨hlt, hne⟩
    · have o5 := OW.out
      have hjb : (-1 : Int) ≤ (j : Int) ∧ (j : Int) ≤ 4000 := by omega
      rcases hstop with hstop | ⟨hlt, h38⟩
      · clear ha
        go_wp2_with fail
        go_at_call 22
        refine (once_any _ (by omega) k5 HB.out).mono ?_
        rintro e w6 ⟨b6, rfl, k6, g6⟩
        have o6 := own_past o5 g6 (by omega)
        have bb := b5.grown g6 b5.size (fun k hk => by cases hk; exact Nat.le_refl _)
        clear o5 k5 b5 g6 OW
        cases b6
        · go_wp2_with fail
          go_at_call 22
          refine (once_any _ (by omega) k6 HB.out).mono ?_
          rintro e wc ⟨bc, rfl, kc, gc⟩
          have oc := own_past o6 gc (by omega)
          have bc' := bb.grown gc bb.size (fun k hk => by cases hk; exact Nat.le_refl _)
          cases bc
          · go_wp2_with fail
            go_at_call 22
            refine (once_any _ (by omega) kc HB.out).mono ?_
            rintro e wz ⟨bz, rfl, kz, gz⟩
            have oz := own_past oc gz (by omega)
            have bz' := bc'.grown gz bc'.size (fun k hk => by cases hk; exact Nat.le_refl _)
            go_wp2
            go_ret3
            exact ⟨_, _, _, _, rfl, oz.base (by omega), by omega, hjb, .inl hzz, bz'⟩
          · go_wp2_with fail
            go_at_call 24
            refine (below_any _ (by omega) kc HB.out).mono ?_
            rintro e wd ⟨q, rfl, q0, q1, q2, kd, gd⟩
            replace q1 := q1 (by omega)
            clear q2 oc
            obtain ⟨q, rfl⟩ : ∃ k : Nat, q = k := ⟨q.toNat, by omega⟩
            have bd := bc'.grown gd bc'.size (fun k hk => by cases hk; exact Nat.le_refl _)
            have hkd := kd.lt
            go_wp2_with (at_make; refine wpList_mkn _ rfl (.tmp 45) (.tmp 45) 24 rfl 3 i0 .i64 Tryd.underlying24 hi hz0 hz1 (3000 + q) (3000 + q) (3000 + q) rfl rfl (by omega) (by omega) (by rw [hz2]; omega) (by unfold maxLen; omega) ?_; intro we oe be; obtain ⟨ce, fe, of, gf⟩ := made_first oe (by omega) 38)
            have hbd := bd.size
            have kf := (kd.below be).kept gf (fun e => by injection e with e; omega) (fun k hk => by cases hk; exact hbd)
            have bf := (bd.trans (be.mono hbd)).grown gf (by have := be.size; omega) (fun k hk => by cases hk; exact hbd)
            go_at_call 22
            refine (once_any _ (by omega) kf HB.out).mono ?_
            rintro e wz ⟨bz, rfl, kz, gz⟩
            have oz := own_past of gz (by omega)
            have bz' := bf.grown gz bf.size (fun k hk => by cases hk; exact Nat.le_refl _)
            go_wp2
            go_ret3
            exact ⟨_, _, _, _, rfl, oz.base hbd, by simp; omega, by omega, .inr ⟨_, rfl, rfl⟩, bz'⟩
        · go_wp2_with fail
          go_at_call 23
          refine (pickL_any k6 HB.out [-1, 0, zs.length, 1] (by simp) (by simp) _ rfl 4 rfl).mono ?_
          rintro e w7 ⟨z, rfl, hz, k7, g7⟩
          have hzb : (-1 : Int) ≤ z ∧ z ≤ 4000 := by simp at hz; omega
          have o7 := own_past o6 g7 (by omega)
          have b7 := bb.grown g7 bb.size (fun k hk => by cases hk; exact Nat.le_refl _)
          clear o6 k6 bb g7 hz
          go_wp2_with fail
          go_at_call 22
          refine (once_any _ (by omega) k7 HB.out).mono ?_
          rintro e wc ⟨bc, rfl, kc, gc⟩
          have oc := own_past o7 gc (by omega)
          have bc' := b7.grown gc b7.size (fun k hk => by cases hk; exact Nat.le_refl _)
          cases bc
          · go_wp2_with fail
            go_at_call 22
            refine (once_any _ (by omega) kc HB.out).mono ?_
            rintro e wz ⟨bz, rfl, kz, gz⟩
            have oz := own_past oc gz (by omega)
            have bz' := bc'.grown gz bc'.size (fun k hk => by cases hk; exact Nat.le_refl _)
            go_wp2
            go_ret3
            exact ⟨_, _, _, _, rfl, oz.base (by omega), by omega, hzb, .inl hzz, bz'⟩
          · go_wp2_with fail
            go_at_call 24
            refine (below_any _ (by omega) kc HB.out).mono ?_
            rintro e wd ⟨q, rfl, q0, q1, q2, kd, gd⟩
            replace q1 := q1 (by omega)
            clear q2 oc
            obtain ⟨q, rfl⟩ : ∃ k : Nat, q = k := ⟨q.toNat, by omega⟩
            have bd := bc'.grown gd bc'.size (fun k hk => by cases hk; exact Nat.le_refl _)
            have hkd := kd.lt
            go_wp2_with (at_make; refine wpList_mkn _ rfl (.tmp 45) (.tmp 45) 24 rfl 3 i0 .i64 Tryd.underlying24 hi hz0 hz1 (3000 + q) (3000 + q) (3000 + q) rfl rfl (by omega) (by omega) (by rw [hz2]; omega) (by unfold maxLen; omega) ?_; intro we oe be; obtain ⟨ce, fe, of, gf⟩ := made_first oe (by omega) 38)
            have hbd := bd.size
            have kf := (kd.below be).kept gf (fun e => by injection e with e; omega) (fun k hk => by cases hk; exact hbd)
            have bf := (bd.trans (be.mono hbd)).grown gf (by have := be.size; omega) (fun k hk => by cases hk; exact hbd)
            go_at_call 22
            refine (once_any _ (by omega) kf HB.out).mono ?_
            rintro e wz ⟨bz, rfl, kz, gz⟩
            have oz := own_past of gz (by omega)
            have bz' := bf.grown gz bf.size (fun k hk => by cases hk; exact Nat.le_refl _)
            go_wp2
            go_ret3
            exact ⟨_, _, _, _, rfl, oz.base hbd, by simp; omega, by omega, .inr ⟨_, rfl, rfl⟩, bz'⟩
      · obtain ⟨b9, o9, e9, c9⟩ := ha j hlt
        cases e9
        rw [h38] at c9
        clear ha
        go_wp2_with fail
        go_at_call 22
        refine (once_any _ (by omega) k5 HB.out).mono ?_
        rintro e w6 ⟨b6, rfl, k6, g6⟩
        have o6 := own_past o5 g6 (by omega)
        have bb := b5.grown g6 b5.size (fun k hk => by cases hk; exact Nat.le_refl _)
        clear o5 k5 b5 g6 OW
        cases b6
        · go_wp2_with fail
          go_at_call 22
          refine (once_any _ (by omega) k6 HB.out).mono ?_
          rintro e wc ⟨bc, rfl, kc, gc⟩
          have oc := own_past o6 gc (by omega)
          have bc' := bb.grown gc bb.size (fun k hk => by cases hk; exact Nat.le_refl _)
          cases bc
          · go_wp2_with fail
            go_at_call 22
            refine (once_any _ (by omega) kc HB.out).mono ?_
            rintro e wz ⟨bz, rfl, kz, gz⟩
            have oz := own_past oc gz (by omega)
            have bz' := bc'.grown gz bc'.size (fun k hk => by cases hk; exact Nat.le_refl _)
            go_wp2
            go_ret3
            exact ⟨_, _, _, _, rfl, oz.base (by omega), by omega, hjb, .inl hzz, bz'⟩
          · go_wp2_with fail
            go_at_call 24
            refine (below_any _ (by omega) kc HB.out).mono ?_
            rintro e wd ⟨q, rfl, q0, q1, q2, kd, gd⟩
            replace q1 := q1 (by omega)
            clear q2 oc
            obtain ⟨q, rfl⟩ : ∃ k : Nat, q = k := ⟨q.toNat, by omega⟩
            have bd := bc'.grown gd bc'.size (fun k hk => by cases hk; exact Nat.le_refl _)
            have hkd := kd.lt
            go_wp2_with (at_make; refine wpList_mkn _ rfl (.tmp 45) (.tmp 45) 24 rfl 3 i0 .i64 Tryd.underlying24 hi hz0 hz1 (3000 + q) (3000 + q) (3000 + q) rfl rfl (by omega) (by omega) (by rw [hz2]; omega) (by unfold maxLen; omega) ?_; intro we oe be; obtain ⟨ce, fe, of, gf⟩ := made_first oe (by omega) 38)
            have hbd := bd.size
            have kf := (kd.below be).kept gf (fun e => by injection e with e; omega) (fun k hk => by cases hk; exact hbd)
            have bf := (bd.trans (be.mono hbd)).grown gf (by have := be.size; omega) (fun k hk => by cases hk; exact hbd)
            go_at_call 22
            refine (once_any _ (by omega) kf HB.out).mono ?_
            rintro e wz ⟨bz, rfl, kz, gz⟩
            have oz := own_past of gz (by omega)
            have bz' := bf.grown gz bf.size (fun k hk => by cases hk; exact Nat.le_refl _)
            go_wp2
            go_ret3
            exact ⟨_, _, _, _, rfl, oz.base hbd, by simp; omega, by omega, .inr ⟨_, rfl, rfl⟩, bz'⟩
        · go_wp2_with fail
          go_at_call 23
          refine (pickL_any k6 HB.out [-1, 0, zs.length, 1] (by simp) (by simp) _ rfl 4 rfl).mono ?_
          rintro e w7 ⟨z, rfl, hz, k7, g7⟩
          have hzb : (-1 : Int) ≤ z ∧ z ≤ 4000 := by simp at hz; omega
          have o7 := own_past o6 g7 (by omega)
          have b7 := bb.grown g7 bb.size (fun k hk => by cases hk; exact Nat.le_refl _)
          clear o6 k6 bb g7 hz
          go_wp2_with fail
          go_at_call 22
          refine (once_any _ (by omega) k7 HB.out).mono ?_
          rintro e wc ⟨bc, rfl, kc, gc⟩
          have oc := own_past o7 gc (by omega)
          have bc' := b7.grown gc b7.size (fun k hk => by cases hk; exact Nat.le_refl _)
          cases bc
          · go_wp2_with fail
            go_at_call 22
            refine (once_any _ (by omega) kc HB.out).mono ?_
            rintro e wz ⟨bz, rfl, kz, gz⟩
            have oz := own_past oc gz (by omega)
            have bz' := bc'.grown gz bc'.size (fun k hk => by cases hk; exact Nat.le_refl _)
            go_wp2
            go_ret3
            exact ⟨_, _, _, _, rfl, oz.base (by omega), by omega, hzb, .inl hzz, bz'⟩
          · go_wp2_with fail
            go_at_call 24
            refine (below_any _ (by omega) kc HB.out).mono ?_
            rintro e wd ⟨q, rfl, q0, q1, q2, kd, gd⟩
            replace q1 := q1 (by omega)
            clear q2 oc
            obtain ⟨q, rfl⟩ : ∃ k : Nat, q = k := ⟨q.toNat, by omega⟩
            have bd := bc'.grown gd bc'.size (fun k hk => by cases hk; exact Nat.le_refl _)
            have hkd := kd.lt
            go_wp2_with (at_make; refine wpList_mkn _ rfl (.tmp 45) (.tmp 45) 24 rfl 3 i0 .i64 Tryd.underlying24 hi hz0 hz1 (3000 + q) (3000 + q) (3000 + q) rfl rfl (by omega) (by omega) (by rw [hz2]; omega) (by unfold maxLen; omega) ?_; intro we oe be; obtain ⟨ce, fe, of, gf⟩ := made_first oe (by omega) 38)
            have hbd := bd.size
            have kf := (kd.below be).kept gf (fun e => by injection e with e; omega) (fun k hk => by cases hk; exact hbd)
            have bf := (bd.trans (be.mono hbd)).grown gf (by have := be.size; omega) (fun k hk => by cases hk; exact hbd)
            go_at_call 22
            refine (once_any _ (by omega) kf HB.out).mono ?_
            rintro e wz ⟨bz, rfl, kz, gz⟩
            have oz := own_past of gz (by omega)
            have bz' := bf.grown gz bf.size (fun k hk => by cases hk; exact Nat.le_refl _)
            go_wp2
            go_ret3
            exact ⟨_, _, _, _, rfl, oz.base hbd, by simp; omega, by omega, .inr ⟨_, rfl, rfl⟩, bz'⟩
    · obtain ⟨b9, o9, e9, c9⟩ := ha j hlt
      cases e9
      have e38 : (zs.getD j 0 != 38) = true := by simpa using hne
      obtain ⟨y, hy⟩ : ∃ y, y = zs.getD j 0 := ⟨_, rfl⟩
      rw [← hy] at c9 e38
      clear ha hy hne
      go_wp2
      go_round
      case rel => exact ⟨j + 1, by omega, by go_num⟩
      case measure => simp [intOf]; omega
end Go.Proofs.YtidmnckcofclbaaDoor
