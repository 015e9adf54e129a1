/- The program's cutter: a value; an attribute (written by mk/icute.py). No condition. -/
import Derived.Test.YtggfifchkecnjaaGreatDoorY36
namespace Go.Proofs.YtggfifchkecnjaaGreatDoor
open Go.RowKit
set_option maxRecDepth 100000
set_option linter.unusedVariables false

theorem lowerOf_eq {x c : Int} (hc : ¬ (97 ≤ c ∧ c ≤ 122)) (hc2 : ¬ (65 ≤ c ∧ c ≤ 90)) : lowerOf x = c ↔ x = c := by
  unfold lowerOf
  by_cases h : 65 ≤ x ∧ x ≤ 90
  · rw [inB_yes h.1 h.2, if_pos rfl]; omega
  · rw [inB_no (by omega)]; simp
theorem low_one {xs : List Int} {k : Nat} {c : UInt8} (hc : ¬ (97 ≤ (c.toNat : Int) ∧ (c.toNat : Int) ≤ 122)) (hc2 : ¬ (65 ≤ (c.toNat : Int) ∧ (c.toNat : Int) ≤ 90)) : standsLow xs k (bs ⟨#[c]⟩) = (atL xs k == (c.toNat : Int)) := by
  have : bs ⟨#[c]⟩ = [(c.toNat : Int)] := rfl
  rw [this]
  unfold standsLow
  have e : (List.range [(c.toNat : Int)].length) = [0] := rfl
  rw [e]
  simp only [List.all_cons, List.all_nil, Bool.and_true, Nat.add_zero, List.getD_cons_zero]
  rw [Bool.eq_iff_iff]
  simp only [beq_iff_eq]
  exact lowerOf_eq hc hc2
theorem lowT_34 : LowT ⟨#[34]⟩ := ⟨by decide, by decide⟩
theorem lowT_39 : LowT ⟨#[39]⟩ := ⟨by decide, by decide⟩
theorem lowT_61 : LowT ⟨#[61]⟩ := ⟨by decide, by decide⟩
theorem lowT_62 : LowT ⟨#[62]⟩ := ⟨by decide, by decide⟩
theorem st_34 (xs : List Int) (k : Nat) : standsLow xs k (bs ⟨#[34]⟩) = (atL xs k == 34) := low_one (by decide) (by decide)
theorem st_39 (xs : List Int) (k : Nat) : standsLow xs k (bs ⟨#[39]⟩) = (atL xs k == 39) := low_one (by decide) (by decide)
theorem st_61 (xs : List Int) (k : Nat) : standsLow xs k (bs ⟨#[61]⟩) = (atL xs k == 61) := low_one (by decide) (by decide)
theorem st_62 (xs : List Int) (k : Nat) : standsLow xs k (bs ⟨#[62]⟩) = (atL xs k == 62) := low_one (by decide) (by decide)
theorem past_is {xs : List Int} {k : Nat} {c : Int} {t : ByteArray} (ht : t.size = 1) (hs : standsLow xs k (bs t) = (atL xs k == c)) (hc : 0 ≤ c) (h : k < xs.length → atL xs k = c) : behT xs k t = past xs k := by
  unfold behT past
  rw [hs, ht]
  by_cases hk : k < xs.length
  · rw [if_pos hk, if_pos (by simp [h hk])]
  · rw [if_neg hk, if_neg (by rw [atL_out (by omega)]; simp; omega)]
theorem takes_cb {w0 : World} {g : Nat} {v : Value} {xs : List Int} {s : ByteArray} {w : World} {k : Nat} {wr : World} (h : CB w0 g v xs s w k wr) (hy : ∀ y ∈ xs, pointOk y = true) (t : ByteArray) (ht : LowT t) (ht0 : 0 < t.size) :
    Calls Tryz.prog 118 #[.agg #[v, .pointer (some ⟨g, 0, none⟩), .string s], .string t] wr fun e w' => e = .returned (.bool (standsLow xs k (bs t))) ∧ CB w0 g v xs s w (behT xs k t) w' ∧ wr.grownBy w' (some g) := by
  refine (takes_any h.cut hy s t ht ht0).mono ?_
  rintro e w' ⟨rfl, hc, hg⟩
  exact ⟨rfl, h.move hc hg, hg⟩
theorem quoteF_any (x : Int) {W : World} {Q : Nat} {c : UInt8} (hq : W.cell? ⟨Q, 0, none⟩ = some (.string ⟨#[c]⟩)) : Calls Tryz.prog 153 #[.int .i64 x, .pointer (some ⟨Q, 0, none⟩)] W fun e w' => e = .returned (.bool (x == (c.toNat : Int))) ∧ Below W.heap.size W w' := by
  have h0 : (0 : Nat) < (⟨#[c]⟩ : ByteArray).size := Nat.lt_succ_self 0
  have hg : (((⟨#[c]⟩ : ByteArray)[0]'h0).toNat : Int) = (c.toNat : Int) := rfl
  have hcb : c.toNat < 256 := c.toNat_lt
  have hw : IntKind.i64.wrap (c.toNat : Int) = (c.toNat : Int) := wrap_fit (by omega) (by omega)
  go_enter Tryz.func153, Tryz.ntmps153
  go_wp2
  go_ret
  exact ⟨rfl, Below.refl _ _⟩

set_option maxHeartbeats 4000000 in
theorem value_any {w0 : World} {g : Nat} {v : Value} {xs : List Int} {i : Nat} {w : World} (h : Cut w0 g v xs i w) (ho : Older w) (hy : ∀ y ∈ xs, pointOk y = true) (s : ByteArray) :
    Calls Tryz.prog 147 #[cutVal v g s] w fun e w' => e = .returned (.string (valM xs i).1) ∧ Cut w0 g v xs (valM xs i).2 w' ∧ w.grownBy w' (some g) := by
  have hxl := h.2.2.2.1.1
  have hil := h.2.2.2.1.2
  have hcb := cb_new (s := s) h
  obtain ⟨w1, hw1⟩ : ∃ z, z = w.alloc (.cells #[v, .pointer (some ⟨g, 0, none⟩), .string s] 47) := ⟨_, rfl⟩
  rw [← hw1] at hcb
  have HCB := (show Hid (CB w0 g v xs s w i w1) from hcb)
  have HY := (show Hid (∀ y ∈ xs, pointOk y = true) from hy)
  have HOLD := (show Hid (∀ W, w.grownBy W (some g) → Older W) from fun W hW => older_grown ho h hW)
  obtain ⟨vM, hvM⟩ : ∃ z, z = valM xs i := ⟨_, rfl⟩
  rw [← hvM]
  have HVM0 := (show Hid (valM xs i = vM) from hvM.symm)
  have ix0 : ∀ w, (Instr.index 136 (.agg #[.string ⟨#[34]⟩, .string ⟨#[39]⟩]) (.int .i64 0)).run Tryz.prog w = .ok (.string ⟨#[34]⟩) w := fun _ => by kernel_rfl
  have ix1 : ∀ w, (Instr.index 136 (.agg #[.string ⟨#[34]⟩, .string ⟨#[39]⟩]) (.int .i64 1)).run Tryz.prog w = .ok (.string ⟨#[39]⟩) w := fun _ => by kernel_rfl
  clear hcb h hy ho hvM
  unfold cutVal
  go_enter Tryz.func147, Tryz.ntmps147
  go_upto_region 1 with fail
  rw [← hw1]
  clear hw1
  go_wp2_with fail
  go_loopw [7] (fun u wr => ∃ k : Nat, k ≤ 2 ∧ u = .int .i64 k ∧ (1 ≤ k → atL xs i ≠ 34) ∧ (2 ≤ k → atL xs i ≠ 39) ∧ Hid (CB w0 g v xs s w i wr)) (fun u _ => 2 - (intOf u).toNat)
  case atStart => exact ⟨0, by omega, rfl, fun h => by omega, fun h => by omega, HCB⟩
  case round =>
    clear HCB
    obtain ⟨k, hk, rfl, hk1, hk2, cb⟩ := hrel
    rcases (show k = 0 ∨ k = 1 ∨ k = 2 by omega) with rfl | rfl | rfl
    · obtain ⟨w2, hw2⟩ : ∃ z, z = wr.alloc (.cells #[.string ⟨#[34]⟩] 9) := ⟨_, rfl⟩
      obtain ⟨Q, hQ⟩ : ∃ z, z = wr.heap.size := ⟨_, rfl⟩
      have gQ : w2.heap[Q]? = some (.cells #[.string ⟨#[34]⟩] 9 (0, 0)) := by rw [hw2, hQ]; exact heap_alloc_new _ _
      have cb2 := (show Hid (CB w0 g v xs s w i w2) from by rw [hw2]; exact cb.out.below ((Below.refl _ _).alloc (Nat.le_refl _) _))
      have GQ := (show Hid (∀ W, w2.grownBy W (some g) → W.heap[Q]? = some (.cells #[.string ⟨#[34]⟩] 9 (0, 0))) from fun W hW => (hW.block Q (lt_of_block gQ) (fun e => by
        have hb := cb2.out.cut.2.2.2.2
        rw [← Option.some.inj e, gQ] at hb
        cases hb)).trans gQ)
      have HW2 := (show Hid (w2 = _) from hw2)
      have HQ := (show Hid (Q = wr.heap.size) from hQ)
      have cQ := (cell_block (k := 0) gQ rfl : w2.cell? ⟨Q, 0, none⟩ = some (.string ⟨#[34]⟩))
      clear hw2 hQ gQ
      obtain ⟨c0, c1, c2⟩ := cb.out.cells
      have hlw := lt_of_block cb.out.box
      go_wp2_with fail
      go_at_call 118
      rw [← HW2.out]
      refine (takes_cb cb2.out HY.out _ lowT_34 (by decide)).mono ?_
      rintro e w3 ⟨rfl, cb3', g3⟩
      rw [← HQ.out]
      have cb3 := (show Hid _ from cb3')
      have G3 := (show Hid (w2.grownBy w3 (some g)) from g3)
      rw [st_34]
      clear cb3' g3 c0 c1 c2 cQ
      by_cases hx : atL xs i = 34
      · have hb : behT xs i ⟨#[34]⟩ = i + 1 := by unfold behT; rw [st_34, hx]; rfl
        rw [hb] at cb3
        have hxb : (atL xs i == 34) = true := by rw [hx]; rfl
        rw [hxb]
        have hvm : valM xs i = (strOf (puts (valV (fun x => x == 34) xs (i + 1)).1), past xs (valV (fun x => x == 34) xs (i + 1)).2) := by
          unfold valM; rw [if_pos (.inl hx), hx]; rfl
        have hi1 : i + 1 ≤ xs.length := cb3.out.cut.2.2.2.1.2
        have hve := (val_end (ends_quote (q := 34) (.inl rfl)) hxl xs.length (i + 1) (by omega) hi1).1
        have CV := (show Hid _ from valueQuote_any (ends_quote (q := 34) (.inl rfl)) (Q := Q) (fun x W hW => quoteF_any x (c := 34) (cell_block (k := 0) (GQ.out W (grown_trans G3.out hW)) rfl)) cb3.out.cut (HOLD.out _ cb3.out.gro) HY.out s)
        obtain ⟨j, hj⟩ : ∃ j, j = (valV (fun x => x == 34) xs (i + 1)).2 := ⟨_, rfl⟩
        rw [← hj] at CV hvm hve
        have hpj : j < xs.length → atL xs j = 34 := fun h => by
          have hu : upTo (fun x => x == 34) xs (i + 1) < xs.length := by omega
          cases hp : (atL xs j == 34)
          · have := upTo_next (p := fun x => x == 34) (i := j) h hp
            have h2 := upTo_mid (p := fun x => x == 34) (ys := xs) (i := i + 1) (j - (i + 1)) j (by have := upTo_ge (fun x => x == 34) xs (i + 1); omega) (by omega)
            have h3 := upTo_ge (fun x => x == 34) xs (j + 1)
            omega
          · simpa using hp
        have hpb := past_is (xs := xs) (k := j) (c := 34) (t := ⟨#[34]⟩) rfl (st_34 xs j) (by decide) hpj
        rw [HVM0.out] at hvm
        have HVM2 := (show Hid _ from hvm)
        have HPB := (show Hid _ from hpb)
        clear hb hxb hvm hve hj hpj hpb hx
        obtain ⟨c0, c1, c2⟩ := cb3.out.cells
        have cQ := (cell_block (k := 0) (GQ.out _ G3.out) rfl : w3.cell? ⟨Q, 0, none⟩ = some (.string ⟨#[34]⟩))
        unfold cutVal at CV
        go_wp2_with fail
        go_at_call 152
        refine Calls.mono CV.out ?_
        rintro e w4 ⟨rfl, hc4, hg4⟩
        have cb4 := (show Hid (CB w0 g v xs s w j w4) from cb3.out.move hc4 hg4)
        have G4 := (show Hid (w2.grownBy w4 (some g)) from grown_trans G3.out hg4)
        clear CV hc4 hg4 c0 c1 c2 cQ
        obtain ⟨c0, c1, c2⟩ := cb4.out.cells
        have cQ := (cell_block (k := 0) (GQ.out _ G4.out) rfl : w4.cell? ⟨Q, 0, none⟩ = some (.string ⟨#[34]⟩))
        go_wp2_with fail
        go_at_call 118
        refine (takes_cb cb4.out HY.out _ lowT_34 (by decide)).mono ?_
        rintro e w5 ⟨rfl, cb5', g5⟩
        have cb5 := (show Hid _ from cb5')
        clear cb5' g5
        go_wp2
        go_ret
        rw [HPB.out] at cb5
        rw [HVM2.out]
        exact ⟨rfl, cb5.out.cut, cb5.out.gro⟩
      · have hb : behT xs i ⟨#[34]⟩ = i := by unfold behT; rw [st_34, if_neg (by simp [hx])]
        rw [hb] at cb3
        have hxb : (atL xs i == 34) = false := by simp [hx]
        rw [hxb]
        clear hb hxb
        go_wp2
        go_roundw
        case rel => exact ⟨1, by omega, by go_num, fun _ => hx, fun _ => by omega, cb3⟩
        case measure => simp [intOf]
    · obtain ⟨w2, hw2⟩ : ∃ z, z = wr.alloc (.cells #[.string ⟨#[39]⟩] 9) := ⟨_, rfl⟩
      obtain ⟨Q, hQ⟩ : ∃ z, z = wr.heap.size := ⟨_, rfl⟩
      have gQ : w2.heap[Q]? = some (.cells #[.string ⟨#[39]⟩] 9 (0, 0)) := by rw [hw2, hQ]; exact heap_alloc_new _ _
      have cb2 := (show Hid (CB w0 g v xs s w i w2) from by rw [hw2]; exact cb.out.below ((Below.refl _ _).alloc (Nat.le_refl _) _))
      have GQ := (show Hid (∀ W, w2.grownBy W (some g) → W.heap[Q]? = some (.cells #[.string ⟨#[39]⟩] 9 (0, 0))) from fun W hW => (hW.block Q (lt_of_block gQ) (fun e => by
        have hb := cb2.out.cut.2.2.2.2
        rw [← Option.some.inj e, gQ] at hb
        cases hb)).trans gQ)
      have HW2 := (show Hid (w2 = _) from hw2)
      have HQ := (show Hid (Q = wr.heap.size) from hQ)
      have cQ := (cell_block (k := 0) gQ rfl : w2.cell? ⟨Q, 0, none⟩ = some (.string ⟨#[39]⟩))
      clear hw2 hQ gQ
      obtain ⟨c0, c1, c2⟩ := cb.out.cells
      have hlw := lt_of_block cb.out.box
      go_wp2_with fail
      go_at_call 118
      rw [← HW2.out]
      refine (takes_cb cb2.out HY.out _ lowT_39 (by decide)).mono ?_
      rintro e w3 ⟨rfl, cb3', g3⟩
      rw [← HQ.out]
      have cb3 := (show Hid _ from cb3')
      have G3 := (show Hid (w2.grownBy w3 (some g)) from g3)
      rw [st_39]
      clear cb3' g3 c0 c1 c2 cQ
      by_cases hx : atL xs i = 39
      · have hb : behT xs i ⟨#[39]⟩ = i + 1 := by unfold behT; rw [st_39, hx]; rfl
        rw [hb] at cb3
        have hxb : (atL xs i == 39) = true := by rw [hx]; rfl
        rw [hxb]
        have hvm : valM xs i = (strOf (puts (valV (fun x => x == 39) xs (i + 1)).1), past xs (valV (fun x => x == 39) xs (i + 1)).2) := by
          unfold valM; rw [if_pos (.inr hx), hx]; rfl
        have hi1 : i + 1 ≤ xs.length := cb3.out.cut.2.2.2.1.2
        have hve := (val_end (ends_quote (q := 39) (.inr rfl)) hxl xs.length (i + 1) (by omega) hi1).1
        have CV := (show Hid _ from valueQuote_any (ends_quote (q := 39) (.inr rfl)) (Q := Q) (fun x W hW => quoteF_any x (c := 39) (cell_block (k := 0) (GQ.out W (grown_trans G3.out hW)) rfl)) cb3.out.cut (HOLD.out _ cb3.out.gro) HY.out s)
        obtain ⟨j, hj⟩ : ∃ j, j = (valV (fun x => x == 39) xs (i + 1)).2 := ⟨_, rfl⟩
        rw [← hj] at CV hvm hve
        have hpj : j < xs.length → atL xs j = 39 := fun h => by
          have hu : upTo (fun x => x == 39) xs (i + 1) < xs.length := by omega
          cases hp : (atL xs j == 39)
          · have := upTo_next (p := fun x => x == 39) (i := j) h hp
            have h2 := upTo_mid (p := fun x => x == 39) (ys := xs) (i := i + 1) (j - (i + 1)) j (by have := upTo_ge (fun x => x == 39) xs (i + 1); omega) (by omega)
            have h3 := upTo_ge (fun x => x == 39) xs (j + 1)
            omega
          · simpa using hp
        have hpb := past_is (xs := xs) (k := j) (c := 39) (t := ⟨#[39]⟩) rfl (st_39 xs j) (by decide) hpj
        rw [HVM0.out] at hvm
        have HVM2 := (show Hid _ from hvm)
        have HPB := (show Hid _ from hpb)
        clear hb hxb hvm hve hj hpj hpb hx
        obtain ⟨c0, c1, c2⟩ := cb3.out.cells
        have cQ := (cell_block (k := 0) (GQ.out _ G3.out) rfl : w3.cell? ⟨Q, 0, none⟩ = some (.string ⟨#[39]⟩))
        unfold cutVal at CV
        go_wp2_with fail
        go_at_call 152
        refine Calls.mono CV.out ?_
        rintro e w4 ⟨rfl, hc4, hg4⟩
        have cb4 := (show Hid (CB w0 g v xs s w j w4) from cb3.out.move hc4 hg4)
        have G4 := (show Hid (w2.grownBy w4 (some g)) from grown_trans G3.out hg4)
        clear CV hc4 hg4 c0 c1 c2 cQ
        obtain ⟨c0, c1, c2⟩ := cb4.out.cells
        have cQ := (cell_block (k := 0) (GQ.out _ G4.out) rfl : w4.cell? ⟨Q, 0, none⟩ = some (.string ⟨#[39]⟩))
        go_wp2_with fail
        go_at_call 118
        refine (takes_cb cb4.out HY.out _ lowT_39 (by decide)).mono ?_
        rintro e w5 ⟨rfl, cb5', g5⟩
        have cb5 := (show Hid _ from cb5')
        clear cb5' g5
        go_wp2
        go_ret
        rw [HPB.out] at cb5
        rw [HVM2.out]
        exact ⟨rfl, cb5.out.cut, cb5.out.gro⟩
      · have hb : behT xs i ⟨#[39]⟩ = i := by unfold behT; rw [st_39, if_neg (by simp [hx])]
        rw [hb] at cb3
        have hxb : (atL xs i == 39) = false := by simp [hx]
        rw [hxb]
        clear hb hxb
        go_wp2
        go_roundw
        case rel => exact ⟨2, by omega, by go_num, fun _ => hk1 (by omega), fun _ => hx, cb3⟩
        case measure => simp [intOf]
    · have hvm : valM xs i = (strOf (puts (valV endWord xs i).1), (valV endWord xs i).2) := by
        unfold valM; rw [if_neg (by rintro (h | h); exact hk1 (by omega) h; exact hk2 (by omega) h)]; rfl
      have CV := (show Hid _ from valueWord_any ends_word (fun x W _ => endsWord_any x W) cb.out.cut (HOLD.out _ cb.out.gro) HY.out s)
      rw [HVM0.out] at hvm
      have HVX := (show Hid _ from hvm)
      clear hvm
      obtain ⟨c0, c1, c2⟩ := cb.out.cells
      unfold cutVal at CV
      go_wp2_with fail
      go_at_call 152
      refine Calls.mono CV.out ?_
      rintro e w4 ⟨rfl, hc4, hg4⟩
      have cb4 := (show Hid _ from cb.out.move hc4 hg4)
      clear CV hc4 hg4 c0 c1 c2
      go_wp2
      go_ret
      rw [HVX.out]
      exact ⟨rfl, cb4.out.cut, cb4.out.gro⟩
end Go.Proofs.YtggfifchkecnjaaGreatDoor

/- The program's cutter: an attribute. No condition. -/
namespace Go.Proofs.YtggfifchkecnjaaGreatDoor
open Go.RowKit
set_option maxRecDepth 100000
set_option linter.unusedVariables false

theorem keepB {w0 : World} {g : Nat} {v : Value} {xs : List Int} {k : Nat} {wr wr' : World} {B : Nat} {cs : Array Value} {t : TypeId} {fr : Nat × Nat} (hb : wr.heap[B]? = some (.cells cs t fr)) (ht : t ≠ 3) (hc : Cut w0 g v xs k wr) (hg : wr.grownBy wr' (some g)) : wr'.heap[B]? = some (.cells cs t fr) :=
  (hg.block B (lt_of_block hb) (fun e => by
    have h5 := hc.2.2.2.2
    rw [← Option.some.inj e, hb] at h5
    injection h5 with h5
    injection h5 with _ h5 _
    exact ht h5)).trans hb
theorem skip_cb {w0 : World} {g : Nat} {v : Value} {xs : List Int} {s : ByteArray} {w : World} {k : Nat} {wr : World} (h : CB w0 g v xs s w k wr) :
    Calls Tryz.prog 120 #[.agg #[v, .pointer (some ⟨g, 0, none⟩), .string s]] wr fun e w' => e = .returned (.tuple #[]) ∧ CB w0 g v xs s w (skipB xs k) w' ∧ wr.grownBy w' (some g) := by
  refine (skipBlanks_any h.cut s).mono ?_
  rintro e w' ⟨rfl, hc, hg⟩
  exact ⟨rfl, h.move hc hg, hg⟩
theorem value_cb {w0 : World} {g : Nat} {v : Value} {xs : List Int} {s : ByteArray} {w : World} {k : Nat} {wr : World} (h : CB w0 g v xs s w k wr) (ho : Older wr) (hy : ∀ y ∈ xs, pointOk y = true) :
    Calls Tryz.prog 147 #[.agg #[v, .pointer (some ⟨g, 0, none⟩), .string s]] wr fun e w' => e = .returned (.string (valM xs k).1) ∧ CB w0 g v xs s w (valM xs k).2 w' ∧ wr.grownBy w' (some g) := by
  refine (value_any h.cut ho hy s).mono ?_
  rintro e w' ⟨rfl, hc, hg⟩
  exact ⟨rfl, h.move hc hg, hg⟩
theorem attrName_cb {w0 : World} {g : Nat} {v : Value} {xs : List Int} {s : ByteArray} {w : World} {k : Nat} {wr : World} (h : CB w0 g v xs s w k wr) (hy : ∀ y ∈ xs, pointOk y = true) (hk : k < xs.length) :
    Calls Tryz.prog 146 #[.agg #[v, .pointer (some ⟨g, 0, none⟩), .string s]] wr fun e w' => e = .returned (.string (lowOf xs k (upTo endAttr xs (k + 1)))) ∧ CB w0 g v xs s w (upTo endAttr xs (k + 1)) w' ∧ wr.grownBy w' (some g) := by
  refine (attrName_any h.cut hy s hk).mono ?_
  rintro e w' ⟨rfl, hc, hg⟩
  exact ⟨rfl, h.move hc hg, hg⟩
theorem two_at {w : World} {b : Nat} {t : TypeId} {x0 x1 : Value} (h : w.heap[b]? = some (.cells #[x0, x1] t (0, 0))) :
    (w.cell? ⟨b, 0, none⟩ = some x0 ∧ w.cell? ⟨b, 1, none⟩ = some x1) ∧ (w.frozen? ⟨b, 0, none⟩ = false ∧ w.frozen? ⟨b, 1, none⟩ = false) := by
  refine ⟨⟨?_, ?_⟩, ?_, ?_⟩
  all_goals first | (simp only [World.cell?, h]; rfl) | (simp only [World.frozen?, h]; rfl)

set_option maxHeartbeats 4000000 in
theorem attr_any {w0 : World} {g : Nat} {v : Value} {xs : List Int} {i : Nat} {w : World} (h : Cut w0 g v xs i w) (ho : Older w) (hy : ∀ y ∈ xs, pointOk y = true) (s : ByteArray) (hi : i < xs.length) :
    Calls Tryz.prog 135 #[cutVal v g s] w fun e w' => e = .returned (.agg #[.string (attrM xs i).1.1, .string (attrM xs i).1.2]) ∧ Cut w0 g v xs (attrM xs i).2 w' ∧ w.grownBy w' (some g) := by
  have hxl := h.2.2.2.1.1
  have hwl := h.2.2.1.size
  have hgl := h.lt
  have hcb := cb_new (s := s) h
  obtain ⟨w1, hw1⟩ : ∃ z, z = (w.alloc (.cells #[v, .pointer (some ⟨g, 0, none⟩), .string s] 47)).alloc (.cells #[.string ⟨#[]⟩, .string ⟨#[]⟩] 81) := ⟨_, rfl⟩
  have HCB := (show Hid (CB w0 g v xs s w i w1) from by rw [hw1]; exact hcb.below ((Below.refl _ _).alloc (Nat.le_refl _) _))
  have GR := (show Hid (w1.heap[w.heap.size + 1]? = some (.cells #[.string ⟨#[]⟩, .string ⟨#[]⟩] 81 (0, 0))) from (show w1.heap[w.heap.size + 1]? = some (.cells #[.string ⟨#[]⟩, .string ⟨#[]⟩] 81 (0, 0)) by
    rw [hw1]
    have := heap_alloc_new (w.alloc (.cells #[v, .pointer (some ⟨g, 0, none⟩), .string s] 47)) (.cells #[.string ⟨#[]⟩, .string ⟨#[]⟩] 81)
    simpa using this))
  have HY := (show Hid (∀ y ∈ xs, pointOk y = true) from hy)
  have HOLD := (show Hid (∀ W, w.grownBy W (some g) → Older W) from fun W hW => older_grown ho h hW)
  obtain ⟨aM, haM⟩ : ∃ z, z = attrM xs i := ⟨_, rfl⟩
  rw [← haM]
  have HAM := (show Hid (aM = attrM xs i) from haM)
  clear hcb h hy ho haM
  unfold cutVal
  go_enter Tryz.func135, Tryz.ntmps135
  go_upto_region 1 with fail
  rw [← hw1]
  clear hw1
  obtain ⟨c0, c1, c2⟩ := HCB.out.cells
  go_wp2_with fail
  go_at_call 146
  refine (attrName_cb HCB.out HY.out hi).mono ?_
  rintro e w2 ⟨rfl, cb2, g2⟩
  obtain ⟨e1, he1⟩ : ∃ z, z = upTo endAttr xs (i + 1) := ⟨_, rfl⟩
  obtain ⟨nm, hnm⟩ : ∃ z, z = lowOf xs i e1 := ⟨_, rfl⟩
  rw [← he1, ← hnm]
  rw [← he1] at cb2
  have HE1 := (show Hid (e1 = upTo endAttr xs (i + 1)) from he1)
  have HNM := (show Hid (nm = lowOf xs i e1) from hnm)
  have GR2 := (show Hid _ from keepB GR.out (by decide) HCB.out.cut g2)
  obtain ⟨w3, hw3⟩ : ∃ z, z = w2.alloc (.cells #[.string nm, .string ⟨#[]⟩] 81) := ⟨_, rfl⟩
  obtain ⟨A, hA⟩ : ∃ z, z = w2.heap.size := ⟨_, rfl⟩
  have b3 : Below w2.heap.size w2 w3 := by rw [hw3]; exact (Below.refl _ _).alloc (Nat.le_refl _) _
  have GA := (show Hid (w3.heap[A]? = some (.cells #[.string nm, .string ⟨#[]⟩] 81 (0, 0))) from by rw [hw3, hA]; exact heap_alloc_new _ _)
  have cb3 := (show Hid (CB w0 g v xs s w e1 w3) from cb2.below b3)
  have GR3 := (show Hid _ from (b3.block _ (lt_of_block GR2.out)).trans GR2.out)
  have HAR := (show Hid (w.heap.size + 1 < A) from by rw [hA]; exact lt_of_block GR2.out)
  have HW3 := (show Hid (w3 = _) from hw3)
  have HHA := (show Hid (A = w2.heap.size) from hA)
  obtain ⟨c0, c1, c2⟩ := cb2.cells
  have hlw := lt_of_block cb2.box
  clear HCB g2 GR he1 hnm hw3 hA b3 GR2
  go_wp2_with fail
  go_at_call 120
  rw [← HW3.out]
  refine (skip_cb cb3.out).mono ?_
  rintro e w4 ⟨rfl, cb4, g4⟩
  rw [← HHA.out]
  obtain ⟨j, hj⟩ : ∃ z, z = skipB xs e1 := ⟨_, rfl⟩
  rw [← hj] at cb4
  have HJ := (show Hid (j = skipB xs e1) from hj)
  have GR4 := (show Hid _ from keepB GR3.out (by decide) cb3.out.cut g4)
  have GA4 := (show Hid _ from keepB GA.out (by decide) cb3.out.cut g4)
  have CB4 := (show Hid _ from cb4)
  clear cb2 cb3 cb4 hlw c0 c1 c2 GR3 GA g4 hj HW3 HHA
  obtain ⟨c0, c1, c2⟩ := CB4.out.cells
  go_wp2_with fail
  go_at_call 118
  refine (takes_cb CB4.out HY.out _ lowT_61 (by decide)).mono ?_
  rintro e w5 ⟨rfl, cb5, g5⟩
  have GR5 := (show Hid _ from keepB GR4.out (by decide) CB4.out.cut g5)
  have GA5 := (show Hid _ from keepB GA4.out (by decide) CB4.out.cut g5)
  rw [st_61]
  clear CB4 GR4 GA4 g5 c0 c1 c2
  by_cases h61 : atL xs j = 61
  · have hb : behT xs j ⟨#[61]⟩ = j + 1 := by unfold behT; rw [st_61, h61]; rfl
    rw [hb] at cb5
    have hxb : (atL xs j == 61) = true := by rw [h61]; rfl
    rw [hxb]
    have HM := (show Hid (aM = ((nm, (valM xs (skipB xs (j + 1))).1), (valM xs (skipB xs (j + 1))).2)) from (show _ = _ by
      rw [HAM.out]; unfold attrM; simp only; rw [← HE1.out, ← HJ.out, if_pos h61, ← HNM.out]))
    have CB5 := (show Hid _ from cb5)
    clear hb hxb cb5 h61
    obtain ⟨c0, c1, c2⟩ := CB5.out.cells
    go_wp2_with fail
    go_at_call 120
    refine (skip_cb CB5.out).mono ?_
    rintro e w6 ⟨rfl, cb6, g6⟩
    obtain ⟨q, hq⟩ : ∃ z, z = skipB xs (j + 1) := ⟨_, rfl⟩
    rw [← hq] at cb6 HM
    have GR6 := (show Hid _ from keepB GR5.out (by decide) CB5.out.cut g6)
    have GA6 := (show Hid _ from keepB GA5.out (by decide) CB5.out.cut g6)
    have CB6 := (show Hid _ from cb6)
    clear CB5 GR5 GA5 g6 cb6 c0 c1 c2 hq
    obtain ⟨c0, c1, c2⟩ := CB6.out.cells
    go_wp2_with fail
    go_at_call 147
    refine (value_cb CB6.out (HOLD.out _ CB6.out.gro) HY.out).mono ?_
    rintro e w7 ⟨rfl, cb7, g7⟩
    obtain ⟨vv, hvv⟩ : ∃ z, z = valM xs q := ⟨_, rfl⟩
    rw [← hvv] at cb7 HM ⊢
    have GR7 := (show Hid _ from keepB GR6.out (by decide) CB6.out.cut g7)
    have GA7 := (show Hid _ from keepB GA6.out (by decide) CB6.out.cut g7)
    clear CB6 GR6 GA6 g7 c0 c1 c2 hvv
    obtain ⟨⟨a0, a1⟩, f0, f1⟩ := two_at GA7.out
    obtain ⟨⟨r0, r1⟩, q0, q1⟩ := two_at GR7.out
    have GA8 := (show Hid ((w7.setCell ⟨A, 1, none⟩ (.string vv.1)).heap[A]? = some (.cells #[.string nm, .string vv.1] 81 (0, 0))) from setCell_at (k := 1) GA7.out)
    have GR8 := (show Hid ((w7.setCell ⟨A, 1, none⟩ (.string vv.1)).heap[w.heap.size + 1]? = some (.cells #[.string ⟨#[]⟩, .string ⟨#[]⟩] 81 (0, 0))) from (Below.heap_setCell _ _ _ (w.heap.size + 1) (show w.heap.size + 1 ≠ A by have := HAR.out; omega)).trans GR7.out)
    obtain ⟨w8, hw8⟩ : ∃ z, z = w7.setCell ⟨A, 1, none⟩ (.string vv.1) := ⟨_, rfl⟩
    have cb8 := (show Hid (CB w0 g v xs s w vv.2 w8) from by
      rw [hw8]; exact cb7.past (set_grown w7 A 1 _) (fun r e => by have := HAR.out; injection e with e; omega) hwl hgl)
    rw [← hw8] at GA8 GR8
    clear cb7 GR7 GA7 r0 r1 q0 q1
    go_upto_region 6 with fail
    rw [← hw8]
    clear hw8 a0 a1 f0 f1
    obtain ⟨⟨a0, a1⟩, _⟩ := two_at GA8.out
    obtain ⟨⟨r0, r1⟩, q0, q1⟩ := two_at GR8.out
    have GR9 := (show Hid (((w8.setCell ⟨w.heap.size + 1, 0, none⟩ (.string nm)).setCell ⟨w.heap.size + 1, 1, none⟩ (.string vv.1)).heap[w.heap.size + 1]? = some (.cells #[.string nm, .string vv.1] 81 (0, 0))) from setCell_at (k := 1) (setCell_at (k := 0) GR8.out))
    have cb9 := (show Hid (CB w0 g v xs s w vv.2 ((w8.setCell ⟨w.heap.size + 1, 0, none⟩ (.string nm)).setCell ⟨w.heap.size + 1, 1, none⟩ (.string vv.1))) from (cb8.out.past (set_grown w8 (w.heap.size + 1) 0 _) (fun r e => by injection e with e; omega) hwl hgl).past (set_grown _ (w.heap.size + 1) 1 _) (fun r e => by injection e with e; omega) hwl hgl)
    clear GA8 GR8 cb8
    go_wp2
    refine bodyPost_ret (results_cell_row rfl _ _ (w.heap.size + 1) 81 #[.string nm, .string vv.1] (0, 0) _ rfl GR9.out Tryz.underlying81 rfl rfl) rfl ?_
    rw [HM.out]
    exact ⟨rfl, cb9.out.cut, cb9.out.gro⟩
  · have hb : behT xs j ⟨#[61]⟩ = j := by unfold behT; rw [st_61, if_neg (by simp [h61])]
    rw [hb] at cb5
    have hxb : (atL xs j == 61) = false := by simp [h61]
    rw [hxb]
    have HM := (show Hid (aM = ((nm, ⟨#[]⟩), j)) from (show _ = _ by
      rw [HAM.out]; unfold attrM; simp only; rw [← HE1.out, ← HJ.out, if_neg h61, ← HNM.out]))
    have cb8 := (show Hid _ from cb5)
    clear hb hxb cb5 h61
    go_upto_region 6 with fail
    obtain ⟨⟨a0, a1⟩, _⟩ := two_at GA5.out
    obtain ⟨⟨r0, r1⟩, q0, q1⟩ := two_at GR5.out
    have GR9 := (show Hid (((w5.setCell ⟨w.heap.size + 1, 0, none⟩ (.string nm)).setCell ⟨w.heap.size + 1, 1, none⟩ (.string ⟨#[]⟩)).heap[w.heap.size + 1]? = some (.cells #[.string nm, .string ⟨#[]⟩] 81 (0, 0))) from setCell_at (k := 1) (setCell_at (k := 0) GR5.out))
    have cb9 := (show Hid (CB w0 g v xs s w j ((w5.setCell ⟨w.heap.size + 1, 0, none⟩ (.string nm)).setCell ⟨w.heap.size + 1, 1, none⟩ (.string ⟨#[]⟩))) from (cb8.out.past (set_grown w5 (w.heap.size + 1) 0 _) (fun r e => by injection e with e; omega) hwl hgl).past (set_grown _ (w.heap.size + 1) 1 _) (fun r e => by injection e with e; omega) hwl hgl)
    clear GA5 GR5 cb8
    go_wp2
    refine bodyPost_ret (results_cell_row rfl _ _ (w.heap.size + 1) 81 #[.string nm, .string ⟨#[]⟩] (0, 0) _ rfl GR9.out Tryz.underlying81 rfl rfl) rfl ?_
    rw [HM.out]
    exact ⟨rfl, cb9.out.cut, cb9.out.gro⟩
end Go.Proofs.YtggfifchkecnjaaGreatDoor
