/- Contracts of the specification's AttrsSame and AttrAdd. -/
import Derived.Test.YtggfifchkecnjaaGreatDoorX22
import Derived.Test.YtggfifchkecnjaaGreatDoorX17
import Derived.Test.YtggfifchkecnjaaGreatDoorX6
import Derived.Test.YtggfifchkecnjaaGreatDoorX23
import Derived.Test.YtggfifchkecnjaaGreatDoorX4
import Derived.Test.YtggfifchkecnjaaGreatDoorX14
namespace Go.Proofs.YtggfifchkecnjaaGreatDoor
open Go.RowKit
set_option maxRecDepth 100000
set_option linter.unusedVariables false

theorem pair_oneCell (rs : List (ByteArray × ByteArray)) : ∀ y ∈ pairCells rs, y.oneCell' = true := by
  intro y hy
  unfold pairCells at hy
  obtain ⟨r, _, hr⟩ := List.mem_flatMap.mp hy
  simp at hr
  rcases hr with rfl | rfl <;> rfl
theorem pairCells_app (rs qs : List (ByteArray × ByteArray)) : pairCells rs ++ pairCells qs = pairCells (rs ++ qs) := by unfold pairCells; rw [List.flatMap_append]

theorem grown_cell {w w' : World} {g b k : Nat} (h : w.grownBy w' (some g)) (hne : b ≠ g) (hb : b < w.heap.size) : w'.cell? ⟨b, k, none⟩ = w.cell? ⟨b, k, none⟩ := by
  simp only [World.cell?, h.block b hb (fun e => hne (Option.some.inj e))]
theorem attrAdd_no {rs : List (ByteArray × ByteArray)} {p : ByteArray × ByteArray} (h : ((attrOf rs p.1).2 || decide (20 ≤ rs.length) || !attrOk p) = true) : attrAdd rs p = rs := by unfold attrAdd; rw [if_pos h]
theorem attrAdd_yes {rs : List (ByteArray × ByteArray)} {p : ByteArray × ByteArray} (h : ((attrOf rs p.1).2 || decide (20 ≤ rs.length) || !attrOk p) = false) : attrAdd rs p = rs ++ [p] := by unfold attrAdd; rw [if_neg (by rw [h]; decide)]

set_option maxHeartbeats 2000000 in
set_option maxRecDepth 100000 in
theorem sattrAdd_any {v : Value} {rs : List (ByteArray × ByteArray)} {w : World} (h : Sv 2 w v (pairCells rs)) (p : ByteArray × ByteArray) (hn : rs.length ≤ 1048576) (h1 : p.1.size ≤ 1099511627776) (h2 : p.2.size ≤ 1099511627776) :
    Calls Tryz.prog 91 #[v, .agg #[.string p.1, .string p.2]] w fun e w' => ∃ v', e = .returned v' ∧ w'.ownsRow w.heap.size 81 2 v' (attrAdd rs p).length (pairCells (attrAdd rs p)) ∧ Below w.heap.size w w' := by
  obtain ⟨i0, hi, hz0, hz1, hz2⟩ := info_parts Tryz.infoA
  have hlen := pairCells_len rs
  have H := (show Hid (Sv 2 w v (pairCells rs)) from h)
  obtain ⟨a, ca, rfl, _, _, _⟩ := h.pair
  clear h
  obtain ⟨pn, pv⟩ := p
  simp only at h1 h2 ⊢
  obtain ⟨wb, hwb⟩ : ∃ wb, wb = w.alloc (.cells #[.string pn, .string pv] 81) := ⟨_, rfl⟩
  have bb : Below w.heap.size w wb := by rw [hwb]; exact (Below.refl _ _).alloc (Nat.le_refl _) _
  have cb0 : wb.cell? ⟨w.heap.size, 0, none⟩ = some (.string pn) := by rw [hwb]; simp
  have cb1 : wb.cell? ⟨w.heap.size, 1, none⟩ = some (.string pv) := by rw [hwb]; simp
  have hbs : wb.heap.size = w.heap.size + 1 := by rw [hwb]; simp
  have oe := empty_row wb w.heap.size 81 2 (by omega)
  have be : Below wb.heap.size wb (wb.alloc (.cells #[] 81)) := (Below.refl _ _).alloc (Nat.le_refl _) _
  have hsv := (H.out.below bb).below be
  rw [hbs, hwb] at oe
  rw [hwb] at hsv
  go_enter Tryz.func91, Tryz.ntmps91
  go_wp2_with (at_builtin; refine wpList_appV _ rfl (.tmp 8) (.tmp 9) 28 rfl w.heap.size 81 i0 _ 2 32 Tryz.underlying28 hi hz0 hz1 hz2 rfl (by decide) _ _ 0 rs.length [] (pairCells rs) rfl rfl oe hsv hlen (pair_oneCell rs) (by omega) (by unfold maxLen; omega) (by simp <;> omega) ?_; intro v1 w1 o1 g1; rw [List.nil_append, Nat.zero_add] at o1; have cn := (grown_cell (b := w.heap.size) (k := 0) g1 (by simp) (by simp; omega)).trans (by simp : _ = some (Value.string pn)); have cv := (grown_cell (b := w.heap.size) (k := 1) g1 (by simp) (by simp; omega)).trans (by simp : _ = some (Value.string pv)))
  have b1 : Below w.heap.size w w1 := (((Below.refl _ w).alloc (Nat.le_refl _) _).alloc (by simp) _).grown g1 (by simp; omega) (fun j hj => by have e : some (w.heap.size + 1) = some j := hj; injection e with e; omega)
  have HO := (show Hid (w1.ownsRow w.heap.size 81 2 v1 rs.length (pairCells rs)) from o1)
  have cof := sattrOf_any (H.out.below b1) pn (by omega)
  have CL := (show Hid (∀ w, Calls Tryz.prog 127 #[.agg #[.string pn, .string pv]] w fun e w' => e = .returned (.bool (attrOk (pn, pv))) ∧ Below w.heap.size w w') from fun w => l4Attr_any (pn, pv) w h1 h2)
  have HNO := (show Hid (((attrOf rs pn).2 || decide (20 ≤ rs.length) || !attrOk (pn, pv)) = true → attrAdd rs (pn, pv) = rs) from fun h => attrAdd_no (p := (pn, pv)) h)
  have HYES := (show Hid (((attrOf rs pn).2 || decide (20 ≤ rs.length) || !attrOk (pn, pv)) = false → attrAdd rs (pn, pv) = rs ++ [(pn, pv)]) from fun h => attrAdd_yes (p := (pn, pv)) h)
  obtain ⟨r, hr⟩ : ∃ r, r = attrOf rs pn := ⟨_, rfl⟩
  obtain ⟨ok, hok⟩ : ∃ ok, ok = attrOk (pn, pv) := ⟨_, rfl⟩
  rw [← hr] at cof HNO HYES
  rw [← hok] at CL HNO HYES
  obtain ⟨ov, has⟩ := r
  simp only at HNO HYES cof
  clear hr hok o1 oe hsv be bb cb0 cb1 hbs hwb H g1
  refine cof.mono ?_
  rintro e w1 ⟨rfl, rfl⟩
  clear cof
  cases has
  · by_cases h20 : 20 ≤ rs.length
    · have HA := (show Hid _ from HNO.out (by simp [h20]))
      clear HNO HYES CL
      go_wp2
      go_ret
      exact ⟨_, rfl, by rw [HA.out]; exact HO.out, b1⟩
    · cases ok
      · have HA := (show Hid _ from HNO.out (by simp))
        clear HNO HYES
        go_wp2_with fail
        go_at_call 127
        refine (CL.out _).mono ?_
        rintro e w2 ⟨rfl, b2⟩
        have o2 := ownsRow_below HO.out b2
        replace b2 := b1.trans (b2.mono b1.size)
        go_wp2
        go_ret
        exact ⟨_, rfl, by rw [HA.out]; exact o2, b2⟩
      · have HA := (show Hid _ from HYES.out (by simp; omega))
        clear HNO HYES
        go_wp2_with fail
        go_at_call 127
        refine (CL.out _).mono ?_
        rintro e w2 ⟨rfl, b2⟩
        have hlt : w.heap.size < w1.heap.size := by
          by_cases hl : w.heap.size < w1.heap.size
          · exact hl
          · exfalso; simp [World.cell?, Array.getElem?_eq_none (Nat.le_of_not_lt hl)] at cn
        have cn2 : w2.cell? ⟨w.heap.size, 0, none⟩ = some (.string pn) := (b2.cell (p := ⟨w.heap.size, 0, none⟩) hlt).trans cn
        have cv2 : w2.cell? ⟨w.heap.size, 1, none⟩ = some (.string pv) := (b2.cell (p := ⟨w.heap.size, 1, none⟩) hlt).trans cv
        have o2 := ownsRow_below HO.out b2
        replace b2 := b1.trans (b2.mono b1.size)
        have hb2 := b2.size
        have o3 := ownsRow_below o2 ((Below.refl _ w2).alloc (Nat.le_refl _) (.cells #[.string pn, .string pv] 81))
        have hone : Sv 2 (w2.alloc (.cells #[.string pn, .string pv] 81)) (.slice (some ⟨w2.heap.size, 0, none⟩) 1 1) (pairCells [(pn, pv)]) :=
          sv_of_own (World.ownsRow_lit (base := w2.heap.size) (e := 81) (size := 2) w2 #[.string pn, .string pv] 1 (Nat.le_refl _) (by unfold maxLen; omega) rfl)
        clear HO CL cn cv
        go_wp2_with (at_builtin; refine wpList_appV _ rfl (.tmp 30) (.tmp 32) 28 rfl w.heap.size 81 i0 _ 2 32 Tryz.underlying28 hi hz0 hz1 hz2 rfl (by decide) _ _ rs.length 1 (pairCells rs) (pairCells [(pn, pv)]) rfl rfl o3 hone rfl (pair_oneCell _) (by omega) (by unfold maxLen; omega) (by simp <;> omega) ?_; intro v4 w4 o4 g4; rw [pairCells_app] at o4)
        go_ret
        refine ⟨_, rfl, ?_, (b2.alloc hb2 _).grown g4 (by simp; omega) (fun j hj => (o3.lt j hj).1)⟩
        rw [HA.out, List.length_append, List.length_singleton]; exact o4
  · have HA := (show Hid _ from HNO.out (by simp))
    clear HNO HYES CL
    go_wp2
    go_ret
    exact ⟨_, rfl, by rw [HA.out]; exact HO.out, b1⟩
end Go.Proofs.YtggfifchkecnjaaGreatDoor

/- The law FnExactRefRead, walked from a contract of the program's RefRead: at every list, place and bool it returns true and writes nothing that was there. -/
namespace Go.Proofs.YtggfifchkecnjaaGreatDoor
open Go.RowKit
set_option maxRecDepth 100000
set_option linter.unusedVariables false
end Go.Proofs.YtggfifchkecnjaaGreatDoor

/- The contract of the program's AttrsOk. -/
namespace Go.Proofs.YtggfifchkecnjaaGreatDoor
open Go.RowKit
set_option maxRecDepth 100000
set_option linter.unusedVariables false
end Go.Proofs.YtggfifchkecnjaaGreatDoor

/- The exact laws of AttrsOk, AttrOf and AttrsSame, walked from contracts of the program's functions. -/
namespace Go.Proofs.YtggfifchkecnjaaGreatDoor
open Go.RowKit
set_option maxRecDepth 100000
set_option linter.unusedVariables false

def Short (rs : List (ByteArray × ByteArray)) : Prop := rs.length ≤ 1048576 ∧ ∀ p ∈ rs, p.1.size ≤ 1099511627776 ∧ p.2.size ≤ 1099511627776

end Go.Proofs.YtggfifchkecnjaaGreatDoor

/- What a reference takes is just what it tells: names, and the whole of it. -/
namespace Go.Proofs.YtggfifchkecnjaaGreatDoor
open Go.RowKit
set_option maxRecDepth 100000
set_option linter.unusedVariables false

theorem refNum_cut {xs : List Int} {k n : Nat} {x : Int} (h : refNum xs k = (x, (n : Int))) (h0 : 0 < n) : k < n ∧ n ≤ xs.length ∧ refNum (cut xs n) k = (x, (n : Int)) := by
  unfold refNum at h
  by_cases hx : atL xs k = 120 ∨ atL xs k = 88
  · rw [if_pos hx] at h
    obtain ⟨h1, h2, h3⟩ := refDigits_cut (.inr rfl) h h0
    have hk : k < n := by omega
    refine ⟨hk, h2, ?_⟩
    unfold refNum
    rw [cut_lt h2 hk, if_pos hx]; exact h3
  · rw [if_neg hx] at h
    obtain ⟨h1, h2, h3⟩ := refDigits_cut (.inl rfl) h h0
    refine ⟨h1, h2, ?_⟩
    unfold refNum
    rw [cut_lt h2 h1, if_neg hx]; exact h3
theorem refNum_place (xs : List Int) (k : Nat) : ∃ n : Nat, (refNum xs k).2 = (n : Int) := by
  have key : ∀ b f, ∃ n : Nat, (refDigits xs b f).2 = (n : Int) := fun b f => by
    unfold refDigits
    simp only
    split
    · exact ⟨0, rfl⟩
    · exact ⟨_, rfl⟩
  unfold refNum
  split
  · exact key _ _
  · exact key _ _
theorem refNum_point (xs : List Int) (k : Nat) (h : 0 < (refNum xs k).2) : pointOk (refNum xs k).1 = true := by
  have key : ∀ b f, 0 < (refDigits xs b f).2 → pointOk (refDigits xs b f).1 = true := fun b f h => by
    unfold refDigits at h ⊢
    simp only at h ⊢
    by_cases hd : digs b (xs.drop f) = []
    · rw [if_pos hd] at h; exact absurd h (by decide)
    · rw [if_neg hd]; exact (pointOk_refNumber _).1
  unfold refNum at h ⊢
  by_cases hx : atL xs k = 120 ∨ atL xs k = 88
  · rw [if_pos hx] at h ⊢; exact key _ _ h
  · rw [if_neg hx] at h ⊢; exact key _ _ h

theorem best_spec (xs : List Int) (k : Nat) (rs : List (ByteArray × Int)) (b0 : ByteArray × Int) (f : ByteArray × Int) (hf : f = rs.foldl (fun b r => if stands xs k (bs r.1) && decide (b.1.size < r.1.size) then r else b) b0) :
    (f = b0 ∨ (f ∈ rs ∧ stands xs k (bs f.1) = true)) ∧ b0.1.size ≤ f.1.size ∧ ∀ r ∈ rs, stands xs k (bs r.1) = true → r.1.size ≤ f.1.size := by
  induction rs generalizing b0 with
  | nil => subst hf; exact ⟨.inl rfl, Nat.le_refl _, fun r hr => by cases hr⟩
  | cons r rs ih =>
    rw [List.foldl_cons] at hf
    obtain ⟨h1, h2, h3⟩ := ih _ hf
    by_cases hc : (stands xs k (bs r.1) && decide (b0.1.size < r.1.size)) = true
    · rw [if_pos hc] at h1 h2
      simp only [Bool.and_eq_true, decide_eq_true_eq] at hc
      refine ⟨?_, by omega, ?_⟩
      · rcases h1 with rfl | ⟨h1, h1'⟩
        · exact .inr ⟨List.mem_cons_self .., hc.1⟩
        · exact .inr ⟨List.mem_cons_of_mem _ h1, h1'⟩
      · intro q hq hs
        rcases List.mem_cons.mp hq with rfl | hq
        · exact h2
        · exact h3 q hq hs
    · rw [if_neg hc] at h1 h2
      refine ⟨?_, h2, ?_⟩
      · rcases h1 with rfl | ⟨h1, h1'⟩
        · exact .inl rfl
        · exact .inr ⟨List.mem_cons_of_mem _ h1, h1'⟩
      · intro q hq hs
        rcases List.mem_cons.mp hq with rfl | hq
        · have : ¬ b0.1.size < q.1.size := fun h => hc (by simp [hs, h])
          omega
        · exact h3 q hq hs

theorem stands_iff {xs nm : List Int} {k : Nat} : stands xs k nm = true ↔ ∀ i, i < nm.length → atL xs (k + i) = nm.getD i 0 := by
  unfold stands
  rw [List.all_eq_true]
  constructor
  · intro h i hi; simpa using h i (List.mem_range.mpr hi)
  · intro h i hi; simpa using h i (List.mem_range.mp hi)
theorem refList_plain : ∀ r ∈ refList, (∀ i, i < 7 → (bs r.1).getD i 0 ≠ 32) ∧ pointOk r.2 = true ∧ 0 < r.1.size := by
  have h : ∀ r ∈ refList, (∀ i : Fin 7, (bs r.1).getD i.1 0 ≠ 32) ∧ pointOk r.2 = true ∧ 0 < r.1.size := by decide
  intro r hr
  obtain ⟨h1, h2⟩ := h r hr
  exact ⟨fun i hi => h1 ⟨i, hi⟩, h2⟩
theorem stands_len {xs : List Int} {k : Nat} {s : ByteArray} (h : stands xs k (bs s) = true) (h0 : 0 < s.size) : k + s.size ≤ xs.length := by
  have hl := bs_len s
  have := stands_iff.mp h (s.size - 1) (by omega)
  have hb := (bs_bound s (s.size - 1)).1
  have := atL_lt (xs := xs) (j := k + (s.size - 1)) (by omega)
  omega

theorem best_cut {xs : List Int} {k n : Nat} (h0 : 0 < (best xs k refList).1.size) (hn : n = k + (best xs k refList).1.size) (hnl : n ≤ xs.length) : best (cut xs n) k refList = best xs k refList := by
  obtain ⟨h1, h2, h3⟩ := best_spec xs k refList (⟨#[]⟩, 0) (best xs k refList) rfl
  have hst : ∀ r ∈ refList, stands (cut xs n) k (bs r.1) = stands xs k (bs r.1) := by
    intro r hr
    have hl := bs_len r.1
    by_cases hs : r.1.size ≤ (best xs k refList).1.size
    · rw [Bool.eq_iff_iff, stands_iff, stands_iff]
      constructor
      · intro h i hi
        rw [← cut_lt hnl (by omega)]; exact h i hi
      · intro h i hi
        rw [cut_lt hnl (by omega)]; exact h i hi
    · have e1 : stands xs k (bs r.1) = false := by
        rcases he : stands xs k (bs r.1) with _ | _
        · rfl
        · exact absurd (h3 r hr he) hs
      rw [e1]
      rcases he : stands (cut xs n) k (bs r.1) with _ | _
      · rfl
      · have := stands_iff.mp he (best xs k refList).1.size (by omega)
        rw [← hn, cut_at hnl] at this
        have hsz := refList_size r hr
        exact absurd this.symm ((refList_plain r hr).1 _ (by omega))
  unfold best
  have key : ∀ (rs : List (ByteArray × Int)) (b0 : ByteArray × Int), (∀ r ∈ rs, stands (cut xs n) k (bs r.1) = stands xs k (bs r.1)) →
      rs.foldl (fun b r => if stands (cut xs n) k (bs r.1) && decide (b.1.size < r.1.size) then r else b) b0 = rs.foldl (fun b r => if stands xs k (bs r.1) && decide (b.1.size < r.1.size) then r else b) b0 := by
    intro rs
    induction rs with
    | nil => intro b0 _; rfl
    | cons r rs ih =>
      intro b0 hr
      rw [List.foldl_cons, List.foldl_cons, hr r (List.mem_cons_self ..)]
      exact ih _ (fun q hq => hr q (List.mem_cons_of_mem _ hq))
  exact key refList _ hst

theorem cut_len {xs : List Int} {n : Nat} (h : n ≤ xs.length) : (cut xs n).length = n + 1 := by simp [cut]; omega
theorem cut_get {xs : List Int} {n j : Nat} (hn : n ≤ xs.length) (hj : j < n) : (cut xs n).getD j 0 = xs.getD j 0 := by
  rw [← atL_in (xs := xs) (by omega), ← cut_lt hn hj, atL_in (by rw [cut_len hn]; omega)]

theorem refRead_law {xs : List Int} {i : Int} {b : Bool} (hne : (refRead xs i b).1 ≠ []) : ∃ (k n : Nat) (y : Int), i = k ∧ k < xs.length ∧ refRead xs i b = ([y], (n : Int)) ∧ pointOk y = true ∧ k < n ∧ n ≤ xs.length ∧
    ((n = k + 1 ∧ y = 38) ∨ (n + 1 ≤ 3000 → refRead (cut xs n) k b = ([y], (n : Int)))) := by
  by_cases hi : 3000 < xs.length ∨ inB i 0 (xs.length - 1) = false ∨ xs.getD i.toNat 0 ≠ 38
  · rw [refRead_none hi] at hne; exact absurd rfl hne
  · have h1 : xs.length ≤ 3000 := by omega
    have h2 : inB i 0 (xs.length - 1) = true := by
      rcases h2 : inB i 0 (xs.length - 1) with _ | _
      · exact absurd (.inr (.inl h2)) hi
      · rfl
    have h3 : xs.getD i.toNat 0 = 38 := by
      by_cases h3 : xs.getD i.toNat 0 = 38
      · exact h3
      · exact absurd (.inr (.inr h3)) hi
    have h4 : 0 ≤ i ∧ i ≤ xs.length - 1 := by unfold inB at h2; simpa using h2
    obtain ⟨k, rfl⟩ : ∃ k : Nat, i = k := ⟨i.toNat, by omega⟩
    rw [Int.toNat_natCast] at h3
    have hk : k < xs.length := by omega
    by_cases h5 : atL xs (k + 1) = 35
    · rw [refRead_num h1 hk h3 h5]
      by_cases hp : 0 < (refNum xs (k + 2)).2
      · rw [if_pos hp]
        obtain ⟨n, hn⟩ := refNum_place xs (k + 2)
        have hpt := refNum_point xs (k + 2) hp
        have hn0 : 0 < n := by omega
        obtain ⟨c1, c2, c3⟩ := refNum_cut (xs := xs) (k := k + 2) (n := n) (x := (refNum xs (k + 2)).1) (by rw [← hn]) hn0
        refine ⟨k, n, _, rfl, hk, by rw [hn], hpt, by omega, c2, .inr fun h30 => ?_⟩
        rw [refRead_num (by rw [cut_len c2]; omega) (by rw [cut_len c2]; omega) (by rw [cut_get c2 (by omega)]; exact h3) (by rw [cut_lt c2 (by omega)]; exact h5), c3, if_pos (by simp only; omega)]
      · rw [if_neg hp]
        exact ⟨k, k + 1, 38, rfl, hk, by push_cast; rfl, by decide, by omega, by omega, .inl ⟨rfl, rfl⟩⟩
    · rw [refRead_name h1 hk h3 h5]
      obtain ⟨r, hr⟩ : ∃ r, r = best xs (k + 1) refList := ⟨_, rfl⟩
      by_cases hz : r.1.size = 0
      · rw [refName_zero (by rw [← hr]; exact hz)]
        exact ⟨k, k + 1, 38, rfl, hk, by push_cast; rfl, by decide, by omega, by omega, .inl ⟨rfl, rfl⟩⟩
      · rcases hbar : (b && (((bs r.1).getD (r.1.size - 1) 0) != 59) && (atL xs (k + 1 + r.1.size) == 61 || (inB (atL xs (k + 1 + r.1.size)) 65 90 || inB (atL xs (k + 1 + r.1.size)) 97 122) || decide (0 ≤ digitOf (atL xs (k + 1 + r.1.size)) 10))) with _ | _
        · rw [refName_hit hr hz rfl rfl hbar]
          obtain ⟨s1, s2, s3⟩ := best_spec xs (k + 1) refList (⟨#[]⟩, 0) (best xs (k + 1) refList) rfl
          rw [← hr] at s1
          have hmem : r ∈ refList ∧ stands xs (k + 1) (bs r.1) = true := by
            rcases s1 with s1 | s1
            · rw [s1] at hz; exact absurd rfl hz
            · exact s1
          have hnl := stands_len hmem.2 (by omega)
          have hbc := best_cut (xs := xs) (k := k + 1) (n := k + 1 + r.1.size) (by rw [← hr]; omega) (by rw [← hr]) hnl
          refine ⟨k, k + 1 + r.1.size, r.2, rfl, hk, by push_cast; rfl, (refList_plain r hmem.1).2.1, by omega, hnl, .inr fun h30 => ?_⟩
          rw [refRead_name (by rw [cut_len hnl]; omega) (by rw [cut_len hnl]; omega) (by rw [cut_get hnl (by omega)]; exact h3) (by rw [cut_lt hnl (by omega)]; exact h5)]
          have h32 : (b && (((bs r.1).getD (r.1.size - 1) 0) != 59) && ((32 : Int) == 61 || (inB 32 65 90 || inB 32 97 122) || decide (0 ≤ digitOf 32 10))) = false := by
            have : ((32 : Int) == 61 || (inB 32 65 90 || inB 32 97 122) || decide (0 ≤ digitOf 32 10)) = false := by decide
            rw [this, Bool.and_false]
          rw [refName_hit (r := r) (c := 32) (hr.trans hbc.symm) hz rfl (cut_at hnl).symm h32]
          push_cast; rfl
        · rw [refName_bar hr hz rfl rfl hbar]
          exact ⟨k, k + 1, 38, rfl, hk, by push_cast; rfl, by decide, by omega, by omega, .inl ⟨rfl, rfl⟩⟩
end Go.Proofs.YtggfifchkecnjaaGreatDoor

/- Tokens as plain values: what TokenOk says of one, and the program's helpers. -/
namespace Go.Proofs.YtggfifchkecnjaaGreatDoor
open Go.RowKit
set_option maxRecDepth 100000
set_option linter.unusedVariables false
def tokVal (k : Int) (nm : ByteArray) (va : Value) (tx : ByteArray) (sf : Bool) : Value := .agg #[.int .i64 k, .string nm, va, .string tx, .bool sf]

def TokAt (w : World) (g : Nat) (k : Int) (nm : ByteArray) (va : Value) (tx : ByteArray) (sf : Bool) : Prop := w.heap[g]? = some (.cells #[.int .i64 k, .string nm, va, .string tx, .bool sf] 30 (0, 0))
theorem TokAt.below {w w' : World} {g : Nat} {k : Int} {nm : ByteArray} {va : Value} {tx : ByteArray} {sf : Bool} (h : TokAt w g k nm va tx sf) (hb : Below w.heap.size w w') : TokAt w' g k nm va tx sf := by
  unfold TokAt at *
  rw [hb.block g (lt_of_block h)]; exact h
theorem TokAt.cells {w : World} {g : Nat} {k : Int} {nm : ByteArray} {va : Value} {tx : ByteArray} {sf : Bool} (h : TokAt w g k nm va tx sf) : w.cell? ⟨g, 0, none⟩ = some (.int .i64 k) ∧ w.cell? ⟨g, 1, none⟩ = some (.string nm) ∧ w.cell? ⟨g, 2, none⟩ = some va ∧ w.cell? ⟨g, 3, none⟩ = some (.string tx) ∧ w.cell? ⟨g, 4, none⟩ = some (.bool sf) := by
  unfold TokAt at h
  refine ⟨?_, ?_, ?_, ?_, ?_⟩ <;> simp [World.cell?, h]
end Go.Proofs.YtggfifchkecnjaaGreatDoor

/- What the exact law of AttrAdd asks of the program's function, and rows of values that are apart. -/
namespace Go.Proofs.YtggfifchkecnjaaGreatDoor
open Go.RowKit
set_option maxRecDepth 100000
set_option linter.unusedVariables false
theorem row_base {B B' size n : Nat} {e : TypeId} {w : World} {v : Value} {xs : List Value} (h : w.ownsRow B e size v n xs) (hB : B' ≤ B) : w.ownsRow B' e size v n xs := by
  obtain ⟨hl, hv | ⟨g, cap, cur, hv, hb, r⟩⟩ := h
  · exact ⟨hl, .inl hv⟩
  · exact ⟨hl, .inr ⟨g, cap, cur, hv, Nat.le_trans hB hb, r⟩⟩

def AttrAddOk : Prop := ∀ (v : Value) (rs : List (ByteArray × ByteArray)) (p : ByteArray × ByteArray) (w : World), Sv 2 w v (pairCells rs) → Short rs → p.1.size ≤ 1099511627776 → p.2.size ≤ 1099511627776 →
  Calls Tryz.prog 134 #[v, .agg #[.string p.1, .string p.2]] w fun e w' => ∃ v', e = .returned v' ∧ w'.ownsRow w.heap.size 81 2 v' (attrAdd rs p).length (pairCells (attrAdd rs p)) ∧ Below w.heap.size w w'

end Go.Proofs.YtggfifchkecnjaaGreatDoor
