/- Contracts of the specification's AttrsSame and AttrAdd. -/
import Derived.Test.YtaanfeahojfadaaGreatDoorSAttr2
import Derived.Test.YtaanfeahojfadaaGreatDoorGrowV
import Derived.Test.YtaanfeahojfadaaGreatDoorToA
namespace Go.Proofs.YtaanfeahojfadaaGreatDoor
open Go.RowKit
set_option maxRecDepth 100000
set_option linter.unusedVariables false

theorem pair_oneCell (rs : List (ByteArray × ByteArray)) : ∀ y ∈ pairCells rs, y.oneCell' = true := by
  intro y hy
  unfold pairCells at hy
  obtain ⟨r, _, hr⟩ := List.mem_flatMap.mp hy
  simp at hr
  rcases hr with rfl | rfl <;> rfl
theorem pairCells_app (rs qs : List (ByteArray × ByteArray)) : pairCells rs ++ pairCells qs = pairCells (rs ++ qs) := by unfold pairCells; rw [List.flatMap_append]

theorem attrsSame_len {a b : List (ByteArray × ByteArray)} (h : a.length ≠ b.length) : attrsSame a b = false := by unfold attrsSame; rw [decide_eq_false h]; rfl
theorem attrsSame_no {a b : List (ByteArray × ByteArray)} {k : Nat} (hk : k < a.length) (h : attrOf b a[k].1 ≠ (a[k].2, true)) : attrsSame a b = false := by
  unfold attrsSame
  rw [Bool.and_eq_false_iff]
  right
  rw [List.all_eq_false]
  exact ⟨a[k], List.getElem_mem hk, by simpa using h⟩
theorem attrsSame_yes {a b : List (ByteArray × ByteArray)} (hl : a.length = b.length) (h : ∀ k (hk : k < a.length), attrOf b a[k].1 = (a[k].2, true)) : attrsSame a b = true := by
  unfold attrsSame
  rw [decide_eq_true hl, Bool.true_and, List.all_eq_true]
  intro p hp
  obtain ⟨k, hk, rfl⟩ := List.getElem_of_mem hp
  simpa using h k hk

theorem grown_cell {w w' : World} {g b k : Nat} (h : w.grownBy w' (some g)) (hne : b ≠ g) (hb : b < w.heap.size) : w'.cell? ⟨b, k, none⟩ = w.cell? ⟨b, k, none⟩ := by
  simp only [World.cell?, h.block b hb (fun e => hne (Option.some.inj e))]
theorem attrAdd_no {rs : List (ByteArray × ByteArray)} {p : ByteArray × ByteArray} (h : ((attrOf rs p.1).2 || decide (20 ≤ rs.length) || !attrOk p) = true) : attrAdd rs p = rs := by unfold attrAdd; rw [if_pos h]
theorem attrAdd_yes {rs : List (ByteArray × ByteArray)} {p : ByteArray × ByteArray} (h : ((attrOf rs p.1).2 || decide (20 ≤ rs.length) || !attrOk p) = false) : attrAdd rs p = rs ++ [p] := by unfold attrAdd; rw [if_neg (by rw [h]; decide)]

set_option maxHeartbeats 2000000 in
set_option maxRecDepth 100000 in
theorem sattrAdd_any {v : Value} {rs : List (ByteArray × ByteArray)} {w : World} (h : Sv 2 w v (pairCells rs)) (p : ByteArray × ByteArray) (hn : rs.length ≤ 1048576) (h1 : p.1.size ≤ 1099511627776) (h2 : p.2.size ≤ 1099511627776) :
    Calls Tryz.prog 94 #[v, .agg #[.string p.1, .string p.2]] w fun e w' => ∃ v', e = .returned v' ∧ w'.ownsRow w.heap.size 81 2 v' (attrAdd rs p).length (pairCells (attrAdd rs p)) ∧ Below w.heap.size w w' := by
  obtain ⟨i0, hi, hz0, hz1, hz2⟩ := info_parts Tryz.infoA
  have hlen := pairCells_len rs
  have H := (show Hid (Sv 2 w v (pairCells rs)) from h)
  obtain ⟨a, ca, rfl, _, _, _⟩ := h.pair
  clear h
  obtain ⟨pn, pv⟩ := p
  simp only at h1 h2 ⊢
  obtain ⟨wb, hwb⟩ : ∃ wb, wb = w.alloc (.cells #[.string pn, .string pv] 81) := ⟨_, rfl⟩
  have bb : Below w.heap.size w wb := by rw [hwb]; exact (Below.refl _ _).alloc (Nat.le_refl _) _
  have cb0 : wb.cell? ⟨w.heap.size, 0, none⟩ = some (.string pn) := by rw [hwb]; simp
  have cb1 : wb.cell? ⟨w.heap.size, 1, none⟩ = some (.string pv) := by rw [hwb]; simp
  have hbs : wb.heap.size = w.heap.size + 1 := by rw [hwb]; simp
  have oe := empty_row wb w.heap.size 81 2 (by omega)
  have be : Below wb.heap.size wb (wb.alloc (.cells #[] 81)) := (Below.refl _ _).alloc (Nat.le_refl _) _
  have hsv := (H.out.below bb).below be
  rw [hbs, hwb] at oe
  rw [hwb] at hsv
  go_enter Tryz.func94, Tryz.ntmps94
  go_wp2_with (at_builtin; refine wpList_appV _ rfl (.tmp 8) (.tmp 9) 28 rfl w.heap.size 81 i0 _ 2 32 Tryz.underlying28 hi hz0 hz1 hz2 rfl (by decide) _ _ 0 rs.length [] (pairCells rs) rfl rfl oe hsv hlen (pair_oneCell rs) (by omega) (by unfold maxLen; omega) (by simp <;> omega) ?_; intro v1 w1 o1 g1; rw [List.nil_append, Nat.zero_add] at o1; have cn := (grown_cell (b := w.heap.size) (k := 0) g1 (by simp) (by simp; omega)).trans (by simp : _ = some (Value.string pn)); have cv := (grown_cell (b := w.heap.size) (k := 1) g1 (by simp) (by simp; omega)).trans (by simp : _ = some (Value.string pv)))
  have b1 : Below w.heap.size w w1 := (((Below.refl _ w).alloc (Nat.le_refl _) _).alloc (by simp) _).grown g1 (by simp; omega) (fun j hj => by have e : some (w.heap.size + 1) = some j := hj; injection e with e; omega)
  have HO := (show Hid (w1.ownsRow w.heap.size 81 2 v1 rs.length (pairCells rs)) from o1)
  have cof := sattrOf_any (H.out.below b1) pn (by omega)
  have CL := (show Hid (∀ w, Calls Tryz.prog 130 #[.agg #[.string pn, .string pv]] w fun e w' => e = .returned (.bool (attrOk (pn, pv))) ∧ Below w.heap.size w w') from fun w => l4Attr_any (pn, pv) w h1 h2)
  have HNO := (show Hid (((attrOf rs pn).2 || decide (20 ≤ rs.length) || !attrOk (pn, pv)) = true → attrAdd rs (pn, pv) = rs) from fun h => attrAdd_no (p := (pn, pv)) h)
  have HYES := (show Hid (((attrOf rs pn).2 || decide (20 ≤ rs.length) || !attrOk (pn, pv)) = false → attrAdd rs (pn, pv) = rs ++ [(pn, pv)]) from fun h => attrAdd_yes (p := (pn, pv)) h)
  obtain ⟨r, hr⟩ : ∃ r, r = attrOf rs pn := ⟨_, rfl⟩
  obtain ⟨ok, hok⟩ : ∃ ok, ok = attrOk (pn, pv) := ⟨_, rfl⟩
  rw [← hr] at cof HNO HYES
  rw [← hok] at CL HNO HYES
  obtain ⟨ov, has⟩ := r
  simp only at HNO HYES cof
  clear hr hok o1 oe hsv be bb cb0 cb1 hbs hwb H g1
  refine cof.mono ?_
  rintro e w1 ⟨rfl, rfl⟩
  clear cof
  cases has
  · by_cases h20 : 20 ≤ rs.length
    · have HA := (show Hid _ from HNO.out (by simp [h20]))
      clear HNO HYES CL
      go_wp2
      go_ret
      exact ⟨_, rfl, by rw [HA.out]; exact HO.out, b1⟩
    · cases ok
      · have HA := (show Hid _ from HNO.out (by simp))
        clear HNO HYES
        go_wp2_with fail
        go_at_call 130
        refine (CL.out _).mono ?_
        rintro e w2 ⟨rfl, b2⟩
        have o2 := ownsRow_below HO.out b2
        replace b2 := b1.trans (b2.mono b1.size)
        go_wp2
        go_ret
        exact ⟨_, rfl, by rw [HA.out]; exact o2, b2⟩
      · have HA := (show Hid _ from HYES.out (by simp; omega))
        clear HNO HYES
        go_wp2_with fail
        go_at_call 130
        refine (CL.out _).mono ?_
        rintro e w2 ⟨rfl, b2⟩
        have hlt : w.heap.size < w1.heap.size := by
          by_cases hl : w.heap.size < w1.heap.size
          · exact hl
          · exfalso; simp [World.cell?, Array.getElem?_eq_none (Nat.le_of_not_lt hl)] at cn
        have cn2 : w2.cell? ⟨w.heap.size, 0, none⟩ = some (.string pn) := (b2.cell (p := ⟨w.heap.size, 0, none⟩) hlt).trans cn
        have cv2 : w2.cell? ⟨w.heap.size, 1, none⟩ = some (.string pv) := (b2.cell (p := ⟨w.heap.size, 1, none⟩) hlt).trans cv
        have o2 := ownsRow_below HO.out b2
        replace b2 := b1.trans (b2.mono b1.size)
        have hb2 := b2.size
        have o3 := ownsRow_below o2 ((Below.refl _ w2).alloc (Nat.le_refl _) (.cells #[.string pn, .string pv] 81))
        have hone : Sv 2 (w2.alloc (.cells #[.string pn, .string pv] 81)) (.slice (some ⟨w2.heap.size, 0, none⟩) 1 1) (pairCells [(pn, pv)]) :=
          sv_of_own (World.ownsRow_lit (base := w2.heap.size) (e := 81) (size := 2) w2 #[.string pn, .string pv] 1 (Nat.le_refl _) (by unfold maxLen; omega) rfl)
        clear HO CL cn cv
        go_wp2_with (at_builtin; refine wpList_appV _ rfl (.tmp 30) (.tmp 32) 28 rfl w.heap.size 81 i0 _ 2 32 Tryz.underlying28 hi hz0 hz1 hz2 rfl (by decide) _ _ rs.length 1 (pairCells rs) (pairCells [(pn, pv)]) rfl rfl o3 hone rfl (pair_oneCell _) (by omega) (by unfold maxLen; omega) (by simp <;> omega) ?_; intro v4 w4 o4 g4; rw [pairCells_app] at o4)
        go_ret
        refine ⟨_, rfl, ?_, (b2.alloc hb2 _).grown g4 (by simp; omega) (fun j hj => (o3.lt j hj).1)⟩
        rw [HA.out, List.length_append, List.length_singleton]; exact o4
  · have HA := (show Hid _ from HNO.out (by simp))
    clear HNO HYES CL
    go_wp2
    go_ret
    exact ⟨_, rfl, by rw [HA.out]; exact HO.out, b1⟩
end Go.Proofs.YtaanfeahojfadaaGreatDoor
