/- The exact law of AttrAdd, walked. -/
import Derived.Test.YtlggfbelandpjaaIAttr5
import Derived.Test.YtlggfbelandpjaaSAttr3
import Derived.Deep.RegionHeld
namespace Go.Proofs.Ytlggfbelandpjaa
open Go.RowKit
set_option linter.unusedVariables false

theorem box_keep {w w1 w2 : World} {g : Nat} {x y : Value} (h : w1.cell? ⟨g, 0, none⟩ = some x ∧ w1.cell? ⟨g, 1, none⟩ = some y ∧ Below w.heap.size w w1) (hb : Below w1.heap.size w1 w2) : w2.cell? ⟨g, 0, none⟩ = some x ∧ w2.cell? ⟨g, 1, none⟩ = some y ∧ Below w.heap.size w w2 := by
  obtain ⟨h0, h1, h2⟩ := h
  have hg : g < w1.heap.size := by
    by_cases hl : g < w1.heap.size
    · exact hl
    · exfalso; simp [World.cell?, Array.getElem?_eq_none (Nat.le_of_not_lt hl)] at h0
  exact ⟨(hb.cell (p := ⟨g, 0, none⟩) hg).trans h0, (hb.cell (p := ⟨g, 1, none⟩) hg).trans h1, h2.trans (hb.mono h2.size)⟩

theorem box_lt {w w1 : World} {g : Nat} {x y : Value} (h : w1.cell? ⟨g, 0, none⟩ = some x ∧ w1.cell? ⟨g, 1, none⟩ = some y ∧ Below w.heap.size w w1) : g < w1.heap.size := by
  by_cases hl : g < w1.heap.size
  · exact hl
  · have h0 := h.1
    exfalso; simp [World.cell?, Array.getElem?_eq_none (Nat.le_of_not_lt hl)] at h0
theorem box_grown {w w1 w2 : World} {g : Nat} {x y : Value} {row : Option Nat} (h : w1.cell? ⟨g, 0, none⟩ = some x ∧ w1.cell? ⟨g, 1, none⟩ = some y ∧ Below w.heap.size w w1) (hb : w1.grownBy w2 row) (hr : ∀ k, row = some k → g < k) (hg : w.heap.size ≤ g) : w2.cell? ⟨g, 0, none⟩ = some x ∧ w2.cell? ⟨g, 1, none⟩ = some y ∧ Below w.heap.size w w2 := by
  have hl := box_lt h
  obtain ⟨h0, h1, h2⟩ := h
  have hne : some g ≠ row := fun e => by have := hr g e.symm; omega
  have e := hb.block g hl hne
  exact ⟨(World.cell?_of_block (a := ⟨g, 0, none⟩) e).trans h0, (World.cell?_of_block (a := ⟨g, 1, none⟩) e).trans h1, h2.grown hb h2.size (fun k hk => by have := hr k hk; omega)⟩

set_option maxHeartbeats 4000000 in
set_option maxRecDepth 100000 in
theorem fnExactAttrAdd_walk {v : Value} {rs : List (ByteArray × ByteArray)} {p : ByteArray × ByteArray} (w : World) (h : Sv 2 w v (pairCells rs)) (hs : ∀ p ∈ rs, p.1.size ≤ maxLen ∧ p.2.size ≤ maxLen) (hp1 : p.1.size ≤ maxLen) (hp2 : p.2.size ≤ maxLen) :
    Calls Try.prog 6 #[v, .agg #[.string p.1, .string p.2]] w fun e w' => e = .returned (.bool true) ∧ Below w.heap.size w w' := by
  obtain ⟨pn, pv⟩ := p
  simp only at hp1 hp2 ⊢
  have bx : Below w.heap.size w (w.alloc (.cells #[.string pn, .string pv] 39)) := (Below.refl _ _).alloc (Nat.le_refl _) _
  have csz := szAttrS_any (h.below bx) hs 1048576 (by omega) (by omega)
  have H := (show Hid (Sv 2 w v (pairCells rs)) from h)
  have P1 := (show Hid (pn.size ≤ maxLen) from hp1)
  have P2 := (show Hid (pv.size ≤ maxLen) from hp2)
  have BX := (show Hid _ from bx)
  have HXB := (show Hid _ from heap_alloc_new w (.cells #[.string pn, .string pv] 39))
  clear hs h hp1 hp2 bx
  go_enter Try.func6, Try.ntmps6
  go_wp2_with fail
  go_at_call 15
  refine csz.mono ?_
  rintro e w1 ⟨r, rfl, hr, b1⟩
  have hx1 := (b1.block w.heap.size (by simp)).trans HXB.out
  have x0 : w1.cell? ⟨w.heap.size, 0, none⟩ = some (.string pn) := by simp [World.cell?, hx1]
  have x1 : w1.cell? ⟨w.heap.size, 1, none⟩ = some (.string pv) := by simp [World.cell?, hx1]
  replace b1 := BX.out.trans (b1.mono BX.out.size)
  have HX1 := (show Hid _ from hx1)
  clear csz hx1 HXB
  rcases hr with hr | ⟨hr0, hr1, hr2⟩
  · go_wp2
    go_ret
    exact ⟨rfl, b1⟩
  · have hsh : Short rs := short_of (r := r) (Int.le_refl _) hr2
    have HSH := (show Hid (Short rs) from hsh)
    have hlen : rs.length ≤ 1048576 := hsh.1
    clear hr2 hsh
    go_wp2_with fail
    go_at_call 20
    refine (szAttr_any (pn, pv) r _ (by omega) (by omega) P1.out P2.out).mono ?_
    rintro e w2 ⟨r2, rfl, hr2, b2⟩
    have hx2 := (b2.block w.heap.size (lt_of_block HX1.out)).trans HX1.out
    have y0 : w2.cell? ⟨w.heap.size, 0, none⟩ = some (.string pn) := by simp [World.cell?, hx2]
    have y1 : w2.cell? ⟨w.heap.size, 1, none⟩ = some (.string pv) := by simp [World.cell?, hx2]
    replace b2 := b1.trans (b2.mono b1.size)
    have HX2 := (show Hid _ from hx2)
    clear x0 x1 hx2 HX1 b1
    rcases hr2 with hr2 | ⟨hr3, hr4, hr5⟩
    · go_wp2
      go_ret
      exact ⟨rfl, b2⟩
    · have q1 : pn.size ≤ 1099511627776 := by simp only at hr5; omega
      have q2 : pv.size ≤ 1099511627776 := by simp only at hr5; omega
      clear hr5
      go_wp2
      go_region_held (fun w' => w'.cell? ⟨w.heap.size, 0, none⟩ = some (.string pn) ∧ w'.cell? ⟨w.heap.size, 1, none⟩ = some (.string pv) ∧ Below w.heap.size w w') (first | exact ⟨y0, y1, b2.trans (below_drewN 1)⟩ | exact box_keep (by assumption) b3 | exact box_keep (by assumption) b4 | exact box_keep (by assumption) b5)
        (first
          | (go_at_call 17; refine (toAttrS_any (H.out.below (b2.trans (below_drewN 1))) hlen).mono ?_; rintro e w3 ⟨v3, rfl, o3, b3⟩)
          | (go_at_call 21; refine (toAttr_any (pn, pv) _).mono ?_; rintro e w4 ⟨rfl, b4⟩)
          | (go_at_call 11; refine (sattrAdd_any (sv_of_own (ownsRow_below o3 b4)) (pn, pv) hlen q1 q2).mono ?_; rintro e w5 ⟨v5, rfl, o5, b5⟩))
      rename_i hbox5
      have HBX5 := (show Hid _ from hbox5)
      have hAl := attrAdd_len rs (pn, pv)
      obtain ⟨A, hA⟩ : ∃ A, A = attrAdd rs (pn, pv) := ⟨_, rfl⟩
      have CADD := (show Hid (∀ (v : Value) (w : World), Sv 2 w v (pairCells rs) → Calls Try.prog 10 #[v, .agg #[.string pn, .string pv]] w fun e w' => ∃ v', e = .returned v' ∧ w'.ownsRow w.heap.size 26 2 v' A.length (pairCells A) ∧ Below w.heap.size w w') from fun v w h => by rw [hA]; exact attrAddOk v rs (pn, pv) w h HSH.out q1 q2)
      rw [← hA] at o5 hAl
      have HA := (show Hid _ from hA)
      clear hA hbox5 b2 b3 b4 b5 o3 y0 y1 HX2
      have hgl : w.heap.size < w5.heap.size := box_lt HBX5.out
      go_wp2_with fail
      go_at_call 17
      refine (toAttrS_any (H.out.below HBX5.out.2.2) hlen).mono ?_
      rintro e w6 ⟨v6, rfl, o6, b6⟩
      have d56 := row_ne o5 o6
      replace o5 := ownsRow_below o5 b6
      have box6 := box_keep HBX5.out b6
      obtain ⟨y0, y1, bb6⟩ := box6
      clear HBX5 b6
      have l6 : ∀ k, v6.ownBlock = some k → w.heap.size < k := fun k hk => Nat.lt_of_lt_of_le hgl (World.ownsRow.lt o6 k hk).1
      go_wp2_with fail
      go_at_call 21
      refine (toAttr_any (pn, pv) _).mono ?_
      rintro e w7 ⟨rfl, b7⟩
      replace o5 := ownsRow_below o5 b7
      replace o6 := ownsRow_below o6 b7
      have box7 := box_keep ⟨y0, y1, bb6⟩ b7
      clear y0 y1 bb6 b7
      go_wp2_with fail
      go_at_call 10
      refine (CADD.out _ _ (sv_of_own o6)).mono ?_
      rintro e w8 ⟨v8, rfl, o8, b8⟩
      have d58 := row_ne o5 o8
      have d68 := row_ne o6 o8
      have l8 : ∀ k, v8.ownBlock = some k → w.heap.size < k := fun k hk => Nat.lt_of_lt_of_le (box_lt box7) (World.ownsRow.lt o8 k hk).1
      replace o5 := ownsRow_below o5 b8
      replace o6 := ownsRow_below o6 b8
      have box8 := box_keep box7 b8
      clear box7 b8
      have HB8 := (show Hid _ from box8)
      clear box8
      go_wp2_with fail
      go_at_call 18
      refine (eqAttrS_any (sv_of_own o8) (sv_of_own o5) (by omega) (by omega)).mono ?_
      rintro e w9 ⟨rfl, b9⟩
      replace o5 := ownsRow_below o5 b9
      replace o6 := ownsRow_below o6 b9
      replace o8 := ownsRow_below o8 b9
      have box9 := box_keep HB8.out b9
      have HB9 := (show Hid _ from box9)
      clear box9 HB8 b9
      go_wp2_with fail
      go_at_call 17
      refine (toAttrS_any (H.out.below HB9.out.2.2) hlen).mono ?_
      rintro e w10 ⟨v10, rfl, o10, b10⟩
      replace o5 := ownsRow_below o5 b10
      replace o6 := ownsRow_below o6 b10
      replace o8 := ownsRow_below o8 b10
      have HB10 := (show Hid _ from box_keep HB9.out b10)
      clear HB9 b10
      go_wp2_with fail
      go_at_call 18
      refine (eqAttrS_any (sv_of_own o6) (sv_of_own o10) (by omega) (by omega)).mono ?_
      rintro e w11 ⟨rfl, b11⟩
      replace o5 := ownsRow_below o5 b11
      replace o6 := ownsRow_below o6 b11
      replace o8 := ownsRow_below o8 b11
      have HB11 := (show Hid _ from box_keep HB10.out b11)
      clear HB10 b11 o10
      go_wp2_with fail
      go_at_call 22
      refine (markAttrS_any o6 1 (by omega) (by omega) (by omega)).mono ?_
      rintro e w12 ⟨rfl, o6', g12⟩
      replace o5 := row_kept o5 g12 d56
      replace o8 := row_kept o8 g12 (fun k j hk hj => (d68 j k hj hk).symm)
      have HB12 := (show Hid _ from box_grown HB11.out g12 l6 (Nat.le_refl _))
      clear HB11 g12 o6 o6'
      go_wp2_with fail
      go_at_call 18
      refine (eqAttrS_any (sv_of_own o8) (sv_of_own o5) (by omega) (by omega)).mono ?_
      rintro e w13 ⟨rfl, b13⟩
      replace o5 := ownsRow_below o5 b13
      replace o8 := ownsRow_below o8 b13
      have HB13 := (show Hid _ from box_keep HB12.out b13)
      clear HB12 b13
      go_wp2_with fail
      go_at_call 22
      refine (markAttrS_any o8 1 (by omega) (by omega) (by omega)).mono ?_
      rintro e w14 ⟨rfl, o8', g14⟩
      replace o5 := row_kept o5 g14 d58
      have HB14 := (show Hid _ from box_grown HB13.out g14 l8 (Nat.le_refl _))
      clear HB13 g14 o8
      go_wp2_with fail
      go_at_call 23
      refine (heldAttrS_any 1 (sv_of_own o8') (by omega) (by omega) (by omega)).mono ?_
      rintro e w15 ⟨rfl, b15⟩
      replace o5 := ownsRow_below o5 b15
      replace o8' := ownsRow_below o8' b15
      have HB15 := (show Hid _ from box_keep HB14.out b15)
      clear HB14 b15
      obtain ⟨y0, y1, bb⟩ := HB15.out
      go_wp2
      go_region_held (fun w' => w'.cell? ⟨w.heap.size, 0, none⟩ = some (.string pn) ∧ w'.cell? ⟨w.heap.size, 1, none⟩ = some (.string pv) ∧ Below w.heap.size w w') (first | exact ⟨y0, y1, bb.trans (below_drewN 1)⟩ | exact box_keep (by assumption) b16 | exact box_keep (by assumption) b17 | exact box_keep (by assumption) b18)
        (first
          | (go_at_call 17; refine (toAttrS_any (H.out.below (bb.trans (below_drewN 1))) hlen).mono ?_; rintro e w16 ⟨v16, rfl, o16, b16⟩)
          | (go_at_call 21; refine (toAttr_any (pn, pv) _).mono ?_; rintro e w17 ⟨rfl, b17⟩)
          | (go_at_call 10; refine (CADD.out _ _ (sv_of_own (ownsRow_below o16 b17))).mono ?_; rintro e w18 ⟨v18, rfl, o18, b18⟩))
      rename_i hbox18
      have bel := hbox18.2.2
      replace o5 := ownsRow_below (ownsRow_below (ownsRow_below (ownsRow_below o5 (below_drewN 1)) b16) b17) b18
      replace o8' := ownsRow_below (ownsRow_below (ownsRow_below (ownsRow_below o8' (below_drewN 1)) b16) b17) b18
      clear hbox18 b16 b17 b18 o16 y0 y1 bb HB15
      go_wp2_with fail
      go_at_call 18
      refine (eqAttrS_any (sv_of_own o18) (sv_of_own o5) (by omega) (by omega)).mono ?_
      rintro e w19 ⟨rfl, b19⟩
      replace o8' := ownsRow_below o8' b19
      replace b19 := bel.trans (b19.mono bel.size)
      clear o5 o18 bel
      go_wp2_with fail
      go_at_call 23
      refine (heldAttrS_any 1 (sv_of_own o8') (by omega) (by omega) (by omega)).mono ?_
      rintro e w20 ⟨rfl, b20⟩
      go_wp2
      go_ret
      exact ⟨rfl, b19.trans (b20.mono b19.size)⟩
end Go.Proofs.Ytlggfbelandpjaa
