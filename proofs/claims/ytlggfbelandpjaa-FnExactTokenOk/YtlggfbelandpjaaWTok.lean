/- The exact law of TokenOk, walked. -/
import Derived.Test.YtlggfbelandpjaaHelpT
import Derived.Test.YtlggfbelandpjaaSTok
import Derived.Test.YtlggfbelandpjaaITok2
import Derived.Deep.RegionHeld
import Derived.Test.YtlggfbelandpjaaOpenT
namespace Go.Proofs.Ytlggfbelandpjaa
open Go.RowKit
set_option linter.unusedVariables false

set_option maxHeartbeats 4000000 in
set_option maxRecDepth 100000 in
theorem eqToken_same {va vb : Value} {rs : List (ByteArray × ByteArray)} {w : World} (ha : Sv 2 w va (pairCells rs)) (hb : Sv 2 w vb (pairCells rs)) (k : Int) (nm tx : ByteArray) (sf : Bool) (hn : rs.length ≤ 1048576) :
    Calls Try.prog 28 #[tokVal k nm va tx sf, tokVal k nm vb tx sf] w fun e w' => e = .returned (.bool true) ∧ Below w.heap.size w w' := by
  unfold tokVal
  have b1 : Below w.heap.size w ((w.alloc (.cells #[.int .i64 k, .string nm, va, .string tx, .bool sf] 49)).alloc (.cells #[.int .i64 k, .string nm, vb, .string tx, .bool sf] 49)) := ((Below.refl _ _).alloc (Nat.le_refl _) _).alloc (by simp) _
  have c1 := eqAttrS_any (ha.below b1) (hb.below b1) (by omega) (by omega)
  have hx0 : ((w.alloc (.cells #[.int .i64 k, .string nm, va, .string tx, .bool sf] 49)).alloc (.cells #[.int .i64 k, .string nm, vb, .string tx, .bool sf] 49)).heap[w.heap.size + 1]? = some (.cells #[.int .i64 k, .string nm, vb, .string tx, .bool sf] 49 (0, 0)) := heap_alloc2_new _ _ _
  have hy0 : ((w.alloc (.cells #[.int .i64 k, .string nm, va, .string tx, .bool sf] 49)).alloc (.cells #[.int .i64 k, .string nm, vb, .string tx, .bool sf] 49)).heap[w.heap.size]? = some (.cells #[.int .i64 k, .string nm, va, .string tx, .bool sf] 49 (0, 0)) := (heap_alloc_old _ _ (by simp)).trans (heap_alloc_new _ _)
  have HX := (show Hid _ from hx0)
  have HY := (show Hid _ from hy0)
  clear hx0 hy0
  go_enter Try.func28, Try.ntmps28
  go_wp2_with fail
  go_at_call 18
  refine c1.mono ?_
  rintro e w2 ⟨rfl, b2⟩
  have hx := (b2.block (w.heap.size + 1) (by simp)).trans HX.out
  have hy := (b2.block w.heap.size (by first | (simp; done) | (simp; omega))).trans HY.out
  have x3 : w2.cell? ⟨w.heap.size + 1, 3, none⟩ = some (.string tx) := by simp only [World.cell?, hx]; rfl
  have x4 : w2.cell? ⟨w.heap.size + 1, 4, none⟩ = some (.bool sf) := by simp only [World.cell?, hx]; rfl
  have y3 : w2.cell? ⟨w.heap.size, 3, none⟩ = some (.string tx) := by simp only [World.cell?, hy]; rfl
  have y4 : w2.cell? ⟨w.heap.size, 4, none⟩ = some (.bool sf) := by simp only [World.cell?, hy]; rfl
  replace b2 := b1.trans (b2.mono b1.size)
  clear hx hy HX HY c1
  go_wp2
  go_ret
  exact ⟨rfl, b2⟩

theorem cell_keep {w w' : World} {p : Addr} {x : Value} (h : w.cell? p = some x) (hb : Below w.heap.size w w') : w'.cell? p = some x := by
  have hl : p.block < w.heap.size := by
    by_cases hl : p.block < w.heap.size
    · exact hl
    · exfalso
      obtain ⟨b, o, t⟩ := p
      simp only at hl
      simp [World.cell?, Array.getElem?_eq_none (Nat.le_of_not_lt hl)] at h
  exact (hb.cell hl).trans h
theorem ten_keep {w w1 w2 : World} {g h : Nat} {x0 x1 x2 x3 x4 y0 y1 y2 y3 y4 : Value} (H : w1.cell? ⟨g, 0, none⟩ = some x0 ∧ w1.cell? ⟨g, 1, none⟩ = some x1 ∧ w1.cell? ⟨g, 2, none⟩ = some x2 ∧ w1.cell? ⟨g, 3, none⟩ = some x3 ∧ w1.cell? ⟨g, 4, none⟩ = some x4 ∧ w1.cell? ⟨h, 0, none⟩ = some y0 ∧ w1.cell? ⟨h, 1, none⟩ = some y1 ∧ w1.cell? ⟨h, 2, none⟩ = some y2 ∧ w1.cell? ⟨h, 3, none⟩ = some y3 ∧ w1.cell? ⟨h, 4, none⟩ = some y4 ∧ Below w.heap.size w w1) (hb : Below w1.heap.size w1 w2) : w2.cell? ⟨g, 0, none⟩ = some x0 ∧ w2.cell? ⟨g, 1, none⟩ = some x1 ∧ w2.cell? ⟨g, 2, none⟩ = some x2 ∧ w2.cell? ⟨g, 3, none⟩ = some x3 ∧ w2.cell? ⟨g, 4, none⟩ = some x4 ∧ w2.cell? ⟨h, 0, none⟩ = some y0 ∧ w2.cell? ⟨h, 1, none⟩ = some y1 ∧ w2.cell? ⟨h, 2, none⟩ = some y2 ∧ w2.cell? ⟨h, 3, none⟩ = some y3 ∧ w2.cell? ⟨h, 4, none⟩ = some y4 ∧ Below w.heap.size w w2 := by
  obtain ⟨a0, a1, a2, a3, a4, c0, c1, c2, c3, c4, b⟩ := H
  exact ⟨cell_keep a0 hb, cell_keep a1 hb, cell_keep a2 hb, cell_keep a3 hb, cell_keep a4 hb, cell_keep c0 hb, cell_keep c1 hb, cell_keep c2 hb, cell_keep c3 hb, cell_keep c4 hb, b.trans (hb.mono b.size)⟩

set_option maxHeartbeats 4000000 in
set_option maxRecDepth 100000 in
theorem fnExactTokenOk_walk {va : Value} {rs : List (ByteArray × ByteArray)} {k : Int} {nm tx : ByteArray} {sf : Bool} (w : World) (h : Sv 2 w va (pairCells rs)) (hs : ∀ p ∈ rs, p.1.size ≤ maxLen ∧ p.2.size ≤ maxLen) (hn : nm.size ≤ maxLen) (ht : tx.size ≤ maxLen) :
    Calls Try.prog 7 #[tokVal k nm va tx sf] w fun e w' => e = .returned (.bool true) ∧ Below w.heap.size w w' := by
  have bx : Below w.heap.size w (w.alloc (.cells #[.int .i64 k, .string nm, va, .string tx, .bool sf] 45)) := (Below.refl _ _).alloc (Nat.le_refl _) _
  have csz := szToken_any (h.below bx) hs k nm tx sf hn ht 1048576 (by omega) (by omega)
  have H := (show Hid (Sv 2 w va (pairCells rs)) from h)
  have BX := (show Hid _ from bx)
  have HXB := (show Hid _ from heap_alloc_new w (.cells #[.int .i64 k, .string nm, va, .string tx, .bool sf] 45))
  obtain ⟨a, ca, rfl, _, _, _⟩ := h.pair
  clear hs h hn ht bx
  unfold tokVal at *
  go_enter Try.func7, Try.ntmps7
  go_wp2_with fail
  go_at_call 24
  refine csz.mono ?_
  rintro e w1 ⟨r, rfl, hr, b1⟩
  have HX1 := (show Hid (w1.heap[w.heap.size]? = some (.cells #[.int .i64 k, .string nm, .slice a rs.length ca, .string tx, .bool sf] 45)) from (b1.block w.heap.size (by simp)).trans HXB.out)
  replace b1 := BX.out.trans (b1.mono BX.out.size)
  clear csz HXB
  rcases hr with hr | ⟨hr0, hr1, hr2, hr3, hr4, hr5⟩
  · go_wp2
    go_ret
    exact ⟨rfl, b1⟩
  · have hf : TokFit nm rs tx := ⟨by omega, by omega, by omega, fun p hp => by have := hr5 p hp; omega⟩
    have HF := (show Hid (TokFit nm rs tx) from hf)
    have hlen : rs.length ≤ 1048576 := hf.hrs
    clear hr5 hf
    have hx := HX1.out
    have y0 : w1.cell? ⟨w.heap.size, 0, none⟩ = some (.int .i64 k) := by simp only [World.cell?, hx]; rfl
    have y1 : w1.cell? ⟨w.heap.size, 1, none⟩ = some (.string nm) := by simp only [World.cell?, hx]; rfl
    have y2 : w1.cell? ⟨w.heap.size, 2, none⟩ = some (.slice a rs.length ca) := by simp only [World.cell?, hx]; rfl
    have y3 : w1.cell? ⟨w.heap.size, 3, none⟩ = some (.string tx) := by simp only [World.cell?, hx]; rfl
    have y4 : w1.cell? ⟨w.heap.size, 4, none⟩ = some (.bool sf) := by simp only [World.cell?, hx]; rfl
    clear hx
    go_wp2_with fail
    go_at_call 26
    refine (toToken_any (H.out.below b1) k nm tx sf hlen).mono ?_
    rintro e w2 ⟨v2, rfl, o2, b2⟩
    have HX2 := (show Hid (w2.heap[w.heap.size]? = some (.cells #[.int .i64 k, .string nm, .slice a rs.length ca, .string tx, .bool sf] 45)) from (b2.block w.heap.size (lt_of_block HX1.out)).trans HX1.out)
    replace b2 := b1.trans (b2.mono b1.size)
    obtain ⟨a2, c2, rfl, _, _, _⟩ := (sv_of_own o2).pair
    unfold tokVal
    clear y0 y1 y2 y3 y4 HX1 b1
    go_wp2_with fail
    go_at_call 25
    refine (stokenOk_any (sv_of_own o2) k nm tx sf HF.out).mono ?_
    rintro e w3 ⟨rfl, b3⟩
    have HX3 := (show Hid (w3.heap[w.heap.size]? = some (.cells #[.int .i64 k, .string nm, .slice a rs.length ca, .string tx, .bool sf] 45)) from (b3.block w.heap.size (lt_of_block HX2.out)).trans HX2.out)
    replace b3 := b2.trans (b3.mono b2.size)
    clear HX2 b2 o2
    have hx := HX3.out
    have y0 : w3.cell? ⟨w.heap.size, 0, none⟩ = some (.int .i64 k) := by simp only [World.cell?, hx]; rfl
    have y1 : w3.cell? ⟨w.heap.size, 1, none⟩ = some (.string nm) := by simp only [World.cell?, hx]; rfl
    have y2 : w3.cell? ⟨w.heap.size, 2, none⟩ = some (.slice a rs.length ca) := by simp only [World.cell?, hx]; rfl
    have y3 : w3.cell? ⟨w.heap.size, 3, none⟩ = some (.string tx) := by simp only [World.cell?, hx]; rfl
    have y4 : w3.cell? ⟨w.heap.size, 4, none⟩ = some (.bool sf) := by simp only [World.cell?, hx]; rfl
    clear hx
    go_wp2_with fail
    go_at_call 26
    refine (toToken_any (H.out.below b3) k nm tx sf hlen).mono ?_
    rintro e w4 ⟨v4, rfl, o4, b4⟩
    have HX4 := (show Hid (w4.heap[w.heap.size]? = some (.cells #[.int .i64 k, .string nm, .slice a rs.length ca, .string tx, .bool sf] 45)) from (b4.block w.heap.size (lt_of_block HX3.out)).trans HX3.out)
    replace b4 := b3.trans (b4.mono b3.size)
    obtain ⟨a4, c4, rfl, _, _, _⟩ := (sv_of_own o4).pair
    unfold tokVal
    clear y0 y1 y2 y3 y4 HX3 b3
    obtain ⟨wx, hwx⟩ : ∃ wx, wx = w4.alloc (.cells #[.int .i64 k, .string nm, .slice a4 rs.length c4, .string tx, .bool sf] 49) := ⟨_, rfl⟩
    have bx : Below w4.heap.size w4 wx := by rw [hwx]; exact (Below.refl _ _).alloc (Nat.le_refl _) _
    have hX0 : wx.heap[w4.heap.size]? = some (.cells #[.int .i64 k, .string nm, .slice a4 rs.length c4, .string tx, .bool sf] 49) := by rw [hwx]; exact heap_alloc_new _ _
    have HXx := (show Hid (wx.heap[w.heap.size]? = some (.cells #[.int .i64 k, .string nm, .slice a rs.length ca, .string tx, .bool sf] 45)) from (bx.block w.heap.size (lt_of_block HX4.out)).trans HX4.out)
    have HX0 := (show Hid _ from hX0)
    replace o4 := ownsRow_below o4 bx
    replace b4 := b4.trans (bx.mono b4.size)
    clear HX4 hX0 bx
    go_wp2_with fail
    go_at_call 27
    rw [← hwx]
    refine (itokenOk_any (sv_of_own o4) k nm tx sf HF.out).mono ?_
    rintro e w5 ⟨rfl, b5⟩
    have HX5 := (show Hid (w5.heap[w.heap.size]? = some (.cells #[.int .i64 k, .string nm, .slice a rs.length ca, .string tx, .bool sf] 45)) from (b5.block w.heap.size (lt_of_block HXx.out)).trans HXx.out)
    have HZ5 := (show Hid (w5.heap[w4.heap.size]? = some (.cells #[.int .i64 k, .string nm, .slice a4 rs.length c4, .string tx, .bool sf] 49)) from (b5.block w4.heap.size (lt_of_block HX0.out)).trans HX0.out)
    replace o4 := ownsRow_below o4 b5
    replace b5 := b4.trans (b5.mono b4.size)
    clear HXx HX0 b4 hwx
    have hx := HX5.out
    have y0 : w5.cell? ⟨w.heap.size, 0, none⟩ = some (.int .i64 k) := by simp only [World.cell?, hx]; rfl
    have y1 : w5.cell? ⟨w.heap.size, 1, none⟩ = some (.string nm) := by simp only [World.cell?, hx]; rfl
    have y2 : w5.cell? ⟨w.heap.size, 2, none⟩ = some (.slice a rs.length ca) := by simp only [World.cell?, hx]; rfl
    have y3 : w5.cell? ⟨w.heap.size, 3, none⟩ = some (.string tx) := by simp only [World.cell?, hx]; rfl
    have y4 : w5.cell? ⟨w.heap.size, 4, none⟩ = some (.bool sf) := by simp only [World.cell?, hx]; rfl
    clear hx
    have hx := HZ5.out
    have z0 : w5.cell? ⟨w4.heap.size, 0, none⟩ = some (.int .i64 k) := by simp only [World.cell?, hx]; rfl
    have z1 : w5.cell? ⟨w4.heap.size, 1, none⟩ = some (.string nm) := by simp only [World.cell?, hx]; rfl
    have z2 : w5.cell? ⟨w4.heap.size, 2, none⟩ = some (.slice a4 rs.length c4) := by simp only [World.cell?, hx]; rfl
    have z3 : w5.cell? ⟨w4.heap.size, 3, none⟩ = some (.string tx) := by simp only [World.cell?, hx]; rfl
    have z4 : w5.cell? ⟨w4.heap.size, 4, none⟩ = some (.bool sf) := by simp only [World.cell?, hx]; rfl
    clear hx
    obtain ⟨q, hq⟩ : ∃ q, q = tokenOk k nm rs tx sf := ⟨_, rfl⟩
    rw [← hq]
    clear hq
    cases q
    all_goals
      go_wp2
      go_region_held (fun w' => w'.cell? ⟨w.heap.size, 0, none⟩ = some (.int .i64 k) ∧ w'.cell? ⟨w.heap.size, 1, none⟩ = some (.string nm) ∧ w'.cell? ⟨w.heap.size, 2, none⟩ = some (.slice a rs.length ca) ∧ w'.cell? ⟨w.heap.size, 3, none⟩ = some (.string tx) ∧ w'.cell? ⟨w.heap.size, 4, none⟩ = some (.bool sf) ∧ w'.cell? ⟨w4.heap.size, 0, none⟩ = some (.int .i64 k) ∧ w'.cell? ⟨w4.heap.size, 1, none⟩ = some (.string nm) ∧ w'.cell? ⟨w4.heap.size, 2, none⟩ = some (.slice a4 rs.length c4) ∧ w'.cell? ⟨w4.heap.size, 3, none⟩ = some (.string tx) ∧ w'.cell? ⟨w4.heap.size, 4, none⟩ = some (.bool sf) ∧ Below w.heap.size w w') (first | exact ⟨y0, y1, y2, y3, y4, z0, z1, z2, z3, z4, b5.trans (below_drewN 1)⟩ | exact ten_keep (by assumption) b6 | exact ten_keep (by assumption) b7)
        (first
          | (go_at_call 26; refine (toToken_any (H.out.below (b5.trans (below_drewN 1))) k nm tx sf hlen).mono ?_; rintro e w6 ⟨v6, rfl, o6, b6⟩; unfold tokVal)
          | (go_at_call 28; refine (eqToken_same (sv_of_own (ownsRow_below (ownsRow_below o4 (below_drewN 1)) b6)) (sv_of_own o6) k nm tx sf hlen).mono ?_; rintro e w7 ⟨rfl, b7⟩))
      rename_i hbox7
      have bel := hbox7.2.2.2.2.2.2.2.2.2.2
      clear hbox7
      go_wp2
      go_ret
      exact ⟨rfl, bel⟩
end Go.Proofs.Ytlggfbelandpjaa
