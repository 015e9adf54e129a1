/- The exact law of TokenOk, walked. -/
import Derived.Test.YtaanfeahojfadaaGreatDoorHelpT
import Derived.Test.YtaanfeahojfadaaGreatDoorSTok
import Derived.Test.YtaanfeahojfadaaGreatDoorITok2
import Derived.Deep.RegionHeld
import Derived.Test.YtaanfeahojfadaaGreatDoorOpenT
namespace Go.Proofs.YtaanfeahojfadaaGreatDoor
open Go.RowKit
set_option maxRecDepth 100000
set_option linter.unusedVariables false

set_option maxHeartbeats 4000000 in
set_option maxRecDepth 100000 in
theorem eqToken_same {va vb : Value} {rs : List (ByteArray × ByteArray)} {w : World} (ha : Sv 2 w va (pairCells rs)) (hb : Sv 2 w vb (pairCells rs)) (k : Int) (nm tx : ByteArray) (sf : Bool) (hn : rs.length ≤ 1048576) :
    Calls Tryz.prog 35 #[tokVal k nm va tx sf, tokVal k nm vb tx sf] w fun e w' => e = .returned (.bool true) ∧ Below w.heap.size w w' := by
  unfold tokVal
  have b1 : Below w.heap.size w ((w.alloc (.cells #[.int .i64 k, .string nm, va, .string tx, .bool sf] 30)).alloc (.cells #[.int .i64 k, .string nm, vb, .string tx, .bool sf] 30)) := ((Below.refl _ _).alloc (Nat.le_refl _) _).alloc (by simp) _
  have c1 := eqAttrS_any (ha.below b1) (hb.below b1) (by omega) (by omega)
  have hx0 : ((w.alloc (.cells #[.int .i64 k, .string nm, va, .string tx, .bool sf] 30)).alloc (.cells #[.int .i64 k, .string nm, vb, .string tx, .bool sf] 30)).heap[w.heap.size + 1]? = some (.cells #[.int .i64 k, .string nm, vb, .string tx, .bool sf] 30 (0, 0)) := heap_alloc2_new _ _ _
  have hy0 : ((w.alloc (.cells #[.int .i64 k, .string nm, va, .string tx, .bool sf] 30)).alloc (.cells #[.int .i64 k, .string nm, vb, .string tx, .bool sf] 30)).heap[w.heap.size]? = some (.cells #[.int .i64 k, .string nm, va, .string tx, .bool sf] 30 (0, 0)) := (heap_alloc_old _ _ (by simp)).trans (heap_alloc_new _ _)
  have HX := (show Hid _ from hx0)
  have HY := (show Hid _ from hy0)
  clear hx0 hy0
  go_enter Tryz.func35, Tryz.ntmps35
  go_wp2_with fail
  go_at_call 63
  refine c1.mono ?_
  rintro e w2 ⟨rfl, b2⟩
  have hx := (b2.block (w.heap.size + 1) (by simp)).trans HX.out
  have hy := (b2.block w.heap.size (by first | (simp; done) | (simp; omega))).trans HY.out
  have x3 : w2.cell? ⟨w.heap.size + 1, 3, none⟩ = some (.string tx) := by simp only [World.cell?, hx]; rfl
  have x4 : w2.cell? ⟨w.heap.size + 1, 4, none⟩ = some (.bool sf) := by simp only [World.cell?, hx]; rfl
  have y3 : w2.cell? ⟨w.heap.size, 3, none⟩ = some (.string tx) := by simp only [World.cell?, hy]; rfl
  have y4 : w2.cell? ⟨w.heap.size, 4, none⟩ = some (.bool sf) := by simp only [World.cell?, hy]; rfl
  replace b2 := b1.trans (b2.mono b1.size)
  clear hx hy HX HY c1
  go_wp2
  go_ret
  exact ⟨rfl, b2⟩

theorem cell_keep {w w' : World} {p : Addr} {x : Value} (h : w.cell? p = some x) (hb : Below w.heap.size w w') : w'.cell? p = some x := by
  have hl : p.block < w.heap.size := by
    by_cases hl : p.block < w.heap.size
    · exact hl
    · exfalso
      obtain ⟨b, o, t⟩ := p
      simp only at hl
      simp [World.cell?, Array.getElem?_eq_none (Nat.le_of_not_lt hl)] at h
  exact (hb.cell hl).trans h
theorem ten_keep {w w1 w2 : World} {g h : Nat} {x0 x1 x2 x3 x4 y0 y1 y2 y3 y4 : Value} (H : w1.cell? ⟨g, 0, none⟩ = some x0 ∧ w1.cell? ⟨g, 1, none⟩ = some x1 ∧ w1.cell? ⟨g, 2, none⟩ = some x2 ∧ w1.cell? ⟨g, 3, none⟩ = some x3 ∧ w1.cell? ⟨g, 4, none⟩ = some x4 ∧ w1.cell? ⟨h, 0, none⟩ = some y0 ∧ w1.cell? ⟨h, 1, none⟩ = some y1 ∧ w1.cell? ⟨h, 2, none⟩ = some y2 ∧ w1.cell? ⟨h, 3, none⟩ = some y3 ∧ w1.cell? ⟨h, 4, none⟩ = some y4 ∧ Below w.heap.size w w1) (hb : Below w1.heap.size w1 w2) : w2.cell? ⟨g, 0, none⟩ = some x0 ∧ w2.cell? ⟨g, 1, none⟩ = some x1 ∧ w2.cell? ⟨g, 2, none⟩ = some x2 ∧ w2.cell? ⟨g, 3, none⟩ = some x3 ∧ w2.cell? ⟨g, 4, none⟩ = some x4 ∧ w2.cell? ⟨h, 0, none⟩ = some y0 ∧ w2.cell? ⟨h, 1, none⟩ = some y1 ∧ w2.cell? ⟨h, 2, none⟩ = some y2 ∧ w2.cell? ⟨h, 3, none⟩ = some y3 ∧ w2.cell? ⟨h, 4, none⟩ = some y4 ∧ Below w.heap.size w w2 := by
  obtain ⟨a0, a1, a2, a3, a4, c0, c1, c2, c3, c4, b⟩ := H
  exact ⟨cell_keep a0 hb, cell_keep a1 hb, cell_keep a2 hb, cell_keep a3 hb, cell_keep a4 hb, cell_keep c0 hb, cell_keep c1 hb, cell_keep c2 hb, cell_keep c3 hb, cell_keep c4 hb, b.trans (hb.mono b.size)⟩

end Go.Proofs.YtaanfeahojfadaaGreatDoor
