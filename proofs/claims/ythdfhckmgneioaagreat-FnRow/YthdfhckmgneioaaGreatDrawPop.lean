/- The draw DrawPopTo (written by mk/drawpop.py). No condition. -/
import Derived.Test.YthdfhckmgneioaaGreatDrawBoth
namespace Go.Proofs.YthdfhckmgneioaaGreat
open Go.RowKit
set_option maxRecDepth 100000
set_option linter.unusedVariables false

set_option maxHeartbeats 1000000 in
set_option maxRecDepth 100000 in
theorem drawPopTo_any {v : Value} {xs : List Int} {w : World} (h : Sl .u8 w v xs) (hb : ∀ x ∈ xs, 0 ≤ x ∧ x ≤ 255) (hn : xs.length ≤ 1099511627776) :
    Calls Tryz.prog 6 #[v] w fun e w' => ∃ nv rv ns row nm, e = .returned (.tuple #[.agg #[nv], rv, .string nm]) ∧ Both w w' nv rv ns row nm := by
  have HB := (show Hid (∀ x ∈ xs, 0 ≤ x ∧ x ≤ 255) from hb)
  have HS := (show Hid (Sl .u8 w v xs) from h)
  obtain ⟨a, ca, rfl, _, _, _, ha⟩ := h
  clear hb ha
  obtain ⟨wA, hwA⟩ : ∃ wA, wA = w.alloc (.cells #[.slice none 0 0] 26) := ⟨_, rfl⟩
  have bA : Below w.heap.size w wA := by rw [hwA]; exact (Below.refl _ _).alloc (Nat.le_refl _) _
  have gA : wA.heap[w.heap.size]? = some (.cells #[.slice none 0 0] 26 (0, 0)) := by rw [hwA]; exact World.alloc_heap_new _ _
  have HGA := (show Hid _ from gA)
  clear gA
  go_enter Tryz.func6, Tryz.ntmps6
  go_wp2_with fail
  go_at_call 18
  rw [← hwA]
  clear hwA
  refine Calls.mono (drawBoth_any (HS.out.below bA) HB.out hn) ?_
  rintro e w2 ⟨nv, rv, ns, row, nm, rfl, B2⟩
  obtain ⟨na, nn, nc, rfl⟩ : ∃ a n c, nv = .slice a n c := by obtain ⟨_, _, h, _⟩ := B2.own; exact own_slice h
  obtain ⟨ra, rn, rc, rfl⟩ := own_slice B2.rw
  have H2 := (show Hid (Both wA w2 (.slice na nn nc) (.slice ra rn rc) ns row nm) from B2)
  clear B2
  obtain ⟨w3, hw3⟩ : ∃ w3, w3 = w2.alloc (.cells #[.slice na nn nc] 26) := ⟨_, rfl⟩
  have b3 : Below w2.heap.size w2 w3 := by rw [hw3]; exact (Below.refl _ _).alloc (Nat.le_refl _) _
  have g3 : w3.heap[w2.heap.size]? = some (.cells #[.slice na nn nc] 26 (0, 0)) := by rw [hw3]; exact World.alloc_heap_new _ _
  have hN3 : w3.heap[w.heap.size]? = some (.cells #[.slice none 0 0] 26 (0, 0)) := (b3.block _ (Nat.lt_of_lt_of_le (blk_lt HGA.out) H2.out.bel.size)).trans ((H2.out.bel.block _ (blk_lt HGA.out)).trans HGA.out)
  have y3 : w3.cell? ⟨w2.heap.size, 0, none⟩ = some (.slice na nn nc) := by simp only [World.cell?, g3]; rfl
  have y1 : w3.cell? ⟨w.heap.size, 0, none⟩ = some (.slice none 0 0) := by simp only [World.cell?, hN3]; rfl
  have z1 : w3.frozen? ⟨w.heap.size, 0, none⟩ = false := by simp [World.frozen?, hN3]
  have HN3 := (show Hid _ from hN3)
  have HB3 := (show Hid _ from b3)
  have BA := (show Hid (Below w.heap.size w wA) from bA)
  clear g3 hN3 b3 HGA HS bA
  go_upto_region 2 with fail
  rw [← hw3]
  clear hw3
  go_wp2
  have gs := setCell_at (k := 0) (u := .slice na nn nc) HN3.out
  have gr := grown_setCell w3 w.heap.size 0 (.slice na nn nc)
  have hbb := BA.out.trans ((H2.out.bel.trans (HB3.out.mono H2.out.bel.size)).mono BA.out.size)
  refine bodyPost_ret (three_res (f := Tryz.f6) (p := 2) (q := 3) (u := 4) rfl rfl gs) rfl ?_
  exact ⟨_, _, ns, row, nm, rfl, ⟨(((H2.out.own.below HB3.out).kept gr (fun k e => by cases e; exact ⟨_, _, _, HN3.out, by decide, by decide, by decide⟩))).base BA.out.size,
    (show Own _ 3 .i64 _ _ row from kept_of_type (H2.out.rw.below HB3.out) gr (fun k e => by cases e; exact ⟨_, _, _, HN3.out, by decide⟩)).base BA.out.size, H2.out.fit, H2.out.len, H2.out.rl, H2.out.par0, H2.out.nm, hbb.setCell (p := ⟨w.heap.size, 0, none⟩) (Nat.le_refl _) _⟩⟩
end Go.Proofs.YthdfhckmgneioaaGreat
