/- The draw of a list of attributes and of one more. -/
import Derived.Test.YtlggfbelandpjaaDrawA
import Derived.Test.YtlggfbelandpjaaHelpT
import Derived.Deep.RegionHeld
namespace Go.Proofs.Ytlggfbelandpjaa
open Go.RowKit
set_option linter.unusedVariables false

theorem far2 {w : World} {c b j k k' : Nat} {x u u' : Value} (hne : c ≠ b) (h : w.cell? ⟨c, j, none⟩ = some x) : ((w.setCell ⟨b, k, none⟩ u).setCell ⟨b, k', none⟩ u').drew.cell? ⟨c, j, none⟩ = some x := by
  have e : ((w.setCell ⟨b, k, none⟩ u).setCell ⟨b, k', none⟩ u').heap[c]? = w.heap[c]? := (Below.heap_setCell _ ⟨b, k', none⟩ u' c hne).trans (Below.heap_setCell w ⟨b, k, none⟩ u c hne)
  exact (World.cell?_of_block (a := ⟨c, j, none⟩) e).trans h

theorem tmp_cell_res {f : Func} {p q : Tmp} (hf : f.results = #[.tmp p, .cell q 26]) {tmps : Array Value} {w : World} {g : Nat} {x y : ByteArray} (h4 : tmps.getD q undef = .pointer (some ⟨g, 0, none⟩)) (hb : w.heap[g]? = some (.cells #[.string x, .string y] 26 (0, 0))) :
    (results f tmps).run Try.prog w = .ok (.tuple #[tmps.getD p undef, .agg #[.string x, .string y]]) w := by
  have h4' : tmps[q]?.getD undef = .pointer (some ⟨g, 0, none⟩) := by simpa using h4
  simp [results, hf, h4', asAddr, run_loadVar_row w g 26 26 #[.string x, .string y] (0, 0) _ hb Try.underlying26 rfl rfl]

set_option maxHeartbeats 1000000 in
set_option maxRecDepth 100000 in
theorem drawAttrAdd_any {v : Value} {xs : List Int} {w : World} (h : Sl .u8 w v xs) (hb : ∀ x ∈ xs, 0 ≤ x ∧ x ≤ 255) (hn : xs.length ≤ 1099511627776) :
    Calls Try.prog 9 #[v] w fun e w' => ∃ (v' : Value) (rs : List (ByteArray × ByteArray)) (p : ByteArray × ByteArray), e = .returned (.tuple #[v', .agg #[.string p.1, .string p.2]]) ∧ w'.ownsRow w.heap.size 26 2 v' rs.length (pairCells rs) ∧ rs.length ≤ 40 ∧ (∀ p ∈ rs, p.1.size ≤ 3001 ∧ p.2.size ≤ 3001) ∧ p.1.size ≤ 3001 ∧ p.2.size ≤ 3001 ∧ Below w.heap.size w w' := by
  have HB : Hid (∀ x ∈ xs, 0 ≤ x ∧ x ≤ 255) := hb
  obtain ⟨wR, hwR⟩ : ∃ wR, wR = w.alloc (.cells #[.string ⟨#[]⟩, .string ⟨#[]⟩] 26) := ⟨_, rfl⟩
  have bR : Below w.heap.size w wR := by rw [hwR]; exact (Below.refl _ _).alloc (Nat.le_refl _) _
  have hsR : wR.heap.size = w.heap.size + 1 := by rw [hwR]; simp
  have hR : wR.heap[w.heap.size]? = some (.cells #[.string ⟨#[]⟩, .string ⟨#[]⟩] 26) := by rw [hwR]; exact heap_alloc_new _ _
  have hc := new_any (h.below bR) hb hn
  clear hb
  go_enter Try.func9, Try.ntmps9
  go_wp2_with fail
  go_at_call 29
  rw [← hwR]
  refine hc.mono ?_
  rintro e w1 ⟨rfl, k1, b1⟩
  obtain ⟨g, hg⟩ : ∃ g, g = wR.heap.size := ⟨_, rfl⟩
  rw [← hg] at k1 ⊢
  have hgw := k1.lt
  have HG := (show Hid (g = w.heap.size + 1) from hg.trans hsR)
  have HR := (show Hid (w1.heap[w.heap.size]? = some (.cells #[.string ⟨#[]⟩, .string ⟨#[]⟩] 26)) from (b1.block w.heap.size (by omega)).trans hR)
  replace b1 := bR.trans (b1.mono (by omega))
  clear hc hwR hg hsR hR bR h
  go_wp2_with fail
  go_at_call 30
  refine (drawAttrs_any k1 HB.out).mono ?_
  rintro e w2 ⟨v2, rs, rfl, o2, hl2, hz2, k2, g2⟩
  have HZ := (show Hid _ from hz2)
  obtain ⟨a2, c2, rfl, _, _, _⟩ := (sv_of_own o2).pair
  clear hz2 k1
  go_wp2_with fail
  go_at_call 31
  refine (pickS_any k2 HB.out [⟨#[105, 100]⟩, ⟨#[122]⟩, ⟨#[]⟩, ⟨#[255]⟩, ⟨#[113]⟩] (by simp) (by simp) _ rfl 5 rfl).mono ?_
  rintro e w3 ⟨t, rfl, ht, k3, g3⟩
  have hts : t.size ≤ 5 := by
    have : ∀ t ∈ ([⟨#[105, 100]⟩, ⟨#[122]⟩, ⟨#[]⟩, ⟨#[255]⟩, ⟨#[113]⟩] : List ByteArray), t.size ≤ 5 := by decide
    exact this t ht
  replace o2 := row_past o2 g3 hgw
  replace g3 := grown_trans g2 g3
  clear ht k2 g2
  go_wp2_with fail
  go_at_call 32
  refine (drawText_any k3 HB.out).mono ?_
  rintro e w4 ⟨t4, rfl, ht4, k4, g4⟩
  replace o2 := row_past o2 g4 hgw
  have L4 := (show Hid (∀ k, (Value.slice a2 rs.length c2).ownBlock = some k → k ≠ w4.heap.size) from fun k hk => by have := (World.ownsRow.lt o2 k hk).2; omega)
  replace g4 := grown_trans g3 g4
  clear k3 g3
  have ba := (Below.refl _ w4).alloc (Nat.le_refl _) (.cells #[.string t, .string t4] 26)
  have g4s := g4.size
  have kA := k4.below ba
  have GA := grown_below g4 ba
  have hA0 : (w4.alloc (.cells #[.string t, .string t4] 26)).heap[w4.heap.size]? = some (.cells #[.string t, .string t4] 26) := heap_alloc_new _ _
  replace o2 := ownsRow_below o2 ba
  clear k4 g4 ba
  go_wp2_with fail
  go_at_call 33
  refine (once_any _ (by omega) kA HB.out).mono ?_
  rintro e w5 ⟨b, rfl, k5, g5⟩
  have hA5 : w5.heap[w4.heap.size]? = some (.cells #[.string t, .string t4] 26) := (g5.block w4.heap.size (by simp) (fun e => by injection e with e; omega)).trans hA0
  replace o2 := row_past o2 g5 hgw
  replace g5 := grown_trans GA g5
  have b5 := b1.grown g5 b1.size (fun k hk => by cases hk; have := HG.out; omega)
  have hwlt := lt_of_block HR.out
  have hR5 : w5.heap[w.heap.size]? = some (.cells #[.string ⟨#[]⟩, .string ⟨#[]⟩] 26) := (g5.block w.heap.size hwlt (fun e => by injection e with e; have := HG.out; omega)).trans HR.out
  clear hA0 kA GA HR b1
  cases b
  · have l2 : ∀ k, (Value.slice a2 rs.length c2).ownBlock = some k → k ≠ w.heap.size := fun k hk => by have := (World.ownsRow.lt o2 k hk).1; omega
    have x0 : w5.cell? ⟨w4.heap.size, 0, none⟩ = some (.string t) := by simp only [World.cell?, hA5]; rfl
    have fx0 : w5.frozen? ⟨w4.heap.size, 0, none⟩ = false := by simp only [World.frozen?, hA5]; rfl
    have x1 : w5.cell? ⟨w4.heap.size, 1, none⟩ = some (.string t4) := by simp only [World.cell?, hA5]; rfl
    have fx1 : w5.frozen? ⟨w4.heap.size, 1, none⟩ = false := by simp only [World.frozen?, hA5]; rfl
    have z0 : w5.cell? ⟨w.heap.size, 0, none⟩ = some (.string ⟨#[]⟩) := by simp only [World.cell?, hR5]; rfl
    have fz0 : w5.frozen? ⟨w.heap.size, 0, none⟩ = false := by simp only [World.frozen?, hR5]; rfl
    have z1 : w5.cell? ⟨w.heap.size, 1, none⟩ = some (.string ⟨#[]⟩) := by simp only [World.cell?, hR5]; rfl
    have fz1 : w5.frozen? ⟨w.heap.size, 1, none⟩ = false := by simp only [World.frozen?, hR5]; rfl
    have hres := (show Hid _ from setCell_at (k := 1) (u := .string t4) (setCell_at (k := 0) (u := .string t) hR5))
    have OW := (show Hid _ from row_set (row_set o2 (b := w.heap.size) (k := 0) (u := .string t) l2) (b := w.heap.size) (k := 1) (u := .string t4) l2)
    have hne : w4.heap.size ≠ w.heap.size := by omega
    clear hA5 hR5
    go_wp2
    go_region_held (fun w' => w'.cell? ⟨w4.heap.size, 0, none⟩ = some (.string t) ∧ w'.cell? ⟨w4.heap.size, 1, none⟩ = some (.string t4)) (first | exact ⟨x0, x1⟩ | exact ⟨far2 hne x0, far2 hne x1⟩) (fail)
    go_wp2
    (try simp only [Exit.inBlock, Exit.then])
    refine bodyPost_ret (tmp_cell_res (f := Try.f9) (p := 2) (q := 3) rfl (x := t) (y := t4) rfl hres.out) rfl ?_
    exact ⟨_, rs, (t, t4), rfl, row_base OW.out (by omega), hl2, HZ.out, by simp only; omega, by simp only; omega, ((b5.setCell (p := ⟨w.heap.size, 0, none⟩) (Nat.le_refl _) (.string t)).setCell (p := ⟨w.heap.size, 1, none⟩) (Nat.le_refl _) (.string t4)).trans (below_drewN 1)⟩
  · go_wp2_with fail
    go_at_call 34
    refine (below_any _ (by omega) k5 HB.out).mono ?_
    rintro e w6 ⟨d, rfl, d0, d1, d2, k6, g6⟩
    replace d1 := d1 (by omega)
    have hA6 : w6.heap[w4.heap.size]? = some (.cells #[.string t, .string t4] 26) := (g6.block w4.heap.size (lt_of_block hA5) (fun e => by injection e with e; omega)).trans hA5
    have hR6 : w6.heap[w.heap.size]? = some (.cells #[.string ⟨#[]⟩, .string ⟨#[]⟩] 26) := (g6.block w.heap.size (lt_of_block hR5) (fun e => by injection e with e; have := HG.out; omega)).trans hR5
    replace o2 := row_past o2 g6 hgw
    have b6 := b5.grown g6 b5.size (fun k hk => by cases hk; have := HG.out; omega)
    clear d2 k5 g5 g6 b5 hA5 hR5
    obtain ⟨N, hN⟩ : ∃ N : Nat, (3000 : Int) + d = N := ⟨(3000 + d).toNat, by omega⟩
    have hNb : N ≤ 3001 := by omega
    obtain ⟨ib, hib, hb0, hb1, hb2⟩ := info_parts Try.infoB
    have HA6 := (show Hid _ from hA6)
    have HR6 := (show Hid _ from hR6)
    have lA6 := lt_of_block hA6
    have lR6 := lt_of_block hR6
    clear hA6 hR6
    go_wp2_with (at_make; refine wpList_mkn _ rfl _ _ 22 rfl 5 ib .u8 Try.underlying22 hib hb0 hb1 _ _ N rfl rfl rfl rfl (by rw [hb2]; omega) (by unfold maxLen; omega) ?_; intro wm om bm; have hcv := conv_sl om.sl; have hAm := (bm.block w4.heap.size lA6).trans HA6.out; have hRm := (bm.block w.heap.size lR6).trans HR6.out; have x1 : wm.cell? ⟨w4.heap.size, 1, none⟩ = some (.string t4) := (by simp only [World.cell?, hAm]; rfl); have fx1 : wm.frozen? ⟨w4.heap.size, 1, none⟩ = false := (by simp only [World.frozen?, hAm]; rfl))
    obtain ⟨z, hz⟩ : ∃ z, z = strOf (List.replicate N 0) := ⟨_, rfl⟩
    have hzs : z.size ≤ 3001 := by rw [hz, strOf_size, List.length_replicate]; exact hNb
    rw [← hz]
    obtain ⟨W, hW⟩ : ∃ W, W = wm.setCell ⟨w4.heap.size, 1, none⟩ (.string z) := ⟨_, rfl⟩
    have bm6 := b6.trans (bm.mono b6.size)
    have bW : Below w.heap.size w W := by rw [hW]; exact bm6.setCell (show w.heap.size ≤ w4.heap.size by omega) _
    have hAW : W.heap[w4.heap.size]? = some (.cells #[.string t, .string z] 26 (0, 0)) := by rw [hW]; exact setCell_at hAm
    have hRW : W.heap[w.heap.size]? = some (.cells #[.string ⟨#[]⟩, .string ⟨#[]⟩] 26 (0, 0)) := by rw [hW]; exact (Below.heap_setCell wm _ _ _ (show w.heap.size ≠ w4.heap.size by omega)).trans hRm
    have l4 : ∀ k, (Value.slice a2 rs.length c2).ownBlock = some k → k ≠ w4.heap.size := L4.out
    have l2 : ∀ k, (Value.slice a2 rs.length c2).ownBlock = some k → k ≠ w.heap.size := fun k hk => by have := (World.ownsRow.lt o2 k hk).1; omega
    have oW : W.ownsRow w1.heap.size 26 2 (.slice a2 rs.length c2) rs.length (pairCells rs) := by rw [hW]; exact row_set (ownsRow_below o2 bm) l4
    rw [← hW]
    clear x1 fx1 hAm hRm hcv om bm hW hz HA6 HR6
    have x0 : W.cell? ⟨w4.heap.size, 0, none⟩ = some (.string t) := by simp only [World.cell?, hAW]; rfl
    have fx0 : W.frozen? ⟨w4.heap.size, 0, none⟩ = false := by simp only [World.frozen?, hAW]; rfl
    have x1 : W.cell? ⟨w4.heap.size, 1, none⟩ = some (.string z) := by simp only [World.cell?, hAW]; rfl
    have fx1 : W.frozen? ⟨w4.heap.size, 1, none⟩ = false := by simp only [World.frozen?, hAW]; rfl
    have z0 : W.cell? ⟨w.heap.size, 0, none⟩ = some (.string ⟨#[]⟩) := by simp only [World.cell?, hRW]; rfl
    have fz0 : W.frozen? ⟨w.heap.size, 0, none⟩ = false := by simp only [World.frozen?, hRW]; rfl
    have z1 : W.cell? ⟨w.heap.size, 1, none⟩ = some (.string ⟨#[]⟩) := by simp only [World.cell?, hRW]; rfl
    have fz1 : W.frozen? ⟨w.heap.size, 1, none⟩ = false := by simp only [World.frozen?, hRW]; rfl
    have hres := (show Hid _ from setCell_at (k := 1) (u := .string z) (setCell_at (k := 0) (u := .string t) hRW))
    have OW := (show Hid _ from row_set (row_set oW (b := w.heap.size) (k := 0) (u := .string t) l2) (b := w.heap.size) (k := 1) (u := .string z) l2)
    have hne : w4.heap.size ≠ w.heap.size := by omega
    clear hAW hRW
    go_region_held (fun w' => w'.cell? ⟨w4.heap.size, 0, none⟩ = some (.string t) ∧ w'.cell? ⟨w4.heap.size, 1, none⟩ = some (.string z)) (first | exact ⟨x0, x1⟩ | exact ⟨far2 hne x0, far2 hne x1⟩) (fail)
    go_wp2
    (try simp only [Exit.inBlock, Exit.then])
    refine bodyPost_ret (tmp_cell_res (f := Try.f9) (p := 2) (q := 3) rfl (x := t) (y := z) rfl hres.out) rfl ?_
    exact ⟨_, rs, (t, z), rfl, row_base OW.out (by omega), hl2, HZ.out, by simp only; omega, hzs, ((bW.setCell (p := ⟨w.heap.size, 0, none⟩) (Nat.le_refl _) (.string t)).setCell (p := ⟨w.heap.size, 1, none⟩) (Nat.le_refl _) (.string z)).trans (below_drewN 1)⟩
end Go.Proofs.Ytlggfbelandpjaa
