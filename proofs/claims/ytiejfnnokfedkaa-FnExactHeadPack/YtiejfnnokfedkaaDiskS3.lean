/- The specification's copy of a disk (written by mk/disks3.py). No condition. -/
import Derived.Test.YtiejfnnokfedkaaDiskS2
import Derived.Test.YtiejfnnokfedkaaAppS
namespace Go.Proofs.Ytiejfnnokfedkaa
open Go.RowKit
set_option maxRecDepth 100000
set_option linter.unusedVariables false

theorem str_oneCell (ss : List ByteArray) : ∀ y ∈ strCells ss, y.oneCell' = true := by
  intro y hy
  simp only [strCells, List.mem_map] at hy
  obtain ⟨s, _, rfl⟩ := hy
  rfl
theorem put_oneCell (ps : List (Int × ByteArray)) : ∀ y ∈ putCells ps, y.oneCell' = true := by
  intro y hy
  simp only [putCells, List.mem_flatMap, List.mem_cons, List.not_mem_nil, or_false] at hy
  obtain ⟨s, _, rfl | rfl⟩ := hy
  · rfl
  · rfl

set_option maxHeartbeats 2000000 in
set_option maxRecDepth 100000 in
theorem sl15Copy_any {w : World} {v : Value} {d : PDisk} (h : DiskAt w v d) (hf : DiskFit d) :
    Calls Try.prog 34 #[v] w fun e w' => ∃ v', e = .returned v' ∧ OwnDk w.heap.size w' v' d ∧ Below w.heap.size w w' := by
  obtain ⟨sa, sn, sc, la, ln, lc, rfl, h1, h2⟩ := h
  have f1 := hf.sl
  have f2 := hf.ll
  obtain ⟨iS, hiS, hs0, hs1, hs2⟩ := info_parts Try.infoStr
  obtain ⟨iP, hiP, hp0, hp1, hp2⟩ := info_parts Try.infoPut
  obtain ⟨W, hW⟩ : ∃ x, x = (w.alloc (.cells #[.slice sa sn sc, .slice la ln lc] 36)).alloc (.cells #[.slice none 0 0, .slice none 0 0] 36) := ⟨_, rfl⟩
  have b1 : Below w.heap.size w W := by rw [hW]; exact ((Below.refl _ _).alloc (Nat.le_refl _) _).alloc (by simp) _
  have hS : W.heap.size = w.heap.size + 1 + 1 := by rw [hW, World.size_alloc, World.size_alloc]
  have x1 : W.heap[w.heap.size]? = some (.cells #[.slice sa sn sc, .slice la ln lc] 36 (0, 0)) := by rw [hW, Below.heap_alloc _ _ _ (by simp)]; exact World.alloc_heap_new _ _
  have x2 : W.heap[w.heap.size + 1]? = some (.cells #[.slice none 0 0, .slice none 0 0] 36 (0, 0)) := by
    rw [hW]
    have := World.alloc_heap_new (w.alloc (.cells #[.slice sa sn sc, .slice la ln lc] 36)) (.cells #[.slice none 0 0, .slice none 0 0] 36)
    rwa [World.size_alloc] at this
  have H1 := (show Hid (Sv 1 W (.slice sa sn sc) (strCells d.safe)) from h1.below b1)
  have H2 := (show Hid (Sv 2 W (.slice la ln lc) (putCells d.late)) from h2.below b1)
  have HL := (show Hid (w.heap.size < W.heap.size ∧ w.heap.size + 1 < W.heap.size) from ⟨by omega, by omega⟩)
  have HX := (show Hid (W.heap[w.heap.size + 1]? = some (.cells #[.slice none 0 0, .slice none 0 0] 36 (0, 0))) from x2)
  obtain ⟨q1, q2, _, _⟩ := rk_two x1
  have HC := (show Hid (W.cell? ⟨w.heap.size, 0, none⟩ = some (.slice sa sn sc) ∧ W.cell? ⟨w.heap.size, 1, none⟩ = some (.slice la ln lc)) from ⟨q1, q2⟩)
  have HS := (show Hid (W.heap.size = w.heap.size + 1 + 1) from hS)
  have HB := (show Hid (Below w.heap.size w W) from b1)
  have hlt1 : w.heap.size < W.heap.size := by omega
  have hlt2 : w.heap.size + 1 < W.heap.size := by omega
  clear h1 h2 hf x1 x2 b1 hS
  go_enter Try.func34, Try.ntmps34
  go_wp2_with fail
  rw [← hW]
  clear hW
  go_region_law (first
      | (with_reducible refine step_appS (w := (W.alloc (Obj.cells #[] 9)).drew) ?_ (.tmp 3) (.tmp 5) 29 ?_ W.heap.size 9 iS _ 1 16 ?_ hiS hs0 hs1 hs2 ?_ ?_ (.slice (some ⟨W.heap.size, 0, none⟩) 0 0) 0 [] ?_ ?_ (.slice sa sn sc) d.safe.length (strCells d.safe) ?_ ?_ ?_ ?_ ?_ ?_ ?_ ?_
         · rfl
         · rfl
         · exact Try.underlying29
         · rfl
         · decide
         · simp [Act.eval]
         · exact ownsRow_below (empty_row W W.heap.size 9 1 (Nat.le_refl _)) (below_drewN 1)
         · simp [Act.eval]
         · exact (H1.out.below (((Below.refl W.heap.size W).alloc (Nat.le_refl _) _).trans (below_drewN 1)))
         · exact (by rw [strCells_len, Nat.mul_one])
         · exact (str_oneCell _)
         · (unfold maxLen; omega)
         · omega
         · exact (((Below.refl W.heap.size W).alloc (Nat.le_refl _) _).trans (below_drewN 1)).size
         intro v6 w6 o6 g6
         rw [List.nil_append, Nat.zero_add] at o6
         obtain ⟨a6, n6, c6, rfl⟩ := rk_slice o6
         have b6 : Below W.heap.size W w6 := (((Below.refl W.heap.size W).alloc (Nat.le_refl _) _).trans (below_drewN 1)).grown g6 (((Below.refl W.heap.size W).alloc (Nat.le_refl _) _).trans (below_drewN 1)).size (fun r e => by simp only [Value.ownBlock, Option.some.injEq] at e; omega)

         have y1 : w6.cell? ⟨w.heap.size, 1, none⟩ = some (.slice la ln lc) := (b6.cell (p := ⟨w.heap.size, 1, none⟩) HL.out.1).trans HC.out.2
         have hsz6 := b6.size
         have hlt6 : w.heap.size < w6.heap.size := Nat.lt_of_lt_of_le hlt1 hsz6
         have HO6 := (show Hid (w6.ownsRow W.heap.size 9 1 (.slice a6 n6 c6) d.safe.length (strCells d.safe)) from o6)
         have HB6 := (show Hid (Below W.heap.size W w6) from b6)
         clear o6 b6 g6)
      | (with_reducible refine step_appS (w := ((W.alloc (Obj.cells #[] 9)).alloc (Obj.cells #[] 80)).drew) ?_ (.tmp 3) (.tmp 5) 29 ?_ W.heap.size 9 iS _ 1 16 ?_ hiS hs0 hs1 hs2 ?_ ?_ (.slice (some ⟨W.heap.size, 0, none⟩) 0 0) 0 [] ?_ ?_ (.slice sa sn sc) d.safe.length (strCells d.safe) ?_ ?_ ?_ ?_ ?_ ?_ ?_ ?_
         · rfl
         · rfl
         · exact Try.underlying29
         · rfl
         · decide
         · simp [Act.eval]
         · exact ownsRow_below (ownsRow_below (empty_row W W.heap.size 9 1 (Nat.le_refl _)) ((Below.refl _ _).alloc (Nat.le_refl _) _)) (below_drewN 1)
         · simp [Act.eval]
         · exact (H1.out.below ((((Below.refl W.heap.size W).alloc (Nat.le_refl _) _).alloc (by simp) _).trans (below_drewN 1)))
         · exact (by rw [strCells_len, Nat.mul_one])
         · exact (str_oneCell _)
         · (unfold maxLen; omega)
         · omega
         · exact ((((Below.refl W.heap.size W).alloc (Nat.le_refl _) _).alloc (by simp) _).trans (below_drewN 1)).size
         intro v6 w6 o6 g6
         rw [List.nil_append, Nat.zero_add] at o6
         obtain ⟨a6, n6, c6, rfl⟩ := rk_slice o6
         have b6 : Below W.heap.size W w6 := ((((Below.refl W.heap.size W).alloc (Nat.le_refl _) _).alloc (by simp) _).trans (below_drewN 1)).grown g6 ((((Below.refl W.heap.size W).alloc (Nat.le_refl _) _).alloc (by simp) _).trans (below_drewN 1)).size (fun r e => by simp only [Value.ownBlock, Option.some.injEq] at e; omega)
         have hp6 : w6.ownsRow W.heap.size 80 2 (.slice (some ⟨W.heap.size + 1, 0, none⟩) 0 0) 0 [] := by
           have h := ownsRow_below (empty_row (W.alloc (Obj.cells #[] 9)) W.heap.size 80 2 (by simp)) (below_drewN 1)
           rw [World.size_alloc] at h
           exact World.ownsRow.kept h g6 (.inr (fun e => by simp only [Value.ownBlock, Option.some.injEq] at e; omega))
         have HP6 := (show Hid _ from hp6)
         clear hp6
         have y1 : w6.cell? ⟨w.heap.size, 1, none⟩ = some (.slice la ln lc) := (b6.cell (p := ⟨w.heap.size, 1, none⟩) HL.out.1).trans HC.out.2
         have hsz6 := b6.size
         have hlt6 : w.heap.size < w6.heap.size := Nat.lt_of_lt_of_le hlt1 hsz6
         have HO6 := (show Hid (w6.ownsRow W.heap.size 9 1 (.slice a6 n6 c6) d.safe.length (strCells d.safe)) from o6)
         have HB6 := (show Hid (Below W.heap.size W w6) from b6)
         clear o6 b6 g6)
      | (with_reducible refine step_appS (w := ((W.alloc (Obj.cells #[] 80)).alloc (Obj.cells #[] 9)).drew) ?_ (.tmp 3) (.tmp 5) 29 ?_ W.heap.size 9 iS _ 1 16 ?_ hiS hs0 hs1 hs2 ?_ ?_ (.slice (some ⟨W.heap.size + 1, 0, none⟩) 0 0) 0 [] ?_ ?_ (.slice sa sn sc) d.safe.length (strCells d.safe) ?_ ?_ ?_ ?_ ?_ ?_ ?_ ?_
         · rfl
         · rfl
         · exact Try.underlying29
         · rfl
         · decide
         · simp [Act.eval]
         · exact (by have h := ownsRow_below (empty_row (W.alloc (Obj.cells #[] 80)) W.heap.size 9 1 (by simp)) (below_drewN 1); rwa [World.size_alloc] at h)
         · simp [Act.eval]
         · exact (H1.out.below ((((Below.refl W.heap.size W).alloc (Nat.le_refl _) _).alloc (by simp) _).trans (below_drewN 1)))
         · exact (by rw [strCells_len, Nat.mul_one])
         · exact (str_oneCell _)
         · (unfold maxLen; omega)
         · omega
         · exact ((((Below.refl W.heap.size W).alloc (Nat.le_refl _) _).alloc (by simp) _).trans (below_drewN 1)).size
         intro v6 w6 o6 g6
         rw [List.nil_append, Nat.zero_add] at o6
         obtain ⟨a6, n6, c6, rfl⟩ := rk_slice o6
         have b6 : Below W.heap.size W w6 := ((((Below.refl W.heap.size W).alloc (Nat.le_refl _) _).alloc (by simp) _).trans (below_drewN 1)).grown g6 ((((Below.refl W.heap.size W).alloc (Nat.le_refl _) _).alloc (by simp) _).trans (below_drewN 1)).size (fun r e => by simp only [Value.ownBlock, Option.some.injEq] at e; omega)
         have hp6 : w6.ownsRow W.heap.size 80 2 (.slice (some ⟨W.heap.size, 0, none⟩) 0 0) 0 [] := by
           have h := ownsRow_below (ownsRow_below (empty_row W W.heap.size 80 2 (Nat.le_refl _)) ((Below.refl _ _).alloc (Nat.le_refl _) (Obj.cells #[] 9))) (below_drewN 1)
           exact World.ownsRow.kept h g6 (.inr (fun e => by simp only [Value.ownBlock, Option.some.injEq] at e; omega))
         have HP6 := (show Hid _ from hp6)
         clear hp6
         have y1 : w6.cell? ⟨w.heap.size, 1, none⟩ = some (.slice la ln lc) := (b6.cell (p := ⟨w.heap.size, 1, none⟩) HL.out.1).trans HC.out.2
         have hsz6 := b6.size
         have hlt6 : w.heap.size < w6.heap.size := Nat.lt_of_lt_of_le hlt1 hsz6
         have HO6 := (show Hid (w6.ownsRow W.heap.size 9 1 (.slice a6 n6 c6) d.safe.length (strCells d.safe)) from o6)
         have HB6 := (show Hid (Below W.heap.size W w6) from b6)
         clear o6 b6 g6)
      | (with_reducible refine step_appS (w := (w6.alloc (Obj.cells #[] 80))) ?_ (.tmp 7) (.tmp 9) 34 ?_ W.heap.size 80 iP _ 2 24 ?_ hiP hp0 hp1 hp2 ?_ ?_ (.slice (some ⟨w6.heap.size, 0, none⟩) 0 0) 0 [] ?_ ?_ (.slice la ln lc) d.late.length (putCells d.late) ?_ ?_ ?_ ?_ ?_ ?_ ?_ ?_
         · rfl
         · rfl
         · exact Try.underlying34
         · rfl
         · decide
         · simp [Act.eval]
         · exact empty_row w6 W.heap.size 80 2 HB6.out.size
         · simp [Act.eval]
         · exact (H2.out.below (HB6.out.alloc HB6.out.size _))
         · exact (putCells_len _)
         · exact (put_oneCell _)
         · (unfold maxLen; omega)
         · omega
         · exact (HB6.out.alloc HB6.out.size _).size
         intro v10 w10 o10 g10
         rw [List.nil_append, Nat.zero_add] at o10
         obtain ⟨a10, n10, c10, rfl⟩ := rk_slice o10
         have b10 : Below W.heap.size W w10 := (HB6.out.alloc HB6.out.size _).grown g10 (HB6.out.alloc HB6.out.size _).size (fun r e => by simp only [Value.ownBlock, Option.some.injEq] at e; omega)
         have x10 : w10.heap[w.heap.size + 1]? = some (.cells #[.slice none 0 0, .slice none 0 0] 36 (0, 0)) := (b10.block _ HL.out.2).trans HX.out
         obtain ⟨k1, k2, k3, k4⟩ := rk_two x10
         have p10 : w10.ownsRow W.heap.size 9 1 (.slice a6 n6 c6) d.safe.length (strCells d.safe) := rk_type (ownsRow_below HO6.out ((Below.refl _ _).alloc (Nat.le_refl _) _)) g10 (fun r e => by simp only [Value.ownBlock, Option.some.injEq] at e; subst e; exact ⟨_, _, _, World.alloc_heap_new w6 _, by decide⟩)
         have HF := (show Hid (w10.ownsRow W.heap.size 9 1 (.slice a6 n6 c6) d.safe.length (strCells d.safe) ∧ w10.ownsRow W.heap.size 80 2 (.slice a10 n10 c10) d.late.length (putCells d.late) ∧ Below W.heap.size W w10 ∧ w10.heap[w.heap.size + 1]? = some (.cells #[.slice none 0 0, .slice none 0 0] 36 (0, 0))) from ⟨p10, o10, b10, x10⟩)
         clear o10 b10 g10 x10 p10)
      | (with_reducible refine step_appS (w := w6) ?_ (.tmp 7) (.tmp 9) 34 ?_ W.heap.size 80 iP _ 2 24 ?_ hiP hp0 hp1 hp2 ?_ ?_ (.slice (some ⟨W.heap.size + 1, 0, none⟩) 0 0) 0 [] ?_ ?_ (.slice la ln lc) d.late.length (putCells d.late) ?_ ?_ ?_ ?_ ?_ ?_ ?_ ?_
         · rfl
         · rfl
         · exact Try.underlying34
         · rfl
         · decide
         · simp [Act.eval]
         · exact HP6.out
         · simp [Act.eval]
         · exact (H2.out.below HB6.out)
         · exact (putCells_len _)
         · exact (put_oneCell _)
         · (unfold maxLen; omega)
         · omega
         · exact HB6.out.size
         intro v10 w10 o10 g10
         rw [List.nil_append, Nat.zero_add] at o10
         obtain ⟨a10, n10, c10, rfl⟩ := rk_slice o10
         have b10 : Below W.heap.size W w10 := HB6.out.grown g10 HB6.out.size (fun r e => by simp only [Value.ownBlock, Option.some.injEq] at e; omega)
         have x10 : w10.heap[w.heap.size + 1]? = some (.cells #[.slice none 0 0, .slice none 0 0] 36 (0, 0)) := (b10.block _ HL.out.2).trans HX.out
         obtain ⟨k1, k2, k3, k4⟩ := rk_two x10
         have p10 : w10.ownsRow W.heap.size 9 1 (.slice a6 n6 c6) d.safe.length (strCells d.safe) := rk_type HO6.out g10 (fun r e => by
           rcases HP6.out.2 with ⟨hv, _⟩ | ⟨g, cap, cur, hv, _, hh, _⟩
           · cases hv
           · cases hv; cases e
             exact ⟨_, _, _, hh, by decide⟩)
         have HF := (show Hid (w10.ownsRow W.heap.size 9 1 (.slice a6 n6 c6) d.safe.length (strCells d.safe) ∧ w10.ownsRow W.heap.size 80 2 (.slice a10 n10 c10) d.late.length (putCells d.late) ∧ Below W.heap.size W w10 ∧ w10.heap[w.heap.size + 1]? = some (.cells #[.slice none 0 0, .slice none 0 0] 36 (0, 0))) from ⟨p10, o10, b10, x10⟩)
         clear o10 b10 g10 x10 p10)
      | (with_reducible refine step_appS (w := w6) ?_ (.tmp 7) (.tmp 9) 34 ?_ W.heap.size 80 iP _ 2 24 ?_ hiP hp0 hp1 hp2 ?_ ?_ (.slice (some ⟨W.heap.size, 0, none⟩) 0 0) 0 [] ?_ ?_ (.slice la ln lc) d.late.length (putCells d.late) ?_ ?_ ?_ ?_ ?_ ?_ ?_ ?_
         · rfl
         · rfl
         · exact Try.underlying34
         · rfl
         · decide
         · simp [Act.eval]
         · exact HP6.out
         · simp [Act.eval]
         · exact (H2.out.below HB6.out)
         · exact (putCells_len _)
         · exact (put_oneCell _)
         · (unfold maxLen; omega)
         · omega
         · exact HB6.out.size
         intro v10 w10 o10 g10
         rw [List.nil_append, Nat.zero_add] at o10
         obtain ⟨a10, n10, c10, rfl⟩ := rk_slice o10
         have b10 : Below W.heap.size W w10 := HB6.out.grown g10 HB6.out.size (fun r e => by simp only [Value.ownBlock, Option.some.injEq] at e; omega)
         have x10 : w10.heap[w.heap.size + 1]? = some (.cells #[.slice none 0 0, .slice none 0 0] 36 (0, 0)) := (b10.block _ HL.out.2).trans HX.out
         obtain ⟨k1, k2, k3, k4⟩ := rk_two x10
         have p10 : w10.ownsRow W.heap.size 9 1 (.slice a6 n6 c6) d.safe.length (strCells d.safe) := rk_type HO6.out g10 (fun r e => by
           rcases HP6.out.2 with ⟨hv, _⟩ | ⟨g, cap, cur, hv, _, hh, _⟩
           · cases hv
           · cases hv; cases e
             exact ⟨_, _, _, hh, by decide⟩)
         have HF := (show Hid (w10.ownsRow W.heap.size 9 1 (.slice a6 n6 c6) d.safe.length (strCells d.safe) ∧ w10.ownsRow W.heap.size 80 2 (.slice a10 n10 c10) d.late.length (putCells d.late) ∧ Below W.heap.size W w10 ∧ w10.heap[w.heap.size + 1]? = some (.cells #[.slice none 0 0, .slice none 0 0] 36 (0, 0))) from ⟨p10, o10, b10, x10⟩)
         clear o10 b10 g10 x10 p10))
  all_goals go_wp2
  all_goals
    obtain ⟨p10, o10, b10, x10⟩ := HF.out
    have r1 := rk_at (k := 0) (u := .slice a6 n6 c6) x10
    have r2 := rk_at (k := 1) (u := .slice a10 n10 c10) r1
    refine bodyPost_ret (results_cell_row rfl _ _ (w.heap.size + 1) 36 #[.slice a6 n6 c6, .slice a10 n10 c10] (0, 0) _ rfl r2 Try.underlying36 rfl rfl) rfl ?_
    have hs := HS.out
    refine ⟨_, rfl, ⟨_, _, _, _, _, _, rfl, rk_base (rk_set (k := 1) (rk_set (k := 0) p10 x10 (by decide)) r1 (by decide)) HB.out.size, rk_base (rk_set (k := 1) (rk_set (k := 0) o10 x10 (by decide)) r1 (by decide)) HB.out.size⟩, ?_⟩
    exact ((HB.out.trans (b10.mono HB.out.size)).setCell (Nat.le_succ _) _).setCell (Nat.le_succ _) _
end Go.Proofs.Ytiejfnnokfedkaa
