/- The specification's DiskNew. No condition. -/
import Derived.Test.YtbpncleapnohjaaU16
import Derived.Test.YtbpncleapnohjaaU6
import Derived.Test.YtbpncleapnohjaaU2
import Derived.Test.YtbpncleapnohjaaU4
namespace Go.Proofs.Ytbpncleapnohjaa
open Go.RowKit
set_option maxRecDepth 100000
set_option linter.unusedVariables false

set_option maxHeartbeats 1000000 in
set_option maxRecDepth 100000 in
theorem sl15Zeros_any (w : World) : Calls Try.prog 26 #[] w fun e w' => e = .returned (.string zeros64) ∧ Below w.heap.size w w' := by
  obtain ⟨i0, hi, hz0, hz1, hz2⟩ := info_parts Try.infoB
  go_enter Try.func26, Try.ntmps26
  go_wp2_with (at_make; refine wpList_mkn _ rfl (.const (.int .i64 64)) (.const (.int .i64 64)) 67 rfl 5 i0 .u8 Try.underlying67 hi hz0 hz1 64 64 64 rfl rfl rfl rfl (by rw [hz2]; omega) (by unfold maxLen; omega) ?_; intro w1 o1 b1)
  have hcv : (convert 67 9 (.slice (some ⟨w.heap.size, 0, none⟩) 64 64)).run Try.prog w1 = .ok (.string zeros64) w1 := conv_sl (o1.sl)
  have B1 := (show Hid (Below w.heap.size w w1) from b1)
  clear o1 b1
  go_wp2
  rw [hcv]
  go_wp2
  go_ret
  exact ⟨rfl, B1.out⟩

theorem sv_oneStr {w : World} {g : Nat} {s : ByteArray} {t : TypeId} (h : w.heap[g]? = some (.cells #[.string s] t (0, 0))) : Sv 1 w (.slice (some ⟨g, 0, none⟩) 1 1) (strCells [s]) := by
  obtain ⟨c0, _⟩ := rk_one h
  refine ⟨some ⟨g, 0, none⟩, 1, 1, rfl, rfl, Nat.le_refl _, by unfold maxLen; omega, (fun e => by cases e), fun i hi => ⟨g, 0, rfl, ?_⟩⟩
  have hi' : i < 1 := hi
  match i, hi' with
  | 0, _ => simpa [strCells] using c0

/-- While the texts of a new disk are laid: k of them are. -/
structure NewI (w : World) (k : Nat) (W : World) : Prop where
  cells : ∃ a n c, W.heap[w.heap.size + 1]? = some (.cells #[.slice a n c, .slice none 0 0] 25 (0, 0)) ∧ W.ownsRow w.heap.size 9 1 (.slice a n c) k (strCells (List.replicate k zeros64))
  res : W.heap[w.heap.size]? = some (.cells #[.slice none 0 0, .slice none 0 0] 25 (0, 0))
  bel : Below w.heap.size w W
set_option maxHeartbeats 1000000 in
set_option maxRecDepth 100000 in
theorem sdiskNew_any (w : World) : Calls Try.prog 10 #[] w fun e w' => ∃ v', e = .returned v' ∧ OwnDk w.heap.size w' v' newDk ∧ Below w.heap.size w w' := by
  obtain ⟨iS, hiS, hs0, hs1, hs2⟩ := info_parts Try.infoStr
  obtain ⟨W, hW⟩ : ∃ x, x = (w.alloc (.cells #[.slice none 0 0, .slice none 0 0] 25)).alloc (.cells #[.slice none 0 0, .slice none 0 0] 25) := ⟨_, rfl⟩
  have b1 : Below w.heap.size w W := by rw [hW]; exact ((Below.refl _ _).alloc (Nat.le_refl _) _).alloc (by simp) _
  have x1 : W.heap[w.heap.size]? = some (.cells #[.slice none 0 0, .slice none 0 0] 25 (0, 0)) := by rw [hW, Below.heap_alloc _ _ _ (by simp)]; exact World.alloc_heap_new _ _
  have x2 : W.heap[w.heap.size + 1]? = some (.cells #[.slice none 0 0, .slice none 0 0] 25 (0, 0)) := by
    rw [hW]
    have := World.alloc_heap_new (w.alloc (.cells #[.slice none 0 0, .slice none 0 0] 25)) (.cells #[.slice none 0 0, .slice none 0 0] 25)
    rwa [World.size_alloc] at this
  have I0 : Hid (NewI w 0 W) := ⟨⟨_, _, _, x2, World.ownsRow_nil _ _ _ _⟩, x1, b1⟩
  clear x1 x2 b1
  go_enter Try.func10, Try.ntmps10
  go_wp2
  rw [← hW]
  clear hW
  go_loopw [2] (fun i wr => ∃ k : Nat, k ≤ 130 ∧ i = .int .i64 k ∧ NewI w k wr) (fun i _ => 130 - (intOf i).toNat)
  case atStart => exact ⟨0, Nat.zero_le _, rfl, I0.out⟩
  case round =>
    clear I0
    obtain ⟨k, hk, rfl, hI⟩ := hrel
    have HI := (show Hid (NewI w k wr) from hI)
    obtain ⟨ao, n, c, x2, ow⟩ := hI.cells
    have hbs := hI.bel.size
    have hx1 := hI.res
    have HO := (show Hid (wr.ownsRow w.heap.size 9 1 (.slice ao n c) k (strCells (List.replicate k zeros64))) from ow)
    have HX := (show Hid (wr.heap[w.heap.size + 1]? = some (.cells #[.slice ao n c, .slice none 0 0] 25 (0, 0)) ∧ wr.heap[w.heap.size]? = some (.cells #[.slice none 0 0, .slice none 0 0] 25 (0, 0))) from ⟨x2, hx1⟩)
    obtain ⟨q1, q2, q3, q4⟩ := rk_two x2
    have hlx := lt_of_block x2
    clear hI x2 ow hx1
    by_cases hlt : k < 130
    · have CZ := (show Hid (∀ w, Calls Try.prog 26 #[] w fun e w' => e = .returned (.string zeros64) ∧ Below w.heap.size w w') from sl15Zeros_any)
      have bd : Below wr.heap.size wr wr.drew := below_drewN 1
      have BD := (show Hid (Below wr.heap.size wr wr.drew) from bd)
      clear bd
      go_wp2
      go_region_law (first
        | (go_simp
           go_at_call 26
           refine Calls.mono (CZ.out _) ?_
           rintro e w2 ⟨rfl, b2⟩
           have b3 : Below wr.heap.size wr w2 := BD.out.trans (b2.mono BD.out.size)
           have y2 := (b3.block _ (lt_of_block HX.out.1)).trans HX.out.1
           obtain ⟨m1, m2, m3, m4⟩ := rk_two y2
           have hl2 := lt_of_block y2
           have B3 := (show Hid (Below wr.heap.size wr w2) from b3)
           clear b2 b3 y2)
        | (with_reducible refine step_appS (w := w2.alloc (.cells #[.string zeros64] 9)) ?_ (.tmp 9) (.tmp 11) 22 ?_ w.heap.size 9 iS _ 1 16 ?_ hiS hs0 hs1 hs2 ?_ ?_ (.slice ao n c) k (strCells (List.replicate k zeros64)) ?_ ?_ (.slice (some ⟨w2.heap.size, 0, none⟩) 1 1) 1 (strCells [zeros64]) ?_ ?_ ?_ ?_ ?_ ?_ ?_ ?_
           · rfl
           · rfl
           · exact Try.underlying22
           · rfl
           · decide
           · simp [Act.eval]
           · exact ownsRow_below (ownsRow_below HO.out B3.out) ((Below.refl _ _).alloc (Nat.le_refl _) _)
           · simp [Act.eval]
           · exact sv_oneStr (World.alloc_heap_new w2 _)
           · rfl
           · exact str_oneCell _
           · (unfold maxLen; omega)
           · omega
           · (have := B3.out.size; rw [World.size_alloc]; omega)
           intro v9 w9 o9 g9
           have hO2 : (w2.alloc (.cells #[.string zeros64] 9)).ownsRow w.heap.size 9 1 (.slice ao n c) k (strCells (List.replicate k zeros64)) := ownsRow_below (ownsRow_below HO.out B3.out) ((Below.refl _ _).alloc (Nat.le_refl _) _)
           have b4 : Below wr.heap.size wr (w2.alloc (.cells #[.string zeros64] 9)) := B3.out.alloc B3.out.size _
           have y9 := rk_keep hO2 g9 ((b4.block _ (lt_of_block HX.out.1)).trans HX.out.1) (by decide)
           have z9 := rk_keep hO2 g9 ((b4.block _ (lt_of_block HX.out.2)).trans HX.out.2) (by decide)
           have b9 : Below w.heap.size w w9 := (HI.out.bel.trans (b4.mono HI.out.bel.size)).grown g9 (HI.out.bel.trans (b4.mono HI.out.bel.size)).size (fun r e => (World.ownsRow.lt hO2 r e).1)
           obtain ⟨a9, n9, c9, rfl⟩ := rk_slice o9
           obtain ⟨m1, m2, m3, m4⟩ := rk_two y9
           have HF := (show Hid (w9.ownsRow w.heap.size 9 1 (.slice a9 n9 c9) (k + 1) (strCells (List.replicate k zeros64) ++ strCells [zeros64]) ∧ w9.heap[w.heap.size + 1]? = some (.cells #[.slice ao n c, .slice none 0 0] 25 (0, 0)) ∧ w9.heap[w.heap.size]? = some (.cells #[.slice none 0 0, .slice none 0 0] 25 (0, 0)) ∧ Below w.heap.size w w9) from ⟨o9, y9, z9, b9⟩)
           clear hO2 b4 y9 z9 b9 o9 g9))
      all_goals go_wp2
      all_goals go_roundw
      all_goals first
        | (simp [intOf]; omega)
        | (obtain ⟨o9, y9, z9, b9⟩ := HF.out
           have x9 := rk_at (k := 0) (u := .slice a9 n9 c9) y9
           refine ⟨k + 1, by omega, by go_num, ⟨⟨_, _, _, x9, ?_⟩, (Below.heap_setCell _ _ _ _ (by simp)).trans z9, b9.setCell (p := ⟨w.heap.size + 1, 0, none⟩) (Nat.le_succ _) _⟩⟩
           rw [List.replicate_succ', strCells_app]
           exact rk_set o9 y9 (by decide))
    · have hke : k = 130 := by omega
      subst hke
      obtain ⟨r1, r2, r3, r4⟩ := rk_two HX.out.2
      go_wp2
      have z1 := rk_at (k := 0) (u := .slice ao n c) HX.out.2
      have z2 := rk_at (k := 1) (u := .slice none 0 0) z1
      (try simp only [Exit.inBlock, Exit.then])
      refine bodyPost_ret (results_cell_row rfl _ _ w.heap.size 25 #[.slice ao n c, .slice none 0 0] (0, 0) _ rfl z2 Try.underlying25 rfl rfl) rfl ?_
      refine ⟨_, rfl, ⟨_, _, _, _, _, _, rfl, rk_set (k := 1) (rk_set (k := 0) HO.out HX.out.2 (by decide)) z1 (by decide), World.ownsRow_nil _ _ _ _⟩, (HI.out.bel.setCell (p := ⟨w.heap.size, 0, none⟩) (Nat.le_refl _) _).setCell (p := ⟨w.heap.size, 1, none⟩) (Nat.le_refl _) _⟩
end Go.Proofs.Ytbpncleapnohjaa

/- The contract of the draw of bytes: some bytes, in new memory. -/
namespace Go.Proofs.Ytbpncleapnohjaa
open Go.RowKit
set_option maxRecDepth 100000
set_option linter.unusedVariables false

theorem Sl.take {K : IntKind} {w : World} {a : Addr} {n cap r : Nat} {xs : List Int} (h : Sl K w (.slice (some a) n cap) xs) (hr : r ≤ xs.length) : Sl K w (.slice (some a) r cap) (xs.take r) := by
  obtain ⟨a', c', e, hl, hm, hnn, ha⟩ := h
  cases e
  have hlen : (xs.take r).length = r := by simp; omega
  refine ⟨some a, cap, by rw [hlen], by omega, hm, (fun h => by cases h), fun k hk => ?_⟩
  obtain ⟨b, off, e, c⟩ := ha k (by omega)
  refine ⟨b, off, e, ?_⟩
  have e2 : (xs.take r).getD k 0 = xs.getD k 0 := by simp [List.getD_eq_getElem?_getD, show k < r by omega]
  rw [e2]; exact c

theorem put_byte (x : Int) : ∀ y ∈ put x, 0 ≤ y ∧ y ≤ 255 := by
  have := pt_ok x
  exact enc_byte this.1 this.2.1

end Go.Proofs.Ytbpncleapnohjaa

/- The draws of chapter 15: a text of a sector, a place. No condition. -/
namespace Go.Proofs.Ytbpncleapnohjaa
open Go.RowKit
set_option maxRecDepth 100000
set_option linter.unusedVariables false

theorem Blk.kept {K : IntKind} {t : TypeId} {w w' : World} {b : Nat} {zs : List Int} {row : Option Nat} (h : Blk K t w b zs) (hg : w.grownBy w' row) (hne : some b ≠ row) : Blk K t w' b zs := by
  have hlt := h.lt
  obtain ⟨cur, lo, hi, hh, r⟩ := h
  exact ⟨cur, lo, hi, (hg.block b hlt hne).trans hh, r⟩
end Go.Proofs.Ytbpncleapnohjaa
