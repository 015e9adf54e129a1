import Derived.Test.YtiejfnnokfedkaaDoorB16
import Derived.Test.YtiejfnnokfedkaaDoorOk
import Derived.Test.YtiejfnnokfedkaaDoorB2
import Derived.Test.YtiejfnnokfedkaaDoorB4
/- The specification's DiskNew. No condition. -/
namespace Go.Proofs.YtiejfnnokfedkaaDoor
open Go.RowKit
set_option maxRecDepth 100000
set_option linter.unusedVariables false

set_option maxHeartbeats 1000000 in
set_option maxRecDepth 100000 in
theorem sl15Zeros_any (w : World) : Calls Tryd.prog 87 #[] w fun e w' => e = .returned (.string zeros64) ∧ Below w.heap.size w w' := by
  obtain ⟨i0, hi, hz0, hz1, hz2⟩ := info_parts Tryd.infoB
  go_enter Tryd.func87, Tryd.ntmps87
  go_wp2_with (at_make; refine wpList_mkn _ rfl (.const (.int .i64 64)) (.const (.int .i64 64)) 22 rfl 5 i0 .u8 Tryd.underlying22 hi hz0 hz1 64 64 64 rfl rfl rfl rfl (by rw [hz2]; omega) (by unfold maxLen; omega) ?_; intro w1 o1 b1)
  have hcv : (convert 22 9 (.slice (some ⟨w.heap.size, 0, none⟩) 64 64)).run Tryd.prog w1 = .ok (.string zeros64) w1 := conv_sl (o1.sl)
  have B1 := (show Hid (Below w.heap.size w w1) from b1)
  clear o1 b1
  go_wp2
  rw [hcv]
  go_wp2
  go_ret
  exact ⟨rfl, B1.out⟩

theorem sv_oneStr {w : World} {g : Nat} {s : ByteArray} {t : TypeId} (h : w.heap[g]? = some (.cells #[.string s] t (0, 0))) : Sv 1 w (.slice (some ⟨g, 0, none⟩) 1 1) (strCells [s]) := by
  obtain ⟨c0, _⟩ := rk_one h
  refine ⟨some ⟨g, 0, none⟩, 1, 1, rfl, rfl, Nat.le_refl _, by unfold maxLen; omega, (fun e => by cases e), fun i hi => ⟨g, 0, rfl, ?_⟩⟩
  have hi' : i < 1 := hi
  match i, hi' with
  | 0, _ => simpa [strCells] using c0

/-- While the texts of a new disk are laid: k of them are. -/
structure NewI (w : World) (k : Nat) (W : World) : Prop where
  cells : ∃ a n c, W.heap[w.heap.size + 1]? = some (.cells #[.slice a n c, .slice none 0 0] 34 (0, 0)) ∧ W.ownsRow w.heap.size 9 1 (.slice a n c) k (strCells (List.replicate k zeros64))
  res : W.heap[w.heap.size]? = some (.cells #[.slice none 0 0, .slice none 0 0] 34 (0, 0))
  bel : Below w.heap.size w W
set_option maxHeartbeats 1000000 in
set_option maxRecDepth 100000 in
theorem sdiskNew_any (w : World) : Calls Tryd.prog 88 #[] w fun e w' => ∃ v', e = .returned v' ∧ OwnDk w.heap.size w' v' newDk ∧ Below w.heap.size w w' := by
  obtain ⟨iS, hiS, hs0, hs1, hs2⟩ := info_parts Tryd.infoStr
  obtain ⟨W, hW⟩ : ∃ x, x = (w.alloc (.cells #[.slice none 0 0, .slice none 0 0] 34)).alloc (.cells #[.slice none 0 0, .slice none 0 0] 34) := ⟨_, rfl⟩
  have b1 : Below w.heap.size w W := by rw [hW]; exact ((Below.refl _ _).alloc (Nat.le_refl _) _).alloc (by simp) _
  have x1 : W.heap[w.heap.size]? = some (.cells #[.slice none 0 0, .slice none 0 0] 34 (0, 0)) := by rw [hW, Below.heap_alloc _ _ _ (by simp)]; exact World.alloc_heap_new _ _
  have x2 : W.heap[w.heap.size + 1]? = some (.cells #[.slice none 0 0, .slice none 0 0] 34 (0, 0)) := by
    rw [hW]
    have := World.alloc_heap_new (w.alloc (.cells #[.slice none 0 0, .slice none 0 0] 34)) (.cells #[.slice none 0 0, .slice none 0 0] 34)
    rwa [World.size_alloc] at this
  have I0 : Hid (NewI w 0 W) := ⟨⟨_, _, _, x2, World.ownsRow_nil _ _ _ _⟩, x1, b1⟩
  clear x1 x2 b1
  go_enter Tryd.func88, Tryd.ntmps88
  go_wp2
  rw [← hW]
  clear hW
  go_loopw [2] (fun i wr => ∃ k : Nat, k ≤ 130 ∧ i = .int .i64 k ∧ NewI w k wr) (fun i _ => 130 - (intOf i).toNat)
  case atStart => exact ⟨0, Nat.zero_le _, rfl, I0.out⟩
  case round =>
    clear I0
    obtain ⟨k, hk, rfl, hI⟩ := hrel
    have HI := (show Hid (NewI w k wr) from hI)
    obtain ⟨ao, n, c, x2, ow⟩ := hI.cells
    have hbs := hI.bel.size
    have hx1 := hI.res
    have HO := (show Hid (wr.ownsRow w.heap.size 9 1 (.slice ao n c) k (strCells (List.replicate k zeros64))) from ow)
    have HX := (show Hid (wr.heap[w.heap.size + 1]? = some (.cells #[.slice ao n c, .slice none 0 0] 34 (0, 0)) ∧ wr.heap[w.heap.size]? = some (.cells #[.slice none 0 0, .slice none 0 0] 34 (0, 0))) from ⟨x2, hx1⟩)
    obtain ⟨q1, q2, q3, q4⟩ := rk_two x2
    have hlx := lt_of_block x2
    clear hI x2 ow hx1
    by_cases hlt : k < 130
    · have CZ := (show Hid (∀ w, Calls Tryd.prog 87 #[] w fun e w' => e = .returned (.string zeros64) ∧ Below w.heap.size w w') from sl15Zeros_any)
      have bd : Below wr.heap.size wr wr.drew := below_drewN 1
      have BD := (show Hid (Below wr.heap.size wr wr.drew) from bd)
      clear bd
      go_wp2
      go_region_law (first
        | (go_simp
           go_at_call 87
           refine Calls.mono (CZ.out _) ?_
           rintro e w2 ⟨rfl, b2⟩
           have b3 : Below wr.heap.size wr w2 := BD.out.trans (b2.mono BD.out.size)
           have y2 := (b3.block _ (lt_of_block HX.out.1)).trans HX.out.1
           obtain ⟨m1, m2, m3, m4⟩ := rk_two y2
           have hl2 := lt_of_block y2
           have B3 := (show Hid (Below wr.heap.size wr w2) from b3)
           clear b2 b3 y2)
        | (with_reducible refine step_appS (w := w2.alloc (.cells #[.string zeros64] 9)) ?_ (.tmp 9) (.tmp 11) 31 ?_ w.heap.size 9 iS _ 1 16 ?_ hiS hs0 hs1 hs2 ?_ ?_ (.slice ao n c) k (strCells (List.replicate k zeros64)) ?_ ?_ (.slice (some ⟨w2.heap.size, 0, none⟩) 1 1) 1 (strCells [zeros64]) ?_ ?_ ?_ ?_ ?_ ?_ ?_ ?_
           · rfl
           · rfl
           · exact Tryd.underlying31
           · rfl
           · decide
           · simp [Act.eval]
           · exact ownsRow_below (ownsRow_below HO.out B3.out) ((Below.refl _ _).alloc (Nat.le_refl _) _)
           · simp [Act.eval]
           · exact sv_oneStr (World.alloc_heap_new w2 _)
           · rfl
           · exact str_oneCell _
           · (unfold maxLen; omega)
           · omega
           · (have := B3.out.size; rw [World.size_alloc]; omega)
           intro v9 w9 o9 g9
           have hO2 : (w2.alloc (.cells #[.string zeros64] 9)).ownsRow w.heap.size 9 1 (.slice ao n c) k (strCells (List.replicate k zeros64)) := ownsRow_below (ownsRow_below HO.out B3.out) ((Below.refl _ _).alloc (Nat.le_refl _) _)
           have b4 : Below wr.heap.size wr (w2.alloc (.cells #[.string zeros64] 9)) := B3.out.alloc B3.out.size _
           have y9 := rk_keep hO2 g9 ((b4.block _ (lt_of_block HX.out.1)).trans HX.out.1) (by decide)
           have z9 := rk_keep hO2 g9 ((b4.block _ (lt_of_block HX.out.2)).trans HX.out.2) (by decide)
           have b9 : Below w.heap.size w w9 := (HI.out.bel.trans (b4.mono HI.out.bel.size)).grown g9 (HI.out.bel.trans (b4.mono HI.out.bel.size)).size (fun r e => (World.ownsRow.lt hO2 r e).1)
           obtain ⟨a9, n9, c9, rfl⟩ := rk_slice o9
           obtain ⟨m1, m2, m3, m4⟩ := rk_two y9
           have HF := (show Hid (w9.ownsRow w.heap.size 9 1 (.slice a9 n9 c9) (k + 1) (strCells (List.replicate k zeros64) ++ strCells [zeros64]) ∧ w9.heap[w.heap.size + 1]? = some (.cells #[.slice ao n c, .slice none 0 0] 34 (0, 0)) ∧ w9.heap[w.heap.size]? = some (.cells #[.slice none 0 0, .slice none 0 0] 34 (0, 0)) ∧ Below w.heap.size w w9) from ⟨o9, y9, z9, b9⟩)
           clear hO2 b4 y9 z9 b9 o9 g9))
      all_goals go_wp2
      all_goals go_roundw
      all_goals first
        | (simp [intOf]; omega)
        | (obtain ⟨o9, y9, z9, b9⟩ := HF.out
           have x9 := rk_at (k := 0) (u := .slice a9 n9 c9) y9
           refine ⟨k + 1, by omega, by go_num, ⟨⟨_, _, _, x9, ?_⟩, (Below.heap_setCell _ _ _ _ (by simp)).trans z9, b9.setCell (p := ⟨w.heap.size + 1, 0, none⟩) (Nat.le_succ _) _⟩⟩
           rw [List.replicate_succ', strCells_app]
           exact rk_set o9 y9 (by decide))
    · have hke : k = 130 := by omega
      subst hke
      obtain ⟨r1, r2, r3, r4⟩ := rk_two HX.out.2
      go_wp2
      have z1 := rk_at (k := 0) (u := .slice ao n c) HX.out.2
      have z2 := rk_at (k := 1) (u := .slice none 0 0) z1
      (try simp only [Exit.inBlock, Exit.then])
      refine bodyPost_ret (results_cell_row rfl _ _ w.heap.size 34 #[.slice ao n c, .slice none 0 0] (0, 0) _ rfl z2 Tryd.underlying34 rfl rfl) rfl ?_
      refine ⟨_, rfl, ⟨_, _, _, _, _, _, rfl, rk_set (k := 1) (rk_set (k := 0) HO.out HX.out.2 (by decide)) z1 (by decide), World.ownsRow_nil _ _ _ _⟩, (HI.out.bel.setCell (p := ⟨w.heap.size, 0, none⟩) (Nat.le_refl _) _).setCell (p := ⟨w.heap.size, 1, none⟩) (Nat.le_refl _) _⟩
end Go.Proofs.YtiejfnnokfedkaaDoor

/- The contract of the draw of bytes: some bytes, in new memory. -/
namespace Go.Proofs.YtiejfnnokfedkaaDoor
open Go.RowKit
set_option maxRecDepth 100000
set_option linter.unusedVariables false

theorem Sl.take {K : IntKind} {w : World} {a : Addr} {n cap r : Nat} {xs : List Int} (h : Sl K w (.slice (some a) n cap) xs) (hr : r ≤ xs.length) : Sl K w (.slice (some a) r cap) (xs.take r) := by
  obtain ⟨a', c', e, hl, hm, hnn, ha⟩ := h
  cases e
  have hlen : (xs.take r).length = r := by simp; omega
  refine ⟨some a, cap, by rw [hlen], by omega, hm, (fun h => by cases h), fun k hk => ?_⟩
  obtain ⟨b, off, e, c⟩ := ha k (by omega)
  refine ⟨b, off, e, ?_⟩
  have e2 : (xs.take r).getD k 0 = xs.getD k 0 := by simp [List.getD_eq_getElem?_getD, show k < r by omega]
  rw [e2]; exact c

theorem put_byte (x : Int) : ∀ y ∈ put x, 0 ≤ y ∧ y ≤ 255 := by
  have := pt_ok x
  exact enc_byte this.1 this.2.1

/-- One number of a list that is written out. -/
theorem pickL_any {w0 : World} {g : Nat} {v : Value} {xs : List Int} {w : World} (h : Cur w0 g v xs w) (hb : ∀ x ∈ xs, 0 ≤ x ∧ x ≤ 255) (zs : List Int) (hz : 0 < zs.length) (hz2 : zs.length ≤ 1000) (cs : Array Value) (hcs : cs.toList = zs.map (Value.int .i64)) (n : Nat) (hn : n = zs.length) :
    Calls Tryd.prog 47 #[.pointer (some ⟨g, 0, none⟩), .slice (some ⟨w.heap.size, 0, none⟩) n n] (w.alloc (.cells cs 3)) fun e w' => ∃ x : Int, e = .returned (.int .i64 x) ∧ x ∈ zs ∧ Cur w0 g v xs w' ∧ w.grownBy w' (some g) := by
  have hsz : cs.size = zs.length := by have := congrArg List.length hcs; simpa using this
  have hown : Own w.heap.size 3 .i64 (w.alloc (.cells cs 3)) (.slice (some ⟨w.heap.size, 0, none⟩) n n) zs := by
    have h1 := World.ownsRow_lit (base := w.heap.size) (e := 3) (size := 1) w cs n (Nat.le_refl _) (by unfold maxLen; omega) (by omega)
    rw [hcs] at h1
    unfold Own
    rw [← hn]; exact h1
  refine (pick_any (h.below ((Below.refl _ _).alloc (Nat.le_refl _) _)) hb hown.sl hz hz2 (fun w' hg => (own_past hown hg h.lt).sl)).mono ?_
  rintro e w3 ⟨z, rfl, hz, k3, g3⟩
  exact ⟨z, rfl, hz, k3, grown_trans (World.grownBy_alloc _ _ _) g3⟩

end Go.Proofs.YtiejfnnokfedkaaDoor

/- The draws of chapter 15: a text of a sector, a place. No condition. -/
namespace Go.Proofs.YtiejfnnokfedkaaDoor
open Go.RowKit
set_option maxRecDepth 100000
set_option linter.unusedVariables false

theorem Blk.kept {K : IntKind} {t : TypeId} {w w' : World} {b : Nat} {zs : List Int} {row : Option Nat} (h : Blk K t w b zs) (hg : w.grownBy w' row) (hne : some b ≠ row) : Blk K t w' b zs := by
  have hlt := h.lt
  obtain ⟨cur, lo, hi, hh, r⟩ := h
  exact ⟨cur, lo, hi, (hg.block b hlt hne).trans hh, r⟩
/-- While a text is drawn: the block gb has 64 bytes. -/
def TextI (w0 w : World) (g : Nat) (v : Value) (xs : List Int) (gb : Nat) (W : World) : Prop := ∃ zs : List Int, zs.length = 64 ∧ Blk .u8 5 W gb zs ∧ Cur w0 g v xs W ∧ w.grownBy W (some g)

set_option maxHeartbeats 1000000 in
set_option maxRecDepth 100000 in
theorem drawText15_any {w0 : World} {g : Nat} {v : Value} {xs : List Int} {w : World} (h : Cur w0 g v xs w) (hb : ∀ x ∈ xs, 0 ≤ x ∧ x ≤ 255) :
    Calls Tryd.prog 89 #[.pointer (some ⟨g, 0, none⟩)] w fun e w' => ∃ s : ByteArray, e = .returned (.string s) ∧ s.size = 64 ∧ Cur w0 g v xs w' ∧ w.grownBy w' (some g) := by
  have HB : Hid (∀ x ∈ xs, 0 ≤ x ∧ x ≤ 255) := hb
  have hgl := h.lt
  clear hb
  go_enter Tryd.func89, Tryd.ntmps89
  go_wp2_with fail
  go_at_call 87
  refine (sl15Zeros_any w).mono ?_
  rintro e w1 ⟨rfl, b1⟩
  have hz64 := zeros64_size
  obtain ⟨cap, w2, hcv, hbk, hc1, hc2, b2⟩ := conv_str zeros64 w1 (by rw [zeros64_size]; unfold maxLen; omega)
  rw [hz64] at hcv hc1
  have hbl : (bs zeros64).length = 64 := by rw [bs_len, hz64]
  have I0 : Hid (TextI w0 w g v xs w1.heap.size w2) := ⟨_, hbl, hbk, (h.below b1).below b2, ⟨b2.os.trans b1.os, b2.tape.trans b1.tape, b2.output.trans b1.output, Nat.le_trans b1.size b2.size, fun k hk _ => (b2.block k (Nat.lt_of_lt_of_le hk b1.size)).trans (b1.block k hk)⟩⟩
  have hgne : g ≠ w1.heap.size := by have := b1.size; omega
  have hwle : w.heap.size ≤ w1.heap.size := b1.size
  obtain ⟨z, hz⟩ : ∃ z, z = zeros64 := ⟨_, rfl⟩
  rw [← hz] at hcv ⊢
  clear hbk b2 hbl hz64 hz b1
  go_wp2
  clear hcv
  go_loopw [4] (fun i wr => ∃ k : Nat, k ≤ 5 ∧ i = .int .i64 k ∧ TextI w0 w g v xs w1.heap.size wr) (fun i _ => 5 - (intOf i).toNat)
  case atStart => exact ⟨0, by decide, rfl, I0.out⟩
  case round =>
    clear I0
    obtain ⟨k, hk, rfl, zs, hzl, hbk, kc, kg⟩ := hrel
    have HZ := (show Hid (Blk .u8 5 wr w1.heap.size zs ∧ w.grownBy wr (some g)) from ⟨hbk, kg⟩)
    clear hbk kg
    go_wp2_with fail
    go_at_call 45
    refine (below_any 5 (by omega) kc HB.out).mono ?_
    rintro e w3 ⟨x, rfl, x0, x1, _, k3, g3⟩
    replace x1 := x1 (by omega)
    have HZ3 := (show Hid (Blk .u8 5 w3 w1.heap.size zs ∧ w.grownBy w3 (some g)) from ⟨HZ.out.1.kept g3 (by simp; omega), grown_trans HZ.out.2 g3⟩)
    clear HZ g3 kc
    by_cases hlt : (k : Int) < x
    · go_wp2_with fail
      go_at_call 45
      refine (below_any 64 (by omega) k3 HB.out).mono ?_
      rintro e w4 ⟨y, rfl, y0, y1, _, k4, g4⟩
      replace y1 := y1 (by omega)
      obtain ⟨m, rfl⟩ := Int.eq_ofNat_of_zero_le y0
      have HZ4 := (show Hid (Blk .u8 5 w4 w1.heap.size zs ∧ w.grownBy w4 (some g)) from ⟨HZ3.out.1.kept g4 (by simp; omega), grown_trans HZ3.out.2 g4⟩)
      clear HZ3 g4 k3
      go_wp2_with fail
      go_at_call 76
      refine (byte_any k4 HB.out).mono ?_
      rintro e w5 ⟨q, rfl, q0, q1, k5, g5⟩
      have hb5 := HZ4.out.1.kept g5 (by simp; omega)
      have hc5 := hb5.cell m (by omega)
      have hf5 := hb5.frozen m (by omega)
      have hw : IntKind.u8.wrap q = q := by simp only [IntKind.wrap, IntKind.bits, IntKind.signed]; simp; omega
      have HS := (show Hid (Blk .u8 5 (w5.setCell ⟨w1.heap.size, m, none⟩ (.int .u8 q)) w1.heap.size (zs.set m q) ∧ Cur w0 g v xs (w5.setCell ⟨w1.heap.size, m, none⟩ (.int .u8 q)) ∧ w.grownBy (w5.setCell ⟨w1.heap.size, m, none⟩ (.int .u8 q)) (some g)) from
        ⟨hb5.set m (by omega) q, k5.kept (grown_setCell _ _ _ _) (by simp; omega) (fun r e => by cases e; have := k5.1; omega), grown_past (grown_trans HZ4.out.2 g5) (grown_setCell _ _ _ _) (fun r e => by cases e; exact hwle)⟩)
      clear HZ4 g5 k4 k5 hb5
      go_wp2
      go_roundw
      case rel => exact ⟨k + 1, by omega, by go_num, zs.set m q, by rw [List.length_set]; exact hzl, HS.out.1, HS.out.2.1, HS.out.2.2⟩
      case measure => simp [intOf]; omega
    · have hcv := conv_sl (HZ3.out.1.sl (n := 64) (cap := cap) hzl.symm (by omega) hc2)
      have hss := strOf_size zs
      obtain ⟨t, ht⟩ : ∃ t, t = strOf zs := ⟨_, rfl⟩
      rw [← ht] at hcv hss
      clear ht
      go_wp2
      go_ret
      exact ⟨t, rfl, by omega, k3, HZ3.out.2⟩
end Go.Proofs.YtiejfnnokfedkaaDoor
