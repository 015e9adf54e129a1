/- The law FnTreeOps, walked (written by mk/wtreeops.py). No condition. -/
import Derived.Test.YtogdbjafibejdaaGreatU24
import Derived.Test.YtogdbjafibejdaaGreatU38
import Derived.Test.YtogdbjafibejdaaGreatU39
import Derived.Test.YtogdbjafibejdaaGreatU40
import Derived.Test.YtogdbjafibejdaaGreatU41
namespace Go.Proofs.YtogdbjafibejdaaGreat
open Go.RowKit
set_option maxRecDepth 100000
set_option linter.unusedVariables false

theorem hang_iff {ns : List PNode} (h : STreeOkP ns) (c p : Int) : HangB ns c p ↔ (c ≠ 0 ∧ (0 ≤ c ∧ c < ns.length) ∧ (0 ≤ p ∧ p < ns.length)) ∧ TreeOkP (hangN ns c.toNat p.toNat) := by
  constructor
  · rintro ⟨_, h1, h2, h3, ⟨h4, h5⟩, h6⟩
    exact ⟨⟨h3, h1, h2⟩, (hang_ok h (by omega) h4 (by omega) h5 (fun d hd => h6 ⟨d, hd⟩)).1⟩
  · rintro ⟨⟨h3, h1, h2⟩, ht⟩
    have hp : p.toNat < ns.length := by omega
    have hc : c.toNat < ns.length := by omega
    refine ⟨h, h1, h2, h3, ⟨hp, ?_⟩, fun hb => hang_bad h hc hp (.inr hb) ht⟩
    cases ho : opensB ns[p.toNat] with
    | true => rfl
    | false => exact absurd ht (hang_bad h hc hp (.inl ho))

set_option maxRecDepth 100000 in
theorem fnTreeOps_big {v : Value} {xs : List Int} (w : World) (h : Sl .u8 w v xs) (hl : 1048576 < xs.length) :
    Calls Tryz.prog 3 #[v] w fun e w' => e = .returned (.bool true) ∧ Below w.heap.size w w' := by
  have hbig := big_any h
  rw [decide_eq_true hl] at hbig
  clear h
  go_enter Tryz.func3, Tryz.ntmps3
  go_wp2_with fail
  go_at_call 10
  refine hbig.mono ?_
  rintro e w1 ⟨rfl, rfl⟩
  go_wp2
  go_ret
  exact ⟨rfl, Below.refl _ _⟩

set_option maxHeartbeats 4000000 in
set_option maxRecDepth 100000 in
theorem fnTreeOps_of {v : Value} {xs : List Int} (w : World) (h : Sl .u8 w v xs) (hl : ¬ 1048576 < xs.length)
    (hD : Calls Tryz.prog 11 #[v] w fun e w' => ∃ nv ns z y, e = .returned (.tuple #[.agg #[nv], .int .i64 z, .int .i64 y]) ∧ OwnN w.heap.size w' nv ns ∧ OutT ns ∧ (-1 ≤ z ∧ z ≤ 500) ∧ (-1 ≤ y ∧ y ≤ 500) ∧ Below w.heap.size w w') :
    Calls Tryz.prog 3 #[v] w fun e w' => e = .returned (.bool true) ∧ Below w.heap.size w w' := by
  have hbig := big_any h
  rw [decide_eq_false hl] at hbig
  have HD := (show Hid _ from hD)
  have HBG := (show Hid _ from hbig)
  clear h hl hbig hD
  go_enter Tryz.func3, Tryz.ntmps3
  go_wp2_with fail
  go_at_call 10
  refine Calls.mono HBG.out ?_
  rintro e w0 ⟨rfl, rfl⟩
  clear HBG
  go_wp2_with fail
  go_at_call 11
  refine Calls.mono HD.out ?_
  rintro e w1 ⟨nv, ns, z, y, rfl, own1, hout, ⟨hz0, hz1⟩, ⟨hy0, hy1⟩, b1⟩
  clear HD
  obtain ⟨na, ncap, rfl, hc1, hc2, j1⟩ := own1.nodes.slice
  clear j1
  have hlen := hout.len
  have HFT := (show Hid (∀ n ∈ ns, NodeFit n) from hout.fit)
  have HPR := (show Hid (TreeOkP ns → parOf ns 0 = -1) from hout.par)
  have NT1 := (show Hid (NodesAt w1 (.slice na ns.length ncap) ns) from own1.nodes)
  have B1 := (show Hid (Below w0.heap.size w0 w1) from b1)
  clear own1 hout b1
  obtain ⟨w2, hw2⟩ : ∃ x, x = w1.alloc (.cells #[.slice na ns.length ncap] 26) := ⟨_, rfl⟩
  have b2 : Below w1.heap.size w1 w2 := by rw [hw2]; exact (Below.refl _ _).alloc (Nat.le_refl _) _
  have gn2 : w2.heap[w1.heap.size]? = some (.cells #[.slice na ns.length ncap] 26 (0, 0)) := by rw [hw2]; exact World.alloc_heap_new _ _
  obtain ⟨T, hT⟩ : ∃ x, x = w1.heap.size := ⟨_, rfl⟩
  rw [← hT] at gn2
  have cT2 := (six_one gn2).1
  have GT2 := (show Hid (w2.heap[T]? = some (.cells #[.slice na ns.length ncap] 26 (0, 0))) from gn2)
  clear gn2
  have NT2 := (show Hid (NodesAt w2 (.slice na ns.length ncap) ns) from NT1.out.below b2)
  have B2 := (show Hid (Below w0.heap.size w0 w2) from B1.out.trans (b2.mono B1.out.size))
  clear NT1 b2 B1
  go_upto_region 4 with fail
  rw [← hw2, ← hT]
  clear hw2 hT
  by_cases hok : TreeOkP ns
  rotate_left
  · have HNO := (show Hid (¬ TreeOkP ns) from hok)
    clear hok
    go_wp2_with fail
    go_at_call 12
    refine Calls.mono (itreeHang_no NT2.out HFT.out (by omega) z y HNO.out) ?_
    rintro e w3 ⟨rfl, b3⟩
    have gT3 := (b3.block _ (blk_lt GT2.out)).trans GT2.out
    have cT3 := (six_one gT3).1
    have GT3 := (show Hid (w3.heap[T]? = some (.cells #[.slice na ns.length ncap] 26 (0, 0))) from gT3)
    have NT3 := (show Hid (NodesAt w3 (.slice na ns.length ncap) ns) from NT2.out.below b3)
    have B3 := (show Hid (Below w0.heap.size w0 w3) from B2.out.trans (b3.mono B2.out.size))
    clear gT3 GT2 cT2 NT2 b3 B2
    obtain ⟨w4, hw4⟩ : ∃ x, x = w3.alloc (.cells #[.slice none 0 0] 26) := ⟨_, rfl⟩
    have b4 : Below w3.heap.size w3 w4 := by rw [hw4]; exact (Below.refl _ _).alloc (Nat.le_refl _) _
    have gn4 : w4.heap[w3.heap.size]? = some (.cells #[.slice none 0 0] 26 (0, 0)) := by rw [hw4]; exact World.alloc_heap_new _ _
    obtain ⟨X, hX⟩ : ∃ x, x = w3.heap.size := ⟨_, rfl⟩
    rw [← hX] at gn4
    have cX4 := (six_one gn4).1
    have GX4 := (show Hid (w4.heap[X]? = some (.cells #[.slice none 0 0] 26 (0, 0))) from gn4)
    clear gn4
    have gT4 := (b4.block _ (blk_lt GT3.out)).trans GT3.out
    have cT4 := (six_one gT4).1
    have GT4 := (show Hid (w4.heap[T]? = some (.cells #[.slice na ns.length ncap] 26 (0, 0))) from gT4)
    have NT4 := (show Hid (NodesAt w4 (.slice na ns.length ncap) ns) from NT3.out.below b4)
    have B4 := (show Hid (Below w0.heap.size w0 w4) from B3.out.trans (b4.mono B3.out.size))
    clear gT4 GT3 cT3 NT3 b4 B3
    go_upto_region 5 with fail
    rw [← hw4, ← hX]
    clear hw4 hX
    go_wp2_with fail
    go_at_call 13
    refine Calls.mono (streeHang_any NT4.out HFT.out (by omega) z y) ?_
    rintro e w5 ⟨ua, un, uc, r, rfl, hr, b5⟩
    obtain rfl : r = false := by
      cases r with
      | false => rfl
      | true => exact absurd (hr.mp rfl).1.1 HNO.out
    clear hr
    have gT5 := (b5.block _ (blk_lt GT4.out)).trans GT4.out
    have cT5 := (six_one gT5).1
    have GT5 := (show Hid (w5.heap[T]? = some (.cells #[.slice na ns.length ncap] 26 (0, 0))) from gT5)
    have gX5 := (b5.block _ (blk_lt GX4.out)).trans GX4.out
    have cX5 := (six_one gX5).1
    have GX5 := (show Hid (w5.heap[X]? = some (.cells #[.slice none 0 0] 26 (0, 0))) from gX5)
    have NT5 := (show Hid (NodesAt w5 (.slice na ns.length ncap) ns) from NT4.out.below b5)
    have B5 := (show Hid (Below w0.heap.size w0 w5) from B4.out.trans (b5.mono B4.out.size))
    clear gT5 GT4 cT4 gX5 GX4 cX4 NT4 b5 B4
    obtain ⟨w6, hw6⟩ : ∃ x, x = w5.alloc (.cells #[.slice ua un uc] 26) := ⟨_, rfl⟩
    have b6 : Below w5.heap.size w5 w6 := by rw [hw6]; exact (Below.refl _ _).alloc (Nat.le_refl _) _
    have gn6 : w6.heap[w5.heap.size]? = some (.cells #[.slice ua un uc] 26 (0, 0)) := by rw [hw6]; exact World.alloc_heap_new _ _
    obtain ⟨U, hU⟩ : ∃ x, x = w5.heap.size := ⟨_, rfl⟩
    rw [← hU] at gn6
    have cU6 := (six_one gn6).1
    have GU6 := (show Hid (w6.heap[U]? = some (.cells #[.slice ua un uc] 26 (0, 0))) from gn6)
    clear gn6
    have gT6 := (b6.block _ (blk_lt GT5.out)).trans GT5.out
    have cT6 := (six_one gT6).1
    have GT6 := (show Hid (w6.heap[T]? = some (.cells #[.slice na ns.length ncap] 26 (0, 0))) from gT6)
    have gX6 := (b6.block _ (blk_lt GX5.out)).trans GX5.out
    have cX6 := (six_one gX6).1
    have GX6 := (show Hid (w6.heap[X]? = some (.cells #[.slice none 0 0] 26 (0, 0))) from gX6)
    have NT6 := (show Hid (NodesAt w6 (.slice na ns.length ncap) ns) from NT5.out.below b6)
    have B6 := (show Hid (Below w0.heap.size w0 w6) from B5.out.trans (b6.mono B5.out.size))
    clear gT6 GT5 cT5 gX6 GX5 cX5 NT5 b6 B5
    go_upto_region 6 with fail
    rw [← hw6, ← hU]
    clear hw6 hU
    go_wp2_with fail
    go_at_call 14
    refine Calls.mono (streeOk_any NT6.out HFT.out (by omega)) ?_
    rintro e w7 ⟨r, rfl, hr, b7⟩
    obtain rfl : r = false := by
      cases r with
      | false => rfl
      | true => exact absurd (hr.mp rfl).1 HNO.out
    clear hr
    have gT7 := (b7.block _ (blk_lt GT6.out)).trans GT6.out
    have cT7 := (six_one gT7).1
    have GT7 := (show Hid (w7.heap[T]? = some (.cells #[.slice na ns.length ncap] 26 (0, 0))) from gT7)
    have gX7 := (b7.block _ (blk_lt GX6.out)).trans GX6.out
    have cX7 := (six_one gX7).1
    have GX7 := (show Hid (w7.heap[X]? = some (.cells #[.slice none 0 0] 26 (0, 0))) from gX7)
    have gU7 := (b7.block _ (blk_lt GU6.out)).trans GU6.out
    have cU7 := (six_one gU7).1
    have GU7 := (show Hid (w7.heap[U]? = some (.cells #[.slice ua un uc] 26 (0, 0))) from gU7)
    have NT7 := (show Hid (NodesAt w7 (.slice na ns.length ncap) ns) from NT6.out.below b7)
    have B7 := (show Hid (Below w0.heap.size w0 w7) from B6.out.trans (b7.mono B6.out.size))
    clear gT7 GT6 cT6 gX7 GX6 cX6 gU7 GU6 cU6 NT6 b7 B6
    go_wp2_with fail
    go_at_call 15
    refine Calls.mono (itreeOk_any NT7.out HFT.out (by omega)) ?_
    rintro e w8 ⟨r, rfl, hr, b8⟩
    obtain rfl : r = false := by
      cases r with
      | false => rfl
      | true => exact absurd (hr.mp rfl) HNO.out
    clear hr
    have gT8 := (b8.block _ (blk_lt GT7.out)).trans GT7.out
    have cT8 := (six_one gT8).1
    have GT8 := (show Hid (w8.heap[T]? = some (.cells #[.slice na ns.length ncap] 26 (0, 0))) from gT8)
    have gX8 := (b8.block _ (blk_lt GX7.out)).trans GX7.out
    have cX8 := (six_one gX8).1
    have GX8 := (show Hid (w8.heap[X]? = some (.cells #[.slice none 0 0] 26 (0, 0))) from gX8)
    have gU8 := (b8.block _ (blk_lt GU7.out)).trans GU7.out
    have cU8 := (six_one gU8).1
    have GU8 := (show Hid (w8.heap[U]? = some (.cells #[.slice ua un uc] 26 (0, 0))) from gU8)
    have NT8 := (show Hid (NodesAt w8 (.slice na ns.length ncap) ns) from NT7.out.below b8)
    have B8 := (show Hid (Below w0.heap.size w0 w8) from B7.out.trans (b8.mono B7.out.size))
    clear gT8 GT7 cT7 gX8 GX7 cX7 gU8 GU7 cU7 NT7 b8 B7
    go_wp2
    go_ret
    exact ⟨rfl, B8.out⟩
  · have HOK := (show Hid (STreeOkP ns) from ⟨hok, HPR.out hok⟩)
    clear hok
    go_wp2_with fail
    go_at_call 12
    refine Calls.mono (itreeHang_any NT2.out HFT.out (by omega) z y HOK.out.1) ?_
    rintro e w3 ⟨xv, r, rfl, hr, hxn, b3⟩
    have HR := (show Hid (r = true ↔ HangB ns z y) from hr.trans (hang_iff HOK.out z y).symm)
    have HRH := (show Hid _ from hr)
    have HXN := (show Hid (NodesAt w3 xv (if r = true then hangN ns z.toNat y.toNat else ns)) from hxn)
    clear hr hxn
    have gT3 := (b3.block _ (blk_lt GT2.out)).trans GT2.out
    have cT3 := (six_one gT3).1
    have GT3 := (show Hid (w3.heap[T]? = some (.cells #[.slice na ns.length ncap] 26 (0, 0))) from gT3)
    have NT3 := (show Hid (NodesAt w3 (.slice na ns.length ncap) ns) from NT2.out.below b3)
    have B3 := (show Hid (Below w0.heap.size w0 w3) from B2.out.trans (b3.mono B2.out.size))
    clear gT3 GT2 cT2 NT2 b3 B2
    cases r
    · have hxn : NodesAt w3 xv ns := by have := HXN.out; simpa using this
      have hml : ns.length = ns.length := rfl
      obtain ⟨xa, xc, e0, hx1, hx2, _⟩ := hxn.slice
      rw [hml] at e0 hx1
      subst e0
      have NX3 := (show Hid (NodesAt w3 (.slice xa ns.length xc) ns) from hxn)
      clear hxn HXN
      clear hml
      obtain ⟨w4, hw4⟩ : ∃ x, x = w3.alloc (.cells #[.slice xa ns.length xc] 26) := ⟨_, rfl⟩
      have b4 : Below w3.heap.size w3 w4 := by rw [hw4]; exact (Below.refl _ _).alloc (Nat.le_refl _) _
      have gn4 : w4.heap[w3.heap.size]? = some (.cells #[.slice xa ns.length xc] 26 (0, 0)) := by rw [hw4]; exact World.alloc_heap_new _ _
      obtain ⟨X, hX⟩ : ∃ x, x = w3.heap.size := ⟨_, rfl⟩
      rw [← hX] at gn4
      have cX4 := (six_one gn4).1
      have GX4 := (show Hid (w4.heap[X]? = some (.cells #[.slice xa ns.length xc] 26 (0, 0))) from gn4)
      clear gn4
      have gT4 := (b4.block _ (blk_lt GT3.out)).trans GT3.out
      have cT4 := (six_one gT4).1
      have GT4 := (show Hid (w4.heap[T]? = some (.cells #[.slice na ns.length ncap] 26 (0, 0))) from gT4)
      have NT4 := (show Hid (NodesAt w4 (.slice na ns.length ncap) ns) from NT3.out.below b4)
      have NX4 := (show Hid (NodesAt w4 (.slice xa ns.length xc) ns) from NX3.out.below b4)
      have B4 := (show Hid (Below w0.heap.size w0 w4) from B3.out.trans (b4.mono B3.out.size))
      clear gT4 GT3 cT3 NT3 NX3 b4 B3
      go_upto_region 5 with fail
      rw [← hw4, ← hX]
      clear hw4 hX
      go_wp2_with fail
      go_at_call 13
      refine Calls.mono (streeHang_any NT4.out HFT.out (by omega) z y) ?_
      rintro e w5 ⟨ua, un, uc, r, rfl, hr, b5⟩
      obtain rfl : r = false := by
        cases r with
        | false => rfl
        | true => exact absurd (HR.out.mpr (hr.mp rfl)) (by decide)
      clear hr
      have gT5 := (b5.block _ (blk_lt GT4.out)).trans GT4.out
      have cT5 := (six_one gT5).1
      have GT5 := (show Hid (w5.heap[T]? = some (.cells #[.slice na ns.length ncap] 26 (0, 0))) from gT5)
      have gX5 := (b5.block _ (blk_lt GX4.out)).trans GX4.out
      have cX5 := (six_one gX5).1
      have GX5 := (show Hid (w5.heap[X]? = some (.cells #[.slice xa ns.length xc] 26 (0, 0))) from gX5)
      have NT5 := (show Hid (NodesAt w5 (.slice na ns.length ncap) ns) from NT4.out.below b5)
      have NX5 := (show Hid (NodesAt w5 (.slice xa ns.length xc) ns) from NX4.out.below b5)
      have B5 := (show Hid (Below w0.heap.size w0 w5) from B4.out.trans (b5.mono B4.out.size))
      clear gT5 GT4 cT4 gX5 GX4 cX4 NT4 NX4 b5 B4
      obtain ⟨w6, hw6⟩ : ∃ x, x = w5.alloc (.cells #[.slice ua un uc] 26) := ⟨_, rfl⟩
      have b6 : Below w5.heap.size w5 w6 := by rw [hw6]; exact (Below.refl _ _).alloc (Nat.le_refl _) _
      have gn6 : w6.heap[w5.heap.size]? = some (.cells #[.slice ua un uc] 26 (0, 0)) := by rw [hw6]; exact World.alloc_heap_new _ _
      obtain ⟨U, hU⟩ : ∃ x, x = w5.heap.size := ⟨_, rfl⟩
      rw [← hU] at gn6
      have cU6 := (six_one gn6).1
      have GU6 := (show Hid (w6.heap[U]? = some (.cells #[.slice ua un uc] 26 (0, 0))) from gn6)
      clear gn6
      have gT6 := (b6.block _ (blk_lt GT5.out)).trans GT5.out
      have cT6 := (six_one gT6).1
      have GT6 := (show Hid (w6.heap[T]? = some (.cells #[.slice na ns.length ncap] 26 (0, 0))) from gT6)
      have gX6 := (b6.block _ (blk_lt GX5.out)).trans GX5.out
      have cX6 := (six_one gX6).1
      have GX6 := (show Hid (w6.heap[X]? = some (.cells #[.slice xa ns.length xc] 26 (0, 0))) from gX6)
      have NT6 := (show Hid (NodesAt w6 (.slice na ns.length ncap) ns) from NT5.out.below b6)
      have NX6 := (show Hid (NodesAt w6 (.slice xa ns.length xc) ns) from NX5.out.below b6)
      have B6 := (show Hid (Below w0.heap.size w0 w6) from B5.out.trans (b6.mono B5.out.size))
      clear gT6 GT5 cT5 gX6 GX5 cX5 NT5 NX5 b6 B5
      go_upto_region 6 with fail
      rw [← hw6, ← hU]
      clear hw6 hU
      go_wp2_with fail
      go_at_call 14
      refine Calls.mono (streeOk_any NT6.out HFT.out (by omega)) ?_
      rintro e w7 ⟨r, rfl, hr, b7⟩
      obtain rfl : r = true := hr.mpr HOK.out
      clear hr
      have gT7 := (b7.block _ (blk_lt GT6.out)).trans GT6.out
      have cT7 := (six_one gT7).1
      have GT7 := (show Hid (w7.heap[T]? = some (.cells #[.slice na ns.length ncap] 26 (0, 0))) from gT7)
      have gX7 := (b7.block _ (blk_lt GX6.out)).trans GX6.out
      have cX7 := (six_one gX7).1
      have GX7 := (show Hid (w7.heap[X]? = some (.cells #[.slice xa ns.length xc] 26 (0, 0))) from gX7)
      have gU7 := (b7.block _ (blk_lt GU6.out)).trans GU6.out
      have cU7 := (six_one gU7).1
      have GU7 := (show Hid (w7.heap[U]? = some (.cells #[.slice ua un uc] 26 (0, 0))) from gU7)
      have NT7 := (show Hid (NodesAt w7 (.slice na ns.length ncap) ns) from NT6.out.below b7)
      have NX7 := (show Hid (NodesAt w7 (.slice xa ns.length xc) ns) from NX6.out.below b7)
      have B7 := (show Hid (Below w0.heap.size w0 w7) from B6.out.trans (b7.mono B6.out.size))
      clear gT7 GT6 cT6 gX7 GX6 cX6 gU7 GU6 cU6 NT6 NX6 b7 B6
      go_wp2_with fail
      go_at_call 15
      refine Calls.mono (itreeOk_any NX7.out HFT.out (by omega)) ?_
      rintro e w8 ⟨r, rfl, hr, b8⟩
      obtain rfl : r = true := hr.mpr HOK.out.1
      clear hr
      have gT8 := (b8.block _ (blk_lt GT7.out)).trans GT7.out
      have cT8 := (six_one gT8).1
      have GT8 := (show Hid (w8.heap[T]? = some (.cells #[.slice na ns.length ncap] 26 (0, 0))) from gT8)
      have gX8 := (b8.block _ (blk_lt GX7.out)).trans GX7.out
      have cX8 := (six_one gX8).1
      have GX8 := (show Hid (w8.heap[X]? = some (.cells #[.slice xa ns.length xc] 26 (0, 0))) from gX8)
      have gU8 := (b8.block _ (blk_lt GU7.out)).trans GU7.out
      have cU8 := (six_one gU8).1
      have GU8 := (show Hid (w8.heap[U]? = some (.cells #[.slice ua un uc] 26 (0, 0))) from gU8)
      have NT8 := (show Hid (NodesAt w8 (.slice na ns.length ncap) ns) from NT7.out.below b8)
      have NX8 := (show Hid (NodesAt w8 (.slice xa ns.length xc) ns) from NX7.out.below b8)
      have B8 := (show Hid (Below w0.heap.size w0 w8) from B7.out.trans (b8.mono B7.out.size))
      clear gT8 GT7 cT7 gX8 GX7 cX7 gU8 GU7 cU7 NT7 NX7 b8 B7
      go_wp2_with fail
      go_at_call 16
      refine Calls.mono (itreeSame_of (fun h1 h2 h3 => itidy_any h1 h2 h3) NX8.out NT8.out HFT.out HFT.out (by omega) (by omega) HOK.out.1 HOK.out.1) ?_
      rintro e w9 ⟨r, rfl, hr, b9⟩
      obtain rfl : r = true := hr.mpr rfl
      clear hr
      have gT9 := (b9.block _ (blk_lt GT8.out)).trans GT8.out
      have cT9 := (six_one gT9).1
      have GT9 := (show Hid (w9.heap[T]? = some (.cells #[.slice na ns.length ncap] 26 (0, 0))) from gT9)
      have gX9 := (b9.block _ (blk_lt GX8.out)).trans GX8.out
      have cX9 := (six_one gX9).1
      have GX9 := (show Hid (w9.heap[X]? = some (.cells #[.slice xa ns.length xc] 26 (0, 0))) from gX9)
      have gU9 := (b9.block _ (blk_lt GU8.out)).trans GU8.out
      have cU9 := (six_one gU9).1
      have GU9 := (show Hid (w9.heap[U]? = some (.cells #[.slice ua un uc] 26 (0, 0))) from gU9)
      have NT9 := (show Hid (NodesAt w9 (.slice na ns.length ncap) ns) from NT8.out.below b9)
      have NX9 := (show Hid (NodesAt w9 (.slice xa ns.length xc) ns) from NX8.out.below b9)
      have B9 := (show Hid (Below w0.heap.size w0 w9) from B8.out.trans (b9.mono B8.out.size))
      clear gT9 GT8 cT8 gX9 GX8 cX8 gU9 GU8 cU8 NT8 NX8 b9 B8
      go_wp2
      go_ret
      exact ⟨rfl, B9.out⟩
    · have hxn : NodesAt w3 xv (hangN ns z.toNat y.toNat) := by have := HXN.out; simpa using this
      have hml : (hangN ns z.toNat y.toNat).length = ns.length := by simp [hangN_len]
      obtain ⟨xa, xc, e0, hx1, hx2, _⟩ := hxn.slice
      rw [hml] at e0 hx1
      subst e0
      have NX3 := (show Hid (NodesAt w3 (.slice xa ns.length xc) (hangN ns z.toNat y.toNat)) from hxn)
      clear hxn HXN
      have HHB := (show Hid (HangB ns z y) from HR.out.mp rfl)
      have HH := (show Hid _ from HRH.out.mp rfl)
      have HST : Hid (STreeOkP (hangN ns z.toNat y.toNat)) := by
        have hb := HHB.out
        obtain ⟨h4, h5⟩ := hb.2.2.2.2.1
        have h1 := hb.2.1
        have h3 := hb.2.2.2.1
        exact hang_ok HOK.out (by omega) h4 (by omega) h5 (fun d hd => hb.2.2.2.2.2 ⟨d, hd⟩)
      have HFX : Hid (∀ n ∈ (hangN ns z.toNat y.toNat), NodeFit n) := hangN_fit (fun n hn => ⟨HFT.out n hn, by have := kids_few HOK.out.1 n hn; omega⟩)
      have hzr : z ≠ 0 ∧ (0 ≤ z ∧ z < ns.length) ∧ (0 ≤ y ∧ y < ns.length) := HH.out.1
      obtain ⟨zn, rfl⟩ : ∃ zn : Nat, z = zn := ⟨z.toNat, by omega⟩
      obtain ⟨yn, rfl⟩ : ∃ yn : Nat, y = yn := ⟨y.toNat, by omega⟩
      rw [Int.toNat_natCast, Int.toNat_natCast] at *
      have HML := (show Hid ((hangN ns zn yn).length = ns.length) from hml)
      clear hml
      obtain ⟨w4, hw4⟩ : ∃ x, x = w3.alloc (.cells #[.slice xa ns.length xc] 26) := ⟨_, rfl⟩
      have b4 : Below w3.heap.size w3 w4 := by rw [hw4]; exact (Below.refl _ _).alloc (Nat.le_refl _) _
      have gn4 : w4.heap[w3.heap.size]? = some (.cells #[.slice xa ns.length xc] 26 (0, 0)) := by rw [hw4]; exact World.alloc_heap_new _ _
      obtain ⟨X, hX⟩ : ∃ x, x = w3.heap.size := ⟨_, rfl⟩
      rw [← hX] at gn4
      have cX4 := (six_one gn4).1
      have GX4 := (show Hid (w4.heap[X]? = some (.cells #[.slice xa ns.length xc] 26 (0, 0))) from gn4)
      clear gn4
      have gT4 := (b4.block _ (blk_lt GT3.out)).trans GT3.out
      have cT4 := (six_one gT4).1
      have GT4 := (show Hid (w4.heap[T]? = some (.cells #[.slice na ns.length ncap] 26 (0, 0))) from gT4)
      have NT4 := (show Hid (NodesAt w4 (.slice na ns.length ncap) ns) from NT3.out.below b4)
      have NX4 := (show Hid (NodesAt w4 (.slice xa ns.length xc) (hangN ns zn yn)) from NX3.out.below b4)
      have B4 := (show Hid (Below w0.heap.size w0 w4) from B3.out.trans (b4.mono B3.out.size))
      clear gT4 GT3 cT3 NT3 NX3 b4 B3
      go_upto_region 5 with fail
      rw [← hw4, ← hX]
      clear hw4 hX
      go_wp2_with fail
      go_at_call 13
      refine Calls.mono (streeHang_any NT4.out HFT.out (by omega) (zn : Int) (yn : Int)) ?_
      rintro e w5 ⟨ua, un, uc, r, rfl, hr, b5⟩
      obtain rfl : r = true := by
        cases r with
        | true => rfl
        | false => exact absurd (hr.mpr HHB.out) (by decide)
      clear hr
      have gT5 := (b5.block _ (blk_lt GT4.out)).trans GT4.out
      have cT5 := (six_one gT5).1
      have GT5 := (show Hid (w5.heap[T]? = some (.cells #[.slice na ns.length ncap] 26 (0, 0))) from gT5)
      have gX5 := (b5.block _ (blk_lt GX4.out)).trans GX4.out
      have cX5 := (six_one gX5).1
      have GX5 := (show Hid (w5.heap[X]? = some (.cells #[.slice xa ns.length xc] 26 (0, 0))) from gX5)
      have NT5 := (show Hid (NodesAt w5 (.slice na ns.length ncap) ns) from NT4.out.below b5)
      have NX5 := (show Hid (NodesAt w5 (.slice xa ns.length xc) (hangN ns zn yn)) from NX4.out.below b5)
      have B5 := (show Hid (Below w0.heap.size w0 w5) from B4.out.trans (b5.mono B4.out.size))
      clear gT5 GT4 cT4 gX5 GX4 cX4 NT4 NX4 b5 B4
      obtain ⟨w6, hw6⟩ : ∃ x, x = w5.alloc (.cells #[.slice ua un uc] 26) := ⟨_, rfl⟩
      have b6 : Below w5.heap.size w5 w6 := by rw [hw6]; exact (Below.refl _ _).alloc (Nat.le_refl _) _
      have gn6 : w6.heap[w5.heap.size]? = some (.cells #[.slice ua un uc] 26 (0, 0)) := by rw [hw6]; exact World.alloc_heap_new _ _
      obtain ⟨U, hU⟩ : ∃ x, x = w5.heap.size := ⟨_, rfl⟩
      rw [← hU] at gn6
      have cU6 := (six_one gn6).1
      have GU6 := (show Hid (w6.heap[U]? = some (.cells #[.slice ua un uc] 26 (0, 0))) from gn6)
      clear gn6
      have gT6 := (b6.block _ (blk_lt GT5.out)).trans GT5.out
      have cT6 := (six_one gT6).1
      have GT6 := (show Hid (w6.heap[T]? = some (.cells #[.slice na ns.length ncap] 26 (0, 0))) from gT6)
      have gX6 := (b6.block _ (blk_lt GX5.out)).trans GX5.out
      have cX6 := (six_one gX6).1
      have GX6 := (show Hid (w6.heap[X]? = some (.cells #[.slice xa ns.length xc] 26 (0, 0))) from gX6)
      have NT6 := (show Hid (NodesAt w6 (.slice na ns.length ncap) ns) from NT5.out.below b6)
      have NX6 := (show Hid (NodesAt w6 (.slice xa ns.length xc) (hangN ns zn yn)) from NX5.out.below b6)
      have B6 := (show Hid (Below w0.heap.size w0 w6) from B5.out.trans (b6.mono B5.out.size))
      clear gT6 GT5 cT5 gX6 GX5 cX5 NT5 NX5 b6 B5
      go_upto_region 6 with fail
      rw [← hw6, ← hU]
      clear hw6 hU
      go_wp2_with fail
      go_at_call 14
      refine Calls.mono (streeOk_any NT6.out HFT.out (by omega)) ?_
      rintro e w7 ⟨r, rfl, hr, b7⟩
      obtain rfl : r = true := hr.mpr HOK.out
      clear hr
      have gT7 := (b7.block _ (blk_lt GT6.out)).trans GT6.out
      have cT7 := (six_one gT7).1
      have GT7 := (show Hid (w7.heap[T]? = some (.cells #[.slice na ns.length ncap] 26 (0, 0))) from gT7)
      have gX7 := (b7.block _ (blk_lt GX6.out)).trans GX6.out
      have cX7 := (six_one gX7).1
      have GX7 := (show Hid (w7.heap[X]? = some (.cells #[.slice xa ns.length xc] 26 (0, 0))) from gX7)
      have gU7 := (b7.block _ (blk_lt GU6.out)).trans GU6.out
      have cU7 := (six_one gU7).1
      have GU7 := (show Hid (w7.heap[U]? = some (.cells #[.slice ua un uc] 26 (0, 0))) from gU7)
      have NT7 := (show Hid (NodesAt w7 (.slice na ns.length ncap) ns) from NT6.out.below b7)
      have NX7 := (show Hid (NodesAt w7 (.slice xa ns.length xc) (hangN ns zn yn)) from NX6.out.below b7)
      have B7 := (show Hid (Below w0.heap.size w0 w7) from B6.out.trans (b7.mono B6.out.size))
      clear gT7 GT6 cT6 gX7 GX6 cX6 gU7 GU6 cU6 NT6 NX6 b7 B6
      go_wp2_with fail
      go_at_call 15
      refine Calls.mono (itreeOk_any NX7.out HFX.out (by rw [HML.out]; omega)) ?_
      rintro e w8 ⟨r, rfl, hr, b8⟩
      obtain rfl : r = true := hr.mpr HST.out.1
      clear hr
      have gT8 := (b8.block _ (blk_lt GT7.out)).trans GT7.out
      have cT8 := (six_one gT8).1
      have GT8 := (show Hid (w8.heap[T]? = some (.cells #[.slice na ns.length ncap] 26 (0, 0))) from gT8)
      have gX8 := (b8.block _ (blk_lt GX7.out)).trans GX7.out
      have cX8 := (six_one gX8).1
      have GX8 := (show Hid (w8.heap[X]? = some (.cells #[.slice xa ns.length xc] 26 (0, 0))) from gX8)
      have gU8 := (b8.block _ (blk_lt GU7.out)).trans GU7.out
      have cU8 := (six_one gU8).1
      have GU8 := (show Hid (w8.heap[U]? = some (.cells #[.slice ua un uc] 26 (0, 0))) from gU8)
      have NT8 := (show Hid (NodesAt w8 (.slice na ns.length ncap) ns) from NT7.out.below b8)
      have NX8 := (show Hid (NodesAt w8 (.slice xa ns.length xc) (hangN ns zn yn)) from NX7.out.below b8)
      have B8 := (show Hid (Below w0.heap.size w0 w8) from B7.out.trans (b8.mono B7.out.size))
      clear gT8 GT7 cT7 gX8 GX7 cX7 gU8 GU7 cU7 NT7 NX7 b8 B7
      obtain ⟨xa', xc', e1, _, _, hcs⟩ := NX8.out.slice
      rw [HML.out] at e1
      cases e1
      have hyl : yn < (hangN ns zn yn).length := by rw [HML.out]; omega
      have hzl : zn < (hangN ns zn yn).length := by rw [HML.out]; omega
      obtain ⟨xb, xo, _, kv, rfl, hxb, _, _, _, _, _, kc, _, ks⟩ := hcs yn hyl
      obtain ⟨_, _, _, _, e2, _, _, _, _, _, pc, _, _, _⟩ := hcs zn hzl
      cases e2
      have hko : (hangN ns zn yn)[yn].kids = lessL (zn : Int) (kidsOf ns yn) ++ [(zn : Int)] := by
        have := kidsOf_hangN HOK.out (c := zn) (p := yn) (by omega) (by omega) yn
        rw [if_pos rfl] at this
        rw [← this]; simp [kidsOf, List.getElem?_eq_getElem hyl]
      have hpo : (hangN ns zn yn)[zn].parent = (yn : Int) := by
        have := parOf_hangN (ns := ns) (c := zn) (p := yn) (by omega) zn
        rw [if_pos rfl] at this
        rw [← this]; exact (parOf_at hzl).symm
      rw [hpo] at pc
      rw [hko] at ks
      have hll := lessL_len (zn : Int) (kidsOf ns yn)
      obtain ⟨m, hm⟩ : ∃ m, m = (lessL (zn : Int) (kidsOf ns yn)).length := ⟨_, rfl⟩
      obtain ⟨ka, kcap, rfl, hk1, hk2, hk3, hk4⟩ := ks
      obtain ⟨kb, ko, rfl, kz⟩ := hk4 m (by simp [hm])
      rw [List.length_append, List.length_singleton, ← hm] at kc hk1
      have kz' : w8.cell? ⟨kb, ko + m, none⟩ = some (.int .i64 (zn : Int)) := by
        rw [kz]; simp [hm]
      have hkb := lt_of_cell kz'
      have ky : (yn : Int) < ns.length := by omega
      have kzl : (zn : Int) < ns.length := by omega
      have hmb : m ≤ 1048576 := by have := HFX.out _ (List.getElem_mem hyl); have := this.kl; rw [hko, List.length_append, ← hm] at this; omega
      clear hcs hko hpo hll kz hk3 hk4 hk2 hm
      go_wp2_with fail
      go_at_call 17
      refine Calls.mono (itreeTake_any NX8.out HFX.out (by rw [HML.out]; omega) (zn : Int) HST.out.1) ?_
      rintro e w9 ⟨av, r, rfl, hr, han, b9⟩
      obtain rfl : r = true := hr.mpr ⟨⟨by omega, by omega, by omega⟩, by simpa using (take_ok HST.out hzl (by omega)).1⟩
      have kcN := (b9.cell (p := ⟨xb, xo + yn * 6 + 5, none⟩) hxb).trans kc
      have pcN := (b9.cell (p := ⟨xb, xo + zn * 6 + 4, none⟩) hxb).trans pc
      have kzN := (b9.cell (p := ⟨kb, ko + m, none⟩) hkb).trans kz'
      have han' : NodesAt w9 av (takeN (hangN ns zn yn) zn) := by simpa using han
      clear han hr kc pc kz'
      have hal : (takeN (hangN ns zn yn) zn).length = ns.length := by rw [takeN_len]; exact HML.out
      obtain ⟨aa, ac, e0, ha1, ha2, has⟩ := han'.slice
      rw [hal] at e0 ha1
      subst e0
      have HAN := (show Hid (NodesAt w9 (.slice aa ns.length ac) (takeN (hangN ns zn yn) zn)) from han')
      have HAL := (show Hid ((takeN (hangN ns zn yn) zn).length = ns.length) from hal)
      clear han' hal has
      have gT9 := (b9.block _ (blk_lt GT8.out)).trans GT8.out
      have cT9 := (six_one gT9).1
      have GT9 := (show Hid (w9.heap[T]? = some (.cells #[.slice na ns.length ncap] 26 (0, 0))) from gT9)
      have gX9 := (b9.block _ (blk_lt GX8.out)).trans GX8.out
      have cX9 := (six_one gX9).1
      have GX9 := (show Hid (w9.heap[X]? = some (.cells #[.slice (some ⟨xb, xo, none⟩) ns.length xc] 26 (0, 0))) from gX9)
      have gU9 := (b9.block _ (blk_lt GU8.out)).trans GU8.out
      have cU9 := (six_one gU9).1
      have GU9 := (show Hid (w9.heap[U]? = some (.cells #[.slice ua un uc] 26 (0, 0))) from gU9)
      have NT9 := (show Hid (NodesAt w9 (.slice na ns.length ncap) ns) from NT8.out.below b9)
      have NX9 := (show Hid (NodesAt w9 (.slice (some ⟨xb, xo, none⟩) ns.length xc) (hangN ns zn yn)) from NX8.out.below b9)
      have B9 := (show Hid (Below w0.heap.size w0 w9) from B8.out.trans (b9.mono B8.out.size))
      clear gT9 GT8 cT8 gX9 GX8 cX8 gU9 GU8 cU8 NT8 NX8 b9 B8
      have NA9 := (show Hid (NodesAt w9 (.slice aa ns.length ac) (takeN (hangN ns zn yn) zn)) from HAN.out)
      clear HAN
      obtain ⟨w10, hw10⟩ : ∃ x, x = w9.alloc (.cells #[.slice aa ns.length ac] 26) := ⟨_, rfl⟩
      have b10 : Below w9.heap.size w9 w10 := by rw [hw10]; exact (Below.refl _ _).alloc (Nat.le_refl _) _
      have gn10 : w10.heap[w9.heap.size]? = some (.cells #[.slice aa ns.length ac] 26 (0, 0)) := by rw [hw10]; exact World.alloc_heap_new _ _
      obtain ⟨A, hA⟩ : ∃ x, x = w9.heap.size := ⟨_, rfl⟩
      rw [← hA] at gn10
      have cA10 := (six_one gn10).1
      have GA10 := (show Hid (w10.heap[A]? = some (.cells #[.slice aa ns.length ac] 26 (0, 0))) from gn10)
      clear gn10
      have bA := b10
      have gT10 := (b10.block _ (blk_lt GT9.out)).trans GT9.out
      have cT10 := (six_one gT10).1
      have GT10 := (show Hid (w10.heap[T]? = some (.cells #[.slice na ns.length ncap] 26 (0, 0))) from gT10)
      have gX10 := (b10.block _ (blk_lt GX9.out)).trans GX9.out
      have cX10 := (six_one gX10).1
      have GX10 := (show Hid (w10.heap[X]? = some (.cells #[.slice (some ⟨xb, xo, none⟩) ns.length xc] 26 (0, 0))) from gX10)
      have gU10 := (b10.block _ (blk_lt GU9.out)).trans GU9.out
      have cU10 := (six_one gU10).1
      have GU10 := (show Hid (w10.heap[U]? = some (.cells #[.slice ua un uc] 26 (0, 0))) from gU10)
      have NT10 := (show Hid (NodesAt w10 (.slice na ns.length ncap) ns) from NT9.out.below b10)
      have NX10 := (show Hid (NodesAt w10 (.slice (some ⟨xb, xo, none⟩) ns.length xc) (hangN ns zn yn)) from NX9.out.below b10)
      have NA10 := (show Hid (NodesAt w10 (.slice aa ns.length ac) (takeN (hangN ns zn yn) zn)) from NA9.out.below b10)
      have B10 := (show Hid (Below w0.heap.size w0 w10) from B9.out.trans (b10.mono B9.out.size))
      clear gT10 GT9 cT9 gX10 GX9 cX9 gU10 GU9 cU9 NT9 NX9 NA9 b10 B9
      go_upto_region 16 with fail
      rw [← hw10, ← hA]
      clear hw10 hA
      obtain ⟨aa', ac', e1, _, _, has⟩ := NA10.out.slice
      rw [HAL.out] at e1
      cases e1
      have hzt : zn < (takeN (hangN ns zn yn) zn).length := by rw [HAL.out]; omega
      obtain ⟨ab, ao, _, _, rfl, hab, _, _, _, _, ap, _, _, _⟩ := has zn hzt
      have hap : (takeN (hangN ns zn yn) zn)[zn].parent = -1 := by
        have := parOf_takeN (ns := (hangN ns zn yn)) (c := zn) hzl zn
        rw [if_pos rfl] at this
        rw [← this]; exact (parOf_at hzt).symm
      rw [hap] at ap
      replace kcN := (bA.cell (p := ⟨xb, xo + yn * 6 + 5, none⟩) (lt_of_cell kcN)).trans kcN
      replace pcN := (bA.cell (p := ⟨xb, xo + zn * 6 + 4, none⟩) (lt_of_cell pcN)).trans pcN
      replace kzN := (bA.cell (p := ⟨kb, ko + m, none⟩) (lt_of_cell kzN)).trans kzN
      clear has hap bA
      go_wp2_with fail
      go_at_call 15
      refine Calls.mono (itreeOk_any NA10.out (takeN_fit HFX.out) (by rw [HAL.out]; omega)) ?_
      rintro e w11 ⟨r, rfl, hr, b11⟩
      obtain rfl : r = true := hr.mpr (take_ok HST.out hzl (by omega)).1
      clear hr
      have gT11 := (b11.block _ (blk_lt GT10.out)).trans GT10.out
      have cT11 := (six_one gT11).1
      have GT11 := (show Hid (w11.heap[T]? = some (.cells #[.slice na ns.length ncap] 26 (0, 0))) from gT11)
      have gX11 := (b11.block _ (blk_lt GX10.out)).trans GX10.out
      have cX11 := (six_one gX11).1
      have GX11 := (show Hid (w11.heap[X]? = some (.cells #[.slice (some ⟨xb, xo, none⟩) ns.length xc] 26 (0, 0))) from gX11)
      have gU11 := (b11.block _ (blk_lt GU10.out)).trans GU10.out
      have cU11 := (six_one gU11).1
      have GU11 := (show Hid (w11.heap[U]? = some (.cells #[.slice ua un uc] 26 (0, 0))) from gU11)
      have gA11 := (b11.block _ (blk_lt GA10.out)).trans GA10.out
      have cA11 := (six_one gA11).1
      have GA11 := (show Hid (w11.heap[A]? = some (.cells #[.slice (some ⟨ab, ao, none⟩) ns.length ac] 26 (0, 0))) from gA11)
      have NT11 := (show Hid (NodesAt w11 (.slice na ns.length ncap) ns) from NT10.out.below b11)
      have NX11 := (show Hid (NodesAt w11 (.slice (some ⟨xb, xo, none⟩) ns.length xc) (hangN ns zn yn)) from NX10.out.below b11)
      have NA11 := (show Hid (NodesAt w11 (.slice (some ⟨ab, ao, none⟩) ns.length ac) (takeN (hangN ns zn yn) zn)) from NA10.out.below b11)
      have B11 := (show Hid (Below w0.heap.size w0 w11) from B10.out.trans (b11.mono B10.out.size))
      clear gT11 GT10 cT10 gX11 GX10 cX10 gU11 GU10 cU10 gA11 GA10 cA10 NT10 NX10 NA10 b11 B10
      go_wp2
      go_ret
      exact ⟨rfl, B11.out⟩

theorem fnTreeOps_walk {v : Value} {xs : List Int} (w : World) (h : Sl .u8 w v xs) (hwf : ∀ n ∈ xs, (Lit.int .u8 n).wf = true) :
    Calls Tryz.prog 3 #[v] w fun e w' => e = .returned (.bool true) ∧ Below w.heap.size w w' := by
  by_cases hl : 1048576 < xs.length
  · exact fnTreeOps_big w h hl
  · exact fnTreeOps_of w h hl (drawTreeHang_any h (byte_ok hwf) (by omega))
end Go.Proofs.YtogdbjafibejdaaGreat
