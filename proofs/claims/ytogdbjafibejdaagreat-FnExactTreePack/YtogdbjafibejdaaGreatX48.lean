/- The law FnExactTreePack, walked: at every tree it returns true and writes nothing that was there. -/
import Derived.Test.YtogdbjafibejdaaGreatX45
import Derived.Test.YtogdbjafibejdaaGreatX47
import Derived.Test.YtogdbjafibejdaaGreatX38
import Derived.Test.YtogdbjafibejdaaGreatX39
import Derived.Test.YtogdbjafibejdaaGreatX24
import Derived.Deep.RegionHeld3
namespace Go.Proofs.YtogdbjafibejdaaGreat
open Go.RowKit
set_option maxRecDepth 100000
set_option linter.unusedVariables false

theorem sz_fit {l : Int} {n : PNode} (h : SzN l n) (hl : l ≤ 1048576) : NodeFit n :=
  ⟨by have := h.nm; omega, by have := h.tx; omega, by have := h.rs; omega, fun p hp => by have := h.each p hp; omega, by have := h.kl; omega⟩

set_option maxHeartbeats 2000000 in
set_option maxRecDepth 100000 in
theorem fnExactTreePack_walk {v : Value} {ns : List PNode} (w : World) (h : NodesAt w v ns) (hin : ∀ n ∈ ns, NodeIn n) :
    Calls Tryz.prog 8 #[.agg #[v]] w fun e w' => e = .returned (.bool true) ∧ Below w.heap.size w w' := by
  obtain ⟨wb, hwb⟩ : ∃ z, z = w.alloc (.cells #[v] 53) := ⟨_, rfl⟩
  have bb : Below w.heap.size w wb := by rw [hwb]; exact (Below.refl _ _).alloc (Nat.le_refl _) _
  have gb : wb.heap[w.heap.size]? = some (.cells #[v] 53 (0, 0)) := by rw [hwb]; exact World.alloc_heap_new _ _
  have hlb := blk_lt gb
  have HCT := (show Hid (∀ W, Below wb.heap.size wb W → W.cell? ⟨w.heap.size, 0, none⟩ = some v) from fun W b => by
    have e := (b.block w.heap.size hlb).trans gb
    simp only [World.cell?, e]; rfl)
  have HWB := (show Hid (wb = _) from hwb)
  have BB := (show Hid (Below w.heap.size w wb) from bb)
  replace h := h.below bb
  have h0 := h
  have hw := h
  have csz := szTree_any h hin 1048576 (by omega) (by omega)
  clear h hin hwb bb gb hlb
  go_enter Tryz.func8, Tryz.ntmps8
  go_wp2_with fail
  go_at_call 35
  rw [← HWB.out]
  refine (csz).mono ?_
  rintro e w0 ⟨r, rfl, hr, B⟩
  clear csz
  rcases hr with hr | ⟨hr0, hr1, hr2⟩
  · go_wp2
    go_ret
    exact ⟨rfl, BB.out.trans (B.mono BB.out.size)⟩
  have hfit : ∀ n ∈ ns, NodeFit n := fun n hn => sz_fit (hr2 n hn) (by omega)
  have hn : ns.length ≤ 1048576 := by omega
  have hsum : ns.length + wtS ns ≤ 1048576 := by omega
  have HQ : ∃ (l : List Int) (r : Bool), l.length ≤ 20000 ∧ ∀ B u r' w', PackA ns B u r' w' → r' = r ∧ Own B 5 .u8 w' u l := by
    by_cases hg : goodT ns
    · exact ⟨packL ns, true, hg.2.2, fun B u r' w' hp => hp.elim (fun h => ⟨h.1, h.2.2⟩) (fun h => absurd hg h.2.1)⟩
    · exact ⟨[], false, Nat.zero_le _, fun B u r' w' hp => hp.elim (fun h => absurd h.2.1 hg) (fun h => ⟨h.1, h.2.2⟩)⟩
  obtain ⟨qs, ok, hl, HP⟩ := HQ
  have HS := (show Hid (∀ (v : Value) (w : World), NodesAt w v ns → Calls Tryz.prog 30 #[.agg #[v]] w fun e w' => ∃ v', e = .returned (.tuple #[v', .bool ok]) ∧ Own w.heap.size 5 .u8 w' v' qs ∧ Below w.heap.size w w') from fun v w h => (streePack_any h hfit hn).mono (by rintro e w' ⟨u, r, rfl, hp, b⟩; obtain ⟨rfl, ho⟩ := HP _ _ _ _ hp; exact ⟨u, rfl, ho, b⟩))
  have HI := (show Hid (∀ (v : Value) (w : World), NodesAt w v ns → Calls Tryz.prog 29 #[.agg #[v]] w fun e w' => ∃ v', e = .returned (.tuple #[v', .bool ok]) ∧ Own w.heap.size 5 .u8 w' v' qs ∧ Below w.heap.size w w') from fun v w h => (itreePack_any h hfit hn).mono (by rintro e w' ⟨u, r, rfl, hp, b⟩; obtain ⟨rfl, ho⟩ := HP _ _ _ _ hp; exact ⟨u, rfl, ho, b⟩))
  have HF := (show Hid (∀ n ∈ ns, NodeFit n) from hfit)
  have e1 : (ok != ok) = false := by cases ok <;> rfl
  clear HP hr2 hfit
  replace h0 := h0.below B
  have cT := HCT.out _ B
  go_wp2_with fail
  clear cT
  go_at_call 36
  refine (toTree_any h0 HF.out hn).mono ?_
  rintro e w1 ⟨x1, rs1, rfl, e1', ox1, _, _, b1⟩
  have n1 := ox1.n.nodes
  rw [e1'] at n1
  clear ox1 e1'
  replace h0 := h0.below b1
  go_wp2_with fail
  go_at_call 30
  refine (HS.out _ _ n1).mono ?_
  rintro e w2 ⟨v1, rfl, o1, b2⟩
  replace h0 := h0.below b2
  replace B := B.trans (b1.mono B.size)
  have hbs := B.size
  replace B := B.trans (b2.mono hbs)
  replace o1 := row_base o1 hbs
  clear n1 b1 b2 HS hbs
  have cT := HCT.out _ B
  go_wp2_with fail
  clear cT
  go_at_call 36
  refine (toTree_any h0 HF.out hn).mono ?_
  rintro e w3 ⟨x0, ps, rfl, e3, ox, ap, apa, b3⟩
  have hbs := B.size
  replace h0 := h0.below b3
  replace o1 := ownsRow_below o1 b3
  replace B := B.trans (b3.mono hbs)
  replace ox := ox.base hbs
  clear b3 hbs
  obtain ⟨xa, xn, xc, rfl⟩ := own_slice ox.1
  obtain ⟨w3a, hw3a⟩ : ∃ z, z = w3.alloc (.cells #[.slice xa xn xc] 26) := ⟨_, rfl⟩
  obtain ⟨X, hX⟩ : ∃ z, z = w3.heap.size := ⟨_, rfl⟩
  have gX : w3a.heap[X]? = some (.cells #[.slice xa xn xc] 26 (0, 0)) := by rw [hw3a, hX]; exact World.alloc_heap_new _ _
  have b3 : Below w3.heap.size w3 w3a := by rw [hw3a]; exact (Below.refl _ _).alloc (Nat.le_refl _) _
  have HCX := (show Hid (∀ W, Below w3a.heap.size w3a W → W.cell? ⟨X, 0, none⟩ = some (.slice xa xn xc)) from fun W b => by
    have e := (b.block X (blk_lt gX)).trans gX
    simp only [World.cell?, e]; rfl)
  replace h0 := h0.below b3
  replace o1 := ownsRow_below o1 b3
  replace ox := ox.below b3
  replace B := B.trans (b3.mono B.size)
  have n0 := ox.n.nodes
  rw [e3] at n0
  clear b3 gX
  have HWX := (show Hid (w3a = _) from hw3a)
  have HXX := (show Hid (X = w3.heap.size) from hX)
  clear hw3a hX
  go_wp2_with fail
  go_at_call 29
  rw [← HWX.out]
  refine (HI.out _ _ n0).mono ?_
  rintro e w4 ⟨v2, rfl, o2, b4⟩
  rw [← HXX.out]
  have d3 := row_ne o1 o2
  have hbs := B.size
  replace h0 := h0.below b4
  replace o1 := ownsRow_below o1 b4
  replace ox := ox.below b4
  replace n0 := n0.below b4
  replace B := B.trans (b4.mono hbs)
  replace o2 := row_base o2 hbs
  have BX := b4
  clear b4 hbs
  go_wp2_with fail
  go_at_call 37
  refine (eqB_any (Own.sl o2) (Own.sl o1) (by omega) (by omega)).mono ?_
  rintro e w5 ⟨rfl, b5⟩
  rw [decide_eq_true rfl]
  replace h0 := h0.below b5
  replace o1 := ownsRow_below o1 b5
  replace ox := ox.below b5
  replace n0 := n0.below b5
  replace o2 := ownsRow_below o2 b5
  replace B := B.trans (b5.mono B.size)
  replace BX := BX.trans (b5.mono BX.size)
  clear b5
  have BD := (show Hid (Below w5.heap.size w5 w5.drew) from below_drewN 1)
  have CT := (show Hid (∀ W, Below w5.heap.size w5 W → Calls Tryz.prog 36 #[.agg #[v]] W fun e w' => ∃ v', e = .returned (.agg #[v']) ∧ NodesAt w' v' ns ∧ Below W.heap.size W w') from fun W b => (toTree_any (h0.below b) HF.out hn).mono (by
    rintro e w' ⟨x2, rs2, rfl, e6, ox2, _, _, b6⟩
    have n2 := ox2.n.nodes
    rw [e6] at n2
    exact ⟨_, rfl, n2, b6⟩))
  have CE := (show Hid (∀ W v', Below w5.heap.size w5 W → NodesAt W v' ns → Calls Tryz.prog 38 #[.agg #[.slice xa xn xc], .agg #[v']] W fun e w' => e = .returned (.bool true) ∧ Below W.heap.size W w') from fun W v' b n => eqTree_same (n0.below b) n HF.out hn)
  have KC := (show Hid (∀ W, Below w5.heap.size w5 W → W.cell? ⟨X, 0, none⟩ = some (.slice xa xn xc) ∧ W.cell? ⟨w.heap.size, 0, none⟩ = some v) from fun W b => ⟨HCX.out _ (BX.trans (b.mono BX.size)), HCT.out _ (B.trans (b.mono B.size))⟩)
  go_upto_region 10 with fail
  go_region_held3 (fun w' => w'.cell? ⟨X, 0, none⟩ = some (.slice xa xn xc) ∧ w'.cell? ⟨w.heap.size, 0, none⟩ = some v)
    (with_reducible first | exact KC.out _ X2.out | exact KC.out _ X1.out | exact KC.out _ BD.out)
    (first
      | (go_at_call 36
         with_reducible refine Calls.mono (CT.out w5.drew BD.out) ?_
         rintro e x1 ⟨v', rfl, n1, b1⟩
         have N1 := (show Hid (NodesAt x1 v' ns) from n1)
         have X1 := (show Hid (Below w5.heap.size w5 x1) from BD.out.trans (b1.mono BD.out.size))
         clear b1 n1)
      | (go_at_call 38
         with_reducible refine Calls.mono (CE.out x1 _ X1.out N1.out) ?_
         rintro e w7 ⟨rfl, b1⟩
         have X2 := (show Hid (Below w5.heap.size w5 w7) from X1.out.trans (b1.mono X1.out.size))
         clear b1)
      | fail)
  have b7 := X2.out
  clear n0 X1 X2 N1 BD CT CE KC
  replace h0 := h0.below b7
  replace o1 := ownsRow_below o1 b7
  replace ox := ox.below b7
  replace o2 := ownsRow_below o2 b7
  replace B := B.trans (b7.mono B.size)
  replace BX := BX.trans (b7.mono BX.size)
  clear b7
  have cX := HCX.out _ BX
  have hps : ps.length + wtS (ps.map fun q => q.1) ≤ 1048576 := by
    have hh : ps.length = ns.length := by rw [← e3, List.length_map]
    rw [e3, hh]; exact hsum
  go_wp2_with fail
  go_at_call 39
  refine (markTree_any B.size ox ap apa 1 (by omega) (by omega) hps).mono ?_
  rintro e w8 ⟨k, ps', rfl, hk, _, _, f8⟩
  clear cX BX HCX
  replace o1 := own_mark o1 f8
  replace o2 := own_mark o2 f8
  replace B := f8.below (Nat.le_refl _) B (Nat.le_refl _) B.size
  clear f8 ox ap apa e3 hps
  replace h0 := hw.below B
  go_wp2_with fail
  go_at_call 37
  refine (eqB_any (Own.sl o2) (Own.sl o1) (by omega) (by omega)).mono ?_
  rintro e w9 ⟨rfl, b9⟩
  rw [decide_eq_true rfl]
  replace h0 := h0.below b9
  replace o1 := ownsRow_below o1 b9
  replace o2 := ownsRow_below o2 b9
  replace B := B.trans (b9.mono B.size)
  clear b9
  go_wp2_with fail
  go_at_call 40
  refine (markB_any o2 (by omega) (by omega) (by omega)).mono ?_
  rintro e w10 ⟨rfl, o2m, g10⟩
  replace o1 := row_kept o1 g10 d3
  replace B := B.grown g10 B.size (fun k hk => (World.ownsRow.lt o2 k hk).1)
  replace h0 := hw.below B
  clear g10 d3 o2
  go_wp2_with fail
  go_at_call 41
  refine (heldB_any (Own.sl o2m) (by omega) (by omega) (by omega)).mono ?_
  rintro e w11 ⟨rfl, b11⟩
  replace h0 := h0.below b11
  replace o1 := ownsRow_below o1 b11
  replace o2m := ownsRow_below o2m b11
  replace B := B.trans (b11.mono B.size)
  clear b11
  have cT := HCT.out _ B
  go_wp2_with fail
  clear cT
  go_at_call 36
  refine (toTree_any h0 HF.out hn).mono ?_
  rintro e w12 ⟨x3, rs3, rfl, e12, ox3, _, _, b12⟩
  have n3 := ox3.n.nodes
  rw [e12] at n3
  clear ox3 e12
  replace h0 := h0.below b12
  replace o1 := ownsRow_below o1 b12
  replace o2m := ownsRow_below o2m b12
  replace B := B.trans (b12.mono B.size)
  clear b12
  go_wp2_with fail
  go_at_call 29
  refine (HI.out _ _ n3).mono ?_
  rintro e w13 ⟨v3, rfl, o3, b13⟩
  clear n3
  replace h0 := h0.below b13
  replace o1 := ownsRow_below o1 b13
  replace o2m := ownsRow_below o2m b13
  replace B := B.trans (b13.mono B.size)
  clear b13
  go_wp2_with fail
  go_at_call 37
  refine (eqB_any (Own.sl o3) (Own.sl o1) (by omega) (by omega)).mono ?_
  rintro e w14 ⟨rfl, b14⟩
  rw [decide_eq_true rfl]
  clear o3 o1
  replace o2m := ownsRow_below o2m b14
  replace B := B.trans (b14.mono B.size)
  clear b14
  go_wp2_with fail
  go_at_call 41
  refine (heldB_any (Own.sl o2m) (by omega) (by omega) (by omega)).mono ?_
  rintro e w15 ⟨rfl, b15⟩
  clear o2m
  replace B := B.trans (b15.mono B.size)
  go_wp2
  go_ret
  exact ⟨rfl, BB.out.trans (B.mono BB.out.size)⟩
end Go.Proofs.YtogdbjafibejdaaGreat
