/- The specification's TreeOk. No condition. -/
import Derived.Test.YtogdbjafibejdaaGreatY28
import Derived.Test.YtogdbjafibejdaaGreatY4
import Derived.Test.YtogdbjafibejdaaGreatY3
import Derived.Test.YtogdbjafibejdaaGreatY21
namespace Go.Proofs.YtogdbjafibejdaaGreat
open Go.RowKit
set_option maxRecDepth 100000
set_option linter.unusedVariables false

structure SeenW (w : World) (v : Value) (ns : List PNode) (k : Nat) (pre : List Int) (W : World) : Prop where
  bT : W.heap[w.heap.size]? = some (.cells #[v] 26 (0, 0))
  bS : ∃ arr, W.heap[w.heap.size + 1]? = some (.cells arr 4 (0, 0)) ∧ StandsN ns.length ns k pre arr
  bel : Below w.heap.size w W
theorem SeenW.below {w : World} {v : Value} {ns : List PNode} {k : Nat} {pre : List Int} {W W' : World} (h : SeenW w v ns k pre W) (b : Below W.heap.size W W') : SeenW w v ns k pre W' := by
  obtain ⟨h1, ⟨arr, h2, h2'⟩, h3⟩ := h
  exact ⟨(b.block _ (blk_lt h1)).trans h1, ⟨arr, (b.block _ (blk_lt h2)).trans h2, h2'⟩, h3.trans (b.mono h3.size)⟩
structure SeenP (ns : List PNode) (k : Nat) : Prop where
  good : ∀ j (h : j < ns.length), j < k → goodB ns[j] j = true
  par : ∀ j, j < k → SPar ns j
  fit : ∀ i, i < k → FitPre ns i (kidsOf ns i)

theorem seen_start {w w1 w3 : World} {v : Value} {ns : List PNode} (g1 : w1.heap[w.heap.size]? = some (.cells #[v] 26 (0, 0))) (s1 : w1.heap.size = w.heap.size + 1) (b1 : Below w.heap.size w w1) (hn : 1 ≤ ns.length)
    (o3 : w3.ownsRow (w.heap.size + 1) 4 1 (.slice (some ⟨w1.heap.size, 0, none⟩) ns.length ns.length) ns.length (madeCells (Value.bool false).cells (ns.length * 1)).toList) (g3 : w1.grownBy w3 none) : SeenW w v ns 0 [] w3 := by
  have b3 : Below w1.heap.size w1 w3 := ⟨g3.os, g3.tape, g3.output, g3.size, fun k hk => g3.block k hk (fun e => by cases e)⟩
  have e1 : (madeCells (Value.bool false).cells ns.length).toList = List.replicate ns.length (Value.bool false) := toList_madeCells_one _ _
  rw [Nat.mul_one, e1] at o3
  obtain ⟨hl, ⟨hv, h0⟩ | ⟨g, cap, cur, hv, hB, hh, hn', hm, hz, ht⟩⟩ := o3
  · omega
  · cases hv
    rw [s1] at hh
    refine ⟨(b3.block _ (blk_lt g1)).trans g1, ⟨cur, hh, standsN_zero _ _ _ ?_⟩, b1.trans (b3.mono b1.size)⟩
    rw [List.take_of_length_le (by simp; omega)] at ht
    exact Array.toList_inj.mp (by rw [ht]; simp)

def NodeBox (g : Nat) (k0 : Int) (k1 : ByteArray) (av : Value) (k3 : ByteArray) (kv : Value) (W : World) : Prop := ∃ k4 : Int, W.heap[g]? = some (.cells #[.int .i64 k0, .string k1, av, .string k3, .int .i64 k4, kv] 36 (0, 0))

theorem lt_of_cell {w : World} {g o : Nat} {u : Value} (h : w.cell? ⟨g, o, none⟩ = some u) : g < w.heap.size := by
  by_cases hlt : g < w.heap.size
  · exact hlt
  · exfalso; simp [World.cell?, Array.getElem?_eq_none (Nat.le_of_not_lt hlt)] at h

theorem Tryz.infoBool : (Tryz.prog.info? 4).map (fun i => (i.zero, i.size, i.bytes)) = some (some (.bool false), 1, 1) := by kernel_rfl

set_option maxHeartbeats 2000000 in
theorem streeOk_any {w : World} {v : Value} {ns : List PNode} (hn : NodesAt w v ns) (hfit : ∀ n ∈ ns, NodeFit n) (hlen : ns.length ≤ 1048576) :
    Calls Tryz.prog 14 #[.agg #[v]] w fun e w' => ∃ r, e = .returned (.bool r) ∧ (r = true ↔ STreeOkP ns) ∧ Below w.heap.size w w' := by
  have HFIT := (show Hid (∀ n ∈ ns, NodeFit n) from hfit)
  obtain ⟨a, cap, rfl, hc1, hc2, hcs⟩ := hn.slice
  have C0 := fun w => l1In_any ns.length 1 500 w
  have HC0 := (show Hid _ from C0)
  have bT0 : Below w.heap.size w (w.alloc (.cells #[.slice a ns.length cap] 26)) := (Below.refl _ _).alloc (Nat.le_refl _) _
  clear C0
  by_cases h15 : ns.length < 1 ∨ 500 < ns.length
  · have hF : ¬ STreeOkP ns := fun h => by have := h.1.one; have := h.1.most; omega
    have HF := (show Hid _ from hF)
    have hin : inB (ns.length : Int) 1 500 = false := by simp [inB]; omega
    rw [hin] at HC0
    clear hcs hn hfit hin hF
    go_enter Tryz.func14, Tryz.ntmps14
    go_wp2_with fail
    go_at_call 57
    refine (HC0.out _).mono ?_
    rintro e w2 ⟨rfl, rfl⟩
    go_wp2
    go_ret
    exact ⟨false, rfl, ⟨fun h => (by cases h), fun h => absurd h HF.out⟩, bT0⟩
  have hin : inB (ns.length : Int) 1 500 = true := by simp [inB]; omega
  rw [hin] at HC0
  have h1 : 1 ≤ ns.length := by omega
  have h5 : ns.length ≤ 500 := by omega
  obtain ⟨b, off, _, _, rfl, hblt, hrest⟩ := hcs 0 h1
  have HCS := (show Hid (∀ k (hk : k < ns.length), ∃ av kv, Sv 2 w av (pairCells ns[k].attrs) ∧ Sl .i64 w kv ns[k].kids ∧ w.cell? ⟨b, off + k * 6, none⟩ = some (.int .i64 ns[k].kind) ∧ w.cell? ⟨b, off + k * 6 + 1, none⟩ = some (.string ns[k].name) ∧ w.cell? ⟨b, off + k * 6 + 2, none⟩ = some av ∧ w.cell? ⟨b, off + k * 6 + 3, none⟩ = some (.string ns[k].text) ∧ w.cell? ⟨b, off + k * 6 + 4, none⟩ = some (.int .i64 ns[k].parent) ∧ w.cell? ⟨b, off + k * 6 + 5, none⟩ = some kv) from fun k hk => by
    obtain ⟨_, _, av, kv, e, _, c0, c1, c2, c3, c4, c5, hav, hkv⟩ := hcs k hk
    cases e
    exact ⟨av, kv, hav, hkv, c0, c1, c2, c3, c4, c5⟩)
  clear hcs hn hfit hin hrest h15
  obtain ⟨i0, hi, hz0, hz1, hz2⟩ := info_parts Tryz.infoBool
  have gT : (w.alloc (.cells #[.slice (some ⟨b, off, none⟩) ns.length cap] 26)).heap[w.heap.size]? = some (.cells #[.slice (some ⟨b, off, none⟩) ns.length cap] 26 (0, 0)) := World.alloc_heap_new _ _
  have HGT := (show Hid _ from gT)
  clear gT
  go_enter Tryz.func14, Tryz.ntmps14
  go_wp2_with fail
  go_at_call 57
  refine (HC0.out _).mono ?_
  rintro e w2 ⟨rfl, rfl⟩
  go_wp2_with (at_make; refine wpList_make_full _ rfl (.tmp 18) (.tmp 18) 74 rfl (w.heap.size + 1) 4 i0 (.bool false) 1 Tryz.underlying74 hi hz0 hz1 .i64 .i64 ns.length ns.length ns.length rfl rfl rfl rfl (by rw [hz2]; omega) (by unfold maxLen; omega) (by simp) ?_; intro w3 o3 g3)
  have hstart := seen_start HGT.out (by simp) bT0 h1 o3 g3
  have HS0 := (show Hid _ from hstart)
  clear o3 g3 hstart HGT bT0 hi hz0 hz1 hz2
  go_loopw [5] (fun i wr => ∃ k : Nat, k ≤ ns.length ∧ i = .int .i64 k ∧ SeenP ns k ∧ SeenW w (.slice (some ⟨b, off, none⟩) ns.length cap) ns k [] wr) (fun i _ => ns.length - (intOf i).toNat)
  case atStart => exact ⟨0, Nat.zero_le _, rfl, ⟨fun j _ hj => absurd hj (Nat.not_lt_zero j), fun j hj => absurd hj (Nat.not_lt_zero j), fun j hj => absurd hj (Nat.not_lt_zero j)⟩, HS0.out⟩
  case round =>
    clear HS0
    obtain ⟨k, hk, rfl, hP, hW⟩ := hrel
    have HP := (show Hid (SeenP ns k) from hP)
    have HW := (show Hid (SeenW w _ ns k [] wr) from hW)
    have hb := hW.bel
    have cT : wr.cell? ⟨w.heap.size, 0, none⟩ = some (.slice (some ⟨b, off, none⟩) ns.length cap) := by simp only [World.cell?, hW.bT]; rfl
    have hsz := blk_lt hW.bS.choose_spec.1
    clear hP hW
    by_cases hlt : k < ns.length
    · obtain ⟨av, kv, hav, hkv, c0, c1, c2, c3, c4, c5⟩ := HCS.out k hlt
      replace c0 := (hb.cell (p := ⟨b, off + k * 6, none⟩) hblt).trans c0
      replace c1 := (hb.cell (p := ⟨b, off + k * 6 + 1, none⟩) hblt).trans c1
      replace c2 := (hb.cell (p := ⟨b, off + k * 6 + 2, none⟩) hblt).trans c2
      replace c3 := (hb.cell (p := ⟨b, off + k * 6 + 3, none⟩) hblt).trans c3
      replace c4 := (hb.cell (p := ⟨b, off + k * 6 + 4, none⟩) hblt).trans c4
      replace c5 := (hb.cell (p := ⟨b, off + k * 6 + 5, none⟩) hblt).trans c5
      have hav' := hav.below hb
      obtain ⟨av1, av2, av3, rfl, _⟩ := hav
      have HKV := (show Hid (Sl .i64 w kv ns[k].kids) from hkv)
      obtain ⟨kv1, kv3, rfl, hkcap, hkmax, _⟩ := hkv
      have hkm : kv3 < 9223372036854775808 := Nat.lt_of_le_of_lt hkmax (by decide)
      have hnf := HFIT.out ns[k] (List.getElem_mem hlt)
      have CN := (show Hid (∀ w', Below wr.heap.size wr w' → Calls Tryz.prog 58 #[.agg #[.int .i64 ns[k].kind, .string ns[k].name, .slice av1 av2 av3, .string ns[k].text, .int .i64 ns[k].parent, .slice kv1 ns[k].kids.length kv3]] w' fun e w'' => e = .returned (.bool (nodeB ns[k].kind ns[k].name ns[k].attrs ns[k].text ns[k].kids.length)) ∧ Below w'.heap.size w' w'') from fun w' hb' => snodeOk_any _ _ _ _ (hav'.below hb') hnf.nm hnf.tx hnf.rs hnf.each)
      have HGK : Hid (goodB ns[k] k = (decide ((ns[k].kind == 1) = ((k : Int) == 0)) && nodeB ns[k].kind ns[k].name ns[k].attrs ns[k].text ns[k].kids.length)) := by
        show goodB ns[k] k = _
        unfold goodB
        rw [eq_kinds]
      have HBAD : Hid (goodB ns[k] k = false → ¬ STreeOkP ns) := fun h ht => by have := ht.1.good k hlt; rw [h] at this; cases this
      have HPP : Hid (parOf ns k = ns[k].parent) := parOf_at hlt
      have HKK : Hid (kidsOf ns k = ns[k].kids) := kidsOf_at hlt
      obtain ⟨gk, hgk⟩ : ∃ gk, gk = goodB ns[k] k := ⟨_, rfl⟩
      have HGG := (show Hid (gk = goodB ns[k] k) from hgk)
      rw [← hgk] at HGK HBAD
      obtain ⟨nb, hnb⟩ : ∃ nb, nb = nodeB ns[k].kind ns[k].name ns[k].attrs ns[k].text ns[k].kids.length := ⟨_, rfl⟩
      rw [← hnb] at HGK CN
      obtain ⟨k0, hk0⟩ : ∃ k0, k0 = ns[k].kind := ⟨_, rfl⟩
      obtain ⟨k1, hk1⟩ : ∃ k1, k1 = ns[k].name := ⟨_, rfl⟩
      obtain ⟨k3, hk3⟩ : ∃ k3, k3 = ns[k].text := ⟨_, rfl⟩
      obtain ⟨k4, hk4⟩ : ∃ k4, k4 = ns[k].parent := ⟨_, rfl⟩
      obtain ⟨ks, hks⟩ : ∃ ks, ks = ns[k].kids := ⟨_, rfl⟩
      rw [← hk0] at c0 HGK CN
      rw [← hk1] at c1 CN
      rw [← hk3] at c3 CN
      rw [← hk4] at c4 CN HPP
      rw [← hks] at c5 CN HKV HKK hkcap
      clear hgk hnb hk0 hk1 hk3 hk4 hks hnf hav'
      obtain ⟨wx, hwx⟩ : ∃ wx, wx = wr.alloc (.cells #[.int .i64 k0, .string k1, .slice av1 av2 av3, .string k3, .int .i64 k4, .slice kv1 ks.length kv3] 36) := ⟨_, rfl⟩
      have bx : Below wr.heap.size wr wx := by rw [hwx]; exact (Below.refl _ _).alloc (Nat.le_refl _) _
      have hx : wx.heap[wr.heap.size]? = some (.cells #[.int .i64 k0, .string k1, .slice av1 av2 av3, .string k3, .int .i64 k4, .slice kv1 ks.length kv3] 36 (0, 0)) := by rw [hwx]; exact World.alloc_heap_new _ _
      have HX := (show Hid _ from hx)
      clear hx
      go_wp2_with fail
      go_at_call 58
      rw [← hwx]
      refine (CN.out _ bx).mono ?_
      rintro e w2 ⟨rfl, b2⟩
      have hx2 := (b2.block wr.heap.size (blk_lt HX.out)).trans HX.out
      replace b2 := bx.trans (b2.mono bx.size)
      clear bx hwx HX CN c0 c1 c2 c3 c4 c5
      have y0 : w2.cell? ⟨wr.heap.size, 0, none⟩ = some (.int .i64 k0) := by simp only [World.cell?, hx2]; rfl
      have y4 : w2.cell? ⟨wr.heap.size, 4, none⟩ = some (.int .i64 k4) := by simp only [World.cell?, hx2]; rfl
      have HX2 := (show Hid _ from hx2)
      have HB2 := (show Hid (Below wr.heap.size wr w2) from b2)
      have HBW := (show Hid (Below w.heap.size w w2) from hb.trans (b2.mono hb.size))
      clear hx2 b2
      have RF : Hid (¬ STreeOkP ns → ∀ w', Below w2.heap.size w2 w' → ∃ r, Ending.returned (.bool false) = .returned (.bool r) ∧ (r = true ↔ STreeOkP ns) ∧ Below w.heap.size w w') := fun h w' b' => ⟨false, rfl, ⟨fun h => (by cases h), fun h' => absurd h' h⟩, HBW.out.trans (b'.mono HBW.out.size)⟩
      cases nb
      · have HNO := (show Hid (¬ STreeOkP ns) from HBAD.out (by rw [HGK.out, Bool.and_false]))
        go_wp2
        go_ret
        exact RF.out HNO.out _ (Below.refl _ _)
      · by_cases hq : (k0 == 1) = ((k : Int) == 0)
        · have HGQ : Hid (gk = true) := HGK.out.trans (by rw [decide_eq_true hq]; rfl)
          have CI := (show Hid _ from fun w => l1In_any k4 (-1) ((ns.length : Int) - 1) w)
          obtain ⟨ip, hip⟩ : ∃ ip, ip = inB k4 (-1) ((ns.length : Int) - 1) := ⟨_, rfl⟩
          have HIP := (show Hid (ip = inB k4 (-1) ((ns.length : Int) - 1)) from hip)
          rw [← hip] at CI
          clear hip
          go_wp2_with fail
          go_at_call 57
          refine (CI.out _).mono ?_
          rintro e w2' ⟨rfl, e2⟩
          rw [e2]
          clear e2
          cases ip
          · have HNO := (show Hid (¬ STreeOkP ns) from fun h => by
              have hp := tree_par h hlt
              rw [SPar, HPP.out] at hp
              have := HIP.out
              simp [inB] at this
              omega)
            go_wp2
            go_ret
            exact RF.out HNO.out _ (Below.refl _ _)
          · by_cases hz : k = 0 ∧ k4 ≠ -1
            · have HNO := (show Hid (¬ STreeOkP ns) from fun h => by
                have hp := (tree_par h hlt).2.2 hz.1
                rw [HPP.out] at hp
                exact hz.2 hp)
              obtain ⟨hz1, hz2⟩ := hz
              have hk0' : (k : Int) = 0 := by omega
              go_wp2
              go_ret
              exact RF.out HNO.out _ (Below.refl _ _)
            · have HSP : Hid (SPar ns k) := by
                have := HIP.out.symm
                simp [inB] at this
                refine ⟨by rw [HPP.out]; omega, by rw [HPP.out]; omega, fun e => ?_⟩
                rw [HPP.out]
                by_cases e' : k4 = -1
                · exact e'
                · exact absurd ⟨e, e'⟩ hz
              have hz' : (k : Int) ≠ 0 ∨ k4 = -1 := by
                by_cases e : k = 0
                · by_cases e' : k4 = -1
                  · exact .inr e'
                  · exact absurd ⟨e, e'⟩ hz
                · exact .inl (by omega)
              clear hz
              have HS2 := (show Hid (SeenW w _ ns k [] w2) from HW.out.below HB2.out)
              have HGD := (show Hid (goodB ns[k] k = true) from HGG.out.symm.trans HGQ.out)
              clear HIP CI HGK HBAD HGG HGQ
              obtain ⟨NB, hNB⟩ : ∃ NB, NB = wr.heap.size := ⟨_, rfl⟩
              have hsz2 : w.heap.size + 1 < NB := by omega
              rw [← hNB] at HX2 y0 y4
              have HNB := (show Hid (NB = wr.heap.size) from hNB)
              clear HB2 hNB hsz HW cT
              rcases hz' with hz' | hz'
              all_goals (try subst hz')
              all_goals (rw [← HNB.out])
              all_goals go_wp2
              all_goals go_loopw [7] (fun q wi => ∃ j : Nat, j ≤ ks.length ∧ q = .int .i64 j ∧ FitPre ns k (ks.take j) ∧ SeenW w (.slice (some ⟨b, off, none⟩) ns.length cap) ns k (ks.take j) wi ∧ NodeBox NB k0 k1 (.slice av1 av2 av3) k3 (.slice kv1 ks.length kv3) wi) (fun q _ => ks.length - (intOf q).toNat)
              all_goals try (exact ⟨0, Nat.zero_le _, rfl, ⟨List.nodup_nil, fun x hx => by cases hx⟩, HS2.out, ⟨_, HX2.out⟩⟩)
              all_goals
                obtain ⟨j, hj, rfl, hfp, hwi, hnb⟩ := hrel
                have HFP := (show Hid (FitPre ns k (ks.take j)) from hfp)
                have HWI := (show Hid (SeenW w _ ns k (ks.take j) wr) from hwi)
                have HNB := (show Hid (NodeBox NB k0 k1 (.slice av1 av2 av3) k3 (.slice kv1 ks.length kv3) wr) from hnb)
                obtain ⟨k5, hk5⟩ := hnb
                have y5 : wr.cell? ⟨NB, 5, none⟩ = some (.slice kv1 ks.length kv3) := by simp only [World.cell?, hk5]; rfl
                clear hfp hk5
                have hbi := hwi.bel
                have cTi : wr.cell? ⟨w.heap.size, 0, none⟩ = some (.slice (some ⟨b, off, none⟩) ns.length cap) := by simp only [World.cell?, hwi.bT]; rfl
                have RI : Hid (¬ STreeOkP ns → ∃ r, Ending.returned (.bool false) = .returned (.bool r) ∧ (r = true ↔ STreeOkP ns) ∧ Below w.heap.size w wr) := fun h => ⟨false, rfl, ⟨fun h => (by cases h), fun h' => absurd h' h⟩, hbi⟩
                by_cases hjl : j < ks.length
                · obtain ⟨x, hx⟩ : ∃ x, x = ks[j] := ⟨_, rfl⟩
                  have hks : ks.getD j 0 = x := by simp [List.getD_eq_getElem?_getD, hjl, hx]
                  have HTK : Hid (ks.take (j + 1) = ks.take j ++ [x]) := by rw [hx]; exact take_snoc ks hjl
                  have HXM : Hid (x ∈ kidsOf ns k) := by rw [HKK.out, hx]; exact List.getElem_mem hjl
                  have HPX : Hid (ks.take j ++ [x] <+: kidsOf ns k) := by rw [HKK.out, ← HTK.out]; exact List.take_prefix _ _
                  obtain ⟨_, _, ek, _, _, _, hkc⟩ := HKV.out
                  cases ek
                  obtain ⟨kb, ko, rfl, ck⟩ := hkc j hjl
                  rw [hks] at ck
                  have hkb : kb < w.heap.size := lt_of_cell ck
                  replace ck := (hbi.cell (p := ⟨kb, ko + j, none⟩) hkb).trans ck
                  have CI := (show Hid _ from fun w => l1In_any x 1 ((ns.length : Int) - 1) w)
                  obtain ⟨ix, hix⟩ : ∃ ix, ix = inB x 1 ((ns.length : Int) - 1) := ⟨_, rfl⟩
                  have HIX := (show Hid (ix = inB x 1 ((ns.length : Int) - 1)) from hix)
                  rw [← hix] at CI
                  have HWI2 := (show Hid (SeenW w _ ns k (ks.take j) wr) from hwi)
                  clear hix hks hx hkc hwi
                  go_wp2_with fail
                  go_at_call 57
                  refine (CI.out _).mono ?_
                  rintro e w2' ⟨rfl, e2⟩
                  rw [e2]
                  clear e2
                  cases ix
                  · have HNO := (show Hid (¬ STreeOkP ns) from fun h => by
                      have hp := tree_kid h HXM.out
                      have := HIX.out
                      simp [inB] at this
                      omega)
                    go_wp2
                    go_ret
                    exact RI.out HNO.out
                  · have hxr : 1 ≤ x ∧ x ≤ (ns.length : Int) - 1 := by
                      have := HIX.out.symm
                      simp [inB] at this
                      exact this
                    obtain ⟨jj, rfl⟩ : ∃ jj : Nat, x = jj := ⟨x.toNat, by omega⟩
                    have hjj : jj < ns.length := by omega
                    obtain ⟨arr, hS, hS1, hS2⟩ := HWI2.out.bS
                    obtain ⟨bj, hbj, hst⟩ := hS2 jj hjj
                    have cS : wr.cell? ⟨w.heap.size + 1, jj, none⟩ = some (.bool bj) := by simp only [World.cell?, hS]; exact hbj
                    have fS : wr.frozen? ⟨w.heap.size + 1, jj, none⟩ = false := by simp [World.frozen?, hS]
                    have HST := (show Hid (bj = true ↔ Stand ns k (ks.take j) jj) from hst)
                    have HS := (show Hid _ from hS)
                    have HSN := (show Hid (StandsN ns.length ns k (ks.take j) arr) from ⟨hS1, hS2⟩)
                    obtain ⟨_, _, _, _, _, _, _, _, cP, _⟩ := HCS.out jj hjj
                    replace cP := (hbi.cell (p := ⟨b, off + jj * 6 + 4, none⟩) hblt).trans cP
                    have HPJ : Hid (parOf ns jj = ns[jj].parent) := parOf_at hjj
                    obtain ⟨pj, hpj⟩ : ∃ pj, pj = ns[jj].parent := ⟨_, rfl⟩
                    rw [← hpj] at cP HPJ
                    clear hpj hst hS hS1 hS2 hbj
                    cases bj
                    · by_cases hp : pj = (k : Int)
                      · subst hp
                        go_wp2
                        have gS := setCell_at (k := jj) (u := .bool true) HS.out
                        have bS' : Below w.heap.size w (wr.setCell ⟨w.heap.size + 1, jj, none⟩ (.bool true)) := hbi.setCell (p := ⟨w.heap.size + 1, jj, none⟩) (by simp) _
                        obtain ⟨k6, hk6⟩ := HNB.out
                        go_roundw
                        case rel =>
                          refine ⟨j + 1, by omega, by go_num, ?_, ?_, k6, ?_⟩
                          · rw [HTK.out]
                            exact fit_snoc HFP.out hjj (fun h => by have := HST.out.mpr h; cases this) HPJ.out
                          · rw [HTK.out]
                            exact ⟨(Below.heap_setCell wr ⟨w.heap.size + 1, jj, none⟩ (.bool true) w.heap.size (by show w.heap.size ≠ w.heap.size + 1; omega)).trans HWI2.out.bT, ⟨_, gS, HSN.out.snoc jj hjj⟩, bS'⟩
                          · exact (Below.heap_setCell wr ⟨w.heap.size + 1, jj, none⟩ (.bool true) NB (by show NB ≠ w.heap.size + 1; omega)).trans hk6
                        case measure => simp [intOf]; omega
                      · have HNO := (show Hid (¬ STreeOkP ns) from tree_bad hlt ⟨_, _, rfl, .inr (.inr (by rw [show ((jj : Int)).toNat = jj by simp, HPJ.out]; exact hp))⟩ HPX.out HP.out.fit)
                        go_wp2
                        go_ret
                        exact RI.out HNO.out
                    · have HNO := (show Hid (¬ STreeOkP ns) from tree_bad hlt ⟨_, _, rfl, .inr (.inl (HST.out.mp (by simp)))⟩ HPX.out HP.out.fit)
                      go_wp2
                      go_ret
                      exact RI.out HNO.out
                · have hje : j = ks.length := by omega
                  have HFK : Hid (FitPre ns k (kidsOf ns k)) := by rw [HKK.out, ← List.take_length (l := ks), ← hje]; exact HFP.out
                  have HWK : Hid (SeenW w (.slice (some ⟨b, off, none⟩) ns.length cap) ns k (kidsOf ns k) wr) := by rw [HKK.out, ← List.take_length (l := ks), ← hje]; exact hwi
                  clear hwi
                  go_wp2
                  go_roundw
                  case rel =>
                    refine ⟨k + 1, by omega, by go_num, ⟨fun i h hi => ?_, fun i hi => ?_, fun i hi => ?_⟩, ?_⟩
                    · by_cases e : i = k
                      · subst e; exact HGD.out
                      · exact HP.out.good i h (by omega)
                    · by_cases e : i = k
                      · subst e; exact HSP.out
                      · exact HP.out.par i (by omega)
                    · by_cases e : i = k
                      · subst e; exact HFK.out
                      · exact HP.out.fit i (by omega)
                    · obtain ⟨t1, ⟨arr, t2, t2'⟩, t3⟩ := HWK.out
                      exact ⟨t1, ⟨arr, t2, t2'.next⟩, t3⟩
                  case measure => simp [intOf]; omega
        · have HNO := (show Hid (¬ STreeOkP ns) from HBAD.out (HGK.out.trans (by rw [decide_eq_false hq]; rfl)))
          go_wp2
          go_ret
          exact RF.out HNO.out _ (Below.refl _ _)
    · have hke : k = ns.length := by omega
      subst hke
      have HKF : Hid (KidsFit ns) := fun i hi => HP.out.fit i hi
      go_wp2
      go_loopw [9] (fun i wr => ∃ m : Nat, m ≤ ns.length ∧ i = .int .i64 m ∧ (∀ j, j < m → (Stand ns ns.length [] j ↔ 0 ≤ parOf ns j) ∧ ∃ d, up ns d j < 0) ∧ SeenW w (.slice (some ⟨b, off, none⟩) ns.length cap) ns ns.length [] wr) (fun i _ => ns.length - (intOf i).toNat)
      case atStart => exact ⟨0, Nat.zero_le _, rfl, fun j hj => absurd hj (Nat.not_lt_zero j), HW.out⟩
      case round =>
        clear HW cT hb hsz
        obtain ⟨m, hm, rfl, hup, hW2⟩ := hrel
        have HUP := (show Hid (∀ j, j < m → (Stand ns ns.length [] j ↔ 0 ≤ parOf ns j) ∧ ∃ d, up ns d j < 0) from hup)
        have HW2 := (show Hid (SeenW w _ ns ns.length [] wr) from hW2)
        have hb2 := hW2.bel
        clear hup
        by_cases hml : m < ns.length
        · obtain ⟨arr, hS, hS1, hS2⟩ := hW2.bS
          obtain ⟨bm, hbm, hst⟩ := hS2 m hml
          have cS : wr.cell? ⟨w.heap.size + 1, m, none⟩ = some (.bool bm) := by simp only [World.cell?, hS]; exact hbm
          have cT2 : wr.cell? ⟨w.heap.size, 0, none⟩ = some (.slice (some ⟨b, off, none⟩) ns.length cap) := by simp only [World.cell?, hW2.bT]; rfl
          obtain ⟨_, _, _, _, _, _, _, _, cP, _⟩ := HCS.out m hml
          replace cP := (hb2.cell (p := ⟨b, off + m * 6 + 4, none⟩) hblt).trans cP
          have HPM : Hid (parOf ns m = ns[m].parent) := parOf_at hml
          obtain ⟨pm, hpm⟩ : ∃ pm, pm = ns[m].parent := ⟨_, rfl⟩
          rw [← hpm] at cP HPM
          have HST := (show Hid (bm = true ↔ Stand ns ns.length [] m) from hst)
          clear hpm hst hS hS1 hS2 hbm hW2
          have RJ : Hid (¬ STreeOkP ns → ∀ w', Below wr.heap.size wr w' → ∃ r, Ending.returned (.bool false) = .returned (.bool r) ∧ (r = true ↔ STreeOkP ns) ∧ Below w.heap.size w w') := fun h w' b' => ⟨false, rfl, ⟨fun h => (by cases h), fun h' => absurd h' h⟩, hb2.trans (b'.mono hb2.size)⟩
          by_cases hsm : bm = decide (0 ≤ pm)
          · have HSM : Hid (Stand ns ns.length [] m ↔ 0 ≤ parOf ns m) := by
              have h1 := HST.out
              rw [hsm, decide_eq_true_iff] at h1
              rw [HPM.out]; exact h1.symm
            subst hsm
            go_wp2
            go_big_quiet (fail)
            go_wp2
            have bq : Below wr.heap.size wr (wr.drewN nq) := ⟨rfl, rfl, rfl, Nat.le_refl _, fun _ _ => rfl⟩
            have HWQ := (show Hid (SeenW w _ ns ns.length [] (wr.drewN nq)) from HW2.out.below bq)
            obtain ⟨wq, hwq⟩ : ∃ wq, wq = wr.drewN nq := ⟨_, rfl⟩
            rw [← hwq] at HWQ ⊢
            clear hwq bq cS cT2 cP HW2 HST RJ hb2
            go_loopw [10, 11] (fun u q wi => ∃ c : Nat, c ≤ ns.length + 1 ∧ u = .int .i64 (up ns c m) ∧ q = .int .i64 c ∧ -1 ≤ up ns c m ∧ up ns c m < ns.length ∧ (∀ d, d < c → 0 ≤ up ns d m) ∧ SeenW w (.slice (some ⟨b, off, none⟩) ns.length cap) ns ns.length [] wi) (fun _ q _ => ns.length + 2 - (intOf q).toNat)
            case atStart => exact ⟨0, Nat.zero_le _, rfl, rfl, by simp only [up]; omega, by simpa [up] using hml, fun d hd => absurd hd (Nat.not_lt_zero d), HWQ.out⟩
            case round =>
              obtain ⟨c, hc, rfl, rfl, hu1, hu2, hud, hWi⟩ := hrel
              have hbi := hWi.bel
              have HWi := (show Hid (SeenW w _ ns ns.length [] wr) from hWi)
              have HUD := (show Hid (∀ d, d < c → 0 ≤ up ns d m) from hud)
              have HSU : Hid (up ns (c + 1) m = parOf ns (up ns c m).toNat) := rfl
              obtain ⟨uc, huc⟩ : ∃ uc, uc = up ns c m := ⟨_, rfl⟩
              have HUC := (show Hid (uc = up ns c m) from huc)
              rw [← huc] at hu1 hu2 HSU ⊢
              clear huc hud
              by_cases h0 : 0 ≤ uc
              · by_cases hcn : ns.length < c
                · have HNO := (show Hid (¬ STreeOkP ns) from fun h => by
                    obtain ⟨d, hd1, hd2⟩ := tree_up h hml
                    have := HUD.out d (by omega)
                    omega)
                  clear hWi
                  go_wp2
                  go_ret
                  exact ⟨false, rfl, ⟨fun h => (by cases h), fun h' => absurd h' HNO.out⟩, hbi⟩
                · obtain ⟨uj, rfl⟩ : ∃ uj : Nat, uc = uj := ⟨uc.toNat, by omega⟩
                  have huj : uj < ns.length := by omega
                  have cTi : wr.cell? ⟨w.heap.size, 0, none⟩ = some (.slice (some ⟨b, off, none⟩) ns.length cap) := by simp only [World.cell?, hWi.bT]; rfl
                  obtain ⟨_, _, _, _, _, _, _, _, cQ, _⟩ := HCS.out uj huj
                  replace cQ := (hbi.cell (p := ⟨b, off + uj * 6 + 4, none⟩) hblt).trans cQ
                  have HPQ : Hid (up ns (c + 1) m = ns[uj].parent) := by
                    rw [HSU.out, show ((uj : Int)).toNat = uj by simp]
                    exact parOf_at huj
                  have HSQ : Hid (-1 ≤ ns[uj].parent ∧ ns[uj].parent < ns.length) := by
                    have := HP.out.par uj huj
                    rw [SPar, parOf_at huj] at this
                    exact ⟨this.1, by omega⟩
                  obtain ⟨pq, hpq⟩ : ∃ pq, pq = ns[uj].parent := ⟨_, rfl⟩
                  rw [← hpq] at cQ HPQ HSQ
                  clear hpq hWi
                  go_wp2
                  go_roundw
                  case rel =>
                    refine ⟨c + 1, by omega, by rw [HPQ.out], by go_num, by rw [HPQ.out]; exact HSQ.out.1, by rw [HPQ.out]; exact HSQ.out.2, fun d hd => ?_, HWi.out⟩
                    by_cases e : d = c
                    · subst e; rw [← HUC.out]; omega
                    · exact HUD.out d (by omega)
                  case measure => simp [intOf]; omega
              · have HEN : Hid (∃ d, up ns d m < 0) := ⟨c, by rw [← HUC.out]; omega⟩
                clear hWi
                go_wp2
                go_roundw
                case rel =>
                  refine ⟨m + 1, by omega, by go_num, fun j hj => ?_, HWi.out⟩
                  by_cases e : j = m
                  · subst e; exact ⟨HSM.out, HEN.out⟩
                  · exact HUP.out j (by omega)
                case measure => simp [intOf]; omega
          · have HNO := (show Hid (¬ STreeOkP ns) from fun h => hsm (by
              have h1 := tree_seen h hml
              rw [HPM.out] at h1
              rw [Bool.eq_iff_iff, HST.out, h1, decide_eq_true_iff]))
            go_wp2
            go_big_quiet (fail)
            go_wp2
            · go_ret
              exact RJ.out HNO.out _ ⟨rfl, rfl, rfl, Nat.le_refl _, fun _ _ => rfl⟩
            · rename_i hh
              exact absurd (by simpa using hh) hsm
        · have HOK : Hid (STreeOkP ns) := tree_of h1 h5 (fun k h => HP.out.good k h h) (fun k h => HP.out.par k h) HKF.out (fun i hi => (HUP.out i (by omega)).1) (fun i hi => (HUP.out i (by omega)).2)
          clear hW2
          go_wp2
          go_ret
          exact ⟨true, rfl, ⟨fun _ => HOK.out, fun _ => rfl⟩, hb2⟩
end Go.Proofs.YtogdbjafibejdaaGreat
