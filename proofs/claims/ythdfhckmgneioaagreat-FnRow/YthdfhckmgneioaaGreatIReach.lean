/- The program's allReached, inside the fence. No condition. -/
import Derived.Sort.LoopGhostIn
import Derived.Test.YthdfhckmgneioaaGreatITell
import Derived.Test.YthdfhckmgneioaaGreatReachP
namespace Go.Proofs.YthdfhckmgneioaaGreat
open Go.RowKit Go.Shelf
set_option maxRecDepth 100000
set_option linter.unusedVariables false
attribute [local go_sem] Oper.semAt_some

/-- Counting, as the program's word counts. -/
def cnt (z : Int) (pre : List Int) : Int := pre.foldl (fun s _ => wrap64 (s + 1)) z
theorem cnt_snoc (z : Int) (pre : List Int) (x : Int) : cnt z (pre ++ [x]) = wrap64 (cnt z pre + 1) := by simp [cnt]
theorem cnt_eq (c : Nat) (pre : List Int) (h : c + pre.length < 4611686018427387904) : cnt c pre = ((c + pre.length : Nat) : Int) := by
  induction pre generalizing c with
  | nil => rfl
  | cons x pre ih =>
    have e : wrap64 ((c : Int) + 1) = ((c + 1 : Nat) : Int) := by
      simp only [List.length_cons] at h
      have : ((c : Int) + 1) = ((c + 1 : Nat) : Int) := by omega
      rw [this]
      simp only [wrap64]; omega
    show cnt (wrap64 ((c : Int) + 1)) pre = _
    rw [e, ih (c + 1) (by simp only [List.length_cons] at h; omega)]
    simp only [List.length_cons]
    omega

/-- Between two rounds over the nodes. -/
structure ReachW (w : World) (ns : List PNode) (f k : Nat) (ds : List Nat) (W : World) : Prop where
  bR : W.heap[w.heap.size]? = some (.cells #[.int .i64 (reachN ns f k : Int)] 3 (0, 0))
  dd : ds.Nodup
  bD : ∀ d ∈ ds, w.heap.size ≤ d ∧ W.heap[d]? = some (.deferred (some []))
  bel : Below w.heap.size w W
def ReachInv (w : World) (A b off cap : Nat) (ns : List PNode) (f m : Nat) (a : Act) (W : World) : Prop :=
  ∃ (k : Nat) (ds : List Nat) (u4 u5 u12 u13 u14 u15 u16 u17 u18 u19 u20 u21 u22 u23 u24 u25 : Value), k + m = ns.length ∧ a = { tmps := #[.pointer (some ⟨A, 0, none⟩), undef, .bool false, .pointer (some ⟨w.heap.size, 0, none⟩), u4, u5, .pointer (some ⟨A, 0, none⟩), .pointer (some ⟨A, 0, none⟩), .pointer (some ⟨A, 0, none⟩), .slice (some ⟨b, off, none⟩) ns.length cap, .int .i64 (ns.length : Int), .int .i64 (k : Int), u12, u13, u14, u15, u16, u17, u18, u19, u20, u21, u22, u23, u24, u25, undef, undef, undef, undef, undef, undef, undef], defers := dmarks ds } ∧ ReachW w ns f k ds W

set_option maxHeartbeats 1000000 in
theorem allReached_any {w : World} {v : Value} {ns : List PNode} {A f : Nat} (hn : NodesAt w v ns) (hA : A < w.heap.size) (cA : w.cell? ⟨A, 0, none⟩ = some v) (hlen : ns.length ≤ 500) (h1 : 1 ≤ ns.length)
    (hdeep : ∀ k, k < ns.length → parOf ns k = -1 → deepOk ns f k) (htot : reachN ns f ns.length < 4611686018427387904) :
    Calls Tryz.prog 72 #[.pointer (some ⟨A, 0, none⟩)] w fun e w' => e = .returned (.bool (decide (reachN ns f ns.length = ns.length))) ∧ Below w.heap.size w w' := by
  have HN := (show Hid (NodesAt w v ns) from hn)
  obtain ⟨a, cap, rfl, hc1, hc2, hcs⟩ := hn.slice
  obtain ⟨b, off, _, _, rfl, hblt, _⟩ := hcs 0 h1
  have HCS := (show Hid (∀ k (hk : k < ns.length), ∃ av kv, Sv 2 w av (pairCells ns[k].attrs) ∧ Sl .i64 w kv ns[k].kids ∧ w.cell? ⟨b, off + k * 6, none⟩ = some (.int .i64 ns[k].kind) ∧ w.cell? ⟨b, off + k * 6 + 1, none⟩ = some (.string ns[k].name) ∧ w.cell? ⟨b, off + k * 6 + 2, none⟩ = some av ∧ w.cell? ⟨b, off + k * 6 + 3, none⟩ = some (.string ns[k].text) ∧ w.cell? ⟨b, off + k * 6 + 4, none⟩ = some (.int .i64 ns[k].parent) ∧ w.cell? ⟨b, off + k * 6 + 5, none⟩ = some kv) from fun k hk => by
    obtain ⟨_, _, av, kv, e, _, c0, c1, c2, c3, c4, c5, hav, hkv⟩ := hcs k hk
    cases e
    exact ⟨av, kv, hav, hkv, c0, c1, c2, c3, c4, c5⟩)
  have HDP := (show Hid _ from hdeep)
  clear hcs hn hdeep
  refine (callsIn_wide (n := 5)).1 ?_
  refine callsIn_of_wp_marks Tryz.func72 rfl trivial ?_ rfl
  simp only [Tryz.ntmps72, List.size_toArray, List.length_cons, List.length_nil, Nat.reduceAdd, Nat.reduceSub, Array.replicate_succ, Array.replicate_zero, List.push_toArray, List.append_toArray, List.nil_append, List.cons_append]
  obtain ⟨w3, hw3⟩ : ∃ w3, w3 = w.alloc (.cells #[.int .i64 0] 3) := ⟨_, rfl⟩
  have b3 : Below w.heap.size w w3 := by rw [hw3]; exact (Below.refl _ w).alloc (Nat.le_refl _) _
  have c3 : w3.cell? ⟨A, 0, none⟩ = some (.slice (some ⟨b, off, none⟩) ns.length cap) := (b3.cell (p := ⟨A, 0, none⟩) hA).trans cA
  have g0 : w3.heap[w.heap.size]? = some (.cells #[.int .i64 0] 3 (0, 0)) := by rw [hw3]; exact World.alloc_heap_new _ _
  have HG0 := (show Hid _ from g0)
  rw [hw3] at c3
  clear g0
  gi_wp2
  rw [← hw3]
  clear c3
  refine wpIn_loop_ghost_k (ReachInv w A b off cap ns f) ns.length ?start ?round
  case start =>
    exact ⟨0, [], undef, undef, undef, undef, undef, undef, undef, undef, undef, undef, undef, undef, undef, undef, undef, undef, by simp, rfl, ⟨HG0.out, List.nodup_nil, (fun d hd => by cases hd), b3⟩⟩
  case round =>
    clear HG0 b3 hw3
    rintro m a' W ⟨k, ds, u4, u5, u12, u13, u14, u15, u16, u17, u18, u19, u20, u21, u22, u23, u24, u25, hm, rfl, hW⟩ J K hJ hK
    have HJ := (show Hid _ from hJ)
    have HK := (show Hid _ from hK)
    have HW := (show Hid (ReachW w ns f k ds W) from hW)
    clear hJ hK hW
    by_cases hk : k < ns.length
    · obtain ⟨av, kv, hav, hkv, c0, c1, c2, c3, c4, c5⟩ := HCS.out k hk
      have hb := HW.out.bel
      replace c0 := (hb.cell (p := ⟨b, off + k * 6, none⟩) hblt).trans c0
      replace c1 := (hb.cell (p := ⟨b, off + k * 6 + 1, none⟩) hblt).trans c1
      replace c2 := (hb.cell (p := ⟨b, off + k * 6 + 2, none⟩) hblt).trans c2
      replace c3 := (hb.cell (p := ⟨b, off + k * 6 + 3, none⟩) hblt).trans c3
      replace c4 := (hb.cell (p := ⟨b, off + k * 6 + 4, none⟩) hblt).trans c4
      replace c5 := (hb.cell (p := ⟨b, off + k * 6 + 5, none⟩) hblt).trans c5
      obtain ⟨av1, av2, av3, rfl, _⟩ := hav
      obtain ⟨kv1, kv3, rfl, _⟩ := hkv
      have HPP : Hid (parOf ns k = ns[k].parent) := parOf_at hk
      obtain ⟨pk, hpk⟩ : ∃ pk, pk = ns[k].parent := ⟨_, rfl⟩
      rw [← hpk] at c4 HPP
      obtain ⟨k0, hk0⟩ : ∃ k0, k0 = ns[k].kind := ⟨_, rfl⟩
      obtain ⟨k1, hk1⟩ : ∃ k1, k1 = ns[k].name := ⟨_, rfl⟩
      obtain ⟨k3, hk3⟩ : ∃ k3, k3 = ns[k].text := ⟨_, rfl⟩
      obtain ⟨kl, hkl⟩ : ∃ kl, kl = ns[k].kids.length := ⟨_, rfl⟩
      rw [← hk0] at c0
      rw [← hk1] at c1
      rw [← hk3] at c3
      rw [← hkl] at c5
      clear hpk hk0 hk1 hk3 hkl hb
      by_cases hp : pk = -1
      · subst hp
        gi_wp2
        refine ⟨trivial, (from_in _ _ _ _).mono ?_⟩
        rintro e w' ⟨rfl, rfl⟩
        gi_wp2
        obtain ⟨W0, hW0⟩ : ∃ W0, W0 = W.alloc (.cells #[.int .i64 k0, .string k1, .slice av1 av2 av3, .string k3, .int .i64 (-1), .slice kv1 kl kv3] 37) := ⟨_, rfl⟩
        have b0 : Below W.heap.size W W0 := by rw [hW0]; exact (Below.refl _ W).alloc (Nat.le_refl _) _
        rw [← hW0]
        obtain ⟨W1, hW1⟩ : ∃ W1, W1 = (W0.alloc (.cells #[.pointer (some ⟨A, 0, none⟩)] 44)).alloc (.cells #[.int .i64 (k : Int)] 3) := ⟨_, rfl⟩
        have b01 : Below W0.heap.size W0 W1 := by rw [hW1]; exact ((Below.refl _ W0).alloc (Nat.le_refl _) _).alloc (by simp) _
        have sz1 : W1.heap.size = W0.heap.size + 2 := by rw [hW1]; simp
        have gY : W1.heap[W0.heap.size]? = some (.cells #[.pointer (some ⟨A, 0, none⟩)] 44 (0, 0)) := by
          rw [hW1, Below.heap_alloc _ _ _ (by simp)]
          exact World.alloc_heap_new _ _
        have gZ : W1.heap[W0.heap.size + 1]? = some (.cells #[.int .i64 (k : Int)] 3 (0, 0)) := by
          rw [hW1]
          have := World.alloc_heap_new (W0.alloc (.cells #[.pointer (some ⟨A, 0, none⟩)] 44)) (.cells #[.int .i64 (k : Int)] 3)
          rwa [World.size_alloc] at this
        have cY : W1.cell? ⟨W0.heap.size, 0, none⟩ = some (.pointer (some ⟨A, 0, none⟩)) := by simp only [World.cell?, gY]; rfl
        have cZ : W1.cell? ⟨W0.heap.size + 1, 0, none⟩ = some (.int .i64 (k : Int)) := by simp only [World.cell?, gZ]; rfl
        have b1 : Below W.heap.size W W1 := b0.trans (b01.mono b0.size)
        have hs0 : W0.heap.size = W.heap.size + 1 := by rw [hW0]; simp
        rw [hs0] at cY cZ sz1
        have hbel : Below w.heap.size w W1 := HW.out.bel.trans (b1.mono HW.out.bel.size)
        have hszW := b1.size
        have hRlt := blk_lt HW.out.bR
        rw [← hW1]
        refine wpIn_tells (w0 := W1) (n0 := w.heap.size) (all := down ns f k) (gf := 105) (lb := #[.pointer (some ⟨W.heap.size + 1, 0, none⟩), .pointer (some ⟨W.heap.size + 1 + 1, 0, none⟩)]) rfl (enters_of Tryz.func105 (by kernel_rfl) rfl)
          (from_tells (w := W1) HN.out hA cA (by omega) (HDP.out k hk (HPP.out)) hbel cY cZ (by omega) (by omega)) (Below.refl _ _) hbel.size
          (fun pre Wq => Wq.heap[w.heap.size]? = some (.cells #[.int .i64 (cnt (reachN ns f k : Int) pre)] 3 (0, 0)) ∧ (∀ d ∈ ds, w.heap.size ≤ d ∧ Wq.heap[d]? = some (.deferred (some []))) ∧ Below w.heap.size w Wq)
          ?hF ⟨(b1.block _ hRlt).trans HW.out.bR, fun d hd => ⟨(HW.out.bD d hd).1, (b1.block _ (blk_lt (HW.out.bD d hd).2)).trans (HW.out.bD d hd).2⟩, hbel⟩
          (fun x => { tmps := #[.pointer (some ⟨A, 0, none⟩), undef, .bool false, .pointer (some ⟨w.heap.size, 0, none⟩), .int .i64 (k : Int), .pointer (some ⟨W.heap.size, 0, none⟩), .pointer (some ⟨A, 0, none⟩), .pointer (some ⟨A, 0, none⟩), .pointer (some ⟨A, 0, none⟩), .slice (some ⟨b, off, none⟩) ns.length cap, .int .i64 (ns.length : Int), .int .i64 (k : Int), .bool true, .int .i64 (k : Int), .pointer (some ⟨b, off + k * 6, none⟩), .agg #[.int .i64 k0, .string k1, .slice av1 av2 av3, .string k3, .int .i64 (-1), .slice kv1 kl kv3], .pointer (some ⟨W.heap.size, 4, none⟩), .int .i64 (-1), .bool false, .pointer (some ⟨A, 0, none⟩), .int .i64 (k : Int), .func (.func 105) #[] #[.pointer (some ⟨W.heap.size + 1, 0, none⟩), .pointer (some ⟨W.heap.size + 1 + 1, 0, none⟩)], .int .i64 x, u23, u24, u25, undef, undef, undef, undef, undef, undef, undef], defers := [] }) ?assign ?body ?done
        case hF =>
          intro pre Wa Wb row hs hg hr
          exact ⟨blk_free hs.1 (by omega) hg hr, fun d hd => ⟨(hs.2.1 d hd).1, blk_free (hs.2.1 d hd).2 (by have := blk_lt (HW.out.bD d hd).2; omega) hg hr⟩, below_free hs.2.2 (Nat.le_refl _) hbel.size hg hr⟩
        case assign =>
          intro l m x Wa K' hK'
          gi_wp2
          exact hK'
        case body =>
          rintro l m pre x Wb ⟨hRb, hDb, hBb⟩
          have cR : Wb.cell? ⟨w.heap.size, 0, none⟩ = some (.int .i64 (cnt (reachN ns f k : Int) pre)) := by simp only [World.cell?, hRb]; rfl
          have fR : Wb.frozen? ⟨w.heap.size, 0, none⟩ = false := by simp [World.frozen?, hRb]
          have HRb := (show Hid _ from hRb)
          have HDb := (show Hid _ from hDb)
          have HCN : Hid (cnt (reachN ns f k : Int) (pre ++ [x]) = wrap64 (cnt (reachN ns f k : Int) pre + 1)) := cnt_snoc _ _ _
          obtain ⟨z, hz⟩ : ∃ z, z = cnt (reachN ns f k : Int) pre := ⟨_, rfl⟩
          rw [← hz] at cR HRb HCN
          clear hRb hDb hz
          gi_wp2
          have gR := setCell_at (k := 0) (u := .int .i64 (wrap64 (z + 1))) HRb.out
          refine ⟨⟨rfl, rfl, rfl, by simp [World.setCell], fun j o hj ho => ?_⟩, ?_, fun d hd => ⟨(HDb.out d hd).1, ?_⟩, hBb.setCell (p := ⟨w.heap.size, 0, none⟩) (Nat.le_refl _) _⟩
          · rw [Below.heap_setCell Wb ⟨w.heap.size, 0, none⟩ _ j (by
              show j ≠ w.heap.size
              rintro rfl
              rcases ho with ho | ho | ho
              · omega
              · omega
              · rw [HRb.out] at hj; cases hj; cases ho)]
            exact hj
          · rw [HCN.out]
            exact gR
          · exact (KeepsOthers.setCell Wb ⟨w.heap.size, 0, none⟩ _).same d _ (HDb.out d hd).2 rfl
        case done =>
          rintro D Wd hD ⟨hRd, hDd, hBd⟩ hKd hDD
          have hre : reachN ns f (k + 1) = reachN ns f k + (down ns f k).length := by simp [reachN, HPP.out]
          have hle := reachN_le (ns := ns) (f := f) (k := k + 1) (m := ns.length) (by omega)
          rw [cnt_eq _ _ (by omega), ← hre] at hRd
          have hnd : (D :: ds).Nodup := List.nodup_cons.mpr ⟨fun hm => by have := blk_lt (HW.out.bD D hm).2; omega, HW.out.dd⟩
          have HRd := (show Hid _ from hRd)
          clear hRd hre
          gi_wp2
          exact HK.out _ _ ⟨ns.length - (k + 1), by omega, HJ.out _ _ _ ⟨k + 1, D :: ds, _, _, _, _, _, _, _, _, _, _, _, _, _, _, _, _, by omega, rfl, ⟨HRd.out, hnd, fun d hd => by
            rcases List.mem_cons.mp hd with rfl | hd
            · exact ⟨by have := hbel.size; omega, hDD⟩
            · exact hDd d hd, hBd⟩⟩⟩
      · gi_wp2
        obtain ⟨W0, hW0⟩ : ∃ W0, W0 = W.alloc (.cells #[.int .i64 k0, .string k1, .slice av1 av2 av3, .string k3, .int .i64 pk, .slice kv1 kl kv3] 37) := ⟨_, rfl⟩
        have b0 : Below W.heap.size W W0 := by rw [hW0]; exact (Below.refl _ W).alloc (Nat.le_refl _) _
        rw [← hW0]
        have hre : reachN ns f (k + 1) = reachN ns f k := by simp [reachN, HPP.out, hp]
        exact HK.out _ _ ⟨ns.length - (k + 1), by omega, HJ.out _ _ _ ⟨k + 1, ds, _, _, _, _, _, _, _, _, _, _, _, _, _, _, _, _, by omega, rfl, ⟨by rw [hre]; exact (b0.block _ (blk_lt HW.out.bR)).trans HW.out.bR, HW.out.dd, fun d hd => ⟨(HW.out.bD d hd).1, (b0.block _ (blk_lt (HW.out.bD d hd).2)).trans (HW.out.bD d hd).2⟩, HW.out.bel.trans (b0.mono HW.out.bel.size)⟩⟩⟩
    · have hke : k = ns.length := by omega
      have cR : W.cell? ⟨w.heap.size, 0, none⟩ = some (.int .i64 (reachN ns f k : Int)) := by simp only [World.cell?, HW.out.bR]; rfl
      have cA' : W.cell? ⟨A, 0, none⟩ = some (.slice (some ⟨b, off, none⟩) ns.length cap) := (HW.out.bel.cell (p := ⟨A, 0, none⟩) hA).trans cA
      rw [hke] at cR
      gi_wp2
      gi_quiet (fail)
      gi_wp2
      refine leaves_dmarks (by simp) w.heap.size ds _ HW.out.dd HW.out.bD ?_
      intro w' bw kw
      have bq : Below w.heap.size w (W.drewN nq) := ⟨HW.out.bel.os, HW.out.bel.tape, HW.out.bel.output, HW.out.bel.size, HW.out.bel.block⟩
      refine ⟨_, results_tmp rfl _ _ _, ?_, bq.trans bw⟩
      exact ret_bool (by rw [Bool.eq_iff_iff, beq_iff_eq, decide_eq_true_iff]; omega)
end Go.Proofs.YthdfhckmgneioaaGreat
