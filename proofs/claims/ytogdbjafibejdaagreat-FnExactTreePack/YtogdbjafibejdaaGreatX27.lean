/- The program's allReached, inside the fence. No condition. -/
import Derived.Sort.LoopGhostIn
import Derived.Test.YtogdbjafibejdaaGreatX26
import Derived.Test.YtogdbjafibejdaaGreatX25
import Derived.Test.YtogdbjafibejdaaGreatX7
import Derived.Test.YtogdbjafibejdaaGreatX24
import Derived.Test.YtogdbjafibejdaaGreatX21
import Derived.Test.YtogdbjafibejdaaGreatX9
import Derived.Test.YtogdbjafibejdaaGreatX20
import Derived.Test.YtogdbjafibejdaaGreatX14
namespace Go.Proofs.YtogdbjafibejdaaGreat
open Go.RowKit Go.Shelf
set_option maxRecDepth 100000
set_option linter.unusedVariables false
attribute [local go_sem] Oper.semAt_some

def cnt (z : Int) (pre : List Int) : Int := pre.foldl (fun s _ => wrap64 (s + 1)) z
theorem cnt_snoc (z : Int) (pre : List Int) (x : Int) : cnt z (pre ++ [x]) = wrap64 (cnt z pre + 1) := by simp [cnt]
theorem cnt_eq (c : Nat) (pre : List Int) (h : c + pre.length < 4611686018427387904) : cnt c pre = ((c + pre.length : Nat) : Int) := by
  induction pre generalizing c with
  | nil => rfl
  | cons x pre ih =>
    have e : wrap64 ((c : Int) + 1) = ((c + 1 : Nat) : Int) := by
      simp only [List.length_cons] at h
      have : ((c : Int) + 1) = ((c + 1 : Nat) : Int) := by omega
      rw [this]
      simp only [wrap64]; omega
    show cnt (wrap64 ((c : Int) + 1)) pre = _
    rw [e, ih (c + 1) (by simp only [List.length_cons] at h; omega)]
    simp only [List.length_cons]
    omega

structure ReachW (w : World) (ns : List PNode) (f k : Nat) (ds : List Nat) (W : World) : Prop where
  bR : W.heap[w.heap.size]? = some (.cells #[.int .i64 (reachN ns f k : Int)] 3 (0, 0))
  dd : ds.Nodup
  bD : ∀ d ∈ ds, w.heap.size ≤ d ∧ W.heap[d]? = some (.deferred (some []))
  bel : Below w.heap.size w W
def ReachInv (w : World) (A b off cap : Nat) (ns : List PNode) (f m : Nat) (a : Act) (W : World) : Prop :=
  ∃ (k : Nat) (ds : List Nat) (u4 u5 u12 u13 u14 u15 u16 u17 u18 u19 u20 u21 u22 u23 u24 u25 : Value), k + m = ns.length ∧ a = { tmps := #[.pointer (some ⟨A, 0, none⟩), undef, .bool false, .pointer (some ⟨w.heap.size, 0, none⟩), u4, u5, .pointer (some ⟨A, 0, none⟩), .pointer (some ⟨A, 0, none⟩), .pointer (some ⟨A, 0, none⟩), .slice (some ⟨b, off, none⟩) ns.length cap, .int .i64 (ns.length : Int), .int .i64 (k : Int), u12, u13, u14, u15, u16, u17, u18, u19, u20, u21, u22, u23, u24, u25, undef, undef, undef, undef, undef, undef, undef], defers := dmarks ds } ∧ ReachW w ns f k ds W

set_option maxHeartbeats 1000000 in
theorem allReached_any {w : World} {v : Value} {ns : List PNode} {A f : Nat} (hn : NodesAt w v ns) (hA : A < w.heap.size) (cA : w.cell? ⟨A, 0, none⟩ = some v) (hlen : ns.length ≤ 500) (h1 : 1 ≤ ns.length)
    (hdeep : ∀ k, k < ns.length → parOf ns k = -1 → deepOk ns f k) (htot : reachN ns f ns.length < 4611686018427387904) :
    Calls Tryz.prog 61 #[.pointer (some ⟨A, 0, none⟩)] w fun e w' => e = .returned (.bool (decide (reachN ns f ns.length = ns.length))) ∧ Below w.heap.size w w' := by
  have HN := (show Hid (NodesAt w v ns) from hn)
  obtain ⟨a, cap, rfl, hc1, hc2, hcs⟩ := hn.slice
  obtain ⟨b, off, _, _, rfl, hblt, _⟩ := hcs 0 h1
  have HCS := (show Hid (∀ k (hk : k < ns.length), ∃ av kv, Sv 2 w av (pairCells ns[k].attrs) ∧ Sl .i64 w kv ns[k].kids ∧ w.cell? ⟨b, off + k * 6, none⟩ = some (.int .i64 ns[k].kind) ∧ w.cell? ⟨b, off + k * 6 + 1, none⟩ = some (.string ns[k].name) ∧ w.cell? ⟨b, off + k * 6 + 2, none⟩ = some av ∧ w.cell? ⟨b, off + k * 6 + 3, none⟩ = some (.string ns[k].text) ∧ w.cell? ⟨b, off + k * 6 + 4, none⟩ = some (.int .i64 ns[k].parent) ∧ w.cell? ⟨b, off + k * 6 + 5, none⟩ = some kv) from fun k hk => by
    obtain ⟨_, _, av, kv, e, _, c0, c1, c2, c3, c4, c5, hav, hkv⟩ := hcs k hk
    cases e
    exact ⟨av, kv, hav, hkv, c0, c1, c2, c3, c4, c5⟩)
  have HDP := (show Hid _ from hdeep)
  clear hcs hn hdeep
  refine (callsIn_wide (n := 5)).1 ?_
  refine callsIn_of_wp_marks Tryz.func61 rfl trivial ?_ rfl
  simp only [Tryz.ntmps61, List.size_toArray, List.length_cons, List.length_nil, Nat.reduceAdd, Nat.reduceSub, Array.replicate_succ, Array.replicate_zero, List.push_toArray, List.append_toArray, List.nil_append, List.cons_append]
  obtain ⟨w3, hw3⟩ : ∃ w3, w3 = w.alloc (.cells #[.int .i64 0] 3) := ⟨_, rfl⟩
  have b3 : Below w.heap.size w w3 := by rw [hw3]; exact (Below.refl _ w).alloc (Nat.le_refl _) _
  have c3 : w3.cell? ⟨A, 0, none⟩ = some (.slice (some ⟨b, off, none⟩) ns.length cap) := (b3.cell (p := ⟨A, 0, none⟩) hA).trans cA
  have g0 : w3.heap[w.heap.size]? = some (.cells #[.int .i64 0] 3 (0, 0)) := by rw [hw3]; exact World.alloc_heap_new _ _
  have HG0 := (show Hid _ from g0)
  rw [hw3] at c3
  clear g0
  gi_wp2
  rw [← hw3]
  clear c3
  refine wpIn_loop_ghost_k (ReachInv w A b off cap ns f) ns.length ?start ?round
  case start =>
    exact ⟨0, [], undef, undef, undef, undef, undef, undef, undef, undef, undef, undef, undef, undef, undef, undef, undef, undef, by simp, rfl, ⟨HG0.out, List.nodup_nil, (fun d hd => by cases hd), b3⟩⟩
  case round =>
    clear HG0 b3 hw3
    rintro m a' W ⟨k, ds, u4, u5, u12, u13, u14, u15, u16, u17, u18, u19, u20, u21, u22, u23, u24, u25, hm, rfl, hW⟩ J K hJ hK
    have HJ := (show Hid _ from hJ)
    have HK := (show Hid _ from hK)
    have HW := (show Hid (ReachW w ns f k ds W) from hW)
    clear hJ hK hW
    by_cases hk : k < ns.length
    · obtain ⟨av, kv, hav, hkv, c0, c1, c2, c3, c4, c5⟩ := HCS.out k hk
      have hb := HW.out.bel
      replace c0 := (hb.cell (p := ⟨b, off + k * 6, none⟩) hblt).trans c0
      replace c1 := (hb.cell (p := ⟨b, off + k * 6 + 1, none⟩) hblt).trans c1
      replace c2 := (hb.cell (p := ⟨b, off + k * 6 + 2, none⟩) hblt).trans c2
      replace c3 := (hb.cell (p := ⟨b, off + k * 6 + 3, none⟩) hblt).trans c3
      replace c4 := (hb.cell (p := ⟨b, off + k * 6 + 4, none⟩) hblt).trans c4
      replace c5 := (hb.cell (p := ⟨b, off + k * 6 + 5, none⟩) hblt).trans c5
      obtain ⟨av1, av2, av3, rfl, _⟩ := hav
      obtain ⟨kv1, kv3, rfl, _⟩ := hkv
      have HPP : Hid (parOf ns k = ns[k].parent) := parOf_at hk
      obtain ⟨pk, hpk⟩ : ∃ pk, pk = ns[k].parent := ⟨_, rfl⟩
      rw [← hpk] at c4 HPP
      obtain ⟨k0, hk0⟩ : ∃ k0, k0 = ns[k].kind := ⟨_, rfl⟩
      obtain ⟨k1, hk1⟩ : ∃ k1, k1 = ns[k].name := ⟨_, rfl⟩
      obtain ⟨k3, hk3⟩ : ∃ k3, k3 = ns[k].text := ⟨_, rfl⟩
      obtain ⟨kl, hkl⟩ : ∃ kl, kl = ns[k].kids.length := ⟨_, rfl⟩
      rw [← hk0] at c0
      rw [← hk1] at c1
      rw [← hk3] at c3
      rw [← hkl] at c5
      clear hpk hk0 hk1 hk3 hkl hb
      by_cases hp : pk = -1
      · subst hp
        gi_wp2
        refine ⟨trivial, (from_in _ _ _ _).mono ?_⟩
        rintro e w' ⟨rfl, rfl⟩
        gi_wp2
        obtain ⟨W0, hW0⟩ : ∃ W0, W0 = W.alloc (.cells #[.int .i64 k0, .string k1, .slice av1 av2 av3, .string k3, .int .i64 (-1), .slice kv1 kl kv3] 36) := ⟨_, rfl⟩
        have b0 : Below W.heap.size W W0 := by rw [hW0]; exact (Below.refl _ W).alloc (Nat.le_refl _) _
        rw [← hW0]
        obtain ⟨W1, hW1⟩ : ∃ W1, W1 = (W0.alloc (.cells #[.pointer (some ⟨A, 0, none⟩)] 64)).alloc (.cells #[.int .i64 (k : Int)] 3) := ⟨_, rfl⟩
        have b01 : Below W0.heap.size W0 W1 := by rw [hW1]; exact ((Below.refl _ W0).alloc (Nat.le_refl _) _).alloc (by simp) _
        have sz1 : W1.heap.size = W0.heap.size + 2 := by rw [hW1]; simp
        have gY : W1.heap[W0.heap.size]? = some (.cells #[.pointer (some ⟨A, 0, none⟩)] 64 (0, 0)) := by
          rw [hW1, Below.heap_alloc _ _ _ (by simp)]
          exact World.alloc_heap_new _ _
        have gZ : W1.heap[W0.heap.size + 1]? = some (.cells #[.int .i64 (k : Int)] 3 (0, 0)) := by
          rw [hW1]
          have := World.alloc_heap_new (W0.alloc (.cells #[.pointer (some ⟨A, 0, none⟩)] 64)) (.cells #[.int .i64 (k : Int)] 3)
          rwa [World.size_alloc] at this
        have cY : W1.cell? ⟨W0.heap.size, 0, none⟩ = some (.pointer (some ⟨A, 0, none⟩)) := by simp only [World.cell?, gY]; rfl
        have cZ : W1.cell? ⟨W0.heap.size + 1, 0, none⟩ = some (.int .i64 (k : Int)) := by simp only [World.cell?, gZ]; rfl
        have b1 : Below W.heap.size W W1 := b0.trans (b01.mono b0.size)
        have hs0 : W0.heap.size = W.heap.size + 1 := by rw [hW0]; simp
        rw [hs0] at cY cZ sz1
        have hbel : Below w.heap.size w W1 := HW.out.bel.trans (b1.mono HW.out.bel.size)
        have hszW := b1.size
        have hRlt := blk_lt HW.out.bR
        rw [← hW1]
        refine wpIn_tells (w0 := W1) (n0 := w.heap.size) (all := down ns f k) (gf := 121) (lb := #[.pointer (some ⟨W.heap.size + 1, 0, none⟩), .pointer (some ⟨W.heap.size + 1 + 1, 0, none⟩)]) rfl (enters_of Tryz.func121 (by kernel_rfl) rfl)
          (from_tells (w := W1) HN.out hA cA (by omega) (HDP.out k hk (HPP.out)) hbel cY cZ (by omega) (by omega)) (Below.refl _ _) hbel.size
          (fun pre Wq => Wq.heap[w.heap.size]? = some (.cells #[.int .i64 (cnt (reachN ns f k : Int) pre)] 3 (0, 0)) ∧ (∀ d ∈ ds, w.heap.size ≤ d ∧ Wq.heap[d]? = some (.deferred (some []))) ∧ Below w.heap.size w Wq)
          ?hF ⟨(b1.block _ hRlt).trans HW.out.bR, fun d hd => ⟨(HW.out.bD d hd).1, (b1.block _ (blk_lt (HW.out.bD d hd).2)).trans (HW.out.bD d hd).2⟩, hbel⟩
          (fun x => { tmps := #[.pointer (some ⟨A, 0, none⟩), undef, .bool false, .pointer (some ⟨w.heap.size, 0, none⟩), .int .i64 (k : Int), .pointer (some ⟨W.heap.size, 0, none⟩), .pointer (some ⟨A, 0, none⟩), .pointer (some ⟨A, 0, none⟩), .pointer (some ⟨A, 0, none⟩), .slice (some ⟨b, off, none⟩) ns.length cap, .int .i64 (ns.length : Int), .int .i64 (k : Int), .bool true, .int .i64 (k : Int), .pointer (some ⟨b, off + k * 6, none⟩), .agg #[.int .i64 k0, .string k1, .slice av1 av2 av3, .string k3, .int .i64 (-1), .slice kv1 kl kv3], .pointer (some ⟨W.heap.size, 4, none⟩), .int .i64 (-1), .bool false, .pointer (some ⟨A, 0, none⟩), .int .i64 (k : Int), .func (.func 121) #[] #[.pointer (some ⟨W.heap.size + 1, 0, none⟩), .pointer (some ⟨W.heap.size + 1 + 1, 0, none⟩)], .int .i64 x, u23, u24, u25, undef, undef, undef, undef, undef, undef, undef], defers := [] }) ?assign ?body ?done
        case hF =>
          intro pre Wa Wb row hs hg hr
          exact ⟨blk_free hs.1 (by omega) hg hr, fun d hd => ⟨(hs.2.1 d hd).1, blk_free (hs.2.1 d hd).2 (by have := blk_lt (HW.out.bD d hd).2; omega) hg hr⟩, below_free hs.2.2 (Nat.le_refl _) hbel.size hg hr⟩
        case assign =>
          intro l m x Wa K' hK'
          gi_wp2
          exact hK'
        case body =>
          rintro l m pre x Wb ⟨hRb, hDb, hBb⟩
          have cR : Wb.cell? ⟨w.heap.size, 0, none⟩ = some (.int .i64 (cnt (reachN ns f k : Int) pre)) := by simp only [World.cell?, hRb]; rfl
          have fR : Wb.frozen? ⟨w.heap.size, 0, none⟩ = false := by simp [World.frozen?, hRb]
          have HRb := (show Hid _ from hRb)
          have HDb := (show Hid _ from hDb)
          have HCN : Hid (cnt (reachN ns f k : Int) (pre ++ [x]) = wrap64 (cnt (reachN ns f k : Int) pre + 1)) := cnt_snoc _ _ _
          obtain ⟨z, hz⟩ : ∃ z, z = cnt (reachN ns f k : Int) pre := ⟨_, rfl⟩
          rw [← hz] at cR HRb HCN
          clear hRb hDb hz
          gi_wp2
          have gR := setCell_at (k := 0) (u := .int .i64 (wrap64 (z + 1))) HRb.out
          refine ⟨⟨rfl, rfl, rfl, by simp [World.setCell], fun j o hj ho => ?_⟩, ?_, fun d hd => ⟨(HDb.out d hd).1, ?_⟩, hBb.setCell (p := ⟨w.heap.size, 0, none⟩) (Nat.le_refl _) _⟩
          · rw [Below.heap_setCell Wb ⟨w.heap.size, 0, none⟩ _ j (by
              show j ≠ w.heap.size
              rintro rfl
              rcases ho with ho | ho | ho
              · omega
              · omega
              · rw [HRb.out] at hj; cases hj; cases ho)]
            exact hj
          · rw [HCN.out]
            exact gR
          · exact (KeepsOthers.setCell Wb ⟨w.heap.size, 0, none⟩ _).same d _ (HDb.out d hd).2 rfl
        case done =>
          rintro D Wd hD ⟨hRd, hDd, hBd⟩ hKd hDD
          have hre : reachN ns f (k + 1) = reachN ns f k + (down ns f k).length := by simp [reachN, HPP.out]
          have hle := reachN_le (ns := ns) (f := f) (k := k + 1) (m := ns.length) (by omega)
          rw [cnt_eq _ _ (by omega), ← hre] at hRd
          have hnd : (D :: ds).Nodup := List.nodup_cons.mpr ⟨fun hm => by have := blk_lt (HW.out.bD D hm).2; omega, HW.out.dd⟩
          have HRd := (show Hid _ from hRd)
          clear hRd hre
          gi_wp2
          exact HK.out _ _ ⟨ns.length - (k + 1), by omega, HJ.out _ _ _ ⟨k + 1, D :: ds, _, _, _, _, _, _, _, _, _, _, _, _, _, _, _, _, by omega, rfl, ⟨HRd.out, hnd, fun d hd => by
            rcases List.mem_cons.mp hd with rfl | hd
            · exact ⟨by have := hbel.size; omega, hDD⟩
            · exact hDd d hd, hBd⟩⟩⟩
      · gi_wp2
        obtain ⟨W0, hW0⟩ : ∃ W0, W0 = W.alloc (.cells #[.int .i64 k0, .string k1, .slice av1 av2 av3, .string k3, .int .i64 pk, .slice kv1 kl kv3] 36) := ⟨_, rfl⟩
        have b0 : Below W.heap.size W W0 := by rw [hW0]; exact (Below.refl _ W).alloc (Nat.le_refl _) _
        rw [← hW0]
        have hre : reachN ns f (k + 1) = reachN ns f k := by simp [reachN, HPP.out, hp]
        exact HK.out _ _ ⟨ns.length - (k + 1), by omega, HJ.out _ _ _ ⟨k + 1, ds, _, _, _, _, _, _, _, _, _, _, _, _, _, _, _, _, by omega, rfl, ⟨by rw [hre]; exact (b0.block _ (blk_lt HW.out.bR)).trans HW.out.bR, HW.out.dd, fun d hd => ⟨(HW.out.bD d hd).1, (b0.block _ (blk_lt (HW.out.bD d hd).2)).trans (HW.out.bD d hd).2⟩, HW.out.bel.trans (b0.mono HW.out.bel.size)⟩⟩⟩
    · have hke : k = ns.length := by omega
      have cR : W.cell? ⟨w.heap.size, 0, none⟩ = some (.int .i64 (reachN ns f k : Int)) := by simp only [World.cell?, HW.out.bR]; rfl
      have cA' : W.cell? ⟨A, 0, none⟩ = some (.slice (some ⟨b, off, none⟩) ns.length cap) := (HW.out.bel.cell (p := ⟨A, 0, none⟩) hA).trans cA
      rw [hke] at cR
      gi_wp2
      gi_quiet (fail)
      gi_wp2
      refine leaves_dmarks (by simp) w.heap.size ds _ HW.out.dd HW.out.bD ?_
      intro w' bw kw
      have bq : Below w.heap.size w (W.drewN nq) := ⟨HW.out.bel.os, HW.out.bel.tape, HW.out.bel.output, HW.out.bel.size, HW.out.bel.block⟩
      refine ⟨_, results_tmp rfl _ _ _, ?_, bq.trans bw⟩
      exact ret_bool (by rw [Bool.eq_iff_iff, beq_iff_eq, decide_eq_true_iff]; omega)
end Go.Proofs.YtogdbjafibejdaaGreat

/- The program's tellFrom and from, inside the fence. No condition. -/
namespace Go.Proofs.YtogdbjafibejdaaGreat
open Go.RowKit Go.Shelf
set_option maxRecDepth 100000
set_option linter.unusedVariables false
attribute [local go_sem] Oper.semAt_some

theorem TellBox.kz {A l B n0 : Nat} {T : TypeId → Prop} {S S' : Nat → Prop} {W W' : World} (h : TellBox A l B W) (k : Kz n0 T S S' W W') (hB : ∀ j, B ≤ j → j < B + 3 → ¬ S j) (hT : ¬ T 64 ∧ ¬ T 80 ∧ ¬ T 4) : TellBox A l B W' :=
  ⟨k.same _ _ h.1 (.inr (.inl ⟨hB _ (by omega) (by omega), fun ⟨_, _, _, e, ht⟩ => by cases e; exact hT.1 ht⟩)), k.same _ _ h.2.1 (.inr (.inl ⟨hB _ (by omega) (by omega), fun ⟨_, _, _, e, ht⟩ => by cases e; exact hT.2.1 ht⟩)), k.same _ _ h.2.2 (.inr (.inl ⟨hB _ (by omega) (by omega), fun ⟨_, _, _, e, ht⟩ => by cases e; exact hT.2.2 ht⟩))⟩

set_option maxHeartbeats 800000 in
theorem kids_tells2 {w0 w : World} {T : TypeId → Prop} {v : Value} {ns : List PNode} {A Ba Bt k : Nat} (hn : NodesAt w0 v ns) (hA : A < w0.heap.size) (cA : w0.cell? ⟨A, 0, none⟩ = some v) (hlen : ns.length ≤ 1048576) (hk : k < ns.length) (hw : Below w0.heap.size w0 w)
    (ca : w.cell? ⟨Ba, 0, none⟩ = some (.pointer (some ⟨A, 0, none⟩))) (ct : w.cell? ⟨Bt, 0, none⟩ = some (.int .i64 (k : Int))) (hBa : Ba < w.heap.size) (hBt : Bt < w.heap.size) :
    SeqTells2 Tryz.prog T 158 #[.pointer (some ⟨Ba, 0, none⟩), .pointer (some ⟨Bt, 0, none⟩)] w0.heap.size (kidsOf ns k) w := by
  intro n l n1 J S W hWw hn1 hn0 hSW hF hY h0
  have hW : Below w0.heap.size w0 W := hw.trans (hWw.mono hw.size)
  have hBa' := (hWw.cell (p := ⟨Ba, 0, none⟩) hBa).trans ca
  have hBt' := (hWw.cell (p := ⟨Bt, 0, none⟩) hBt).trans ct
  have hA' := (hW.cell (p := ⟨A, 0, none⟩) hA).trans cA
  obtain ⟨a, cap, rfl, hc1, hc2, hcs⟩ := hn.slice
  obtain ⟨b, off, av, kv, rfl, hblt, _, _, _, _, _, c5, _, hsl⟩ := hcs k hk
  have c5' := (hW.cell (p := ⟨b, off + k * 6 + 5, none⟩) hblt).trans c5
  obtain ⟨ka, kcap, rfl, hk1, hk2, _, hkc⟩ := hsl
  have hkm : kcap < 9223372036854775808 := Nat.lt_of_le_of_lt hk2 (by decide)
  rw [← kidsOf_at hk] at hkc c5' hk1
  obtain ⟨zs, hzs⟩ : ∃ zs, zs = kidsOf ns k := ⟨_, rfl⟩
  rw [← hzs] at hkc c5' hk1 hY ⊢
  have HKC := (show Hid (Cells .i64 w0 ka zs) from hkc)
  have HW := (show Hid (Below w0.heap.size w0 W) from hW)
  clear hcs hkc c5 hW hn hzs ca ct cA
  refine (callsIn_wide (n := n)).2 ((callsIn_wide (n := 5)).1 ?_)
  refine callsIn_of_wp Tryz.func158 rfl trivial ?_ rfl
  simp only [Tryz.ntmps158, List.size_toArray, List.length_cons, List.length_nil, Nat.reduceAdd, Nat.reduceSub, Array.replicate_succ, Array.replicate_zero, List.push_toArray, List.append_toArray, List.nil_append, List.cons_append]
  gi_wp2
  gi_quiet (fail)
  have hbq : Below W.heap.size W (W.drewN nq) := ⟨rfl, rfl, rfl, Nat.le_refl _, fun _ _ => rfl⟩
  have h0' : J S [] (W.drewN nq) := hF _ _ _ _ h0 (Agree.of_below hbq)
  have hk0 : Kz w0.heap.size T S S W (W.drewN nq) := Kz.of_below hbq hSW
  gi_wp2
  gi_loopw [15] (fun i wr => ∃ (j : Nat) (S' : Nat → Prop), j ≤ zs.length ∧ i = .int .i64 j ∧ J S' (zs.take j) wr ∧ Kz w0.heap.size T S S' W wr) (fun i _ => zs.length - (intOf i).toNat)
  case atStart => exact ⟨0, S, Nat.zero_le _, rfl, by simpa using h0', hk0⟩
  case round =>
    obtain ⟨j, S', hj, rfl, hJs, hks⟩ := hrel
    by_cases hlt : j < zs.length
    · have hnx : Below w0.heap.size w0 wr := HW.out.trans (hks.below hn0)
      obtain ⟨kb, ko, rfl, ck⟩ := HKC.out j hlt
      rw [show zs.getD j 0 = zs[j] by simp [List.getD_eq_getElem?_getD, hlt]] at ck
      have hkb : kb < w0.heap.size := by
        by_cases h : kb < w0.heap.size
        · exact h
        · exfalso; simp [World.cell?, Array.getElem?_eq_none (Nat.le_of_not_lt h)] at ck
      have ck' := (hnx.cell (p := ⟨kb, ko + j, none⟩) hkb).trans ck
      have HP : Hid (zs.take j ++ [zs[j]] = zs.take (j + 1)) := (take_snoc zs hlt).symm
      obtain ⟨fn, tmps, assign, body, hy, hR⟩ := hY 4 S' (zs.take j) zs[j] wr (by rw [HP.out]; exact List.take_prefix _ _) hJs (fun i hi => (hks.sub i hi).1)
      have HKS := (show Hid (Kz w0.heap.size T S S' W wr) from hks)
      clear ck hnx hks
      gi_wp2
      refine hR.mono ?_
      rintro e W3 ⟨rfl, S3, hJ3, hk3⟩
      gi_wp2
      go_roundw
      case rel => exact ⟨j + 1, S3, by omega, by go_num, by rw [← HP.out]; exact hJ3, HKS.out.trans hk3⟩
      case measure => simp [intOf]; omega
    · obtain rfl : j = zs.length := by omega
      rw [List.take_length] at hJs
      gi_wp2
      go_end0
      exact ⟨⟨_, rfl⟩, S', hJs, hks⟩

set_option maxHeartbeats 1000000 in
theorem tellFrom_in2 {w0 : World} {T : TypeId → Prop} (hT : ¬ T 64 ∧ ¬ T 80 ∧ ¬ T 4) {v : Value} {ns : List PNode} {A l n1 : Nat} (hn : NodesAt w0 v ns) (hA : A < w0.heap.size) (cA : w0.cell? ⟨A, 0, none⟩ = some v) (hlen : ns.length ≤ 1048576) (J : (Nat → Prop) → List Int → World → Prop) (hF : FreeS w0.heap.size n1 T J)
    (G : List Int → Prop) (hY : ∀ m S pre x W1, G (pre ++ [x]) → J S pre W1 → (∀ k, S k → k < W1.heap.size) → YieldAt Fence.wide m Tryz.prog l #[.int .i64 x] W1 fun e W' => e = .returned (.bool true) ∧ ∃ S', J S' (pre ++ [x]) W' ∧ Kz w0.heap.size T S S' W1 W') :
    ∀ (f k : Nat), deepOk ns f k → ∀ (n : Nat) (S : Nat → Prop) (pre : List Int) (W : World), (∀ l', l' ≠ [] → l' <+: down ns f k → G (pre ++ l')) → Below w0.heap.size w0 W → n1 ≤ W.heap.size → (∀ k, S k → k < W.heap.size) → J S pre W →
      CallsIn Fence.wide n Tryz.prog 122 #[.pointer (some ⟨A, 0, none⟩), .int .i64 (k : Int), .func (.yield l) #[] #[]] W fun e W' => e = .returned (.bool true) ∧ ∃ S', J S' (pre ++ down ns f k) W' ∧ Kz w0.heap.size T S S' W W' := by
  intro f
  induction f with
  | zero => intro k h; exact h.elim
  | succ f ih =>
    intro k hk n S pre W hG hW hn1 hSW hJW
    have HGG := (show Hid (∀ l', l' ≠ [] → l' <+: down ns (f + 1) k → G (pre ++ l')) from hG)
    clear hG
    have hklt := hk.1
    have IH := (show Hid _ from ih)
    have HN := (show Hid (NodesAt w0 v ns) from hn)
    have HK := (show Hid (∀ x ∈ kidsOf ns k, 0 ≤ x ∧ deepOk ns f x.toNat) from hk.2)
    clear ih hn hk
    refine (callsIn_wide (n := n)).2 ((callsIn_wide (n := 5)).1 ?_)
    have hbox := tellBox_new A l W
    have b3 := (((Below.refl _ W).alloc (Nat.le_refl _) (.cells #[.pointer (some ⟨A, 0, none⟩)] 64)).alloc (by simp) (.cells #[.func (.yield l) #[] #[]] 80)).alloc (by simp; omega) (.cells #[.bool false] 4)
    have hJ3 : J S pre _ := hF _ _ _ _ hJW (Agree.of_below b3)
    have hsz3 : (((W.alloc (.cells #[.pointer (some ⟨A, 0, none⟩)] 64)).alloc (.cells #[.func (.yield l) #[] #[]] 80)).alloc (.cells #[.bool false] 4)).heap.size = W.heap.size + 3 := by simp
    have hNS : ∀ j, W.heap.size ≤ j → j < W.heap.size + 3 → ¬ S j := fun j h1 _ hj => by have := hSW j hj; omega
    obtain ⟨fn, tmps, assign, body, hy, hR⟩ := hY 4 S pre (k : Int) _ (HGG.out [(k : Int)] (by simp) (by rw [down]; exact ⟨_, rfl⟩)) hJ3 (fun j hj => by have := hSW j hj; omega)
    have cY : (((W.alloc (.cells #[.pointer (some ⟨A, 0, none⟩)] 64)).alloc (.cells #[.func (.yield l) #[] #[]] 80)).alloc (.cells #[.bool false] 4)).cell? ⟨W.heap.size + 1, 0, none⟩ = some (.func (.yield l) #[] #[]) := by simp only [World.cell?, hbox.2.1]; rfl
    have HB := (show Hid (TellBox A l W.heap.size _) from hbox)
    have HB3 := (show Hid (Below W.heap.size W _) from b3)
    have HSZ3 := (show Hid _ from hsz3)
    have HNS := (show Hid (∀ j, W.heap.size ≤ j → j < W.heap.size + 3 → ¬ S j) from hNS)
    have HSW := (show Hid (∀ k, S k → k < W.heap.size) from hSW)
    clear hbox b3 hJ3 hsz3 hNS hSW
    refine callsIn_of_wp_marks Tryz.func122 rfl trivial ?_ rfl
    simp only [Tryz.ntmps122, List.size_toArray, List.length_cons, List.length_nil, Nat.reduceAdd, Nat.reduceSub, Array.replicate_succ, Array.replicate_zero, List.push_toArray, List.append_toArray, List.nil_append, List.cons_append]
    gi_wp2
    refine hR.mono ?_
    rintro e W4 ⟨rfl, S4, hJ4, hK4⟩
    have bx4 := TellBox.kz HB.out hK4 HNS.out hT
    have k4 : Kz w0.heap.size T S S4 W W4 := (Kz.of_below HB3.out HSW.out).trans hK4
    have hNS4 : ∀ j, W.heap.size ≤ j → j < W.heap.size + 3 → ¬ S4 j := fun j h1 h2 hj => by
      rcases (hK4.sub j hj).2 with h | h
      · exact HNS.out j h1 h2 h
      · have := HSZ3.out; omega
    have b4 : Below w0.heap.size w0 W4 := hW.trans (k4.below hW.size)
    have c4 : W4.cell? ⟨W.heap.size, 0, none⟩ = some (.pointer (some ⟨A, 0, none⟩)) := by simp only [World.cell?, bx4.1]; rfl
    have HX4 := (show Hid (TellBox A l W.heap.size W4) from bx4)
    have HK4 := (show Hid (Kz w0.heap.size T S S4 W W4) from k4)
    have HNS4 := (show Hid (∀ j, W.heap.size ≤ j → j < W.heap.size + 3 → ¬ S4 j) from hNS4)
    have HB4 := (show Hid (Below w0.heap.size w0 W4) from b4)
    have HJ4 := (show Hid (J S4 (pre ++ [(k : Int)]) W4) from hJ4)
    have hlt4 := blk_lt bx4.2.2
    clear HB HB3 hK4 bx4 k4 b4 hJ4 cY hy hR hNS4 HSZ3
    gi_wp2
    refine ⟨trivial, (kids_in _ _ _ _).mono ?_⟩
    rintro e w' ⟨rfl, rfl⟩
    gi_wp2
    obtain ⟨W5, hW5⟩ : ∃ W5, W5 = (W4.alloc (.cells #[.pointer (some ⟨A, 0, none⟩)] 64)).alloc (.cells #[.int .i64 (k : Int)] 3) := ⟨_, rfl⟩
    have b5 : Below W4.heap.size W4 W5 := by rw [hW5]; exact ((Below.refl _ W4).alloc (Nat.le_refl _) _).alloc (by simp) _
    have sz5 : W5.heap.size = W4.heap.size + 2 := by rw [hW5]; simp
    have gY : W5.heap[W4.heap.size]? = some (.cells #[.pointer (some ⟨A, 0, none⟩)] 64 (0, 0)) := by
      rw [hW5, Below.heap_alloc _ _ _ (by simp)]
      exact World.alloc_heap_new _ _
    have gZ : W5.heap[W4.heap.size + 1]? = some (.cells #[.int .i64 (k : Int)] 3 (0, 0)) := by
      rw [hW5]
      have := World.alloc_heap_new (W4.alloc (.cells #[.pointer (some ⟨A, 0, none⟩)] 64)) (.cells #[.int .i64 (k : Int)] 3)
      rwa [World.size_alloc] at this
    have cY : W5.cell? ⟨W4.heap.size, 0, none⟩ = some (.pointer (some ⟨A, 0, none⟩)) := by simp only [World.cell?, gY]; rfl
    have cZ : W5.cell? ⟨W4.heap.size + 1, 0, none⟩ = some (.int .i64 (k : Int)) := by simp only [World.cell?, gZ]; rfl
    have hJ5 : J S4 (pre ++ [(k : Int)]) W5 := hF _ _ _ _ HJ4.out (Agree.of_below b5)
    have k5 : Kz w0.heap.size T S S4 W W5 := HK4.out.trans (Kz.of_below b5 (fun j hj => (HK4.out.sub j hj).1))
    have bx5 : TellBox A l W.heap.size W5 := ⟨(b5.block _ (by omega)).trans HX4.out.1, (b5.block _ (by omega)).trans HX4.out.2.1, (b5.block _ (by omega)).trans HX4.out.2.2⟩
    have hbel : Below w0.heap.size w0 W5 := HB4.out.trans (b5.mono HB4.out.size)
    have hsz : W.heap.size ≤ W5.heap.size := k5.size
    have hle0 : w0.heap.size ≤ W.heap.size := hW.size
    rw [← hW5]
    refine wpIn_tells2 (T := T) (w0 := W5) (n0 := w0.heap.size) (all := kidsOf ns k) (gf := 158) (lb := #[.pointer (some ⟨W4.heap.size, 0, none⟩), .pointer (some ⟨W4.heap.size + 1, 0, none⟩)]) rfl (enters_of Tryz.func158 (by kernel_rfl) rfl)
      (kids_tells2 HN.out hA cA hlen hklt hbel cY cZ (by omega) (by omega)) (Below.refl _ _) hbel.size
      (fun S' pre' Wq => J S' (pre ++ [(k : Int)] ++ pre'.flatMap (fun x => down ns f x.toNat)) Wq ∧ Kz w0.heap.size T S S' W Wq ∧ TellBox A l W.heap.size Wq ∧ ∀ j, W.heap.size ≤ j → j < W.heap.size + 3 → ¬ S' j)
      ?hI S4 (fun j hj => by have := (HK4.out.sub j hj).1; omega) ⟨by simpa using hJ5, k5, bx5, HNS4.out⟩
      (fun x => { tmps := #[.pointer (some ⟨A, 0, none⟩), .int .i64 (k : Int), .func (.yield l) #[] #[], .pointer (some ⟨W.heap.size, 0, none⟩), undef, .pointer (some ⟨W.heap.size + 1, 0, none⟩), .pointer (some ⟨W.heap.size + 1 + 1, 0, none⟩), .int .i64 x, .func (.yield l) #[] #[], .int .i64 (k : Int), .bool true, .bool false, .pointer (some ⟨A, 0, none⟩), .int .i64 (k : Int), .func (.func 158) #[] #[.pointer (some ⟨W4.heap.size, 0, none⟩), .pointer (some ⟨W4.heap.size + 1, 0, none⟩)], .int .i64 x, undef, undef, undef, undef, undef], defers := [] }) ?assign ?body ?done
    case hI =>
      rintro S' pre' Wa Wb ⟨h1, h2, h3, h4⟩ hag
      refine ⟨hF _ _ _ _ h1 ⟨hag.os, hag.tape, hag.output, hag.size, fun j o hj ho => hag.same j o hj (by
        rcases ho with ho | ho | ho | ho
        · exact .inl ho
        · exact .inr (.inl ho)
        · exact .inr (.inr (.inl ho))
        · exact .inr (.inr (.inr (by omega))))⟩, ⟨hag.os.trans h2.os, hag.tape.trans h2.tape, hag.output.trans h2.output, Nat.le_trans h2.size hag.size, fun j o hj ho => hag.same j o (h2.same j o hj ho) (.inr (.inr (.inr (by have := blk_lt hj; omega)))), fun j hj => ⟨Nat.lt_of_lt_of_le (h2.sub j hj).1 hag.size, (h2.sub j hj).2⟩⟩, ⟨hag.same _ _ h3.1 (.inr (.inr (.inr (by omega)))), hag.same _ _ h3.2.1 (.inr (.inr (.inr (by omega)))), hag.same _ _ h3.2.2 (.inr (.inr (.inr (by omega))))⟩, h4⟩
    case assign =>
      intro l' m' x Wa K' hK'
      gi_wp2
      exact hK'
    case body =>
      rintro l' m' Sb pre' x Wb hpx ⟨hJb, hKb, hXb, hNb⟩ hSb
      have cb0 : Wb.cell? ⟨W.heap.size, 0, none⟩ = some (.pointer (some ⟨A, 0, none⟩)) := by simp only [World.cell?, hXb.1]; rfl
      have cb1 : Wb.cell? ⟨W.heap.size + 1, 0, none⟩ = some (.func (.yield l) #[] #[]) := by simp only [World.cell?, hXb.2.1]; rfl
      have hx : x ∈ kidsOf ns k := hpx.subset (by simp)
      obtain ⟨hx0, hdx⟩ := HK.out x hx
      obtain ⟨j, rfl⟩ : ∃ j : Nat, x = j := ⟨x.toNat, by omega⟩
      rw [show ((j : Int)).toNat = j by simp] at hdx
      have hGj : ∀ l', l' ≠ [] → l' <+: down ns f j → G (pre ++ [(k : Int)] ++ pre'.flatMap (fun x => down ns f x.toNat) ++ l') := fun l' hl1 hl2 => by
        have := HGG.out ((k : Int) :: (pre'.flatMap (fun x => down ns f x.toNat) ++ l')) (by simp) (by
          obtain ⟨r1, hr1⟩ := hpx
          obtain ⟨r2, hr2⟩ := hl2
          refine ⟨r2 ++ r1.flatMap (fun x => down ns f x.toNat), ?_⟩
          rw [down, ← hr1, List.flatMap_append, List.flatMap_append, List.flatMap_singleton, show ((j : Int)).toNat = j by simp, ← hr2]
          simp [List.append_assoc])
        simpa [List.append_assoc] using this
      have CC := (show Hid _ from IH.out j hdx (m' - 1) Sb _ Wb hGj (hW.trans (hKb.below hW.size)) (by have := hKb.size; omega) (fun i hi => (hKb.sub i hi).1) hJb)
      have HKb := (show Hid (Kz w0.heap.size T S Sb W Wb) from hKb)
      have HNb := (show Hid (∀ j, W.heap.size ≤ j → j < W.heap.size + 3 → ¬ Sb j) from hNb)
      have hlb := blk_lt hXb.2.2
      have HXb := (show Hid (TellBox A l W.heap.size Wb) from hXb)
      clear hJb hKb hXb hNb hGj hpx
      gi_wp2
      refine ⟨trivial, (fun h => by cases h), (CallsIn.inRound l' CC.out).mono ?_⟩
      rintro e Wc ⟨rfl, Sc, hJc, hKc⟩
      have hKc' := HKb.out.trans hKc
      have hXc := TellBox.kz HXb.out hKc HNb.out hT
      have hNc : ∀ i, W.heap.size ≤ i → i < W.heap.size + 3 → ¬ Sc i := fun i h1 h2 hi => by
        rcases (hKc.sub i hi).2 with h | h
        · exact HNb.out i h1 h2 h
        · omega
      have hJc' : J Sc (pre ++ [(k : Int)] ++ (pre' ++ [(j : Int)]).flatMap (fun x => down ns f x.toNat)) Wc := by simpa [List.flatMap_append, List.append_assoc] using hJc
      have END := (show Hid (∃ S', Kz w0.heap.size T Sb S' Wb Wc ∧ J S' (pre ++ [(k : Int)] ++ (pre' ++ [(j : Int)]).flatMap (fun x => down ns f x.toNat)) Wc ∧ Kz w0.heap.size T S S' W Wc ∧ TellBox A l W.heap.size Wc ∧ ∀ i, W.heap.size ≤ i → i < W.heap.size + 3 → ¬ S' i) from ⟨Sc, hKc, hJc', hKc', hXc, hNc⟩)
      clear hKc hJc hJc' hKc' hXc hNc
      gi_wp2
      simpa using END.out
    case done =>
      rintro D Sd Wd hD ⟨hJd, hKd, hXd, hNd⟩ hKdd hDd
      have cR : Wd.cell? ⟨W.heap.size + 1 + 1, 0, none⟩ = some (.bool false) := by simp only [World.cell?, hXd.2.2]; rfl
      have fR : Wd.frozen? ⟨W.heap.size + 1 + 1, 0, none⟩ = false := by simp [World.frozen?, hXd.2.2]
      have hds : (Wd.setCell ⟨W.heap.size + 1 + 1, 0, none⟩ (.bool true)).heap[D]? = some (.deferred (some [])) := (KeepsOthers.setCell Wd ⟨W.heap.size + 1 + 1, 0, none⟩ (.bool true)).same D _ hDd rfl
      have gR := setCell_at (k := 0) (u := .bool true) hXd.2.2
      gi_wp2
      refine ⟨by simp, .inl ⟨_, _, rfl, run_takeDeferred hds, ?_⟩⟩
      have hne : W.heap.size + 1 + 1 ≠ D := fun e => by rw [← e, hXd.2.2] at hDd; cases hDd
      have gR' : ((Wd.setCell ⟨W.heap.size + 1 + 1, 0, none⟩ (.bool true)).putObj D (.deferred none)).heap[W.heap.size + 1 + 1]? = _ := (World.putObj_heap_other hne).trans gR
      have hc : ((Wd.setCell ⟨W.heap.size + 1 + 1, 0, none⟩ (.bool true)).putObj D (.deferred none)).cell? ⟨W.heap.size + 1 + 1, 0, none⟩ = some (.bool true) := by simp only [World.cell?, gR']; rfl
      have hag1 : Agree w0.heap.size n1 T Sd Wd (Wd.setCell ⟨W.heap.size + 1 + 1, 0, none⟩ (.bool true)) := Agree.own (grown_setCell _ _ _ _) (fun r e => by cases e; exact ⟨by omega, by omega, .inl ⟨hNd _ (by omega) (by omega), fun o ho ⟨_, _, _, e, ht⟩ => by rw [hXd.2.2] at ho; cases ho; cases e; exact hT.2.2 ht⟩⟩)
      have hag2 : Agree w0.heap.size n1 T Sd (Wd.setCell ⟨W.heap.size + 1 + 1, 0, none⟩ (.bool true)) ((Wd.setCell ⟨W.heap.size + 1 + 1, 0, none⟩ (.bool true)).putObj D (.deferred none)) := Agree.own (grownBy_putObj' _ _ _) (fun r e => by cases e; exact ⟨by omega, by omega, .inr ⟨_, hds, rfl⟩⟩)
      have e1 : pre ++ [(k : Int)] ++ List.flatMap (fun x => down ns f x.toNat) (kidsOf ns k) = pre ++ down ns (f + 1) k := by simp [down]
      rw [e1] at hJd
      refine ⟨.bool true, ?_, rfl, Sd, hF _ _ _ _ (hF _ _ _ _ hJd hag1) hag2, ?_⟩
      · simp [results, Tryz.f122, go_sem, hc]
      · exact (hKd.own (B := W.heap.size) (Nat.le_refl _) (grown_setCell Wd (W.heap.size + 1 + 1) 0 (.bool true)) (fun r e => by cases e; omega)).own (B := W.heap.size) (Nat.le_refl _) (grownBy_putObj' _ _ _) (fun r e => by cases e; omega)

set_option maxHeartbeats 400000 in
theorem from_tells2 {w0 w : World} {T : TypeId → Prop} (hT : ¬ T 64 ∧ ¬ T 80 ∧ ¬ T 4) {v : Value} {ns : List PNode} {A Ba Bt f k : Nat} (hn : NodesAt w0 v ns) (hA : A < w0.heap.size) (cA : w0.cell? ⟨A, 0, none⟩ = some v) (hlen : ns.length ≤ 1048576) (hk : deepOk ns f k) (hw : Below w0.heap.size w0 w)
    (ca : w.cell? ⟨Ba, 0, none⟩ = some (.pointer (some ⟨A, 0, none⟩))) (ct : w.cell? ⟨Bt, 0, none⟩ = some (.int .i64 (k : Int))) (hBa : Ba < w.heap.size) (hBt : Bt < w.heap.size) :
    SeqTells2 Tryz.prog T 121 #[.pointer (some ⟨Ba, 0, none⟩), .pointer (some ⟨Bt, 0, none⟩)] w0.heap.size (down ns f k) w := by
  intro n l n1 J S W hW hn1 hn0 hSW hF hY h0
  have hb : Below w0.heap.size w0 W := hw.trans (hW.mono hw.size)
  have CC := (show Hid _ from tellFrom_in2 hT hn hA cA hlen J hF (fun l => l <+: down ns f k) hY f k hk 4 S [] W (fun l' _ h => by simpa using h) hb hn1 hSW h0)
  have ca' := (hW.cell (p := ⟨Ba, 0, none⟩) hBa).trans ca
  have ct' := (hW.cell (p := ⟨Bt, 0, none⟩) hBt).trans ct
  refine (callsIn_wide (n := n)).2 ((callsIn_wide (n := 5)).1 ?_)
  refine callsIn_of_wp Tryz.func121 rfl trivial ?_ rfl
  simp only [Tryz.ntmps121, List.size_toArray, List.length_cons, List.length_nil, Nat.reduceAdd, Nat.reduceSub, Array.replicate_succ, Array.replicate_zero, List.push_toArray, List.append_toArray, List.nil_append, List.cons_append]
  gi_wp2
  refine ⟨trivial, CallsIn.mono CC.out ?_⟩
  rintro e W' ⟨rfl, S', hJ', hK'⟩
  gi_wp2
  go_end0
  exact ⟨⟨_, rfl⟩, S', by simpa using hJ', hK'⟩
end Go.Proofs.YtogdbjafibejdaaGreat

/- What the exact law of AttrAdd asks of the program's function, and rows of values that are apart. -/
namespace Go.Proofs.YtogdbjafibejdaaGreat
open Go.RowKit
set_option maxRecDepth 100000
set_option linter.unusedVariables false

theorem row_ne {B size size' n n' : Nat} {e e' : TypeId} {w w' : World} {v v' : Value} {xs ys : List Value} (h : w.ownsRow B e size v n xs) (h' : w'.ownsRow w.heap.size e' size' v' n' ys) :
    ∀ k j, v.ownBlock = some k → v'.ownBlock = some j → k ≠ j := fun k j hk hj => by
  have a := (World.ownsRow.lt h k hk).2
  have b := (World.ownsRow.lt h' j hj).1
  omega
theorem row_kept {B size n : Nat} {e : TypeId} {w w' : World} {v v1 : Value} {xs : List Value} (h : w.ownsRow B e size v n xs) (hg : w.grownBy w' v1.ownBlock)
    (hne : ∀ k j, v.ownBlock = some k → v1.ownBlock = some j → k ≠ j) : w'.ownsRow B e size v n xs := by
  by_cases h0 : v.ownBlock = none
  · exact World.ownsRow.kept h hg (.inl h0)
  · obtain ⟨k, hk⟩ := Option.ne_none_iff_exists'.mp h0
    by_cases h1 : v1.ownBlock = none
    · exact World.ownsRow.kept h hg (.inr (by rw [h1]; exact h0))
    · obtain ⟨j, hj⟩ := Option.ne_none_iff_exists'.mp h1
      exact World.ownsRow.kept h hg (.inr (by rw [hk, hj]; intro e; exact hne k j hk hj (Option.some.inj e)))
theorem row_base {B B' size n : Nat} {e : TypeId} {w : World} {v : Value} {xs : List Value} (h : w.ownsRow B e size v n xs) (hB : B' ≤ B) : w.ownsRow B' e size v n xs := by
  obtain ⟨hl, hv | ⟨g, cap, cur, hv, hb, r⟩⟩ := h
  · exact ⟨hl, .inl hv⟩
  · exact ⟨hl, .inr ⟨g, cap, cur, hv, Nat.le_trans hB hb, r⟩⟩

end Go.Proofs.YtogdbjafibejdaaGreat

/- The contract of the program's TokenOk. -/
namespace Go.Proofs.YtogdbjafibejdaaGreat
open Go.RowKit
set_option maxRecDepth 100000
set_option linter.unusedVariables false

theorem doctypeNameOk_any (s : ByteArray) (w : World) (hs : s.size ≤ 1048576) : Calls Tryz.prog 109 #[.string s] w fun e w' => e = .returned (.bool (decide (s.size ≤ 60) && utfOk (bs s))) ∧ Below w.heap.size w w' := by
  have c1 := fun w => textOk_any s w (by omega)
  obtain ⟨u, eu⟩ : ∃ u, u = utfOk (bs s) := ⟨_, rfl⟩
  rw [← eu] at c1 ⊢
  have C1 := (show Hid _ from c1)
  clear c1 eu
  by_cases h60 : s.size ≤ 60
  · rw [decide_eq_true h60]
    go_enter Tryz.func109, Tryz.ntmps109
    go_wp2_with fail
    go_at_call 112
    refine (C1.out _).mono ?_
    rintro e w2 ⟨rfl, b2⟩
    go_wp2
    go_ret
    exact ⟨ret_bool (by simp), b2⟩
  · rw [decide_eq_false h60]
    go_enter Tryz.func109, Tryz.ntmps109
    go_wp2
    go_ret
    exact ⟨ret_bool (by simp), Below.refl _ _⟩

end Go.Proofs.YtogdbjafibejdaaGreat

/- The draws of attributes. -/
namespace Go.Proofs.YtogdbjafibejdaaGreat
open Go.RowKit
set_option maxRecDepth 100000
set_option linter.unusedVariables false
theorem row_past {B size n g : Nat} {e : TypeId} {w w' : World} {v : Value} {xs : List Value} (h : w.ownsRow B e size v n xs) (hg : w.grownBy w' (some g)) (hB : g < B) : w'.ownsRow B e size v n xs := by
  by_cases h0 : v.ownBlock = none
  · exact World.ownsRow.kept h hg (.inl h0)
  · obtain ⟨k, hk⟩ := Option.ne_none_iff_exists'.mp h0
    exact World.ownsRow.kept h hg (.inr (by rw [hk]; intro e; injection e with e; have := (World.ownsRow.lt h k hk).1; omega))

end Go.Proofs.YtogdbjafibejdaaGreat

/- The laws' helpers on tokens. -/
namespace Go.Proofs.YtogdbjafibejdaaGreat
open Go.RowKit
set_option maxRecDepth 100000
set_option linter.unusedVariables false
end Go.Proofs.YtogdbjafibejdaaGreat
