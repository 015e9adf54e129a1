/- The program's TreeOk. No condition. -/
import Derived.Test.YthdfhckmgneioaaGreatIFit1
import Derived.Test.YthdfhckmgneioaaGreatIReach
import Derived.Test.YthdfhckmgneioaaGreatTreeP
namespace Go.Proofs.YthdfhckmgneioaaGreat
open Go.RowKit
set_option maxRecDepth 100000
set_option linter.unusedVariables false

theorem eq_kinds (k0 : Int) (k : Nat) : (decide (k0 = 1) == decide (k = 0)) = decide ((k0 == 1) = ((k : Int) == 0)) := by
  rw [show (k0 == 1) = decide (k0 = 1) from rfl, show ((k : Int) == 0) = decide ((k : Int) = 0) from rfl]
  by_cases h1 : k0 = 1 <;> by_cases h2 : k = 0 <;> simp [h1, h2]

set_option maxHeartbeats 1000000 in
theorem itreeOk_any {w : World} {v : Value} {ns : List PNode} (hn : NodesAt w v ns) (hfit : ∀ n ∈ ns, NodeFit n) (hlen : ns.length ≤ 1048576) :
    Calls Tryz.prog 43 #[.agg #[v]] w fun e w' => ∃ r, e = .returned (.bool r) ∧ (r = true ↔ TreeOkP ns) ∧ Below w.heap.size w w' := by
  have HN := (show Hid (NodesAt w v ns) from hn)
  have HFIT := (show Hid (∀ n ∈ ns, NodeFit n) from hfit)
  obtain ⟨a, cap, rfl, hc1, hc2, hcs⟩ := hn.slice
  by_cases h1 : ns.length < 1
  · have hF : Hid (¬ TreeOkP ns) := fun h => by have := h.one; omega
    have h10 : ns.length = 0 := by omega
    clear hcs hn hfit
    go_enter Tryz.func43, Tryz.ntmps43
    go_wp2
    go_ret
    exact ⟨false, rfl, by simpa using hF.out, (Below.refl _ _).alloc (Nat.le_refl _) _⟩
  by_cases h5 : 500 < ns.length
  · have hF : Hid (¬ TreeOkP ns) := fun h => by have := h.most; omega
    clear hcs hn hfit
    go_enter Tryz.func43, Tryz.ntmps43
    go_wp2
    go_ret
    exact ⟨false, rfl, by simpa using hF.out, (Below.refl _ _).alloc (Nat.le_refl _) _⟩
  obtain ⟨b, off, _, _, rfl, hblt, _⟩ := hcs 0 (by omega)
  have HCS := (show Hid (∀ k (hk : k < ns.length), ∃ av kv, Sv 2 w av (pairCells ns[k].attrs) ∧ Sl .i64 w kv ns[k].kids ∧ w.cell? ⟨b, off + k * 6, none⟩ = some (.int .i64 ns[k].kind) ∧ w.cell? ⟨b, off + k * 6 + 1, none⟩ = some (.string ns[k].name) ∧ w.cell? ⟨b, off + k * 6 + 2, none⟩ = some av ∧ w.cell? ⟨b, off + k * 6 + 3, none⟩ = some (.string ns[k].text) ∧ w.cell? ⟨b, off + k * 6 + 4, none⟩ = some (.int .i64 ns[k].parent) ∧ w.cell? ⟨b, off + k * 6 + 5, none⟩ = some kv) from fun k hk => by
    obtain ⟨_, _, av, kv, e, _, c0, c1, c2, c3, c4, c5, hav, hkv⟩ := hcs k hk
    cases e
    exact ⟨av, kv, hav, hkv, c0, c1, c2, c3, c4, c5⟩)
  clear hcs hn hfit
  obtain ⟨w1, hw1⟩ : ∃ w1, w1 = w.alloc (.cells #[.slice (some ⟨b, off, none⟩) ns.length cap] 26) := ⟨_, rfl⟩
  have b1 : Below w.heap.size w w1 := by rw [hw1]; exact (Below.refl _ _).alloc (Nat.le_refl _) _
  have g1 : w1.heap[w.heap.size]? = some (.cells #[.slice (some ⟨b, off, none⟩) ns.length cap] 26 (0, 0)) := by rw [hw1]; exact World.alloc_heap_new _ _
  have HG1 := (show Hid _ from g1)
  clear g1
  go_enter Tryz.func43, Tryz.ntmps43
  go_wp2
  rw [← hw1]
  clear hw1
  go_loopw [19] (fun i wr => ∃ k : Nat, k ≤ ns.length ∧ i = .int .i64 k ∧ (∀ j (h : j < ns.length), j < k → goodB ns[j] j = true) ∧ Below w1.heap.size w1 wr) (fun i _ => ns.length - (intOf i).toNat)
  case atStart => exact ⟨0, Nat.zero_le _, rfl, fun j _ hj => absurd hj (Nat.not_lt_zero j), Below.refl _ _⟩
  case round =>
    obtain ⟨k, hk, rfl, hgood, bel⟩ := hrel
    have HGD := (show Hid (∀ j (h : j < ns.length), j < k → goodB ns[j] j = true) from hgood)
    have hb := b1.trans (bel.mono b1.size)
    clear hgood
    by_cases hlt : k < ns.length
    · obtain ⟨av, kv, hav, hkv, c0, c1, c2, c3, c4, c5⟩ := HCS.out k hlt
      replace c0 := (hb.cell (p := ⟨b, off + k * 6, none⟩) hblt).trans c0
      replace c1 := (hb.cell (p := ⟨b, off + k * 6 + 1, none⟩) hblt).trans c1
      replace c2 := (hb.cell (p := ⟨b, off + k * 6 + 2, none⟩) hblt).trans c2
      replace c3 := (hb.cell (p := ⟨b, off + k * 6 + 3, none⟩) hblt).trans c3
      replace c4 := (hb.cell (p := ⟨b, off + k * 6 + 4, none⟩) hblt).trans c4
      replace c5 := (hb.cell (p := ⟨b, off + k * 6 + 5, none⟩) hblt).trans c5
      have hav' := hav.below hb
      obtain ⟨av1, av2, av3, rfl, _⟩ := hav
      obtain ⟨kv1, kv3, rfl, _⟩ := hkv
      have hnf := HFIT.out ns[k] (List.getElem_mem hlt)
      have CN := (show Hid (∀ w', Below wr.heap.size wr w' → Calls Tryz.prog 70 #[.agg #[.int .i64 ns[k].kind, .string ns[k].name, .slice av1 av2 av3, .string ns[k].text, .int .i64 ns[k].parent, .slice kv1 ns[k].kids.length kv3]] w' fun e w'' => e = .returned (.bool (nodeB ns[k].kind ns[k].name ns[k].attrs ns[k].text ns[k].kids.length)) ∧ Below w'.heap.size w' w'') from fun w' hb' => inodeOk_any _ _ _ _ (hav'.below hb') hnf.nm hnf.tx hnf.rs hnf.each)
      have HGK : Hid (goodB ns[k] k = ((decide (ns[k].kind = 1) == decide (k = 0)) && nodeB ns[k].kind ns[k].name ns[k].attrs ns[k].text ns[k].kids.length)) := rfl
      have HBAD : Hid (goodB ns[k] k = false → ¬ TreeOkP ns) := fun h ht => by have := ht.good k hlt; rw [h] at this; cases this
      have HSUC : Hid (goodB ns[k] k = true → ∀ j (h : j < ns.length), j < k + 1 → goodB ns[j] j = true) := fun h j hj hjk => by
        by_cases e : j = k
        · subst e; exact h
        · exact HGD.out j hj (by omega)
      obtain ⟨gk, hgk⟩ : ∃ gk, gk = goodB ns[k] k := ⟨_, rfl⟩
      rw [← hgk] at HGK HBAD HSUC
      obtain ⟨nb, hnb⟩ : ∃ nb, nb = nodeB ns[k].kind ns[k].name ns[k].attrs ns[k].text ns[k].kids.length := ⟨_, rfl⟩
      rw [← hnb] at HGK CN
      obtain ⟨k0, hk0⟩ : ∃ k0, k0 = ns[k].kind := ⟨_, rfl⟩
      obtain ⟨k1, hk1⟩ : ∃ k1, k1 = ns[k].name := ⟨_, rfl⟩
      obtain ⟨k3, hk3⟩ : ∃ k3, k3 = ns[k].text := ⟨_, rfl⟩
      obtain ⟨k4, hk4⟩ : ∃ k4, k4 = ns[k].parent := ⟨_, rfl⟩
      obtain ⟨kl, hkl⟩ : ∃ kl, kl = ns[k].kids.length := ⟨_, rfl⟩
      rw [← hk0] at c0 HGK CN
      rw [← hk1] at c1 CN
      rw [← hk3] at c3 CN
      rw [← hk4] at c4 CN
      rw [← hkl] at c5 CN
      clear hgk hnb hk0 hk1 hk3 hk4 hkl hnf hav'
      obtain ⟨wx, hwx⟩ : ∃ wx, wx = wr.alloc (.cells #[.int .i64 k0, .string k1, .slice av1 av2 av3, .string k3, .int .i64 k4, .slice kv1 kl kv3] 37) := ⟨_, rfl⟩
      have bx : Below wr.heap.size wr wx := by rw [hwx]; exact (Below.refl _ _).alloc (Nat.le_refl _) _
      have HBX := (show Hid (Below wr.heap.size wr wx) from bx)
      have HQ : Hid ((decide (k0 = 1) == decide (k = 0)) = decide ((k0 == 1) = ((k : Int) == 0))) := eq_kinds k0 k
      rw [HQ.out] at HGK
      have hrs := HG1.out
      clear HQ hrs
      by_cases hq : (k0 == 1) = ((k : Int) == 0)
      · have HGQ : Hid (gk = nb) := HGK.out.trans (by rw [decide_eq_true hq]; exact Bool.true_and nb)
        go_wp2_with fail
        go_at_call 70
        rw [← hwx]
        refine (CN.out _ bx).mono ?_
        rintro e w2 ⟨rfl, b2⟩
        replace b2 := HBX.out.trans (b2.mono HBX.out.size)
        have HB2 := (show Hid (Below wr.heap.size wr w2) from b2)
        clear bx b2 hwx
        cases nb
        · go_wp2
          go_ret
          exact ⟨false, rfl, by simpa using HBAD.out HGQ.out, hb.trans (HB2.out.mono hb.size)⟩
        · go_wp2
          go_roundw
          case rel => exact ⟨k + 1, by omega, by go_num, HSUC.out HGQ.out, bel.trans (HB2.out.mono bel.size)⟩
          case measure => simp [intOf]; omega
      · have HBQ : Hid (¬ TreeOkP ns) := HBAD.out (HGK.out.trans (by rw [decide_eq_false hq]; rfl))
        go_wp2
        rw [← hwx]
        go_ret
        exact ⟨false, rfl, by simpa using HBQ.out, hb.trans (HBX.out.mono hb.size)⟩
    · have hke : k = ns.length := by omega
      have HALL : Hid (∀ j (h : j < ns.length), goodB ns[j] j = true) := fun j h => HGD.out j h (by omega)
      have g1 := (bel.block _ (blk_lt HG1.out)).trans HG1.out
      have cT : wr.cell? ⟨w.heap.size, 0, none⟩ = some (.slice (some ⟨b, off, none⟩) ns.length cap) := by simp only [World.cell?, g1]; rfl
      clear g1 HGD
      go_wp2_with fail
      obtain ⟨wA, hwA⟩ : ∃ wA, wA = wr.alloc (.cells #[.slice (some ⟨b, off, none⟩) ns.length cap] 69) := ⟨_, rfl⟩
      have bA : Below wr.heap.size wr wA := by rw [hwA]; exact (Below.refl _ _).alloc (Nat.le_refl _) _
      have hsA : wr.heap.size < wA.heap.size := by rw [hwA]; simp
      have gA : wA.heap[wr.heap.size]? = some (.cells #[.slice (some ⟨b, off, none⟩) ns.length cap] 69 (0, 0)) := by rw [hwA]; exact World.alloc_heap_new _ _
      have cA : wA.cell? ⟨wr.heap.size, 0, none⟩ = some (.slice (some ⟨b, off, none⟩) ns.length cap) := by simp only [World.cell?, gA]; rfl
      have bwA : Below w.heap.size w wA := hb.trans (bA.mono hb.size)
      have CF := (show Hid _ from kidsFit_any (HN.out.below bwA) hsA cA (by omega) (by omega))
      have CR := (show Hid (∀ w', Below wA.heap.size wA w' → KidsFit ns → Calls Tryz.prog 72 #[.pointer (some ⟨wr.heap.size, 0, none⟩)] w' fun e w'' => e = .returned (.bool (decide (reachN ns ns.length ns.length = ns.length))) ∧ Below w'.heap.size w' w'') from fun w' b' hkf =>
        allReached_any (f := ns.length) ((HN.out.below bwA).below b') (Nat.lt_of_lt_of_le hsA b'.size) ((b'.cell (p := ⟨wr.heap.size, 0, none⟩) hsA).trans cA) (by omega) (by omega) (deep_of_fit hkf) (by have := reach_le hkf; omega))
      go_at_call 71
      rw [← hwA]
      clear hwA gA cA
      refine Calls.mono CF.out ?_
      rintro e w2 ⟨r1, rfl, hr1, b2⟩
      have HR1 := (show Hid (r1 = true ↔ KidsFit ns) from hr1)
      have HB2 := (show Hid (Below wA.heap.size wA w2) from b2)
      have HBW := (show Hid (Below w.heap.size w w2) from bwA.trans (b2.mono bwA.size))
      clear hr1 b2
      cases r1
      · go_wp2
        go_ret
        have hno : ¬ TreeOkP ns := fun h => Bool.false_ne_true (HR1.out.mpr h.fit)
        exact ⟨false, rfl, ⟨fun h => (by cases h), fun h => absurd h hno⟩, HBW.out⟩
      · have hkf := HR1.out.mp rfl
        have HRI := (show Hid _ from reach_iff hkf)
        have C2 := CR.out w2 HB2.out hkf
        obtain ⟨r2, hr2⟩ : ∃ r2, r2 = decide (reachN ns ns.length ns.length = ns.length) := ⟨_, rfl⟩
        rw [← hr2] at C2
        have HR2 := (show Hid _ from hr2)
        have HC2 := (show Hid _ from C2)
        clear hr2 C2
        go_wp2_with fail
        go_at_call 72
        refine Calls.mono HC2.out ?_
        rintro e w3 ⟨rfl, b3⟩
        go_wp2
        go_ret
        refine ⟨r2, rfl, ?_, HBW.out.trans (b3.mono HBW.out.size)⟩
        rw [HR2.out, decide_eq_true_iff, HRI.out]
        exact ⟨fun h => ⟨by omega, by omega, HALL.out, hkf, h⟩, fun h => h.linked⟩
end Go.Proofs.YthdfhckmgneioaaGreat
