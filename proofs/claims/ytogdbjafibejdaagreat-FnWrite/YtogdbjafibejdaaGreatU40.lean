/- The specification's TreeWrite: its bool, of every tree (written by mk/streewrite.py). No condition. -/
import Derived.Test.YtogdbjafibejdaaGreatU39
import Derived.Test.YtogdbjafibejdaaGreatU36
import Derived.Test.YtogdbjafibejdaaGreatU38
namespace Go.Proofs.YtogdbjafibejdaaGreat
open Go.RowKit
set_option maxRecDepth 100000
set_option linter.unusedVariables false

theorem STreeWrite_res {tmps : Array Value} {w : World} {g : Nat} {u : Value} {i : Bool} (h4 : tmps.getD 6 undef = .pointer (some ⟨g, 0, none⟩)) (h5 : tmps.getD 7 undef = .bool i) (hb : w.heap[g]? = some (.cells #[u] 26 (0, 0))) :
    (results Tryz.f20 tmps).run Tryz.prog w = .ok (.tuple #[.agg #[u], .bool i]) w := by
  rw [results_cell_tmp (p := 6) (u := 7) (ty := 26) rfl, h4, h5]
  simp [asAddr, run_loadVar_row w g 26 26 #[u] (0, 0) _ hb Tryz.underlying26 rfl rfl, Result.andThen]

set_option maxHeartbeats 2000000 in
set_option maxRecDepth 100000 in
theorem streeWrite_any {w : World} {v : Value} {ns : List PNode} (hn : NodesAt w v ns) (hfit : ∀ n ∈ ns, NodeFit n) (hlen : ns.length ≤ 1048576) (p : Int) (s : ByteArray) (hs : s.size ≤ 1048576) :
    Calls Tryz.prog 20 #[.agg #[v], .int .i64 p, .string s] w fun e w' => ∃ (ua : Option Addr) (un uc : Nat) (r : Bool), e = .returned (.tuple #[.agg #[.slice ua un uc], .bool r]) ∧ (r = true ↔ WriteB ns p s) ∧ Below w.heap.size w w' := by
  have HFIT := (show Hid (∀ n ∈ ns, NodeFit n) from hfit)
  have HN := (show Hid (NodesAt w v ns) from hn)
  obtain ⟨a, cap, rfl, hc1, hc2, hcs⟩ := hn.slice
  clear hcs hn hfit
  obtain ⟨w2, hw2⟩ : ∃ w2, w2 = (w.alloc (.cells #[.slice a ns.length cap] 26)).alloc (.cells #[.slice none 0 0] 26) := ⟨_, rfl⟩
  have b2 : Below w.heap.size w w2 := by rw [hw2]; exact ((Below.refl _ w).alloc (Nat.le_refl _) _).alloc (by simp) _
  have gT2 : w2.heap[w.heap.size]? = some (.cells #[.slice a ns.length cap] 26 (0, 0)) := by
    rw [hw2, Below.heap_alloc _ _ _ (by simp)]; exact World.alloc_heap_new _ _
  have gR2 : w2.heap[w.heap.size + 1]? = some (.cells #[.slice none 0 0] 26 (0, 0)) := by
    rw [hw2]
    have := World.alloc_heap_new (w.alloc (.cells #[.slice a ns.length cap] 26)) (.cells #[.slice none 0 0] 26)
    rwa [World.size_alloc] at this
  have GT2 := (show Hid _ from gT2)
  have GR2 := (show Hid _ from gR2)
  have cT2 := (one_cell gT2).1
  have cR2 := (one_cell gR2).1
  have zR2 := (one_cell gR2).2
  have BW2 := (show Hid (Below w.heap.size w w2) from b2)
  have CO : Hid (∀ W, Below w.heap.size w W → Calls Tryz.prog 14 #[.agg #[.slice a ns.length cap]] W fun e w' => ∃ r, e = .returned (.bool r) ∧ (r = true ↔ STreeOkP ns) ∧ Below W.heap.size W w') := fun W bW => streeOk_any (HN.out.below bW) HFIT.out hlen
  clear gT2 gR2 b2
  go_enter Tryz.func20, Tryz.ntmps20
  go_upto_region 1 with fail
  rw [← hw2]
  clear hw2
  go_wp2_with fail
  go_at_call 14
  refine Calls.mono (CO.out w2 BW2.out) ?_
  rintro e w3 ⟨ro, rfl, hro, b3⟩
  have gT3 := (b3.block _ (blk_lt GT2.out)).trans GT2.out
  have gR3 := (b3.block _ (blk_lt GR2.out)).trans GR2.out
  have GT3 := (show Hid _ from gT3)
  have GR3 := (show Hid _ from gR3)
  have cT3 := (one_cell gT3).1
  have cR3 := (one_cell gR3).1
  have zR3 := (one_cell gR3).2
  have BW3 := (show Hid (Below w.heap.size w w3) from BW2.out.trans (b3.mono BW2.out.size))
  clear gT3 gR3 b3 GT2 GR2 BW2 cT2 cR2 zR2
  have HRO := (show Hid (ro = true ↔ STreeOkP ns) from hro)
  clear hro CO
  cases ro with
  | false =>
    go_wp2
    refine bodyPost_ret (STreeWrite_res rfl rfl (setCell_at GR3.out)) rfl ?_
    exact ⟨_, _, _, false, rfl, ⟨fun h => (by cases h), fun h => HRO.out.mpr h.1⟩, BW3.out.setCell (p := ⟨w.heap.size + 1, 0, none⟩) (by simp) _⟩
  | true =>
    have HOK := (show Hid (STreeOkP ns) from HRO.out.mp rfl)
    clear HRO
    have CC : Hid (∀ W, Below w.heap.size w W → Calls Tryz.prog 55 #[.agg #[.slice a ns.length cap]] W fun e w' => ∃ v', e = .returned (.agg #[v']) ∧ OwnN W.heap.size w' v' ns ∧ Below W.heap.size W w') := fun W bW => scopy_any (HN.out.below bW) HFIT.out hlen
    obtain ⟨u, eu⟩ : ∃ u, u = utfOk (bs s) := ⟨_, rfl⟩
    have EU := (show Hid (u = utfOk (bs s)) from eu)
    have CU : Hid (∀ W, Calls Tryz.prog 71 #[.string s] W fun e w' => e = .returned (.bool u) ∧ Below W.heap.size W w') := fun W => by rw [eu]; exact l1Ok_any s W (by omega)
    clear eu
    by_cases h2 : 0 ≤ p ∧ p < ns.length
    rotate_left
    · have HNO : Hid (¬ WriteB ns p s) := fun h => h2 h.2.1
      go_wp2_with fail
      go_at_call 52
      refine Calls.mono (show Calls Tryz.prog 52 #[.agg #[.slice a ns.length cap], .int .i64 p] w3 fun e w' => e = .returned (.bool false) ∧ Below w3.heap.size w3 w' from by have h := shas_any (w := w3) (a := a) (cap := cap) (n := ns.length) p hlen; rw [inB_no (by omega)] at h; exact h) ?_
      rintro e w4 ⟨rfl, b4⟩
      have gT4 := (b4.block _ (blk_lt GT3.out)).trans GT3.out
      have gR4 := (b4.block _ (blk_lt GR3.out)).trans GR3.out
      have GT4 := (show Hid _ from gT4)
      have GR4 := (show Hid _ from gR4)
      have cT4 := (one_cell gT4).1
      have cR4 := (one_cell gR4).1
      have zR4 := (one_cell gR4).2
      have BW4 := (show Hid (Below w.heap.size w w4) from BW3.out.trans (b4.mono BW3.out.size))
      clear gT4 gR4 b4 GT3 GR3 BW3 cT3 cR3 zR3
      go_wp2_with fail
      go_at_call 55
      refine Calls.mono (CC.out w4 BW4.out) ?_
      rintro e w5 ⟨v', rfl, own, b5⟩
      obtain ⟨va, vc, rfl, _, _, _⟩ := own.nodes.slice
      clear own
      have gT5 := (b5.block _ (blk_lt GT4.out)).trans GT4.out
      have gR5 := (b5.block _ (blk_lt GR4.out)).trans GR4.out
      have GT5 := (show Hid _ from gT5)
      have GR5 := (show Hid _ from gR5)
      have cT5 := (one_cell gT5).1
      have cR5 := (one_cell gR5).1
      have zR5 := (one_cell gR5).2
      have BW5 := (show Hid (Below w.heap.size w w5) from BW4.out.trans (b5.mono BW4.out.size))
      clear gT5 gR5 b5 GT4 GR4 BW4 cT4 cR4 zR4
      go_wp2
      refine bodyPost_ret (STreeWrite_res rfl rfl (setCell_at GR5.out)) rfl ?_
      exact ⟨_, _, _, false, rfl, ⟨fun h => (by cases h), fun h => absurd h HNO.out⟩, BW5.out.setCell (p := ⟨w.heap.size + 1, 0, none⟩) (by simp) _⟩
    obtain ⟨pn, rfl⟩ : ∃ pn : Nat, p = pn := ⟨p.toNat, by omega⟩
    have hpn : pn < ns.length := by omega
    cases hop : opensB ns[pn] with
    | false =>
      have HOP := (show Hid (opensB ns[pn] = false) from hop)
      have HNO : Hid (¬ WriteB ns (pn : Int) s) := fun h => by
        obtain ⟨_, h'⟩ := h.2.2.1
        simp [hop] at h'
      clear hop
      go_wp2_with fail
      go_at_call 52
      refine Calls.mono (show Calls Tryz.prog 52 #[.agg #[.slice a ns.length cap], .int .i64 (pn : Int)] w3 fun e w' => e = .returned (.bool true) ∧ Below w3.heap.size w3 w' from by have h := shas_any (w := w3) (a := a) (cap := cap) (n := ns.length) (pn : Int) hlen; rw [inB_yes (by omega) (by omega)] at h; exact h) ?_
      rintro e w4 ⟨rfl, b4⟩
      have gT4 := (b4.block _ (blk_lt GT3.out)).trans GT3.out
      have gR4 := (b4.block _ (blk_lt GR3.out)).trans GR3.out
      have GT4 := (show Hid _ from gT4)
      have GR4 := (show Hid _ from gR4)
      have cT4 := (one_cell gT4).1
      have cR4 := (one_cell gR4).1
      have zR4 := (one_cell gR4).2
      have BW4 := (show Hid (Below w.heap.size w w4) from BW3.out.trans (b4.mono BW3.out.size))
      clear gT4 gR4 b4 GT3 GR3 BW3 cT3 cR3 zR3
      go_wp2_with fail
      go_at_call 53
      refine Calls.mono (show Calls Tryz.prog 53 #[.agg #[.slice a ns.length cap], .int .i64 (pn : Int)] w4 fun e w' => e = .returned (.bool false) ∧ Below w4.heap.size w4 w' from by have h := sopens_b (HN.out.below BW4.out) hlen hpn; rw [HOP.out] at h; exact h) ?_
      rintro e w5 ⟨rfl, b5⟩
      have gT5 := (b5.block _ (blk_lt GT4.out)).trans GT4.out
      have gR5 := (b5.block _ (blk_lt GR4.out)).trans GR4.out
      have GT5 := (show Hid _ from gT5)
      have GR5 := (show Hid _ from gR5)
      have cT5 := (one_cell gT5).1
      have cR5 := (one_cell gR5).1
      have zR5 := (one_cell gR5).2
      have BW5 := (show Hid (Below w.heap.size w w5) from BW4.out.trans (b5.mono BW4.out.size))
      clear gT5 gR5 b5 GT4 GR4 BW4 cT4 cR4 zR4
      go_wp2_with fail
      go_at_call 55
      refine Calls.mono (CC.out w5 BW5.out) ?_
      rintro e w6 ⟨v', rfl, own, b6⟩
      obtain ⟨va, vc, rfl, _, _, _⟩ := own.nodes.slice
      clear own
      have gT6 := (b6.block _ (blk_lt GT5.out)).trans GT5.out
      have gR6 := (b6.block _ (blk_lt GR5.out)).trans GR5.out
      have GT6 := (show Hid _ from gT6)
      have GR6 := (show Hid _ from gR6)
      have cT6 := (one_cell gT6).1
      have cR6 := (one_cell gR6).1
      have zR6 := (one_cell gR6).2
      have BW6 := (show Hid (Below w.heap.size w w6) from BW5.out.trans (b6.mono BW5.out.size))
      clear gT6 gR6 b6 GT5 GR5 BW5 cT5 cR5 zR5
      go_wp2
      refine bodyPost_ret (STreeWrite_res rfl rfl (setCell_at GR6.out)) rfl ?_
      exact ⟨_, _, _, false, rfl, ⟨fun h => (by cases h), fun h => absurd h HNO.out⟩, BW6.out.setCell (p := ⟨w.heap.size + 1, 0, none⟩) (by simp) _⟩
    | true =>
      have HOP := (show Hid (opensB ns[pn] = true) from hop)
      clear hop
      by_cases hse : s.toList = []
      · have HNO : Hid (¬ WriteB ns (pn : Int) s) := fun h => by have := h.2.2.2.1; simp [empB, hse] at this
        go_wp2_with fail
        go_at_call 52
        refine Calls.mono (show Calls Tryz.prog 52 #[.agg #[.slice a ns.length cap], .int .i64 (pn : Int)] w3 fun e w' => e = .returned (.bool true) ∧ Below w3.heap.size w3 w' from by have h := shas_any (w := w3) (a := a) (cap := cap) (n := ns.length) (pn : Int) hlen; rw [inB_yes (by omega) (by omega)] at h; exact h) ?_
        rintro e w4 ⟨rfl, b4⟩
        have gT4 := (b4.block _ (blk_lt GT3.out)).trans GT3.out
        have gR4 := (b4.block _ (blk_lt GR3.out)).trans GR3.out
        have GT4 := (show Hid _ from gT4)
        have GR4 := (show Hid _ from gR4)
        have cT4 := (one_cell gT4).1
        have cR4 := (one_cell gR4).1
        have zR4 := (one_cell gR4).2
        have BW4 := (show Hid (Below w.heap.size w w4) from BW3.out.trans (b4.mono BW3.out.size))
        clear gT4 gR4 b4 GT3 GR3 BW3 cT3 cR3 zR3
        go_wp2_with fail
        go_at_call 53
        refine Calls.mono (show Calls Tryz.prog 53 #[.agg #[.slice a ns.length cap], .int .i64 (pn : Int)] w4 fun e w' => e = .returned (.bool true) ∧ Below w4.heap.size w4 w' from by have h := sopens_b (HN.out.below BW4.out) hlen hpn; rw [HOP.out] at h; exact h) ?_
        rintro e w5 ⟨rfl, b5⟩
        have gT5 := (b5.block _ (blk_lt GT4.out)).trans GT4.out
        have gR5 := (b5.block _ (blk_lt GR4.out)).trans GR4.out
        have GT5 := (show Hid _ from gT5)
        have GR5 := (show Hid _ from gR5)
        have cT5 := (one_cell gT5).1
        have cR5 := (one_cell gR5).1
        have zR5 := (one_cell gR5).2
        have BW5 := (show Hid (Below w.heap.size w w5) from BW4.out.trans (b5.mono BW4.out.size))
        clear gT5 gR5 b5 GT4 GR4 BW4 cT4 cR4 zR4
        go_wp2_with fail
        go_at_call 55
        refine Calls.mono (CC.out w5 BW5.out) ?_
        rintro e w6 ⟨v', rfl, own, b6⟩
        obtain ⟨va, vc, rfl, _, _, _⟩ := own.nodes.slice
        clear own
        have gT6 := (b6.block _ (blk_lt GT5.out)).trans GT5.out
        have gR6 := (b6.block _ (blk_lt GR5.out)).trans GR5.out
        have GT6 := (show Hid _ from gT6)
        have GR6 := (show Hid _ from gR6)
        have cT6 := (one_cell gT6).1
        have cR6 := (one_cell gR6).1
        have zR6 := (one_cell gR6).2
        have BW6 := (show Hid (Below w.heap.size w w6) from BW5.out.trans (b6.mono BW5.out.size))
        clear gT6 gR6 b6 GT5 GR5 BW5 cT5 cR5 zR5
        go_wp2
        refine bodyPost_ret (STreeWrite_res rfl rfl (setCell_at GR6.out)) rfl ?_
        exact ⟨_, _, _, false, rfl, ⟨fun h => (by cases h), fun h => absurd h HNO.out⟩, BW6.out.setCell (p := ⟨w.heap.size + 1, 0, none⟩) (by simp) _⟩
      have hse0 : empB s = false := by simp [empB, hse]
      have HSE := (show Hid (empB s = false) from hse0)
      clear hse0
      have hie : s.toList.isEmpty = false := by
        cases e : s.toList with
        | nil => exact absurd e hse
        | cons a l => rfl
      cases u with
      | false =>
        have HNO : Hid (¬ WriteB ns (pn : Int) s) := fun h => by have := h.2.2.2.2.1; rw [← EU.out] at this; cases this
        go_wp2_with fail
        go_at_call 52
        refine Calls.mono (show Calls Tryz.prog 52 #[.agg #[.slice a ns.length cap], .int .i64 (pn : Int)] w3 fun e w' => e = .returned (.bool true) ∧ Below w3.heap.size w3 w' from by have h := shas_any (w := w3) (a := a) (cap := cap) (n := ns.length) (pn : Int) hlen; rw [inB_yes (by omega) (by omega)] at h; exact h) ?_
        rintro e w4 ⟨rfl, b4⟩
        have gT4 := (b4.block _ (blk_lt GT3.out)).trans GT3.out
        have gR4 := (b4.block _ (blk_lt GR3.out)).trans GR3.out
        have GT4 := (show Hid _ from gT4)
        have GR4 := (show Hid _ from gR4)
        have cT4 := (one_cell gT4).1
        have cR4 := (one_cell gR4).1
        have zR4 := (one_cell gR4).2
        have BW4 := (show Hid (Below w.heap.size w w4) from BW3.out.trans (b4.mono BW3.out.size))
        clear gT4 gR4 b4 GT3 GR3 BW3 cT3 cR3 zR3
        go_wp2_with fail
        go_at_call 53
        refine Calls.mono (show Calls Tryz.prog 53 #[.agg #[.slice a ns.length cap], .int .i64 (pn : Int)] w4 fun e w' => e = .returned (.bool true) ∧ Below w4.heap.size w4 w' from by have h := sopens_b (HN.out.below BW4.out) hlen hpn; rw [HOP.out] at h; exact h) ?_
        rintro e w5 ⟨rfl, b5⟩
        have gT5 := (b5.block _ (blk_lt GT4.out)).trans GT4.out
        have gR5 := (b5.block _ (blk_lt GR4.out)).trans GR4.out
        have GT5 := (show Hid _ from gT5)
        have GR5 := (show Hid _ from gR5)
        have cT5 := (one_cell gT5).1
        have cR5 := (one_cell gR5).1
        have zR5 := (one_cell gR5).2
        have BW5 := (show Hid (Below w.heap.size w w5) from BW4.out.trans (b5.mono BW4.out.size))
        clear gT5 gR5 b5 GT4 GR4 BW4 cT4 cR4 zR4
        go_wp2_with fail
        go_at_call 71
        refine Calls.mono (CU.out w5) ?_
        rintro e w6 ⟨rfl, b6⟩
        have gT6 := (b6.block _ (blk_lt GT5.out)).trans GT5.out
        have gR6 := (b6.block _ (blk_lt GR5.out)).trans GR5.out
        have GT6 := (show Hid _ from gT6)
        have GR6 := (show Hid _ from gR6)
        have cT6 := (one_cell gT6).1
        have cR6 := (one_cell gR6).1
        have zR6 := (one_cell gR6).2
        have BW6 := (show Hid (Below w.heap.size w w6) from BW5.out.trans (b6.mono BW5.out.size))
        clear gT6 gR6 b6 GT5 GR5 BW5 cT5 cR5 zR5
        go_wp2_with fail
        go_at_call 55
        refine Calls.mono (CC.out w6 BW6.out) ?_
        rintro e w7 ⟨v', rfl, own, b7⟩
        obtain ⟨va, vc, rfl, _, _, _⟩ := own.nodes.slice
        clear own
        have gT7 := (b7.block _ (blk_lt GT6.out)).trans GT6.out
        have gR7 := (b7.block _ (blk_lt GR6.out)).trans GR6.out
        have GT7 := (show Hid _ from gT7)
        have GR7 := (show Hid _ from gR7)
        have cT7 := (one_cell gT7).1
        have cR7 := (one_cell gR7).1
        have zR7 := (one_cell gR7).2
        have BW7 := (show Hid (Below w.heap.size w w7) from BW6.out.trans (b7.mono BW6.out.size))
        clear gT7 gR7 b7 GT6 GR6 BW6 cT6 cR6 zR6
        go_wp2
        refine bodyPost_ret (STreeWrite_res rfl rfl (setCell_at GR7.out)) rfl ?_
        exact ⟨_, _, _, false, rfl, ⟨fun h => (by cases h), fun h => absurd h HNO.out⟩, BW7.out.setCell (p := ⟨w.heap.size + 1, 0, none⟩) (by simp) _⟩
      | true =>
        go_wp2_with fail
        go_at_call 52
        refine Calls.mono (show Calls Tryz.prog 52 #[.agg #[.slice a ns.length cap], .int .i64 (pn : Int)] w3 fun e w' => e = .returned (.bool true) ∧ Below w3.heap.size w3 w' from by have h := shas_any (w := w3) (a := a) (cap := cap) (n := ns.length) (pn : Int) hlen; rw [inB_yes (by omega) (by omega)] at h; exact h) ?_
        rintro e w4 ⟨rfl, b4⟩
        have gT4 := (b4.block _ (blk_lt GT3.out)).trans GT3.out
        have gR4 := (b4.block _ (blk_lt GR3.out)).trans GR3.out
        have GT4 := (show Hid _ from gT4)
        have GR4 := (show Hid _ from gR4)
        have cT4 := (one_cell gT4).1
        have cR4 := (one_cell gR4).1
        have zR4 := (one_cell gR4).2
        have BW4 := (show Hid (Below w.heap.size w w4) from BW3.out.trans (b4.mono BW3.out.size))
        clear gT4 gR4 b4 GT3 GR3 BW3 cT3 cR3 zR3
        go_wp2_with fail
        go_at_call 53
        refine Calls.mono (show Calls Tryz.prog 53 #[.agg #[.slice a ns.length cap], .int .i64 (pn : Int)] w4 fun e w' => e = .returned (.bool true) ∧ Below w4.heap.size w4 w' from by have h := sopens_b (HN.out.below BW4.out) hlen hpn; rw [HOP.out] at h; exact h) ?_
        rintro e w5 ⟨rfl, b5⟩
        have gT5 := (b5.block _ (blk_lt GT4.out)).trans GT4.out
        have gR5 := (b5.block _ (blk_lt GR4.out)).trans GR4.out
        have GT5 := (show Hid _ from gT5)
        have GR5 := (show Hid _ from gR5)
        have cT5 := (one_cell gT5).1
        have cR5 := (one_cell gR5).1
        have zR5 := (one_cell gR5).2
        have BW5 := (show Hid (Below w.heap.size w w5) from BW4.out.trans (b5.mono BW4.out.size))
        clear gT5 gR5 b5 GT4 GR4 BW4 cT4 cR4 zR4
        go_wp2_with fail
        go_at_call 71
        refine Calls.mono (CU.out w5) ?_
        rintro e w6 ⟨rfl, b6⟩
        have gT6 := (b6.block _ (blk_lt GT5.out)).trans GT5.out
        have gR6 := (b6.block _ (blk_lt GR5.out)).trans GR5.out
        have GT6 := (show Hid _ from gT6)
        have GR6 := (show Hid _ from gR6)
        have cT6 := (one_cell gT6).1
        have cR6 := (one_cell gR6).1
        have zR6 := (one_cell gR6).2
        have BW6 := (show Hid (Below w.heap.size w w6) from BW5.out.trans (b6.mono BW5.out.size))
        clear gT6 gR6 b6 GT5 GR5 BW5 cT5 cR5 zR5
        go_wp2_with fail
        go_at_call 55
        refine Calls.mono (CC.out w6 BW6.out) ?_
        rintro e w7 ⟨v', rfl, own, b7⟩
        obtain ⟨va, vc, rfl, _, _, _⟩ := own.nodes.slice
        have gT7 := (b7.block _ (blk_lt GT6.out)).trans GT6.out
        have gR7 := (b7.block _ (blk_lt GR6.out)).trans GR6.out
        have GT7 := (show Hid _ from gT7)
        have GR7 := (show Hid _ from gR7)
        have cT7 := (one_cell gT7).1
        have cR7 := (one_cell gR7).1
        have zR7 := (one_cell gR7).2
        have BW7 := (show Hid (Below w.heap.size w w7) from BW6.out.trans (b7.mono BW6.out.size))
        have OWN := (show Hid (OwnN w6.heap.size w7 (.slice va ns.length vc) ns) from own)
        have HSZ := (show Hid (w6.heap.size ≤ w7.heap.size) from b7.size)
        have HLE := (show Hid (w.heap.size ≤ w6.heap.size) from BW6.out.size)
        have HTL := (show Hid (w.heap.size < w6.heap.size) from blk_lt GT6.out)
        have HRL := (show Hid (w.heap.size + 1 < w6.heap.size) from blk_lt GR6.out)
        clear own gT7 gR7 b7 GT6 GR6 BW6 cT6 cR6 zR6
        go_wp2_with fail
        go_at_call 72
        refine Calls.mono (swrite_any OWN.out HSZ.out HOK.out hpn s hs (fun n hn => (HFIT.out n hn).tx) HSE.out EU.out.symm) ?_
        rintro e w8 ⟨za, zn, zc, r, rfl, hr, bz⟩
        have HR := (show Hid _ from hr)
        have BZ := (show Hid (Below w6.heap.size w7 w8) from bz)
        obtain ⟨w9, hw9⟩ : ∃ x, x = w8.alloc (.cells #[.slice za zn zc] 26) := ⟨_, rfl⟩
        have bn : Below w8.heap.size w8 w9 := by rw [hw9]; exact (Below.refl _ _).alloc (Nat.le_refl _) _
        have gn : w9.heap[w8.heap.size]? = some (.cells #[.slice za zn zc] 26 (0, 0)) := by rw [hw9]; exact World.alloc_heap_new _ _
        obtain ⟨N, hN⟩ : ∃ x, x = w8.heap.size := ⟨_, rfl⟩
        rw [← hN] at gn
        have cN := (one_cell gn).1
        have gT9 := (bn.block _ (Nat.lt_of_lt_of_le (blk_lt GT7.out) bz.size)).trans ((bz.block _ HTL.out).trans GT7.out)
        have gR9 := (bn.block _ (Nat.lt_of_lt_of_le (blk_lt GR7.out) bz.size)).trans ((bz.block _ HRL.out).trans GR7.out)
        have GT9 := (show Hid _ from gT9)
        have GR9 := (show Hid _ from gR9)
        have cT9 := (one_cell gT9).1
        have cR9 := (one_cell gR9).1
        have zR9 := (one_cell gR9).2
        have BW9 := (show Hid (Below w.heap.size w w9) from (BW7.out.trans (bz.mono HLE.out)).trans (bn.mono (Nat.le_trans BW7.out.size bz.size)))
        clear gT9 gR9 bz hr GT7 GR7 BW7 cT7 cR7 zR7 BZ bn gn
        go_upto_region 6 with fail
        rw [← hw9, ← hN]
        clear hw9 hN
        cases r with
        | false =>
          have HNO : Hid (¬ WriteB ns (pn : Int) s) := fun h => by have := HR.out.mpr h.2.2.2.2.2; cases this
          go_wp2_with fail
          go_at_call 55
          refine Calls.mono (CC.out w9 BW9.out) ?_
          rintro e w10 ⟨v', rfl, own, b10⟩
          obtain ⟨va, vc, rfl, _, _, _⟩ := own.nodes.slice
          clear own
          have gT10 := (b10.block _ (blk_lt GT9.out)).trans GT9.out
          have gR10 := (b10.block _ (blk_lt GR9.out)).trans GR9.out
          have GT10 := (show Hid _ from gT10)
          have GR10 := (show Hid _ from gR10)
          have cT10 := (one_cell gT10).1
          have cR10 := (one_cell gR10).1
          have zR10 := (one_cell gR10).2
          have BW10 := (show Hid (Below w.heap.size w w10) from BW9.out.trans (b10.mono BW9.out.size))
          clear gT10 gR10 b10 GT9 GR9 BW9 cT9 cR9 zR9
          go_wp2
          refine bodyPost_ret (STreeWrite_res rfl rfl (setCell_at GR10.out)) rfl ?_
          exact ⟨_, _, _, false, rfl, ⟨fun h => (by cases h), fun h => absurd h HNO.out⟩, BW10.out.setCell (p := ⟨w.heap.size + 1, 0, none⟩) (by simp) _⟩
        | true =>
          have HYES : Hid (WriteB ns (pn : Int) s) := ⟨HOK.out, h2, ⟨hpn, HOP.out⟩, HSE.out, EU.out.symm, HR.out.mp rfl⟩
          go_wp2
          refine bodyPost_ret (STreeWrite_res rfl rfl (setCell_at GR9.out)) rfl ?_
          exact ⟨_, _, _, .inr ⟨rfl, HYES.out, BW9.out.setCell (p := ⟨w.heap.size + 1, 0, none⟩) (by simp) _⟩⟩
end Go.Proofs.YtogdbjafibejdaaGreat

/- The program's TreeAdd of a tree that is right. No condition. -/
namespace Go.Proofs.YtogdbjafibejdaaGreat
open Go.RowKit
set_option maxRecDepth 100000
set_option linter.unusedVariables false

theorem iadd_res {tmps : Array Value} {w : World} {g : Nat} {a : Option Addr} {n c : Nat} {i : Int} (h4 : tmps.getD 4 undef = .pointer (some ⟨g, 0, none⟩)) (h5 : tmps.getD 5 undef = .int .i64 i) (hb : w.heap[g]? = some (.cells #[.slice a n c] 26 (0, 0))) :
    (results Tryz.f23 tmps).run Tryz.prog w = .ok (.tuple #[.agg #[.slice a n c], .int .i64 i]) w := by
  rw [results_cell_tmp (p := 4) (u := 5) (ty := 26) rfl, h4, h5]
  simp [asAddr, run_loadVar_row w g 26 26 #[.slice a n c] (0, 0) _ hb Tryz.underlying26 rfl rfl, Result.andThen]

set_option maxHeartbeats 2000000 in
set_option maxRecDepth 100000 in
theorem itreeAdd_s {w : World} {v : Value} {ns : List PNode} (hn : NodesAt w v ns) (hfit : ∀ n ∈ ns, NodeFit n) (hok : TreeOkP ns) {k p : Int} {nm tx : ByteArray}
    {av1 : Option Addr} {av2 av3 : Nat} {kv1 : Option Addr} {kv2 kv3 : Nat} {rs : List (ByteArray × ByteArray)} (hav : Sv 2 w (.slice av1 av2 av3) (pairCells rs)) (hrs : rs.length ≤ 1048576) (hfn : NodeFit ⟨k, nm, rs, tx, -1, []⟩) :
    Calls Tryz.prog 23 #[.agg #[v], .agg #[.int .i64 k, .string nm, .slice av1 av2 av3, .string tx, .int .i64 p, .slice kv1 kv2 kv3]] w fun e w' => ∃ (va : Option Addr) (vn vc : Nat) (r : Int), e = .returned (.tuple #[.agg #[.slice va vn vc], .int .i64 r]) ∧ (TreeOkP (ns ++ [⟨k, nm, rs, tx, -1, []⟩]) → r = ns.length ∧ NodesAt w' (.slice va vn vc) (ns ++ [⟨k, nm, rs, tx, -1, []⟩])) ∧ (¬ TreeOkP (ns ++ [⟨k, nm, rs, tx, -1, []⟩]) → r = -1) ∧ Below w.heap.size w w' := by
  have hmf : ∀ (fn : Fn) (first cap : Array Value) (w : World), (Instr.makeFunc fn first cap).run Tryz.prog w = .ok (.func fn first cap) w := fun _ _ _ _ => rfl
  have HN := (show Hid (NodesAt w v ns) from hn)
  have HFIT := (show Hid (∀ n ∈ ns, NodeFit n) from hfit)
  have HOK := (show Hid (TreeOkP ns) from hok)
  have HAV := (show Hid (Sv 2 w (.slice av1 av2 av3) (pairCells rs)) from hav)
  have HFN := (show Hid (NodeFit ⟨k, nm, rs, tx, -1, []⟩) from hfn)
  have h1 := hok.one
  have h5 := hok.most
  obtain ⟨a, cap, rfl, hc1, hc2, _⟩ := hn.slice
  clear hn hfit hok hav hfn
  obtain ⟨w1, hw1⟩ : ∃ x, x = ((w.alloc (.cells #[.slice a ns.length cap] 26)).alloc (.cells #[.int .i64 k, .string nm, .slice av1 av2 av3, .string tx, .int .i64 p, .slice kv1 kv2 kv3] 36)).alloc (.cells #[.slice none 0 0] 26) := ⟨_, rfl⟩
  have b1 : Below w.heap.size w w1 := by rw [hw1]; exact (((Below.refl _ w).alloc (Nat.le_refl _) _).alloc (by simp) _).alloc (by simp; omega) _
  have hs1 : w1.heap.size = w.heap.size + 1 + 1 + 1 := by rw [hw1, World.size_alloc, World.size_alloc, World.size_alloc]
  have gT : w1.heap[w.heap.size]? = some (.cells #[.slice a ns.length cap] 26 (0, 0)) := by rw [hw1, Below.heap_alloc _ _ _ (by simp only [World.size_alloc]; omega), Below.heap_alloc _ _ _ (by simp)]; exact World.alloc_heap_new _ _
  have gN : w1.heap[w.heap.size + 1]? = some (.cells #[.int .i64 k, .string nm, .slice av1 av2 av3, .string tx, .int .i64 p, .slice kv1 kv2 kv3] 36 (0, 0)) := by
    rw [hw1, Below.heap_alloc _ _ _ (by simp)]
    have := World.alloc_heap_new (w.alloc (.cells #[.slice a ns.length cap] 26)) (.cells #[.int .i64 k, .string nm, .slice av1 av2 av3, .string tx, .int .i64 p, .slice kv1 kv2 kv3] 36)
    rwa [World.size_alloc] at this
  have gR : w1.heap[w.heap.size + 1 + 1]? = some (.cells #[.slice none 0 0] 26 (0, 0)) := by
    rw [hw1]
    have := World.alloc_heap_new ((w.alloc (.cells #[.slice a ns.length cap] 26)).alloc (.cells #[.int .i64 k, .string nm, .slice av1 av2 av3, .string tx, .int .i64 p, .slice kv1 kv2 kv3] 36)) (.cells #[.slice none 0 0] 26)
    rwa [World.size_alloc, World.size_alloc] at this
  have GN := (show Hid _ from gN)
  have GR := (show Hid _ from gR)
  have HS1 := (show Hid _ from hs1)
  have B1 := (show Hid (Below w.heap.size w w1) from b1)
  clear gN gR hs1 gT b1
  go_enter Tryz.func23, Tryz.ntmps23
  go_wp2_with fail
  go_at_call 47
  rw [← hw1]
  refine Calls.mono (iarenaOf_any (HN.out.below B1.out) HFIT.out (by omega) HOK.out) ?_
  rintro e w2 ⟨g, v2, rfl, ha2, o2, hg, b2⟩
  clear hw1
  obtain ⟨qs, hq1, hq2⟩ := o2.q
  have hql : qs.length = ns.length := by have := congrArg List.length hq1; simpa using this
  obtain ⟨w4, hw4⟩ : ∃ x, x = (w2.alloc (.cells #[.pointer (some ⟨g, 0, none⟩)] 64)).alloc (.cells #[.int .i64 (-1)] 3) := ⟨_, rfl⟩
  have b24 : Below w2.heap.size w2 w4 := by rw [hw4]; exact ((Below.refl _ w2).alloc (Nat.le_refl _) _).alloc (by simp) _
  have hs4 : w4.heap.size = w2.heap.size + 1 + 1 := by rw [hw4, World.size_alloc, World.size_alloc]
  have gA : w4.heap[w2.heap.size]? = some (.cells #[.pointer (some ⟨g, 0, none⟩)] 64 (0, 0)) := by rw [hw4, Below.heap_alloc _ _ _ (by simp)]; exact World.alloc_heap_new _ _
  have gK : w4.heap[w2.heap.size + 1]? = some (.cells #[.int .i64 (-1)] 3 (0, 0)) := by
    rw [hw4]
    have := World.alloc_heap_new (w2.alloc (.cells #[.pointer (some ⟨g, 0, none⟩)] 64)) (.cells #[.int .i64 (-1)] 3)
    rwa [World.size_alloc] at this
  have hgl := lt_of_block ha2
  have hs1 := HS1.out
  have b12 := b2.size
  have b14 : Below w1.heap.size w1 w4 := b2.trans (b24.mono b2.size)
  have bw4 : Below w.heap.size w w4 := B1.out.trans (b14.mono B1.out.size)
  have CC := (show Hid _ from ichange_any (B := w1.heap.size) (a := g) (A := w2.heap.size) (N := w.heap.size + 1) (K := w2.heap.size + 1) (w := w4) (k := k) (p := p) (nm := nm) (tx := tx) (kv1 := kv1) (kv2 := kv2) (kv3 := kv3) (rs := rs) ((b24.block g hgl).trans ha2) (hq2.below b24) b14.size (by omega) (by omega) (HAV.out.below bw4) hrs gA ((b14.block (w.heap.size + 1) (by omega)).trans GN.out) gK (by omega) (by
    intro q hq e
    have := (World.ownsRow.lt (hq2.2 q hq).2 _ e).2
    omega) (by rw [hq1]; exact HFIT.out) HFN.out)
  have HQ1 := (show Hid (qs.map (fun q => q.1) = ns) from hq1)
  have BW4 := (show Hid (Below w.heap.size w w4) from bw4)
  have GA := (show Hid _ from gA)
  have GR4 := (show Hid _ from (b14.block (w.heap.size + 1 + 1) (by omega)).trans GR.out)
  obtain ⟨cA4, _⟩ := one_cell gA
  have HSS := (show Hid (w1.heap.size = w.heap.size + 1 + 1 + 1 ∧ w1.heap.size ≤ w2.heap.size ∧ w4.heap.size = w2.heap.size + 1 + 1 ∧ g < w2.heap.size ∧ w1.heap.size ≤ g) from ⟨hs1, b12, hs4, hgl, hg⟩)
  clear gA gK b24 b14 bw4 hq1 hq2 o2 ha2 b2 GN GR HS1 B1 hs4 hs1 b12 hgl hg
  go_wp2_with fail
  go_at_call 48
  rw [← hw4]
  refine Calls.mono CC.out ?_
  rintro e w5 ⟨r, rfl, hr, ⟨g5, n5, c5, ha5, ho5⟩, hk5, fr5⟩
  clear CC hw4
  have hss := HSS.out
  have gA5 := fr5.box GA.out (by decide) (by omega) (by omega)
  have gR5 := fr5.box GR4.out (by decide) (by omega) (by omega)
  have b45 : Below w.heap.size w4 w5 := fr5.below (by omega) (by omega) (by omega) (by omega)
  have b5 : Below w.heap.size w w5 := BW4.out.trans b45
  obtain ⟨cA5, _⟩ := one_cell gA5
  obtain ⟨cK5, _⟩ := one_cell hk5
  rw [HQ1.out] at hr
  have HR := (show Hid _ from hr)
  have HO5 := (show Hid (r = true → ∃ av', OwnQ w1.heap.size w5 (.slice (some ⟨g5, 0, none⟩) n5 c5) (qs ++ [(⟨k, nm, rs, tx, -1, []⟩, (av', .slice none 0 0))])) from ho5)
  have GR5 := (show Hid _ from gR5)
  have B5 := (show Hid (Below w.heap.size w w5) from b5)
  have HA5 := (show Hid _ from ha5)
  have hRl := lt_of_block gR5
  have hAl := lt_of_block gA5
  have hKl := lt_of_block hk5
  have HK5 := (show Hid _ from hk5)
  clear hr ho5 gR5 b5 b45 ha5 gA5 fr5 cA4 GA GR4 BW4 hk5 hss
  cases r
  · have HF : Hid (¬ TreeOkP (ns ++ [⟨k, nm, rs, tx, -1, []⟩])) := fun h => by have := HR.out.mpr h; cases this
    clear HR HO5
    go_wp2_with fail
    go_at_call 51
    refine Calls.mono (itree_any HA5.out) ?_
    rintro e w6 ⟨rfl, b6⟩
    have gR6 := (b6.block _ hRl).trans GR5.out
    obtain ⟨cR6, zR6⟩ := one_cell gR6
    have GR6 := (show Hid _ from gR6)
    have B6 := (show Hid (Below w.heap.size w w6) from B5.out.trans (b6.mono B5.out.size))
    clear gR6 b6
    go_wp2
    refine bodyPost_ret (iadd_res rfl rfl (setCell_at GR6.out)) rfl ?_
    exact ⟨_, _, _, _, rfl, fun h => absurd h HF.out, fun _ => rfl, B6.out.setCell (p := ⟨w.heap.size + 1 + 1, 0, none⟩) (by simp; omega) _⟩
  · have HT : Hid (TreeOkP (ns ++ [⟨k, nm, rs, tx, -1, []⟩])) := HR.out.mp rfl
    have HO5' := HO5.out rfl
    obtain ⟨av5, ho5⟩ := HO5'
    have HOQ := (show Hid (OwnQ w1.heap.size w5 (.slice (some ⟨g5, 0, none⟩) n5 c5) (qs ++ [(⟨k, nm, rs, tx, -1, []⟩, (av5, .slice none 0 0))])) from ho5)
    clear HR HO5 ho5
    go_upto_region 6 with fail
    have bd : Below w5.heap.size w5 w5.drew := below_drewN 1
    have HAd : Hid (w5.drew.heap[g]? = some (.cells #[.slice (some ⟨g5, 0, none⟩) n5 c5] 77 (0, 0))) := HA5.out
    have HSR : Hid (w2.heap.size + 1 ≠ w.heap.size + 1 + 1) := (show w2.heap.size + 1 ≠ w.heap.size + 1 + 1 by have := HSS.out; omega)
    go_region_with (go_at_call 51; refine Calls.mono (itree_any HAd.out) ?_; rintro e w6 ⟨rfl, b6⟩
                    have b56 : Below w5.heap.size w5 w6 := bd.trans (b6.mono bd.size)
                    have gR6 := (b56.block _ hRl).trans GR5.out
                    obtain ⟨cR6, zR6⟩ := one_cell gR6
                    have gK6 := (b56.block _ hKl).trans HK5.out
                    obtain ⟨cK6, _⟩ := one_cell gK6
                    have hsr := HSR.out
                    have GR6 := (show Hid _ from gR6)
                    have B6 := (show Hid (Below w5.heap.size w5 w6) from b56)
                    clear gR6 b6 b56 gK6)
    all_goals go_wp2
    all_goals
      refine bodyPost_ret (iadd_res rfl rfl (setCell_at GR6.out)) rfl ?_
      refine ⟨_, _, _, _, rfl, fun _ => ⟨rfl, ?_⟩, fun h => absurd HT.out h, (B5.out.trans (B6.out.mono B5.out.size)).setCell (p := ⟨w.heap.size + 1 + 1, 0, none⟩) (by simp; omega) _⟩
      have ho6 := (OwnQ.below HOQ.out B6.out).kept (grown_setCell w6 (w.heap.size + 1 + 1) 0 (.slice (some ⟨g5, 0, none⟩) n5 c5)) (fun r e => by cases e; exact ⟨_, _, _, GR6.out, by decide, by decide, by decide⟩)
      have := ho6.n.nodes
      rwa [List.map_append, HQ1.out] at this
theorem itreeAdd_any {w : World} {v : Value} {ns : List PNode} (hn : NodesAt w v ns) (hfit : ∀ n ∈ ns, NodeFit n) (hok : TreeOkP ns) {k p : Int} {nm tx : ByteArray}
    {av1 : Option Addr} {av2 av3 : Nat} {kv1 : Option Addr} {kv2 kv3 : Nat} {rs : List (ByteArray × ByteArray)} (hav : Sv 2 w (.slice av1 av2 av3) (pairCells rs)) (hrs : rs.length ≤ 1048576) (hfn : NodeFit ⟨k, nm, rs, tx, -1, []⟩) :
    Calls Tryz.prog 23 #[.agg #[v], .agg #[.int .i64 k, .string nm, .slice av1 av2 av3, .string tx, .int .i64 p, .slice kv1 kv2 kv3]] w fun e w' => ∃ v' r, e = .returned (.tuple #[.agg #[v'], .int .i64 r]) ∧ (TreeOkP (ns ++ [⟨k, nm, rs, tx, -1, []⟩]) → r = ns.length ∧ NodesAt w' v' (ns ++ [⟨k, nm, rs, tx, -1, []⟩])) ∧ (¬ TreeOkP (ns ++ [⟨k, nm, rs, tx, -1, []⟩]) → r = -1) ∧ Below w.heap.size w w' := by
  refine Calls.mono (itreeAdd_s hn hfit hok hav hrs hfn) ?_
  rintro e w' ⟨va, vn, vc, r, rfl, h1, h2, b⟩
  exact ⟨_, _, rfl, h1, h2, b⟩
end Go.Proofs.YtogdbjafibejdaaGreat

/- The program's TreeHang and TreeTake of a right tree (written by mk/ihang5.py). No condition. -/
namespace Go.Proofs.YtogdbjafibejdaaGreat
open Go.RowKit
set_option maxRecDepth 100000
set_option linter.unusedVariables false

theorem TreeHang_res {tmps : Array Value} {w : World} {g : Nat} {a : Option Addr} {n c : Nat} {i : Bool} (h4 : tmps.getD 6 undef = .pointer (some ⟨g, 0, none⟩)) (h5 : tmps.getD 7 undef = .bool i) (hb : w.heap[g]? = some (.cells #[.slice a n c] 26 (0, 0))) :
    (results Tryz.f12 tmps).run Tryz.prog w = .ok (.tuple #[.agg #[.slice a n c], .bool i]) w := by
  rw [results_cell_tmp (p := 6) (u := 7) (ty := 26) rfl, h4, h5]
  simp [asAddr, run_loadVar_row w g 26 26 #[.slice a n c] (0, 0) _ hb Tryz.underlying26 rfl rfl, Result.andThen]

set_option maxHeartbeats 2000000 in
set_option maxRecDepth 100000 in
theorem itreeHang_any {w : World} {v : Value} {ns : List PNode} (hn : NodesAt w v ns) (hfit : ∀ n ∈ ns, NodeFit n) (hlen : ns.length ≤ 1048576) (c p : Int) (ok : TreeOkP ns) :
    Calls Tryz.prog 12 #[.agg #[v], .int .i64 c, .int .i64 p] w fun e w' => ∃ (v' : Value) (r : Bool), e = .returned (.tuple #[.agg #[v'], .bool r]) ∧ (r = true ↔ (c ≠ 0 ∧ (0 ≤ c ∧ c < ns.length) ∧ (0 ≤ p ∧ p < ns.length)) ∧ TreeOkP (hangN ns c.toNat p.toNat)) ∧ NodesAt w' v' (if r = true then hangN ns c.toNat p.toNat else ns) ∧ Below w.heap.size w w' := by
  have hmf : ∀ (fn : Fn) (first cap : Array Value) (w : World), (Instr.makeFunc fn first cap).run Tryz.prog w = .ok (.func fn first cap) w := fun _ _ _ _ => rfl
  have HN := (show Hid (NodesAt w v ns) from hn)
  have HFIT := (show Hid (∀ n ∈ ns, NodeFit n) from hfit)
  have HOK := (show Hid (TreeOkP ns) from ok)
  have h1 := ok.one
  have h5 := ok.most
  obtain ⟨a, cap, rfl, hc1, hc2, _⟩ := hn.slice
  clear hn hfit ok
  obtain ⟨w1, hw1⟩ : ∃ x, x = (((w.alloc (.cells #[.slice a ns.length cap] 26)).alloc (.cells #[.int .i64 c] 3)).alloc (.cells #[.int .i64 p] 3)).alloc (.cells #[.slice none 0 0] 26) := ⟨_, rfl⟩
  have b1 : Below w.heap.size w w1 := by rw [hw1]; exact ((((Below.refl _ w).alloc (Nat.le_refl _) _).alloc (by simp only [World.size_alloc]; omega) _).alloc (by simp only [World.size_alloc]; omega) _).alloc (by simp only [World.size_alloc]; omega) _
  have hs1 : w1.heap.size = w.heap.size + 1 + 1 + 1 + 1 := by rw [hw1]; simp only [World.size_alloc]
  have g0 : w1.heap[w.heap.size]? = some (.cells #[.slice a ns.length cap] 26 (0, 0)) := by
    rw [hw1, Below.heap_alloc _ _ _ (by simp only [World.size_alloc]; omega), Below.heap_alloc _ _ _ (by simp only [World.size_alloc]; omega), Below.heap_alloc _ _ _ (by simp only [World.size_alloc]; omega)]
    have := World.alloc_heap_new (w) (.cells #[.slice a ns.length cap] 26)
    exact this
  have g1 : w1.heap[w.heap.size + 1]? = some (.cells #[.int .i64 c] 3 (0, 0)) := by
    rw [hw1, Below.heap_alloc _ _ _ (by simp only [World.size_alloc]; omega), Below.heap_alloc _ _ _ (by simp only [World.size_alloc]; omega)]
    have := World.alloc_heap_new (w.alloc (.cells #[.slice a ns.length cap] 26)) (.cells #[.int .i64 c] 3)
    rwa [World.size_alloc] at this
  have g2 : w1.heap[w.heap.size + 1 + 1]? = some (.cells #[.int .i64 p] 3 (0, 0)) := by
    rw [hw1, Below.heap_alloc _ _ _ (by simp only [World.size_alloc]; omega)]
    have := World.alloc_heap_new ((w.alloc (.cells #[.slice a ns.length cap] 26)).alloc (.cells #[.int .i64 c] 3)) (.cells #[.int .i64 p] 3)
    rwa [World.size_alloc, World.size_alloc] at this
  have g3 : w1.heap[w.heap.size + 1 + 1 + 1]? = some (.cells #[.slice none 0 0] 26 (0, 0)) := by
    rw [hw1]
    have := World.alloc_heap_new (((w.alloc (.cells #[.slice a ns.length cap] 26)).alloc (.cells #[.int .i64 c] 3)).alloc (.cells #[.int .i64 p] 3)) (.cells #[.slice none 0 0] 26)
    rwa [World.size_alloc, World.size_alloc, World.size_alloc] at this
  have HG := (show Hid (w1.heap[w.heap.size]? = some (.cells #[.slice a ns.length cap] 26 (0, 0)) ∧ w1.heap[w.heap.size + 1]? = some (.cells #[.int .i64 c] 3 (0, 0)) ∧ w1.heap[w.heap.size + 1 + 1]? = some (.cells #[.int .i64 p] 3 (0, 0)) ∧ w1.heap[w.heap.size + 1 + 1 + 1]? = some (.cells #[.slice none 0 0] 26 (0, 0))) from ⟨g0, g1, g2, g3⟩)
  have HS1 := (show Hid _ from hs1)
  have B1 := (show Hid (Below w.heap.size w w1) from b1)
  clear g0 g1 g2 g3 hs1 b1
  go_enter Tryz.func12, Tryz.ntmps12
  go_wp2_with fail
  go_at_call 47
  rw [← hw1]
  refine Calls.mono (iarenaA_any (HN.out.below B1.out) HFIT.out hlen) ?_
  rintro e w2 ⟨g, v2, rfl, ha2, hq2, _, hg, b2⟩
  clear hw1
  obtain ⟨qs, hq1, o2, a2⟩ := hq2 HOK.out
  have hql : qs.length = ns.length := by have := congrArg List.length hq1; simpa using this
  obtain ⟨gv, cv, rfl, hgv, hgvl⟩ := o2.form (by omega)
  obtain ⟨w4, hw4⟩ : ∃ x, x = w2.alloc (.cells #[.pointer (some ⟨g, 0, none⟩)] 64) := ⟨_, rfl⟩
  have b24 : Below w2.heap.size w2 w4 := by rw [hw4]; exact (Below.refl _ w2).alloc (Nat.le_refl _) _
  have hs4 : w4.heap.size = w2.heap.size + 1 := by rw [hw4, World.size_alloc]
  have gA : w4.heap[w2.heap.size]? = some (.cells #[.pointer (some ⟨g, 0, none⟩)] 64 (0, 0)) := by rw [hw4]; exact World.alloc_heap_new _ _
  have hgl := lt_of_block ha2
  have hs1 := HS1.out
  have b12 := b2.size
  have b14 : Below w1.heap.size w1 w4 := b2.trans (b24.mono b2.size)
  have bw4 : Below w.heap.size w w4 := B1.out.trans (b14.mono B1.out.size)
  have ha4 := (b24.block g hgl).trans ha2
  have o4 := o2.below b24
  have hpar : ∀ i (hi : i < qs.length), qs[i].1.parent = -1 ∨ ∃ p : Nat, qs[i].1.parent = p ∧ p < qs.length := fun i hi => by
    have h := par_ok HOK.out (i := i) (by omega)
    have e : parOf ns i = qs[i].1.parent := by rw [← hq1, parOf_at (by simpa using hi)]; simp
    rw [e] at h
    rw [hql]; exact h
  have hkl : ∀ q ∈ qs, q.1.kids.length ≤ 1048576 := fun q hq => (HFIT.out q.1 (by rw [← hq1]; exact List.mem_map.mpr ⟨q, hq, rfl⟩)).kl
  have hgs := HG.out
  have CC := (show Hid _ from ichangeHang (B := w1.heap.size) (a := g) (g := gv) (cap := cv) (w := w4) (qs := qs) (ms := hangN ns c.toNat p.toNat) (C := c ≠ 0 ∧ (0 ≤ c ∧ c < ns.length) ∧ (0 ≤ p ∧ p < ns.length)) (x0 := w2.heap.size) (x1 := w.heap.size + 1) (x2 := w.heap.size + 1 + 1) ha4 o4 b14.size (by omega) (by omega) (by rw [hq1]; exact HFIT.out) (hangN_fit (fun n hn => ⟨HFIT.out n hn, by have := kids_few HOK.out n hn; omega⟩)) (by simp [hangN_len]; omega)
    (fun W b => by
      have h := istepHang (B := w1.heap.size) ((b.block g (lt_of_block ha4)).trans ha4) (o4.below b) a2 (Nat.le_trans b14.size b.size) (by omega) hpar hkl c p ((b.block _ (lt_of_block gA)).trans gA) ((b.block _ (lt_of_block ((b14.block _ (by omega)).trans hgs.2.1))).trans ((b14.block _ (by omega)).trans hgs.2.1)) ((b.block _ (lt_of_block ((b14.block _ (by omega)).trans hgs.2.2.1))).trans ((b14.block _ (by omega)).trans hgs.2.2.1))
      rw [hq1, hql] at h
      rw [hql]
      exact h))
  have BW4 := (show Hid (Below w.heap.size w w4) from bw4)
  have GA := (show Hid _ from gA)
  have GR4 := (show Hid _ from (b14.block (w.heap.size + 1 + 1 + 1) (by omega)).trans hgs.2.2.2)
  obtain ⟨cA4, _⟩ := one_cell gA
  have HSS := (show Hid (w1.heap.size = w.heap.size + 1 + 1 + 1 + 1 ∧ w1.heap.size ≤ w2.heap.size ∧ w4.heap.size = w2.heap.size + 1 ∧ g < w2.heap.size ∧ w1.heap.size ≤ g) from ⟨hs1, b12, hs4, hgl, hg⟩)
  have HQ1 := (show Hid (qs.map (fun q => q.1) = ns) from hq1)
  clear gA b24 b14 bw4 hq1 hq2 o2 o4 ha2 ha4 b2 HG HS1 B1 hs4 hs1 b12 hgl hg hpar hkl hgs a2
  go_wp2_with fail
  go_at_call 48
  rw [← hw4]
  refine Calls.mono CC.out ?_
  rintro e w5 ⟨r, rfl, hr, ⟨g5, n5, c5, ha5, ho5⟩, fr5⟩
  clear CC hw4
  have hss := HSS.out
  have gA5 := fr5.box GA.out (by decide) (by decide) (by omega)
  have gR5 := fr5.box GR4.out (by decide) (by decide) (by omega)
  have b45 : Below w.heap.size w4 w5 := fr5.below (by omega) (by omega) (by omega)
  have b5 : Below w.heap.size w w5 := BW4.out.trans b45
  obtain ⟨cA5, _⟩ := one_cell gA5
  rw [HQ1.out] at ho5
  have HR := (show Hid _ from hr)
  have HO5 := (show Hid (OwnN w1.heap.size w5 (.slice (some ⟨g5, 0, none⟩) n5 c5) (if r = true then hangN ns c.toNat p.toNat else ns)) from ho5)
  have GR5 := (show Hid _ from gR5)
  have B5 := (show Hid (Below w.heap.size w w5) from b5)
  have HA5 := (show Hid _ from ha5)
  have hRl := lt_of_block gR5
  have hAl := lt_of_block gA5
  clear hr ho5 gR5 b5 b45 ha5 gA5 fr5 cA4 GA GR4 BW4 hss
  go_wp2_with fail
  go_at_call 51
  refine Calls.mono (itree_any HA5.out) ?_
  rintro e w6 ⟨rfl, b6⟩
  have gR6 := (b6.block _ hRl).trans GR5.out
  obtain ⟨cR6, zR6⟩ := one_cell gR6
  have GR6 := (show Hid _ from gR6)
  have B6 := (show Hid (Below w.heap.size w w6) from B5.out.trans (b6.mono B5.out.size))
  have HO6 := (show Hid (OwnN w1.heap.size w6 (.slice (some ⟨g5, 0, none⟩) n5 c5) (if r = true then hangN ns c.toNat p.toNat else ns)) from HO5.out.below b6)
  clear gR6 b6
  go_wp2
  refine bodyPost_ret (TreeHang_res rfl rfl (setCell_at GR6.out)) rfl ?_
  refine ⟨_, _, rfl, HR.out, ?_, B6.out.setCell (p := ⟨w.heap.size + 1 + 1 + 1, 0, none⟩) (by simp; omega) _⟩
  exact (HO6.out.kept (grown_setCell w6 (w.heap.size + 1 + 1 + 1) 0 (.slice (some ⟨g5, 0, none⟩) n5 c5)) (fun r e => by cases e; exact ⟨_, _, _, GR6.out, by decide, by decide, by decide⟩)).nodes

theorem TreeTake_res {tmps : Array Value} {w : World} {g : Nat} {a : Option Addr} {n c : Nat} {i : Bool} (h4 : tmps.getD 4 undef = .pointer (some ⟨g, 0, none⟩)) (h5 : tmps.getD 5 undef = .bool i) (hb : w.heap[g]? = some (.cells #[.slice a n c] 26 (0, 0))) :
    (results Tryz.f17 tmps).run Tryz.prog w = .ok (.tuple #[.agg #[.slice a n c], .bool i]) w := by
  rw [results_cell_tmp (p := 4) (u := 5) (ty := 26) rfl, h4, h5]
  simp [asAddr, run_loadVar_row w g 26 26 #[.slice a n c] (0, 0) _ hb Tryz.underlying26 rfl rfl, Result.andThen]

set_option maxHeartbeats 2000000 in
set_option maxRecDepth 100000 in
theorem itreeTake_any {w : World} {v : Value} {ns : List PNode} (hn : NodesAt w v ns) (hfit : ∀ n ∈ ns, NodeFit n) (hlen : ns.length ≤ 1048576) (c : Int) (ok : TreeOkP ns) :
    Calls Tryz.prog 17 #[.agg #[v], .int .i64 c] w fun e w' => ∃ (v' : Value) (r : Bool), e = .returned (.tuple #[.agg #[v'], .bool r]) ∧ (r = true ↔ (c ≠ 0 ∧ (0 ≤ c ∧ c < ns.length)) ∧ TreeOkP (takeN ns c.toNat)) ∧ NodesAt w' v' (if r = true then takeN ns c.toNat else ns) ∧ Below w.heap.size w w' := by
  have hmf : ∀ (fn : Fn) (first cap : Array Value) (w : World), (Instr.makeFunc fn first cap).run Tryz.prog w = .ok (.func fn first cap) w := fun _ _ _ _ => rfl
  have HN := (show Hid (NodesAt w v ns) from hn)
  have HFIT := (show Hid (∀ n ∈ ns, NodeFit n) from hfit)
  have HOK := (show Hid (TreeOkP ns) from ok)
  have h1 := ok.one
  have h5 := ok.most
  obtain ⟨a, cap, rfl, hc1, hc2, _⟩ := hn.slice
  clear hn hfit ok
  obtain ⟨w1, hw1⟩ : ∃ x, x = ((w.alloc (.cells #[.slice a ns.length cap] 26)).alloc (.cells #[.int .i64 c] 3)).alloc (.cells #[.slice none 0 0] 26) := ⟨_, rfl⟩
  have b1 : Below w.heap.size w w1 := by rw [hw1]; exact (((Below.refl _ w).alloc (Nat.le_refl _) _).alloc (by simp only [World.size_alloc]; omega) _).alloc (by simp only [World.size_alloc]; omega) _
  have hs1 : w1.heap.size = w.heap.size + 1 + 1 + 1 := by rw [hw1]; simp only [World.size_alloc]
  have g0 : w1.heap[w.heap.size]? = some (.cells #[.slice a ns.length cap] 26 (0, 0)) := by
    rw [hw1, Below.heap_alloc _ _ _ (by simp only [World.size_alloc]; omega), Below.heap_alloc _ _ _ (by simp only [World.size_alloc]; omega)]
    have := World.alloc_heap_new (w) (.cells #[.slice a ns.length cap] 26)
    exact this
  have g1 : w1.heap[w.heap.size + 1]? = some (.cells #[.int .i64 c] 3 (0, 0)) := by
    rw [hw1, Below.heap_alloc _ _ _ (by simp only [World.size_alloc]; omega)]
    have := World.alloc_heap_new (w.alloc (.cells #[.slice a ns.length cap] 26)) (.cells #[.int .i64 c] 3)
    rwa [World.size_alloc] at this
  have g2 : w1.heap[w.heap.size + 1 + 1]? = some (.cells #[.slice none 0 0] 26 (0, 0)) := by
    rw [hw1]
    have := World.alloc_heap_new ((w.alloc (.cells #[.slice a ns.length cap] 26)).alloc (.cells #[.int .i64 c] 3)) (.cells #[.slice none 0 0] 26)
    rwa [World.size_alloc, World.size_alloc] at this
  have HG := (show Hid (w1.heap[w.heap.size]? = some (.cells #[.slice a ns.length cap] 26 (0, 0)) ∧ w1.heap[w.heap.size + 1]? = some (.cells #[.int .i64 c] 3 (0, 0)) ∧ w1.heap[w.heap.size + 1 + 1]? = some (.cells #[.slice none 0 0] 26 (0, 0))) from ⟨g0, g1, g2⟩)
  have HS1 := (show Hid _ from hs1)
  have B1 := (show Hid (Below w.heap.size w w1) from b1)
  clear g0 g1 g2 hs1 b1
  go_enter Tryz.func17, Tryz.ntmps17
  go_wp2_with fail
  go_at_call 47
  rw [← hw1]
  refine Calls.mono (iarenaA_any (HN.out.below B1.out) HFIT.out hlen) ?_
  rintro e w2 ⟨g, v2, rfl, ha2, hq2, _, hg, b2⟩
  clear hw1
  obtain ⟨qs, hq1, o2, a2⟩ := hq2 HOK.out
  have hql : qs.length = ns.length := by have := congrArg List.length hq1; simpa using this
  obtain ⟨gv, cv, rfl, hgv, hgvl⟩ := o2.form (by omega)
  obtain ⟨w4, hw4⟩ : ∃ x, x = w2.alloc (.cells #[.pointer (some ⟨g, 0, none⟩)] 64) := ⟨_, rfl⟩
  have b24 : Below w2.heap.size w2 w4 := by rw [hw4]; exact (Below.refl _ w2).alloc (Nat.le_refl _) _
  have hs4 : w4.heap.size = w2.heap.size + 1 := by rw [hw4, World.size_alloc]
  have gA : w4.heap[w2.heap.size]? = some (.cells #[.pointer (some ⟨g, 0, none⟩)] 64 (0, 0)) := by rw [hw4]; exact World.alloc_heap_new _ _
  have hgl := lt_of_block ha2
  have hs1 := HS1.out
  have b12 := b2.size
  have b14 : Below w1.heap.size w1 w4 := b2.trans (b24.mono b2.size)
  have bw4 : Below w.heap.size w w4 := B1.out.trans (b14.mono B1.out.size)
  have ha4 := (b24.block g hgl).trans ha2
  have o4 := o2.below b24
  have hpar : ∀ i (hi : i < qs.length), qs[i].1.parent = -1 ∨ ∃ p : Nat, qs[i].1.parent = p ∧ p < qs.length := fun i hi => by
    have h := par_ok HOK.out (i := i) (by omega)
    have e : parOf ns i = qs[i].1.parent := by rw [← hq1, parOf_at (by simpa using hi)]; simp
    rw [e] at h
    rw [hql]; exact h
  have hkl : ∀ q ∈ qs, q.1.kids.length ≤ 1048576 := fun q hq => (HFIT.out q.1 (by rw [← hq1]; exact List.mem_map.mpr ⟨q, hq, rfl⟩)).kl
  have hgs := HG.out
  have CC := (show Hid _ from ichangeTake (B := w1.heap.size) (a := g) (g := gv) (cap := cv) (w := w4) (qs := qs) (ms := takeN ns c.toNat) (C := c ≠ 0 ∧ (0 ≤ c ∧ c < ns.length)) (x0 := w2.heap.size) (x1 := w.heap.size + 1) ha4 o4 b14.size (by omega) (by omega) (by rw [hq1]; exact HFIT.out) (takeN_fit HFIT.out) (by simp [takeN_len]; omega)
    (fun W b => by
      have h := istepTake (B := w1.heap.size) ((b.block g (lt_of_block ha4)).trans ha4) (o4.below b) a2 (Nat.le_trans b14.size b.size) (by omega) hpar hkl c ((b.block _ (lt_of_block gA)).trans gA) ((b.block _ (lt_of_block ((b14.block _ (by omega)).trans hgs.2.1))).trans ((b14.block _ (by omega)).trans hgs.2.1))
      rw [hq1, hql] at h
      rw [hql]
      exact h))
  have BW4 := (show Hid (Below w.heap.size w w4) from bw4)
  have GA := (show Hid _ from gA)
  have GR4 := (show Hid _ from (b14.block (w.heap.size + 1 + 1) (by omega)).trans hgs.2.2)
  obtain ⟨cA4, _⟩ := one_cell gA
  have HSS := (show Hid (w1.heap.size = w.heap.size + 1 + 1 + 1 ∧ w1.heap.size ≤ w2.heap.size ∧ w4.heap.size = w2.heap.size + 1 ∧ g < w2.heap.size ∧ w1.heap.size ≤ g) from ⟨hs1, b12, hs4, hgl, hg⟩)
  have HQ1 := (show Hid (qs.map (fun q => q.1) = ns) from hq1)
  clear gA b24 b14 bw4 hq1 hq2 o2 o4 ha2 ha4 b2 HG HS1 B1 hs4 hs1 b12 hgl hg hpar hkl hgs a2
  go_wp2_with fail
  go_at_call 48
  rw [← hw4]
  refine Calls.mono CC.out ?_
  rintro e w5 ⟨r, rfl, hr, ⟨g5, n5, c5, ha5, ho5⟩, fr5⟩
  clear CC hw4
  have hss := HSS.out
  have gA5 := fr5.box GA.out (by decide) (by decide) (by omega)
  have gR5 := fr5.box GR4.out (by decide) (by decide) (by omega)
  have b45 : Below w.heap.size w4 w5 := fr5.below (by omega) (by omega) (by omega)
  have b5 : Below w.heap.size w w5 := BW4.out.trans b45
  obtain ⟨cA5, _⟩ := one_cell gA5
  rw [HQ1.out] at ho5
  have HR := (show Hid _ from hr)
  have HO5 := (show Hid (OwnN w1.heap.size w5 (.slice (some ⟨g5, 0, none⟩) n5 c5) (if r = true then takeN ns c.toNat else ns)) from ho5)
  have GR5 := (show Hid _ from gR5)
  have B5 := (show Hid (Below w.heap.size w w5) from b5)
  have HA5 := (show Hid _ from ha5)
  have hRl := lt_of_block gR5
  have hAl := lt_of_block gA5
  clear hr ho5 gR5 b5 b45 ha5 gA5 fr5 cA4 GA GR4 BW4 hss
  go_wp2_with fail
  go_at_call 51
  refine Calls.mono (itree_any HA5.out) ?_
  rintro e w6 ⟨rfl, b6⟩
  have gR6 := (b6.block _ hRl).trans GR5.out
  obtain ⟨cR6, zR6⟩ := one_cell gR6
  have GR6 := (show Hid _ from gR6)
  have B6 := (show Hid (Below w.heap.size w w6) from B5.out.trans (b6.mono B5.out.size))
  have HO6 := (show Hid (OwnN w1.heap.size w6 (.slice (some ⟨g5, 0, none⟩) n5 c5) (if r = true then takeN ns c.toNat else ns)) from HO5.out.below b6)
  clear gR6 b6
  go_wp2
  refine bodyPost_ret (TreeTake_res rfl rfl (setCell_at GR6.out)) rfl ?_
  refine ⟨_, _, rfl, HR.out, ?_, B6.out.setCell (p := ⟨w.heap.size + 1 + 1, 0, none⟩) (by simp; omega) _⟩
  exact (HO6.out.kept (grown_setCell w6 (w.heap.size + 1 + 1) 0 (.slice (some ⟨g5, 0, none⟩) n5 c5)) (fun r e => by cases e; exact ⟨_, _, _, GR6.out, by decide, by decide, by decide⟩)).nodes
end Go.Proofs.YtogdbjafibejdaaGreat
