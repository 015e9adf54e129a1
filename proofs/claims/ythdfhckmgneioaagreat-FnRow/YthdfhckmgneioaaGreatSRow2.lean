/- The specification's StackOk, OpenAt and PopTo. No condition. -/
import Derived.Test.YthdfhckmgneioaaGreatSRow
import Derived.Test.YthdfhckmgneioaaGreatStr
namespace Go.Proofs.YthdfhckmgneioaaGreat
open Go.RowKit
set_option maxRecDepth 100000
set_option linter.unusedVariables false

theorem sstackOk_any {w : World} {v rv : Value} {ns : List PNode} {row : List Int} (hn : NodesAt w v ns) (hfit : ∀ n ∈ ns, NodeFit n) (hlen : ns.length ≤ 1048576) (hr : Sl .i64 w rv row) (hrl : row.length ≤ 1048576) :
    Calls Tryz.prog 11 #[.agg #[v], rv] w fun e w' => ∃ r, e = .returned (.bool r) ∧ (r = true ↔ STreeOkP ns ∧ RowP ns row) ∧ Below w.heap.size w w' := by
  have HN := (show Hid (NodesAt w v ns) from hn)
  have HR := (show Hid (Sl .i64 w rv row) from hr)
  have HFIT := (show Hid _ from hfit)
  obtain ⟨a, cap, rfl, hc1, hc2, _⟩ := hn.slice
  obtain ⟨ra, rc, rfl, _, _, _, hra⟩ := hr
  clear hn hra hfit
  obtain ⟨w1, hw1⟩ : ∃ w1, w1 = w.alloc (.cells #[.slice a ns.length cap] 26) := ⟨_, rfl⟩
  have b1 : Below w.heap.size w w1 := by rw [hw1]; exact (Below.refl _ _).alloc (Nat.le_refl _) _
  have g1 : w1.heap[w.heap.size]? = some (.cells #[.slice a ns.length cap] 26 (0, 0)) := by rw [hw1]; exact World.alloc_heap_new _ _
  have HG1 := (show Hid _ from g1)
  clear g1
  go_enter Tryz.func11, Tryz.ntmps11
  go_wp2_with fail
  go_at_call 25
  rw [← hw1]
  clear hw1
  refine Calls.mono (streeOk_any (HN.out.below b1) HFIT.out hlen) ?_
  rintro e w2 ⟨r1, rfl, hr1, b2⟩
  have HR1 := (show Hid _ from hr1)
  have hb := b1.trans (b2.mono b1.size)
  have cT : w2.cell? ⟨w.heap.size, 0, none⟩ = some (.slice a ns.length cap) := by
    have := (b2.block _ (blk_lt HG1.out)).trans HG1.out
    simp only [World.cell?, this]; rfl
  clear hr1 b2
  cases r1
  · go_wp2
    go_ret
    exact ⟨false, rfl, ⟨fun h => (by cases h), fun h => (by have := HR1.out.mpr h.1; cases this)⟩, hb⟩
  · have HT : Hid (STreeOkP ns) := HR1.out.mp rfl
    clear HR1
    go_wp2_with fail
    go_at_call 26
    refine Calls.mono (srow_any (HN.out.below hb) hlen (HR.out.below hb) hrl) ?_
    rintro e w3 ⟨r2, rfl, hr2, b3⟩
    have HR2 := (show Hid _ from hr2)
    clear hr2
    go_wp2
    go_ret
    exact ⟨r2, rfl, ⟨fun h => ⟨HT.out, HR2.out.mp h⟩, fun h => HR2.out.mpr h.2⟩, hb.trans (b3.mono hb.size)⟩

def named (ns : List PNode) (nm : ByteArray) (x : Int) : Bool := decide (nmOf ns x = nm)

set_option maxHeartbeats 1000000 in
set_option maxRecDepth 100000 in
theorem sat_any {w : World} {v rv : Value} {ns : List PNode} {row : List Int} (hn : NodesAt w v ns) (hlen : ns.length ≤ 1048576) (hr : Sl .i64 w rv row) (hrow : RowP ns row) (nm : ByteArray) :
    Calls Tryz.prog 45 #[.agg #[v], rv, .string nm] w fun e w' => e = .returned (.int .i64 ((lastAt (named ns nm) row row.length : Int) - 1)) ∧ Below w.heap.size w w' := by
  have HR := (show Hid (RowP ns row) from hrow)
  have hrl := hrow.len
  obtain ⟨a, cap, rfl, hc1, hc2, hcs⟩ := hn.slice
  obtain ⟨ra, rc, rfl, _, _, _, hra⟩ := hr
  have HRA := (show Hid _ from hra)
  have HCS := (show Hid _ from hcs)
  clear hn hra hcs hrow
  obtain ⟨w1, hw1⟩ : ∃ w1, w1 = w.alloc (.cells #[.slice a ns.length cap] 26) := ⟨_, rfl⟩
  have b1 : Below w.heap.size w w1 := by rw [hw1]; exact (Below.refl _ _).alloc (Nat.le_refl _) _
  have g1 : w1.heap[w.heap.size]? = some (.cells #[.slice a ns.length cap] 26 (0, 0)) := by rw [hw1]; exact World.alloc_heap_new _ _
  have cT : w1.cell? ⟨w.heap.size, 0, none⟩ = some (.slice a ns.length cap) := by simp only [World.cell?, g1]; rfl
  have hs1 := blk_lt g1
  have HCT := (show Hid _ from cT)
  have ne := Wd.any w1.heap.size w1
  go_enter Tryz.func45, Tryz.ntmps45
  go_wp2
  rw [← hw1]
  clear hw1 g1 cT
  go_loopw [7] (fun i wr => ∃ k : Nat, k ≤ row.length ∧ i = .int .i64 ((k : Int) - 1) ∧ lastAt (named ns nm) row row.length = lastAt (named ns nm) row k ∧ Below w1.heap.size w1 wr) (fun i _ => (intOf i + 1).toNat)
  case atStart => exact ⟨row.length, Nat.le_refl _, by go_num, rfl, Below.refl _ _⟩
  case round =>
    obtain ⟨k, hk, rfl, he, bel⟩ := hrel
    have HE := (show Hid (lastAt (named ns nm) row row.length = lastAt (named ns nm) row k) from he)
    clear he
    cases k with
    | zero =>
      go_wp2
      go_ret
      exact ⟨by rw [HE.out]; rfl, b1.trans (bel.mono b1.size)⟩
    | succ k =>
      have hs : ((k + 1 : Nat) : Int) - 1 = (k : Int) := by omega
      have hlt : k < row.length := by omega
      obtain ⟨rb, ro, rfl, c1⟩ := HRA.out k hlt
      have hrb := lt_of_cell c1
      have HX : Hid (row.getD k 0 = row[k]) := (show row.getD k 0 = row[k] by simp [List.getD_eq_getElem?_getD, hlt])
      obtain ⟨m, hm, hmlt⟩ := elB_at (HR.out.el k hlt)
      have HG : Hid (row.getD k 0 = (m : Int)) := HX.out.trans hm
      rw [HG.out] at c1
      obtain ⟨b, off, av, kv, rfl, hblt, _, d1, _⟩ := HCS.out m hmlt
      have HNM : Hid (named ns nm (row.getD k 0) = decide (ns[m].name = nm)) := (show named ns nm (row.getD k 0) = decide (ns[m].name = nm) by rw [HG.out, named, nmOf_at hmlt])
      obtain ⟨y, hy⟩ : ∃ y, y = ns[m].name := ⟨_, rfl⟩
      rw [← hy] at d1 HNM
      have f0 : ∀ n : Wd w1.heap.size w1, n.w.cell? ⟨w.heap.size, 0, none⟩ = some (.slice (some ⟨b, off, none⟩) ns.length cap) := fun n => (n.below.cell (p := ⟨w.heap.size, 0, none⟩) hs1).trans HCT.out
      have f1 : ∀ n : Wd w1.heap.size w1, n.w.cell? ⟨rb, ro + k, none⟩ = some (.int .i64 m) := fun n => ((b1.trans (n.below.mono b1.size)).cell (p := ⟨rb, ro + k, none⟩) hrb).trans c1
      have f2 : ∀ n : Wd w1.heap.size w1, n.w.cell? ⟨b, off + m * 6 + 1, none⟩ = some (.string y) := fun n => ((b1.trans (n.below.mono b1.size)).cell (p := ⟨b, off + m * 6 + 1, none⟩) hblt).trans d1
      rw [hs]
      clear hy c1 d1 hm hs
      by_cases hq : y = nm
      · have HY : Hid (named ns nm (row.getD k 0) = true) := HNM.out.trans (decide_eq_true hq)
        subst hq
        go_wp2
        refine wp_region_below (by kernel_rfl) (by kernel_rfl) bel ?_
        repeat (go_big_quiet_step (fail))
        refine wpQuiet_nil ?_
        intro wq hq
        replace hq := Wd.of hq
        go_wp2
        go_ret
        exact ⟨by rw [HE.out, lastAt_yes HY.out]; simp, b1.trans (hq.mono b1.size)⟩
      · have HY : Hid (named ns nm (row.getD k 0) = false) := HNM.out.trans (decide_eq_false hq)
        have hd := toList_ne hq
        go_wp2
        refine wp_region_below (by kernel_rfl) (by kernel_rfl) bel ?_
        repeat (go_big_quiet_step (fail))
        refine wpQuiet_nil ?_
        intro wq hq
        replace hq := Wd.of hq
        go_wp2
        go_roundw
        case rel => exact ⟨k, by omega, by go_num, by rw [HE.out, lastAt_no HY.out], hq⟩
        case measure => simp [intOf]

theorem sopenAt_any {w : World} {v rv : Value} {ns : List PNode} {row : List Int} (hn : NodesAt w v ns) (hfit : ∀ n ∈ ns, NodeFit n) (hlen : ns.length ≤ 1048576) (hr : Sl .i64 w rv row) (hrl : row.length ≤ 1048576) (nm : ByteArray) :
    Calls Tryz.prog 22 #[.agg #[v], rv, .string nm] w fun e w' => ∃ r : Int, e = .returned (.int .i64 r) ∧ (STreeOkP ns ∧ RowP ns row → r = (lastAt (named ns nm) row row.length : Int) - 1) ∧ (¬ (STreeOkP ns ∧ RowP ns row) → r = -1) ∧ Below w.heap.size w w' := by
  have HN := (show Hid (NodesAt w v ns) from hn)
  have HR := (show Hid (Sl .i64 w rv row) from hr)
  have HFIT := (show Hid _ from hfit)
  obtain ⟨a, cap, rfl, hc1, hc2, _⟩ := hn.slice
  obtain ⟨ra, rc, rfl, _, _, _, hra⟩ := hr
  clear hn hra hfit
  obtain ⟨w1, hw1⟩ : ∃ w1, w1 = w.alloc (.cells #[.slice a ns.length cap] 26) := ⟨_, rfl⟩
  have b1 : Below w.heap.size w w1 := by rw [hw1]; exact (Below.refl _ _).alloc (Nat.le_refl _) _
  have g1 : w1.heap[w.heap.size]? = some (.cells #[.slice a ns.length cap] 26 (0, 0)) := by rw [hw1]; exact World.alloc_heap_new _ _
  have HG1 := (show Hid _ from g1)
  clear g1
  go_enter Tryz.func22, Tryz.ntmps22
  go_wp2_with fail
  go_at_call 11
  rw [← hw1]
  clear hw1
  refine Calls.mono (sstackOk_any (HN.out.below b1) HFIT.out hlen (HR.out.below b1) hrl) ?_
  rintro e w2 ⟨r1, rfl, hr1, b2⟩
  have hb := b1.trans (b2.mono b1.size)
  have cT : w2.cell? ⟨w.heap.size, 0, none⟩ = some (.slice a ns.length cap) := by
    have := (b2.block _ (blk_lt HG1.out)).trans HG1.out
    simp only [World.cell?, this]; rfl
  clear b2
  cases r1
  · have HF : Hid (¬ (STreeOkP ns ∧ RowP ns row)) := fun h => by have := hr1.mpr h; cases this
    clear hr1
    go_wp2
    go_ret
    exact ⟨-1, rfl, fun h => absurd h HF.out, fun _ => rfl, hb⟩
  · have HT : Hid (STreeOkP ns ∧ RowP ns row) := hr1.mp rfl
    clear hr1
    go_wp2_with fail
    go_at_call 45
    refine Calls.mono (sat_any (HN.out.below hb) hlen (HR.out.below hb) HT.out.2 nm) ?_
    rintro e w3 ⟨rfl, b3⟩
    go_wp2
    go_ret
    exact ⟨_, rfl, fun _ => rfl, fun h => absurd HT.out h, hb.trans (b3.mono hb.size)⟩

/-- What is left of the row: all of it, or what stands ahead of the last one of that name, but not less than one. -/
def popL (ns : List PNode) (nm : ByteArray) (row : List Int) : List Int :=
  if lastAt (named ns nm) row row.length = 0 then row else row.take (max (lastAt (named ns nm) row row.length - 1) 1)

set_option maxRecDepth 100000 in
theorem sto_any {w : World} {v rv : Value} {ns : List PNode} {row : List Int} (hn : NodesAt w v ns) (hlen : ns.length ≤ 1048576) (hr : Sl .i64 w rv row) (hrow : RowP ns row) (nm : ByteArray) :
    Calls Tryz.prog 23 #[.agg #[v], rv, .string nm] w fun e w' => ∃ v', e = .returned v' ∧ Own w.heap.size 3 .i64 w' v' (popL ns nm row) ∧ Below w.heap.size w w' := by
  have HN := (show Hid (NodesAt w v ns) from hn)
  have HR := (show Hid (Sl .i64 w rv row) from hr)
  have HRW := (show Hid (RowP ns row) from hrow)
  have hrl := hrow.len
  have hla := lastAt_le (named ns nm) row row.length
  obtain ⟨i0, hi, hz0, hz1, hz2⟩ := info_parts Tryz.infoI
  obtain ⟨a, cap, rfl, hc1, hc2, _⟩ := hn.slice
  obtain ⟨ra, rc, rfl, _, _, _, hra⟩ := hr
  clear hn hra hrow
  obtain ⟨w1, hw1⟩ : ∃ w1, w1 = w.alloc (.cells #[.slice a ns.length cap] 26) := ⟨_, rfl⟩
  have b1 : Below w.heap.size w w1 := by rw [hw1]; exact (Below.refl _ _).alloc (Nat.le_refl _) _
  go_enter Tryz.func23, Tryz.ntmps23
  go_wp2_with fail
  go_at_call 45
  rw [← hw1]
  clear hw1
  refine Calls.mono (sat_any (HN.out.below b1) hlen (HR.out.below b1) HRW.out nm) ?_
  rintro e w2 ⟨rfl, b2⟩
  have hb := b1.trans (b2.mono b1.size)
  clear b2
  obtain ⟨p, hp⟩ : ∃ p, p = lastAt (named ns nm) row row.length := ⟨_, rfl⟩
  have HP := (show Hid _ from hp)
  rw [← hp] at hla ⊢
  clear hp
  have ba : Below w.heap.size w (w2.alloc (.cells #[] 3)) := hb.alloc hb.size _
  have oa : Own w.heap.size 3 .i64 (w2.alloc (.cells #[] 3)) (.slice (some ⟨w2.heap.size, 0, none⟩) 0 0) [] := (own_empty _ _ w2).base hb.size
  have ra2 := HR.out.below ba
  by_cases h0 : p = 0
  · have HL : Hid (popL ns nm row = row) := (show popL ns nm row = row by rw [popL, if_pos (by rw [← HP.out]; exact h0)])
    subst h0
    go_wp2_with (refine wpList_app _ rfl (.tmp 14) (.tmp 15) 27 rfl w.heap.size 3 i0 (.int .i64 0) 8 Tryz.underlying27 hi hz0 hz1 hz2 rfl .i64 _ _ [] row rfl rfl oa ra2 (by simp; omega) (by unfold maxLen; simp; omega) ba.size ?_; intro v' w3 o3 g3)
    go_ret
    exact ⟨_, rfl, by rw [HL.out]; exact o3, ba.grown g3 ba.size oa.grownAt⟩
  · have HL : Hid (popL ns nm row = row.take (max (p - 1) 1)) := (show popL ns nm row = row.take (max (p - 1) 1) by rw [popL, if_neg (by rw [← HP.out]; exact h0), ← HP.out])
    have hp1 : ¬ ((p : Int) - 1 < 0) := by omega
    have MX := (show Hid _ from smax_any ((p : Int) - 1) 1)
    rw [show (if (p : Int) - 1 > 1 then (p : Int) - 1 else 1) = ((max (p - 1) 1 : Nat) : Int) by split <;> omega] at MX
    obtain ⟨q, hq⟩ : ∃ q, q = max (p - 1) 1 := ⟨_, rfl⟩
    have hql : q ≤ row.length := by omega
    rw [← hq] at MX HL
    clear hq
    go_wp2_with fail
    go_at_call 46
    refine Calls.mono (MX.out _) ?_
    rintro e w3 ⟨rfl, rfl⟩
    have hl : (row.take q).length = q := by simp; omega
    have ht := sl_take ra2 hql
    go_wp2_with (refine wpList_app _ rfl (.tmp 17) (.tmp 21) 27 rfl w.heap.size 3 i0 (.int .i64 0) 8 Tryz.underlying27 hi hz0 hz1 hz2 rfl .i64 _ _ [] (row.take q) rfl rfl oa ht (by simp; omega) (by unfold maxLen; simp; omega) ba.size ?_; intro v' w3 o3 g3)
    go_ret
    exact ⟨_, rfl, by rw [HL.out]; exact o3, ba.grown g3 ba.size oa.grownAt⟩

set_option maxRecDepth 100000 in
theorem spopTo_any {w : World} {v rv : Value} {ns : List PNode} {row : List Int} (hn : NodesAt w v ns) (hfit : ∀ n ∈ ns, NodeFit n) (hlen : ns.length ≤ 1048576) (hr : Sl .i64 w rv row) (hrl : row.length ≤ 1048576) (nm : ByteArray) :
    Calls Tryz.prog 9 #[.agg #[v], rv, .string nm] w fun e w' => ∃ v' ys, e = .returned v' ∧ Own w.heap.size 3 .i64 w' v' ys ∧ (STreeOkP ns ∧ RowP ns row → ys = popL ns nm row) ∧ (¬ (STreeOkP ns ∧ RowP ns row) → ys = row) ∧ Below w.heap.size w w' := by
  have HN := (show Hid (NodesAt w v ns) from hn)
  have HR := (show Hid (Sl .i64 w rv row) from hr)
  have HFIT := (show Hid _ from hfit)
  obtain ⟨i0, hi, hz0, hz1, hz2⟩ := info_parts Tryz.infoI
  obtain ⟨a, cap, rfl, hc1, hc2, _⟩ := hn.slice
  obtain ⟨ra, rc, rfl, _, _, _, hra⟩ := hr
  clear hn hra hfit
  obtain ⟨w1, hw1⟩ : ∃ w1, w1 = w.alloc (.cells #[.slice a ns.length cap] 26) := ⟨_, rfl⟩
  have b1 : Below w.heap.size w w1 := by rw [hw1]; exact (Below.refl _ _).alloc (Nat.le_refl _) _
  have g1 : w1.heap[w.heap.size]? = some (.cells #[.slice a ns.length cap] 26 (0, 0)) := by rw [hw1]; exact World.alloc_heap_new _ _
  have HG1 := (show Hid _ from g1)
  clear g1
  go_enter Tryz.func9, Tryz.ntmps9
  go_wp2_with fail
  go_at_call 22
  rw [← hw1]
  clear hw1
  refine Calls.mono (sopenAt_any (HN.out.below b1) HFIT.out hlen (HR.out.below b1) hrl nm) ?_
  rintro e w2 ⟨r1, rfl, hr1, hr2, b2⟩
  have hb := b1.trans (b2.mono b1.size)
  have cT : w2.cell? ⟨w.heap.size, 0, none⟩ = some (.slice a ns.length cap) := by
    have := (b2.block _ (blk_lt HG1.out)).trans HG1.out
    simp only [World.cell?, this]; rfl
  clear b2
  have HR1 := (show Hid _ from hr1)
  have HR2 := (show Hid _ from hr2)
  clear hr1 hr2
  have ba : Below w.heap.size w (w2.alloc (.cells #[] 3)) := hb.alloc hb.size _
  have oa : Own w.heap.size 3 .i64 (w2.alloc (.cells #[] 3)) (.slice (some ⟨w2.heap.size, 0, none⟩) 0 0) [] := (own_empty _ _ w2).base hb.size
  have ra2 := HR.out.below ba
  by_cases hr : r1 < 0
  · have HL : Hid (STreeOkP ns ∧ RowP ns row → row = popL ns nm row) := fun h => by
      have := HR1.out h
      have h0 : lastAt (named ns nm) row row.length = 0 := by omega
      rw [popL, if_pos h0]
    go_wp2_with (refine wpList_app _ rfl (.tmp 12) (.tmp 13) 27 rfl w.heap.size 3 i0 (.int .i64 0) 8 Tryz.underlying27 hi hz0 hz1 hz2 rfl .i64 _ _ [] row rfl rfl oa ra2 (by simp; omega) (by unfold maxLen; simp; omega) ba.size ?_; intro v' w3 o3 g3)
    go_ret
    exact ⟨_, _, rfl, o3, HL.out, fun _ => rfl, ba.grown g3 ba.size oa.grownAt⟩
  · have HT : Hid (STreeOkP ns ∧ RowP ns row) := by
      by_cases h : STreeOkP ns ∧ RowP ns row
      · exact h
      · exact absurd (show r1 < 0 by rw [HR2.out h]; decide) hr
    clear oa ba ra2
    go_wp2_with fail
    go_at_call 23
    refine Calls.mono (sto_any (HN.out.below hb) hlen (HR.out.below hb) HT.out.2 nm) ?_
    rintro e w3 ⟨v3, rfl, o3, b3⟩
    go_wp2
    go_ret
    exact ⟨_, _, rfl, o3.base hb.size, fun _ => rfl, fun h => absurd HT.out h, hb.trans (b3.mono hb.size)⟩
end Go.Proofs.YthdfhckmgneioaaGreat
