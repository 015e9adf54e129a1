/- The specification's l6Copy. No condition. -/
import Derived.Test.YthdfhckmgneioaaGreatOwnT
import Derived.Test.YthdfhckmgneioaaGreatHelpA
import Derived.Test.YthdfhckmgneioaaGreatSAttr3
import Derived.Test.YthdfhckmgneioaaGreatDraw
import Derived.Test.YthdfhckmgneioaaGreatIAttr
namespace Go.Proofs.YthdfhckmgneioaaGreat
open Go.RowKit
set_option maxRecDepth 100000
set_option linter.unusedVariables false

/-- A block is kept where a block of another kind is turned. -/
theorem blk_type {k : Nat} {cs : Array Value} {t : TypeId} {fr : Nat × Nat} {W W' : World} {row : Option Nat} (h : W.heap[k]? = some (.cells cs t fr)) (hg : W.grownBy W' row) (hr : ∀ r, row = some r → ∃ cs' t' fr', W.heap[r]? = some (.cells cs' t' fr') ∧ t' ≠ t) : W'.heap[k]? = some (.cells cs t fr) := by
  rw [hg.block k (blk_lt h) (fun e => by
    obtain ⟨cs', t', fr', h1, h2⟩ := hr k e.symm
    rw [h] at h1; cases h1; exact h2 rfl)]
  exact h
theorem row_type {B e size n : Nat} {w : World} {v : Value} {xs : List Value} (h : w.ownsRow B e size v n xs) {t : TypeId} (ht : e ≠ t) : ∀ r, v.ownBlock = some r → ∃ cs' t' fr', w.heap[r]? = some (.cells cs' t' fr') ∧ t' ≠ t := fun r hr => by
  rcases h.2 with ⟨rfl, _⟩ | ⟨g, cap, cur, rfl, _, hh, _⟩
  · cases hr
  · cases hr; exact ⟨_, _, _, hh, ht⟩

theorem own_slice {B e size n : Nat} {w : World} {v : Value} {xs : List Value} (h : w.ownsRow B e size v n xs) : ∃ a m c, v = .slice a m c := by
  rcases h.2 with ⟨rfl, _⟩ | ⟨g, cap, cur, rfl, _⟩
  · exact ⟨_, _, _, rfl⟩
  · exact ⟨_, _, _, rfl⟩

theorem Tryz.infoAttrRow : (Tryz.prog.info? 110).map (fun i => (i.zero, i.size, i.bytes)) = some (some (.agg #[.string ⟨#[]⟩, .string ⟨#[]⟩]), 2, 32) := by kernel_rfl
theorem Tryz.infoIntRow : (Tryz.prog.info? 3).map (fun i => (i.zero, i.size, i.bytes)) = some (some (.int .i64 0), 1, 8) := by kernel_rfl
theorem Tryz.infoNodeRow : (Tryz.prog.info? 37).map (fun i => (i.zero, i.size, i.bytes)) = some (some (.agg #[.int .i64 0, .string ⟨#[]⟩, .slice none 0 0, .string ⟨#[]⟩, .int .i64 0, .slice none 0 0]), 6, 96) := by kernel_rfl

/-- While the nodes are copied: k of them are. -/
structure CopyW (w : World) (v : Value) (ns : List PNode) (k : Nat) (vo : Value) (W : World) : Prop where
  bT : W.heap[w.heap.size]? = some (.cells #[v] 26 (0, 0))
  bR : W.heap[w.heap.size + 1]? = some (.cells #[.slice none 0 0] 26 (0, 0))
  bO : W.heap[w.heap.size + 1 + 1]? = some (.cells #[vo] 26 (0, 0))
  own : OwnN w.heap.size W vo (ns.take k)
  bel : Below w.heap.size w W

set_option maxHeartbeats 1000000 in
theorem scopy_any {w : World} {v : Value} {ns : List PNode} (hn : NodesAt w v ns) (hfit : ∀ n ∈ ns, NodeFit n) (hlen : ns.length ≤ 1048576) :
    Calls Tryz.prog 57 #[.agg #[v]] w fun e w' => ∃ v', e = .returned (.agg #[v']) ∧ OwnN w.heap.size w' v' ns ∧ Below w.heap.size w w' := by
  have HFIT := (show Hid (∀ n ∈ ns, NodeFit n) from hfit)
  have HN := (show Hid (NodesAt w v ns) from hn)
  obtain ⟨a, cap, rfl, hc1, hc2, hcs⟩ := hn.slice
  have HCS := (show Hid _ from hcs)
  clear hcs hn hfit
  obtain ⟨ia, hia, hza0, hza1, hza2⟩ := info_parts Tryz.infoAttrRow
  obtain ⟨ii, hii, hzi0, hzi1, hzi2⟩ := info_parts Tryz.infoIntRow
  obtain ⟨iN, hiN, hzN0, hzN1, hzN2⟩ := info_parts Tryz.infoNodeRow
  obtain ⟨w3, hw3⟩ : ∃ w3, w3 = ((w.alloc (.cells #[.slice a ns.length cap] 26)).alloc (.cells #[.slice none 0 0] 26)).alloc (.cells #[.slice none 0 0] 26) := ⟨_, rfl⟩
  have b3 : Below w.heap.size w w3 := by rw [hw3]; exact (((Below.refl _ w).alloc (Nat.le_refl _) _).alloc (by simp) _).alloc (by simp; omega) _
  have HS : Hid (CopyW w (.slice a ns.length cap) ns 0 (.slice none 0 0) w3) := by
    refine ⟨?_, ?_, ?_, by simpa using ownN_nil _ _, b3⟩
    · rw [hw3, Below.heap_alloc _ _ _ (by simp; omega), Below.heap_alloc _ _ _ (by simp)]
      exact World.alloc_heap_new _ _
    · rw [hw3, Below.heap_alloc _ _ _ (by simp)]
      have := World.alloc_heap_new (w.alloc (.cells #[.slice a ns.length cap] 26)) (.cells #[.slice none 0 0] 26)
      rwa [World.size_alloc] at this
    · rw [hw3]
      have := World.alloc_heap_new ((w.alloc (.cells #[.slice a ns.length cap] 26)).alloc (.cells #[.slice none 0 0] 26)) (.cells #[.slice none 0 0] 26)
      rwa [World.size_alloc, World.size_alloc] at this
  clear b3
  go_enter Tryz.func57, Tryz.ntmps57
  go_wp2
  rw [← hw3]
  clear hw3
  go_loopw [4] (fun i wr => ∃ (k : Nat) (vo : Value), k ≤ ns.length ∧ i = .int .i64 k ∧ CopyW w (.slice a ns.length cap) ns k vo wr) (fun i _ => ns.length - (intOf i).toNat)
  case atStart => exact ⟨0, _, Nat.zero_le _, rfl, HS.out⟩
  case round =>
    clear HS
    obtain ⟨k, vo, hk, rfl, hW⟩ := hrel
    have HW := (show Hid (CopyW w (.slice a ns.length cap) ns k vo wr) from hW)
    have hb := hW.bel
    have cT : wr.cell? ⟨w.heap.size, 0, none⟩ = some (.slice a ns.length cap) := by simp only [World.cell?, hW.bT]; rfl
    have cO : wr.cell? ⟨w.heap.size + 1 + 1, 0, none⟩ = some vo := by simp only [World.cell?, hW.bO]; rfl
    have hsz := blk_lt hW.bO
    clear hW
    by_cases hlt : k < ns.length
    · obtain ⟨b, off, av, kv, rfl, hblt, c0, c1, c2, c3, c4, c5, hav, hkv⟩ := HCS.out k hlt
      replace c0 := (hb.cell (p := ⟨b, off + k * 6, none⟩) hblt).trans c0
      replace c1 := (hb.cell (p := ⟨b, off + k * 6 + 1, none⟩) hblt).trans c1
      replace c2 := (hb.cell (p := ⟨b, off + k * 6 + 2, none⟩) hblt).trans c2
      replace c3 := (hb.cell (p := ⟨b, off + k * 6 + 3, none⟩) hblt).trans c3
      replace c4 := (hb.cell (p := ⟨b, off + k * 6 + 4, none⟩) hblt).trans c4
      replace c5 := (hb.cell (p := ⟨b, off + k * 6 + 5, none⟩) hblt).trans c5
      have hnf := HFIT.out ns[k] (List.getElem_mem hlt)
      have HAV := (show Hid (Sv 2 wr av (pairCells ns[k].attrs)) from hav.below hb)
      have HKV := (show Hid (Sl .i64 wr kv ns[k].kids) from hkv.below hb)
      obtain ⟨av1, av2, av3, rfl, _⟩ := hav
      obtain ⟨kv1, kv3, rfl, _⟩ := hkv
      have HTK : Hid (ns.take (k + 1) = ns.take k ++ [ns[k]]) := take_snoc ns hlt
      obtain ⟨nd, hnd⟩ : ∃ nd, nd = ns[k] := ⟨_, rfl⟩
      rw [← hnd] at c0 c1 c3 c4 c5 hnf HAV HKV HTK
      obtain ⟨k0, k1, rs, k3, k4, ks⟩ := nd
      have hrs := hnf.rs
      have hkl := hnf.kl
      simp only at c0 c1 c3 c4 c5 HAV HKV hrs hkl
      clear hnd hnf
      have o1 : ((wr.alloc (.cells #[.int .i64 k0, .string k1, .slice av1 av2 av3, .string k3, .int .i64 k4, .slice kv1 ks.length kv3] 37)).alloc (.cells #[] 110)).ownsRow w.heap.size 110 2 (.slice (some ⟨wr.heap.size + 1, 0, none⟩) 0 0) 0 [] := by
        have := empty_row (wr.alloc (.cells #[.int .i64 k0, .string k1, .slice av1 av2 av3, .string k3, .int .i64 k4, .slice kv1 ks.length kv3] 37)) w.heap.size 110 2 (by have := hb.size; simp; omega)
        rwa [World.size_alloc] at this
      have b1 : Below wr.heap.size wr ((wr.alloc (.cells #[.int .i64 k0, .string k1, .slice av1 av2 av3, .string k3, .int .i64 k4, .slice kv1 ks.length kv3] 37)).alloc (.cells #[] 110)) := ((Below.refl _ _).alloc (Nat.le_refl _) _).alloc (by simp) _
      have x1 : ((wr.alloc (.cells #[.int .i64 k0, .string k1, .slice av1 av2 av3, .string k3, .int .i64 k4, .slice kv1 ks.length kv3] 37)).alloc (.cells #[] 110)).heap[wr.heap.size]? = some (.cells #[.int .i64 k0, .string k1, .slice av1 av2 av3, .string k3, .int .i64 k4, .slice kv1 ks.length kv3] 37 (0, 0)) := by
        rw [Below.heap_alloc _ _ _ (by simp)]
        exact World.alloc_heap_new _ _
      have hav1 := HAV.out.below b1
      have HB1 := (show Hid _ from b1)
      have HX1 := (show Hid _ from x1)
      clear b1 x1
      have HOW := (show Hid (OwnN w.heap.size wr vo (ns.take k)) from HW.out.own)
      obtain ⟨qs, hq1, hq2, hq3⟩ := HOW.out
      have hql : qs.length = k := by have := congrArg List.length hq1; simp at this; omega
      have HQ1 := (show Hid (qs.map (fun q => q.1) = ns.take k) from hq1)
      have HQ2 := (show Hid _ from hq2)
      have HQ3 := (show Hid _ from hq3)
      obtain ⟨ao, no, co, rfl⟩ := own_slice hq2
      clear hq1 hq2 hq3 HOW
      have bW := hb.size
      go_wp2_with (first
        | (at_builtin
           refine wpList_appV _ rfl (.tmp 19) (.tmp 21) 35 rfl w.heap.size 110 ia _ 2 32 Tryz.underlying35 hia hza0 hza1 hza2 rfl (by decide) (.slice (some ⟨wr.heap.size + 1, 0, none⟩) 0 0) (.slice av1 av2 av3) 0 rs.length _ (pairCells rs) rfl rfl o1 hav1 (pairCells_len _) (pair_oneCell _) (by omega) (by unfold maxLen; omega) (by simp; omega) ?_
           intro v4 w4 o4 g4
           rw [List.nil_append, Nat.zero_add] at o4
           have b4 : Below wr.heap.size wr w4 := HB1.out.grown g4 (by simp; omega) (fun r e => by cases e; exact Nat.le_succ _)
           have x4 : w4.heap[wr.heap.size]? = some (.cells #[.int .i64 k0, .string k1, .slice av1 av2 av3, .string k3, .int .i64 k4, .slice kv1 ks.length kv3] 37 (0, 0)) := (g4.block _ (by simp; omega) (by simp [Value.ownBlock])).trans HX1.out
           have y5 : w4.cell? ⟨wr.heap.size, 5, none⟩ = some (.slice kv1 ks.length kv3) := by simp only [World.cell?, x4]; rfl
           have y2 : w4.cell? ⟨wr.heap.size, 2, none⟩ = some (.slice av1 av2 av3) := by simp only [World.cell?, x4]; rfl
           have z2 : w4.frozen? ⟨wr.heap.size, 2, none⟩ = false := by simp [World.frozen?, x4]
           have hlt4 := blk_lt x4
           obtain ⟨a4, n4, d4, rfl⟩ := own_slice o4
           have HX4 := (show Hid _ from x4)
           have HB4 := (show Hid (Below wr.heap.size wr w4) from b4)
           have HO4 := (show Hid _ from o4)
           have g5 : w4.grownBy ((w4.setCell ⟨wr.heap.size, 2, none⟩ (.slice a4 n4 d4)).alloc (.cells #[] 3)) (some wr.heap.size) := grown_trans (grown_setCell _ _ _ _) (World.grownBy_alloc _ _ _)
           have o5 : Own w.heap.size 3 .i64 ((w4.setCell ⟨wr.heap.size, 2, none⟩ (.slice a4 n4 d4)).alloc (.cells #[] 3)) (.slice (some ⟨w4.heap.size, 0, none⟩) 0 0) [] := by
             have := empty_row (w4.setCell ⟨wr.heap.size, 2, none⟩ (.slice a4 n4 d4)) w.heap.size 3 1 (by simp [World.setCell]; omega)
             rwa [show (w4.setCell ⟨wr.heap.size, 2, none⟩ (.slice a4 n4 d4)).heap.size = w4.heap.size by simp [World.setCell]] at this
           have b5 : Below wr.heap.size wr ((w4.setCell ⟨wr.heap.size, 2, none⟩ (.slice a4 n4 d4)).alloc (.cells #[] 3)) := b4.grown g5 (by omega) (fun r e => by cases e; exact Nat.le_refl _)
           have x5 : ((w4.setCell ⟨wr.heap.size, 2, none⟩ (.slice a4 n4 d4)).alloc (.cells #[] 3)).heap[wr.heap.size]? = some (.cells #[.int .i64 k0, .string k1, .slice a4 n4 d4, .string k3, .int .i64 k4, .slice kv1 ks.length kv3] 37 (0, 0)) := by
             rw [Below.heap_alloc _ _ _ (by simp [World.setCell]; omega)]
             exact setCell_at x4
           have hkv5 := HKV.out.below b5
           have HX5 := (show Hid _ from x5)
           have HB5 := (show Hid _ from b5)
           have HG5 := (show Hid _ from g5)
           clear x4 x5 b4 b5 g5 o4 g4 o1 hav1 c0 c1 c2 c3 c4 c5 HX1 HB1)
        | (at_builtin
           refine wpList_app _ rfl (.tmp 24) (.tmp 26) 27 rfl w.heap.size 3 ii (.int .i64 0) 8 Tryz.underlying27 hii hzi0 hzi1 hzi2 rfl .i64 (.slice (some ⟨w4.heap.size, 0, none⟩) 0 0) (.slice kv1 ks.length kv3) [] ks rfl rfl o5 hkv5 (by simp; omega) (by unfold maxLen; simp; omega) (by simp [World.setCell]; omega) ?_
           intro v6 w6 o6 g6
           rw [List.nil_append] at o6
           obtain ⟨a6, n6, d6, rfl⟩ := own_slice o6
           have g46 : w4.grownBy w6 (some wr.heap.size) := ⟨g6.os.trans HG5.out.os, g6.tape.trans HG5.out.tape, g6.output.trans HG5.out.output, Nat.le_trans HG5.out.size g6.size, fun r hr hne => (g6.block r (Nat.lt_of_lt_of_le hr HG5.out.size) (fun e => by cases e; exact Nat.lt_irrefl _ hr)).trans (HG5.out.block r hr hne)⟩
           have b6 : Below wr.heap.size wr w6 := HB5.out.grown g6 (by have := HG5.out.size; omega) (fun r e => by cases e; exact Nat.le_of_lt hlt4)
           have x6 : w6.heap[wr.heap.size]? = some (.cells #[.int .i64 k0, .string k1, .slice a4 n4 d4, .string k3, .int .i64 k4, .slice kv1 ks.length kv3] 37 (0, 0)) := (g6.block _ (blk_lt HX5.out) (fun e => by simp only [Value.ownBlock, Option.some.injEq] at e; omega)).trans HX5.out
           have o46 := kept_of_type HO4.out g46 (fun r e => by cases e; exact ⟨_, _, _, HX4.out, by decide⟩)
           have y0 : w6.cell? ⟨wr.heap.size, 0, none⟩ = some (.int .i64 k0) := by simp only [World.cell?, x6]; rfl
           have y1 : w6.cell? ⟨wr.heap.size, 1, none⟩ = some (.string k1) := by simp only [World.cell?, x6]; rfl
           have y2 : w6.cell? ⟨wr.heap.size, 2, none⟩ = some (.slice a4 n4 d4) := by simp only [World.cell?, x6]; rfl
           have y3 : w6.cell? ⟨wr.heap.size, 3, none⟩ = some (.string k3) := by simp only [World.cell?, x6]; rfl
           have y4 : w6.cell? ⟨wr.heap.size, 4, none⟩ = some (.int .i64 k4) := by simp only [World.cell?, x6]; rfl
           have y5 : w6.cell? ⟨wr.heap.size, 5, none⟩ = some (.slice kv1 ks.length kv3) := by simp only [World.cell?, x6]; rfl
           have z5 : w6.frozen? ⟨wr.heap.size, 5, none⟩ = false := by simp [World.frozen?, x6]
           have hlt6 := blk_lt x6
           have cO6 : w6.cell? ⟨w.heap.size + 1 + 1, 0, none⟩ = some (.slice ao no co) := (b6.cell (p := ⟨w.heap.size + 1 + 1, 0, none⟩) hsz).trans cO
           have hne6 : wr.heap.size ≠ w.heap.size + 1 + 1 := by omega
           have g8 : w6.grownBy ((w6.setCell ⟨wr.heap.size, 5, none⟩ (.slice a6 n6 d6)).alloc (.cells #[.int .i64 k0, .string k1, .slice a4 n4 d4, .string k3, .int .i64 k4, .slice a6 n6 d6] 37)) (some wr.heap.size) := grown_trans (grown_setCell _ _ _ _) (World.grownBy_alloc _ _ _)
           have b8 : Below wr.heap.size wr ((w6.setCell ⟨wr.heap.size, 5, none⟩ (.slice a6 n6 d6)).alloc (.cells #[.int .i64 k0, .string k1, .slice a4 n4 d4, .string k3, .int .i64 k4, .slice a6 n6 d6] 37)) := b6.grown g8 (by omega) (fun r e => by cases e; exact Nat.le_refl _)
           have x8 : ((w6.setCell ⟨wr.heap.size, 5, none⟩ (.slice a6 n6 d6)).alloc (.cells #[.int .i64 k0, .string k1, .slice a4 n4 d4, .string k3, .int .i64 k4, .slice a6 n6 d6] 37)).heap[w6.heap.size]? = some (.cells #[.int .i64 k0, .string k1, .slice a4 n4 d4, .string k3, .int .i64 k4, .slice a6 n6 d6] 37 (0, 0)) := by
             have := World.alloc_heap_new (w6.setCell ⟨wr.heap.size, 5, none⟩ (.slice a6 n6 d6)) (.cells #[.int .i64 k0, .string k1, .slice a4 n4 d4, .string k3, .int .i64 k4, .slice a6 n6 d6] 37)
             rwa [show (w6.setCell ⟨wr.heap.size, 5, none⟩ (.slice a6 n6 d6)).heap.size = w6.heap.size by simp [World.setCell]] at this
           have o48 := kept_of_type o46 g8 (fun r e => by cases e; exact ⟨_, _, _, x6, by decide⟩)
           have o68 : Own w.heap.size 3 .i64 _ _ ks := kept_of_type o6 g8 (fun r e => by cases e; exact ⟨_, _, _, x6, by decide⟩)
           have sv8 := sv_oneNode (q := ((⟨k0, k1, rs, k3, k4, ks⟩, (.slice a4 n4 d4, .slice a6 n6 d6)) : PNode × (Value × Value))) x8
           have hrow8 := ownsRow_below HQ2.out b8
           rw [show (ns.take k).length = k by simp; omega] at hrow8
           have one8 := node_oneCell (q := ((⟨k0, k1, rs, k3, k4, ks⟩, (.slice a4 n4 d4, .slice a6 n6 d6)) : PNode × (Value × Value))) ⟨o48, o68⟩
           have HQQ := (show Hid (_ ∧ _) from ⟨o48, o68⟩)
           have HB8 := (show Hid _ from b8)
           clear o6 g6 g46 b6 x6 o46 g8 b8 x8 o48 o68 HX4 HO4 HX5 HB5 HG5 o5 hkv5)
        | (at_builtin
           refine wpList_appV _ rfl (.tmp 30) (.tmp 32) 24 rfl w.heap.size 37 iN _ 6 96 Tryz.underlying24 hiN hzN0 hzN1 hzN2 rfl (by decide) (.slice ao no co) (.slice (some ⟨w6.heap.size, 0, none⟩) 1 1) k 1 (nodeCells qs) _ rfl rfl hrow8 sv8 rfl one8 (by omega) (by unfold maxLen; omega) (by simp [World.setCell]; omega) ?_
           intro v9 w9 o9 g9
           obtain ⟨a9, n9, d9, rfl⟩ := own_slice o9
           have own9 := OwnN.snoc (q := ((⟨k0, k1, rs, k3, k4, ks⟩, (.slice a4 n4 d4, .slice a6 n6 d6)) : PNode × (Value × Value))) (by rw [hql]; exact hrow8) (fun q hq => ⟨ownsRow_below (HQ3.out q hq).1 HB8.out, (HQ3.out q hq).2.below HB8.out⟩) HQQ.out (by rw [hql]; exact o9) g9
           rw [HQ1.out] at own9
           have t9 := blk_type ((HB8.out.block _ (by omega)).trans HW.out.bT) g9 (row_type hrow8 (by decide))
           have r9 := blk_type ((HB8.out.block _ (by omega)).trans HW.out.bR) g9 (row_type hrow8 (by decide))
           have q9 := blk_type ((HB8.out.block _ (by omega)).trans HW.out.bO) g9 (row_type hrow8 (by decide))
           have cO9 : w9.cell? ⟨w.heap.size + 1 + 1, 0, none⟩ = some (.slice ao no co) := by simp only [World.cell?, q9]; rfl
           have fO9 : w9.frozen? ⟨w.heap.size + 1 + 1, 0, none⟩ = false := by simp [World.frozen?, q9]
           have b9 : Below w.heap.size w w9 := by
             have b08 := hb.trans (HB8.out.mono hb.size)
             refine b08.grown g9 b08.size (fun r e => ?_)
             have := hrow8.lt r e
             exact this.1
           have H9 := (show Hid (_ ∧ _ ∧ _ ∧ _ ∧ _) from ⟨own9, t9, r9, q9, b9⟩)
           clear o9 g9 own9 t9 r9 q9 b9 hrow8 sv8 one8 HQQ HB8))
      have H9' := H9.out
      obtain ⟨own9, t9, r9, q9, b9⟩ := H9'
      have gs := setCell_at (k := 0) (u := .slice a9 n9 d9) q9
      go_roundw
      case rel =>
        refine ⟨k + 1, .slice a9 n9 d9, by omega, by go_num, ?_⟩
        refine ⟨?_, ?_, gs, ?_, b9.setCell (p := ⟨w.heap.size + 1 + 1, 0, none⟩) (by simp; omega) _⟩
        · exact (Below.heap_setCell w9 ⟨w.heap.size + 1 + 1, 0, none⟩ _ w.heap.size (by show w.heap.size ≠ w.heap.size + 1 + 1; omega)).trans t9
        · exact (Below.heap_setCell w9 ⟨w.heap.size + 1 + 1, 0, none⟩ _ (w.heap.size + 1) (by show w.heap.size + 1 ≠ w.heap.size + 1 + 1; omega)).trans r9
        · rw [HTK.out]
          exact own9.kept (grown_setCell _ _ _ _) (fun r e => by cases e; exact ⟨_, _, _, q9, by decide, by decide, by decide⟩)
      case measure => simp [intOf]; omega
    · have hke : k = ns.length := by omega
      have cR : wr.cell? ⟨w.heap.size + 1, 0, none⟩ = some (.slice none 0 0) := by simp only [World.cell?, HW.out.bR]; rfl
      have fR : wr.frozen? ⟨w.heap.size + 1, 0, none⟩ = false := by simp [World.frozen?, HW.out.bR]
      have own0 := HW.out.own
      rw [hke, List.take_length] at own0
      obtain ⟨ao, no, co, rfl⟩ : ∃ ao no co, vo = .slice ao no co := by obtain ⟨_, _, h, _⟩ := own0; exact own_slice h
      have HOW := (show Hid _ from own0)
      clear own0
      go_wp2
      have gs := setCell_at (k := 0) (u := .slice ao no co) HW.out.bR
      refine bodyPost_ret (results_cell_row rfl _ _ (w.heap.size + 1) 26 _ (0, 0) _ rfl gs Tryz.underlying26 rfl rfl) rfl ?_
      exact ⟨.slice ao no co, rfl, OwnN.kept HOW.out (grown_setCell _ _ _ _) (fun r e => by cases e; exact ⟨_, _, _, HW.out.bR, by decide, by decide, by decide⟩), hb.setCell (p := ⟨w.heap.size + 1, 0, none⟩) (by simp) _⟩
end Go.Proofs.YthdfhckmgneioaaGreat
