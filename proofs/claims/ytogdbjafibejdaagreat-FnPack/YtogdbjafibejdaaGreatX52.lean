/- The draw DrawTreePack. No condition. -/
import Derived.Test.YtogdbjafibejdaaGreatX35
import Derived.Test.YtogdbjafibejdaaGreatX36
import Derived.Test.YtogdbjafibejdaaGreatX39
import Derived.Test.YtogdbjafibejdaaGreatX51
import Derived.Deep.CutRange
import Derived.Maps.AppendAt
import Derived.Test.YtogdbjafibejdaaGreatX33
import Derived.Test.YtogdbjafibejdaaGreatX13
import Derived.Test.YtogdbjafibejdaaGreatX7
namespace Go.Proofs.YtogdbjafibejdaaGreat
open Go.RowKit
set_option maxRecDepth 100000
set_option linter.unusedVariables false

set_option maxHeartbeats 2000000 in
set_option maxRecDepth 100000 in
theorem drawTreePack_any {v : Value} {xs : List Int} {w : World} (h : Sl .u8 w v xs) (hb : ∀ x ∈ xs, 0 ≤ x ∧ x ≤ 255) (hn : xs.length ≤ 1099511627776) :
    Calls Tryz.prog 28 #[v] w fun e w' => DrawPk w e w' := by
  have HB := (show Hid (∀ x ∈ xs, 0 ≤ x ∧ x ≤ 255) from hb)
  have HS := (show Hid (Sl .u8 w v xs) from h)
  obtain ⟨a, ca, rfl, _, _, _, ha⟩ := h
  clear hb ha
  obtain ⟨wA, hwA⟩ : ∃ wA, wA = w.alloc (.cells #[.slice none 0 0] 26) := ⟨_, rfl⟩
  have bA : Below w.heap.size w wA := by rw [hwA]; exact (Below.refl _ _).alloc (Nat.le_refl _) _
  have gA : wA.heap[w.heap.size]? = some (.cells #[.slice none 0 0] 26 (0, 0)) := by rw [hwA]; exact World.alloc_heap_new _ _
  have HGA := (show Hid _ from gA)
  have BA := (show Hid (Below w.heap.size w wA) from bA)
  have hsA : w.heap.size < wA.heap.size := blk_lt gA
  clear gA bA
  go_enter Tryz.func28, Tryz.ntmps28
  go_wp2_with fail
  go_at_call 44
  rw [← hwA]
  clear hwA
  refine Calls.mono (new_any (HS.out.below BA.out) HB.out hn) ?_
  rintro e w1 ⟨rfl, k1, b1⟩
  obtain ⟨G, hG⟩ : ∃ G, G = wA.heap.size := ⟨_, rfl⟩
  rw [← hG] at k1
  rw [← hG]
  have HK1 := (show Hid (Cur wA G (.slice a xs.length ca) xs w1) from k1)
  have HB1 := (show Hid (Below wA.heap.size wA w1) from b1)
  have HGG := (show Hid (G = wA.heap.size) from hG)
  clear k1 b1 hG HS
  go_wp2_with fail
  go_at_call 45
  refine Calls.mono (drawTree_any HK1.out HB.out) ?_
  rintro e w2 ⟨nv, ns, rfl, own2, hout, k2, g2⟩
  obtain ⟨na, ncap, rfl, _, _, j1⟩ := own2.nodes.slice
  clear j1
  have HO := (show Hid (OutT ns) from hout)
  have gA2 := (g2.block w.heap.size (by have := HB1.out.size; omega) (fun e => by have := HGG.out; simp only [Option.some.injEq] at e; omega)).trans ((HB1.out.block _ hsA).trans HGA.out)
  have bw2 : Below w.heap.size w w2 := (BA.out.trans (HB1.out.mono BA.out.size)).grown g2 (Nat.le_trans BA.out.size HB1.out.size) (fun r e => by have := HGG.out; simp only [Option.some.injEq] at e; omega)
  obtain ⟨cA2, zA2⟩ := six_one gA2
  have hlw : w.heap.size < w1.heap.size := by have := HB1.out.size; omega
  have hl12 : w1.heap.size ≤ w2.heap.size := g2.size
  have KA := (show Hid (∀ W, w2.grownBy W (some G) → W.heap[w.heap.size]? = some (.cells #[.slice none 0 0] 26 (0, 0))) from fun W b => (b.block _ (by omega) (fun e => by have := HGG.out; simp only [Option.some.injEq] at e; omega)).trans gA2)
  have KB := (show Hid (∀ W, w2.grownBy W (some G) → Below w.heap.size w W) from fun W b => bw2.grown b (by omega) (fun r e => by have := HGG.out; simp only [Option.some.injEq] at e; omega))
  have KO := (show Hid (∀ W, w2.grownBy W (some G) → OwnN w1.heap.size W (.slice na ns.length ncap) ns) from fun W b => own2.kept b (fun r e => by cases e; obtain ⟨_, _, _, _, _, _, _, hh⟩ := k2; exact ⟨_, _, _, hh, by decide, by decide, by decide⟩))
  obtain ⟨w3, hw3⟩ : ∃ z, z = w2.alloc (.cells #[.slice na ns.length ncap] 26) := ⟨_, rfl⟩
  have b3 : Below w2.heap.size w2 w3 := by rw [hw3]; exact (Below.refl _ _).alloc (Nat.le_refl _) _
  have g3 : w3.heap[w2.heap.size]? = some (.cells #[.slice na ns.length ncap] 26 (0, 0)) := by rw [hw3]; exact World.alloc_heap_new _ _
  obtain ⟨T, hT⟩ : ∃ T, T = w2.heap.size := ⟨_, rfl⟩
  rw [← hT] at g3
  have hGT : G < T := by rw [hT]; exact k2.lt
  have B3 := (show Hid (w2.grownBy w3 (some G)) from below_by G b3)
  have K3 := (show Hid (Cur wA G (.slice a xs.length ca) xs w3) from k2.below b3)
  have KT := (show Hid (∀ W, w3.grownBy W (some G) → W.cell? ⟨T, 0, none⟩ = some (.slice na ns.length ncap) ∧ T < W.heap.size) from fun W b => ⟨(one_cell ((b.block _ (blk_lt g3) (fun e => by simp only [Option.some.injEq] at e; omega)).trans g3)).1, Nat.lt_of_lt_of_le (blk_lt g3) b.size⟩)
  have HLN := (show Hid (ns.length ≤ 1048576) from (show ns.length ≤ 1048576 by have := hout.len; omega))
  clear own2 hout k2 g2 gA2 bw2 HGA BA HK1 HB1 b3 g3
  go_wp2_with fail
  go_at_call 14
  rw [← hw3, ← hT]
  clear hw3 hT
  refine Calls.mono (streeOk_any (KO.out w3 B3.out).nodes HO.out.fit HLN.out) ?_
  rintro e w4 ⟨r, rfl, hr, b4⟩
  have B34 := (show Hid (w3.grownBy w4 (some G)) from below_by G b4)
  have K4 := (show Hid (Cur wA G (.slice a xs.length ca) xs w4) from K3.out.below b4)
  have HRR := (show Hid _ from hr)
  clear b4 hr K3
  have fin : ∀ W, w3.grownBy W (some G) → ∀ (tmps : Array Value), tmps.getD 2 undef = .pointer (some ⟨w.heap.size, 0, none⟩) → ∀ nv ms, OwnN w1.heap.size W nv ms → (∀ n ∈ ms, NodeFit n) → ms.length ≤ 1048576 → bodyPost Tryz.prog Tryz.f28 (fun e w' => DrawPk w e w') Exit.ret ⟨tmps, []⟩ (W.setCell ⟨w.heap.size, 0, none⟩ nv) := fun W b tmps ht nv ms ho hf hl => by
    have b' := B3.out.trans b
    have ga := KA.out W b'
    have gs := setCell_at (k := 0) (u := nv) ga
    have gr := grown_setCell W w.heap.size 0 nv
    refine bodyPost_ret (results_cell_row rfl _ _ w.heap.size 26 _ (0, 0) _ ht gs Tryz.underlying26 rfl rfl) rfl ?_
    exact ⟨_, ms, rfl, (ho.kept gr (fun k e => by cases e; exact ⟨_, _, _, ga, by decide, by decide, by decide⟩)).nodes, hf, hl, (KB.out W b').setCell (p := ⟨w.heap.size, 0, none⟩) (Nat.le_refl _) _⟩
  have FIN := (show Hid _ from fin)
  clear fin
  obtain ⟨cT, lT⟩ := KT.out w4 B34.out
  obtain ⟨cA, zA⟩ := six_one (KA.out w4 (B3.out.trans B34.out))
  have lA : w.heap.size < w4.heap.size := by have := B34.out.size; have := B3.out.size; omega
  rcases r with _ | _
  · clear HRR
    go_wp2
    exact FIN.out _ B34.out _ rfl _ _ (KO.out _ (B3.out.trans B34.out)) HO.out.fit HLN.out
  · have HG := (show Hid (STreeOkP ns) from HRR.out.mp rfl)
    clear HRR cT cA zA
    go_wp2_with fail
    go_at_call 67
    refine Calls.mono (once_any 6 (by decide) K4.out HB.out) ?_
    rintro e w5 ⟨c, rfl, _, g5⟩
    have B35 := (show Hid (w3.grownBy w5 (some G)) from B34.out.trans g5)
    obtain ⟨cT, lT⟩ := KT.out w5 B35.out
    obtain ⟨cA, zA⟩ := six_one (KA.out w5 (B3.out.trans B35.out))
    have lA : w.heap.size < w5.heap.size := by have := B35.out.size; have := B3.out.size; omega
    clear g5
    rcases c with _ | _
    rotate_left
    · go_wp2
      exact FIN.out _ B35.out _ rfl _ _ (KO.out _ (B3.out.trans B35.out)) HO.out.fit HLN.out
    · clear cA zA
      go_wp2_with fail
      go_at_call 82
      refine Calls.mono (streeTidy_any (KO.out w5 (B3.out.trans B35.out)).nodes HO.out.fit HLN.out) ?_
      rintro e w6 ⟨u, rfl, ht, b6⟩
      have B36 := (show Hid (w3.grownBy w6 (some G)) from B35.out.trans (below_by G b6))
      rcases ht with ⟨_, qs, o6, _, hq⟩ | ⟨hno, _⟩
      rotate_left
      · exact absurd HG.out hno
      have o7 := o6.n
      rw [hq] at o7
      have O7 := (show Hid (OwnN w1.heap.size w6 u (tidyN ns)) from o7.base (by have := B35.out.size; have := B3.out.size; omega))
      obtain ⟨ua, uc, rfl, _, _, _⟩ := o7.nodes.slice
      obtain ⟨cA, zA⟩ := six_one (KA.out w6 (B3.out.trans B36.out))
      have lA : w.heap.size < w6.heap.size := by have := B36.out.size; have := B3.out.size; omega
      clear cT lT o6 o7 hq b6
      go_wp2
      have hd := down_few HG.out.1 (k := 0) (by have := HG.out.1.one; omega)
      exact FIN.out _ B36.out _ rfl _ _ O7.out (tidyL_fit HO.out.fit _ (by have := HG.out.1.most; omega)) (by have := HG.out.1.most; rw [tidyN, (tidyL_len ns _).1]; omega)
end Go.Proofs.YtogdbjafibejdaaGreat

/- The draw DrawTreeRead. No condition. -/
namespace Go.Proofs.YtogdbjafibejdaaGreat
open Go.RowKit
set_option maxRecDepth 100000
set_option linter.unusedVariables false

theorem own_setB {B g n cap : Nat} {e : TypeId} {K : IntKind} {w : World} {xs : List Int} (h : Own B e K w (.slice (some ⟨g, 0, none⟩) n cap) xs) (hn : n = xs.length) (k : Nat) (hk : k < xs.length) (x : Int) :
    Own B e K (w.setCell ⟨g, k, none⟩ (.int K x)) (.slice (some ⟨g, 0, none⟩) n cap) (xs.set k x) ∧ w.grownBy (w.setCell ⟨g, k, none⟩ (.int K x)) (some g) := by
  subst hn
  obtain ⟨h1, h2⟩ := World.ownsRow.stored h k (.int K x)
  refine ⟨?_, h2⟩
  unfold Own
  rw [List.length_set, List.map_set]
  exact h1
theorem own_cap {B r n cap : Nat} {e : TypeId} {K : IntKind} {w : World} {xs : List Int} (h : Own B e K w (.slice (some ⟨r, 0, none⟩) n cap) xs) : n ≤ cap ∧ cap ≤ maxLen := by
  rcases h.shape with ⟨e, _⟩ | ⟨g, c, e, _, _, h1, h2⟩
  · cases e
  · cases e
    exact ⟨h1, h2⟩
theorem tidy_nodes {ns : List PNode} {w w' : World} {u : Value} (h : TidyA ns w u w') (hf : ∀ n ∈ ns, NodeFit n) : ∃ ms, NodesAt w' u ms ∧ (∀ n ∈ ms, NodeFit n) ∧ ms.length ≤ 1048576 := by
  rcases h with ⟨hg, qs, o, _, hq⟩ | ⟨_, rfl⟩
  · have hd := down_few hg.1 (k := 0) (by have := hg.1.one; omega)
    have hn := o.n.nodes
    rw [hq] at hn
    exact ⟨_, hn, tidyL_fit hf _ (by have := hg.1.most; omega), by have := hg.1.most; rw [tidyN, (tidyL_len ns _).1]; omega⟩
  · exact ⟨[], (ownN_nil 0 _).nodes, by simp, by simp⟩
def RdRow (B : Nat) (z : Value) (w : World) : Prop := ∃ r cap zs, z = .slice (some ⟨r, 0, none⟩) (List.length (α := Int) zs) cap ∧ Own B 5 .u8 w (.slice (some ⟨r, 0, none⟩) zs.length cap) zs ∧ (∀ y ∈ zs, 0 ≤ y ∧ y ≤ 255) ∧ 0 < zs.length ∧ zs.length ≤ 66594600

set_option maxHeartbeats 4000000 in
set_option maxRecDepth 100000 in
theorem drawTreeRead_any {v : Value} {xs : List Int} {w : World} (h : Sl .u8 w v xs) (hb : ∀ x ∈ xs, 0 ≤ x ∧ x ≤ 255) (hn : xs.length ≤ 1099511627776) :
    Calls Tryz.prog 32 #[v] w fun e w' => DrawRd w e w' := by
  obtain ⟨i0, hi, hz0, hz1, hz2⟩ := info_parts Tryz.infoB
  have HB := (show Hid (∀ x ∈ xs, 0 ≤ x ∧ x ≤ 255) from hb)
  have HS := (show Hid (Sl .u8 w v xs) from h)
  obtain ⟨a, ca, rfl, _, _, _, ha⟩ := h
  clear hb ha
  go_enter Tryz.func32, Tryz.ntmps32
  go_wp2_with fail
  go_at_call 44
  refine Calls.mono (new_any HS.out HB.out hn) ?_
  rintro e w1 ⟨rfl, k1, b1⟩
  obtain ⟨G, hG⟩ : ∃ G, G = w.heap.size := ⟨_, rfl⟩
  rw [← hG] at k1
  rw [← hG]
  have G1 := (show Hid (w.grownBy w1 (some G)) from below_by G b1)
  have K1 := (show Hid (Cur w G (.slice a xs.length ca) xs w1) from k1)
  have HGG := (show Hid (G = w.heap.size) from hG)
  clear k1 b1 HS hG
  go_wp2_with fail
  go_at_call 93
  refine Calls.mono (drawRight_any K1.out HB.out) ?_
  rintro e w2 ⟨nv, ns, rfl, own2, ⟨k, hdr, hk⟩, k2, g2⟩
  have G2 := (show Hid (w.grownBy w2 (some G)) from G1.out.trans g2)
  have K2 := (show Hid (Cur w G (.slice a xs.length ca) xs w2) from k2)
  have hfit : ∀ n ∈ ns, NodeFit n := fun n hn => (hdr.mild n hn).fit (by omega)
  have CT := (show Hid _ from streeTidy_any own2.nodes hfit (by have := hdr.cnt; omega))
  have HFT := (show Hid (∀ n ∈ ns, NodeFit n) from hfit)
  clear hfit hdr own2 k2 g2 K1 G1 hk
  go_wp2_with fail
  go_at_call 82
  refine Calls.mono CT.out ?_
  rintro e w3 ⟨u, rfl, ht, b3⟩
  clear CT
  obtain ⟨ms, hms, hfit, hlen⟩ := tidy_nodes ht HFT.out
  have G3 := (show Hid (w.grownBy w3 (some G)) from G2.out.trans (below_by G b3))
  have K3 := (show Hid (Cur w G (.slice a xs.length ca) xs w3) from K2.out.below b3)
  have CP := (show Hid _ from streePack_any hms hfit hlen)
  clear HFT ht hms hfit hlen b3 K2 G2
  go_wp2_with fail
  go_at_call 30
  refine Calls.mono CP.out ?_
  rintro e w4 ⟨pv, r4, rfl, hp, b4⟩
  clear CP
  have hs3 := G3.out.size
  have G4 := (show Hid (w.grownBy w4 (some G)) from G3.out.trans (below_by G b4))
  have K4 := (show Hid (Cur w G (.slice a xs.length ca) xs w4) from K3.out.below b4)
  have HP := (show Hid _ from hp)
  have hG3 := K3.out.lt
  have HL := (show Hid (w3.heap.size ≤ w4.heap.size) from b4.size)
  clear K3 hp b4
  have hs4 := G4.out.size
  have HGB := (show Hid (G < w3.heap.size) from (show G < w3.heap.size from hG3))
  go_upto_if 16 with fail
  go_cut [4] from 17 (fun z wx => RdRow w3.heap.size z wx ∧ Hid (Cur w G (.slice a xs.length ca) xs wx) ∧ Hid (w.grownBy wx (some G)))
  case first =>
    rcases HP.out with ⟨rfl, hg, o⟩ | ⟨rfl, _, _⟩
    · have hpos : 0 < (packL ms).length := by unfold packL; rw [List.length_append]; have := form_pos (namesL ms).length; omega
      rcases o.shape with ⟨_, hnil⟩ | ⟨pg, pc, rfl, hpB, hpl, hpc, hpm⟩
      · rw [hnil] at hpos; simp at hpos
      have PR := (show Hid (RdRow w3.heap.size (.slice (some ⟨pg, 0, none⟩) (packL ms).length pc) w4) from ⟨pg, pc, packL ms, rfl, o, packL_byte hg.1.1, hpos, packL_small hg.1.1⟩)
      clear o HP hpos hg
      go_wp2_with fail
      go_meet
      exact ⟨PR.out, K4, G4⟩
    · clear HP
      have PR := (show Hid (RdRow w3.heap.size (.slice (some ⟨w4.heap.size, 0, none⟩) 4 4) (w4.alloc (.cells #[.int .u8 0, .int .u8 1, .int .u8 1, .int .u8 0] 5))) from ⟨w4.heap.size, 4, [0, 1, 1, 0], rfl, World.ownsRow_lit w4 #[.int .u8 0, .int .u8 1, .int .u8 1, .int .u8 0] 4 HL.out (by decide) rfl, by decide, by decide, by decide⟩)
      have K5 := (show Hid (Cur w G (.slice a xs.length ca) xs _) from K4.out.below ((Below.refl _ _).alloc (Nat.le_refl _) (.cells #[.int .u8 0, .int .u8 1, .int .u8 1, .int .u8 0] 5)))
      have G5 := (show Hid (w.grownBy _ (some G)) from G4.out.trans (World.grownBy_alloc w4 (.cells #[.int .u8 0, .int .u8 1, .int .u8 1, .int .u8 0] 5) (some G)))
      go_wp2_with fail
      go_meet
      exact ⟨PR.out, K5, G5⟩
  case rest =>
    obtain ⟨⟨r, cap, zs, rfl, o, by1, hz, hzl⟩, K, GG⟩ := hcut
    have KF := (show Hid (∀ W, w.grownBy W (some G) → Below w.heap.size w W) from fun W b => (Below.refl w.heap.size w).grown b (Nat.le_refl _) (fun r e => by have := HGG.out; simp only [Option.some.injEq] at e; omega))
    have O := (show Hid (Own w3.heap.size 5 .u8 wc (.slice (some ⟨r, 0, none⟩) zs.length cap) zs) from o)
    have BY := (show Hid (∀ y ∈ zs, 0 ≤ y ∧ y ≤ 255) from by1)
    clear o by1 HP K4 G4
    go_wp2_with fail
    go_at_call 68
    refine Calls.mono (below_any 6 (by decide) K.out HB.out) ?_
    rintro e w5 ⟨x, rfl, x0, x6, _, k5, g5⟩
    replace x6 := x6 (by decide)
    have O5 := (show Hid (Own w3.heap.size 5 .u8 w5 (.slice (some ⟨r, 0, none⟩) zs.length cap) zs) from own_past O.out g5 HGB.out)
    have G5 := (show Hid (w.grownBy w5 (some G)) from GG.out.trans g5)
    clear O GG K g5
    by_cases h0 : x = 0
    · subst h0
      go_wp2_with fail
      go_at_call 68
      refine Calls.mono (below_any _ (by omega) k5 HB.out) ?_
      rintro e w6 ⟨y, rfl, y0, y1, _, k6, g6⟩
      replace y1 := y1 (by omega)
      obtain ⟨m, rfl⟩ : ∃ m : Nat, y = m := ⟨y.toNat, by omega⟩
      have O6 := (show Hid (Own w3.heap.size 5 .u8 w6 (.slice (some ⟨r, 0, none⟩) zs.length cap) zs) from own_past O5.out g6 HGB.out)
      have G6 := (show Hid (w.grownBy w6 (some G)) from G5.out.trans g6)
      clear O5 G5 k5 g6
      go_wp2_with fail
      go_at_call 94
      refine Calls.mono (pickL_any k6 HB.out [0, 1, 2, 3, 4, 5, 127, 128, 255] (by simp) (by simp) _ rfl 9 rfl) ?_
      rintro e w7 ⟨q, rfl, hq, k7, g7⟩
      have hqb : 0 ≤ q ∧ q ≤ 255 := by simp at hq; omega
      have hwq : IntKind.u8.wrap q = q := by rw [IntKind.wrap_u8]; omega
      have o7 := own_past O6.out g7 HGB.out
      have G7 := (show Hid (w.grownBy w7 (some G)) from G6.out.trans g7)
      have hrB := (World.ownsRow.lt o7 r rfl).1
      have c0 : w7.cell? ⟨r, m, none⟩ = some (.int .u8 (zs.getD m 0)) := by
        have := World.ownsRow.cellAt o7 m (by omega)
        rw [this, List.getElem?_map, List.getElem?_eq_getElem (by omega), List.getD_eq_getElem?_getD, List.getElem?_eq_getElem (by omega)]
        rfl
      have f0 : w7.frozen? ⟨r, m, none⟩ = false := World.ownsRow.frozenAt o7 m
      obtain ⟨oA, gA⟩ := own_setB o7 rfl m (by omega) q
      have OA := (show Hid (Own w3.heap.size 5 .u8 _ (.slice (some ⟨r, 0, none⟩) zs.length cap) (zs.set m q)) from oA)
      have GA := (show Hid (w.grownBy (w7.setCell ⟨r, m, none⟩ (.int .u8 q)) (some G)) from grown_past G7.out gA (fun j hj => by injection hj with hj; omega))
      have BA := (show Hid (∀ y ∈ zs.set m q, 0 ≤ y ∧ y ≤ 255) from (show ∀ y ∈ zs.set m q, 0 ≤ y ∧ y ≤ 255 from fun y hy => by
        rcases List.mem_or_eq_of_mem_set hy with hy | rfl
        · exact BY.out y hy
        · exact hqb))
      obtain ⟨wA, hwA⟩ : ∃ W, W = w7.setCell ⟨r, m, none⟩ (.int .u8 q) := ⟨_, rfl⟩
      rw [← hwA] at OA GA
      clear oA gA o7 G7 k7 g7 O6 G6 k6 BY hq
      go_wp2
      rw [← hwA]
      go_ret
      exact ⟨_, zs.set m q, rfl, by have := OA.out.sl; exact this, BA.out, by rw [List.length_set]; omega, KF.out _ GA.out⟩
    by_cases h1 : x = 1
    · subst h1
      go_wp2_with fail
      go_at_call 68
      refine Calls.mono (below_any _ (by omega) k5 HB.out) ?_
      rintro e w6 ⟨y, rfl, y0, y1, _, k6, g6⟩
      replace y1 := y1 (by omega)
      obtain ⟨n, rfl⟩ : ∃ n : Nat, y = n := ⟨y.toNat, by omega⟩
      have O6 := own_past O5.out g6 HGB.out
      have S6 := (show Hid (Sl .u8 w6 (.slice (some ⟨r, 0, none⟩) n cap) (zs.take n)) from O6.sl.take (r := n) (by omega))
      have G6 := (show Hid (w.grownBy w6 (some G)) from G5.out.trans g6)
      obtain ⟨hcap, hcm⟩ := own_cap O6
      have hncap : n ≤ cap := by omega
      clear O5 G5 O6 g6 k5 k6
      go_wp2
      go_ret
      exact ⟨_, zs.take n, rfl, S6.out, fun y hy => BY.out y (List.mem_of_mem_take hy), by rw [List.length_take]; omega, KF.out _ G6.out⟩
    by_cases h2 : x = 2
    · subst h2
      clear k5
      have PS := (show Hid (Sl .u8 (w5.alloc (.cells #[.int .u8 0] 5)) (.slice (some ⟨w5.heap.size, 0, none⟩) 1 1) [0]) from (show Own w3.heap.size 5 .u8 (w5.alloc (.cells #[.int .u8 0] 5)) (.slice (some ⟨w5.heap.size, 0, none⟩) 1 1) [0] from World.ownsRow_lit w5 #[.int .u8 0] 1 (by have := (World.ownsRow.lt O5.out r rfl); omega) (by decide) rfl).sl)
      have hrB := (World.ownsRow.lt O5.out r rfl).1
      go_wp2_with (at_builtin; refine wpList_appT _ rfl _ _ 22 rfl w3.heap.size 5 i0 (.int .u8 0) 1 Tryz.underlying22 hi hz0 hz1 hz2 rfl .u8 r cap zs ⟨w5.heap.size, 0, none⟩ 1 [0] rfl rfl (World.ownsRow.alloc O5.out _) PS.out (by simp; omega) (by unfold maxLen; simp; omega) (by rw [World.size_alloc]; have := (World.ownsRow.lt O5.out r rfl); omega) ?_; intro r4 cap4 w6 o6 g6 _)
      have G6 := (show Hid (w.grownBy w6 (some G)) from grown_past (grown_past G5.out (World.grownBy_alloc w5 _ none) (fun j hj => by cases hj)) g6 (fun j hj => by injection hj with hj; omega))
      have O6 := (show Hid (Own w3.heap.size 5 .u8 w6 (.slice (some ⟨r4, 0, none⟩) (zs.length + 1) cap4) (zs ++ [0])) from o6)
      clear o6 g6
      go_wp2
      go_ret
      exact ⟨_, zs ++ [0], rfl, O6.out.sl, fun y hy => by
        rcases List.mem_append.mp hy with hy | hy
        · exact BY.out y hy
        · rw [List.mem_singleton.mp hy]; omega, by simp; omega, KF.out _ G6.out⟩
    clear k5
    go_wp2
    go_ret
    exact ⟨_, zs, rfl, O5.out.sl, BY.out, by omega, KF.out _ G5.out⟩
end Go.Proofs.YtogdbjafibejdaaGreat

/- The law FnPack, walked. No condition. -/
namespace Go.Proofs.YtogdbjafibejdaaGreat
open Go.RowKit
set_option maxRecDepth 100000
set_option linter.unusedVariables false

theorem fnPack_walk {v : Value} {xs : List Int} (w : World) (h : Sl .u8 w v xs) (hwf : ∀ n ∈ xs, (Lit.int .u8 n).wf = true) :
    Calls Tryz.prog 6 #[v] w fun e w' => e = .returned (.bool true) ∧ Below w.heap.size w w' := by
  by_cases hl : 1048576 < xs.length
  · exact fnPack_big w h hl
  · exact fnPack_of w h hl (drawTreePack_any h (byte_ok hwf) (by omega)) (fun W b => drawTreeRead_any (h.below b) (byte_ok hwf) (by omega))
end Go.Proofs.YtogdbjafibejdaaGreat
