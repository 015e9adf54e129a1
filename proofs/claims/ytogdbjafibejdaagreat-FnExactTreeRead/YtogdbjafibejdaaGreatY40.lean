/- The specification's l6Alike: whether two rows of nodes are one (written by mk/salike.py). No condition. -/
import Derived.Test.YtogdbjafibejdaaGreatY32
import Derived.Test.YtogdbjafibejdaaGreatY39
import Derived.Deep.CutRange
import Derived.Test.YtogdbjafibejdaaGreatY29
import Derived.Test.YtogdbjafibejdaaGreatY13
import Derived.Test.YtogdbjafibejdaaGreatY18
namespace Go.Proofs.YtogdbjafibejdaaGreat
open Go.RowKit
set_option maxRecDepth 100000
set_option linter.unusedVariables false

def AtTwo (w : World) (p q : Value) (n m : Array Value) (w' : World) : Prop := ∃ N M, p = .pointer (some ⟨N, 0, none⟩) ∧ q = .pointer (some ⟨M, 0, none⟩) ∧ w'.heap[N]? = some (.cells n 36 (0, 0)) ∧ w'.heap[M]? = some (.cells m 36 (0, 0)) ∧ Below w.heap.size w w'
theorem atTwo_a (w : World) (n m : Array Value) : AtTwo w (.pointer (some ⟨w.heap.size, 0, none⟩)) (.pointer (some ⟨w.heap.size + 1, 0, none⟩)) n m ((w.alloc (.cells n 36)).alloc (.cells m 36)).drew := by
  have h1 : Below w.heap.size w (w.alloc (.cells n 36)) := (Below.refl _ w).alloc (Nat.le_refl _) _
  have h2 : Below w.heap.size w ((w.alloc (.cells n 36)).alloc (.cells m 36)) := h1.alloc h1.size _
  refine ⟨_, _, rfl, rfl, ?_, ?_, h2.trans ((below_drewN 1).mono h2.size)⟩
  · show ((w.alloc (.cells n 36)).alloc (.cells m 36)).heap[w.heap.size]? = _
    rw [Below.heap_alloc _ _ _ (by simp)]
    exact World.alloc_heap_new _ _
  · have := World.alloc_heap_new (w.alloc (.cells n 36)) (.cells m 36)
    rwa [World.size_alloc] at this
theorem atTwo_b (w : World) (n m : Array Value) : AtTwo w (.pointer (some ⟨w.heap.size + 1, 0, none⟩)) (.pointer (some ⟨w.heap.size, 0, none⟩)) n m ((w.alloc (.cells m 36)).alloc (.cells n 36)).drew := by
  obtain ⟨N, M, h1, h2, h3, h4, h5⟩ := atTwo_a w m n
  exact ⟨M, N, h2, h1, h4, h3, h5⟩
def AlikeA (ns ms : List PNode) (w : World) (e : Ending) (w' : World) : Prop := ∃ r : Bool, e = .returned (.bool r) ∧ (r = true ↔ ns = ms) ∧ Below w.heap.size w w'
set_option maxHeartbeats 4000000 in
set_option maxRecDepth 100000 in
theorem salike_any {v u : Value} {ns ms : List PNode} {w : World} (h : NodesAt w v ns) (k : NodesAt w u ms) (hf : ∀ n ∈ ns, NodeFit n) (hg : ∀ n ∈ ms, NodeFit n) (hn : ns.length ≤ 1048576) :
    Calls Tryz.prog 85 #[.agg #[v], .agg #[u]] w fun e w' => AlikeA ns ms w e w' := by
  obtain ⟨a, ca, rfl, h1, h2, h3⟩ := h.slice
  obtain ⟨b, cb, rfl, k1, k2, k3⟩ := k.slice
  have HX := (show Hid _ from h3)
  have HY := (show Hid _ from k3)
  have HF := (show Hid (∀ n ∈ ns, NodeFit n) from hf)
  have HG := (show Hid (∀ n ∈ ms, NodeFit n) from hg)
  obtain ⟨w2, hw2⟩ : ∃ x, x = (w.alloc (.cells #[.slice a ns.length ca] 26)).alloc (.cells #[.slice b ms.length cb] 26) := ⟨_, rfl⟩
  have b2 : Below w.heap.size w w2 := by rw [hw2]; exact ((Below.refl _ w).alloc (Nat.le_refl _) _).alloc (by simp) _
  have gT : w2.heap[w.heap.size]? = some (.cells #[.slice a ns.length ca] 26 (0, 0)) := by rw [hw2, Below.heap_alloc _ _ _ (by simp)]; exact World.alloc_heap_new _ _
  have gU : w2.heap[w.heap.size + 1]? = some (.cells #[.slice b ms.length cb] 26 (0, 0)) := by
    rw [hw2]
    have := World.alloc_heap_new (w.alloc (.cells #[.slice a ns.length ca] 26)) (.cells #[.slice b ms.length cb] 26)
    rwa [World.size_alloc] at this
  have GT := (show Hid _ from gT)
  have GU := (show Hid _ from gU)
  have B2 := (show Hid (Below w.heap.size w w2) from b2)
  have HW2 := (show Hid _ from hw2)
  obtain ⟨cT, _⟩ := one_cell gT
  obtain ⟨cU, _⟩ := one_cell gU
  have lT := blk_lt gT
  have lU := blk_lt gU
  clear h3 k3 h k hf hg gT gU b2 hw2
  by_cases hl : ns.length = ms.length
  rotate_left
  · have HE : Hid (ns ≠ ms) := (show ns ≠ ms from fun e => absurd (congrArg List.length e) hl)
    have hli : ¬ (ns.length : Int) = (ms.length : Int) := by omega
    go_enter Tryz.func85, Tryz.ntmps85
    go_upto_region 1 with fail
    rw [← HW2.out]
    go_wp2
    go_ret
    exact ⟨false, rfl, ⟨fun e => (by cases e), fun e => absurd e HE.out⟩, B2.out⟩
  have HLn := (show Hid (ns.length = ms.length) from hl)
  rw [← hl] at cU ⊢
  rw [← hl] at k1
  clear hl
  go_enter Tryz.func85, Tryz.ntmps85
  go_upto_region 1 with fail
  rw [show (w.alloc (.cells #[.slice a ns.length ca] 26)).alloc (.cells #[.slice b ns.length cb] 26) = w2 from (by rw [HW2.out, HLn.out])]
  clear HW2
  go_wp2
  go_loopw [5] (fun i wr => ∃ k : Nat, k ≤ ns.length ∧ i = .int .i64 k ∧ Hid (ns.take k = ms.take k) ∧ Hid (Below w2.heap.size w2 wr)) (fun i _ => ns.length - (intOf i).toNat)
  case atStart => exact ⟨0, Nat.zero_le _, rfl, (show _ = _ by simp), Below.refl _ _⟩
  case round =>
    obtain ⟨k, hks, rfl, HT, HB⟩ := hrel
    have cTr := (HB.out.cell (p := ⟨w.heap.size, 0, none⟩) lT).trans cT
    have cUr := (HB.out.cell (p := ⟨w.heap.size + 1, 0, none⟩) lU).trans cU
    by_cases hlt : k < ns.length
    rotate_left
    · obtain rfl : k = ns.length := by omega
      have HE : Hid (ns = ms) := (show ns = ms from (by have := HT.out; rw [List.take_length, HLn.out, List.take_length] at this; exact this))
      go_wp2
      go_ret
      exact ⟨true, rfl, ⟨fun _ => HE.out, fun _ => rfl⟩, B2.out.trans (HB.out.mono B2.out.size)⟩
    have hlt2 : k < ms.length := by have := HLn.out; omega
    have BW := (show Hid (Below w.heap.size w wr) from B2.out.trans (HB.out.mono B2.out.size))
    obtain ⟨b1, o1, av, kv, rfl, hb1, c0, c1, c2, c3, c4, c5, hav, hkv⟩ := HX.out k hlt
    obtain ⟨b2, o2, av', kv', rfl, hb2, d0, d1, d2, d3, d4, d5, hav', hkv'⟩ := HY.out k hlt2
    replace c0 := (BW.out.cell (p := ⟨b1, o1 + k * 6, none⟩) hb1).trans c0
    replace c1 := (BW.out.cell (p := ⟨b1, o1 + k * 6 + 1, none⟩) hb1).trans c1
    replace c2 := (BW.out.cell (p := ⟨b1, o1 + k * 6 + 2, none⟩) hb1).trans c2
    replace c3 := (BW.out.cell (p := ⟨b1, o1 + k * 6 + 3, none⟩) hb1).trans c3
    replace c4 := (BW.out.cell (p := ⟨b1, o1 + k * 6 + 4, none⟩) hb1).trans c4
    replace c5 := (BW.out.cell (p := ⟨b1, o1 + k * 6 + 5, none⟩) hb1).trans c5
    replace d0 := (BW.out.cell (p := ⟨b2, o2 + k * 6, none⟩) hb2).trans d0
    replace d1 := (BW.out.cell (p := ⟨b2, o2 + k * 6 + 1, none⟩) hb2).trans d1
    replace d2 := (BW.out.cell (p := ⟨b2, o2 + k * 6 + 2, none⟩) hb2).trans d2
    replace d3 := (BW.out.cell (p := ⟨b2, o2 + k * 6 + 3, none⟩) hb2).trans d3
    replace d4 := (BW.out.cell (p := ⟨b2, o2 + k * 6 + 4, none⟩) hb2).trans d4
    replace d5 := (BW.out.cell (p := ⟨b2, o2 + k * 6 + 5, none⟩) hb2).trans d5
    have hbs := BW.out.size
    have hb1' : b1 < wr.heap.size := by omega
    have hb2' : b2 < wr.heap.size := by omega
    have HTE := (show Hid (ns[k] = ms[k] → ns.take (k + 1) = ms.take (k + 1)) from fun h => by rw [List.take_succ_eq_append_getElem hlt, List.take_succ_eq_append_getElem hlt2, HT.out, h])
    have HNE := (show Hid (ns[k] ≠ ms[k] → ns ≠ ms) from fun h e => h (by subst e; rfl))
    have HFn := HF.out _ (List.getElem_mem hlt)
    have HFm := HG.out _ (List.getElem_mem hlt2)
    obtain ⟨n, hnd⟩ : ∃ n, n = ns[k] := ⟨_, rfl⟩
    obtain ⟨m, hmd⟩ : ∃ m, m = ms[k] := ⟨_, rfl⟩
    rw [← hnd] at c0 c1 c3 c4 hav hkv HFn
    rw [← hmd] at d0 d1 d3 d4 hav' hkv' HFm
    rw [← hnd, ← hmd] at HTE HNE
    obtain ⟨y1, y3, rfl, ha1, ha2, ha3⟩ := hav.pair
    obtain ⟨z1, z3, rfl, hz1, hz2, hz3⟩ := hav'.pair
    obtain ⟨p1, p3, rfl, hp1, hp2, _, hp3⟩ := hkv
    obtain ⟨q1, q3, rfl, hq1, hq2, _, hq3⟩ := hkv'
    obtain ⟨nk, nn, na, nt, np, nks⟩ := n
    obtain ⟨mk, mn, ma, mt, mp, mks⟩ := m
    have hnaL := HFn.rs
    have hnkL := HFn.kl
    simp only at c0 c1 c2 c3 c4 c5 d0 d1 d2 d3 d4 d5 ha1 hz1 hp1 hq1 hnaL hnkL
    clear HFn HFm
    have A3 := (show Hid _ from ha3)
    have Z3 := (show Hid _ from hz3)
    have P3 := (show Hid _ from hp3)
    have Q3 := (show Hid _ from hq3)
    clear ha3 hz3 hp3 hq3 hnd hmd hav hav' cT cU
    have hki : (k : Int) < (ns.length : Int) := by omega
    have lUr : w.heap.size + 1 < wr.heap.size := Nat.lt_of_lt_of_le lU HB.out.size
    have lTr : w.heap.size < wr.heap.size := by omega
    clear lU lT
    go_upto_region 6 with fail
    go_cut [6, 7] from 24 to 33 (fun s6 s7 wx => AtTwo wr s6 s7 (#[.int .i64 nk, .string nn, .slice y1 na.length y3, .string nt, .int .i64 np, .slice p1 nks.length p3]) (#[.int .i64 mk, .string mn, .slice z1 ma.length z3, .string mt, .int .i64 mp, .slice q1 mks.length q3]) wx)
    case first =>
      go_region
      all_goals
        go_wp2_with fail
        go_meet
      all_goals with_reducible first
        | exact atTwo_a wr _ _
        | exact atTwo_b wr _ _
    case rest =>
      obtain ⟨N, M, rfl, rfl, gN, gM, b6⟩ := hcut
      obtain ⟨⟨n0, n1, n2, n3, n4, n5⟩, _⟩ := six_at gN
      obtain ⟨⟨m0, m1, m2, m3, m4, m5⟩, _⟩ := six_at gM
      have lN := blk_lt gN
      have lM := blk_lt gM
      have BC := (show Hid (Below w.heap.size w wc) from BW.out.trans (b6.mono BW.out.size))
      have B26 := (show Hid (Below w2.heap.size w2 wc) from HB.out.trans (b6.mono HB.out.size))
      have GN := (show Hid _ from gN)
      have GM := (show Hid _ from gM)
      clear gN gM b6 c0 c1 c2 c3 c4 c5 d0 d1 d2 d3 d4 d5 cTr cUr HB HT
      by_cases e0 : nk = mk
      rotate_left
      · have HE := (show Hid (ns ≠ ms) from HNE.out (fun e => e0 (by injection e)))
        go_wp2
        go_ret
        exact ⟨false, rfl, ⟨fun e => (by cases e), fun e => absurd e HE.out⟩, BC.out⟩
      subst e0
      by_cases e1 : nn = mn
      rotate_left
      · have HE := (show Hid (ns ≠ ms) from HNE.out (fun e => e1 (by injection e)))
        have e1b := toList_ne e1
        go_wp2
        go_ret
        exact ⟨false, rfl, ⟨fun e => (by cases e), fun e => absurd e HE.out⟩, BC.out⟩
      subst e1
      by_cases e2 : nt = mt
      rotate_left
      · have HE := (show Hid (ns ≠ ms) from HNE.out (fun e => e2 (by injection e)))
        have e2b := toList_ne e2
        go_wp2
        go_ret
        exact ⟨false, rfl, ⟨fun e => (by cases e), fun e => absurd e HE.out⟩, BC.out⟩
      subst e2
      by_cases e3 : np = mp
      rotate_left
      · have HE := (show Hid (ns ≠ ms) from HNE.out (fun e => e3 (by injection e)))
        go_wp2
        go_ret
        exact ⟨false, rfl, ⟨fun e => (by cases e), fun e => absurd e HE.out⟩, BC.out⟩
      subst e3
      by_cases e4 : na.length = ma.length
      rotate_left
      · have HE := (show Hid (ns ≠ ms) from HNE.out (fun e => e4 (by injection e with _ _ e; rw [e])))
        have e4i : ¬ (na.length : Int) = (ma.length : Int) := by omega
        go_wp2
        go_ret
        exact ⟨false, rfl, ⟨fun e => (by cases e), fun e => absurd e HE.out⟩, BC.out⟩
      by_cases e5 : nks.length = mks.length
      rotate_left
      · have HE := (show Hid (ns ≠ ms) from HNE.out (fun e => e5 (by injection e with _ _ _ _ _ e; rw [e])))
        have e5i : ¬ (nks.length : Int) = (mks.length : Int) := by omega
        rw [← e4] at m2
        clear e4
        go_wp2
        go_ret
        exact ⟨false, rfl, ⟨fun e => (by cases e), fun e => absurd e HE.out⟩, BC.out⟩
      have E4 := (show Hid (na.length = ma.length) from e4)
      have E5 := (show Hid (nks.length = mks.length) from e5)
      rw [← e4] at m2
      rw [← e5] at m5
      clear e4 e5
      have hne := attr_neq2
      have CA := (show Hid (∀ W, Below wc.heap.size wc W → (W.cell? ⟨N, 2, none⟩ = some (.slice y1 na.length y3) ∧ W.cell? ⟨N, 5, none⟩ = some (.slice p1 nks.length p3)) ∧ W.cell? ⟨M, 2, none⟩ = some (.slice z1 na.length z3) ∧ W.cell? ⟨M, 5, none⟩ = some (.slice q1 nks.length q3)) from fun W h => ⟨⟨(h.cell (p := ⟨N, 2, none⟩) lN).trans n2, (h.cell (p := ⟨N, 5, none⟩) lN).trans n5⟩, (h.cell (p := ⟨M, 2, none⟩) lM).trans m2, (h.cell (p := ⟨M, 5, none⟩) lM).trans m5⟩)
      go_upto_region 10 with fail
      go_loopw [8] (fun i wx => ∃ j : Nat, j ≤ na.length ∧ i = .int .i64 j ∧ Hid (na.take j = ma.take j ∧ Below wc.heap.size wc wx)) (fun i _ => na.length - (intOf i).toNat)
      case atStart => exact ⟨0, Nat.zero_le _, rfl, rfl, Below.refl _ _⟩
      case round =>
        obtain ⟨j, hj, rfl, JB⟩ := hrel
        obtain ⟨⟨nx2, nx5⟩, mx2, mx5⟩ := CA.out wr JB.out.2
        by_cases hjt : j < na.length
        · have hjm : j < ma.length := by have := E4.out; omega
          obtain ⟨bb1, oo1, rfl, l1, x1, x2⟩ := A3.out j hjt
          obtain ⟨bb2, oo2, rfl, l2, t1, t2⟩ := Z3.out j hjm
          have TN := (show Hid (na[j] ≠ ma[j] → na ≠ ma) from take_neA hjt hjm)
          have TE := (show Hid (na[j] = ma[j] → na.take (j + 1) = ma.take (j + 1)) from fun e => take_eqA hjt hjm e JB.out.1)
          obtain ⟨x, hx⟩ : ∃ x, x = na[j] := ⟨_, rfl⟩
          obtain ⟨y, hy⟩ : ∃ y, y = ma[j] := ⟨_, rfl⟩
          rw [← hx] at x1 x2 TN TE
          rw [← hy] at t1 t2 TN TE
          clear hx hy
          obtain ⟨xu, xb⟩ := x
          obtain ⟨yu, yb⟩ := y
          simp only at x1 x2 t1 t2
          have BX := (show Hid (Below w.heap.size w wr) from BC.out.trans (JB.out.2.mono BC.out.size))
          have BD := (show Hid (Below wr.heap.size wr wr.drew) from below_drewN 1)
          have SF := (show Hid (∀ W, Below wr.heap.size wr W → W.cell? ⟨bb1, oo1 + j * 2, none⟩ = some (.string xu) ∧ W.cell? ⟨bb1, oo1 + j * 2 + 1, none⟩ = some (.string xb) ∧ W.cell? ⟨bb2, oo2 + j * 2, none⟩ = some (.string yu) ∧ W.cell? ⟨bb2, oo2 + j * 2 + 1, none⟩ = some (.string yb) ∧ W.cell? ⟨N, 2, none⟩ = some (.slice (some ⟨bb1, oo1, none⟩) na.length y3) ∧ W.cell? ⟨M, 2, none⟩ = some (.slice (some ⟨bb2, oo2, none⟩) na.length z3)) from fun W h => by
            have h2 := BX.out.trans (h.mono BX.out.size)
            obtain ⟨⟨q1, _⟩, q2, _⟩ := CA.out W (JB.out.2.trans (h.mono JB.out.2.size))
            exact ⟨(h2.cell (p := ⟨bb1, oo1 + j * 2, none⟩) l1).trans x1, (h2.cell (p := ⟨bb1, oo1 + j * 2 + 1, none⟩) l1).trans x2, (h2.cell (p := ⟨bb2, oo2 + j * 2, none⟩) l2).trans t1, (h2.cell (p := ⟨bb2, oo2 + j * 2 + 1, none⟩) l2).trans t2, q1, q2⟩)
          clear x1 x2 t1 t2
          have hji : (j : Int) < (na.length : Int) := by omega
          have QD := (show Hid _ from SF.out _ BD.out)
          go_upto_region 12 with fail
          go_region_held3 (fun W => W.cell? ⟨bb1, oo1 + j * 2, none⟩ = some (.string xu) ∧ W.cell? ⟨bb1, oo1 + j * 2 + 1, none⟩ = some (.string xb) ∧ W.cell? ⟨bb2, oo2 + j * 2, none⟩ = some (.string yu) ∧ W.cell? ⟨bb2, oo2 + j * 2 + 1, none⟩ = some (.string yb) ∧ W.cell? ⟨N, 2, none⟩ = some (.slice (some ⟨bb1, oo1, none⟩) na.length y3) ∧ W.cell? ⟨M, 2, none⟩ = some (.slice (some ⟨bb2, oo2, none⟩) na.length z3)) (first | exact QD.out) (fail)
          have D4 := (show Hid (Below wc.heap.size wc wr.drew) from JB.out.2.trans (BD.out.mono JB.out.2.size))
          clear QD
          by_cases he : (xu, xb) = (yu, yb)
          · rw [show pairNeA xu xb yu yb = false by unfold pairNeA; rw [decide_eq_true he]; rfl]
            have HE := (show Hid _ from TE.out he)
            clear he
            go_wp2
            go_roundw
            case rel => exact ⟨j + 1, by omega, by go_num, HE.out, D4.out⟩
            case measure => simp [intOf]; omega
          · rw [show pairNeA xu xb yu yb = true by unfold pairNeA; rw [decide_eq_false he]; rfl]
            have HE := (show Hid (ns ≠ ms) from HNE.out (fun e => TN.out he (by injection e)))
            clear he
            go_wp2
            go_ret
            exact ⟨false, rfl, ⟨fun e => (by cases e), fun e => absurd e HE.out⟩, BC.out.trans (D4.out.mono BC.out.size)⟩
        · have e : na = ma := by
            have h1 := JB.out.1
            have hk' : j = na.length := by omega
            rw [hk', List.take_length, E4.out, List.take_length] at h1
            exact h1
          have EA := (show Hid (na = ma) from e)
          have JC := (show Hid (Below wc.heap.size wc wr) from JB.out.2)
          clear e hne JB
          go_upto_region 15 with fail
          go_loopw [9] (fun i wx => ∃ j : Nat, j ≤ nks.length ∧ i = .int .i64 j ∧ Hid (nks.take j = mks.take j ∧ Below wc.heap.size wc wx)) (fun i _ => nks.length - (intOf i).toNat)
          case atStart => exact ⟨0, Nat.zero_le _, rfl, rfl, JC.out⟩
          case round =>
            clear nx2 nx5 mx2 mx5 hj
            obtain ⟨j, hj, rfl, JB⟩ := hrel
            obtain ⟨⟨nx2, nx5⟩, mx2, mx5⟩ := CA.out wr JB.out.2
            by_cases hjt : j < nks.length
            · have hjm : j < mks.length := by have := E5.out; omega
              obtain ⟨bb1, oo1, rfl, x1⟩ := P3.out j hjt
              obtain ⟨bb2, oo2, rfl, t1⟩ := Q3.out j hjm
              have l1 := lt_of_cell6 x1
              have l2 := lt_of_cell6 t1
              rw [show nks.getD j 0 = nks[j] by simp [List.getD_eq_getElem?_getD, hjt]] at x1
              rw [show mks.getD j 0 = mks[j] by simp [List.getD_eq_getElem?_getD, hjm]] at t1
              have BX := (show Hid (Below w.heap.size w wr) from BC.out.trans (JB.out.2.mono BC.out.size))
              have BD := (show Hid (Below wr.heap.size wr wr.drew) from below_drewN 1)
              have D4 := (show Hid (Below wc.heap.size wc wr.drew) from JB.out.2.trans (BD.out.mono JB.out.2.size))
              have hji : (j : Int) < (nks.length : Int) := by omega
              have TE := (show Hid (nks[j] = mks[j] → nks.take (j + 1) = mks.take (j + 1)) from fun e => by rw [List.take_succ_eq_append_getElem hjt, List.take_succ_eq_append_getElem hjm, JB.out.1, e])
              have TN := (show Hid (nks[j] ≠ mks[j] → nks ≠ mks) from fun h e => h (by subst e; rfl))
              obtain ⟨x, hx⟩ : ∃ x, x = nks[j] := ⟨_, rfl⟩
              obtain ⟨y, hy⟩ : ∃ y, y = mks[j] := ⟨_, rfl⟩
              rw [← hx] at x1 TE TN
              rw [← hy] at t1 TE TN
              clear hx hy
              have SF := (show Hid (∀ W, Below wr.heap.size wr W → W.cell? ⟨bb1, oo1 + j, none⟩ = some (.int .i64 x) ∧ W.cell? ⟨bb2, oo2 + j, none⟩ = some (.int .i64 y) ∧ W.cell? ⟨N, 5, none⟩ = some (.slice (some ⟨bb1, oo1, none⟩) nks.length p3) ∧ W.cell? ⟨M, 5, none⟩ = some (.slice (some ⟨bb2, oo2, none⟩) nks.length q3)) from fun W h => by
                have h2 := BX.out.trans (h.mono BX.out.size)
                obtain ⟨⟨_, q1⟩, _, q2⟩ := CA.out W (JB.out.2.trans (h.mono JB.out.2.size))
                exact ⟨(h2.cell (p := ⟨bb1, oo1 + j, none⟩) l1).trans x1, (h2.cell (p := ⟨bb2, oo2 + j, none⟩) l2).trans t1, q1, q2⟩)
              clear x1 t1
              have QD := (show Hid _ from SF.out _ BD.out)
              go_upto_region 17 with fail
              go_region_held3 (fun W => W.cell? ⟨bb1, oo1 + j, none⟩ = some (.int .i64 x) ∧ W.cell? ⟨bb2, oo2 + j, none⟩ = some (.int .i64 y) ∧ W.cell? ⟨N, 5, none⟩ = some (.slice (some ⟨bb1, oo1, none⟩) nks.length p3) ∧ W.cell? ⟨M, 5, none⟩ = some (.slice (some ⟨bb2, oo2, none⟩) nks.length q3)) (first | exact QD.out) (fail)
              clear QD
              by_cases he : x = y
              · have HE := (show Hid _ from TE.out he)
                subst he
                go_wp2
                go_roundw
                case rel => exact ⟨j + 1, by omega, by go_num, HE.out, D4.out⟩
                case measure => simp [intOf]; omega
              · have HE := (show Hid (ns ≠ ms) from HNE.out (fun e => TN.out he (by injection e)))
                go_wp2
                go_ret
                exact ⟨false, rfl, ⟨fun e => (by cases e), fun e => absurd e HE.out⟩, BC.out.trans (D4.out.mono BC.out.size)⟩
            · have e : nks = mks := by
                have h1 := JB.out.1
                have hk' : j = nks.length := by omega
                rw [hk', List.take_length, E5.out, List.take_length] at h1
                exact h1
              have HE := (show Hid (ns.take (k + 1) = ms.take (k + 1)) from HTE.out (by rw [EA.out, e]))
              have D4 := (show Hid (Below w2.heap.size w2 wr) from B26.out.trans (JB.out.2.mono B26.out.size))
              clear e
              go_wp2
              go_roundw
              case rel => exact ⟨k + 1, by omega, by go_num, HE.out, D4.out⟩
              case measure => simp [intOf]; omega
end Go.Proofs.YtogdbjafibejdaaGreat

/- The specification's TreeTidy. No condition. -/
namespace Go.Proofs.YtogdbjafibejdaaGreat
open Go.RowKit
set_option maxRecDepth 100000
set_option linter.unusedVariables false
end Go.Proofs.YtogdbjafibejdaaGreat

/- The specification's l7Find, l7Put: a name in a list, a name put behind a list. No condition. -/
namespace Go.Proofs.YtogdbjafibejdaaGreat
open Go.RowKit
set_option maxRecDepth 100000
set_option linter.unusedVariables false

def OwnS (B : Nat) (w : World) (v : Value) (ss : List ByteArray) : Prop := w.ownsRow B 9 1 v ss.length (ss.map Value.string)
theorem OwnS.below {B : Nat} {w w' : World} {v : Value} {ss : List ByteArray} (h : OwnS B w v ss) (hb : Below w.heap.size w w') : OwnS B w' v ss := ownsRow_below h hb
theorem OwnS.sv {B : Nat} {w : World} {v : Value} {ss : List ByteArray} (h : OwnS B w v ss) : Sv 1 w v (ss.map Value.string) := sv_of_own h
def fndS : List ByteArray → ByteArray → Int
  | [], _ => -1
  | x :: l, s => if x = s then 0 else if fndS l s < 0 then -1 else fndS l s + 1
theorem fndS_at : ∀ (l r : List ByteArray) (s : ByteArray), s ∉ l → fndS (l ++ s :: r) s = l.length
  | [], r, s, _ => by simp [fndS]
  | x :: l, r, s, h => by
    have h1 : x ≠ s := fun e => h (by rw [e]; simp)
    have h2 := fndS_at l r s (fun e => h (by simp [e]))
    rw [List.cons_append, fndS, if_neg h1, h2, if_neg (by omega), List.length_cons]
    omega
theorem fndS_none : ∀ (l : List ByteArray) (s : ByteArray), s ∉ l → fndS l s = -1
  | [], s, _ => rfl
  | x :: l, s, h => by
    have h1 : x ≠ s := fun e => h (by rw [e]; simp)
    have h2 := fndS_none l s (fun e => h (by simp [e]))
    rw [fndS, if_neg h1, h2, if_pos (by omega)]
theorem str_cell {w : World} {a : Option Addr} {n c : Nat} {ss : List ByteArray} (h : Sv 1 w (.slice a n c) (ss.map Value.string)) : n = ss.length ∧ ∀ k (hk : k < ss.length), ∃ b o, a = some ⟨b, o, none⟩ ∧ b < w.heap.size ∧ w.cell? ⟨b, o + k, none⟩ = some (.string ss[k]) := by
  obtain ⟨ao, len, cap, e, hl, hlc, hcm, hnone, hc⟩ := h
  cases e
  rw [List.length_map, Nat.mul_one] at hl
  refine ⟨hl.symm, fun k hk => ?_⟩
  obtain ⟨b, o, e, c⟩ := hc k (by simpa using hk)
  rw [List.getD_eq_getElem?_getD, List.getElem?_map, List.getElem?_eq_getElem hk] at c
  exact ⟨b, o, e, lt_of_cell6 c, c⟩

set_option maxRecDepth 100000 in
theorem sfindS_any {w : World} {v : Value} {ss : List ByteArray} (h : Sv 1 w v (ss.map Value.string)) (hn : ss.length ≤ 1000000000000) (s : ByteArray) :
    Calls Tryz.prog 90 #[v, .string s] w fun e w' => e = .returned (.int .i64 (fndS ss s)) ∧ w' = w := by
  have h' := h
  obtain ⟨a, n, c, rfl, _⟩ := h'
  obtain ⟨rfl, hc⟩ := str_cell h
  have HC := (show Hid _ from hc)
  clear h hc
  go_enter Tryz.func90, Tryz.ntmps90
  go_wp2
  go_loop [5] (fun i => ∃ k : Nat, k ≤ ss.length ∧ i = .int .i64 k ∧ Hid (s ∉ ss.take k)) (fun i => ss.length - (intOf i).toNat)
  case atStart => exact ⟨0, Nat.zero_le _, rfl, (show s ∉ ss.take 0 by simp)⟩
  case round =>
    obtain ⟨k, hk, rfl, HT⟩ := hrel
    by_cases hlt : k < ss.length
    · obtain ⟨b, o, rfl, hb, x⟩ := HC.out k hlt
      have hki : (k : Int) < (ss.length : Int) := by omega
      by_cases he : ss[k] = s
      · have HE := (show Hid (fndS ss s = k) from (by
          have h1 : ss = ss.take k ++ s :: ss.drop (k + 1) := by rw [← he]; simp
          have h2 := fndS_at (ss.take k) (ss.drop (k + 1)) s HT.out
          rw [← h1, List.length_take] at h2
          rw [h2]; congr 1; omega : fndS ss s = k))
        rw [he] at x
        clear he
        go_wp2
        go_ret
        exact ⟨by rw [HE.out]; rfl, rfl⟩
      · have HN := (show Hid (s ∉ ss.take (k + 1)) from (by
          rw [List.take_succ_eq_append_getElem hlt]
          intro hm
          rcases List.mem_append.mp hm with hm | hm
          · exact HT.out hm
          · simp at hm; exact he hm.symm : s ∉ ss.take (k + 1)))
        obtain ⟨y, hy⟩ : ∃ y, y = ss[k] := ⟨_, rfl⟩
        rw [← hy] at x he
        have heb := toList_ne he
        clear hy
        go_wp2
        go_round
        case rel => exact ⟨k + 1, by omega, by go_num, HN.out⟩
        case measure => simp [intOf]; omega
    · obtain rfl : k = ss.length := by omega
      have HE := (show Hid (fndS ss s = -1) from fndS_none ss s (by have := HT.out; rwa [List.take_length] at this))
      go_wp2
      go_ret
      exact ⟨by rw [HE.out]; rfl, rfl⟩

def putS (ss : List ByteArray) (s : ByteArray) : List ByteArray := if fndS ss s < 0 then ss ++ [s] else ss
theorem Tryz.infoStrZ : (Tryz.prog.info? 9).map (fun i => (i.zero, i.size, i.bytes)) = some (some (.string ⟨#[]⟩), 1, 16) := by kernel_rfl
theorem fndS_neg {l : List ByteArray} {s : ByteArray} (h : s ∈ l) : 0 ≤ fndS l s := by
  induction l with
  | nil => cases h
  | cons x l ih =>
    rw [fndS]
    by_cases e : x = s
    · rw [if_pos e]; omega
    · have h2 := ih (by rcases List.mem_cons.mp h with h | h; exact absurd h.symm e; exact h)
      rw [if_neg e, if_neg (by omega)]
      omega

set_option maxRecDepth 100000 in
theorem sputS_any {B : Nat} {w : World} {v : Value} {ss : List ByteArray} (h : OwnS B w v ss) (hB : B ≤ w.heap.size) (hn : ss.length ≤ 1000000000000) (s : ByteArray) :
    Calls Tryz.prog 133 #[v, .string s] w fun e w' => ∃ u, e = .returned u ∧ OwnS B w' u (putS ss s) ∧ w.grownBy w' v.ownBlock := by
  obtain ⟨i0, hi, hz0, hz1, hz2⟩ := info_parts Tryz.infoStrZ
  obtain ⟨a, n, c, rfl⟩ := own_slice h
  have HO := (show Hid (OwnS B w (.slice a n c) ss) from h)
  have C := (show Hid _ from sfindS_any h.sv (by omega) s)
  have hb1 : Below w.heap.size w (w.alloc (.cells #[.string s] 9)) := (Below.refl _ w).alloc (Nat.le_refl _) _
  have H1 := (show Hid (OwnS B (w.alloc (.cells #[.string s] 9)) (.slice a n c) ss) from h.below hb1)
  have S1 := (show Hid (Sv 1 (w.alloc (.cells #[.string s] 9)) (.slice (some ⟨w.heap.size, 0, none⟩) 1 1) [.string s]) from by
    refine ⟨_, 1, 1, rfl, rfl, Nat.le_refl _, by unfold maxLen; omega, (fun e => (by cases e)), fun j hj => ?_⟩
    have : j = 0 := by simp at hj; omega
    subst this
    exact ⟨w.heap.size, 0, rfl, by simp only [World.cell?, World.alloc_heap_new]; rfl⟩)
  clear h hb1
  by_cases hm : s ∈ ss
  · have hp := fndS_neg hm
    have HP := (show Hid (putS ss s = ss) from if_neg (by omega))
    obtain ⟨x, hx⟩ : ∃ x, x = fndS ss s := ⟨_, rfl⟩
    rw [← hx] at C hp
    clear hx hm
    go_enter Tryz.func133, Tryz.ntmps133
    go_wp2_with fail
    go_at_call 90
    refine Calls.mono C.out ?_
    rintro e w1 ⟨rfl, rfl⟩
    clear C
    go_wp2
    go_ret
    exact ⟨_, rfl, by rw [HP.out]; exact HO.out, ⟨rfl, rfl, rfl, Nat.le_refl _, fun _ _ _ => rfl⟩⟩
  · have HP := (show Hid (putS ss s = ss ++ [s]) from if_pos (by rw [fndS_none ss s hm]; omega))
    rw [fndS_none ss s hm] at C
    clear hm
    go_enter Tryz.func133, Tryz.ntmps133
    go_wp2_with fail
    go_at_call 90
    refine Calls.mono C.out ?_
    rintro e w1 ⟨rfl, rfl⟩
    clear C
    go_wp2_with (first
      | (at_builtin
         refine wpList_appV _ rfl (.tmp 10) (.tmp 12) 82 rfl B 9 i0 _ 1 16 Tryz.underlying82 hi hz0 hz1 hz2 rfl (by decide) (.slice a n c) _ ss.length 1 (ss.map Value.string) [.string s] rfl rfl H1.out S1.out rfl (fun y hy => by simp at hy; subst hy; rfl) (by omega) (by unfold maxLen; omega) (by rw [World.size_alloc]; omega) ?_
         intro v9 w9 o9 g9
         have R := (show Hid (OwnS B w9 v9 (ss ++ [s]) ∧ w1.grownBy w9 (Value.ownBlock (.slice a n c))) from ⟨(by unfold OwnS; rw [List.length_append, List.map_append]; exact o9), grown_trans (World.grownBy_alloc _ _ _) g9⟩)
         clear o9 g9)
      | fail)
    go_ret
    exact ⟨_, rfl, by rw [HP.out]; exact R.out.1, R.out.2⟩
end Go.Proofs.YtogdbjafibejdaaGreat

/- The specification's l7Names: all names of a tree, each once. No condition. -/
namespace Go.Proofs.YtogdbjafibejdaaGreat
open Go.RowKit
set_option maxRecDepth 100000
set_option linter.unusedVariables false

def namesA (out : List ByteArray) (rs : List (ByteArray × ByteArray)) : List ByteArray := rs.foldl (fun o r => putS o r.1) out
def hasName (n : PNode) : Bool := decide (n.kind = 3) || decide (n.kind = 2)
def namesN (out : List ByteArray) (n : PNode) : List ByteArray := namesA (if hasName n then putS out n.name else out) n.attrs
def namesL (ns : List PNode) : List ByteArray := ns.foldl namesN []
theorem putS_le (l : List ByteArray) (s : ByteArray) : (putS l s).length ≤ l.length + 1 := by
  unfold putS; split <;> simp
theorem namesA_le : ∀ (rs : List (ByteArray × ByteArray)) (out : List ByteArray), (namesA out rs).length ≤ out.length + rs.length
  | [], out => by simp [namesA]
  | r :: rs, out => by
    have h := namesA_le rs (putS out r.1)
    have h2 := putS_le out r.1
    simp only [namesA, List.foldl_cons, List.length_cons] at h ⊢
    omega
theorem namesN_le (out : List ByteArray) (n : PNode) : (namesN out n).length ≤ out.length + 1 + n.attrs.length := by
  unfold namesN
  have h := namesA_le n.attrs (if hasName n then putS out n.name else out)
  have h2 := putS_le out n.name
  split at h <;> simp_all <;> omega
theorem namesL_snoc (ns : List PNode) (n : PNode) : namesL (ns ++ [n]) = namesN (namesL ns) n := by simp [namesL]
theorem namesF_le : ∀ (ns : List PNode) (out : List ByteArray), (∀ n ∈ ns, NodeFit n) → (ns.foldl namesN out).length ≤ out.length + ns.length * 1048577
  | [], out, _ => by simp
  | x :: ns, out, hf => by
    have h1 := namesF_le ns (namesN out x) (fun n hn => hf n (by simp [hn]))
    have h2 := namesN_le out x
    have h3 := (hf x (by simp)).rs
    rw [List.foldl_cons, List.length_cons, Nat.add_mul]
    omega
theorem namesL_le (ns : List PNode) (hf : ∀ n ∈ ns, NodeFit n) (hn : ns.length ≤ 500) : (namesL ns).length ≤ 524288500 := by
  have h := namesF_le ns [] hf
  rw [List.length_nil, Nat.zero_add] at h
  unfold namesL
  omega
theorem namesA_snoc (out : List ByteArray) (rs : List (ByteArray × ByteArray)) (r : ByteArray × ByteArray) : namesA out (rs ++ [r]) = putS (namesA out rs) r.1 := by simp [namesA]

def NamW (w : World) (v : Value) (out : List ByteArray) (T : Value) (P : Nat) (row : Array Value) (W : World) : Prop :=
  OwnS w.heap.size W v out ∧ Below w.heap.size w W ∧ W.heap[w.heap.size]? = some (.cells #[T] 26 (0, 0)) ∧ W.heap[P]? = some (.cells row 36 (0, 0)) ∧ w.heap.size ≤ P
theorem NamW.put {w : World} {v u : Value} {out o2 : List ByteArray} {T : Value} {P : Nat} {row : Array Value} {W W' : World} (h : NamW w v out T P row W) (o : OwnS w.heap.size W' u o2) (g : W.grownBy W' v.ownBlock) : NamW w u o2 T P row W' := by
  obtain ⟨h1, h2, h3, h4, h5⟩ := h
  have ty : ∀ r, v.ownBlock = some r → ∃ cs fr, W.heap[r]? = some (.cells cs 9 fr) := fun r hr => by
    rcases h1.2 with ⟨e, _⟩ | ⟨g', cap', cur, e, _, hh, _⟩
    · rw [e] at hr; cases hr
    · rw [e] at hr; cases hr; exact ⟨_, _, hh⟩
  have key : ∀ {j : Nat} {cs : Array Value} {t : TypeId}, W.heap[j]? = some (.cells cs t (0, 0)) → t ≠ 9 → W'.heap[j]? = some (.cells cs t (0, 0)) := fun {j cs t} hj ht =>
    (g.block j (blk_lt hj) (fun e => by obtain ⟨cs2, fr2, hh⟩ := ty j e.symm; rw [hj] at hh; cases hh; exact ht rfl)).trans hj
  exact ⟨o, h2.grown g h2.size (fun r e => (World.ownsRow.lt h1 r e).1), key h3 (by decide), key h4 (by decide), h5⟩

set_option maxHeartbeats 4000000 in
set_option maxRecDepth 100000 in
theorem snames_any {w : World} {v : Value} {ns : List PNode} (hn : NodesAt w v ns) (hfit : ∀ n ∈ ns, NodeFit n) (hlen : ns.length ≤ 500) :
    Calls Tryz.prog 87 #[.agg #[v]] w fun e w' => ∃ u, e = .returned u ∧ OwnS w.heap.size w' u (namesL ns) ∧ Below w.heap.size w w' := by
  obtain ⟨a, ca, rfl, h1, h2, h3⟩ := hn.slice
  have HX := (show Hid _ from h3)
  have HF := (show Hid (∀ n ∈ ns, NodeFit n) from hfit)
  obtain ⟨w2, hw2⟩ : ∃ x, x = (w.alloc (.cells #[.slice a ns.length ca] 26)).alloc (.cells #[] 9) := ⟨_, rfl⟩
  have b2 : Below w.heap.size w w2 := by rw [hw2]; exact ((Below.refl _ w).alloc (Nat.le_refl _) _).alloc (by simp) _
  have gT : w2.heap[w.heap.size]? = some (.cells #[.slice a ns.length ca] 26 (0, 0)) := by rw [hw2, Below.heap_alloc _ _ _ (by simp)]; exact World.alloc_heap_new _ _
  have o2 : OwnS w.heap.size w2 (.slice (some ⟨w.heap.size + 1, 0, none⟩) 0 0) (namesL (ns.take 0)) := by
    have := empty_row (w.alloc (.cells #[.slice a ns.length ca] 26)) w.heap.size 9 1 (by simp)
    rw [World.size_alloc, ← hw2] at this
    exact this
  have O2 := (show Hid _ from o2)
  have GT := (show Hid _ from gT)
  have B2 := (show Hid _ from b2)
  clear h3 hn hfit b2 gT o2
  go_enter Tryz.func87, Tryz.ntmps87
  go_wp2
  rw [← hw2]
  clear hw2
  go_loopw [3, 4] (fun o i wr => ∃ (k : Nat) (x : Option Addr) (y z : Nat), k ≤ ns.length ∧ i = .int .i64 k ∧ o = .slice x y z ∧ Hid (OwnS w.heap.size wr (.slice x y z) (namesL (ns.take k)) ∧ Below w.heap.size w wr ∧ wr.heap[w.heap.size]? = some (.cells #[.slice a ns.length ca] 26 (0, 0)))) (fun _ i _ => ns.length - (intOf i).toNat)
  case atStart => exact ⟨0, _, _, _, Nat.zero_le _, rfl, rfl, O2.out, B2.out, GT.out⟩
  case round =>
    obtain ⟨k, x, y, z, hk, rfl, rfl, R⟩ := hrel
    obtain ⟨cT, _⟩ := one_cell R.out.2.2
    have lT := blk_lt R.out.2.2
    by_cases hlt : k < ns.length
    rotate_left
    · obtain rfl : k = ns.length := by omega
      have HE := (show Hid (OwnS w.heap.size wr (.slice x y z) (namesL ns)) from by have := R.out.1; rwa [List.take_length] at this)
      go_wp2
      go_ret
      exact ⟨_, rfl, HE.out, R.out.2.1⟩
    obtain ⟨b1, o1, av, kv, rfl, hb1, c0, c1, c2, c3, c4, c5, hav, hkv⟩ := HX.out k hlt
    have BW := R.out.2.1
    replace c0 := (BW.cell (p := ⟨b1, o1 + k * 6, none⟩) hb1).trans c0
    replace c1 := (BW.cell (p := ⟨b1, o1 + k * 6 + 1, none⟩) hb1).trans c1
    replace c2 := (BW.cell (p := ⟨b1, o1 + k * 6 + 2, none⟩) hb1).trans c2
    replace c3 := (BW.cell (p := ⟨b1, o1 + k * 6 + 3, none⟩) hb1).trans c3
    replace c4 := (BW.cell (p := ⟨b1, o1 + k * 6 + 4, none⟩) hb1).trans c4
    replace c5 := (BW.cell (p := ⟨b1, o1 + k * 6 + 5, none⟩) hb1).trans c5
    have hb1' : b1 < wr.heap.size := Nat.lt_of_lt_of_le hb1 BW.size
    have HT := (show Hid (namesL (ns.take (k + 1)) = namesN (namesL (ns.take k)) ns[k]) from (by rw [List.take_succ_eq_append_getElem hlt, namesL_snoc] : namesL (ns.take (k + 1)) = namesN (namesL (ns.take k)) ns[k]))
    have hle : (namesL (ns.take k)).length ≤ 524288500 := namesL_le (ns.take k) (fun n hn => HF.out n (List.mem_of_mem_take hn)) (by rw [List.length_take]; omega)
    have hrs := (HF.out _ (List.getElem_mem hlt)).rs
    obtain ⟨n, hnd⟩ : ∃ n, n = ns[k] := ⟨_, rfl⟩
    obtain ⟨out, hout⟩ : ∃ out, out = namesL (ns.take k) := ⟨_, rfl⟩
    rw [← hnd] at c0 c1 c3 c4 hav hkv hrs HT
    rw [← hout] at hle HT R
    obtain ⟨y1, y3, rfl, ha1, ha2, ha3⟩ := hav.pair
    obtain ⟨p1, p3, rfl, hp1, hp2, _, _⟩ := hkv
    obtain ⟨nk, nn, na, nt, np, nks⟩ := n
    simp only at c0 c1 c2 c3 c4 c5 hrs ha1
    have A3 := (show Hid _ from ha3)
    have hki : (k : Int) < (ns.length : Int) := by omega
    clear ha3 hnd hout hav BW
    go_upto_region 6 with fail
    obtain ⟨w6, hw6⟩ : ∃ q, q = wr.alloc (.cells #[.int .i64 nk, .string nn, .slice y1 na.length y3, .string nt, .int .i64 np, .slice p1 nks.length p3] 36) := ⟨_, rfl⟩
    rw [← hw6]
    have b6 : Below wr.heap.size wr w6 := by rw [hw6]; exact (Below.refl _ _).alloc (Nat.le_refl _) _
    have g6 : w6.heap[wr.heap.size]? = some (.cells #[.int .i64 nk, .string nn, .slice y1 na.length y3, .string nt, .int .i64 np, .slice p1 nks.length p3] 36 (0, 0)) := by rw [hw6]; exact World.alloc_heap_new _ _
    have N6 := (show Hid (NamW w (.slice x y z) out (.slice (some ⟨b1, o1, none⟩) ns.length ca) wr.heap.size #[.int .i64 nk, .string nn, .slice y1 na.length y3, .string nt, .int .i64 np, .slice p1 nks.length p3] w6) from ⟨R.out.1.below b6, R.out.2.1.trans (b6.mono R.out.2.1.size), (b6.block _ lT).trans R.out.2.2, g6, R.out.2.1.size⟩)
    obtain ⟨⟨n0, n1, n2, n3, n4, n5⟩, _⟩ := six_at g6
    have hB6 : w.heap.size ≤ w6.heap.size := N6.out.2.1.size
    obtain ⟨P, hP⟩ : ∃ P, P = wr.heap.size := ⟨_, rfl⟩
    rw [← hP] at n0 n1 n2 n3 n4 n5 N6 ⊢
    clear hw6 b6 g6 hP R cT lT c0 c1 c2 c3 c4 c5 hb1'
    by_cases e3 : nk = 3
    · subst e3
      go_wp2_with fail
      go_at_call 133
      refine Calls.mono (sputS_any N6.out.1 hB6 (by omega) nn) ?_
      rintro e w7 ⟨u, rfl, o7, g7⟩
      have N7 := (show Hid _ from N6.out.put o7 g7)
      obtain ⟨ua, un, uc, rfl⟩ := own_slice o7
      obtain ⟨⟨n0, n1, n2, n3, n4, n5⟩, _⟩ := six_at N7.out.2.2.2.1
      have hlP := blk_lt N7.out.2.2.2.1
      clear o7 g7
      have HOL := (show Hid ((putS out nn : List ByteArray).length ≤ 524288501) from (by have := putS_le out nn; omega : (putS out nn : List ByteArray).length ≤ 524288501))
      have HEN := (show Hid (namesN out ⟨3, nn, na, nt, np, nks⟩ = namesA (putS out nn) na) from (by simp [namesN, hasName] : namesN out ⟨3, nn, na, nt, np, nks⟩ = namesA (putS out nn) na))
      go_upto_region 9 with fail
      go_loopw [3, 6] (fun o i wx => ∃ (j : Nat) (x : Option Addr) (y z : Nat), j ≤ na.length ∧ i = .int .i64 j ∧ o = .slice x y z ∧ Hid (NamW w (.slice x y z) (namesA (putS out nn) (na.take j)) (.slice (some ⟨b1, o1, none⟩) ns.length ca) P #[.int .i64 3, .string nn, .slice y1 na.length y3, .string nt, .int .i64 np, .slice p1 nks.length p3] wx)) (fun _ i _ => na.length - (intOf i).toNat)
      case atStart => exact ⟨0, _, _, _, Nat.zero_le _, rfl, rfl, N7.out⟩
      case round =>
        clear n0 n1 n2 n3 n4 n5 N6
        obtain ⟨j, x', y', z', hj, rfl, rfl, J⟩ := hrel
        obtain ⟨⟨m0, m1, m2, m3, m4, m5⟩, _⟩ := six_at J.out.2.2.2.1
        have lP := blk_lt J.out.2.2.2.1
        have hBj : w.heap.size ≤ wr.heap.size := J.out.2.1.size
        by_cases hjt : j < na.length
        · obtain ⟨bb, oo, rfl, l1, t1, t2⟩ := A3.out j hjt
          have t3 := (J.out.2.1.cell (p := ⟨bb, oo + j * 2, none⟩) l1).trans t1
          have HTJ := (show Hid (namesA (putS out nn) (na.take (j + 1)) = putS (namesA (putS out nn) (na.take j)) na[j].1) from (by rw [List.take_succ_eq_append_getElem hjt, namesA_snoc] : namesA (putS out nn) (na.take (j + 1)) = putS (namesA (putS out nn) (na.take j)) na[j].1))
          have hlj : (namesA (putS out nn) (na.take j)).length ≤ 1000000000000 := by
            have h := namesA_le (na.take j) (putS out nn)
            rw [List.length_take] at h
            have h2 := HOL.out
            omega
          obtain ⟨s, hs⟩ : ∃ s, s = na[j].1 := ⟨_, rfl⟩
          rw [← hs] at t3 HTJ
          have HLJ := (show Hid _ from hlj)
          have hji : (j : Int) < (na.length : Int) := by omega
          have lbb : bb < wr.heap.size := Nat.lt_of_lt_of_le l1 hBj
          clear hs t1 t2 hlj
          go_wp2_with fail
          go_at_call 133
          refine Calls.mono (sputS_any J.out.1 hBj HLJ.out s) ?_
          rintro e w8 ⟨u, rfl, o8, g8⟩
          have N8 := (show Hid _ from J.out.put o8 g8)
          obtain ⟨ua, un, uc, rfl⟩ := own_slice o8
          clear o8 g8
          go_wp2
          go_roundw
          case rel => exact ⟨j + 1, _, _, _, by omega, by go_num, rfl, by rw [HTJ.out]; exact N8.out⟩
          case measure => simp [intOf]; omega
        · obtain rfl : j = na.length := by omega
          have HE := (show Hid (OwnS w.heap.size wr (.slice x' y' z') (namesL (ns.take (k + 1))) ∧ Below w.heap.size w wr ∧ wr.heap[w.heap.size]? = some (.cells #[(.slice (some ⟨b1, o1, none⟩) ns.length ca)] 26 (0, 0))) from (by
            have h := J.out
            rw [List.take_length] at h
            rw [HT.out, HEN.out]
            exact ⟨h.1, h.2.1, h.2.2.1⟩ : OwnS w.heap.size wr (.slice x' y' z') (namesL (ns.take (k + 1))) ∧ Below w.heap.size w wr ∧ wr.heap[w.heap.size]? = some (.cells #[(.slice (some ⟨b1, o1, none⟩) ns.length ca)] 26 (0, 0))))
          go_wp2
          go_roundw
          case rel => exact ⟨k + 1, _, _, _, by omega, by go_num, rfl, HE.out⟩
          case measure => simp [intOf]; omega
    by_cases e2 : nk = 2
    · subst e2
      go_wp2_with fail
      go_at_call 133
      refine Calls.mono (sputS_any N6.out.1 hB6 (by omega) nn) ?_
      rintro e w7 ⟨u, rfl, o7, g7⟩
      have N7 := (show Hid _ from N6.out.put o7 g7)
      obtain ⟨ua, un, uc, rfl⟩ := own_slice o7
      obtain ⟨⟨n0, n1, n2, n3, n4, n5⟩, _⟩ := six_at N7.out.2.2.2.1
      have hlP := blk_lt N7.out.2.2.2.1
      clear o7 g7
      have HOL := (show Hid ((putS out nn : List ByteArray).length ≤ 524288501) from (by have := putS_le out nn; omega : (putS out nn : List ByteArray).length ≤ 524288501))
      have HEN := (show Hid (namesN out ⟨2, nn, na, nt, np, nks⟩ = namesA (putS out nn) na) from (by simp [namesN, hasName] : namesN out ⟨2, nn, na, nt, np, nks⟩ = namesA (putS out nn) na))
      go_upto_region 9 with fail
      go_loopw [3, 6] (fun o i wx => ∃ (j : Nat) (x : Option Addr) (y z : Nat), j ≤ na.length ∧ i = .int .i64 j ∧ o = .slice x y z ∧ Hid (NamW w (.slice x y z) (namesA (putS out nn) (na.take j)) (.slice (some ⟨b1, o1, none⟩) ns.length ca) P #[.int .i64 2, .string nn, .slice y1 na.length y3, .string nt, .int .i64 np, .slice p1 nks.length p3] wx)) (fun _ i _ => na.length - (intOf i).toNat)
      case atStart => exact ⟨0, _, _, _, Nat.zero_le _, rfl, rfl, N7.out⟩
      case round =>
        clear n0 n1 n2 n3 n4 n5 N6
        obtain ⟨j, x', y', z', hj, rfl, rfl, J⟩ := hrel
        obtain ⟨⟨m0, m1, m2, m3, m4, m5⟩, _⟩ := six_at J.out.2.2.2.1
        have lP := blk_lt J.out.2.2.2.1
        have hBj : w.heap.size ≤ wr.heap.size := J.out.2.1.size
        by_cases hjt : j < na.length
        · obtain ⟨bb, oo, rfl, l1, t1, t2⟩ := A3.out j hjt
          have t3 := (J.out.2.1.cell (p := ⟨bb, oo + j * 2, none⟩) l1).trans t1
          have HTJ := (show Hid (namesA (putS out nn) (na.take (j + 1)) = putS (namesA (putS out nn) (na.take j)) na[j].1) from (by rw [List.take_succ_eq_append_getElem hjt, namesA_snoc] : namesA (putS out nn) (na.take (j + 1)) = putS (namesA (putS out nn) (na.take j)) na[j].1))
          have hlj : (namesA (putS out nn) (na.take j)).length ≤ 1000000000000 := by
            have h := namesA_le (na.take j) (putS out nn)
            rw [List.length_take] at h
            have h2 := HOL.out
            omega
          obtain ⟨s, hs⟩ : ∃ s, s = na[j].1 := ⟨_, rfl⟩
          rw [← hs] at t3 HTJ
          have HLJ := (show Hid _ from hlj)
          have hji : (j : Int) < (na.length : Int) := by omega
          have lbb : bb < wr.heap.size := Nat.lt_of_lt_of_le l1 hBj
          clear hs t1 t2 hlj
          go_wp2_with fail
          go_at_call 133
          refine Calls.mono (sputS_any J.out.1 hBj HLJ.out s) ?_
          rintro e w8 ⟨u, rfl, o8, g8⟩
          have N8 := (show Hid _ from J.out.put o8 g8)
          obtain ⟨ua, un, uc, rfl⟩ := own_slice o8
          clear o8 g8
          go_wp2
          go_roundw
          case rel => exact ⟨j + 1, _, _, _, by omega, by go_num, rfl, by rw [HTJ.out]; exact N8.out⟩
          case measure => simp [intOf]; omega
        · obtain rfl : j = na.length := by omega
          have HE := (show Hid (OwnS w.heap.size wr (.slice x' y' z') (namesL (ns.take (k + 1))) ∧ Below w.heap.size w wr ∧ wr.heap[w.heap.size]? = some (.cells #[(.slice (some ⟨b1, o1, none⟩) ns.length ca)] 26 (0, 0))) from (by
            have h := J.out
            rw [List.take_length] at h
            rw [HT.out, HEN.out]
            exact ⟨h.1, h.2.1, h.2.2.1⟩ : OwnS w.heap.size wr (.slice x' y' z') (namesL (ns.take (k + 1))) ∧ Below w.heap.size w wr ∧ wr.heap[w.heap.size]? = some (.cells #[(.slice (some ⟨b1, o1, none⟩) ns.length ca)] 26 (0, 0))))
          go_wp2
          go_roundw
          case rel => exact ⟨k + 1, _, _, _, by omega, by go_num, rfl, HE.out⟩
          case measure => simp [intOf]; omega
    have hlP := blk_lt N6.out.2.2.2.1
    have HOL := (show Hid ((out : List ByteArray).length ≤ 524288501) from (by omega : (out : List ByteArray).length ≤ 524288501))
    have HEN := (show Hid (namesN out ⟨nk, nn, na, nt, np, nks⟩ = namesA (out) na) from (by simp [namesN, hasName, e2, e3] : namesN out ⟨nk, nn, na, nt, np, nks⟩ = namesA (out) na))
    go_upto_region 9 with fail
    · exact absurd ‹(nk == 3) = true ∨ (nk == 2) = true› (by simp [e2, e3])
    go_loopw [3, 6] (fun o i wx => ∃ (j : Nat) (x : Option Addr) (y z : Nat), j ≤ na.length ∧ i = .int .i64 j ∧ o = .slice x y z ∧ Hid (NamW w (.slice x y z) (namesA (out) (na.take j)) (.slice (some ⟨b1, o1, none⟩) ns.length ca) P #[.int .i64 nk, .string nn, .slice y1 na.length y3, .string nt, .int .i64 np, .slice p1 nks.length p3] wx)) (fun _ i _ => na.length - (intOf i).toNat)
    case atStart => exact ⟨0, _, _, _, Nat.zero_le _, rfl, rfl, N6.out⟩
    case round =>
      clear n0 n1 n2 n3 n4 n5 N6
      obtain ⟨j, x', y', z', hj, rfl, rfl, J⟩ := hrel
      obtain ⟨⟨m0, m1, m2, m3, m4, m5⟩, _⟩ := six_at J.out.2.2.2.1
      have lP := blk_lt J.out.2.2.2.1
      have hBj : w.heap.size ≤ wr.heap.size := J.out.2.1.size
      by_cases hjt : j < na.length
      · obtain ⟨bb, oo, rfl, l1, t1, t2⟩ := A3.out j hjt
        have t3 := (J.out.2.1.cell (p := ⟨bb, oo + j * 2, none⟩) l1).trans t1
        have HTJ := (show Hid (namesA (out) (na.take (j + 1)) = putS (namesA (out) (na.take j)) na[j].1) from (by rw [List.take_succ_eq_append_getElem hjt, namesA_snoc] : namesA (out) (na.take (j + 1)) = putS (namesA (out) (na.take j)) na[j].1))
        have hlj : (namesA (out) (na.take j)).length ≤ 1000000000000 := by
          have h := namesA_le (na.take j) (out)
          rw [List.length_take] at h
          have h2 := HOL.out
          omega
        obtain ⟨s, hs⟩ : ∃ s, s = na[j].1 := ⟨_, rfl⟩
        rw [← hs] at t3 HTJ
        have HLJ := (show Hid _ from hlj)
        have hji : (j : Int) < (na.length : Int) := by omega
        have lbb : bb < wr.heap.size := Nat.lt_of_lt_of_le l1 hBj
        clear hs t1 t2 hlj
        go_wp2_with fail
        go_at_call 133
        refine Calls.mono (sputS_any J.out.1 hBj HLJ.out s) ?_
        rintro e w8 ⟨u, rfl, o8, g8⟩
        have N8 := (show Hid _ from J.out.put o8 g8)
        obtain ⟨ua, un, uc, rfl⟩ := own_slice o8
        clear o8 g8
        go_wp2
        go_roundw
        case rel => exact ⟨j + 1, _, _, _, by omega, by go_num, rfl, by rw [HTJ.out]; exact N8.out⟩
        case measure => simp [intOf]; omega
      · obtain rfl : j = na.length := by omega
        have HE := (show Hid (OwnS w.heap.size wr (.slice x' y' z') (namesL (ns.take (k + 1))) ∧ Below w.heap.size w wr ∧ wr.heap[w.heap.size]? = some (.cells #[(.slice (some ⟨b1, o1, none⟩) ns.length ca)] 26 (0, 0))) from (by
          have h := J.out
          rw [List.take_length] at h
          rw [HT.out, HEN.out]
          exact ⟨h.1, h.2.1, h.2.2.1⟩ : OwnS w.heap.size wr (.slice x' y' z') (namesL (ns.take (k + 1))) ∧ Below w.heap.size w wr ∧ wr.heap[w.heap.size]? = some (.cells #[(.slice (some ⟨b1, o1, none⟩) ns.length ca)] 26 (0, 0))))
        go_wp2
        go_roundw
        case rel => exact ⟨k + 1, _, _, _, by omega, by go_num, rfl, HE.out⟩
        case measure => simp [intOf]; omega
end Go.Proofs.YtogdbjafibejdaaGreat

/- The form of a pack, plainly. No condition. -/
namespace Go.Proofs.YtogdbjafibejdaaGreat
open Go.RowKit
set_option maxRecDepth 100000
set_option linter.unusedVariables false

def attrF (nm : List ByteArray) (a : ByteArray × ByteArray) : List Int := form (fndS nm a.1) ++ textForm a.2
def restF (nm : List ByteArray) (n : PNode) : List Int :=
  if n.kind = 2 then form (fndS nm n.name)
  else if n.kind = 3 then form (fndS nm n.name) ++ (form n.attrs.length ++ n.attrs.flatMap (attrF nm))
  else if n.kind = 4 ∨ n.kind = 5 then textForm n.text else []
def nodeF (nm : List ByteArray) (n : PNode) : List Int := form n.kind ++ (form n.kids.length ++ restF nm n)
def packL (ns : List PNode) : List Int :=
  form (namesL ns).length ++ ((namesL ns).flatMap textForm ++ (form ns.length ++ ns.flatMap (nodeF (namesL ns))))
theorem putS_mem (l : List ByteArray) (s : ByteArray) : s ∈ putS l s := by
  unfold putS
  split
  · simp
  · rename_i h
    by_cases hm : s ∈ l
    · exact hm
    · exact absurd (by rw [fndS_none l s hm]; omega) h
theorem putS_keep {l : List ByteArray} {s x : ByteArray} (h : x ∈ l) : x ∈ putS l s := by
  unfold putS; split
  · exact List.mem_append_left _ h
  · exact h
theorem namesA_keep : ∀ (rs : List (ByteArray × ByteArray)) (out : List ByteArray) (x : ByteArray), x ∈ out → x ∈ namesA out rs
  | [], _, _, h => h
  | r :: rs, out, x, h => namesA_keep rs (putS out r.1) x (putS_keep h)
theorem namesA_mem : ∀ (rs : List (ByteArray × ByteArray)) (out : List ByteArray) (r : ByteArray × ByteArray), r ∈ rs → r.1 ∈ namesA out rs
  | q :: rs, out, r, h => by
    rcases List.mem_cons.mp h with rfl | h
    · exact namesA_keep rs _ _ (putS_mem _ _)
    · exact namesA_mem rs _ r h
theorem namesN_keep {n : PNode} {out : List ByteArray} {x : ByteArray} (h : x ∈ out) : x ∈ namesN out n := by
  unfold namesN
  refine namesA_keep _ _ _ ?_
  split
  · exact putS_keep h
  · exact h
theorem namesF_keep : ∀ (ns : List PNode) (out : List ByteArray) (x : ByteArray), x ∈ out → x ∈ ns.foldl namesN out
  | [], _, _, h => h
  | n :: ns, out, x, h => namesF_keep ns _ x (namesN_keep h)
theorem namesF_mem : ∀ (ns : List PNode) (out : List ByteArray) (n : PNode), n ∈ ns → (hasName n = true → n.name ∈ ns.foldl namesN out) ∧ ∀ r ∈ n.attrs, r.1 ∈ ns.foldl namesN out
  | q :: ns, out, n, h => by
    rcases List.mem_cons.mp h with rfl | h
    · constructor
      · intro hn
        refine namesF_keep ns _ _ ?_
        unfold namesN
        rw [if_pos hn]
        exact namesA_keep _ _ _ (putS_mem _ _)
      · intro r hr
        exact namesF_keep ns _ _ (namesA_mem _ _ r hr)
    · exact namesF_mem ns _ n h
theorem namesL_name {ns : List PNode} {n : PNode} (h : n ∈ ns) (hn : hasName n = true) : n.name ∈ namesL ns := (namesF_mem ns [] n h).1 hn
theorem namesL_attr {ns : List PNode} {n : PNode} (h : n ∈ ns) {r : ByteArray × ByteArray} (hr : r ∈ n.attrs) : r.1 ∈ namesL ns := (namesF_mem ns [] n h).2 r hr
theorem fndS_tells : ∀ (l : List ByteArray) (s : ByteArray), s ∈ l → (fndS l s).toNat < l.length ∧ l[(fndS l s).toNat]? = some s
  | x :: l, s, h => by
    rw [fndS]
    by_cases e : x = s
    · rw [if_pos e]; subst e; simp
    · have hm : s ∈ l := by
        rcases List.mem_cons.mp h with h | h
        · exact absurd h.symm e
        · exact h
      have h0 := fndS_neg hm
      obtain ⟨h1, h2⟩ := fndS_tells l s hm
      rw [if_neg e, if_neg (by omega)]
      have : (fndS l s + 1).toNat = (fndS l s).toNat + 1 := by omega
      rw [this, List.length_cons]
      exact ⟨by omega, by simpa using h2⟩
end Go.Proofs.YtogdbjafibejdaaGreat
