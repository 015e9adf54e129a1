/- The program's namesOf (written by mk/ipk4.py). No condition. -/
import Derived.Test.YtogdbjafibejdaaGreatY41
import Derived.Test.YtogdbjafibejdaaGreatY12
import Derived.Test.YtogdbjafibejdaaGreatY40
import Derived.Test.YtogdbjafibejdaaGreatY37
import Derived.Test.YtogdbjafibejdaaGreatY36
namespace Go.Proofs.YtogdbjafibejdaaGreat
open Go.RowKit Go.Maps
set_option maxRecDepth 100000
set_option linter.unusedVariables false

def NmD (w : World) (N M : Nat) (out : List ByteArray) (P : Nat) (row : Array Value) (W : World) : Prop :=
  NmAt w.heap.size N M out W ∧ Below w.heap.size w W ∧ W.heap[P]? = some (.cells row 36 (0, 0)) ∧ P ≠ N ∧ P ≠ M
theorem NmD.add {w : World} {N M : Nat} {out o2 : List ByteArray} {P : Nat} {row : Array Value} {W W' : World} (h : NmD w N M out P row W) (h2 : NmAt w.heap.size N M o2 W') (f : NmFr w.heap.size N M W W') : NmD w N M o2 P row W' :=
  ⟨h2, h.2.1.trans (f.below h.1.1 h.1.2.1 h.2.1.size), f.box h.2.2.1 (by decide) h.2.2.2.1 h.2.2.2.2, h.2.2.2⟩
theorem NmD.box {w : World} {N M : Nat} {out : List ByteArray} {P : Nat} {row : Array Value} {W : World} (h : NmD w N M out P row W) (o : Obj) : NmD w N M out P row (W.alloc o) := by
  have b : Below W.heap.size W (W.alloc o) := (Below.refl _ _).alloc (Nat.le_refl _) _
  exact ⟨h.1.below b, h.2.1.trans (b.mono h.2.1.size), (b.block _ (blk_lt h.2.2.1)).trans h.2.2.1, h.2.2.2⟩
set_option maxHeartbeats 8000000 in
set_option maxRecDepth 100000 in
theorem inamesOf_any {w : World} {v : Value} {ns : List PNode} (hn : NodesAt w v ns) (hfit : ∀ n ∈ ns, NodeFit n) (hlen : ns.length ≤ 500) :
    Calls Tryz.prog 83 #[.agg #[v]] w fun e w' => ∃ N M, e = .returned (.pointer (some ⟨N, 0, none⟩)) ∧ NmAt w.heap.size N M (namesL ns) w' ∧ Below w.heap.size w w' := by
  obtain ⟨a, ca, rfl, _, _, h3⟩ := hn.slice
  have hmm := @run_makeMap Tryz.prog
  have HF := (show Hid (∀ n ∈ ns, NodeFit n) from hfit)
  obtain ⟨w2, hw2⟩ : ∃ x, x = ((w.alloc (.cells #[.slice a ns.length ca] 26)).alloc (.map #[] 0)).alloc (.cells #[.slice none 0 0, .map (some (w.heap.size + 1))] 150) := ⟨_, rfl⟩
  have b2 : Below w.heap.size w w2 := by rw [hw2]; exact (((Below.refl _ w).alloc (Nat.le_refl _) _).alloc (by simp) _).alloc (by simp; omega) _
  have gN : w2.heap[w.heap.size + 2]? = some (.cells #[.slice none 0 0, .map (some (w.heap.size + 1))] 150 (0, 0)) := by
    rw [hw2]
    have := World.alloc_heap_new ((w.alloc (.cells #[.slice a ns.length ca] 26)).alloc (.map #[] 0)) (.cells #[.slice none 0 0, .map (some (w.heap.size + 1))] 150)
    rwa [World.size_alloc, World.size_alloc] at this
  have gT : w2.heap[w.heap.size]? = some (.cells #[.slice a ns.length ca] 26 (0, 0)) := by
    rw [hw2, Below.heap_alloc _ _ _ (by simp; omega), Below.heap_alloc _ _ _ (by simp)]; exact World.alloc_heap_new _ _
  have oM : w2.ownsMap Tryz.prog 9 (plainElem Tryz.prog 3) (w.heap.size + 1) 0 (.map [] : DataW Unit) := by
    have o := World.ownsMap_made (w.alloc (.cells #[.slice a ns.length ca] 26)) Tryz.prog 9 (plainElem Tryz.prog 3 : Value → Option (DataW Unit × List MemPlace))
    rw [World.size_alloc] at o
    rw [hw2]
    exact o.alloc _
  have n2 : NmAt w.heap.size (w.heap.size + 2) (w.heap.size + 1) [] w2 := ⟨by omega, by omega, _, _, 0, gN, World.ownsRow_nil _ _ _ _, oM, Nat.le_refl _, plc_nil⟩
  have HX := (show Hid _ from h3)
  have N2 := (show Hid _ from n2)
  have B2 := (show Hid _ from b2)
  obtain ⟨c0, _⟩ := one_cell gT
  have l0 := blk_lt gT
  clear h3 hn hfit b2 gT n2 oM gN
  go_enter Tryz.func83, Tryz.ntmps83
  go_upto_region 3 with fail
  rw [← hw2]
  clear hw2
  obtain ⟨N, hN⟩ : ∃ N, N = w.heap.size + 2 := ⟨_, rfl⟩
  obtain ⟨M, hM⟩ : ∃ M, M = w.heap.size + 1 := ⟨_, rfl⟩
  rw [← hN, ← hM] at N2
  have hn2 : w.heap.size + 1 + 1 = N := by omega
  simp only [hn2]
  clear hN hM hn2 c0 l0
  go_loopw [14] (fun i wr => ∃ (k : Nat), k ≤ ns.length ∧ i = .int .i64 k ∧ Hid (NmAt w.heap.size N M (namesL (ns.take k)) wr ∧ Below w.heap.size w wr)) (fun i _ => ns.length - (intOf i).toNat)
  case atStart => exact ⟨0, Nat.zero_le _, rfl, N2.out, B2.out⟩
  case round =>
    clear N2 B2
    obtain ⟨k, hk, rfl, R⟩ := hrel
    by_cases hlt : k < ns.length
    rotate_left
    · obtain rfl : k = ns.length := by omega
      have HE := (show Hid (NmAt w.heap.size N M (namesL ns) wr) from (by have := R.out.1; rwa [List.take_length] at this : NmAt w.heap.size N M (namesL ns) wr))
      go_wp2
      go_ret
      exact ⟨_, _, rfl, HE.out, R.out.2⟩
    obtain ⟨b1, o1, av, kv, rfl, hb1, d0, d1, d2, d3, d4, d5, hav, hkv⟩ := HX.out k hlt
    have BW := R.out.2
    replace d0 := (BW.cell (p := ⟨b1, o1 + k * 6, none⟩) hb1).trans d0
    replace d1 := (BW.cell (p := ⟨b1, o1 + k * 6 + 1, none⟩) hb1).trans d1
    replace d2 := (BW.cell (p := ⟨b1, o1 + k * 6 + 2, none⟩) hb1).trans d2
    replace d3 := (BW.cell (p := ⟨b1, o1 + k * 6 + 3, none⟩) hb1).trans d3
    replace d4 := (BW.cell (p := ⟨b1, o1 + k * 6 + 4, none⟩) hb1).trans d4
    replace d5 := (BW.cell (p := ⟨b1, o1 + k * 6 + 5, none⟩) hb1).trans d5
    have hb1' : b1 < wr.heap.size := Nat.lt_of_lt_of_le hb1 BW.size
    have HT := (show Hid (namesL (ns.take (k + 1)) = namesN (namesL (ns.take k)) ns[k]) from (by rw [List.take_succ_eq_append_getElem hlt, namesL_snoc] : namesL (ns.take (k + 1)) = namesN (namesL (ns.take k)) ns[k]))
    have hle : (namesL (ns.take k)).length ≤ 524288500 := namesL_le (ns.take k) (fun n hn => HF.out n (List.mem_of_mem_take hn)) (by rw [List.length_take]; omega)
    have HFN := HF.out _ (List.getElem_mem hlt)
    obtain ⟨n, hnd⟩ : ∃ n, n = ns[k] := ⟨_, rfl⟩
    obtain ⟨out, hout⟩ : ∃ out, out = namesL (ns.take k) := ⟨_, rfl⟩
    rw [← hnd] at d0 d1 d3 d4 hav hkv HFN HT
    rw [← hout] at hle HT R
    have hrs := HFN.rs
    have hnm := HFN.nm
    have HEA := (show Hid _ from HFN.each)
    obtain ⟨y1, y3, rfl, ha1, ha2, ha3⟩ := hav.pair
    obtain ⟨p1, p3, rfl, hp1, hp2, _, _⟩ := hkv
    obtain ⟨nk, nn, na, nt, np, nks⟩ := n
    simp only at d0 d1 d2 d3 d4 d5 hrs ha1 hnm
    have A3 := (show Hid _ from ha3)
    have hki : (k : Int) < (ns.length : Int) := by omega
    clear ha3 hnd hout hav BW HFN
    go_upto_region 5 with fail
    obtain ⟨w6, hw6⟩ : ∃ q, q = wr.alloc (.cells #[.int .i64 nk, .string nn, .slice y1 na.length y3, .string nt, .int .i64 np, .slice p1 nks.length p3] 36) := ⟨_, rfl⟩
    rw [← hw6]
    have b6 : Below wr.heap.size wr w6 := by rw [hw6]; exact (Below.refl _ _).alloc (Nat.le_refl _) _
    have g6 : w6.heap[wr.heap.size]? = some (.cells #[.int .i64 nk, .string nn, .slice y1 na.length y3, .string nt, .int .i64 np, .slice p1 nks.length p3] 36 (0, 0)) := by rw [hw6]; exact World.alloc_heap_new _ _
    have hltNM := R.out.1.lt
    have N6 := (show Hid (NmD w N M out wr.heap.size #[.int .i64 nk, .string nn, .slice y1 na.length y3, .string nt, .int .i64 np, .slice p1 nks.length p3] w6) from ⟨R.out.1.below b6, R.out.2.trans (b6.mono R.out.2.size), g6, by omega, by omega⟩)
    obtain ⟨⟨n0, n1, n2, n3, n4, n5⟩, _⟩ := six_at g6
    obtain ⟨P, hP⟩ : ∃ P, P = wr.heap.size := ⟨_, rfl⟩
    rw [← hP] at n0 n1 n2 n3 n4 n5 N6 ⊢
    have lP := blk_lt N6.out.2.2.1
    clear hw6 b6 g6 hP R d0 d1 d2 d3 d4 d5 hb1' hltNM
    by_cases e2 : nk = 2
    · subst e2
      go_wp2_with fail
      go_at_call 128
      refine Calls.mono (inameAdd_any N6.out.1 N6.out.2.1.size nn (by omega) (by omega)) ?_
      rintro e w7 ⟨rfl, h7, f7⟩
      have N7 := (show Hid (NmD w N M (putS out nn) P #[.int .i64 2, .string nn, .slice y1 na.length y3, .string nt, .int .i64 np, .slice p1 nks.length p3] w7) from NmD.add N6.out h7 f7)
      clear n0 n1 n2 n3 n4 n5 N6 h7 f7
      obtain ⟨⟨n0, n1, n2, n3, n4, n5⟩, _⟩ := six_at N7.out.2.2.1
      have hlP := blk_lt N7.out.2.2.1
      have HOL := (show Hid ((putS out nn : List ByteArray).length ≤ 524288501) from (by have := putS_le out nn; omega : (putS out nn : List ByteArray).length ≤ 524288501))
      have HEN := (show Hid (namesN out ⟨2, nn, na, nt, np, nks⟩ = namesA (putS out nn) na) from (by simp [namesN, hasName] : namesN out ⟨2, nn, na, nt, np, nks⟩ = namesA (putS out nn) na))
      go_upto_region 8 with fail
      clear n0 n1 n2 n3 n4 n5
      go_loopw [33] (fun i wx => ∃ (j : Nat), j ≤ na.length ∧ i = .int .i64 j ∧ Hid (NmD w N M (namesA (putS out nn) (na.take j)) P #[.int .i64 2, .string nn, .slice y1 na.length y3, .string nt, .int .i64 np, .slice p1 nks.length p3] wx)) (fun i _ => na.length - (intOf i).toNat)
      case atStart => exact ⟨0, Nat.zero_le _, rfl, N7.out⟩
      case round =>
        clear N7
        obtain ⟨j, hj, rfl, J⟩ := hrel
        by_cases hjt : j < na.length
        · obtain ⟨bb, oo, rfl, l1, t1, t2⟩ := A3.out j hjt
          replace t1 := (J.out.2.1.cell (p := ⟨bb, oo + j * 2, none⟩) l1).trans t1
          replace t2 := (J.out.2.1.cell (p := ⟨bb, oo + j * 2 + 1, none⟩) l1).trans t2
          have lbb : bb < wr.heap.size := Nat.lt_of_lt_of_le l1 J.out.2.1.size
          have HTJ := (show Hid (namesA (putS out nn) (na.take (j + 1)) = putS (namesA (putS out nn) (na.take j)) na[j].1) from (by rw [List.take_succ_eq_append_getElem hjt, namesA_snoc] : namesA (putS out nn) (na.take (j + 1)) = putS (namesA (putS out nn) (na.take j)) na[j].1))
          have hlj : (namesA (putS out nn) (na.take j)).length ≤ 1000000000000 := by
            have h := namesA_le (na.take j) (putS out nn)
            rw [List.length_take] at h
            have h2 := HOL.out
            omega
          have hsz := HEA.out _ (List.getElem_mem hjt)
          obtain ⟨s, hs⟩ : ∃ s, s = na[j].1 := ⟨_, rfl⟩
          obtain ⟨s2, hs2⟩ : ∃ s2, s2 = na[j].2 := ⟨_, rfl⟩
          rw [← hs] at t1 HTJ
          rw [← hs2] at t2
          have hsz1 : s.size ≤ 1099511627776 := by rw [hs]; exact hsz.1
          have HLJ := (show Hid _ from hlj)
          have hji : (j : Int) < (na.length : Int) := by omega
          obtain ⟨w5, hw5⟩ : ∃ z, z = wr.alloc (.cells #[.string s, .string s2] 115) := ⟨_, rfl⟩
          have N5 := (show Hid (NmD w N M (namesA (putS out nn) (na.take j)) P #[.int .i64 2, .string nn, .slice (some ⟨bb, oo, none⟩) na.length y3, .string nt, .int .i64 np, .slice p1 nks.length p3] w5) from (by rw [hw5]; exact NmD.box J.out _ : NmD w N M (namesA (putS out nn) (na.take j)) P #[.int .i64 2, .string nn, .slice (some ⟨bb, oo, none⟩) na.length y3, .string nt, .int .i64 np, .slice p1 nks.length p3] w5))
          have g5 : w5.heap[wr.heap.size]? = some (.cells #[.string s, .string s2] 115 (0, 0)) := by rw [hw5]; exact World.alloc_heap_new _ _
          obtain ⟨q0, q1, _, _⟩ := two_cells g5
          have lq := blk_lt g5
          obtain ⟨A, hA⟩ : ∃ A, A = wr.heap.size := ⟨_, rfl⟩
          rw [← hA] at q0 q1 lq
          clear g5 J hs hs2 hlj hsz l1
          go_upto_region 10 with fail
          rw [← hw5, ← hA]
          clear hw5 hA t1 t2 lbb
          go_wp2_with fail
          go_at_call 128
          refine Calls.mono (inameAdd_any N5.out.1 N5.out.2.1.size s hsz1 HLJ.out) ?_
          rintro e w8 ⟨rfl, h8, f8⟩
          have N8 := (show Hid _ from NmD.add N5.out h8 f8)
          clear h8 f8 q0 q1 N5
          go_wp2
          go_roundw
          case rel => exact ⟨j + 1, by omega, by go_num, by rw [HTJ.out]; exact N8.out⟩
          case measure => simp [intOf]; omega
        · obtain rfl : j = na.length := by omega
          have HE := (show Hid (NmAt w.heap.size N M (namesL (ns.take (k + 1))) wr ∧ Below w.heap.size w wr) from (by
            have h := J.out
            rw [List.take_length] at h
            rw [HT.out, HEN.out]
            exact ⟨h.1, h.2.1⟩ : NmAt w.heap.size N M (namesL (ns.take (k + 1))) wr ∧ Below w.heap.size w wr))
          go_wp2
          go_roundw
          case rel => exact ⟨k + 1, by omega, by go_num, HE.out⟩
          case measure => simp [intOf]; omega
    by_cases e3 : nk = 3
    · subst e3
      go_wp2_with fail
      go_at_call 128
      refine Calls.mono (inameAdd_any N6.out.1 N6.out.2.1.size nn (by omega) (by omega)) ?_
      rintro e w7 ⟨rfl, h7, f7⟩
      have N7 := (show Hid (NmD w N M (putS out nn) P #[.int .i64 3, .string nn, .slice y1 na.length y3, .string nt, .int .i64 np, .slice p1 nks.length p3] w7) from NmD.add N6.out h7 f7)
      clear n0 n1 n2 n3 n4 n5 N6 h7 f7
      obtain ⟨⟨n0, n1, n2, n3, n4, n5⟩, _⟩ := six_at N7.out.2.2.1
      have hlP := blk_lt N7.out.2.2.1
      have HOL := (show Hid ((putS out nn : List ByteArray).length ≤ 524288501) from (by have := putS_le out nn; omega : (putS out nn : List ByteArray).length ≤ 524288501))
      have HEN := (show Hid (namesN out ⟨3, nn, na, nt, np, nks⟩ = namesA (putS out nn) na) from (by simp [namesN, hasName] : namesN out ⟨3, nn, na, nt, np, nks⟩ = namesA (putS out nn) na))
      go_upto_region 8 with fail
      clear n0 n1 n2 n3 n4 n5
      go_loopw [33] (fun i wx => ∃ (j : Nat), j ≤ na.length ∧ i = .int .i64 j ∧ Hid (NmD w N M (namesA (putS out nn) (na.take j)) P #[.int .i64 3, .string nn, .slice y1 na.length y3, .string nt, .int .i64 np, .slice p1 nks.length p3] wx)) (fun i _ => na.length - (intOf i).toNat)
      case atStart => exact ⟨0, Nat.zero_le _, rfl, N7.out⟩
      case round =>
        clear N7
        obtain ⟨j, hj, rfl, J⟩ := hrel
        by_cases hjt : j < na.length
        · obtain ⟨bb, oo, rfl, l1, t1, t2⟩ := A3.out j hjt
          replace t1 := (J.out.2.1.cell (p := ⟨bb, oo + j * 2, none⟩) l1).trans t1
          replace t2 := (J.out.2.1.cell (p := ⟨bb, oo + j * 2 + 1, none⟩) l1).trans t2
          have lbb : bb < wr.heap.size := Nat.lt_of_lt_of_le l1 J.out.2.1.size
          have HTJ := (show Hid (namesA (putS out nn) (na.take (j + 1)) = putS (namesA (putS out nn) (na.take j)) na[j].1) from (by rw [List.take_succ_eq_append_getElem hjt, namesA_snoc] : namesA (putS out nn) (na.take (j + 1)) = putS (namesA (putS out nn) (na.take j)) na[j].1))
          have hlj : (namesA (putS out nn) (na.take j)).length ≤ 1000000000000 := by
            have h := namesA_le (na.take j) (putS out nn)
            rw [List.length_take] at h
            have h2 := HOL.out
            omega
          have hsz := HEA.out _ (List.getElem_mem hjt)
          obtain ⟨s, hs⟩ : ∃ s, s = na[j].1 := ⟨_, rfl⟩
          obtain ⟨s2, hs2⟩ : ∃ s2, s2 = na[j].2 := ⟨_, rfl⟩
          rw [← hs] at t1 HTJ
          rw [← hs2] at t2
          have hsz1 : s.size ≤ 1099511627776 := by rw [hs]; exact hsz.1
          have HLJ := (show Hid _ from hlj)
          have hji : (j : Int) < (na.length : Int) := by omega
          obtain ⟨w5, hw5⟩ : ∃ z, z = wr.alloc (.cells #[.string s, .string s2] 115) := ⟨_, rfl⟩
          have N5 := (show Hid (NmD w N M (namesA (putS out nn) (na.take j)) P #[.int .i64 3, .string nn, .slice (some ⟨bb, oo, none⟩) na.length y3, .string nt, .int .i64 np, .slice p1 nks.length p3] w5) from (by rw [hw5]; exact NmD.box J.out _ : NmD w N M (namesA (putS out nn) (na.take j)) P #[.int .i64 3, .string nn, .slice (some ⟨bb, oo, none⟩) na.length y3, .string nt, .int .i64 np, .slice p1 nks.length p3] w5))
          have g5 : w5.heap[wr.heap.size]? = some (.cells #[.string s, .string s2] 115 (0, 0)) := by rw [hw5]; exact World.alloc_heap_new _ _
          obtain ⟨q0, q1, _, _⟩ := two_cells g5
          have lq := blk_lt g5
          obtain ⟨A, hA⟩ : ∃ A, A = wr.heap.size := ⟨_, rfl⟩
          rw [← hA] at q0 q1 lq
          clear g5 J hs hs2 hlj hsz l1
          go_upto_region 10 with fail
          rw [← hw5, ← hA]
          clear hw5 hA t1 t2 lbb
          go_wp2_with fail
          go_at_call 128
          refine Calls.mono (inameAdd_any N5.out.1 N5.out.2.1.size s hsz1 HLJ.out) ?_
          rintro e w8 ⟨rfl, h8, f8⟩
          have N8 := (show Hid _ from NmD.add N5.out h8 f8)
          clear h8 f8 q0 q1 N5
          go_wp2
          go_roundw
          case rel => exact ⟨j + 1, by omega, by go_num, by rw [HTJ.out]; exact N8.out⟩
          case measure => simp [intOf]; omega
        · obtain rfl : j = na.length := by omega
          have HE := (show Hid (NmAt w.heap.size N M (namesL (ns.take (k + 1))) wr ∧ Below w.heap.size w wr) from (by
            have h := J.out
            rw [List.take_length] at h
            rw [HT.out, HEN.out]
            exact ⟨h.1, h.2.1⟩ : NmAt w.heap.size N M (namesL (ns.take (k + 1))) wr ∧ Below w.heap.size w wr))
          go_wp2
          go_roundw
          case rel => exact ⟨k + 1, by omega, by go_num, HE.out⟩
          case measure => simp [intOf]; omega
    have HOL := (show Hid ((out : List ByteArray).length ≤ 524288501) from (by omega : (out : List ByteArray).length ≤ 524288501))
    have HEN := (show Hid (namesN out ⟨nk, nn, na, nt, np, nks⟩ = namesA (out) na) from (by simp [namesN, hasName, e2, e3] : namesN out ⟨nk, nn, na, nt, np, nks⟩ = namesA (out) na))
    go_upto_region 8 with fail
    · exact absurd ‹(nk == 2) = true ∨ (nk == 3) = true› (by simp [e2, e3])
    clear n0 n1 n2 n3 n4 n5
    go_loopw [33] (fun i wx => ∃ (j : Nat), j ≤ na.length ∧ i = .int .i64 j ∧ Hid (NmD w N M (namesA (out) (na.take j)) P #[.int .i64 nk, .string nn, .slice y1 na.length y3, .string nt, .int .i64 np, .slice p1 nks.length p3] wx)) (fun i _ => na.length - (intOf i).toNat)
    case atStart => exact ⟨0, Nat.zero_le _, rfl, N6.out⟩
    case round =>
      clear N6
      obtain ⟨j, hj, rfl, J⟩ := hrel
      by_cases hjt : j < na.length
      · obtain ⟨bb, oo, rfl, l1, t1, t2⟩ := A3.out j hjt
        replace t1 := (J.out.2.1.cell (p := ⟨bb, oo + j * 2, none⟩) l1).trans t1
        replace t2 := (J.out.2.1.cell (p := ⟨bb, oo + j * 2 + 1, none⟩) l1).trans t2
        have lbb : bb < wr.heap.size := Nat.lt_of_lt_of_le l1 J.out.2.1.size
        have HTJ := (show Hid (namesA (out) (na.take (j + 1)) = putS (namesA (out) (na.take j)) na[j].1) from (by rw [List.take_succ_eq_append_getElem hjt, namesA_snoc] : namesA (out) (na.take (j + 1)) = putS (namesA (out) (na.take j)) na[j].1))
        have hlj : (namesA (out) (na.take j)).length ≤ 1000000000000 := by
          have h := namesA_le (na.take j) (out)
          rw [List.length_take] at h
          have h2 := HOL.out
          omega
        have hsz := HEA.out _ (List.getElem_mem hjt)
        obtain ⟨s, hs⟩ : ∃ s, s = na[j].1 := ⟨_, rfl⟩
        obtain ⟨s2, hs2⟩ : ∃ s2, s2 = na[j].2 := ⟨_, rfl⟩
        rw [← hs] at t1 HTJ
        rw [← hs2] at t2
        have hsz1 : s.size ≤ 1099511627776 := by rw [hs]; exact hsz.1
        have HLJ := (show Hid _ from hlj)
        have hji : (j : Int) < (na.length : Int) := by omega
        obtain ⟨w5, hw5⟩ : ∃ z, z = wr.alloc (.cells #[.string s, .string s2] 115) := ⟨_, rfl⟩
        have N5 := (show Hid (NmD w N M (namesA (out) (na.take j)) P #[.int .i64 nk, .string nn, .slice (some ⟨bb, oo, none⟩) na.length y3, .string nt, .int .i64 np, .slice p1 nks.length p3] w5) from (by rw [hw5]; exact NmD.box J.out _ : NmD w N M (namesA (out) (na.take j)) P #[.int .i64 nk, .string nn, .slice (some ⟨bb, oo, none⟩) na.length y3, .string nt, .int .i64 np, .slice p1 nks.length p3] w5))
        have g5 : w5.heap[wr.heap.size]? = some (.cells #[.string s, .string s2] 115 (0, 0)) := by rw [hw5]; exact World.alloc_heap_new _ _
        obtain ⟨q0, q1, _, _⟩ := two_cells g5
        have lq := blk_lt g5
        obtain ⟨A, hA⟩ : ∃ A, A = wr.heap.size := ⟨_, rfl⟩
        rw [← hA] at q0 q1 lq
        clear g5 J hs hs2 hlj hsz l1
        go_upto_region 10 with fail
        rw [← hw5, ← hA]
        clear hw5 hA t1 t2 lbb
        go_wp2_with fail
        go_at_call 128
        refine Calls.mono (inameAdd_any N5.out.1 N5.out.2.1.size s hsz1 HLJ.out) ?_
        rintro e w8 ⟨rfl, h8, f8⟩
        have N8 := (show Hid _ from NmD.add N5.out h8 f8)
        clear h8 f8 q0 q1 N5
        go_wp2
        go_roundw
        case rel => exact ⟨j + 1, by omega, by go_num, by rw [HTJ.out]; exact N8.out⟩
        case measure => simp [intOf]; omega
      · obtain rfl : j = na.length := by omega
        have HE := (show Hid (NmAt w.heap.size N M (namesL (ns.take (k + 1))) wr ∧ Below w.heap.size w wr) from (by
          have h := J.out
          rw [List.take_length] at h
          rw [HT.out, HEN.out]
          exact ⟨h.1, h.2.1⟩ : NmAt w.heap.size N M (namesL (ns.take (k + 1))) wr ∧ Below w.heap.size w wr))
        go_wp2
        go_roundw
        case rel => exact ⟨k + 1, by omega, by go_num, HE.out⟩
        case measure => simp [intOf]; omega
end Go.Proofs.YtogdbjafibejdaaGreat

/- The specification's l7Name, by the plain reader. No condition. -/
namespace Go.Proofs.YtogdbjafibejdaaGreat
open Go.RowKit
set_option maxRecDepth 100000
set_option linter.unusedVariables false

def pVal : Option (Nat × Nat) → Value
  | some (k, j) => .tuple #[.int .i64 (k : Int), .int .i64 (j : Int), .bool true]
  | none => .tuple #[.int .i64 0, .int .i64 0, .bool false]
def xVal : Option (ByteArray × Nat) → Value
  | some (s, j) => .tuple #[.string s, .int .i64 (j : Int), .bool true]
  | none => .tuple #[.string ⟨#[]⟩, .int .i64 0, .bool false]
theorem numVal_p {xs : List Int} (hb : ∀ x ∈ xs, 0 ≤ x ∧ x ≤ 255) (i : Nat) : numVal (i : Int) (rdI xs i) = pVal (rdP xs i) := by
  rcases hr : rdI xs i with _ | ⟨y, n⟩
  · have : rdP xs i = none := by unfold rdP; rw [hr]
    rw [this]
    rfl
  · obtain ⟨k, p, e1, e2, _, _, e⟩ := rdI_nats hr hb
    have : rdP xs i = some (k, p) := by
      unfold rdP
      rw [hr]
      simp only [Option.some.injEq, Prod.mk.injEq]
      omega
    rw [this, ← hr, e]
    rfl
theorem textVal_x {xs : List Int} (hb : ∀ x ∈ xs, 0 ≤ x ∧ x ≤ 255) (i : Nat) : textVal (rdT xs i) = xVal (rdX xs i) := by
  rcases hr : rdT xs i with _ | ⟨t, j⟩
  · have : rdX xs i = none := by unfold rdX; rw [hr]
    rw [this]
    rfl
  · have h := rdT_some2 hr hb
    have e : rdX xs i = some (strOf t, j.toNat) := by unfold rdX; rw [hr]
    have ej : (j.toNat : Int) = j := by omega
    rw [e]
    simp only [textVal, xVal, ej]
theorem sgetNum_p {v : Value} {xs : List Int} {i : Nat} {w : World} (h : Sl .u8 w v xs) (hb : ∀ x ∈ xs, 0 ≤ x ∧ x ≤ 255) (hn : xs.length ≤ 1099511627776) :
    Calls Tryz.prog 95 #[v, .int .i64 (i : Int)] w fun e w' => e = .returned (pVal (rdP xs i)) ∧ w' = w := by
  rw [← numVal_p hb]
  exact sgetNum_any h hb hn
theorem sgetText_x {v : Value} {xs : List Int} {i : Nat} {w : World} (h : Sl .u8 w v xs) (hb : ∀ x ∈ xs, 0 ≤ x ∧ x ≤ 255) (hn : xs.length ≤ 1099511627776) :
    Calls Tryz.prog 96 #[v, .int .i64 (i : Int)] w fun e w' => e = .returned (xVal (rdX xs i)) ∧ w' = w := by
  rw [← textVal_x hb]
  exact sgetText_any h hb hn

set_option maxRecDepth 100000 in
theorem sl7Name_any {v nv : Value} {xs : List Int} {nm : List ByteArray} {i : Nat} {w : World} (h : Sl .u8 w v xs) (hb : ∀ x ∈ xs, 0 ≤ x ∧ x ≤ 255) (hn : xs.length ≤ 1099511627776) (hs : Sv 1 w nv (nm.map Value.string)) (hnl : nm.length ≤ 1000000000000) :
    Calls Tryz.prog 173 #[v, .int .i64 (i : Int), nv] w fun e w' => e = .returned (xVal (rdM xs nm i)) ∧ w' = w := by
  have C := (show Hid _ from sgetNum_p (i := i) h hb hn)
  obtain ⟨a, ca, rfl, _, _, _, _⟩ := h
  obtain ⟨sa, sn, sc, rfl⟩ : ∃ a n c, nv = .slice a n c := by obtain ⟨a, n, c, e, _⟩ := hs; exact ⟨a, n, c, e⟩
  obtain ⟨rfl, SC⟩ := str_cell hs
  have HSC := (show Hid _ from SC)
  clear hs SC
  rcases hr : rdP xs i with _ | ⟨k, j⟩
  · have HM := (show Hid (rdM xs nm i = none) from (by unfold rdM; rw [hr] : rdM xs nm i = none))
    rw [hr] at C
    clear hr
    go_enter Tryz.func173, Tryz.ntmps173
    go_wp2_with fail
    go_at_call 95
    refine Calls.mono C.out ?_
    rintro e w2 ⟨rfl, ew⟩
    replace ew := ew.symm
    subst ew
    simp only [pVal]
    go_wp2
    go_ret3
    rw [HM.out]
    exact ⟨rfl, rfl⟩
  · have hk := rdP_some hr hb
    by_cases hlt : k < nm.length
    · have HM := (show Hid (rdM xs nm i = some (nm[k], j)) from (by unfold rdM; rw [hr]; simp only [if_pos hlt]; simp [List.getD_eq_getElem?_getD, hlt] : rdM xs nm i = some (nm[k], j)))
      obtain ⟨bb, oo, rfl, lbb, cs⟩ := HSC.out k hlt
      rw [hr] at C
      have hki : ¬ (nm.length : Int) ≤ (k : Int) := by omega
      have hki2 : (k : Int) < (nm.length : Int) := by omega
      clear hr
      go_enter Tryz.func173, Tryz.ntmps173
      go_wp2_with fail
      go_at_call 95
      refine Calls.mono C.out ?_
      rintro e w2 ⟨rfl, ew⟩
      replace ew := ew.symm
      subst ew
      simp only [pVal]
      go_wp2
      go_ret3
      rw [HM.out]
      exact ⟨rfl, rfl⟩
    · have HM := (show Hid (rdM xs nm i = none) from (by unfold rdM; rw [hr]; simp only [if_neg hlt] : rdM xs nm i = none))
      rw [hr] at C
      have hki : (nm.length : Int) ≤ (k : Int) := by omega
      clear hr
      go_enter Tryz.func173, Tryz.ntmps173
      go_wp2_with fail
      go_at_call 95
      refine Calls.mono C.out ?_
      rintro e w2 ⟨rfl, ew⟩
      replace ew := ew.symm
      subst ew
      simp only [pVal]
      go_wp2
      go_ret3
      rw [HM.out]
      exact ⟨rfl, rfl⟩
end Go.Proofs.YtogdbjafibejdaaGreat

/- The readers, plainly: places go on, lists stay short. No condition. -/
namespace Go.Proofs.YtogdbjafibejdaaGreat
open Go.RowKit
set_option maxRecDepth 100000
set_option linter.unusedVariables false

theorem rdB_le {xs : List Int} {nm : List ByteArray} {strict : Bool} {room : Nat → Bool} {M : Nat} (hb : ∀ x ∈ xs, 0 ≤ x ∧ x ≤ 255) (hn : FitS xs.length nm) (hM : ∀ n, n ≤ M → room n = true → n + 1 ≤ M) : ∀ (f k : Nat) (me : Int) (ns : List PNode) (i : Nat) (ms : List PNode) (j : Nat),
    rdB xs nm strict room f k me ns i = some (ms, j) → i ≤ xs.length → ns.length ≤ M → i ≤ j ∧ j ≤ xs.length ∧ ns.length ≤ ms.length ∧ ms.length ≤ M
  | f, 0, me, ns, i, ms, j, h, hi, hl => by
    rw [rdB_zero] at h
    simp only [Option.some.injEq, Prod.mk.injEq] at h
    obtain ⟨rfl, rfl⟩ := h
    exact ⟨Nat.le_refl _, hi, Nat.le_refl _, hl⟩
  | 0, k + 1, me, ns, i, ms, j, h, _, _ => by cases h
  | f + 1, k + 1, me, ns, i, ms, j, h, hi, hl => by
    rw [rdB] at h
    split at h
    · rename_i hr
      rcases h1 : rdOne xs nm strict i with _ | ⟨n, kd, p⟩
      · rw [h1] at h; cases h
      · rw [h1] at h
        simp only at h
        have e1 := rdOne_some hb hn h1
        rcases h2 : rdB xs nm strict room f kd ns.length (kidAdd ns me ++ [linkN n me []]) p with _ | ⟨ns', i'⟩
        · rw [h2] at h; cases h
        · rw [h2] at h
          simp only at h
          have h3 := hM _ hl hr
          have e2 := rdB_le hb hn hM f kd _ _ _ _ _ h2 e1.2.1 (by rw [List.length_append, kidAdd_len]; exact h3)
          have e3 := rdB_le hb hn hM f k _ _ _ _ _ h e2.2.1 e2.2.2.2
          rw [List.length_append, kidAdd_len, List.length_singleton] at e2
          omega
    · cases h
theorem rdN_le {xs : List Int} {nm : List ByteArray} {strict : Bool} {room : Nat → Bool} {M : Nat} (hb : ∀ x ∈ xs, 0 ≤ x ∧ x ≤ 255) (hn : FitS xs.length nm) (hM : ∀ n, n ≤ M → room n = true → n + 1 ≤ M) {f : Nat} {me : Int} {ns : List PNode} {i : Nat} {ms : List PNode} {j : Nat}
    (h : rdN xs nm strict room f me ns i = some (ms, j)) (hl : ns.length ≤ M) : i + 2 ≤ j ∧ j ≤ xs.length ∧ ns.length + 1 ≤ ms.length ∧ ms.length ≤ M := by
  unfold rdN at h
  split at h
  · rename_i hr
    rcases h1 : rdOne xs nm strict i with _ | ⟨n, kd, p⟩
    · rw [h1] at h; cases h
    · rw [h1] at h
      simp only at h
      have e1 := rdOne_some hb hn h1
      have h3 := hM _ hl hr
      have e2 := rdB_le hb hn hM f kd _ _ _ _ _ h e1.2.1 (by rw [List.length_append, List.length_singleton]; exact h3)
      rw [List.length_append, List.length_singleton] at e2
      omega
  · cases h
theorem modify_congr {α : Type} {L : List α} {k : Nat} {f g : α → α} (h : ∀ a, L[k]? = some a → f a = g a) : L.modify k f = L.modify k g := by
  apply List.ext_getElem?
  intro i
  rw [List.getElem?_modify, List.getElem?_modify]
  by_cases e : k = i
  · subst e
    cases hl : L[k]? with
    | none => rfl
    | some a => simp [h a hl]
  · simp [e]
theorem kidAdd_is {L : List PNode} {k : Nat} {ks : List Int} (hk : ∀ a, L[k]? = some a → a.kids = ks) {m : Nat} (hm : m = L.length) : L.modify k (fun n => setKids n (ks ++ [(m : Int)])) = kidAdd L (k : Int) := by
  subst hm
  unfold kidAdd
  rw [if_neg (by omega), Int.toNat_natCast]
  exact modify_congr (fun a ha => by rw [hk a ha])
theorem rdB_step {xs : List Int} {nm : List ByteArray} {strict : Bool} {room : Nat → Bool} {f k : Nat} {me : Int} {ns : List PNode} {i : Nat} {R : Option (List PNode × Nat)} (h : rdB xs nm strict room (f + 1) (k + 1) me ns i = R) :
    (∀ ms j, rdN xs nm strict room f me (kidAdd ns me) i = some (ms, j) → rdB xs nm strict room f k me ms j = R) ∧ (rdN xs nm strict room f me (kidAdd ns me) i = none → R = none) := by
  rw [rdB_succ] at h
  constructor
  · intro ms j e
    rw [e] at h
    exact h
  · intro e
    rw [e] at h
    exact h.symm
theorem rdN_is {xs : List Int} {nm : List ByteArray} {strict : Bool} {room : Nat → Bool} {f : Nat} {me : Int} {ns : List PNode} {i kd j : Nat} {n : PNode} (hr : room ns.length = true) (h : rdOne xs nm strict i = some (n, kd, j)) :
    rdN xs nm strict room f me ns i = rdB xs nm strict room f kd ns.length (ns ++ [linkN n me []]) j := by
  unfold rdN; rw [if_pos hr, h]
theorem rdN_no1 {xs : List Int} {nm : List ByteArray} {strict : Bool} {room : Nat → Bool} {f : Nat} {me : Int} {ns : List PNode} {i : Nat} (h : rdOne xs nm strict i = none) : rdN xs nm strict room f me ns i = none := by
  unfold rdN; rw [h]; simp
theorem rdN_no2 {xs : List Int} {nm : List ByteArray} {strict : Bool} {room : Nat → Bool} {f : Nat} {me : Int} {ns : List PNode} {i : Nat} (h : ¬ room ns.length = true) : rdN xs nm strict room f me ns i = none := by
  unfold rdN; rw [if_neg h]
theorem kidAdd_read {m i : Nat} {ns : List PNode} (h : ∀ n ∈ ns, ReadN m n ∧ n.kids.length ≤ i) (me : Int) : ∀ n ∈ kidAdd ns me, ReadN m n ∧ n.kids.length ≤ i + 1 := fun n hn => by
  unfold kidAdd at hn
  split at hn
  · have := h n hn
    exact ⟨this.1, by omega⟩
  · obtain ⟨q, hq, e⟩ := List.getElem_of_mem hn
    rw [List.getElem_modify] at e
    rw [List.length_modify] at hq
    have h1 := h _ (List.getElem_mem hq)
    split at e
    · subst e
      refine ⟨⟨h1.1.nm, h1.1.tx, h1.1.rs, h1.1.each⟩, ?_⟩
      simp only [setKids, List.length_append, List.length_singleton]
      omega
    · subst e
      exact ⟨h1.1, by omega⟩
theorem ReadL.of_snoc {xs : List Int} {nm : List ByteArray} {strict : Bool} {ns : List PNode} {i kd j : Nat} {n : PNode} (hb : ∀ x ∈ xs, 0 ≤ x ∧ x ≤ 255) (hn : FitS xs.length nm) (h : rdOne xs nm strict i = some (n, kd, j)) (hr : ∀ n ∈ ns, ReadN xs.length n ∧ n.kids.length ≤ i + 1) (hf : ns.length ≤ i) (me : Int) : ReadL xs (ns ++ [linkN n me []]) j := by
  have e1 := rdOne_some hb hn h
  exact ReadL.snoc (fun n hn => ⟨(hr n hn).1, by have := (hr n hn).2; omega⟩) (by omega) e1.2.1 e1.2.2.1 me
end Go.Proofs.YtogdbjafibejdaaGreat

/- How long the form of a right tree is; which trees are packed; the reader of a whole tree, plainly. No condition. -/
namespace Go.Proofs.YtogdbjafibejdaaGreat
open Go.RowKit
set_option maxRecDepth 100000
set_option linter.unusedVariables false

def goodT (ns : List PNode) : Prop := STreeOkP ns ∧ tidyN ns = ns ∧ (packL ns).length ≤ 20000
theorem putS_of {l : List ByteArray} {s x : ByteArray} (h : x ∈ putS l s) : x ∈ l ∨ x = s := by
  unfold putS at h
  split at h
  · rcases List.mem_append.mp h with h | h
    · exact .inl h
    · exact .inr (List.mem_singleton.mp h)
  · exact .inl h
theorem namesA_of : ∀ (rs : List (ByteArray × ByteArray)) (out : List ByteArray) (x : ByteArray), x ∈ namesA out rs → x ∈ out ∨ ∃ r ∈ rs, r.1 = x
  | [], out, x, h => .inl h
  | r :: rs, out, x, h => by
    rcases namesA_of rs (putS out r.1) x h with h | ⟨q, hq, e⟩
    · rcases putS_of h with h | h
      · exact .inl h
      · exact .inr ⟨r, by simp, h.symm⟩
    · exact .inr ⟨q, by simp [hq], e⟩
theorem namesN_of {n : PNode} {out : List ByteArray} {x : ByteArray} (h : x ∈ namesN out n) : x ∈ out ∨ x = n.name ∨ ∃ r ∈ n.attrs, r.1 = x := by
  unfold namesN at h
  rcases namesA_of _ _ _ h with h | h
  · split at h
    · rcases putS_of h with h | h
      · exact .inl h
      · exact .inr (.inl h)
    · exact .inl h
  · exact .inr (.inr h)
theorem namesF_small : ∀ (ns : List PNode) (out : List ByteArray), (∀ n ∈ ns, SmallN n) → (∀ s ∈ out, s.size ≤ 3000) → (∀ s ∈ ns.foldl namesN out, s.size ≤ 3000) ∧ (ns.foldl namesN out).length ≤ out.length + ns.length * 21
  | [], out, _, ho => ⟨ho, by simp⟩
  | n :: ns, out, hs, ho => by
    have h1 := namesF_small ns (namesN out n) (fun m hm => hs m (by simp [hm])) (fun s h => by
      rcases namesN_of h with h | h | ⟨r, hr, e⟩
      · exact ho s h
      · rw [h]; exact (hs n (by simp)).nm
      · have h2 := (hs n (by simp)).each r hr
        rw [← e]
        unfold attrOk at h2
        simp only [Bool.and_eq_true, inB, decide_eq_true_eq] at h2
        omega)
    have h2 := namesN_le out n
    have h3 := (hs n (by simp)).rs
    refine ⟨h1.1, ?_⟩
    have h4 := h1.2
    rw [List.foldl_cons, List.length_cons]
    omega
theorem flatLen_le {α : Type} {l : List α} {g : α → List Int} {m : Nat} (h : ∀ x ∈ l, (g x).length ≤ m) : (l.flatMap g).length ≤ l.length * m := by
  induction l with
  | nil => simp
  | cons a l ih =>
    rw [List.flatMap_cons, List.length_append, List.length_cons, Nat.succ_mul]
    have h1 := h a (by simp)
    have h2 := ih (fun x hx => h x (by simp [hx]))
    omega
theorem attrF_small {nm : List ByteArray} {p : ByteArray × ByteArray} (h : attrOk p = true) : (attrF nm p).length ≤ 3018 := by
  have h1 := form_len (fndS nm p.1)
  have h2 := textForm_len p.2
  unfold attrOk at h
  simp only [Bool.and_eq_true, inB, decide_eq_true_eq] at h
  unfold attrF
  rw [List.length_append]
  omega
theorem attrsF_small {nm : List ByteArray} {n : PNode} (h : SmallN n) (j : Nat) : ((n.attrs.take j).flatMap (attrF nm)).length ≤ 60360 := by
  have h1 := flatLen_le (l := n.attrs.take j) (g := attrF nm) (m := 3018) (fun p hp => attrF_small (h.each p (List.mem_of_mem_take hp)))
  have h2 := h.rs
  have h3 : (n.attrs.take j).length ≤ 20 := by rw [List.length_take]; omega
  have h4 := Nat.mul_le_mul_right 3018 h3
  omega
theorem nodeF_small {nm : List ByteArray} {n : PNode} (h : SmallN n) : (nodeF nm n).length ≤ 70000 := by
  have h1 := form_len n.kind
  have h2 := form_len n.kids.length
  have h3 := form_len (fndS nm n.name)
  have h4 := form_len n.attrs.length
  have h5 := attrsF_small (nm := nm) h n.attrs.length
  rw [List.take_length] at h5
  have h6 := textForm_len n.text
  have h7 := h.tx
  unfold nodeF restF
  rw [List.length_append, List.length_append]
  repeat' split
  all_goals first | (simp only [List.length_append, List.length_nil]; omega) | omega
def headL (ns : List PNode) : List Int := form (namesL ns).length ++ (namesL ns).flatMap textForm ++ form ns.length
theorem packL_eq (ns : List PNode) : packL ns = headL ns ++ ns.flatMap (nodeF (namesL ns)) := by
  simp [packL, headL]
theorem names_small {ns : List PNode} (h : TreeOkP ns) : (∀ s ∈ namesL ns, s.size ≤ 3000) ∧ (namesL ns).length ≤ 10500 := by
  have h1 := namesF_small ns [] (fun n hn => by obtain ⟨k, hk, e⟩ := List.getElem_of_mem hn; rw [← e]; exact small_all h k hk) (fun s hs => by cases hs)
  have h2 := h.most
  rw [List.length_nil] at h1
  refine ⟨h1.1, ?_⟩
  have := h1.2
  unfold namesL
  omega
theorem texts_small {ns : List PNode} (h : TreeOkP ns) (j : Nat) : (((namesL ns).take j).flatMap textForm).length ≤ 31594500 := by
  obtain ⟨h1, h2⟩ := names_small h
  have h3 := flatLen_le (l := (namesL ns).take j) (g := textForm) (m := 3009) (fun s hs => by have := h1 s (List.mem_of_mem_take hs); have := textForm_len s; omega)
  have h4 : ((namesL ns).take j).length ≤ 10500 := by rw [List.length_take]; omega
  have h5 := Nat.mul_le_mul_right 3009 h4
  omega
theorem headL_small {ns : List PNode} (h : TreeOkP ns) : (headL ns).length ≤ 31594600 := by
  have h1 := form_len (namesL ns).length
  have h2 := form_len ns.length
  have h3 := texts_small h (namesL ns).length
  rw [List.take_length] at h3
  unfold headL
  rw [List.length_append, List.length_append]
  omega
theorem nodesF_small {ns : List PNode} {nm : List ByteArray} (h : TreeOkP ns) (k : Nat) : ((ns.take k).flatMap (nodeF nm)).length ≤ 35000000 := by
  have h1 := flatLen_le (l := ns.take k) (g := nodeF nm) (m := 70000) (fun n hn => by
    obtain ⟨k, hk, e⟩ := List.getElem_of_mem (List.mem_of_mem_take hn); rw [← e]; exact nodeF_small (small_all h k hk))
  have h2 : (ns.take k).length ≤ 500 := by rw [List.length_take]; have := h.most; omega
  have h3 := Nat.mul_le_mul_right 70000 h2
  omega
theorem packL_small {ns : List PNode} (h : TreeOkP ns) : (packL ns).length ≤ 66594600 := by
  have h1 := headL_small h
  have h2 := nodesF_small (nm := namesL ns) h ns.length
  rw [List.take_length] at h2
  rw [packL_eq, List.length_append]
  omega

theorem empB_is {s : ByteArray} (h : empB s = true) : s = ⟨#[]⟩ := by
  have h1 := (empB_iff s).mp h
  obtain ⟨d⟩ := s
  have h2 : d.size = 0 := h1
  rw [Array.size_eq_zero_iff.mp h2]
theorem tells_of {ns : List PNode} {k : Nat} (h : TreeOkP ns) (hk : k < ns.length) : Tells (namesL ns) ns[k] := by
  have hg := h.good k hk
  have hs := small_all h k hk
  have hm : ns[k] ∈ ns := List.getElem_mem hk
  obtain ⟨n, hn⟩ : ∃ n, n = ns[k] := ⟨_, rfl⟩
  have hkl := kids_few h _ hm
  have hmost := h.most
  rw [← hn] at hg hs hm hkl ⊢
  have e0 : ∀ s, empB s = true → s = ⟨#[]⟩ := fun s e => empB_is e
  have hkind : n.kind = 1 ∨ n.kind = 2 ∨ n.kind = 3 ∨ n.kind = 4 ∨ n.kind = 5 := by
    unfold goodB nodeB at hg
    repeat' split at hg
    all_goals simp_all
  unfold goodB at hg
  rw [Bool.and_eq_true] at hg
  have hg2 := hg.2
  unfold nodeB at hg2
  refine ⟨hkind, fun h2 => namesL_name hm (by unfold hasName; rcases h2 with h2 | h2 <;> simp [h2]), ?_, fun h3 p hp => ⟨namesL_attr hm hp, ?_⟩, by have := hs.rs; omega, ?_, by have := hs.tx; omega, ?_, by omega⟩
  · intro hno
    rcases hkind with e | e | e | e | e <;> simp only [e, reduceIte, Int.reduceEq, Bool.and_eq_true] at hg2
    · exact e0 _ hg2.1.1
    · exact absurd (.inl e) hno
    · exact absurd (.inr e) hno
    · exact e0 _ hg2.1.1.2
    · exact e0 _ hg2.1.1.2
  · have := hs.each p hp
    unfold attrOk at this
    simp only [Bool.and_eq_true, decide_eq_true_eq] at this
    omega
  · intro hno
    rcases hkind with e | e | e | e | e <;> simp only [e, reduceIte, Int.reduceEq, Bool.and_eq_true, decide_eq_true_eq] at hg2
    · exact List.length_eq_zero_iff.mp hg2.1.2
    · exact List.length_eq_zero_iff.mp hg2.1.1.2
    · exact absurd e hno
    · exact List.length_eq_zero_iff.mp hg2.1.2
    · exact List.length_eq_zero_iff.mp hg2.1.2
  · intro hno
    rcases hkind with e | e | e | e | e <;> simp only [e, reduceIte, Int.reduceEq, Bool.and_eq_true] at hg2
    · exact e0 _ hg2.2
    · exact e0 _ hg2.1.2
    · exact e0 _ hg2.2
    · exact absurd (.inl e) hno
    · exact absurd (.inr e) hno

def rdTop (xs : List Int) (strict : Bool) (room : Nat → Nat → Bool) : Option (List PNode) :=
  match rdP xs 0 with
  | none => none
  | some (m, i) => match rdNs xs (xs.length + 1) m i [] with
    | none => none
    | some (nm, j) => match rdP xs j with
      | none => none
      | some (c, k) => match rdN xs nm strict (room c) (xs.length + 1) (-1) [] k with
        | none => none
        | some (ns, _) => some ns
theorem rdTop_form {ns : List PNode} {strict : Bool} {room : Nat → Nat → Bool} (h : STreeOkP ns) (ht : tidyN ns = ns) (hroom : ∀ c m, m < c → c ≤ 500 → room c m = true) : rdTop (packL ns) strict room = some ns := by
  obtain ⟨s1, s2⟩ := names_small h.1
  have hmost := h.1.most
  have hone := h.1.one
  obtain ⟨xs, hxs⟩ : ∃ xs, xs = packL ns := ⟨_, rfl⟩
  have hat : AtL xs (form (namesL ns).length ++ ((namesL ns).flatMap textForm ++ (form ns.length ++ ns.flatMap (nodeF (namesL ns))))) 0 := ⟨[], [], by rw [hxs]; simp [packL], rfl⟩
  rw [← hxs]
  unfold rdTop
  rw [rdP_form hat.left (by omega)]
  simp only
  rw [rdNs_form _ _ _ _ (by omega) hat.right.left (fun s hs => by have := s1 s hs; omega)]
  simp only
  rw [rdP_form hat.right.right.left (by omega)]
  simp only
  have htd := tdL_tidy h
  rw [ht] at htd
  have hl := rdN_form (xs := xs) (nm := namesL ns) (strict := strict) (room := room ns.length) (total := ns.length) (by omega) (fun m hm => hroom _ _ hm hmost) (fun k hk => tells_of h.1 hk) ns.length 0 (-1) [] _ (xs.length + 1) (tree_deep h.1 (by omega))
    (by rw [List.length_nil, htd]; omega) (by rw [List.length_nil, htd]; exact hat.right.right.right) (by omega)
  rw [List.length_nil, htd] at hl
  rw [List.nil_append, hl]
  simp
end Go.Proofs.YtogdbjafibejdaaGreat
