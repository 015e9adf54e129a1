/- The specification's l7Names: all names of a tree, each once. No condition. -/
import Derived.Test.YtogdbjafibejdaaGreatX41
import Derived.Deep.CutRange
import Derived.Test.YtogdbjafibejdaaGreatX18
namespace Go.Proofs.YtogdbjafibejdaaGreat
open Go.RowKit
set_option maxRecDepth 100000
set_option linter.unusedVariables false

def namesA (out : List ByteArray) (rs : List (ByteArray × ByteArray)) : List ByteArray := rs.foldl (fun o r => putS o r.1) out
def hasName (n : PNode) : Bool := decide (n.kind = 3) || decide (n.kind = 2)
def namesN (out : List ByteArray) (n : PNode) : List ByteArray := namesA (if hasName n then putS out n.name else out) n.attrs
def namesL (ns : List PNode) : List ByteArray := ns.foldl namesN []
theorem putS_le (l : List ByteArray) (s : ByteArray) : (putS l s).length ≤ l.length + 1 := by
  unfold putS; split <;> simp
theorem namesA_le : ∀ (rs : List (ByteArray × ByteArray)) (out : List ByteArray), (namesA out rs).length ≤ out.length + rs.length
  | [], out => by simp [namesA]
  | r :: rs, out => by
    have h := namesA_le rs (putS out r.1)
    have h2 := putS_le out r.1
    simp only [namesA, List.foldl_cons, List.length_cons] at h ⊢
    omega
theorem namesN_le (out : List ByteArray) (n : PNode) : (namesN out n).length ≤ out.length + 1 + n.attrs.length := by
  unfold namesN
  have h := namesA_le n.attrs (if hasName n then putS out n.name else out)
  have h2 := putS_le out n.name
  split at h <;> simp_all <;> omega
theorem namesL_snoc (ns : List PNode) (n : PNode) : namesL (ns ++ [n]) = namesN (namesL ns) n := by simp [namesL]
theorem namesF_le : ∀ (ns : List PNode) (out : List ByteArray), (∀ n ∈ ns, NodeFit n) → (ns.foldl namesN out).length ≤ out.length + ns.length * 1048577
  | [], out, _ => by simp
  | x :: ns, out, hf => by
    have h1 := namesF_le ns (namesN out x) (fun n hn => hf n (by simp [hn]))
    have h2 := namesN_le out x
    have h3 := (hf x (by simp)).rs
    rw [List.foldl_cons, List.length_cons, Nat.add_mul]
    omega
theorem namesL_le (ns : List PNode) (hf : ∀ n ∈ ns, NodeFit n) (hn : ns.length ≤ 500) : (namesL ns).length ≤ 524288500 := by
  have h := namesF_le ns [] hf
  rw [List.length_nil, Nat.zero_add] at h
  unfold namesL
  omega
theorem namesA_snoc (out : List ByteArray) (rs : List (ByteArray × ByteArray)) (r : ByteArray × ByteArray) : namesA out (rs ++ [r]) = putS (namesA out rs) r.1 := by simp [namesA]

def NamW (w : World) (v : Value) (out : List ByteArray) (T : Value) (P : Nat) (row : Array Value) (W : World) : Prop :=
  OwnS w.heap.size W v out ∧ Below w.heap.size w W ∧ W.heap[w.heap.size]? = some (.cells #[T] 26 (0, 0)) ∧ W.heap[P]? = some (.cells row 36 (0, 0)) ∧ w.heap.size ≤ P
theorem NamW.put {w : World} {v u : Value} {out o2 : List ByteArray} {T : Value} {P : Nat} {row : Array Value} {W W' : World} (h : NamW w v out T P row W) (o : OwnS w.heap.size W' u o2) (g : W.grownBy W' v.ownBlock) : NamW w u o2 T P row W' := by
  obtain ⟨h1, h2, h3, h4, h5⟩ := h
  have ty : ∀ r, v.ownBlock = some r → ∃ cs fr, W.heap[r]? = some (.cells cs 9 fr) := fun r hr => by
    rcases h1.2 with ⟨e, _⟩ | ⟨g', cap', cur, e, _, hh, _⟩
    · rw [e] at hr; cases hr
    · rw [e] at hr; cases hr; exact ⟨_, _, hh⟩
  have key : ∀ {j : Nat} {cs : Array Value} {t : TypeId}, W.heap[j]? = some (.cells cs t (0, 0)) → t ≠ 9 → W'.heap[j]? = some (.cells cs t (0, 0)) := fun {j cs t} hj ht =>
    (g.block j (blk_lt hj) (fun e => by obtain ⟨cs2, fr2, hh⟩ := ty j e.symm; rw [hj] at hh; cases hh; exact ht rfl)).trans hj
  exact ⟨o, h2.grown g h2.size (fun r e => (World.ownsRow.lt h1 r e).1), key h3 (by decide), key h4 (by decide), h5⟩

set_option maxHeartbeats 4000000 in
set_option maxRecDepth 100000 in
theorem snames_any {w : World} {v : Value} {ns : List PNode} (hn : NodesAt w v ns) (hfit : ∀ n ∈ ns, NodeFit n) (hlen : ns.length ≤ 500) :
    Calls Tryz.prog 87 #[.agg #[v]] w fun e w' => ∃ u, e = .returned u ∧ OwnS w.heap.size w' u (namesL ns) ∧ Below w.heap.size w w' := by
  obtain ⟨a, ca, rfl, h1, h2, h3⟩ := hn.slice
  have HX := (show Hid _ from h3)
  have HF := (show Hid (∀ n ∈ ns, NodeFit n) from hfit)
  obtain ⟨w2, hw2⟩ : ∃ x, x = (w.alloc (.cells #[.slice a ns.length ca] 26)).alloc (.cells #[] 9) := ⟨_, rfl⟩
  have b2 : Below w.heap.size w w2 := by rw [hw2]; exact ((Below.refl _ w).alloc (Nat.le_refl _) _).alloc (by simp) _
  have gT : w2.heap[w.heap.size]? = some (.cells #[.slice a ns.length ca] 26 (0, 0)) := by rw [hw2, Below.heap_alloc _ _ _ (by simp)]; exact World.alloc_heap_new _ _
  have o2 : OwnS w.heap.size w2 (.slice (some ⟨w.heap.size + 1, 0, none⟩) 0 0) (namesL (ns.take 0)) := by
    have := empty_row (w.alloc (.cells #[.slice a ns.length ca] 26)) w.heap.size 9 1 (by simp)
    rw [World.size_alloc, ← hw2] at this
    exact this
  have O2 := (show Hid _ from o2)
  have GT := (show Hid _ from gT)
  have B2 := (show Hid _ from b2)
  clear h3 hn hfit b2 gT o2
  go_enter Tryz.func87, Tryz.ntmps87
  go_wp2
  rw [← hw2]
  clear hw2
  go_loopw [3, 4] (fun o i wr => ∃ (k : Nat) (x : Option Addr) (y z : Nat), k ≤ ns.length ∧ i = .int .i64 k ∧ o = .slice x y z ∧ Hid (OwnS w.heap.size wr (.slice x y z) (namesL (ns.take k)) ∧ Below w.heap.size w wr ∧ wr.heap[w.heap.size]? = some (.cells #[.slice a ns.length ca] 26 (0, 0)))) (fun _ i _ => ns.length - (intOf i).toNat)
  case atStart => exact ⟨0, _, _, _, Nat.zero_le _, rfl, rfl, O2.out, B2.out, GT.out⟩
  case round =>
    obtain ⟨k, x, y, z, hk, rfl, rfl, R⟩ := hrel
    obtain ⟨cT, _⟩ := one_cell R.out.2.2
    have lT := blk_lt R.out.2.2
    by_cases hlt : k < ns.length
    rotate_left
    · obtain rfl : k = ns.length := by omega
      have HE := (show Hid (OwnS w.heap.size wr (.slice x y z) (namesL ns)) from by have := R.out.1; rwa [List.take_length] at this)
      go_wp2
      go_ret
      exact ⟨_, rfl, HE.out, R.out.2.1⟩
    obtain ⟨b1, o1, av, kv, rfl, hb1, c0, c1, c2, c3, c4, c5, hav, hkv⟩ := HX.out k hlt
    have BW := R.out.2.1
    replace c0 := (BW.cell (p := ⟨b1, o1 + k * 6, none⟩) hb1).trans c0
    replace c1 := (BW.cell (p := ⟨b1, o1 + k * 6 + 1, none⟩) hb1).trans c1
    replace c2 := (BW.cell (p := ⟨b1, o1 + k * 6 + 2, none⟩) hb1).trans c2
    replace c3 := (BW.cell (p := ⟨b1, o1 + k * 6 + 3, none⟩) hb1).trans c3
    replace c4 := (BW.cell (p := ⟨b1, o1 + k * 6 + 4, none⟩) hb1).trans c4
    replace c5 := (BW.cell (p := ⟨b1, o1 + k * 6 + 5, none⟩) hb1).trans c5
    have hb1' : b1 < wr.heap.size := Nat.lt_of_lt_of_le hb1 BW.size
    have HT := (show Hid (namesL (ns.take (k + 1)) = namesN (namesL (ns.take k)) ns[k]) from (by rw [List.take_succ_eq_append_getElem hlt, namesL_snoc] : namesL (ns.take (k + 1)) = namesN (namesL (ns.take k)) ns[k]))
    have hle : (namesL (ns.take k)).length ≤ 524288500 := namesL_le (ns.take k) (fun n hn => HF.out n (List.mem_of_mem_take hn)) (by rw [List.length_take]; omega)
    have hrs := (HF.out _ (List.getElem_mem hlt)).rs
    obtain ⟨n, hnd⟩ : ∃ n, n = ns[k] := ⟨_, rfl⟩
    obtain ⟨out, hout⟩ : ∃ out, out = namesL (ns.take k) := ⟨_, rfl⟩
    rw [← hnd] at c0 c1 c3 c4 hav hkv hrs HT
    rw [← hout] at hle HT R
    obtain ⟨y1, y3, rfl, ha1, ha2, ha3⟩ := hav.pair
    obtain ⟨p1, p3, rfl, hp1, hp2, _, _⟩ := hkv
    obtain ⟨nk, nn, na, nt, np, nks⟩ := n
    simp only at c0 c1 c2 c3 c4 c5 hrs ha1
    have A3 := (show Hid _ from ha3)
    have hki : (k : Int) < (ns.length : Int) := by omega
    clear ha3 hnd hout hav BW
    go_upto_region 6 with fail
    obtain ⟨w6, hw6⟩ : ∃ q, q = wr.alloc (.cells #[.int .i64 nk, .string nn, .slice y1 na.length y3, .string nt, .int .i64 np, .slice p1 nks.length p3] 36) := ⟨_, rfl⟩
    rw [← hw6]
    have b6 : Below wr.heap.size wr w6 := by rw [hw6]; exact (Below.refl _ _).alloc (Nat.le_refl _) _
    have g6 : w6.heap[wr.heap.size]? = some (.cells #[.int .i64 nk, .string nn, .slice y1 na.length y3, .string nt, .int .i64 np, .slice p1 nks.length p3] 36 (0, 0)) := by rw [hw6]; exact World.alloc_heap_new _ _
    have N6 := (show Hid (NamW w (.slice x y z) out (.slice (some ⟨b1, o1, none⟩) ns.length ca) wr.heap.size #[.int .i64 nk, .string nn, .slice y1 na.length y3, .string nt, .int .i64 np, .slice p1 nks.length p3] w6) from ⟨R.out.1.below b6, R.out.2.1.trans (b6.mono R.out.2.1.size), (b6.block _ lT).trans R.out.2.2, g6, R.out.2.1.size⟩)
    obtain ⟨⟨n0, n1, n2, n3, n4, n5⟩, _⟩ := six_at g6
    have hB6 : w.heap.size ≤ w6.heap.size := N6.out.2.1.size
    obtain ⟨P, hP⟩ : ∃ P, P = wr.heap.size := ⟨_, rfl⟩
    rw [← hP] at n0 n1 n2 n3 n4 n5 N6 ⊢
    clear hw6 b6 g6 hP R cT lT c0 c1 c2 c3 c4 c5 hb1'
    by_cases e3 : nk = 3
    · subst e3
      go_wp2_with fail
      go_at_call 133
      refine Calls.mono (sputS_any N6.out.1 hB6 (by omega) nn) ?_
      rintro e w7 ⟨u, rfl, o7, g7⟩
      have N7 := (show Hid _ from N6.out.put o7 g7)
      obtain ⟨ua, un, uc, rfl⟩ := own_slice o7
      obtain ⟨⟨n0, n1, n2, n3, n4, n5⟩, _⟩ := six_at N7.out.2.2.2.1
      have hlP := blk_lt N7.out.2.2.2.1
      clear o7 g7
      have HOL := (show Hid ((putS out nn : List ByteArray).length ≤ 524288501) from (by have := putS_le out nn; omega : (putS out nn : List ByteArray).length ≤ 524288501))
      have HEN := (show Hid (namesN out ⟨3, nn, na, nt, np, nks⟩ = namesA (putS out nn) na) from (by simp [namesN, hasName] : namesN out ⟨3, nn, na, nt, np, nks⟩ = namesA (putS out nn) na))
      go_upto_region 9 with fail
      go_loopw [3, 6] (fun o i wx => ∃ (j : Nat) (x : Option Addr) (y z : Nat), j ≤ na.length ∧ i = .int .i64 j ∧ o = .slice x y z ∧ Hid (NamW w (.slice x y z) (namesA (putS out nn) (na.take j)) (.slice (some ⟨b1, o1, none⟩) ns.length ca) P #[.int .i64 3, .string nn, .slice y1 na.length y3, .string nt, .int .i64 np, .slice p1 nks.length p3] wx)) (fun _ i _ => na.length - (intOf i).toNat)
      case atStart => exact ⟨0, _, _, _, Nat.zero_le _, rfl, rfl, N7.out⟩
      case round =>
        clear n0 n1 n2 n3 n4 n5 N6
        obtain ⟨j, x', y', z', hj, rfl, rfl, J⟩ := hrel
        obtain ⟨⟨m0, m1, m2, m3, m4, m5⟩, _⟩ := six_at J.out.2.2.2.1
        have lP := blk_lt J.out.2.2.2.1
        have hBj : w.heap.size ≤ wr.heap.size := J.out.2.1.size
        by_cases hjt : j < na.length
        · obtain ⟨bb, oo, rfl, l1, t1, t2⟩ := A3.out j hjt
          have t3 := (J.out.2.1.cell (p := ⟨bb, oo + j * 2, none⟩) l1).trans t1
          have HTJ := (show Hid (namesA (putS out nn) (na.take (j + 1)) = putS (namesA (putS out nn) (na.take j)) na[j].1) from (by rw [List.take_succ_eq_append_getElem hjt, namesA_snoc] : namesA (putS out nn) (na.take (j + 1)) = putS (namesA (putS out nn) (na.take j)) na[j].1))
          have hlj : (namesA (putS out nn) (na.take j)).length ≤ 1000000000000 := by
            have h := namesA_le (na.take j) (putS out nn)
            rw [List.length_take] at h
            have h2 := HOL.out
            omega
          obtain ⟨s, hs⟩ : ∃ s, s = na[j].1 := ⟨_, rfl⟩
          rw [← hs] at t3 HTJ
          have HLJ := (show Hid _ from hlj)
          have hji : (j : Int) < (na.length : Int) := by omega
          have lbb : bb < wr.heap.size := Nat.lt_of_lt_of_le l1 hBj
          clear hs t1 t2 hlj
          go_wp2_with fail
          go_at_call 133
          refine Calls.mono (sputS_any J.out.1 hBj HLJ.out s) ?_
          rintro e w8 ⟨u, rfl, o8, g8⟩
          have N8 := (show Hid _ from J.out.put o8 g8)
          obtain ⟨ua, un, uc, rfl⟩ := own_slice o8
          clear o8 g8
          go_wp2
          go_roundw
          case rel => exact ⟨j + 1, _, _, _, by omega, by go_num, rfl, by rw [HTJ.out]; exact N8.out⟩
          case measure => simp [intOf]; omega
        · obtain rfl : j = na.length := by omega
          have HE := (show Hid (OwnS w.heap.size wr (.slice x' y' z') (namesL (ns.take (k + 1))) ∧ Below w.heap.size w wr ∧ wr.heap[w.heap.size]? = some (.cells #[(.slice (some ⟨b1, o1, none⟩) ns.length ca)] 26 (0, 0))) from (by
            have h := J.out
            rw [List.take_length] at h
            rw [HT.out, HEN.out]
            exact ⟨h.1, h.2.1, h.2.2.1⟩ : OwnS w.heap.size wr (.slice x' y' z') (namesL (ns.take (k + 1))) ∧ Below w.heap.size w wr ∧ wr.heap[w.heap.size]? = some (.cells #[(.slice (some ⟨b1, o1, none⟩) ns.length ca)] 26 (0, 0))))
          go_wp2
          go_roundw
          case rel => exact ⟨k + 1, _, _, _, by omega, by go_num, rfl, HE.out⟩
          case measure => simp [intOf]; omega
    by_cases e2 : nk = 2
    · subst e2
      go_wp2_with fail
      go_at_call 133
      refine Calls.mono (sputS_any N6.out.1 hB6 (by omega) nn) ?_
      rintro e w7 ⟨u, rfl, o7, g7⟩
      have N7 := (show Hid _ from N6.out.put o7 g7)
      obtain ⟨ua, un, uc, rfl⟩ := own_slice o7
      obtain ⟨⟨n0, n1, n2, n3, n4, n5⟩, _⟩ := six_at N7.out.2.2.2.1
      have hlP := blk_lt N7.out.2.2.2.1
      clear o7 g7
      have HOL := (show Hid ((putS out nn : List ByteArray).length ≤ 524288501) from (by have := putS_le out nn; omega : (putS out nn : List ByteArray).length ≤ 524288501))
      have HEN := (show Hid (namesN out ⟨2, nn, na, nt, np, nks⟩ = namesA (putS out nn) na) from (by simp [namesN, hasName] : namesN out ⟨2, nn, na, nt, np, nks⟩ = namesA (putS out nn) na))
      go_upto_region 9 with fail
      go_loopw [3, 6] (fun o i wx => ∃ (j : Nat) (x : Option Addr) (y z : Nat), j ≤ na.length ∧ i = .int .i64 j ∧ o = .slice x y z ∧ Hid (NamW w (.slice x y z) (namesA (putS out nn) (na.take j)) (.slice (some ⟨b1, o1, none⟩) ns.length ca) P #[.int .i64 2, .string nn, .slice y1 na.length y3, .string nt, .int .i64 np, .slice p1 nks.length p3] wx)) (fun _ i _ => na.length - (intOf i).toNat)
      case atStart => exact ⟨0, _, _, _, Nat.zero_le _, rfl, rfl, N7.out⟩
      case round =>
        clear n0 n1 n2 n3 n4 n5 N6
        obtain ⟨j, x', y', z', hj, rfl, rfl, J⟩ := hrel
        obtain ⟨⟨m0, m1, m2, m3, m4, m5⟩, _⟩ := six_at J.out.2.2.2.1
        have lP := blk_lt J.out.2.2.2.1
        have hBj : w.heap.size ≤ wr.heap.size := J.out.2.1.size
        by_cases hjt : j < na.length
        · obtain ⟨bb, oo, rfl, l1, t1, t2⟩ := A3.out j hjt
          have t3 := (J.out.2.1.cell (p := ⟨bb, oo + j * 2, none⟩) l1).trans t1
          have HTJ := (show Hid (namesA (putS out nn) (na.take (j + 1)) = putS (namesA (putS out nn) (na.take j)) na[j].1) from (by rw [List.take_succ_eq_append_getElem hjt, namesA_snoc] : namesA (putS out nn) (na.take (j + 1)) = putS (namesA (putS out nn) (na.take j)) na[j].1))
          have hlj : (namesA (putS out nn) (na.take j)).length ≤ 1000000000000 := by
            have h := namesA_le (na.take j) (putS out nn)
            rw [List.length_take] at h
            have h2 := HOL.out
            omega
          obtain ⟨s, hs⟩ : ∃ s, s = na[j].1 := ⟨_, rfl⟩
          rw [← hs] at t3 HTJ
          have HLJ := (show Hid _ from hlj)
          have hji : (j : Int) < (na.length : Int) := by omega
          have lbb : bb < wr.heap.size := Nat.lt_of_lt_of_le l1 hBj
          clear hs t1 t2 hlj
          go_wp2_with fail
          go_at_call 133
          refine Calls.mono (sputS_any J.out.1 hBj HLJ.out s) ?_
          rintro e w8 ⟨u, rfl, o8, g8⟩
          have N8 := (show Hid _ from J.out.put o8 g8)
          obtain ⟨ua, un, uc, rfl⟩ := own_slice o8
          clear o8 g8
          go_wp2
          go_roundw
          case rel => exact ⟨j + 1, _, _, _, by omega, by go_num, rfl, by rw [HTJ.out]; exact N8.out⟩
          case measure => simp [intOf]; omega
        · obtain rfl : j = na.length := by omega
          have HE := (show Hid (OwnS w.heap.size wr (.slice x' y' z') (namesL (ns.take (k + 1))) ∧ Below w.heap.size w wr ∧ wr.heap[w.heap.size]? = some (.cells #[(.slice (some ⟨b1, o1, none⟩) ns.length ca)] 26 (0, 0))) from (by
            have h := J.out
            rw [List.take_length] at h
            rw [HT.out, HEN.out]
            exact ⟨h.1, h.2.1, h.2.2.1⟩ : OwnS w.heap.size wr (.slice x' y' z') (namesL (ns.take (k + 1))) ∧ Below w.heap.size w wr ∧ wr.heap[w.heap.size]? = some (.cells #[(.slice (some ⟨b1, o1, none⟩) ns.length ca)] 26 (0, 0))))
          go_wp2
          go_roundw
          case rel => exact ⟨k + 1, _, _, _, by omega, by go_num, rfl, HE.out⟩
          case measure => simp [intOf]; omega
    have hlP := blk_lt N6.out.2.2.2.1
    have HOL := (show Hid ((out : List ByteArray).length ≤ 524288501) from (by omega : (out : List ByteArray).length ≤ 524288501))
    have HEN := (show Hid (namesN out ⟨nk, nn, na, nt, np, nks⟩ = namesA (out) na) from (by simp [namesN, hasName, e2, e3] : namesN out ⟨nk, nn, na, nt, np, nks⟩ = namesA (out) na))
    go_upto_region 9 with fail
    · exact absurd ‹(nk == 3) = true ∨ (nk == 2) = true› (by simp [e2, e3])
    go_loopw [3, 6] (fun o i wx => ∃ (j : Nat) (x : Option Addr) (y z : Nat), j ≤ na.length ∧ i = .int .i64 j ∧ o = .slice x y z ∧ Hid (NamW w (.slice x y z) (namesA (out) (na.take j)) (.slice (some ⟨b1, o1, none⟩) ns.length ca) P #[.int .i64 nk, .string nn, .slice y1 na.length y3, .string nt, .int .i64 np, .slice p1 nks.length p3] wx)) (fun _ i _ => na.length - (intOf i).toNat)
    case atStart => exact ⟨0, _, _, _, Nat.zero_le _, rfl, rfl, N6.out⟩
    case round =>
      clear n0 n1 n2 n3 n4 n5 N6
      obtain ⟨j, x', y', z', hj, rfl, rfl, J⟩ := hrel
      obtain ⟨⟨m0, m1, m2, m3, m4, m5⟩, _⟩ := six_at J.out.2.2.2.1
      have lP := blk_lt J.out.2.2.2.1
      have hBj : w.heap.size ≤ wr.heap.size := J.out.2.1.size
      by_cases hjt : j < na.length
      · obtain ⟨bb, oo, rfl, l1, t1, t2⟩ := A3.out j hjt
        have t3 := (J.out.2.1.cell (p := ⟨bb, oo + j * 2, none⟩) l1).trans t1
        have HTJ := (show Hid (namesA (out) (na.take (j + 1)) = putS (namesA (out) (na.take j)) na[j].1) from (by rw [List.take_succ_eq_append_getElem hjt, namesA_snoc] : namesA (out) (na.take (j + 1)) = putS (namesA (out) (na.take j)) na[j].1))
        have hlj : (namesA (out) (na.take j)).length ≤ 1000000000000 := by
          have h := namesA_le (na.take j) (out)
          rw [List.length_take] at h
          have h2 := HOL.out
          omega
        obtain ⟨s, hs⟩ : ∃ s, s = na[j].1 := ⟨_, rfl⟩
        rw [← hs] at t3 HTJ
        have HLJ := (show Hid _ from hlj)
        have hji : (j : Int) < (na.length : Int) := by omega
        have lbb : bb < wr.heap.size := Nat.lt_of_lt_of_le l1 hBj
        clear hs t1 t2 hlj
        go_wp2_with fail
        go_at_call 133
        refine Calls.mono (sputS_any J.out.1 hBj HLJ.out s) ?_
        rintro e w8 ⟨u, rfl, o8, g8⟩
        have N8 := (show Hid _ from J.out.put o8 g8)
        obtain ⟨ua, un, uc, rfl⟩ := own_slice o8
        clear o8 g8
        go_wp2
        go_roundw
        case rel => exact ⟨j + 1, _, _, _, by omega, by go_num, rfl, by rw [HTJ.out]; exact N8.out⟩
        case measure => simp [intOf]; omega
      · obtain rfl : j = na.length := by omega
        have HE := (show Hid (OwnS w.heap.size wr (.slice x' y' z') (namesL (ns.take (k + 1))) ∧ Below w.heap.size w wr ∧ wr.heap[w.heap.size]? = some (.cells #[(.slice (some ⟨b1, o1, none⟩) ns.length ca)] 26 (0, 0))) from (by
          have h := J.out
          rw [List.take_length] at h
          rw [HT.out, HEN.out]
          exact ⟨h.1, h.2.1, h.2.2.1⟩ : OwnS w.heap.size wr (.slice x' y' z') (namesL (ns.take (k + 1))) ∧ Below w.heap.size w wr ∧ wr.heap[w.heap.size]? = some (.cells #[(.slice (some ⟨b1, o1, none⟩) ns.length ca)] 26 (0, 0))))
        go_wp2
        go_roundw
        case rel => exact ⟨k + 1, _, _, _, by omega, by go_num, rfl, HE.out⟩
        case measure => simp [intOf]; omega
end Go.Proofs.YtogdbjafibejdaaGreat

/- The form of a pack, plainly. No condition. -/
namespace Go.Proofs.YtogdbjafibejdaaGreat
open Go.RowKit
set_option maxRecDepth 100000
set_option linter.unusedVariables false

def attrF (nm : List ByteArray) (a : ByteArray × ByteArray) : List Int := form (fndS nm a.1) ++ textForm a.2
def restF (nm : List ByteArray) (n : PNode) : List Int :=
  if n.kind = 2 then form (fndS nm n.name)
  else if n.kind = 3 then form (fndS nm n.name) ++ (form n.attrs.length ++ n.attrs.flatMap (attrF nm))
  else if n.kind = 4 ∨ n.kind = 5 then textForm n.text else []
def nodeF (nm : List ByteArray) (n : PNode) : List Int := form n.kind ++ (form n.kids.length ++ restF nm n)
def packL (ns : List PNode) : List Int :=
  form (namesL ns).length ++ ((namesL ns).flatMap textForm ++ (form ns.length ++ ns.flatMap (nodeF (namesL ns))))
theorem putS_mem (l : List ByteArray) (s : ByteArray) : s ∈ putS l s := by
  unfold putS
  split
  · simp
  · rename_i h
    by_cases hm : s ∈ l
    · exact hm
    · exact absurd (by rw [fndS_none l s hm]; omega) h
theorem putS_keep {l : List ByteArray} {s x : ByteArray} (h : x ∈ l) : x ∈ putS l s := by
  unfold putS; split
  · exact List.mem_append_left _ h
  · exact h
theorem namesA_keep : ∀ (rs : List (ByteArray × ByteArray)) (out : List ByteArray) (x : ByteArray), x ∈ out → x ∈ namesA out rs
  | [], _, _, h => h
  | r :: rs, out, x, h => namesA_keep rs (putS out r.1) x (putS_keep h)
theorem namesA_mem : ∀ (rs : List (ByteArray × ByteArray)) (out : List ByteArray) (r : ByteArray × ByteArray), r ∈ rs → r.1 ∈ namesA out rs
  | q :: rs, out, r, h => by
    rcases List.mem_cons.mp h with rfl | h
    · exact namesA_keep rs _ _ (putS_mem _ _)
    · exact namesA_mem rs _ r h
theorem namesN_keep {n : PNode} {out : List ByteArray} {x : ByteArray} (h : x ∈ out) : x ∈ namesN out n := by
  unfold namesN
  refine namesA_keep _ _ _ ?_
  split
  · exact putS_keep h
  · exact h
theorem namesF_keep : ∀ (ns : List PNode) (out : List ByteArray) (x : ByteArray), x ∈ out → x ∈ ns.foldl namesN out
  | [], _, _, h => h
  | n :: ns, out, x, h => namesF_keep ns _ x (namesN_keep h)
theorem namesF_mem : ∀ (ns : List PNode) (out : List ByteArray) (n : PNode), n ∈ ns → (hasName n = true → n.name ∈ ns.foldl namesN out) ∧ ∀ r ∈ n.attrs, r.1 ∈ ns.foldl namesN out
  | q :: ns, out, n, h => by
    rcases List.mem_cons.mp h with rfl | h
    · constructor
      · intro hn
        refine namesF_keep ns _ _ ?_
        unfold namesN
        rw [if_pos hn]
        exact namesA_keep _ _ _ (putS_mem _ _)
      · intro r hr
        exact namesF_keep ns _ _ (namesA_mem _ _ r hr)
    · exact namesF_mem ns _ n h
theorem namesL_name {ns : List PNode} {n : PNode} (h : n ∈ ns) (hn : hasName n = true) : n.name ∈ namesL ns := (namesF_mem ns [] n h).1 hn
theorem namesL_attr {ns : List PNode} {n : PNode} (h : n ∈ ns) {r : ByteArray × ByteArray} (hr : r ∈ n.attrs) : r.1 ∈ namesL ns := (namesF_mem ns [] n h).2 r hr
theorem fndS_tells : ∀ (l : List ByteArray) (s : ByteArray), s ∈ l → (fndS l s).toNat < l.length ∧ l[(fndS l s).toNat]? = some s
  | x :: l, s, h => by
    rw [fndS]
    by_cases e : x = s
    · rw [if_pos e]; subst e; simp
    · have hm : s ∈ l := by
        rcases List.mem_cons.mp h with h | h
        · exact absurd h.symm e
        · exact h
      have h0 := fndS_neg hm
      obtain ⟨h1, h2⟩ := fndS_tells l s hm
      rw [if_neg e, if_neg (by omega)]
      have : (fndS l s + 1).toNat = (fndS l s).toNat + 1 := by omega
      rw [this, List.length_cons]
      exact ⟨by omega, by simpa using h2⟩
end Go.Proofs.YtogdbjafibejdaaGreat
