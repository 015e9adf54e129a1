/- The program's packer: tree; a tidied page has no Parent. No condition. -/
import Derived.Test.YtogdbjafibejdaaGreatX46
import Derived.Test.YtogdbjafibejdaaGreatX43
import Derived.Test.YtogdbjafibejdaaGreatX38
import Derived.Test.YtogdbjafibejdaaGreatX45
import Derived.Test.YtogdbjafibejdaaGreatX37
import Derived.Test.YtogdbjafibejdaaGreatX35
import Derived.Test.YtogdbjafibejdaaGreatX4
namespace Go.Proofs.YtogdbjafibejdaaGreat
open Go.RowKit Go.Maps
set_option maxRecDepth 100000
set_option linter.unusedVariables false

theorem parOf_app {A : List PNode} (h : 1 ≤ A.length) (n : PNode) : parOf (A ++ [n]) 0 = parOf A 0 := by
  unfold parOf
  rw [List.getElem?_append_left (by omega)]
theorem aloneAt_par (ns : List PNode) (k : Nat) : (aloneAt ns k).parent = -1 := by
  unfold aloneAt
  cases ns[k]? with
  | none => rfl
  | some a => rfl
theorem tidyL_par0 (ns : List PNode) (l : List Int) : parOf (tidyL ns ((0 : Int) :: l)).1 0 = -1 := by
  have key : ∀ l : List Int, parOf (tidyL ns ((0 : Int) :: l)).1 0 = -1 ∧ 1 ≤ (tidyL ns ((0 : Int) :: l)).1.length := fun l => by
    refine snoc_ind (P := fun l => parOf (tidyL ns ((0 : Int) :: l)).1 0 = -1 ∧ 1 ≤ (tidyL ns ((0 : Int) :: l)).1.length) ?_ ?_ l
    · have : (tidyL ns [(0 : Int)]).1 = [aloneAt ns 0] := by simp [tidyL, tidyStep]
      rw [this]
      refine ⟨?_, by simp⟩
      simp only [parOf, List.getElem?_cons_zero, Option.map_some, Option.getD_some]
      exact aloneAt_par ns 0
    · intro l x ih
      rw [← List.cons_append, tidyL_snoc]
      have hl := tidyStep_len ns (tidyL ns ((0 : Int) :: l)) x
      refine ⟨?_, by omega⟩
      unfold tidyStep
      split
      · simp only
        rw [parOf_app ih.2]
        exact ih.1
      · simp only
        rw [parOf_hangN (by simp), if_neg (by omega), parOf_app ih.2]
        exact ih.1
  exact (key l).1
theorem tidy_strict {ns : List PNode} (h : TreeOkP ns) (e : tidyN ns = ns) : STreeOkP ns := by
  refine ⟨h, ?_⟩
  have h1 := h.one
  obtain ⟨t, ht⟩ := down_head (tree_deep h (k := 0) (by omega))
  have h2 := tidyL_par0 ns t
  have h3 : (tidyL ns ((0 : Int) :: t)).1 = tidyN ns := by
    unfold tidyN
    rw [ht]
    rfl
  rw [h3, e] at h2
  exact h2
theorem OwnS.bytes {B K : Nat} {W W' : World} {u : Value} {nm : List ByteArray} (o : OwnS B W u nm) (f : BytFr B K W W') (hK : ∀ cs fr, W.heap[K]? = some (.cells cs 9 fr) → False) : OwnS B W' u nm := by
  rcases o.2 with ⟨rfl, h0⟩ | ⟨g, cap, cur, rfl, hB, hh, r1, r2, r3, r4⟩
  · exact ⟨o.1, .inl ⟨rfl, h0⟩⟩
  · exact ⟨o.1, .inr ⟨g, cap, cur, rfl, hB, (f.block g (blk_lt hh) (fun e => hK _ _ (e ▸ hh)) (.inr (fun cs t fr e => by rw [hh] at e; cases e; decide))).trans hh, r1, r2, r3, r4⟩⟩
def TrD (w0 : World) (K N M : Nat) (nm : List ByteArray) (u T : Value) (P : Nat) (out : List Int) (W : World) : Prop :=
  PkI w0 K N M nm out W ∧ OwnS w0.heap.size W u nm ∧ W.heap[P]? = some (.cells #[T] 26 (0, 0)) ∧ P ≠ K ∧ W.heap[N]? = some (.cells #[u, .map (some M)] 150 (0, 0)) ∧ N ≠ K
theorem TrD.next {w0 : World} {K N M : Nat} {nm : List ByteArray} {u T : Value} {P : Nat} {out out2 : List Int} {W W' : World} (h : TrD w0 K N M nm u T P out W) (h2 : PkI w0 K N M nm out2 W') (f : BytFr w0.heap.size K W W') : TrD w0 K N M nm u T P out2 W' := by
  refine ⟨h2, h.2.1.bytes f ?_, f.box h.2.2.1 (by decide) h.2.2.2.1, h.2.2.2.1, f.box h.2.2.2.2.1 (by decide) h.2.2.2.2.2, h.2.2.2.2.2⟩
  obtain ⟨_, _, _, v, hK, _⟩ := h.1
  exact fun cs fr e => by rw [hK] at e; cases e
theorem TrD.box {w0 : World} {K N M : Nat} {nm : List ByteArray} {u T : Value} {P : Nat} {out : List Int} {W : World} (h : TrD w0 K N M nm u T P out W) (o : Obj) : TrD w0 K N M nm u T P out (W.alloc o) := by
  have b : Below W.heap.size W (W.alloc o) := (Below.refl _ _).alloc (Nat.le_refl _) _
  exact h.next (PkI.below h.1 b) (BytFr.of_below b)

set_option maxHeartbeats 8000000 in
set_option maxRecDepth 100000 in
theorem ipkTree_any {w0 w : World} {K N M : Nat} {v : Value} {ns : List PNode} (h : PkI w0 K N M (namesL ns) [] w) (hn : NodesAt w0 v ns) (ht : TreeOkP ns) :
    Calls Tryz.prog 84 #[.pointer (some ⟨K, 0, none⟩), .agg #[v]] w fun e w' => e = .returned (.tuple #[]) ∧ PkI w0 K N M (namesL ns) (packL ns) w' := by
  obtain ⟨a, ca, rfl, _, _, h3⟩ := hn.slice
  have HX := (show Hid _ from h3)
  have HT5 := (show Hid (TreeOkP ns) from ht)
  have NMs := names_small ht
  have hmost := ht.most
  have HM := (show Hid _ from NMs)
  have hnl := NMs.2
  obtain ⟨nm, hnm⟩ : ∃ nm, nm = namesL ns := ⟨_, rfl⟩
  rw [← hnm] at h hnl HM ⊢
  have HNM := (show Hid (nm = namesL ns) from hnm)
  have hKl := PkI.lt h
  obtain ⟨w2, hw2⟩ : ∃ q, q = w.alloc (.cells #[.slice a ns.length ca] 26) := ⟨_, rfl⟩
  have b2 : Below w.heap.size w w2 := by rw [hw2]; exact (Below.refl _ _).alloc (Nat.le_refl _) _
  have g2 : w2.heap[w.heap.size]? = some (.cells #[.slice a ns.length ca] 26 (0, 0)) := by rw [hw2]; exact World.alloc_heap_new _ _
  have h2 := PkI.below h b2
  obtain ⟨_, _, hNm2, v2, hK2, _⟩ := (show _ ∧ _ ∧ _ ∧ _ from h2)
  obtain ⟨_, _, u, D, dn, hN2, oS, _, _, _⟩ := hNm2
  obtain ⟨ua, un, uc, rfl⟩ := own_slice oS
  obtain ⟨enn, _⟩ := str_cell (OwnS.sv oS)
  subst enn
  have D2 := (show Hid (TrD w0 K N M nm (.slice ua nm.length uc) (.slice a ns.length ca) w.heap.size [] w2) from ⟨h2, oS, g2, by omega, hN2, fun e => by rw [e, hK2] at hN2; cases hN2⟩)
  obtain ⟨cK0, cK1, _, _⟩ := two_cells hK2
  obtain ⟨cN0, cN1, _, _⟩ := two_cells hN2
  have lK := blk_lt hK2
  have lN := blk_lt hN2
  clear h3 hn ht NMs h hnm b2 g2 h2 hK2 hN2 oS hKl
  go_enter Tryz.func84, Tryz.ntmps84
  go_upto_region 1 with fail
  rw [← hw2]
  clear hw2
  go_wp2_with fail
  go_at_call 129
  refine Calls.mono (ipkNum_any D2.out.1 (nm.length : Nat) (by omega) (by omega) (by simp)) ?_
  rintro e w3 ⟨rfl, h3, f3⟩
  have D3 := (show Hid (TrD w0 K N M nm (.slice ua nm.length uc) (.slice a ns.length ca) w.heap.size (form (nm.length : Nat) ++ (nm.take 0).flatMap textForm) w3) from (by rw [List.take_zero, List.flatMap_nil, List.append_nil]; rw [List.nil_append] at h3; exact TrD.next D2.out h3 f3 : TrD w0 K N M nm (.slice ua nm.length uc) (.slice a ns.length ca) w.heap.size (form (nm.length : Nat) ++ (nm.take 0).flatMap textForm) w3))
  clear h3 f3 D2 cK0 cK1 cN0 cN1 lK lN
  obtain ⟨_, _, _, v3, hK3, _⟩ := (show _ ∧ _ ∧ _ ∧ _ from D3.out.1)
  obtain ⟨cK0, cK1, _, _⟩ := two_cells hK3
  obtain ⟨cN0, cN1, _, _⟩ := two_cells D3.out.2.2.2.2.1
  have lK := blk_lt hK3
  have lN := blk_lt D3.out.2.2.2.2.1
  clear hK3
  go_upto_region 3 with fail
  clear cK0 cK1 cN0 cN1 lK lN
  have hfl := form_len (nm.length : Nat)
  go_loopw [26] (fun i wr => ∃ (j : Nat), j ≤ nm.length ∧ i = .int .i64 j ∧ Hid (TrD w0 K N M nm (.slice ua nm.length uc) (.slice a ns.length ca) w.heap.size (form (nm.length : Nat) ++ (nm.take j).flatMap textForm) wr)) (fun i _ => nm.length - (intOf i).toNat)
  case atStart => exact ⟨0, Nat.zero_le _, rfl, D3⟩
  case round =>
    clear D3
    obtain ⟨j, hj, rfl, J⟩ := hrel
    have htl := texts_small HT5.out j
    rw [← HNM.out] at htl
    by_cases hjt : j < nm.length
    · obtain ⟨_, SC⟩ := str_cell (OwnS.sv J.out.2.1)
      obtain ⟨bb, oo, rfl, lbb, csj⟩ := SC j hjt
      have hji : (j : Int) < (nm.length : Int) := by omega
      obtain ⟨s, hs⟩ : ∃ s, s = nm[j] := ⟨_, rfl⟩
      rw [← hs] at csj
      have hss : s.size ≤ 3000 := HM.out.1 s (by rw [hs]; exact List.getElem_mem hjt)
      have HTJ := (show Hid ((nm.take (j + 1)).flatMap textForm = (nm.take j).flatMap textForm ++ textForm s) from (by rw [List.take_succ_eq_append_getElem hjt, ← hs, List.flatMap_append, List.flatMap_singleton] : (nm.take (j + 1)).flatMap textForm = (nm.take j).flatMap textForm ++ textForm s))
      have hb : (form (nm.length : Nat) ++ (nm.take j).flatMap textForm).length ≤ 100000000 := by rw [List.length_append]; omega
      have HB := (show Hid _ from hb)
      clear SC hs hb htl hfl
      go_wp2_with fail
      go_at_call 130
      refine Calls.mono (ipkText_any J.out.1 s (by omega) HB.out) ?_
      rintro e w6 ⟨rfl, h6, f6⟩
      have J6 := (show Hid _ from TrD.next J.out h6 f6)
      clear h6 f6 J csj lbb
      go_wp2
      go_roundw
      case rel => exact ⟨j + 1, by omega, by go_num, by rw [HTJ.out, ← List.append_assoc]; exact J6.out⟩
      case measure => simp [intOf]; omega
    · obtain rfl : j = nm.length := by omega
      obtain ⟨cT, _⟩ := one_cell J.out.2.2.1
      have lT := blk_lt J.out.2.2.1
      have hb : (form (nm.length : Nat) ++ (nm.take nm.length).flatMap textForm).length ≤ 100000000 := by rw [List.length_append]; omega
      have HB := (show Hid _ from hb)
      have HH := (show Hid (form (nm.length : Nat) ++ (nm.take nm.length).flatMap textForm ++ form (ns.length : Nat) = headL ns) from (by rw [List.take_length, HNM.out]; rfl : form (nm.length : Nat) ++ (nm.take nm.length).flatMap textForm ++ form (ns.length : Nat) = headL ns))
      clear hb htl hfl
      go_wp2_with fail
      go_at_call 129
      refine Calls.mono (ipkNum_any J.out.1 (ns.length : Nat) (by omega) (by omega) HB.out) ?_
      rintro e w6 ⟨rfl, h6, f6⟩
      have J6 := (show Hid (TrD w0 K N M nm (.slice ua nm.length uc) (.slice a ns.length ca) w.heap.size (headL ns ++ (ns.take 0).flatMap (nodeF nm)) w6) from (by rw [List.take_zero, List.flatMap_nil, List.append_nil, ← HH.out]; exact TrD.next J.out h6 f6 : TrD w0 K N M nm (.slice ua nm.length uc) (.slice a ns.length ca) w.heap.size (headL ns ++ (ns.take 0).flatMap (nodeF nm)) w6))
      clear h6 f6 J cT lT
      obtain ⟨cT, _⟩ := one_cell J6.out.2.2.1
      have lT := blk_lt J6.out.2.2.1
      go_upto_region 9 with fail
      clear cT lT
      go_loopw [42] (fun i wr => ∃ (k : Nat), k ≤ ns.length ∧ i = .int .i64 k ∧ Hid (TrD w0 K N M nm (.slice ua nm.length uc) (.slice a ns.length ca) w.heap.size (headL ns ++ (ns.take k).flatMap (nodeF nm)) wr)) (fun i _ => ns.length - (intOf i).toNat)
      case atStart => exact ⟨0, Nat.zero_le _, rfl, J6⟩
      case round =>
        clear J6
        obtain ⟨k, hk, rfl, R⟩ := hrel
        have hhl := headL_small HT5.out
        have hfl := nodesF_small (nm := nm) HT5.out k
        by_cases hlt : k < ns.length
        rotate_left
        · obtain rfl : k = ns.length := by omega
          have HE := (show Hid (PkI w0 K N M nm (packL ns) wr) from (by have := R.out.1; rwa [List.take_length, HNM.out, ← packL_eq, ← HNM.out] at this : PkI w0 K N M nm (packL ns) wr))
          go_wp2
          go_end0
          exact ⟨rfl, HE.out⟩
        obtain ⟨b1, o1, av, kv, rfl, hb1, d0, d1, d2, d3, d4, d5, hav, hkv⟩ := HX.out k hlt
        have BW := R.out.1.2.1
        replace d0 := (BW.cell (p := ⟨b1, o1 + k * 6, none⟩) hb1).trans d0
        replace d1 := (BW.cell (p := ⟨b1, o1 + k * 6 + 1, none⟩) hb1).trans d1
        replace d2 := (BW.cell (p := ⟨b1, o1 + k * 6 + 2, none⟩) hb1).trans d2
        replace d3 := (BW.cell (p := ⟨b1, o1 + k * 6 + 3, none⟩) hb1).trans d3
        replace d4 := (BW.cell (p := ⟨b1, o1 + k * 6 + 4, none⟩) hb1).trans d4
        replace d5 := (BW.cell (p := ⟨b1, o1 + k * 6 + 5, none⟩) hb1).trans d5
        have hb1' : b1 < wr.heap.size := Nat.lt_of_lt_of_le hb1 BW.size
        have HTK := (show Hid ((ns.take (k + 1)).flatMap (nodeF nm) = (ns.take k).flatMap (nodeF nm) ++ nodeF nm ns[k]) from (by rw [List.take_succ_eq_append_getElem hlt, List.flatMap_append, List.flatMap_singleton] : (ns.take (k + 1)).flatMap (nodeF nm) = (ns.take k).flatMap (nodeF nm) ++ nodeF nm ns[k]))
        have HSM := (show Hid _ from small_all HT5.out k hlt)
        have HTL := (show Hid (Tells nm ns[k]) from (by have := tells_of HT5.out hlt; rwa [← HNM.out] at this : Tells nm ns[k]))
        have HAV := (show Hid _ from hav)
        have hb : (headL ns ++ (ns.take k).flatMap (nodeF nm)).length ≤ 70000000 := by rw [List.length_append]; omega
        have HB := (show Hid _ from hb)
        obtain ⟨avs, avc, rfl, _, _, _⟩ := hav.pair
        obtain ⟨p1, p3, rfl, hp1, hp2, _, _⟩ := hkv
        have hki : (k : Int) < (ns.length : Int) := by omega
        obtain ⟨n, hnd⟩ : ∃ n, n = ns[k] := ⟨_, rfl⟩
        rw [← hnd] at d0 d1 d2 d3 d4 d5 HSM HTK HTL HAV hp1
        obtain ⟨w5, hw5⟩ : ∃ z, z = wr.alloc (.cells #[.int .i64 n.kind, .string n.name, .slice avs n.attrs.length avc, .string n.text, .int .i64 n.parent, .slice p1 n.kids.length p3] 36) := ⟨_, rfl⟩
        have R5 := (show Hid (TrD w0 K N M nm (.slice ua nm.length uc) (.slice (some ⟨b1, o1, none⟩) ns.length ca) w.heap.size (headL ns ++ (ns.take k).flatMap (nodeF nm)) w5) from (by rw [hw5]; exact TrD.box R.out _ : TrD w0 K N M nm (.slice ua nm.length uc) (.slice (some ⟨b1, o1, none⟩) ns.length ca) w.heap.size (headL ns ++ (ns.take k).flatMap (nodeF nm)) w5))
        have g5 : w5.heap[wr.heap.size]? = some (.cells #[.int .i64 n.kind, .string n.name, .slice avs n.attrs.length avc, .string n.text, .int .i64 n.parent, .slice p1 n.kids.length p3] 36 (0, 0)) := by rw [hw5]; exact World.alloc_heap_new _ _
        obtain ⟨⟨n0, n1, n2, n3, n4, n5⟩, _⟩ := six_at g5
        have lP := blk_lt g5
        obtain ⟨A, hA⟩ : ∃ A, A = wr.heap.size := ⟨_, rfl⟩
        rw [← hA] at n0 n1 n2 n3 n4 n5 lP
        clear g5 R hnd hav BW hb hhl hfl
        go_upto_region 11 with fail
        rw [← hw5, ← hA]
        clear hw5 hA d0 d1 d2 d3 d4 d5 hb1'
        go_wp2_with fail
        go_at_call 131
        refine Calls.mono (ipkNode_any R5.out.1 HAV.out HTL.out HSM.out HM.out.1 hnl HB.out) ?_
        rintro e w6 ⟨rfl, h6, f6⟩
        have R6 := (show Hid _ from TrD.next R5.out h6 f6)
        clear h6 f6 R5 n0 n1 n2 n3 n4 n5
        go_wp2
        go_roundw
        case rel => exact ⟨k + 1, by omega, by go_num, by rw [HTK.out, ← List.append_assoc]; exact R6.out⟩
        case measure => simp [intOf]; omega
end Go.Proofs.YtogdbjafibejdaaGreat

/- The program's TreePack, of every tree. No condition. -/
namespace Go.Proofs.YtogdbjafibejdaaGreat
open Go.RowKit Go.Maps
set_option maxRecDepth 100000
set_option linter.unusedVariables false

theorem NmAt.base {B B' N M : Nat} {nm : List ByteArray} {W : World} (h : NmAt B N M nm W) (hB : B' ≤ B) : NmAt B' N M nm W := by
  obtain ⟨h1, h2, u, D, n, hN, o, hM, hn, hp⟩ := h
  exact ⟨by omega, by omega, u, D, n, hN, ownsRow_base o hB, hM, hn, hp⟩

set_option maxHeartbeats 4000000 in
set_option maxRecDepth 100000 in
theorem itreePack_any {w : World} {v : Value} {ns : List PNode} (hn : NodesAt w v ns) (hfit : ∀ n ∈ ns, NodeFit n) (hlen : ns.length ≤ 1048576) :
    Calls Tryz.prog 29 #[.agg #[v]] w fun e w' => PackE ns w e w' := by
  obtain ⟨a, ca, rfl, _, _, _⟩ := hn.slice
  have HF := (show Hid (∀ n ∈ ns, NodeFit n) from hfit)
  have HN := (show Hid (NodesAt w (.slice a ns.length ca) ns) from hn)
  obtain ⟨w2, hw2⟩ : ∃ x, x = w.alloc (.cells #[.slice a ns.length ca] 26) := ⟨_, rfl⟩
  have b2 : Below w.heap.size w w2 := by rw [hw2]; exact (Below.refl _ w).alloc (Nat.le_refl _) _
  have gT : w2.heap[w.heap.size]? = some (.cells #[.slice a ns.length ca] 26 (0, 0)) := by rw [hw2]; exact World.alloc_heap_new _ _
  have GT := (show Hid _ from gT)
  have B2 := (show Hid _ from b2)
  have KB := (show Hid (∀ W, Below w2.heap.size w2 W → Below w.heap.size w W) from fun W h => b2.trans (h.mono b2.size))
  have KC := (show Hid (∀ W, Below w2.heap.size w2 W → W.cell? ⟨w.heap.size, 0, none⟩ = some (.slice a ns.length ca)) from fun W h => (one_cell ((h.block _ (blk_lt gT)).trans gT)).1)
  have C1 := (show Hid (∀ W, Below w2.heap.size w2 W → Calls Tryz.prog 15 #[.agg #[.slice a ns.length ca]] W fun e w' => ∃ r, e = .returned (.bool r) ∧ (r = true ↔ TreeOkP ns) ∧ Below w2.heap.size w2 w') from fun W b => (itreeOk_any (hn.below (b2.trans (b.mono b2.size))) hfit hlen).mono (by
    rintro e w' ⟨r, rfl, hr, b'⟩; exact ⟨r, rfl, hr, b.trans (b'.mono b.size)⟩))
  have T1 := (show Hid (∀ W, Below w2.heap.size w2 W → TreeOkP ns → Calls Tryz.prog 25 #[.agg #[.slice a ns.length ca]] W fun e w' => ∃ v', e = .returned (.agg #[v']) ∧ NodesAt w' v' (tidyN ns) ∧ Below w2.heap.size w2 w') from fun W b h => (itidy_any (hn.below (b2.trans (b.mono b2.size))) hfit hlen).mono (by
    rintro e w' ⟨v', rfl, ho, _, b'⟩; exact ⟨v', rfl, (ho h).nodes, b.trans (b'.mono b.size)⟩))
  have E1 := (show Hid (∀ W u, TreeOkP ns → NodesAt W u (tidyN ns) → Below w2.heap.size w2 W → Calls Tryz.prog 62 #[.slice a ns.length ca, u, .func (.func 63) #[] #[]] W fun e w' => ∃ r : Bool, e = .returned (.bool r) ∧ Hid ((r = true ↔ ns = tidyN ns) ∧ Below w2.heap.size w2 w')) from fun W u h k b => (iequalFunc (hn.below (b2.trans (b.mono b2.size))) k hfit (tidyL_fit hfit _ (by have e1 := h.one; have e2 := down_few h (k := 0) (by omega); have e3 := h.most; omega)) hlen).mono (by
    rintro e w' ⟨r, rfl, hr, b'⟩; exact ⟨r, rfl, hr, b.trans (b'.mono b.size)⟩))
  have BD := (show Hid (Below w2.heap.size w2 w2.drew) from below_drewN 1)
  have l0 := blk_lt gT
  have c0 := KC.out w2 (Below.refl _ _)
  have hfld : ∀ (x : Option Addr) (y z : Nat) (W : World), (Instr.field 26 (.agg #[.slice x y z]) 0).run Tryz.prog W = .ok (.slice x y z) W := fun _ _ _ _ => by kernel_rfl
  clear hn hfit b2 gT
  go_enter Tryz.func29, Tryz.ntmps29
  go_upto_region 1 with fail
  rw [← hw2]
  clear hw2
  go_cut [16] from 5 to 16 (fun s16 wx => ∃ q : Bool, s16 = .bool q ∧ Hid ((q = true ↔ ¬ (TreeOkP ns ∧ ns = tidyN ns)) ∧ Below w2.heap.size w2 wx))
  case first =>
    by_cases hok : TreeOkP ns
    · go_region_with (first
        | (go_at_call 15
           refine Calls.mono (C1.out _ BD.out) ?_
           rintro e w3 ⟨r, rfl, hr, b3⟩
           obtain rfl : r = true := hr.mpr hok
           have c3 := KC.out w3 b3
           have BB3 := (show Hid _ from b3)
           clear b3 hr)
        | (go_at_call 25
           refine Calls.mono (T1.out _ BB3.out hok) ?_
           rintro e w4 ⟨u, rfl, nu, b4⟩
           have c4 := KC.out w4 b4
           have BB4 := (show Hid _ from b4)
           have NU := (show Hid (NodesAt w4 u (tidyN ns)) from nu)
           obtain ⟨r1, r3, rfl, _⟩ := nu.slice
           clear b4 nu)
        | (go_at_call 62
           refine Calls.mono (E1.out _ _ hok NU.out BB4.out) ?_
           rintro e w5 ⟨r5, rfl, R5⟩)
        | fail)
      all_goals
        go_wp2_with fail
        go_meet
        refine ⟨!r5, rfl, ?_⟩
        refine ⟨?_, R5.out.2⟩
        rw [← R5.out.1]
        simp [hok]
    · have CE := (show Hid (∀ n : Wd w2.heap.size w2, Calls Tryz.prog 15 #[.agg #[.slice a ns.length ca]] n.w fun e w' => e = .returned (.bool false) ∧ Below n.w.heap.size n.w w') from fun n => (itreeOk_any (HN.out.below (KB.out _ n.below)) HF.out hlen).mono (by
        rintro e w' ⟨r, rfl, hr, b'⟩
        obtain rfl : r = false := by cases r; rfl; exact absurd (hr.mp rfl) hok
        exact ⟨rfl, b'⟩))
      have cc := fun n : Wd w2.heap.size w2 => KC.out n.w n.below
      have ne := Wd.any w2.heap.size w2
      refine wp_region_below (by kernel_rfl) (by kernel_rfl) (Below.refl w2.heap.size w2) ?_
      repeat (go_big_quiet_step ((go_at_call 15; exact quiet_below (CE.out _) (Nat.le_refl _))))
      refine wpQuiet_nil ?_
      intro w9 hq9
      replace hq9 := Wd.of hq9
      clear cc ne
      go_wp2_with fail
      go_meet
      exact ⟨true, rfl, by simp [hok], hq9⟩
  case rest =>
    obtain ⟨q, rfl, Q⟩ := hcut
    clear C1 T1 E1 BD c0
    cases q
    rotate_left
    · have HB := (show Hid (¬ goodT ns) from fun h => Q.out.1.mp rfl ⟨h.1.1, h.2.1.symm⟩)
      have BE := (show Hid _ from KB.out _ Q.out.2)
      go_wp2
      go_ret2
      exact ⟨_, _, rfl, .inr ⟨rfl, HB.out, own_nil _ _ _ _⟩, BE.out⟩
    have hgood : TreeOkP ns ∧ ns = tidyN ns := Classical.byContradiction (fun h => by have := Q.out.1.mpr h; cases this)
    have HOK := (show Hid _ from hgood.1)
    have HS := (show Hid (STreeOkP ns) from tidy_strict hgood.1 hgood.2.symm)
    have HT := (show Hid (tidyN ns = ns) from hgood.2.symm)
    have hmost := hgood.1.most
    have BC := (show Hid (Below w2.heap.size w2 wc) from Q.out.2)
    have BWc := (show Hid (Below w.heap.size w wc) from KB.out _ Q.out.2)
    have cT := KC.out _ BC.out
    have lT : w.heap.size < wc.heap.size := Nat.lt_of_lt_of_le l0 BC.out.size
    clear hgood Q
    go_wp2_with fail
    go_at_call 83
    refine Calls.mono (inamesOf_any (HN.out.below BWc.out) HF.out hmost) ?_
    rintro e w4 ⟨N, M, rfl, n4, b4⟩
    have hN4 := n4.lt
    have hNB := n4.1
    have B4 := (show Hid (Below w2.heap.size w2 w4) from BC.out.trans (b4.mono BC.out.size))
    have N4 := (show Hid (NmAt w.heap.size N M (namesL ns) w4) from n4.base BWc.out.size)
    obtain ⟨w5, hw5⟩ : ∃ z, z = w4.alloc (.cells #[.slice none 0 0, .pointer (some ⟨N, 0, none⟩)] 108) := ⟨_, rfl⟩
    have b5 : Below w4.heap.size w4 w5 := by rw [hw5]; exact (Below.refl _ _).alloc (Nat.le_refl _) _
    have g5 : w5.heap[w4.heap.size]? = some (.cells #[.slice none 0 0, .pointer (some ⟨N, 0, none⟩)] 108 (0, 0)) := by rw [hw5]; exact World.alloc_heap_new _ _
    have B5 := (show Hid (Below w2.heap.size w2 w5) from B4.out.trans (b5.mono B4.out.size))
    have P5 := (show Hid (PkI w w4.heap.size N M (namesL ns) [] w5) from ⟨by have := BWc.out.size; have := b4.size; omega, KB.out _ B5.out, N4.out.below b5, _, g5, own_nil _ _ _ _⟩)
    obtain ⟨K, hK⟩ : ∃ K, K = w4.heap.size := ⟨_, rfl⟩
    rw [← hK] at P5
    have cT5 := KC.out _ B5.out
    have lT5 : w.heap.size < w5.heap.size := Nat.lt_of_lt_of_le l0 B5.out.size
    clear n4 b4 b5 g5 N4 cT lT
    go_upto_region 4 with fail
    rw [← hw5, ← hK]
    clear hw5 hK
    go_wp2_with fail
    go_at_call 84
    refine Calls.mono (ipkTree_any P5.out HN.out HOK.out) ?_
    rintro e w6 ⟨rfl, p6⟩
    have BE := (show Hid (Below w.heap.size w w6) from p6.2.1)
    obtain ⟨_, _, _, v6, g6, o6⟩ := (show _ ∧ _ ∧ _ ∧ _ from p6)
    have hsm := packL_small HOK.out
    obtain ⟨x6, y6, z6, rfl⟩ := own_slice o6
    obtain rfl : y6 = (packL ns).length := own_len o6
    obtain ⟨cK, _, _, _⟩ := two_cells g6
    have lK := blk_lt g6
    have HO := (show Hid _ from o6)
    clear o6 g6 p6 P5 B5
    by_cases hbig : (20000 : Int) < ((packL ns).length : Int)
    · have HNG := (show Hid (¬ goodT ns) from fun h => by have := h.2.2; omega)
      go_wp2
      go_ret2
      exact ⟨_, _, rfl, .inr ⟨rfl, HNG.out, own_nil _ _ _ _⟩, BE.out⟩
    · have HGD := (show Hid (goodT ns) from ⟨HS.out, HT.out, by omega⟩)
      go_wp2
      go_ret2
      exact ⟨_, _, rfl, .inl ⟨rfl, HGD.out, HO.out⟩, BE.out⟩
end Go.Proofs.YtogdbjafibejdaaGreat
