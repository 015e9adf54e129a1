/- The program's arena where it lies in a treeReader: add (written by mk/iart.py, turned by hand: the new list of attributes lies in a new block). No condition. -/
import Derived.Test.YtogdbjafibejdaaGreatY33
import Derived.Test.YtogdbjafibejdaaGreatY47
import Derived.Test.YtogdbjafibejdaaGreatY42
import Derived.Test.YtogdbjafibejdaaGreatY37
import Derived.Test.YtogdbjafibejdaaGreatY46
namespace Go.Proofs.YtogdbjafibejdaaGreat
open Go.RowKit
set_option maxRecDepth 100000
set_option linter.unusedVariables false

set_option maxHeartbeats 2000000 in
set_option maxRecDepth 100000 in
theorem iaddT_all {B a : Nat} {tr0 tr1 tr2 tr4 : Value} {w : World} {v : Value} {qs : List (PNode × (Value × Value))} (ha : w.heap[a]? = some (.cells #[tr0, tr1, tr2, v, tr4] 120 (0, 0))) (hO : OwnQ B w v qs) (hB : B ≤ w.heap.size) (hlen : qs.length ≤ 100000) (k p : Int) (nm tx : ByteArray)
    {av1 : Option Addr} {av2 av3 : Nat} {kv1 : Option Addr} {kv2 kv3 : Nat} {rs : List (ByteArray × ByteArray)} (hav : Sv 2 w (.slice av1 av2 av3) (pairCells rs)) (hrs : rs.length ≤ 1048576) :
    Calls Tryz.prog 79 #[.pointer (some ⟨a, 3, none⟩), .agg #[.int .i64 k, .string nm, .slice av1 av2 av3, .string tx, .int .i64 p, .slice kv1 kv2 kv3]] w fun e w' =>
      e = .returned (.int .i64 qs.length) ∧ (∃ v', w'.heap[a]? = some (.cells #[tr0, tr1, tr2, v', tr4] 120 (0, 0)) ∧ ∃ av', OwnQ B w' v' (qs ++ [(⟨k, nm, rs, tx, -1, []⟩, (av', .slice none 0 0))]) ∧ ∀ r, av'.ownBlock = some r → w.heap.size ≤ r) ∧ AddFr B a w w' := by
  obtain ⟨ia, hia, hza0, hza1, hza2⟩ := info_parts Tryz.infoAttrRow
  obtain ⟨iN, hiN, hzN0, hzN1, hzN2⟩ := info_parts Tryz.infoNodeRow
  have HO := (show Hid (OwnQ B w v qs) from hO)
  have HAV := (show Hid (Sv 2 w (.slice av1 av2 av3) (pairCells rs)) from hav)
  have HA := (show Hid _ from ha)
  obtain ⟨vs, cap, rfl, hc1, hc2, hcs⟩ := hO.n.nodes.slice
  rw [List.length_map] at hc1
  have hlt := lt_of_block ha
  rw [List.length_map] at *
  clear hO hav hcs ha
  obtain ⟨w1, hw1⟩ : ∃ x, x = w.alloc (.cells #[.int .i64 k, .string nm, .slice av1 av2 av3, .string tx, .int .i64 (-1), .slice none 0 0] 36) := ⟨_, rfl⟩
  have b1 : Below w.heap.size w w1 := by rw [hw1]; exact (Below.refl _ _).alloc (Nat.le_refl _) _
  have x1 : w1.heap[w.heap.size]? = some (.cells #[.int .i64 k, .string nm, .slice av1 av2 av3, .string tx, .int .i64 (-1), .slice none 0 0] 36 (0, 0)) := by rw [hw1]; exact World.alloc_heap_new _ _
  have hav1 := HAV.out.below b1
  have hs1 := blk_lt x1
  have HB1 := (show Hid _ from b1)
  have HX1 := (show Hid _ from x1)
  clear b1 x1
  go_enter Tryz.func79, Tryz.ntmps79
  go_upto_region 3 with (first
        | (at_builtin
           rw [← hw1]
           refine wpList_appV _ rfl (.const (.slice none 0 0)) (.tmp 8) 33 rfl w.heap.size 115 ia _ 2 32 Tryz.underlying33 hia hza0 hza1 hza2 rfl (by decide) (.slice none 0 0) (.slice av1 av2 av3) 0 rs.length [] (pairCells rs) rfl rfl (World.ownsRow_nil _ _ _ _) hav1 (pairCells_len _) (pair_oneCell _) (by omega) (by unfold maxLen; omega) (by omega) ?_
           intro v4 w4 o4 g4
           clear hw1
           rw [List.nil_append, Nat.zero_add] at o4
           have b4 : Below w.heap.size w w4 := HB1.out.grown g4 (by omega) (fun r e => by cases e)
           have x4 : w4.heap[w.heap.size]? = some (.cells #[.int .i64 k, .string nm, .slice av1 av2 av3, .string tx, .int .i64 (-1), .slice none 0 0] 36 (0, 0)) := (g4.block _ (by omega) (by simp [Value.ownBlock])).trans HX1.out
           have y2 : w4.cell? ⟨w.heap.size, 2, none⟩ = some (.slice av1 av2 av3) := by simp only [World.cell?, x4]; rfl
           have z2 : w4.frozen? ⟨w.heap.size, 2, none⟩ = false := by simp [World.frozen?, x4]
           have hlt4 := blk_lt x4
           obtain ⟨a4, n4, d4, rfl⟩ := own_slice o4
           obtain ⟨w5, hw5⟩ : ∃ x, x = w4.setCell ⟨w.heap.size, 2, none⟩ (.slice a4 n4 d4) := ⟨_, rfl⟩
           have g5 : w4.grownBy w5 (some w.heap.size) := by rw [hw5]; exact grown_setCell _ _ _ _
           have x5 : w5.heap[w.heap.size]? = some (.cells #[.int .i64 k, .string nm, .slice a4 n4 d4, .string tx, .int .i64 (-1), .slice none 0 0] 36 (0, 0)) := by rw [hw5]; exact setCell_at x4
           have b5 : Below w.heap.size w w5 := b4.grown g5 b4.size (fun r e => by cases e; exact Nat.le_refl _)
           have o5 := kept_of_type o4 g5 (fun r e => by cases e; exact ⟨_, _, _, x4, by decide⟩)
           have hs5 := blk_lt x5
           have HX5 := (show Hid _ from x5)
           have HB5 := (show Hid (Below w.heap.size w w5) from b5)
           have HO5 := (show Hid _ from o5)
           have HFR := (show Hid (∀ r, (Value.slice a4 n4 d4).ownBlock = some r → w.heap.size ≤ r) from fun r hr => (World.ownsRow.lt o5 r hr).1)
           clear x4 x5 b4 b5 o4 g4 g5 o5 hav1 HX1 HB1 hs1))
  rw [← hw5]
  clear hw5
  have hA5 := (HB5.out.block a hlt).trans HA.out
  have cA5 : w5.cell? ⟨a, 3, none⟩ = some (.slice vs qs.length cap) := by simp only [World.cell?, hA5]; rfl
  have hlt5 := lt_of_block hA5
  have c50 : w5.cell? ⟨w.heap.size, 0, none⟩ = some (.int .i64 k) := by simp only [World.cell?, HX5.out]; rfl
  have c51 : w5.cell? ⟨w.heap.size, 1, none⟩ = some (.string nm) := by simp only [World.cell?, HX5.out]; rfl
  have c52 : w5.cell? ⟨w.heap.size, 2, none⟩ = some (.slice a4 n4 d4) := by simp only [World.cell?, HX5.out]; rfl
  have c53 : w5.cell? ⟨w.heap.size, 3, none⟩ = some (.string tx) := by simp only [World.cell?, HX5.out]; rfl
  have c54 : w5.cell? ⟨w.heap.size, 4, none⟩ = some (.int .i64 (-1)) := by simp only [World.cell?, HX5.out]; rfl
  have c55 : w5.cell? ⟨w.heap.size, 5, none⟩ = some (.slice none 0 0) := by simp only [World.cell?, HX5.out]; rfl
  have hq5 := OwnQ.below HO.out HB5.out
  have b6 : Below w5.heap.size w5 (w5.alloc (.cells #[.int .i64 k, .string nm, .slice a4 n4 d4, .string tx, .int .i64 (-1), .slice none 0 0] 36)).drew := ((Below.refl _ _).alloc (Nat.le_refl _) _).trans (below_drewN 1)
  have x6 : (w5.alloc (.cells #[.int .i64 k, .string nm, .slice a4 n4 d4, .string tx, .int .i64 (-1), .slice none 0 0] 36)).drew.heap[w5.heap.size]? = some (.cells (nodeRow ⟨k, nm, rs, tx, -1, []⟩ (.slice a4 n4 d4, .slice none 0 0)).toArray 36 (0, 0)) := heap_alloc_new w5 _
  have HR6 := (show Hid (OwnQ B _ _ _) from hq5.below b6)
  have HQ6 := (show Hid (_ ∧ _) from ⟨ownsRow_below (ownsRow_base HO5.out hB) b6, ownsRow_nil_int B (w5.alloc (.cells #[.int .i64 k, .string nm, .slice a4 n4 d4, .string tx, .int .i64 (-1), .slice none 0 0] 36)).drew⟩)
  have HONE := (show Hid _ from node_oneCell (q := ((⟨k, nm, rs, tx, -1, []⟩, (.slice a4 n4 d4, .slice none 0 0)) : PNode × (Value × Value))) HQ6.out)
  have HSV := (show Hid _ from sv_oneNode (q := ((⟨k, nm, rs, tx, -1, []⟩, (.slice a4 n4 d4, .slice none 0 0)) : PNode × (Value × Value))) x6)
  have hbs5 := HB5.out.size
  have hB5 : B ≤ w5.heap.size := Nat.le_trans hB hbs5
  have HB6 := (show Hid _ from b6)
  have HA5 := (show Hid _ from hA5)
  have hsz6 : (w5.alloc (.cells #[.int .i64 k, .string nm, .slice a4 n4 d4, .string tx, .int .i64 (-1), .slice none 0 0] 36)).drew.heap.size = w5.heap.size + 1 := by simp
  have HSZ := (show Hid ((w5.alloc (.cells #[.int .i64 k, .string nm, .slice a4 n4 d4, .string tx, .int .i64 (-1), .slice none 0 0] 36)).drew.heap.size = w5.heap.size + 1) from hsz6)
  clear b6 x6 hq5 hA5 HO5 HO HX5 hsz6
  go_region_law (first
    | (with_reducible refine step_appV (w := (w5.alloc (.cells #[.int .i64 k, .string nm, .slice a4 n4 d4, .string tx, .int .i64 (-1), .slice none 0 0] 36)).drew) ?_ (.tmp 15) (.tmp 17) 24 ?_ B 36 iN _ 6 96 ?_ hiN hzN0 hzN1 hzN2 ?_ ?_ (.slice vs qs.length cap) qs.length (nodeCells qs) ?_ ?_ ⟨w5.heap.size, 0, none⟩ 1 1 (nodeRow ⟨k, nm, rs, tx, -1, []⟩ (.slice a4 n4 d4, .slice none 0 0)) ?_ ?_ ?_ ?_ ?_ ?_ ?_
       · rfl
       · rfl
       · exact Tryz.underlying24
       · rfl
       · decide
       · simp [Act.eval]
       · exact HR6.out.1
       · simp [Act.eval]
       · exact HSV.out
       · exact HONE.out
       · (unfold maxLen; omega)
       · omega
       · (have := HSZ.out; omega)
       intro v9 w9 o9 g9
       obtain ⟨g1, cap1, rfl, hg1, hl1⟩ := one_form o9 (Nat.succ_pos _)
       have own9 := OwnQ.snoc (q := ((⟨k, nm, rs, tx, -1, []⟩, (.slice a4 n4 d4, .slice none 0 0)) : PNode × (Value × Value))) HR6.out HQ6.out o9 g9
       have hA9 := blk_type ((HB6.out.block a hlt5).trans HA5.out) g9 (row_type HR6.out.1 (by decide))
       have cA9 : w9.cell? ⟨a, 3, none⟩ = some (.slice vs qs.length cap) := by simp only [World.cell?, hA9]; rfl
       have fA9 : w9.frozen? ⟨a, 3, none⟩ = false := by simp only [World.frozen?, hA9]; rfl
       have HO9 := (show Hid _ from own9)
       have HG9 := (show Hid _ from g9)
       have HA9 := (show Hid _ from hA9)
       clear o9 g9 own9 hA9))
  all_goals go_wp2
  all_goals go_ret
  all_goals
    refine ⟨by go_num, ⟨_, setCell_at HA9.out, _, OwnQ.kept HO9.out (grown_setCell _ _ _ _) (fun r e => by cases e; exact ⟨_, _, _, HA9.out, by decide, by decide, by decide⟩), HFR.out⟩, ?_⟩
    exact add_fr HB5.out HB6.out HR6.out.1 HG9.out (grown_setCell _ _ _ _)
end Go.Proofs.YtogdbjafibejdaaGreat

/- The program's packer: tree; a tidied page has no Parent. No condition. -/
namespace Go.Proofs.YtogdbjafibejdaaGreat
open Go.RowKit Go.Maps
set_option maxRecDepth 100000
set_option linter.unusedVariables false

theorem parOf_app {A : List PNode} (h : 1 ≤ A.length) (n : PNode) : parOf (A ++ [n]) 0 = parOf A 0 := by
  unfold parOf
  rw [List.getElem?_append_left (by omega)]
theorem aloneAt_par (ns : List PNode) (k : Nat) : (aloneAt ns k).parent = -1 := by
  unfold aloneAt
  cases ns[k]? with
  | none => rfl
  | some a => rfl
theorem tidyL_par0 (ns : List PNode) (l : List Int) : parOf (tidyL ns ((0 : Int) :: l)).1 0 = -1 := by
  have key : ∀ l : List Int, parOf (tidyL ns ((0 : Int) :: l)).1 0 = -1 ∧ 1 ≤ (tidyL ns ((0 : Int) :: l)).1.length := fun l => by
    refine snoc_ind (P := fun l => parOf (tidyL ns ((0 : Int) :: l)).1 0 = -1 ∧ 1 ≤ (tidyL ns ((0 : Int) :: l)).1.length) ?_ ?_ l
    · have : (tidyL ns [(0 : Int)]).1 = [aloneAt ns 0] := by simp [tidyL, tidyStep]
      rw [this]
      refine ⟨?_, by simp⟩
      simp only [parOf, List.getElem?_cons_zero, Option.map_some, Option.getD_some]
      exact aloneAt_par ns 0
    · intro l x ih
      rw [← List.cons_append, tidyL_snoc]
      have hl := tidyStep_len ns (tidyL ns ((0 : Int) :: l)) x
      refine ⟨?_, by omega⟩
      unfold tidyStep
      split
      · simp only
        rw [parOf_app ih.2]
        exact ih.1
      · simp only
        rw [parOf_hangN (by simp), if_neg (by omega), parOf_app ih.2]
        exact ih.1
  exact (key l).1
theorem tidy_strict {ns : List PNode} (h : TreeOkP ns) (e : tidyN ns = ns) : STreeOkP ns := by
  refine ⟨h, ?_⟩
  have h1 := h.one
  obtain ⟨t, ht⟩ := down_head (tree_deep h (k := 0) (by omega))
  have h2 := tidyL_par0 ns t
  have h3 : (tidyL ns ((0 : Int) :: t)).1 = tidyN ns := by
    unfold tidyN
    rw [ht]
    rfl
  rw [h3, e] at h2
  exact h2
theorem OwnS.bytes {B K : Nat} {W W' : World} {u : Value} {nm : List ByteArray} (o : OwnS B W u nm) (f : BytFr B K W W') (hK : ∀ cs fr, W.heap[K]? = some (.cells cs 9 fr) → False) : OwnS B W' u nm := by
  rcases o.2 with ⟨rfl, h0⟩ | ⟨g, cap, cur, rfl, hB, hh, r1, r2, r3, r4⟩
  · exact ⟨o.1, .inl ⟨rfl, h0⟩⟩
  · exact ⟨o.1, .inr ⟨g, cap, cur, rfl, hB, (f.block g (blk_lt hh) (fun e => hK _ _ (e ▸ hh)) (.inr (fun cs t fr e => by rw [hh] at e; cases e; decide))).trans hh, r1, r2, r3, r4⟩⟩
def TrD (w0 : World) (K N M : Nat) (nm : List ByteArray) (u T : Value) (P : Nat) (out : List Int) (W : World) : Prop :=
  PkI w0 K N M nm out W ∧ OwnS w0.heap.size W u nm ∧ W.heap[P]? = some (.cells #[T] 26 (0, 0)) ∧ P ≠ K ∧ W.heap[N]? = some (.cells #[u, .map (some M)] 150 (0, 0)) ∧ N ≠ K
theorem TrD.next {w0 : World} {K N M : Nat} {nm : List ByteArray} {u T : Value} {P : Nat} {out out2 : List Int} {W W' : World} (h : TrD w0 K N M nm u T P out W) (h2 : PkI w0 K N M nm out2 W') (f : BytFr w0.heap.size K W W') : TrD w0 K N M nm u T P out2 W' := by
  refine ⟨h2, h.2.1.bytes f ?_, f.box h.2.2.1 (by decide) h.2.2.2.1, h.2.2.2.1, f.box h.2.2.2.2.1 (by decide) h.2.2.2.2.2, h.2.2.2.2.2⟩
  obtain ⟨_, _, _, v, hK, _⟩ := h.1
  exact fun cs fr e => by rw [hK] at e; cases e
theorem TrD.box {w0 : World} {K N M : Nat} {nm : List ByteArray} {u T : Value} {P : Nat} {out : List Int} {W : World} (h : TrD w0 K N M nm u T P out W) (o : Obj) : TrD w0 K N M nm u T P out (W.alloc o) := by
  have b : Below W.heap.size W (W.alloc o) := (Below.refl _ _).alloc (Nat.le_refl _) _
  exact h.next (PkI.below h.1 b) (BytFr.of_below b)

set_option maxHeartbeats 8000000 in
set_option maxRecDepth 100000 in
theorem ipkTree_any {w0 w : World} {K N M : Nat} {v : Value} {ns : List PNode} (h : PkI w0 K N M (namesL ns) [] w) (hn : NodesAt w0 v ns) (ht : TreeOkP ns) :
    Calls Tryz.prog 84 #[.pointer (some ⟨K, 0, none⟩), .agg #[v]] w fun e w' => e = .returned (.tuple #[]) ∧ PkI w0 K N M (namesL ns) (packL ns) w' := by
  obtain ⟨a, ca, rfl, _, _, h3⟩ := hn.slice
  have HX := (show Hid _ from h3)
  have HT5 := (show Hid (TreeOkP ns) from ht)
  have NMs := names_small ht
  have hmost := ht.most
  have HM := (show Hid _ from NMs)
  have hnl := NMs.2
  obtain ⟨nm, hnm⟩ : ∃ nm, nm = namesL ns := ⟨_, rfl⟩
  rw [← hnm] at h hnl HM ⊢
  have HNM := (show Hid (nm = namesL ns) from hnm)
  have hKl := PkI.lt h
  obtain ⟨w2, hw2⟩ : ∃ q, q = w.alloc (.cells #[.slice a ns.length ca] 26) := ⟨_, rfl⟩
  have b2 : Below w.heap.size w w2 := by rw [hw2]; exact (Below.refl _ _).alloc (Nat.le_refl _) _
  have g2 : w2.heap[w.heap.size]? = some (.cells #[.slice a ns.length ca] 26 (0, 0)) := by rw [hw2]; exact World.alloc_heap_new _ _
  have h2 := PkI.below h b2
  obtain ⟨_, _, hNm2, v2, hK2, _⟩ := (show _ ∧ _ ∧ _ ∧ _ from h2)
  obtain ⟨_, _, u, D, dn, hN2, oS, _, _, _⟩ := hNm2
  obtain ⟨ua, un, uc, rfl⟩ := own_slice oS
  obtain ⟨enn, _⟩ := str_cell (OwnS.sv oS)
  subst enn
  have D2 := (show Hid (TrD w0 K N M nm (.slice ua nm.length uc) (.slice a ns.length ca) w.heap.size [] w2) from ⟨h2, oS, g2, by omega, hN2, fun e => by rw [e, hK2] at hN2; cases hN2⟩)
  obtain ⟨cK0, cK1, _, _⟩ := two_cells hK2
  obtain ⟨cN0, cN1, _, _⟩ := two_cells hN2
  have lK := blk_lt hK2
  have lN := blk_lt hN2
  clear h3 hn ht NMs h hnm b2 g2 h2 hK2 hN2 oS hKl
  go_enter Tryz.func84, Tryz.ntmps84
  go_upto_region 1 with fail
  rw [← hw2]
  clear hw2
  go_wp2_with fail
  go_at_call 129
  refine Calls.mono (ipkNum_any D2.out.1 (nm.length : Nat) (by omega) (by omega) (by simp)) ?_
  rintro e w3 ⟨rfl, h3, f3⟩
  have D3 := (show Hid (TrD w0 K N M nm (.slice ua nm.length uc) (.slice a ns.length ca) w.heap.size (form (nm.length : Nat) ++ (nm.take 0).flatMap textForm) w3) from (by rw [List.take_zero, List.flatMap_nil, List.append_nil]; rw [List.nil_append] at h3; exact TrD.next D2.out h3 f3 : TrD w0 K N M nm (.slice ua nm.length uc) (.slice a ns.length ca) w.heap.size (form (nm.length : Nat) ++ (nm.take 0).flatMap textForm) w3))
  clear h3 f3 D2 cK0 cK1 cN0 cN1 lK lN
  obtain ⟨_, _, _, v3, hK3, _⟩ := (show _ ∧ _ ∧ _ ∧ _ from D3.out.1)
  obtain ⟨cK0, cK1, _, _⟩ := two_cells hK3
  obtain ⟨cN0, cN1, _, _⟩ := two_cells D3.out.2.2.2.2.1
  have lK := blk_lt hK3
  have lN := blk_lt D3.out.2.2.2.2.1
  clear hK3
  go_upto_region 3 with fail
  clear cK0 cK1 cN0 cN1 lK lN
  have hfl := form_len (nm.length : Nat)
  go_loopw [26] (fun i wr => ∃ (j : Nat), j ≤ nm.length ∧ i = .int .i64 j ∧ Hid (TrD w0 K N M nm (.slice ua nm.length uc) (.slice a ns.length ca) w.heap.size (form (nm.length : Nat) ++ (nm.take j).flatMap textForm) wr)) (fun i _ => nm.length - (intOf i).toNat)
  case atStart => exact ⟨0, Nat.zero_le _, rfl, D3⟩
  case round =>
    clear D3
    obtain ⟨j, hj, rfl, J⟩ := hrel
    have htl := texts_small HT5.out j
    rw [← HNM.out] at htl
    by_cases hjt : j < nm.length
    · obtain ⟨_, SC⟩ := str_cell (OwnS.sv J.out.2.1)
      obtain ⟨bb, oo, rfl, lbb, csj⟩ := SC j hjt
      have hji : (j : Int) < (nm.length : Int) := by omega
      obtain ⟨s, hs⟩ : ∃ s, s = nm[j] := ⟨_, rfl⟩
      rw [← hs] at csj
      have hss : s.size ≤ 3000 := HM.out.1 s (by rw [hs]; exact List.getElem_mem hjt)
      have HTJ := (show Hid ((nm.take (j + 1)).flatMap textForm = (nm.take j).flatMap textForm ++ textForm s) from (by rw [List.take_succ_eq_append_getElem hjt, ← hs, List.flatMap_append, List.flatMap_singleton] : (nm.take (j + 1)).flatMap textForm = (nm.take j).flatMap textForm ++ textForm s))
      have hb : (form (nm.length : Nat) ++ (nm.take j).flatMap textForm).length ≤ 100000000 := by rw [List.length_append]; omega
      have HB := (show Hid _ from hb)
      clear SC hs hb htl hfl
      go_wp2_with fail
      go_at_call 130
      refine Calls.mono (ipkText_any J.out.1 s (by omega) HB.out) ?_
      rintro e w6 ⟨rfl, h6, f6⟩
      have J6 := (show Hid _ from TrD.next J.out h6 f6)
      clear h6 f6 J csj lbb
      go_wp2
      go_roundw
      case rel => exact ⟨j + 1, by omega, by go_num, by rw [HTJ.out, ← List.append_assoc]; exact J6.out⟩
      case measure => simp [intOf]; omega
    · obtain rfl : j = nm.length := by omega
      obtain ⟨cT, _⟩ := one_cell J.out.2.2.1
      have lT := blk_lt J.out.2.2.1
      have hb : (form (nm.length : Nat) ++ (nm.take nm.length).flatMap textForm).length ≤ 100000000 := by rw [List.length_append]; omega
      have HB := (show Hid _ from hb)
      have HH := (show Hid (form (nm.length : Nat) ++ (nm.take nm.length).flatMap textForm ++ form (ns.length : Nat) = headL ns) from (by rw [List.take_length, HNM.out]; rfl : form (nm.length : Nat) ++ (nm.take nm.length).flatMap textForm ++ form (ns.length : Nat) = headL ns))
      clear hb htl hfl
      go_wp2_with fail
      go_at_call 129
      refine Calls.mono (ipkNum_any J.out.1 (ns.length : Nat) (by omega) (by omega) HB.out) ?_
      rintro e w6 ⟨rfl, h6, f6⟩
      have J6 := (show Hid (TrD w0 K N M nm (.slice ua nm.length uc) (.slice a ns.length ca) w.heap.size (headL ns ++ (ns.take 0).flatMap (nodeF nm)) w6) from (by rw [List.take_zero, List.flatMap_nil, List.append_nil, ← HH.out]; exact TrD.next J.out h6 f6 : TrD w0 K N M nm (.slice ua nm.length uc) (.slice a ns.length ca) w.heap.size (headL ns ++ (ns.take 0).flatMap (nodeF nm)) w6))
      clear h6 f6 J cT lT
      obtain ⟨cT, _⟩ := one_cell J6.out.2.2.1
      have lT := blk_lt J6.out.2.2.1
      go_upto_region 9 with fail
      clear cT lT
      go_loopw [42] (fun i wr => ∃ (k : Nat), k ≤ ns.length ∧ i = .int .i64 k ∧ Hid (TrD w0 K N M nm (.slice ua nm.length uc) (.slice a ns.length ca) w.heap.size (headL ns ++ (ns.take k).flatMap (nodeF nm)) wr)) (fun i _ => ns.length - (intOf i).toNat)
      case atStart => exact ⟨0, Nat.zero_le _, rfl, J6⟩
      case round =>
        clear J6
        obtain ⟨k, hk, rfl, R⟩ := hrel
        have hhl := headL_small HT5.out
        have hfl := nodesF_small (nm := nm) HT5.out k
        by_cases hlt : k < ns.length
        rotate_left
        · obtain rfl : k = ns.length := by omega
          have HE := (show Hid (PkI w0 K N M nm (packL ns) wr) from (by have := R.out.1; rwa [List.take_length, HNM.out, ← packL_eq, ← HNM.out] at this : PkI w0 K N M nm (packL ns) wr))
          go_wp2
          go_end0
          exact ⟨rfl, HE.out⟩
        obtain ⟨b1, o1, av, kv, rfl, hb1, d0, d1, d2, d3, d4, d5, hav, hkv⟩ := HX.out k hlt
        have BW := R.out.1.2.1
        replace d0 := (BW.cell (p := ⟨b1, o1 + k * 6, none⟩) hb1).trans d0
        replace d1 := (BW.cell (p := ⟨b1, o1 + k * 6 + 1, none⟩) hb1).trans d1
        replace d2 := (BW.cell (p := ⟨b1, o1 + k * 6 + 2, none⟩) hb1).trans d2
        replace d3 := (BW.cell (p := ⟨b1, o1 + k * 6 + 3, none⟩) hb1).trans d3
        replace d4 := (BW.cell (p := ⟨b1, o1 + k * 6 + 4, none⟩) hb1).trans d4
        replace d5 := (BW.cell (p := ⟨b1, o1 + k * 6 + 5, none⟩) hb1).trans d5
        have hb1' : b1 < wr.heap.size := Nat.lt_of_lt_of_le hb1 BW.size
        have HTK := (show Hid ((ns.take (k + 1)).flatMap (nodeF nm) = (ns.take k).flatMap (nodeF nm) ++ nodeF nm ns[k]) from (by rw [List.take_succ_eq_append_getElem hlt, List.flatMap_append, List.flatMap_singleton] : (ns.take (k + 1)).flatMap (nodeF nm) = (ns.take k).flatMap (nodeF nm) ++ nodeF nm ns[k]))
        have HSM := (show Hid _ from small_all HT5.out k hlt)
        have HTL := (show Hid (Tells nm ns[k]) from (by have := tells_of HT5.out hlt; rwa [← HNM.out] at this : Tells nm ns[k]))
        have HAV := (show Hid _ from hav)
        have hb : (headL ns ++ (ns.take k).flatMap (nodeF nm)).length ≤ 70000000 := by rw [List.length_append]; omega
        have HB := (show Hid _ from hb)
        obtain ⟨avs, avc, rfl, _, _, _⟩ := hav.pair
        obtain ⟨p1, p3, rfl, hp1, hp2, _, _⟩ := hkv
        have hki : (k : Int) < (ns.length : Int) := by omega
        obtain ⟨n, hnd⟩ : ∃ n, n = ns[k] := ⟨_, rfl⟩
        rw [← hnd] at d0 d1 d2 d3 d4 d5 HSM HTK HTL HAV hp1
        obtain ⟨w5, hw5⟩ : ∃ z, z = wr.alloc (.cells #[.int .i64 n.kind, .string n.name, .slice avs n.attrs.length avc, .string n.text, .int .i64 n.parent, .slice p1 n.kids.length p3] 36) := ⟨_, rfl⟩
        have R5 := (show Hid (TrD w0 K N M nm (.slice ua nm.length uc) (.slice (some ⟨b1, o1, none⟩) ns.length ca) w.heap.size (headL ns ++ (ns.take k).flatMap (nodeF nm)) w5) from (by rw [hw5]; exact TrD.box R.out _ : TrD w0 K N M nm (.slice ua nm.length uc) (.slice (some ⟨b1, o1, none⟩) ns.length ca) w.heap.size (headL ns ++ (ns.take k).flatMap (nodeF nm)) w5))
        have g5 : w5.heap[wr.heap.size]? = some (.cells #[.int .i64 n.kind, .string n.name, .slice avs n.attrs.length avc, .string n.text, .int .i64 n.parent, .slice p1 n.kids.length p3] 36 (0, 0)) := by rw [hw5]; exact World.alloc_heap_new _ _
        obtain ⟨⟨n0, n1, n2, n3, n4, n5⟩, _⟩ := six_at g5
        have lP := blk_lt g5
        obtain ⟨A, hA⟩ : ∃ A, A = wr.heap.size := ⟨_, rfl⟩
        rw [← hA] at n0 n1 n2 n3 n4 n5 lP
        clear g5 R hnd hav BW hb hhl hfl
        go_upto_region 11 with fail
        rw [← hw5, ← hA]
        clear hw5 hA d0 d1 d2 d3 d4 d5 hb1'
        go_wp2_with fail
        go_at_call 131
        refine Calls.mono (ipkNode_any R5.out.1 HAV.out HTL.out HSM.out HM.out.1 hnl HB.out) ?_
        rintro e w6 ⟨rfl, h6, f6⟩
        have R6 := (show Hid _ from TrD.next R5.out h6 f6)
        clear h6 f6 R5 n0 n1 n2 n3 n4 n5
        go_wp2
        go_roundw
        case rel => exact ⟨k + 1, by omega, by go_num, by rw [HTK.out, ← List.append_assoc]; exact R6.out⟩
        case measure => simp [intOf]; omega
end Go.Proofs.YtogdbjafibejdaaGreat

/- The specification's TreeRead (written by mk/srdt4.py). No condition. -/
namespace Go.Proofs.YtogdbjafibejdaaGreat
open Go.RowKit
set_option maxRecDepth 100000
set_option linter.unusedVariables false

theorem results_cell_tmp1 {fn : Func} {p u : Tmp} {ty : TypeId} (h : fn.results = #[.cell p ty, .tmp u]) (tmps : Array Value) (P : Program) (w : World) :
    (results fn tmps).run P w = ((asAddr (tmps.getD p undef)).run P w).andThen fun a w₁ => ((loadVar ty a).run P w₁).andThen fun y w₂ => .ok (.tuple #[y, tmps.getD u undef]) w₂ := by
  simp only [results, h]
  simp [Sem.run_bind, Result.andThen]
theorem treeT_res {fn : Func} {p u : Tmp} (hr : fn.results = #[.cell p 26, .tmp u]) {tmps : Array Value} {w : World} {g : Nat} {a r : Value} (h4 : tmps.getD p undef = .pointer (some ⟨g, 0, none⟩)) (h5 : tmps.getD u undef = r) (hb : w.heap[g]? = some (.cells #[a] 26 (0, 0))) :
    (results fn tmps).run Tryz.prog w = .ok (.tuple #[.agg #[a], r]) w := by
  rw [results_cell_tmp1 (p := p) (u := u) (ty := 26) hr, h4, h5]
  simp [asAddr, run_loadVar_row w g 26 26 #[a] (0, 0) _ hb Tryz.underlying26 rfl rfl, Result.andThen]
theorem rd_none {xs : List Int} {strict : Bool} {room : Nat → Nat → Bool} (hroom : ∀ c m, m < c → c ≤ 500 → room c m = true) (h : rdTop xs strict room = none) : ∀ ns, goodT ns → packL ns ≠ xs := fun ns hg e => by
  have := rdTop_form (strict := strict) (room := room) hg.1 hg.2.1 hroom
  rw [e, h] at this
  cases this
theorem rd_some {xs : List Int} {strict : Bool} {room : Nat → Nat → Bool} {ms : List PNode} (hroom : ∀ c m, m < c → c ≤ 500 → room c m = true) (h : rdTop xs strict room = some ms) (hno : ¬ (goodT ms ∧ packL ms = xs)) : ∀ ns, goodT ns → packL ns ≠ xs := fun ns hg e => by
  have := rdTop_form (strict := strict) (room := room) hg.1 hg.2.1 hroom
  rw [e, h] at this
  cases this
  exact hno ⟨hg, e⟩
theorem rd_long {xs : List Int} (h : 20000 < xs.length) : ∀ ns, goodT ns → packL ns ≠ xs := fun ns hg e => by
  have := hg.2.2
  rw [e] at this
  omega
def roomS (_ : Nat) : Nat → Bool := room500
theorem roomS_ok (c m : Nat) (h : m < c) (hc : c ≤ 500) : roomS c m = true := by
  unfold roomS room500
  simp
  omega
def ReadE (xs : List Int) (w : World) (e : Ending) (w' : World) : Prop :=
  ((∃ u qs, e = .returned (.tuple #[.agg #[u], .bool true]) ∧ goodT (qs.map (fun q => q.1)) ∧ packL (qs.map (fun q => q.1)) = xs ∧ OwnQ w.heap.size w' u qs ∧ Apart qs) ∨
    ((∀ ns, goodT ns → packL ns ≠ xs) ∧ e = .returned (.tuple #[.agg #[.slice none 0 0], .bool false]))) ∧ Below w.heap.size w w'
structure TwB (w : World) (W : World) : Prop where
  bel : Below w.heap.size w W
  c0 : W.heap[w.heap.size]? = some (.cells #[.slice none 0 0] 26 (0, 0))
  c1 : W.heap[w.heap.size + 1]? = some (.cells #[.slice none 0 0] 26 (0, 0))
theorem TwB.below {w W W' : World} (h : TwB w W) (b : Below W.heap.size W W') : TwB w W' := ⟨h.bel.trans (b.mono h.bel.size), (b.block _ (blk_lt h.c0)).trans h.c0, (b.block _ (blk_lt h.c1)).trans h.c1⟩
theorem TwB.grown {w W W' : World} {row : Option Nat} (h : TwB w W) (g : W.grownBy W' row) (hr : ∀ r, row = some r → w.heap.size + 2 ≤ r) : TwB w W' := ⟨h.bel.grown g h.bel.size (fun r e => by have := hr r e; omega), (g.block _ (blk_lt h.c0) (fun e => by have := hr _ e.symm; omega)).trans h.c0, (g.block _ (blk_lt h.c1) (fun e => by have := hr _ e.symm; omega)).trans h.c1⟩
theorem TwB.no {w W : World} (h : TwB w W) : (W.setCell ⟨w.heap.size, 0, none⟩ (.slice none 0 0)).heap[w.heap.size]? = some (.cells #[.slice none 0 0] 26 (0, 0)) ∧ Below w.heap.size w (W.setCell ⟨w.heap.size, 0, none⟩ (.slice none 0 0)) :=
  ⟨setCell_at (k := 0) (u := .slice none 0 0) h.c0, h.bel.setCell (p := ⟨w.heap.size, 0, none⟩) (Nat.le_refl _) _⟩

set_option maxHeartbeats 8000000 in
set_option maxRecDepth 100000 in
theorem streeRead_any {v : Value} {xs : List Int} {w : World} (h : Sl .u8 w v xs) (hb : ∀ x ∈ xs, 0 ≤ x ∧ x ≤ 255) (hn : xs.length ≤ 1099511627776) :
    Calls Tryz.prog 33 #[v] w fun e w' => ReadE xs w e w' := by
  have HB := (show Hid _ from hb)
  have HSL := (show Hid (Sl .u8 w v xs) from h)
  have CG := (show Hid (∀ W (i : Nat), Below w.heap.size w W → Calls Tryz.prog 95 #[v, .int .i64 (i : Int)] W fun e w' => e = .returned (pVal (rdP xs i)) ∧ w' = W) from fun W i b => sgetNum_p (h.below b) hb hn)
  have CT := (show Hid (∀ W (i : Nat), Below w.heap.size w W → Calls Tryz.prog 96 #[v, .int .i64 (i : Int)] W fun e w' => e = .returned (xVal (rdX xs i)) ∧ w' = W) from fun W i b => sgetText_x (h.below b) hb hn)
  obtain ⟨a, ca, rfl, _, _, _, _⟩ := h
  obtain ⟨is, his, hzs0, hzs1, hzs2⟩ := info_parts Tryz.infoStrZ
  obtain ⟨w2, hw2⟩ : ∃ y, y = (w.alloc (.cells #[.slice none 0 0] 26)).alloc (.cells #[.slice none 0 0] 26) := ⟨_, rfl⟩
  have s2 : TwB w w2 := by
    refine ⟨by rw [hw2]; exact ((Below.refl _ w).alloc (Nat.le_refl _) _).alloc (by simp) _, by rw [hw2, Below.heap_alloc _ _ _ (by simp)]; exact World.alloc_heap_new _ _, ?_⟩
    rw [hw2]
    have := World.alloc_heap_new (w.alloc (.cells #[.slice none 0 0] 26)) (.cells #[.slice none 0 0] 26)
    rwa [World.size_alloc] at this
  have S2 := (show Hid (TwB w w2) from s2)
  have hs2 : w2.heap.size = w.heap.size + 2 := by rw [hw2]; simp
  have HS2 := (show Hid _ from hs2)
  obtain ⟨c0, z0⟩ := one_cell s2.c0
  obtain ⟨c1, z1⟩ := one_cell s2.c1
  have l0 := blk_lt s2.c0
  have l1 := blk_lt s2.c1
  clear hb s2 hs2
  by_cases hlong : 20000 < xs.length
  · have HN := (show Hid _ from rd_long hlong)
    have hli : (20000 : Int) < (xs.length : Int) := by omega
    clear hlong
    go_enter Tryz.func33, Tryz.ntmps33
    go_upto_region 2 with fail
    rw [← hw2]
    clear hw2
    have H9 := (show Hid _ from TwB.no S2.out)
    go_wp2
    refine bodyPost_ret (treeT_res rfl rfl rfl H9.out.1) rfl ?_
    exact ⟨.inr ⟨HN.out, rfl⟩, H9.out.2⟩
  have hli : ¬ (20000 : Int) < (xs.length : Int) := by omega
  have hx : xs.length ≤ 20000 := by omega
  have B2 := (show Hid _ from S2.out.bel)
  clear hlong
  go_enter Tryz.func33, Tryz.ntmps33
  go_upto_region 4 with fail
  rw [← hw2]
  clear hw2
  go_wp2_with fail
  go_at_call 95
  refine Calls.mono (CG.out w2 0 B2.out) ?_
  rintro e wf ⟨rfl, ew⟩
  replace ew := ew.symm
  subst ew
  obtain ⟨w3, hw3⟩ : ∃ z, z = w2.alloc (.cells #[] 9) := ⟨_, rfl⟩
  have b3 : Below w2.heap.size w2 w3 := by rw [hw3]; exact (Below.refl _ _).alloc (Nat.le_refl _) _
  have S3 := (show Hid (TwB w w3) from S2.out.below b3)
  have O3 := (show Hid (OwnS (w.heap.size + 2) w3 (.slice (some ⟨w2.heap.size, 0, none⟩) 0 0) []) from (by
    have := empty_row w2 (w.heap.size + 2) 9 1 (by have := HS2.out; omega)
    rw [← hw3] at this
    exact this : OwnS (w.heap.size + 2) w3 (.slice (some ⟨w2.heap.size, 0, none⟩) 0 0) []))
  clear b3
  cases h1 : rdP xs 0 with
  | none =>
    have HN := (show Hid _ from rd_none (strict := false) (room := roomS) roomS_ok (by unfold rdTop; rw [h1] : rdTop xs false roomS = none))
    simp only [pVal]
    clear h1
    go_upto_region 6 with fail
    rw [← hw3]
    clear hw3
    clear c0 z0 c1 z1 l0 l1
    obtain ⟨c0, z0⟩ := one_cell S3.out.c0
    obtain ⟨c1, z1⟩ := one_cell S3.out.c1
    have l0 := blk_lt S3.out.c0
    have l1 := blk_lt S3.out.c1
    go_wp2_with fail
    go_loopw [6, 7, 8, 9] (fun a o n i wr => a = .int .i64 0 ∧ o = .bool false ∧ n = .slice (some ⟨w2.heap.size, 0, none⟩) 0 0 ∧ i = .int .i64 0 ∧ Hid (wr = w3)) (fun _ _ _ _ _ => 0)
    case atStart => exact ⟨rfl, rfl, rfl, rfl, rfl⟩
    case round =>
      obtain ⟨rfl, rfl, rfl, rfl, hw⟩ := hrel
      have ew := hw.out
      clear hw
      subst ew
      have H9 := (show Hid _ from TwB.no S3.out)
      go_wp2
      refine bodyPost_ret (treeT_res rfl rfl rfl H9.out.1) rfl ?_
      exact ⟨.inr ⟨HN.out, rfl⟩, H9.out.2⟩
  | some p1 =>
    obtain ⟨m, i1⟩ := p1
    have hk1 := rdP_some h1 HB.out
    have H1 := (show Hid (rdP xs 0 = some (m, i1)) from h1)
    simp only [pVal]
    clear h1
    go_upto_region 6 with fail
    rw [← hw3]
    clear hw3
    clear c0 z0 c1 z1 l0 l1
    obtain ⟨c0, z0⟩ := one_cell S3.out.c0
    obtain ⟨c1, z1⟩ := one_cell S3.out.c1
    have l0 := blk_lt S3.out.c0
    have l1 := blk_lt S3.out.c1
    go_wp2_with fail
    go_loopw [6, 7, 8, 9] (fun a o n i wr => ∃ (j c b : Nat) (acc : List ByteArray) (u1 : Option Addr) (u3 : Nat), a = .int .i64 (j : Int) ∧ o = .bool (b == 0) ∧ n = .slice u1 acc.length u3 ∧ i = .int .i64 (c : Int) ∧ c ≤ m ∧ Hid (TwB w wr ∧ OwnS (w.heap.size + 2) wr (.slice u1 acc.length u3) acc ∧ acc.length ≤ xs.length + 1 ∧ ((b = 0 ∧ ∃ f, rdNs xs f (m - c) j acc = rdNs xs (xs.length + 1) m i1 [] ∧ xs.length < f + j ∧ j ≤ xs.length ∧ acc.length ≤ j) ∨ (b = 1 ∧ rdNs xs (xs.length + 1) m i1 [] = none)))) (fun _ _ _ i _ => m - (intOf i).toNat)
    case atStart => exact ⟨i1, 0, 0, [], _, _, rfl, rfl, rfl, rfl, Nat.zero_le _, S3.out, O3.out, by simp, .inl ⟨rfl, _, rfl, by omega, hk1.2.1, by simp⟩⟩
    case round =>
      obtain ⟨j, c, b, acc, u1, u3, rfl, rfl, rfl, rfl, hc, J⟩ := hrel
      clear S3 O3
      have SJ := (show Hid (TwB w wr) from J.out.1)
      clear c0 z0 c1 z1 l0 l1
      obtain ⟨c0, z0⟩ := one_cell SJ.out.c0
      obtain ⟨c1, z1⟩ := one_cell SJ.out.c1
      have l0 := blk_lt SJ.out.c0
      have l1 := blk_lt SJ.out.c1
      by_cases hb1 : b = 1
      · subst hb1
        have HN := (show Hid _ from rd_none (strict := false) (room := roomS) roomS_ok (by
          rcases J.out.2.2.2 with h | h
          · exact absurd h.1 (by decide)
          · unfold rdTop; rw [H1.out]; simp only; rw [h.2] : rdTop xs false roomS = none))
        by_cases hcm : c < m
        · have hcm' : (c : Int) < (m : Int) := by omega
          have H9 := (show Hid _ from TwB.no SJ.out)
          go_wp2
          refine bodyPost_ret (treeT_res rfl rfl rfl H9.out.1) rfl ?_
          exact ⟨.inr ⟨HN.out, rfl⟩, H9.out.2⟩
        · have hcm' : ¬ (c : Int) < (m : Int) := by omega
          have H9 := (show Hid _ from TwB.no SJ.out)
          go_wp2
          refine bodyPost_ret (treeT_res rfl rfl rfl H9.out.1) rfl ?_
          exact ⟨.inr ⟨HN.out, rfl⟩, H9.out.2⟩
      obtain rfl : b = 0 := by rcases J.out.2.2.2 with h | h; exact h.1; exact absurd h.1 hb1
      have HJ := (show Hid (∃ f, rdNs xs f (m - c) j acc = rdNs xs (xs.length + 1) m i1 [] ∧ xs.length < f + j ∧ j ≤ xs.length ∧ acc.length ≤ j) from (by rcases J.out.2.2.2 with h | h; exact h.2; exact absurd h.1 (by decide) : ∃ f, rdNs xs f (m - c) j acc = rdNs xs (xs.length + 1) m i1 [] ∧ xs.length < f + j ∧ j ≤ xs.length ∧ acc.length ≤ j))
      have OJ := (show Hid (OwnS (w.heap.size + 2) wr (.slice u1 acc.length u3) acc) from J.out.2.1)
      have BJ := (show Hid (Below w.heap.size w wr) from SJ.out.bel)
      have hal : acc.length ≤ xs.length := by obtain ⟨f, _, _, h1, h2⟩ := HJ.out; omega
      have hwr := SJ.out.bel.size
      have hwr2 : w.heap.size + 2 ≤ wr.heap.size := l1
      clear J hb1
      by_cases hcm : c < m
      · have hcm' : (c : Int) < (m : Int) := by omega
        go_wp2_with fail
        go_at_call 96
        refine Calls.mono (CT.out wr j BJ.out) ?_
        rintro e wf ⟨rfl, ew⟩
        replace ew := ew.symm
        subst ew
        cases h5 : rdX xs j with
        | none =>
          have HN := (show Hid (rdNs xs (xs.length + 1) m i1 [] = none) from (by
            obtain ⟨f, h, hf, hj, _⟩ := HJ.out
            obtain ⟨f', rfl⟩ : ∃ f', f = f' + 1 := ⟨f - 1, by omega⟩
            obtain ⟨q, hq⟩ : ∃ q, m - c = q + 1 := ⟨m - c - 1, by omega⟩
            rw [← h, hq]
            simp [rdNs, h5] : rdNs xs (xs.length + 1) m i1 [] = none))
          simp only [xVal]
          clear h5
          have H1s := (show Hid (OwnS (w.heap.size + 2) (wr.alloc (.cells #[.string ⟨#[]⟩] 9)) (.slice u1 acc.length u3) acc) from OwnS.below OJ.out ((Below.refl _ _).alloc (Nat.le_refl _) _))
          have S1s := (show Hid (Sv 1 (wr.alloc (.cells #[.string ⟨#[]⟩] 9)) (.slice (some ⟨wr.heap.size, 0, none⟩) 1 1) [.string ⟨#[]⟩]) from by
            refine ⟨_, 1, 1, rfl, rfl, Nat.le_refl _, by unfold maxLen; omega, (fun e => (by cases e)), fun j hj => ?_⟩
            have : j = 0 := by simp at hj; omega
            subst this
            exact ⟨wr.heap.size, 0, rfl, by simp only [World.cell?, World.alloc_heap_new]; rfl⟩)
          go_wp2_with (first
            | (at_builtin
               refine wpList_appV _ rfl (.tmp 44) (.tmp 46) 82 rfl (w.heap.size + 2) 9 is _ 1 16 Tryz.underlying82 his hzs0 hzs1 hzs2 rfl (by decide) (.slice u1 acc.length u3) _ acc.length 1 (acc.map Value.string) [.string ⟨#[]⟩] rfl rfl H1s.out S1s.out rfl (fun y hy => by simp at hy; subst hy; rfl) (by omega) (by unfold maxLen; omega) (by rw [World.size_alloc]; omega) ?_
               intro v9 w9 o9 g9
               have O9 := (show Hid (OwnS (w.heap.size + 2) w9 v9 (acc ++ [⟨#[]⟩])) from (by unfold OwnS; rw [List.length_append, List.map_append]; exact o9 : OwnS (w.heap.size + 2) w9 v9 (acc ++ [⟨#[]⟩])))
               have S9 := (show Hid (TwB w w9) from (SJ.out.below ((Below.refl _ _).alloc (Nat.le_refl _) _)).grown g9 (fun r e => (World.ownsRow.lt H1s.out r e).1))
               obtain ⟨e1, e2, e3, rfl⟩ := own_slice o9
               obtain ⟨en2, _⟩ := str_cell (OwnS.sv O9.out)
               subst en2
               clear o9 g9)
            | fail)
          go_roundw
          case rel => exact ⟨0, c + 1, 1, _, _, _, rfl, rfl, by simp, by go_num, by omega, S9.out, O9.out, by rw [List.length_append, List.length_singleton]; omega, .inr ⟨rfl, HN.out⟩⟩
          case measure => simp [intOf]; omega
        | some p5 =>
          obtain ⟨s, j5⟩ := p5
          have hk5 := rdX_some h5 HB.out
          have HN := (show Hid (∃ f, rdNs xs f (m - (c + 1)) j5 (acc ++ [s]) = rdNs xs (xs.length + 1) m i1 [] ∧ xs.length < f + j5 ∧ j5 ≤ xs.length ∧ (acc ++ [s]).length ≤ j5) from (by
            obtain ⟨f, h, hf, hj, hl⟩ := HJ.out
            obtain ⟨f', rfl⟩ : ∃ f', f = f' + 1 := ⟨f - 1, by omega⟩
            obtain ⟨q, hq⟩ : ∃ q, m - c = q + 1 := ⟨m - c - 1, by omega⟩
            have hq2 : m - (c + 1) = q := by omega
            rw [hq, rdNs, h5] at h
            simp only at h
            refine ⟨f', by rw [hq2]; exact h, by omega, by omega, by rw [List.length_append, List.length_singleton]; omega⟩ : ∃ f, rdNs xs f (m - (c + 1)) j5 (acc ++ [s]) = rdNs xs (xs.length + 1) m i1 [] ∧ xs.length < f + j5 ∧ j5 ≤ xs.length ∧ (acc ++ [s]).length ≤ j5))
          simp only [xVal]
          clear h5
          have H1s := (show Hid (OwnS (w.heap.size + 2) (wr.alloc (.cells #[.string s] 9)) (.slice u1 acc.length u3) acc) from OwnS.below OJ.out ((Below.refl _ _).alloc (Nat.le_refl _) _))
          have S1s := (show Hid (Sv 1 (wr.alloc (.cells #[.string s] 9)) (.slice (some ⟨wr.heap.size, 0, none⟩) 1 1) [.string s]) from by
            refine ⟨_, 1, 1, rfl, rfl, Nat.le_refl _, by unfold maxLen; omega, (fun e => (by cases e)), fun j hj => ?_⟩
            have : j = 0 := by simp at hj; omega
            subst this
            exact ⟨wr.heap.size, 0, rfl, by simp only [World.cell?, World.alloc_heap_new]; rfl⟩)
          go_wp2_with (first
            | (at_builtin
               refine wpList_appV _ rfl (.tmp 44) (.tmp 46) 82 rfl (w.heap.size + 2) 9 is _ 1 16 Tryz.underlying82 his hzs0 hzs1 hzs2 rfl (by decide) (.slice u1 acc.length u3) _ acc.length 1 (acc.map Value.string) [.string s] rfl rfl H1s.out S1s.out rfl (fun y hy => by simp at hy; subst hy; rfl) (by omega) (by unfold maxLen; omega) (by rw [World.size_alloc]; omega) ?_
               intro v9 w9 o9 g9
               have O9 := (show Hid (OwnS (w.heap.size + 2) w9 v9 (acc ++ [s])) from (by unfold OwnS; rw [List.length_append, List.map_append]; exact o9 : OwnS (w.heap.size + 2) w9 v9 (acc ++ [s])))
               have S9 := (show Hid (TwB w w9) from (SJ.out.below ((Below.refl _ _).alloc (Nat.le_refl _) _)).grown g9 (fun r e => (World.ownsRow.lt H1s.out r e).1))
               obtain ⟨e1, e2, e3, rfl⟩ := own_slice o9
               obtain ⟨en2, _⟩ := str_cell (OwnS.sv O9.out)
               subst en2
               clear o9 g9)
            | fail)
          go_roundw
          case rel => exact ⟨j5, c + 1, 0, _, _, _, rfl, rfl, by simp, by go_num, by omega, S9.out, O9.out, by rw [List.length_append, List.length_singleton]; omega, .inl ⟨rfl, HN.out⟩⟩
          case measure => simp [intOf]; omega
      obtain rfl : c = m := by omega
      have hcm' : ¬ (c : Int) < (c : Int) := by omega
      have HNS := (show Hid (rdNs xs (xs.length + 1) c i1 [] = some (acc, j)) from (by
        obtain ⟨f, h, _⟩ := HJ.out
        rw [← h, Nat.sub_self]
        cases f <;> rfl : rdNs xs (xs.length + 1) c i1 [] = some (acc, j)))
      have hfs := (rdNs_some HB.out _ _ _ _ _ _ HNS.out (fun s hs => by cases hs) hk1.2.1).2.2.1
      have HFS := (show Hid (FitS xs.length acc) from hfs)
      have hjx : j ≤ xs.length := by obtain ⟨f, _, _, h1, h2⟩ := HJ.out; omega
      clear hcm hfs
      go_wp2_with fail
      go_at_call 95
      refine Calls.mono (CG.out wr j BJ.out) ?_
      rintro e wf ⟨rfl, ew⟩
      replace ew := ew.symm
      subst ew
      cases h2 : rdP xs j with
      | none =>
        have HN := (show Hid _ from rd_none (strict := false) (room := roomS) roomS_ok (by unfold rdTop; rw [H1.out]; simp only; rw [HNS.out]; simp only; rw [h2] : rdTop xs false roomS = none))
        simp only [pVal]
        clear h2
        have H9 := (show Hid _ from TwB.no SJ.out)
        go_wp2
        refine bodyPost_ret (treeT_res rfl rfl rfl H9.out.1) rfl ?_
        exact ⟨.inr ⟨HN.out, rfl⟩, H9.out.2⟩
      | some p2 =>
        obtain ⟨cnt, j2⟩ := p2
        have hk2 := rdP_some h2 HB.out
        have HT := (show Hid (rdTop xs false roomS = match rdN xs acc false room500 (xs.length + 1) (-1) [] j2 with | none => none | some (ns, _) => some ns) from (by unfold rdTop; rw [H1.out]; simp only; rw [HNS.out]; simp only; rw [h2]; rfl : rdTop xs false roomS = match rdN xs acc false room500 (xs.length + 1) (-1) [] j2 with | none => none | some (ns, _) => some ns))
        simp only [pVal]
        clear h2
        obtain ⟨w5, hw5⟩ : ∃ z, z = wr.alloc (.cells #[] 36) := ⟨_, rfl⟩
        have b5 : Below wr.heap.size wr w5 := by rw [hw5]; exact (Below.refl _ _).alloc (Nat.le_refl _) _
        have o5 : OwnQ wr.heap.size w5 (.slice (some ⟨wr.heap.size, 0, none⟩) 0 0) [] := by
          refine ⟨?_, fun q hq => by cases hq⟩
          have := empty_row wr wr.heap.size 36 6 (Nat.le_refl _)
          rwa [← hw5] at this
        have S5 := (show Hid (TwB w w5) from SJ.out.below b5)
        have B5 := (show Hid (Below wr.heap.size wr w5) from b5)
        have CB := (show Hid (Calls Tryz.prog 97 #[.slice a xs.length ca, .int .i64 (j2 : Int), .int .i64 (-1), .slice u1 acc.length u3, .slice (some ⟨wr.heap.size, 0, none⟩) 0 0] w5 _) from sl7Below_any (HSL.out.below SJ.out.bel) HB.out hx (OwnS.sv OJ.out) (by omega) HFS.out (xs.length + 1) j2 (-1) wr.heap.size w5 _ [] (by omega) hk2.2.1 (Nat.le_refl _) b5 b5.size o5 apart_nil (by simp) (fun n hn => by cases hn) (by simp))
        clear b5 o5
        go_wp2_with fail
        rw [← hw5]
        go_at_call 97
        clear hw5
        refine Calls.mono CB.out ?_
        rintro e w6 ⟨hor, f6⟩
        clear CB
        have B6 := (show Hid (Below wr.heap.size wr w6) from B5.out.trans (f6.below B5.out.size))
        have S6 := (show Hid (TwB w w6) from SJ.out.below B6.out)
        rcases hor with ⟨u, qs, j6, h6, rfl, o6, a6⟩ | ⟨x1, x2, x3, x4, h6, rfl⟩
        rotate_left
        · have HN := (show Hid _ from rd_none (strict := false) (room := roomS) roomS_ok (by rw [HT.out]; rw [List.map_nil] at h6; rw [h6] : rdTop xs false roomS = none))
          have S7 := (show Hid (TwB w (w6.alloc (.cells #[.slice x1 x2 x3] 26))) from S6.out.below ((Below.refl _ _).alloc (Nat.le_refl _) _))
          clear h6 f6
          clear c0 z0 c1 z1 l0 l1
          obtain ⟨c0, z0⟩ := one_cell S7.out.c0
          obtain ⟨c1, z1⟩ := one_cell S7.out.c1
          have l0 := blk_lt S7.out.c0
          have l1 := blk_lt S7.out.c1
          have H9 := (show Hid _ from TwB.no S7.out)
          go_wp2
          refine bodyPost_ret (treeT_res rfl rfl rfl H9.out.1) rfl ?_
          exact ⟨.inr ⟨HN.out, rfl⟩, H9.out.2⟩
        have HT6 := (show Hid (rdTop xs false roomS = some (qs.map (fun q => q.1))) from (by rw [HT.out]; rw [List.map_nil] at h6; rw [h6] : rdTop xs false roomS = some (qs.map (fun q => q.1))))
        have hrl := rdN_some HB.out HFS.out h6 (fun n hn => by cases hn) (Nat.zero_le _)
        have hfit := hrl.1.fit (by omega)
        have hlen : (qs.map (fun q => q.1)).length ≤ 1048576 := by have h1 := hrl.1.few; have h2 := hrl.1.most; omega
        obtain ⟨v1, v2, v3, rfl⟩ := own_slice o6.1
        obtain ⟨w7, hw7⟩ : ∃ z, z = w6.alloc (.cells #[.slice v1 v2 v3] 26) := ⟨_, rfl⟩
        have b7 : Below w6.heap.size w6 w7 := by rw [hw7]; exact (Below.refl _ _).alloc (Nat.le_refl _) _
        have g7 : w7.heap[w6.heap.size]? = some (.cells #[.slice v1 v2 v3] 26 (0, 0)) := by rw [hw7]; exact World.alloc_heap_new _ _
        obtain ⟨T, hT⟩ : ∃ T, T = w6.heap.size := ⟨_, rfl⟩
        have hTw : w.heap.size + 2 ≤ T := by have := B6.out.size; omega
        rw [← hT] at g7
        have S7 := (show Hid (TwB w w7) from S6.out.below b7)
        have o7 := o6.below b7
        have O7 := (show Hid (OwnQ wr.heap.size w7 (.slice v1 v2 v3) qs) from o7)
        have A7 := (show Hid (Apart qs) from a6)
        have G7 := (show Hid _ from g7)
        have CP := (show Hid (Calls Tryz.prog 30 #[.agg #[.slice v1 v2 v3]] w7 _) from streePack_any o7.n.nodes hfit hlen)
        clear h6 f6 o6 a6 hrl hfit hlen b7 o7
        obtain ⟨cT, zT⟩ := one_cell g7
        have lT := blk_lt g7
        clear g7
        clear c0 z0 c1 z1 l0 l1
        obtain ⟨c0, z0⟩ := one_cell S7.out.c0
        obtain ⟨c1, z1⟩ := one_cell S7.out.c1
        have l0 := blk_lt S7.out.c0
        have l1 := blk_lt S7.out.c1
        go_wp2_with fail
        rw [← hw7, ← hT]
        go_at_call 30
        clear hw7 hT
        refine Calls.mono CP.out ?_
        rintro e w8 ⟨pv, r, rfl, hpa, b8⟩
        clear CP
        have S8 := (show Hid (TwB w w8) from S7.out.below b8)
        have G8 := (show Hid (w8.heap[T]? = some (.cells #[.slice v1 v2 v3] 26 (0, 0))) from (b8.block _ lT).trans G7.out)
        have O8 := (show Hid (OwnQ wr.heap.size w8 (.slice v1 v2 v3) qs) from O7.out.below b8)
        clear cT zT lT b8
        obtain ⟨cT, zT⟩ := one_cell G8.out
        have lT := blk_lt G8.out
        clear c0 z0 c1 z1 l0 l1
        obtain ⟨c0, z0⟩ := one_cell S8.out.c0
        obtain ⟨c1, z1⟩ := one_cell S8.out.c1
        have l0 := blk_lt S8.out.c0
        have l1 := blk_lt S8.out.c1
        rcases hpa with ⟨rfl, hgd, opv⟩ | ⟨rfl, hgd, opv⟩
        rotate_left
        · have HN := (show Hid _ from rd_some (strict := false) (room := roomS) roomS_ok HT6.out (fun h => hgd h.1))
          obtain ⟨p1, p2, p3, rfl⟩ := own_slice opv
          clear hgd opv
          have H9 := (show Hid _ from TwB.no S8.out)
          go_wp2
          refine bodyPost_ret (treeT_res rfl rfl rfl H9.out.1) rfl ?_
          exact ⟨.inr ⟨HN.out, rfl⟩, H9.out.2⟩
        have hcv := conv_sl opv.sl
        have hcb := conv_sl (HSL.out.below S8.out.bel)
        obtain ⟨p1, p2, p3, rfl⟩ := own_slice opv
        have hby : ∀ x ∈ packL (qs.map (fun q => q.1)), 0 ≤ x ∧ x ≤ 255 := packL_byte hgd.1.1
        by_cases heq : packL (qs.map (fun q => q.1)) = xs
        · have HG := (show Hid _ from And.intro hgd heq)
          have hse : ((strOf xs).toList == (strOf xs).toList) = true := by simp
          rw [heq] at hcv
          have gs := grown_setCell w8 w.heap.size 0 (.slice v1 v2 v3)
          have H9 := (show Hid ((w8.setCell ⟨w.heap.size, 0, none⟩ (.slice v1 v2 v3)).heap[w.heap.size]? = some (.cells #[.slice v1 v2 v3] 26 (0, 0)) ∧ Below w.heap.size w (w8.setCell ⟨w.heap.size, 0, none⟩ (.slice v1 v2 v3)) ∧ OwnQ w.heap.size (w8.setCell ⟨w.heap.size, 0, none⟩ (.slice v1 v2 v3)) (.slice v1 v2 v3) qs) from ⟨setCell_at (k := 0) (u := .slice v1 v2 v3) S8.out.c0, S8.out.bel.setCell (p := ⟨w.heap.size, 0, none⟩) (Nat.le_refl _) _, (O8.out.base hwr).kept gs (fun r e => by cases e; exact ⟨_, _, _, S8.out.c0, by decide, by decide, by decide⟩)⟩)
          clear hgd opv hby gs
          go_wp2
          refine bodyPost_ret (treeT_res rfl rfl rfl H9.out.1) rfl ?_
          exact ⟨.inl ⟨_, qs, rfl, HG.out.1, HG.out.2, H9.out.2.2, A7.out⟩, H9.out.2.1⟩
        · have HN := (show Hid _ from rd_some (strict := false) (room := roomS) roomS_ok HT6.out (fun h => heq h.2))
          have hne : strOf (packL (qs.map (fun q => q.1))) ≠ strOf xs := fun e => heq (strOf_inj hby HB.out e)
          have hne2 := toList_no hne
          clear hgd opv hby heq
          have H9 := (show Hid _ from TwB.no S8.out)
          go_wp2
          refine bodyPost_ret (treeT_res rfl rfl rfl H9.out.1) rfl ?_
          exact ⟨.inr ⟨HN.out, rfl⟩, H9.out.2⟩
end Go.Proofs.YtogdbjafibejdaaGreat
