/- The program's arena where it lies in a treeReader: hang (written by mk/iart.py, turned by hand as IArT1). No condition. -/
import Derived.Test.YtogdbjafibejdaaGreatY35
import Derived.Test.YtogdbjafibejdaaGreatY49
import Derived.Test.YtogdbjafibejdaaGreatY50
import Derived.Test.YtogdbjafibejdaaGreatY46
import Derived.Test.YtogdbjafibejdaaGreatY36
import Derived.Test.YtogdbjafibejdaaGreatY34
import Derived.Test.YtogdbjafibejdaaGreatY4
import Derived.Test.YtogdbjafibejdaaGreatY48
import Derived.Test.YtogdbjafibejdaaGreatY44
import Derived.Test.YtogdbjafibejdaaGreatY33
import Derived.Test.YtogdbjafibejdaaGreatY37
import Derived.Test.YtogdbjafibejdaaGreatY32
namespace Go.Proofs.YtogdbjafibejdaaGreat
open Go.RowKit
set_option maxRecDepth 100000
set_option linter.unusedVariables false

def MoreWA (B g p : Nat) (v : Value) (qs : List (PNode × (Value × Value))) (ks : List Int) (W : World) (wx : World) : Prop :=
  ∃ qs', qs'.map (fun q => q.1) = (qs.map (fun q => q.1)).modify p (fun n => setKids n ks) ∧ OwnQ B wx v qs' ∧ Apart qs' ∧ SameA qs qs' ∧ TurnQ g qs W wx
theorem moreWA_mk {B g n cap p : Nat} {W W1 x : World} {qs : List (PNode × (Value × Value))} (h : OwnQ B W (.slice (some ⟨g, 0, none⟩) n cap) qs) (hA : Apart qs) (hp : p < qs.length) (b1 : Below W.heap.size W W1) (hg : W1.grownBy x qs[p].2.2.ownBlock) {u : Value} {ks : List Int} (hu : Own B 3 .i64 x u ks)
    (hr : ∀ r, u.ownBlock = some r → qs[p].2.2.ownBlock = some r ∨ W1.heap.size ≤ r) : MoreWA B g p (.slice (some ⟨g, 0, none⟩) n cap) qs ks W (x.setCell ⟨g, p * 6 + 5, none⟩ u) := by
  refine ⟨qs.set p (kidQ qs[p] ks u), ?_, (h.below b1).more hA hp hg hu, apart_kid hA hp (fun r e => ?_), SameA.set (show SameA qs qs from rfl) hp rfl, ?_⟩
  · exact map_modify hp rfl
  · rcases hr r e with h1 | h1
    · exact .inl h1
    · refine .inr (fun q hq e2 => ?_)
      have := (Own.lt (h.2 q hq).2 r e2).2
      have := b1.size
      omega
  · have hs : x.grownBy (x.setCell ⟨g, p * 6 + 5, none⟩ u) (some g) := grown_setCell _ _ _ _
    refine ⟨hs.os.trans (hg.os.trans b1.os), hs.tape.trans (hg.tape.trans b1.tape), hs.output.trans (hg.output.trans b1.output), Nat.le_trans b1.size (Nat.le_trans hg.size hs.size), fun j hj hjg hq => ?_⟩
    have l1 := Nat.lt_of_lt_of_le hj b1.size
    rw [hs.block j (Nat.lt_of_lt_of_le l1 hg.size) (fun e => by injection e with e; exact hjg e), hg.block j l1 (fun e => hq qs[p] (List.getElem_mem hp) e.symm), b1.block j hj]

set_option maxHeartbeats 16000000 in
set_option maxRecDepth 100000 in
theorem ihangT_any {B a g cap : Nat} {tr0 tr1 tr2 tr4 : Value} {w : World} {qs : List (PNode × (Value × Value))} (ha : w.heap[a]? = some (.cells #[tr0, tr1, tr2, .slice (some ⟨g, 0, none⟩) qs.length cap, tr4] 120 (0, 0))) (hO : OwnQ B w (.slice (some ⟨g, 0, none⟩) qs.length cap) qs) (hA : Apart qs) (hB : B ≤ w.heap.size) (hlen : qs.length ≤ 100000) {c : Nat} (hc : c < qs.length) (hc0 : c ≠ 0)
    (hp : qs[c].1.parent = -1 ∨ ∃ p : Nat, qs[c].1.parent = p ∧ p < qs.length) (hkl : ∀ q ∈ qs, q.1.kids.length ≤ 1048576) {p : Nat} (hpl : p < qs.length) :
    Calls Tryz.prog 50 #[.pointer (some ⟨a, 3, none⟩), .int .i64 c, .int .i64 p] w fun e w' => e = .returned (.bool true) ∧ (∃ qs', qs'.map (fun q => q.1) = hangN (qs.map (fun q => q.1)) c p ∧ OwnQ B w' (.slice (some ⟨g, 0, none⟩) qs.length cap) qs' ∧ Apart qs' ∧ SameA qs qs') ∧ TurnQ g qs w w' := by
  obtain ⟨ii, hii, hzi0, hzi1, hzi2⟩ := info_parts Tryz.infoIntRow
  have hag : a ≠ g := fun e => by
    subst e
    rcases hO.1.2 with ⟨e1, _⟩ | ⟨g', cap', cur, e1, hB', hh, _⟩
    · cases e1
    · cases e1; rw [ha] at hh; cases hh
  have hgB : B ≤ g := (World.ownsRow.lt hO.1 g rfl).1
  have CT := (show Hid _ from itakeT_any ha hO hA hB hlen hc hc0 hp hkl)
  have HKL := (show Hid (∀ q ∈ qs, q.1.kids.length ≤ 1048576) from hkl)
  have hal := lt_of_block ha
  have HAA := (show Hid _ from ha)
  have HO := (show Hid (OwnQ B w (.slice (some ⟨g, 0, none⟩) qs.length cap) qs) from hO)
  clear ha hO hA hp hkl
  go_enter Tryz.func50, Tryz.ntmps50
  go_wp2_with fail
  go_at_call 65
  refine Calls.mono CT.out ?_
  rintro e w1 ⟨rfl, ⟨qs1, hm1, o1, a1, sa1, hq1⟩, g1⟩
  clear CT
  have ha1 : w1.heap[a]? = some (.cells #[tr0, tr1, tr2, .slice (some ⟨g, 0, none⟩) qs.length cap, tr4] 120 (0, 0)) := (g1.block a hal (fun e => by injection e with e; exact hag e)).trans HAA.out
  obtain ⟨cA1, _⟩ := oneT_cell ha1
  have hl1 : qs1.length = qs.length := by have := congrArg List.length hm1; simpa [takeN_len] using this
  have hc1 : c < qs1.length := by omega
  have hp1 : p < qs1.length := by omega
  have o2 := o1.par hc1 (p : Int)
  have a2 := apart_par a1 hc1 (p : Int)
  have hm2 := map_set_par qs1 hc1 (p : Int)
  have c4 : w1.cell? ⟨g, c * 6 + 4, none⟩ = some (.int .i64 qs1[c].1.parent) := o1.cellAt (j := 4) hc1 (by omega)
  have f4 := o1.frozenAt (c * 6 + 4)
  have hci : (c : Int) < (qs.length : Int) := by omega
  have hpi : (p : Int) < (qs.length : Int) := by omega
  have hkl1 : qs1[p].1.kids.length ≤ 1048576 := by
    have hmem : qs1[p].1 ∈ takeN (qs.map (fun q => q.1)) c := by rw [← hm1]; exact List.mem_map.mpr ⟨qs1[p], List.getElem_mem hp1, rfl⟩
    exact take_kids (fun n hn => by obtain ⟨q, hq, rfl⟩ := List.mem_map.mp hn; exact HKL.out q hq) _ hmem
  obtain ⟨qs2, hqs2⟩ : ∃ z, z = qs1.set c (parQ qs1[c] (p : Int)) := ⟨_, rfl⟩
  rw [← hqs2] at o2 a2 hm2
  have SA2 := (show Hid (SameA qs qs2) from (by rw [hqs2]; exact sa1.set hc1 rfl : SameA qs qs2))
  clear sa1
  have hl2 : qs2.length = qs.length := by rw [hqs2, List.length_set]; exact hl1
  have hp2 : p < qs2.length := by omega
  have hk2 : qs2[p].1.kids = qs1[p].1.kids ∧ qs2[p].2.2 = qs1[p].2.2 := by
    have : qs2[p] = if c = p then parQ qs1[c] (p : Int) else qs1[p] := by
      simp only [hqs2, List.getElem_set]
    rw [this]
    split
    · rename_i e; subst e; exact ⟨rfl, rfl⟩
    · exact ⟨rfl, rfl⟩
  rw [← hk2.1] at hkl1
  obtain ⟨W2, hW2⟩ : ∃ z, z = w1.setCell ⟨g, c * 6 + 4, none⟩ (.int .i64 (p : Int)) := ⟨_, rfl⟩
  have gr2 : w1.grownBy W2 (some g) := by rw [hW2]; exact grown_setCell _ _ _ _
  rw [← hW2] at o2
  have TQ := (show Hid (TurnQ g qs w W2) from TurnQ.of_row (grown_trans g1 gr2))
  have HQ2 := (show Hid (∀ q ∈ qs2, ∀ r, q.2.2.ownBlock = some r → (∃ q ∈ qs, q.2.2.ownBlock = some r) ∨ w.heap.size ≤ r) from fun q hq r e => by
    rw [hqs2] at hq
    rcases List.mem_or_eq_of_mem_set hq with hq | rfl
    · exact hq1 q hq r e
    · exact hq1 qs1[c] (List.getElem_mem hc1) r e)
  have HM2 := (show Hid (qs2.map (fun q => q.1) = (takeN (qs.map (fun q => q.1)) c).modify c (fun n => setPar n (p : Int))) from (show _ = _ by rw [hm2, hm1]))
  have ha2 : W2.heap[a]? = some (.cells #[tr0, tr1, tr2, .slice (some ⟨g, 0, none⟩) qs.length cap, tr4] 120 (0, 0)) := (gr2.block a (lt_of_block ha1) (fun e => by injection e with e; exact hag e)).trans ha1
  obtain ⟨cA2, _⟩ := oneT_cell ha2
  have hown := (o2.2 qs2[p] (List.getElem_mem hp2)).2
  have c5 : W2.cell? ⟨g, p * 6 + 5, none⟩ = some qs2[p].2.2 := o2.cellAt (j := 5) hp2 (by omega)
  obtain ⟨k1, k2, k3, hk⟩ := own_slice hown
  have O2 := (show Hid (OwnQ B W2 (.slice (some ⟨g, 0, none⟩) qs.length cap) qs2) from o2)
  have A2 := (show Hid (Apart qs2) from a2)
  have bd : Below W2.heap.size W2 (W2.alloc (.cells #[.int .i64 (c : Int)] 3)).drew := ((Below.refl _ W2).alloc (Nat.le_refl _) _).trans (below_drewN 1)
  have BD := (show Hid (Below W2.heap.size W2 (W2.alloc (.cells #[.int .i64 (c : Int)] 3)).drew) from bd)
  have OD := (show Hid (Own B 3 .i64 (W2.alloc (.cells #[.int .i64 (c : Int)] 3)).drew (.slice k1 k2 k3) qs2[p].1.kids) from by rw [← hk]; exact hown.below bd)
  have SD := (show Hid (Sl .i64 (W2.alloc (.cells #[.int .i64 (c : Int)] 3)).drew (.slice (some ⟨W2.heap.size, 0, none⟩) 1 1) [(c : Int)]) from (sl_one 3 .i64 W2 (c : Int)).below (below_drewN 1))
  rw [hk] at c5
  have HKE := (show Hid (qs2[p].2.2 = .slice k1 k2 k3) from hk)
  have hgl2 : g < W2.heap.size := (World.ownsRow.lt o2.1 g rfl).2
  have hal2 := lt_of_block ha2
  have hBW : B ≤ W2.heap.size := Nat.le_trans hB (Nat.le_trans g1.size gr2.size)
  have cAa : ∀ X, (W2.alloc X).cell? ⟨a, 3, none⟩ = some (.slice (some ⟨g, 0, none⟩) qs.length cap) := fun X => (((Below.refl _ W2).alloc (Nat.le_refl _) X).cell (p := ⟨a, 3, none⟩) hal2).trans cA2
  have c5a : ∀ X, (W2.alloc X).cell? ⟨g, p * 6 + 5, none⟩ = some (.slice k1 k2 k3) := fun X => (((Below.refl _ W2).alloc (Nat.le_refl _) X).cell (p := ⟨g, p * 6 + 5, none⟩) hgl2).trans c5
  obtain ⟨ks, hks⟩ : ∃ z, z = qs2[p].1.kids := ⟨_, rfl⟩
  rw [← hks] at OD hkl1
  have HKS := (show Hid (ks = qs2[p].1.kids) from hks)
  clear o2 hm1 hm2 a1 a2 hq1 g1 gr2 hown hk hks bd hqs2 hk2 o1
  go_wp2_with (go_at_call 74; refine Calls.mono (ihasT_any cA1 (p : Int)) ?_; rintro e wx ⟨rfl, hx⟩; rw [hx, decide_eq_true ⟨by omega, by omega⟩]; clear hx wx)
  rw [← hW2]
  clear hW2 c4 f4 cA1 ha1
  go_cut [] from 7 (fun wx => MoreWA B g p (.slice (some ⟨g, 0, none⟩) qs.length cap) qs2 (ks ++ [(c : Int)]) W2 wx)
  case first =>
    go_region_law (first
      | (with_reducible refine step_appU (w := (W2.alloc (Obj.cells #[.int .i64 (c : Int)] 3)).drew) ?_ (.tmp 37) (.tmp 39) 34 ?_ B 3 ii (.int .i64 0) 8 ?_ hii hzi0 hzi1 hzi2 ?_ .i64 (.slice k1 k2 k3) ks ⟨W2.heap.size, 0, none⟩ 1 [(c : Int)] ?_ ?_ ?_ ?_ ?_ ?_ ?_ ?_
         · rfl
         · rfl
         · exact Tryz.underlying34
         · rfl
         · simp [Act.eval]
         · simp [Act.eval]
         · exact OD.out
         · exact SD.out
         · (simp; omega)
         · (unfold maxLen; simp; omega)
         · exact Nat.le_trans hBW BD.out.size
         intro v9 w9 o9 g9 r9
         obtain ⟨u2, u3, u4, rfl⟩ := own_slice o9
         have M9 := (show Hid (MoreWA B g p (.slice (some ⟨g, 0, none⟩) qs.length cap) qs2 (ks ++ [(c : Int)]) W2 (w9.setCell ⟨g, p * 6 + 5, none⟩ (.slice u2 u3 u4))) from moreWA_mk O2.out A2.out hp2 BD.out (by rw [HKE.out]; exact g9) o9 (by rw [HKE.out]; exact r9))
         have t9 : w9.heap[g]? = (W2.alloc (Obj.cells #[.int .i64 (c : Int)] 3)).drew.heap[g]? ∧ w9.heap[a]? = (W2.alloc (Obj.cells #[.int .i64 (c : Int)] 3)).drew.heap[a]? := by
           have key : ∀ j, j < W2.heap.size → (∃ cs t fr, W2.heap[j]? = some (.cells cs t fr) ∧ t ≠ 3) → w9.heap[j]? = (W2.alloc (Obj.cells #[.int .i64 (c : Int)] 3)).drew.heap[j]? := fun j hj ⟨cs, t, fr, hh, ht⟩ => g9.block j (Nat.lt_of_lt_of_le hj BD.out.size) (fun e => by
             have ho := (O2.out.2 qs2[p] (List.getElem_mem hp2)).2
             rw [HKE.out] at ho
             rcases ho.2 with ⟨e1, _⟩ | ⟨g', cap', cur, e1, _, hh', _⟩
             · rw [e1] at e; cases e
             · rw [e1] at e
               simp only [Value.ownBlock, Option.some.injEq] at e
               subst e
               rw [hh] at hh'
               cases hh'
               exact ht rfl)
           obtain ⟨cur, hcur⟩ := OwnQ.rowCells O2.out
           exact ⟨key g hgl2 ⟨_, _, _, hcur, by decide⟩, key a hal2 ⟨_, _, _, ha2, by decide⟩⟩
         have l5 : w9.cell? ⟨g, p * 6 + 5, none⟩ = some (.slice k1 k2 k3) := by
           rw [← (BD.out.cell (p := ⟨g, p * 6 + 5, none⟩) hgl2).trans c5]; simp only [World.cell?, t9.1]
         have lA : w9.cell? ⟨a, 3, none⟩ = some (.slice (some ⟨g, 0, none⟩) qs.length cap) := by
           rw [← (BD.out.cell (p := ⟨a, 3, none⟩) hal2).trans cA2]; simp only [World.cell?, t9.2]
         have f5 : w9.frozen? ⟨g, p * 6 + 5, none⟩ = false := by
           have := OwnQ.frozenAt (O2.out.below BD.out) (p * 6 + 5)
           rw [← this]; simp only [World.frozen?, t9.1]
         clear o9 g9 r9 t9))
    all_goals
      go_wp2_with fail
      go_meet
      with_reducible exact M9.out
  case rest =>
    obtain ⟨qs3, h1, h2, h3, h5, h4⟩ := hcut
    have HE := (show Hid (_ ∧ _) from ⟨(⟨qs3, by rw [h1, HM2.out, HKS.out]; exact hang_eq hp2 HM2.out, h2, h3, (show SameA qs qs3 from Eq.trans h5 SA2.out)⟩ : ∃ qs', qs'.map (fun q => q.1) = hangN (qs.map (fun q => q.1)) c p ∧ OwnQ B wc (.slice (some ⟨g, 0, none⟩) qs.length cap) qs' ∧ Apart qs' ∧ SameA qs qs'), TQ.out.trans h4 HQ2.out⟩)
    clear h1 h2 h3 h4 h5
    go_wp2
    go_ret
    exact ⟨rfl, HE.out.1, HE.out.2⟩
end Go.Proofs.YtogdbjafibejdaaGreat

/- The program's TreePack, of every tree. No condition. -/
namespace Go.Proofs.YtogdbjafibejdaaGreat
open Go.RowKit Go.Maps
set_option maxRecDepth 100000
set_option linter.unusedVariables false

theorem NmAt.base {B B' N M : Nat} {nm : List ByteArray} {W : World} (h : NmAt B N M nm W) (hB : B' ≤ B) : NmAt B' N M nm W := by
  obtain ⟨h1, h2, u, D, n, hN, o, hM, hn, hp⟩ := h
  exact ⟨by omega, by omega, u, D, n, hN, ownsRow_base o hB, hM, hn, hp⟩

set_option maxHeartbeats 4000000 in
set_option maxRecDepth 100000 in
theorem itreePack_any {w : World} {v : Value} {ns : List PNode} (hn : NodesAt w v ns) (hfit : ∀ n ∈ ns, NodeFit n) (hlen : ns.length ≤ 1048576) :
    Calls Tryz.prog 29 #[.agg #[v]] w fun e w' => PackE ns w e w' := by
  obtain ⟨a, ca, rfl, _, _, _⟩ := hn.slice
  have HF := (show Hid (∀ n ∈ ns, NodeFit n) from hfit)
  have HN := (show Hid (NodesAt w (.slice a ns.length ca) ns) from hn)
  obtain ⟨w2, hw2⟩ : ∃ x, x = w.alloc (.cells #[.slice a ns.length ca] 26) := ⟨_, rfl⟩
  have b2 : Below w.heap.size w w2 := by rw [hw2]; exact (Below.refl _ w).alloc (Nat.le_refl _) _
  have gT : w2.heap[w.heap.size]? = some (.cells #[.slice a ns.length ca] 26 (0, 0)) := by rw [hw2]; exact World.alloc_heap_new _ _
  have GT := (show Hid _ from gT)
  have B2 := (show Hid _ from b2)
  have KB := (show Hid (∀ W, Below w2.heap.size w2 W → Below w.heap.size w W) from fun W h => b2.trans (h.mono b2.size))
  have KC := (show Hid (∀ W, Below w2.heap.size w2 W → W.cell? ⟨w.heap.size, 0, none⟩ = some (.slice a ns.length ca)) from fun W h => (one_cell ((h.block _ (blk_lt gT)).trans gT)).1)
  have C1 := (show Hid (∀ W, Below w2.heap.size w2 W → Calls Tryz.prog 15 #[.agg #[.slice a ns.length ca]] W fun e w' => ∃ r, e = .returned (.bool r) ∧ (r = true ↔ TreeOkP ns) ∧ Below w2.heap.size w2 w') from fun W b => (itreeOk_any (hn.below (b2.trans (b.mono b2.size))) hfit hlen).mono (by
    rintro e w' ⟨r, rfl, hr, b'⟩; exact ⟨r, rfl, hr, b.trans (b'.mono b.size)⟩))
  have T1 := (show Hid (∀ W, Below w2.heap.size w2 W → TreeOkP ns → Calls Tryz.prog 25 #[.agg #[.slice a ns.length ca]] W fun e w' => ∃ v', e = .returned (.agg #[v']) ∧ NodesAt w' v' (tidyN ns) ∧ Below w2.heap.size w2 w') from fun W b h => (itidy_any (hn.below (b2.trans (b.mono b2.size))) hfit hlen).mono (by
    rintro e w' ⟨v', rfl, ho, _, b'⟩; exact ⟨v', rfl, (ho h).nodes, b.trans (b'.mono b.size)⟩))
  have E1 := (show Hid (∀ W u, TreeOkP ns → NodesAt W u (tidyN ns) → Below w2.heap.size w2 W → Calls Tryz.prog 62 #[.slice a ns.length ca, u, .func (.func 63) #[] #[]] W fun e w' => ∃ r : Bool, e = .returned (.bool r) ∧ Hid ((r = true ↔ ns = tidyN ns) ∧ Below w2.heap.size w2 w')) from fun W u h k b => (iequalFunc (hn.below (b2.trans (b.mono b2.size))) k hfit (tidyL_fit hfit _ (by have e1 := h.one; have e2 := down_few h (k := 0) (by omega); have e3 := h.most; omega)) hlen).mono (by
    rintro e w' ⟨r, rfl, hr, b'⟩; exact ⟨r, rfl, hr, b.trans (b'.mono b.size)⟩))
  have BD := (show Hid (Below w2.heap.size w2 w2.drew) from below_drewN 1)
  have l0 := blk_lt gT
  have c0 := KC.out w2 (Below.refl _ _)
  have hfld : ∀ (x : Option Addr) (y z : Nat) (W : World), (Instr.field 26 (.agg #[.slice x y z]) 0).run Tryz.prog W = .ok (.slice x y z) W := fun _ _ _ _ => by kernel_rfl
  clear hn hfit b2 gT
  go_enter Tryz.func29, Tryz.ntmps29
  go_upto_region 1 with fail
  rw [← hw2]
  clear hw2
  go_cut [16] from 5 to 16 (fun s16 wx => ∃ q : Bool, s16 = .bool q ∧ Hid ((q = true ↔ ¬ (TreeOkP ns ∧ ns = tidyN ns)) ∧ Below w2.heap.size w2 wx))
  case first =>
    by_cases hok : TreeOkP ns
    · go_region_with (first
        | (go_at_call 15
           refine Calls.mono (C1.out _ BD.out) ?_
           rintro e w3 ⟨r, rfl, hr, b3⟩
           obtain rfl : r = true := hr.mpr hok
           have c3 := KC.out w3 b3
           have BB3 := (show Hid _ from b3)
           clear b3 hr)
        | (go_at_call 25
           refine Calls.mono (T1.out _ BB3.out hok) ?_
           rintro e w4 ⟨u, rfl, nu, b4⟩
           have c4 := KC.out w4 b4
           have BB4 := (show Hid _ from b4)
           have NU := (show Hid (NodesAt w4 u (tidyN ns)) from nu)
           obtain ⟨r1, r3, rfl, _⟩ := nu.slice
           clear b4 nu)
        | (go_at_call 62
           refine Calls.mono (E1.out _ _ hok NU.out BB4.out) ?_
           rintro e w5 ⟨r5, rfl, R5⟩)
        | fail)
      all_goals
        go_wp2_with fail
        go_meet
        refine ⟨!r5, rfl, ?_⟩
        refine ⟨?_, R5.out.2⟩
        rw [← R5.out.1]
        simp [hok]
    · have CE := (show Hid (∀ n : Wd w2.heap.size w2, Calls Tryz.prog 15 #[.agg #[.slice a ns.length ca]] n.w fun e w' => e = .returned (.bool false) ∧ Below n.w.heap.size n.w w') from fun n => (itreeOk_any (HN.out.below (KB.out _ n.below)) HF.out hlen).mono (by
        rintro e w' ⟨r, rfl, hr, b'⟩
        obtain rfl : r = false := by cases r; rfl; exact absurd (hr.mp rfl) hok
        exact ⟨rfl, b'⟩))
      have cc := fun n : Wd w2.heap.size w2 => KC.out n.w n.below
      have ne := Wd.any w2.heap.size w2
      refine wp_region_below (by kernel_rfl) (by kernel_rfl) (Below.refl w2.heap.size w2) ?_
      repeat (go_big_quiet_step ((go_at_call 15; exact quiet_below (CE.out _) (Nat.le_refl _))))
      refine wpQuiet_nil ?_
      intro w9 hq9
      replace hq9 := Wd.of hq9
      clear cc ne
      go_wp2_with fail
      go_meet
      exact ⟨true, rfl, by simp [hok], hq9⟩
  case rest =>
    obtain ⟨q, rfl, Q⟩ := hcut
    clear C1 T1 E1 BD c0
    cases q
    rotate_left
    · have HB := (show Hid (¬ goodT ns) from fun h => Q.out.1.mp rfl ⟨h.1.1, h.2.1.symm⟩)
      have BE := (show Hid _ from KB.out _ Q.out.2)
      go_wp2
      go_ret2
      exact ⟨_, _, rfl, .inr ⟨rfl, HB.out, own_nil _ _ _ _⟩, BE.out⟩
    have hgood : TreeOkP ns ∧ ns = tidyN ns := Classical.byContradiction (fun h => by have := Q.out.1.mpr h; cases this)
    have HOK := (show Hid _ from hgood.1)
    have HS := (show Hid (STreeOkP ns) from tidy_strict hgood.1 hgood.2.symm)
    have HT := (show Hid (tidyN ns = ns) from hgood.2.symm)
    have hmost := hgood.1.most
    have BC := (show Hid (Below w2.heap.size w2 wc) from Q.out.2)
    have BWc := (show Hid (Below w.heap.size w wc) from KB.out _ Q.out.2)
    have cT := KC.out _ BC.out
    have lT : w.heap.size < wc.heap.size := Nat.lt_of_lt_of_le l0 BC.out.size
    clear hgood Q
    go_wp2_with fail
    go_at_call 83
    refine Calls.mono (inamesOf_any (HN.out.below BWc.out) HF.out hmost) ?_
    rintro e w4 ⟨N, M, rfl, n4, b4⟩
    have hN4 := n4.lt
    have hNB := n4.1
    have B4 := (show Hid (Below w2.heap.size w2 w4) from BC.out.trans (b4.mono BC.out.size))
    have N4 := (show Hid (NmAt w.heap.size N M (namesL ns) w4) from n4.base BWc.out.size)
    obtain ⟨w5, hw5⟩ : ∃ z, z = w4.alloc (.cells #[.slice none 0 0, .pointer (some ⟨N, 0, none⟩)] 108) := ⟨_, rfl⟩
    have b5 : Below w4.heap.size w4 w5 := by rw [hw5]; exact (Below.refl _ _).alloc (Nat.le_refl _) _
    have g5 : w5.heap[w4.heap.size]? = some (.cells #[.slice none 0 0, .pointer (some ⟨N, 0, none⟩)] 108 (0, 0)) := by rw [hw5]; exact World.alloc_heap_new _ _
    have B5 := (show Hid (Below w2.heap.size w2 w5) from B4.out.trans (b5.mono B4.out.size))
    have P5 := (show Hid (PkI w w4.heap.size N M (namesL ns) [] w5) from ⟨by have := BWc.out.size; have := b4.size; omega, KB.out _ B5.out, N4.out.below b5, _, g5, own_nil _ _ _ _⟩)
    obtain ⟨K, hK⟩ : ∃ K, K = w4.heap.size := ⟨_, rfl⟩
    rw [← hK] at P5
    have cT5 := KC.out _ B5.out
    have lT5 : w.heap.size < w5.heap.size := Nat.lt_of_lt_of_le l0 B5.out.size
    clear n4 b4 b5 g5 N4 cT lT
    go_upto_region 4 with fail
    rw [← hw5, ← hK]
    clear hw5 hK
    go_wp2_with fail
    go_at_call 84
    refine Calls.mono (ipkTree_any P5.out HN.out HOK.out) ?_
    rintro e w6 ⟨rfl, p6⟩
    have BE := (show Hid (Below w.heap.size w w6) from p6.2.1)
    obtain ⟨_, _, _, v6, g6, o6⟩ := (show _ ∧ _ ∧ _ ∧ _ from p6)
    have hsm := packL_small HOK.out
    obtain ⟨x6, y6, z6, rfl⟩ := own_slice o6
    obtain rfl : y6 = (packL ns).length := own_len o6
    obtain ⟨cK, _, _, _⟩ := two_cells g6
    have lK := blk_lt g6
    have HO := (show Hid _ from o6)
    clear o6 g6 p6 P5 B5
    by_cases hbig : (20000 : Int) < ((packL ns).length : Int)
    · have HNG := (show Hid (¬ goodT ns) from fun h => by have := h.2.2; omega)
      go_wp2
      go_ret2
      exact ⟨_, _, rfl, .inr ⟨rfl, HNG.out, own_nil _ _ _ _⟩, BE.out⟩
    · have HGD := (show Hid (goodT ns) from ⟨HS.out, HT.out, by omega⟩)
      go_wp2
      go_ret2
      exact ⟨_, _, rfl, .inl ⟨rfl, HGD.out, HO.out⟩, BE.out⟩
end Go.Proofs.YtogdbjafibejdaaGreat

/- The program's treeReader: nodeBelow, by the plain reader. No condition. -/
namespace Go.Proofs.YtogdbjafibejdaaGreat
open Go.RowKit
set_option maxRecDepth 100000
set_option linter.unusedVariables false

def roomI (c n : Nat) : Bool := decide (n < c)
def NbE (R : Option (List PNode × Nat)) (w0 : World) (g : Nat) (v : Value) (xs : List Int) (nv : Value) (cnt : Nat) (B : Nat) (w : World) (e : Ending) (w' : World) : Prop :=
  ((∃ u qs j, R = some (qs.map (fun q => q.1), j) ∧ e = .returned (.tuple #[]) ∧ RdrT w0 g v xs [nv, u, .int .i64 (cnt : Int)] (j : Nat) w' ∧ OwnQ B w' u qs ∧ ApartT qs) ∨ (R = none ∧ Bad e)) ∧ OpFr B g w w'
theorem OwnS.op {B B' g : Nat} {w w' : World} {u : Value} {nm : List ByteArray} (o : OwnS B' w u nm) (f : OpFr B g w w') (hg : ∀ cs fr, w.heap[g]? = some (.cells cs 9 fr) → False) : OwnS B' w' u nm := by
  rcases o.2 with ⟨rfl, h0⟩ | ⟨q, cap, cur, rfl, hB, hh, r1, r2, r3, r4⟩
  · exact ⟨o.1, .inl ⟨rfl, h0⟩⟩
  · exact ⟨o.1, .inr ⟨q, cap, cur, rfl, hB, f.box hh (by decide) (by decide) (fun e => by subst e; exact hg _ _ hh), r1, r2, r3, r4⟩⟩
theorem FilFr.op {B g P : Nat} {w w' : World} (h : FilFr g P w w') (hP : w.heap.size ≤ P ∨ P = g) : OpFr B g w w' := ⟨h.os, h.tape, h.output, h.size, fun j hj hg _ => h.block j hj hg (by omega)⟩
theorem AddFr.op {B g : Nat} {w w' : World} (h : AddFr B g w w') : OpFr B g w w' := ⟨h.os, h.tape, h.output, h.size, fun j hj hg hb => h.block j hj hg (hb.imp id (fun hb cs t fr e => (hb cs t fr e).1))⟩
theorem FilFr.comp {g P : Nat} {w w4 w5 : World} (h : FilFr g g w w4) (k : FilFr g P w4 w5) (hP : w.heap.size ≤ P) : FilFr g g w w5 :=
  ⟨k.os.trans h.os, k.tape.trans h.tape, k.output.trans h.output, Nat.le_trans h.size k.size, fun j hj h1 _ => (k.block j (Nat.lt_of_lt_of_le hj h.size) h1 (by omega)).trans (h.block j hj h1 h1)⟩
theorem FilFr.grown {g : Nat} {w w' : World} (h : FilFr g g w w') : w.grownBy w' (some g) := ⟨h.os, h.tape, h.output, h.size, fun j hj hne => h.block j hj (fun e => hne (by rw [e])) (fun e => hne (by rw [e]))⟩
theorem SameA.apart {qs qs' : List (PNode × (Value × Value))} (h : SameA qs qs') (a : ApartA qs) : ApartA qs' := by
  have hl : qs'.length = qs.length := by have := congrArg List.length h; simpa using this
  intro i j hi hj g e1 e2
  rw [h.at hi (by omega)] at e1
  rw [h.at hj (by omega)] at e2
  exact a i j _ _ g e1 e2
theorem hang_kid {A : List PNode} {k : Int} {nm tx : ByteArray} {rs : List (ByteArray × ByteArray)} {p : Nat} (hp : p < A.length) : hangN (A ++ [⟨k, nm, rs, tx, -1, []⟩]) A.length p = kidAdd A (p : Int) ++ [linkN ⟨k, nm, rs, tx, -1, []⟩ (p : Int) []] := by
  apply List.ext_getElem?
  intro i
  have h := hang_last (A := A) (n := ⟨k, nm, rs, tx, -1, []⟩) hp i
  have ha : alone ⟨k, nm, rs, tx, -1, []⟩ = ⟨k, nm, rs, tx, -1, []⟩ := rfl
  rw [ha] at h
  rw [h]
  by_cases h1 : i = A.length
  · subst h1
    rw [if_pos rfl, List.getElem?_append_right (by rw [kidAdd_len]; exact Nat.le_refl _), kidAdd_len, Nat.sub_self]
    rfl
  · rw [if_neg h1]
    by_cases h2 : i < A.length
    · rw [List.getElem?_append_left (by rw [kidAdd_len]; exact h2)]
      have hk : kidAdd A (p : Int) = A.modify p (fun n => setKids n (n.kids ++ [(A.length : Int)])) := by
        unfold kidAdd
        rw [if_neg (by omega), Int.toNat_natCast]
      rw [hk, List.getElem?_modify]
      by_cases h3 : i = p
      · subst h3
        rw [if_pos rfl]
        cases A[i]? <;> simp
      · rw [if_neg h3]
        have h3' : ¬ p = i := fun e => h3 e.symm
        cases A[i]? <;> simp [h3']
    · rw [List.getElem?_eq_none (l := A) (by omega), List.getElem?_eq_none (by rw [List.length_append, kidAdd_len, List.length_singleton]; omega)]
      simp

set_option maxHeartbeats 8000000 in
set_option maxRecDepth 100000 in
theorem nodeBelowT_any {w0 : World} {g : Nat} {v nv : Value} {xs : List Int} {nm : List ByteArray} {cnt : Nat} (hb : ∀ x ∈ xs, 0 ≤ x ∧ x ≤ 255) (hx : xs.length ≤ 20000) (hnl : nm.length ≤ 1000000000000) (hfs : FitS xs.length nm) (hcm : cnt ≤ 9223372036854775807) :
    ∀ (f i : Nat) (me : Int) (B : Nat) (w : World) (u : Value) (qs : List (PNode × (Value × Value))), xs.length < f + i → i ≤ xs.length → RdrT w0 g v xs [nv, u, .int .i64 (cnt : Int)] (i : Nat) w → OwnS w0.heap.size w nv nm → w0.heap.size ≤ B → B ≤ w.heap.size → OwnQ B w u qs → ApartT qs →
      (me = -1 ∨ ∃ p : Nat, me = (p : Int) ∧ p < qs.length) → (∀ n ∈ qs.map (fun q => q.1), ReadN xs.length n ∧ n.kids.length ≤ i) → (∀ q ∈ qs, q.1.kids.length ≤ i) → qs.length ≤ i →
      Calls Tryz.prog 138 #[.pointer (some ⟨g, 0, none⟩), .int .i64 me] w fun e w' => NbE (rdN xs nm true (roomI cnt) f me (kidAdd (qs.map (fun q => q.1)) me) i) w0 g v xs nv cnt B w e w' := by
  have HB := (show Hid _ from hb)
  have HFS := (show Hid _ from hfs)
  clear hb hfs
  intro f
  induction f using Nat.strongRecOn with
  | ind f ih =>
  intro i me B w u qs hf hi hr hs hB0 hB hO hA hme hrl hkl hfew
  have IH := (show Hid _ from ih)
  have HR := (show Hid _ from hr)
  have HS := (show Hid (OwnS w0.heap.size w nv nm) from hs)
  have HO := (show Hid (OwnQ B w u qs) from hO)
  have HA := (show Hid (ApartT qs) from hA)
  have HF := (show Hid _ from hf)
  have HI := (show Hid _ from hi)
  have HRL := (show Hid _ from hrl)
  have HKL := (show Hid _ from hkl)
  have HME := (show Hid _ from hme)
  have hgk : ∀ cs fr, w.heap[g]? = some (.cells cs 9 fr) → False := fun cs fr e => by rw [hr.2.2.2.2] at e; cases e
  have HSW := (show Hid (∀ W, OpFr B g w W → OwnS w0.heap.size W nv nm) from fun W fr => hs.op fr hgk)
  have hw0 : w0.heap.size ≤ w.heap.size := hr.2.2.1.size
  have h0g : w0.heap.size ≤ g := hr.1
  have hgl := hr.lt
  obtain ⟨u1, u2, u3, rfl⟩ := own_slice hO.1
  obtain rfl : u2 = qs.length := hO.len
  obtain ⟨c0, c1, c2, c3, c4, y2, y3, y4⟩ := hr.five
  clear ih hr hs hO hA hf hi hrl hkl hme hgk
  by_cases hroom : qs.length < cnt
  rotate_left
  · have HN := (show Hid (rdN xs nm true (roomI cnt) f me (kidAdd (qs.map (fun q => q.1)) me) i = none) from rdN_no2 (by rw [kidAdd_len, List.length_map]; unfold roomI; simp; omega))
    have hd : decide (qs.length < cnt) = false := by simp; omega
    have FR := (show Hid (OpFr B g w w.drew) from OpFr.of_below (below_drewN 1))
    clear hroom
    go_enter Tryz.func138, Tryz.ntmps138
    go_wp2
    refine region_tail 11 (by kernel_rfl) (by kernel_rfl) ?_
    intro w1 K1 hW1 hK1
    have ne := One.any w1
    have d3 : ∀ n : One w1, n.w.cell? ⟨g, 3, none⟩ = some (.slice u1 qs.length u3) := fun n => by rw [n.eq, hW1.out]; exact c3
    have d4 : ∀ n : One w1, n.w.cell? ⟨g, 4, none⟩ = some (.int .i64 (cnt : Int)) := fun n => by rw [n.eq, hW1.out]; exact c4
    simp only [List.take_succ_cons, List.take_zero, List.drop_succ_cons, List.drop_zero] at hK1 ⊢
    repeat (go_big_quiet_step (fail))
    refine wpQuiet_nil ?_
    refine hK1.out _ ?_
    clear hK1
    go_wp2_with fail
    go_at_call 135
    refine (need_no _).mono ?_
    rintro e w4 ⟨⟨t, s, rfl⟩, ew⟩
    replace ew := ew.symm
    subst ew
    go_wp2
    rw [hW1.out]
    exact ⟨rfl, .inr ⟨HN.out, ⟨_, _, rfl⟩⟩, FR.out⟩
  have hroomR : roomI cnt (kidAdd (qs.map (fun q => q.1)) me).length = true := by rw [kidAdd_len, List.length_map]; unfold roomI; simp; exact hroom
  have HRM := (show Hid _ from hroomR)
  have hd : decide (qs.length < cnt) = true := by simp; omega
  clear hroom hroomR
  go_enter Tryz.func138, Tryz.ntmps138
  go_wp2
  refine region_tail 11 (by kernel_rfl) (by kernel_rfl) ?_
  intro w1 K1 hW1 hK1
  have ne := One.any w1
  have d3 : ∀ n : One w1, n.w.cell? ⟨g, 3, none⟩ = some (.slice u1 qs.length u3) := fun n => by rw [n.eq, hW1.out]; exact c3
  have d4 : ∀ n : One w1, n.w.cell? ⟨g, 4, none⟩ = some (.int .i64 (cnt : Int)) := fun n => by rw [n.eq, hW1.out]; exact c4
  simp only [List.take_succ_cons, List.take_zero, List.drop_succ_cons, List.drop_zero] at hK1 ⊢
  repeat (go_big_quiet_step (fail))
  refine wpQuiet_nil ?_
  refine hK1.out _ ?_
  clear hK1 ne d3 d4
  have R1 := (show Hid (RdrT w0 g v xs [nv, .slice u1 qs.length u3, .int .i64 (cnt : Int)] (i : Nat) w1) from (by rw [hW1.out]; exact RdrT.drewN HR.out 1 : RdrT w0 g v xs [nv, .slice u1 qs.length u3, .int .i64 (cnt : Int)] (i : Nat) w1))
  have F1 := (show Hid (FilFr g g w w1) from (by rw [hW1.out]; exact (FilFr.refl w).put (grown_drewN w 1 none) (fun r e => by cases e) : FilFr g g w w1))
  clear hW1 c0 c1 c2 c3 c4 y2 y3 y4
  go_wp2_with fail
  go_at_call 135
  refine (need_yes _).mono ?_
  rintro e wn ⟨rfl, ew⟩
  replace ew := ew.symm
  subst ew
  have C1 := (show Hid _ from pT_any R1.out HB.out)
  go_wp2_with fail
  go_at_call 136
  refine Calls.mono C1.out ?_
  rintro e w2 ⟨⟨k, j1, h1, rfl, r2⟩ | ⟨h1, ⟨t, s, rfl⟩, j, r2⟩, g2⟩
  rotate_left
  · have END := (show Hid (_ ∧ _) from And.intro (rdN_no1 (by unfold rdOne; rw [h1]) : rdN xs nm true (roomI cnt) f me (kidAdd (qs.map (fun q => q.1)) me) i = none) ((F1.out.put g2 (fun r e => by cases e; exact .inl rfl)).op (B := B) (.inr rfl)))
    clear h1 r2 g2
    go_wp2
    exact ⟨rfl, .inr ⟨END.out.1, ⟨_, _, rfl⟩⟩, END.out.2⟩
  obtain ⟨w3, hw3⟩ : ∃ z, z = w2.alloc (.cells #[.int .i64 (k : Int), .string ⟨#[]⟩, .slice none 0 0, .string ⟨#[]⟩, .int .i64 0, .slice none 0 0] 36) := ⟨_, rfl⟩
  have b3 : Below w2.heap.size w2 w3 := by rw [hw3]; exact (Below.refl _ _).alloc (Nat.le_refl _) _
  have g3 : w3.heap[w2.heap.size]? = some (.cells #[.int .i64 (k : Int), .string ⟨#[]⟩, .slice none 0 0, .string ⟨#[]⟩, .int .i64 0, .slice none 0 0] 36 (0, 0)) := by rw [hw3]; exact World.alloc_heap_new _ _
  have f2 := F1.out.put g2 (fun r e => by cases e; exact .inl rfl)
  obtain ⟨P, hP⟩ : ∃ P, P = w2.heap.size := ⟨_, rfl⟩
  have hwP : w.heap.size ≤ P := by rw [hP]; exact f2.size
  rw [← hP] at g3
  have H1 := (show Hid (rdP xs i = some (k, j1)) from h1)
  have R3 := (show Hid (RdrT w0 g v xs [nv, .slice u1 qs.length u3, .int .i64 (cnt : Int)] (j1 : Nat) w3) from r2.below b3)
  have F3 := (show Hid (FilFr g g w w3) from f2.put (row := none) ⟨b3.os, b3.tape, b3.output, b3.size, fun j hj _ => b3.block j hj⟩ (fun r e => by cases e))
  have G3 := (show Hid _ from g3)
  clear h1 r2 g2 b3 g3 f2
  go_upto_region 2 with fail
  rw [← hw3, ← hP]
  clear hw3 hP
  have C2 := (show Hid _ from pT_any R3.out HB.out)
  go_wp2_with fail
  go_at_call 136
  refine Calls.mono C2.out ?_
  rintro e w4 ⟨⟨kd, j2, h2, rfl, r4⟩ | ⟨h2, ⟨t, s, rfl⟩, j, r4⟩, g4⟩
  rotate_left
  · have END := (show Hid (_ ∧ _) from And.intro (rdN_no1 (rdOne_no2 H1.out h2) : rdN xs nm true (roomI cnt) f me (kidAdd (qs.map (fun q => q.1)) me) i = none) ((F3.out.put g4 (fun r e => by cases e; exact .inl rfl)).op (B := B) (.inr rfl)))
    clear h2 r4 g4
    go_wp2
    exact ⟨rfl, .inr ⟨END.out.1, ⟨_, _, rfl⟩⟩, END.out.2⟩
  have hk2 := rdP_some h2 HB.out
  have H2 := (show Hid (rdP xs j1 = some (kd, j2)) from h2)
  have hgP : g ≠ P := by omega
  have g4P := (g4.block P (blk_lt G3.out) (fun e => by cases e; exact hgP rfl)).trans G3.out
  have F4 := (show Hid (FilFr g g w w4) from F3.out.put g4 (fun r e => by cases e; exact .inl rfl))
  have C3 := (show Hid _ from fillT_any r4 HB.out hx hk2.2.1 (HSW.out _ (F4.out.op (.inr rfl))) hnl HFS.out g4P (by omega) hgP)
  clear h2 r4 g4 g4P C1 C2 R1 R3 F1 F3 G3
  go_wp2_with fail
  go_at_call 170
  refine Calls.mono C3.out ?_
  rintro e w5 ⟨⟨n, j3, av, h3, rfl, r5, gP5, oa5⟩ | ⟨h3, ⟨t, s, rfl⟩⟩, f5⟩
  rotate_left
  · have END := (show Hid (_ ∧ _) from And.intro (rdN_no1 (by rw [rdOne_is H1.out H2.out, h3]; rfl) : rdN xs nm true (roomI cnt) f me (kidAdd (qs.map (fun q => q.1)) me) i = none) ((F4.out.comp f5 hwP).op (B := B) (.inr rfl)))
    clear h3
    go_wp2
    exact ⟨rfl, .inr ⟨END.out.1, ⟨_, _, rfl⟩⟩, END.out.2⟩
  have hfil := rdFill_some HB.out HFS.out hk2.2.1 h3
  have H3 := (show Hid (rdOne xs nm true i = some (n, kd, j3)) from (by rw [rdOne_is H1.out H2.out, h3]; rfl : rdOne xs nm true i = some (n, kd, j3)))
  have hone := rdOne_some HB.out HFS.out H3.out
  have F5 := (show Hid (FilFr g g w w5) from F4.out.comp f5 hwP)
  have OA5 := (show Hid (w5.ownsRow w4.heap.size 115 2 av n.attrs.length (pairCells n.attrs)) from oa5)
  obtain ⟨nk, nn, na, nt, np, nks⟩ := n
  obtain ⟨_, _, hrn, hnp, hnk, hkk⟩ := hfil
  clear hkk
  simp only at hnp hnk OA5 gP5
  subst hnp hnk
  have hrs := hrn.rs
  simp only at hrs
  obtain ⟨a1, a2, a3, rfl⟩ := own_slice oa5
  have HRD := (show Hid (rdN xs nm true (roomI cnt) f me (kidAdd (qs.map (fun q => q.1)) me) i = rdB xs nm true (roomI cnt) f kd (qs.length : Nat) (kidAdd (qs.map (fun q => q.1)) me ++ [linkN ⟨nk, nn, na, nt, -1, []⟩ me []]) j3) from (by
    have := rdN_is (f := f) (me := me) HRM.out H3.out
    rw [kidAdd_len, List.length_map] at this
    exact this))
  have HL0 := (show Hid (ReadL xs (kidAdd (qs.map (fun q => q.1)) me ++ [linkN ⟨nk, nn, na, nt, -1, []⟩ me []]) j3) from ReadL.of_snoc HB.out HFS.out H3.out (kidAdd_read HRL.out me) (by rw [kidAdd_len, List.length_map]; exact hfew) me)
  have hj3 : i + 2 ≤ j3 ∧ j3 ≤ xs.length := ⟨hone.1, hone.2.1⟩
  have hq2 : qs.length ≤ 20000 := by have := HI.out; omega
  have bd : Below w5.heap.size w5 (w5.drewN 1) := below_drewN 1
  have r5d := r5.drewN 1
  have gr5 : w.grownBy (w5.drewN 1) (some g) := grown_trans F5.out.grown (grown_drewN w5 1 _)
  have o5 : OwnQ B (w5.drewN 1) (.slice u1 qs.length u3) qs := OwnQ.kept HO.out gr5 (fun r e => by cases e; exact ⟨_, _, _, HR.out.2.2.2.2, by decide, by decide, by decide⟩)
  have CA := (show Hid _ from iaddT_all (B := B) (a := g) (tr0 := v) (tr1 := .int .i64 (j3 : Int)) (tr2 := nv) (tr4 := .int .i64 (cnt : Int)) r5d.2.2.2.2 o5 (Nat.le_trans hB gr5.size) (by omega) nk 0 nn nt (av1 := a1) (av2 := a2) (av3 := a3) (kv1 := none) (kv2 := 0) (kv3 := 0) (rs := na) (sv_of_own (ownsRow_below OA5.out bd)) (by omega))
  have R5 := (show Hid _ from r5)
  have GR5 := (show Hid (w.grownBy (w5.drewN 1) (some g)) from gr5)
  obtain ⟨⟨n0, n1, n2, n3, n4, n5⟩, _⟩ := six_at gP5
  have hPl5 := blk_lt gP5
  have hgl5 := r5.lt
  clear r5 gP5 oa5 f5 h3 bd r5d gr5 o5 C3 F4 hone hrn
  go_upto_region 4 with fail
  go_cut [6] from 30 (fun s6 wx => s6 = .int .i64 (qs.length : Int) ∧ Hid ((∃ v', wx.heap[g]? = some (.cells #[v, .int .i64 (j3 : Int), nv, v', .int .i64 (cnt : Int)] 120 (0, 0)) ∧ ∃ av', OwnQ B wx v' (qs ++ [(⟨nk, nn, na, nt, -1, []⟩, (av', .slice none 0 0))]) ∧ ∀ r, av'.ownBlock = some r → (w5.drewN 1).heap.size ≤ r) ∧ AddFr B g (w5.drewN 1) wx))
  case first =>
    go_region_with (first
      | (go_at_call 79
         refine Calls.mono CA.out ?_
         rintro e w6 ⟨rfl, h6, f6⟩
         have H6 := (show Hid _ from And.intro h6 f6)
         clear h6 f6)
      | fail)
    all_goals
      go_wp2_with fail
      go_meet
      exact ⟨rfl, H6.out⟩
  case rest =>
    obtain ⟨rfl, H6⟩ := hcut
    obtain ⟨⟨v6, g6, av6, o6, fr6⟩, f6⟩ := H6.out
    have HFR6 := (show Hid _ from fr6)
    clear fr6
    clear CA n0 n1 n2 n3 n4 n5 hPl5 hgl5 H6
    obtain ⟨gq, gc, rfl, hgB, hgl6⟩ := o6.form (by simp)
    obtain ⟨q6, hq6⟩ : ∃ q6, q6 = qs ++ [((⟨nk, nn, na, nt, -1, []⟩ : PNode), (av6, Value.slice none 0 0))] := ⟨_, rfl⟩
    rw [← hq6] at o6 g6
    have hl6 : q6.length = qs.length + 1 := by rw [hq6]; simp
    have A6 := (show Hid (ApartT q6) from (by rw [hq6]; exact apartT_snoc HA.out (fun x e q hq e2 => by cases e) (fun x e q hq e2 => by have h1 := HFR6.out x e; have h2 := (World.ownsRow.lt (HO.out.2 q hq).1 x e2).2; have h3 := (F5.out.grown).size; have h4 : (w5.drewN 1).heap.size = w5.heap.size := rfl; omega) : ApartT q6))
    have P6 := (show Hid (OpFr B g w wc) from (F5.out.op (.inr rfl)).trans ((OpFr.of_below (below_drewN 1)).trans f6.op))
    have O6 := (show Hid (OwnQ B wc (.slice (some ⟨gq, 0, none⟩) q6.length gc) q6) from o6)
    have G6 := (show Hid (wc.heap[g]? = some (.cells #[v, .int .i64 (j3 : Int), nv, .slice (some ⟨gq, 0, none⟩) q6.length gc, .int .i64 (cnt : Int)] 120 (0, 0))) from g6)
    have M6 := (show Hid (q6.map (fun q => q.1) = qs.map (fun q => q.1) ++ [⟨nk, nn, na, nt, -1, []⟩]) from (by rw [hq6]; simp : q6.map (fun q => q.1) = qs.map (fun q => q.1) ++ [⟨nk, nn, na, nt, -1, []⟩]))
    have K6 := (show Hid (∀ q ∈ q6, q.1.kids.length ≤ 1048576) from fun q hq => by
      rw [hq6] at hq
      rcases List.mem_append.mp hq with hq | hq
      · have := HKL.out q hq; have := HI.out; omega
      · rw [List.mem_singleton] at hq; subst hq; exact Nat.zero_le _)
    have L6 := (show Hid (∀ (h : qs.length < q6.length), q6[qs.length].1.parent = -1) from fun h => by simp [hq6])
    clear o6 g6 f6 hq6 hgl6 hgB
    have HJ3 := (show Hid (j3 ≤ xs.length) from hj3.2)
    have hRp : ∀ wx, OpFr B g w wx → Below w0.heap.size w0 wx := fun wx f => HR.out.2.2.1.trans (f.below hB0 h0g hw0)
    have HRP := (show Hid _ from hRp)
    have HQ0 := (show Hid _ from HR.out)
    clear hRp
    go_upto_if 36 with fail
    go_cut [] from 37 (fun wx => ∃ q7 : List (PNode × (Value × Value)), Hid (RdrT w0 g v xs [nv, .slice (some ⟨gq, 0, none⟩) q7.length gc, .int .i64 (cnt : Int)] (j3 : Nat) wx ∧ OwnQ B wx (.slice (some ⟨gq, 0, none⟩) q7.length gc) q7 ∧ ApartT q7 ∧ q7.map (fun q => q.1) = kidAdd (qs.map (fun q => q.1)) me ++ [linkN ⟨nk, nn, na, nt, -1, []⟩ me []] ∧ OpFr B g w wx))
    case first =>
      rcases HME.out with hme1 | ⟨p, hme1, hp⟩
      · subst hme1
        have S7 := (show Hid _ from (⟨⟨HR.out.1, HR.out.2.1, HRP.out _ P6.out, HR.out.2.2.2.1, G6.out⟩, O6.out, A6.out, by rw [M6.out, kidAdd_neg _ (by omega)]; rfl, P6.out⟩ : RdrT w0 g v xs [nv, .slice (some ⟨gq, 0, none⟩) q6.length gc, .int .i64 (cnt : Int)] (j3 : Nat) wc ∧ OwnQ B wc (.slice (some ⟨gq, 0, none⟩) q6.length gc) q6 ∧ ApartT q6 ∧ q6.map (fun q => q.1) = kidAdd (qs.map (fun q => q.1)) (-1) ++ [linkN ⟨nk, nn, na, nt, -1, []⟩ (-1) []] ∧ OpFr B g w wc))
        clear O6 G6 A6 P6 M6 K6 L6
        go_wp2_with fail
        go_meet
        exact ⟨q6, S7⟩
      · subst hme1
        have hcl : qs.length < q6.length := by omega
        have CH := (show Hid _ from ihangT_any (B := B) (a := g) G6.out O6.out A6.out.1 (Nat.le_trans hB P6.out.size) (by omega) (c := qs.length) hcl (by omega) (.inl (L6.out hcl)) K6.out (p := p) (by omega))
        have c3 := (oneT_cell G6.out).1
        have hgl7 := blk_lt G6.out
        have hneq : ¬ (p : Int) = -1 := by omega
        go_wp2_with fail
        go_at_call 50
        refine Calls.mono CH.out ?_
        rintro e w7 ⟨rfl, ⟨q7, m7, o7, a7, sa7⟩, t7⟩
        replace a7 := (show ApartT q7 from ⟨a7, sa7.apart A6.out.2⟩)
        clear sa7
        have hl7 : q7.length = qs.length + 1 := by have := congrArg List.length m7; rw [List.length_map, hangN_len, List.length_map] at this; omega
        have P7 := (show Hid (OpFr B g w w7) from P6.out.trans (OpFr.of_turn t7 O6.out))
        have G7 := (show Hid (w7.heap[g]? = some (.cells #[v, .int .i64 (j3 : Int), nv, .slice (some ⟨gq, 0, none⟩) q7.length gc, .int .i64 (cnt : Int)] 120 (0, 0))) from (by
          have := t7.other (v := .nilFunc) O6.out hgl7 (.inr (fun cs t fr e => by rw [G6.out] at e; cases e; exact ⟨by decide, by decide⟩))
          rw [this, hl7, ← hl6]
          exact G6.out : w7.heap[g]? = some (.cells #[v, .int .i64 (j3 : Int), nv, .slice (some ⟨gq, 0, none⟩) q7.length gc, .int .i64 (cnt : Int)] 120 (0, 0))))
        have S7 := (show Hid (RdrT w0 g v xs [nv, .slice (some ⟨gq, 0, none⟩) q7.length gc, .int .i64 (cnt : Int)] (j3 : Nat) w7 ∧ OwnQ B w7 (.slice (some ⟨gq, 0, none⟩) q7.length gc) q7 ∧ ApartT q7 ∧ q7.map (fun q => q.1) = kidAdd (qs.map (fun q => q.1)) (p : Int) ++ [linkN ⟨nk, nn, na, nt, -1, []⟩ (p : Int) []] ∧ OpFr B g w w7) from
          ⟨⟨HR.out.1, HR.out.2.1, HRP.out _ P7.out, HR.out.2.2.2.1, G7.out⟩, by rw [hl7, ← hl6]; exact o7, a7, by
            rw [m7, M6.out]
            have := hang_kid (A := qs.map (fun q => q.1)) (k := nk) (nm := nn) (tx := nt) (rs := na) (p := p) (by rw [List.length_map]; exact hp)
            rw [List.length_map] at this
            exact this, P7.out⟩)
        clear O6 G6 A6 P6 M6 K6 L6 CH c3 hgl7 m7 o7 a7 t7 P7 G7 hcl hl6 hl7
        go_wp2_with fail
        go_meet
        exact ⟨q7, S7⟩
    case rest =>
      obtain ⟨q7, S7⟩ := hcut
      clear O6 G6 A6 P6 M6 K6 L6
      obtain ⟨R, hR⟩ : ∃ R, R = rdN xs nm true (roomI cnt) f me (kidAdd (qs.map (fun q => q.1)) me) i := ⟨_, rfl⟩
      have HRE := (show Hid (rdN xs nm true (roomI cnt) f me (kidAdd (qs.map (fun q => q.1)) me) i = R) from hR.symm)
      have HRR := (show Hid (R = rdB xs nm true (roomI cnt) f kd (qs.length : Nat) (q7.map (fun q => q.1)) j3) from (by rw [hR, HRD.out, S7.out.2.2.2.1] : R = rdB xs nm true (roomI cnt) f kd (qs.length : Nat) (q7.map (fun q => q.1)) j3))
      have hl7 : q7.length = qs.length + 1 := by have := congrArg List.length S7.out.2.2.2.1; rw [List.length_map, List.length_append, kidAdd_len, List.length_map, List.length_singleton] at this; exact this
      have L7 := (show Hid (ReadL xs (q7.map (fun q => q.1)) j3) from (by rw [S7.out.2.2.2.1]; exact HL0.out : ReadL xs (q7.map (fun q => q.1)) j3))
      clear hR
      go_upto_region 8 with fail
      go_loopw [44] (fun o wr => ∃ (q j f' : Nat) (u : Value) (qj : List (PNode × (Value × Value))), q ≤ kd ∧ o = .int .i64 (q : Int) ∧ Hid (RdrT w0 g v xs [nv, u, .int .i64 (cnt : Int)] (j : Nat) wr ∧ OwnQ B wr u qj ∧ ApartT qj ∧ OpFr B g w wr ∧ rdB xs nm true (roomI cnt) f' (kd - q) (qs.length : Nat) (qj.map (fun q => q.1)) j = R ∧ xs.length + 1 < f' + j ∧ f' ≤ f ∧ ReadL xs (qj.map (fun q => q.1)) j ∧ qs.length < qj.length)) (fun o _ => kd - (intOf o).toNat)
      case atStart => exact ⟨0, j3, f, _, q7, Nat.zero_le _, rfl, S7.out.1, S7.out.2.1, S7.out.2.2.1, S7.out.2.2.2.2, HRR.out.symm, by have := HF.out; omega, Nat.le_refl _, L7.out, by omega⟩
      case round =>
        clear S7 L7 HRR HRD HL0
        obtain ⟨q, j, f', u, qj, hq, rfl, J⟩ := hrel
        by_cases hlt : q < kd
        rotate_left
        · obtain rfl : q = kd := by omega
          have HE := (show Hid (R = some (qj.map (fun q => q.1), j)) from (by have := J.out.2.2.2.2.1; rw [Nat.sub_self, rdB_zero] at this; exact this.symm : R = some (qj.map (fun q => q.1), j)))
          go_wp2
          go_end0
          exact ⟨.inl ⟨_, qj, _, HRE.out.trans HE.out, rfl, J.out.1, J.out.2.1, J.out.2.2.1⟩, J.out.2.2.2.1⟩
        have hqi : (q : Int) < (kd : Int) := by omega
        obtain ⟨r0, o0, a0, p0, h1, h2, h3, h4, h5⟩ := J.out
        have hmost := h4.most
        have hfw := h4.few
        rw [List.length_map] at hfw
        obtain ⟨f1, rfl⟩ : ∃ f1, f' = f1 + 1 := ⟨f' - 1, by omega⟩
        obtain ⟨k1, hk1⟩ : ∃ k1, kd - q = k1 + 1 := ⟨kd - q - 1, by omega⟩
        have hk2' : kd - (q + 1) = k1 := by omega
        rw [hk1] at h1
        have HST := (show Hid _ from rdB_step h1)
        have E6 := (show Hid (xs.length + 1 < f1 + 1 + j ∧ f1 + 1 ≤ f ∧ j ≤ xs.length) from ⟨h2, h3, hmost⟩)
        have P0 := (show Hid _ from p0)
        have L0 := (show Hid (ReadL xs (qj.map (fun q => q.1)) j) from h4)
        have CB := (show Hid _ from IH.out f1 (by omega) j (qs.length : Int) B wr u qj (by omega) hmost r0 (HSW.out _ p0) hB0 (Nat.le_trans hB p0.size) o0 a0 (.inr ⟨qs.length, rfl, h5⟩) h4.node (fun q hq => (h4.node q.1 (List.mem_map_of_mem hq)).2) hfw)
        clear r0 o0 a0 p0 h1 h2 h3 h4 J
        go_wp2_with fail
        go_at_call 138
        refine Calls.mono CB.out ?_
        rintro e w13 ⟨⟨u13, q13, j13, h13, rfl, r13, o13, a13⟩ | ⟨h13, ⟨t, s, rfl⟩⟩, f13⟩
        rotate_left
        · have HE := (show Hid (R = none) from HST.out.2 h13)
          have FE := (show Hid (OpFr B g w w13) from P0.out.trans f13)
          clear h13 f13
          go_wp2
          exact ⟨rfl, .inr ⟨HRE.out.trans HE.out, ⟨_, _, rfl⟩⟩, FE.out⟩
        have hrl := rdN_some HB.out HFS.out h13 (kidAdd_read L0.out.node _) (by rw [kidAdd_len, List.length_map]; exact hfw)
        rw [kidAdd_len, List.length_map, List.length_map] at hrl
        have R13 := (show Hid _ from HST.out.1 _ _ h13)
        have S13 := (show Hid (RdrT w0 g v xs [nv, u13, .int .i64 (cnt : Int)] (j13 : Nat) w13 ∧ OwnQ B w13 u13 q13 ∧ ApartT q13 ∧ OpFr B g w w13) from ⟨r13, o13, a13, P0.out.trans f13⟩)
        have L13 := (show Hid _ from hrl.1)
        clear r13 o13 a13 f13 h13
        go_wp2
        go_roundw
        case rel => exact ⟨q + 1, j13, f1, u13, q13, by omega, by go_num, S13.out.1, S13.out.2.1, S13.out.2.2.1, S13.out.2.2.2, by rw [hk2']; exact R13.out, by have := E6.out; omega, by have := E6.out; omega, L13.out, by omega⟩
        case measure => simp [intOf]; omega
end Go.Proofs.YtogdbjafibejdaaGreat

/- slices.Equal at bytes; the arena's tree in a treeReader (written by mk/irdt5.py). No condition. -/
namespace Go.Proofs.YtogdbjafibejdaaGreat
open Go.RowKit
set_option maxRecDepth 100000
set_option linter.unusedVariables false

set_option maxHeartbeats 800000 in
set_option maxRecDepth 100000 in
theorem iequalBytes {v u : Value} {xs ys : List Int} {w : World} (h : Sl .u8 w v xs) (k : Sl .u8 w u ys) (hn : xs.length ≤ 1099511627776) :
    Calls Tryz.prog 139 #[v, u] w fun e w' => e = .returned (.bool (decide (xs = ys))) ∧ Below w.heap.size w w' := by
  obtain ⟨a, ca, rfl, h1, h2, h3, h4⟩ := h
  obtain ⟨b, cb, rfl, k1, k2, k3, k4⟩ := k
  have HX := (show Hid (Cells .u8 w a xs) from h4)
  have HY := (show Hid (Cells .u8 w b ys) from k4)
  clear h4 k4 h3 k3
  by_cases hl : xs.length = ys.length
  · have hli : (xs.length : Int) = (ys.length : Int) := by omega
    go_enter Tryz.func139, Tryz.ntmps139
    go_wp2
    go_loopw [13] (fun i wr => ∃ k : Nat, k ≤ xs.length ∧ i = .int .i64 k ∧ Hid (xs.take k = ys.take k) ∧ Hid (Below w.heap.size w wr)) (fun i _ => xs.length - (intOf i).toNat)
    case atStart => exact ⟨0, Nat.zero_le _, rfl, (show _ = _ by simp), Below.refl _ _⟩
    case round =>
      obtain ⟨k, hks, rfl, HT, HB⟩ := hrel
      by_cases hlt : k < xs.length
      · have hlt2 : k < ys.length := by omega
        obtain ⟨b1, o1, rfl, c1⟩ := HX.out k hlt
        obtain ⟨b2, o2, rfl, c2⟩ := HY.out k hlt2
        replace c1 := (HB.out.cell (p := ⟨b1, o1 + k, none⟩) (lt_of_cell6 c1)).trans c1
        replace c2 := (HB.out.cell (p := ⟨b2, o2 + k, none⟩) (lt_of_cell6 c2)).trans c2
        have hg1 : xs.getD k 0 = xs[k] := by simp [List.getD_eq_getElem?_getD, hlt]
        have hg2 : ys.getD k 0 = ys[k] := by simp [List.getD_eq_getElem?_getD, hlt2]
        have hki : (k : Int) < (xs.length : Int) := by omega
        have hki2 : (k : Int) < (ys.length : Int) := by omega
        by_cases he : xs[k] = ys[k]
        · have HS := (show Hid (xs.take (k + 1) = ys.take (k + 1)) from (show _ = _ by rw [List.take_succ_eq_append_getElem hlt, List.take_succ_eq_append_getElem hlt2, HT.out, he]))
          rw [hg1] at c1
          rw [hg2, ← he] at c2
          obtain ⟨x, hx⟩ : ∃ x, x = xs[k] := ⟨_, rfl⟩
          rw [← hx] at c1 c2
          clear he hg1 hg2 hx
          go_wp2_with fail
          refine region_tail 8 (by kernel_rfl) (by kernel_rfl) ?_
          intro x1 K1 hX1 hK1
          have ne := One.any x1
          have g1 := fun n : One x1 => (show n.w.cell? ⟨b1, o1 + k, none⟩ = some (.int .u8 x) by rw [n.eq, hX1.out]; exact c1)
          have g2 := fun n : One x1 => (show n.w.cell? ⟨b2, o2 + k, none⟩ = some (.int .u8 x) by rw [n.eq, hX1.out]; exact c2)
          simp only [List.take_succ_cons, List.take_zero, List.drop_succ_cons, List.drop_zero] at hK1 ⊢
          repeat (go_big_quiet_step (fail))
          refine wpQuiet_nil ?_
          refine hK1.out _ ?_
          have BX := (show Hid (Below w.heap.size w x1) from by rw [hX1.out]; exact HB.out.trans (below_drewN 1))
          clear hK1 ne hX1 g1 g2 c1 c2
          go_wp2
          go_roundw
          case rel => exact ⟨k + 1, by omega, by go_num, HS.out, BX.out⟩
          case measure => simp [intOf]; omega
        · have hne : ¬ xs = ys := fun e => he (by subst e; rfl)
          have HD := (show Hid (decide (xs = ys) = false) from decide_eq_false hne)
          rw [hg1] at c1
          rw [hg2] at c2
          obtain ⟨x, hx⟩ : ∃ x, x = xs[k] := ⟨_, rfl⟩
          obtain ⟨y, hy⟩ : ∃ y, y = ys[k] := ⟨_, rfl⟩
          rw [← hx] at c1 he
          rw [← hy] at c2 he
          clear hne hg1 hg2 hx hy
          go_wp2_with fail
          refine region_tail 8 (by kernel_rfl) (by kernel_rfl) ?_
          intro x1 K1 hX1 hK1
          have ne := One.any x1
          have g1 := fun n : One x1 => (show n.w.cell? ⟨b1, o1 + k, none⟩ = some (.int .u8 x) by rw [n.eq, hX1.out]; exact c1)
          have g2 := fun n : One x1 => (show n.w.cell? ⟨b2, o2 + k, none⟩ = some (.int .u8 y) by rw [n.eq, hX1.out]; exact c2)
          simp only [List.take_succ_cons, List.take_zero, List.drop_succ_cons, List.drop_zero] at hK1 ⊢
          repeat (go_big_quiet_step (fail))
          refine wpQuiet_nil ?_
          refine hK1.out _ ?_
          have BX := (show Hid (Below w.heap.size w x1) from by rw [hX1.out]; exact HB.out.trans (below_drewN 1))
          clear hK1 ne hX1 g1 g2 c1 c2
          go_wp2
          go_ret
          exact ⟨by rw [HD.out]; rfl, BX.out⟩
      · obtain rfl : k = xs.length := by omega
        have HD := (show Hid (decide (xs = ys) = true) from decide_eq_true (by have := HT.out; rwa [List.take_length, hl, List.take_length] at this))
        go_wp2
        go_ret
        exact ⟨by rw [HD.out]; rfl, HB.out⟩
  · have hli : ¬ (xs.length : Int) = (ys.length : Int) := by omega
    have hne : ¬ xs = ys := fun e => hl (by rw [e])
    rw [decide_eq_false hne]
    go_enter Tryz.func139, Tryz.ntmps139
    go_wp2
    go_ret
    exact ⟨rfl, Below.refl _ _⟩
set_option maxHeartbeats 1000000 in
theorem itreeT_any {w : World} {g : Nat} {tr0 tr1 tr2 tr4 : Value} {u : Option Addr} {n cap : Nat} (ha : w.heap[g]? = some (.cells #[tr0, tr1, tr2, .slice u n cap, tr4] 120 (0, 0))) :
    Calls Tryz.prog 51 #[.pointer (some ⟨g, 3, none⟩)] w fun e w' => e = .returned (.agg #[.slice u n cap]) ∧ Below w.heap.size w w' := by
  have cA : w.cell? ⟨g, 3, none⟩ = some (.slice u n cap) := by simp only [World.cell?, ha]; rfl
  have hlt := lt_of_block ha
  clear ha
  go_enter Tryz.func51, Tryz.ntmps51
  go_wp2
  have hz := World.alloc_heap_new w (.cells #[.slice u n cap] 26)
  refine bodyPost_ret (results_cell_row rfl _ _ w.heap.size 26 _ (0, 0) _ rfl hz Tryz.underlying26 rfl rfl) rfl ?_
  exact ⟨rfl, (Below.refl _ _).alloc (Nat.le_refl _) _⟩
end Go.Proofs.YtogdbjafibejdaaGreat
