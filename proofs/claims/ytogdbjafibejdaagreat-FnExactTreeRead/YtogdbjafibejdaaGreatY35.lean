/- The laws' helper that copies a tree. No condition. -/
import Derived.Test.YtogdbjafibejdaaGreatY34
import Derived.Test.YtogdbjafibejdaaGreatY4
import Derived.Test.YtogdbjafibejdaaGreatY33
import Derived.Maps.AppendAt
import Derived.Test.YtogdbjafibejdaaGreatY32
import Derived.Test.YtogdbjafibejdaaGreatY25
import Derived.Test.YtogdbjafibejdaaGreatY28
namespace Go.Proofs.YtogdbjafibejdaaGreat
open Go.RowKit
set_option maxRecDepth 100000
set_option linter.unusedVariables false
end Go.Proofs.YtogdbjafibejdaaGreat

/- The program's hang in an arena of its own. No condition. -/
namespace Go.Proofs.YtogdbjafibejdaaGreat
open Go.RowKit
set_option maxRecDepth 100000
set_option linter.unusedVariables false

theorem OwnQ.more {B : Nat} {w x : World} {g n cap : Nat} {qs : List (PNode × (Value × Value))} (h : OwnQ B w (.slice (some ⟨g, 0, none⟩) n cap) qs) (hA : Apart qs) {p : Nat} (hp : p < qs.length) (hg : w.grownBy x qs[p].2.2.ownBlock) {u : Value} {ks : List Int} (hu : Own B 3 .i64 x u ks) :
    OwnQ B (x.setCell ⟨g, p * 6 + 5, none⟩ u) (.slice (some ⟨g, 0, none⟩) n cap) (qs.set p (kidQ qs[p] ks u)) := by
  have hn := h.len
  subst hn
  have hty : ∀ r, qs[p].2.2.ownBlock = some r → ∃ cs fr, w.heap[r]? = some (.cells cs 3 fr) := fun r hr => by
    rcases (h.2 qs[p] (List.getElem_mem hp)).2.2 with ⟨e, _⟩ | ⟨g', cap', cur, e, _, hh, _⟩
    · rw [e] at hr; cases hr
    · rw [e] at hr; cases hr; exact ⟨_, _, hh⟩
  have hrow := kept_of_type h.1 hg (fun r e => by obtain ⟨cs, fr, hh⟩ := hty r e; exact ⟨cs, _, fr, hh, by decide⟩)
  have hst := World.ownsRow.stored hrow (p * 6 + 5) u
  rw [← nodeCells_set qs p hp (kidQ qs[p] ks u) 5 (by omega) u (by simp [kidQ, nodeRow])] at hst
  have hatt : ∀ q ∈ qs, x.ownsRow B 115 2 q.2.1 q.1.attrs.length (pairCells q.1.attrs) := fun q hq => kept_of_type (h.2 q hq).1 hg (fun r e => by obtain ⟨cs, fr, hh⟩ := hty r e; exact ⟨cs, _, fr, hh, by decide⟩)
  refine ⟨by rw [List.length_set]; exact hst.1, fun q hq => ?_⟩
  obtain ⟨j, hj, rfl⟩ := List.getElem_of_mem hq
  rw [List.length_set] at hj
  by_cases e : p = j
  · subst e
    rw [List.getElem_set_self]
    exact lists_kept (q := kidQ qs[p] ks u) hrow hst.2 ⟨hatt qs[p] (List.getElem_mem hp), hu⟩
  · rw [List.getElem_set_ne e]
    refine lists_kept hrow hst.2 ⟨hatt _ (List.getElem_mem hj), World.ownsRow.kept (h.2 qs[j] (List.getElem_mem hj)).2 hg ?_⟩
    cases hob : qs[j].2.2.ownBlock with
    | none => exact .inl rfl
    | some r => exact .inr (fun e2 => e (hA p j hp hj r e2.symm hob))

theorem OwnQ.rowCells {B : Nat} {w : World} {g n cap : Nat} {qs : List (PNode × (Value × Value))} (h : OwnQ B w (.slice (some ⟨g, 0, none⟩) n cap) qs) : ∃ cur, w.heap[g]? = some (.cells cur 36 (0, 0)) := by
  have hn := h.len
  subst hn
  rcases h.1.2 with ⟨e1, _⟩ | ⟨g', cap', cur, e1, _, hh', _⟩
  · cases e1
  · cases e1; exact ⟨_, hh'⟩
theorem take_kids {ns : List PNode} {c m : Nat} (h : ∀ n ∈ ns, n.kids.length ≤ m) : ∀ n ∈ takeN ns c, n.kids.length ≤ m := by
  have key : ∀ (l : List PNode) (k : Nat) (f : PNode → PNode), (∀ n, (f n).kids.length ≤ n.kids.length) → (∀ n ∈ l, n.kids.length ≤ m) → ∀ n ∈ l.modify k f, n.kids.length ≤ m := by
    intro l k f hf hl n hn
    obtain ⟨i, hi, rfl⟩ := List.getElem_of_mem hn
    rw [List.length_modify] at hi
    rw [List.getElem_modify]
    split
    · exact Nat.le_trans (hf _) (hl _ (List.getElem_mem hi))
    · exact hl _ (List.getElem_mem hi)
  unfold takeN cutN
  refine key _ _ _ (fun n => Nat.le_refl _) ?_
  split
  · exact h
  · exact key _ _ _ (fun n => lessL_len _ _) h
theorem hang_eq {qs qs2 : List (PNode × (Value × Value))} {c p : Nat} (hp : p < qs2.length) (h : qs2.map (fun q => q.1) = (takeN (qs.map (fun q => q.1)) c).modify c (fun n => setPar n (p : Int))) :
    ((takeN (qs.map (fun q => q.1)) c).modify c (fun n => setPar n (p : Int))).modify p (fun n => setKids n (qs2[p].1.kids ++ [(c : Int)])) = hangN (qs.map (fun q => q.1)) c p := by
  rw [← h]
  unfold hangN
  rw [← h]
  apply List.ext_getElem
  · simp
  · intro i h1 h2
    rw [List.getElem_modify, List.getElem_modify]
    by_cases e : p = i
    · subst e; simp
    · simp [e]

def MoreW (B g p : Nat) (v : Value) (qs : List (PNode × (Value × Value))) (ks : List Int) (W : World) (wx : World) : Prop :=
  ∃ qs', qs'.map (fun q => q.1) = (qs.map (fun q => q.1)).modify p (fun n => setKids n ks) ∧ OwnQ B wx v qs' ∧ Apart qs' ∧ TurnQ g qs W wx
theorem moreW_mk {B g n cap p : Nat} {W W1 x : World} {qs : List (PNode × (Value × Value))} (h : OwnQ B W (.slice (some ⟨g, 0, none⟩) n cap) qs) (hA : Apart qs) (hp : p < qs.length) (b1 : Below W.heap.size W W1) (hg : W1.grownBy x qs[p].2.2.ownBlock) {u : Value} {ks : List Int} (hu : Own B 3 .i64 x u ks)
    (hr : ∀ r, u.ownBlock = some r → qs[p].2.2.ownBlock = some r ∨ W1.heap.size ≤ r) : MoreW B g p (.slice (some ⟨g, 0, none⟩) n cap) qs ks W (x.setCell ⟨g, p * 6 + 5, none⟩ u) := by
  refine ⟨qs.set p (kidQ qs[p] ks u), ?_, (h.below b1).more hA hp hg hu, apart_kid hA hp (fun r e => ?_), ?_⟩
  · exact map_modify hp rfl
  · rcases hr r e with h1 | h1
    · exact .inl h1
    · refine .inr (fun q hq e2 => ?_)
      have := (Own.lt (h.2 q hq).2 r e2).2
      have := b1.size
      omega
  · have hs : x.grownBy (x.setCell ⟨g, p * 6 + 5, none⟩ u) (some g) := grown_setCell _ _ _ _
    refine ⟨hs.os.trans (hg.os.trans b1.os), hs.tape.trans (hg.tape.trans b1.tape), hs.output.trans (hg.output.trans b1.output), Nat.le_trans b1.size (Nat.le_trans hg.size hs.size), fun j hj hjg hq => ?_⟩
    have l1 := Nat.lt_of_lt_of_le hj b1.size
    rw [hs.block j (Nat.lt_of_lt_of_le l1 hg.size) (fun e => by injection e with e; exact hjg e), hg.block j l1 (fun e => hq qs[p] (List.getElem_mem hp) e.symm), b1.block j hj]

set_option maxHeartbeats 16000000 in
set_option maxRecDepth 100000 in
theorem ihang_any {B a g cap : Nat} {w : World} {qs : List (PNode × (Value × Value))} (ha : w.heap[a]? = some (.cells #[.slice (some ⟨g, 0, none⟩) qs.length cap] 77 (0, 0))) (hO : OwnQ B w (.slice (some ⟨g, 0, none⟩) qs.length cap) qs) (hA : Apart qs) (hB : B ≤ w.heap.size) (hlen : qs.length ≤ 100000) {c : Nat} (hc : c < qs.length) (hc0 : c ≠ 0)
    (hp : qs[c].1.parent = -1 ∨ ∃ p : Nat, qs[c].1.parent = p ∧ p < qs.length) (hkl : ∀ q ∈ qs, q.1.kids.length ≤ 1048576) {p : Nat} (hpl : p < qs.length) :
    Calls Tryz.prog 50 #[.pointer (some ⟨a, 0, none⟩), .int .i64 c, .int .i64 p] w fun e w' => e = .returned (.bool true) ∧ (∃ qs', qs'.map (fun q => q.1) = hangN (qs.map (fun q => q.1)) c p ∧ OwnQ B w' (.slice (some ⟨g, 0, none⟩) qs.length cap) qs' ∧ Apart qs') ∧ TurnQ g qs w w' := by
  obtain ⟨ii, hii, hzi0, hzi1, hzi2⟩ := info_parts Tryz.infoIntRow
  have hag : a ≠ g := fun e => by
    subst e
    rcases hO.1.2 with ⟨e1, _⟩ | ⟨g', cap', cur, e1, hB', hh, _⟩
    · cases e1
    · cases e1; rw [ha] at hh; cases hh
  have hgB : B ≤ g := (World.ownsRow.lt hO.1 g rfl).1
  have CT := (show Hid _ from itake_any ha hO hA hB hlen hc hc0 hp hkl)
  have HKL := (show Hid (∀ q ∈ qs, q.1.kids.length ≤ 1048576) from hkl)
  have hal := lt_of_block ha
  have HAA := (show Hid _ from ha)
  have HO := (show Hid (OwnQ B w (.slice (some ⟨g, 0, none⟩) qs.length cap) qs) from hO)
  clear ha hO hA hp hkl
  go_enter Tryz.func50, Tryz.ntmps50
  go_wp2_with fail
  go_at_call 65
  refine Calls.mono CT.out ?_
  rintro e w1 ⟨rfl, ⟨qs1, hm1, o1, a1, hq1⟩, g1⟩
  clear CT
  have ha1 : w1.heap[a]? = some (.cells #[.slice (some ⟨g, 0, none⟩) qs.length cap] 77 (0, 0)) := (g1.block a hal (fun e => by injection e with e; exact hag e)).trans HAA.out
  obtain ⟨cA1, _⟩ := one_cell ha1
  have hl1 : qs1.length = qs.length := by have := congrArg List.length hm1; simpa [takeN_len] using this
  have hc1 : c < qs1.length := by omega
  have hp1 : p < qs1.length := by omega
  have o2 := o1.par hc1 (p : Int)
  have a2 := apart_par a1 hc1 (p : Int)
  have hm2 := map_set_par qs1 hc1 (p : Int)
  have c4 : w1.cell? ⟨g, c * 6 + 4, none⟩ = some (.int .i64 qs1[c].1.parent) := o1.cellAt (j := 4) hc1 (by omega)
  have f4 := o1.frozenAt (c * 6 + 4)
  have hci : (c : Int) < (qs.length : Int) := by omega
  have hpi : (p : Int) < (qs.length : Int) := by omega
  have hkl1 : qs1[p].1.kids.length ≤ 1048576 := by
    have hmem : qs1[p].1 ∈ takeN (qs.map (fun q => q.1)) c := by rw [← hm1]; exact List.mem_map.mpr ⟨qs1[p], List.getElem_mem hp1, rfl⟩
    exact take_kids (fun n hn => by obtain ⟨q, hq, rfl⟩ := List.mem_map.mp hn; exact HKL.out q hq) _ hmem
  obtain ⟨qs2, hqs2⟩ : ∃ z, z = qs1.set c (parQ qs1[c] (p : Int)) := ⟨_, rfl⟩
  rw [← hqs2] at o2 a2 hm2
  have hl2 : qs2.length = qs.length := by rw [hqs2, List.length_set]; exact hl1
  have hp2 : p < qs2.length := by omega
  have hk2 : qs2[p].1.kids = qs1[p].1.kids ∧ qs2[p].2.2 = qs1[p].2.2 := by
    have : qs2[p] = if c = p then parQ qs1[c] (p : Int) else qs1[p] := by
      simp only [hqs2, List.getElem_set]
    rw [this]
    split
    · rename_i e; subst e; exact ⟨rfl, rfl⟩
    · exact ⟨rfl, rfl⟩
  rw [← hk2.1] at hkl1
  obtain ⟨W2, hW2⟩ : ∃ z, z = w1.setCell ⟨g, c * 6 + 4, none⟩ (.int .i64 (p : Int)) := ⟨_, rfl⟩
  have gr2 : w1.grownBy W2 (some g) := by rw [hW2]; exact grown_setCell _ _ _ _
  rw [← hW2] at o2
  have TQ := (show Hid (TurnQ g qs w W2) from TurnQ.of_row (grown_trans g1 gr2))
  have HQ2 := (show Hid (∀ q ∈ qs2, ∀ r, q.2.2.ownBlock = some r → (∃ q ∈ qs, q.2.2.ownBlock = some r) ∨ w.heap.size ≤ r) from fun q hq r e => by
    rw [hqs2] at hq
    rcases List.mem_or_eq_of_mem_set hq with hq | rfl
    · exact hq1 q hq r e
    · exact hq1 qs1[c] (List.getElem_mem hc1) r e)
  have HM2 := (show Hid (qs2.map (fun q => q.1) = (takeN (qs.map (fun q => q.1)) c).modify c (fun n => setPar n (p : Int))) from (show _ = _ by rw [hm2, hm1]))
  have ha2 : W2.heap[a]? = some (.cells #[.slice (some ⟨g, 0, none⟩) qs.length cap] 77 (0, 0)) := (gr2.block a (lt_of_block ha1) (fun e => by injection e with e; exact hag e)).trans ha1
  obtain ⟨cA2, _⟩ := one_cell ha2
  have hown := (o2.2 qs2[p] (List.getElem_mem hp2)).2
  have c5 : W2.cell? ⟨g, p * 6 + 5, none⟩ = some qs2[p].2.2 := o2.cellAt (j := 5) hp2 (by omega)
  obtain ⟨k1, k2, k3, hk⟩ := own_slice hown
  have O2 := (show Hid (OwnQ B W2 (.slice (some ⟨g, 0, none⟩) qs.length cap) qs2) from o2)
  have A2 := (show Hid (Apart qs2) from a2)
  have bd : Below W2.heap.size W2 (W2.alloc (.cells #[.int .i64 (c : Int)] 3)).drew := ((Below.refl _ W2).alloc (Nat.le_refl _) _).trans (below_drewN 1)
  have BD := (show Hid (Below W2.heap.size W2 (W2.alloc (.cells #[.int .i64 (c : Int)] 3)).drew) from bd)
  have OD := (show Hid (Own B 3 .i64 (W2.alloc (.cells #[.int .i64 (c : Int)] 3)).drew (.slice k1 k2 k3) qs2[p].1.kids) from by rw [← hk]; exact hown.below bd)
  have SD := (show Hid (Sl .i64 (W2.alloc (.cells #[.int .i64 (c : Int)] 3)).drew (.slice (some ⟨W2.heap.size, 0, none⟩) 1 1) [(c : Int)]) from (sl_one 3 .i64 W2 (c : Int)).below (below_drewN 1))
  rw [hk] at c5
  have HKE := (show Hid (qs2[p].2.2 = .slice k1 k2 k3) from hk)
  have hgl2 : g < W2.heap.size := (World.ownsRow.lt o2.1 g rfl).2
  have hal2 := lt_of_block ha2
  have hBW : B ≤ W2.heap.size := Nat.le_trans hB (Nat.le_trans g1.size gr2.size)
  have cAa : ∀ X, (W2.alloc X).cell? ⟨a, 0, none⟩ = some (.slice (some ⟨g, 0, none⟩) qs.length cap) := fun X => (((Below.refl _ W2).alloc (Nat.le_refl _) X).cell (p := ⟨a, 0, none⟩) hal2).trans cA2
  have c5a : ∀ X, (W2.alloc X).cell? ⟨g, p * 6 + 5, none⟩ = some (.slice k1 k2 k3) := fun X => (((Below.refl _ W2).alloc (Nat.le_refl _) X).cell (p := ⟨g, p * 6 + 5, none⟩) hgl2).trans c5
  obtain ⟨ks, hks⟩ : ∃ z, z = qs2[p].1.kids := ⟨_, rfl⟩
  rw [← hks] at OD hkl1
  have HKS := (show Hid (ks = qs2[p].1.kids) from hks)
  clear o2 hm1 hm2 a1 a2 hq1 g1 gr2 hown hk hks bd hqs2 hk2 o1
  go_wp2_with (go_at_call 74; refine Calls.mono (ihas_any cA1 (p : Int)) ?_; rintro e wx ⟨rfl, hx⟩; rw [hx, decide_eq_true ⟨by omega, by omega⟩]; clear hx wx)
  rw [← hW2]
  clear hW2 c4 f4 cA1 ha1
  go_cut [] from 7 (fun wx => MoreW B g p (.slice (some ⟨g, 0, none⟩) qs.length cap) qs2 (ks ++ [(c : Int)]) W2 wx)
  case first =>
    go_region_law (first
      | (with_reducible refine step_appU (w := (W2.alloc (Obj.cells #[.int .i64 (c : Int)] 3)).drew) ?_ (.tmp 37) (.tmp 39) 34 ?_ B 3 ii (.int .i64 0) 8 ?_ hii hzi0 hzi1 hzi2 ?_ .i64 (.slice k1 k2 k3) ks ⟨W2.heap.size, 0, none⟩ 1 [(c : Int)] ?_ ?_ ?_ ?_ ?_ ?_ ?_ ?_
         · rfl
         · rfl
         · exact Tryz.underlying34
         · rfl
         · simp [Act.eval]
         · simp [Act.eval]
         · exact OD.out
         · exact SD.out
         · (simp; omega)
         · (unfold maxLen; simp; omega)
         · exact Nat.le_trans hBW BD.out.size
         intro v9 w9 o9 g9 r9
         obtain ⟨u2, u3, u4, rfl⟩ := own_slice o9
         have M9 := (show Hid (MoreW B g p (.slice (some ⟨g, 0, none⟩) qs.length cap) qs2 (ks ++ [(c : Int)]) W2 (w9.setCell ⟨g, p * 6 + 5, none⟩ (.slice u2 u3 u4))) from moreW_mk O2.out A2.out hp2 BD.out (by rw [HKE.out]; exact g9) o9 (by rw [HKE.out]; exact r9))
         have t9 : w9.heap[g]? = (W2.alloc (Obj.cells #[.int .i64 (c : Int)] 3)).drew.heap[g]? ∧ w9.heap[a]? = (W2.alloc (Obj.cells #[.int .i64 (c : Int)] 3)).drew.heap[a]? := by
           have key : ∀ j, j < W2.heap.size → (∃ cs t fr, W2.heap[j]? = some (.cells cs t fr) ∧ t ≠ 3) → w9.heap[j]? = (W2.alloc (Obj.cells #[.int .i64 (c : Int)] 3)).drew.heap[j]? := fun j hj ⟨cs, t, fr, hh, ht⟩ => g9.block j (Nat.lt_of_lt_of_le hj BD.out.size) (fun e => by
             have ho := (O2.out.2 qs2[p] (List.getElem_mem hp2)).2
             rw [HKE.out] at ho
             rcases ho.2 with ⟨e1, _⟩ | ⟨g', cap', cur, e1, _, hh', _⟩
             · rw [e1] at e; cases e
             · rw [e1] at e
               simp only [Value.ownBlock, Option.some.injEq] at e
               subst e
               rw [hh] at hh'
               cases hh'
               exact ht rfl)
           obtain ⟨cur, hcur⟩ := OwnQ.rowCells O2.out
           exact ⟨key g hgl2 ⟨_, _, _, hcur, by decide⟩, key a hal2 ⟨_, _, _, ha2, by decide⟩⟩
         have l5 : w9.cell? ⟨g, p * 6 + 5, none⟩ = some (.slice k1 k2 k3) := by
           rw [← (BD.out.cell (p := ⟨g, p * 6 + 5, none⟩) hgl2).trans c5]; simp only [World.cell?, t9.1]
         have lA : w9.cell? ⟨a, 0, none⟩ = some (.slice (some ⟨g, 0, none⟩) qs.length cap) := by
           rw [← (BD.out.cell (p := ⟨a, 0, none⟩) hal2).trans cA2]; simp only [World.cell?, t9.2]
         have f5 : w9.frozen? ⟨g, p * 6 + 5, none⟩ = false := by
           have := OwnQ.frozenAt (O2.out.below BD.out) (p * 6 + 5)
           rw [← this]; simp only [World.frozen?, t9.1]
         clear o9 g9 r9 t9))
    all_goals
      go_wp2_with fail
      go_meet
      with_reducible exact M9.out
  case rest =>
    obtain ⟨qs3, h1, h2, h3, h4⟩ := hcut
    have HE := (show Hid (_ ∧ _) from ⟨(⟨qs3, by rw [h1, HM2.out, HKS.out]; exact hang_eq hp2 HM2.out, h2, h3⟩ : ∃ qs', qs'.map (fun q => q.1) = hangN (qs.map (fun q => q.1)) c p ∧ OwnQ B wc (.slice (some ⟨g, 0, none⟩) qs.length cap) qs' ∧ Apart qs'), TQ.out.trans h4 HQ2.out⟩)
    clear h1 h2 h3 h4
    go_wp2
    go_ret
    exact ⟨rfl, HE.out.1, HE.out.2⟩
end Go.Proofs.YtogdbjafibejdaaGreat

/- The laws' helper that copies a tree: its nodes. No condition. -/
namespace Go.Proofs.YtogdbjafibejdaaGreat
open Go.RowKit
set_option maxRecDepth 100000
set_option linter.unusedVariables false
end Go.Proofs.YtogdbjafibejdaaGreat

/- The program's change with the steps of TreeHang and TreeTake, from the step's contract (written by mk/ichange2.py). -/
namespace Go.Proofs.YtogdbjafibejdaaGreat
open Go.RowKit
set_option maxRecDepth 100000
set_option linter.unusedVariables false

structure OpFr (B a : Nat) (w w' : World) : Prop where
  os : w'.os = w.os
  tape : w'.tape = w.tape
  output : w'.output = w.output
  size : w.heap.size ≤ w'.heap.size
  block : ∀ j, j < w.heap.size → j ≠ a → (j < B ∨ ∀ cs t fr, w.heap[j]? = some (.cells cs t fr) → t ≠ 36 ∧ t ≠ 3) → w'.heap[j]? = w.heap[j]?
theorem OpFr.box {B a : Nat} {w w' : World} (h : OpFr B a w w') {j : Nat} {cs : Array Value} {t : TypeId} {fr : Nat × Nat} (hj : w.heap[j]? = some (.cells cs t fr)) (ht : t ≠ 36) (ht2 : t ≠ 3) (hne : j ≠ a) : w'.heap[j]? = some (.cells cs t fr) :=
  (h.block j (lt_of_block hj) hne (.inr (fun cs' t' fr' e => by rw [hj] at e; cases e; exact ⟨ht, ht2⟩))).trans hj
theorem OpFr.below {B a N : Nat} {w w' : World} (h : OpFr B a w w') (hN : N ≤ B) (ha : N ≤ a) (hB : N ≤ w.heap.size) : Below N w w' := ⟨h.os, h.tape, h.output, h.size, fun j hj => h.block j (by omega) (by omega) (.inl (by omega))⟩
theorem OpFr.of_below {B a : Nat} {w w' : World} (h : Below w.heap.size w w') : OpFr B a w w' := ⟨h.os, h.tape, h.output, h.size, fun j hj _ _ => h.block j hj⟩
theorem OpFr.of_turn {B a g n cap : Nat} {qs : List (PNode × (Value × Value))} {w w' : World} (h : TurnQ g qs w w') (ho : OwnQ B w (.slice (some ⟨g, 0, none⟩) n cap) qs) : OpFr B a w w' := ⟨h.os, h.tape, h.output, h.size, fun j hj _ hh => h.other (v := .nilFunc) ho hj hh⟩
theorem OpFr.trans {B a : Nat} {w w1 w2 : World} (h : OpFr B a w w1) (k : OpFr B a w1 w2) : OpFr B a w w2 :=
  ⟨k.os.trans h.os, k.tape.trans h.tape, k.output.trans h.output, Nat.le_trans h.size k.size, fun j hj hja hb => by
    have e := h.block j hj hja hb
    refine (k.block j (Nat.lt_of_lt_of_le hj h.size) hja ?_).trans e
    rcases hb with hb | hb
    · exact .inl hb
    · exact .inr (by rw [e]; exact hb)⟩
theorem OpFr.put {B a r : Nat} {w w1 w2 : World} (h : OpFr B a w w1) (g : w1.grownBy w2 (some r)) (hr : r = a ∨ w.heap.size ≤ r) : OpFr B a w w2 :=
  ⟨g.os.trans h.os, g.tape.trans h.tape, g.output.trans h.output, Nat.le_trans h.size g.size, fun j hj hja hb => (g.block j (Nat.lt_of_lt_of_le hj h.size) (fun e => by injection e with e; omega)).trans (h.block j hj hja hb)⟩
end Go.Proofs.YtogdbjafibejdaaGreat
