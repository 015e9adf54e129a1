/- append in a region that draws its order, onto the call's own row, of whatever slice. No condition. -/
import Derived.Test.YtogdbjafibejdaaGreatX13
import Derived.Test.YtogdbjafibejdaaGreatX34
import Derived.Deep.RegionLaw
import Derived.Deep.Cut
import Derived.Laws.AppendOwnNone
import Derived.Test.YtogdbjafibejdaaGreatX21
import Derived.Test.YtogdbjafibejdaaGreatX26
import Derived.Test.YtogdbjafibejdaaGreatX25
import Derived.Test.YtogdbjafibejdaaGreatX16
import Derived.Test.YtogdbjafibejdaaGreatX15
import Derived.Test.YtogdbjafibejdaaGreatX2
namespace Go.Proofs.YtogdbjafibejdaaGreat
open Go.RowKit
set_option maxRecDepth 100000
set_option linter.unusedVariables false

theorem step_appS {P : Program} {ops : Array Oper} {o : Oper} {a : Act} {w : World} {K : Act → World → Prop} {Q : Exit → Act → World → Prop} {E : Prop}
    (hg : o.guard = none) (s x : Operand) (t : TypeId) (hop : o.op = Op.call { callee := Callee.builtin Builtin.append, args := #[s, x], argTypes := #[t, t] })
    (B : Nat) (e : TypeId) (i : TypeInfo) (z : Value) (size bytes : Nat) (h1 : P.underlying t = some (.slice e)) (h2 : P.info? e = some i) (h3 : i.zero = some z) (h4 : i.size = size) (h5 : i.bytes = bytes) (h6 : z.cells.size = size) (h7 : 0 < size)
    (v : Value) (n : Nat) (xs : List Value) (hs : a.eval s = v) (hown : w.ownsRow B e size v n xs)
    (u : Value) (m : Nat) (news : List Value) (hx : a.eval x = u) (hu : Sv size w u news) (hm : news.length = m * size) (h1c : ∀ u ∈ news, u.oneCell' = true)
    (b1 : n + m ≤ maxLen) (b2 : (n + m) * bytes ≤ 140737488355328) (hB : B ≤ w.heap.size)
    (hK : ∀ v' w', w'.ownsRow B e size v' (n + m) (xs ++ news) → w.grownBy w' v.ownBlock → K (a.put o.dst v') w') :
    if Region.wanted o (yielded ops a.tmps) = true then Oper.wp P o a w K Q else E := by
  have hw : Region.wanted o (yielded ops a.tmps) = true := by simp [Region.wanted, hg]
  rw [if_pos hw]
  obtain ⟨ao, len, cap, rfl, hl, hlc, hcm, hnone, hc⟩ := hu
  have hlm : len = m := Nat.eq_of_mul_eq_mul_right h7 (hl.symm.trans hm)
  subst hlm
  cases ao with
  | none =>
    have hc0 := hnone rfl
    subst hc0
    have hl0 : len = 0 := by omega
    subst hl0
    have hy : news = [] := List.length_eq_zero_iff.mp (by omega)
    subst hy
    have hrun := run_append_owned_none (P := P) (w := w) B t o.type e i size h1 h2 v n xs hown
    unfold Oper.wp
    simp [execOp, hop, resolve, invoke, builtin, hs, hx, hrun, Result.andThen]
    exact hK v w (by rw [List.append_nil]; exact hown) (World.grownBy.refl _ _)
  | some ad =>
    refine wp_append_own w s x t hop B e i z size bytes h1 h2 h3 h4 h5 h6 h7 v n xs hs hown ad len cap news hx hl ?_ h1c b1 b2 hB fun v' w' o1 o2 _ => hK v' w' o1 o2
    intro j y hy
    have hj : j < news.length := by
      by_cases hj : j < news.length
      · exact hj
      · rw [List.getElem?_eq_none (Nat.le_of_not_lt hj)] at hy; cases hy
    obtain ⟨b, off, e, c⟩ := hc j hj
    cases e
    have e2 : news.getD j undef = y := by rw [List.getD_eq_getElem?_getD, hy]; rfl
    rw [e2] at c
    rw [← c]
    by_cases h0 : j = 0
    · subst h0; simp [Addr.add]
    · simp [Addr.add, h0]
end Go.Proofs.YtogdbjafibejdaaGreat

/- append of integers within a region that draws its order, that tells its block. No condition. -/
namespace Go.Proofs.YtogdbjafibejdaaGreat
open Go.RowKit
set_option maxRecDepth 100000
set_option linter.unusedVariables false

/-- append within a region that draws its order, onto a row of the call's own whose block is known: where the new row lies. -/
theorem step_appT {P : Program} {ops : Array Oper} {o : Oper} {a : Act} {w : World} {K : Act → World → Prop} {Q : Exit → Act → World → Prop} {E : Prop}
    (hgd : o.guard = none) (s x : Operand) (t : TypeId) (ho : o.op = Op.call { callee := Callee.builtin Builtin.append, args := #[s, x], argTypes := #[t, t] }) (B : Nat) (e : TypeId) (i : TypeInfo)
    (z : Value) (bytes : Nat) (ht : P.underlying t = some (TypeDesc.slice e)) (hi : P.info? e = some i) (hz : i.zero = some z) (hsize : i.size = 1) (hby : i.bytes = bytes)
    (hzs : z.cells.size = 1) (J : IntKind) (r cap : Nat) (xs : List Int) (ad : Addr) (c : Nat) (ys : List Int) (hs : a.eval s = .slice (some ⟨r, 0, none⟩) xs.length cap) (hx : a.eval x = .slice (some ad) ys.length c) (hown : Own B e J w (.slice (some ⟨r, 0, none⟩) xs.length cap) xs) (hu : Sl J w (.slice (some ad) ys.length c) ys)
    (hb : (xs.length + ys.length) * bytes ≤ 140737488355328) (h63 : xs.length + ys.length ≤ maxLen) (hbase : B ≤ w.heap.size)
    (h : ∀ (r' cap' : Nat) (w' : World), Own B e J w' (.slice (some ⟨r', 0, none⟩) (xs.length + ys.length) cap') (xs ++ ys) → w.grownBy w' (some r) → (r' = r ∨ r' = w.heap.size) → K (a.put o.dst (.slice (some ⟨r', 0, none⟩) (xs.length + ys.length) cap')) w') :
    if Region.wanted o (yielded ops a.tmps) = true then Oper.wp P o a w K Q else E := by
  have hw : Region.wanted o (yielded ops a.tmps) = true := by simp [Region.wanted, hgd]
  rw [if_pos hw]
  obtain ⟨ao, cap0, e1, hlc, hcm, hnone, hc⟩ := hu
  cases e1
  obtain ⟨v', w', hr, h2, h3, h4⟩ := run_append_own (P := P) w B t o.type e i z 1 bytes ht hi hz hsize hby hzs (by decide) _ xs.length (xs.map (Value.int J)) hown ad ys.length c (ys.map (Value.int J)) (by simp) (Sl.news hc) (ints_oneCell J ys) h63 hb hbase
  obtain ⟨r', cap', rfl, hrr⟩ := run_blkT w B t o.type e i z 1 bytes ht hi hz hsize hby r xs.length cap (xs.map (Value.int J)) hown ad ys.length c (ys.map (Value.int J)) (by simp) (Sl.news hc) (ints_oneCell J ys) h63 hb hr
  have hk := h r' cap' w' (by unfold Own; rw [List.length_append, List.map_append]; exact h2) h3 hrr
  unfold Oper.wp
  simp [execOp, ho, resolve, invoke, builtin, hs, hx, hr, Result.andThen]
  exact hk

/-- append within such a region onto whatever row of the call's own: the new row lies where the old one did, or in a new block. -/
theorem step_appU {P : Program} {ops : Array Oper} {o : Oper} {a : Act} {w : World} {K : Act → World → Prop} {Q : Exit → Act → World → Prop} {E : Prop}
    (hgd : o.guard = none) (s x : Operand) (t : TypeId) (ho : o.op = Op.call { callee := Callee.builtin Builtin.append, args := #[s, x], argTypes := #[t, t] }) (B : Nat) (e : TypeId) (i : TypeInfo)
    (z : Value) (bytes : Nat) (ht : P.underlying t = some (TypeDesc.slice e)) (hi : P.info? e = some i) (hz : i.zero = some z) (hsize : i.size = 1) (hby : i.bytes = bytes)
    (hzs : z.cells.size = 1) (J : IntKind) (v : Value) (xs : List Int) (ad : Addr) (c : Nat) (ys : List Int) (hs : a.eval s = v) (hx : a.eval x = .slice (some ad) ys.length c) (hown : Own B e J w v xs) (hu : Sl J w (.slice (some ad) ys.length c) ys)
    (hb : (xs.length + ys.length) * bytes ≤ 140737488355328) (h63 : xs.length + ys.length ≤ maxLen) (hbase : B ≤ w.heap.size)
    (h : ∀ (v' : Value) (w' : World), Own B e J w' v' (xs ++ ys) → w.grownBy w' v.ownBlock → (∀ r, v'.ownBlock = some r → v.ownBlock = some r ∨ w.heap.size ≤ r) → K (a.put o.dst v') w') :
    if Region.wanted o (yielded ops a.tmps) = true then Oper.wp P o a w K Q else E := by
  rcases hown.shape with ⟨rfl, rfl⟩ | ⟨g, cap, rfl, hg, hgl, _⟩
  · obtain ⟨ao, cap0, e1, hlc, hcm, hnone, hc⟩ := hu
    cases e1
    refine step_appS (w := w) hgd s x t ho w.heap.size e i z 1 bytes ht hi hz hsize hby hzs (by decide) (.slice none 0 0) 0 [] hs (World.ownsRow_nil _ _ _ _) (.slice (some ad) ys.length c) ys.length (ys.map (Value.int J)) hx ?_ (by simp) (ints_oneCell J ys) (by simpa using h63) (by simpa using hb) (Nat.le_refl _) ?_
    · exact ⟨some ad, ys.length, c, rfl, by simp, hlc, hcm, (fun e => by cases e), fun i hi => by
        obtain ⟨b, off, e2, c2⟩ := hc i (by simpa using hi)
        refine ⟨b, off, e2, ?_⟩
        rw [c2]
        have hi' : i < ys.length := by simpa using hi
        simp [List.getD_eq_getElem?_getD, hi']⟩
    · intro v' w' ho' hg'
      have ho2 : Own w.heap.size e J w' v' ys := by
        unfold Own
        simpa using ho'
      exact h v' w' (by rw [List.nil_append]; exact ho2.base hbase) hg' (fun r hr => .inr (Own.lt ho2 r hr).1)
  · refine step_appT hgd s x t ho B e i z bytes ht hi hz hsize hby hzs J g cap xs ad c ys hs hx hown hu hb h63 hbase ?_
    intro r' cap' w' ho' hg' hrr
    exact h _ w' ho' hg' (fun r hr => by
      have : r' = r := by simpa [Value.ownBlock] using hr
      rcases hrr with hrr | hrr
      · exact .inl (by rw [← this, hrr]; rfl)
      · exact .inr (by omega))
end Go.Proofs.YtogdbjafibejdaaGreat

/- The program's hang in an arena of its own. No condition. -/
namespace Go.Proofs.YtogdbjafibejdaaGreat
open Go.RowKit
set_option maxRecDepth 100000
set_option linter.unusedVariables false

/-- The Kids of node p grow, in their block or in a new one, and are put in. -/
theorem OwnQ.more {B : Nat} {w x : World} {g n cap : Nat} {qs : List (PNode × (Value × Value))} (h : OwnQ B w (.slice (some ⟨g, 0, none⟩) n cap) qs) (hA : Apart qs) {p : Nat} (hp : p < qs.length) (hg : w.grownBy x qs[p].2.2.ownBlock) {u : Value} {ks : List Int} (hu : Own B 3 .i64 x u ks) :
    OwnQ B (x.setCell ⟨g, p * 6 + 5, none⟩ u) (.slice (some ⟨g, 0, none⟩) n cap) (qs.set p (kidQ qs[p] ks u)) := by
  have hn := h.len
  subst hn
  have hty : ∀ r, qs[p].2.2.ownBlock = some r → ∃ cs fr, w.heap[r]? = some (.cells cs 3 fr) := fun r hr => by
    rcases (h.2 qs[p] (List.getElem_mem hp)).2.2 with ⟨e, _⟩ | ⟨g', cap', cur, e, _, hh, _⟩
    · rw [e] at hr; cases hr
    · rw [e] at hr; cases hr; exact ⟨_, _, hh⟩
  have hrow := kept_of_type h.1 hg (fun r e => by obtain ⟨cs, fr, hh⟩ := hty r e; exact ⟨cs, _, fr, hh, by decide⟩)
  have hst := World.ownsRow.stored hrow (p * 6 + 5) u
  rw [← nodeCells_set qs p hp (kidQ qs[p] ks u) 5 (by omega) u (by simp [kidQ, nodeRow])] at hst
  have hatt : ∀ q ∈ qs, x.ownsRow B 115 2 q.2.1 q.1.attrs.length (pairCells q.1.attrs) := fun q hq => kept_of_type (h.2 q hq).1 hg (fun r e => by obtain ⟨cs, fr, hh⟩ := hty r e; exact ⟨cs, _, fr, hh, by decide⟩)
  refine ⟨by rw [List.length_set]; exact hst.1, fun q hq => ?_⟩
  obtain ⟨j, hj, rfl⟩ := List.getElem_of_mem hq
  rw [List.length_set] at hj
  by_cases e : p = j
  · subst e
    rw [List.getElem_set_self]
    exact lists_kept (q := kidQ qs[p] ks u) hrow hst.2 ⟨hatt qs[p] (List.getElem_mem hp), hu⟩
  · rw [List.getElem_set_ne e]
    refine lists_kept hrow hst.2 ⟨hatt _ (List.getElem_mem hj), World.ownsRow.kept (h.2 qs[j] (List.getElem_mem hj)).2 hg ?_⟩
    cases hob : qs[j].2.2.ownBlock with
    | none => exact .inl rfl
    | some r => exact .inr (fun e2 => e (hA p j hp hj r e2.symm hob))

theorem OwnQ.rowCells {B : Nat} {w : World} {g n cap : Nat} {qs : List (PNode × (Value × Value))} (h : OwnQ B w (.slice (some ⟨g, 0, none⟩) n cap) qs) : ∃ cur, w.heap[g]? = some (.cells cur 36 (0, 0)) := by
  have hn := h.len
  subst hn
  rcases h.1.2 with ⟨e1, _⟩ | ⟨g', cap', cur, e1, _, hh', _⟩
  · cases e1
  · cases e1; exact ⟨_, hh'⟩
theorem take_kids {ns : List PNode} {c m : Nat} (h : ∀ n ∈ ns, n.kids.length ≤ m) : ∀ n ∈ takeN ns c, n.kids.length ≤ m := by
  have key : ∀ (l : List PNode) (k : Nat) (f : PNode → PNode), (∀ n, (f n).kids.length ≤ n.kids.length) → (∀ n ∈ l, n.kids.length ≤ m) → ∀ n ∈ l.modify k f, n.kids.length ≤ m := by
    intro l k f hf hl n hn
    obtain ⟨i, hi, rfl⟩ := List.getElem_of_mem hn
    rw [List.length_modify] at hi
    rw [List.getElem_modify]
    split
    · exact Nat.le_trans (hf _) (hl _ (List.getElem_mem hi))
    · exact hl _ (List.getElem_mem hi)
  unfold takeN cutN
  refine key _ _ _ (fun n => Nat.le_refl _) ?_
  split
  · exact h
  · exact key _ _ _ (fun n => lessL_len _ _) h
theorem hang_eq {qs qs2 : List (PNode × (Value × Value))} {c p : Nat} (hp : p < qs2.length) (h : qs2.map (fun q => q.1) = (takeN (qs.map (fun q => q.1)) c).modify c (fun n => setPar n (p : Int))) :
    ((takeN (qs.map (fun q => q.1)) c).modify c (fun n => setPar n (p : Int))).modify p (fun n => setKids n (qs2[p].1.kids ++ [(c : Int)])) = hangN (qs.map (fun q => q.1)) c p := by
  rw [← h]
  unfold hangN
  rw [← h]
  apply List.ext_getElem
  · simp
  · intro i h1 h2
    rw [List.getElem_modify, List.getElem_modify]
    by_cases e : p = i
    · subst e; simp
    · simp [e]

/-- Behind the new Kids of node p, one more. -/
def MoreW (B g p : Nat) (v : Value) (qs : List (PNode × (Value × Value))) (ks : List Int) (W : World) (wx : World) : Prop :=
  ∃ qs', qs'.map (fun q => q.1) = (qs.map (fun q => q.1)).modify p (fun n => setKids n ks) ∧ OwnQ B wx v qs' ∧ Apart qs' ∧ TurnQ g qs W wx
theorem moreW_mk {B g n cap p : Nat} {W W1 x : World} {qs : List (PNode × (Value × Value))} (h : OwnQ B W (.slice (some ⟨g, 0, none⟩) n cap) qs) (hA : Apart qs) (hp : p < qs.length) (b1 : Below W.heap.size W W1) (hg : W1.grownBy x qs[p].2.2.ownBlock) {u : Value} {ks : List Int} (hu : Own B 3 .i64 x u ks)
    (hr : ∀ r, u.ownBlock = some r → qs[p].2.2.ownBlock = some r ∨ W1.heap.size ≤ r) : MoreW B g p (.slice (some ⟨g, 0, none⟩) n cap) qs ks W (x.setCell ⟨g, p * 6 + 5, none⟩ u) := by
  refine ⟨qs.set p (kidQ qs[p] ks u), ?_, (h.below b1).more hA hp hg hu, apart_kid hA hp (fun r e => ?_), ?_⟩
  · exact map_modify hp rfl
  · rcases hr r e with h1 | h1
    · exact .inl h1
    · refine .inr (fun q hq e2 => ?_)
      have := (Own.lt (h.2 q hq).2 r e2).2
      have := b1.size
      omega
  · have hs : x.grownBy (x.setCell ⟨g, p * 6 + 5, none⟩ u) (some g) := grown_setCell _ _ _ _
    refine ⟨hs.os.trans (hg.os.trans b1.os), hs.tape.trans (hg.tape.trans b1.tape), hs.output.trans (hg.output.trans b1.output), Nat.le_trans b1.size (Nat.le_trans hg.size hs.size), fun j hj hjg hq => ?_⟩
    have l1 := Nat.lt_of_lt_of_le hj b1.size
    rw [hs.block j (Nat.lt_of_lt_of_le l1 hg.size) (fun e => by injection e with e; exact hjg e), hg.block j l1 (fun e => hq qs[p] (List.getElem_mem hp) e.symm), b1.block j hj]

set_option maxHeartbeats 16000000 in
set_option maxRecDepth 100000 in
theorem ihang_any {B a g cap : Nat} {w : World} {qs : List (PNode × (Value × Value))} (ha : w.heap[a]? = some (.cells #[.slice (some ⟨g, 0, none⟩) qs.length cap] 77 (0, 0))) (hO : OwnQ B w (.slice (some ⟨g, 0, none⟩) qs.length cap) qs) (hA : Apart qs) (hB : B ≤ w.heap.size) (hlen : qs.length ≤ 100000) {c : Nat} (hc : c < qs.length) (hc0 : c ≠ 0)
    (hp : qs[c].1.parent = -1 ∨ ∃ p : Nat, qs[c].1.parent = p ∧ p < qs.length) (hkl : ∀ q ∈ qs, q.1.kids.length ≤ 1048576) {p : Nat} (hpl : p < qs.length) :
    Calls Tryz.prog 50 #[.pointer (some ⟨a, 0, none⟩), .int .i64 c, .int .i64 p] w fun e w' => e = .returned (.bool true) ∧ (∃ qs', qs'.map (fun q => q.1) = hangN (qs.map (fun q => q.1)) c p ∧ OwnQ B w' (.slice (some ⟨g, 0, none⟩) qs.length cap) qs' ∧ Apart qs') ∧ TurnQ g qs w w' := by
  obtain ⟨ii, hii, hzi0, hzi1, hzi2⟩ := info_parts Tryz.infoIntRow
  have hag : a ≠ g := fun e => by
    subst e
    rcases hO.1.2 with ⟨e1, _⟩ | ⟨g', cap', cur, e1, hB', hh, _⟩
    · cases e1
    · cases e1; rw [ha] at hh; cases hh
  have hgB : B ≤ g := (World.ownsRow.lt hO.1 g rfl).1
  have CT := (show Hid _ from itake_any ha hO hA hB hlen hc hc0 hp hkl)
  have HKL := (show Hid (∀ q ∈ qs, q.1.kids.length ≤ 1048576) from hkl)
  have hal := lt_of_block ha
  have HAA := (show Hid _ from ha)
  have HO := (show Hid (OwnQ B w (.slice (some ⟨g, 0, none⟩) qs.length cap) qs) from hO)
  clear ha hO hA hp hkl
  go_enter Tryz.func50, Tryz.ntmps50
  go_wp2_with fail
  go_at_call 65
  refine Calls.mono CT.out ?_
  rintro e w1 ⟨rfl, ⟨qs1, hm1, o1, a1, hq1⟩, g1⟩
  clear CT
  have ha1 : w1.heap[a]? = some (.cells #[.slice (some ⟨g, 0, none⟩) qs.length cap] 77 (0, 0)) := (g1.block a hal (fun e => by injection e with e; exact hag e)).trans HAA.out
  obtain ⟨cA1, _⟩ := one_cell ha1
  have hl1 : qs1.length = qs.length := by have := congrArg List.length hm1; simpa [takeN_len] using this
  have hc1 : c < qs1.length := by omega
  have hp1 : p < qs1.length := by omega
  have o2 := o1.par hc1 (p : Int)
  have a2 := apart_par a1 hc1 (p : Int)
  have hm2 := map_set_par qs1 hc1 (p : Int)
  have c4 : w1.cell? ⟨g, c * 6 + 4, none⟩ = some (.int .i64 qs1[c].1.parent) := o1.cellAt (j := 4) hc1 (by omega)
  have f4 := o1.frozenAt (c * 6 + 4)
  have hci : (c : Int) < (qs.length : Int) := by omega
  have hpi : (p : Int) < (qs.length : Int) := by omega
  have hkl1 : qs1[p].1.kids.length ≤ 1048576 := by
    have hmem : qs1[p].1 ∈ takeN (qs.map (fun q => q.1)) c := by rw [← hm1]; exact List.mem_map.mpr ⟨qs1[p], List.getElem_mem hp1, rfl⟩
    exact take_kids (fun n hn => by obtain ⟨q, hq, rfl⟩ := List.mem_map.mp hn; exact HKL.out q hq) _ hmem
  obtain ⟨qs2, hqs2⟩ : ∃ z, z = qs1.set c (parQ qs1[c] (p : Int)) := ⟨_, rfl⟩
  rw [← hqs2] at o2 a2 hm2
  have hl2 : qs2.length = qs.length := by rw [hqs2, List.length_set]; exact hl1
  have hp2 : p < qs2.length := by omega
  have hk2 : qs2[p].1.kids = qs1[p].1.kids ∧ qs2[p].2.2 = qs1[p].2.2 := by
    have : qs2[p] = if c = p then parQ qs1[c] (p : Int) else qs1[p] := by
      simp only [hqs2, List.getElem_set]
    rw [this]
    split
    · rename_i e; subst e; exact ⟨rfl, rfl⟩
    · exact ⟨rfl, rfl⟩
  rw [← hk2.1] at hkl1
  obtain ⟨W2, hW2⟩ : ∃ z, z = w1.setCell ⟨g, c * 6 + 4, none⟩ (.int .i64 (p : Int)) := ⟨_, rfl⟩
  have gr2 : w1.grownBy W2 (some g) := by rw [hW2]; exact grown_setCell _ _ _ _
  rw [← hW2] at o2
  have TQ := (show Hid (TurnQ g qs w W2) from TurnQ.of_row (grown_trans g1 gr2))
  have HQ2 := (show Hid (∀ q ∈ qs2, ∀ r, q.2.2.ownBlock = some r → (∃ q ∈ qs, q.2.2.ownBlock = some r) ∨ w.heap.size ≤ r) from fun q hq r e => by
    rw [hqs2] at hq
    rcases List.mem_or_eq_of_mem_set hq with hq | rfl
    · exact hq1 q hq r e
    · exact hq1 qs1[c] (List.getElem_mem hc1) r e)
  have HM2 := (show Hid (qs2.map (fun q => q.1) = (takeN (qs.map (fun q => q.1)) c).modify c (fun n => setPar n (p : Int))) from (show _ = _ by rw [hm2, hm1]))
  have ha2 : W2.heap[a]? = some (.cells #[.slice (some ⟨g, 0, none⟩) qs.length cap] 77 (0, 0)) := (gr2.block a (lt_of_block ha1) (fun e => by injection e with e; exact hag e)).trans ha1
  obtain ⟨cA2, _⟩ := one_cell ha2
  have hown := (o2.2 qs2[p] (List.getElem_mem hp2)).2
  have c5 : W2.cell? ⟨g, p * 6 + 5, none⟩ = some qs2[p].2.2 := o2.cellAt (j := 5) hp2 (by omega)
  obtain ⟨k1, k2, k3, hk⟩ := own_slice hown
  have O2 := (show Hid (OwnQ B W2 (.slice (some ⟨g, 0, none⟩) qs.length cap) qs2) from o2)
  have A2 := (show Hid (Apart qs2) from a2)
  have bd : Below W2.heap.size W2 (W2.alloc (.cells #[.int .i64 (c : Int)] 3)).drew := ((Below.refl _ W2).alloc (Nat.le_refl _) _).trans (below_drewN 1)
  have BD := (show Hid (Below W2.heap.size W2 (W2.alloc (.cells #[.int .i64 (c : Int)] 3)).drew) from bd)
  have OD := (show Hid (Own B 3 .i64 (W2.alloc (.cells #[.int .i64 (c : Int)] 3)).drew (.slice k1 k2 k3) qs2[p].1.kids) from by rw [← hk]; exact hown.below bd)
  have SD := (show Hid (Sl .i64 (W2.alloc (.cells #[.int .i64 (c : Int)] 3)).drew (.slice (some ⟨W2.heap.size, 0, none⟩) 1 1) [(c : Int)]) from (sl_one 3 .i64 W2 (c : Int)).below (below_drewN 1))
  rw [hk] at c5
  have HKE := (show Hid (qs2[p].2.2 = .slice k1 k2 k3) from hk)
  have hgl2 : g < W2.heap.size := (World.ownsRow.lt o2.1 g rfl).2
  have hal2 := lt_of_block ha2
  have hBW : B ≤ W2.heap.size := Nat.le_trans hB (Nat.le_trans g1.size gr2.size)
  have cAa : ∀ X, (W2.alloc X).cell? ⟨a, 0, none⟩ = some (.slice (some ⟨g, 0, none⟩) qs.length cap) := fun X => (((Below.refl _ W2).alloc (Nat.le_refl _) X).cell (p := ⟨a, 0, none⟩) hal2).trans cA2
  have c5a : ∀ X, (W2.alloc X).cell? ⟨g, p * 6 + 5, none⟩ = some (.slice k1 k2 k3) := fun X => (((Below.refl _ W2).alloc (Nat.le_refl _) X).cell (p := ⟨g, p * 6 + 5, none⟩) hgl2).trans c5
  obtain ⟨ks, hks⟩ : ∃ z, z = qs2[p].1.kids := ⟨_, rfl⟩
  rw [← hks] at OD hkl1
  have HKS := (show Hid (ks = qs2[p].1.kids) from hks)
  clear o2 hm1 hm2 a1 a2 hq1 g1 gr2 hown hk hks bd hqs2 hk2 o1
  go_wp2_with (go_at_call 74; refine Calls.mono (ihas_any cA1 (p : Int)) ?_; rintro e wx ⟨rfl, hx⟩; rw [hx, decide_eq_true ⟨by omega, by omega⟩]; clear hx wx)
  rw [← hW2]
  clear hW2 c4 f4 cA1 ha1
  go_cut [] from 7 (fun wx => MoreW B g p (.slice (some ⟨g, 0, none⟩) qs.length cap) qs2 (ks ++ [(c : Int)]) W2 wx)
  case first =>
    go_region_law (first
      | (with_reducible refine step_appU (w := (W2.alloc (Obj.cells #[.int .i64 (c : Int)] 3)).drew) ?_ (.tmp 37) (.tmp 39) 34 ?_ B 3 ii (.int .i64 0) 8 ?_ hii hzi0 hzi1 hzi2 ?_ .i64 (.slice k1 k2 k3) ks ⟨W2.heap.size, 0, none⟩ 1 [(c : Int)] ?_ ?_ ?_ ?_ ?_ ?_ ?_ ?_
         · rfl
         · rfl
         · exact Tryz.underlying34
         · rfl
         · simp [Act.eval]
         · simp [Act.eval]
         · exact OD.out
         · exact SD.out
         · (simp; omega)
         · (unfold maxLen; simp; omega)
         · exact Nat.le_trans hBW BD.out.size
         intro v9 w9 o9 g9 r9
         obtain ⟨u2, u3, u4, rfl⟩ := own_slice o9
         have M9 := (show Hid (MoreW B g p (.slice (some ⟨g, 0, none⟩) qs.length cap) qs2 (ks ++ [(c : Int)]) W2 (w9.setCell ⟨g, p * 6 + 5, none⟩ (.slice u2 u3 u4))) from moreW_mk O2.out A2.out hp2 BD.out (by rw [HKE.out]; exact g9) o9 (by rw [HKE.out]; exact r9))
         have t9 : w9.heap[g]? = (W2.alloc (Obj.cells #[.int .i64 (c : Int)] 3)).drew.heap[g]? ∧ w9.heap[a]? = (W2.alloc (Obj.cells #[.int .i64 (c : Int)] 3)).drew.heap[a]? := by
           have key : ∀ j, j < W2.heap.size → (∃ cs t fr, W2.heap[j]? = some (.cells cs t fr) ∧ t ≠ 3) → w9.heap[j]? = (W2.alloc (Obj.cells #[.int .i64 (c : Int)] 3)).drew.heap[j]? := fun j hj ⟨cs, t, fr, hh, ht⟩ => g9.block j (Nat.lt_of_lt_of_le hj BD.out.size) (fun e => by
             have ho := (O2.out.2 qs2[p] (List.getElem_mem hp2)).2
             rw [HKE.out] at ho
             rcases ho.2 with ⟨e1, _⟩ | ⟨g', cap', cur, e1, _, hh', _⟩
             · rw [e1] at e; cases e
             · rw [e1] at e
               simp only [Value.ownBlock, Option.some.injEq] at e
               subst e
               rw [hh] at hh'
               cases hh'
               exact ht rfl)
           obtain ⟨cur, hcur⟩ := OwnQ.rowCells O2.out
           exact ⟨key g hgl2 ⟨_, _, _, hcur, by decide⟩, key a hal2 ⟨_, _, _, ha2, by decide⟩⟩
         have l5 : w9.cell? ⟨g, p * 6 + 5, none⟩ = some (.slice k1 k2 k3) := by
           rw [← (BD.out.cell (p := ⟨g, p * 6 + 5, none⟩) hgl2).trans c5]; simp only [World.cell?, t9.1]
         have lA : w9.cell? ⟨a, 0, none⟩ = some (.slice (some ⟨g, 0, none⟩) qs.length cap) := by
           rw [← (BD.out.cell (p := ⟨a, 0, none⟩) hal2).trans cA2]; simp only [World.cell?, t9.2]
         have f5 : w9.frozen? ⟨g, p * 6 + 5, none⟩ = false := by
           have := OwnQ.frozenAt (O2.out.below BD.out) (p * 6 + 5)
           rw [← this]; simp only [World.frozen?, t9.1]
         clear o9 g9 r9 t9))
    all_goals
      go_wp2_with fail
      go_meet
      with_reducible exact M9.out
  case rest =>
    obtain ⟨qs3, h1, h2, h3, h4⟩ := hcut
    have HE := (show Hid (_ ∧ _) from ⟨(⟨qs3, by rw [h1, HM2.out, HKS.out]; exact hang_eq hp2 HM2.out, h2, h3⟩ : ∃ qs', qs'.map (fun q => q.1) = hangN (qs.map (fun q => q.1)) c p ∧ OwnQ B wc (.slice (some ⟨g, 0, none⟩) qs.length cap) qs' ∧ Apart qs'), TQ.out.trans h4 HQ2.out⟩)
    clear h1 h2 h3 h4
    go_wp2
    go_ret
    exact ⟨rfl, HE.out.1, HE.out.2⟩
end Go.Proofs.YtogdbjafibejdaaGreat

/- A range over an iterator, its body with memory of its own that grows: which blocks are the body's is told by a set. No condition. -/
namespace Go.Proofs.YtogdbjafibejdaaGreat
open Go.RowKit
set_option maxRecDepth 100000
set_option linter.unusedVariables false

/-- Cells of one of these types. -/
def InT (T : TypeId → Prop) (o : Obj) : Prop := ∃ cs t fr, o = .cells cs t fr ∧ T t
/-- Of W nothing is turned but cells of blocks in S or of the types T, from n0 on; the set S' has what S has, and new blocks. -/
structure Kz (n0 : Nat) (T : TypeId → Prop) (S S' : Nat → Prop) (W W' : World) : Prop where
  os : W'.os = W.os
  tape : W'.tape = W.tape
  output : W'.output = W.output
  size : W.heap.size ≤ W'.heap.size
  same : ∀ (k : Nat) (o : Obj), W.heap[k]? = some o → (k < n0 ∨ (¬ S k ∧ ¬ InT T o) ∨ o.isCells = false) → W'.heap[k]? = some o
  sub : ∀ k, S' k → k < W'.heap.size ∧ (S k ∨ W.heap.size ≤ k)
theorem Kz.refl {n0 : Nat} {T : TypeId → Prop} {S : Nat → Prop} {W : World} (h : ∀ k, S k → k < W.heap.size) : Kz n0 T S S W W := ⟨rfl, rfl, rfl, Nat.le_refl _, fun _ _ h _ => h, fun k hk => ⟨h k hk, .inl hk⟩⟩
theorem Kz.trans {n0 : Nat} {T : TypeId → Prop} {S S1 S2 : Nat → Prop} {A B C : World} (h : Kz n0 T S S1 A B) (k : Kz n0 T S1 S2 B C) : Kz n0 T S S2 A C :=
  ⟨k.os.trans h.os, k.tape.trans h.tape, k.output.trans h.output, Nat.le_trans h.size k.size, fun i o hi ho => k.same i o (h.same i o hi ho) (by
    rcases ho with ho | ho | ho
    · exact .inl ho
    · refine .inr (.inl ⟨fun hs => ?_, ho.2⟩)
      rcases (h.sub i hs).2 with h1 | h1
      · exact ho.1 h1
      · have := blk_lt hi; omega
    · exact .inr (.inr ho)), fun i hi => ⟨(k.sub i hi).1, by
      rcases (k.sub i hi).2 with h1 | h1
      · exact (h.sub i h1).2
      · exact .inr (by have := h.size; omega)⟩⟩
theorem Kz.below {n0 : Nat} {T : TypeId → Prop} {S S' : Nat → Prop} {A B : World} (h : Kz n0 T S S' A B) (hn : n0 ≤ A.heap.size) : Below n0 A B :=
  ⟨h.os, h.tape, h.output, h.size, fun k hk => by
    have hlt : k < A.heap.size := by omega
    rw [h.same k A.heap[k] (by simp [hlt]) (.inl hk)]
    simp [hlt]⟩
theorem Kz.keeps {n0 : Nat} {T : TypeId → Prop} {S S' : Nat → Prop} {A B : World} (h : Kz n0 T S S' A B) : KeepsOthers A B := ⟨h.size, fun k o hk ho => h.same k o hk (.inr (.inr ho))⟩
theorem Kz.of_below {n0 : Nat} {T : TypeId → Prop} {S : Nat → Prop} {A B : World} (h : Below A.heap.size A B) (hs : ∀ k, S k → k < A.heap.size) : Kz n0 T S S A B :=
  ⟨h.os, h.tape, h.output, h.size, fun k o hk _ => (h.block k (blk_lt hk)).trans hk, fun k hk => ⟨Nat.lt_of_lt_of_le (hs k hk) h.size, .inl hk⟩⟩
/-- Objects of the iterator's own are turned besides. -/
theorem Kz.own {n0 B : Nat} {T : TypeId → Prop} {S S' : Nat → Prop} {W0 W W' : World} {row : Option Nat} (h : Kz n0 T S S' W0 W) (hB : W0.heap.size ≤ B) (hg : W.grownBy W' row) (hr : ∀ r, row = some r → B ≤ r) : Kz n0 T S S' W0 W' :=
  ⟨hg.os.trans h.os, hg.tape.trans h.tape, hg.output.trans h.output, Nat.le_trans h.size hg.size, fun k o hk ho => by
    have h1 := h.same k o hk ho
    rw [hg.block k (blk_lt h1) (fun e => by have := hr k e.symm; have := blk_lt hk; omega)]
    exact h1, fun k hk => ⟨Nat.lt_of_lt_of_le (h.sub k hk).1 hg.size, (h.sub k hk).2⟩⟩

/-- What is below n0 and n1, and the cells of the blocks in S and of the types T are as they were. -/
structure Agree (n0 n1 : Nat) (T : TypeId → Prop) (S : Nat → Prop) (W W' : World) : Prop where
  os : W'.os = W.os
  tape : W'.tape = W.tape
  output : W'.output = W.output
  size : W.heap.size ≤ W'.heap.size
  same : ∀ (k : Nat) (o : Obj), W.heap[k]? = some o → (k < n0 ∨ (S k ∧ o.isCells = true) ∨ InT T o ∨ k < n1) → W'.heap[k]? = some o
def FreeS (n0 n1 : Nat) (T : TypeId → Prop) (J : (Nat → Prop) → List Int → World → Prop) : Prop := ∀ S pre W W', J S pre W → Agree n0 n1 T S W W' → J S pre W'
theorem Agree.of_below {n0 n1 : Nat} {T : TypeId → Prop} {S : Nat → Prop} {A B : World} (h : Below A.heap.size A B) : Agree n0 n1 T S A B := ⟨h.os, h.tape, h.output, h.size, fun k o hk _ => (h.block k (blk_lt hk)).trans hk⟩
/-- An object of the iterator's own is turned: no cells of S, nothing below n0, none of the objects below n1. -/
theorem Agree.own {n0 n1 : Nat} {T : TypeId → Prop} {S : Nat → Prop} {W W' : World} {row : Option Nat} (hg : W.grownBy W' row) (hr : ∀ r, row = some r → n0 ≤ r ∧ n1 ≤ r ∧ ((¬ S r ∧ ∀ o, W.heap[r]? = some o → ¬ InT T o) ∨ ∃ o : Obj, W.heap[r]? = some o ∧ o.isCells = false)) : Agree n0 n1 T S W W' :=
  ⟨hg.os, hg.tape, hg.output, hg.size, fun k o hk ho => by
    rw [hg.block k (blk_lt hk) (fun e => by
      obtain ⟨h0, h1, h2⟩ := hr k e.symm
      rcases ho with ho | ho | ho | ho
      · omega
      · rcases h2 with h2 | ⟨o', e1, e2⟩
        · exact h2.1 ho.1
        · rw [hk] at e1; cases e1; rw [ho.2] at e2; cases e2
      · rcases h2 with h2 | ⟨o', e1, e2⟩
        · exact h2.2 o hk ho
        · rw [hk] at e1; cases e1; obtain ⟨cs, t, fr, rfl, _⟩ := ho; cases e2
      · omega)]
    exact hk⟩

/-- The iterator's word: it tells 'all', one behind the other, to whatever body goes on. -/
def SeqTells2 (P : Program) (T : TypeId → Prop) (g : Nat) (lb : Array Value) (n0 : Nat) (all : List Int) (w : World) : Prop :=
  ∀ (n l n1 : Nat) (J : (Nat → Prop) → List Int → World → Prop) (S : Nat → Prop) (W : World), Below w.heap.size w W → n1 ≤ W.heap.size → n0 ≤ W.heap.size → (∀ k, S k → k < W.heap.size) → FreeS n0 n1 T J →
    (∀ m S pre x W1, pre ++ [x] <+: all → J S pre W1 → (∀ k, S k → k < W1.heap.size) → YieldAt Fence.wide m P l #[.int .i64 x] W1 fun e W' => e = .returned (.bool true) ∧ ∃ S', J S' (pre ++ [x]) W' ∧ Kz n0 T S S' W1 W') →
    J S [] W → CallsIn Fence.wide n P g (#[.func (.yield l) #[] #[]] ++ lb) W fun e W' => (∃ v, e = .returned v) ∧ ∃ S', J S' all W' ∧ Kz n0 T S S' W W'

theorem wpIn_tells2 {P : Program} {T : TypeId → Prop} {n : Nat} {g : Operand} {p : Tmp} {assign body : Code} {Q : Exit → Act → World → Prop} {a : Act} {w w0 : World} {n0 : Nat} {all : List Int}
    {gf : Nat} {lb : Array Value} (hg : a.eval g = .func (.func gf) #[] lb) (eg : ∀ args w, (callFunc gf args).run P w = .ok (.enter gf args) w)
    (hseq : SeqTells2 P T gf lb n0 all w0) (hb0 : Below w0.heap.size w0 w) (hn0 : n0 ≤ w.heap.size)
    (I : (Nat → Prop) → List Int → World → Prop) (hF : FreeS n0 w.heap.size T I) (S0 : Nat → Prop) (hS0 : ∀ k, S0 k → k < w.heap.size) (h0 : I S0 [] w) (a1 : Int → Act)
    (hassign : ∀ (l m : Nat) (x : Int) (W : World) (K : Act → World → Prop), K (a1 x) W → assign.wpIn (Fence.wide.inRound l) m P (Exit.then K (fun _ _ _ => False)) { tmps := a.tmps.setIfInBounds p (.int .i64 x), defers := [] } W)
    (hbody : ∀ (l m : Nat) (S : Nat → Prop) (pre : List Int) (x : Int) (W : World), pre ++ [x] <+: all → I S pre W → (∀ k, S k → k < W.heap.size) → body.wpIn (Fence.wide.inRound l) m P (fun e _ W' => e = .normal ∧ ∃ S', Kz n0 T S S' W W' ∧ I S' (pre ++ [x]) W') (a1 x) W)
    (hdone : ∀ (D : Nat) (S' : Nat → Prop) (W : World), w.heap.size ≤ D → I S' all W → Kz n0 T S0 S' w W → W.heap[D]? = some (.deferred (some [])) → Q .normal { a with defers := { target := .collected D, args := #[] } :: a.defers } W) :
    (Code.rangeFunc g #[p] assign body).wpIn Fence.wide n P Q a w := by
  refine wpIn_rangeFunc fun fn hfn => ?_
  let rc : LoopState → Loop := fun st => { state := st, pending := none, fn, tmps := a.tmps, params := #[p], assign, body, defers := w.heap.size }
  have hW1 : Below w.heap.size w ((w.alloc (.deferred (some []))).alloc (.loop (rc .ready))) := ((Below.refl _ w).alloc (Nat.le_refl _) _).alloc (by simp) _
  have hl1 : ((w.alloc (.deferred (some []))).alloc (.loop (rc .ready))).heap[w.heap.size + 1]? = some (.loop (rc .ready)) := by
    have := World.alloc_heap_new (w.alloc (.deferred (some []))) (.loop (rc .ready)); rwa [World.size_alloc] at this
  have hd1 : ((w.alloc (.deferred (some []))).alloc (.loop (rc .ready))).heap[w.heap.size]? = some (.deferred (some [])) := (Below.heap_alloc _ _ _ (by simp)).trans (World.alloc_heap_new w _)
  have hs1 : ((w.alloc (.deferred (some []))).alloc (.loop (rc .ready))).heap.size = w.heap.size + 2 := by simp
  refine ⟨w.heap.size + 1, [{ target := .collected w.heap.size, args := #[] }], ((w.alloc (.deferred (some []))).alloc (.loop (rc .ready))), { target := .fn (.func gf) lb, args := #[.func (.yield (w.heap.size + 1)) #[] #[]] }, ((w.alloc (.deferred (some []))).alloc (.loop (rc .ready))), gf, #[.func (.yield (w.heap.size + 1)) #[] #[]] ++ lb, ((w.alloc (.deferred (some []))).alloc (.loop (rc .ready))), run_enterLoop_outer _ _ _ _ _, ?_, fun _ _ => trivial, ?_, fun h => (by cases h), ?_⟩
  · simp only [resolve, hg]
    simp [go_sem]
  · simp [invoke, go_sem, eg]
  · have hJ : FreeS n0 (w.heap.size + 2) T (fun S pre W => I S pre W ∧ W.heap[w.heap.size + 1]? = some (.loop (rc .ready)) ∧ W.heap[w.heap.size]? = some (.deferred (some []))) := fun S pre A B hs hag =>
      ⟨hF S pre A B hs.1 ⟨hag.os, hag.tape, hag.output, hag.size, fun k o hk ho => hag.same k o hk (by
        rcases ho with ho | ho | ho | ho
        · exact .inl ho
        · exact .inr (.inl ho)
        · exact .inr (.inr (.inl ho))
        · exact .inr (.inr (.inr (by omega))))⟩, hag.same _ _ hs.2.1 (.inr (.inr (.inr (by omega)))), hag.same _ _ hs.2.2 (.inr (.inr (.inr (by omega))))⟩
    refine (hseq (n - 1) (w.heap.size + 1) (w.heap.size + 2) _ S0 _ (hb0.trans (hW1.mono hb0.size)) (by simp) (by simp; omega) (fun k hk => by have := hS0 k hk; omega) hJ ?_ ⟨hF _ _ _ _ h0 (Agree.of_below hW1), hl1, hd1⟩).mono ?_
    · rintro m S pre x W hxa ⟨hi, hl, hd⟩ hSW
      have hy := run_yield (P := P) (args := #[Value.int .i64 x]) hl rfl
      have htm : ((rc .ready).params.zip #[Value.int .i64 x]).foldl (fun tmps (t, a) => tmps.setIfInBounds t a) (rc .ready).tmps = a.tmps.setIfInBounds p (.int .i64 x) := by simp [rc]
      rw [htm] at hy
      refine ⟨fn, _, assign, body, hy, roundIn_of_wpIn hfn (hassign _ _ x W _ ⟨_, run_beginRound hl rfl, ?_⟩)⟩
      have hlt := blk_lt hl
      have hl2 : (W.putObj (w.heap.size + 1) (.loop { rc .ready with state := .busy })).heap[w.heap.size + 1]? = some (.loop { rc .ready with state := .busy }) := World.putObj_heap_same hlt
      have hag2 : Agree n0 w.heap.size T S W (W.putObj (w.heap.size + 1) (.loop { rc .ready with state := .busy })) := Agree.own (grownBy_putObj' _ _ _) (fun r e => by cases e; exact ⟨by omega, by omega, .inr ⟨_, hl, rfl⟩⟩)
      refine wpIn_mono (hbody _ _ S pre x _ hxa (hF _ _ _ _ hi hag2) (fun k hk => by have := hSW k hk; simpa using this)) ?_
      rintro e a3 W3 ⟨rfl, S', hk3, hi3⟩
      have hl3 := hk3.same _ _ hl2 (.inr (.inr rfl))
      have he := run_endRound (P := P) none hl3
      have hag3 : Agree n0 w.heap.size T S' W3 (W3.putObj (w.heap.size + 1) (.loop (rc .ready))) := Agree.own (grownBy_putObj' _ _ _) (fun r e => by cases e; exact ⟨by omega, by omega, .inr ⟨_, hl3, rfl⟩⟩)
      refine ⟨_, _, he, rfl, S', ⟨hF _ _ _ _ hi3 hag3, World.putObj_heap_same (blk_lt hl3), ?_⟩, hk3.os, hk3.tape, hk3.output, ?_, fun k o hk ho => ?_, fun k hk => ?_⟩
      · rw [World.putObj_heap_other (by omega)]
        exact hk3.same _ _ ((World.putObj_heap_other (by omega)).trans hd) (.inr (.inr rfl))
      · have := hk3.size; simpa using this
      · by_cases hkl : k = w.heap.size + 1
        · subst hkl
          rw [hl] at hk
          cases hk
          exact World.putObj_heap_same (blk_lt hl3)
        · rw [World.putObj_heap_other hkl]
          exact hk3.same k o ((World.putObj_heap_other hkl).trans hk) ho
      · have := hk3.sub k hk
        simpa using this
    · rintro e W2 ⟨⟨v, rfl⟩, S', ⟨hi, hl, hd⟩, hk⟩
      have hag : Agree n0 w.heap.size T S' W2 (W2.putObj (w.heap.size + 1) (.loop { rc .ready with state := .exhausted })) := Agree.own (grownBy_putObj' _ _ _) (fun r e => by cases e; exact ⟨by omega, by omega, .inr ⟨_, hl, rfl⟩⟩)
      refine ⟨none, _, run_endLoop (P := P) hl (by simp [rc]), hdone _ S' _ (Nat.le_refl _) (hF _ _ _ _ hi hag) ?_ ((World.putObj_heap_other (by omega)).trans hd)⟩
      refine ⟨hk.os, hk.tape, hk.output, ?_, fun k o hk1 ho => ?_, fun k hk1 => ?_⟩
      · have := hk.size; simp at this ⊢; omega
      · have hkw := blk_lt hk1
        rw [World.putObj_heap_other (by omega)]
        exact hk.same k o ((hW1.block k hkw).trans hk1) ho
      · have := hk.sub k hk1
        refine ⟨by simpa using this.1, ?_⟩
        rcases this.2 with h | h
        · exact .inl h
        · exact .inr (by omega)
end Go.Proofs.YtogdbjafibejdaaGreat

/- The program's tellFrom and from, inside the fence. No condition. -/
namespace Go.Proofs.YtogdbjafibejdaaGreat
open Go.RowKit Go.Shelf
set_option maxRecDepth 100000
set_option linter.unusedVariables false
attribute [local go_sem] Oper.semAt_some

theorem TellBox.kz {A l B n0 : Nat} {T : TypeId → Prop} {S S' : Nat → Prop} {W W' : World} (h : TellBox A l B W) (k : Kz n0 T S S' W W') (hB : ∀ j, B ≤ j → j < B + 3 → ¬ S j) (hT : ¬ T 64 ∧ ¬ T 80 ∧ ¬ T 4) : TellBox A l B W' :=
  ⟨k.same _ _ h.1 (.inr (.inl ⟨hB _ (by omega) (by omega), fun ⟨_, _, _, e, ht⟩ => by cases e; exact hT.1 ht⟩)), k.same _ _ h.2.1 (.inr (.inl ⟨hB _ (by omega) (by omega), fun ⟨_, _, _, e, ht⟩ => by cases e; exact hT.2.1 ht⟩)), k.same _ _ h.2.2 (.inr (.inl ⟨hB _ (by omega) (by omega), fun ⟨_, _, _, e, ht⟩ => by cases e; exact hT.2.2 ht⟩))⟩

set_option maxHeartbeats 800000 in
/-- What kids hands back tells all kids, in their order. -/
theorem kids_tells2 {w0 w : World} {T : TypeId → Prop} {v : Value} {ns : List PNode} {A Ba Bt k : Nat} (hn : NodesAt w0 v ns) (hA : A < w0.heap.size) (cA : w0.cell? ⟨A, 0, none⟩ = some v) (hlen : ns.length ≤ 1048576) (hk : k < ns.length) (hw : Below w0.heap.size w0 w)
    (ca : w.cell? ⟨Ba, 0, none⟩ = some (.pointer (some ⟨A, 0, none⟩))) (ct : w.cell? ⟨Bt, 0, none⟩ = some (.int .i64 (k : Int))) (hBa : Ba < w.heap.size) (hBt : Bt < w.heap.size) :
    SeqTells2 Tryz.prog T 158 #[.pointer (some ⟨Ba, 0, none⟩), .pointer (some ⟨Bt, 0, none⟩)] w0.heap.size (kidsOf ns k) w := by
  intro n l n1 J S W hWw hn1 hn0 hSW hF hY h0
  have hW : Below w0.heap.size w0 W := hw.trans (hWw.mono hw.size)
  have hBa' := (hWw.cell (p := ⟨Ba, 0, none⟩) hBa).trans ca
  have hBt' := (hWw.cell (p := ⟨Bt, 0, none⟩) hBt).trans ct
  have hA' := (hW.cell (p := ⟨A, 0, none⟩) hA).trans cA
  obtain ⟨a, cap, rfl, hc1, hc2, hcs⟩ := hn.slice
  obtain ⟨b, off, av, kv, rfl, hblt, _, _, _, _, _, c5, _, hsl⟩ := hcs k hk
  have c5' := (hW.cell (p := ⟨b, off + k * 6 + 5, none⟩) hblt).trans c5
  obtain ⟨ka, kcap, rfl, hk1, hk2, _, hkc⟩ := hsl
  have hkm : kcap < 9223372036854775808 := Nat.lt_of_le_of_lt hk2 (by decide)
  rw [← kidsOf_at hk] at hkc c5' hk1
  obtain ⟨zs, hzs⟩ : ∃ zs, zs = kidsOf ns k := ⟨_, rfl⟩
  rw [← hzs] at hkc c5' hk1 hY ⊢
  have HKC := (show Hid (Cells .i64 w0 ka zs) from hkc)
  have HW := (show Hid (Below w0.heap.size w0 W) from hW)
  clear hcs hkc c5 hW hn hzs ca ct cA
  refine (callsIn_wide (n := n)).2 ((callsIn_wide (n := 5)).1 ?_)
  refine callsIn_of_wp Tryz.func158 rfl trivial ?_ rfl
  simp only [Tryz.ntmps158, List.size_toArray, List.length_cons, List.length_nil, Nat.reduceAdd, Nat.reduceSub, Array.replicate_succ, Array.replicate_zero, List.push_toArray, List.append_toArray, List.nil_append, List.cons_append]
  gi_wp2
  gi_quiet (fail)
  have hbq : Below W.heap.size W (W.drewN nq) := ⟨rfl, rfl, rfl, Nat.le_refl _, fun _ _ => rfl⟩
  have h0' : J S [] (W.drewN nq) := hF _ _ _ _ h0 (Agree.of_below hbq)
  have hk0 : Kz w0.heap.size T S S W (W.drewN nq) := Kz.of_below hbq hSW
  gi_wp2
  gi_loopw [15] (fun i wr => ∃ (j : Nat) (S' : Nat → Prop), j ≤ zs.length ∧ i = .int .i64 j ∧ J S' (zs.take j) wr ∧ Kz w0.heap.size T S S' W wr) (fun i _ => zs.length - (intOf i).toNat)
  case atStart => exact ⟨0, S, Nat.zero_le _, rfl, by simpa using h0', hk0⟩
  case round =>
    obtain ⟨j, S', hj, rfl, hJs, hks⟩ := hrel
    by_cases hlt : j < zs.length
    · have hnx : Below w0.heap.size w0 wr := HW.out.trans (hks.below hn0)
      obtain ⟨kb, ko, rfl, ck⟩ := HKC.out j hlt
      rw [show zs.getD j 0 = zs[j] by simp [List.getD_eq_getElem?_getD, hlt]] at ck
      have hkb : kb < w0.heap.size := by
        by_cases h : kb < w0.heap.size
        · exact h
        · exfalso; simp [World.cell?, Array.getElem?_eq_none (Nat.le_of_not_lt h)] at ck
      have ck' := (hnx.cell (p := ⟨kb, ko + j, none⟩) hkb).trans ck
      have HP : Hid (zs.take j ++ [zs[j]] = zs.take (j + 1)) := (take_snoc zs hlt).symm
      obtain ⟨fn, tmps, assign, body, hy, hR⟩ := hY 4 S' (zs.take j) zs[j] wr (by rw [HP.out]; exact List.take_prefix _ _) hJs (fun i hi => (hks.sub i hi).1)
      have HKS := (show Hid (Kz w0.heap.size T S S' W wr) from hks)
      clear ck hnx hks
      gi_wp2
      refine hR.mono ?_
      rintro e W3 ⟨rfl, S3, hJ3, hk3⟩
      gi_wp2
      go_roundw
      case rel => exact ⟨j + 1, S3, by omega, by go_num, by rw [← HP.out]; exact hJ3, HKS.out.trans hk3⟩
      case measure => simp [intOf]; omega
    · obtain rfl : j = zs.length := by omega
      rw [List.take_length] at hJs
      gi_wp2
      go_end0
      exact ⟨⟨_, rfl⟩, S', hJs, hks⟩

set_option maxHeartbeats 1000000 in
theorem tellFrom_in2 {w0 : World} {T : TypeId → Prop} (hT : ¬ T 64 ∧ ¬ T 80 ∧ ¬ T 4) {v : Value} {ns : List PNode} {A l n1 : Nat} (hn : NodesAt w0 v ns) (hA : A < w0.heap.size) (cA : w0.cell? ⟨A, 0, none⟩ = some v) (hlen : ns.length ≤ 1048576) (J : (Nat → Prop) → List Int → World → Prop) (hF : FreeS w0.heap.size n1 T J)
    (G : List Int → Prop) (hY : ∀ m S pre x W1, G (pre ++ [x]) → J S pre W1 → (∀ k, S k → k < W1.heap.size) → YieldAt Fence.wide m Tryz.prog l #[.int .i64 x] W1 fun e W' => e = .returned (.bool true) ∧ ∃ S', J S' (pre ++ [x]) W' ∧ Kz w0.heap.size T S S' W1 W') :
    ∀ (f k : Nat), deepOk ns f k → ∀ (n : Nat) (S : Nat → Prop) (pre : List Int) (W : World), (∀ l', l' ≠ [] → l' <+: down ns f k → G (pre ++ l')) → Below w0.heap.size w0 W → n1 ≤ W.heap.size → (∀ k, S k → k < W.heap.size) → J S pre W →
      CallsIn Fence.wide n Tryz.prog 122 #[.pointer (some ⟨A, 0, none⟩), .int .i64 (k : Int), .func (.yield l) #[] #[]] W fun e W' => e = .returned (.bool true) ∧ ∃ S', J S' (pre ++ down ns f k) W' ∧ Kz w0.heap.size T S S' W W' := by
  intro f
  induction f with
  | zero => intro k h; exact h.elim
  | succ f ih =>
    intro k hk n S pre W hG hW hn1 hSW hJW
    have HGG := (show Hid (∀ l', l' ≠ [] → l' <+: down ns (f + 1) k → G (pre ++ l')) from hG)
    clear hG
    have hklt := hk.1
    have IH := (show Hid _ from ih)
    have HN := (show Hid (NodesAt w0 v ns) from hn)
    have HK := (show Hid (∀ x ∈ kidsOf ns k, 0 ≤ x ∧ deepOk ns f x.toNat) from hk.2)
    clear ih hn hk
    refine (callsIn_wide (n := n)).2 ((callsIn_wide (n := 5)).1 ?_)
    have hbox := tellBox_new A l W
    have b3 := (((Below.refl _ W).alloc (Nat.le_refl _) (.cells #[.pointer (some ⟨A, 0, none⟩)] 64)).alloc (by simp) (.cells #[.func (.yield l) #[] #[]] 80)).alloc (by simp; omega) (.cells #[.bool false] 4)
    have hJ3 : J S pre _ := hF _ _ _ _ hJW (Agree.of_below b3)
    have hsz3 : (((W.alloc (.cells #[.pointer (some ⟨A, 0, none⟩)] 64)).alloc (.cells #[.func (.yield l) #[] #[]] 80)).alloc (.cells #[.bool false] 4)).heap.size = W.heap.size + 3 := by simp
    have hNS : ∀ j, W.heap.size ≤ j → j < W.heap.size + 3 → ¬ S j := fun j h1 _ hj => by have := hSW j hj; omega
    obtain ⟨fn, tmps, assign, body, hy, hR⟩ := hY 4 S pre (k : Int) _ (HGG.out [(k : Int)] (by simp) (by rw [down]; exact ⟨_, rfl⟩)) hJ3 (fun j hj => by have := hSW j hj; omega)
    have cY : (((W.alloc (.cells #[.pointer (some ⟨A, 0, none⟩)] 64)).alloc (.cells #[.func (.yield l) #[] #[]] 80)).alloc (.cells #[.bool false] 4)).cell? ⟨W.heap.size + 1, 0, none⟩ = some (.func (.yield l) #[] #[]) := by simp only [World.cell?, hbox.2.1]; rfl
    have HB := (show Hid (TellBox A l W.heap.size _) from hbox)
    have HB3 := (show Hid (Below W.heap.size W _) from b3)
    have HSZ3 := (show Hid _ from hsz3)
    have HNS := (show Hid (∀ j, W.heap.size ≤ j → j < W.heap.size + 3 → ¬ S j) from hNS)
    have HSW := (show Hid (∀ k, S k → k < W.heap.size) from hSW)
    clear hbox b3 hJ3 hsz3 hNS hSW
    refine callsIn_of_wp_marks Tryz.func122 rfl trivial ?_ rfl
    simp only [Tryz.ntmps122, List.size_toArray, List.length_cons, List.length_nil, Nat.reduceAdd, Nat.reduceSub, Array.replicate_succ, Array.replicate_zero, List.push_toArray, List.append_toArray, List.nil_append, List.cons_append]
    gi_wp2
    refine hR.mono ?_
    rintro e W4 ⟨rfl, S4, hJ4, hK4⟩
    have bx4 := TellBox.kz HB.out hK4 HNS.out hT
    have k4 : Kz w0.heap.size T S S4 W W4 := (Kz.of_below HB3.out HSW.out).trans hK4
    have hNS4 : ∀ j, W.heap.size ≤ j → j < W.heap.size + 3 → ¬ S4 j := fun j h1 h2 hj => by
      rcases (hK4.sub j hj).2 with h | h
      · exact HNS.out j h1 h2 h
      · have := HSZ3.out; omega
    have b4 : Below w0.heap.size w0 W4 := hW.trans (k4.below hW.size)
    have c4 : W4.cell? ⟨W.heap.size, 0, none⟩ = some (.pointer (some ⟨A, 0, none⟩)) := by simp only [World.cell?, bx4.1]; rfl
    have HX4 := (show Hid (TellBox A l W.heap.size W4) from bx4)
    have HK4 := (show Hid (Kz w0.heap.size T S S4 W W4) from k4)
    have HNS4 := (show Hid (∀ j, W.heap.size ≤ j → j < W.heap.size + 3 → ¬ S4 j) from hNS4)
    have HB4 := (show Hid (Below w0.heap.size w0 W4) from b4)
    have HJ4 := (show Hid (J S4 (pre ++ [(k : Int)]) W4) from hJ4)
    have hlt4 := blk_lt bx4.2.2
    clear HB HB3 hK4 bx4 k4 b4 hJ4 cY hy hR hNS4 HSZ3
    gi_wp2
    refine ⟨trivial, (kids_in _ _ _ _).mono ?_⟩
    rintro e w' ⟨rfl, rfl⟩
    gi_wp2
    obtain ⟨W5, hW5⟩ : ∃ W5, W5 = (W4.alloc (.cells #[.pointer (some ⟨A, 0, none⟩)] 64)).alloc (.cells #[.int .i64 (k : Int)] 3) := ⟨_, rfl⟩
    have b5 : Below W4.heap.size W4 W5 := by rw [hW5]; exact ((Below.refl _ W4).alloc (Nat.le_refl _) _).alloc (by simp) _
    have sz5 : W5.heap.size = W4.heap.size + 2 := by rw [hW5]; simp
    have gY : W5.heap[W4.heap.size]? = some (.cells #[.pointer (some ⟨A, 0, none⟩)] 64 (0, 0)) := by
      rw [hW5, Below.heap_alloc _ _ _ (by simp)]
      exact World.alloc_heap_new _ _
    have gZ : W5.heap[W4.heap.size + 1]? = some (.cells #[.int .i64 (k : Int)] 3 (0, 0)) := by
      rw [hW5]
      have := World.alloc_heap_new (W4.alloc (.cells #[.pointer (some ⟨A, 0, none⟩)] 64)) (.cells #[.int .i64 (k : Int)] 3)
      rwa [World.size_alloc] at this
    have cY : W5.cell? ⟨W4.heap.size, 0, none⟩ = some (.pointer (some ⟨A, 0, none⟩)) := by simp only [World.cell?, gY]; rfl
    have cZ : W5.cell? ⟨W4.heap.size + 1, 0, none⟩ = some (.int .i64 (k : Int)) := by simp only [World.cell?, gZ]; rfl
    have hJ5 : J S4 (pre ++ [(k : Int)]) W5 := hF _ _ _ _ HJ4.out (Agree.of_below b5)
    have k5 : Kz w0.heap.size T S S4 W W5 := HK4.out.trans (Kz.of_below b5 (fun j hj => (HK4.out.sub j hj).1))
    have bx5 : TellBox A l W.heap.size W5 := ⟨(b5.block _ (by omega)).trans HX4.out.1, (b5.block _ (by omega)).trans HX4.out.2.1, (b5.block _ (by omega)).trans HX4.out.2.2⟩
    have hbel : Below w0.heap.size w0 W5 := HB4.out.trans (b5.mono HB4.out.size)
    have hsz : W.heap.size ≤ W5.heap.size := k5.size
    have hle0 : w0.heap.size ≤ W.heap.size := hW.size
    rw [← hW5]
    refine wpIn_tells2 (T := T) (w0 := W5) (n0 := w0.heap.size) (all := kidsOf ns k) (gf := 158) (lb := #[.pointer (some ⟨W4.heap.size, 0, none⟩), .pointer (some ⟨W4.heap.size + 1, 0, none⟩)]) rfl (enters_of Tryz.func158 (by kernel_rfl) rfl)
      (kids_tells2 HN.out hA cA hlen hklt hbel cY cZ (by omega) (by omega)) (Below.refl _ _) hbel.size
      (fun S' pre' Wq => J S' (pre ++ [(k : Int)] ++ pre'.flatMap (fun x => down ns f x.toNat)) Wq ∧ Kz w0.heap.size T S S' W Wq ∧ TellBox A l W.heap.size Wq ∧ ∀ j, W.heap.size ≤ j → j < W.heap.size + 3 → ¬ S' j)
      ?hI S4 (fun j hj => by have := (HK4.out.sub j hj).1; omega) ⟨by simpa using hJ5, k5, bx5, HNS4.out⟩
      (fun x => { tmps := #[.pointer (some ⟨A, 0, none⟩), .int .i64 (k : Int), .func (.yield l) #[] #[], .pointer (some ⟨W.heap.size, 0, none⟩), undef, .pointer (some ⟨W.heap.size + 1, 0, none⟩), .pointer (some ⟨W.heap.size + 1 + 1, 0, none⟩), .int .i64 x, .func (.yield l) #[] #[], .int .i64 (k : Int), .bool true, .bool false, .pointer (some ⟨A, 0, none⟩), .int .i64 (k : Int), .func (.func 158) #[] #[.pointer (some ⟨W4.heap.size, 0, none⟩), .pointer (some ⟨W4.heap.size + 1, 0, none⟩)], .int .i64 x, undef, undef, undef, undef, undef], defers := [] }) ?assign ?body ?done
    case hI =>
      rintro S' pre' Wa Wb ⟨h1, h2, h3, h4⟩ hag
      refine ⟨hF _ _ _ _ h1 ⟨hag.os, hag.tape, hag.output, hag.size, fun j o hj ho => hag.same j o hj (by
        rcases ho with ho | ho | ho | ho
        · exact .inl ho
        · exact .inr (.inl ho)
        · exact .inr (.inr (.inl ho))
        · exact .inr (.inr (.inr (by omega))))⟩, ⟨hag.os.trans h2.os, hag.tape.trans h2.tape, hag.output.trans h2.output, Nat.le_trans h2.size hag.size, fun j o hj ho => hag.same j o (h2.same j o hj ho) (.inr (.inr (.inr (by have := blk_lt hj; omega)))), fun j hj => ⟨Nat.lt_of_lt_of_le (h2.sub j hj).1 hag.size, (h2.sub j hj).2⟩⟩, ⟨hag.same _ _ h3.1 (.inr (.inr (.inr (by omega)))), hag.same _ _ h3.2.1 (.inr (.inr (.inr (by omega)))), hag.same _ _ h3.2.2 (.inr (.inr (.inr (by omega))))⟩, h4⟩
    case assign =>
      intro l' m' x Wa K' hK'
      gi_wp2
      exact hK'
    case body =>
      rintro l' m' Sb pre' x Wb hpx ⟨hJb, hKb, hXb, hNb⟩ hSb
      have cb0 : Wb.cell? ⟨W.heap.size, 0, none⟩ = some (.pointer (some ⟨A, 0, none⟩)) := by simp only [World.cell?, hXb.1]; rfl
      have cb1 : Wb.cell? ⟨W.heap.size + 1, 0, none⟩ = some (.func (.yield l) #[] #[]) := by simp only [World.cell?, hXb.2.1]; rfl
      have hx : x ∈ kidsOf ns k := hpx.subset (by simp)
      obtain ⟨hx0, hdx⟩ := HK.out x hx
      obtain ⟨j, rfl⟩ : ∃ j : Nat, x = j := ⟨x.toNat, by omega⟩
      rw [show ((j : Int)).toNat = j by simp] at hdx
      have hGj : ∀ l', l' ≠ [] → l' <+: down ns f j → G (pre ++ [(k : Int)] ++ pre'.flatMap (fun x => down ns f x.toNat) ++ l') := fun l' hl1 hl2 => by
        have := HGG.out ((k : Int) :: (pre'.flatMap (fun x => down ns f x.toNat) ++ l')) (by simp) (by
          obtain ⟨r1, hr1⟩ := hpx
          obtain ⟨r2, hr2⟩ := hl2
          refine ⟨r2 ++ r1.flatMap (fun x => down ns f x.toNat), ?_⟩
          rw [down, ← hr1, List.flatMap_append, List.flatMap_append, List.flatMap_singleton, show ((j : Int)).toNat = j by simp, ← hr2]
          simp [List.append_assoc])
        simpa [List.append_assoc] using this
      have CC := (show Hid _ from IH.out j hdx (m' - 1) Sb _ Wb hGj (hW.trans (hKb.below hW.size)) (by have := hKb.size; omega) (fun i hi => (hKb.sub i hi).1) hJb)
      have HKb := (show Hid (Kz w0.heap.size T S Sb W Wb) from hKb)
      have HNb := (show Hid (∀ j, W.heap.size ≤ j → j < W.heap.size + 3 → ¬ Sb j) from hNb)
      have hlb := blk_lt hXb.2.2
      have HXb := (show Hid (TellBox A l W.heap.size Wb) from hXb)
      clear hJb hKb hXb hNb hGj hpx
      gi_wp2
      refine ⟨trivial, (fun h => by cases h), (CallsIn.inRound l' CC.out).mono ?_⟩
      rintro e Wc ⟨rfl, Sc, hJc, hKc⟩
      have hKc' := HKb.out.trans hKc
      have hXc := TellBox.kz HXb.out hKc HNb.out hT
      have hNc : ∀ i, W.heap.size ≤ i → i < W.heap.size + 3 → ¬ Sc i := fun i h1 h2 hi => by
        rcases (hKc.sub i hi).2 with h | h
        · exact HNb.out i h1 h2 h
        · omega
      have hJc' : J Sc (pre ++ [(k : Int)] ++ (pre' ++ [(j : Int)]).flatMap (fun x => down ns f x.toNat)) Wc := by simpa [List.flatMap_append, List.append_assoc] using hJc
      have END := (show Hid (∃ S', Kz w0.heap.size T Sb S' Wb Wc ∧ J S' (pre ++ [(k : Int)] ++ (pre' ++ [(j : Int)]).flatMap (fun x => down ns f x.toNat)) Wc ∧ Kz w0.heap.size T S S' W Wc ∧ TellBox A l W.heap.size Wc ∧ ∀ i, W.heap.size ≤ i → i < W.heap.size + 3 → ¬ S' i) from ⟨Sc, hKc, hJc', hKc', hXc, hNc⟩)
      clear hKc hJc hJc' hKc' hXc hNc
      gi_wp2
      simpa using END.out
    case done =>
      rintro D Sd Wd hD ⟨hJd, hKd, hXd, hNd⟩ hKdd hDd
      have cR : Wd.cell? ⟨W.heap.size + 1 + 1, 0, none⟩ = some (.bool false) := by simp only [World.cell?, hXd.2.2]; rfl
      have fR : Wd.frozen? ⟨W.heap.size + 1 + 1, 0, none⟩ = false := by simp [World.frozen?, hXd.2.2]
      have hds : (Wd.setCell ⟨W.heap.size + 1 + 1, 0, none⟩ (.bool true)).heap[D]? = some (.deferred (some [])) := (KeepsOthers.setCell Wd ⟨W.heap.size + 1 + 1, 0, none⟩ (.bool true)).same D _ hDd rfl
      have gR := setCell_at (k := 0) (u := .bool true) hXd.2.2
      gi_wp2
      refine ⟨by simp, .inl ⟨_, _, rfl, run_takeDeferred hds, ?_⟩⟩
      have hne : W.heap.size + 1 + 1 ≠ D := fun e => by rw [← e, hXd.2.2] at hDd; cases hDd
      have gR' : ((Wd.setCell ⟨W.heap.size + 1 + 1, 0, none⟩ (.bool true)).putObj D (.deferred none)).heap[W.heap.size + 1 + 1]? = _ := (World.putObj_heap_other hne).trans gR
      have hc : ((Wd.setCell ⟨W.heap.size + 1 + 1, 0, none⟩ (.bool true)).putObj D (.deferred none)).cell? ⟨W.heap.size + 1 + 1, 0, none⟩ = some (.bool true) := by simp only [World.cell?, gR']; rfl
      have hag1 : Agree w0.heap.size n1 T Sd Wd (Wd.setCell ⟨W.heap.size + 1 + 1, 0, none⟩ (.bool true)) := Agree.own (grown_setCell _ _ _ _) (fun r e => by cases e; exact ⟨by omega, by omega, .inl ⟨hNd _ (by omega) (by omega), fun o ho ⟨_, _, _, e, ht⟩ => by rw [hXd.2.2] at ho; cases ho; cases e; exact hT.2.2 ht⟩⟩)
      have hag2 : Agree w0.heap.size n1 T Sd (Wd.setCell ⟨W.heap.size + 1 + 1, 0, none⟩ (.bool true)) ((Wd.setCell ⟨W.heap.size + 1 + 1, 0, none⟩ (.bool true)).putObj D (.deferred none)) := Agree.own (grownBy_putObj' _ _ _) (fun r e => by cases e; exact ⟨by omega, by omega, .inr ⟨_, hds, rfl⟩⟩)
      have e1 : pre ++ [(k : Int)] ++ List.flatMap (fun x => down ns f x.toNat) (kidsOf ns k) = pre ++ down ns (f + 1) k := by simp [down]
      rw [e1] at hJd
      refine ⟨.bool true, ?_, rfl, Sd, hF _ _ _ _ (hF _ _ _ _ hJd hag1) hag2, ?_⟩
      · simp [results, Tryz.f122, go_sem, hc]
      · exact (hKd.own (B := W.heap.size) (Nat.le_refl _) (grown_setCell Wd (W.heap.size + 1 + 1) 0 (.bool true)) (fun r e => by cases e; omega)).own (B := W.heap.size) (Nat.le_refl _) (grownBy_putObj' _ _ _) (fun r e => by cases e; omega)

set_option maxHeartbeats 400000 in
/-- What 'from' hands back tells the node and all that stand below it. -/
theorem from_tells2 {w0 w : World} {T : TypeId → Prop} (hT : ¬ T 64 ∧ ¬ T 80 ∧ ¬ T 4) {v : Value} {ns : List PNode} {A Ba Bt f k : Nat} (hn : NodesAt w0 v ns) (hA : A < w0.heap.size) (cA : w0.cell? ⟨A, 0, none⟩ = some v) (hlen : ns.length ≤ 1048576) (hk : deepOk ns f k) (hw : Below w0.heap.size w0 w)
    (ca : w.cell? ⟨Ba, 0, none⟩ = some (.pointer (some ⟨A, 0, none⟩))) (ct : w.cell? ⟨Bt, 0, none⟩ = some (.int .i64 (k : Int))) (hBa : Ba < w.heap.size) (hBt : Bt < w.heap.size) :
    SeqTells2 Tryz.prog T 121 #[.pointer (some ⟨Ba, 0, none⟩), .pointer (some ⟨Bt, 0, none⟩)] w0.heap.size (down ns f k) w := by
  intro n l n1 J S W hW hn1 hn0 hSW hF hY h0
  have hb : Below w0.heap.size w0 W := hw.trans (hW.mono hw.size)
  have CC := (show Hid _ from tellFrom_in2 hT hn hA cA hlen J hF (fun l => l <+: down ns f k) hY f k hk 4 S [] W (fun l' _ h => by simpa using h) hb hn1 hSW h0)
  have ca' := (hW.cell (p := ⟨Ba, 0, none⟩) hBa).trans ca
  have ct' := (hW.cell (p := ⟨Bt, 0, none⟩) hBt).trans ct
  refine (callsIn_wide (n := n)).2 ((callsIn_wide (n := 5)).1 ?_)
  refine callsIn_of_wp Tryz.func121 rfl trivial ?_ rfl
  simp only [Tryz.ntmps121, List.size_toArray, List.length_cons, List.length_nil, Nat.reduceAdd, Nat.reduceSub, Array.replicate_succ, Array.replicate_zero, List.push_toArray, List.append_toArray, List.nil_append, List.cons_append]
  gi_wp2
  refine ⟨trivial, CallsIn.mono CC.out ?_⟩
  rintro e W' ⟨rfl, S', hJ', hK'⟩
  gi_wp2
  go_end0
  exact ⟨⟨_, rfl⟩, S', by simpa using hJ', hK'⟩
end Go.Proofs.YtogdbjafibejdaaGreat
