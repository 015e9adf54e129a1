/- append in a region that draws its order, onto the call's own row, of whatever slice. No condition. -/
import Derived.Test.YtogdbjafibejdaaGreatV13
import Derived.Test.YtogdbjafibejdaaGreatV39
import Derived.Deep.RegionLaw
import Derived.Deep.Cut
import Derived.Laws.AppendOwnNone
import Derived.Test.YtogdbjafibejdaaGreatV21
import Derived.Test.YtogdbjafibejdaaGreatV38
namespace Go.Proofs.YtogdbjafibejdaaGreat
open Go.RowKit
set_option maxRecDepth 100000
set_option linter.unusedVariables false

theorem step_appS {P : Program} {ops : Array Oper} {o : Oper} {a : Act} {w : World} {K : Act → World → Prop} {Q : Exit → Act → World → Prop} {E : Prop}
    (hg : o.guard = none) (s x : Operand) (t : TypeId) (hop : o.op = Op.call { callee := Callee.builtin Builtin.append, args := #[s, x], argTypes := #[t, t] })
    (B : Nat) (e : TypeId) (i : TypeInfo) (z : Value) (size bytes : Nat) (h1 : P.underlying t = some (.slice e)) (h2 : P.info? e = some i) (h3 : i.zero = some z) (h4 : i.size = size) (h5 : i.bytes = bytes) (h6 : z.cells.size = size) (h7 : 0 < size)
    (v : Value) (n : Nat) (xs : List Value) (hs : a.eval s = v) (hown : w.ownsRow B e size v n xs)
    (u : Value) (m : Nat) (news : List Value) (hx : a.eval x = u) (hu : Sv size w u news) (hm : news.length = m * size) (h1c : ∀ u ∈ news, u.oneCell' = true)
    (b1 : n + m ≤ maxLen) (b2 : (n + m) * bytes ≤ 140737488355328) (hB : B ≤ w.heap.size)
    (hK : ∀ v' w', w'.ownsRow B e size v' (n + m) (xs ++ news) → w.grownBy w' v.ownBlock → K (a.put o.dst v') w') :
    if Region.wanted o (yielded ops a.tmps) = true then Oper.wp P o a w K Q else E := by
  have hw : Region.wanted o (yielded ops a.tmps) = true := by simp [Region.wanted, hg]
  rw [if_pos hw]
  obtain ⟨ao, len, cap, rfl, hl, hlc, hcm, hnone, hc⟩ := hu
  have hlm : len = m := Nat.eq_of_mul_eq_mul_right h7 (hl.symm.trans hm)
  subst hlm
  cases ao with
  | none =>
    have hc0 := hnone rfl
    subst hc0
    have hl0 : len = 0 := by omega
    subst hl0
    have hy : news = [] := List.length_eq_zero_iff.mp (by omega)
    subst hy
    have hrun := run_append_owned_none (P := P) (w := w) B t o.type e i size h1 h2 v n xs hown
    unfold Oper.wp
    simp [execOp, hop, resolve, invoke, builtin, hs, hx, hrun, Result.andThen]
    exact hK v w (by rw [List.append_nil]; exact hown) (World.grownBy.refl _ _)
  | some ad =>
    refine wp_append_own w s x t hop B e i z size bytes h1 h2 h3 h4 h5 h6 h7 v n xs hs hown ad len cap news hx hl ?_ h1c b1 b2 hB fun v' w' o1 o2 _ => hK v' w' o1 o2
    intro j y hy
    have hj : j < news.length := by
      by_cases hj : j < news.length
      · exact hj
      · rw [List.getElem?_eq_none (Nat.le_of_not_lt hj)] at hy; cases hy
    obtain ⟨b, off, e, c⟩ := hc j hj
    cases e
    have e2 : news.getD j undef = y := by rw [List.getD_eq_getElem?_getD, hy]; rfl
    rw [e2] at c
    rw [← c]
    by_cases h0 : j = 0
    · subst h0; simp [Addr.add]
    · simp [Addr.add, h0]
end Go.Proofs.YtogdbjafibejdaaGreat

/- append of integers within a region that draws its order, that tells its block. No condition. -/
namespace Go.Proofs.YtogdbjafibejdaaGreat
open Go.RowKit
set_option maxRecDepth 100000
set_option linter.unusedVariables false

/-- append within a region that draws its order, onto a row of the call's own whose block is known: where the new row lies. -/
theorem step_appT {P : Program} {ops : Array Oper} {o : Oper} {a : Act} {w : World} {K : Act → World → Prop} {Q : Exit → Act → World → Prop} {E : Prop}
    (hgd : o.guard = none) (s x : Operand) (t : TypeId) (ho : o.op = Op.call { callee := Callee.builtin Builtin.append, args := #[s, x], argTypes := #[t, t] }) (B : Nat) (e : TypeId) (i : TypeInfo)
    (z : Value) (bytes : Nat) (ht : P.underlying t = some (TypeDesc.slice e)) (hi : P.info? e = some i) (hz : i.zero = some z) (hsize : i.size = 1) (hby : i.bytes = bytes)
    (hzs : z.cells.size = 1) (J : IntKind) (r cap : Nat) (xs : List Int) (ad : Addr) (c : Nat) (ys : List Int) (hs : a.eval s = .slice (some ⟨r, 0, none⟩) xs.length cap) (hx : a.eval x = .slice (some ad) ys.length c) (hown : Own B e J w (.slice (some ⟨r, 0, none⟩) xs.length cap) xs) (hu : Sl J w (.slice (some ad) ys.length c) ys)
    (hb : (xs.length + ys.length) * bytes ≤ 140737488355328) (h63 : xs.length + ys.length ≤ maxLen) (hbase : B ≤ w.heap.size)
    (h : ∀ (r' cap' : Nat) (w' : World), Own B e J w' (.slice (some ⟨r', 0, none⟩) (xs.length + ys.length) cap') (xs ++ ys) → w.grownBy w' (some r) → (r' = r ∨ r' = w.heap.size) → K (a.put o.dst (.slice (some ⟨r', 0, none⟩) (xs.length + ys.length) cap')) w') :
    if Region.wanted o (yielded ops a.tmps) = true then Oper.wp P o a w K Q else E := by
  have hw : Region.wanted o (yielded ops a.tmps) = true := by simp [Region.wanted, hgd]
  rw [if_pos hw]
  obtain ⟨ao, cap0, e1, hlc, hcm, hnone, hc⟩ := hu
  cases e1
  obtain ⟨v', w', hr, h2, h3, h4⟩ := run_append_own (P := P) w B t o.type e i z 1 bytes ht hi hz hsize hby hzs (by decide) _ xs.length (xs.map (Value.int J)) hown ad ys.length c (ys.map (Value.int J)) (by simp) (Sl.news hc) (ints_oneCell J ys) h63 hb hbase
  obtain ⟨r', cap', rfl, hrr⟩ := run_blkT w B t o.type e i z 1 bytes ht hi hz hsize hby r xs.length cap (xs.map (Value.int J)) hown ad ys.length c (ys.map (Value.int J)) (by simp) (Sl.news hc) (ints_oneCell J ys) h63 hb hr
  have hk := h r' cap' w' (by unfold Own; rw [List.length_append, List.map_append]; exact h2) h3 hrr
  unfold Oper.wp
  simp [execOp, ho, resolve, invoke, builtin, hs, hx, hr, Result.andThen]
  exact hk

/-- append within such a region onto whatever row of the call's own: the new row lies where the old one did, or in a new block. -/
theorem step_appU {P : Program} {ops : Array Oper} {o : Oper} {a : Act} {w : World} {K : Act → World → Prop} {Q : Exit → Act → World → Prop} {E : Prop}
    (hgd : o.guard = none) (s x : Operand) (t : TypeId) (ho : o.op = Op.call { callee := Callee.builtin Builtin.append, args := #[s, x], argTypes := #[t, t] }) (B : Nat) (e : TypeId) (i : TypeInfo)
    (z : Value) (bytes : Nat) (ht : P.underlying t = some (TypeDesc.slice e)) (hi : P.info? e = some i) (hz : i.zero = some z) (hsize : i.size = 1) (hby : i.bytes = bytes)
    (hzs : z.cells.size = 1) (J : IntKind) (v : Value) (xs : List Int) (ad : Addr) (c : Nat) (ys : List Int) (hs : a.eval s = v) (hx : a.eval x = .slice (some ad) ys.length c) (hown : Own B e J w v xs) (hu : Sl J w (.slice (some ad) ys.length c) ys)
    (hb : (xs.length + ys.length) * bytes ≤ 140737488355328) (h63 : xs.length + ys.length ≤ maxLen) (hbase : B ≤ w.heap.size)
    (h : ∀ (v' : Value) (w' : World), Own B e J w' v' (xs ++ ys) → w.grownBy w' v.ownBlock → (∀ r, v'.ownBlock = some r → v.ownBlock = some r ∨ w.heap.size ≤ r) → K (a.put o.dst v') w') :
    if Region.wanted o (yielded ops a.tmps) = true then Oper.wp P o a w K Q else E := by
  rcases hown.shape with ⟨rfl, rfl⟩ | ⟨g, cap, rfl, hg, hgl, _⟩
  · obtain ⟨ao, cap0, e1, hlc, hcm, hnone, hc⟩ := hu
    cases e1
    refine step_appS (w := w) hgd s x t ho w.heap.size e i z 1 bytes ht hi hz hsize hby hzs (by decide) (.slice none 0 0) 0 [] hs (World.ownsRow_nil _ _ _ _) (.slice (some ad) ys.length c) ys.length (ys.map (Value.int J)) hx ?_ (by simp) (ints_oneCell J ys) (by simpa using h63) (by simpa using hb) (Nat.le_refl _) ?_
    · exact ⟨some ad, ys.length, c, rfl, by simp, hlc, hcm, (fun e => by cases e), fun i hi => by
        obtain ⟨b, off, e2, c2⟩ := hc i (by simpa using hi)
        refine ⟨b, off, e2, ?_⟩
        rw [c2]
        have hi' : i < ys.length := by simpa using hi
        simp [List.getD_eq_getElem?_getD, hi']⟩
    · intro v' w' ho' hg'
      have ho2 : Own w.heap.size e J w' v' ys := by
        unfold Own
        simpa using ho'
      exact h v' w' (by rw [List.nil_append]; exact ho2.base hbase) hg' (fun r hr => .inr (Own.lt ho2 r hr).1)
  · refine step_appT hgd s x t ho B e i z bytes ht hi hz hsize hby hzs J g cap xs ad c ys hs hx hown hu hb h63 hbase ?_
    intro r' cap' w' ho' hg' hrr
    exact h _ w' ho' hg' (fun r hr => by
      have : r' = r := by simpa [Value.ownBlock] using hr
      rcases hrr with hrr | hrr
      · exact .inl (by rw [← this, hrr]; rfl)
      · exact .inr (by omega))
end Go.Proofs.YtogdbjafibejdaaGreat

/- The program's hang in an arena of its own. No condition. -/
namespace Go.Proofs.YtogdbjafibejdaaGreat
open Go.RowKit
set_option maxRecDepth 100000
set_option linter.unusedVariables false

/-- The Kids of node p grow, in their block or in a new one, and are put in. -/
theorem OwnQ.more {B : Nat} {w x : World} {g n cap : Nat} {qs : List (PNode × (Value × Value))} (h : OwnQ B w (.slice (some ⟨g, 0, none⟩) n cap) qs) (hA : Apart qs) {p : Nat} (hp : p < qs.length) (hg : w.grownBy x qs[p].2.2.ownBlock) {u : Value} {ks : List Int} (hu : Own B 3 .i64 x u ks) :
    OwnQ B (x.setCell ⟨g, p * 6 + 5, none⟩ u) (.slice (some ⟨g, 0, none⟩) n cap) (qs.set p (kidQ qs[p] ks u)) := by
  have hn := h.len
  subst hn
  have hty : ∀ r, qs[p].2.2.ownBlock = some r → ∃ cs fr, w.heap[r]? = some (.cells cs 3 fr) := fun r hr => by
    rcases (h.2 qs[p] (List.getElem_mem hp)).2.2 with ⟨e, _⟩ | ⟨g', cap', cur, e, _, hh, _⟩
    · rw [e] at hr; cases hr
    · rw [e] at hr; cases hr; exact ⟨_, _, hh⟩
  have hrow := kept_of_type h.1 hg (fun r e => by obtain ⟨cs, fr, hh⟩ := hty r e; exact ⟨cs, _, fr, hh, by decide⟩)
  have hst := World.ownsRow.stored hrow (p * 6 + 5) u
  rw [← nodeCells_set qs p hp (kidQ qs[p] ks u) 5 (by omega) u (by simp [kidQ, nodeRow])] at hst
  have hatt : ∀ q ∈ qs, x.ownsRow B 115 2 q.2.1 q.1.attrs.length (pairCells q.1.attrs) := fun q hq => kept_of_type (h.2 q hq).1 hg (fun r e => by obtain ⟨cs, fr, hh⟩ := hty r e; exact ⟨cs, _, fr, hh, by decide⟩)
  refine ⟨by rw [List.length_set]; exact hst.1, fun q hq => ?_⟩
  obtain ⟨j, hj, rfl⟩ := List.getElem_of_mem hq
  rw [List.length_set] at hj
  by_cases e : p = j
  · subst e
    rw [List.getElem_set_self]
    exact lists_kept (q := kidQ qs[p] ks u) hrow hst.2 ⟨hatt qs[p] (List.getElem_mem hp), hu⟩
  · rw [List.getElem_set_ne e]
    refine lists_kept hrow hst.2 ⟨hatt _ (List.getElem_mem hj), World.ownsRow.kept (h.2 qs[j] (List.getElem_mem hj)).2 hg ?_⟩
    cases hob : qs[j].2.2.ownBlock with
    | none => exact .inl rfl
    | some r => exact .inr (fun e2 => e (hA p j hp hj r e2.symm hob))

theorem OwnQ.rowCells {B : Nat} {w : World} {g n cap : Nat} {qs : List (PNode × (Value × Value))} (h : OwnQ B w (.slice (some ⟨g, 0, none⟩) n cap) qs) : ∃ cur, w.heap[g]? = some (.cells cur 36 (0, 0)) := by
  have hn := h.len
  subst hn
  rcases h.1.2 with ⟨e1, _⟩ | ⟨g', cap', cur, e1, _, hh', _⟩
  · cases e1
  · cases e1; exact ⟨_, hh'⟩
theorem take_kids {ns : List PNode} {c m : Nat} (h : ∀ n ∈ ns, n.kids.length ≤ m) : ∀ n ∈ takeN ns c, n.kids.length ≤ m := by
  have key : ∀ (l : List PNode) (k : Nat) (f : PNode → PNode), (∀ n, (f n).kids.length ≤ n.kids.length) → (∀ n ∈ l, n.kids.length ≤ m) → ∀ n ∈ l.modify k f, n.kids.length ≤ m := by
    intro l k f hf hl n hn
    obtain ⟨i, hi, rfl⟩ := List.getElem_of_mem hn
    rw [List.length_modify] at hi
    rw [List.getElem_modify]
    split
    · exact Nat.le_trans (hf _) (hl _ (List.getElem_mem hi))
    · exact hl _ (List.getElem_mem hi)
  unfold takeN cutN
  refine key _ _ _ (fun n => Nat.le_refl _) ?_
  split
  · exact h
  · exact key _ _ _ (fun n => lessL_len _ _) h
theorem hang_eq {qs qs2 : List (PNode × (Value × Value))} {c p : Nat} (hp : p < qs2.length) (h : qs2.map (fun q => q.1) = (takeN (qs.map (fun q => q.1)) c).modify c (fun n => setPar n (p : Int))) :
    ((takeN (qs.map (fun q => q.1)) c).modify c (fun n => setPar n (p : Int))).modify p (fun n => setKids n (qs2[p].1.kids ++ [(c : Int)])) = hangN (qs.map (fun q => q.1)) c p := by
  rw [← h]
  unfold hangN
  rw [← h]
  apply List.ext_getElem
  · simp
  · intro i h1 h2
    rw [List.getElem_modify, List.getElem_modify]
    by_cases e : p = i
    · subst e; simp
    · simp [e]

/-- Behind the new Kids of node p, one more. -/
def MoreW (B g p : Nat) (v : Value) (qs : List (PNode × (Value × Value))) (ks : List Int) (W : World) (wx : World) : Prop :=
  ∃ qs', qs'.map (fun q => q.1) = (qs.map (fun q => q.1)).modify p (fun n => setKids n ks) ∧ OwnQ B wx v qs' ∧ Apart qs' ∧ TurnQ g qs W wx
theorem moreW_mk {B g n cap p : Nat} {W W1 x : World} {qs : List (PNode × (Value × Value))} (h : OwnQ B W (.slice (some ⟨g, 0, none⟩) n cap) qs) (hA : Apart qs) (hp : p < qs.length) (b1 : Below W.heap.size W W1) (hg : W1.grownBy x qs[p].2.2.ownBlock) {u : Value} {ks : List Int} (hu : Own B 3 .i64 x u ks)
    (hr : ∀ r, u.ownBlock = some r → qs[p].2.2.ownBlock = some r ∨ W1.heap.size ≤ r) : MoreW B g p (.slice (some ⟨g, 0, none⟩) n cap) qs ks W (x.setCell ⟨g, p * 6 + 5, none⟩ u) := by
  refine ⟨qs.set p (kidQ qs[p] ks u), ?_, (h.below b1).more hA hp hg hu, apart_kid hA hp (fun r e => ?_), ?_⟩
  · exact map_modify hp rfl
  · rcases hr r e with h1 | h1
    · exact .inl h1
    · refine .inr (fun q hq e2 => ?_)
      have := (Own.lt (h.2 q hq).2 r e2).2
      have := b1.size
      omega
  · have hs : x.grownBy (x.setCell ⟨g, p * 6 + 5, none⟩ u) (some g) := grown_setCell _ _ _ _
    refine ⟨hs.os.trans (hg.os.trans b1.os), hs.tape.trans (hg.tape.trans b1.tape), hs.output.trans (hg.output.trans b1.output), Nat.le_trans b1.size (Nat.le_trans hg.size hs.size), fun j hj hjg hq => ?_⟩
    have l1 := Nat.lt_of_lt_of_le hj b1.size
    rw [hs.block j (Nat.lt_of_lt_of_le l1 hg.size) (fun e => by injection e with e; exact hjg e), hg.block j l1 (fun e => hq qs[p] (List.getElem_mem hp) e.symm), b1.block j hj]

set_option maxHeartbeats 16000000 in
set_option maxRecDepth 100000 in
theorem ihang_any {B a g cap : Nat} {w : World} {qs : List (PNode × (Value × Value))} (ha : w.heap[a]? = some (.cells #[.slice (some ⟨g, 0, none⟩) qs.length cap] 77 (0, 0))) (hO : OwnQ B w (.slice (some ⟨g, 0, none⟩) qs.length cap) qs) (hA : Apart qs) (hB : B ≤ w.heap.size) (hlen : qs.length ≤ 100000) {c : Nat} (hc : c < qs.length) (hc0 : c ≠ 0)
    (hp : qs[c].1.parent = -1 ∨ ∃ p : Nat, qs[c].1.parent = p ∧ p < qs.length) (hkl : ∀ q ∈ qs, q.1.kids.length ≤ 1048576) {p : Nat} (hpl : p < qs.length) :
    Calls Tryz.prog 50 #[.pointer (some ⟨a, 0, none⟩), .int .i64 c, .int .i64 p] w fun e w' => e = .returned (.bool true) ∧ (∃ qs', qs'.map (fun q => q.1) = hangN (qs.map (fun q => q.1)) c p ∧ OwnQ B w' (.slice (some ⟨g, 0, none⟩) qs.length cap) qs' ∧ Apart qs') ∧ TurnQ g qs w w' := by
  obtain ⟨ii, hii, hzi0, hzi1, hzi2⟩ := info_parts Tryz.infoIntRow
  have hag : a ≠ g := fun e => by
    subst e
    rcases hO.1.2 with ⟨e1, _⟩ | ⟨g', cap', cur, e1, hB', hh, _⟩
    · cases e1
    · cases e1; rw [ha] at hh; cases hh
  have hgB : B ≤ g := (World.ownsRow.lt hO.1 g rfl).1
  have CT := (show Hid _ from itake_any ha hO hA hB hlen hc hc0 hp hkl)
  have HKL := (show Hid (∀ q ∈ qs, q.1.kids.length ≤ 1048576) from hkl)
  have hal := lt_of_block ha
  have HAA := (show Hid _ from ha)
  have HO := (show Hid (OwnQ B w (.slice (some ⟨g, 0, none⟩) qs.length cap) qs) from hO)
  clear ha hO hA hp hkl
  go_enter Tryz.func50, Tryz.ntmps50
  go_wp2_with fail
  go_at_call 65
  refine Calls.mono CT.out ?_
  rintro e w1 ⟨rfl, ⟨qs1, hm1, o1, a1, hq1⟩, g1⟩
  clear CT
  have ha1 : w1.heap[a]? = some (.cells #[.slice (some ⟨g, 0, none⟩) qs.length cap] 77 (0, 0)) := (g1.block a hal (fun e => by injection e with e; exact hag e)).trans HAA.out
  obtain ⟨cA1, _⟩ := one_cell ha1
  have hl1 : qs1.length = qs.length := by have := congrArg List.length hm1; simpa [takeN_len] using this
  have hc1 : c < qs1.length := by omega
  have hp1 : p < qs1.length := by omega
  have o2 := o1.par hc1 (p : Int)
  have a2 := apart_par a1 hc1 (p : Int)
  have hm2 := map_set_par qs1 hc1 (p : Int)
  have c4 : w1.cell? ⟨g, c * 6 + 4, none⟩ = some (.int .i64 qs1[c].1.parent) := o1.cellAt (j := 4) hc1 (by omega)
  have f4 := o1.frozenAt (c * 6 + 4)
  have hci : (c : Int) < (qs.length : Int) := by omega
  have hpi : (p : Int) < (qs.length : Int) := by omega
  have hkl1 : qs1[p].1.kids.length ≤ 1048576 := by
    have hmem : qs1[p].1 ∈ takeN (qs.map (fun q => q.1)) c := by rw [← hm1]; exact List.mem_map.mpr ⟨qs1[p], List.getElem_mem hp1, rfl⟩
    exact take_kids (fun n hn => by obtain ⟨q, hq, rfl⟩ := List.mem_map.mp hn; exact HKL.out q hq) _ hmem
  obtain ⟨qs2, hqs2⟩ : ∃ z, z = qs1.set c (parQ qs1[c] (p : Int)) := ⟨_, rfl⟩
  rw [← hqs2] at o2 a2 hm2
  have hl2 : qs2.length = qs.length := by rw [hqs2, List.length_set]; exact hl1
  have hp2 : p < qs2.length := by omega
  have hk2 : qs2[p].1.kids = qs1[p].1.kids ∧ qs2[p].2.2 = qs1[p].2.2 := by
    have : qs2[p] = if c = p then parQ qs1[c] (p : Int) else qs1[p] := by
      simp only [hqs2, List.getElem_set]
    rw [this]
    split
    · rename_i e; subst e; exact ⟨rfl, rfl⟩
    · exact ⟨rfl, rfl⟩
  rw [← hk2.1] at hkl1
  obtain ⟨W2, hW2⟩ : ∃ z, z = w1.setCell ⟨g, c * 6 + 4, none⟩ (.int .i64 (p : Int)) := ⟨_, rfl⟩
  have gr2 : w1.grownBy W2 (some g) := by rw [hW2]; exact grown_setCell _ _ _ _
  rw [← hW2] at o2
  have TQ := (show Hid (TurnQ g qs w W2) from TurnQ.of_row (grown_trans g1 gr2))
  have HQ2 := (show Hid (∀ q ∈ qs2, ∀ r, q.2.2.ownBlock = some r → (∃ q ∈ qs, q.2.2.ownBlock = some r) ∨ w.heap.size ≤ r) from fun q hq r e => by
    rw [hqs2] at hq
    rcases List.mem_or_eq_of_mem_set hq with hq | rfl
    · exact hq1 q hq r e
    · exact hq1 qs1[c] (List.getElem_mem hc1) r e)
  have HM2 := (show Hid (qs2.map (fun q => q.1) = (takeN (qs.map (fun q => q.1)) c).modify c (fun n => setPar n (p : Int))) from (show _ = _ by rw [hm2, hm1]))
  have ha2 : W2.heap[a]? = some (.cells #[.slice (some ⟨g, 0, none⟩) qs.length cap] 77 (0, 0)) := (gr2.block a (lt_of_block ha1) (fun e => by injection e with e; exact hag e)).trans ha1
  obtain ⟨cA2, _⟩ := one_cell ha2
  have hown := (o2.2 qs2[p] (List.getElem_mem hp2)).2
  have c5 : W2.cell? ⟨g, p * 6 + 5, none⟩ = some qs2[p].2.2 := o2.cellAt (j := 5) hp2 (by omega)
  obtain ⟨k1, k2, k3, hk⟩ := own_slice hown
  have O2 := (show Hid (OwnQ B W2 (.slice (some ⟨g, 0, none⟩) qs.length cap) qs2) from o2)
  have A2 := (show Hid (Apart qs2) from a2)
  have bd : Below W2.heap.size W2 (W2.alloc (.cells #[.int .i64 (c : Int)] 3)).drew := ((Below.refl _ W2).alloc (Nat.le_refl _) _).trans (below_drewN 1)
  have BD := (show Hid (Below W2.heap.size W2 (W2.alloc (.cells #[.int .i64 (c : Int)] 3)).drew) from bd)
  have OD := (show Hid (Own B 3 .i64 (W2.alloc (.cells #[.int .i64 (c : Int)] 3)).drew (.slice k1 k2 k3) qs2[p].1.kids) from by rw [← hk]; exact hown.below bd)
  have SD := (show Hid (Sl .i64 (W2.alloc (.cells #[.int .i64 (c : Int)] 3)).drew (.slice (some ⟨W2.heap.size, 0, none⟩) 1 1) [(c : Int)]) from (sl_one 3 .i64 W2 (c : Int)).below (below_drewN 1))
  rw [hk] at c5
  have HKE := (show Hid (qs2[p].2.2 = .slice k1 k2 k3) from hk)
  have hgl2 : g < W2.heap.size := (World.ownsRow.lt o2.1 g rfl).2
  have hal2 := lt_of_block ha2
  have hBW : B ≤ W2.heap.size := Nat.le_trans hB (Nat.le_trans g1.size gr2.size)
  have cAa : ∀ X, (W2.alloc X).cell? ⟨a, 0, none⟩ = some (.slice (some ⟨g, 0, none⟩) qs.length cap) := fun X => (((Below.refl _ W2).alloc (Nat.le_refl _) X).cell (p := ⟨a, 0, none⟩) hal2).trans cA2
  have c5a : ∀ X, (W2.alloc X).cell? ⟨g, p * 6 + 5, none⟩ = some (.slice k1 k2 k3) := fun X => (((Below.refl _ W2).alloc (Nat.le_refl _) X).cell (p := ⟨g, p * 6 + 5, none⟩) hgl2).trans c5
  obtain ⟨ks, hks⟩ : ∃ z, z = qs2[p].1.kids := ⟨_, rfl⟩
  rw [← hks] at OD hkl1
  have HKS := (show Hid (ks = qs2[p].1.kids) from hks)
  clear o2 hm1 hm2 a1 a2 hq1 g1 gr2 hown hk hks bd hqs2 hk2 o1
  go_wp2_with (go_at_call 74; refine Calls.mono (ihas_any cA1 (p : Int)) ?_; rintro e wx ⟨rfl, hx⟩; rw [hx, decide_eq_true ⟨by omega, by omega⟩]; clear hx wx)
  rw [← hW2]
  clear hW2 c4 f4 cA1 ha1
  go_cut [] from 7 (fun wx => MoreW B g p (.slice (some ⟨g, 0, none⟩) qs.length cap) qs2 (ks ++ [(c : Int)]) W2 wx)
  case first =>
    go_region_law (first
      | (with_reducible refine step_appU (w := (W2.alloc (Obj.cells #[.int .i64 (c : Int)] 3)).drew) ?_ (.tmp 37) (.tmp 39) 34 ?_ B 3 ii (.int .i64 0) 8 ?_ hii hzi0 hzi1 hzi2 ?_ .i64 (.slice k1 k2 k3) ks ⟨W2.heap.size, 0, none⟩ 1 [(c : Int)] ?_ ?_ ?_ ?_ ?_ ?_ ?_ ?_
         · rfl
         · rfl
         · exact Tryz.underlying34
         · rfl
         · simp [Act.eval]
         · simp [Act.eval]
         · exact OD.out
         · exact SD.out
         · (simp; omega)
         · (unfold maxLen; simp; omega)
         · exact Nat.le_trans hBW BD.out.size
         intro v9 w9 o9 g9 r9
         obtain ⟨u2, u3, u4, rfl⟩ := own_slice o9
         have M9 := (show Hid (MoreW B g p (.slice (some ⟨g, 0, none⟩) qs.length cap) qs2 (ks ++ [(c : Int)]) W2 (w9.setCell ⟨g, p * 6 + 5, none⟩ (.slice u2 u3 u4))) from moreW_mk O2.out A2.out hp2 BD.out (by rw [HKE.out]; exact g9) o9 (by rw [HKE.out]; exact r9))
         have t9 : w9.heap[g]? = (W2.alloc (Obj.cells #[.int .i64 (c : Int)] 3)).drew.heap[g]? ∧ w9.heap[a]? = (W2.alloc (Obj.cells #[.int .i64 (c : Int)] 3)).drew.heap[a]? := by
           have key : ∀ j, j < W2.heap.size → (∃ cs t fr, W2.heap[j]? = some (.cells cs t fr) ∧ t ≠ 3) → w9.heap[j]? = (W2.alloc (Obj.cells #[.int .i64 (c : Int)] 3)).drew.heap[j]? := fun j hj ⟨cs, t, fr, hh, ht⟩ => g9.block j (Nat.lt_of_lt_of_le hj BD.out.size) (fun e => by
             have ho := (O2.out.2 qs2[p] (List.getElem_mem hp2)).2
             rw [HKE.out] at ho
             rcases ho.2 with ⟨e1, _⟩ | ⟨g', cap', cur, e1, _, hh', _⟩
             · rw [e1] at e; cases e
             · rw [e1] at e
               simp only [Value.ownBlock, Option.some.injEq] at e
               subst e
               rw [hh] at hh'
               cases hh'
               exact ht rfl)
           obtain ⟨cur, hcur⟩ := OwnQ.rowCells O2.out
           exact ⟨key g hgl2 ⟨_, _, _, hcur, by decide⟩, key a hal2 ⟨_, _, _, ha2, by decide⟩⟩
         have l5 : w9.cell? ⟨g, p * 6 + 5, none⟩ = some (.slice k1 k2 k3) := by
           rw [← (BD.out.cell (p := ⟨g, p * 6 + 5, none⟩) hgl2).trans c5]; simp only [World.cell?, t9.1]
         have lA : w9.cell? ⟨a, 0, none⟩ = some (.slice (some ⟨g, 0, none⟩) qs.length cap) := by
           rw [← (BD.out.cell (p := ⟨a, 0, none⟩) hal2).trans cA2]; simp only [World.cell?, t9.2]
         have f5 : w9.frozen? ⟨g, p * 6 + 5, none⟩ = false := by
           have := OwnQ.frozenAt (O2.out.below BD.out) (p * 6 + 5)
           rw [← this]; simp only [World.frozen?, t9.1]
         clear o9 g9 r9 t9))
    all_goals
      go_wp2_with fail
      go_meet
      with_reducible exact M9.out
  case rest =>
    obtain ⟨qs3, h1, h2, h3, h4⟩ := hcut
    have HE := (show Hid (_ ∧ _) from ⟨(⟨qs3, by rw [h1, HM2.out, HKS.out]; exact hang_eq hp2 HM2.out, h2, h3⟩ : ∃ qs', qs'.map (fun q => q.1) = hangN (qs.map (fun q => q.1)) c p ∧ OwnQ B wc (.slice (some ⟨g, 0, none⟩) qs.length cap) qs' ∧ Apart qs'), TQ.out.trans h4 HQ2.out⟩)
    clear h1 h2 h3 h4
    go_wp2
    go_ret
    exact ⟨rfl, HE.out.1, HE.out.2⟩
end Go.Proofs.YtogdbjafibejdaaGreat

/- The program's change with the step of TreeAdd, and TreeAdd of a tree that is right. No condition. -/
namespace Go.Proofs.YtogdbjafibejdaaGreat
open Go.RowKit
set_option maxRecDepth 100000
set_option linter.unusedVariables false

theorem AddFrK.from {B a K : Nat} {w w3 w4 : World} (b : Below w.heap.size w w3) (f : AddFrK B a K w3 w4) : AddFrK B a K w w4 :=
  ⟨f.os.trans b.os, f.tape.trans b.tape, f.output.trans b.output, Nat.le_trans b.size f.size, fun j hj h1 h2 h3 => (f.block j (Nat.lt_of_lt_of_le hj b.size) h1 h2 (by rcases h3 with h3 | ⟨cs, t, fr, h4, h5⟩; exact .inl h3; exact .inr ⟨cs, t, fr, (b.block j hj).trans h4, h5⟩)).trans (b.block j hj)⟩
theorem AddFrK.andThen {B a K : Nat} {w w4 w5 : World} (f : AddFrK B a K w w4) {row : Option Nat} (g : w4.grownBy w5 row) (hrow : ∀ r, row = some r → w.heap.size ≤ r ∨ r = a ∨ r = K) : AddFrK B a K w w5 :=
  ⟨g.os.trans f.os, g.tape.trans f.tape, g.output.trans f.output, Nat.le_trans f.size g.size, fun j hj h1 h2 h3 => (g.block j (Nat.lt_of_lt_of_le hj f.size) (fun e => by have := hrow j e.symm; omega)).trans (f.block j hj h1 h2 h3)⟩
theorem below_none {w w' : World} (h : Below w.heap.size w w') : w.grownBy w' none := ⟨h.os, h.tape, h.output, h.size, fun j hj _ => h.block j hj⟩

set_option maxHeartbeats 2000000 in
set_option maxRecDepth 100000 in
theorem ichange_any {B a A N K : Nat} {w : World} {v : Value} {qs : List (PNode × (Value × Value))} (ha : w.heap[a]? = some (.cells #[v] 77 (0, 0))) (hO : OwnQ B w v qs) (hB : B ≤ w.heap.size) (h0 : 0 < qs.length) (hlen : qs.length ≤ 100000) {k p : Int} {nm tx : ByteArray}
    {av1 : Option Addr} {av2 av3 : Nat} {kv1 : Option Addr} {kv2 kv3 : Nat} {rs : List (ByteArray × ByteArray)} (hav : Sv 2 w (.slice av1 av2 av3) (pairCells rs)) (hrs : rs.length ≤ 1048576)
    (hA : w.heap[A]? = some (.cells #[.pointer (some ⟨a, 0, none⟩)] 64 (0, 0))) (hN : w.heap[N]? = some (.cells #[.int .i64 k, .string nm, .slice av1 av2 av3, .string tx, .int .i64 p, .slice kv1 kv2 kv3] 36 (0, 0)))
    {x : Int} (hK : w.heap[K]? = some (.cells #[.int .i64 x] 3 (0, 0))) (hKa : K ≠ a) (hne : ∀ q ∈ qs, q.2.2.ownBlock ≠ some K)
    (hfit : ∀ n ∈ qs.map (fun q => q.1), NodeFit n) (hfn : NodeFit ⟨k, nm, rs, tx, -1, []⟩) :
    Calls Tryz.prog 48 #[.pointer (some ⟨a, 0, none⟩), .func (.func 78) #[] #[.pointer (some ⟨A, 0, none⟩), .pointer (some ⟨N, 0, none⟩), .pointer (some ⟨K, 0, none⟩)]] w fun e w' =>
      ∃ r : Bool, e = .returned (.bool r) ∧ (r = true ↔ TreeOkP (qs.map (fun q => q.1) ++ [⟨k, nm, rs, tx, -1, []⟩])) ∧ (∃ g n c, w'.heap[a]? = some (.cells #[.slice (some ⟨g, 0, none⟩) n c] 77 (0, 0)) ∧ (r = true → ∃ av', OwnQ B w' (.slice (some ⟨g, 0, none⟩) n c) (qs ++ [(⟨k, nm, rs, tx, -1, []⟩, (av', .slice none 0 0))]))) ∧ w'.heap[K]? = some (.cells #[.int .i64 qs.length] 3 (0, 0)) ∧ AddFrK B a K w w' := by
  have hmf : ∀ (fn : Fn) (first cap : Array Value) (w : World), (Instr.makeFunc fn first cap).run Tryz.prog w = .ok (.func fn first cap) w := fun _ _ _ _ => rfl
  have HA := (show Hid _ from ha)
  have HO := (show Hid (OwnQ B w v qs) from hO)
  have HAV := (show Hid (Sv 2 w (.slice av1 av2 av3) (pairCells rs)) from hav)
  have HBA := (show Hid _ from hA)
  have HN := (show Hid _ from hN)
  have HK := (show Hid _ from hK)
  have HNE := (show Hid _ from hne)
  have HFIT := (show Hid _ from hfit)
  have HFN := (show Hid (NodeFit ⟨k, nm, rs, tx, -1, []⟩) from hfn)
  have hal := lt_of_block ha
  have hKl := lt_of_block hK
  obtain ⟨gv, cv, rfl, hgv, hgl⟩ := hO.form h0
  clear ha hO hav hA hN hK hne hfit hfn
  obtain ⟨w1, hw1⟩ : ∃ x, x = (w.alloc (.cells #[.pointer (some ⟨a, 0, none⟩)] 64)).alloc (.cells #[.bool false] 4) := ⟨_, rfl⟩
  have b1 : Below w.heap.size w w1 := by rw [hw1]; exact ((Below.refl _ w).alloc (Nat.le_refl _) _).alloc (by simp) _
  have hs1 : w1.heap.size = w.heap.size + 1 + 1 := by rw [hw1, World.size_alloc, World.size_alloc]
  have gP : w1.heap[w.heap.size]? = some (.cells #[.pointer (some ⟨a, 0, none⟩)] 64 (0, 0)) := by rw [hw1, Below.heap_alloc _ _ _ (by simp)]; exact World.alloc_heap_new _ _
  have gD : w1.heap[w.heap.size + 1]? = some (.cells #[.bool false] 4 (0, 0)) := by
    rw [hw1]
    have := World.alloc_heap_new (w.alloc (.cells #[.pointer (some ⟨a, 0, none⟩)] 64)) (.cells #[.bool false] 4)
    rwa [World.size_alloc] at this
  obtain ⟨ca, _⟩ := one_cell ((b1.block a hal).trans HA.out)
  obtain ⟨ca0, _⟩ := one_cell HA.out
  have GP := (show Hid _ from gP)
  have GD := (show Hid _ from gD)
  have HS1 := (show Hid _ from hs1)
  clear gP gD hs1
  go_enter_defers Tryz.func48, Tryz.ntmps48
  go_wp2_with fail
  go_at_call 103
  rw [← hw1]
  refine Calls.mono (icopy_any (ns := qs.map (fun q => q.1)) (w := w1) (v := .slice (some ⟨gv, 0, none⟩) qs.length cv) ((HO.out.n.nodes).below b1) HFIT.out (by rw [List.length_map]; omega)) ?_
  rintro e w2 ⟨vb, rfl, ob, b2⟩
  clear hw1
  have hform := ob.form (by rw [List.length_map]; exact h0)
  rw [List.length_map] at hform
  obtain ⟨gb, cb, rfl, _, _⟩ := hform
  clear ob
  have hb2 := b1.trans (b2.mono b1.size)
  obtain ⟨w3, hw3⟩ : ∃ x, x = w2.alloc (.cells #[.slice (some ⟨gb, 0, none⟩) qs.length cb] 24) := ⟨_, rfl⟩
  have b23 : Below w2.heap.size w2 w3 := by rw [hw3]; exact (Below.refl _ _).alloc (Nat.le_refl _) _
  have b3 : Below w.heap.size w w3 := hb2.trans (b23.mono hb2.size)
  have b13 : Below w1.heap.size w1 w3 := b2.trans (b23.mono b2.size)
  have hsz1 := HS1.out
  have gP3 := (b13.block w.heap.size (by omega)).trans GP.out
  have gD3 := (b13.block (w.heap.size + 1) (by omega)).trans GD.out
  have gE3 : w3.heap[w2.heap.size]? = some (.cells #[.slice (some ⟨gb, 0, none⟩) qs.length cb] 24 (0, 0)) := by rw [hw3]; exact World.alloc_heap_new _ _
  have hE : w.heap.size + 1 + 1 ≤ w2.heap.size := by have := b2.size; omega
  have CC := (show Hid _ from iaddStep_any (B := B) (a := a) (A := A) (N := N) (K := K) (w := w3) (k := k) (p := p) (nm := nm) (tx := tx) (kv1 := kv1) (kv2 := kv2) (kv3 := kv3) (rs := rs) ((b3.block a hal).trans HA.out) (HO.out.below b3) (Nat.le_trans hB b3.size) h0 hlen (HAV.out.below b3) hrs ((b3.block A (lt_of_block HBA.out)).trans HBA.out) ((b3.block N (lt_of_block HN.out)).trans HN.out) ((b3.block K hKl).trans HK.out) hKa HNE.out)
  have GP3 := (show Hid _ from gP3)
  have GD3 := (show Hid _ from gD3)
  have GE3 := (show Hid _ from gE3)
  have HE := (show Hid (w.heap.size + 1 + 1 ≤ w2.heap.size) from hE)
  have B3 := (show Hid (Below w.heap.size w w3) from b3)
  clear gP3 gD3 gE3 hE b3 b13 b23 b2 hb2 b1 hsz1 GP GD HS1 ca ca0
  go_wp2_with fail
  go_at_call 78
  rw [← hw3]
  refine Calls.mono CC.out ?_
  rintro e w4 ⟨rfl, ⟨v4, ha4, av4, o4⟩, hk4, fr4⟩
  clear hw3 CC
  have gP4 := fr4.box GP3.out (by decide) (by omega) (by omega)
  have gD4 := fr4.box GD3.out (by decide) (by omega) (by omega)
  have gE4 := fr4.box GE3.out (by decide) (by have := HE.out; omega) (by have := HE.out; omega)
  obtain ⟨cP4, _⟩ := one_cell gP4
  have hform := o4.form (by simp)
  rw [List.length_append, List.length_singleton] at hform
  obtain ⟨g4, c4, rfl, hg4, hgl4⟩ := hform
  have F4 := (show Hid (AddFrK B a K w w4) from AddFrK.from B3.out fr4)
  have O4 := (show Hid (OwnQ B w4 (.slice (some ⟨g4, 0, none⟩) (qs.length + 1) c4) (qs ++ [(⟨k, nm, rs, tx, -1, []⟩, (av4, .slice none 0 0))])) from o4)
  have GP4 := (show Hid _ from gP4)
  have GD4 := (show Hid _ from gD4)
  have GE4 := (show Hid _ from gE4)
  have HA4 := (show Hid _ from ha4)
  have HK4 := (show Hid _ from hk4)
  clear gP4 gD4 gE4 o4 ha4 hk4 fr4 GP3 GD3 GE3 B3
  go_wp2_with fail
  go_at_call 51
  refine Calls.mono (itree_any HA4.out) ?_
  rintro e w5 ⟨rfl, b5⟩
  have B5 := (show Hid (Below w4.heap.size w4 w5) from b5)
  have HNL : Hid ((qs ++ [((⟨k, nm, rs, tx, -1, []⟩ : PNode), (av4, Value.slice none 0 0))]).map (fun q => q.1) = qs.map (fun q => q.1) ++ [⟨k, nm, rs, tx, -1, []⟩]) := (by simp : (qs ++ [((⟨k, nm, rs, tx, -1, []⟩ : PNode), (av4, Value.slice none 0 0))]).map (fun q => q.1) = qs.map (fun q => q.1) ++ [⟨k, nm, rs, tx, -1, []⟩])
  have CT := (show Hid _ from itreeOk_any (w := w5) (v := .slice (some ⟨g4, 0, none⟩) (qs.length + 1) c4) (ns := qs.map (fun q => q.1) ++ [⟨k, nm, rs, tx, -1, []⟩]) (by rw [← HNL.out]; exact (OwnQ.below O4.out b5).n.nodes) (by
    intro n hn
    rcases List.mem_append.mp hn with hn | hn
    · exact HFIT.out n hn
    · simp only [List.mem_cons, List.not_mem_nil, or_false] at hn
      subst hn
      exact HFN.out) (by simp; omega))
  clear b5
  go_wp2_with fail
  go_at_call 15
  refine Calls.mono CT.out ?_
  rintro e w6 ⟨r, rfl, hr, b6⟩
  clear CT
  have b46 : Below w4.heap.size w4 w6 := B5.out.trans (b6.mono B5.out.size)
  have gD6 := (b46.block _ (lt_of_block GD4.out)).trans GD4.out
  obtain ⟨cD6, zD6⟩ := one_cell gD6
  have HR := (show Hid _ from hr)
  have B46 := (show Hid (Below w4.heap.size w4 w6) from b46)
  have GD6 := (show Hid _ from gD6)
  clear hr b6 b46 gD6 B5 cP4
  have g67 : w6.grownBy (w6.setCell ⟨w.heap.size + 1, 0, none⟩ (.bool r)) (some (w.heap.size + 1)) := grown_setCell _ _ _ _
  have b6s := B46.out.size
  have f4s := F4.out.size
  have hDl := lt_of_block GD4.out
  have hEl := lt_of_block GE4.out
  have hE2 := HE.out
  have a7 : (w6.setCell ⟨w.heap.size + 1, 0, none⟩ (.bool r)).heap[a]? = some (.cells #[.slice (some ⟨g4, 0, none⟩) (qs.length + 1) c4] 77 (0, 0)) := (Below.heap_setCell _ _ _ a (by show a ≠ w.heap.size + 1; omega)).trans ((B46.out.block a (lt_of_block HA4.out)).trans HA4.out)
  have k7 : (w6.setCell ⟨w.heap.size + 1, 0, none⟩ (.bool r)).heap[K]? = some (.cells #[.int .i64 qs.length] 3 (0, 0)) := (Below.heap_setCell _ _ _ K (by show K ≠ w.heap.size + 1; omega)).trans ((B46.out.block K (lt_of_block HK4.out)).trans HK4.out)
  have e7 : (w6.setCell ⟨w.heap.size + 1, 0, none⟩ (.bool r)).heap[w2.heap.size]? = some (.cells #[.slice (some ⟨gb, 0, none⟩) qs.length cb] 24 (0, 0)) := (Below.heap_setCell _ _ _ _ (by show w2.heap.size ≠ w.heap.size + 1; omega)).trans ((B46.out.block _ hEl).trans GE4.out)
  have p7 : (w6.setCell ⟨w.heap.size + 1, 0, none⟩ (.bool r)).heap[w.heap.size]? = some (.cells #[.pointer (some ⟨a, 0, none⟩)] 64 (0, 0)) := (Below.heap_setCell _ _ _ _ (by show w.heap.size ≠ w.heap.size + 1; omega)).trans ((B46.out.block _ (lt_of_block GP4.out)).trans GP4.out)
  have d7 : (w6.setCell ⟨w.heap.size + 1, 0, none⟩ (.bool r)).heap[w.heap.size + 1]? = some (.cells #[.bool r] 4 (0, 0)) := setCell_at GD6.out
  have o7 : OwnQ B (w6.setCell ⟨w.heap.size + 1, 0, none⟩ (.bool r)) (.slice (some ⟨g4, 0, none⟩) (qs.length + 1) c4) (qs ++ [(⟨k, nm, rs, tx, -1, []⟩, (av4, .slice none 0 0))]) := (OwnQ.below O4.out B46.out).kept g67 (fun q e => by cases e; exact ⟨_, _, _, GD6.out, by decide, by decide, by decide⟩)
  have f7 : AddFrK B a K w (w6.setCell ⟨w.heap.size + 1, 0, none⟩ (.bool r)) := (AddFrK.andThen F4.out (below_none B46.out) (fun q e => by cases e)).andThen g67 (fun q e => by cases e; omega)
  have Z7 := (show Hid (_ ∧ _ ∧ _ ∧ _ ∧ _ ∧ _ ∧ AddFrK B a K w (w6.setCell ⟨w.heap.size + 1, 0, none⟩ (.bool r))) from ⟨a7, k7, e7, p7, d7, o7, f7⟩)
  clear a7 k7 e7 p7 d7 o7 f7 g67
  go_wp2
  refine leaves_cons (f := 104) (args := #[.pointer (some ⟨w.heap.size + 1, 0, none⟩), .pointer (some ⟨w2.heap.size, 0, none⟩), .pointer (some ⟨w.heap.size, 0, none⟩)]) (by simp) (by simp [go_sem]) ?_
  obtain ⟨a7, k7, e7, p7, d7, o7, f7⟩ := Z7.out
  refine (idone_any a7 d7 e7 ⟨_, _, _, rfl⟩ p7 _).mono ?_
  rintro e u' w8 ⟨rfl, rfl, rfl⟩
  cases r
  · have d8 := (Below.heap_setCell (w6.setCell ⟨w.heap.size + 1, 0, none⟩ (.bool false)) ⟨a, 0, none⟩ (.slice (some ⟨gb, 0, none⟩) qs.length cb) (w.heap.size + 1) (by show w.heap.size + 1 ≠ a; omega)).trans d7
    have c8 := (one_cell d8).1
    have k8 := (Below.heap_setCell (w6.setCell ⟨w.heap.size + 1, 0, none⟩ (.bool false)) ⟨a, 0, none⟩ (.slice (some ⟨gb, 0, none⟩) qs.length cb) K (by show K ≠ a; omega)).trans k7
    have a8 : ((w6.setCell ⟨w.heap.size + 1, 0, none⟩ (.bool false)).setCell ⟨a, 0, none⟩ (.slice (some ⟨gb, 0, none⟩) qs.length cb)).heap[a]? = some (.cells #[.slice (some ⟨gb, 0, none⟩) qs.length cb] 77 (0, 0)) := setCell_at a7
    have f8 := f7.andThen (grown_setCell (w6.setCell ⟨w.heap.size + 1, 0, none⟩ (.bool false)) a 0 (.slice (some ⟨gb, 0, none⟩) qs.length cb)) (fun q e => by cases e; omega)
    exact ⟨.bool false, by simp [results, Tryz.results48, go_sem, c8], false, rfl, HR.out, ⟨gb, _, _, a8, (fun h => by cases h)⟩, k8, f8⟩
  · have c8 := (one_cell d7).1
    exact ⟨.bool true, by simp [results, Tryz.results48, go_sem, c8], true, rfl, HR.out, ⟨g4, _, _, a7, (fun _ => ⟨_, o7⟩)⟩, k7, f7⟩
end Go.Proofs.YtogdbjafibejdaaGreat
