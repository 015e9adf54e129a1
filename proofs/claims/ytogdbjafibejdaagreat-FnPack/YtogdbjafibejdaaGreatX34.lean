/- The program's OpenAt, PopTo and PopImplied (written by mk/irow4.py). No condition. -/
import Derived.Test.YtogdbjafibejdaaGreatX32
import Derived.Test.YtogdbjafibejdaaGreatX33
import Derived.Test.YtogdbjafibejdaaGreatX31
import Derived.Test.YtogdbjafibejdaaGreatX28
import Derived.Test.YtogdbjafibejdaaGreatX30
namespace Go.Proofs.YtogdbjafibejdaaGreat
open Go.RowKit
set_option maxRecDepth 100000
set_option linter.unusedVariables false

structure RowAt (w : World) (A : Nat) (v rv : Value) (ns : List PNode) (row : List Int) : Prop where
  nodes : NodesAt w v ns
  fit : ∀ n ∈ ns, NodeFit n
  len : ns.length ≤ 1048576
  a0 : w.cell? ⟨A, 0, none⟩ = some v
  sl : Sl .i64 w rv row
  row : RowP ns row
theorem RowAt.below {w w' : World} {A : Nat} {v rv : Value} {ns : List PNode} {row : List Int} (h : RowAt w A v rv ns row) (hb : Below w.heap.size w w') : RowAt w' A v rv ns row :=
  ⟨h.nodes.below hb, h.fit, h.len, (hb.cell (p := ⟨A, 0, none⟩) (lt_of_cell h.a0)).trans h.a0, h.sl.below hb, h.row⟩
theorem RowAt.el {w : World} {A : Nat} {v rv : Value} {ns : List PNode} {row : List Int} (h : RowAt w A v rv ns row) : ∀ x ∈ row, elB ns x = true := fun x hx => by
  obtain ⟨i, hi, rfl⟩ := List.mem_iff_getElem.mp hx
  exact h.row.el i hi

end Go.Proofs.YtogdbjafibejdaaGreat

/- The draw of a tree: l6DrawTree. No condition. -/
namespace Go.Proofs.YtogdbjafibejdaaGreat
open Go.RowKit
set_option maxRecDepth 100000
set_option linter.unusedVariables false

theorem step_appK {P : Program} {ops : Array Oper} {o : Oper} {a : Act} {w : World} {K : Act → World → Prop} {Q : Exit → Act → World → Prop} {E : Prop}
    (hg : o.guard = none) (s x : Operand) (t : TypeId) (hop : o.op = Op.call { callee := Callee.builtin Builtin.append, args := #[s, x], argTypes := #[t, t] })
    (B : Nat) (e : TypeId) (i : TypeInfo) (z : Value) (bytes : Nat) (h1 : P.underlying t = some (.slice e)) (h2 : P.info? e = some i) (h3 : i.zero = some z) (h4 : i.size = 1) (h5 : i.bytes = bytes) (h6 : z.cells.size = 1)
    (k : IntKind) (v : Value) (xs : List Int) (hs : a.eval s = v) (hown : Own B e k w v xs)
    (ad : Addr) (c : Nat) (ys : List Int) (hx : a.eval x = .slice (some ad) ys.length c) (hu : Sl k w (.slice (some ad) ys.length c) ys)
    (b2 : (xs.length + ys.length) * bytes ≤ 140737488355328) (b1 : xs.length + ys.length ≤ maxLen) (hB : B ≤ w.heap.size)
    (hK : ∀ v' w', Own B e k w' v' (xs ++ ys) → w.grownBy w' v.ownBlock → (∀ (B' : Nat) (u : Value) (us : List Int), Own B' e k w u us → ∃ zs : List Int, zs.length = us.length ∧ Own B' e k w' u zs) → K (a.put o.dst v') w') :
    if Region.wanted o (yielded ops a.tmps) = true then Oper.wp P o a w K Q else E := by
  have hw : Region.wanted o (yielded ops a.tmps) = true := by simp [Region.wanted, hg]
  rw [if_pos hw]
  obtain ⟨ao, cap0, e1, hlc, hcm, hnone, hc⟩ := hu
  cases e1
  obtain ⟨v', w', hr, q2, q3, q4⟩ := run_append_own (P := P) w B t o.type e i z 1 bytes h1 h2 h3 h4 h5 h6 (by decide) v xs.length (xs.map (Value.int k)) hown ad ys.length c (ys.map (Value.int k)) (by simp) (Sl.news hc) (ints_oneCell k ys) b1 b2 hB
  unfold Oper.wp execOp
  simp only [hop, resolve, invoke, builtin, Sem.run_bind, Sem.run_pure, Result.andThen_ok, List.map_toArray, List.map_cons, List.map_nil, hs, hx, hr]
  refine hK _ _ ?_ q3 (fun B' u us hu' => run_keepI w B t o.type e i z bytes h1 h2 h3 h4 h5 v xs hown ad c ys (Sl.news hc) b1 b2 hr q3 B' u us hu')
  unfold Own
  rw [List.length_append, List.map_append]; exact q2

def LikeK (m n : PNode) : Prop := m.kind = n.kind ∧ m.name = n.name ∧ m.attrs = n.attrs ∧ m.text = n.text ∧ m.parent = n.parent ∧ m.kids.length = n.kids.length
theorem nodeCells_kids (qs : List (PNode × (Value × Value))) (f : PNode × (Value × Value) → List Int) : nodeCells (qs.map fun q => (⟨q.1.kind, q.1.name, q.1.attrs, q.1.text, q.1.parent, f q⟩, q.2)) = nodeCells qs := by
  induction qs with
  | nil => rfl
  | cons q qs ih =>
    have e : ∀ (p : PNode × (Value × Value)) ps, nodeCells (p :: ps) = nodeRow p.1 p.2 ++ nodeCells ps := fun p ps => by simp [nodeCells]
    rw [List.map_cons, e, e, ih]
    rfl
theorem ownN_keepI {B : Nat} {w w' : World} {v : Value} {ns : List PNode} (h : OwnN B w v ns) {row : Option Nat} (hg : w.grownBy w' row) (hr : ∀ r, row = some r → ∃ cs fr, w.heap[r]? = some (.cells cs 3 fr))
    (hk : ∀ (B' : Nat) (u : Value) (us : List Int), Own B' 3 .i64 w u us → ∃ zs : List Int, zs.length = us.length ∧ Own B' 3 .i64 w' u zs) : ∃ ns', OwnN B w' v ns' ∧ ns'.length = ns.length ∧ ∀ j (hj : j < ns.length) (hj' : j < ns'.length), LikeK ns'[j] ns[j] := by
  obtain ⟨qs, rfl, h2, h3⟩ := h
  have ex : ∀ q : PNode × (Value × Value), ∃ zs : List Int, q ∈ qs → zs.length = q.1.kids.length ∧ Own B 3 .i64 w' q.2.2 zs := fun q => by
    by_cases hq : q ∈ qs
    · obtain ⟨zs, e1, e2⟩ := hk B q.2.2 q.1.kids (h3 q hq).2
      exact ⟨zs, fun _ => ⟨e1, e2⟩⟩
    · exact ⟨[], fun h => absurd h hq⟩
  let f : PNode × (Value × Value) → List Int := fun q => (ex q).choose
  have hf : ∀ q ∈ qs, (f q).length = q.1.kids.length ∧ Own B 3 .i64 w' q.2.2 (f q) := fun q hq => (ex q).choose_spec hq
  refine ⟨(qs.map fun q => ((⟨q.1.kind, q.1.name, q.1.attrs, q.1.text, q.1.parent, f q⟩ : PNode), q.2)).map (fun q => q.1), ⟨_, rfl, ?_, fun p hp => ?_⟩, by simp, fun j hj hj' => ?_⟩
  · rw [nodeCells_kids]
    have := kept_of_type h2 hg (fun r e => by obtain ⟨cs, fr, h⟩ := hr r e; exact ⟨cs, _, fr, h, by decide⟩)
    simpa using this
  · obtain ⟨q, hq, rfl⟩ := List.mem_map.mp hp
    exact ⟨kept_of_type (h3 q hq).1 hg (fun r e => by obtain ⟨cs, fr, h⟩ := hr r e; exact ⟨cs, _, fr, h, by decide⟩), (hf q hq).2⟩
  · simp only [List.getElem_map]
    exact ⟨rfl, rfl, rfl, rfl, rfl, (hf _ (List.getElem_mem _)).1⟩

theorem own_field {B : Nat} {w : World} {g n cap : Nat} {ns : List PNode} (h : OwnN B w (.slice (some ⟨g, 0, none⟩) n cap) ns) (hn : n = ns.length) {c : Nat} (hc : c < ns.length) {j : Nat} (hj : j < 6) (u : Value) (f : PNode → PNode)
    (hf : ∀ m vv, nodeRow (f m) vv = (nodeRow m vv).set j u) (ha : ∀ m, (f m).attrs = m.attrs) (hk : ∀ m, (f m).kids = m.kids) :
    OwnN B (w.setCell ⟨g, c * 6 + j, none⟩ u) (.slice (some ⟨g, 0, none⟩) n cap) (ns.modify c f) := by
  subst hn
  obtain ⟨qs, rfl, h2, h3⟩ := h
  have hq : c < qs.length := by simpa using hc
  have hst := h2.stored (c * 6 + j) u
  have hset := nodeCells_set qs c hq (f qs[c].1, qs[c].2) j hj u (hf _ _)
  rw [← hset] at hst
  refine ⟨qs.set c (f qs[c].1, qs[c].2), map_modify hq rfl, ?_, fun q hqm => ?_⟩
  · simpa using hst.1
  · rcases List.mem_or_eq_of_mem_set hqm with hqm | rfl
    · exact lists_kept h2 hst.2 (h3 q hqm)
    · have := lists_kept h2 hst.2 (h3 qs[c] (List.getElem_mem hq))
      simp only [ha, hk]
      exact this

structure OutT (ns : List PNode) : Prop where
  fit : ∀ n ∈ ns, NodeFit n
  len : ns.length ≤ 500
  par : TreeOkP ns → parOf ns 0 = -1
theorem modify_all {ns : List PNode} {c : Nat} {f : PNode → PNode} {p : PNode → Prop} (h : ∀ n ∈ ns, p n) (hf : ∀ n, p n → p (f n)) : ∀ n ∈ ns.modify c f, p n := fun n hn => by
  obtain ⟨i, hi, rfl⟩ := List.mem_iff_getElem.mp hn
  rw [List.getElem_modify]
  have hi' : i < ns.length := by simpa using hi
  split
  · exact hf _ (h _ (List.getElem_mem hi'))
  · exact h _ (List.getElem_mem hi')
theorem out_plain {ns : List PNode} {k : Nat} (h : DrT ns k) (hk : k ≤ 499) : OutT ns := ⟨fun n hn => (h.mild n hn).fit (by omega), by have := h.cnt; omega, fun _ => h.par0⟩
theorem out_same {ns : List PNode} {k c : Nat} {f : PNode → PNode} (h : DrT ns k) (hk : k ≤ 499) (hf : ∀ n, NodeFit n → NodeFit (f n)) (hp : ∀ n, (f n).parent = n.parent) : OutT (ns.modify c f) :=
  ⟨modify_all (fun n hn => (h.mild n hn).fit (by omega)) hf, by have := h.cnt; simp; omega, fun _ => by rw [parOf_modify' (.inr hp)]; exact h.par0⟩
theorem out_par {ns : List PNode} {k c : Nat} {x : Int} (h : DrT ns k) (hk : k ≤ 499) : OutT (ns.modify c fun n => ⟨n.kind, n.name, n.attrs, n.text, x, n.kids⟩) := by
  refine ⟨modify_all (fun n hn => (h.mild n hn).fit (by omega)) (fun n hn => ⟨hn.nm, hn.tx, hn.rs, hn.each, hn.kl⟩), by have := h.cnt; simp; omega, fun ht => ?_⟩
  have no0 : ∀ n ∈ ns.modify c fun n => (⟨n.kind, n.name, n.attrs, n.text, x, n.kids⟩ : PNode), (0 : Int) ∉ n.kids := modify_all (fun n hn => (h.mild n hn).no0) (fun n hn => hn)
  obtain ⟨d, hd⟩ := ht.linked 0 (by have := ht.one; omega)
  cases d with
  | zero => exact hd.2
  | succ d =>
    obtain ⟨p, _, hp⟩ := hd
    exfalso
    by_cases hpl : p < (ns.modify c fun n => (⟨n.kind, n.name, n.attrs, n.text, x, n.kids⟩ : PNode)).length
    · rw [kidsOf_at hpl] at hp
      exact no0 _ (List.getElem_mem hpl) (by simpa using hp)
    · rw [kidsOf_out hpl] at hp; cases hp
theorem out_kids {ns ns1 : List PNode} {k c : Nat} {ks : List Int} (h : DrT ns k) (hk : k ≤ 499) (hl : ns1.length = ns.length) (hlike : ∀ j (hj : j < ns.length) (hj' : j < ns1.length), LikeK ns1[j] ns[j]) (hks : ks.length ≤ 1000) : OutT (ns1.modify c fun n => ⟨n.kind, n.name, n.attrs, n.text, n.parent, ks⟩) := by
  have hfit : ∀ n ∈ ns1, NodeFit n := fun n hn => by
    obtain ⟨i, hi, rfl⟩ := List.mem_iff_getElem.mp hn
    obtain ⟨e1, e2, e3, e4, e5, e6⟩ := hlike i (by omega) hi
    have := (h.mild ns[i] (List.getElem_mem (by omega))).fit (by omega)
    exact ⟨by rw [e2]; exact this.nm, by rw [e4]; exact this.tx, by rw [e3]; exact this.rs, by rw [e3]; exact this.each, by rw [e6]; exact this.kl⟩
  have hc := h.cnt
  refine ⟨modify_all hfit (fun n hn => ⟨hn.nm, hn.tx, hn.rs, hn.each, by show ks.length ≤ _; omega⟩), by simp; omega, fun _ => ?_⟩
  rw [parOf_modify' (f := fun n => ⟨n.kind, n.name, n.attrs, n.text, n.parent, ks⟩) (.inr (fun n => rfl)), parOf_at (by omega), (hlike 0 (by omega) (by omega)).2.2.2.2.1, ← parOf_at (by omega)]
  exact h.par0
theorem out_nil : OutT [] := ⟨fun n hn => (by cases hn), by simp, fun h => by have := h.one; simp at this⟩
end Go.Proofs.YtogdbjafibejdaaGreat

/- The program's copyOfNodes. No condition. -/
namespace Go.Proofs.YtogdbjafibejdaaGreat
open Go.RowKit
set_option maxRecDepth 100000
set_option linter.unusedVariables false
def Apart (qs : List (PNode × (Value × Value))) : Prop := ∀ i j (hi : i < qs.length) (hj : j < qs.length) (g : Nat), qs[i].2.2.ownBlock = some g → qs[j].2.2.ownBlock = some g → i = j
theorem apart_nil : Apart [] := fun i j hi => absurd hi (by simp)
theorem apart_snoc {qs : List (PNode × (Value × Value))} {q : PNode × (Value × Value)} (h : Apart qs) (hq : ∀ g, q.2.2.ownBlock = some g → ∀ p ∈ qs, p.2.2.ownBlock ≠ some g) : Apart (qs ++ [q]) := by
  intro i j hi hj g e1 e2
  rw [List.getElem_append] at e1 e2
  simp only [List.length_append, List.length_singleton] at hi hj
  split at e1 <;> split at e2
  · exact h i j _ _ g e1 e2
  · rename_i h1 h2
    simp only [List.getElem_singleton] at e2
    exact absurd e1 (hq g e2 _ (List.getElem_mem h1))
  · rename_i h1 h2
    simp only [List.getElem_singleton] at e1
    exact absurd e2 (hq g e1 _ (List.getElem_mem h2))
  · omega

end Go.Proofs.YtogdbjafibejdaaGreat

/- The draw of a tree: what the seven ways leave. No condition. -/
namespace Go.Proofs.YtogdbjafibejdaaGreat
open Go.RowKit
set_option maxRecDepth 100000
set_option linter.unusedVariables false

theorem RtW.rowAt {w0 w W : World} {g : Nat} {cv : Value} {xs : List Int} {T : Nat} {ns : List PNode} {q n c : Nat} (h : RtW w0 w g cv xs T (.slice (some ⟨q, 0, none⟩) n c) ns W) : w.heap.size ≤ q ∧ ∃ cs fr, W.heap[q]? = some (.cells cs 36 fr) := by
  obtain ⟨qs, _, ⟨_, ⟨e, _⟩ | ⟨g', cap, cur, e, hB, hh, _⟩⟩, _⟩ := h.own
  · cases e
  · cases e; exact ⟨hB, _, _, hh⟩
theorem RtW.turned {w0 w W W' : World} {g : Nat} {cv : Value} {xs : List Int} {T : Nat} {nv : Value} {ns ns' : List PNode} (h : RtW w0 w g cv xs T nv ns W) {row : Option Nat} (hg : W.grownBy W' row) (hr : ∀ r, row = some r → w.heap.size ≤ r ∧ ∃ cs t fr, W.heap[r]? = some (.cells cs t fr) ∧ t ≠ 26) (ho : OwnN w.heap.size W' nv ns') (hgl : g < w.heap.size) (h0 : w0.heap.size ≤ w.heap.size) : RtW w0 w g cv xs T nv ns' W' := by
  refine ⟨h.cur.kept hg (fun e => by have := (hr g e).1; omega) (fun r e => by have := (hr r e).1; omega), blk_type h.bR hg (fun r e => (hr r e).2), blk_type h.bT hg (fun r e => (hr r e).2), ho, ?_⟩
  exact ⟨hg.os.trans h.gr.os, hg.tape.trans h.gr.tape, hg.output.trans h.gr.output, Nat.le_trans h.gr.size hg.size, fun j hj hne => (hg.block j (Nat.lt_of_lt_of_le hj h.gr.size) (fun e => by have := (hr j e.symm).1; omega)).trans (h.gr.block j hj hne)⟩
theorem RtW.field {w0 w W : World} {g : Nat} {cv : Value} {xs : List Int} {T : Nat} {ns : List PNode} {q n cap : Nat} (h : RtW w0 w g cv xs T (.slice (some ⟨q, 0, none⟩) n cap) ns W) (hn : n = ns.length) {c : Nat} (hc : c < ns.length) {j : Nat} (hj : j < 6) (u : Value) (f : PNode → PNode)
    (hf : ∀ m vv, nodeRow (f m) vv = (nodeRow m vv).set j u) (ha : ∀ m, (f m).attrs = m.attrs) (hk : ∀ m, (f m).kids = m.kids) (hgl : g < w.heap.size) (h0 : w0.heap.size ≤ w.heap.size) :
    RtW w0 w g cv xs T (.slice (some ⟨q, 0, none⟩) n cap) (ns.modify c f) (W.setCell ⟨q, c * 6 + j, none⟩ u) := by
  obtain ⟨h1, cs, fr, h2⟩ := h.rowAt
  exact h.turned (grown_setCell _ _ _ _) (fun r e => by cases e; exact ⟨h1, _, _, _, h2, by decide⟩) (own_field h.own hn hc hj u f hf ha hk) hgl h0
theorem RtW.kids {w0 w W : World} {g : Nat} {cv : Value} {xs : List Int} {T : Nat} {ns : List PNode} {q n cap : Nat} (h : RtW w0 w g cv xs T (.slice (some ⟨q, 0, none⟩) n cap) ns W) (hn : n = ns.length) {c : Nat} (hc : c < ns.length) {u : Value} {ks : List Int} (hu : Own w.heap.size 3 .i64 W u ks) (hgl : g < w.heap.size) (h0 : w0.heap.size ≤ w.heap.size) :
    RtW w0 w g cv xs T (.slice (some ⟨q, 0, none⟩) n cap) (ns.modify c fun n => ⟨n.kind, n.name, n.attrs, n.text, n.parent, ks⟩) (W.setCell ⟨q, c * 6 + 5, none⟩ u) := by
  obtain ⟨h1, cs, fr, h2⟩ := h.rowAt
  exact h.turned (grown_setCell _ _ _ _) (fun r e => by cases e; exact ⟨h1, _, _, _, h2, by decide⟩) (own_kids h.own hn hc hu) hgl h0
theorem RtW.cellIn {w0 w W : World} {g : Nat} {cv : Value} {xs : List Int} {T : Nat} {ns : List PNode} {q n cap : Nat} (h : RtW w0 w g cv xs T (.slice (some ⟨q, 0, none⟩) n cap) ns W) (hn : n = ns.length) {c : Nat} (hc : c < ns.length) {j : Nat} (hj : j < 6) : (∃ y, W.cell? ⟨q, c * 6 + j, none⟩ = some y) ∧ W.frozen? ⟨q, c * 6 + j, none⟩ = false := by
  subst hn
  have hq := h.own.row
  refine ⟨?_, hq.frozenAt _⟩
  have hcell := hq.cellAt (c * 6 + j) (by omega)
  rw [hcell, List.getElem?_eq_getElem (by rw [hq.1]; omega)]; exact ⟨_, rfl⟩
theorem RtW.kidsIn {w0 w W : World} {g : Nat} {cv : Value} {xs : List Int} {T : Nat} {ns : List PNode} {q n cap : Nat} (h : RtW w0 w g cv xs T (.slice (some ⟨q, 0, none⟩) n cap) ns W) (hn : n = ns.length) {c : Nat} (hc : c < ns.length) : ∃ kv, W.cell? ⟨q, c * 6 + 5, none⟩ = some kv ∧ Own w.heap.size 3 .i64 W kv ns[c].kids := by
  subst hn
  obtain ⟨qs, rfl, h2, h3⟩ := h.own
  have hq : c < qs.length := by simpa using hc
  refine ⟨qs[c].2.2, ?_, ?_⟩
  · have hl : c * 6 + 5 < (nodeCells qs).length := by rw [nodeCells_len]; omega
    have hcell := h2.cellAt (c * 6 + 5) (by simp; omega)
    have hat := nodeCells_at qs c 5 hq (by omega)
    rw [hcell, List.getElem?_eq_getElem hl]
    rw [List.getD_eq_getElem?_getD, List.getElem?_eq_getElem hl] at hat
    simp only [Option.getD_some] at hat
    rw [hat]; rfl
  · have := (h3 qs[c] (List.getElem_mem hq)).2
    simpa using this
theorem RtW.app {w0 w W W' : World} {g : Nat} {cv : Value} {xs : List Int} {T : Nat} {nv : Value} {ns : List PNode} (h : RtW w0 w g cv xs T nv ns W) {kv : Value} {ks : List Int} (hkv : Own w.heap.size 3 .i64 W kv ks) (hg : W.grownBy W' kv.ownBlock)
    (hk : ∀ (B' : Nat) (u : Value) (us : List Int), Own B' 3 .i64 W u us → ∃ zs : List Int, zs.length = us.length ∧ Own B' 3 .i64 W' u zs) (hgl : g < w.heap.size) (h0 : w0.heap.size ≤ w.heap.size) :
    ∃ ns', RtW w0 w g cv xs T nv ns' W' ∧ ns'.length = ns.length ∧ ∀ j (hj : j < ns.length) (hj' : j < ns'.length), LikeK ns'[j] ns[j] := by
  have hrow : ∀ r, kv.ownBlock = some r → w.heap.size ≤ r ∧ ∃ cs fr, W.heap[r]? = some (.cells cs 3 fr) := fun r e => by
    obtain ⟨_, ⟨e', _⟩ | ⟨g', cap, cur, e', hB, hh, _⟩⟩ := hkv
    · rw [e'] at e; cases e
    · rw [e'] at e; cases e; exact ⟨hB, _, _, hh⟩
  obtain ⟨ns', o1, o2, o3⟩ := ownN_keepI h.own hg (fun r e => (hrow r e).2) hk
  exact ⟨ns', h.turned hg (fun r e => by obtain ⟨a, cs, fr, b⟩ := hrow r e; exact ⟨a, cs, _, fr, b, by decide⟩) o1 hgl h0, o2, o3⟩
def EndT (w0 w : World) (g : Nat) (cv : Value) (xs : List Int) (T : Nat) (W : World) : Prop := ∃ nv ns, OutT ns ∧ RtW w0 w g cv xs T nv ns W
theorem fit_kind {x : Int} : ∀ n : PNode, NodeFit n → NodeFit ⟨x, n.name, n.attrs, n.text, n.parent, n.kids⟩ := fun n h => ⟨h.nm, h.tx, h.rs, h.each, h.kl⟩
theorem fit_text {x : ByteArray} (hx : x.size ≤ 100) : ∀ n : PNode, NodeFit n → NodeFit ⟨n.kind, n.name, n.attrs, x, n.parent, n.kids⟩ := fun n h => ⟨h.nm, by have := h.tx; show x.size ≤ _; omega, h.rs, h.each, h.kl⟩
theorem fit_name {x : ByteArray} (hx : x.size ≤ 100) : ∀ n : PNode, NodeFit n → NodeFit ⟨n.kind, x, n.attrs, n.text, n.parent, n.kids⟩ := fun n h => ⟨by have := h.nm; show x.size ≤ _; omega, h.tx, h.rs, h.each, h.kl⟩
end Go.Proofs.YtogdbjafibejdaaGreat

/- The program's add onto a tree of its own. No condition. -/
namespace Go.Proofs.YtogdbjafibejdaaGreat
open Go.RowKit
set_option maxRecDepth 100000
set_option linter.unusedVariables false

structure AddFr (B a : Nat) (w w' : World) : Prop where
  os : w'.os = w.os
  tape : w'.tape = w.tape
  output : w'.output = w.output
  size : w.heap.size ≤ w'.heap.size
  block : ∀ j, j < w.heap.size → j ≠ a → (j < B ∨ ∀ cs t fr, w.heap[j]? = some (.cells cs t fr) → t ≠ 36) → w'.heap[j]? = w.heap[j]?
theorem AddFr.below {B a : Nat} {w w' : World} (h : AddFr B a w w') (ha : B ≤ a) (hB : B ≤ w.heap.size) : Below B w w' := ⟨h.os, h.tape, h.output, h.size, fun j hj => h.block j (by omega) (by omega) (.inl hj)⟩
theorem AddFr.box {B a : Nat} {w w' : World} (h : AddFr B a w w') {j : Nat} {cs : Array Value} {t : TypeId} {fr : Nat × Nat} (hj : w.heap[j]? = some (.cells cs t fr)) (ht : t ≠ 36) (hne : j ≠ a) : w'.heap[j]? = some (.cells cs t fr) := (h.block j (lt_of_block hj) hne (.inr (fun cs' t' fr' e => by rw [hj] at e; cases e; exact ht))).trans hj

def OwnQ (B : Nat) (w : World) (v : Value) (qs : List (PNode × (Value × Value))) : Prop :=
  w.ownsRow B 36 6 v qs.length (nodeCells qs) ∧ ∀ q ∈ qs, w.ownsRow B 115 2 q.2.1 q.1.attrs.length (pairCells q.1.attrs) ∧ Own B 3 .i64 w q.2.2 q.1.kids
theorem OwnN.q {B : Nat} {w : World} {v : Value} {ns : List PNode} (h : OwnN B w v ns) : ∃ qs, qs.map (fun q => q.1) = ns ∧ OwnQ B w v qs := by
  obtain ⟨qs, h1, h2, h3⟩ := h
  have : qs.length = ns.length := by have := congrArg List.length h1; simpa using this
  exact ⟨qs, h1, by rw [this]; exact h2, h3⟩
theorem OwnQ.n {B : Nat} {w : World} {v : Value} {qs : List (PNode × (Value × Value))} (h : OwnQ B w v qs) : OwnN B w v (qs.map (fun q => q.1)) := ⟨qs, rfl, by rw [List.length_map]; exact h.1, h.2⟩
theorem OwnQ.below {B : Nat} {w w' : World} {v : Value} {qs : List (PNode × (Value × Value))} (h : OwnQ B w v qs) (hb : Below w.heap.size w w') : OwnQ B w' v qs := ⟨ownsRow_below h.1 hb, fun q hq => ⟨ownsRow_below (h.2 q hq).1 hb, (h.2 q hq).2.below hb⟩⟩
theorem OwnQ.base {B B' : Nat} {w : World} {v : Value} {qs : List (PNode × (Value × Value))} (h : OwnQ B w v qs) (hB : B' ≤ B) : OwnQ B' w v qs := ⟨ownsRow_base h.1 hB, fun q hq => ⟨ownsRow_base (h.2 q hq).1 hB, (h.2 q hq).2.base hB⟩⟩
theorem OwnQ.kept {B : Nat} {w w' : World} {v : Value} {qs : List (PNode × (Value × Value))} {row : Option Nat} (h : OwnQ B w v qs) (hg : w.grownBy w' row)
    (hr : ∀ r, row = some r → ∃ cs t fr, w.heap[r]? = some (.cells cs t fr) ∧ t ≠ 36 ∧ t ≠ 115 ∧ t ≠ 3) : OwnQ B w' v qs :=
  ⟨kept_of_type h.1 hg (fun r e => by obtain ⟨a, b, c, d, e1, e2, e3⟩ := hr r e; exact ⟨a, b, c, d, e1⟩),
    fun q hq => ⟨kept_of_type (h.2 q hq).1 hg (fun r e => by obtain ⟨a, b, c, d, e1, e2, e3⟩ := hr r e; exact ⟨a, b, c, d, e2⟩), kept_of_type (h.2 q hq).2 hg (fun r e => by obtain ⟨a, b, c, d, e1, e2, e3⟩ := hr r e; exact ⟨a, b, c, d, e3⟩)⟩⟩
theorem OwnQ.keptInt {B K : Nat} {w w' : World} {v : Value} {qs : List (PNode × (Value × Value))} (h : OwnQ B w v qs) (hg : w.grownBy w' (some K)) {cs : Array Value} {fr : Nat × Nat} (hK : w.heap[K]? = some (.cells cs 3 fr))
    (hne : ∀ q ∈ qs, q.2.2.ownBlock ≠ some K) : OwnQ B w' v qs :=
  ⟨kept_of_type h.1 hg (fun r e => by cases e; exact ⟨_, _, _, hK, by decide⟩),
    fun q hq => ⟨kept_of_type (h.2 q hq).1 hg (fun r e => by cases e; exact ⟨_, _, _, hK, by decide⟩), World.ownsRow.kept (h.2 q hq).2 hg (.inr (hne q hq))⟩⟩
theorem OwnQ.snoc {B : Nat} {w w' : World} {v v' : Value} {qs : List (PNode × (Value × Value))} {q : PNode × (Value × Value)} (h : OwnQ B w v qs) (hq : w.ownsRow B 115 2 q.2.1 q.1.attrs.length (pairCells q.1.attrs) ∧ Own B 3 .i64 w q.2.2 q.1.kids)
    (ho : w'.ownsRow B 36 6 v' (qs.length + 1) (nodeCells qs ++ nodeRow q.1 q.2)) (hg : w.grownBy w' v.ownBlock) : OwnQ B w' v' (qs ++ [q]) := by
  refine ⟨?_, fun p hp => ?_⟩
  · rw [nodeCells_app, List.length_append]; simpa [nodeCells] using ho
  · rcases List.mem_append.mp hp with hp | hp
    · exact lists_kept h.1 hg (h.2 p hp)
    · simp at hp; subst hp; exact lists_kept h.1 hg hq

theorem add_fr {B a : Nat} {w w5 w6 w9 w' : World} {v : Value} {n : Nat} {xs : List Value} (b5 : Below w.heap.size w w5) (b6 : Below w5.heap.size w5 w6) (o : w6.ownsRow B 36 6 v n xs) (g9 : w6.grownBy w9 v.ownBlock) (g : w9.grownBy w' (some a)) : AddFr B a w w' := by
  have b := b5.trans (b6.mono b5.size)
  refine ⟨g.os.trans (g9.os.trans b.os), g.tape.trans (g9.tape.trans b.tape), g.output.trans (g9.output.trans b.output), Nat.le_trans b.size (Nat.le_trans g9.size g.size), fun j hj hja ht => ?_⟩
  have h6 := b.block j hj
  have l6 := Nat.lt_of_lt_of_le hj b.size
  rw [g.block j (Nat.lt_of_lt_of_le l6 g9.size) (fun e => by injection e with e; exact hja e), g9.block j l6 ?_, h6]
  intro e
  have hlt := o.lt j e.symm
  rcases ht with ht | h1
  · omega
  · rcases o.2 with ⟨rfl, _⟩ | ⟨g', cap, cur, rfl, _, hh, _⟩
    · cases e
    · cases e
      rw [h6] at hh
      exact h1 _ _ _ hh rfl

set_option maxHeartbeats 2000000 in
set_option maxRecDepth 100000 in
theorem iadd_all {B a : Nat} {w : World} {v : Value} {qs : List (PNode × (Value × Value))} (ha : w.heap[a]? = some (.cells #[v] 77 (0, 0))) (hO : OwnQ B w v qs) (hB : B ≤ w.heap.size) (hlen : qs.length ≤ 100000) (k p : Int) (nm tx : ByteArray)
    {av1 : Option Addr} {av2 av3 : Nat} {kv1 : Option Addr} {kv2 kv3 : Nat} {rs : List (ByteArray × ByteArray)} (hav : Sv 2 w (.slice av1 av2 av3) (pairCells rs)) (hrs : rs.length ≤ 1048576) :
    Calls Tryz.prog 79 #[.pointer (some ⟨a, 0, none⟩), .agg #[.int .i64 k, .string nm, .slice av1 av2 av3, .string tx, .int .i64 p, .slice kv1 kv2 kv3]] w fun e w' =>
      e = .returned (.int .i64 qs.length) ∧ (∃ v', w'.heap[a]? = some (.cells #[v'] 77 (0, 0)) ∧ ∃ av', OwnQ B w' v' (qs ++ [(⟨k, nm, rs, tx, -1, []⟩, (av', .slice none 0 0))])) ∧ AddFr B a w w' := by
  obtain ⟨ia, hia, hza0, hza1, hza2⟩ := info_parts Tryz.infoAttrRow
  obtain ⟨iN, hiN, hzN0, hzN1, hzN2⟩ := info_parts Tryz.infoNodeRow
  have HO := (show Hid (OwnQ B w v qs) from hO)
  have HAV := (show Hid (Sv 2 w (.slice av1 av2 av3) (pairCells rs)) from hav)
  have HA := (show Hid _ from ha)
  obtain ⟨vs, cap, rfl, hc1, hc2, hcs⟩ := hO.n.nodes.slice
  rw [List.length_map] at hc1
  have hlt := lt_of_block ha
  rw [List.length_map] at *
  clear hO hav hcs ha
  obtain ⟨w1, hw1⟩ : ∃ x, x = w.alloc (.cells #[.int .i64 k, .string nm, .slice av1 av2 av3, .string tx, .int .i64 (-1), .slice none 0 0] 36) := ⟨_, rfl⟩
  have b1 : Below w.heap.size w w1 := by rw [hw1]; exact (Below.refl _ _).alloc (Nat.le_refl _) _
  have x1 : w1.heap[w.heap.size]? = some (.cells #[.int .i64 k, .string nm, .slice av1 av2 av3, .string tx, .int .i64 (-1), .slice none 0 0] 36 (0, 0)) := by rw [hw1]; exact World.alloc_heap_new _ _
  have hav1 := HAV.out.below b1
  have hs1 := blk_lt x1
  have HB1 := (show Hid _ from b1)
  have HX1 := (show Hid _ from x1)
  clear b1 x1
  go_enter Tryz.func79, Tryz.ntmps79
  go_upto_region 3 with (first
        | (at_builtin
           rw [← hw1]
           refine wpList_appV _ rfl (.const (.slice none 0 0)) (.tmp 8) 33 rfl w.heap.size 115 ia _ 2 32 Tryz.underlying33 hia hza0 hza1 hza2 rfl (by decide) (.slice none 0 0) (.slice av1 av2 av3) 0 rs.length [] (pairCells rs) rfl rfl (World.ownsRow_nil _ _ _ _) hav1 (pairCells_len _) (pair_oneCell _) (by omega) (by unfold maxLen; omega) (by omega) ?_
           intro v4 w4 o4 g4
           clear hw1
           rw [List.nil_append, Nat.zero_add] at o4
           have b4 : Below w.heap.size w w4 := HB1.out.grown g4 (by omega) (fun r e => by cases e)
           have x4 : w4.heap[w.heap.size]? = some (.cells #[.int .i64 k, .string nm, .slice av1 av2 av3, .string tx, .int .i64 (-1), .slice none 0 0] 36 (0, 0)) := (g4.block _ (by omega) (by simp [Value.ownBlock])).trans HX1.out
           have y2 : w4.cell? ⟨w.heap.size, 2, none⟩ = some (.slice av1 av2 av3) := by simp only [World.cell?, x4]; rfl
           have z2 : w4.frozen? ⟨w.heap.size, 2, none⟩ = false := by simp [World.frozen?, x4]
           have hlt4 := blk_lt x4
           obtain ⟨a4, n4, d4, rfl⟩ := own_slice o4
           obtain ⟨w5, hw5⟩ : ∃ x, x = w4.setCell ⟨w.heap.size, 2, none⟩ (.slice a4 n4 d4) := ⟨_, rfl⟩
           have g5 : w4.grownBy w5 (some w.heap.size) := by rw [hw5]; exact grown_setCell _ _ _ _
           have x5 : w5.heap[w.heap.size]? = some (.cells #[.int .i64 k, .string nm, .slice a4 n4 d4, .string tx, .int .i64 (-1), .slice none 0 0] 36 (0, 0)) := by rw [hw5]; exact setCell_at x4
           have b5 : Below w.heap.size w w5 := b4.grown g5 b4.size (fun r e => by cases e; exact Nat.le_refl _)
           have o5 := kept_of_type o4 g5 (fun r e => by cases e; exact ⟨_, _, _, x4, by decide⟩)
           have hs5 := blk_lt x5
           have HX5 := (show Hid _ from x5)
           have HB5 := (show Hid (Below w.heap.size w w5) from b5)
           have HO5 := (show Hid _ from o5)
           clear x4 x5 b4 b5 o4 g4 g5 o5 hav1 HX1 HB1 hs1))
  rw [← hw5]
  clear hw5
  have hA5 := (HB5.out.block a hlt).trans HA.out
  have cA5 : w5.cell? ⟨a, 0, none⟩ = some (.slice vs qs.length cap) := by simp only [World.cell?, hA5]; rfl
  have hlt5 := lt_of_block hA5
  have c50 : w5.cell? ⟨w.heap.size, 0, none⟩ = some (.int .i64 k) := by simp only [World.cell?, HX5.out]; rfl
  have c51 : w5.cell? ⟨w.heap.size, 1, none⟩ = some (.string nm) := by simp only [World.cell?, HX5.out]; rfl
  have c52 : w5.cell? ⟨w.heap.size, 2, none⟩ = some (.slice a4 n4 d4) := by simp only [World.cell?, HX5.out]; rfl
  have c53 : w5.cell? ⟨w.heap.size, 3, none⟩ = some (.string tx) := by simp only [World.cell?, HX5.out]; rfl
  have c54 : w5.cell? ⟨w.heap.size, 4, none⟩ = some (.int .i64 (-1)) := by simp only [World.cell?, HX5.out]; rfl
  have c55 : w5.cell? ⟨w.heap.size, 5, none⟩ = some (.slice none 0 0) := by simp only [World.cell?, HX5.out]; rfl
  have hq5 := OwnQ.below HO.out HB5.out
  have b6 : Below w5.heap.size w5 (w5.alloc (.cells #[.int .i64 k, .string nm, .slice a4 n4 d4, .string tx, .int .i64 (-1), .slice none 0 0] 36)).drew := ((Below.refl _ _).alloc (Nat.le_refl _) _).trans (below_drewN 1)
  have x6 : (w5.alloc (.cells #[.int .i64 k, .string nm, .slice a4 n4 d4, .string tx, .int .i64 (-1), .slice none 0 0] 36)).drew.heap[w5.heap.size]? = some (.cells (nodeRow ⟨k, nm, rs, tx, -1, []⟩ (.slice a4 n4 d4, .slice none 0 0)).toArray 36 (0, 0)) := heap_alloc_new w5 _
  have HR6 := (show Hid (OwnQ B _ _ _) from hq5.below b6)
  have HQ6 := (show Hid (_ ∧ _) from ⟨ownsRow_below (ownsRow_base HO5.out hB) b6, ownsRow_nil_int B (w5.alloc (.cells #[.int .i64 k, .string nm, .slice a4 n4 d4, .string tx, .int .i64 (-1), .slice none 0 0] 36)).drew⟩)
  have HONE := (show Hid _ from node_oneCell (q := ((⟨k, nm, rs, tx, -1, []⟩, (.slice a4 n4 d4, .slice none 0 0)) : PNode × (Value × Value))) HQ6.out)
  have HSV := (show Hid _ from sv_oneNode (q := ((⟨k, nm, rs, tx, -1, []⟩, (.slice a4 n4 d4, .slice none 0 0)) : PNode × (Value × Value))) x6)
  have hbs5 := HB5.out.size
  have hB5 : B ≤ w5.heap.size := Nat.le_trans hB hbs5
  have HB6 := (show Hid _ from b6)
  have HA5 := (show Hid _ from hA5)
  have hsz6 : (w5.alloc (.cells #[.int .i64 k, .string nm, .slice a4 n4 d4, .string tx, .int .i64 (-1), .slice none 0 0] 36)).drew.heap.size = w5.heap.size + 1 := by simp
  have HSZ := (show Hid ((w5.alloc (.cells #[.int .i64 k, .string nm, .slice a4 n4 d4, .string tx, .int .i64 (-1), .slice none 0 0] 36)).drew.heap.size = w5.heap.size + 1) from hsz6)
  clear b6 x6 hq5 hA5 HO5 HO HX5 hsz6
  go_region_law (first
    | (with_reducible refine step_appV (w := (w5.alloc (.cells #[.int .i64 k, .string nm, .slice a4 n4 d4, .string tx, .int .i64 (-1), .slice none 0 0] 36)).drew) ?_ (.tmp 15) (.tmp 17) 24 ?_ B 36 iN _ 6 96 ?_ hiN hzN0 hzN1 hzN2 ?_ ?_ (.slice vs qs.length cap) qs.length (nodeCells qs) ?_ ?_ ⟨w5.heap.size, 0, none⟩ 1 1 (nodeRow ⟨k, nm, rs, tx, -1, []⟩ (.slice a4 n4 d4, .slice none 0 0)) ?_ ?_ ?_ ?_ ?_ ?_ ?_
       · rfl
       · rfl
       · exact Tryz.underlying24
       · rfl
       · decide
       · simp [Act.eval]
       · exact HR6.out.1
       · simp [Act.eval]
       · exact HSV.out
       · exact HONE.out
       · (unfold maxLen; omega)
       · omega
       · (have := HSZ.out; omega)
       intro v9 w9 o9 g9
       obtain ⟨g1, cap1, rfl, hg1, hl1⟩ := one_form o9 (Nat.succ_pos _)
       have own9 := OwnQ.snoc (q := ((⟨k, nm, rs, tx, -1, []⟩, (.slice a4 n4 d4, .slice none 0 0)) : PNode × (Value × Value))) HR6.out HQ6.out o9 g9
       have hA9 := blk_type ((HB6.out.block a hlt5).trans HA5.out) g9 (row_type HR6.out.1 (by decide))
       have cA9 : w9.cell? ⟨a, 0, none⟩ = some (.slice vs qs.length cap) := by simp only [World.cell?, hA9]; rfl
       have fA9 : w9.frozen? ⟨a, 0, none⟩ = false := by simp only [World.frozen?, hA9]; rfl
       have HO9 := (show Hid _ from own9)
       have HG9 := (show Hid _ from g9)
       have HA9 := (show Hid _ from hA9)
       clear o9 g9 own9 hA9))
  all_goals go_wp2
  all_goals go_ret
  all_goals
    refine ⟨by go_num, ⟨_, setCell_at HA9.out, _, OwnQ.kept HO9.out (grown_setCell _ _ _ _) (fun r e => by cases e; exact ⟨_, _, _, HA9.out, by decide, by decide, by decide⟩)⟩, ?_⟩
    exact add_fr HB5.out HB6.out HR6.out.1 HG9.out (grown_setCell _ _ _ _)
end Go.Proofs.YtogdbjafibejdaaGreat
