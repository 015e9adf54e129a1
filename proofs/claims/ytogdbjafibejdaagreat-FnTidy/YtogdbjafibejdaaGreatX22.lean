/- append of integers that tells its block: the old one, or a new one. No condition. -/
import Derived.Test.YtogdbjafibejdaaGreatX1
import Derived.Test.YtogdbjafibejdaaGreatX17
import Derived.Test.YtogdbjafibejdaaGreatX9
import Derived.Laws.Append
import Derived.Test.YtogdbjafibejdaaGreatX18
import Derived.Test.YtogdbjafibejdaaGreatX21
namespace Go.Proofs.YtogdbjafibejdaaGreat
open Go.RowKit
set_option maxRecDepth 100000
set_option linter.unusedVariables false

theorem run_blk {P : Program} (w : World) (base : Nat) (t ty e : TypeId) (i : TypeInfo) (z : Value) (size bytes : Nat) (ht : P.underlying t = some (.slice e)) (hi : P.info? e = some i) (hz : i.zero = some z)
    (hsize : i.size = size) (hby : i.bytes = bytes) (r n cap : Nat) (xs : List Value) (hown : w.ownsRow base e size (.slice (some ⟨r, 0, none⟩) n cap) n xs)
    (a : Addr) (m c : Nat) (news : List Value) (hl : news.length = m * size) (hnews : ∀ j u, news[j]? = some u → w.cell? (a.add j) = some u) (h1 : ∀ u ∈ news, u.oneCell' = true)
    (h63 : n + m ≤ maxLen) (hbytes : (n + m) * bytes ≤ 140737488355328) {v' : Value} {w' : World} (hr : (Builtin.append_ #[t, t] ty #[.slice (some ⟨r, 0, none⟩) n cap, .slice (some a) m c]).run P w = .ok v' w') :
    ∃ r' cap', v' = .slice (some ⟨r', 0, none⟩) (n + m) cap' ∧ (r' = r ∨ r' = w.heap.size) := by
  subst hsize
  subst hby
  have hsmall : n + m ≤ 9223372036854775807 := by simp only [maxLen] at h63; omega
  rcases hown.2 with ⟨e1, _⟩ | ⟨g, cap', cur, e1, hbg, hg, hnc, hcm, hcs, htake⟩
  · cases e1
  · cases e1
    by_cases hroom : n + m ≤ cap
    · have hfit : n * i.size + news.length ≤ cur.size := by rw [hl, hcs, ← Nat.add_mul]; exact Nat.mul_le_mul_right _ hroom
      have hr2 := run_append_room (P := P) w t ty e i ht hi r n cap cur hg a m c news hl hnews h1 hroom hfit
      rw [hr] at hr2
      cases hr2
      exact ⟨_, _, rfl, .inl rfl⟩
    · have holds : ∀ j u, xs[j]? = some u → w.cell? ((⟨r, 0, none⟩ : Addr).add j) = some u := hown.cells (g := r) rfl
      have hr2 := run_append_grow (P := P) w t ty e i z ht hi hz ⟨r, 0, none⟩ n cap xs hown.1 holds a m c news hl hnews (by omega) (by omega) (growslice_fits (by omega) hbytes)
      rw [hr] at hr2
      cases hr2
      exact ⟨_, _, rfl, .inr rfl⟩

/-- 'v = append(v, u...)' for integers: where the new one lies. -/
theorem wpList_appB {P : Program} (w : World) {ops : Array Oper} {rest : List Oper} {o : Oper} {a : Act} {Q : Exit → Act → World → Prop} (hgd : o.guard = none)
    (s x : Operand) (t : TypeId) (ho : o.op = Op.call { callee := Callee.builtin Builtin.append, args := #[s, x], argTypes := #[t, t] }) (B : Nat) (e : TypeId) (i : TypeInfo)
    (z : Value) (bytes : Nat) (ht : P.underlying t = some (TypeDesc.slice e)) (hi : P.info? e = some i) (hz : i.zero = some z) (hsize : i.size = 1) (hby : i.bytes = bytes)
    (hzs : z.cells.size = 1) (K : IntKind) (r cap : Nat) (xs : List Int) (ad : Addr) (c : Nat) (ys : List Int) (hs : a.eval s = .slice (some ⟨r, 0, none⟩) xs.length cap) (hx : a.eval x = .slice (some ad) ys.length c) (hown : Own B e K w (.slice (some ⟨r, 0, none⟩) xs.length cap) xs) (hu : Sl K w (.slice (some ad) ys.length c) ys)
    (hb : (xs.length + ys.length) * bytes ≤ 140737488355328) (h63 : xs.length + ys.length ≤ maxLen) (hbase : B ≤ w.heap.size)
    (h : ∀ (r' cap' : Nat) (w' : World), Own B e K w' (.slice (some ⟨r', 0, none⟩) (xs.length + ys.length) cap') (xs ++ ys) → w.grownBy w' (some r) → (r' = r ∨ r' = w.heap.size) → wpList P ops Q rest (a.put o.dst (.slice (some ⟨r', 0, none⟩) (xs.length + ys.length) cap')) w') :
    wpList P ops Q (o :: rest) a w := by
  obtain ⟨ao, cap0, e1, hlc, hcm, hnone, hc⟩ := hu
  cases e1
  obtain ⟨v', w', hr, h2, h3, h4⟩ := run_append_own (P := P) w B t o.type e i z 1 bytes ht hi hz hsize hby hzs (by decide) _ xs.length (xs.map (Value.int K)) hown ad ys.length c (ys.map (Value.int K)) (by simp) (Sl.news hc) (ints_oneCell K ys) h63 hb hbase
  obtain ⟨r', cap', rfl, hrr⟩ := run_blk w B t o.type e i z 1 bytes ht hi hz hsize hby r xs.length cap (xs.map (Value.int K)) hown ad ys.length c (ys.map (Value.int K)) (by simp) (Sl.news hc) (ints_oneCell K ys) h63 hb hr
  refine wpList_plain hgd fun _ hK => ?_
  unfold Oper.wp execOp
  simp only [ho, resolve, invoke, builtin, Sem.run_bind, Sem.run_pure, Result.andThen_ok, List.map_toArray, List.map_cons, List.map_nil, hs, hx, hr]
  refine hK _ _ (h r' cap' w' ?_ h3 hrr)
  unfold Own
  rw [List.length_append, List.map_append]; exact h2

/-- One string of a list that lies in a block of its own. -/
theorem pickT_any {w0 : World} {g : Nat} {v : Value} {xs : List Int} {w : World} (h : Cur w0 g v xs w) (hb : ∀ x ∈ xs, 0 ≤ x ∧ x ≤ 255) (M : Nat) (ts : List ByteArray) (hz : 0 < ts.length) (hz2 : ts.length ≤ 1000) (cs : Array Value) (hcs : cs.toList = ts.map Value.string) (n : Nat) (hn : n = ts.length) (hM : w.heap[M]? = some (.cells cs 9 (0, 0))) (hMg : M ≠ g) :
    Calls Tryz.prog 66 #[.pointer (some ⟨g, 0, none⟩), .slice (some ⟨M, 0, none⟩) n n] w fun e w' => ∃ t, e = .returned (.string t) ∧ t ∈ ts ∧ Cur w0 g v xs w' ∧ w.grownBy w' (some g) := by
  have hlt := h.lt
  have HC : Hid (∀ w1, w.grownBy w1 (some g) → ∀ k (hk : k < ts.length), w1.cell? ⟨M, k, none⟩ = some (.string ts[k])) := by
    intro w1 hg k hk
    have e := hg.block M (blk_lt hM) (fun e => by injection e with e; exact hMg e)
    have e2 : cs[k]? = some (.string ts[k]) := by
      have : cs.toList[k]? = some (.string ts[k]) := by rw [hcs]; simp [hk]
      simpa using this
    simp only [World.cell?, e, hM]
    simpa using e2
  have HB : Hid (∀ x ∈ xs, 0 ≤ x ∧ x ≤ 255) := hb
  clear hb hcs
  subst hn
  go_enter Tryz.func66, Tryz.ntmps66
  go_wp2_with fail
  go_at_call 68
  refine (below_any _ (by omega) h HB.out).mono ?_
  rintro e w1 ⟨x, rfl, x0, x1, x2, k1, g1⟩
  replace x1 := x1 (by omega)
  clear x2
  obtain ⟨k, rfl⟩ : ∃ k : Nat, x = k := ⟨x.toNat, by omega⟩
  have hkl : k < ts.length := by omega
  have c1 := HC.out w1 g1 k hkl
  go_wp2
  go_ret
  exact ⟨_, rfl, List.getElem_mem hkl, k1, g1⟩
end Go.Proofs.YtogdbjafibejdaaGreat

/- The draw of a tree, in plain words; the state of the draw. No condition. -/
namespace Go.Proofs.YtogdbjafibejdaaGreat
open Go.RowKit
set_option maxRecDepth 100000
set_option linter.unusedVariables false

/-- A node as drawn. -/
structure MildT (k : Nat) (n : PNode) : Prop where
  nm : n.name.size ≤ 100
  tx : n.text.size ≤ 100
  rs : n.attrs.length ≤ 40
  each : ∀ p ∈ n.attrs, p.1.size ≤ 3001 ∧ p.2.size ≤ 3001
  kl : n.kids.length ≤ k
  no0 : (0 : Int) ∉ n.kids
theorem MildT.fit {k : Nat} {n : PNode} (h : MildT k n) (hk : k ≤ 1000) : NodeFit n := ⟨by have := h.nm; omega, by have := h.tx; omega, by have := h.rs; omega, fun p hp => by have := h.each p hp; omega, by have := h.kl; omega⟩
theorem MildT.more {k k' : Nat} {n : PNode} (h : MildT k n) (hk : k ≤ k') : MildT k' n := ⟨h.nm, h.tx, h.rs, h.each, Nat.le_trans h.kl hk, h.no0⟩
/-- What is drawn behind k rounds. -/
structure DrT (ns : List PNode) (k : Nat) : Prop where
  cnt : ns.length = k + 1
  mild : ∀ n ∈ ns, MildT k n
  par0 : parOf ns 0 = -1
theorem drT_zero : DrT [⟨1, ⟨#[]⟩, [], ⟨#[]⟩, -1, []⟩] 0 := ⟨rfl, fun n hn => by simp at hn; subst hn; exact ⟨by decide, by decide, by simp, by simp, by simp, by simp⟩, rfl⟩
theorem drT_add {ns : List PNode} {k : Nat} (h : DrT ns k) {nd : PNode} (hm : MildT 0 nd) : DrT (ns ++ [nd]) (k + 1) := by
  refine ⟨by simp [h.cnt], fun n hn => ?_, ?_⟩
  · rcases List.mem_append.mp hn with hn | hn
    · exact (h.mild n hn).more (by omega)
    · simp at hn; subst hn; exact hm.more (by omega)
  · have := h.par0
    have hc := h.cnt
    unfold parOf at this ⊢
    rw [List.getElem?_append_left (by omega)]
    exact this
theorem parOf_modify' {ns : List PNode} {c : Nat} {f : PNode → PNode} (h : c ≠ 0 ∨ ∀ n, (f n).parent = n.parent) : parOf (ns.modify c f) 0 = parOf ns 0 := by
  unfold parOf
  rw [List.getElem?_modify]
  cases ns[0]? with
  | none => rfl
  | some n =>
    rcases h with h | h
    · simp [h]
    · by_cases e : c = 0 <;> simp [e, h]
theorem drT_hang {ns : List PNode} {k : Nat} (h : DrT ns (k + 1)) (hk : ∀ n ∈ ns, MildT k n) {p : Nat} (hp : p < ns.length) : DrT (parN (kidsN ns (k + 1) p) (k + 1) p) (k + 1) := by
  refine ⟨by simp [parN, kidsN, h.cnt], fun n hn => ?_, ?_⟩
  · unfold parN at hn
    obtain ⟨i, hi, rfl⟩ := List.mem_iff_getElem.mp hn
    rw [List.getElem_modify]
    have hi' : i < (kidsN ns (k + 1) p).length := by simpa using hi
    have hm : MildT (k + 1) (kidsN ns (k + 1) p)[i] := by
      simp only [kidsN, List.getElem_modify]
      have hi2 : i < ns.length := by simpa [kidsN] using hi'
      have hm0 := hk ns[i] (List.getElem_mem hi2)
      split
      · have hll := lessL_len ((k + 1 : Nat) : Int) ns[i].kids
        have hkl := hm0.kl
        refine ⟨hm0.nm, hm0.tx, hm0.rs, hm0.each, by simp only [List.length_append, List.length_singleton]; omega, fun h0 => ?_⟩
        rcases List.mem_append.mp h0 with h0 | h0
        · exact hm0.no0 (List.mem_filter.mp h0).1
        · simp only [List.mem_cons, List.not_mem_nil, or_false] at h0; omega
      · exact hm0.more (by omega)
    split
    · exact ⟨hm.nm, hm.tx, hm.rs, hm.each, hm.kl, hm.no0⟩
    · exact hm
  · unfold parN kidsN
    rw [parOf_modify' (.inl (by omega)), parOf_modify' (f := fun n => ⟨n.kind, n.name, n.attrs, n.text, n.parent, lessL ((k + 1 : Nat) : Int) n.kids ++ [((k + 1 : Nat) : Int)]⟩) (.inr (fun n => rfl))]
    exact h.par0

/-- While a tree is drawn: the answer's block, the tree's block, the cursor. -/
structure RtW (w0 w : World) (g : Nat) (cv : Value) (xs : List Int) (T : Nat) (nv : Value) (ns : List PNode) (W : World) : Prop where
  cur : Cur w0 g cv xs W
  bR : W.heap[w.heap.size]? = some (.cells #[.slice none 0 0] 26 (0, 0))
  bT : W.heap[T]? = some (.cells #[nv] 26 (0, 0))
  own : OwnN w.heap.size W nv ns
  gr : w.grownBy W (some g)
theorem ownN_low' {B : Nat} {w w' : World} {v : Value} {ns : List PNode} {row : Option Nat} (h : OwnN B w v ns) (hg : w.grownBy w' row) (hr : ∀ k, row = some k → k < B) : OwnN B w' v ns := by
  obtain ⟨qs, h1, h2, h3⟩ := h
  have key : ∀ {e size n : Nat} (u : Value) {xs : List Value}, w.ownsRow B e size u n xs → w'.ownsRow B e size u n xs := fun {e size n} u {xs} h => by
    refine h.kept hg ?_
    by_cases hv : u.ownBlock = none
    · exact .inl hv
    · refine .inr fun e => ?_
      cases hrow : row with
      | none => rw [hrow] at e; exact hv e
      | some k => have h4 := hr k hrow; rw [hrow] at e; have := (h.lt k e).1; omega
  exact ⟨qs, h1, key _ h2, fun q hq => ⟨key _ (h3 q hq).1, key _ (h3 q hq).2⟩⟩
theorem RtW.cursor {w0 w W W' : World} {g : Nat} {cv : Value} {xs : List Int} {T : Nat} {nv : Value} {ns : List PNode} (h : RtW w0 w g cv xs T nv ns W) (hc : Cur w0 g cv xs W') (hg : W.grownBy W' (some g)) (hgl : g < w.heap.size) (hT : w.heap.size < T) : RtW w0 w g cv xs T nv ns W' :=
  ⟨hc, (hg.block _ (blk_lt h.bR) (fun e => by simp only [Option.some.injEq] at e; omega)).trans h.bR, (hg.block _ (blk_lt h.bT) (fun e => by simp only [Option.some.injEq] at e; omega)).trans h.bT, ownN_low' h.own hg (fun k e => by cases e; exact hgl), grown_trans h.gr hg⟩
theorem RtW.below {w0 w W W' : World} {g : Nat} {cv : Value} {xs : List Int} {T : Nat} {nv : Value} {ns : List PNode} (h : RtW w0 w g cv xs T nv ns W) (hb : Below W.heap.size W W') : RtW w0 w g cv xs T nv ns W' :=
  ⟨h.cur.below hb, (hb.block _ (blk_lt h.bR)).trans h.bR, (hb.block _ (blk_lt h.bT)).trans h.bT, h.own.below hb, grown_below h.gr hb⟩
/-- A block of the call's own, made since, is turned; the tree's row is none of them. -/
theorem RtW.turn {w0 w W W' : World} {g : Nat} {cv : Value} {xs : List Int} {T : Nat} {nv : Value} {ns : List PNode} {W1 : World} (h : RtW w0 w g cv xs T nv ns W1) (b : Below W1.heap.size W1 W) {p : Nat} (hg : W.grownBy W' (some p)) (hp : W1.heap.size ≤ p) (hgl : g < w.heap.size) : RtW w0 w g cv xs T nv ns W' := by
  have hb : Below W1.heap.size W1 W' := b.grown hg b.size (fun k e => by cases e; exact hp)
  exact h.below hb
/-- A new tree in the tree's block. -/
theorem RtW.tree {w0 w W : World} {g : Nat} {cv : Value} {xs : List Int} {T : Nat} {nv : Value} {ns : List PNode} (h : RtW w0 w g cv xs T nv ns W) {v2 : Value} {ns2 : List PNode} (o : OwnN w.heap.size W v2 ns2) (hgl : g < w.heap.size) (hT : w.heap.size < T) : RtW w0 w g cv xs T v2 ns2 (W.setCell ⟨T, 0, none⟩ v2) := by
  have hg := grown_setCell W T 0 v2
  have hsw := h.gr.size
  refine ⟨h.cur.kept hg (fun e => by simp only [Option.some.injEq] at e; omega) (fun k e => by cases e; have := h.cur.1; omega), (hg.block _ (blk_lt h.bR) (fun e => by simp only [Option.some.injEq] at e; omega)).trans h.bR, setCell_at h.bT, o.kept hg (fun k e => by cases e; exact ⟨_, _, _, h.bT, by decide, by decide, by decide⟩), ?_⟩
  exact ⟨hg.os.trans h.gr.os, hg.tape.trans h.gr.tape, hg.output.trans h.gr.output, Nat.le_trans h.gr.size hg.size, fun j hj hne => (hg.block j (by omega) (fun e => by simp only [Option.some.injEq] at e; omega)).trans (h.gr.block j hj hne)⟩
/-- The answer's block written. -/
theorem RtW.fin {w0 w W : World} {g : Nat} {cv : Value} {xs : List Int} {T : Nat} {nv : Value} {ns : List PNode} (h : RtW w0 w g cv xs T nv ns W) (hgl : g < w.heap.size) (u : Value) : OwnN w.heap.size (W.setCell ⟨w.heap.size, 0, none⟩ u) nv ns ∧ Cur w0 g cv xs (W.setCell ⟨w.heap.size, 0, none⟩ u) ∧ w.grownBy (W.setCell ⟨w.heap.size, 0, none⟩ u) (some g) := by
  have hg : W.grownBy (W.setCell ⟨w.heap.size, 0, none⟩ u) (some w.heap.size) := grown_setCell _ _ _ _
  have hsw := h.gr.size
  exact ⟨h.own.kept hg (fun k e => by cases e; exact ⟨_, _, _, h.bR, by decide, by decide, by decide⟩), h.cur.kept hg (fun e => by simp only [Option.some.injEq] at e; omega) (fun k e => by cases e; have := h.cur.1; omega), ⟨hg.os.trans h.gr.os, hg.tape.trans h.gr.tape, hg.output.trans h.gr.output, Nat.le_trans h.gr.size hg.size, fun j hj hne => (hg.block j (by omega) (fun e => by simp only [Option.some.injEq] at e; omega)).trans (h.gr.block j hj hne)⟩⟩
end Go.Proofs.YtogdbjafibejdaaGreat
