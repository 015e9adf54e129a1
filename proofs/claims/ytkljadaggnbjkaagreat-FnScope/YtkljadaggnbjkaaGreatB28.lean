import Derived.Test.YtkljadaggnbjkaaGreatGrow
import Derived.Test.YtkljadaggnbjkaaGreatB23
import Derived.Test.YtkljadaggnbjkaaGreatB8
import Derived.Laws.Append
import Derived.Test.YtkljadaggnbjkaaGreatB27
import Derived.Test.YtkljadaggnbjkaaGreatB16
/- append of integers that tells its block: the old one, or a new one. No condition. -/
namespace Go.Proofs.YtkljadaggnbjkaaGreat
open Go.RowKit
set_option maxRecDepth 100000
set_option linter.unusedVariables false

theorem run_blk {P : Program} (w : World) (base : Nat) (t ty e : TypeId) (i : TypeInfo) (z : Value) (size bytes : Nat) (ht : P.underlying t = some (.slice e)) (hi : P.info? e = some i) (hz : i.zero = some z)
    (hsize : i.size = size) (hby : i.bytes = bytes) (r n cap : Nat) (xs : List Value) (hown : w.ownsRow base e size (.slice (some ⟨r, 0, none⟩) n cap) n xs)
    (a : Addr) (m c : Nat) (news : List Value) (hl : news.length = m * size) (hnews : ∀ j u, news[j]? = some u → w.cell? (a.add j) = some u) (h1 : ∀ u ∈ news, u.oneCell' = true)
    (h63 : n + m ≤ maxLen) (hbytes : (n + m) * bytes ≤ 140737488355328) {v' : Value} {w' : World} (hr : (Builtin.append_ #[t, t] ty #[.slice (some ⟨r, 0, none⟩) n cap, .slice (some a) m c]).run P w = .ok v' w') :
    ∃ r' cap', v' = .slice (some ⟨r', 0, none⟩) (n + m) cap' ∧ (r' = r ∨ r' = w.heap.size) := by
  subst hsize
  subst hby
  have hsmall : n + m ≤ 9223372036854775807 := by simp only [maxLen] at h63; omega
  rcases hown.2 with ⟨e1, _⟩ | ⟨g, cap', cur, e1, hbg, hg, hnc, hcm, hcs, htake⟩
  · cases e1
  · cases e1
    by_cases hroom : n + m ≤ cap
    · have hfit : n * i.size + news.length ≤ cur.size := by rw [hl, hcs, ← Nat.add_mul]; exact Nat.mul_le_mul_right _ hroom
      have hr2 := run_append_room (P := P) w t ty e i ht hi r n cap cur hg a m c news hl hnews h1 hroom hfit
      rw [hr] at hr2
      cases hr2
      exact ⟨_, _, rfl, .inl rfl⟩
    · have holds : ∀ j u, xs[j]? = some u → w.cell? ((⟨r, 0, none⟩ : Addr).add j) = some u := hown.cells (g := r) rfl
      have hr2 := run_append_grow (P := P) w t ty e i z ht hi hz ⟨r, 0, none⟩ n cap xs hown.1 holds a m c news hl hnews (by omega) (by omega) (growslice_fits (by omega) hbytes)
      rw [hr] at hr2
      cases hr2
      exact ⟨_, _, rfl, .inr rfl⟩

/-- 'v = append(v, u...)' for integers: where the new one lies. -/
theorem wpList_appB {P : Program} (w : World) {ops : Array Oper} {rest : List Oper} {o : Oper} {a : Act} {Q : Exit → Act → World → Prop} (hgd : o.guard = none)
    (s x : Operand) (t : TypeId) (ho : o.op = Op.call { callee := Callee.builtin Builtin.append, args := #[s, x], argTypes := #[t, t] }) (B : Nat) (e : TypeId) (i : TypeInfo)
    (z : Value) (bytes : Nat) (ht : P.underlying t = some (TypeDesc.slice e)) (hi : P.info? e = some i) (hz : i.zero = some z) (hsize : i.size = 1) (hby : i.bytes = bytes)
    (hzs : z.cells.size = 1) (K : IntKind) (r cap : Nat) (xs : List Int) (ad : Addr) (c : Nat) (ys : List Int) (hs : a.eval s = .slice (some ⟨r, 0, none⟩) xs.length cap) (hx : a.eval x = .slice (some ad) ys.length c) (hown : Own B e K w (.slice (some ⟨r, 0, none⟩) xs.length cap) xs) (hu : Sl K w (.slice (some ad) ys.length c) ys)
    (hb : (xs.length + ys.length) * bytes ≤ 140737488355328) (h63 : xs.length + ys.length ≤ maxLen) (hbase : B ≤ w.heap.size)
    (h : ∀ (r' cap' : Nat) (w' : World), Own B e K w' (.slice (some ⟨r', 0, none⟩) (xs.length + ys.length) cap') (xs ++ ys) → w.grownBy w' (some r) → (r' = r ∨ r' = w.heap.size) → wpList P ops Q rest (a.put o.dst (.slice (some ⟨r', 0, none⟩) (xs.length + ys.length) cap')) w') :
    wpList P ops Q (o :: rest) a w := by
  obtain ⟨ao, cap0, e1, hlc, hcm, hnone, hc⟩ := hu
  cases e1
  obtain ⟨v', w', hr, h2, h3, h4⟩ := run_append_own (P := P) w B t o.type e i z 1 bytes ht hi hz hsize hby hzs (by decide) _ xs.length (xs.map (Value.int K)) hown ad ys.length c (ys.map (Value.int K)) (by simp) (Sl.news hc) (ints_oneCell K ys) h63 hb hbase
  obtain ⟨r', cap', rfl, hrr⟩ := run_blk w B t o.type e i z 1 bytes ht hi hz hsize hby r xs.length cap (xs.map (Value.int K)) hown ad ys.length c (ys.map (Value.int K)) (by simp) (Sl.news hc) (ints_oneCell K ys) h63 hb hr
  refine wpList_plain hgd fun _ hK => ?_
  unfold Oper.wp execOp
  simp only [ho, resolve, invoke, builtin, Sem.run_bind, Sem.run_pure, Result.andThen_ok, List.map_toArray, List.map_cons, List.map_nil, hs, hx, hr]
  refine hK _ _ (h r' cap' w' ?_ h3 hrr)
  unfold Own
  rw [List.length_append, List.map_append]; exact h2

/-- One string of a list that lies in a block of its own. -/
theorem pickT_any {w0 : World} {g : Nat} {v : Value} {xs : List Int} {w : World} (h : Cur w0 g v xs w) (hb : ∀ x ∈ xs, 0 ≤ x ∧ x ≤ 255) (M : Nat) (ts : List ByteArray) (hz : 0 < ts.length) (hz2 : ts.length ≤ 1000) (cs : Array Value) (hcs : cs.toList = ts.map Value.string) (n : Nat) (hn : n = ts.length) (hM : w.heap[M]? = some (.cells cs 9 (0, 0))) (hMg : M ≠ g) :
    Calls Tryz.prog 55 #[.pointer (some ⟨g, 0, none⟩), .slice (some ⟨M, 0, none⟩) n n] w fun e w' => ∃ t, e = .returned (.string t) ∧ t ∈ ts ∧ Cur w0 g v xs w' ∧ w.grownBy w' (some g) := by
  have hlt := h.lt
  have HC : Hid (∀ w1, w.grownBy w1 (some g) → ∀ k (hk : k < ts.length), w1.cell? ⟨M, k, none⟩ = some (.string ts[k])) := by
    intro w1 hg k hk
    have e := hg.block M (blk_lt hM) (fun e => by injection e with e; exact hMg e)
    have e2 : cs[k]? = some (.string ts[k]) := by
      have : cs.toList[k]? = some (.string ts[k]) := by rw [hcs]; simp [hk]
      simpa using this
    simp only [World.cell?, e, hM]
    simpa using e2
  have HB : Hid (∀ x ∈ xs, 0 ≤ x ∧ x ≤ 255) := hb
  clear hb hcs
  subst hn
  go_enter Tryz.func55, Tryz.ntmps55
  go_wp2_with fail
  go_at_call 32
  refine (below_any _ (by omega) h HB.out).mono ?_
  rintro e w1 ⟨x, rfl, x0, x1, x2, k1, g1⟩
  replace x1 := x1 (by omega)
  clear x2
  obtain ⟨k, rfl⟩ : ∃ k : Nat, x = k := ⟨x.toNat, by omega⟩
  have hkl : k < ts.length := by omega
  have c1 := HC.out w1 g1 k hkl
  go_wp2
  go_ret
  exact ⟨_, rfl, List.getElem_mem hkl, k1, g1⟩
end Go.Proofs.YtkljadaggnbjkaaGreat

/- The state of the draws of a row. No condition. -/
namespace Go.Proofs.YtkljadaggnbjkaaGreat
open Go.RowKit
set_option maxRecDepth 100000
set_option linter.unusedVariables false

/-- Nodes that the call made, none of whose lists of Kids lies in block r. -/
def OwnR (B : Nat) (w : World) (v : Value) (ns : List PNode) (r : Nat) : Prop :=
  ∃ qs : List (PNode × (Value × Value)), qs.map (fun q => q.1) = ns ∧ w.ownsRow B 37 6 v ns.length (nodeCells qs) ∧
    ∀ q ∈ qs, (w.ownsRow B 110 2 q.2.1 q.1.attrs.length (pairCells q.1.attrs) ∧ Own B 3 .i64 w q.2.2 q.1.kids) ∧ q.2.2.ownBlock ≠ some r
theorem OwnR.toN {B r : Nat} {w : World} {v : Value} {ns : List PNode} (h : OwnR B w v ns r) : OwnN B w v ns := by
  obtain ⟨qs, h1, h2, h3⟩ := h
  exact ⟨qs, h1, h2, fun q hq => (h3 q hq).1⟩
theorem OwnN.toR {S r : Nat} {w : World} {v : Value} {ns : List PNode} (h : OwnN S w v ns) (hr : r < S) : OwnR S w v ns r := by
  obtain ⟨qs, h1, h2, h3⟩ := h
  exact ⟨qs, h1, h2, fun q hq => ⟨h3 q hq, fun e => by have := ((h3 q hq).2.lt r e).1; omega⟩⟩
theorem OwnR.base {B B' r : Nat} {w : World} {v : Value} {ns : List PNode} (h : OwnR B w v ns r) (hB : B' ≤ B) : OwnR B' w v ns r := by
  obtain ⟨qs, h1, h2, h3⟩ := h
  exact ⟨qs, h1, ownsRow_base h2 hB, fun q hq => ⟨⟨ownsRow_base (h3 q hq).1.1 hB, (h3 q hq).1.2.base hB⟩, (h3 q hq).2⟩⟩
theorem OwnR.below {B r : Nat} {w w' : World} {v : Value} {ns : List PNode} (h : OwnR B w v ns r) (hb : Below w.heap.size w w') : OwnR B w' v ns r := by
  obtain ⟨qs, h1, h2, h3⟩ := h
  exact ⟨qs, h1, ownsRow_below h2 hb, fun q hq => ⟨⟨ownsRow_below (h3 q hq).1.1 hb, (h3 q hq).1.2.below hb⟩, (h3 q hq).2⟩⟩
/-- What lies below the base is turned: the nodes stay. -/
theorem OwnR.low {B r : Nat} {w w' : World} {v : Value} {ns : List PNode} {row : Option Nat} (h : OwnR B w v ns r) (hg : w.grownBy w' row) (hr : ∀ k, row = some k → k < B) : OwnR B w' v ns r := by
  obtain ⟨qs, h1, h2, h3⟩ := h
  have key : ∀ {e size n : Nat} (u : Value) {xs : List Value}, w.ownsRow B e size u n xs → w'.ownsRow B e size u n xs := fun {e size n} u {xs} h => by
    refine h.kept hg ?_
    by_cases hv : u.ownBlock = none
    · exact .inl hv
    · refine .inr fun e => ?_
      cases hrow : row with
      | none => rw [hrow] at e; exact hv e
      | some k => have h4 := hr k hrow; rw [hrow] at e; have := (h.lt k e).1; omega
  exact ⟨qs, h1, key _ h2, fun q hq => ⟨⟨key _ (h3 q hq).1.1, key _ (h3 q hq).1.2⟩, (h3 q hq).2⟩⟩
theorem OwnR.typ {B r : Nat} {w w' : World} {v : Value} {ns : List PNode} {row : Option Nat} (h : OwnR B w v ns r) (hg : w.grownBy w' row)
    (hr : ∀ r, row = some r → ∃ cs t fr, w.heap[r]? = some (.cells cs t fr) ∧ t ≠ 37 ∧ t ≠ 110 ∧ t ≠ 3) : OwnR B w' v ns r := by
  obtain ⟨qs, h1, h2, h3⟩ := h
  exact ⟨qs, h1, kept_of_type h2 hg (fun r e => by obtain ⟨a, b, c, d, e1, e2, e3⟩ := hr r e; exact ⟨a, b, c, d, e1⟩),
    fun q hq => ⟨⟨kept_of_type (h3 q hq).1.1 hg (fun r e => by obtain ⟨a, b, c, d, e1, e2, e3⟩ := hr r e; exact ⟨a, b, c, d, e2⟩), kept_of_type (h3 q hq).1.2 hg (fun r e => by obtain ⟨a, b, c, d, e1, e2, e3⟩ := hr r e; exact ⟨a, b, c, d, e3⟩)⟩, (h3 q hq).2⟩⟩
/-- Block r, of integers, is turned: the nodes stay, and none of their lists is the new row's. -/
theorem OwnR.app {B r r' : Nat} {w w' : World} {v : Value} {ns : List PNode} (h : OwnR B w v ns r) (hg : w.grownBy w' (some r)) {cs : Array Value} {fr : Nat × Nat} (ht : w.heap[r]? = some (.cells cs 3 fr)) (hr : r' = r ∨ w.heap.size ≤ r') : OwnR B w' v ns r' := by
  obtain ⟨qs, h1, h2, h3⟩ := h
  refine ⟨qs, h1, kept_of_type h2 hg (fun k e => by cases e; exact ⟨_, _, _, ht, by decide⟩), fun q hq => ⟨⟨kept_of_type (h3 q hq).1.1 hg (fun k e => by cases e; exact ⟨_, _, _, ht, by decide⟩), World.ownsRow.kept (h3 q hq).1.2 hg (.inr (h3 q hq).2)⟩, fun e => ?_⟩⟩
  rcases hr with rfl | hr
  · exact (h3 q hq).2 e
  · have := ((h3 q hq).1.2.lt r' e).2; omega
theorem own_blk {B r n c : Nat} {w : World} {xs : List Int} (h : Own B 3 .i64 w (.slice (some ⟨r, 0, none⟩) n c) xs) : ∃ cs, w.heap[r]? = some (.cells cs 3 (0, 0)) := by
  obtain ⟨_, ⟨e, _⟩ | ⟨g, cap, cur, e, _, hh, _⟩⟩ := h
  · cases e
  · cases e; exact ⟨_, hh⟩
theorem own_low {B e : Nat} {K : IntKind} {w w' : World} {v : Value} {xs : List Int} {row : Option Nat} (h : Own B e K w v xs) (hg : w.grownBy w' row) (hr : ∀ k, row = some k → k < B) : Own B e K w' v xs := by
  refine World.ownsRow.kept h hg ?_
  by_cases hv : v.ownBlock = none
  · exact .inl hv
  · refine .inr fun e => ?_
    cases hrow : row with
    | none => rw [hrow] at e; exact hv e
    | some k => have h4 := hr k hrow; rw [hrow] at e; have := (h.lt k e).1; omega

def drawNames : List ByteArray := [⟨#[104, 116, 109, 108]⟩, ⟨#[98, 111, 100, 121]⟩, ⟨#[112]⟩, ⟨#[108, 105]⟩, ⟨#[117, 108]⟩, ⟨#[98]⟩, ⟨#[100, 105, 118]⟩, ⟨#[98, 117, 116, 116, 111, 110]⟩, ⟨#[100, 100]⟩, ⟨#[111, 98, 106, 101, 99, 116]⟩, ⟨#[116, 97, 98, 108, 101]⟩, ⟨#[111, 112, 116, 105, 111, 110]⟩, ⟨#[105]⟩, ⟨#[111, 108]⟩, ⟨#[112]⟩, ⟨#[104, 49]⟩, ⟨#[97]⟩]
def namesArr : Array Value := (drawNames.map Value.string).toArray
theorem drawNames_small : ∀ t ∈ drawNames, t.size ≤ 100 := by decide

/-- A small node. -/
def Mild (k : Nat) (n : PNode) : Prop := n.name.size ≤ 100 ∧ n.text.size ≤ 100 ∧ n.attrs = [] ∧ n.kids.length ≤ k
theorem Mild.fit {k : Nat} {n : PNode} (h : Mild k n) (hk : k ≤ 1000) : NodeFit n := ⟨by have := h.1; omega, by have := h.2.1; omega, by rw [h.2.2.1]; simp, by rw [h.2.2.1]; simp, by have := h.2.2.2; omega⟩
/-- What is drawn so far, behind k rounds. -/
structure Drawn (ns : List PNode) (row : List Int) (k : Nat) : Prop where
  cnt : ns.length = k + 1
  mild : ∀ n ∈ ns, Mild k n
  par0 : parOf ns 0 = -1
  rowl : row.length ≤ k
  rowin : ∀ x ∈ row, 0 ≤ x ∧ x < ns.length
theorem drawn_zero : Drawn [⟨1, ⟨#[]⟩, [], ⟨#[]⟩, -1, []⟩] [] 0 :=
  ⟨rfl, fun n hn => by simp at hn; subst hn; exact ⟨by decide, by decide, rfl, by simp⟩, rfl, Nat.le_refl _, fun x hx => by cases hx⟩
theorem parOf_modify {ns : List PNode} {c : Nat} {f : PNode → PNode} (h : c ≠ 0 ∨ ∀ n, (f n).parent = n.parent) : parOf (ns.modify c f) 0 = parOf ns 0 := by
  unfold parOf
  rw [List.getElem?_modify]
  cases ns[0]? with
  | none => rfl
  | some n =>
    rcases h with h | h
    · simp [h]
    · by_cases e : c = 0 <;> simp [e, h]
theorem drawn_succ {ns : List PNode} {row : List Int} {k : Nat} (h : Drawn ns row k) {nm : ByteArray} (hnm : nm.size ≤ 100) {p : Nat} (hp : p < ns.length) :
    Drawn (parN (kidsN (ns ++ [⟨3, nm, [], ⟨#[]⟩, -1, []⟩]) (k + 1) p) (k + 1) p) row (k + 1) := by
  have hc := h.cnt
  have hlen : (parN (kidsN (ns ++ [⟨3, nm, [], ⟨#[]⟩, -1, []⟩]) (k + 1) p) (k + 1) p).length = k + 2 := by simp [parN, kidsN, hc]
  refine ⟨hlen, fun n hn => ?_, ?_, by have := h.rowl; omega, fun x hx => ?_⟩
  · unfold parN at hn
    obtain ⟨i, hi, rfl⟩ := List.mem_iff_getElem.mp hn
    rw [List.getElem_modify]
    have hi' : i < (kidsN (ns ++ [⟨3, nm, [], ⟨#[]⟩, -1, []⟩]) (k + 1) p).length := by simpa using hi
    have hm : Mild (k + 1) (kidsN (ns ++ [⟨3, nm, [], ⟨#[]⟩, -1, []⟩]) (k + 1) p)[i] := by
      simp only [kidsN, List.getElem_modify]
      have hi2 : i < (ns ++ [(⟨3, nm, [], ⟨#[]⟩, -1, []⟩ : PNode)]).length := by simpa [kidsN] using hi'
      have hm0 : Mild k (ns ++ [(⟨3, nm, [], ⟨#[]⟩, -1, []⟩ : PNode)])[i] := by
        rcases List.mem_append.mp (List.getElem_mem hi2) with hx | hx
        · exact h.mild _ hx
        · have hx' := List.mem_singleton.mp hx
          rw [hx']
          exact ⟨hnm, by show (ByteArray.mk #[]).size ≤ 100; decide, rfl, by simp⟩
      split
      · have hll := lessL_len ((k + 1 : Nat) : Int) (ns ++ [(⟨3, nm, [], ⟨#[]⟩, -1, []⟩ : PNode)])[i].kids
        refine ⟨hm0.1, hm0.2.1, hm0.2.2.1, ?_⟩
        have := hm0.2.2.2
        simp only [List.length_append, List.length_singleton]
        omega
      · exact ⟨hm0.1, hm0.2.1, hm0.2.2.1, by have := hm0.2.2.2; omega⟩
    split
    · exact ⟨hm.1, hm.2.1, hm.2.2.1, hm.2.2.2⟩
    · exact hm
  · unfold parN kidsN
    rw [parOf_modify (.inl (by omega)), parOf_modify (f := fun n => ⟨n.kind, n.name, n.attrs, n.text, n.parent, lessL ((k + 1 : Nat) : Int) n.kids ++ [((k + 1 : Nat) : Int)]⟩) (.inr (fun n => rfl))]
    have := h.par0
    unfold parOf at this ⊢
    rw [List.getElem?_append_left (by omega)]
    exact this
  · have := h.rowin x hx
    rw [hlen]; omega
theorem drawn_row {ns : List PNode} {row : List Int} {k : Nat} (h : Drawn ns row k) {j : Nat} (hj : k = j + 1) (hr : row.length ≤ j) : Drawn ns (row ++ [(k : Int)]) k :=
  ⟨h.cnt, h.mild, h.par0, by simp; omega, fun x hx => by
    rcases List.mem_append.mp hx with hx | hx
    · exact h.rowin x hx
    · have := List.mem_singleton.mp hx
      have hc := h.cnt
      subst this
      omega⟩
end Go.Proofs.YtkljadaggnbjkaaGreat

/- The draw of a row: l10DrawRow. No condition. -/
namespace Go.Proofs.YtkljadaggnbjkaaGreat
open Go.RowKit
set_option maxRecDepth 100000
set_option linter.unusedVariables false

structure DrW (w0 w : World) (g : Nat) (cv : Value) (xs : List Int) (T M : Nat) (nv : Value) (ns : List PNode) (r rc : Nat) (row : List Int) (W : World) : Prop where
  cur : Cur w0 g cv xs W
  bR : W.heap[w.heap.size]? = some (.cells #[.slice none 0 0] 26 (0, 0))
  bT : W.heap[T]? = some (.cells #[nv] 26 (0, 0))
  bM : W.heap[M]? = some (.cells namesArr 9 (0, 0))
  own : OwnR w.heap.size W nv ns r
  rw : Own w.heap.size 3 .i64 W (.slice (some ⟨r, 0, none⟩) row.length rc) row
  gr : w.grownBy W (some g)
theorem grown_both {w w1 w2 : World} {g : Nat} (h : w.grownBy w1 (some g)) (k : w1.grownBy w2 (some g)) : w.grownBy w2 (some g) :=
  ⟨k.os.trans h.os, k.tape.trans h.tape, k.output.trans h.output, Nat.le_trans h.size k.size, fun j hj hne => (k.block j (Nat.lt_of_lt_of_le hj h.size) hne).trans (h.block j hj hne)⟩
theorem DrW.cursor {w0 w W W' : World} {g : Nat} {cv : Value} {xs : List Int} {T M : Nat} {nv : Value} {ns : List PNode} {r rc : Nat} {row : List Int} (h : DrW w0 w g cv xs T M nv ns r rc row W) (hc : Cur w0 g cv xs W') (hg : W.grownBy W' (some g)) (hgl : g < w.heap.size) (hT : w.heap.size < T) (hM : w.heap.size ≤ M) : DrW w0 w g cv xs T M nv ns r rc row W' :=
  ⟨hc, (hg.block _ (blk_lt h.bR) (fun e => by simp only [Option.some.injEq] at e; omega)).trans h.bR, (hg.block _ (blk_lt h.bT) (fun e => by simp only [Option.some.injEq] at e; omega)).trans h.bT,
    (hg.block _ (blk_lt h.bM) (fun e => by simp only [Option.some.injEq] at e; omega)).trans h.bM, h.own.low hg (fun k e => by cases e; exact hgl), own_low h.rw hg (fun k e => by cases e; exact hgl), grown_both h.gr hg⟩
theorem DrW.below {w0 w W W' : World} {g : Nat} {cv : Value} {xs : List Int} {T M : Nat} {nv : Value} {ns : List PNode} {r rc : Nat} {row : List Int} (h : DrW w0 w g cv xs T M nv ns r rc row W) (hb : Below W.heap.size W W') : DrW w0 w g cv xs T M nv ns r rc row W' :=
  ⟨h.cur.below hb, (hb.block _ (blk_lt h.bR)).trans h.bR, (hb.block _ (blk_lt h.bT)).trans h.bT, (hb.block _ (blk_lt h.bM)).trans h.bM, h.own.below hb, h.rw.below hb, grown_below h.gr hb⟩
theorem DrW.rlt {w0 w W : World} {g : Nat} {cv : Value} {xs : List Int} {T M : Nat} {nv : Value} {ns : List PNode} {r rc : Nat} {row : List Int} (h : DrW w0 w g cv xs T M nv ns r rc row W) : w.heap.size ≤ r ∧ r < W.heap.size := World.ownsRow.lt h.rw r rfl
/-- A new tree in the tree's block. -/
theorem DrW.tree {w0 w W : World} {g : Nat} {cv : Value} {xs : List Int} {T M : Nat} {nv : Value} {ns : List PNode} {r rc : Nat} {row : List Int} (h : DrW w0 w g cv xs T M nv ns r rc row W) {W5 W6 : World} (b5 : Below W.heap.size W W5) {p : Nat} (hg6 : W5.grownBy W6 (some p)) (hp : W.heap.size ≤ p) {v2 : Value} {ns3 : List PNode} (o6 : OwnN W.heap.size W6 v2 ns3)
    (hgl : g < w.heap.size) (hT : w.heap.size < T) (hM : w.heap.size ≤ M) : DrW w0 w g cv xs T M v2 ns3 r rc row (W6.setCell ⟨T, 0, none⟩ v2) := by
  have h5 := h.below b5
  have hs := b5.size
  have hsw := h.gr.size
  have ltR := blk_lt h.bR
  have ltT := blk_lt h.bT
  have ltM := blk_lt h.bM
  have ltr := h.rlt
  have e6 : ∀ j, j < W.heap.size → W6.heap[j]? = W5.heap[j]? := fun j hj => hg6.block j (by omega) (fun e => by simp only [Option.some.injEq] at e; omega)
  have gT := (e6 T ltT).trans h5.bT
  have hg7 : W6.grownBy (W6.setCell ⟨T, 0, none⟩ v2) (some T) := grown_setCell _ _ _ _
  have hMT : M ≠ T := fun e => by have := h.bM; rw [e, h.bT] at this; simp at this
  have c6 : Cur w0 g cv xs W6 := h5.cur.kept hg6 (fun e => by simp only [Option.some.injEq] at e; have := h.cur.lt; omega) (fun k e => by cases e; have := h.cur.2.2.1.size; omega)
  have rw6 : Own w.heap.size 3 .i64 W6 (.slice (some ⟨r, 0, none⟩) row.length rc) row := World.ownsRow.kept h5.rw hg6 (.inr (fun e => by simp only [Value.ownBlock, Option.some.injEq] at e; omega))
  refine ⟨c6.kept hg7 (fun e => by simp only [Option.some.injEq] at e; omega) (fun k e => by cases e; have := h.cur.1; omega), ?_, setCell_at gT, ?_, ?_, ?_, ?_⟩
  · exact (hg7.block _ (by have := hg6.size; omega) (fun e => by simp only [Option.some.injEq] at e; omega)).trans ((e6 _ ltR).trans h5.bR)
  · exact (hg7.block _ (by have := hg6.size; omega) (fun e => by simp only [Option.some.injEq] at e; exact hMT e)).trans ((e6 _ ltM).trans h5.bM)
  · exact ((o6.toR ltr.2).base hsw).typ hg7 (fun k e => by cases e; exact ⟨_, _, _, gT, by decide, by decide, by decide⟩)
  · exact kept_of_type rw6 hg7 (fun k e => by cases e; exact ⟨_, _, _, gT, by decide⟩)
  · have g5 := h5.gr
    refine ⟨(hg7.os.trans hg6.os).trans g5.os, (hg7.tape.trans hg6.tape).trans g5.tape, (hg7.output.trans hg6.output).trans g5.output, Nat.le_trans g5.size (Nat.le_trans hg6.size hg7.size), fun j hj hne => ?_⟩
    rw [hg7.block j (by have := hg6.size; have := g5.size; omega) (fun e => by simp only [Option.some.injEq] at e; omega), hg6.block j (by have := g5.size; omega) (fun e => by simp only [Option.some.injEq] at e; omega)]
    exact g5.block j hj hne
/-- The row grown. -/
theorem DrW.push {w0 w W W' : World} {g : Nat} {cv : Value} {xs : List Int} {T M : Nat} {nv : Value} {ns : List PNode} {r rc : Nat} {row : List Int} (h : DrW w0 w g cv xs T M nv ns r rc row W) (hg : W.grownBy W' (some r)) {r' c' : Nat} {ys : List Int} (o' : Own w.heap.size 3 .i64 W' (.slice (some ⟨r', 0, none⟩) (row.length + ys.length) c') (row ++ ys)) (hr : r' = r ∨ r' = W.heap.size)
    (hgl : g < w.heap.size) (hT : w.heap.size < T) (hM : w.heap.size ≤ M) : DrW w0 w g cv xs T M nv ns r' c' (row ++ ys) W' := by
  obtain ⟨cs, hcs⟩ := own_blk h.rw
  have ltr := h.rlt
  have neT : r ≠ T := fun e => by have := h.bT; rw [← e, hcs] at this; simp at this
  have neR : r ≠ w.heap.size := fun e => by have := h.bR; rw [← e, hcs] at this; simp at this
  have neM : r ≠ M := fun e => by have := h.bM; rw [← e, hcs] at this; simp at this
  have c' := h.cur.kept hg (fun e => by simp only [Option.some.injEq] at e; omega) (fun k e => by cases e; have := h.cur.1; omega)
  refine ⟨c', (hg.block _ (blk_lt h.bR) (fun e => by simp only [Option.some.injEq] at e; exact neR e.symm)).trans h.bR, (hg.block _ (blk_lt h.bT) (fun e => by simp only [Option.some.injEq] at e; exact neT e.symm)).trans h.bT,
    (hg.block _ (blk_lt h.bM) (fun e => by simp only [Option.some.injEq] at e; exact neM e.symm)).trans h.bM, h.own.app hg hcs (hr.imp id (fun e => by omega)), by rw [List.length_append]; exact o', ?_⟩
  have g5 := h.gr
  exact ⟨hg.os.trans g5.os, hg.tape.trans g5.tape, hg.output.trans g5.output, Nat.le_trans g5.size hg.size, fun j hj hne => (hg.block j (by have := g5.size; omega) (fun e => by simp only [Option.some.injEq] at e; omega)).trans (g5.block j hj hne)⟩
/-- The answer's block written. -/
theorem DrW.fin {w0 w W : World} {g : Nat} {cv : Value} {xs : List Int} {T M : Nat} {nv : Value} {ns : List PNode} {r rc : Nat} {row : List Int} (h : DrW w0 w g cv xs T M nv ns r rc row W) (hgl : g < w.heap.size) (u : Value) : OwnN w.heap.size (W.setCell ⟨w.heap.size, 0, none⟩ u) nv ns ∧ Own w.heap.size 3 .i64 (W.setCell ⟨w.heap.size, 0, none⟩ u) (.slice (some ⟨r, 0, none⟩) row.length rc) row ∧ Cur w0 g cv xs (W.setCell ⟨w.heap.size, 0, none⟩ u) ∧ w.grownBy (W.setCell ⟨w.heap.size, 0, none⟩ u) (some g) := by
  have hg : W.grownBy (W.setCell ⟨w.heap.size, 0, none⟩ u) (some w.heap.size) := grown_setCell _ _ _ _
  refine ⟨h.own.toN.kept hg (fun k e => by cases e; exact ⟨_, _, _, h.bR, by decide, by decide, by decide⟩), kept_of_type h.rw hg (fun k e => by cases e; exact ⟨_, _, _, h.bR, by decide⟩), h.cur.kept hg (fun e => by simp only [Option.some.injEq] at e; omega) (fun k e => by cases e; have := h.cur.1; omega), ?_⟩
  have g5 := h.gr
  exact ⟨hg.os.trans g5.os, hg.tape.trans g5.tape, hg.output.trans g5.output, Nat.le_trans g5.size hg.size, fun j hj hne => (hg.block j (by have := g5.size; omega) (fun e => by simp only [Option.some.injEq] at e; omega)).trans (g5.block j hj hne)⟩
theorem draw_res {tmps : Array Value} {w : World} {g : Nat} {a : Option Addr} {n c : Nat} {b : Option Addr} {m d : Nat} (h4 : tmps.getD 2 undef = .pointer (some ⟨g, 0, none⟩)) (h5 : tmps.getD 3 undef = .slice b m d) (hb : w.heap[g]? = some (.cells #[.slice a n c] 26 (0, 0))) :
    (results Tryz.f30 tmps).run Tryz.prog w = .ok (.tuple #[.agg #[.slice a n c], .slice b m d]) w := by
  rw [results_cell_tmp (p := 2) (u := 3) (ty := 26) rfl, h4, h5]
  simp [asAddr, run_loadVar_row w g 26 26 #[.slice a n c] (0, 0) _ hb Tryz.underlying26 rfl rfl, Result.andThen]
theorem par_new {ns : List PNode} {k : Nat} {n : PNode} (h : ns.length = k + 1) {hl : k + 1 < (ns ++ [n]).length} (hn : n.parent = -1 := by rfl) : (ns ++ [n])[k + 1].parent = -1 := by
  rw [List.getElem_append_right (by omega)]
  simp [h, hn]
theorem kids_few {ns : List PNode} {row : List Int} {k : Nat} (h : Drawn ns row k) (hk : k ≤ 1000) {n : PNode} {p : Nat} (hp : p < ns.length) {hl : p < (ns ++ [n]).length} : (ns ++ [n])[p].kids.length ≤ 100000 := by
  rw [List.getElem_append_left hp]
  have := (h.mild _ (List.getElem_mem hp)).2.2.2
  omega
theorem cell_new (w : World) (u : Value) (t : TypeId) : (w.alloc (.cells #[u] t)).cell? ⟨w.heap.size, 0, none⟩ = some u := by
  have := World.alloc_heap_new w (.cells #[u] t)
  simp only [World.cell?, this]; rfl
theorem sv_nil (w : World) : Sv 2 w (.slice none 0 0) (pairCells []) := ⟨none, 0, 0, rfl, rfl, Nat.le_refl _, by decide, fun _ => rfl, fun i hi => absurd hi (Nat.not_lt_zero i)⟩
theorem row_cell {B r n c : Nat} {w : World} {xs : List Int} (h : Own B 3 .i64 w (.slice (some ⟨r, 0, none⟩) n c) xs) (k : Nat) (hk : k < xs.length) : w.cell? ⟨r, k, none⟩ = some (.int .i64 xs[k]) := by
  obtain ⟨a, c', e, _, _, _, hc⟩ := h.sl
  cases e
  obtain ⟨b, off, e2, hcc⟩ := hc k hk
  cases e2
  rw [Nat.zero_add] at hcc
  rw [hcc]
  simp [List.getD_eq_getElem?_getD, hk]
end Go.Proofs.YtkljadaggnbjkaaGreat

/- The draw of a row: the walk of l10DrawRow. No condition. -/
namespace Go.Proofs.YtkljadaggnbjkaaGreat
open Go.RowKit
set_option maxRecDepth 100000
set_option linter.unusedVariables false

theorem ownN_one {B : Nat} {w : World} {u : Value} (h : OneTree B w u 1 (-1) ⟨#[]⟩ ⟨#[]⟩) : ∃ v, u = .agg #[v] ∧ OwnN B w v [⟨1, ⟨#[]⟩, [], ⟨#[]⟩, -1, []⟩] := by
  obtain ⟨v, rfl, ho⟩ := h
  exact ⟨v, rfl, [(⟨1, ⟨#[]⟩, [], ⟨#[]⟩, -1, []⟩, (.slice none 0 0, .slice none 0 0))], rfl, ho, fun q hq => by simp at hq; subst hq; exact ⟨World.ownsRow_nil _ _ _ _, World.ownsRow_nil _ _ _ _⟩⟩

theorem ownN_high {S r : Nat} {w : World} {v : Value} {ns : List PNode} (h : OwnN S w v ns) (hr : w.heap.size ≤ r) : OwnR S w v ns r := by
  obtain ⟨qs, h1, h2, h3⟩ := h
  exact ⟨qs, h1, h2, fun q hq => ⟨h3 q hq, fun e => by have := ((h3 q hq).2.lt r e).2; omega⟩⟩

set_option maxHeartbeats 4000000 in
set_option maxRecDepth 100000 in
theorem sdrawRow_any {w0 : World} {g : Nat} {cv : Value} {xs : List Int} {w : World} (hc : Cur w0 g cv xs w) (hb : ∀ x ∈ xs, 0 ≤ x ∧ x ≤ 255) :
    Calls Tryz.prog 30 #[.pointer (some ⟨g, 0, none⟩)] w fun e w' => ∃ nv rv ns row, e = .returned (.tuple #[.agg #[nv], rv]) ∧ OwnN w.heap.size w' nv ns ∧ Own w.heap.size 3 .i64 w' rv row ∧ (∀ n ∈ ns, NodeFit n) ∧ ns.length ≤ 100 ∧ row.length ≤ 100 ∧ parOf ns 0 = -1 ∧ Cur w0 g cv xs w' ∧ w.grownBy w' (some g) := by
  have HB := (show Hid (∀ x ∈ xs, 0 ≤ x ∧ x ≤ 255) from hb)
  have hgl := hc.lt
  have HC := (show Hid (Cur w0 g cv xs w) from hc)
  clear hb hc
  obtain ⟨ii, hii, hzi0, hzi1, hzi2⟩ := info_parts Tryz.infoIntRow
  go_enter Tryz.func30, Tryz.ntmps30
  go_wp2_with fail
  go_at_call 54
  refine Calls.mono (streeNew_any _) ?_
  rintro e w1 ⟨u1, rfl, one1, b1⟩
  obtain ⟨v1, rfl, own1⟩ := ownN_one one1
  obtain ⟨a1, n1, c1, rfl⟩ : ∃ a n c, v1 = .slice a n c := by obtain ⟨_, _, h, _⟩ := own1; exact own_slice h
  rw [World.size_alloc] at own1 b1
  have HW1 := (show Hid (OwnN (w.heap.size + 1) w1 (.slice a1 n1 c1) [⟨1, ⟨#[]⟩, [], ⟨#[]⟩, -1, []⟩]) from own1)
  have HB1 := (show Hid _ from b1)
  clear one1 own1 b1
  go_wp2
  obtain ⟨W4, hW4⟩ : ∃ W4, W4 = ((w1.alloc (.cells #[.slice a1 n1 c1] 26)).alloc (.cells #[] 3)).alloc (.cells #[.string ⟨#[104, 116, 109, 108]⟩, .string ⟨#[98, 111, 100, 121]⟩, .string ⟨#[112]⟩, .string ⟨#[108, 105]⟩, .string ⟨#[117, 108]⟩, .string ⟨#[98]⟩, .string ⟨#[100, 105, 118]⟩, .string ⟨#[98, 117, 116, 116, 111, 110]⟩, .string ⟨#[100, 100]⟩, .string ⟨#[111, 98, 106, 101, 99, 116]⟩, .string ⟨#[116, 97, 98, 108, 101]⟩, .string ⟨#[111, 112, 116, 105, 111, 110]⟩, .string ⟨#[105]⟩, .string ⟨#[111, 108]⟩, .string ⟨#[112]⟩, .string ⟨#[104, 49]⟩, .string ⟨#[97]⟩] 9) := ⟨_, rfl⟩
  have b0 : Below w.heap.size w (w.alloc (.cells #[.slice none 0 0] 26)) := (Below.refl _ _).alloc (Nat.le_refl _) _
  have hsz1 := HB1.out.size
  rw [World.size_alloc] at hsz1
  have bw1 : Below w.heap.size w w1 := b0.trans (HB1.out.mono (by omega))
  have b4 : Below w1.heap.size w1 W4 := by rw [hW4]; exact (((Below.refl _ w1).alloc (Nat.le_refl _) _).alloc (by simp) _).alloc (by simp; omega) _
  have gR1 : w1.heap[w.heap.size]? = some (.cells #[.slice none 0 0] 26 (0, 0)) := (HB1.out.block _ (by omega)).trans (World.alloc_heap_new _ _)
  have HD : Hid (DrW w0 w g cv xs w1.heap.size (w1.heap.size + 1 + 1) (.slice a1 n1 c1) [⟨1, ⟨#[]⟩, [], ⟨#[]⟩, -1, []⟩] (w1.heap.size + 1) 0 [] W4) := by
    refine ⟨HC.out.below (bw1.trans (b4.mono bw1.size)), (b4.block _ (by omega)).trans gR1, ?_, ?_, ?_, ?_, below_by g (bw1.trans (b4.mono bw1.size))⟩
    · rw [hW4, Below.heap_alloc _ _ _ (by simp only [World.size_alloc]; omega), Below.heap_alloc _ _ _ (by simp only [World.size_alloc]; omega)]
      exact World.alloc_heap_new _ _
    · rw [hW4]
      have := World.alloc_heap_new ((w1.alloc (.cells #[.slice a1 n1 c1] 26)).alloc (.cells #[] 3)) (.cells #[.string ⟨#[104, 116, 109, 108]⟩, .string ⟨#[98, 111, 100, 121]⟩, .string ⟨#[112]⟩, .string ⟨#[108, 105]⟩, .string ⟨#[117, 108]⟩, .string ⟨#[98]⟩, .string ⟨#[100, 105, 118]⟩, .string ⟨#[98, 117, 116, 116, 111, 110]⟩, .string ⟨#[100, 100]⟩, .string ⟨#[111, 98, 106, 101, 99, 116]⟩, .string ⟨#[116, 97, 98, 108, 101]⟩, .string ⟨#[111, 112, 116, 105, 111, 110]⟩, .string ⟨#[105]⟩, .string ⟨#[111, 108]⟩, .string ⟨#[112]⟩, .string ⟨#[104, 49]⟩, .string ⟨#[97]⟩] 9)
      rwa [World.size_alloc, World.size_alloc] at this
    · exact ((ownN_high HW1.out (show w1.heap.size ≤ w1.heap.size + 1 by omega)).base (by omega)).below b4
    · rw [hW4]
      have := (own_empty 3 .i64 (w1.alloc (.cells #[.slice a1 n1 c1] 26))).base (show w.heap.size ≤ _ by rw [World.size_alloc]; omega)
      rw [World.size_alloc] at this
      exact this.below ((Below.refl _ _).alloc (Nat.le_refl _) _)
  rw [← hW4]
  clear hW4 b4 gR1 bw1 b0 HW1 HB1 HC
  have hT : w.heap.size < w1.heap.size := by omega
  have hM : w.heap.size ≤ w1.heap.size + 1 + 1 := by omega
  obtain ⟨T, hTT⟩ : ∃ T, T = w1.heap.size := ⟨_, rfl⟩
  obtain ⟨M, hMM⟩ : ∃ M, M = w1.heap.size + 1 + 1 := ⟨_, rfl⟩
  obtain ⟨r0, hr0⟩ : ∃ r0, r0 = w1.heap.size + 1 := ⟨_, rfl⟩
  rw [← hMM] at HD hM ⊢
  rw [← hr0] at HD ⊢
  rw [← hTT] at HD hT ⊢
  clear hsz1 hMM hr0 hTT
  go_loopw [5, 7] (fun rv i wr => ∃ (k : Nat) (nv : Value) (ns : List PNode) (r rc : Nat) (row : List Int), k ≤ 8 ∧ i = .int .i64 k ∧ rv = .slice (some ⟨r, 0, none⟩) row.length rc ∧ Drawn ns row k ∧ DrW w0 w g cv xs T M nv ns r rc row wr) (fun _ i _ => 9 - (intOf i).toNat)
  case atStart => exact ⟨0, _, _, _, _, [], by omega, rfl, rfl, drawn_zero, HD.out⟩
  case round =>
    clear HD
    obtain ⟨k, nv, ns, r, rc, row, hk, rfl, rfl, hdr, hD⟩ := hrel
    have HDR := (show Hid (Drawn ns row k) from hdr)
    have HD := (show Hid (DrW w0 w g cv xs T M nv ns r rc row wr) from hD)
    clear hdr hD
    go_wp2_with fail
    go_at_call 32
    refine Calls.mono (below_any 9 (by omega) HD.out.cur HB.out) ?_
    rintro e W1 ⟨x, rfl, x0, x1, _, k1, g1⟩
    replace x1 := x1 (by omega)
    have HD1 := (show Hid _ from HD.out.cursor k1 g1 hgl hT hM)
    clear HD k1 g1
    by_cases hkx : (k : Int) < x
    · have hk7 : k ≤ 7 := by omega
      have hMg : M ≠ g := by omega
      go_wp2_with fail
      go_at_call 55
      refine Calls.mono (pickT_any HD1.out.cur HB.out M drawNames (by decide) (by decide) namesArr (by simp [namesArr]) 17 rfl HD1.out.bM hMg) ?_
      rintro e W2 ⟨t, rfl, ht, k2, g2⟩
      have hts := drawNames_small t ht
      have HD2 := (show Hid _ from HD1.out.cursor k2 g2 hgl hT hM)
      have HFT : Hid (∀ n ∈ ns, NodeFit n) := fun n hn => (HDR.out.mild n hn).fit (by omega)
      have HCNT := (show Hid (ns.length = k + 1) from HDR.out.cnt)
      obtain ⟨na, nn, nc, rfl⟩ : ∃ a n c, nv = .slice a n c := by obtain ⟨_, _, h, _⟩ := HD2.out.own; exact own_slice h
      have cT : W2.cell? ⟨T, 0, none⟩ = some (.slice na nn nc) := by have h := HD2.out.bT; simp only [World.cell?, h]; rfl
      clear HD1 k2 g2 ht
      by_cases hk0 : k = 0
      · have hk0' : ((k : Int) == 0) = true := by simp [hk0]
        have hrl0 : ¬ ((0 : Int) < (row.length : Int)) := by have := HDR.out.rowl; omega
        clear hk0
        go_wp2_with fail
        go_at_call 57
        refine Calls.mono (scopy_any HD2.out.own.toN.nodes HFT.out (by have := HCNT.out; omega)) ?_
        rintro e W3 ⟨v3, rfl, own3, b3⟩
        have HO3 := (show Hid _ from own3)
        have HB3 := (show Hid _ from b3)
        clear own3 b3
        go_wp2_with fail
        go_at_call 56
        refine Calls.mono (sadd_any HO3.out HB3.out.size (by have := HCNT.out; omega) (by have := HCNT.out; omega) 3 0 ⟨#[104, 116, 109, 108]⟩ ⟨#[]⟩ (rs := []) (sv_nil _) (by simp)) ?_
        rintro e W4 ⟨v4, rfl, own4, b4⟩
        rw [HCNT.out]
        obtain ⟨q4, cp4, rfl, hq4, hl4⟩ : ∃ g cap, v4 = .slice (some ⟨g, 0, none⟩) (ns ++ [(⟨3, ⟨#[104, 116, 109, 108]⟩, [], ⟨#[]⟩, -1, []⟩ : PNode)]).length cap ∧ W2.heap.size ≤ g ∧ g < W4.heap.size := by obtain ⟨_, _, h2, _⟩ := own4; exact one_form h2 (by simp)
        obtain ⟨L4, hL4⟩ : ∃ L4, L4 = (ns ++ [(⟨3, ⟨#[104, 116, 109, 108]⟩, [], ⟨#[]⟩, -1, []⟩ : PNode)]).length := ⟨_, rfl⟩
        have HL4 := (show Hid (L4 = (ns ++ [(⟨3, ⟨#[104, 116, 109, 108]⟩, [], ⟨#[]⟩, -1, []⟩ : PNode)]).length) from hL4)
        rw [← hL4] at own4 ⊢
        clear hL4
        have b24 : Below W2.heap.size W2 W4 := HB3.out.trans (b4.mono HB3.out.size)
        have HO4 := (show Hid (OwnN W2.heap.size W4 (.slice (some ⟨q4, 0, none⟩) L4 cp4) (ns ++ [(⟨3, ⟨#[104, 116, 109, 108]⟩, [], ⟨#[]⟩, -1, []⟩ : PNode)])) from own4)
        have HB4 := (show Hid (Below W2.heap.size W2 W4) from b24)
        clear own4 b4 b24 HO3 HB3
        have b5 : Below W4.heap.size W4 (W4.alloc (.cells #[.slice (some ⟨q4, 0, none⟩) L4 cp4] 26)) := (Below.refl _ _).alloc (Nat.le_refl _) _
        have CH := (show Hid _ from shang_any (c := k + 1) (p := 0) (HO4.out.below b5) (by have := HB4.out.size; rw [World.size_alloc]; omega) (by have := HCNT.out; simp only [List.length_append, List.length_singleton]; omega) (by have := HCNT.out; simp only [List.length_append, List.length_singleton]; omega) (by have := HCNT.out; simp only [List.length_append, List.length_singleton]; omega) (par_new (n := (⟨3, ⟨#[104, 116, 109, 108]⟩, [], ⟨#[]⟩, -1, []⟩ : PNode)) HCNT.out) (kids_few HDR.out (by omega) (by have := HCNT.out; omega)))
        have HB5 := (show Hid (Below W2.heap.size W2 (W4.alloc (.cells #[.slice (some ⟨q4, 0, none⟩) L4 cp4] 26))) from HB4.out.trans (b5.mono HB4.out.size))
        have c9 := cell_new W4 (.slice (some ⟨q4, 0, none⟩) L4 cp4) 26
        clear b5
        rw [show ((k + 1 : Nat) : Int) = (k : Int) + 1 by omega] at CH
        rw [show ((0 : Nat) : Int) = 0 from rfl] at CH
        go_wp2_with fail
        go_at_call 58
        refine Calls.mono CH.out ?_
        rintro e W6 ⟨rfl, own6, g6⟩
        have HD7 := (show Hid _ from HD2.out.tree HB5.out (p := q4) g6 hq4 own6 hgl hT hM)
        have e6T := (g6.block T (Nat.lt_of_lt_of_le (blk_lt HD2.out.bT) HB5.out.size) (fun e => by simp only [Value.ownBlock, Option.some.injEq] at e; have := blk_lt HD2.out.bT; omega)).trans ((HB5.out.block T (blk_lt HD2.out.bT)).trans HD2.out.bT)
        have y6 : W6.cell? ⟨T, 0, none⟩ = some (.slice na nn nc) := by simp only [World.cell?, e6T]; rfl
        have z6 : W6.frozen? ⟨T, 0, none⟩ = false := by simp [World.frozen?, e6T]
        have HDR7 := (show Hid _ from drawn_succ (nm := ⟨#[104, 116, 109, 108]⟩) (p := 0) HDR.out (by decide) (by have := HCNT.out; omega))
        clear CH own6 g6 e6T HO4 HB4 HB5 c9
        go_wp2_with fail
        go_at_call 59
        refine Calls.mono (once_any 9 (by omega) HD7.out.cur HB.out) ?_
        rintro e W8 ⟨bb, rfl, k8, g8⟩
        have HD8 := (show Hid _ from HD7.out.cursor k8 g8 hgl hT hM)
        clear HD7 k8 g8 y6 z6
        cases bb
        · skip
          have HD9 := (show Hid _ from HD8.out.below ((Below.refl _ _).alloc (Nat.le_refl _) (.cells #[.int .i64 ((k : Int) + 1)] 3)))
          have o9 := HD9.out.rw
          have hs9 := HD9.out.gr.size
          go_wp2_with (refine wpList_appB _ rfl (.tmp 54) (.tmp 56) 27 rfl w.heap.size 3 ii (.int .i64 0) 8 Tryz.underlying27 hii hzi0 hzi1 hzi2 rfl .i64 r rc row ⟨W8.heap.size, 0, none⟩ 1 [((k : Int) + 1)] rfl rfl o9 (sl_one _ _ _ _) (by simp; omega) (by unfold maxLen; simp; omega) hs9 ?_; intro r' cap' W10 o10 g10 hr10)
          have HDA := (show Hid _ from HD9.out.push g10 o10 hr10 hgl hT hM)
          have HDRA := (show Hid _ from drawn_row HDR7.out rfl HDR.out.rowl)
          rw [show ((k + 1 : Nat) : Int) = (k : Int) + 1 by omega] at HDRA
          clear HD8 HD9 o9 hs9 o10 g10 hr10
          go_roundw
          case rel => exact ⟨k + 1, _, _, r', cap', row ++ [((k : Int) + 1)], by omega, by go_num, by rw [List.length_append]; rfl, HDRA.out, HDA.out⟩
          case measure => simp [intOf]; omega
        · skip
          have HD9 := (show Hid _ from HD8.out.below ((Below.refl _ _).alloc (Nat.le_refl _) (.cells #[.int .i64 ((k : Int) + 1)] 3)))
          have o9 := HD9.out.rw
          have hs9 := HD9.out.gr.size
          go_wp2_with (refine wpList_appB _ rfl (.tmp 54) (.tmp 56) 27 rfl w.heap.size 3 ii (.int .i64 0) 8 Tryz.underlying27 hii hzi0 hzi1 hzi2 rfl .i64 r rc row ⟨W8.heap.size, 0, none⟩ 1 [((k : Int) + 1)] rfl rfl o9 (sl_one _ _ _ _) (by simp; omega) (by unfold maxLen; simp; omega) hs9 ?_; intro r' cap' W10 o10 g10 hr10)
          have HDA := (show Hid _ from HD9.out.push g10 o10 hr10 hgl hT hM)
          have HDRA := (show Hid _ from drawn_row HDR7.out rfl HDR.out.rowl)
          rw [show ((k + 1 : Nat) : Int) = (k : Int) + 1 by omega] at HDRA
          clear HD8 HD9 o9 hs9 o10 g10 hr10
          go_roundw
          case rel => exact ⟨k + 1, _, _, r', cap', row ++ [((k : Int) + 1)], by omega, by go_num, by rw [List.length_append]; rfl, HDRA.out, HDA.out⟩
          case measure => simp [intOf]; omega
      · have hk0' : ((k : Int) == 0) = false := by simp; omega
        clear hk0
        by_cases hrow : row = []
        · have hrl0 : ¬ ((0 : Int) < (row.length : Int)) := by rw [hrow]; decide
          clear hrow
          go_wp2_with fail
          go_at_call 57
          refine Calls.mono (scopy_any HD2.out.own.toN.nodes HFT.out (by have := HCNT.out; omega)) ?_
          rintro e W3 ⟨v3, rfl, own3, b3⟩
          have HO3 := (show Hid _ from own3)
          have HB3 := (show Hid _ from b3)
          clear own3 b3
          go_wp2_with fail
          go_at_call 56
          refine Calls.mono (sadd_any HO3.out HB3.out.size (by have := HCNT.out; omega) (by have := HCNT.out; omega) 3 0 t ⟨#[]⟩ (rs := []) (sv_nil _) (by simp)) ?_
          rintro e W4 ⟨v4, rfl, own4, b4⟩
          rw [HCNT.out]
          obtain ⟨q4, cp4, rfl, hq4, hl4⟩ : ∃ g cap, v4 = .slice (some ⟨g, 0, none⟩) (ns ++ [(⟨3, t, [], ⟨#[]⟩, -1, []⟩ : PNode)]).length cap ∧ W2.heap.size ≤ g ∧ g < W4.heap.size := by obtain ⟨_, _, h2, _⟩ := own4; exact one_form h2 (by simp)
          obtain ⟨L4, hL4⟩ : ∃ L4, L4 = (ns ++ [(⟨3, t, [], ⟨#[]⟩, -1, []⟩ : PNode)]).length := ⟨_, rfl⟩
          have HL4 := (show Hid (L4 = (ns ++ [(⟨3, t, [], ⟨#[]⟩, -1, []⟩ : PNode)]).length) from hL4)
          rw [← hL4] at own4 ⊢
          clear hL4
          have b24 : Below W2.heap.size W2 W4 := HB3.out.trans (b4.mono HB3.out.size)
          have HO4 := (show Hid (OwnN W2.heap.size W4 (.slice (some ⟨q4, 0, none⟩) L4 cp4) (ns ++ [(⟨3, t, [], ⟨#[]⟩, -1, []⟩ : PNode)])) from own4)
          have HB4 := (show Hid (Below W2.heap.size W2 W4) from b24)
          clear own4 b4 b24 HO3 HB3
          have b5 : Below W4.heap.size W4 (W4.alloc (.cells #[.slice (some ⟨q4, 0, none⟩) L4 cp4] 26)) := (Below.refl _ _).alloc (Nat.le_refl _) _
          have CH := (show Hid _ from shang_any (c := k + 1) (p := 0) (HO4.out.below b5) (by have := HB4.out.size; rw [World.size_alloc]; omega) (by have := HCNT.out; simp only [List.length_append, List.length_singleton]; omega) (by have := HCNT.out; simp only [List.length_append, List.length_singleton]; omega) (by have := HCNT.out; simp only [List.length_append, List.length_singleton]; omega) (par_new (n := (⟨3, t, [], ⟨#[]⟩, -1, []⟩ : PNode)) HCNT.out) (kids_few HDR.out (by omega) (by have := HCNT.out; omega)))
          have HB5 := (show Hid (Below W2.heap.size W2 (W4.alloc (.cells #[.slice (some ⟨q4, 0, none⟩) L4 cp4] 26))) from HB4.out.trans (b5.mono HB4.out.size))
          have c9 := cell_new W4 (.slice (some ⟨q4, 0, none⟩) L4 cp4) 26
          clear b5
          rw [show ((k + 1 : Nat) : Int) = (k : Int) + 1 by omega] at CH
          rw [show ((0 : Nat) : Int) = 0 from rfl] at CH
          go_wp2_with fail
          go_at_call 58
          refine Calls.mono CH.out ?_
          rintro e W6 ⟨rfl, own6, g6⟩
          have HD7 := (show Hid _ from HD2.out.tree HB5.out (p := q4) g6 hq4 own6 hgl hT hM)
          have e6T := (g6.block T (Nat.lt_of_lt_of_le (blk_lt HD2.out.bT) HB5.out.size) (fun e => by simp only [Value.ownBlock, Option.some.injEq] at e; have := blk_lt HD2.out.bT; omega)).trans ((HB5.out.block T (blk_lt HD2.out.bT)).trans HD2.out.bT)
          have y6 : W6.cell? ⟨T, 0, none⟩ = some (.slice na nn nc) := by simp only [World.cell?, e6T]; rfl
          have z6 : W6.frozen? ⟨T, 0, none⟩ = false := by simp [World.frozen?, e6T]
          have HDR7 := (show Hid _ from drawn_succ (nm := t) (p := 0) HDR.out hts (by have := HCNT.out; omega))
          clear CH own6 g6 e6T HO4 HB4 HB5 c9
          go_wp2_with fail
          go_at_call 59
          refine Calls.mono (once_any 9 (by omega) HD7.out.cur HB.out) ?_
          rintro e W8 ⟨bb, rfl, k8, g8⟩
          have HD8 := (show Hid _ from HD7.out.cursor k8 g8 hgl hT hM)
          clear HD7 k8 g8 y6 z6
          cases bb
          · skip
            have HD9 := (show Hid _ from HD8.out.below ((Below.refl _ _).alloc (Nat.le_refl _) (.cells #[.int .i64 ((k : Int) + 1)] 3)))
            have o9 := HD9.out.rw
            have hs9 := HD9.out.gr.size
            go_wp2_with (refine wpList_appB _ rfl (.tmp 54) (.tmp 56) 27 rfl w.heap.size 3 ii (.int .i64 0) 8 Tryz.underlying27 hii hzi0 hzi1 hzi2 rfl .i64 r rc row ⟨W8.heap.size, 0, none⟩ 1 [((k : Int) + 1)] rfl rfl o9 (sl_one _ _ _ _) (by simp; omega) (by unfold maxLen; simp; omega) hs9 ?_; intro r' cap' W10 o10 g10 hr10)
            have HDA := (show Hid _ from HD9.out.push g10 o10 hr10 hgl hT hM)
            have HDRA := (show Hid _ from drawn_row HDR7.out rfl HDR.out.rowl)
            rw [show ((k + 1 : Nat) : Int) = (k : Int) + 1 by omega] at HDRA
            clear HD8 HD9 o9 hs9 o10 g10 hr10
            go_roundw
            case rel => exact ⟨k + 1, _, _, r', cap', row ++ [((k : Int) + 1)], by omega, by go_num, by rw [List.length_append]; rfl, HDRA.out, HDA.out⟩
            case measure => simp [intOf]; omega
          · skip
            go_wp2
            go_roundw
            case rel => exact ⟨k + 1, _, _, r, rc, row, by omega, by go_num, rfl, HDR7.out, HD8.out⟩
            case measure => simp [intOf]; omega
        · obtain ⟨lj, hlj⟩ : ∃ lj, row.length = lj + 1 := ⟨row.length - 1, by have := List.length_pos_iff.mpr hrow; omega⟩
          have hjl : lj < row.length := by omega
          have hrs : (row.length : Int) - 1 = (lj : Int) := by omega
          have hin := HDR.out.rowin (row[lj]'hjl) (List.getElem_mem _)
          have hcn := HCNT.out
          obtain ⟨pp, hpp⟩ : ∃ pp : Nat, row[lj]'hjl = (pp : Int) := ⟨(row[lj]'hjl).toNat, by omega⟩
          have hpl : pp < ns.length := by rw [hpp] at hin; omega
          have HPP := (show Hid (row[lj]'hjl = (pp : Int)) from hpp)
          have hrg : (0 : Int) < (row.length : Int) := by omega
          have hrb : row.length ≤ 8 := by have := HDR.out.rowl; omega
          clear hin hpp hcn hrow hlj
          go_wp2_with fail
          go_at_call 57
          refine Calls.mono (scopy_any HD2.out.own.toN.nodes HFT.out (by have := HCNT.out; omega)) ?_
          rintro e W3 ⟨v3, rfl, own3, b3⟩
          have HO3 := (show Hid _ from own3)
          have HB3 := (show Hid _ from b3)
          clear own3 b3
          go_wp2_with fail
          go_at_call 56
          refine Calls.mono (sadd_any HO3.out HB3.out.size (by have := HCNT.out; omega) (by have := HCNT.out; omega) 3 0 t ⟨#[]⟩ (rs := []) (sv_nil _) (by simp)) ?_
          rintro e W4 ⟨v4, rfl, own4, b4⟩
          rw [HCNT.out]
          obtain ⟨q4, cp4, rfl, hq4, hl4⟩ : ∃ g cap, v4 = .slice (some ⟨g, 0, none⟩) (ns ++ [(⟨3, t, [], ⟨#[]⟩, -1, []⟩ : PNode)]).length cap ∧ W2.heap.size ≤ g ∧ g < W4.heap.size := by obtain ⟨_, _, h2, _⟩ := own4; exact one_form h2 (by simp)
          obtain ⟨L4, hL4⟩ : ∃ L4, L4 = (ns ++ [(⟨3, t, [], ⟨#[]⟩, -1, []⟩ : PNode)]).length := ⟨_, rfl⟩
          have HL4 := (show Hid (L4 = (ns ++ [(⟨3, t, [], ⟨#[]⟩, -1, []⟩ : PNode)]).length) from hL4)
          rw [← hL4] at own4 ⊢
          clear hL4
          have b24 : Below W2.heap.size W2 W4 := HB3.out.trans (b4.mono HB3.out.size)
          have HO4 := (show Hid (OwnN W2.heap.size W4 (.slice (some ⟨q4, 0, none⟩) L4 cp4) (ns ++ [(⟨3, t, [], ⟨#[]⟩, -1, []⟩ : PNode)])) from own4)
          have HB4 := (show Hid (Below W2.heap.size W2 W4) from b24)
          clear own4 b4 b24 HO3 HB3
          have b5 : Below W4.heap.size W4 (W4.alloc (.cells #[.slice (some ⟨q4, 0, none⟩) L4 cp4] 26)) := (Below.refl _ _).alloc (Nat.le_refl _) _
          have CH := (show Hid _ from shang_any (c := k + 1) (p := pp) (HO4.out.below b5) (by have := HB4.out.size; rw [World.size_alloc]; omega) (by have := HCNT.out; simp only [List.length_append, List.length_singleton]; omega) (by have := HCNT.out; simp only [List.length_append, List.length_singleton]; omega) (by have := HCNT.out; simp only [List.length_append, List.length_singleton]; omega) (par_new (n := (⟨3, t, [], ⟨#[]⟩, -1, []⟩ : PNode)) HCNT.out) (kids_few HDR.out (by omega) hpl))
          have HB5 := (show Hid (Below W2.heap.size W2 (W4.alloc (.cells #[.slice (some ⟨q4, 0, none⟩) L4 cp4] 26))) from HB4.out.trans (b5.mono HB4.out.size))
          have c9 := cell_new W4 (.slice (some ⟨q4, 0, none⟩) L4 cp4) 26
          clear b5
          rw [show ((k + 1 : Nat) : Int) = (k : Int) + 1 by omega] at CH
          have cr := row_cell ((HD2.out.below HB5.out).rw) lj hjl
          rw [HPP.out] at cr
          go_wp2_with fail
          go_at_call 58
          refine Calls.mono CH.out ?_
          rintro e W6 ⟨rfl, own6, g6⟩
          have HD7 := (show Hid _ from HD2.out.tree HB5.out (p := q4) g6 hq4 own6 hgl hT hM)
          have e6T := (g6.block T (Nat.lt_of_lt_of_le (blk_lt HD2.out.bT) HB5.out.size) (fun e => by simp only [Value.ownBlock, Option.some.injEq] at e; have := blk_lt HD2.out.bT; omega)).trans ((HB5.out.block T (blk_lt HD2.out.bT)).trans HD2.out.bT)
          have y6 : W6.cell? ⟨T, 0, none⟩ = some (.slice na nn nc) := by simp only [World.cell?, e6T]; rfl
          have z6 : W6.frozen? ⟨T, 0, none⟩ = false := by simp [World.frozen?, e6T]
          have HDR7 := (show Hid _ from drawn_succ (nm := t) (p := pp) HDR.out hts hpl)
          clear CH own6 g6 e6T HO4 HB4 HB5 c9
          go_wp2_with fail
          go_at_call 59
          refine Calls.mono (once_any 9 (by omega) HD7.out.cur HB.out) ?_
          rintro e W8 ⟨bb, rfl, k8, g8⟩
          have HD8 := (show Hid _ from HD7.out.cursor k8 g8 hgl hT hM)
          clear HD7 k8 g8 y6 z6
          cases bb
          · skip
            have HD9 := (show Hid _ from HD8.out.below ((Below.refl _ _).alloc (Nat.le_refl _) (.cells #[.int .i64 ((k : Int) + 1)] 3)))
            have o9 := HD9.out.rw
            have hs9 := HD9.out.gr.size
            go_wp2_with (refine wpList_appB _ rfl (.tmp 54) (.tmp 56) 27 rfl w.heap.size 3 ii (.int .i64 0) 8 Tryz.underlying27 hii hzi0 hzi1 hzi2 rfl .i64 r rc row ⟨W8.heap.size, 0, none⟩ 1 [((k : Int) + 1)] rfl rfl o9 (sl_one _ _ _ _) (by simp; omega) (by unfold maxLen; simp; omega) hs9 ?_; intro r' cap' W10 o10 g10 hr10)
            have HDA := (show Hid _ from HD9.out.push g10 o10 hr10 hgl hT hM)
            have HDRA := (show Hid _ from drawn_row HDR7.out rfl HDR.out.rowl)
            rw [show ((k + 1 : Nat) : Int) = (k : Int) + 1 by omega] at HDRA
            clear HD8 HD9 o9 hs9 o10 g10 hr10
            go_roundw
            case rel => exact ⟨k + 1, _, _, r', cap', row ++ [((k : Int) + 1)], by omega, by go_num, by rw [List.length_append]; rfl, HDRA.out, HDA.out⟩
            case measure => simp [intOf]; omega
          · skip
            go_wp2
            go_roundw
            case rel => exact ⟨k + 1, _, _, r, rc, row, by omega, by go_num, rfl, HDR7.out, HD8.out⟩
            case measure => simp [intOf]; omega
    · have HDN := (show Hid (Drawn ns row k) from HDR.out)
      obtain ⟨na, nn, nc, rfl⟩ : ∃ a n c, nv = .slice a n c := by obtain ⟨_, _, h, _⟩ := HD1.out.own; exact own_slice h
      go_wp2_with fail
      go_at_call 32
      refine Calls.mono (below_any 25 (by omega) HD1.out.cur HB.out) ?_
      rintro e W2 ⟨y, rfl, y0, y1, _, k2, g2⟩
      have HD2 := (show Hid _ from HD1.out.cursor k2 g2 hgl hT hM)
      have hrl := HDN.out.rowl
      clear HD1 k2 g2
      rcases (show y = 0 ∨ y = 1 ∨ y = 2 ∨ 2 < y by omega) with rfl | rfl | rfl | hy
      · skip
        have HD3 := (show Hid _ from HD2.out.below ((Below.refl _ _).alloc (Nat.le_refl _) (.cells #[.int .i64 0] 3)))
        have o3 := HD3.out.rw
        have hs3 := HD3.out.gr.size
        go_upto_region 24 with (refine wpList_appB _ rfl (.tmp 62) (.tmp 63) 27 rfl w.heap.size 3 ii (.int .i64 0) 8 Tryz.underlying27 hii hzi0 hzi1 hzi2 rfl .i64 r rc row ⟨W2.heap.size, 0, none⟩ 1 [(0 : Int)] rfl rfl o3 (sl_one _ _ _ _) (by first | omega | (simp; omega)) (by unfold maxLen; first | omega | (simp; omega)) hs3 ?_; intro r' cap' W4 o4 g4 hr4)
        have HD4 := (show Hid _ from HD3.out.push g4 o4 hr4 hgl hT hM)
        clear HD3 o3 hs3 o4 g4 hr4
        have k0 : W4.cell? ⟨T, 0, none⟩ = some (.slice na nn nc) := by have h := HD4.out.bT; simp only [World.cell?, h]; rfl
        have k1 : W4.cell? ⟨w.heap.size, 0, none⟩ = some (.slice none 0 0) := by have h := HD4.out.bR; simp only [World.cell?, h]; rfl
        have z1 : W4.frozen? ⟨w.heap.size, 0, none⟩ = false := by have h := HD4.out.bR; simp [World.frozen?, h]
        go_wp2
        have gs := setCell_at (k := 0) (u := .slice na nn nc) HD4.out.bR
        refine bodyPost_ret (draw_res rfl rfl gs) rfl ?_
        obtain ⟨f1, f2, f3, f4⟩ := HD4.out.fin hgl (.slice na nn nc)
        exact ⟨_, _, ns, row ++ [(0 : Int)], rfl, f1, (by first | exact f2 | (rw [List.length_append] at f2; exact f2)), fun n hn => (HDN.out.mild n hn).fit (by omega), by have := HDN.out.cnt; omega, by first | omega | (simp; omega), HDN.out.par0, f3, f4⟩
      · skip
        have HD3 := (show Hid _ from HD2.out)
        have o3 := HD3.out.rw
        have hs3 := HD3.out.gr.size
        go_upto_region 24 with (refine wpList_appB _ rfl (.tmp 67) (.tmp 68) 27 rfl w.heap.size 3 ii (.int .i64 0) 8 Tryz.underlying27 hii hzi0 hzi1 hzi2 rfl .i64 r rc row ⟨r, 0, none⟩ rc row rfl rfl o3 o3.sl (by first | omega | (simp; omega)) (by unfold maxLen; first | omega | (simp; omega)) hs3 ?_; intro r' cap' W4 o4 g4 hr4)
        have HD4 := (show Hid _ from HD3.out.push g4 o4 hr4 hgl hT hM)
        clear HD3 o3 hs3 o4 g4 hr4
        have k0 : W4.cell? ⟨T, 0, none⟩ = some (.slice na nn nc) := by have h := HD4.out.bT; simp only [World.cell?, h]; rfl
        have k1 : W4.cell? ⟨w.heap.size, 0, none⟩ = some (.slice none 0 0) := by have h := HD4.out.bR; simp only [World.cell?, h]; rfl
        have z1 : W4.frozen? ⟨w.heap.size, 0, none⟩ = false := by have h := HD4.out.bR; simp [World.frozen?, h]
        go_wp2
        have gs := setCell_at (k := 0) (u := .slice na nn nc) HD4.out.bR
        refine bodyPost_ret (draw_res rfl rfl gs) rfl ?_
        obtain ⟨f1, f2, f3, f4⟩ := HD4.out.fin hgl (.slice na nn nc)
        exact ⟨_, _, ns, row ++ row, rfl, f1, (by first | exact f2 | (rw [List.length_append] at f2; exact f2)), fun n hn => (HDN.out.mild n hn).fit (by omega), by have := HDN.out.cnt; omega, by first | omega | (simp; omega), HDN.out.par0, f3, f4⟩
      · go_wp2_with fail
        go_at_call 32
        refine Calls.mono (below_any 12 (by omega) HD2.out.cur HB.out) ?_
        rintro e W5 ⟨z, rfl, z0, z1, _, k5, g5⟩
        have HD5 := (show Hid _ from HD2.out.cursor k5 g5 hgl hT hM)
        replace z1 := z1 (by omega)
        clear HD2 k5 g5
        have HD3 := (show Hid _ from HD5.out.below ((Below.refl _ _).alloc (Nat.le_refl _) (.cells #[.int .i64 (z - 1)] 3)))
        have o3 := HD3.out.rw
        have hs3 := HD3.out.gr.size
        go_upto_region 24 with (refine wpList_appB _ rfl (.tmp 72) (.tmp 76) 27 rfl w.heap.size 3 ii (.int .i64 0) 8 Tryz.underlying27 hii hzi0 hzi1 hzi2 rfl .i64 r rc row ⟨W5.heap.size, 0, none⟩ 1 [z - 1] rfl rfl o3 (sl_one _ _ _ _) (by first | omega | (simp; omega)) (by unfold maxLen; first | omega | (simp; omega)) hs3 ?_; intro r' cap' W4 o4 g4 hr4)
        have HD4 := (show Hid _ from HD3.out.push g4 o4 hr4 hgl hT hM)
        clear HD3 o3 hs3 o4 g4 hr4
        have k0 : W4.cell? ⟨T, 0, none⟩ = some (.slice na nn nc) := by have h := HD4.out.bT; simp only [World.cell?, h]; rfl
        have k1 : W4.cell? ⟨w.heap.size, 0, none⟩ = some (.slice none 0 0) := by have h := HD4.out.bR; simp only [World.cell?, h]; rfl
        have z1 : W4.frozen? ⟨w.heap.size, 0, none⟩ = false := by have h := HD4.out.bR; simp [World.frozen?, h]
        go_wp2
        have gs := setCell_at (k := 0) (u := .slice na nn nc) HD4.out.bR
        refine bodyPost_ret (draw_res rfl rfl gs) rfl ?_
        obtain ⟨f1, f2, f3, f4⟩ := HD4.out.fin hgl (.slice na nn nc)
        exact ⟨_, _, ns, row ++ [z - 1], rfl, f1, (by first | exact f2 | (rw [List.length_append] at f2; exact f2)), fun n hn => (HDN.out.mild n hn).fit (by omega), by have := HDN.out.cnt; omega, by first | omega | (simp; omega), HDN.out.par0, f3, f4⟩
      · have n0 : (y == 0) = false := by simp; omega
        have n1 : (y == 1) = false := by simp; omega
        have n2 : (y == 2) = false := by simp; omega
        have k0 : W2.cell? ⟨T, 0, none⟩ = some (.slice na nn nc) := by have h := HD2.out.bT; simp only [World.cell?, h]; rfl
        have k1 : W2.cell? ⟨w.heap.size, 0, none⟩ = some (.slice none 0 0) := by have h := HD2.out.bR; simp only [World.cell?, h]; rfl
        have z1 : W2.frozen? ⟨w.heap.size, 0, none⟩ = false := by have h := HD2.out.bR; simp [World.frozen?, h]
        go_wp2
        have gs := setCell_at (k := 0) (u := .slice na nn nc) HD2.out.bR
        refine bodyPost_ret (draw_res rfl rfl gs) rfl ?_
        obtain ⟨f1, f2, f3, f4⟩ := HD2.out.fin hgl (.slice na nn nc)
        exact ⟨_, _, ns, row, rfl, f1, (by first | exact f2 | (rw [List.length_append] at f2; exact f2)), fun n hn => (HDN.out.mild n hn).fit (by omega), by have := HDN.out.cnt; omega, by first | omega | (simp; omega), HDN.out.par0, f3, f4⟩
end Go.Proofs.YtkljadaggnbjkaaGreat

/- The draws of a tree, a row and a name: l10DrawName, l10DrawBoth, DrawPopTo. No condition. -/
namespace Go.Proofs.YtkljadaggnbjkaaGreat
open Go.RowKit
set_option maxRecDepth 100000
set_option linter.unusedVariables false

def tenNames : List ByteArray := [⟨#[112]⟩, ⟨#[108, 105]⟩, ⟨#[98]⟩, ⟨#[100, 105, 118]⟩, ⟨#[98, 117, 116, 116, 111, 110]⟩, ⟨#[104, 116, 109, 108]⟩, ⟨#[120]⟩, ⟨#[100, 100]⟩, ⟨#[98, 111, 100, 121]⟩, ⟨#[105]⟩, ⟨#[]⟩]
theorem tenNames_small : ∀ t ∈ tenNames, t.size ≤ 100 := by decide
set_option maxRecDepth 100000 in
theorem drawName10_any {w0 : World} {g : Nat} {v : Value} {xs : List Int} {w : World} (h : Cur w0 g v xs w) (hb : ∀ x ∈ xs, 0 ≤ x ∧ x ≤ 255) :
    Calls Tryz.prog 31 #[.pointer (some ⟨g, 0, none⟩)] w fun e w' => ∃ t, e = .returned (.string t) ∧ t.size ≤ 100 ∧ Cur w0 g v xs w' ∧ w.grownBy w' (some g) := by
  go_enter Tryz.func31, Tryz.ntmps31
  go_wp2_with fail
  go_at_call 55
  refine (pickS_any h hb tenNames (by decide) (by decide) _ rfl 11 rfl).mono ?_
  rintro e w1 ⟨t, rfl, ht, k1, g1⟩
  have hs := tenNames_small t ht
  go_wp2
  go_ret
  exact ⟨_, rfl, hs, k1, g1⟩

theorem three_res {f : Func} {p q u : Tmp} (hf : f.results = #[.cell p 26, .tmp q, .tmp u]) {tmps : Array Value} {w : World} {g : Nat} {a : Option Addr} {n c : Nat} (h4 : tmps.getD p undef = .pointer (some ⟨g, 0, none⟩)) (hb : w.heap[g]? = some (.cells #[.slice a n c] 26 (0, 0))) :
    (results f tmps).run Tryz.prog w = .ok (.tuple #[.agg #[.slice a n c], tmps.getD q undef, tmps.getD u undef]) w := by
  have h4' : tmps[p]?.getD undef = .pointer (some ⟨g, 0, none⟩) := by simpa using h4
  simp [results, hf, h4', asAddr, run_loadVar_row w g 26 26 #[.slice a n c] (0, 0) _ hb Tryz.underlying26 rfl rfl]

/-- What is drawn. -/
structure Both (w w' : World) (nv rv : Value) (ns : List PNode) (row : List Int) (nm : ByteArray) : Prop where
  own : OwnN w.heap.size w' nv ns
  rw : Own w.heap.size 3 .i64 w' rv row
  fit : ∀ n ∈ ns, NodeFit n
  len : ns.length ≤ 100
  rl : row.length ≤ 100
  par0 : parOf ns 0 = -1
  nm : nm.size ≤ 100
  bel : Below w.heap.size w w'

theorem ownN_low {B : Nat} {w w' : World} {v : Value} {ns : List PNode} {row : Option Nat} (h : OwnN B w v ns) (hg : w.grownBy w' row) (hr : ∀ k, row = some k → k < B) : OwnN B w' v ns := by
  have : OwnR B w v ns w.heap.size := ownN_high h (Nat.le_refl _)
  exact (this.low hg hr).toN

set_option maxHeartbeats 2000000 in
set_option maxRecDepth 100000 in
theorem drawBoth_any {v : Value} {xs : List Int} {w : World} (h : Sl .u8 w v xs) (hb : ∀ x ∈ xs, 0 ≤ x ∧ x ≤ 255) (hn : xs.length ≤ 1099511627776) :
    Calls Tryz.prog 18 #[v] w fun e w' => ∃ nv rv ns row nm, e = .returned (.tuple #[.agg #[nv], rv, .string nm]) ∧ Both w w' nv rv ns row nm := by
  have HB := (show Hid (∀ x ∈ xs, 0 ≤ x ∧ x ≤ 255) from hb)
  have HS := (show Hid (Sl .u8 w v xs) from h)
  obtain ⟨a, ca, rfl, _, _, _, ha⟩ := h
  clear hb ha
  obtain ⟨wA, hwA⟩ : ∃ wA, wA = w.alloc (.cells #[.slice none 0 0] 26) := ⟨_, rfl⟩
  have bA : Below w.heap.size w wA := by rw [hwA]; exact (Below.refl _ _).alloc (Nat.le_refl _) _
  have gA : wA.heap[w.heap.size]? = some (.cells #[.slice none 0 0] 26 (0, 0)) := by rw [hwA]; exact World.alloc_heap_new _ _
  have hsA : w.heap.size < wA.heap.size := blk_lt gA
  have HGA := (show Hid _ from gA)
  clear gA
  go_enter Tryz.func18, Tryz.ntmps18
  go_wp2_with fail
  go_at_call 29
  rw [← hwA]
  clear hwA
  refine Calls.mono (new_any (HS.out.below bA) HB.out hn) ?_
  rintro e w1 ⟨rfl, k1, b1⟩
  obtain ⟨g, hg⟩ : ∃ g, g = wA.heap.size := ⟨_, rfl⟩
  rw [← hg] at k1 hsA ⊢
  have hgl := k1.lt
  have HG1 := (show Hid (w1.heap[w.heap.size]? = some (.cells #[.slice none 0 0] 26 (0, 0))) from (b1.block _ (blk_lt HGA.out)).trans HGA.out)
  have HB1 := (show Hid (Below w.heap.size w w1) from bA.trans (b1.mono bA.size))
  have HK1 := (show Hid (Cur wA g (.slice a xs.length ca) xs w1) from k1)
  clear k1 b1 hg HGA bA HS
  go_wp2_with fail
  go_at_call 30
  refine Calls.mono (sdrawRow_any HK1.out HB.out) ?_
  rintro e w2 ⟨nv, rv, ns, row, rfl, own2, rw2, hfit, hlen, hrl, hpar, k2, g2⟩
  obtain ⟨na, nn, nc, rfl⟩ : ∃ a n c, nv = .slice a n c := by obtain ⟨_, _, h, _⟩ := own2; exact own_slice h
  obtain ⟨ra, rn, rc, rfl⟩ := own_slice rw2
  obtain ⟨w3, hw3⟩ : ∃ w3, w3 = w2.alloc (.cells #[.slice na nn nc] 26) := ⟨_, rfl⟩
  have b3 : Below w2.heap.size w2 w3 := by rw [hw3]; exact (Below.refl _ _).alloc (Nat.le_refl _) _
  have g3 : w3.heap[w2.heap.size]? = some (.cells #[.slice na nn nc] 26 (0, 0)) := by rw [hw3]; exact World.alloc_heap_new _ _
  have hN3 : w3.heap[w.heap.size]? = some (.cells #[.slice none 0 0] 26 (0, 0)) := (b3.block _ (Nat.lt_of_lt_of_le (blk_lt HG1.out) g2.size)).trans ((g2.block _ (blk_lt HG1.out) (fun e => by simp only [Option.some.injEq] at e; omega)).trans HG1.out)
  have y3 : w3.cell? ⟨w2.heap.size, 0, none⟩ = some (.slice na nn nc) := by simp only [World.cell?, g3]; rfl
  have hs1 := HB1.out.size
  have hs2 := g2.size
  have hgs : g ≠ w2.heap.size := by omega
  have HF := (show Hid (∀ n ∈ ns, NodeFit n) from hfit)
  have HPAR := (show Hid (parOf ns 0 = -1) from hpar)
  have HO3 := (show Hid (OwnN w1.heap.size w3 (.slice na nn nc) ns) from own2.below b3)
  have HR3 := (show Hid (Own w1.heap.size 3 .i64 w3 (.slice ra rn rc) row) from rw2.below b3)
  have HK3 := (show Hid (Cur wA g (.slice a xs.length ca) xs w3) from k2.below b3)
  have HB3 := (show Hid (Below w.heap.size w w3) from (HB1.out.grown g2 HB1.out.size (fun r e => by cases e; omega)).trans (b3.mono (by have := g2.size; omega)))
  have HG3 := (show Hid _ from g3)
  have HN3 := (show Hid _ from hN3)
  clear own2 rw2 hfit hpar k2 g2 b3 g3 hN3 HG1 HB1 HK1
  have bd : Below w3.heap.size w3 w3.drew := below_drewN 1
  go_wp2
  rw [← hw3]
  clear hw3
  go_region_with (first
    | (go_at_call 31; refine Calls.mono (drawName10_any (HK3.out.below bd) HB.out) ?_; rintro e w4 ⟨nm, rfl, hnm, k4, g4⟩
       have e4 := (g4.block _ (blk_lt HG3.out) (fun e => by simp only [Option.some.injEq] at e; exact hgs e.symm)).trans HG3.out
       have y4 : w4.cell? ⟨w2.heap.size, 0, none⟩ = some (.slice na nn nc) := by simp only [World.cell?, e4]; rfl
       have e5 := (g4.block _ (blk_lt HN3.out) (fun e => by simp only [Option.some.injEq] at e; omega)).trans HN3.out
       have y5 : w4.cell? ⟨w.heap.size, 0, none⟩ = some (.slice none 0 0) := by simp only [World.cell?, e5]; rfl
       have z5 : w4.frozen? ⟨w.heap.size, 0, none⟩ = false := by simp [World.frozen?, e5]
       have H5 := (show Hid _ from e5)
       have HG4 := (show Hid (w3.drew.grownBy w4 (some g)) from g4)
       clear e4 e5 g4 k4))
  all_goals
    go_wp2
    have gs := setCell_at (k := 0) (u := .slice na nn nc) H5.out
    have gr := grown_setCell w4 w.heap.size 0 (.slice na nn nc)
    have o4 := ownN_low (HO3.out.below bd) HG4.out (fun k e => by cases e; exact hgl)
    have r4 := own_low (HR3.out.below bd) HG4.out (fun k e => by cases e; exact hgl)
    have b4 : Below w.heap.size w w4 := (HB3.out.trans (bd.mono HB3.out.size)).grown HG4.out (Nat.le_trans HB3.out.size bd.size) (fun r e => by cases e; omega)
    refine bodyPost_ret (three_res (f := Tryz.f18) (p := 2) (q := 3) (u := 4) rfl rfl gs) rfl ?_
    refine ⟨_, _, ns, row, nm, rfl, ⟨(o4.kept gr (fun k e => by cases e; exact ⟨_, _, _, H5.out, by decide, by decide, by decide⟩)).base hs1, (show Own _ 3 .i64 _ _ row from kept_of_type r4 gr (fun k e => by cases e; exact ⟨_, _, _, H5.out, by decide⟩)).base hs1, HF.out, hlen, hrl, HPAR.out, hnm, b4.setCell (p := ⟨w.heap.size, 0, none⟩) (Nat.le_refl _) _⟩⟩
end Go.Proofs.YtkljadaggnbjkaaGreat

/- The draw DrawPopTo (written by mk/drawpop.py). No condition. -/
namespace Go.Proofs.YtkljadaggnbjkaaGreat
open Go.RowKit
set_option maxRecDepth 100000
set_option linter.unusedVariables false

set_option maxHeartbeats 1000000 in
set_option maxRecDepth 100000 in
theorem drawPopTo_any {v : Value} {xs : List Int} {w : World} (h : Sl .u8 w v xs) (hb : ∀ x ∈ xs, 0 ≤ x ∧ x ≤ 255) (hn : xs.length ≤ 1099511627776) :
    Calls Tryz.prog 6 #[v] w fun e w' => ∃ nv rv ns row nm, e = .returned (.tuple #[.agg #[nv], rv, .string nm]) ∧ Both w w' nv rv ns row nm := by
  have HB := (show Hid (∀ x ∈ xs, 0 ≤ x ∧ x ≤ 255) from hb)
  have HS := (show Hid (Sl .u8 w v xs) from h)
  obtain ⟨a, ca, rfl, _, _, _, ha⟩ := h
  clear hb ha
  obtain ⟨wA, hwA⟩ : ∃ wA, wA = w.alloc (.cells #[.slice none 0 0] 26) := ⟨_, rfl⟩
  have bA : Below w.heap.size w wA := by rw [hwA]; exact (Below.refl _ _).alloc (Nat.le_refl _) _
  have gA : wA.heap[w.heap.size]? = some (.cells #[.slice none 0 0] 26 (0, 0)) := by rw [hwA]; exact World.alloc_heap_new _ _
  have HGA := (show Hid _ from gA)
  clear gA
  go_enter Tryz.func6, Tryz.ntmps6
  go_wp2_with fail
  go_at_call 18
  rw [← hwA]
  clear hwA
  refine Calls.mono (drawBoth_any (HS.out.below bA) HB.out hn) ?_
  rintro e w2 ⟨nv, rv, ns, row, nm, rfl, B2⟩
  obtain ⟨na, nn, nc, rfl⟩ : ∃ a n c, nv = .slice a n c := by obtain ⟨_, _, h, _⟩ := B2.own; exact own_slice h
  obtain ⟨ra, rn, rc, rfl⟩ := own_slice B2.rw
  have H2 := (show Hid (Both wA w2 (.slice na nn nc) (.slice ra rn rc) ns row nm) from B2)
  clear B2
  obtain ⟨w3, hw3⟩ : ∃ w3, w3 = w2.alloc (.cells #[.slice na nn nc] 26) := ⟨_, rfl⟩
  have b3 : Below w2.heap.size w2 w3 := by rw [hw3]; exact (Below.refl _ _).alloc (Nat.le_refl _) _
  have g3 : w3.heap[w2.heap.size]? = some (.cells #[.slice na nn nc] 26 (0, 0)) := by rw [hw3]; exact World.alloc_heap_new _ _
  have hN3 : w3.heap[w.heap.size]? = some (.cells #[.slice none 0 0] 26 (0, 0)) := (b3.block _ (Nat.lt_of_lt_of_le (blk_lt HGA.out) H2.out.bel.size)).trans ((H2.out.bel.block _ (blk_lt HGA.out)).trans HGA.out)
  have y3 : w3.cell? ⟨w2.heap.size, 0, none⟩ = some (.slice na nn nc) := by simp only [World.cell?, g3]; rfl
  have y1 : w3.cell? ⟨w.heap.size, 0, none⟩ = some (.slice none 0 0) := by simp only [World.cell?, hN3]; rfl
  have z1 : w3.frozen? ⟨w.heap.size, 0, none⟩ = false := by simp [World.frozen?, hN3]
  have HN3 := (show Hid _ from hN3)
  have HB3 := (show Hid _ from b3)
  have BA := (show Hid (Below w.heap.size w wA) from bA)
  clear g3 hN3 b3 HGA HS bA
  go_upto_region 2 with fail
  rw [← hw3]
  clear hw3
  go_wp2
  have gs := setCell_at (k := 0) (u := .slice na nn nc) HN3.out
  have gr := grown_setCell w3 w.heap.size 0 (.slice na nn nc)
  have hbb := BA.out.trans ((H2.out.bel.trans (HB3.out.mono H2.out.bel.size)).mono BA.out.size)
  refine bodyPost_ret (three_res (f := Tryz.f6) (p := 2) (q := 3) (u := 4) rfl rfl gs) rfl ?_
  exact ⟨_, _, ns, row, nm, rfl, ⟨(((H2.out.own.below HB3.out).kept gr (fun k e => by cases e; exact ⟨_, _, _, HN3.out, by decide, by decide, by decide⟩))).base BA.out.size,
    (show Own _ 3 .i64 _ _ row from kept_of_type (H2.out.rw.below HB3.out) gr (fun k e => by cases e; exact ⟨_, _, _, HN3.out, by decide⟩)).base BA.out.size, H2.out.fit, H2.out.len, H2.out.rl, H2.out.par0, H2.out.nm, hbb.setCell (p := ⟨w.heap.size, 0, none⟩) (Nat.le_refl _) _⟩⟩
end Go.Proofs.YtkljadaggnbjkaaGreat
