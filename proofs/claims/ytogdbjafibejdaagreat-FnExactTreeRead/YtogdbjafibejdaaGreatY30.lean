/- The specification's l6Add. No condition. -/
import Derived.Test.YtogdbjafibejdaaGreatY28
import Derived.Test.YtogdbjafibejdaaGreatY22
import Derived.Deep.RegionLaw
import Derived.Deep.Cut
import Derived.Test.YtogdbjafibejdaaGreatY29
import Derived.Test.YtogdbjafibejdaaGreatY4
import Derived.Test.YtogdbjafibejdaaGreatY20
import Derived.Test.YtogdbjafibejdaaGreatY21
namespace Go.Proofs.YtogdbjafibejdaaGreat
open Go.RowKit
set_option maxRecDepth 100000
set_option linter.unusedVariables false

theorem step_appV {P : Program} {ops : Array Oper} {o : Oper} {a : Act} {w : World} {K : Act → World → Prop} {Q : Exit → Act → World → Prop} {E : Prop}
    (hg : o.guard = none) (s x : Operand) (t : TypeId) (hop : o.op = Op.call { callee := Callee.builtin Builtin.append, args := #[s, x], argTypes := #[t, t] })
    (B : Nat) (e : TypeId) (i : TypeInfo) (z : Value) (size bytes : Nat) (h1 : P.underlying t = some (.slice e)) (h2 : P.info? e = some i) (h3 : i.zero = some z) (h4 : i.size = size) (h5 : i.bytes = bytes) (h6 : z.cells.size = size) (h7 : 0 < size)
    (v : Value) (n : Nat) (xs : List Value) (hs : a.eval s = v) (hown : w.ownsRow B e size v n xs)
    (ad : Addr) (m c : Nat) (news : List Value) (hx : a.eval x = .slice (some ad) m c) (hu : Sv size w (.slice (some ad) m c) news) (h1c : ∀ u ∈ news, u.oneCell' = true)
    (b1 : n + m ≤ maxLen) (b2 : (n + m) * bytes ≤ 140737488355328) (hB : B ≤ w.heap.size)
    (hK : ∀ v' w', w'.ownsRow B e size v' (n + m) (xs ++ news) → w.grownBy w' v.ownBlock → K (a.put o.dst v') w') :
    if Region.wanted o (yielded ops a.tmps) = true then Oper.wp P o a w K Q else E := by
  obtain ⟨ao, len, cap, e1, hl, hlc, hcm, hnone, hc⟩ := hu
  cases e1
  refine step_app_own hg s x t hop B e i z size bytes h1 h2 h3 h4 h5 h6 h7 v n xs hs hown ad m c news hx hl ?_ h1c b1 b2 hB hK
  intro j y hy
  have hj : j < news.length := by
    by_cases hj : j < news.length
    · exact hj
    · rw [List.getElem?_eq_none (Nat.le_of_not_lt hj)] at hy; cases hy
  obtain ⟨b, off, e, c⟩ := hc j hj
  cases e
  have e2 : news.getD j undef = y := by rw [List.getD_eq_getElem?_getD, hy]; rfl
  rw [e2] at c
  rw [← c]
  by_cases h0 : j = 0
  · subst h0; simp [Addr.add]
  · simp [Addr.add, h0]

theorem ownsRow_nil_int (B : Nat) (w : World) : Own B 3 .i64 w (.slice none 0 0) [] := World.ownsRow_nil _ _ _ _
theorem lt_of_cell6 {w : World} {g o : Nat} {u : Value} (h : w.cell? ⟨g, o, none⟩ = some u) : g < w.heap.size := by
  by_cases hlt : g < w.heap.size
  · exact hlt
  · exfalso; simp [World.cell?, Array.getElem?_eq_none (Nat.le_of_not_lt hlt)] at h
end Go.Proofs.YtogdbjafibejdaaGreat

/- Trees tidied, plainly, as the program goes. No condition. -/
namespace Go.Proofs.YtogdbjafibejdaaGreat
open Go.RowKit
set_option maxRecDepth 100000
set_option linter.unusedVariables false

theorem snoc_ind {P : List Int → Prop} (h0 : P []) (h1 : ∀ l x, P l → P (l ++ [x])) (l : List Int) : P l := by
  have key : ∀ r : List Int, P r.reverse := by
    intro r
    induction r with
    | nil => exact h0
    | cons x r ih => rw [List.reverse_cons]; exact h1 _ _ ih
  have := key l.reverse
  rwa [List.reverse_reverse] at this
def alone (n : PNode) : PNode := ⟨n.kind, n.name, n.attrs, n.text, -1, []⟩
def aloneAt (ns : List PNode) (k : Nat) : PNode := (ns[k]?.map alone).getD ⟨0, ⟨#[]⟩, [], ⟨#[]⟩, -1, []⟩
theorem aloneAt_at {ns : List PNode} {k : Nat} (h : k < ns.length) : aloneAt ns k = alone ns[k] := by simp [aloneAt, h]
def tidyStep (ns : List PNode) (st : List PNode × List Int) (x : Int) : List PNode × List Int :=
  if x.toNat = 0 then (st.1 ++ [aloneAt ns x.toNat], st.2.set x.toNat st.1.length)
  else (hangN (st.1 ++ [aloneAt ns x.toNat]) st.1.length ((st.2.set x.toNat (st.1.length : Int)).getD (parOf ns x.toNat).toNat 0).toNat, st.2.set x.toNat st.1.length)
def tidyL (ns : List PNode) (l : List Int) : List PNode × List Int := l.foldl (tidyStep ns) ([], List.replicate 500 0)
def tidyN (ns : List PNode) : List PNode := (tidyL ns (down ns ns.length 0)).1
theorem tidyL_snoc (ns : List PNode) (l : List Int) (x : Int) : tidyL ns (l ++ [x]) = tidyStep ns (tidyL ns l) x := by simp [tidyL]
theorem tidyStep_len (ns : List PNode) (st : List PNode × List Int) (x : Int) : (tidyStep ns st x).1.length = st.1.length + 1 ∧ (tidyStep ns st x).2.length = st.2.length := by
  unfold tidyStep
  split
  · simp
  · simp [hangN_len]
theorem tidyL_len (ns : List PNode) (l : List Int) : (tidyL ns l).1.length = l.length ∧ (tidyL ns l).2.length = 500 := by
  refine snoc_ind (P := fun l => (tidyL ns l).1.length = l.length ∧ (tidyL ns l).2.length = 500) (by simp [tidyL]) ?_ l
  · intro l x ih
    have := tidyStep_len ns (tidyL ns l) x
    rw [tidyL_snoc, this.1, this.2, ih.1, ih.2]
    simp
theorem tidyL_place (ns : List PNode) (l : List Int) : ∀ k, 0 ≤ (tidyL ns l).2.getD k 0 ∧ ((tidyL ns l).2.getD k 0 = 0 ∨ (tidyL ns l).2.getD k 0 < l.length) := by
  refine snoc_ind (P := fun l => ∀ k, 0 ≤ (tidyL ns l).2.getD k 0 ∧ ((tidyL ns l).2.getD k 0 = 0 ∨ (tidyL ns l).2.getD k 0 < l.length)) ?_ ?_ l
  · intro k
    have : (tidyL ns []).2.getD k 0 = 0 := by
      simp only [tidyL, List.foldl_nil, List.getD_eq_getElem?_getD, List.getElem?_replicate]
      split <;> rfl
    rw [this]; simp
  · intro l x ih k
    have e : (tidyL ns (l ++ [x])).2 = (tidyL ns l).2.set x.toNat ((tidyL ns l).1.length : Int) := by
      rw [tidyL_snoc]; unfold tidyStep; split <;> rfl
    rw [e, (tidyL_len ns l).1, List.length_append, List.getD_eq_getElem?_getD, List.getElem?_set]
    have h := ih k
    rw [List.getD_eq_getElem?_getD] at h
    split
    · split
      · simp; omega
      · simp
    · simp only [List.length_cons, List.length_nil]; omega
theorem mem_modify {ns : List PNode} {k : Nat} {f : PNode → PNode} {n : PNode} (h : n ∈ ns.modify k f) : n ∈ ns ∨ ∃ m ∈ ns, n = f m := by
  obtain ⟨i, hi, rfl⟩ := List.getElem_of_mem h
  rw [List.length_modify] at hi
  rw [List.getElem_modify]
  split
  · exact .inr ⟨_, List.getElem_mem hi, rfl⟩
  · exact .inl (List.getElem_mem hi)
theorem hangN_all {ns : List PNode} {c p : Nat} {P Q : PNode → Prop} (h : ∀ n ∈ ns, P n) (h1 : ∀ n x, P n → P (setPar n x)) (h2 : ∀ n (x : Int), P n → P (setKids n (lessL x n.kids))) (h3 : ∀ n, P n → Q n) (h4 : ∀ n (x : Int), P n → Q (setKids n (n.kids ++ [x]))) : ∀ n ∈ hangN ns c p, Q n := by
  have hc : ∀ n ∈ cutN ns c, P n := by
    intro n hn
    unfold cutN at hn
    split at hn
    · exact h n hn
    · rcases mem_modify hn with hn | ⟨m, hm, rfl⟩
      · exact h n hn
      · exact h2 m _ (h m hm)
  have ht : ∀ n ∈ takeN ns c, P n := by
    intro n hn
    rcases mem_modify hn with hn | ⟨m, hm, rfl⟩
    · exact hc n hn
    · exact h1 m _ (hc m hm)
  have hk : ∀ n ∈ (takeN ns c).modify c (fun n => setPar n (p : Int)), P n := by
    intro n hn
    rcases mem_modify hn with hn | ⟨m, hm, rfl⟩
    · exact ht n hn
    · exact h1 m _ (ht m hm)
  intro n hn
  rcases mem_modify hn with hn | ⟨m, hm, rfl⟩
  · exact h3 n (hk n hn)
  · exact h4 m _ (hk m hm)
theorem tidyL_kids (ns : List PNode) (l : List Int) : ∀ n ∈ (tidyL ns l).1, n.kids.length ≤ l.length := by
  refine snoc_ind (P := fun l => ∀ n ∈ (tidyL ns l).1, n.kids.length ≤ l.length) (fun n hn => by cases hn) ?_ l
  · intro l x ih
    have hs : ∀ n ∈ (tidyL ns l).1 ++ [aloneAt ns x.toNat], n.kids.length ≤ l.length := by
      intro n hn
      rcases List.mem_append.mp hn with hn | hn
      · exact ih n hn
      · rw [List.mem_singleton.mp hn]
        unfold aloneAt
        cases ns[x.toNat]? <;> simp [alone]
    rw [tidyL_snoc, List.length_append]
    unfold tidyStep
    split
    · intro n hn
      have := hs n hn
      simp only [List.length_cons, List.length_nil]; omega
    · refine hangN_all (P := fun n => n.kids.length ≤ l.length) hs (fun n x h => h) (fun n x h => ?_) (fun n h => by show n.kids.length ≤ _; simp only [List.length_cons, List.length_nil]; omega) (fun n x h => by simp [setKids]; omega)
      exact Nat.le_trans (lessL_len _ _) h
theorem tidyL_fit {ns : List PNode} (hf : ∀ n ∈ ns, NodeFit n) (l : List Int) (hl : l.length ≤ 1000000) : ∀ n ∈ (tidyL ns l).1, NodeFit n := by
  have key : ∀ n ∈ (tidyL ns l).1, n.name.size ≤ 1048576 ∧ n.text.size ≤ 1048576 ∧ n.attrs.length ≤ 1048576 ∧ ∀ p ∈ n.attrs, p.1.size ≤ 1099511627776 ∧ p.2.size ≤ 1099511627776 := by
    clear hl
    refine snoc_ind (P := fun l => ∀ n ∈ (tidyL ns l).1, n.name.size ≤ 1048576 ∧ n.text.size ≤ 1048576 ∧ n.attrs.length ≤ 1048576 ∧ ∀ p ∈ n.attrs, p.1.size ≤ 1099511627776 ∧ p.2.size ≤ 1099511627776) (fun n hn => by cases hn) ?_ l
    · intro l x ih
      have hs : ∀ n ∈ (tidyL ns l).1 ++ [aloneAt ns x.toNat], n.name.size ≤ 1048576 ∧ n.text.size ≤ 1048576 ∧ n.attrs.length ≤ 1048576 ∧ ∀ p ∈ n.attrs, p.1.size ≤ 1099511627776 ∧ p.2.size ≤ 1099511627776 := by
        intro n hn
        rcases List.mem_append.mp hn with hn | hn
        · exact ih n hn
        · rw [List.mem_singleton.mp hn]
          unfold aloneAt
          cases h : ns[x.toNat]? with
          | none => exact ⟨Nat.zero_le _, Nat.zero_le _, Nat.zero_le _, fun p hp => by cases hp⟩
          | some m =>
            have := hf m (List.mem_of_getElem? h)
            exact ⟨this.nm, this.tx, this.rs, this.each⟩
      rw [tidyL_snoc]
      unfold tidyStep
      split
      · exact hs
      · exact hangN_all (P := fun n => n.name.size ≤ 1048576 ∧ n.text.size ≤ 1048576 ∧ n.attrs.length ≤ 1048576 ∧ ∀ p ∈ n.attrs, p.1.size ≤ 1099511627776 ∧ p.2.size ≤ 1099511627776) hs (fun n x h => h) (fun n x h => h) (fun n h => h) (fun n x h => h)
  intro n hn
  obtain ⟨h1, h2, h3, h4⟩ := key n hn
  exact ⟨h1, h2, h3, h4, by have := tidyL_kids ns l n hn; omega⟩
end Go.Proofs.YtogdbjafibejdaaGreat

/- A text that is written below a node, in plain words. No condition. -/
namespace Go.Proofs.YtogdbjafibejdaaGreat
open Go.RowKit
set_option maxRecDepth 100000
set_option linter.unusedVariables false

def LastT (ns : List PNode) (p k : Nat) : Prop := ∃ pre, kidsOf ns p = pre ++ [(k : Int)] ∧ ∃ h : k < ns.length, ns[k].kind = 4
theorem LastT.one {ns : List PNode} {p k j : Nat} (h : LastT ns p k) (h' : LastT ns p j) : k = j := by
  obtain ⟨a, ha, _⟩ := h
  obtain ⟨b, hb, _⟩ := h'
  rw [ha] at hb
  have e := List.append_inj_right' hb rfl
  simp at e
  omega
theorem toListW_loop (s : ByteArray) : ∀ (n i : Nat) (r : List UInt8), s.size - i = n → (r ≠ [] ∨ 0 < n) → ByteArray.toList.loop s i r ≠ []
  | 0, i, r, h, hr => by
    rw [ByteArray.toList.loop]
    rw [if_neg (by omega)]
    rcases hr with hr | hr
    · simpa using hr
    · omega
  | n + 1, i, r, h, hr => by
    rw [ByteArray.toList.loop]
    rw [if_pos (by omega)]
    exact toListW_loop s n (i + 1) _ (by omega) (.inl (by simp))
theorem empB_iff (s : ByteArray) : empB s = true ↔ s.size = 0 := by
  unfold empB
  rw [decide_eq_true_iff]
  constructor
  · intro h
    apply Classical.byContradiction
    intro hn
    exact toListW_loop s s.size 0 [] (by omega) (.inr (by omega)) h
  · intro h
    unfold ByteArray.toList
    rw [ByteArray.toList.loop, if_neg (by omega)]
    rfl
end Go.Proofs.YtogdbjafibejdaaGreat

/- The specification's functions on a row of open elements. No condition. -/
namespace Go.Proofs.YtogdbjafibejdaaGreat
open Go.RowKit
set_option maxRecDepth 100000
set_option linter.unusedVariables false
end Go.Proofs.YtogdbjafibejdaaGreat

/- The draw of a node: l6DrawNode (written by mk/drawnode.py). No condition. -/
namespace Go.Proofs.YtogdbjafibejdaaGreat
open Go.RowKit
set_option maxRecDepth 100000
set_option linter.unusedVariables false
theorem six_at {w : World} {b : Nat} {a0 a1 a2 a3 a4 a5 : Value} {t : TypeId} (h : w.heap[b]? = some (.cells #[a0, a1, a2, a3, a4, a5] t (0, 0))) :
    (w.cell? ⟨b, 0, none⟩ = some a0 ∧ w.cell? ⟨b, 1, none⟩ = some a1 ∧ w.cell? ⟨b, 2, none⟩ = some a2 ∧ w.cell? ⟨b, 3, none⟩ = some a3 ∧ w.cell? ⟨b, 4, none⟩ = some a4 ∧ w.cell? ⟨b, 5, none⟩ = some a5) ∧
    (w.frozen? ⟨b, 0, none⟩ = false ∧ w.frozen? ⟨b, 1, none⟩ = false ∧ w.frozen? ⟨b, 2, none⟩ = false ∧ w.frozen? ⟨b, 3, none⟩ = false ∧ w.frozen? ⟨b, 4, none⟩ = false ∧ w.frozen? ⟨b, 5, none⟩ = false) := by
  refine ⟨⟨?_, ?_, ?_, ?_, ?_, ?_⟩, ?_, ?_, ?_, ?_, ?_, ?_⟩
  all_goals first
    | (simp only [World.cell?, h]; rfl)
    | (simp only [World.frozen?, h]; rfl)

structure DnW (w0 w : World) (g : Nat) (v : Value) (xs : List Int) (N : Nat) (k : Int) (nm : ByteArray) (av : Value) (tx : ByteArray) (W : World) : Prop where
  cur : Cur w0 g v xs W
  bR : W.heap[w.heap.size]? = some (.cells #[.int .i64 0, .string ⟨#[]⟩, .slice none 0 0, .string ⟨#[]⟩, .int .i64 0, .slice none 0 0] 36 (0, 0))
  bN : W.heap[N]? = some (.cells #[.int .i64 k, .string nm, av, .string tx, .int .i64 (-1), .slice none 0 0] 36 (0, 0))
  gr : w.grownBy W (some g)
  nN : w.heap.size < N
theorem DnW.next {w0 w W W' : World} {g : Nat} {v : Value} {xs : List Int} {N : Nat} {k : Int} {nm : ByteArray} {av : Value} {tx : ByteArray} (h : DnW w0 w g v xs N k nm av tx W) (hg : g < w.heap.size) (hc : Cur w0 g v xs W') (hgr : W.grownBy W' (some g)) : DnW w0 w g v xs N k nm av tx W' :=
  ⟨hc, (hgr.block _ (blk_lt h.bR) (fun e => by simp only [Option.some.injEq] at e; omega)).trans h.bR, (hgr.block _ (blk_lt h.bN) (fun e => by have := h.nN; simp only [Option.some.injEq] at e; omega)).trans h.bN, grown_trans h.gr hgr, h.nN⟩
theorem DnW.set {w0 w W : World} {g : Nat} {v : Value} {xs : List Int} {N : Nat} {k : Int} {nm : ByteArray} {av : Value} {tx : ByteArray} (h : DnW w0 w g v xs N k nm av tx W) (hg : g < w.heap.size) {j : Nat} {u : Value} {nm' : ByteArray} {av' : Value} {tx' : ByteArray}
    (e : (#[.int .i64 k, .string nm, av, .string tx, .int .i64 (-1), .slice none 0 0] : Array Value).setIfInBounds j u = #[.int .i64 k, .string nm', av', .string tx', .int .i64 (-1), .slice none 0 0]) : DnW w0 w g v xs N k nm' av' tx' (W.setCell ⟨N, j, none⟩ u) := by
  have hs := grown_setCell W N j u
  have hn := h.nN
  have hw := h.gr.size
  refine ⟨h.cur.kept hs (fun e => by simp only [Option.some.injEq] at e; omega) (fun r e => by cases e; have := h.cur.1; omega), (hs.block _ (blk_lt h.bR) (fun e => by simp only [Option.some.injEq] at e; omega)).trans h.bR, ?_, ⟨hs.os.trans h.gr.os, hs.tape.trans h.gr.tape, hs.output.trans h.gr.output, Nat.le_trans h.gr.size hs.size, fun r hr hne => (hs.block r (by omega) (fun e => by simp only [Option.some.injEq] at e; omega)).trans (h.gr.block r hr hne)⟩, hn⟩
  have := setCell_at (k := j) (u := u) h.bN
  rw [e] at this
  exact this
end Go.Proofs.YtogdbjafibejdaaGreat
