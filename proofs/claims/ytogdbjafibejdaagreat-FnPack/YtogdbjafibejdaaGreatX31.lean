/- append of integers that tells its block: the old one, or a new one. No condition. -/
import Derived.Test.YtogdbjafibejdaaGreatX3
import Derived.Test.YtogdbjafibejdaaGreatX28
import Derived.Test.YtogdbjafibejdaaGreatX14
import Derived.Laws.Append
import Derived.Test.YtogdbjafibejdaaGreatX27
import Derived.Test.YtogdbjafibejdaaGreatX4
import Derived.Test.YtogdbjafibejdaaGreatX20
import Derived.Test.YtogdbjafibejdaaGreatX30
import Derived.Test.YtogdbjafibejdaaGreatX10
import Derived.Test.YtogdbjafibejdaaGreatX13
namespace Go.Proofs.YtogdbjafibejdaaGreat
open Go.RowKit
set_option maxRecDepth 100000
set_option linter.unusedVariables false

theorem run_blk {P : Program} (w : World) (base : Nat) (t ty e : TypeId) (i : TypeInfo) (z : Value) (size bytes : Nat) (ht : P.underlying t = some (.slice e)) (hi : P.info? e = some i) (hz : i.zero = some z)
    (hsize : i.size = size) (hby : i.bytes = bytes) (r n cap : Nat) (xs : List Value) (hown : w.ownsRow base e size (.slice (some ⟨r, 0, none⟩) n cap) n xs)
    (a : Addr) (m c : Nat) (news : List Value) (hl : news.length = m * size) (hnews : ∀ j u, news[j]? = some u → w.cell? (a.add j) = some u) (h1 : ∀ u ∈ news, u.oneCell' = true)
    (h63 : n + m ≤ maxLen) (hbytes : (n + m) * bytes ≤ 140737488355328) {v' : Value} {w' : World} (hr : (Builtin.append_ #[t, t] ty #[.slice (some ⟨r, 0, none⟩) n cap, .slice (some a) m c]).run P w = .ok v' w') :
    ∃ r' cap', v' = .slice (some ⟨r', 0, none⟩) (n + m) cap' ∧ (r' = r ∨ r' = w.heap.size) := by
  subst hsize
  subst hby
  have hsmall : n + m ≤ 9223372036854775807 := by simp only [maxLen] at h63; omega
  rcases hown.2 with ⟨e1, _⟩ | ⟨g, cap', cur, e1, hbg, hg, hnc, hcm, hcs, htake⟩
  · cases e1
  · cases e1
    by_cases hroom : n + m ≤ cap
    · have hfit : n * i.size + news.length ≤ cur.size := by rw [hl, hcs, ← Nat.add_mul]; exact Nat.mul_le_mul_right _ hroom
      have hr2 := run_append_room (P := P) w t ty e i ht hi r n cap cur hg a m c news hl hnews h1 hroom hfit
      rw [hr] at hr2
      cases hr2
      exact ⟨_, _, rfl, .inl rfl⟩
    · have holds : ∀ j u, xs[j]? = some u → w.cell? ((⟨r, 0, none⟩ : Addr).add j) = some u := hown.cells (g := r) rfl
      have hr2 := run_append_grow (P := P) w t ty e i z ht hi hz ⟨r, 0, none⟩ n cap xs hown.1 holds a m c news hl hnews (by omega) (by omega) (growslice_fits (by omega) hbytes)
      rw [hr] at hr2
      cases hr2
      exact ⟨_, _, rfl, .inr rfl⟩

theorem wpList_appB {P : Program} (w : World) {ops : Array Oper} {rest : List Oper} {o : Oper} {a : Act} {Q : Exit → Act → World → Prop} (hgd : o.guard = none)
    (s x : Operand) (t : TypeId) (ho : o.op = Op.call { callee := Callee.builtin Builtin.append, args := #[s, x], argTypes := #[t, t] }) (B : Nat) (e : TypeId) (i : TypeInfo)
    (z : Value) (bytes : Nat) (ht : P.underlying t = some (TypeDesc.slice e)) (hi : P.info? e = some i) (hz : i.zero = some z) (hsize : i.size = 1) (hby : i.bytes = bytes)
    (hzs : z.cells.size = 1) (K : IntKind) (r cap : Nat) (xs : List Int) (ad : Addr) (c : Nat) (ys : List Int) (hs : a.eval s = .slice (some ⟨r, 0, none⟩) xs.length cap) (hx : a.eval x = .slice (some ad) ys.length c) (hown : Own B e K w (.slice (some ⟨r, 0, none⟩) xs.length cap) xs) (hu : Sl K w (.slice (some ad) ys.length c) ys)
    (hb : (xs.length + ys.length) * bytes ≤ 140737488355328) (h63 : xs.length + ys.length ≤ maxLen) (hbase : B ≤ w.heap.size)
    (h : ∀ (r' cap' : Nat) (w' : World), Own B e K w' (.slice (some ⟨r', 0, none⟩) (xs.length + ys.length) cap') (xs ++ ys) → w.grownBy w' (some r) → (r' = r ∨ r' = w.heap.size) → wpList P ops Q rest (a.put o.dst (.slice (some ⟨r', 0, none⟩) (xs.length + ys.length) cap')) w') :
    wpList P ops Q (o :: rest) a w := by
  obtain ⟨ao, cap0, e1, hlc, hcm, hnone, hc⟩ := hu
  cases e1
  obtain ⟨v', w', hr, h2, h3, h4⟩ := run_append_own (P := P) w B t o.type e i z 1 bytes ht hi hz hsize hby hzs (by decide) _ xs.length (xs.map (Value.int K)) hown ad ys.length c (ys.map (Value.int K)) (by simp) (Sl.news hc) (ints_oneCell K ys) h63 hb hbase
  obtain ⟨r', cap', rfl, hrr⟩ := run_blk w B t o.type e i z 1 bytes ht hi hz hsize hby r xs.length cap (xs.map (Value.int K)) hown ad ys.length c (ys.map (Value.int K)) (by simp) (Sl.news hc) (ints_oneCell K ys) h63 hb hr
  refine wpList_plain hgd fun _ hK => ?_
  unfold Oper.wp execOp
  simp only [ho, resolve, invoke, builtin, Sem.run_bind, Sem.run_pure, Result.andThen_ok, List.map_toArray, List.map_cons, List.map_nil, hs, hx, hr]
  refine hK _ _ (h r' cap' w' ?_ h3 hrr)
  unfold Own
  rw [List.length_append, List.map_append]; exact h2

end Go.Proofs.YtogdbjafibejdaaGreat

/- Trees tidied, plainly, as the program goes. No condition. -/
namespace Go.Proofs.YtogdbjafibejdaaGreat
open Go.RowKit
set_option maxRecDepth 100000
set_option linter.unusedVariables false

theorem snoc_ind {P : List Int → Prop} (h0 : P []) (h1 : ∀ l x, P l → P (l ++ [x])) (l : List Int) : P l := by
  have key : ∀ r : List Int, P r.reverse := by
    intro r
    induction r with
    | nil => exact h0
    | cons x r ih => rw [List.reverse_cons]; exact h1 _ _ ih
  have := key l.reverse
  rwa [List.reverse_reverse] at this
def alone (n : PNode) : PNode := ⟨n.kind, n.name, n.attrs, n.text, -1, []⟩
def aloneAt (ns : List PNode) (k : Nat) : PNode := (ns[k]?.map alone).getD ⟨0, ⟨#[]⟩, [], ⟨#[]⟩, -1, []⟩
theorem aloneAt_at {ns : List PNode} {k : Nat} (h : k < ns.length) : aloneAt ns k = alone ns[k] := by simp [aloneAt, h]
def tidyStep (ns : List PNode) (st : List PNode × List Int) (x : Int) : List PNode × List Int :=
  if x.toNat = 0 then (st.1 ++ [aloneAt ns x.toNat], st.2.set x.toNat st.1.length)
  else (hangN (st.1 ++ [aloneAt ns x.toNat]) st.1.length ((st.2.set x.toNat (st.1.length : Int)).getD (parOf ns x.toNat).toNat 0).toNat, st.2.set x.toNat st.1.length)
def tidyL (ns : List PNode) (l : List Int) : List PNode × List Int := l.foldl (tidyStep ns) ([], List.replicate 500 0)
def tidyN (ns : List PNode) : List PNode := (tidyL ns (down ns ns.length 0)).1
theorem tidyL_snoc (ns : List PNode) (l : List Int) (x : Int) : tidyL ns (l ++ [x]) = tidyStep ns (tidyL ns l) x := by simp [tidyL]
theorem tidyStep_len (ns : List PNode) (st : List PNode × List Int) (x : Int) : (tidyStep ns st x).1.length = st.1.length + 1 ∧ (tidyStep ns st x).2.length = st.2.length := by
  unfold tidyStep
  split
  · simp
  · simp [hangN_len]
theorem tidyL_len (ns : List PNode) (l : List Int) : (tidyL ns l).1.length = l.length ∧ (tidyL ns l).2.length = 500 := by
  refine snoc_ind (P := fun l => (tidyL ns l).1.length = l.length ∧ (tidyL ns l).2.length = 500) (by simp [tidyL]) ?_ l
  · intro l x ih
    have := tidyStep_len ns (tidyL ns l) x
    rw [tidyL_snoc, this.1, this.2, ih.1, ih.2]
    simp
theorem tidyL_place (ns : List PNode) (l : List Int) : ∀ k, 0 ≤ (tidyL ns l).2.getD k 0 ∧ ((tidyL ns l).2.getD k 0 = 0 ∨ (tidyL ns l).2.getD k 0 < l.length) := by
  refine snoc_ind (P := fun l => ∀ k, 0 ≤ (tidyL ns l).2.getD k 0 ∧ ((tidyL ns l).2.getD k 0 = 0 ∨ (tidyL ns l).2.getD k 0 < l.length)) ?_ ?_ l
  · intro k
    have : (tidyL ns []).2.getD k 0 = 0 := by
      simp only [tidyL, List.foldl_nil, List.getD_eq_getElem?_getD, List.getElem?_replicate]
      split <;> rfl
    rw [this]; simp
  · intro l x ih k
    have e : (tidyL ns (l ++ [x])).2 = (tidyL ns l).2.set x.toNat ((tidyL ns l).1.length : Int) := by
      rw [tidyL_snoc]; unfold tidyStep; split <;> rfl
    rw [e, (tidyL_len ns l).1, List.length_append, List.getD_eq_getElem?_getD, List.getElem?_set]
    have h := ih k
    rw [List.getD_eq_getElem?_getD] at h
    split
    · split
      · simp; omega
      · simp
    · simp only [List.length_cons, List.length_nil]; omega
theorem mem_modify {ns : List PNode} {k : Nat} {f : PNode → PNode} {n : PNode} (h : n ∈ ns.modify k f) : n ∈ ns ∨ ∃ m ∈ ns, n = f m := by
  obtain ⟨i, hi, rfl⟩ := List.getElem_of_mem h
  rw [List.length_modify] at hi
  rw [List.getElem_modify]
  split
  · exact .inr ⟨_, List.getElem_mem hi, rfl⟩
  · exact .inl (List.getElem_mem hi)
theorem hangN_all {ns : List PNode} {c p : Nat} {P Q : PNode → Prop} (h : ∀ n ∈ ns, P n) (h1 : ∀ n x, P n → P (setPar n x)) (h2 : ∀ n (x : Int), P n → P (setKids n (lessL x n.kids))) (h3 : ∀ n, P n → Q n) (h4 : ∀ n (x : Int), P n → Q (setKids n (n.kids ++ [x]))) : ∀ n ∈ hangN ns c p, Q n := by
  have hc : ∀ n ∈ cutN ns c, P n := by
    intro n hn
    unfold cutN at hn
    split at hn
    · exact h n hn
    · rcases mem_modify hn with hn | ⟨m, hm, rfl⟩
      · exact h n hn
      · exact h2 m _ (h m hm)
  have ht : ∀ n ∈ takeN ns c, P n := by
    intro n hn
    rcases mem_modify hn with hn | ⟨m, hm, rfl⟩
    · exact hc n hn
    · exact h1 m _ (hc m hm)
  have hk : ∀ n ∈ (takeN ns c).modify c (fun n => setPar n (p : Int)), P n := by
    intro n hn
    rcases mem_modify hn with hn | ⟨m, hm, rfl⟩
    · exact ht n hn
    · exact h1 m _ (ht m hm)
  intro n hn
  rcases mem_modify hn with hn | ⟨m, hm, rfl⟩
  · exact h3 n (hk n hn)
  · exact h4 m _ (hk m hm)
theorem tidyL_kids (ns : List PNode) (l : List Int) : ∀ n ∈ (tidyL ns l).1, n.kids.length ≤ l.length := by
  refine snoc_ind (P := fun l => ∀ n ∈ (tidyL ns l).1, n.kids.length ≤ l.length) (fun n hn => by cases hn) ?_ l
  · intro l x ih
    have hs : ∀ n ∈ (tidyL ns l).1 ++ [aloneAt ns x.toNat], n.kids.length ≤ l.length := by
      intro n hn
      rcases List.mem_append.mp hn with hn | hn
      · exact ih n hn
      · rw [List.mem_singleton.mp hn]
        unfold aloneAt
        cases ns[x.toNat]? <;> simp [alone]
    rw [tidyL_snoc, List.length_append]
    unfold tidyStep
    split
    · intro n hn
      have := hs n hn
      simp only [List.length_cons, List.length_nil]; omega
    · refine hangN_all (P := fun n => n.kids.length ≤ l.length) hs (fun n x h => h) (fun n x h => ?_) (fun n h => by show n.kids.length ≤ _; simp only [List.length_cons, List.length_nil]; omega) (fun n x h => by simp [setKids]; omega)
      exact Nat.le_trans (lessL_len _ _) h
theorem tidyL_fit {ns : List PNode} (hf : ∀ n ∈ ns, NodeFit n) (l : List Int) (hl : l.length ≤ 1000000) : ∀ n ∈ (tidyL ns l).1, NodeFit n := by
  have key : ∀ n ∈ (tidyL ns l).1, n.name.size ≤ 1048576 ∧ n.text.size ≤ 1048576 ∧ n.attrs.length ≤ 1048576 ∧ ∀ p ∈ n.attrs, p.1.size ≤ 1099511627776 ∧ p.2.size ≤ 1099511627776 := by
    clear hl
    refine snoc_ind (P := fun l => ∀ n ∈ (tidyL ns l).1, n.name.size ≤ 1048576 ∧ n.text.size ≤ 1048576 ∧ n.attrs.length ≤ 1048576 ∧ ∀ p ∈ n.attrs, p.1.size ≤ 1099511627776 ∧ p.2.size ≤ 1099511627776) (fun n hn => by cases hn) ?_ l
    · intro l x ih
      have hs : ∀ n ∈ (tidyL ns l).1 ++ [aloneAt ns x.toNat], n.name.size ≤ 1048576 ∧ n.text.size ≤ 1048576 ∧ n.attrs.length ≤ 1048576 ∧ ∀ p ∈ n.attrs, p.1.size ≤ 1099511627776 ∧ p.2.size ≤ 1099511627776 := by
        intro n hn
        rcases List.mem_append.mp hn with hn | hn
        · exact ih n hn
        · rw [List.mem_singleton.mp hn]
          unfold aloneAt
          cases h : ns[x.toNat]? with
          | none => exact ⟨Nat.zero_le _, Nat.zero_le _, Nat.zero_le _, fun p hp => by cases hp⟩
          | some m =>
            have := hf m (List.mem_of_getElem? h)
            exact ⟨this.nm, this.tx, this.rs, this.each⟩
      rw [tidyL_snoc]
      unfold tidyStep
      split
      · exact hs
      · exact hangN_all (P := fun n => n.name.size ≤ 1048576 ∧ n.text.size ≤ 1048576 ∧ n.attrs.length ≤ 1048576 ∧ ∀ p ∈ n.attrs, p.1.size ≤ 1099511627776 ∧ p.2.size ≤ 1099511627776) hs (fun n x h => h) (fun n x h => h) (fun n h => h) (fun n x h => h)
  intro n hn
  obtain ⟨h1, h2, h3, h4⟩ := key n hn
  exact ⟨h1, h2, h3, h4, by have := tidyL_kids ns l n hn; omega⟩
end Go.Proofs.YtogdbjafibejdaaGreat

/- A text that is written below a node, in plain words. No condition. -/
namespace Go.Proofs.YtogdbjafibejdaaGreat
open Go.RowKit
set_option maxRecDepth 100000
set_option linter.unusedVariables false

def LastT (ns : List PNode) (p k : Nat) : Prop := ∃ pre, kidsOf ns p = pre ++ [(k : Int)] ∧ ∃ h : k < ns.length, ns[k].kind = 4
theorem LastT.one {ns : List PNode} {p k j : Nat} (h : LastT ns p k) (h' : LastT ns p j) : k = j := by
  obtain ⟨a, ha, _⟩ := h
  obtain ⟨b, hb, _⟩ := h'
  rw [ha] at hb
  have e := List.append_inj_right' hb rfl
  simp at e
  omega
theorem toListW_loop (s : ByteArray) : ∀ (n i : Nat) (r : List UInt8), s.size - i = n → (r ≠ [] ∨ 0 < n) → ByteArray.toList.loop s i r ≠ []
  | 0, i, r, h, hr => by
    rw [ByteArray.toList.loop]
    rw [if_neg (by omega)]
    rcases hr with hr | hr
    · simpa using hr
    · omega
  | n + 1, i, r, h, hr => by
    rw [ByteArray.toList.loop]
    rw [if_pos (by omega)]
    exact toListW_loop s n (i + 1) _ (by omega) (.inl (by simp))
theorem empB_iff (s : ByteArray) : empB s = true ↔ s.size = 0 := by
  unfold empB
  rw [decide_eq_true_iff]
  constructor
  · intro h
    apply Classical.byContradiction
    intro hn
    exact toListW_loop s s.size 0 [] (by omega) (.inr (by omega)) h
  · intro h
    unfold ByteArray.toList
    rw [ByteArray.toList.loop, if_neg (by omega)]
    rfl
end Go.Proofs.YtogdbjafibejdaaGreat

/- The specification's functions on a row of open elements. No condition. -/
namespace Go.Proofs.YtogdbjafibejdaaGreat
open Go.RowKit
set_option maxRecDepth 100000
set_option linter.unusedVariables false
end Go.Proofs.YtogdbjafibejdaaGreat

/- The specification's l6Take of a node below none, and l6Hang of such a node. No condition. -/
namespace Go.Proofs.YtogdbjafibejdaaGreat
open Go.RowKit
set_option maxRecDepth 100000
set_option linter.unusedVariables false

theorem stake_none {w : World} {v : Value} {ns : List PNode} (hn : NodesAt w v ns) (hlen : ns.length ≤ 1048576) {c : Nat} (hc : c < ns.length) (hp : ns[c].parent = -1) :
    Calls Tryz.prog 105 #[.agg #[v], .int .i64 c] w fun e w' => e = .returned (.agg #[v]) ∧ Below w.heap.size w w' := by
  obtain ⟨a, cap, rfl, hc1, hc2, hcs⟩ := hn.slice
  obtain ⟨b, off, av, kv, rfl, hblt, _, _, _, _, d4, _⟩ := hcs c hc
  rw [hp] at d4
  clear hcs hn
  obtain ⟨w2, hw2⟩ : ∃ w2, w2 = (w.alloc (.cells #[.slice (some ⟨b, off, none⟩) ns.length cap] 26)).alloc (.cells #[.slice none 0 0] 26) := ⟨_, rfl⟩
  have b2 : Below w.heap.size w w2 := by rw [hw2]; exact ((Below.refl _ w).alloc (Nat.le_refl _) _).alloc (by simp) _
  have g0 : w2.heap[w.heap.size]? = some (.cells #[.slice (some ⟨b, off, none⟩) ns.length cap] 26 (0, 0)) := by
    rw [hw2, Below.heap_alloc _ _ _ (by simp)]; exact World.alloc_heap_new _ _
  have g1 : w2.heap[w.heap.size + 1]? = some (.cells #[.slice none 0 0] 26 (0, 0)) := by
    rw [hw2]
    have := World.alloc_heap_new (w.alloc (.cells #[.slice (some ⟨b, off, none⟩) ns.length cap] 26)) (.cells #[.slice none 0 0] 26)
    rwa [World.size_alloc] at this
  have k0 : w2.cell? ⟨w.heap.size, 0, none⟩ = some (.slice (some ⟨b, off, none⟩) ns.length cap) := by simp only [World.cell?, g0]; rfl
  have k1 : w2.cell? ⟨w.heap.size + 1, 0, none⟩ = some (.slice none 0 0) := by simp only [World.cell?, g1]; rfl
  have f1 : w2.frozen? ⟨w.heap.size + 1, 0, none⟩ = false := by simp [World.frozen?, g1]
  replace d4 := (b2.cell (p := ⟨b, off + c * 6 + 4, none⟩) hblt).trans d4
  have HG1 := (show Hid _ from g1)
  clear g0 g1
  go_enter Tryz.func105, Tryz.ntmps105
  go_upto_region 1 with fail
  rw [← hw2]
  clear hw2
  go_wp2
  have gs := setCell_at (k := 0) (u := .slice (some ⟨b, off, none⟩) ns.length cap) HG1.out
  refine bodyPost_ret (results_cell_row rfl _ _ (w.heap.size + 1) 26 _ (0, 0) _ rfl gs Tryz.underlying26 rfl rfl) rfl ?_
  exact ⟨rfl, b2.setCell (p := ⟨w.heap.size + 1, 0, none⟩) (by show w.heap.size ≤ w.heap.size + 1; omega) _⟩

def kidQ (q : PNode × (Value × Value)) (ks : List Int) (kv : Value) : PNode × (Value × Value) := (⟨q.1.kind, q.1.name, q.1.attrs, q.1.text, q.1.parent, ks⟩, (q.2.1, kv))
def parQ (q : PNode × (Value × Value)) (x : Int) : PNode × (Value × Value) := (⟨q.1.kind, q.1.name, q.1.attrs, q.1.text, x, q.1.kids⟩, q.2)
theorem nodeCells_set (qs : List (PNode × (Value × Value))) (k : Nat) (hk : k < qs.length) (q : PNode × (Value × Value)) (j : Nat) (hj : j < 6) (u : Value) (h : nodeRow q.1 q.2 = (nodeRow qs[k].1 qs[k].2).set j u) :
    nodeCells (qs.set k q) = (nodeCells qs).set (k * 6 + j) u := by
  induction qs generalizing k with
  | nil => simp at hk
  | cons p qs ih =>
    cases k with
    | zero =>
      simp only [nodeCells, List.set_cons_zero, List.flatMap_cons, Nat.zero_mul, Nat.zero_add, List.getElem_cons_zero] at h ⊢
      rw [h, List.set_append_left _ _ (by simp [nodeRow]; omega)]
    | succ k =>
      have := ih k (by simpa using hk) (by simpa using h)
      simp only [nodeCells, List.set_cons_succ, List.flatMap_cons] at this ⊢
      rw [this, List.set_append_right _ _ (by simp [nodeRow]; omega)]
      congr 2
      simp [nodeRow]; omega
end Go.Proofs.YtogdbjafibejdaaGreat

/- append in place: of the other rows of integers all stay rows of integers. No condition. -/
namespace Go.Proofs.YtogdbjafibejdaaGreat
open Go.RowKit
set_option maxRecDepth 100000
set_option linter.unusedVariables false

theorem setRow_at {w : World} {g : Nat} {cur cs : Array Value} {t : TypeId} {fr : Nat × Nat} (h : w.heap[g]? = some (.cells cur t fr)) : (w.setRow g cs).heap[g]? = some (.cells cs t fr) := by
  have hlt := lt_of_block h
  have h' : w.heap[g] = .cells cur t fr := by simpa [Array.getElem?_eq_getElem hlt] using h
  show (w.heap.modify g _)[g]? = _
  rw [Array.getElem?_eq_getElem (by simpa using hlt), Array.getElem_modify_self, h']

theorem splice_ints {K : IntKind} {cur : List Value} {us ys : List Int} {n m : Nat} (hm : m = ys.length) (hu : cur.take us.length = us.map (Value.int K)) (hn : n + m ≤ cur.length) : ∃ zs : List Int, zs.length = us.length ∧ (cur.take n ++ ys.map (Value.int K) ++ cur.drop (n + m)).take us.length = zs.map (Value.int K) := by
  subst hm
  have hul : us.length ≤ cur.length := by
    have := congrArg List.length hu
    simp at this
    omega
  refine ⟨(List.range us.length).map fun j => if n ≤ j ∧ j < n + ys.length then ys.getD (j - n) 0 else us.getD j 0, by simp, ?_⟩
  apply List.ext_getElem?
  intro j
  have hcj : ∀ q, q < us.length → cur[q]? = some (Value.int K (us.getD q 0)) := fun q hq => by
    have h1 : (cur.take us.length)[q]? = (us.map (Value.int K))[q]? := by rw [hu]
    rw [List.getElem?_take_of_lt hq] at h1
    rw [h1]
    simp [List.getD_eq_getElem?_getD, hq]
  by_cases hj : j < us.length
  · rw [List.getElem?_take_of_lt hj, List.getElem?_map, List.getElem?_map, List.getElem?_range hj]
    simp only [Option.map_some]
    by_cases h1 : j < n
    · rw [List.append_assoc, List.getElem?_append_left (by simp; omega), List.getElem?_take_of_lt h1, hcj j hj, if_neg (by omega)]
    · by_cases h2 : j < n + ys.length
      · rw [List.append_assoc, List.getElem?_append_right (by simp; omega), List.getElem?_append_left (by simp; omega), if_pos ⟨by omega, h2⟩, List.getElem?_map]
        have e : j - (cur.take n).length = j - n := by simp; omega
        rw [e, List.getElem?_eq_getElem (by omega)]
        simp [List.getD_eq_getElem?_getD, show j - n < ys.length by omega]
      · rw [List.getElem?_append_right (by simp; omega), List.getElem?_drop, if_neg (by omega)]
        have e : n + ys.length + (j - (cur.take n ++ ys.map (Value.int K)).length) = j := by simp; omega
        rw [e, hcj j hj]
  · rw [List.getElem?_eq_none (by simp; omega), List.getElem?_eq_none (by simp; omega)]

theorem run_keepI {P : Program} (w : World) (base : Nat) (t ty e : TypeId) (i : TypeInfo) (z : Value) (bytes : Nat) (ht : P.underlying t = some (.slice e)) (hi : P.info? e = some i) (hz : i.zero = some z)
    (hsize : i.size = 1) (hby : i.bytes = bytes) {K : IntKind} (v : Value) (xs : List Int) (hown : Own base e K w v xs)
    (a : Addr) (c : Nat) (ys : List Int) (hnews : ∀ j u, (ys.map (Value.int K))[j]? = some u → w.cell? (a.add j) = some u)
    (h63 : xs.length + ys.length ≤ maxLen) (hbytes : (xs.length + ys.length) * bytes ≤ 140737488355328) {v' : Value} {w' : World} (hr : (Builtin.append_ #[t, t] ty #[v, .slice (some a) ys.length c]).run P w = .ok v' w')
    (hg : w.grownBy w' v.ownBlock) (B : Nat) (u : Value) (us : List Int) (hu : Own B e K w u us) : ∃ zs : List Int, zs.length = us.length ∧ Own B e K w' u zs := by
  by_cases hne : u.ownBlock = none ∨ u.ownBlock ≠ v.ownBlock
  · exact ⟨us, rfl, World.ownsRow.kept hu hg hne⟩
  · obtain ⟨hne1, hne2⟩ := not_or.mp hne
    have hsame : u.ownBlock = v.ownBlock := Classical.byContradiction hne2
    have hown' := hown
    rcases hown.2 with ⟨e1, _⟩ | ⟨r, cap, cur, e1, hbg, hgr, hnc, hcm, hcs, htake⟩
    · rw [e1] at hsame; exact absurd hsame hne1
    · subst e1
      rcases hu.2 with ⟨e2, _⟩ | ⟨r2, cap2, cur2, e2, hbg2, hgr2, hnc2, hcm2, hcs2, htake2⟩
      · rw [e2] at hne1; exact absurd rfl hne1
      · subst e2
        have er : r2 = r := by simpa [Value.ownBlock] using hsame
        subst er
        rw [hgr] at hgr2
        cases hgr2
        by_cases hroom : xs.length + ys.length ≤ cap
        · have hfit : xs.length * i.size + (ys.map (Value.int K)).length ≤ cur.size := by rw [hsize, List.length_map]; omega
          have hr2 := run_append_room (P := P) w t ty e i ht hi r2 xs.length cap cur hgr a ys.length c (ys.map (Value.int K)) (by rw [hsize]; simp) hnews (ints_oneCell K ys) hroom hfit
          rw [hr] at hr2
          cases hr2
          rw [hsize] at hfit ⊢
          simp only [Nat.mul_one, List.length_map] at hfit htake2 hcs2 ⊢
          obtain ⟨zs, hz1, hz2⟩ := splice_ints (K := K) (cur := cur.toList) (us := us) (ys := ys) (n := xs.length) (m := ys.length) rfl htake2 (by simpa using hfit)
          refine ⟨zs, hz1, by simp, .inr ⟨r2, cap2, _, by rw [hz1], hbg2, setRow_at hgr, by omega, hcm2, ?_, ?_⟩⟩
          · simp; omega
          · simpa [hz1] using hz2
        · have holds : ∀ j q, (xs.map (Value.int K))[j]? = some q → w.cell? ((⟨r2, 0, none⟩ : Addr).add j) = some q := World.ownsRow.cells hown' (g := r2) rfl
          have hr2 := run_append_grow (P := P) w t ty e i z ht hi hz ⟨r2, 0, none⟩ xs.length cap (xs.map (Value.int K)) (by rw [hsize]; simp) holds a ys.length c (ys.map (Value.int K)) (by rw [hsize]; simp) hnews (by omega) (by simp only [maxLen] at h63; omega) (growslice_fits (by omega) (by rw [hby]; exact hbytes))
          rw [hr] at hr2
          cases hr2
          refine ⟨us, rfl, hu.1, .inr ⟨r2, cap2, cur, rfl, hbg2, ?_, hnc2, hcm2, hcs2, htake2⟩⟩
          exact (Below.heap_alloc w.drew _ r2 (lt_of_block hgr)).trans hgr
end Go.Proofs.YtogdbjafibejdaaGreat

/- The program's functions on a row of open elements: what a row is. No condition. -/
namespace Go.Proofs.YtogdbjafibejdaaGreat
open Go.RowKit
set_option maxRecDepth 100000
set_option linter.unusedVariables false

end Go.Proofs.YtogdbjafibejdaaGreat

/- The specification's StackOk, OpenAt and PopTo. No condition. -/
namespace Go.Proofs.YtogdbjafibejdaaGreat
open Go.RowKit
set_option maxRecDepth 100000
set_option linter.unusedVariables false
end Go.Proofs.YtogdbjafibejdaaGreat

/- The text below a node to which a text is written, in plain words. No condition. -/
namespace Go.Proofs.YtogdbjafibejdaaGreat
open Go.RowKit
set_option maxRecDepth 100000
set_option linter.unusedVariables false
end Go.Proofs.YtogdbjafibejdaaGreat
