/- The text below a node, in plain words. No condition. -/
import Derived.Test.YtogdbjafibejdaaGreatX17
import Derived.Test.YtogdbjafibejdaaGreatX31
namespace Go.Proofs.YtogdbjafibejdaaGreat
open Go.RowKit
set_option maxRecDepth 100000
set_option linter.unusedVariables false

/-- The bytes of a node's own text. -/
def txL (n : PNode) : List UInt8 := if n.kind = 4 then n.text.data.toList else []
def txAt (ns : List PNode) (k : Nat) : List UInt8 := (ns[k]?.map txL).getD []
theorem txAt_at {ns : List PNode} {k : Nat} (h : k < ns.length) : txAt ns k = txL ns[k] := by simp [txAt, h]
/-- The text of a node and of all that stand below it; f levels at most. -/
def textL (ns : List PNode) : Nat → Nat → List UInt8
  | 0, _ => []
  | f + 1, k => txAt ns k ++ (kidsOf ns k).flatMap fun x => textL ns f x.toNat
theorem text_down (ns : List PNode) : ∀ (f k : Nat), textL ns f k = (down ns f k).flatMap fun x => txAt ns x.toNat
  | 0, k => rfl
  | f + 1, k => by
    rw [textL, down, List.flatMap_cons, List.flatMap_assoc]
    have : (fun x : Int => textL ns f x.toNat) = fun x : Int => (down ns f x.toNat).flatMap fun x => txAt ns x.toNat := funext fun x => text_down ns f x.toNat
    rw [this]
    rfl
theorem deep_more {ns : List PNode} : ∀ (f g k : Nat), f ≤ g → deepOk ns f k → deepOk ns g k
  | 0, _, _, _, h => h.elim
  | f + 1, 0, _, h, _ => by omega
  | f + 1, g + 1, k, hfg, h => ⟨h.1, fun x hx => ⟨(h.2 x hx).1, deep_more f g x.toNat (by omega) (h.2 x hx).2⟩⟩
theorem text_deep {ns : List PNode} : ∀ (f g k : Nat), f ≤ g → deepOk ns f k → textL ns g k = textL ns f k
  | 0, _, _, _, h => h.elim
  | f + 1, 0, _, h, _ => by omega
  | f + 1, g + 1, k, hfg, h => by
    rw [textL, textL]
    congr 1
    have : ∀ (l : List Int), (∀ x ∈ l, textL ns g x.toNat = textL ns f x.toNat) → l.flatMap (fun x => textL ns g x.toNat) = l.flatMap (fun x => textL ns f x.toNat) := fun l hl => by
      induction l with
      | nil => rfl
      | cons a l ih => rw [List.flatMap_cons, List.flatMap_cons, hl a (by simp), ih (fun x hx => hl x (by simp [hx]))]
    exact this _ fun x hx => text_deep f g x.toNat (by omega) (h.2 x hx).2
theorem tree_deep {ns : List PNode} (h : TreeOkP ns) {k : Nat} (hk : k < ns.length) : deepOk ns ns.length k := by
  obtain ⟨d, hd⟩ := h.linked k hk
  have hlt := dep_lt h.fit hd
  exact deep_more (ns.length - d) ns.length k (by omega) (dep_deep h.fit (ns.length - d) d k (by omega) hd)
/-- What stands below stands deeper. -/
theorem down_deeper {ns : List PNode} (hf : KidsFit ns) : ∀ (f d s : Nat), dep ns d s → ∀ x ∈ down ns f s, 0 ≤ x ∧ ∃ e, d ≤ e ∧ dep ns e x.toNat
  | 0, d, s, h, x, hx => by cases hx
  | f + 1, d, s, h, x, hx => by
    rw [down, List.mem_cons] at hx
    rcases hx with rfl | hx
    · exact ⟨by omega, d, Nat.le_refl _, by simpa using h⟩
    · obtain ⟨y, hy, hx⟩ := List.mem_flatMap.mp hx
      obtain ⟨j1, j2, j3, j4⟩ := fit_kid hf hy
      have hd : dep ns (d + 1) y.toNat := ⟨s, h, by rw [Int.toNat_of_nonneg j2]; exact hy⟩
      obtain ⟨h0, e, he, hde⟩ := down_deeper hf f (d + 1) y.toNat hd x hx
      exact ⟨h0, e, by omega, hde⟩
theorem down_once {ns : List PNode} (hf : KidsFit ns) {f s d : Nat} (hs : dep ns d s) (hdp : deepOk ns f s) : ∀ (e i : Nat), dep ns e i → (down ns f s).count (i : Int) ≤ 1
  | 0, i, h => by
    have hk : ∀ p, (i : Int) ∉ kidsOf ns p := fun p hp => by
      have := (fit_kid hf hp).2.2.2
      simp only [Int.toNat_natCast] at this
      rw [h.2] at this
      omega
    rw [down_root hf hk f s hdp]
    split <;> omega
  | e + 1, i, h => by
    obtain ⟨p, hp, hk⟩ := h
    rw [down_count hf hk f s hdp]
    by_cases his : i = s
    · subst his
      have h0 : (down ns f i).count (p : Int) = 0 := by
        rw [List.count_eq_zero]
        intro hm
        obtain ⟨_, e', he', hde⟩ := down_deeper hf f d i hs (p : Int) hm
        simp only [Int.toNat_natCast] at hde
        have e1 := dep_uniq hf e e' p hp hde
        have e2 := dep_uniq hf d (e + 1) i hs ⟨p, hp, hk⟩
        omega
      rw [h0]
      simp
    · rw [if_neg his]
      exact down_once hf hs hdp e p hp
theorem down_few {ns : List PNode} (h : TreeOkP ns) {k : Nat} (hk : k < ns.length) : (down ns ns.length k).length ≤ ns.length := by
  obtain ⟨d, hd⟩ := h.linked k hk
  have hin : ∀ x ∈ down ns ns.length k, 0 ≤ x ∧ x < ns.length ∧ ∃ e, dep ns e x.toNat := down_dep h.fit ns.length d k hd
  refine nodup_le ns.length _ ?_ (fun x hx => ⟨(hin x hx).1, (hin x hx).2.1⟩)
  rw [List.nodup_iff_count]
  intro x
  by_cases hx : x ∈ down ns ns.length k
  · obtain ⟨j1, j2, e, he⟩ := hin x hx
    have := down_once h.fit hd (tree_deep h hk) e x.toNat he
    rwa [Int.toNat_of_nonneg j1] at this
  · rw [List.count_eq_zero.mpr hx]; omega
theorem txL_len {n : PNode} (h : n.text.size ≤ 1048576) : (txL n).length ≤ 1048576 := by
  unfold txL
  split
  · simpa using h
  · simp
theorem flatB_len {l : List Int} {g : Int → List UInt8} {m : Nat} (h : ∀ x, (g x).length ≤ m) : (l.flatMap g).length ≤ l.length * m := by
  induction l with
  | nil => simp
  | cons a l ih =>
    rw [List.flatMap_cons, List.length_append, List.length_cons, Nat.succ_mul]
    have := h a
    omega
theorem txAt_len {ns : List PNode} (h : ∀ n ∈ ns, n.text.size ≤ 1048576) (k : Nat) : (txAt ns k).length ≤ 1048576 := by
  by_cases hk : k < ns.length
  · rw [txAt_at hk]; exact txL_len (h _ (List.getElem_mem hk))
  · simp [txAt, hk]
theorem text_len {ns : List PNode} (h : TreeOkP ns) (hf : ∀ n ∈ ns, n.text.size ≤ 1048576) {k : Nat} (hk : k < ns.length) : (textL ns ns.length k).length ≤ 524288000 := by
  rw [text_down]
  have h1 := flatB_len (l := down ns ns.length k) (g := fun x => txAt ns x.toNat) (fun x => txAt_len hf x.toNat)
  have h2 := down_few h hk
  have h3 := h.most
  have : (down ns ns.length k).length * 1048576 ≤ 500 * 1048576 := Nat.mul_le_mul_right _ (by omega)
  omega
end Go.Proofs.YtogdbjafibejdaaGreat

/- Trees tidied, plainly, as the program goes. No condition. -/
namespace Go.Proofs.YtogdbjafibejdaaGreat
open Go.RowKit
set_option maxRecDepth 100000
set_option linter.unusedVariables false

theorem snoc_ind {P : List Int → Prop} (h0 : P []) (h1 : ∀ l x, P l → P (l ++ [x])) (l : List Int) : P l := by
  have key : ∀ r : List Int, P r.reverse := by
    intro r
    induction r with
    | nil => exact h0
    | cons x r ih => rw [List.reverse_cons]; exact h1 _ _ ih
  have := key l.reverse
  rwa [List.reverse_reverse] at this
/-- A node without its links. -/
def alone (n : PNode) : PNode := ⟨n.kind, n.name, n.attrs, n.text, -1, []⟩
def aloneAt (ns : List PNode) (k : Nat) : PNode := (ns[k]?.map alone).getD ⟨0, ⟨#[]⟩, [], ⟨#[]⟩, -1, []⟩
theorem aloneAt_at {ns : List PNode} {k : Nat} (h : k < ns.length) : aloneAt ns k = alone ns[k] := by simp [aloneAt, h]
/-- One node more is put behind all, and hung below the place of its parent. -/
def tidyStep (ns : List PNode) (st : List PNode × List Int) (x : Int) : List PNode × List Int :=
  if x.toNat = 0 then (st.1 ++ [aloneAt ns x.toNat], st.2.set x.toNat st.1.length)
  else (hangN (st.1 ++ [aloneAt ns x.toNat]) st.1.length ((st.2.set x.toNat (st.1.length : Int)).getD (parOf ns x.toNat).toNat 0).toNat, st.2.set x.toNat st.1.length)
def tidyL (ns : List PNode) (l : List Int) : List PNode × List Int := l.foldl (tidyStep ns) ([], List.replicate 500 0)
def tidyN (ns : List PNode) : List PNode := (tidyL ns (down ns ns.length 0)).1
theorem tidyL_snoc (ns : List PNode) (l : List Int) (x : Int) : tidyL ns (l ++ [x]) = tidyStep ns (tidyL ns l) x := by simp [tidyL]
theorem tidyStep_len (ns : List PNode) (st : List PNode × List Int) (x : Int) : (tidyStep ns st x).1.length = st.1.length + 1 ∧ (tidyStep ns st x).2.length = st.2.length := by
  unfold tidyStep
  split
  · simp
  · simp [hangN_len]
theorem tidyL_len (ns : List PNode) (l : List Int) : (tidyL ns l).1.length = l.length ∧ (tidyL ns l).2.length = 500 := by
  refine snoc_ind (P := fun l => (tidyL ns l).1.length = l.length ∧ (tidyL ns l).2.length = 500) (by simp [tidyL]) ?_ l
  · intro l x ih
    have := tidyStep_len ns (tidyL ns l) x
    rw [tidyL_snoc, this.1, this.2, ih.1, ih.2]
    simp
/-- What stands in the places is a place. -/
theorem tidyL_place (ns : List PNode) (l : List Int) : ∀ k, 0 ≤ (tidyL ns l).2.getD k 0 ∧ ((tidyL ns l).2.getD k 0 = 0 ∨ (tidyL ns l).2.getD k 0 < l.length) := by
  refine snoc_ind (P := fun l => ∀ k, 0 ≤ (tidyL ns l).2.getD k 0 ∧ ((tidyL ns l).2.getD k 0 = 0 ∨ (tidyL ns l).2.getD k 0 < l.length)) ?_ ?_ l
  · intro k
    have : (tidyL ns []).2.getD k 0 = 0 := by
      simp only [tidyL, List.foldl_nil, List.getD_eq_getElem?_getD, List.getElem?_replicate]
      split <;> rfl
    rw [this]; simp
  · intro l x ih k
    have e : (tidyL ns (l ++ [x])).2 = (tidyL ns l).2.set x.toNat ((tidyL ns l).1.length : Int) := by
      rw [tidyL_snoc]; unfold tidyStep; split <;> rfl
    rw [e, (tidyL_len ns l).1, List.length_append, List.getD_eq_getElem?_getD, List.getElem?_set]
    have h := ih k
    rw [List.getD_eq_getElem?_getD] at h
    split
    · split
      · simp; omega
      · simp
    · simp only [List.length_cons, List.length_nil]; omega
theorem mem_modify {ns : List PNode} {k : Nat} {f : PNode → PNode} {n : PNode} (h : n ∈ ns.modify k f) : n ∈ ns ∨ ∃ m ∈ ns, n = f m := by
  obtain ⟨i, hi, rfl⟩ := List.getElem_of_mem h
  rw [List.length_modify] at hi
  rw [List.getElem_modify]
  split
  · exact .inr ⟨_, List.getElem_mem hi, rfl⟩
  · exact .inl (List.getElem_mem hi)
/-- Where each node has a property that is kept, so it has when one is hung. -/
theorem hangN_all {ns : List PNode} {c p : Nat} {P Q : PNode → Prop} (h : ∀ n ∈ ns, P n) (h1 : ∀ n x, P n → P (setPar n x)) (h2 : ∀ n (x : Int), P n → P (setKids n (lessL x n.kids))) (h3 : ∀ n, P n → Q n) (h4 : ∀ n (x : Int), P n → Q (setKids n (n.kids ++ [x]))) : ∀ n ∈ hangN ns c p, Q n := by
  have hc : ∀ n ∈ cutN ns c, P n := by
    intro n hn
    unfold cutN at hn
    split at hn
    · exact h n hn
    · rcases mem_modify hn with hn | ⟨m, hm, rfl⟩
      · exact h n hn
      · exact h2 m _ (h m hm)
  have ht : ∀ n ∈ takeN ns c, P n := by
    intro n hn
    rcases mem_modify hn with hn | ⟨m, hm, rfl⟩
    · exact hc n hn
    · exact h1 m _ (hc m hm)
  have hk : ∀ n ∈ (takeN ns c).modify c (fun n => setPar n (p : Int)), P n := by
    intro n hn
    rcases mem_modify hn with hn | ⟨m, hm, rfl⟩
    · exact ht n hn
    · exact h1 m _ (ht m hm)
  intro n hn
  rcases mem_modify hn with hn | ⟨m, hm, rfl⟩
  · exact h3 n (hk n hn)
  · exact h4 m _ (hk m hm)
theorem tidyL_kids (ns : List PNode) (l : List Int) : ∀ n ∈ (tidyL ns l).1, n.kids.length ≤ l.length := by
  refine snoc_ind (P := fun l => ∀ n ∈ (tidyL ns l).1, n.kids.length ≤ l.length) (fun n hn => by cases hn) ?_ l
  · intro l x ih
    have hs : ∀ n ∈ (tidyL ns l).1 ++ [aloneAt ns x.toNat], n.kids.length ≤ l.length := by
      intro n hn
      rcases List.mem_append.mp hn with hn | hn
      · exact ih n hn
      · rw [List.mem_singleton.mp hn]
        unfold aloneAt
        cases ns[x.toNat]? <;> simp [alone]
    rw [tidyL_snoc, List.length_append]
    unfold tidyStep
    split
    · intro n hn
      have := hs n hn
      simp only [List.length_cons, List.length_nil]; omega
    · refine hangN_all (P := fun n => n.kids.length ≤ l.length) hs (fun n x h => h) (fun n x h => ?_) (fun n h => by show n.kids.length ≤ _; simp only [List.length_cons, List.length_nil]; omega) (fun n x h => by simp [setKids]; omega)
      exact Nat.le_trans (lessL_len _ _) h
theorem tidyL_fit {ns : List PNode} (hf : ∀ n ∈ ns, NodeFit n) (l : List Int) (hl : l.length ≤ 1000000) : ∀ n ∈ (tidyL ns l).1, NodeFit n := by
  have key : ∀ n ∈ (tidyL ns l).1, n.name.size ≤ 1048576 ∧ n.text.size ≤ 1048576 ∧ n.attrs.length ≤ 1048576 ∧ ∀ p ∈ n.attrs, p.1.size ≤ 1099511627776 ∧ p.2.size ≤ 1099511627776 := by
    clear hl
    refine snoc_ind (P := fun l => ∀ n ∈ (tidyL ns l).1, n.name.size ≤ 1048576 ∧ n.text.size ≤ 1048576 ∧ n.attrs.length ≤ 1048576 ∧ ∀ p ∈ n.attrs, p.1.size ≤ 1099511627776 ∧ p.2.size ≤ 1099511627776) (fun n hn => by cases hn) ?_ l
    · intro l x ih
      have hs : ∀ n ∈ (tidyL ns l).1 ++ [aloneAt ns x.toNat], n.name.size ≤ 1048576 ∧ n.text.size ≤ 1048576 ∧ n.attrs.length ≤ 1048576 ∧ ∀ p ∈ n.attrs, p.1.size ≤ 1099511627776 ∧ p.2.size ≤ 1099511627776 := by
        intro n hn
        rcases List.mem_append.mp hn with hn | hn
        · exact ih n hn
        · rw [List.mem_singleton.mp hn]
          unfold aloneAt
          cases h : ns[x.toNat]? with
          | none => exact ⟨Nat.zero_le _, Nat.zero_le _, Nat.zero_le _, fun p hp => by cases hp⟩
          | some m =>
            have := hf m (List.mem_of_getElem? h)
            exact ⟨this.nm, this.tx, this.rs, this.each⟩
      rw [tidyL_snoc]
      unfold tidyStep
      split
      · exact hs
      · exact hangN_all (P := fun n => n.name.size ≤ 1048576 ∧ n.text.size ≤ 1048576 ∧ n.attrs.length ≤ 1048576 ∧ ∀ p ∈ n.attrs, p.1.size ≤ 1099511627776 ∧ p.2.size ≤ 1099511627776) hs (fun n x h => h) (fun n x h => h) (fun n h => h) (fun n x h => h)
  intro n hn
  obtain ⟨h1, h2, h3, h4⟩ := key n hn
  exact ⟨h1, h2, h3, h4, by have := tidyL_kids ns l n hn; omega⟩
end Go.Proofs.YtogdbjafibejdaaGreat
