/- A tree as a page, in plain words. No condition. -/
import Derived.Test.YtogdbjafibejdaaGreatY28
import Derived.Test.YtogdbjafibejdaaGreatY16
import Derived.Test.YtogdbjafibejdaaGreatY17
import Derived.Test.YtogdbjafibejdaaGreatY36
import Derived.Test.YtogdbjafibejdaaGreatY30
import Derived.Test.YtogdbjafibejdaaGreatY32
namespace Go.Proofs.YtogdbjafibejdaaGreat
open Go.RowKit
set_option maxRecDepth 100000
set_option linter.unusedVariables false
structure SmallN (n : PNode) : Prop where
  nm : n.name.size ≤ 3000
  tx : n.text.size ≤ 3000
  rs : n.attrs.length ≤ 20
  each : ∀ p ∈ n.attrs, attrOk p = true
theorem small_of {n : PNode} {k : Nat} (h : goodB n k = true) : SmallN n := by
  unfold goodB at h
  rw [Bool.and_eq_true] at h
  have h := h.2
  unfold nodeB at h
  have e0 : ∀ s, empB s = true → s.size ≤ 3000 := fun s hs => by have := (empB_iff s).mp hs; omega
  have r0 : n.attrs.length = 0 → n.attrs.length ≤ 20 ∧ ∀ p ∈ n.attrs, attrOk p = true := fun hr => by
    have : n.attrs = [] := List.length_eq_zero_iff.mp hr
    rw [this]; simp
  split at h
  · simp only [Bool.and_eq_true, decide_eq_true_eq] at h
    exact ⟨e0 _ h.1.1, e0 _ h.2, (r0 h.1.2).1, (r0 h.1.2).2⟩
  split at h
  · simp only [Bool.and_eq_true, decide_eq_true_eq] at h
    obtain ⟨⟨⟨⟨h1, _⟩, h2⟩, h3⟩, _⟩ := h
    exact ⟨by omega, e0 _ h3, (r0 h2).1, (r0 h2).2⟩
  split at h
  · simp only [Bool.and_eq_true] at h
    obtain ⟨⟨h1, h2⟩, h3⟩ := h
    have hn : n.name.size ≤ 3000 := by
      unfold nameOk at h1
      simp only [Bool.and_eq_true] at h1
      exact utf_size h1.1.1.2
    unfold attrsOk attrsTo at h2
    simp only [Bool.and_eq_true, decide_eq_true_eq, List.all_eq_true] at h2
    exact ⟨hn, e0 _ h3, h2.1, h2.2.1⟩
  split at h
  · simp only [Bool.and_eq_true, decide_eq_true_eq] at h
    obtain ⟨⟨⟨⟨_, h1⟩, h2⟩, h3⟩, _⟩ := h
    exact ⟨e0 _ h2, utf_size h1, (r0 h3).1, (r0 h3).2⟩
  split at h
  · simp only [Bool.and_eq_true, decide_eq_true_eq] at h
    obtain ⟨⟨⟨h1, h2⟩, h3⟩, _⟩ := h
    exact ⟨e0 _ h2, utf_size h1, (r0 h3).1, (r0 h3).2⟩
  · cases h
theorem small_all {ns : List PNode} (h : TreeOkP ns) : ∀ k (hk : k < ns.length), SmallN ns[k] := fun k hk => small_of (h.good k hk)
end Go.Proofs.YtogdbjafibejdaaGreat

/- The laws' helper that marks a tree. No condition. -/
namespace Go.Proofs.YtogdbjafibejdaaGreat
open Go.RowKit
set_option maxRecDepth 100000
set_option linter.unusedVariables false

structure MkFr (B : Nat) (w w' : World) : Prop where
  os : w'.os = w.os
  tape : w'.tape = w.tape
  output : w'.output = w.output
  size : w.heap.size ≤ w'.heap.size
  block : ∀ i, i < w.heap.size → (i < B ∨ ∃ cs t fr, w.heap[i]? = some (.cells cs t fr) ∧ t ≠ 36 ∧ t ≠ 115 ∧ t ≠ 3) → w'.heap[i]? = w.heap[i]?
theorem MkFr.refl (B : Nat) (w : World) : MkFr B w w := ⟨rfl, rfl, rfl, Nat.le_refl _, fun _ _ _ => rfl⟩
theorem MkFr.trans {B : Nat} {a b c : World} (h : MkFr B a b) (k : MkFr B b c) : MkFr B a c :=
  ⟨k.os.trans h.os, k.tape.trans h.tape, k.output.trans h.output, Nat.le_trans h.size k.size, fun i hi hc => by
    have e := h.block i hi hc
    refine (k.block i (Nat.lt_of_lt_of_le hi h.size) ?_).trans e
    rcases hc with hc | ⟨cs, t, fr, hh, ht⟩
    · exact .inl hc
    · exact .inr ⟨cs, t, fr, e.trans hh, ht⟩⟩
theorem MkFr.of_below {B : Nat} {w w' : World} (h : Below w.heap.size w w') : MkFr B w w' := ⟨h.os, h.tape, h.output, h.size, fun i hi _ => h.block i hi⟩
theorem MkFr.of_row {B g : Nat} {w w' : World} (h : w.grownBy w' (some g)) (hB : B ≤ g) (ht : ∃ cs t fr, w.heap[g]? = some (.cells cs t fr) ∧ (t = 36 ∨ t = 115 ∨ t = 3)) : MkFr B w w' :=
  ⟨h.os, h.tape, h.output, h.size, fun i hi hc => h.block i hi (fun e => by
    cases e
    obtain ⟨cs, t, fr, hh, ht⟩ := ht
    rcases hc with hc | ⟨cs', t', fr', hh', h1, h2, h3⟩
    · omega
    · rw [hh] at hh'
      cases hh'
      rcases ht with e | e | e
      · exact h1 e
      · exact h2 e
      · exact h3 e)⟩
theorem MkFr.of_own {B e size n : Nat} {w w' : World} {v : Value} {xs : List Value} (o : w.ownsRow B e size v n xs) (h : w.grownBy w' v.ownBlock) (ht : e = 36 ∨ e = 115 ∨ e = 3) : MkFr B w w' := by
  cases hv : v.ownBlock with
  | none => rw [hv] at h; exact ⟨h.os, h.tape, h.output, h.size, fun i hi _ => h.block i hi (by simp)⟩
  | some g =>
    rw [hv] at h
    obtain ⟨cs, fr, hh⟩ := ownRow_type o hv
    exact .of_row h (World.ownsRow.lt o g hv).1 ⟨_, _, _, hh, ht⟩

def LikeQ (qs ps : List (PNode × (Value × Value))) : Prop := ps.map (fun q => (q.1.attrs.length, q.1.kids.length, q.2)) = qs.map (fun q => (q.1.attrs.length, q.1.kids.length, q.2))
theorem LikeQ.len {qs ps : List (PNode × (Value × Value))} (h : LikeQ qs ps) : ps.length = qs.length := by have := congrArg List.length h; simpa using this
theorem LikeQ.at {qs ps : List (PNode × (Value × Value))} (h : LikeQ qs ps) {k : Nat} (hk : k < ps.length) (hk' : k < qs.length) : ps[k].1.attrs.length = qs[k].1.attrs.length ∧ ps[k].1.kids.length = qs[k].1.kids.length ∧ ps[k].2 = qs[k].2 := by
  have e : (ps.map (fun q => (q.1.attrs.length, q.1.kids.length, q.2)))[k]? = (qs.map (fun q => (q.1.attrs.length, q.1.kids.length, q.2)))[k]? := by rw [h]
  simp only [List.getElem?_map, List.getElem?_eq_getElem hk, List.getElem?_eq_getElem hk', Option.map_some, Option.some.injEq, Prod.mk.injEq] at e
  exact ⟨e.1, e.2.1, e.2.2⟩
theorem LikeQ.set {qs ps : List (PNode × (Value × Value))} (h : LikeQ qs ps) {k : Nat} (hk : k < ps.length) {q : PNode × (Value × Value)} (hq : q.1.attrs.length = ps[k].1.attrs.length ∧ q.1.kids.length = ps[k].1.kids.length ∧ q.2 = ps[k].2) : LikeQ qs (ps.set k q) := by
  unfold LikeQ at h ⊢
  rw [← h, List.map_set]
  apply List.ext_getElem?
  intro i
  by_cases e : k = i
  · subst e
    rw [List.getElem?_set_self (by simpa using hk)]
    simp [hk, hq.1, hq.2.1, hq.2.2]
  · rw [List.getElem?_set_ne e]
theorem LikeQ.apart {qs ps : List (PNode × (Value × Value))} (h : LikeQ qs ps) (a : Apart qs) : Apart ps := fun i j hi hj g e1 e2 => by
  rw [(h.at hi (h.len ▸ hi)).2.2] at e1
  rw [(h.at hj (h.len ▸ hj)).2.2] at e2
  exact a i j _ _ g e1 e2
theorem LikeQ.apartA {qs ps : List (PNode × (Value × Value))} (h : LikeQ qs ps) (a : ApartA qs) : ApartA ps := fun i j hi hj g e1 e2 => by
  rw [(h.at hi (h.len ▸ hi)).2.2] at e1
  rw [(h.at hj (h.len ▸ hj)).2.2] at e2
  exact a i j _ _ g e1 e2
end Go.Proofs.YtogdbjafibejdaaGreat

/- What tidying makes, node by node, in plain words. No condition. -/
namespace Go.Proofs.YtogdbjafibejdaaGreat
open Go.RowKit
set_option maxRecDepth 100000
set_option linter.unusedVariables false

def posI : List Int → Int → Nat
  | [], _ => 0
  | a :: l, x => if a = x then 0 else posI l x + 1
theorem pos_at {x : Int} : ∀ {l : List Int}, x ∈ l → l[posI l x]? = some x
  | a :: l, h => by
    unfold posI
    by_cases e : a = x
    · rw [if_pos e, e]; rfl
    · rw [if_neg e]
      rcases List.mem_cons.mp h with h | h
      · exact absurd h.symm e
      · simpa using pos_at h
theorem pos_lt {x : Int} {l : List Int} (h : x ∈ l) : posI l x < l.length := by
  have := pos_at h
  exact (List.getElem?_eq_some_iff.mp this).1
theorem pos_app {x : Int} (r : List Int) : ∀ {l : List Int}, x ∉ l → posI (l ++ x :: r) x = l.length
  | [], _ => by simp [posI]
  | a :: l, h => by
    rw [List.cons_append, posI, if_neg (fun e => h (by simp [e])), pos_app r (fun hm => h (List.mem_cons_of_mem _ hm))]
    rfl
theorem pos_get {x : Int} : ∀ {l : List Int}, l.Nodup → ∀ {i : Nat}, l[i]? = some x → posI l x = i
  | [], _, i, h => by simp at h
  | a :: l, hn, 0, h => by
    have e : a = x := by simpa using h
    rw [posI, if_pos e]
  | a :: l, hn, i + 1, h => by
    have h' : l[i]? = some x := by simpa using h
    have hm : x ∈ l := by
      obtain ⟨hi, hx⟩ := List.getElem?_eq_some_iff.mp h'
      rw [← hx]; exact List.getElem_mem hi
    have hne : ¬ a = x := fun e => (List.nodup_cons.mp hn).1 (e ▸ hm)
    rw [posI, if_neg hne, pos_get (List.nodup_cons.mp hn).2 h']
theorem pos_inj {x y : Int} {l : List Int} (hx : x ∈ l) (hy : y ∈ l) (h : posI l x = posI l y) : x = y := by
  have h1 := pos_at hx
  rw [h, pos_at hy] at h1
  exact (Option.some.inj h1).symm

theorem sub_flat {g : Int → List Int} : ∀ {L : List Int}, (∀ y ∈ L, ∃ t, g y = y :: t) → L.Sublist (L.flatMap g)
  | [], _ => List.Sublist.refl _
  | a :: L, h => by
    obtain ⟨t, ht⟩ := h a (by simp)
    rw [List.flatMap_cons, ht, List.cons_append]
    exact ((sub_flat (fun y hy => h y (by simp [hy]))).trans (List.sublist_append_right t _)).cons_cons a
theorem mem_flat_sub {g : Int → List Int} {y : Int} : ∀ {L : List Int}, y ∈ L → (g y).Sublist (L.flatMap g)
  | a :: L, h => by
    rw [List.flatMap_cons]
    rcases List.mem_cons.mp h with rfl | h
    · exact List.sublist_append_left _ _
    · exact (mem_flat_sub h).trans (List.sublist_append_right _ _)
theorem down_head {ns : List PNode} : ∀ {f k : Nat}, deepOk ns f k → ∃ t, down ns f k = (k : Int) :: t
  | 0, _, h => h.elim
  | f + 1, k, _ => ⟨_, rfl⟩
theorem kids_sub {ns : List PNode} : ∀ (f k : Nat), deepOk ns f k → ∀ x ∈ down ns f k, (kidsOf ns x.toNat).Sublist (down ns f k)
  | 0, _, h => h.elim
  | f + 1, k, h => fun x hx => by
    rw [down] at hx ⊢
    rcases List.mem_cons.mp hx with rfl | hx
    · rw [Int.toNat_natCast]
      refine List.Sublist.cons _ (sub_flat (fun y hy => ?_))
      obtain ⟨t, ht⟩ := down_head (h.2 y hy).2
      exact ⟨t, by rw [ht, Int.toNat_of_nonneg (h.2 y hy).1]⟩
    · obtain ⟨y, hy, hx⟩ := List.mem_flatMap.mp hx
      exact ((kids_sub f y.toNat (h.2 y hy).2 x hx).trans (mem_flat_sub (g := fun x => down ns f x.toNat) hy)).cons _
theorem split_flat {g : Int → List Int} {x : Int} : ∀ {L l r : List Int}, l ++ x :: r = L.flatMap g → ∃ y ∈ L, ∃ l1 l2 r2, l = l1 ++ l2 ∧ g y = l2 ++ x :: r2
  | [], l, r, h => by simp at h
  | a :: L, l, r, h => by
    rw [List.flatMap_cons] at h
    rcases List.append_eq_append_iff.mp h with ⟨t, h1, h2⟩ | ⟨t, h1, h2⟩
    · cases t with
      | nil =>
        rw [List.append_nil] at h1
        obtain ⟨y, hy, l1, l2, r2, e1, e2⟩ := split_flat (L := L) (l := []) (r := r) (by simpa using h2)
        obtain ⟨rfl, rfl⟩ := List.append_eq_nil_iff.mp e1.symm
        exact ⟨y, by simp [hy], l, [], r2, by simp, e2⟩
      | cons b t =>
        rw [List.cons_append] at h2
        obtain ⟨rfl, _⟩ := List.cons.inj h2
        exact ⟨a, by simp, [], l, t, by simp, h1⟩
    · obtain ⟨y, hy, l1, l2, r2, e1, e2⟩ := split_flat (L := L) (l := t) (r := r) h2.symm
      exact ⟨y, by simp [hy], g a ++ l1, l2, r2, by rw [h1, e1, List.append_assoc], e2⟩
theorem par_ahead {ns : List PNode} : ∀ (f k : Nat), deepOk ns f k → ∀ l x r, l ++ x :: r = down ns f k → x = (k : Int) ∨ ∃ p ∈ l, x ∈ kidsOf ns p.toNat
  | 0, _, h => h.elim
  | f + 1, k, h => fun l x r e => by
    rw [down] at e
    cases l with
    | nil => exact .inl (List.cons.inj e).1
    | cons a l =>
      rw [List.cons_append] at e
      obtain ⟨rfl, e'⟩ := List.cons.inj e
      obtain ⟨y, hy, l1, l2, r2, rfl, e2⟩ := split_flat e'
      rcases par_ahead f y.toNat (h.2 y hy).2 l2 x r2 e2.symm with rfl | ⟨p, hp, hx⟩
      · refine .inr ⟨(k : Int), by simp, ?_⟩
        rw [Int.toNat_natCast, Int.toNat_of_nonneg (h.2 y hy).1]
        exact hy
      · exact .inr ⟨p, by simp [hp], hx⟩

def allD (ns : List PNode) : List Int := down ns ns.length 0
theorem allD_mem {ns : List PNode} (h : STreeOkP ns) {x : Int} (hx : x ∈ allD ns) : 0 ≤ x ∧ x < ns.length := by
  have h1 := h.1.one
  have := down_dep h.1.fit ns.length 0 0 ⟨by omega, h.2⟩ x hx
  exact ⟨this.1, this.2.1⟩
theorem allD_nodup {ns : List PNode} (h : STreeOkP ns) : (allD ns).Nodup := by
  have h1 := h.1.one
  refine List.nodup_iff_count.mpr (fun x => ?_)
  by_cases hx : x ∈ allD ns
  · obtain ⟨h2, h3, e, he⟩ := down_dep h.1.fit ns.length 0 0 ⟨by omega, h.2⟩ x hx
    have := down_once h.1.fit (d := 0) (f := ns.length) (s := 0) ⟨by omega, h.2⟩ (tree_deep h.1 (by omega)) e x.toNat he
    rw [Int.toNat_of_nonneg h2] at this
    exact this
  · rw [List.count_eq_zero_of_not_mem hx]; omega
theorem allD_head {ns : List PNode} (h : STreeOkP ns) : ∃ t, allD ns = 0 :: t := by
  have h1 := h.1.one
  exact down_head (tree_deep h.1 (by omega))
theorem allD_kids {ns : List PNode} (h : STreeOkP ns) {x : Int} (hx : x ∈ allD ns) : (kidsOf ns x.toNat).Sublist (allD ns) := by
  have h1 := h.1.one
  exact kids_sub _ _ (tree_deep h.1 (by omega)) x hx
theorem allD_par {ns : List PNode} (h : STreeOkP ns) {l r : List Int} {x : Int} (e : l ++ x :: r = allD ns) (h0 : x ≠ 0) : parOf ns x.toNat ∈ l ∧ x ∈ kidsOf ns (parOf ns x.toNat).toNat := by
  have h1 := h.1.one
  rcases par_ahead _ _ (tree_deep h.1 (k := 0) (by omega)) l x r e with rfl | ⟨p, hp, hx⟩
  · exact absurd rfl h0
  · have hf := (fit_kid h.1.fit hx).2.2.2
    have hp0 := allD_mem h (x := p) (by rw [← e]; simp [hp])
    rw [hf, Int.toNat_of_nonneg hp0.1]
    exact ⟨hp, hx⟩
end Go.Proofs.YtogdbjafibejdaaGreat

/- A page to which a node is hung, or a text written, is printed so behind all, in plain words. No condition. -/
namespace Go.Proofs.YtogdbjafibejdaaGreat
open Go.RowKit
set_option maxRecDepth 100000
set_option linter.unusedVariables false
end Go.Proofs.YtogdbjafibejdaaGreat

/- The laws' helper that marks a tree: its nodes. No condition. -/
namespace Go.Proofs.YtogdbjafibejdaaGreat
open Go.RowKit
set_option maxRecDepth 100000
set_option linter.unusedVariables false

structure MkSt (B : Nat) (w : World) (g cap : Nat) (qs ps : List (PNode × (Value × Value))) (W : World) : Prop where
  like : LikeQ qs ps
  own : OwnQ B W (.slice (some ⟨g, 0, none⟩) qs.length cap) ps
  fr : MkFr B w W
  ap : Apart qs ∧ ApartA qs
theorem MkSt.below {B g cap : Nat} {w W W' : World} {qs ps : List (PNode × (Value × Value))} (h : MkSt B w g cap qs ps W) (b : Below W.heap.size W W') : MkSt B w g cap qs ps W' :=
  ⟨h.like, ⟨ownsRow_below h.own.1 b, fun q hq => ⟨ownsRow_below (h.own.2 q hq).1 b, (h.own.2 q hq).2.below b⟩⟩, h.fr.trans (.of_below b), h.ap⟩
theorem MkSt.cell {B g cap : Nat} {w W : World} {qs ps : List (PNode × (Value × Value))} (h : MkSt B w g cap qs ps W) {k j : Nat} (hk : k < qs.length) (hj : j < 6) (u : Value) (hu : ∀ q : PNode × (Value × Value), ∃ q' : PNode × (Value × Value), nodeRow q'.1 q'.2 = (nodeRow q.1 q.2).set j u ∧ q'.1.attrs = q.1.attrs ∧ q'.1.kids = q.1.kids ∧ q'.2 = q.2) :
    ∃ ps', MkSt B w g cap qs ps' (W.setCell ⟨g, k * 6 + j, none⟩ u) := by
  have hkp : k < ps.length := by rw [h.like.len]; exact hk
  obtain ⟨q', e1, e2, e3, e4⟩ := hu ps[k]
  have hl := h.own.2 ps[k] (List.getElem_mem hkp)
  have o := h.own.set hkp hj (u := u) (q := q') e1 (by rw [e2, e3, e4]; exact hl)
  exact ⟨ps.set k q', h.like.set hkp ⟨by rw [e2], by rw [e3], e4⟩, o, h.fr.trans (.of_own h.own.1 (grown_setCell W g (k * 6 + j) u) (.inl rfl)), h.ap⟩
theorem MkSt.attrs {B g cap : Nat} {w W W' : World} {qs ps : List (PNode × (Value × Value))} (h : MkSt B w g cap qs ps W) {k : Nat} (hk : k < qs.length) {rs : List (ByteArray × ByteArray)} (hl : rs.length = qs[k].1.attrs.length) (hg : W.grownBy W' qs[k].2.1.ownBlock)
    (ho : W'.ownsRow B 115 2 qs[k].2.1 rs.length (pairCells rs)) : ∃ ps', MkSt B w g cap qs ps' W' := by
  have hkp : k < ps.length := by rw [h.like.len]; exact hk
  obtain ⟨l1, l2, l3⟩ := h.like.at hkp hk
  rw [← l3] at hg ho
  exact ⟨_, h.like.set hkp (q := attrsQ ps[k] rs) ⟨by rw [l1]; exact hl, rfl, rfl⟩, h.own.markA (h.like.apartA h.ap.2) hkp hg ho, h.fr.trans (.of_own (h.own.2 _ (List.getElem_mem hkp)).1 hg (.inr (.inl rfl))), h.ap⟩
theorem MkSt.kids {B g cap : Nat} {w W W' : World} {qs ps : List (PNode × (Value × Value))} (h : MkSt B w g cap qs ps W) {k : Nat} (hk : k < qs.length) {ks : List Int} (hl : ks.length = qs[k].1.kids.length) (hg : W.grownBy W' qs[k].2.2.ownBlock)
    (ho : Own B 3 .i64 W' qs[k].2.2 ks) : ∃ ps', MkSt B w g cap qs ps' W' := by
  have hkp : k < ps.length := by rw [h.like.len]; exact hk
  obtain ⟨l1, l2, l3⟩ := h.like.at hkp hk
  rw [← l3] at hg ho
  exact ⟨_, h.like.set hkp (q := kidsQ ps[k] ks) ⟨rfl, by rw [l2]; exact hl, rfl⟩, h.own.markK (h.like.apart h.ap.1) hkp hg ho, h.fr.trans (.of_own (h.own.2 _ (List.getElem_mem hkp)).2 hg (.inr (.inr rfl))), h.ap⟩
end Go.Proofs.YtogdbjafibejdaaGreat

/- What tidying makes, node by node. No condition. -/
namespace Go.Proofs.YtogdbjafibejdaaGreat
open Go.RowKit
set_option maxRecDepth 100000
set_option linter.unusedVariables false

def plI (ns : List PNode) (x : Int) : Int := (posI (allD ns) x : Int)
def linkN (n : PNode) (par : Int) (ks : List Int) : PNode := ⟨n.kind, n.name, n.attrs, n.text, par, ks⟩
theorem linkN_alone (ns : List PNode) (k : Nat) : linkN (aloneAt ns k) (-1) [] = aloneAt ns k := by
  unfold aloneAt
  cases ns[k]? with
  | none => rfl
  | some a => rfl
def relN (ns : List PNode) (l : List Int) (x : Int) : PNode :=
  linkN (aloneAt ns x.toNat) (if x = 0 then -1 else plI ns (parOf ns x.toNat)) (((kidsOf ns x.toNat).filter fun y => decide (y ∈ l)).map (plI ns))

theorem filter_more {K l r : List Int} {x : Int} (hs : K.Sublist (l ++ x :: r)) (hn : (l ++ x :: r).Nodup) (hx : x ∈ K) :
    (K.filter fun y => decide (y ∈ l ++ [x])) = (K.filter fun y => decide (y ∈ l)) ++ [x] := by
  obtain ⟨K1, K2, rfl, h1, h2⟩ := List.sublist_append_iff.mp hs
  have hn' := List.nodup_append.mp hn
  have hxl : x ∉ l := fun hm => hn'.2.2 x hm x (by simp) rfl
  have hxr : x ∉ r := (List.nodup_cons.mp hn'.2.1).1
  have hx2 : x ∈ K2 := by
    rcases List.mem_append.mp hx with hx | hx
    · exact absurd (h1.subset hx) hxl
    · exact hx
  rcases List.sublist_cons_iff.mp h2 with h2 | ⟨K3, rfl, h3⟩
  · exact absurd (h2.subset hx2) hxr
  · have hr : ∀ y ∈ K3, y ∉ l ∧ y ≠ x := fun y hy => ⟨fun hm => hn'.2.2 y hm y (by simp [h3.subset hy]) rfl, fun e => hxr (e ▸ h3.subset hy)⟩
    have e1 : (K1.filter fun y => decide (y ∈ l)) = K1 := List.filter_eq_self.mpr (fun y hy => by simpa using h1.subset hy)
    have e2 : (K1.filter fun y => decide (y ∈ l ++ [x])) = K1 := List.filter_eq_self.mpr (fun y hy => by simp [h1.subset hy])
    have e3 : (K3.filter fun y => decide (y ∈ l)) = [] := List.filter_eq_nil_iff.mpr (fun y hy => by simpa using (hr y hy).1)
    have e4 : (K3.filter fun y => decide (y ∈ l ++ [x])) = [] := List.filter_eq_nil_iff.mpr (fun y hy => by simp [hr y hy])
    rw [List.filter_append, List.filter_append, e1, e2, List.filter_cons, List.filter_cons, e3, e4]
    simp [hxl]
theorem filter_same {K l : List Int} {x : Int} (hx : x ∉ K) : (K.filter fun y => decide (y ∈ l ++ [x])) = (K.filter fun y => decide (y ∈ l)) := by
  refine List.filter_congr (fun y hy => ?_)
  have : y ≠ x := fun e => hx (e ▸ hy)
  simp [this]

theorem hang_last {A : List PNode} {n : PNode} {p : Nat} (hp : p < A.length) (i : Nat) :
    (hangN (A ++ [alone n]) A.length p)[i]? = if i = A.length then some (linkN n (p : Int) []) else if i = p then (A[i]?).map (fun a => setKids a (a.kids ++ [(A.length : Int)])) else A[i]? := by
  have hpar : parOf (A ++ [alone n]) A.length = -1 := by simp [parOf, alone]
  unfold hangN takeN cutN
  rw [if_pos hpar]
  simp only [List.getElem?_modify]
  by_cases h1 : i = A.length
  · subst h1
    have hne : ¬ p = A.length := by omega
    simp [hne, alone, setPar, linkN]
  · by_cases h2 : i < A.length
    · rw [List.getElem?_append_left h2]
      have hne : ¬ A.length = i := by omega
      by_cases h3 : p = i
      · subst h3; simp [h1, hne]
      · have h3' : ¬ i = p := fun e => h3 e.symm
        simp [h1, hne, h3, h3']
    · have : (A ++ [alone n])[i]? = none := List.getElem?_eq_none (by simp; omega)
      rw [this, List.getElem?_eq_none (by omega)]
      simp [h1]

theorem tidyL_are {ns : List PNode} (h : STreeOkP ns) (l : List Int) : l <+: allD ns → (tidyL ns l).1 = l.map (relN ns l) ∧ ∀ x ∈ l, (tidyL ns l).2.getD x.toNat 0 = plI ns x := by
  have hnd := allD_nodup h
  have h500 := h.1.most
  refine snoc_ind (P := fun l => l <+: allD ns → (tidyL ns l).1 = l.map (relN ns l) ∧ ∀ x ∈ l, (tidyL ns l).2.getD x.toNat 0 = plI ns x) (fun _ => ⟨rfl, fun x hx => by cases hx⟩) ?_ l
  intro l x ih hpre
  obtain ⟨r, hr⟩ := hpre
  have hr' : l ++ x :: r = allD ns := by rw [← hr, List.append_assoc]; rfl
  have hxm : x ∈ allD ns := by rw [← hr']; simp
  obtain ⟨hx0, hx1⟩ := allD_mem h hxm
  have hndl : (l ++ x :: r).Nodup := by rw [hr']; exact hnd
  have hnd' := List.nodup_append.mp hndl
  have hxl : x ∉ l := fun hm => hnd'.2.2 x hm x (by simp) rfl
  have hlm : ∀ y ∈ l, y ∈ allD ns := fun y hy => by rw [← hr']; simp [hy]
  obtain ⟨ih1, ih2⟩ := ih ⟨x :: r, hr'⟩
  have hpx : posI (allD ns) x = l.length := by rw [← hr']; exact pos_app r hxl
  have hlen := tidyL_len ns l
  have hplace : ∀ y ∈ l ++ [x], ((tidyL ns l).2.set x.toNat ((tidyL ns l).1.length : Int)).getD y.toNat 0 = plI ns y := fun y hy => by
    rcases List.mem_append.mp hy with hy | hy
    · have hy0 := allD_mem h (hlm y hy)
      have hne : ¬ x.toNat = y.toNat := fun e => hxl (by rw [show x = y by omega]; exact hy)
      rw [List.getD_eq_getElem?_getD, List.getElem?_set_ne hne, ← List.getD_eq_getElem?_getD]
      exact ih2 y hy
    · rw [List.mem_singleton] at hy
      subst hy
      rw [List.getD_eq_getElem?_getD, List.getElem?_set_self (by rw [hlen.2]; omega), hlen.1, plI, hpx]
      rfl
  -- of x's own kids none has come
  have hkx : ((kidsOf ns x.toNat).filter fun y => decide (y ∈ l ++ [x])) = [] := by
    refine List.filter_eq_nil_iff.mpr (fun z hz => ?_)
    have hz1 := tree_kid h hz
    have hzp := (fit_kid h.1.fit hz).2.2.2
    rw [Int.toNat_of_nonneg hx0] at hzp
    have hsplit : ∀ l1 l2, l1 ++ z :: l2 = l ++ [x] → False := fun l1 l2 e => by
      have e' : l1 ++ z :: (l2 ++ r) = allD ns := by rw [← hr, ← e]; simp
      have hq := (allD_par h e' (by omega)).1
      rw [hzp] at hq
      have : l1.length < (l ++ [x]).length := by rw [← e]; simp
      have hpf : l1 <+: l ++ [x] := ⟨z :: l2, e⟩
      rcases List.prefix_concat_iff.mp (by simpa using hpf) with he | he
      · rw [he] at this; omega
      · exact hxl (he.subset hq)
    intro hc
    have hm : z ∈ l ++ [x] := by simpa using hc
    obtain ⟨l1, l2, e⟩ := List.append_of_mem hm
    exact hsplit l1 l2 e.symm
  have hsnd : (tidyL ns (l ++ [x])).2 = (tidyL ns l).2.set x.toNat ((tidyL ns l).1.length : Int) := by
    rw [tidyL_snoc]; unfold tidyStep; split <;> rfl
  refine ⟨?_, fun y hy => by rw [hsnd]; exact hplace y hy⟩
  rw [tidyL_snoc]
  by_cases h0 : x = 0
  · subst h0
    have hl0 : l = [] := by
      obtain ⟨t, ht⟩ := allD_head h
      cases l with
      | nil => rfl
      | cons a l =>
        exfalso
        rw [ht, List.cons_append] at hr'
        exact hxl (by rw [(List.cons.inj hr').1]; simp)
    subst hl0
    have hk : relN ns [0] 0 = aloneAt ns 0 := by
      unfold relN
      rw [if_pos rfl, show ((kidsOf ns (0 : Int).toNat).filter fun y => decide (y ∈ [(0 : Int)])) = [] from hkx]
      exact linkN_alone ns 0
    simp only [List.nil_append, List.map_cons, List.map_nil, hk]
    rfl
  · obtain ⟨j, rfl⟩ : ∃ j : Nat, x = j := ⟨x.toNat, by omega⟩
    have hj0 : j ≠ 0 := by omega
    obtain ⟨hq, hxq⟩ := allD_par h hr' h0
    rw [Int.toNat_natCast] at *
    rw [tidyStep_pos ns _ hj0]
    have hpl := hplace (parOf ns j) (by simp [hq])
    rw [hpl]
    have hqD := hlm _ hq
    have hqz := allD_mem h hqD
    obtain ⟨q, hqe⟩ : ∃ q, q = parOf ns j := ⟨_, rfl⟩
    rw [← hqe] at hq hqD hqz hxq ⊢
    have hpq : posI (allD ns) q < l.length := by
      have : posI (allD ns) q = posI l q := by
        obtain ⟨l1, l2, e⟩ := List.append_of_mem hq
        have hn1 : q ∉ l1 := fun hm => by
          have := hnd'.1
          rw [e] at this
          exact (List.nodup_append.mp this).2.2 q hm q (by simp) rfl
        rw [← hr', e, List.append_assoc, List.cons_append, pos_app _ hn1, pos_app _ hn1]
      rw [this]
      exact pos_lt hq
    have hjl : j < ns.length := by omega
    rw [aloneAt_at hjl, ih1, show ((plI ns q)).toNat = posI (allD ns) q by simp [plI]]
    have hAl : (l.map (relN ns l)).length = l.length := by simp
    refine List.ext_getElem? (fun i => ?_)
    rw [hAl]
    have hh := hang_last (A := l.map (relN ns l)) (n := ns[j]) (p := posI (allD ns) q) (by rw [hAl]; exact hpq) i
    rw [hAl] at hh
    rw [hh]
    by_cases hi : i = l.length
    · subst hi
      rw [if_pos rfl, List.getElem?_map, List.getElem?_append_right (by omega)]
      simp only [Nat.sub_self, List.getElem?_cons_zero, Option.map_some]
      congr 1
      unfold relN
      rw [if_neg (by omega), Int.toNat_natCast, hkx, aloneAt_at hjl, ← hqe]
      rfl
    · rw [if_neg hi, List.getElem?_map, List.getElem?_map]
      by_cases hil : i < l.length
      · rw [List.getElem?_append_left hil, List.getElem?_eq_getElem hil]
        simp only [Option.map_some]
        have hyl : l[i] ∈ l := List.getElem_mem hil
        obtain ⟨y, hy⟩ : ∃ y, y = l[i] := ⟨_, rfl⟩
        have hyD := hlm _ hyl
        have hyz := allD_mem h hyD
        have hip : posI (allD ns) l[i] = i := pos_get hnd (by rw [← hr', List.getElem?_append_left hil, List.getElem?_eq_getElem hil])
        rw [← hy] at hyl hyD hyz hip ⊢
        by_cases hyq : y = q
        · subst hyq
          rw [if_pos hip.symm]
          congr 1
          unfold relN
          rw [filter_more (by rw [hr']; exact allD_kids h hyD) hndl hxq, List.map_append]
          simp [setKids, linkN, plI, hpx]
        · rw [if_neg (fun e => hyq (pos_inj hyD hqD (by rw [hip, e])))]
          congr 1
          unfold relN
          rw [filter_same (fun hm => hyq (by
            have := (fit_kid h.1.fit hm).2.2.2
            rw [Int.toNat_natCast] at this
            rw [hqe, this, Int.toNat_of_nonneg hyz.1]))]
      · have e1 : (l[i]? : Option Int) = none := List.getElem?_eq_none (by omega)
        have e2 : ((l ++ [(j : Int)])[i]? : Option Int) = none := List.getElem?_eq_none (by simp; omega)
        rw [e1, e2]
        simp
def tidN (ns : List PNode) (x : Int) : PNode := linkN (aloneAt ns x.toNat) (if x = 0 then -1 else plI ns (parOf ns x.toNat)) ((kidsOf ns x.toNat).map (plI ns))
theorem tidyN_are {ns : List PNode} (h : STreeOkP ns) : tidyN ns = (allD ns).map (tidN ns) := by
  rw [tidyN, show down ns ns.length 0 = allD ns from rfl, (tidyL_are h _ (List.prefix_refl _)).1]
  refine List.map_congr_left (fun x hx => ?_)
  unfold relN tidN
  rw [List.filter_eq_self.mpr (fun y hy => by simpa using (allD_kids h hx).subset hy)]
end Go.Proofs.YtogdbjafibejdaaGreat

/- The laws' helper that marks a tree: its nodes, walked. No condition. -/
namespace Go.Proofs.YtogdbjafibejdaaGreat
open Go.RowKit
set_option maxRecDepth 100000
set_option linter.unusedVariables false

theorem MkSt.cellAt {B g cap : Nat} {w W : World} {qs ps : List (PNode × (Value × Value))} (h : MkSt B w g cap qs ps W) {k : Nat} (hk : k < qs.length) :
    (∃ z, W.cell? ⟨g, k * 6, none⟩ = some (.int .i64 z)) ∧ (∃ z, W.cell? ⟨g, k * 6 + 1, none⟩ = some (.string z)) ∧ W.cell? ⟨g, k * 6 + 2, none⟩ = some qs[k].2.1 ∧ (∃ z, W.cell? ⟨g, k * 6 + 3, none⟩ = some (.string z)) ∧ (∃ z, W.cell? ⟨g, k * 6 + 4, none⟩ = some (.int .i64 z)) ∧ W.cell? ⟨g, k * 6 + 5, none⟩ = some qs[k].2.2 ∧ ∀ j, W.frozen? ⟨g, j, none⟩ = false := by
  have hkp : k < ps.length := by rw [h.like.len]; exact hk
  obtain ⟨_, _, l3⟩ := h.like.at hkp hk
  have c := fun j (hj : j < 6) => h.own.cellAt hkp hj
  refine ⟨⟨ps[k].1.kind, c 0 (by decide)⟩, ⟨ps[k].1.name, c 1 (by decide)⟩, ?_, ⟨ps[k].1.text, c 3 (by decide)⟩, ⟨ps[k].1.parent, c 4 (by decide)⟩, ?_, fun j => h.own.frozenAt j⟩
  · rw [← l3]; exact c 2 (by decide)
  · rw [← l3]; exact c 5 (by decide)

theorem MkSt.listsAt {B g cap : Nat} {w W : World} {qs ps : List (PNode × (Value × Value))} (h : MkSt B w g cap qs ps W) {k : Nat} (hk : k < qs.length) :
    (∃ rs, List.length (α := ByteArray × ByteArray) rs = qs[k].1.attrs.length ∧ W.ownsRow B 115 2 qs[k].2.1 rs.length (pairCells rs)) ∧ (∃ ks, List.length (α := Int) ks = qs[k].1.kids.length ∧ Own B 3 .i64 W qs[k].2.2 ks) := by
  have hkp : k < ps.length := by rw [h.like.len]; exact hk
  obtain ⟨l1, l2, l3⟩ := h.like.at hkp hk
  have o := h.own.2 _ (List.getElem_mem hkp)
  rw [l3] at o
  exact ⟨⟨_, l1, o.1⟩, ⟨_, l2, o.2⟩⟩

end Go.Proofs.YtogdbjafibejdaaGreat

/- A tidied tree: right, in order, the same tidied again, with the same text and page. No condition. -/
namespace Go.Proofs.YtogdbjafibejdaaGreat
open Go.RowKit
set_option maxRecDepth 100000
set_option linter.unusedVariables false
section
variable {ns : List PNode}
end
end Go.Proofs.YtogdbjafibejdaaGreat

/- The laws' helper that marks a tree. No condition. -/
namespace Go.Proofs.YtogdbjafibejdaaGreat
open Go.RowKit
set_option maxRecDepth 100000
set_option linter.unusedVariables false

set_option maxHeartbeats 1000000 in
theorem markNodeS_none (k0 : Int) (w : World) : Calls Tryz.prog 101 #[.slice none 0 0, .int .i64 k0] w fun e w' => e = .returned (.int .i64 k0) ∧ w' = w := by
  go_enter Tryz.func101, Tryz.ntmps101
  go_wp2
  go_loop [1, 5] (fun q i => i = .int .i64 0 ∧ q = .int .i64 k0) (fun _ _ => 0)
  case atStart => exact ⟨rfl, rfl⟩
  case round =>
    obtain ⟨rfl, rfl⟩ := hrel
    go_wp2
    go_ret
    exact ⟨rfl, rfl⟩
end Go.Proofs.YtogdbjafibejdaaGreat

/- The marks of a tree, by value; the state while a tree is marked, with them. No condition. -/
namespace Go.Proofs.YtogdbjafibejdaaGreat
open Go.RowKit
set_option maxRecDepth 100000
set_option linter.unusedVariables false

def mkN (k : Int) (n : PNode) : PNode := ⟨k, mt (k + 1), markPairs (k + 1 + 1) n.attrs.length, mt (k + 1 + 1 + 2 * n.attrs.length), k + 1 + 1 + 2 * n.attrs.length + 1, marks (fun x => x) (k + 1 + 1 + 2 * n.attrs.length + 1 + 1) n.kids.length⟩
def advN (n : PNode) : Int := 4 + 2 * n.attrs.length + n.kids.length
def advS (ns : List PNode) : Int := (ns.map advN).sum
theorem advS_take {ns : List PNode} {k : Nat} (h : k < ns.length) : advS (ns.take (k + 1)) = advS (ns.take k) + advN ns[k] := by
  unfold advS
  rw [List.take_succ_eq_append_getElem h, List.map_append, List.sum_append]
  simp
theorem advS_le (ns : List PNode) : 0 ≤ advS ns ∧ advS ns ≤ 4 * ns.length + 2 * wtS ns := by
  induction ns with
  | nil => simp [advS, wtS]
  | cons n ns ih =>
    unfold advS wtS at ih ⊢
    simp only [List.map_cons, List.sum_cons, List.length_cons]
    have e1 : advN n = 4 + 2 * n.attrs.length + n.kids.length := rfl
    have e2 : wtN n = n.attrs.length + n.kids.length := rfl
    have := ih.1
    have := ih.2
    constructor <;> push_cast <;> omega
theorem mkN_len {k : Int} {n m : PNode} (h1 : n.attrs.length = m.attrs.length) (h2 : n.kids.length = m.kids.length) : mkN k n = mkN k m := by
  unfold mkN
  rw [h1, h2]
def Marked (k0 : Int) (ns : List PNode) : Prop := ∀ i (h : i < ns.length), ns[i] = mkN (k0 + advS (ns.take i)) ns[i]
theorem LikeQ.adv {qs ps : List (PNode × (Value × Value))} (h : LikeQ qs ps) (i : Nat) : advS ((ps.map fun q => q.1).take i) = advS ((qs.map fun q => q.1).take i) := by
  have e : (ps.map fun q => q.1).map advN = (qs.map fun q => q.1).map advN := by
    have := congrArg (List.map (fun t : Nat × Nat × (Value × Value) => (4 + 2 * t.1 + t.2.1 : Int))) h
    rw [List.map_map, List.map_map] at this
    rw [List.map_map, List.map_map]
    exact this
  unfold advS
  rw [List.map_take, List.map_take, e]

def Upd (k : Nat) (f : PNode → PNode) (ps ps' : List (PNode × (Value × Value))) : Prop := ps' = ps.modify k (fun q => (f q.1, q.2))
theorem Upd.refl (k : Nat) (ps : List (PNode × (Value × Value))) : Upd k (fun n => n) ps ps := by
  unfold Upd
  apply List.ext_getElem?
  intro i
  rw [List.getElem?_modify]
  split
  · cases ps[i]? <;> rfl
  · cases ps[i]? <;> rfl
theorem Upd.trans {k : Nat} {f g : PNode → PNode} {a b c : List (PNode × (Value × Value))} (h : Upd k f a b) (h' : Upd k g b c) : Upd k (fun n => g (f n)) a c := by
  unfold Upd at h h' ⊢
  subst h
  subst h'
  apply List.ext_getElem?
  intro i
  rw [List.getElem?_modify, List.getElem?_modify, List.getElem?_modify]
  by_cases e : k = i
  · simp only [e, if_true]
    cases a[i]? <;> rfl
  · simp only [e, if_false]
    cases a[i]? <;> rfl
theorem upd_set {k : Nat} {ps : List (PNode × (Value × Value))} (hk : k < ps.length) {f : PNode → PNode} {q : PNode × (Value × Value)} (hq : q = (f ps[k].1, ps[k].2)) : Upd k f ps (ps.set k q) := by
  subst hq
  unfold Upd
  apply List.ext_getElem?
  intro i
  rw [List.getElem?_modify]
  by_cases e : k = i
  · subst e
    rw [List.getElem?_set_self hk, List.getElem?_eq_getElem hk]
    simp
  · rw [List.getElem?_set_ne e]
    cases ps[i]? <;> simp [e]
theorem MkSt.cellV {B g cap : Nat} {w W : World} {qs ps : List (PNode × (Value × Value))} (h : MkSt B w g cap qs ps W) {k j : Nat} (hk : k < qs.length) (hj : j < 6) (u : Value) (f : PNode → PNode) (hu : ∀ (n : PNode) (r : Value × Value), nodeRow (f n) r = (nodeRow n r).set j u ∧ (f n).attrs = n.attrs ∧ (f n).kids = n.kids) :
    ∃ ps', MkSt B w g cap qs ps' (W.setCell ⟨g, k * 6 + j, none⟩ u) ∧ Upd k f ps ps' := by
  have hkp : k < ps.length := by rw [h.like.len]; exact hk
  obtain ⟨e1, e2, e3⟩ := hu ps[k].1 ps[k].2
  have hl := h.own.2 ps[k] (List.getElem_mem hkp)
  have o := h.own.set hkp hj (u := u) (q := (f ps[k].1, ps[k].2)) e1 (by rw [e2, e3]; exact hl)
  exact ⟨ps.set k (f ps[k].1, ps[k].2), ⟨h.like.set hkp ⟨by rw [e2], by rw [e3], rfl⟩, o, h.fr.trans (.of_own h.own.1 (grown_setCell W g (k * 6 + j) u) (.inl rfl)), h.ap⟩, upd_set hkp rfl⟩
theorem MkSt.attrsV {B g cap : Nat} {w W W' : World} {qs ps : List (PNode × (Value × Value))} (h : MkSt B w g cap qs ps W) {k : Nat} (hk : k < qs.length) {rs : List (ByteArray × ByteArray)} (hl : rs.length = qs[k].1.attrs.length) (hg : W.grownBy W' qs[k].2.1.ownBlock)
    (ho : W'.ownsRow B 115 2 qs[k].2.1 rs.length (pairCells rs)) : ∃ ps', MkSt B w g cap qs ps' W' ∧ Upd k (fun n => ⟨n.kind, n.name, rs, n.text, n.parent, n.kids⟩) ps ps' := by
  have hkp : k < ps.length := by rw [h.like.len]; exact hk
  obtain ⟨l1, l2, l3⟩ := h.like.at hkp hk
  rw [← l3] at hg ho
  exact ⟨_, ⟨h.like.set hkp (q := attrsQ ps[k] rs) ⟨by rw [l1]; exact hl, rfl, rfl⟩, h.own.markA (h.like.apartA h.ap.2) hkp hg ho, h.fr.trans (.of_own (h.own.2 _ (List.getElem_mem hkp)).1 hg (.inr (.inl rfl))), h.ap⟩, upd_set hkp rfl⟩
theorem MkSt.kidsV {B g cap : Nat} {w W W' : World} {qs ps : List (PNode × (Value × Value))} (h : MkSt B w g cap qs ps W) {k : Nat} (hk : k < qs.length) {ks : List Int} (hl : ks.length = qs[k].1.kids.length) (hg : W.grownBy W' qs[k].2.2.ownBlock)
    (ho : Own B 3 .i64 W' qs[k].2.2 ks) : ∃ ps', MkSt B w g cap qs ps' W' ∧ Upd k (fun n => ⟨n.kind, n.name, n.attrs, n.text, n.parent, ks⟩) ps ps' := by
  have hkp : k < ps.length := by rw [h.like.len]; exact hk
  obtain ⟨l1, l2, l3⟩ := h.like.at hkp hk
  rw [← l3] at hg ho
  exact ⟨_, ⟨h.like.set hkp (q := kidsQ ps[k] ks) ⟨rfl, by rw [l2]; exact hl, rfl⟩, h.own.markK (h.like.apart h.ap.1) hkp hg ho, h.fr.trans (.of_own (h.own.2 _ (List.getElem_mem hkp)).2 hg (.inr (.inr rfl))), h.ap⟩, upd_set hkp rfl⟩

def DoneM (k0 : Int) (qs : List (PNode × (Value × Value))) (k : Nat) (ps : List (PNode × (Value × Value))) : Prop :=
  ∀ i, i < k → ∀ (h : i < ps.length) (h' : i < qs.length), ps[i].1 = mkN (k0 + advS ((qs.map fun q => q.1).take i)) qs[i].1
theorem DoneM.next {k0 : Int} {qs ps ps' : List (PNode × (Value × Value))} {k : Nat} (h : DoneM k0 qs k ps) {f : PNode → PNode} (u : Upd k f ps ps') (hf : ∀ (h : k < ps.length) (h' : k < qs.length), f ps[k].1 = mkN (k0 + advS ((qs.map fun q => q.1).take k)) qs[k].1) : DoneM k0 qs (k + 1) ps' := by
  intro i hi h1 h2
  unfold Upd at u
  subst u
  rw [List.length_modify] at h1
  rw [List.getElem_modify]
  split
  · rename_i e
    subst e
    exact hf h1 h2
  · exact h i (by omega) h1 h2
theorem DoneM.marked {k0 : Int} {qs ps : List (PNode × (Value × Value))} (h : DoneM k0 qs qs.length ps) (l : LikeQ qs ps) : Marked k0 (ps.map fun q => q.1) := by
  intro i hi
  have hi1 : i < ps.length := by simpa using hi
  have hi2 : i < qs.length := by rw [← l.len]; exact hi1
  have e := h i hi2 hi1 hi2
  obtain ⟨l1, l2, _⟩ := l.at hi1 hi2
  rw [l.adv, List.getElem_map]
  exact e.trans (mkN_len l1.symm l2.symm)
end Go.Proofs.YtogdbjafibejdaaGreat

/- The specification's tidying, plainly: a node and what stands below it behind others; it is what the program's makes. No condition. -/
namespace Go.Proofs.YtogdbjafibejdaaGreat
open Go.RowKit
set_option maxRecDepth 100000
set_option linter.unusedVariables false

def tdL (ns : List PNode) : Nat → Nat → Int → Nat → List PNode
  | 0, _, _, _ => []
  | f + 1, k, par, base =>
    let st := (kidsOf ns k).foldl (fun (st : List Int × List PNode) x => (st.1 ++ [((base + 1 + st.2.length : Nat) : Int)], st.2 ++ tdL ns f x.toNat base (base + 1 + st.2.length))) ([], [])
    linkN (aloneAt ns k) par st.1 :: st.2
def tdK (ns : List PNode) (f base : Nat) (l : List Int) : List Int × List PNode :=
  l.foldl (fun (st : List Int × List PNode) x => (st.1 ++ [((base + 1 + st.2.length : Nat) : Int)], st.2 ++ tdL ns f x.toNat base (base + 1 + st.2.length))) ([], [])
theorem tdL_succ (ns : List PNode) (f k : Nat) (par : Int) (base : Nat) : tdL ns (f + 1) k par base = linkN (aloneAt ns k) par (tdK ns f base (kidsOf ns k)).1 :: (tdK ns f base (kidsOf ns k)).2 := rfl
theorem tdK_nil (ns : List PNode) (f base : Nat) : tdK ns f base [] = ([], []) := rfl
theorem tdK_snoc (ns : List PNode) (f base : Nat) (l : List Int) (x : Int) : tdK ns f base (l ++ [x]) = ((tdK ns f base l).1 ++ [((base + 1 + (tdK ns f base l).2.length : Nat) : Int)], (tdK ns f base l).2 ++ tdL ns f x.toNat base (base + 1 + (tdK ns f base l).2.length)) := by
  simp [tdK]
theorem tdL_len (ns : List PNode) : ∀ (f k : Nat) (par : Int) (base : Nat), (tdL ns f k par base).length = (down ns f k).length
  | 0, _, _, _ => rfl
  | f + 1, k, par, base => by
    rw [tdL_succ, down, List.length_cons, List.length_cons]
    congr 1
    have : ∀ l : List Int, (tdK ns f base l).2.length = (l.flatMap fun x => down ns f x.toNat).length := fun l => by
      refine snoc_ind (P := fun l => (tdK ns f base l).2.length = (l.flatMap fun x => down ns f x.toNat).length) rfl ?_ l
      intro l x ih
      rw [tdK_snoc, List.length_append, ih, List.flatMap_append, List.length_append, tdL_len ns f x.toNat, List.flatMap_singleton]
    exact this _
def tidA (ns : List PNode) (k par : Int) (x : Int) : PNode := linkN (aloneAt ns x.toNat) (if x = k then par else plI ns (parOf ns x.toNat)) ((kidsOf ns x.toNat).map (plI ns))

theorem tdL_are {ns : List PNode} (h : STreeOkP ns) : ∀ (f k : Nat) (par : Int) (base : Nat), deepOk ns f k → (∃ l r, allD ns = l ++ down ns f k ++ r ∧ l.length = base) → tdL ns f k par base = (down ns f k).map (tidA ns (k : Int) par)
  | 0, _, _, _, hd, _ => hd.elim
  | f + 1, k, par, base, hd, ⟨l, r, hD, hb⟩ => by
    have hnd := allD_nodup h
    rw [down] at hD
    have hkD : (k : Int) ∈ allD ns := by rw [hD]; simp
    have hnd1 := hnd
    rw [hD, List.append_assoc, List.cons_append] at hnd1
    have hkl : (k : Int) ∉ l := fun hm => (List.nodup_append.mp hnd1).2.2 _ hm _ (by simp) rfl
    have hplk : plI ns (k : Int) = (base : Int) := by
      unfold plI
      rw [hD, List.append_assoc, List.cons_append, pos_app _ hkl, hb]
    -- the kids, from the first on
    have key : ∀ K1 K2, kidsOf ns k = K1 ++ K2 → (tdK ns f base K1).1 = K1.map (plI ns) ∧ (tdK ns f base K1).2 = (K1.flatMap fun x => down ns f x.toNat).map (tidA ns (k : Int) par) := by
      intro K1
      refine snoc_ind (P := fun K1 => ∀ K2, kidsOf ns k = K1 ++ K2 → (tdK ns f base K1).1 = K1.map (plI ns) ∧ (tdK ns f base K1).2 = (K1.flatMap fun x => down ns f x.toNat).map (tidA ns (k : Int) par)) (fun _ _ => ⟨rfl, rfl⟩) ?_ K1
      intro K1 y ih K2 hK
      obtain ⟨i1, i2⟩ := ih (y :: K2) (by rw [hK, List.append_assoc]; rfl)
      have hyk : y ∈ kidsOf ns k := by rw [hK]; simp
      have hyd := (hd.2 y hyk)
      have hfy := fit_kid h.1.fit hyk
      have hlen : (tdK ns f base K1).2.length = (K1.flatMap fun x => down ns f x.toNat).length := by rw [i2, List.length_map]
      have hDy : allD ns = (l ++ (k : Int) :: K1.flatMap fun x => down ns f x.toNat) ++ down ns f y.toNat ++ ((K2.flatMap fun x => down ns f x.toNat) ++ r) := by
        rw [hD, hK, List.flatMap_append, List.flatMap_append, List.flatMap_singleton]
        simp [List.append_assoc]
      have hbl : (l ++ (k : Int) :: K1.flatMap fun x => down ns f x.toNat).length = base + 1 + (tdK ns f base K1).2.length := by
        rw [List.length_append, List.length_cons, hlen, hb]; omega
      have hrec := tdL_are h f y.toNat (base : Int) (base + 1 + (tdK ns f base K1).2.length) hyd.2 ⟨_, _, hDy, hbl⟩
      have hyn : ((y.toNat : Nat) : Int) = y := Int.toNat_of_nonneg hyd.1
      have hnd2 := hnd
      rw [hDy] at hnd2
      rw [tdK_snoc]
      constructor
      · rw [List.map_append, i1]
        congr 1
        simp only [List.map_cons, List.map_nil]
        congr 1
        obtain ⟨t, ht⟩ := down_head hyd.2
        rw [hyn] at ht
        have hyl : y ∉ (l ++ (k : Int) :: K1.flatMap fun x => down ns f x.toNat) := fun hm => (List.nodup_append.mp (List.nodup_append.mp hnd2).1).2.2 _ hm _ (by rw [ht]; simp) rfl
        have : posI (allD ns) y = base + 1 + (tdK ns f base K1).2.length := by
          rw [hDy, ht, List.append_assoc, List.cons_append, pos_app _ hyl, hbl]
        unfold plI
        rw [this]
      · show (tdK ns f base K1).2 ++ tdL ns f y.toNat base (base + 1 + (tdK ns f base K1).2.length) = _
        rw [hrec, List.flatMap_append, List.map_append, List.flatMap_singleton, i2]
        congr 1
        refine List.map_congr_left (fun z hz => ?_)
        unfold tidA
        rw [hyn]
        have hzk : z ≠ (k : Int) := fun e => (List.nodup_append.mp (List.nodup_append.mp hnd2).1).2.2 (k : Int) (by simp) z hz e.symm
        rw [if_neg hzk]
        by_cases hzy : z = y
        · subst hzy
          rw [if_pos rfl, hfy.2.2.2, hplk]
        · rw [if_neg hzy]
    obtain ⟨k1, k2⟩ := key (kidsOf ns k) [] (by simp)
    rw [tdL_succ, down, List.map_cons, k1, k2]
    congr 1
    unfold tidA
    rw [Int.toNat_natCast, if_pos rfl]
theorem tdL_tidy {ns : List PNode} (h : STreeOkP ns) : tdL ns ns.length 0 (-1) 0 = tidyN ns := by
  have h1 := h.1.one
  rw [tdL_are h ns.length 0 (-1) 0 (tree_deep h.1 (by omega)) ⟨[], [], by simp [allD], rfl⟩, tidyN_are h]
  refine List.map_congr_left (fun x hx => ?_)
  rfl
end Go.Proofs.YtogdbjafibejdaaGreat

/- Rows of bytes while a tree is marked. No condition. -/
namespace Go.Proofs.YtogdbjafibejdaaGreat
open Go.RowKit
set_option maxRecDepth 100000
set_option linter.unusedVariables false
theorem MkFr.below {B : Nat} {w w' : World} (f : MkFr B w w') {A : Nat} (hA : A ≤ B) {w0 : World} (h : Below A w0 w) (h0 : A ≤ w0.heap.size) (hs : A ≤ w.heap.size) : Below A w0 w' :=
  ⟨f.os.trans h.os, f.tape.trans h.tape, f.output.trans h.output, by have := f.size; have := h.size; omega, fun i hi => (f.block i (by omega) (.inl (by omega))).trans (h.block i hi)⟩
end Go.Proofs.YtogdbjafibejdaaGreat
