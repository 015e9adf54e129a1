/- A tree as a page, in plain words. No condition. -/
import Derived.Test.YtogdbjafibejdaaGreatX36
import Derived.Test.YtogdbjafibejdaaGreatX39
import Derived.Test.YtogdbjafibejdaaGreatX24
import Derived.Test.YtogdbjafibejdaaGreatX40
import Derived.Test.YtogdbjafibejdaaGreatX37
namespace Go.Proofs.YtogdbjafibejdaaGreat
open Go.RowKit
set_option maxRecDepth 100000
set_option linter.unusedVariables false

def dtL : List UInt8 := [60, 33, 68, 79, 67, 84, 89, 80, 69, 32]
def coL : List UInt8 := [60, 33, 45, 45]
def coR : List UInt8 := [45, 45, 62]
def attrL (p : ByteArray × ByteArray) : List UInt8 := [32] ++ p.1.data.toList ++ [61, 34] ++ esc true p.2.data.toList ++ [34]
def openL (n : PNode) : List UInt8 := [60] ++ n.name.data.toList ++ n.attrs.flatMap attrL ++ [62]
def closeL (n : PNode) : List UInt8 := [60, 47] ++ n.name.data.toList ++ [62]
/-- What a node is printed as, below one of the name up; inner: what stands below it. -/
def nodeL (up : ByteArray) (n : PNode) (inner : List UInt8) : List UInt8 :=
  if n.kind = 2 then dtL ++ n.name.data.toList ++ [62]
  else if n.kind = 3 then (if hasB voids n.name then openL n else openL n ++ inner ++ closeL n)
  else if n.kind = 4 then (if hasB raws up then n.text.data.toList else esc false n.text.data.toList)
  else if n.kind = 5 then coL ++ n.text.data.toList ++ coR
  else []
def ndAt (ns : List PNode) (k : Nat) : PNode := (ns[k]?).getD ⟨0, ⟨#[]⟩, [], ⟨#[]⟩, -1, []⟩
theorem ndAt_at {ns : List PNode} {k : Nat} (h : k < ns.length) : ndAt ns k = ns[k] := by simp [ndAt, h]
/-- What stands below a node is printed as; f levels at most. -/
def printL (ns : List PNode) : Nat → Nat → List UInt8
  | 0, _ => []
  | f + 1, k => (kidsOf ns k).flatMap fun x => nodeL (ndAt ns k).name (ndAt ns x.toNat) (printL ns f x.toNat)

theorem esc_len (v : Bool) : ∀ (n : Nat) (l : List UInt8), l.length ≤ n → (esc v l).length ≤ 6 * l.length := by
  intro n
  induction n with
  | zero => intro l h; have : l = [] := List.length_eq_zero_iff.mp (by omega); subst this; simp [esc]
  | succ n ih =>
    intro l h
    cases l with
    | nil => simp [esc]
    | cons b r =>
      by_cases hb : b = 194 ∧ r.head? = some 160
      · obtain ⟨rfl, hr⟩ := hb
        cases r with
        | nil => cases hr
        | cons c r =>
          simp only [List.head?_cons, Option.some.injEq] at hr
          subst hr
          rw [esc_hard, List.length_append]
          have h1 := ih r (by simp at h; omega)
          have h2 : nbspS.length = 6 := rfl
          simp only [List.length_cons]
          omega
      · rw [esc_cons v b r hb, List.length_append]
        have h1 := ih r (by simpa using h)
        have h2 := esc1_le v b
        simp only [List.length_cons]
        omega
theorem esc_le (v : Bool) (l : List UInt8) : (esc v l).length ≤ 6 * l.length := esc_len v _ l (Nat.le_refl _)

theorem attrL_len {p : ByteArray × ByteArray} (h : attrOk p = true) : (attrL p).length ≤ 18100 := by
  unfold attrOk at h
  simp only [Bool.and_eq_true, decide_eq_true_eq] at h
  obtain ⟨⟨⟨h1, h2⟩, _⟩, _⟩ := h
  have h3 := esc_le true p.2.data.toList
  have h4 : p.1.size ≤ 60 := by
    unfold inB at h1
    simp at h1
    omega
  have h5 : p.1.data.toList.length = p.1.size := by simp
  have h6 : p.2.data.toList.length = p.2.size := by simp
  simp only [attrL, List.length_append, List.length_cons, List.length_nil]
  omega
theorem flatMap_le {α : Type} {l : List α} {g : α → List UInt8} {m : Nat} (h : ∀ x ∈ l, (g x).length ≤ m) : (l.flatMap g).length ≤ l.length * m := by
  induction l with
  | nil => simp
  | cons a l ih =>
    rw [List.flatMap_cons, List.length_append, List.length_cons, Nat.succ_mul]
    have h1 := h a (by simp)
    have h2 := ih (fun x hx => h x (by simp [hx]))
    omega
/-- Nothing of a right node is long. -/
structure SmallN (n : PNode) : Prop where
  nm : n.name.size ≤ 3000
  tx : n.text.size ≤ 3000
  rs : n.attrs.length ≤ 20
  each : ∀ p ∈ n.attrs, attrOk p = true
theorem small_of {n : PNode} {k : Nat} (h : goodB n k = true) : SmallN n := by
  unfold goodB at h
  rw [Bool.and_eq_true] at h
  have h := h.2
  unfold nodeB at h
  have e0 : ∀ s, empB s = true → s.size ≤ 3000 := fun s hs => by have := (empB_iff s).mp hs; omega
  have r0 : n.attrs.length = 0 → n.attrs.length ≤ 20 ∧ ∀ p ∈ n.attrs, attrOk p = true := fun hr => by
    have : n.attrs = [] := List.length_eq_zero_iff.mp hr
    rw [this]; simp
  split at h
  · simp only [Bool.and_eq_true, decide_eq_true_eq] at h
    exact ⟨e0 _ h.1.1, e0 _ h.2, (r0 h.1.2).1, (r0 h.1.2).2⟩
  split at h
  · simp only [Bool.and_eq_true, decide_eq_true_eq] at h
    obtain ⟨⟨⟨⟨h1, _⟩, h2⟩, h3⟩, _⟩ := h
    exact ⟨by omega, e0 _ h3, (r0 h2).1, (r0 h2).2⟩
  split at h
  · simp only [Bool.and_eq_true] at h
    obtain ⟨⟨h1, h2⟩, h3⟩ := h
    have hn : n.name.size ≤ 3000 := by
      unfold nameOk at h1
      simp only [Bool.and_eq_true] at h1
      exact utf_size h1.1.1.2
    unfold attrsOk attrsTo at h2
    simp only [Bool.and_eq_true, decide_eq_true_eq, List.all_eq_true] at h2
    exact ⟨hn, e0 _ h3, h2.1, h2.2.1⟩
  split at h
  · simp only [Bool.and_eq_true, decide_eq_true_eq] at h
    obtain ⟨⟨⟨⟨_, h1⟩, h2⟩, h3⟩, _⟩ := h
    exact ⟨e0 _ h2, utf_size h1, (r0 h3).1, (r0 h3).2⟩
  split at h
  · simp only [Bool.and_eq_true, decide_eq_true_eq] at h
    obtain ⟨⟨⟨h1, h2⟩, h3⟩, _⟩ := h
    exact ⟨e0 _ h2, utf_size h1, (r0 h3).1, (r0 h3).2⟩
  · cases h
theorem small_all {ns : List PNode} (h : TreeOkP ns) : ∀ k (hk : k < ns.length), SmallN ns[k] := fun k hk => small_of (h.good k hk)
theorem openL_len {n : PNode} (h : SmallN n) : (openL n).length ≤ 366000 := by
  have h1 := flatMap_le (l := n.attrs) (g := attrL) (m := 18100) (fun p hp => attrL_len (h.each p hp))
  have h2 := h.nm
  have h3 : n.name.data.toList.length = n.name.size := by simp
  have h4 := h.rs
  have h5 : n.attrs.length * 18100 ≤ 20 * 18100 := Nat.mul_le_mul_right _ h4
  simp only [openL, List.length_append, List.length_cons, List.length_nil]
  omega
theorem nodeL_len {n : PNode} (h : SmallN n) (up : ByteArray) (inner : List UInt8) : (nodeL up n inner).length ≤ 390000 + inner.length := by
  have h1 := openL_len h
  have h2 := h.nm
  have h3 : n.name.data.toList.length = n.name.size := by simp
  have h4 := h.tx
  have h5 : n.text.data.toList.length = n.text.size := by simp
  have h6 := esc_le false n.text.data.toList
  unfold nodeL
  repeat' split
  all_goals
    (try simp only [List.length_append, List.length_cons, List.length_nil, closeL, dtL, coL, coR])
    omega
theorem flat_less {l : List Int} {g : Int → List UInt8} {d : Int → List Int} {m : Nat} (h : ∀ x ∈ l, (g x).length ≤ m * (d x).length) : (l.flatMap g).length ≤ m * (l.flatMap d).length := by
  induction l with
  | nil => simp
  | cons a l ih =>
    rw [List.flatMap_cons, List.flatMap_cons, List.length_append, List.length_append, Nat.mul_add]
    have h1 := h a (by simp)
    have h2 := ih (fun x hx => h x (by simp [hx]))
    omega
theorem print_len {ns : List PNode} (hs : ∀ k (hk : k < ns.length), SmallN ns[k]) : ∀ f k, deepOk ns f k → (printL ns f k).length + 390000 ≤ 390000 * (down ns f k).length
  | 0, k, h => h.elim
  | f + 1, k, h => by
    rw [printL, down, List.length_cons, Nat.mul_add]
    have := flat_less (l := kidsOf ns k) (m := 390000) (g := fun x => nodeL (ndAt ns k).name (ndAt ns x.toNat) (printL ns f x.toNat)) (d := fun x => down ns f x.toNat) (fun x hx => by
      have h1 := (h.2 x hx).2
      have h2 := print_len hs f x.toNat h1
      have h3 := deepOk_lt h1
      have h4 := nodeL_len (by rw [ndAt_at h3]; exact hs _ h3 : SmallN (ndAt ns x.toNat)) (ndAt ns k).name (printL ns f x.toNat)
      omega)
    omega
theorem flat_same {L : List Int} {g g' : Int → List UInt8} (h : ∀ x ∈ L, g' x = g x) : L.flatMap g' = L.flatMap g := by
  induction L with
  | nil => rfl
  | cons a l ih => rw [List.flatMap_cons, List.flatMap_cons, h a (by simp), ih (fun x hx => h x (by simp [hx]))]
theorem print_deep (ns : List PNode) : ∀ (f g k : Nat), f ≤ g → deepOk ns f k → printL ns g k = printL ns f k
  | 0, _, _, _, h => h.elim
  | f + 1, 0, _, h, _ => by omega
  | f + 1, g + 1, k, hfg, h => by
    rw [printL, printL]
    exact flat_same fun x hx => by rw [print_deep ns f g x.toNat (by omega) (h.2 x hx).2]
/-- A right tree is printed in less than 200 million bytes. -/
theorem print_small {ns : List PNode} (h : TreeOkP ns) {k : Nat} (hk : k < ns.length) : (printL ns ns.length k).length ≤ 195000000 := by
  have h1 := print_len (small_all h) ns.length k (tree_deep h hk)
  have h2 := down_few h hk
  have h3 := h.most
  have h4 : 390000 * (down ns ns.length k).length ≤ 390000 * 500 := Nat.mul_le_mul_left _ (by omega)
  omega
end Go.Proofs.YtogdbjafibejdaaGreat

/- What tidying makes, node by node, in plain words. No condition. -/
namespace Go.Proofs.YtogdbjafibejdaaGreat
open Go.RowKit
set_option maxRecDepth 100000
set_option linter.unusedVariables false

/-- The place of x in a list. -/
def posI : List Int → Int → Nat
  | [], _ => 0
  | a :: l, x => if a = x then 0 else posI l x + 1
theorem pos_at {x : Int} : ∀ {l : List Int}, x ∈ l → l[posI l x]? = some x
  | a :: l, h => by
    unfold posI
    by_cases e : a = x
    · rw [if_pos e, e]; rfl
    · rw [if_neg e]
      rcases List.mem_cons.mp h with h | h
      · exact absurd h.symm e
      · simpa using pos_at h
theorem pos_lt {x : Int} {l : List Int} (h : x ∈ l) : posI l x < l.length := by
  have := pos_at h
  exact (List.getElem?_eq_some_iff.mp this).1
theorem pos_app {x : Int} (r : List Int) : ∀ {l : List Int}, x ∉ l → posI (l ++ x :: r) x = l.length
  | [], _ => by simp [posI]
  | a :: l, h => by
    rw [List.cons_append, posI, if_neg (fun e => h (by simp [e])), pos_app r (fun hm => h (List.mem_cons_of_mem _ hm))]
    rfl
theorem pos_get {x : Int} : ∀ {l : List Int}, l.Nodup → ∀ {i : Nat}, l[i]? = some x → posI l x = i
  | [], _, i, h => by simp at h
  | a :: l, hn, 0, h => by
    have e : a = x := by simpa using h
    rw [posI, if_pos e]
  | a :: l, hn, i + 1, h => by
    have h' : l[i]? = some x := by simpa using h
    have hm : x ∈ l := by
      obtain ⟨hi, hx⟩ := List.getElem?_eq_some_iff.mp h'
      rw [← hx]; exact List.getElem_mem hi
    have hne : ¬ a = x := fun e => (List.nodup_cons.mp hn).1 (e ▸ hm)
    rw [posI, if_neg hne, pos_get (List.nodup_cons.mp hn).2 h']
theorem pos_inj {x y : Int} {l : List Int} (hx : x ∈ l) (hy : y ∈ l) (h : posI l x = posI l y) : x = y := by
  have h1 := pos_at hx
  rw [h, pos_at hy] at h1
  exact (Option.some.inj h1).symm

theorem sub_flat {g : Int → List Int} : ∀ {L : List Int}, (∀ y ∈ L, ∃ t, g y = y :: t) → L.Sublist (L.flatMap g)
  | [], _ => List.Sublist.refl _
  | a :: L, h => by
    obtain ⟨t, ht⟩ := h a (by simp)
    rw [List.flatMap_cons, ht, List.cons_append]
    exact ((sub_flat (fun y hy => h y (by simp [hy]))).trans (List.sublist_append_right t _)).cons_cons a
theorem mem_flat_sub {g : Int → List Int} {y : Int} : ∀ {L : List Int}, y ∈ L → (g y).Sublist (L.flatMap g)
  | a :: L, h => by
    rw [List.flatMap_cons]
    rcases List.mem_cons.mp h with rfl | h
    · exact List.sublist_append_left _ _
    · exact (mem_flat_sub h).trans (List.sublist_append_right _ _)
theorem down_head {ns : List PNode} : ∀ {f k : Nat}, deepOk ns f k → ∃ t, down ns f k = (k : Int) :: t
  | 0, _, h => h.elim
  | f + 1, k, _ => ⟨_, rfl⟩
/-- What stands right below a node comes in its order. -/
theorem kids_sub {ns : List PNode} : ∀ (f k : Nat), deepOk ns f k → ∀ x ∈ down ns f k, (kidsOf ns x.toNat).Sublist (down ns f k)
  | 0, _, h => h.elim
  | f + 1, k, h => fun x hx => by
    rw [down] at hx ⊢
    rcases List.mem_cons.mp hx with rfl | hx
    · rw [Int.toNat_natCast]
      refine List.Sublist.cons _ (sub_flat (fun y hy => ?_))
      obtain ⟨t, ht⟩ := down_head (h.2 y hy).2
      exact ⟨t, by rw [ht, Int.toNat_of_nonneg (h.2 y hy).1]⟩
    · obtain ⟨y, hy, hx⟩ := List.mem_flatMap.mp hx
      exact ((kids_sub f y.toNat (h.2 y hy).2 x hx).trans (mem_flat_sub (g := fun x => down ns f x.toNat) hy)).cons _
theorem split_flat {g : Int → List Int} {x : Int} : ∀ {L l r : List Int}, l ++ x :: r = L.flatMap g → ∃ y ∈ L, ∃ l1 l2 r2, l = l1 ++ l2 ∧ g y = l2 ++ x :: r2
  | [], l, r, h => by simp at h
  | a :: L, l, r, h => by
    rw [List.flatMap_cons] at h
    rcases List.append_eq_append_iff.mp h with ⟨t, h1, h2⟩ | ⟨t, h1, h2⟩
    · cases t with
      | nil =>
        rw [List.append_nil] at h1
        obtain ⟨y, hy, l1, l2, r2, e1, e2⟩ := split_flat (L := L) (l := []) (r := r) (by simpa using h2)
        obtain ⟨rfl, rfl⟩ := List.append_eq_nil_iff.mp e1.symm
        exact ⟨y, by simp [hy], l, [], r2, by simp, e2⟩
      | cons b t =>
        rw [List.cons_append] at h2
        obtain ⟨rfl, _⟩ := List.cons.inj h2
        exact ⟨a, by simp, [], l, t, by simp, h1⟩
    · obtain ⟨y, hy, l1, l2, r2, e1, e2⟩ := split_flat (L := L) (l := t) (r := r) h2.symm
      exact ⟨y, by simp [hy], g a ++ l1, l2, r2, by rw [h1, e1, List.append_assoc], e2⟩
/-- Ahead of a node its parent comes. -/
theorem par_ahead {ns : List PNode} : ∀ (f k : Nat), deepOk ns f k → ∀ l x r, l ++ x :: r = down ns f k → x = (k : Int) ∨ ∃ p ∈ l, x ∈ kidsOf ns p.toNat
  | 0, _, h => h.elim
  | f + 1, k, h => fun l x r e => by
    rw [down] at e
    cases l with
    | nil => exact .inl (List.cons.inj e).1
    | cons a l =>
      rw [List.cons_append] at e
      obtain ⟨rfl, e'⟩ := List.cons.inj e
      obtain ⟨y, hy, l1, l2, r2, rfl, e2⟩ := split_flat e'
      rcases par_ahead f y.toNat (h.2 y hy).2 l2 x r2 e2.symm with rfl | ⟨p, hp, hx⟩
      · refine .inr ⟨(k : Int), by simp, ?_⟩
        rw [Int.toNat_natCast, Int.toNat_of_nonneg (h.2 y hy).1]
        exact hy
      · exact .inr ⟨p, by simp [hp], hx⟩

/-- The nodes that stand below the page, in their order. -/
def allD (ns : List PNode) : List Int := down ns ns.length 0
theorem allD_mem {ns : List PNode} (h : STreeOkP ns) {x : Int} (hx : x ∈ allD ns) : 0 ≤ x ∧ x < ns.length := by
  have h1 := h.1.one
  have := down_dep h.1.fit ns.length 0 0 ⟨by omega, h.2⟩ x hx
  exact ⟨this.1, this.2.1⟩
theorem allD_nodup {ns : List PNode} (h : STreeOkP ns) : (allD ns).Nodup := by
  have h1 := h.1.one
  refine List.nodup_iff_count.mpr (fun x => ?_)
  by_cases hx : x ∈ allD ns
  · obtain ⟨h2, h3, e, he⟩ := down_dep h.1.fit ns.length 0 0 ⟨by omega, h.2⟩ x hx
    have := down_once h.1.fit (d := 0) (f := ns.length) (s := 0) ⟨by omega, h.2⟩ (tree_deep h.1 (by omega)) e x.toNat he
    rw [Int.toNat_of_nonneg h2] at this
    exact this
  · rw [List.count_eq_zero_of_not_mem hx]; omega
theorem allD_head {ns : List PNode} (h : STreeOkP ns) : ∃ t, allD ns = 0 :: t := by
  have h1 := h.1.one
  exact down_head (tree_deep h.1 (by omega))
theorem allD_kids {ns : List PNode} (h : STreeOkP ns) {x : Int} (hx : x ∈ allD ns) : (kidsOf ns x.toNat).Sublist (allD ns) := by
  have h1 := h.1.one
  exact kids_sub _ _ (tree_deep h.1 (by omega)) x hx
theorem allD_par {ns : List PNode} (h : STreeOkP ns) {l r : List Int} {x : Int} (e : l ++ x :: r = allD ns) (h0 : x ≠ 0) : parOf ns x.toNat ∈ l ∧ x ∈ kidsOf ns (parOf ns x.toNat).toNat := by
  have h1 := h.1.one
  rcases par_ahead _ _ (tree_deep h.1 (k := 0) (by omega)) l x r e with rfl | ⟨p, hp, hx⟩
  · exact absurd rfl h0
  · have hf := (fit_kid h.1.fit hx).2.2.2
    have hp0 := allD_mem h (x := p) (by rw [← e]; simp [hp])
    rw [hf, Int.toNat_of_nonneg hp0.1]
    exact ⟨hp, hx⟩
end Go.Proofs.YtogdbjafibejdaaGreat

/- What tidying makes, node by node. No condition. -/
namespace Go.Proofs.YtogdbjafibejdaaGreat
open Go.RowKit
set_option maxRecDepth 100000
set_option linter.unusedVariables false

/-- A node's place, once all is tidied. -/
def plI (ns : List PNode) (x : Int) : Int := (posI (allD ns) x : Int)
def linkN (n : PNode) (par : Int) (ks : List Int) : PNode := ⟨n.kind, n.name, n.attrs, n.text, par, ks⟩
theorem linkN_alone (ns : List PNode) (k : Nat) : linkN (aloneAt ns k) (-1) [] = aloneAt ns k := by
  unfold aloneAt
  cases ns[k]? with
  | none => rfl
  | some a => rfl
/-- The node of x while those of l are tidied. -/
def relN (ns : List PNode) (l : List Int) (x : Int) : PNode :=
  linkN (aloneAt ns x.toNat) (if x = 0 then -1 else plI ns (parOf ns x.toNat)) (((kidsOf ns x.toNat).filter fun y => decide (y ∈ l)).map (plI ns))

/-- The kids that have come, one more behind them. -/
theorem filter_more {K l r : List Int} {x : Int} (hs : K.Sublist (l ++ x :: r)) (hn : (l ++ x :: r).Nodup) (hx : x ∈ K) :
    (K.filter fun y => decide (y ∈ l ++ [x])) = (K.filter fun y => decide (y ∈ l)) ++ [x] := by
  obtain ⟨K1, K2, rfl, h1, h2⟩ := List.sublist_append_iff.mp hs
  have hn' := List.nodup_append.mp hn
  have hxl : x ∉ l := fun hm => hn'.2.2 x hm x (by simp) rfl
  have hxr : x ∉ r := (List.nodup_cons.mp hn'.2.1).1
  have hx2 : x ∈ K2 := by
    rcases List.mem_append.mp hx with hx | hx
    · exact absurd (h1.subset hx) hxl
    · exact hx
  rcases List.sublist_cons_iff.mp h2 with h2 | ⟨K3, rfl, h3⟩
  · exact absurd (h2.subset hx2) hxr
  · have hr : ∀ y ∈ K3, y ∉ l ∧ y ≠ x := fun y hy => ⟨fun hm => hn'.2.2 y hm y (by simp [h3.subset hy]) rfl, fun e => hxr (e ▸ h3.subset hy)⟩
    have e1 : (K1.filter fun y => decide (y ∈ l)) = K1 := List.filter_eq_self.mpr (fun y hy => by simpa using h1.subset hy)
    have e2 : (K1.filter fun y => decide (y ∈ l ++ [x])) = K1 := List.filter_eq_self.mpr (fun y hy => by simp [h1.subset hy])
    have e3 : (K3.filter fun y => decide (y ∈ l)) = [] := List.filter_eq_nil_iff.mpr (fun y hy => by simpa using (hr y hy).1)
    have e4 : (K3.filter fun y => decide (y ∈ l ++ [x])) = [] := List.filter_eq_nil_iff.mpr (fun y hy => by simp [hr y hy])
    rw [List.filter_append, List.filter_append, e1, e2, List.filter_cons, List.filter_cons, e3, e4]
    simp [hxl]
theorem filter_same {K l : List Int} {x : Int} (hx : x ∉ K) : (K.filter fun y => decide (y ∈ l ++ [x])) = (K.filter fun y => decide (y ∈ l)) := by
  refine List.filter_congr (fun y hy => ?_)
  have : y ≠ x := fun e => hx (e ▸ hy)
  simp [this]

theorem hang_last {A : List PNode} {n : PNode} {p : Nat} (hp : p < A.length) (i : Nat) :
    (hangN (A ++ [alone n]) A.length p)[i]? = if i = A.length then some (linkN n (p : Int) []) else if i = p then (A[i]?).map (fun a => setKids a (a.kids ++ [(A.length : Int)])) else A[i]? := by
  have hpar : parOf (A ++ [alone n]) A.length = -1 := by simp [parOf, alone]
  unfold hangN takeN cutN
  rw [if_pos hpar]
  simp only [List.getElem?_modify]
  by_cases h1 : i = A.length
  · subst h1
    have hne : ¬ p = A.length := by omega
    simp [hne, alone, setPar, linkN]
  · by_cases h2 : i < A.length
    · rw [List.getElem?_append_left h2]
      have hne : ¬ A.length = i := by omega
      by_cases h3 : p = i
      · subst h3; simp [h1, hne]
      · have h3' : ¬ i = p := fun e => h3 e.symm
        simp [h1, hne, h3, h3']
    · have : (A ++ [alone n])[i]? = none := List.getElem?_eq_none (by simp; omega)
      rw [this, List.getElem?_eq_none (by omega)]
      simp [h1]

/-- While the nodes are tidied, those told so far are as they will be, but for kids still to come. -/
theorem tidyL_are {ns : List PNode} (h : STreeOkP ns) (l : List Int) : l <+: allD ns → (tidyL ns l).1 = l.map (relN ns l) ∧ ∀ x ∈ l, (tidyL ns l).2.getD x.toNat 0 = plI ns x := by
  have hnd := allD_nodup h
  have h500 := h.1.most
  refine snoc_ind (P := fun l => l <+: allD ns → (tidyL ns l).1 = l.map (relN ns l) ∧ ∀ x ∈ l, (tidyL ns l).2.getD x.toNat 0 = plI ns x) (fun _ => ⟨rfl, fun x hx => by cases hx⟩) ?_ l
  intro l x ih hpre
  obtain ⟨r, hr⟩ := hpre
  have hr' : l ++ x :: r = allD ns := by rw [← hr, List.append_assoc]; rfl
  have hxm : x ∈ allD ns := by rw [← hr']; simp
  obtain ⟨hx0, hx1⟩ := allD_mem h hxm
  have hndl : (l ++ x :: r).Nodup := by rw [hr']; exact hnd
  have hnd' := List.nodup_append.mp hndl
  have hxl : x ∉ l := fun hm => hnd'.2.2 x hm x (by simp) rfl
  have hlm : ∀ y ∈ l, y ∈ allD ns := fun y hy => by rw [← hr']; simp [hy]
  obtain ⟨ih1, ih2⟩ := ih ⟨x :: r, hr'⟩
  have hpx : posI (allD ns) x = l.length := by rw [← hr']; exact pos_app r hxl
  have hlen := tidyL_len ns l
  have hplace : ∀ y ∈ l ++ [x], ((tidyL ns l).2.set x.toNat ((tidyL ns l).1.length : Int)).getD y.toNat 0 = plI ns y := fun y hy => by
    rcases List.mem_append.mp hy with hy | hy
    · have hy0 := allD_mem h (hlm y hy)
      have hne : ¬ x.toNat = y.toNat := fun e => hxl (by rw [show x = y by omega]; exact hy)
      rw [List.getD_eq_getElem?_getD, List.getElem?_set_ne hne, ← List.getD_eq_getElem?_getD]
      exact ih2 y hy
    · rw [List.mem_singleton] at hy
      subst hy
      rw [List.getD_eq_getElem?_getD, List.getElem?_set_self (by rw [hlen.2]; omega), hlen.1, plI, hpx]
      rfl
  -- of x's own kids none has come
  have hkx : ((kidsOf ns x.toNat).filter fun y => decide (y ∈ l ++ [x])) = [] := by
    refine List.filter_eq_nil_iff.mpr (fun z hz => ?_)
    have hz1 := tree_kid h hz
    have hzp := (fit_kid h.1.fit hz).2.2.2
    rw [Int.toNat_of_nonneg hx0] at hzp
    have hsplit : ∀ l1 l2, l1 ++ z :: l2 = l ++ [x] → False := fun l1 l2 e => by
      have e' : l1 ++ z :: (l2 ++ r) = allD ns := by rw [← hr, ← e]; simp
      have hq := (allD_par h e' (by omega)).1
      rw [hzp] at hq
      have : l1.length < (l ++ [x]).length := by rw [← e]; simp
      have hpf : l1 <+: l ++ [x] := ⟨z :: l2, e⟩
      rcases List.prefix_concat_iff.mp (by simpa using hpf) with he | he
      · rw [he] at this; omega
      · exact hxl (he.subset hq)
    intro hc
    have hm : z ∈ l ++ [x] := by simpa using hc
    obtain ⟨l1, l2, e⟩ := List.append_of_mem hm
    exact hsplit l1 l2 e.symm
  have hsnd : (tidyL ns (l ++ [x])).2 = (tidyL ns l).2.set x.toNat ((tidyL ns l).1.length : Int) := by
    rw [tidyL_snoc]; unfold tidyStep; split <;> rfl
  refine ⟨?_, fun y hy => by rw [hsnd]; exact hplace y hy⟩
  rw [tidyL_snoc]
  by_cases h0 : x = 0
  · subst h0
    have hl0 : l = [] := by
      obtain ⟨t, ht⟩ := allD_head h
      cases l with
      | nil => rfl
      | cons a l =>
        exfalso
        rw [ht, List.cons_append] at hr'
        exact hxl (by rw [(List.cons.inj hr').1]; simp)
    subst hl0
    have hk : relN ns [0] 0 = aloneAt ns 0 := by
      unfold relN
      rw [if_pos rfl, show ((kidsOf ns (0 : Int).toNat).filter fun y => decide (y ∈ [(0 : Int)])) = [] from hkx]
      exact linkN_alone ns 0
    simp only [List.nil_append, List.map_cons, List.map_nil, hk]
    rfl
  · obtain ⟨j, rfl⟩ : ∃ j : Nat, x = j := ⟨x.toNat, by omega⟩
    have hj0 : j ≠ 0 := by omega
    obtain ⟨hq, hxq⟩ := allD_par h hr' h0
    rw [Int.toNat_natCast] at *
    rw [tidyStep_pos ns _ hj0]
    have hpl := hplace (parOf ns j) (by simp [hq])
    rw [hpl]
    have hqD := hlm _ hq
    have hqz := allD_mem h hqD
    obtain ⟨q, hqe⟩ : ∃ q, q = parOf ns j := ⟨_, rfl⟩
    rw [← hqe] at hq hqD hqz hxq ⊢
    have hpq : posI (allD ns) q < l.length := by
      have : posI (allD ns) q = posI l q := by
        obtain ⟨l1, l2, e⟩ := List.append_of_mem hq
        have hn1 : q ∉ l1 := fun hm => by
          have := hnd'.1
          rw [e] at this
          exact (List.nodup_append.mp this).2.2 q hm q (by simp) rfl
        rw [← hr', e, List.append_assoc, List.cons_append, pos_app _ hn1, pos_app _ hn1]
      rw [this]
      exact pos_lt hq
    have hjl : j < ns.length := by omega
    rw [aloneAt_at hjl, ih1, show ((plI ns q)).toNat = posI (allD ns) q by simp [plI]]
    have hAl : (l.map (relN ns l)).length = l.length := by simp
    refine List.ext_getElem? (fun i => ?_)
    rw [hAl]
    have hh := hang_last (A := l.map (relN ns l)) (n := ns[j]) (p := posI (allD ns) q) (by rw [hAl]; exact hpq) i
    rw [hAl] at hh
    rw [hh]
    by_cases hi : i = l.length
    · subst hi
      rw [if_pos rfl, List.getElem?_map, List.getElem?_append_right (by omega)]
      simp only [Nat.sub_self, List.getElem?_cons_zero, Option.map_some]
      congr 1
      unfold relN
      rw [if_neg (by omega), Int.toNat_natCast, hkx, aloneAt_at hjl, ← hqe]
      rfl
    · rw [if_neg hi, List.getElem?_map, List.getElem?_map]
      by_cases hil : i < l.length
      · rw [List.getElem?_append_left hil, List.getElem?_eq_getElem hil]
        simp only [Option.map_some]
        have hyl : l[i] ∈ l := List.getElem_mem hil
        obtain ⟨y, hy⟩ : ∃ y, y = l[i] := ⟨_, rfl⟩
        have hyD := hlm _ hyl
        have hyz := allD_mem h hyD
        have hip : posI (allD ns) l[i] = i := pos_get hnd (by rw [← hr', List.getElem?_append_left hil, List.getElem?_eq_getElem hil])
        rw [← hy] at hyl hyD hyz hip ⊢
        by_cases hyq : y = q
        · subst hyq
          rw [if_pos hip.symm]
          congr 1
          unfold relN
          rw [filter_more (by rw [hr']; exact allD_kids h hyD) hndl hxq, List.map_append]
          simp [setKids, linkN, plI, hpx]
        · rw [if_neg (fun e => hyq (pos_inj hyD hqD (by rw [hip, e])))]
          congr 1
          unfold relN
          rw [filter_same (fun hm => hyq (by
            have := (fit_kid h.1.fit hm).2.2.2
            rw [Int.toNat_natCast] at this
            rw [hqe, this, Int.toNat_of_nonneg hyz.1]))]
      · have e1 : (l[i]? : Option Int) = none := List.getElem?_eq_none (by omega)
        have e2 : ((l ++ [(j : Int)])[i]? : Option Int) = none := List.getElem?_eq_none (by simp; omega)
        rw [e1, e2]
        simp
/-- The node of x, once all is tidied. -/
def tidN (ns : List PNode) (x : Int) : PNode := linkN (aloneAt ns x.toNat) (if x = 0 then -1 else plI ns (parOf ns x.toNat)) ((kidsOf ns x.toNat).map (plI ns))
theorem tidyN_are {ns : List PNode} (h : STreeOkP ns) : tidyN ns = (allD ns).map (tidN ns) := by
  rw [tidyN, show down ns ns.length 0 = allD ns from rfl, (tidyL_are h _ (List.prefix_refl _)).1]
  refine List.map_congr_left (fun x hx => ?_)
  unfold relN tidN
  rw [List.filter_eq_self.mpr (fun y hy => by simpa using (allD_kids h hx).subset hy)]
end Go.Proofs.YtogdbjafibejdaaGreat

/- The text below a node to which a text is written, in plain words. No condition. -/
namespace Go.Proofs.YtogdbjafibejdaaGreat
open Go.RowKit
set_option maxRecDepth 100000
set_option linter.unusedVariables false

theorem down_moreN (ns : List PNode) (k : Nat) (s : ByteArray) : ∀ f i, down (moreN ns k s) f i = down ns f i
  | 0, i => rfl
  | f + 1, i => by
    rw [down, down, kidsOf_moreN]
    congr 1
    exact congrArg (fun g => (kidsOf ns i).flatMap g) (funext fun x => down_moreN ns k s f x.toNat)
theorem txAt_moreN {ns : List PNode} {k : Nat} {s : ByteArray} (hk : k < ns.length) (h4 : ns[k].kind = 4) (j : Nat) : txAt (moreN ns k s) j = if k = j then txAt ns j ++ s.data.toList else txAt ns j := by
  by_cases hj : j < ns.length
  · have hj' : j < (moreN ns k s).length := by rw [moreN_len]; exact hj
    rw [txAt_at hj', txAt_at hj]
    by_cases e : k = j
    · subst e
      have : (moreN ns k s)[k] = setText ns[k] (ns[k].text ++ s) := by simp [moreN]
      rw [this]
      simp [txL, setText, h4]
    · have : (moreN ns k s)[j] = ns[j] := by simp [moreN, e]
      rw [this]; simp [e]
  · have hj' : ¬ j < (moreN ns k s).length := by rw [moreN_len]; exact hj
    have e : k ≠ j := by omega
    simp [txAt, e, List.getElem?_eq_none (Nat.le_of_not_lt hj), List.getElem?_eq_none (Nat.le_of_not_lt hj')]
theorem flat_but {L : List Int} {g g' : Int → List UInt8} (h : ∀ x ∈ L, g' x = g x) : L.flatMap g' = L.flatMap g := by
  induction L with
  | nil => rfl
  | cons a l ih => rw [List.flatMap_cons, List.flatMap_cons, h a (by simp), ih (fun x hx => h x (by simp [hx]))]

/-- More at the end of the last text below p. -/
theorem text_more {ns : List PNode} (h : TreeOkP ns) {p k : Nat} (hp : p < ns.length) (hl : LastT ns p k) (s : ByteArray) : textL (moreN ns k s) ns.length p = textL ns ns.length p ++ s.data.toList := by
  obtain ⟨pre, hkids, hk, h4⟩ := hl
  have h1 := h.one
  obtain ⟨f, hf⟩ : ∃ f, ns.length = f + 1 := ⟨ns.length - 1, by omega⟩
  have hkk : kidsOf ns k = [] := by
    have hg := h.good k hk
    unfold goodB nodeB at hg
    simp only [h4] at hg
    simp at hg
    rw [kidsOf_at hk]
    exact hg.2.2
  have hmem : (k : Int) ∈ kidsOf ns p := by rw [hkids]; simp
  obtain ⟨dp, hdp⟩ := h.linked p hp
  have hdk : dep ns (dp + 1) k := ⟨p, hdp, hmem⟩
  have hlt := dep_lt h.fit hdk
  obtain ⟨f', hf'⟩ : ∃ f', f = f' + 1 := ⟨f - 1, by omega⟩
  have hdn : down ns ns.length p = ((p : Int) :: pre.flatMap fun x => down ns f x.toNat) ++ [(k : Int)] := by
    rw [hf, down, hkids, List.flatMap_append]
    simp [hf', down, hkk]
  have hc := down_once h.fit hdp (tree_deep h hp) (dp + 1) k hdk
  rw [hdn, List.count_append] at hc
  simp only [List.count_singleton_self] at hc
  have hnot : (k : Int) ∉ ((p : Int) :: pre.flatMap fun x => down ns f x.toNat) := fun hm => by
    have := List.count_pos_iff.mpr hm
    omega
  rw [text_down, text_down, down_moreN, hdn, List.flatMap_append, List.flatMap_append]
  rw [flat_but (g := fun x => txAt ns x.toNat) (fun x hx => by
    rw [txAt_moreN hk h4]
    rw [if_neg]
    intro e
    obtain ⟨hx0, _⟩ := down_deeper h.fit ns.length dp p hdp x (by rw [hdn]; exact List.mem_append_left _ hx)
    exact hnot (by rw [show (k : Int) = x by omega]; exact hx))]
  simp only [List.flatMap_cons, List.flatMap_nil, List.append_nil, Int.toNat_natCast]
  rw [txAt_moreN hk h4, if_pos rfl]
  simp only [List.append_assoc]

theorem kidsOf_newN {ns : List PNode} (h : STreeOkP ns) {p : Nat} (hp : p < ns.length) {s : ByteArray} (ht : STreeOkP (ns ++ [txtN s])) (j : Nat) : kidsOf (newN ns p s) j = if p = j then kidsOf ns j ++ [(ns.length : Int)] else kidsOf ns j := by
  have hl : lessL (ns.length : Int) (kidsOf ns j) = kidsOf ns j := lessL_not (fun hm => by have := (fit_kid h.1.fit hm).2.2.1; omega)
  unfold newN
  rw [kidsOf_hangN ht (by simp) (by simp; omega), kidsOf_snoc rfl, hl]
theorem txAt_bare {ns ms : List PNode} {j : Nat} (h : bareAt ms j = bareAt ns j) : txAt ms j = txAt ns j := by
  unfold bareAt at h
  unfold txAt
  cases e1 : ms[j]? with
  | none =>
    cases e2 : ns[j]? with
    | none => rfl
    | some b => rw [e1, e2] at h; simp at h
  | some a =>
    cases e2 : ns[j]? with
    | none => rw [e1, e2] at h; simp at h
    | some b =>
      rw [e1, e2] at h
      simp [bareOf] at h
      simp [txL, h]
theorem txAt_newN (ns : List PNode) (p : Nat) (s : ByteArray) (j : Nat) : txAt (newN ns p s) j = if j = ns.length then s.data.toList else txAt ns j := by
  rw [newN, txAt_bare (bareAt_hangN _ _ _ _)]
  unfold txAt
  by_cases e : j < ns.length
  · rw [List.getElem?_append_left e, if_neg (by omega)]
  · by_cases e2 : j = ns.length
    · subst e2; simp [txL, txtN]
    · rw [if_neg e2, List.getElem?_eq_none (by simp; omega), List.getElem?_eq_none (by omega)]
theorem text_far {ns : List PNode} (h : STreeOkP ns) {p : Nat} (hp : p < ns.length) {s : ByteArray} (ht : STreeOkP (ns ++ [txtN s])) : ∀ g i, i < ns.length → (p : Int) ∉ down ns g i → textL (newN ns p s) g i = textL ns g i
  | 0, i, _, _ => rfl
  | g + 1, i, hi, hn => by
    rw [down] at hn
    have hne : p ≠ i := fun e => hn (by simp [e])
    rw [textL, textL, kidsOf_newN h hp ht, if_neg hne, txAt_newN, if_neg (by omega)]
    congr 1
    refine flat_but (fun x hx => ?_)
    obtain ⟨h1, h2, h3, _⟩ := fit_kid h.1.fit hx
    exact text_far h hp ht g x.toNat (by omega) (fun hm => hn (List.mem_cons_of_mem _ (List.mem_flatMap.mpr ⟨x, hx, hm⟩)))
/-- A new text below p. -/
theorem text_new {ns : List PNode} (h : STreeOkP ns) {p : Nat} (hp : p < ns.length) {s : ByteArray} (hs : empB s = false) (hu : utfOk (bs s) = true) (hl : ns.length < 500) : textL (newN ns p s) (ns.length + 1) p = textL ns ns.length p ++ s.data.toList := by
  have ht0 : TreeOkP (ns ++ [txtN s]) := tree_snoc h.1 rfl rfl (by show (4 : Int) ≠ 1; decide) (by simp [nodeB, txtN, hs, hu]; exact (empB_iff _).mpr rfl) hl
  have ht : STreeOkP (ns ++ [txtN s]) := ⟨ht0, by rw [parOf_snoc rfl]; exact h.2⟩
  have h1 := h.1.one
  obtain ⟨f, hf⟩ : ∃ f, ns.length = f + 1 := ⟨ns.length - 1, by omega⟩
  obtain ⟨dp, hdp⟩ := h.1.linked p hp
  have hdeep := tree_deep h.1 hp
  rw [textL, kidsOf_newN h hp ht, if_pos rfl, txAt_newN, if_neg (by omega), List.flatMap_append]
  have e1 : (kidsOf ns p).flatMap (fun x => textL (newN ns p s) ns.length x.toNat) = (kidsOf ns p).flatMap (fun x => textL ns f x.toNat) := by
    refine flat_but (fun x hx => ?_)
    obtain ⟨g1, g2, g3, g4⟩ := fit_kid h.1.fit hx
    have hdx : dep ns (dp + 1) x.toNat := ⟨p, hdp, by rw [Int.toNat_of_nonneg g2]; exact hx⟩
    rw [text_far h hp ht ns.length x.toNat (by omega) (fun hm => by
      obtain ⟨_, e, he, hde⟩ := down_deeper h.1.fit ns.length (dp + 1) x.toNat hdx _ hm
      have := dep_uniq h.1.fit e dp p (by simpa using hde) hdp
      omega)]
    rw [hf] at hdeep
    exact text_deep f ns.length x.toNat (by omega) (hdeep.2 x hx).2
  have e2 : textL (newN ns p s) ns.length ns.length = s.data.toList := by
    conv => lhs; rw [hf, textL]
    rw [← hf, kidsOf_newN h hp ht, if_neg (by omega), kidsOf_out (by omega), txAt_newN, if_pos rfl]
    simp
  rw [e1]
  simp only [List.flatMap_cons, List.flatMap_nil, List.append_nil, Int.toNat_natCast]
  rw [e2]
  conv => rhs; rw [hf, textL]
  simp only [List.append_assoc]
end Go.Proofs.YtogdbjafibejdaaGreat

/- A page to which a node is hung, or a text written, is printed so behind all, in plain words. No condition. -/
namespace Go.Proofs.YtogdbjafibejdaaGreat
open Go.RowKit
set_option maxRecDepth 100000
set_option linter.unusedVariables false

theorem nodeL_bare {n m : PNode} (h : bareOf m = bareOf n) (up : ByteArray) (inner : List UInt8) : nodeL up m inner = nodeL up n inner := by
  obtain ⟨a, b, c, d, e, f⟩ := n
  obtain ⟨a', b', c', d', e', f'⟩ := m
  simp only [bareOf, Prod.mk.injEq] at h
  obtain ⟨rfl, rfl, rfl, rfl⟩ := h
  rfl
theorem ndAt_bare {ns ms : List PNode} {j : Nat} (h : bareAt ms j = bareAt ns j) : bareOf (ndAt ms j) = bareOf (ndAt ns j) := by
  unfold bareAt at h
  unfold ndAt
  cases e1 : ms[j]? with
  | none =>
    cases e2 : ns[j]? with
    | none => rfl
    | some b => rw [e1, e2] at h; simp at h
  | some a =>
    cases e2 : ns[j]? with
    | none => rw [e1, e2] at h; simp at h
    | some b =>
      rw [e1, e2] at h
      simpa using h
theorem bare_name {n m : PNode} (h : bareOf m = bareOf n) : m.name = n.name := by
  simp only [bareOf, Prod.mk.injEq] at h
  exact h.2.1
/-- Below nodes of which all is the same, the same is printed. -/
theorem print_same {ns ms : List PNode} (P : Nat → Prop) (hP : ∀ i, P i → kidsOf ms i = kidsOf ns i ∧ bareAt ms i = bareAt ns i ∧ ∀ x ∈ kidsOf ns i, P x.toNat) : ∀ f i, P i → printL ms f i = printL ns f i
  | 0, _, _ => rfl
  | f + 1, i, h => by
    obtain ⟨h1, h2, h3⟩ := hP i h
    rw [printL, printL, h1, bare_name (ndAt_bare h2)]
    refine flat_same fun x hx => ?_
    rw [print_same P hP f x.toNat (h3 x hx), nodeL_bare (ndAt_bare (hP _ (h3 x hx)).2.1)]

theorem bareAt_left {ns : List PNode} {nd : PNode} {j : Nat} (h : j < ns.length) : bareAt (ns ++ [nd]) j = bareAt ns j := by
  unfold bareAt; rw [List.getElem?_append_left h]

theorem print_hang0 {ns : List PNode} (h : STreeOkP ns) {nd : PNode} (hk : nd.kids = []) (hp : nd.parent = -1) (ht : STreeOkP (ns ++ [nd])) :
    printL (hangN (ns ++ [nd]) ns.length 0) (ns.length + 1) 0 = printL ns ns.length 0 ++ nodeL (ndAt ns 0).name nd [] := by
  have h1 := h.1.one
  obtain ⟨ms, hms⟩ : ∃ ms, ms = hangN (ns ++ [nd]) ns.length 0 := ⟨_, rfl⟩
  have hkm : ∀ j, kidsOf ms j = if 0 = j then kidsOf ns j ++ [(ns.length : Int)] else kidsOf ns j := fun j => by
    have hl : lessL (ns.length : Int) (kidsOf ns j) = kidsOf ns j := lessL_not (fun hm => by have := (fit_kid h.1.fit hm).2.2.1; omega)
    rw [hms, kidsOf_hangN ht (by simp) (by simp), kidsOf_snoc hk, hl]
  have hbm : ∀ j, bareAt ms j = bareAt (ns ++ [nd]) j := fun j => by rw [hms, bareAt_hangN]
  have hb : ∀ j, j < ns.length → bareAt ms j = bareAt ns j := fun j hj => by rw [hbm, bareAt_left hj]
  have hsame := print_same (ns := ns) (ms := ms) (fun i => i < ns.length ∧ i ≠ 0) (fun i hi => ⟨by rw [hkm, if_neg (by omega)], hb i hi.1, fun x hx => by have := tree_kid h hx; constructor <;> omega⟩)
  rw [← hms]
  obtain ⟨f, hf⟩ : ∃ f, ns.length = f + 1 := ⟨ns.length - 1, by omega⟩
  have hdeep := tree_deep h.1 (k := 0) (by omega)
  rw [printL, hkm, if_pos rfl, List.flatMap_append, bare_name (ndAt_bare (hb 0 (by omega)))]
  have e1 : (kidsOf ns 0).flatMap (fun x => nodeL (ndAt ns 0).name (ndAt ms x.toNat) (printL ms ns.length x.toNat)) = printL ns ns.length 0 := by
    conv => rhs; rw [hf, printL]
    refine flat_same fun x hx => ?_
    have hx1 := tree_kid h hx
    rw [hsame _ _ ⟨by omega, by omega⟩, nodeL_bare (ndAt_bare (hb _ (by omega)))]
    rw [hf] at hdeep
    rw [hf, print_deep ns f (f + 1) x.toNat (by omega) (hdeep.2 x hx).2]
  rw [e1]
  congr 1
  simp only [List.flatMap_cons, List.flatMap_nil, List.append_nil, Int.toNat_natCast]
  have e2 : printL ms ns.length ns.length = [] := by
    conv => lhs; rw [hf, printL]
    rw [← hf, hkm, if_neg (by omega), kidsOf_out (by omega)]
    rfl
  have e3 : bareOf (ndAt ms ns.length) = bareOf nd := by
    rw [ndAt_bare (hbm ns.length)]
    simp [ndAt]
  rw [e2, nodeL_bare e3]

theorem esc_app (v : Bool) (s : List UInt8) (hs : s.head? ≠ some 160) : ∀ (n : Nat) (t : List UInt8), t.length ≤ n → esc v (t ++ s) = esc v t ++ esc v s := by
  intro n
  induction n with
  | zero => intro t h; have : t = [] := List.length_eq_zero_iff.mp (by omega); subst this; simp [esc]
  | succ n ih =>
    intro t h
    cases t with
    | nil => simp [esc]
    | cons b r =>
      by_cases hb : b = 194 ∧ r.head? = some 160
      · obtain ⟨rfl, hr⟩ := hb
        cases r with
        | nil => cases hr
        | cons c r =>
          simp only [List.head?_cons, Option.some.injEq] at hr
          subst hr
          rw [List.cons_append, List.cons_append, esc_hard, esc_hard, ih r (by simp at h; omega), List.append_assoc]
      · rw [List.cons_append, esc_cons v b r hb, esc_cons v b (r ++ s), ih r (by simpa using h), List.append_assoc]
        rintro ⟨rfl, e⟩
        cases r with
        | nil => exact hs (by simpa using e)
        | cons c r => exact hb ⟨rfl, by simpa using e⟩

theorem page_name {ns : List PNode} (h : TreeOkP ns) : hasB raws (ndAt ns 0).name = false := by
  have h1 := h.one
  have hg := h.good 0 (by omega)
  rw [ndAt_at (by omega)]
  unfold goodB at hg
  rw [Bool.and_eq_true] at hg
  have hk : ns[0].kind = 1 := by simpa using hg.1
  have hn := hg.2
  unfold nodeB at hn
  simp only [hk] at hn
  simp at hn
  have h0 : ns[0].name.size = 0 := (empB_iff _).mp (by simpa using hn.1.1)
  refine hasB_no (fun hm => ?_)
  have : ∀ t ∈ raws, t.size ≠ 0 := by decide
  exact this _ hm h0

theorem print_more0 {ns : List PNode} (h : STreeOkP ns) {k : Nat} (hl : LastT ns 0 k) (s : ByteArray) (hs : s.data.toList.head? ≠ some 160) :
    printL (moreN ns k s) ns.length 0 = printL ns ns.length 0 ++ esc false s.data.toList := by
  have h1 := h.1.one
  obtain ⟨pre, hkids, hk, h4⟩ := hl
  have hmem : (k : Int) ∈ kidsOf ns 0 := by rw [hkids]; simp
  have hfk := fit_kid h.1.fit hmem
  rw [Int.toNat_natCast] at hfk
  have hk1 := tree_kid h hmem
  have hb : ∀ j, j ≠ k → bareAt (moreN ns k s) j = bareAt ns j := fun j hj => by
    unfold bareAt moreN
    rw [List.getElem?_modify]
    simp [show ¬ k = j from fun e => hj e.symm]
  have hsame := print_same (ns := ns) (ms := moreN ns k s) (fun i => i ≠ 0 ∧ i ≠ k) (fun i hi => ⟨kidsOf_moreN _ _ _ _, hb i hi.2, fun x hx => by
    have h3 := tree_kid h hx
    refine ⟨by omega, fun e => ?_⟩
    have h5 := (fit_kid h.1.fit hx).2.2.2
    rw [e, hfk.2.2.2] at h5
    omega⟩)
  have hkk : kidsOf ns k = [] := by
    have hg := h.1.good k hk
    unfold goodB nodeB at hg
    simp only [h4] at hg
    simp at hg
    rw [kidsOf_at hk]
    exact hg.2.2
  obtain ⟨f, hf⟩ : ∃ f, ns.length = f + 1 := ⟨ns.length - 1, by omega⟩
  have hnd := (h.1.fit 0 (by omega)).1
  rw [hkids] at hnd
  have hnot : (k : Int) ∉ pre := fun hm => by
    have := (List.nodup_append.mp hnd).2.2 _ hm _ (List.mem_singleton_self _)
    exact this rfl
  rw [hf, printL, printL, kidsOf_moreN, hkids, List.flatMap_append, List.flatMap_append, bare_name (ndAt_bare (hb 0 (by omega))), List.append_assoc]
  congr 1
  · refine flat_same fun x hx => ?_
    have hx1 := tree_kid h (k := 0) (x := x) (by rw [hkids]; exact List.mem_append_left _ hx)
    have hxk : x.toNat ≠ k := fun e => hnot (by rw [show (k : Int) = x by omega]; exact hx)
    rw [hsame _ _ ⟨by omega, hxk⟩, nodeL_bare (ndAt_bare (hb _ hxk))]
  · simp only [List.flatMap_cons, List.flatMap_nil, List.append_nil, Int.toNat_natCast]
    have hpn := page_name h.1
    have hmk : k < (moreN ns k s).length := by rw [moreN_len]; exact hk
    have hat : (moreN ns k s)[k] = setText ns[k] (ns[k].text ++ s) := by simp [moreN]
    rw [ndAt_at hmk, hat, ndAt_at hk]
    have hda : (ns[k].text ++ s).data.toList = ns[k].text.data.toList ++ s.data.toList := by simp
    simp only [nodeL, setText, h4, hpn, hda]
    simp [esc_app false _ hs _ _ (Nat.le_refl _)]
end Go.Proofs.YtogdbjafibejdaaGreat

/- A tidied tree: right, in order, the same tidied again, with the same text and page. No condition. -/
namespace Go.Proofs.YtogdbjafibejdaaGreat
open Go.RowKit
set_option maxRecDepth 100000
set_option linter.unusedVariables false

theorem down_deep {ns : List PNode} : ∀ (f g k : Nat), f ≤ g → deepOk ns f k → down ns g k = down ns f k
  | 0, _, _, _, h => h.elim
  | f + 1, 0, _, h, _ => by omega
  | f + 1, g + 1, k, hfg, h => by
    rw [down, down]
    congr 1
    have : ∀ (l : List Int), (∀ x ∈ l, down ns g x.toNat = down ns f x.toNat) → l.flatMap (fun x => down ns g x.toNat) = l.flatMap (fun x => down ns f x.toNat) := fun l hl => by
      induction l with
      | nil => rfl
      | cons a l ih => rw [List.flatMap_cons, List.flatMap_cons, hl a (by simp), ih (fun x hx => hl x (by simp [hx]))]
    exact this _ fun x hx => down_deep f g x.toNat (by omega) (h.2 x hx).2

theorem bare2 {ns ms : List PNode} {i j : Nat} (h : bareAt ms i = bareAt ns j) : (ms[i]? = none ∧ ns[j]? = none) ∨ ∃ a b, ms[i]? = some a ∧ ns[j]? = some b ∧ bareOf a = bareOf b := by
  unfold bareAt at h
  cases e1 : ms[i]? with
  | none =>
    cases e2 : ns[j]? with
    | none => exact .inl ⟨rfl, rfl⟩
    | some b => rw [e1, e2] at h; simp at h
  | some a =>
    cases e2 : ns[j]? with
    | none => rw [e1, e2] at h; simp at h
    | some b => rw [e1, e2] at h; exact .inr ⟨a, b, rfl, rfl, by simpa using h⟩
theorem txAt_bare2 {ns ms : List PNode} {i j : Nat} (h : bareAt ms i = bareAt ns j) : txAt ms i = txAt ns j := by
  unfold txAt
  rcases bare2 h with ⟨e1, e2⟩ | ⟨a, b, e1, e2, e3⟩
  · rw [e1, e2]
  · rw [e1, e2]
    simp only [bareOf, Prod.mk.injEq] at e3
    simp [txL, e3]
theorem ndAt_bare2 {ns ms : List PNode} {i j : Nat} (h : bareAt ms i = bareAt ns j) : bareOf (ndAt ms i) = bareOf (ndAt ns j) := by
  unfold ndAt
  rcases bare2 h with ⟨e1, e2⟩ | ⟨a, b, e1, e2, e3⟩
  · rw [e1, e2]
  · rw [e1, e2]; exact e3
section
variable {ns : List PNode}
theorem tid_len (h : STreeOkP ns) : (tidyN ns).length = (allD ns).length := by rw [tidyN_are h, List.length_map]
theorem tid_few (h : STreeOkP ns) : (tidyN ns).length ≤ ns.length := by
  rw [tid_len h]
  have := h.1.one
  exact down_few h.1 (by omega)
theorem tid_at (h : STreeOkP ns) {x : Int} (hx : x ∈ allD ns) : (tidyN ns)[posI (allD ns) x]? = some (tidN ns x) := by
  rw [tidyN_are h, List.getElem?_map, pos_at hx]; rfl
theorem tid_lt (h : STreeOkP ns) {x : Int} (hx : x ∈ allD ns) : posI (allD ns) x < (tidyN ns).length := by rw [tid_len h]; exact pos_lt hx
theorem tid_of (h : STreeOkP ns) {i : Nat} (hi : i < (tidyN ns).length) : ∃ x ∈ allD ns, posI (allD ns) x = i := by
  rw [tid_len h] at hi
  exact ⟨(allD ns)[i], List.getElem_mem hi, pos_get (allD_nodup h) (List.getElem?_eq_getElem hi)⟩
theorem tid_kids (h : STreeOkP ns) {x : Int} (hx : x ∈ allD ns) : kidsOf (tidyN ns) (posI (allD ns) x) = (kidsOf ns x.toNat).map (plI ns) := by
  unfold kidsOf at *
  rw [tid_at h hx]; rfl
theorem tid_par (h : STreeOkP ns) {x : Int} (hx : x ∈ allD ns) : parOf (tidyN ns) (posI (allD ns) x) = if x = 0 then -1 else plI ns (parOf ns x.toNat) := by
  unfold parOf
  rw [tid_at h hx]; rfl
theorem tid_bare (h : STreeOkP ns) {x : Int} (hx : x ∈ allD ns) : bareAt (tidyN ns) (posI (allD ns) x) = bareAt ns x.toNat := by
  have hm := allD_mem h hx
  have hl : x.toNat < ns.length := by omega
  unfold bareAt
  rw [tid_at h hx, List.getElem?_eq_getElem hl]
  simp only [Option.map_some, tidN, aloneAt_at hl]
  rfl
theorem tid_kid (h : STreeOkP ns) {x y : Int} (hx : x ∈ allD ns) (hy : y ∈ kidsOf ns x.toNat) : y ∈ allD ns := (allD_kids h hx).subset hy
theorem tid_zero (h : STreeOkP ns) : (0 : Int) ∈ allD ns ∧ posI (allD ns) 0 = 0 := by
  obtain ⟨t, ht⟩ := allD_head h
  rw [ht]
  exact ⟨by simp, by simp [posI]⟩
/-- A node's parent comes ahead of it. -/
theorem tid_ahead (h : STreeOkP ns) {x : Int} (hx : x ∈ allD ns) (h0 : x ≠ 0) : parOf ns x.toNat ∈ allD ns ∧ posI (allD ns) (parOf ns x.toNat) < posI (allD ns) x ∧ x ∈ kidsOf ns (parOf ns x.toNat).toNat := by
  obtain ⟨l, r, e⟩ := List.append_of_mem hx
  obtain ⟨hp, hk⟩ := allD_par h e.symm h0
  have hnd := allD_nodup h
  rw [e] at hnd
  have hnd' := List.nodup_append.mp hnd
  have hxl : x ∉ l := fun hm => hnd'.2.2 x hm x (by simp) rfl
  refine ⟨by rw [e]; simp [hp], ?_, hk⟩
  have h1 : posI (allD ns) x = l.length := by rw [e]; exact pos_app r hxl
  obtain ⟨l1, l2, e2⟩ := List.append_of_mem hp
  have hn1 : parOf ns x.toNat ∉ l1 := fun hm => by
    have := hnd'.1
    rw [e2] at this
    exact (List.nodup_append.mp this).2.2 _ hm _ (by simp) rfl
  have h2 : posI (allD ns) (parOf ns x.toNat) = l1.length := by
    conv => lhs; rw [e, e2, List.append_assoc, List.cons_append]
    exact pos_app _ hn1
  rw [h1, h2, e2]
  simp

theorem tid_dep (h : STreeOkP ns) : ∀ (d : Nat) (x : Int), x ∈ allD ns → dep ns d x.toNat → dep (tidyN ns) d (posI (allD ns) x)
  | 0, x, hx, hd => by
    have h0 : x = 0 := by
      apply Classical.byContradiction
      intro h0
      have hp := (tid_ahead h hx h0).1
      have := allD_mem h hp
      rw [hd.2] at this
      omega
    refine ⟨tid_lt h hx, ?_⟩
    rw [tid_par h hx, if_pos h0]
  | d + 1, x, hx, hd => by
    obtain ⟨p, hp, hk⟩ := hd
    have hm := allD_mem h hx
    rw [Int.toNat_of_nonneg hm.1] at hk
    have hf := fit_kid h.1.fit hk
    have h0 : x ≠ 0 := by have := tree_kid h hk; omega
    have hpa := tid_ahead h hx h0
    rw [hf.2.2.2] at hpa
    refine ⟨posI (allD ns) (p : Int), tid_dep h d _ hpa.1 (by rw [Int.toNat_natCast]; exact hp), ?_⟩
    rw [tid_kids h hpa.1, Int.toNat_natCast]
    exact List.mem_map.mpr ⟨x, hk, rfl⟩

/-- A tidied tree is right. -/
theorem tid_ok (h : STreeOkP ns) : STreeOkP (tidyN ns) := by
  have hz := tid_zero h
  have hp0 : parOf (tidyN ns) 0 = -1 := by
    have := tid_par h hz.1
    rwa [hz.2, if_pos rfl] at this
  refine ⟨⟨?_, Nat.le_trans (tid_few h) h.1.most, fun k hk => ?_, fun k hk => ?_, fun i hi => ?_⟩, hp0⟩
  · have := tid_lt h hz.1; omega
  · obtain ⟨x, hx, rfl⟩ := tid_of h hk
    have hm := allD_mem h hx
    have hl : x.toNat < ns.length := by omega
    have hg := h.1.good x.toNat hl
    have hb : bareOf (tidyN ns)[posI (allD ns) x] = bareOf ns[x.toNat] := by
      have := tid_bare h hx
      unfold bareAt at this
      rw [List.getElem?_eq_getElem hk, List.getElem?_eq_getElem hl] at this
      simpa using this
    have hkl : (tidyN ns)[posI (allD ns) x].kids.length = ns[x.toNat].kids.length := by
      rw [← kidsOf_at hk, tid_kids h hx, List.length_map, kidsOf_at hl]
    have hpz : (posI (allD ns) x = 0) ↔ (x.toNat = 0) := by
      constructor
      · intro e
        have := pos_inj hx hz.1 (by rw [e, hz.2])
        omega
      · intro e
        have : x = 0 := by omega
        rw [this]; exact hz.2
    unfold goodB at hg ⊢
    simp only [bareOf, Prod.mk.injEq] at hb
    rw [hb.1, hb.2.1, hb.2.2.1, hb.2.2.2, hkl]
    simpa [hpz] using hg
  · obtain ⟨x, hx, rfl⟩ := tid_of h hk
    rw [tid_kids h hx]
    have hm := allD_mem h hx
    refine ⟨?_, fun y hy => ?_⟩
    · have hnd := (h.1.fit x.toNat (by omega)).1
      rw [List.nodup_iff_pairwise_ne] at hnd ⊢
      refine List.Pairwise.map _ (R := fun a b => a ≠ b ∧ a ∈ allD ns ∧ b ∈ allD ns) (fun a b hab e => ?_) ?_
      · exact hab.1 (pos_inj hab.2.1 hab.2.2 (by unfold plI at e; omega))
      · refine hnd.imp_of_mem (fun {a b} ha hb hab => ⟨hab, tid_kid h hx ha, tid_kid h hx hb⟩)
    · obtain ⟨z, hz', rfl⟩ := List.mem_map.mp hy
      have hzD := tid_kid h hx hz'
      have hzl := tid_lt h hzD
      have hz1 := tree_kid h hz'
      have hzp := (fit_kid h.1.fit hz').2.2.2
      refine ⟨by unfold plI; omega, by unfold plI; omega, ?_⟩
      have : (plI ns z).toNat = posI (allD ns) z := by simp [plI]
      rw [this, tid_par h hzD, if_neg (by omega), hzp, Int.toNat_of_nonneg hm.1]
      rfl
  · obtain ⟨x, hx, rfl⟩ := tid_of h hi
    obtain ⟨d, hd⟩ := h.1.linked x.toNat (by have := allD_mem h hx; omega)
    exact ⟨d, tid_dep h d x hx hd⟩

theorem tid_deep (h : STreeOkP ns) : ∀ (f : Nat) (x : Int), x ∈ allD ns → deepOk (tidyN ns) f (posI (allD ns) x) → deepOk ns f x.toNat
  | 0, _, _, hd => hd.elim
  | f + 1, x, hx, hd => by
    refine ⟨by have := allD_mem h hx; omega, fun y hy => ?_⟩
    have hyD := tid_kid h hx hy
    have := hd.2 (plI ns y) (by rw [tid_kids h hx]; exact List.mem_map.mpr ⟨y, hy, rfl⟩)
    rw [show (plI ns y).toNat = posI (allD ns) y by simp [plI]] at this
    exact ⟨(allD_mem h hyD).1, tid_deep h f y hyD this.2⟩
theorem flat_map {L : List Int} {g : Int → List Int} {g' : Int → List Int} {p : Int → Int} (h : ∀ x ∈ L, g' (p x) = (g x).map p) : (L.map p).flatMap g' = (L.flatMap g).map p := by
  induction L with
  | nil => rfl
  | cons a l ih => rw [List.map_cons, List.flatMap_cons, List.flatMap_cons, List.map_append, h a (by simp), ih (fun x hx => h x (by simp [hx]))]
theorem flat_mapB {L : List Int} {g g' : Int → List UInt8} {p : Int → Int} (h : ∀ x ∈ L, g' (p x) = g x) : (L.map p).flatMap g' = L.flatMap g := by
  induction L with
  | nil => rfl
  | cons a l ih => rw [List.map_cons, List.flatMap_cons, List.flatMap_cons, h a (by simp), ih (fun x hx => h x (by simp [hx]))]
theorem plI_nat (ns : List PNode) (x : Int) : (plI ns x).toNat = posI (allD ns) x := by simp [plI]
theorem tid_down (h : STreeOkP ns) : ∀ (f : Nat) (x : Int), x ∈ allD ns → down (tidyN ns) f (posI (allD ns) x) = (down ns f x.toNat).map (plI ns)
  | 0, _, _ => rfl
  | f + 1, x, hx => by
    rw [down, down, tid_kids h hx, List.map_cons, Int.toNat_of_nonneg (allD_mem h hx).1]
    congr 1
    exact flat_map (fun y hy => by rw [plI_nat]; exact tid_down h f y (tid_kid h hx hy))
theorem tid_text (h : STreeOkP ns) : ∀ (f : Nat) (x : Int), x ∈ allD ns → textL (tidyN ns) f (posI (allD ns) x) = textL ns f x.toNat
  | 0, _, _ => rfl
  | f + 1, x, hx => by
    rw [textL, textL, tid_kids h hx, txAt_bare2 (tid_bare h hx)]
    congr 1
    exact flat_mapB (fun y hy => by rw [plI_nat]; exact tid_text h f y (tid_kid h hx hy))
theorem tid_print (h : STreeOkP ns) : ∀ (f : Nat) (x : Int), x ∈ allD ns → printL (tidyN ns) f (posI (allD ns) x) = printL ns f x.toNat
  | 0, _, _ => rfl
  | f + 1, x, hx => by
    rw [printL, printL, tid_kids h hx, bare_name (ndAt_bare2 (tid_bare h hx))]
    refine flat_mapB (fun y hy => ?_)
    have hyD := tid_kid h hx hy
    rw [plI_nat, tid_print h f y hyD, nodeL_bare (ndAt_bare2 (tid_bare h hyD))]

theorem tid_deep0 (h : STreeOkP ns) : deepOk ns (tidyN ns).length 0 := by
  have hz := tid_zero h
  have h1 := (tid_ok h).1.one
  have hd := tree_deep (tid_ok h).1 (k := 0) (by omega)
  rw [← hz.2] at hd
  exact tid_deep h _ 0 hz.1 hd
/-- The text of a tidied tree. -/
theorem tid_text0 (h : STreeOkP ns) : textL (tidyN ns) (tidyN ns).length 0 = textL ns ns.length 0 := by
  have hz := tid_zero h
  have := tid_text h (tidyN ns).length 0 hz.1
  rw [hz.2] at this
  rw [this]
  exact (text_deep _ _ 0 (tid_few h) (tid_deep0 h)).symm
theorem tid_print0 (h : STreeOkP ns) : printL (tidyN ns) (tidyN ns).length 0 = printL ns ns.length 0 := by
  have hz := tid_zero h
  have := tid_print h (tidyN ns).length 0 hz.1
  rw [hz.2] at this
  rw [this]
  exact (print_deep ns _ _ 0 (tid_few h) (tid_deep0 h)).symm
theorem tid_all (h : STreeOkP ns) : allD (tidyN ns) = (allD ns).map (plI ns) := by
  have hz := tid_zero h
  have := tid_down h (tidyN ns).length 0 hz.1
  rw [hz.2] at this
  unfold allD
  rw [this]
  congr 1
  exact (down_deep _ _ 0 (tid_few h) (tid_deep0 h)).symm
theorem tid_all_at (h : STreeOkP ns) {i : Nat} (hi : i < (tidyN ns).length) : (allD (tidyN ns))[i]? = some (i : Int) := by
  obtain ⟨x, hx, rfl⟩ := tid_of h hi
  rw [tid_all h, List.getElem?_map, pos_at hx]
  rfl
theorem tid_pl (h : STreeOkP ns) {i : Nat} (hi : i < (tidyN ns).length) : plI (tidyN ns) (i : Int) = i := by
  unfold plI
  rw [pos_get (allD_nodup (tid_ok h)) (tid_all_at h hi)]
/-- Tidied twice is tidied once. -/
theorem tid_again (h : STreeOkP ns) : tidyN (tidyN ns) = tidyN ns := by
  have ho := tid_ok h
  rw [tidyN_are ho]
  have hl : (allD (tidyN ns)).length = (tidyN ns).length := by rw [tid_all h, List.length_map, tid_len h]
  refine List.ext_getElem? (fun i => ?_)
  rw [List.getElem?_map]
  by_cases hi : i < (tidyN ns).length
  · rw [tid_all_at h hi, List.getElem?_eq_getElem hi]
    simp only [Option.map_some]
    congr 1
    unfold tidN
    rw [Int.toNat_natCast, aloneAt_at hi]
    have hpar : (if (i : Int) = 0 then (-1 : Int) else plI (tidyN ns) (parOf (tidyN ns) i)) = (tidyN ns)[i].parent := by
      by_cases h0 : i = 0
      · subst h0
        rw [if_pos (show ((0 : Nat) : Int) = 0 from rfl), ← parOf_at hi, ho.2]
      · rw [if_neg (by omega), ← parOf_at hi]
        obtain ⟨x, hx, rfl⟩ := tid_of h hi
        have hx0 : x ≠ 0 := fun e => h0 (by rw [e]; exact (tid_zero h).2)
        have hpa := tid_ahead h hx hx0
        rw [tid_par h hx, if_neg hx0]
        exact tid_pl h (tid_lt h hpa.1)
    have hks : (kidsOf (tidyN ns) i).map (plI (tidyN ns)) = (tidyN ns)[i].kids := by
      rw [← kidsOf_at hi]
      have : ∀ y ∈ kidsOf (tidyN ns) i, plI (tidyN ns) y = y := fun y hy => by
        have hf := fit_kid ho.1.fit hy
        have := tid_pl h (i := y.toNat) (by omega)
        rwa [Int.toNat_of_nonneg hf.2.1] at this
      conv => rhs; rw [← List.map_id (kidsOf (tidyN ns) i)]
      exact List.map_congr_left this
    rw [hpar, hks]
    rfl
  · rw [List.getElem?_eq_none (by rw [hl]; omega), List.getElem?_eq_none (by omega)]
    rfl
/-- The Parent of each node but the page is ahead of it. -/
theorem tid_order (h : STreeOkP ns) {i : Nat} (hi : i < (tidyN ns).length) (h0 : 1 ≤ i) : 0 ≤ parOf (tidyN ns) i ∧ parOf (tidyN ns) i < i := by
  obtain ⟨x, hx, rfl⟩ := tid_of h hi
  have hx0 : x ≠ 0 := fun e => by rw [e, (tid_zero h).2] at h0; omega
  have hpa := tid_ahead h hx hx0
  rw [tid_par h hx, if_neg hx0]
  unfold plI
  omega
end
end Go.Proofs.YtogdbjafibejdaaGreat
