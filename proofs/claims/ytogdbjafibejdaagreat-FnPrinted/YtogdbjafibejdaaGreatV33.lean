/- A node that is hung below another one, or taken from where it stands, in plain words. No condition. -/
import Derived.Test.YtogdbjafibejdaaGreatV32
import Derived.Test.YtogdbjafibejdaaGreatV20
import Derived.Test.YtogdbjafibejdaaGreatV17
import Derived.Test.YtogdbjafibejdaaGreatV13
namespace Go.Proofs.YtogdbjafibejdaaGreat
open Go.RowKit
set_option maxRecDepth 100000
set_option linter.unusedVariables false

def setPar (n : PNode) (x : Int) : PNode := ⟨n.kind, n.name, n.attrs, n.text, x, n.kids⟩
def setKids (n : PNode) (ks : List Int) : PNode := ⟨n.kind, n.name, n.attrs, n.text, n.parent, ks⟩
/-- Node c is taken from the Kids of the one that it stands below. -/
def cutN (ns : List PNode) (c : Nat) : List PNode := if parOf ns c = -1 then ns else ns.modify (parOf ns c).toNat fun n => setKids n (lessL (c : Int) n.kids)
/-- Node c stands below none. -/
def takeN (ns : List PNode) (c : Nat) : List PNode := (cutN ns c).modify c fun n => setPar n (-1)
/-- Node c is the last one of the Kids of node p. -/
def hangN (ns : List PNode) (c p : Nat) : List PNode := ((takeN ns c).modify c fun n => setPar n (p : Int)).modify p fun n => setKids n (n.kids ++ [(c : Int)])

theorem cutN_len (ns : List PNode) (c : Nat) : (cutN ns c).length = ns.length := by unfold cutN; split <;> simp
theorem takeN_len (ns : List PNode) (c : Nat) : (takeN ns c).length = ns.length := by simp [takeN, cutN_len]
theorem hangN_len (ns : List PNode) (c p : Nat) : (hangN ns c p).length = ns.length := by simp [hangN, takeN_len]

theorem kidsOf_setPar (ns : List PNode) (c k : Nat) (x : Int) : kidsOf (ns.modify c fun n => setPar n x) k = kidsOf ns k := by
  simp only [kidsOf, List.getElem?_modify]
  cases ns[k]? with
  | none => rfl
  | some n => by_cases h : c = k <;> simp [h, setPar]
theorem parOf_setPar (ns : List PNode) (c k : Nat) (x : Int) (hc : c < ns.length) : parOf (ns.modify c fun n => setPar n x) k = if c = k then x else parOf ns k := by
  simp only [parOf, List.getElem?_modify]
  by_cases h : c = k
  · subst h; simp [hc, setPar]
  · simp [h]
theorem parOf_setKids (ns : List PNode) (j k : Nat) (f : List Int → List Int) : parOf (ns.modify j fun n => setKids n (f n.kids)) k = parOf ns k := by
  simp only [parOf, List.getElem?_modify]
  cases ns[k]? with
  | none => rfl
  | some n => by_cases h : j = k <;> simp [h, setKids]
theorem kidsOf_setKids (ns : List PNode) (j k : Nat) (f : List Int → List Int) (hj : j < ns.length) : kidsOf (ns.modify j fun n => setKids n (f n.kids)) k = if j = k then f (kidsOf ns k) else kidsOf ns k := by
  simp only [kidsOf, List.getElem?_modify]
  by_cases h : j = k
  · subst h; simp [hj, setKids]
  · simp [h]

theorem lessL_not {c : Int} {xs : List Int} (h : c ∉ xs) : lessL c xs = xs := by
  unfold lessL
  rw [List.filter_eq_self]
  intro x hx
  simp only [bne_iff_ne]
  exact fun e => h (e ▸ hx)
theorem mem_lessL {c x : Int} {xs : List Int} : x ∈ lessL c xs ↔ x ∈ xs ∧ x ≠ c := by simp [lessL]

/-- Only the one that it stands below has it among its Kids. -/
theorem kid_par {ns : List PNode} (hf : KidsFit ns) {c k : Nat} (h : (c : Int) ∈ kidsOf ns k) : parOf ns c = k := by
  have := (fit_kid hf h).2.2.2
  simpa using this
theorem kidsOf_cutN {ns : List PNode} (h : STreeOkP ns) {c : Nat} (hc : c < ns.length) (k : Nat) : kidsOf (cutN ns c) k = lessL (c : Int) (kidsOf ns k) := by
  have hp := tree_par h hc
  unfold cutN
  by_cases e : parOf ns c = -1
  · rw [if_pos e, lessL_not]
    intro hm
    have := kid_par h.1.fit hm
    omega
  · rw [if_neg e]
    have h1 : (parOf ns c).toNat < ns.length := by have := hp.1; have := hp.2.1; omega
    rw [kidsOf_setKids ns (parOf ns c).toNat k (lessL (c : Int)) h1]
    by_cases e2 : (parOf ns c).toNat = k
    · rw [if_pos e2]
    · rw [if_neg e2, lessL_not]
      intro hm
      have := kid_par h.1.fit hm
      omega
theorem parOf_cutN (ns : List PNode) (c k : Nat) : parOf (cutN ns c) k = parOf ns k := by
  unfold cutN
  split
  · rfl
  · exact parOf_setKids ns _ k (lessL (c : Int))
theorem kidsOf_takeN {ns : List PNode} (h : STreeOkP ns) {c : Nat} (hc : c < ns.length) (k : Nat) : kidsOf (takeN ns c) k = lessL (c : Int) (kidsOf ns k) := by
  rw [takeN, kidsOf_setPar, kidsOf_cutN h hc]
theorem parOf_takeN {ns : List PNode} {c : Nat} (hc : c < ns.length) (k : Nat) : parOf (takeN ns c) k = if c = k then -1 else parOf ns k := by
  rw [takeN, parOf_setPar _ _ _ _ (by rw [cutN_len]; exact hc), parOf_cutN]
theorem kidsOf_hangN {ns : List PNode} (h : STreeOkP ns) {c p : Nat} (hc : c < ns.length) (hp : p < ns.length) (k : Nat) : kidsOf (hangN ns c p) k = if p = k then lessL (c : Int) (kidsOf ns k) ++ [(c : Int)] else lessL (c : Int) (kidsOf ns k) := by
  rw [hangN, kidsOf_setKids _ _ _ (fun ks => ks ++ [(c : Int)]) (by simp [takeN_len, hp]), kidsOf_setPar, kidsOf_takeN h hc]
theorem parOf_hangN {ns : List PNode} {c p : Nat} (hc : c < ns.length) (k : Nat) : parOf (hangN ns c p) k = if c = k then (p : Int) else parOf ns k := by
  rw [hangN, parOf_setKids _ _ _ (fun ks => ks ++ [(c : Int)]), parOf_setPar _ _ _ _ (by rw [takeN_len]; exact hc), parOf_takeN hc]
  by_cases e : c = k <;> simp [e]

/-- What a node has besides its links. -/
def bareOf (n : PNode) : Int × ByteArray × List (ByteArray × ByteArray) × ByteArray := (n.kind, n.name, n.attrs, n.text)
def bareAt (ns : List PNode) (k : Nat) : Option (Int × ByteArray × List (ByteArray × ByteArray) × ByteArray) := ns[k]?.map bareOf
theorem bare_modify (ns : List PNode) (j k : Nat) (f : PNode → PNode) (hf : ∀ n, bareOf (f n) = bareOf n) : bareAt (ns.modify j f) k = bareAt ns k := by
  simp only [bareAt, List.getElem?_modify]
  cases ns[k]? with
  | none => rfl
  | some n => by_cases h : j = k <;> simp [h, hf]
theorem bareAt_cutN (ns : List PNode) (c k : Nat) : bareAt (cutN ns c) k = bareAt ns k := by
  unfold cutN
  split
  · rfl
  · exact bare_modify ns _ k _ (fun _ => rfl)
theorem bareAt_takeN (ns : List PNode) (c k : Nat) : bareAt (takeN ns c) k = bareAt ns k := (bare_modify (cutN ns c) c k (fun n => setPar n (-1)) (fun _ => rfl)).trans (bareAt_cutN ns c k)
theorem bareAt_hangN (ns : List PNode) (c p k : Nat) : bareAt (hangN ns c p) k = bareAt ns k := (bare_modify ((takeN ns c).modify c fun n => setPar n (p : Int)) p k (fun n => setKids n (n.kids ++ [(c : Int)])) (fun _ => rfl)).trans ((bare_modify (takeN ns c) c k (fun n => setPar n (p : Int)) (fun _ => rfl)).trans (bareAt_takeN ns c k))
theorem bare_takeN {ns : List PNode} {c k : Nat} (hk : k < ns.length) : bareOf ((takeN ns c)[k]'(by rw [takeN_len]; exact hk)) = bareOf ns[k] := by
  have := bareAt_takeN ns c k
  simpa [bareAt, hk, takeN_len] using this
theorem bare_hangN {ns : List PNode} {c p k : Nat} (hk : k < ns.length) : bareOf ((hangN ns c p)[k]'(by rw [hangN_len]; exact hk)) = bareOf ns[k] := by
  have := bareAt_hangN ns c p k
  simpa [bareAt, hk, hangN_len] using this

/-- The node may have Kids. -/
def opensB (n : PNode) : Bool := decide (n.kind = 1) || decide (n.kind = 3)
theorem nodeB_kids {k : Int} {nm tx : ByteArray} {rs : List (ByteArray × ByteArray)} {a b : Nat} (h : nodeB k nm rs tx a = true) (hk : a = 0 → b = 0 ∨ k = 1 ∨ k = 3) : nodeB k nm rs tx b = true := by
  unfold nodeB at h ⊢
  by_cases e1 : k = 1
  · simp_all
  by_cases e2 : k = 2
  · simp_all
  by_cases e3 : k = 3
  · simp_all
  by_cases e4 : k = 4
  · simp_all
  by_cases e5 : k = 5
  · simp_all
  · simp_all
theorem nodeB_opens {k : Int} {nm tx : ByteArray} {rs : List (ByteArray × ByteArray)} {a : Nat} (h : nodeB k nm rs tx a = true) (ha : a ≠ 0) : k = 1 ∨ k = 3 := by
  unfold nodeB at h
  by_cases e1 : k = 1
  · exact .inl e1
  by_cases e3 : k = 3
  · exact .inr e3
  exfalso
  by_cases e2 : k = 2
  · simp_all
  by_cases e4 : k = 4
  · simp_all
  by_cases e5 : k = 5
  · simp_all
  · simp_all
theorem good_of {n m : PNode} {k : Nat} (hb : bareOf m = bareOf n) (h : goodB n k = true) (hk : n.kids.length = 0 → m.kids.length = 0 ∨ opensB n = true) : goodB m k = true := by
  simp only [bareOf, Prod.mk.injEq] at hb
  obtain ⟨h1, h2, h3, h4⟩ := hb
  unfold goodB at h ⊢
  rw [h1, h2, h3, h4]
  simp only [Bool.and_eq_true] at h ⊢
  exact ⟨h.1, nodeB_kids h.2 (fun z => by
    rcases hk z with x | x
    · exact .inl x
    · exact .inr (by simpa [opensB] using x))⟩
theorem opens_of {n m : PNode} {k : Nat} (hb : bareOf m = bareOf n) (h : goodB m k = true) (hk : m.kids.length ≠ 0) : opensB n = true := by
  simp only [bareOf, Prod.mk.injEq] at hb
  obtain ⟨h1, h2, h3, h4⟩ := hb
  unfold goodB at h
  simp only [Bool.and_eq_true] at h
  have := nodeB_opens h.2 hk
  rw [h1] at this
  simpa [opensB] using this

/-- The node i stands d steps below node c. -/
def belD (ns : List PNode) (c : Nat) : Nat → Nat → Prop
  | 0, i => i = c
  | d + 1, i => ∃ q, belD ns c d q ∧ (i : Int) ∈ kidsOf ns q
theorem bel_dep {ns : List PNode} {c m : Nat} (hc : dep ns m c) : ∀ d i, belD ns c d i → dep ns (m + d) i
  | 0, i, h => by cases h; exact hc
  | d + 1, i, h => by
    obtain ⟨q, hq, hm⟩ := h
    exact ⟨q, bel_dep hc d q hq, hm⟩

/-- Taken away it leaves a tree. -/
theorem take_ok {ns : List PNode} (h : STreeOkP ns) {c : Nat} (hc : c < ns.length) (h0 : c ≠ 0) : STreeOkP (takeN ns c) := by
  have hkid : ∀ q (i : Nat), (i : Int) ∈ kidsOf ns q → i ≠ c → (i : Int) ∈ kidsOf (takeN ns c) q := fun q i hm e => by
    rw [kidsOf_takeN h hc, mem_lessL]; exact ⟨hm, by omega⟩
  have hcd : dep (takeN ns c) 0 c := ⟨by rw [takeN_len]; exact hc, by rw [parOf_takeN hc, if_pos rfl]⟩
  have hall : ∀ d i, dep ns d i → ∃ e, dep (takeN ns c) e i := by
    intro d
    induction d with
    | zero => exact fun i hd => ⟨0, by rw [takeN_len]; exact hd.1, by rw [parOf_takeN hc]; split; rfl; exact hd.2⟩
    | succ d ih =>
      intro i hd
      by_cases e : i = c
      · exact ⟨0, e ▸ hcd⟩
      · obtain ⟨q, hq, hm⟩ := hd
        obtain ⟨f, hf⟩ := ih q hq
        exact ⟨f + 1, q, hf, hkid q i hm e⟩
  refine ⟨⟨by rw [takeN_len]; exact h.1.one, by rw [takeN_len]; exact h.1.most, fun k hk => ?_, fun k hk => ?_, fun i hi => ?_⟩, ?_⟩
  · have hk' : k < ns.length := by rw [takeN_len] at hk; exact hk
    refine good_of (bare_takeN hk') (h.1.good k hk') (fun z => .inl ?_)
    have h1 := kidsOf_takeN h hc k
    rw [kidsOf_at hk, kidsOf_at hk'] at h1
    rw [h1]
    have := lessL_len (c : Int) ns[k].kids
    omega
  · have hk' : k < ns.length := by rw [takeN_len] at hk; exact hk
    obtain ⟨f1, f2⟩ := h.1.fit k hk'
    rw [kidsOf_takeN h hc]
    refine ⟨f1.sublist List.filter_sublist, fun x hx => ?_⟩
    obtain ⟨hx1, hx2⟩ := mem_lessL.mp hx
    obtain ⟨g1, g2, g3⟩ := f2 x hx1
    refine ⟨g1, by rw [takeN_len]; exact g2, ?_⟩
    rw [parOf_takeN hc, if_neg (by omega)]
    exact g3
  · rw [takeN_len] at hi
    obtain ⟨d, hd⟩ := h.1.linked i hi
    exact hall d i hd
  · rw [parOf_takeN hc, if_neg h0]; exact h.2

/-- Where it is hung below what may have Kids, and not below itself, it leaves a tree. -/
theorem hang_ok {ns : List PNode} (h : STreeOkP ns) {c p : Nat} (hc : c < ns.length) (hp : p < ns.length) (h0 : c ≠ 0) (ho : opensB ns[p] = true) (hb : ∀ d, ¬ belD ns c d p) : STreeOkP (hangN ns c p) := by
  have hkid : ∀ q (i : Nat), (i : Int) ∈ kidsOf ns q → i ≠ c → (i : Int) ∈ kidsOf (hangN ns c p) q := fun q i hm e => by
    rw [kidsOf_hangN h hc hp]
    have : (i : Int) ∈ lessL (c : Int) (kidsOf ns q) := mem_lessL.mpr ⟨hm, by omega⟩
    split
    · exact List.mem_append_left _ this
    · exact this
  have hout : ∀ d i, dep ns d i → (∀ e, ¬ belD ns c e i) → dep (hangN ns c p) d i := by
    intro d
    induction d with
    | zero =>
      intro i hd hn
      refine ⟨by rw [hangN_len]; exact hd.1, ?_⟩
      rw [parOf_hangN hc, if_neg (fun e => hn 0 e.symm)]
      exact hd.2
    | succ d ih =>
      intro i hd hn
      obtain ⟨q, hq, hm⟩ := hd
      exact ⟨q, ih q hq (fun e he => hn (e + 1) ⟨q, he, hm⟩), hkid q i hm (fun e => hn 0 e)⟩
  have hcd : ∃ e, dep (hangN ns c p) e c := by
    obtain ⟨d, hd⟩ := h.1.linked p hp
    refine ⟨d + 1, p, hout d p hd hb, ?_⟩
    rw [kidsOf_hangN h hc hp, if_pos rfl]
    simp
  have hin : ∀ d i, belD ns c d i → ∃ e, dep (hangN ns c p) e i := by
    intro d
    induction d with
    | zero => intro i hi; cases hi; exact hcd
    | succ d ih =>
      intro i hi
      by_cases e : i = c
      · exact e ▸ hcd
      · obtain ⟨q, hq, hm⟩ := hi
        obtain ⟨f, hf⟩ := ih q hq
        exact ⟨f + 1, q, hf, hkid q i hm e⟩
  refine ⟨⟨by rw [hangN_len]; exact h.1.one, by rw [hangN_len]; exact h.1.most, fun k hk => ?_, fun k hk => ?_, fun i hi => ?_⟩, ?_⟩
  · have hk' : k < ns.length := by rw [hangN_len] at hk; exact hk
    refine good_of (bare_hangN hk') (h.1.good k hk') (fun z => ?_)
    by_cases e : p = k
    · subst e; exact .inr ho
    · left
      have h1 := kidsOf_hangN h hc hp k
      rw [kidsOf_at hk, kidsOf_at hk', if_neg e] at h1
      rw [h1]
      have := lessL_len (c : Int) ns[k].kids
      omega
  · have hk' : k < ns.length := by rw [hangN_len] at hk; exact hk
    obtain ⟨f1, f2⟩ := h.1.fit k hk'
    rw [kidsOf_hangN h hc hp]
    have hless : FitPre (hangN ns c p) k (lessL (c : Int) (kidsOf ns k)) := by
      refine ⟨f1.sublist List.filter_sublist, fun x hx => ?_⟩
      obtain ⟨hx1, hx2⟩ := mem_lessL.mp hx
      obtain ⟨g1, g2, g3⟩ := f2 x hx1
      refine ⟨g1, by rw [hangN_len]; exact g2, ?_⟩
      rw [parOf_hangN hc, if_neg (by omega)]
      exact g3
    by_cases e : p = k
    · rw [if_pos e]
      refine ⟨?_, fun x hx => ?_⟩
      · rw [List.nodup_append]
        refine ⟨hless.1, by simp, fun a ha b hb' e' => ?_⟩
        simp at hb'
        exact (mem_lessL.mp ha).2 (e'.trans hb')
      · rcases List.mem_append.mp hx with hx | hx
        · exact hless.2 x hx
        · simp at hx
          subst hx
          refine ⟨by omega, by rw [hangN_len]; omega, ?_⟩
          rw [show ((c : Int)).toNat = c by simp, parOf_hangN hc, if_pos rfl, e]
    · rw [if_neg e]; exact hless
  · rw [hangN_len] at hi
    obtain ⟨d, hd⟩ := h.1.linked i hi
    by_cases hx : ∃ e, belD ns c e i
    · obtain ⟨e, he⟩ := hx; exact hin e i he
    · exact ⟨d, hout d i hd (fun e he => hx ⟨e, he⟩)⟩
  · rw [parOf_hangN hc, if_neg h0]; exact h.2

/-- Else it leaves none. -/
theorem hang_bad {ns : List PNode} (h : STreeOkP ns) {c p : Nat} (hc : c < ns.length) (hp : p < ns.length) (hno : opensB ns[p] = false ∨ ∃ d, belD ns c d p) : ¬ TreeOkP (hangN ns c p) := by
  intro hx
  rcases hno with ho | ⟨d, hd⟩
  · have hp' : p < (hangN ns c p).length := by rw [hangN_len]; exact hp
    have h1 := kidsOf_hangN h hc hp p
    rw [if_pos rfl, kidsOf_at hp'] at h1
    have := opens_of (bare_hangN (c := c) (p := p) hp) (hx.good p hp') (by rw [h1]; simp)
    rw [ho] at this
    cases this
  · have hcp : (c : Int) ∈ kidsOf (hangN ns c p) p := by rw [kidsOf_hangN h hc hp, if_pos rfl]; simp
    obtain ⟨m, hm⟩ := hx.linked c (by rw [hangN_len]; exact hc)
    have key : ∀ d i, belD ns c d i → ∃ e, dep (hangN ns c p) (m + e) i := by
      intro d
      induction d with
      | zero => intro i hi; cases hi; exact ⟨0, hm⟩
      | succ d ih =>
        intro i hi
        by_cases e : i = c
        · subst e; exact ⟨0, hm⟩
        · obtain ⟨q, hq, hk⟩ := hi
          obtain ⟨f, hf⟩ := ih q hq
          refine ⟨f + 1, q, hf, ?_⟩
          rw [kidsOf_hangN h hc hp]
          have : (i : Int) ∈ lessL (c : Int) (kidsOf ns q) := mem_lessL.mpr ⟨hk, by omega⟩
          split
          · exact List.mem_append_left _ this
          · exact this
    obtain ⟨e, he⟩ := key d p hd
    have := dep_uniq hx.fit (m + e + 1) m c ⟨p, he, hcp⟩ hm
    omega
end Go.Proofs.YtogdbjafibejdaaGreat

/- A text that is written below a node, in plain words. No condition. -/
namespace Go.Proofs.YtogdbjafibejdaaGreat
open Go.RowKit
set_option maxRecDepth 100000
set_option linter.unusedVariables false

/-- The last of the Kids of node p is the text k. -/
def LastT (ns : List PNode) (p k : Nat) : Prop := ∃ pre, kidsOf ns p = pre ++ [(k : Int)] ∧ ∃ h : k < ns.length, ns[k].kind = 4
theorem LastT.one {ns : List PNode} {p k j : Nat} (h : LastT ns p k) (h' : LastT ns p j) : k = j := by
  obtain ⟨a, ha, _⟩ := h
  obtain ⟨b, hb, _⟩ := h'
  rw [ha] at hb
  have e := List.append_inj_right' hb rfl
  simp at e
  omega
def setText (n : PNode) (s : ByteArray) : PNode := ⟨n.kind, n.name, n.attrs, s, n.parent, n.kids⟩
/-- A text that stands below none. -/
def txtN (s : ByteArray) : PNode := ⟨4, ⟨#[]⟩, [], s, -1, []⟩
/-- More at the end of the text k. -/
def moreN (ns : List PNode) (k : Nat) (s : ByteArray) : List PNode := ns.modify k fun n => setText n (n.text ++ s)
/-- A new text below node p. -/
def newN (ns : List PNode) (p : Nat) (s : ByteArray) : List PNode := hangN (ns ++ [txtN s]) ns.length p

theorem moreN_len (ns : List PNode) (k : Nat) (s : ByteArray) : (moreN ns k s).length = ns.length := by simp [moreN]
theorem kidsOf_moreN (ns : List PNode) (k : Nat) (s : ByteArray) (j : Nat) : kidsOf (moreN ns k s) j = kidsOf ns j := by
  unfold kidsOf moreN
  rw [List.getElem?_modify]
  cases ns[j]? with
  | none => rfl
  | some n => by_cases e : k = j <;> simp [e, setText]
theorem parOf_moreN (ns : List PNode) (k : Nat) (s : ByteArray) (j : Nat) : parOf (moreN ns k s) j = parOf ns j := by
  unfold parOf moreN
  rw [List.getElem?_modify]
  cases ns[j]? with
  | none => rfl
  | some n => by_cases e : k = j <;> simp [e, setText]
theorem dep_like {ns ms : List PNode} (hl : ms.length = ns.length) (hk : ∀ k, kidsOf ms k = kidsOf ns k) (hp : ∀ k, parOf ms k = parOf ns k) : ∀ d i, dep ns d i → dep ms d i
  | 0, i, h => ⟨by have := h.1; omega, by rw [hp]; exact h.2⟩
  | d + 1, i, h => by
    obtain ⟨p, h1, h2⟩ := h
    exact ⟨p, dep_like hl hk hp d p h1, by rw [hk]; exact h2⟩
theorem tree_like {ns ms : List PNode} (hl : ms.length = ns.length) (hk : ∀ k, kidsOf ms k = kidsOf ns k) (hp : ∀ k, parOf ms k = parOf ns k) (h : TreeOkP ns) (hg : ∀ k (h : k < ms.length), goodB ms[k] k = true) : TreeOkP ms := by
  refine ⟨by have := h.one; omega, by have := h.most; omega, hg, fun k hlt => ?_, fun i hi => ?_⟩
  · obtain ⟨f1, f2⟩ := h.fit k (by omega)
    rw [hk]
    refine ⟨f1, fun x hx => ?_⟩
    obtain ⟨g1, g2, g3⟩ := f2 x hx
    exact ⟨g1, by rw [hl]; exact g2, by rw [hp]; exact g3⟩
  · obtain ⟨d, hd⟩ := h.linked i (by omega)
    exact ⟨d, dep_like hl hk hp d i hd⟩

theorem toListW_loop (s : ByteArray) : ∀ (n i : Nat) (r : List UInt8), s.size - i = n → (r ≠ [] ∨ 0 < n) → ByteArray.toList.loop s i r ≠ []
  | 0, i, r, h, hr => by
    rw [ByteArray.toList.loop]
    rw [if_neg (by omega)]
    rcases hr with hr | hr
    · simpa using hr
    · omega
  | n + 1, i, r, h, hr => by
    rw [ByteArray.toList.loop]
    rw [if_pos (by omega)]
    exact toListW_loop s n (i + 1) _ (by omega) (.inl (by simp))
theorem empB_iff (s : ByteArray) : empB s = true ↔ s.size = 0 := by
  unfold empB
  rw [decide_eq_true_iff]
  constructor
  · intro h
    apply Classical.byContradiction
    intro hn
    exact toListW_loop s s.size 0 [] (by omega) (.inr (by omega)) h
  · intro h
    unfold ByteArray.toList
    rw [ByteArray.toList.loop, if_neg (by omega)]
    rfl
theorem empB_no {s : ByteArray} : empB s = false ↔ s.size ≠ 0 := by
  rw [← Bool.not_eq_true, empB_iff]
theorem emp_more {t s : ByteArray} (h : empB t = false) : empB (t ++ s) = false := by
  rw [empB_no] at *
  rw [ByteArray.size_append]
  omega
theorem more_ok {ns : List PNode} (h : TreeOkP ns) {k : Nat} (hk : k < ns.length) (h4 : ns[k].kind = 4) (s : ByteArray) : TreeOkP (moreN ns k s) ↔ utfOk (bs (ns[k].text ++ s)) = true := by
  have hg := h.good k hk
  unfold goodB nodeB at hg
  simp only [h4] at hg
  simp at hg
  have hat : ∀ hk', (moreN ns k s)[k]'hk' = setText ns[k] (ns[k].text ++ s) := fun hk' => by simp [moreN]
  constructor
  · intro h'
    have := h'.good k (by rw [moreN_len]; exact hk)
    rw [hat] at this
    unfold goodB nodeB setText at this
    simp only [h4] at this
    simp at this
    exact this.2.1.1.1.2
  · intro hu
    refine tree_like (moreN_len _ _ _) (kidsOf_moreN _ _ _) (parOf_moreN _ _ _) h (fun j hj => ?_)
    have hj' : j < ns.length := by rw [moreN_len] at hj; exact hj
    by_cases e : k = j
    · subst e
      rw [hat]
      unfold goodB nodeB setText
      simp only [h4]
      simp
      exact ⟨hg.1, ⟨⟨⟨emp_more (by simpa using hg.2.1.1.1.1), hu⟩, hg.2.1.1.2⟩, hg.2.1.2⟩, hg.2.2⟩
    · have : (moreN ns k s)[j] = ns[j] := by simp [moreN, e]
      rw [this]
      exact h.good j hj'

theorem bel_leaf {ns : List PNode} {c : Nat} (hk : kidsOf ns c = []) : ∀ d i, belD ns c d i → i = c
  | 0, i, h => h
  | d + 1, i, h => by
    obtain ⟨q, hq, hm⟩ := h
    have := bel_leaf hk d q hq
    subst this
    rw [hk] at hm
    cases hm
theorem new_ok {ns : List PNode} (h : STreeOkP ns) {p : Nat} (hp : p < ns.length) {s : ByteArray} (hs : empB s = false) (hu : utfOk (bs s) = true) : TreeOkP (newN ns p s) ↔ ns.length < 500 ∧ opensB ns[p] = true := by
  by_cases hl : ns.length < 500
  · have ht : TreeOkP (ns ++ [txtN s]) := tree_snoc h.1 rfl rfl (by show (4 : Int) ≠ 1; decide) (by simp [nodeB, txtN, hs, hu]; exact (empB_iff _).mpr rfl) hl
    have hst : STreeOkP (ns ++ [txtN s]) := ⟨ht, by rw [parOf_snoc rfl]; exact h.2⟩
    have hc : ns.length < (ns ++ [txtN s]).length := by simp
    have hp' : p < (ns ++ [txtN s]).length := by simp; omega
    have ho : (ns ++ [txtN s])[p] = ns[p] := List.getElem_append_left hp
    have hkd : kidsOf (ns ++ [txtN s]) ns.length = [] := by rw [kidsOf_snoc rfl, kidsOf_out (by omega)]
    have h1 := h.1.one
    constructor
    · intro hh
      refine ⟨hl, ?_⟩
      cases e : opensB ns[p] with
      | true => rfl
      | false => exact absurd hh (hang_bad hst hc hp' (.inl (by rw [ho]; exact e)))
    · intro hh
      exact (hang_ok hst hc hp' (by omega) (by rw [ho]; exact hh.2) (fun d hd => by have := bel_leaf hkd d p hd; omega)).1
  · constructor
    · intro hh
      have := hh.most
      simp [newN, hangN_len] at this
      omega
    · intro hh
      exact absurd hh.1 hl
theorem last_opens {ns : List PNode} (h : TreeOkP ns) {p k : Nat} (hp : p < ns.length) (hl : LastT ns p k) : opensB ns[p] = true := by
  obtain ⟨pre, hk, _⟩ := hl
  rw [kidsOf_at hp] at hk
  exact opens_of rfl (h.good p hp) (by rw [hk]; simp)
end Go.Proofs.YtogdbjafibejdaaGreat

/- The specification's l6Node. No condition. -/
namespace Go.Proofs.YtogdbjafibejdaaGreat
open Go.RowKit
set_option maxRecDepth 100000
set_option linter.unusedVariables false

set_option maxHeartbeats 1000000 in
theorem snode_page {w : World} (nm tx : ByteArray) (p : Int) {a ka : Option Addr} {na ca nk kc : Nat} :
    Calls Tryz.prog 58 #[.agg #[.int .i64 1, .string nm, .slice a na ca, .string tx, .int .i64 p, .slice ka nk kc]] w fun e w' => e = .returned (.bool (empB nm && decide (na = 0) && empB tx)) ∧ Below w.heap.size w w' := by
  unfold empB
  by_cases hnm : nm.toList = [] <;> by_cases htx : tx.toList = [] <;> by_cases hna : na = 0
  all_goals (go_enter Tryz.func58, Tryz.ntmps58; go_wp2)
  all_goals (go_ret; exact ⟨ret_bool (by simp [*]), (Below.refl _ _).alloc (Nat.le_refl _) _⟩)

set_option maxHeartbeats 1000000 in
theorem snode_other {w : World} (nm tx : ByteArray) (p : Int) {a ka : Option Addr} {na ca nk kc : Nat} (k : Int) (h1 : k ≠ 1) (h2 : k ≠ 2) (h3 : k ≠ 3) (h4 : k ≠ 4) (h5 : k ≠ 5) :
    Calls Tryz.prog 58 #[.agg #[.int .i64 (k), .string nm, .slice a na ca, .string tx, .int .i64 p, .slice ka nk kc]] w fun e w' => e = .returned (.bool (false)) ∧ Below w.heap.size w w' := by
  by_cases hnm : nm.toList = [] <;> by_cases htx : tx.toList = []
  all_goals (go_enter Tryz.func58, Tryz.ntmps58; go_wp2)
  all_goals (go_ret; exact ⟨ret_bool (by simp), (Below.refl _ _).alloc (Nat.le_refl _) _⟩)

set_option maxHeartbeats 1000000 in
theorem snode_doc {w : World} (nm tx : ByteArray) (p : Int) {a ka : Option Addr} {na ca nk kc : Nat} (hnm : nm.size ≤ 1048576) (htx : tx.size ≤ 1048576) :
    Calls Tryz.prog 58 #[.agg #[.int .i64 2, .string nm, .slice a na ca, .string tx, .int .i64 p, .slice ka nk kc]] w fun e w' => e = .returned (.bool ((decide (nm.size ≤ 60) && utfOk (bs nm)) && decide (na = 0) && empB tx && decide (nk = 0))) ∧ Below w.heap.size w w' := by
  have hy0 : (w.alloc (.cells #[.int .i64 2, .string nm, .slice a na ca, .string tx, .int .i64 p, .slice ka nk kc] 36)).heap[w.heap.size]? = some (.cells #[.int .i64 2, .string nm, .slice a na ca, .string tx, .int .i64 p, .slice ka nk kc] 36 (0, 0)) := World.alloc_heap_new _ _
  have HY0 := (show Hid _ from hy0)
  have c1 := fun w => l1Ok_any nm w (by omega)
  obtain ⟨u, eu⟩ : ∃ u, u = utfOk (bs nm) := ⟨_, rfl⟩
  rw [← eu] at c1 ⊢
  have C1 := (show Hid _ from c1)
  clear c1 eu hy0
  unfold empB
  by_cases hn0 : nm.toList = [] <;> by_cases ht0 : tx.toList = [] <;> by_cases hna : na = 0 <;> by_cases h60 : nm.size ≤ 60
  all_goals (go_enter Tryz.func58, Tryz.ntmps58; go_wp2_with fail)
  all_goals first
    | (go_ret; exact ⟨ret_bool (by simp [*]), (Below.refl _ _).alloc (Nat.le_refl _) _⟩)
    | (go_at_call 71
       refine (C1.out _).mono ?_
       rintro e w3 ⟨rfl, b3⟩
       have hy := (b3.block w.heap.size (by simp)).trans (World.alloc_heap_new _ _)
       have y5 : w3.cell? ⟨w.heap.size, 5, none⟩ = some (.slice ka nk kc) := by simp only [World.cell?, hy]; rfl
       replace b3 := ((Below.refl w.heap.size w).alloc (Nat.le_refl _) _).trans (b3.mono (by simp))
       clear hy HY0
       cases u <;> go_wp2
       all_goals (go_ret; exact ⟨ret_bool (by first | (simp [*]; done) | simp [*, natb0]), b3⟩))

set_option maxHeartbeats 1000000 in
theorem snode_text {w : World} (nm tx : ByteArray) (p : Int) {a ka : Option Addr} {na ca nk kc : Nat} (hnm : nm.size ≤ 1048576) (htx : tx.size ≤ 1048576) :
    Calls Tryz.prog 58 #[.agg #[.int .i64 4, .string nm, .slice a na ca, .string tx, .int .i64 p, .slice ka nk kc]] w fun e w' => e = .returned (.bool (!empB tx && utfOk (bs tx) && empB nm && decide (na = 0) && decide (nk = 0))) ∧ Below w.heap.size w w' := by
  have hy0 : (w.alloc (.cells #[.int .i64 4, .string nm, .slice a na ca, .string tx, .int .i64 p, .slice ka nk kc] 36)).heap[w.heap.size]? = some (.cells #[.int .i64 4, .string nm, .slice a na ca, .string tx, .int .i64 p, .slice ka nk kc] 36 (0, 0)) := World.alloc_heap_new _ _
  have HY0 := (show Hid _ from hy0)
  have c1 := fun w => l1Ok_any tx w (by omega)
  obtain ⟨u, eu⟩ : ∃ u, u = utfOk (bs tx) := ⟨_, rfl⟩
  rw [← eu] at c1 ⊢
  have C1 := (show Hid _ from c1)
  clear c1 eu hy0
  unfold empB
  by_cases hn0 : nm.toList = [] <;> by_cases ht0 : tx.toList = [] <;> by_cases hna : na = 0
  all_goals (go_enter Tryz.func58, Tryz.ntmps58; go_wp2_with fail)
  all_goals first
    | (go_ret; exact ⟨ret_bool (by simp [*]), (Below.refl _ _).alloc (Nat.le_refl _) _⟩)
    | (go_at_call 71
       refine (C1.out _).mono ?_
       rintro e w3 ⟨rfl, b3⟩
       have hy := (b3.block w.heap.size (by simp)).trans (World.alloc_heap_new _ _)
       have y5 : w3.cell? ⟨w.heap.size, 5, none⟩ = some (.slice ka nk kc) := by simp only [World.cell?, hy]; rfl
       replace b3 := ((Below.refl w.heap.size w).alloc (Nat.le_refl _) _).trans (b3.mono (by simp))
       clear hy HY0
       cases u <;> go_wp2
       all_goals (go_ret; exact ⟨ret_bool (by first | (simp [*]; done) | simp [*, natb0]), b3⟩))

set_option maxHeartbeats 1000000 in
theorem snode_com {w : World} (nm tx : ByteArray) (p : Int) {a ka : Option Addr} {na ca nk kc : Nat} (hnm : nm.size ≤ 1048576) (htx : tx.size ≤ 1048576) :
    Calls Tryz.prog 58 #[.agg #[.int .i64 5, .string nm, .slice a na ca, .string tx, .int .i64 p, .slice ka nk kc]] w fun e w' => e = .returned (.bool (utfOk (bs tx) && empB nm && decide (na = 0) && decide (nk = 0))) ∧ Below w.heap.size w w' := by
  have hy0 : (w.alloc (.cells #[.int .i64 5, .string nm, .slice a na ca, .string tx, .int .i64 p, .slice ka nk kc] 36)).heap[w.heap.size]? = some (.cells #[.int .i64 5, .string nm, .slice a na ca, .string tx, .int .i64 p, .slice ka nk kc] 36 (0, 0)) := World.alloc_heap_new _ _
  have HY0 := (show Hid _ from hy0)
  have c1 := fun w => l1Ok_any tx w (by omega)
  obtain ⟨u, eu⟩ : ∃ u, u = utfOk (bs tx) := ⟨_, rfl⟩
  rw [← eu] at c1 ⊢
  have C1 := (show Hid _ from c1)
  clear c1 eu hy0
  unfold empB
  by_cases hn0 : nm.toList = [] <;> by_cases ht0 : tx.toList = [] <;> by_cases hna : na = 0
  all_goals (go_enter Tryz.func58, Tryz.ntmps58; go_wp2_with fail)
  all_goals first
    | (go_ret; exact ⟨ret_bool (by simp [*]), (Below.refl _ _).alloc (Nat.le_refl _) _⟩)
    | (go_at_call 71
       refine (C1.out _).mono ?_
       rintro e w3 ⟨rfl, b3⟩
       have hy := (b3.block w.heap.size (by simp)).trans (World.alloc_heap_new _ _)
       have y5 : w3.cell? ⟨w.heap.size, 5, none⟩ = some (.slice ka nk kc) := by simp only [World.cell?, hy]; rfl
       replace b3 := ((Below.refl w.heap.size w).alloc (Nat.le_refl _) _).trans (b3.mono (by simp))
       clear hy HY0
       cases u <;> go_wp2
       all_goals (go_ret; exact ⟨ret_bool (by first | (simp [*]; done) | simp [*, natb0]), b3⟩))

set_option maxHeartbeats 1000000 in
theorem snode_elem {w : World} (nm tx : ByteArray) (p : Int) {a ka : Option Addr} {na ca nk kc : Nat} {rs : List (ByteArray × ByteArray)} (hav : Sv 2 w (.slice a na ca) (pairCells rs)) (hnm : nm.size ≤ 1048576) (htx : tx.size ≤ 1048576) (hrs : rs.length ≤ 1048576) (hrr : ∀ p ∈ rs, p.1.size ≤ 1099511627776 ∧ p.2.size ≤ 1099511627776) :
    Calls Tryz.prog 58 #[.agg #[.int .i64 3, .string nm, .slice a na ca, .string tx, .int .i64 p, .slice ka nk kc]] w fun e w' => e = .returned (.bool (nameOk (bs nm) && attrsOk rs && empB tx)) ∧ Below w.heap.size w w' := by
  have b1 : Below w.heap.size w (w.alloc (.cells #[.int .i64 3, .string nm, .slice a na ca, .string tx, .int .i64 p, .slice ka nk kc] 36)) := (Below.refl _ _).alloc (Nat.le_refl _) _
  have hy0 : (w.alloc (.cells #[.int .i64 3, .string nm, .slice a na ca, .string tx, .int .i64 p, .slice ka nk kc] 36)).heap[w.heap.size]? = some (.cells #[.int .i64 3, .string nm, .slice a na ca, .string tx, .int .i64 p, .slice ka nk kc] 36 (0, 0)) := World.alloc_heap_new _ _
  have HY0 := (show Hid _ from hy0)
  have c1 := fun w => snameOk_any nm w (by omega)
  have c2 : ∀ w', Below w.heap.size w w' → Calls Tryz.prog 108 #[.slice a na ca] w' fun e w'' => e = .returned (.bool (attrsOk rs)) ∧ Below w'.heap.size w' w'' := fun w' hb => sattrsOk_any (hav.below hb) (by omega) hrr
  obtain ⟨u, eu⟩ : ∃ u, u = nameOk (bs nm) := ⟨_, rfl⟩
  obtain ⟨u2, eu2⟩ : ∃ u2, u2 = attrsOk rs := ⟨_, rfl⟩
  rw [← eu] at c1 ⊢
  rw [← eu2] at c2 ⊢
  have C1 := (show Hid _ from c1)
  have C2 := (show Hid _ from c2)
  clear c1 c2 eu eu2 hy0 hav hrr
  unfold empB
  by_cases hn0 : nm.toList = [] <;> by_cases ht0 : tx.toList = []
  all_goals (go_enter Tryz.func58, Tryz.ntmps58; go_wp2_with fail)
  all_goals first
    | (go_ret; exact ⟨ret_bool (by simp [*]), b1⟩)
    | (go_at_call 107
       refine (C1.out _).mono ?_
       rintro e w3 ⟨rfl, b3⟩
       have hy := (b3.block w.heap.size (by simp)).trans HY0.out
       have y2 : w3.cell? ⟨w.heap.size, 2, none⟩ = some (.slice a na ca) := by simp only [World.cell?, hy]; rfl
       replace b3 := b1.trans (b3.mono b1.size)
       clear hy HY0
       cases u
       · go_wp2
         go_ret
         exact ⟨ret_bool (by simp), b3⟩
       · go_wp2_with fail
         go_at_call 108
         refine (C2.out _ b3).mono ?_
         rintro e w4 ⟨rfl, b4⟩
         replace b4 := b3.trans (b4.mono b3.size)
         go_wp2
         go_ret
         exact ⟨ret_bool (by simp [*]), b4⟩)

/-- l6Node, of every node. -/
theorem snodeOk_any {w : World} (k : Int) (nm tx : ByteArray) (p : Int) {a ka : Option Addr} {na ca nk kc : Nat} {rs : List (ByteArray × ByteArray)} (hav : Sv 2 w (.slice a na ca) (pairCells rs)) (hnm : nm.size ≤ 1048576) (htx : tx.size ≤ 1048576) (hrs : rs.length ≤ 1048576) (hrr : ∀ p ∈ rs, p.1.size ≤ 1099511627776 ∧ p.2.size ≤ 1099511627776) :
    Calls Tryz.prog 58 #[.agg #[.int .i64 k, .string nm, .slice a na ca, .string tx, .int .i64 p, .slice ka nk kc]] w fun e w' => e = .returned (.bool (nodeB k nm rs tx nk)) ∧ Below w.heap.size w w' := by
  obtain ⟨_, _, ev, _⟩ := hav.pair
  have hna : na = rs.length := by cases ev; rfl
  unfold nodeB
  by_cases h1 : k = 1
  · subst h1
    rw [if_pos rfl, ← hna]
    exact snode_page nm tx p
  rw [if_neg h1]
  by_cases h2 : k = 2
  · subst h2
    rw [if_pos rfl, ← hna]
    exact snode_doc nm tx p hnm htx
  rw [if_neg h2]
  by_cases h3 : k = 3
  · subst h3
    rw [if_pos rfl]
    exact snode_elem nm tx p hav hnm htx hrs hrr
  rw [if_neg h3]
  by_cases h4 : k = 4
  · subst h4
    rw [if_pos rfl, ← hna]
    exact snode_text nm tx p hnm htx
  rw [if_neg h4]
  by_cases h5 : k = 5
  · subst h5
    rw [if_pos rfl, ← hna]
    exact snode_com nm tx p hnm htx
  rw [if_neg h5]
  exact snode_other nm tx p k h1 h2 h3 h4 h5
end Go.Proofs.YtogdbjafibejdaaGreat
