/- The draw of a list of attributes and of one more. -/
import Derived.Test.YtogdbjafibejdaaGreatY27
import Derived.Deep.RegionHeld
import Derived.Test.YtogdbjafibejdaaGreatY25
import Derived.Test.YtogdbjafibejdaaGreatY17
import Derived.Test.YtogdbjafibejdaaGreatY21
import Derived.Test.YtogdbjafibejdaaGreatY26
import Derived.Test.YtogdbjafibejdaaGreatY18
import Derived.Test.YtogdbjafibejdaaGreatY24
import Derived.Test.YtogdbjafibejdaaGreatY8
import Derived.Test.YtogdbjafibejdaaGreatY10
import Derived.Test.YtogdbjafibejdaaGreatY4
namespace Go.Proofs.YtogdbjafibejdaaGreat
open Go.RowKit
set_option maxRecDepth 100000
set_option linter.unusedVariables false
end Go.Proofs.YtogdbjafibejdaaGreat

/- Trees that are right, in plain words. No condition. -/
namespace Go.Proofs.YtogdbjafibejdaaGreat
open Go.RowKit
set_option maxRecDepth 100000
set_option linter.unusedVariables false

structure NodeFit (n : PNode) : Prop where
  nm : n.name.size ≤ 1048576
  tx : n.text.size ≤ 1048576
  rs : n.attrs.length ≤ 1048576
  each : ∀ p ∈ n.attrs, p.1.size ≤ 1099511627776 ∧ p.2.size ≤ 1099511627776
  kl : n.kids.length ≤ 1048576
def goodB (n : PNode) (k : Nat) : Bool := (decide (n.kind = 1) == decide (k = 0)) && nodeB n.kind n.name n.attrs n.text n.kids.length
structure TreeOkP (ns : List PNode) : Prop where
  one : 1 ≤ ns.length
  most : ns.length ≤ 500
  good : ∀ k (h : k < ns.length), goodB ns[k] k = true
  fit : KidsFit ns
  linked : ∀ i, i < ns.length → ∃ d, dep ns d i
end Go.Proofs.YtogdbjafibejdaaGreat

/- Nodes that the call itself made. No condition. -/
namespace Go.Proofs.YtogdbjafibejdaaGreat
open Go.RowKit
set_option maxRecDepth 100000
set_option linter.unusedVariables false

def OwnN (B : Nat) (w : World) (v : Value) (ns : List PNode) : Prop :=
  ∃ qs : List (PNode × (Value × Value)), qs.map (fun q => q.1) = ns ∧ w.ownsRow B 36 6 v ns.length (nodeCells qs) ∧
    ∀ q ∈ qs, w.ownsRow B 115 2 q.2.1 q.1.attrs.length (pairCells q.1.attrs) ∧ Own B 3 .i64 w q.2.2 q.1.kids

theorem OwnN.nodes {B : Nat} {w : World} {v : Value} {ns : List PNode} (h : OwnN B w v ns) : NodesAt w v ns := by
  obtain ⟨qs, h1, h2, h3⟩ := h
  exact ⟨qs, h1, sv_of_own h2, fun q hq => ⟨sv_of_own (h3 q hq).1, (h3 q hq).2.sl⟩⟩
theorem OwnN.below {B : Nat} {w w' : World} {v : Value} {ns : List PNode} (h : OwnN B w v ns) (hb : Below w.heap.size w w') : OwnN B w' v ns := by
  obtain ⟨qs, h1, h2, h3⟩ := h
  exact ⟨qs, h1, ownsRow_below h2 hb, fun q hq => ⟨ownsRow_below (h3 q hq).1 hb, (h3 q hq).2.below hb⟩⟩
theorem ownsRow_base {B B' : Nat} {e : TypeId} {size n : Nat} {w : World} {v : Value} {xs : List Value} (h : w.ownsRow B e size v n xs) (hB : B' ≤ B) : w.ownsRow B' e size v n xs := by
  obtain ⟨hl, hv | ⟨g, cap, cur, hv, hb, r⟩⟩ := h
  · exact ⟨hl, .inl hv⟩
  · exact ⟨hl, .inr ⟨g, cap, cur, hv, Nat.le_trans hB hb, r⟩⟩
theorem OwnN.base {B B' : Nat} {w : World} {v : Value} {ns : List PNode} (h : OwnN B w v ns) (hB : B' ≤ B) : OwnN B' w v ns := by
  obtain ⟨qs, h1, h2, h3⟩ := h
  exact ⟨qs, h1, ownsRow_base h2 hB, fun q hq => ⟨ownsRow_base (h3 q hq).1 hB, (h3 q hq).2.base hB⟩⟩
theorem kept_of_type {B e size n : Nat} {w w' : World} {v : Value} {xs : List Value} {row : Option Nat} (h : w.ownsRow B e size v n xs) (hg : w.grownBy w' row) (hr : ∀ r, row = some r → ∃ cs t fr, w.heap[r]? = some (.cells cs t fr) ∧ t ≠ e) : w'.ownsRow B e size v n xs := by
  refine h.kept hg ?_
  rcases h.2 with ⟨rfl, _⟩ | ⟨g, cap, cur, rfl, _, hh, _⟩
  · exact .inl rfl
  · refine .inr fun er => ?_
    obtain ⟨cs, t, fr, h1, h2⟩ := hr g er.symm
    rw [hh] at h1
    cases h1
    exact h2 rfl
theorem lists_kept {B : Nat} {w w' : World} {v : Value} {n : Nat} {xs : List Value} (hv : w.ownsRow B 36 6 v n xs) (hg : w.grownBy w' v.ownBlock) {q : PNode × (Value × Value)}
    (h : w.ownsRow B 115 2 q.2.1 q.1.attrs.length (pairCells q.1.attrs) ∧ Own B 3 .i64 w q.2.2 q.1.kids) : w'.ownsRow B 115 2 q.2.1 q.1.attrs.length (pairCells q.1.attrs) ∧ Own B 3 .i64 w' q.2.2 q.1.kids := by
  have key : ∀ r, v.ownBlock = some r → ∃ cs fr, w.heap[r]? = some (.cells cs 36 fr) := fun r hr => by
    rcases hv.2 with ⟨rfl, _⟩ | ⟨g, cap, cur, rfl, _, hh, _⟩
    · cases hr
    · cases hr; exact ⟨_, _, hh⟩
  exact ⟨kept_of_type h.1 hg (fun r hr => by obtain ⟨cs, fr, h1⟩ := key r hr; exact ⟨cs, _, fr, h1, by decide⟩), kept_of_type h.2 hg (fun r hr => by obtain ⟨cs, fr, h1⟩ := key r hr; exact ⟨cs, _, fr, h1, by decide⟩)⟩
theorem nodeCells_app (qs rs : List (PNode × (Value × Value))) : nodeCells (qs ++ rs) = nodeCells qs ++ nodeCells rs := by simp [nodeCells]
theorem node_oneCell {B : Nat} {w : World} {q : PNode × (Value × Value)} (h : w.ownsRow B 115 2 q.2.1 q.1.attrs.length (pairCells q.1.attrs) ∧ Own B 3 .i64 w q.2.2 q.1.kids) : ∀ y ∈ nodeRow q.1 q.2, y.oneCell' = true := by
  have one : ∀ {e size n : Nat} {xs : List Value} {u : Value}, w.ownsRow B e size u n xs → u.oneCell' = true := fun h => by
    rcases h.2 with ⟨rfl, _⟩ | ⟨g, cap, cur, rfl, _⟩ <;> rfl
  intro y hy
  simp only [nodeRow, List.mem_cons, List.not_mem_nil, or_false] at hy
  rcases hy with rfl | rfl | rfl | rfl | rfl | rfl
  · rfl
  · rfl
  · exact one h.1
  · rfl
  · rfl
  · exact one h.2
theorem OwnN.snoc {B : Nat} {w w' : World} {v v' : Value} {qs : List (PNode × (Value × Value))} {q : PNode × (Value × Value)} (h2 : w.ownsRow B 36 6 v qs.length (nodeCells qs))
    (h3 : ∀ q ∈ qs, w.ownsRow B 115 2 q.2.1 q.1.attrs.length (pairCells q.1.attrs) ∧ Own B 3 .i64 w q.2.2 q.1.kids) (hq : w.ownsRow B 115 2 q.2.1 q.1.attrs.length (pairCells q.1.attrs) ∧ Own B 3 .i64 w q.2.2 q.1.kids)
    (ho : w'.ownsRow B 36 6 v' (qs.length + 1) (nodeCells qs ++ nodeRow q.1 q.2)) (hg : w.grownBy w' v.ownBlock) : OwnN B w' v' (qs.map (fun q => q.1) ++ [q.1]) := by
  refine ⟨qs ++ [q], by simp, ?_, fun p hp => ?_⟩
  · rw [nodeCells_app]; simpa [nodeCells] using ho
  · rcases List.mem_append.mp hp with hp | hp
    · exact lists_kept h2 hg (h3 p hp)
    · simp at hp; subst hp; exact lists_kept h2 hg hq
theorem OwnN.kept {B : Nat} {w w' : World} {v : Value} {ns : List PNode} {row : Option Nat} (h : OwnN B w v ns) (hg : w.grownBy w' row)
    (hr : ∀ r, row = some r → ∃ cs t fr, w.heap[r]? = some (.cells cs t fr) ∧ t ≠ 36 ∧ t ≠ 115 ∧ t ≠ 3) : OwnN B w' v ns := by
  obtain ⟨qs, h1, h2, h3⟩ := h
  exact ⟨qs, h1, kept_of_type h2 hg (fun r e => by obtain ⟨a, b, c, d, e1, e2, e3⟩ := hr r e; exact ⟨a, b, c, d, e1⟩),
    fun q hq => ⟨kept_of_type (h3 q hq).1 hg (fun r e => by obtain ⟨a, b, c, d, e1, e2, e3⟩ := hr r e; exact ⟨a, b, c, d, e2⟩), kept_of_type (h3 q hq).2 hg (fun r e => by obtain ⟨a, b, c, d, e1, e2, e3⟩ := hr r e; exact ⟨a, b, c, d, e3⟩)⟩⟩
theorem sv_oneNode {w : World} {g : Nat} {q : PNode × (Value × Value)} {t : TypeId} (h : w.heap[g]? = some (.cells (nodeRow q.1 q.2).toArray t (0, 0))) : Sv 6 w (.slice (some ⟨g, 0, none⟩) 1 1) (nodeRow q.1 q.2) := by
  refine ⟨_, 1, 1, rfl, rfl, Nat.le_refl _, by decide, (fun e => by cases e), fun i hi => ⟨g, 0, rfl, ?_⟩⟩
  simp only [World.cell?, h, Nat.zero_add]
  simp [List.getD_eq_getElem?_getD, hi]
end Go.Proofs.YtogdbjafibejdaaGreat

/- Trees that are right as the specification has it, in plain words. No condition. -/
namespace Go.Proofs.YtogdbjafibejdaaGreat
open Go.RowKit
set_option maxRecDepth 100000
set_option linter.unusedVariables false

def STreeOkP (ns : List PNode) : Prop := TreeOkP ns ∧ parOf ns 0 = -1

def SPar (ns : List PNode) (k : Nat) : Prop := -1 ≤ parOf ns k ∧ parOf ns k ≤ ns.length - 1 ∧ (k = 0 → parOf ns k = -1)
theorem tree_par {ns : List PNode} (h : STreeOkP ns) {k : Nat} (hk : k < ns.length) : SPar ns k := by
  obtain ⟨d, hd⟩ := h.1.linked k hk
  refine ⟨?_, ?_, fun e => e ▸ h.2⟩
  all_goals
    cases d with
    | zero => have := hd.2; omega
    | succ d =>
      obtain ⟨p, hp, hm⟩ := hd
      have := fit_kid h.1.fit hm
      rw [show ((k : Int)).toNat = k by simp] at this
      omega
theorem tree_kid {ns : List PNode} (h : STreeOkP ns) {k : Nat} {x : Int} (hx : x ∈ kidsOf ns k) : 1 ≤ x ∧ x ≤ ns.length - 1 := by
  have hk := fit_kid h.1.fit hx
  by_cases e : x = 0
  · have h3 := hk.2.2.2
    rw [e] at h3
    have h4 := h.2
    rw [show (0 : Int).toNat = 0 from rfl] at h3
    omega
  · omega
theorem tree_bad {ns : List PNode} {k : Nat} {pre : List Int} (hk : k < ns.length) (hb : BadPre ns k pre) (hp : pre <+: kidsOf ns k) (hf : ∀ i, i < k → FitPre ns i (kidsOf ns i)) : ¬ STreeOkP ns := fun h => bad_not hk hb hp hf h.1.fit

def StandsN (N : Nat) (ns : List PNode) (k : Nat) (pre : List Int) (arr : Array Value) : Prop := arr.size = N ∧ ∀ j, j < N → ∃ b, arr[j]? = some (.bool b) ∧ (b = true ↔ Stand ns k pre j)
theorem StandsN.snoc {N : Nat} {ns : List PNode} {k : Nat} {pre : List Int} {arr : Array Value} (h : StandsN N ns k pre arr) (j : Nat) (hj : j < N) : StandsN N ns k (pre ++ [(j : Int)]) (arr.setIfInBounds j (.bool true)) := by
  refine ⟨by simpa using h.1, fun i hi => ?_⟩
  by_cases e : j = i
  · subst e
    refine ⟨true, ?_, ?_⟩
    · have := h.1; simp [this, hj]
    · simp [Stand]
  · obtain ⟨b, hb, hs⟩ := h.2 i hi
    refine ⟨b, by rw [Array.getElem?_setIfInBounds]; simp [e, hb], hs.trans ?_⟩
    have : ¬ ((i : Int) = (j : Int)) := by omega
    simp [Stand, this]
theorem StandsN.next {N : Nat} {ns : List PNode} {k : Nat} {arr : Array Value} (h : StandsN N ns k (kidsOf ns k) arr) : StandsN N ns (k + 1) [] arr := by
  refine ⟨h.1, fun i hi => ?_⟩
  obtain ⟨b, hb, hs⟩ := h.2 i hi
  refine ⟨b, hb, hs.trans ?_⟩
  simp only [Stand, List.not_mem_nil, false_or]
  constructor
  · rintro (hm | ⟨j, hj, hm⟩)
    · exact ⟨k, by omega, hm⟩
    · exact ⟨j, by omega, hm⟩
  · rintro ⟨j, hj, hm⟩
    by_cases e : j = k
    · subst e; exact .inl hm
    · exact .inr ⟨j, by omega, hm⟩
theorem standsN_zero (N : Nat) (ns : List PNode) (arr : Array Value) (h : arr = Array.replicate N (.bool false)) : StandsN N ns 0 [] arr := by
  subst h
  refine ⟨by simp, fun j hj => ⟨false, by simp [hj], ?_⟩⟩
  simp [Stand]

def up (ns : List PNode) : Nat → Nat → Int
  | 0, i => i
  | k + 1, i => parOf ns (up ns k i).toNat
theorem up_shift {ns : List PNode} {i p : Nat} (h : parOf ns i = p) : ∀ m, up ns (m + 1) i = up ns m p
  | 0 => by simp [up, h]
  | m + 1 => by
    show parOf ns (up ns (m + 1) i).toNat = parOf ns (up ns m p).toNat
    rw [up_shift h m]
theorem dep_up {ns : List PNode} (hf : KidsFit ns) : ∀ (d i : Nat), dep ns d i → up ns (d + 1) i = -1
  | 0, i, h => by simpa [up] using h.2
  | d + 1, i, ⟨p, hp, hk⟩ => by
    have := (fit_kid hf hk).2.2.2
    rw [show ((i : Int)).toNat = i by simp] at this
    rw [up_shift this, dep_up hf d p hp]
theorem tree_up {ns : List PNode} (h : STreeOkP ns) {i : Nat} (hi : i < ns.length) : ∃ d, d ≤ ns.length ∧ up ns d i < 0 := by
  obtain ⟨d, hd⟩ := h.1.linked i hi
  have := dep_lt h.1.fit hd
  exact ⟨d + 1, by omega, by rw [dep_up h.1.fit d i hd]; omega⟩
theorem tree_seen {ns : List PNode} (h : STreeOkP ns) {i : Nat} (hi : i < ns.length) : Stand ns ns.length [] i ↔ 0 ≤ parOf ns i := by
  obtain ⟨d, hd⟩ := h.1.linked i hi
  constructor
  · rintro (hm | ⟨p, hp, hm⟩)
    · cases hm
    · have := (fit_kid h.1.fit hm).2.2.2
      rw [show ((i : Int)).toNat = i by simp] at this
      omega
  · intro h0
    cases d with
    | zero => have := hd.2; omega
    | succ d =>
      obtain ⟨p, hp, hm⟩ := hd
      exact .inr ⟨p, (fit_kid h.1.fit hm).1, hm⟩
theorem tree_of {ns : List PNode} (h1 : 1 ≤ ns.length) (h5 : ns.length ≤ 500) (hg : ∀ k (h : k < ns.length), goodB ns[k] k = true) (hp : ∀ k, k < ns.length → SPar ns k) (hf : KidsFit ns)
    (hs : ∀ i, i < ns.length → (Stand ns ns.length [] i ↔ 0 ≤ parOf ns i)) (hu : ∀ i, i < ns.length → ∃ d, up ns d i < 0) : STreeOkP ns := by
  refine ⟨⟨h1, h5, hg, hf, ?_⟩, (hp 0 (by omega)).2.2 rfl⟩
  have key : ∀ d i, i < ns.length → up ns d i < 0 → ∃ e, dep ns e i := by
    intro d
    induction d with
    | zero => intro i _ h; simp [up] at h; omega
    | succ d ih =>
      intro i hi h
      by_cases h0 : 0 ≤ parOf ns i
      · obtain ⟨p, hpp⟩ : ∃ p : Nat, parOf ns i = p := ⟨(parOf ns i).toNat, by omega⟩
        rcases (hs i hi).mpr h0 with hm | ⟨q, hq, hm⟩
        · cases hm
        · have := (fit_kid hf hm).2.2.2
          rw [show ((i : Int)).toNat = i by simp] at this
          have : p = q := by omega
          subst this
          rw [up_shift hpp] at h
          obtain ⟨e, he⟩ := ih p hq h
          exact ⟨e + 1, p, he, hm⟩
      · exact ⟨0, hi, by have := (hp i hi).1; omega⟩
  exact fun i hi => by obtain ⟨d, hd⟩ := hu i hi; exact key d i hi hd
end Go.Proofs.YtogdbjafibejdaaGreat

/- The text below a node, in plain words. No condition. -/
namespace Go.Proofs.YtogdbjafibejdaaGreat
open Go.RowKit
set_option maxRecDepth 100000
set_option linter.unusedVariables false
theorem deep_more {ns : List PNode} : ∀ (f g k : Nat), f ≤ g → deepOk ns f k → deepOk ns g k
  | 0, _, _, _, h => h.elim
  | f + 1, 0, _, h, _ => by omega
  | f + 1, g + 1, k, hfg, h => ⟨h.1, fun x hx => ⟨(h.2 x hx).1, deep_more f g x.toNat (by omega) (h.2 x hx).2⟩⟩
theorem tree_deep {ns : List PNode} (h : TreeOkP ns) {k : Nat} (hk : k < ns.length) : deepOk ns ns.length k := by
  obtain ⟨d, hd⟩ := h.linked k hk
  have hlt := dep_lt h.fit hd
  exact deep_more (ns.length - d) ns.length k (by omega) (dep_deep h.fit (ns.length - d) d k (by omega) hd)
theorem down_deeper {ns : List PNode} (hf : KidsFit ns) : ∀ (f d s : Nat), dep ns d s → ∀ x ∈ down ns f s, 0 ≤ x ∧ ∃ e, d ≤ e ∧ dep ns e x.toNat
  | 0, d, s, h, x, hx => by cases hx
  | f + 1, d, s, h, x, hx => by
    rw [down, List.mem_cons] at hx
    rcases hx with rfl | hx
    · exact ⟨by omega, d, Nat.le_refl _, by simpa using h⟩
    · obtain ⟨y, hy, hx⟩ := List.mem_flatMap.mp hx
      obtain ⟨j1, j2, j3, j4⟩ := fit_kid hf hy
      have hd : dep ns (d + 1) y.toNat := ⟨s, h, by rw [Int.toNat_of_nonneg j2]; exact hy⟩
      obtain ⟨h0, e, he, hde⟩ := down_deeper hf f (d + 1) y.toNat hd x hx
      exact ⟨h0, e, by omega, hde⟩
theorem down_once {ns : List PNode} (hf : KidsFit ns) {f s d : Nat} (hs : dep ns d s) (hdp : deepOk ns f s) : ∀ (e i : Nat), dep ns e i → (down ns f s).count (i : Int) ≤ 1
  | 0, i, h => by
    have hk : ∀ p, (i : Int) ∉ kidsOf ns p := fun p hp => by
      have := (fit_kid hf hp).2.2.2
      simp only [Int.toNat_natCast] at this
      rw [h.2] at this
      omega
    rw [down_root hf hk f s hdp]
    split <;> omega
  | e + 1, i, h => by
    obtain ⟨p, hp, hk⟩ := h
    rw [down_count hf hk f s hdp]
    by_cases his : i = s
    · subst his
      have h0 : (down ns f i).count (p : Int) = 0 := by
        rw [List.count_eq_zero]
        intro hm
        obtain ⟨_, e', he', hde⟩ := down_deeper hf f d i hs (p : Int) hm
        simp only [Int.toNat_natCast] at hde
        have e1 := dep_uniq hf e e' p hp hde
        have e2 := dep_uniq hf d (e + 1) i hs ⟨p, hp, hk⟩
        omega
      rw [h0]
      simp
    · rw [if_neg his]
      exact down_once hf hs hdp e p hp
theorem down_few {ns : List PNode} (h : TreeOkP ns) {k : Nat} (hk : k < ns.length) : (down ns ns.length k).length ≤ ns.length := by
  obtain ⟨d, hd⟩ := h.linked k hk
  have hin : ∀ x ∈ down ns ns.length k, 0 ≤ x ∧ x < ns.length ∧ ∃ e, dep ns e x.toNat := down_dep h.fit ns.length d k hd
  refine nodup_le ns.length _ ?_ (fun x hx => ⟨(hin x hx).1, (hin x hx).2.1⟩)
  rw [List.nodup_iff_count]
  intro x
  by_cases hx : x ∈ down ns ns.length k
  · obtain ⟨j1, j2, e, he⟩ := hin x hx
    have := down_once h.fit hd (tree_deep h hk) e x.toNat he
    rwa [Int.toNat_of_nonneg j1] at this
  · rw [List.count_eq_zero.mpr hx]; omega
end Go.Proofs.YtogdbjafibejdaaGreat

/- A tree with a node more behind, in plain words. No condition. -/
namespace Go.Proofs.YtogdbjafibejdaaGreat
open Go.RowKit
set_option maxRecDepth 100000
set_option linter.unusedVariables false
end Go.Proofs.YtogdbjafibejdaaGreat

/- The specification's l6Node. No condition. -/
namespace Go.Proofs.YtogdbjafibejdaaGreat
open Go.RowKit
set_option maxRecDepth 100000
set_option linter.unusedVariables false

set_option maxHeartbeats 1000000 in
theorem snode_page {w : World} (nm tx : ByteArray) (p : Int) {a ka : Option Addr} {na ca nk kc : Nat} :
    Calls Tryz.prog 58 #[.agg #[.int .i64 1, .string nm, .slice a na ca, .string tx, .int .i64 p, .slice ka nk kc]] w fun e w' => e = .returned (.bool (empB nm && decide (na = 0) && empB tx)) ∧ Below w.heap.size w w' := by
  unfold empB
  by_cases hnm : nm.toList = [] <;> by_cases htx : tx.toList = [] <;> by_cases hna : na = 0
  all_goals (go_enter Tryz.func58, Tryz.ntmps58; go_wp2)
  all_goals (go_ret; exact ⟨ret_bool (by simp [*]), (Below.refl _ _).alloc (Nat.le_refl _) _⟩)

set_option maxHeartbeats 1000000 in
theorem snode_other {w : World} (nm tx : ByteArray) (p : Int) {a ka : Option Addr} {na ca nk kc : Nat} (k : Int) (h1 : k ≠ 1) (h2 : k ≠ 2) (h3 : k ≠ 3) (h4 : k ≠ 4) (h5 : k ≠ 5) :
    Calls Tryz.prog 58 #[.agg #[.int .i64 (k), .string nm, .slice a na ca, .string tx, .int .i64 p, .slice ka nk kc]] w fun e w' => e = .returned (.bool (false)) ∧ Below w.heap.size w w' := by
  by_cases hnm : nm.toList = [] <;> by_cases htx : tx.toList = []
  all_goals (go_enter Tryz.func58, Tryz.ntmps58; go_wp2)
  all_goals (go_ret; exact ⟨ret_bool (by simp), (Below.refl _ _).alloc (Nat.le_refl _) _⟩)

set_option maxHeartbeats 1000000 in
theorem snode_doc {w : World} (nm tx : ByteArray) (p : Int) {a ka : Option Addr} {na ca nk kc : Nat} (hnm : nm.size ≤ 1048576) (htx : tx.size ≤ 1048576) :
    Calls Tryz.prog 58 #[.agg #[.int .i64 2, .string nm, .slice a na ca, .string tx, .int .i64 p, .slice ka nk kc]] w fun e w' => e = .returned (.bool ((decide (nm.size ≤ 60) && utfOk (bs nm)) && decide (na = 0) && empB tx && decide (nk = 0))) ∧ Below w.heap.size w w' := by
  have hy0 : (w.alloc (.cells #[.int .i64 2, .string nm, .slice a na ca, .string tx, .int .i64 p, .slice ka nk kc] 36)).heap[w.heap.size]? = some (.cells #[.int .i64 2, .string nm, .slice a na ca, .string tx, .int .i64 p, .slice ka nk kc] 36 (0, 0)) := World.alloc_heap_new _ _
  have HY0 := (show Hid _ from hy0)
  have c1 := fun w => l1Ok_any nm w (by omega)
  obtain ⟨u, eu⟩ : ∃ u, u = utfOk (bs nm) := ⟨_, rfl⟩
  rw [← eu] at c1 ⊢
  have C1 := (show Hid _ from c1)
  clear c1 eu hy0
  unfold empB
  by_cases hn0 : nm.toList = [] <;> by_cases ht0 : tx.toList = [] <;> by_cases hna : na = 0 <;> by_cases h60 : nm.size ≤ 60
  all_goals (go_enter Tryz.func58, Tryz.ntmps58; go_wp2_with fail)
  all_goals first
    | (go_ret; exact ⟨ret_bool (by simp [*]), (Below.refl _ _).alloc (Nat.le_refl _) _⟩)
    | (go_at_call 71
       refine (C1.out _).mono ?_
       rintro e w3 ⟨rfl, b3⟩
       have hy := (b3.block w.heap.size (by simp)).trans (World.alloc_heap_new _ _)
       have y5 : w3.cell? ⟨w.heap.size, 5, none⟩ = some (.slice ka nk kc) := by simp only [World.cell?, hy]; rfl
       replace b3 := ((Below.refl w.heap.size w).alloc (Nat.le_refl _) _).trans (b3.mono (by simp))
       clear hy HY0
       cases u <;> go_wp2
       all_goals (go_ret; exact ⟨ret_bool (by first | (simp [*]; done) | simp [*, natb0]), b3⟩))

set_option maxHeartbeats 1000000 in
theorem snode_text {w : World} (nm tx : ByteArray) (p : Int) {a ka : Option Addr} {na ca nk kc : Nat} (hnm : nm.size ≤ 1048576) (htx : tx.size ≤ 1048576) :
    Calls Tryz.prog 58 #[.agg #[.int .i64 4, .string nm, .slice a na ca, .string tx, .int .i64 p, .slice ka nk kc]] w fun e w' => e = .returned (.bool (!empB tx && utfOk (bs tx) && empB nm && decide (na = 0) && decide (nk = 0))) ∧ Below w.heap.size w w' := by
  have hy0 : (w.alloc (.cells #[.int .i64 4, .string nm, .slice a na ca, .string tx, .int .i64 p, .slice ka nk kc] 36)).heap[w.heap.size]? = some (.cells #[.int .i64 4, .string nm, .slice a na ca, .string tx, .int .i64 p, .slice ka nk kc] 36 (0, 0)) := World.alloc_heap_new _ _
  have HY0 := (show Hid _ from hy0)
  have c1 := fun w => l1Ok_any tx w (by omega)
  obtain ⟨u, eu⟩ : ∃ u, u = utfOk (bs tx) := ⟨_, rfl⟩
  rw [← eu] at c1 ⊢
  have C1 := (show Hid _ from c1)
  clear c1 eu hy0
  unfold empB
  by_cases hn0 : nm.toList = [] <;> by_cases ht0 : tx.toList = [] <;> by_cases hna : na = 0
  all_goals (go_enter Tryz.func58, Tryz.ntmps58; go_wp2_with fail)
  all_goals first
    | (go_ret; exact ⟨ret_bool (by simp [*]), (Below.refl _ _).alloc (Nat.le_refl _) _⟩)
    | (go_at_call 71
       refine (C1.out _).mono ?_
       rintro e w3 ⟨rfl, b3⟩
       have hy := (b3.block w.heap.size (by simp)).trans (World.alloc_heap_new _ _)
       have y5 : w3.cell? ⟨w.heap.size, 5, none⟩ = some (.slice ka nk kc) := by simp only [World.cell?, hy]; rfl
       replace b3 := ((Below.refl w.heap.size w).alloc (Nat.le_refl _) _).trans (b3.mono (by simp))
       clear hy HY0
       cases u <;> go_wp2
       all_goals (go_ret; exact ⟨ret_bool (by first | (simp [*]; done) | simp [*, natb0]), b3⟩))

set_option maxHeartbeats 1000000 in
theorem snode_com {w : World} (nm tx : ByteArray) (p : Int) {a ka : Option Addr} {na ca nk kc : Nat} (hnm : nm.size ≤ 1048576) (htx : tx.size ≤ 1048576) :
    Calls Tryz.prog 58 #[.agg #[.int .i64 5, .string nm, .slice a na ca, .string tx, .int .i64 p, .slice ka nk kc]] w fun e w' => e = .returned (.bool (utfOk (bs tx) && empB nm && decide (na = 0) && decide (nk = 0))) ∧ Below w.heap.size w w' := by
  have hy0 : (w.alloc (.cells #[.int .i64 5, .string nm, .slice a na ca, .string tx, .int .i64 p, .slice ka nk kc] 36)).heap[w.heap.size]? = some (.cells #[.int .i64 5, .string nm, .slice a na ca, .string tx, .int .i64 p, .slice ka nk kc] 36 (0, 0)) := World.alloc_heap_new _ _
  have HY0 := (show Hid _ from hy0)
  have c1 := fun w => l1Ok_any tx w (by omega)
  obtain ⟨u, eu⟩ : ∃ u, u = utfOk (bs tx) := ⟨_, rfl⟩
  rw [← eu] at c1 ⊢
  have C1 := (show Hid _ from c1)
  clear c1 eu hy0
  unfold empB
  by_cases hn0 : nm.toList = [] <;> by_cases ht0 : tx.toList = [] <;> by_cases hna : na = 0
  all_goals (go_enter Tryz.func58, Tryz.ntmps58; go_wp2_with fail)
  all_goals first
    | (go_ret; exact ⟨ret_bool (by simp [*]), (Below.refl _ _).alloc (Nat.le_refl _) _⟩)
    | (go_at_call 71
       refine (C1.out _).mono ?_
       rintro e w3 ⟨rfl, b3⟩
       have hy := (b3.block w.heap.size (by simp)).trans (World.alloc_heap_new _ _)
       have y5 : w3.cell? ⟨w.heap.size, 5, none⟩ = some (.slice ka nk kc) := by simp only [World.cell?, hy]; rfl
       replace b3 := ((Below.refl w.heap.size w).alloc (Nat.le_refl _) _).trans (b3.mono (by simp))
       clear hy HY0
       cases u <;> go_wp2
       all_goals (go_ret; exact ⟨ret_bool (by first | (simp [*]; done) | simp [*, natb0]), b3⟩))

set_option maxHeartbeats 1000000 in
theorem snode_elem {w : World} (nm tx : ByteArray) (p : Int) {a ka : Option Addr} {na ca nk kc : Nat} {rs : List (ByteArray × ByteArray)} (hav : Sv 2 w (.slice a na ca) (pairCells rs)) (hnm : nm.size ≤ 1048576) (htx : tx.size ≤ 1048576) (hrs : rs.length ≤ 1048576) (hrr : ∀ p ∈ rs, p.1.size ≤ 1099511627776 ∧ p.2.size ≤ 1099511627776) :
    Calls Tryz.prog 58 #[.agg #[.int .i64 3, .string nm, .slice a na ca, .string tx, .int .i64 p, .slice ka nk kc]] w fun e w' => e = .returned (.bool (nameOk (bs nm) && attrsOk rs && empB tx)) ∧ Below w.heap.size w w' := by
  have b1 : Below w.heap.size w (w.alloc (.cells #[.int .i64 3, .string nm, .slice a na ca, .string tx, .int .i64 p, .slice ka nk kc] 36)) := (Below.refl _ _).alloc (Nat.le_refl _) _
  have hy0 : (w.alloc (.cells #[.int .i64 3, .string nm, .slice a na ca, .string tx, .int .i64 p, .slice ka nk kc] 36)).heap[w.heap.size]? = some (.cells #[.int .i64 3, .string nm, .slice a na ca, .string tx, .int .i64 p, .slice ka nk kc] 36 (0, 0)) := World.alloc_heap_new _ _
  have HY0 := (show Hid _ from hy0)
  have c1 := fun w => snameOk_any nm w (by omega)
  have c2 : ∀ w', Below w.heap.size w w' → Calls Tryz.prog 108 #[.slice a na ca] w' fun e w'' => e = .returned (.bool (attrsOk rs)) ∧ Below w'.heap.size w' w'' := fun w' hb => sattrsOk_any (hav.below hb) (by omega) hrr
  obtain ⟨u, eu⟩ : ∃ u, u = nameOk (bs nm) := ⟨_, rfl⟩
  obtain ⟨u2, eu2⟩ : ∃ u2, u2 = attrsOk rs := ⟨_, rfl⟩
  rw [← eu] at c1 ⊢
  rw [← eu2] at c2 ⊢
  have C1 := (show Hid _ from c1)
  have C2 := (show Hid _ from c2)
  clear c1 c2 eu eu2 hy0 hav hrr
  unfold empB
  by_cases hn0 : nm.toList = [] <;> by_cases ht0 : tx.toList = []
  all_goals (go_enter Tryz.func58, Tryz.ntmps58; go_wp2_with fail)
  all_goals first
    | (go_ret; exact ⟨ret_bool (by simp [*]), b1⟩)
    | (go_at_call 107
       refine (C1.out _).mono ?_
       rintro e w3 ⟨rfl, b3⟩
       have hy := (b3.block w.heap.size (by simp)).trans HY0.out
       have y2 : w3.cell? ⟨w.heap.size, 2, none⟩ = some (.slice a na ca) := by simp only [World.cell?, hy]; rfl
       replace b3 := b1.trans (b3.mono b1.size)
       clear hy HY0
       cases u
       · go_wp2
         go_ret
         exact ⟨ret_bool (by simp), b3⟩
       · go_wp2_with fail
         go_at_call 108
         refine (C2.out _ b3).mono ?_
         rintro e w4 ⟨rfl, b4⟩
         replace b4 := b3.trans (b4.mono b3.size)
         go_wp2
         go_ret
         exact ⟨ret_bool (by simp [*]), b4⟩)

theorem snodeOk_any {w : World} (k : Int) (nm tx : ByteArray) (p : Int) {a ka : Option Addr} {na ca nk kc : Nat} {rs : List (ByteArray × ByteArray)} (hav : Sv 2 w (.slice a na ca) (pairCells rs)) (hnm : nm.size ≤ 1048576) (htx : tx.size ≤ 1048576) (hrs : rs.length ≤ 1048576) (hrr : ∀ p ∈ rs, p.1.size ≤ 1099511627776 ∧ p.2.size ≤ 1099511627776) :
    Calls Tryz.prog 58 #[.agg #[.int .i64 k, .string nm, .slice a na ca, .string tx, .int .i64 p, .slice ka nk kc]] w fun e w' => e = .returned (.bool (nodeB k nm rs tx nk)) ∧ Below w.heap.size w w' := by
  obtain ⟨_, _, ev, _⟩ := hav.pair
  have hna : na = rs.length := by cases ev; rfl
  unfold nodeB
  by_cases h1 : k = 1
  · subst h1
    rw [if_pos rfl, ← hna]
    exact snode_page nm tx p
  rw [if_neg h1]
  by_cases h2 : k = 2
  · subst h2
    rw [if_pos rfl, ← hna]
    exact snode_doc nm tx p hnm htx
  rw [if_neg h2]
  by_cases h3 : k = 3
  · subst h3
    rw [if_pos rfl]
    exact snode_elem nm tx p hav hnm htx hrs hrr
  rw [if_neg h3]
  by_cases h4 : k = 4
  · subst h4
    rw [if_pos rfl, ← hna]
    exact snode_text nm tx p hnm htx
  rw [if_neg h4]
  by_cases h5 : k = 5
  · subst h5
    rw [if_pos rfl, ← hna]
    exact snode_com nm tx p hnm htx
  rw [if_neg h5]
  exact snode_other nm tx p k h1 h2 h3 h4 h5
end Go.Proofs.YtogdbjafibejdaaGreat

/- The program's TreeOk. No condition. -/
namespace Go.Proofs.YtogdbjafibejdaaGreat
open Go.RowKit
set_option maxRecDepth 100000
set_option linter.unusedVariables false

theorem eq_kinds (k0 : Int) (k : Nat) : (decide (k0 = 1) == decide (k = 0)) = decide ((k0 == 1) = ((k : Int) == 0)) := by
  rw [show (k0 == 1) = decide (k0 = 1) from rfl, show ((k : Int) == 0) = decide ((k : Int) = 0) from rfl]
  by_cases h1 : k0 = 1 <;> by_cases h2 : k = 0 <;> simp [h1, h2]

set_option maxHeartbeats 1000000 in
theorem itreeOk_any {w : World} {v : Value} {ns : List PNode} (hn : NodesAt w v ns) (hfit : ∀ n ∈ ns, NodeFit n) (hlen : ns.length ≤ 1048576) :
    Calls Tryz.prog 15 #[.agg #[v]] w fun e w' => ∃ r, e = .returned (.bool r) ∧ (r = true ↔ TreeOkP ns) ∧ Below w.heap.size w w' := by
  have HN := (show Hid (NodesAt w v ns) from hn)
  have HFIT := (show Hid (∀ n ∈ ns, NodeFit n) from hfit)
  obtain ⟨a, cap, rfl, hc1, hc2, hcs⟩ := hn.slice
  by_cases h1 : ns.length < 1
  · have hF : Hid (¬ TreeOkP ns) := fun h => by have := h.one; omega
    have h10 : ns.length = 0 := by omega
    clear hcs hn hfit
    go_enter Tryz.func15, Tryz.ntmps15
    go_wp2
    go_ret
    exact ⟨false, rfl, by simpa using hF.out, (Below.refl _ _).alloc (Nat.le_refl _) _⟩
  by_cases h5 : 500 < ns.length
  · have hF : Hid (¬ TreeOkP ns) := fun h => by have := h.most; omega
    clear hcs hn hfit
    go_enter Tryz.func15, Tryz.ntmps15
    go_wp2
    go_ret
    exact ⟨false, rfl, by simpa using hF.out, (Below.refl _ _).alloc (Nat.le_refl _) _⟩
  obtain ⟨b, off, _, _, rfl, hblt, _⟩ := hcs 0 (by omega)
  have HCS := (show Hid (∀ k (hk : k < ns.length), ∃ av kv, Sv 2 w av (pairCells ns[k].attrs) ∧ Sl .i64 w kv ns[k].kids ∧ w.cell? ⟨b, off + k * 6, none⟩ = some (.int .i64 ns[k].kind) ∧ w.cell? ⟨b, off + k * 6 + 1, none⟩ = some (.string ns[k].name) ∧ w.cell? ⟨b, off + k * 6 + 2, none⟩ = some av ∧ w.cell? ⟨b, off + k * 6 + 3, none⟩ = some (.string ns[k].text) ∧ w.cell? ⟨b, off + k * 6 + 4, none⟩ = some (.int .i64 ns[k].parent) ∧ w.cell? ⟨b, off + k * 6 + 5, none⟩ = some kv) from fun k hk => by
    obtain ⟨_, _, av, kv, e, _, c0, c1, c2, c3, c4, c5, hav, hkv⟩ := hcs k hk
    cases e
    exact ⟨av, kv, hav, hkv, c0, c1, c2, c3, c4, c5⟩)
  clear hcs hn hfit
  obtain ⟨w1, hw1⟩ : ∃ w1, w1 = w.alloc (.cells #[.slice (some ⟨b, off, none⟩) ns.length cap] 26) := ⟨_, rfl⟩
  have b1 : Below w.heap.size w w1 := by rw [hw1]; exact (Below.refl _ _).alloc (Nat.le_refl _) _
  have g1 : w1.heap[w.heap.size]? = some (.cells #[.slice (some ⟨b, off, none⟩) ns.length cap] 26 (0, 0)) := by rw [hw1]; exact World.alloc_heap_new _ _
  have HG1 := (show Hid _ from g1)
  clear g1
  go_enter Tryz.func15, Tryz.ntmps15
  go_wp2
  rw [← hw1]
  clear hw1
  go_loopw [19] (fun i wr => ∃ k : Nat, k ≤ ns.length ∧ i = .int .i64 k ∧ (∀ j (h : j < ns.length), j < k → goodB ns[j] j = true) ∧ Below w1.heap.size w1 wr) (fun i _ => ns.length - (intOf i).toNat)
  case atStart => exact ⟨0, Nat.zero_le _, rfl, fun j _ hj => absurd hj (Nat.not_lt_zero j), Below.refl _ _⟩
  case round =>
    obtain ⟨k, hk, rfl, hgood, bel⟩ := hrel
    have HGD := (show Hid (∀ j (h : j < ns.length), j < k → goodB ns[j] j = true) from hgood)
    have hb := b1.trans (bel.mono b1.size)
    clear hgood
    by_cases hlt : k < ns.length
    · obtain ⟨av, kv, hav, hkv, c0, c1, c2, c3, c4, c5⟩ := HCS.out k hlt
      replace c0 := (hb.cell (p := ⟨b, off + k * 6, none⟩) hblt).trans c0
      replace c1 := (hb.cell (p := ⟨b, off + k * 6 + 1, none⟩) hblt).trans c1
      replace c2 := (hb.cell (p := ⟨b, off + k * 6 + 2, none⟩) hblt).trans c2
      replace c3 := (hb.cell (p := ⟨b, off + k * 6 + 3, none⟩) hblt).trans c3
      replace c4 := (hb.cell (p := ⟨b, off + k * 6 + 4, none⟩) hblt).trans c4
      replace c5 := (hb.cell (p := ⟨b, off + k * 6 + 5, none⟩) hblt).trans c5
      have hav' := hav.below hb
      obtain ⟨av1, av2, av3, rfl, _⟩ := hav
      obtain ⟨kv1, kv3, rfl, _⟩ := hkv
      have hnf := HFIT.out ns[k] (List.getElem_mem hlt)
      have CN := (show Hid (∀ w', Below wr.heap.size wr w' → Calls Tryz.prog 59 #[.agg #[.int .i64 ns[k].kind, .string ns[k].name, .slice av1 av2 av3, .string ns[k].text, .int .i64 ns[k].parent, .slice kv1 ns[k].kids.length kv3]] w' fun e w'' => e = .returned (.bool (nodeB ns[k].kind ns[k].name ns[k].attrs ns[k].text ns[k].kids.length)) ∧ Below w'.heap.size w' w'') from fun w' hb' => inodeOk_any _ _ _ _ (hav'.below hb') hnf.nm hnf.tx hnf.rs hnf.each)
      have HGK : Hid (goodB ns[k] k = ((decide (ns[k].kind = 1) == decide (k = 0)) && nodeB ns[k].kind ns[k].name ns[k].attrs ns[k].text ns[k].kids.length)) := rfl
      have HBAD : Hid (goodB ns[k] k = false → ¬ TreeOkP ns) := fun h ht => by have := ht.good k hlt; rw [h] at this; cases this
      have HSUC : Hid (goodB ns[k] k = true → ∀ j (h : j < ns.length), j < k + 1 → goodB ns[j] j = true) := fun h j hj hjk => by
        by_cases e : j = k
        · subst e; exact h
        · exact HGD.out j hj (by omega)
      obtain ⟨gk, hgk⟩ : ∃ gk, gk = goodB ns[k] k := ⟨_, rfl⟩
      rw [← hgk] at HGK HBAD HSUC
      obtain ⟨nb, hnb⟩ : ∃ nb, nb = nodeB ns[k].kind ns[k].name ns[k].attrs ns[k].text ns[k].kids.length := ⟨_, rfl⟩
      rw [← hnb] at HGK CN
      obtain ⟨k0, hk0⟩ : ∃ k0, k0 = ns[k].kind := ⟨_, rfl⟩
      obtain ⟨k1, hk1⟩ : ∃ k1, k1 = ns[k].name := ⟨_, rfl⟩
      obtain ⟨k3, hk3⟩ : ∃ k3, k3 = ns[k].text := ⟨_, rfl⟩
      obtain ⟨k4, hk4⟩ : ∃ k4, k4 = ns[k].parent := ⟨_, rfl⟩
      obtain ⟨kl, hkl⟩ : ∃ kl, kl = ns[k].kids.length := ⟨_, rfl⟩
      rw [← hk0] at c0 HGK CN
      rw [← hk1] at c1 CN
      rw [← hk3] at c3 CN
      rw [← hk4] at c4 CN
      rw [← hkl] at c5 CN
      clear hgk hnb hk0 hk1 hk3 hk4 hkl hnf hav'
      obtain ⟨wx, hwx⟩ : ∃ wx, wx = wr.alloc (.cells #[.int .i64 k0, .string k1, .slice av1 av2 av3, .string k3, .int .i64 k4, .slice kv1 kl kv3] 36) := ⟨_, rfl⟩
      have bx : Below wr.heap.size wr wx := by rw [hwx]; exact (Below.refl _ _).alloc (Nat.le_refl _) _
      have HBX := (show Hid (Below wr.heap.size wr wx) from bx)
      have HQ : Hid ((decide (k0 = 1) == decide (k = 0)) = decide ((k0 == 1) = ((k : Int) == 0))) := eq_kinds k0 k
      rw [HQ.out] at HGK
      have hrs := HG1.out
      clear HQ hrs
      by_cases hq : (k0 == 1) = ((k : Int) == 0)
      · have HGQ : Hid (gk = nb) := HGK.out.trans (by rw [decide_eq_true hq]; exact Bool.true_and nb)
        go_wp2_with fail
        go_at_call 59
        rw [← hwx]
        refine (CN.out _ bx).mono ?_
        rintro e w2 ⟨rfl, b2⟩
        replace b2 := HBX.out.trans (b2.mono HBX.out.size)
        have HB2 := (show Hid (Below wr.heap.size wr w2) from b2)
        clear bx b2 hwx
        cases nb
        · go_wp2
          go_ret
          exact ⟨false, rfl, by simpa using HBAD.out HGQ.out, hb.trans (HB2.out.mono hb.size)⟩
        · go_wp2
          go_roundw
          case rel => exact ⟨k + 1, by omega, by go_num, HSUC.out HGQ.out, bel.trans (HB2.out.mono bel.size)⟩
          case measure => simp [intOf]; omega
      · have HBQ : Hid (¬ TreeOkP ns) := HBAD.out (HGK.out.trans (by rw [decide_eq_false hq]; rfl))
        go_wp2
        rw [← hwx]
        go_ret
        exact ⟨false, rfl, by simpa using HBQ.out, hb.trans (HBX.out.mono hb.size)⟩
    · have hke : k = ns.length := by omega
      have HALL : Hid (∀ j (h : j < ns.length), goodB ns[j] j = true) := fun j h => HGD.out j h (by omega)
      have g1 := (bel.block _ (blk_lt HG1.out)).trans HG1.out
      have cT : wr.cell? ⟨w.heap.size, 0, none⟩ = some (.slice (some ⟨b, off, none⟩) ns.length cap) := by simp only [World.cell?, g1]; rfl
      clear g1 HGD
      go_wp2_with fail
      obtain ⟨wA, hwA⟩ : ∃ wA, wA = wr.alloc (.cells #[.slice (some ⟨b, off, none⟩) ns.length cap] 77) := ⟨_, rfl⟩
      have bA : Below wr.heap.size wr wA := by rw [hwA]; exact (Below.refl _ _).alloc (Nat.le_refl _) _
      have hsA : wr.heap.size < wA.heap.size := by rw [hwA]; simp
      have gA : wA.heap[wr.heap.size]? = some (.cells #[.slice (some ⟨b, off, none⟩) ns.length cap] 77 (0, 0)) := by rw [hwA]; exact World.alloc_heap_new _ _
      have cA : wA.cell? ⟨wr.heap.size, 0, none⟩ = some (.slice (some ⟨b, off, none⟩) ns.length cap) := by simp only [World.cell?, gA]; rfl
      have bwA : Below w.heap.size w wA := hb.trans (bA.mono hb.size)
      have CF := (show Hid _ from kidsFit_any (HN.out.below bwA) hsA cA (by omega) (by omega))
      have CR := (show Hid (∀ w', Below wA.heap.size wA w' → KidsFit ns → Calls Tryz.prog 61 #[.pointer (some ⟨wr.heap.size, 0, none⟩)] w' fun e w'' => e = .returned (.bool (decide (reachN ns ns.length ns.length = ns.length))) ∧ Below w'.heap.size w' w'') from fun w' b' hkf =>
        allReached_any (f := ns.length) ((HN.out.below bwA).below b') (Nat.lt_of_lt_of_le hsA b'.size) ((b'.cell (p := ⟨wr.heap.size, 0, none⟩) hsA).trans cA) (by omega) (by omega) (deep_of_fit hkf) (by have := reach_le hkf; omega))
      go_at_call 60
      rw [← hwA]
      clear hwA gA cA
      refine Calls.mono CF.out ?_
      rintro e w2 ⟨r1, rfl, hr1, b2⟩
      have HR1 := (show Hid (r1 = true ↔ KidsFit ns) from hr1)
      have HB2 := (show Hid (Below wA.heap.size wA w2) from b2)
      have HBW := (show Hid (Below w.heap.size w w2) from bwA.trans (b2.mono bwA.size))
      clear hr1 b2
      cases r1
      · go_wp2
        go_ret
        have hno : ¬ TreeOkP ns := fun h => Bool.false_ne_true (HR1.out.mpr h.fit)
        exact ⟨false, rfl, ⟨fun h => (by cases h), fun h => absurd h hno⟩, HBW.out⟩
      · have hkf := HR1.out.mp rfl
        have HRI := (show Hid _ from reach_iff hkf)
        have C2 := CR.out w2 HB2.out hkf
        obtain ⟨r2, hr2⟩ : ∃ r2, r2 = decide (reachN ns ns.length ns.length = ns.length) := ⟨_, rfl⟩
        rw [← hr2] at C2
        have HR2 := (show Hid _ from hr2)
        have HC2 := (show Hid _ from C2)
        clear hr2 C2
        go_wp2_with fail
        go_at_call 61
        refine Calls.mono HC2.out ?_
        rintro e w3 ⟨rfl, b3⟩
        go_wp2
        go_ret
        refine ⟨r2, rfl, ?_, HBW.out.trans (b3.mono HBW.out.size)⟩
        rw [HR2.out, decide_eq_true_iff, HRI.out]
        exact ⟨fun h => ⟨by omega, by omega, HALL.out, hkf, h⟩, fun h => h.linked⟩
end Go.Proofs.YtogdbjafibejdaaGreat

/- The specification's l6Copy. No condition. -/
namespace Go.Proofs.YtogdbjafibejdaaGreat
open Go.RowKit
set_option maxRecDepth 100000
set_option linter.unusedVariables false

theorem blk_type {k : Nat} {cs : Array Value} {t : TypeId} {fr : Nat × Nat} {W W' : World} {row : Option Nat} (h : W.heap[k]? = some (.cells cs t fr)) (hg : W.grownBy W' row) (hr : ∀ r, row = some r → ∃ cs' t' fr', W.heap[r]? = some (.cells cs' t' fr') ∧ t' ≠ t) : W'.heap[k]? = some (.cells cs t fr) := by
  rw [hg.block k (blk_lt h) (fun e => by
    obtain ⟨cs', t', fr', h1, h2⟩ := hr k e.symm
    rw [h] at h1; cases h1; exact h2 rfl)]
  exact h
theorem row_type {B e size n : Nat} {w : World} {v : Value} {xs : List Value} (h : w.ownsRow B e size v n xs) {t : TypeId} (ht : e ≠ t) : ∀ r, v.ownBlock = some r → ∃ cs' t' fr', w.heap[r]? = some (.cells cs' t' fr') ∧ t' ≠ t := fun r hr => by
  rcases h.2 with ⟨rfl, _⟩ | ⟨g, cap, cur, rfl, _, hh, _⟩
  · cases hr
  · cases hr; exact ⟨_, _, _, hh, ht⟩

theorem own_slice {B e size n : Nat} {w : World} {v : Value} {xs : List Value} (h : w.ownsRow B e size v n xs) : ∃ a m c, v = .slice a m c := by
  rcases h.2 with ⟨rfl, _⟩ | ⟨g, cap, cur, rfl, _⟩
  · exact ⟨_, _, _, rfl⟩
  · exact ⟨_, _, _, rfl⟩

theorem Tryz.infoAttrRow : (Tryz.prog.info? 115).map (fun i => (i.zero, i.size, i.bytes)) = some (some (.agg #[.string ⟨#[]⟩, .string ⟨#[]⟩]), 2, 32) := by kernel_rfl
theorem Tryz.infoIntRow : (Tryz.prog.info? 3).map (fun i => (i.zero, i.size, i.bytes)) = some (some (.int .i64 0), 1, 8) := by kernel_rfl
theorem Tryz.infoNodeRow : (Tryz.prog.info? 36).map (fun i => (i.zero, i.size, i.bytes)) = some (some (.agg #[.int .i64 0, .string ⟨#[]⟩, .slice none 0 0, .string ⟨#[]⟩, .int .i64 0, .slice none 0 0]), 6, 96) := by kernel_rfl

end Go.Proofs.YtogdbjafibejdaaGreat

/- A node that is hung below another one, or taken from where it stands, in plain words. No condition. -/
namespace Go.Proofs.YtogdbjafibejdaaGreat
open Go.RowKit
set_option maxRecDepth 100000
set_option linter.unusedVariables false

def setPar (n : PNode) (x : Int) : PNode := ⟨n.kind, n.name, n.attrs, n.text, x, n.kids⟩
def setKids (n : PNode) (ks : List Int) : PNode := ⟨n.kind, n.name, n.attrs, n.text, n.parent, ks⟩
def cutN (ns : List PNode) (c : Nat) : List PNode := if parOf ns c = -1 then ns else ns.modify (parOf ns c).toNat fun n => setKids n (lessL (c : Int) n.kids)
def takeN (ns : List PNode) (c : Nat) : List PNode := (cutN ns c).modify c fun n => setPar n (-1)
def hangN (ns : List PNode) (c p : Nat) : List PNode := ((takeN ns c).modify c fun n => setPar n (p : Int)).modify p fun n => setKids n (n.kids ++ [(c : Int)])

theorem cutN_len (ns : List PNode) (c : Nat) : (cutN ns c).length = ns.length := by unfold cutN; split <;> simp
theorem takeN_len (ns : List PNode) (c : Nat) : (takeN ns c).length = ns.length := by simp [takeN, cutN_len]
theorem hangN_len (ns : List PNode) (c p : Nat) : (hangN ns c p).length = ns.length := by simp [hangN, takeN_len]

theorem parOf_setPar (ns : List PNode) (c k : Nat) (x : Int) (hc : c < ns.length) : parOf (ns.modify c fun n => setPar n x) k = if c = k then x else parOf ns k := by
  simp only [parOf, List.getElem?_modify]
  by_cases h : c = k
  · subst h; simp [hc, setPar]
  · simp [h]
theorem parOf_setKids (ns : List PNode) (j k : Nat) (f : List Int → List Int) : parOf (ns.modify j fun n => setKids n (f n.kids)) k = parOf ns k := by
  simp only [parOf, List.getElem?_modify]
  cases ns[k]? with
  | none => rfl
  | some n => by_cases h : j = k <;> simp [h, setKids]
theorem parOf_cutN (ns : List PNode) (c k : Nat) : parOf (cutN ns c) k = parOf ns k := by
  unfold cutN
  split
  · rfl
  · exact parOf_setKids ns _ k (lessL (c : Int))
theorem parOf_takeN {ns : List PNode} {c : Nat} (hc : c < ns.length) (k : Nat) : parOf (takeN ns c) k = if c = k then -1 else parOf ns k := by
  rw [takeN, parOf_setPar _ _ _ _ (by rw [cutN_len]; exact hc), parOf_cutN]
theorem parOf_hangN {ns : List PNode} {c p : Nat} (hc : c < ns.length) (k : Nat) : parOf (hangN ns c p) k = if c = k then (p : Int) else parOf ns k := by
  rw [hangN, parOf_setKids _ _ _ (fun ks => ks ++ [(c : Int)]), parOf_setPar _ _ _ _ (by rw [takeN_len]; exact hc), parOf_takeN hc]
  by_cases e : c = k <;> simp [e]

end Go.Proofs.YtogdbjafibejdaaGreat

/- A row of open elements, in plain words. No condition. -/
namespace Go.Proofs.YtogdbjafibejdaaGreat
open Go.RowKit
set_option maxRecDepth 100000
set_option linter.unusedVariables false
def kdOf (ns : List PNode) (x : Int) : Int := (ns[x.toNat]?.map PNode.kind).getD 0
def elB (ns : List PNode) (x : Int) : Bool := inB x 0 ((ns.length : Int) - 1) && decide (kdOf ns x = 3)
structure RowP (ns : List PNode) (row : List Int) : Prop where
  len : row.length ≤ 40
  el : ∀ i (h : i < row.length), elB ns row[i] = true
  once : ∀ i k (h : i < row.length) (hk : k < i), row[k] ≠ row[i]
end Go.Proofs.YtogdbjafibejdaaGreat
