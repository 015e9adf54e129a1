/- Kids that fit, in plain words. No condition. -/
import Derived.Test.YthdfhckmgneioaaGreatTreeM
namespace Go.Proofs.YthdfhckmgneioaaGreat
open Go.RowKit
set_option maxRecDepth 100000
set_option linter.unusedVariables false

/-- What has come when k rounds are over. -/
theorem take_snoc {α : Type} (zs : List α) {k : Nat} (hk : k < zs.length) : zs.take (k + 1) = zs.take k ++ [zs[k]] := by
  rw [List.take_add_one, List.getElem?_eq_getElem hk]; rfl
def kidsOf (ns : List PNode) (k : Nat) : List Int := (ns[k]?.map PNode.kids).getD []
def parOf (ns : List PNode) (k : Nat) : Int := (ns[k]?.map PNode.parent).getD (-1)
theorem kidsOf_at {ns : List PNode} {k : Nat} (h : k < ns.length) : kidsOf ns k = ns[k].kids := by simp [kidsOf, h]
theorem parOf_at {ns : List PNode} {k : Nat} (h : k < ns.length) : parOf ns k = ns[k].parent := by simp [parOf, h]

/-- The kids 'pre' of node k are right, as far as they go. -/
def FitPre (ns : List PNode) (k : Nat) (pre : List Int) : Prop := pre.Nodup ∧ ∀ x ∈ pre, 0 ≤ x ∧ x < ns.length ∧ parOf ns x.toNat = k
/-- Each number in Kids is that of a node whose Parent is just that one, and none stands twice. -/
def KidsFit (ns : List PNode) : Prop := ∀ k, k < ns.length → FitPre ns k (kidsOf ns k)
/-- The last one of 'pre' is wrong. -/
def BadPre (ns : List PNode) (k : Nat) (pre : List Int) : Prop :=
  ∃ (pre0 : List Int) (x : Int), pre = pre0 ++ [x] ∧ (¬ (0 ≤ x ∧ x < ns.length) ∨ ((x ∈ pre0 ∨ ∃ i, i < k ∧ x ∈ kidsOf ns i) ∨ parOf ns x.toNat ≠ k))
theorem bad_not {ns : List PNode} {k : Nat} {pre : List Int} (hk : k < ns.length) (hb : BadPre ns k pre) (hp : pre <+: kidsOf ns k) (hf : ∀ i, i < k → FitPre ns i (kidsOf ns i)) : ¬ KidsFit ns := by
  intro h
  obtain ⟨pre0, x, rfl, hx⟩ := hb
  obtain ⟨hn, hall⟩ := h k hk
  have hmem : x ∈ kidsOf ns k := hp.subset (by simp)
  have hr := hall x hmem
  rcases hx with hx | ((hx | ⟨i, hi, hx⟩) | hx)
  · exact hx ⟨hr.1, hr.2.1⟩
  · have : (pre0 ++ [x]).Nodup := hn.sublist hp.sublist
    rw [List.nodup_append] at this
    exact this.2.2 x hx x (by simp) rfl
  · have := ((hf i hi).2 x hx).2.2
    rw [hr.2.2] at this
    omega
  · exact hx hr.2.2

/-- What stands already when 'pre' of node k have come. -/
def Stand (ns : List PNode) (k : Nat) (pre : List Int) (j : Nat) : Prop := ((j : Int) ∈ pre ∨ ∃ i, i < k ∧ (j : Int) ∈ kidsOf ns i)
/-- The array's cells tell what stands. -/
def Stands (ns : List PNode) (k : Nat) (pre : List Int) (arr : Array Value) : Prop := arr.size = 500 ∧ ∀ j, j < 500 → ∃ b, arr[j]? = some (.bool b) ∧ (b = true ↔ Stand ns k pre j)
theorem Stands.snoc {ns : List PNode} {k : Nat} {pre : List Int} {arr : Array Value} (h : Stands ns k pre arr) (j : Nat) (hj : j < 500) : Stands ns k (pre ++ [(j : Int)]) (arr.setIfInBounds j (.bool true)) := by
  refine ⟨by simpa using h.1, fun i hi => ?_⟩
  by_cases e : j = i
  · subst e
    refine ⟨true, ?_, ?_⟩
    · have := h.1; simp [this, hj]
    · simp [Stand]
  · obtain ⟨b, hb, hs⟩ := h.2 i hi
    refine ⟨b, by rw [Array.getElem?_setIfInBounds]; simp [e, hb], hs.trans ?_⟩
    have : ¬ ((i : Int) = (j : Int)) := by omega
    simp [Stand, this]
theorem Stands.next {ns : List PNode} {k : Nat} {arr : Array Value} (h : Stands ns k (kidsOf ns k) arr) : Stands ns (k + 1) [] arr := by
  refine ⟨h.1, fun i hi => ?_⟩
  obtain ⟨b, hb, hs⟩ := h.2 i hi
  refine ⟨b, hb, hs.trans ?_⟩
  simp only [Stand, List.not_mem_nil, false_or]
  constructor
  · rintro (hm | ⟨j, hj, hm⟩)
    · exact ⟨k, by omega, hm⟩
    · exact ⟨j, by omega, hm⟩
  · rintro ⟨j, hj, hm⟩
    by_cases e : j = k
    · subst e; exact .inl hm
    · exact .inr ⟨j, by omega, hm⟩
theorem fit_snoc {ns : List PNode} {k j : Nat} {pre : List Int} (h : FitPre ns k pre) (hj : j < ns.length) (hs : ¬ Stand ns k pre j) (hp : parOf ns j = k) : FitPre ns k (pre ++ [(j : Int)]) := by
  refine ⟨?_, fun x hx => ?_⟩
  · rw [List.nodup_append]
    refine ⟨h.1, by simp, fun a ha b hb e => hs (.inl ?_)⟩
    simp at hb; subst hb; subst e; exact ha
  · rcases List.mem_append.mp hx with hx | hx
    · exact h.2 x hx
    · simp at hx; subst hx; exact ⟨by omega, by omega, by simpa using hp⟩
end Go.Proofs.YthdfhckmgneioaaGreat
