/- How many nodes are reached from those that stand below none, in plain words. No condition. -/
import Derived.Test.YthdfhckmgneioaaGreatDownP
namespace Go.Proofs.YthdfhckmgneioaaGreat
open Go.RowKit
set_option maxRecDepth 100000
set_option linter.unusedVariables false

/-- How many are told from the nodes ahead of m that stand below none. -/
def reachN (ns : List PNode) (f : Nat) : Nat → Nat
  | 0 => 0
  | m + 1 => reachN ns f m + if parOf ns m = -1 then (down ns f m).length else 0
theorem reachN_le {ns : List PNode} {f : Nat} {k m : Nat} (h : k ≤ m) : reachN ns f k ≤ reachN ns f m := by
  obtain ⟨d, rfl⟩ := Nat.exists_eq_add_of_le h
  clear h
  induction d with
  | zero => exact Nat.le_refl _
  | succ d ih => exact Nat.le_trans ih (by rw [← Nat.add_assoc]; simp [reachN])

/-- Numbers below n, none twice, are n at most. -/
theorem nodup_le (n : Nat) : ∀ (l : List Int), l.Nodup → (∀ x ∈ l, 0 ≤ x ∧ x < n) → l.length ≤ n := by
  induction n with
  | zero =>
    intro l _ h
    cases l with
    | nil => simp
    | cons x l => have := h x (by simp); omega
  | succ n ih =>
    intro l hn h
    by_cases hm : (n : Int) ∈ l
    · have h1 := ih (l.erase (n : Int)) (hn.erase _) (fun x hx => by
        have := (hn.mem_erase_iff).mp hx
        have h2 := h x this.2
        have h3 := this.1
        omega)
      rw [List.length_erase_of_mem hm] at h1
      omega
    · have := ih l hn (fun x hx => by
        have h2 := h x hx
        have h3 : x ≠ (n : Int) := fun e => hm (e ▸ hx)
        omega)
      omega
theorem nodup_all {n : Nat} {l : List Int} (hn : l.Nodup) (h : ∀ x ∈ l, 0 ≤ x ∧ x < n) (hl : l.length = n) (i : Nat) (hi : i < n) : (i : Int) ∈ l := by
  by_cases hm : (i : Int) ∈ l
  · exact hm
  · have := nodup_le n ((i : Int) :: l) (List.nodup_cons.mpr ⟨hm, hn⟩) (fun x hx => by
      rcases List.mem_cons.mp hx with rfl | hx
      · omega
      · exact h x hx)
    simp only [List.length_cons] at this
    omega

/-- The node stands d steps below one that stands below none. -/
def dep (ns : List PNode) : Nat → Nat → Prop
  | 0, i => i < ns.length ∧ parOf ns i = -1
  | d + 1, i => ∃ p, dep ns d p ∧ (i : Int) ∈ kidsOf ns p
theorem kidsOf_out {ns : List PNode} {k : Nat} (h : ¬ k < ns.length) : kidsOf ns k = [] := by simp [kidsOf, Nat.le_of_not_lt h]
theorem fit_kid {ns : List PNode} (hf : KidsFit ns) {p : Nat} {x : Int} (h : x ∈ kidsOf ns p) : p < ns.length ∧ 0 ≤ x ∧ x < ns.length ∧ parOf ns x.toNat = p := by
  by_cases hp : p < ns.length
  · exact ⟨hp, (hf p hp).2 x h⟩
  · rw [kidsOf_out hp] at h; cases h
theorem dep_uniq {ns : List PNode} (hf : KidsFit ns) : ∀ (d e i : Nat), dep ns d i → dep ns e i → d = e
  | 0, 0, _, _, _ => rfl
  | 0, e + 1, i, h, h' => by
    obtain ⟨p, _, hk⟩ := h'
    have := (fit_kid hf hk).2.2.2
    rw [show ((i : Int)).toNat = i by simp, h.2] at this
    omega
  | d + 1, 0, i, h, h' => by
    obtain ⟨p, _, hk⟩ := h
    have := (fit_kid hf hk).2.2.2
    rw [show ((i : Int)).toNat = i by simp, h'.2] at this
    omega
  | d + 1, e + 1, i, ⟨p, hp, hk⟩, ⟨q, hq, hk'⟩ => by
    have h1 := (fit_kid hf hk).2.2.2
    have h2 := (fit_kid hf hk').2.2.2
    have : p = q := by omega
    subst this
    rw [dep_uniq hf d e p hp hq]
theorem dep_list {ns : List PNode} (hf : KidsFit ns) : ∀ (d i : Nat), dep ns d i → ∃ l : List Int, l.length = d + 1 ∧ l.Nodup ∧ ∀ x ∈ l, 0 ≤ x ∧ x < ns.length ∧ ∃ e, e ≤ d ∧ dep ns e x.toNat
  | 0, i, h => ⟨[(i : Int)], rfl, by simp, fun x hx => by simp at hx; subst hx; exact ⟨by omega, by have := h.1; omega, 0, Nat.le_refl _, by simpa using h⟩⟩
  | d + 1, i, h => by
    obtain ⟨p, hp, hk⟩ := h
    obtain ⟨l, h1, h2, h3⟩ := dep_list hf d p hp
    have hx := fit_kid hf hk
    refine ⟨(i : Int) :: l, by simp [h1], List.nodup_cons.mpr ⟨fun hm => ?_, h2⟩, fun x hx' => ?_⟩
    · obtain ⟨_, _, e, he, hde⟩ := h3 _ hm
      rw [show ((i : Int)).toNat = i by simp] at hde
      have := dep_uniq hf (d + 1) e i ⟨p, hp, hk⟩ hde
      omega
    · rcases List.mem_cons.mp hx' with rfl | hx'
      · exact ⟨hx.2.1, hx.2.2.1, d + 1, Nat.le_refl _, by rw [show ((i : Int)).toNat = i by simp]; exact ⟨p, hp, hk⟩⟩
      · obtain ⟨a, b, e, he, hd⟩ := h3 x hx'
        exact ⟨a, b, e, by omega, hd⟩
theorem dep_lt {ns : List PNode} (hf : KidsFit ns) {d i : Nat} (h : dep ns d i) : d < ns.length := by
  obtain ⟨l, h1, h2, h3⟩ := dep_list hf d i h
  have := nodup_le ns.length l h2 (fun x hx => ⟨(h3 x hx).1, (h3 x hx).2.1⟩)
  omega
theorem dep_in {ns : List PNode} (hf : KidsFit ns) : ∀ {d i : Nat}, dep ns d i → i < ns.length
  | 0, i, h => h.1
  | d + 1, i, ⟨p, hp, hk⟩ => by have := (fit_kid hf hk).2.2.1; omega
theorem dep_deep {ns : List PNode} (hf : KidsFit ns) : ∀ (m d i : Nat), d + m = ns.length → dep ns d i → deepOk ns m i
  | 0, d, i, hm, h => by have := dep_lt hf h; omega
  | m + 1, d, i, hm, h => ⟨dep_in hf h, fun x hx => by
      have hk := fit_kid hf hx
      exact ⟨hk.2.1, dep_deep hf m (d + 1) x.toNat (by omega) ⟨i, h, by rw [Int.toNat_of_nonneg hk.2.1]; exact hx⟩⟩⟩
theorem deep_of_fit {ns : List PNode} (hf : KidsFit ns) (k : Nat) (hk : k < ns.length) (hp : parOf ns k = -1) : deepOk ns ns.length k := dep_deep hf ns.length 0 k (by omega) ⟨hk, hp⟩

/-- All that is told, one behind the other. -/
def allDown (ns : List PNode) (f : Nat) : Nat → List Int
  | 0 => []
  | m + 1 => allDown ns f m ++ if parOf ns m = -1 then down ns f m else []
theorem allDown_len (ns : List PNode) (f : Nat) : ∀ m, (allDown ns f m).length = reachN ns f m
  | 0 => rfl
  | m + 1 => by
    simp only [allDown, reachN, List.length_append, allDown_len ns f m]
    by_cases h : parOf ns m = -1
    · simp [h]
    · simp [h]
/-- What is told stands so many steps below. -/
theorem down_dep {ns : List PNode} (hf : KidsFit ns) : ∀ (f d s : Nat), dep ns d s → ∀ x ∈ down ns f s, 0 ≤ x ∧ x < ns.length ∧ ∃ e, dep ns e x.toNat
  | 0, d, s, h, x, hx => by cases hx
  | f + 1, d, s, h, x, hx => by
    rcases List.mem_cons.mp hx with rfl | hx
    · exact ⟨by omega, by have := dep_in hf h; omega, d, by simpa using h⟩
    · obtain ⟨y, hy, hxy⟩ := List.mem_flatMap.mp hx
      have hk := fit_kid hf hy
      exact down_dep hf f (d + 1) y.toNat ⟨s, h, by rw [Int.toNat_of_nonneg hk.2.1]; exact hy⟩ x hxy
theorem allDown_dep {ns : List PNode} (hf : KidsFit ns) (f : Nat) : ∀ m, m ≤ ns.length → ∀ x ∈ allDown ns f m, 0 ≤ x ∧ x < ns.length ∧ ∃ e, dep ns e x.toNat
  | 0, _, x, hx => by cases hx
  | m + 1, hm, x, hx => by
    rcases List.mem_append.mp hx with hx | hx
    · exact allDown_dep hf f m (by omega) x hx
    · by_cases h : parOf ns m = -1
      · rw [if_pos h] at hx
        exact down_dep hf f 0 m ⟨by omega, h⟩ x hx
      · rw [if_neg h] at hx; cases hx

theorem count_step {g : Int → List Int} {i p : Int} : ∀ (l : List Int), (∀ x ∈ l, (g x).count i = (g x).count p + if i = x then 1 else 0) → (l.flatMap g).count i = (l.flatMap g).count p + l.count i
  | [], _ => rfl
  | x :: l, h => by
    have h1 := h x (by simp)
    have h2 := count_step l (fun y hy => h y (by simp [hy]))
    simp only [List.flatMap_cons, List.count_append, h1, h2, List.count_cons, beq_iff_eq]
    by_cases e : i = x
    · subst e; simp; omega
    · have e' : ¬ x = i := fun h => e h.symm
      simp [e, e']; omega
theorem count_none {g : Int → List Int} {i : Int} : ∀ (l : List Int), (∀ x ∈ l, (g x).count i = 0) → (l.flatMap g).count i = 0
  | [], _ => rfl
  | x :: l, h => by
    simp only [List.flatMap_cons, List.count_append, h x (by simp), count_none l (fun y hy => h y (by simp [hy]))]
theorem nodup_count {l : List Int} {x : Int} (hn : l.Nodup) (hm : x ∈ l) : l.count x = 1 := by
  have h1 := List.nodup_iff_count.mp hn x
  have h2 := List.count_pos_iff.mpr hm
  omega

theorem down_count {ns : List PNode} (hf : KidsFit ns) {i p : Nat} (hk : (i : Int) ∈ kidsOf ns p) : ∀ (f s : Nat), deepOk ns f s → (down ns f s).count (i : Int) = (down ns f s).count (p : Int) + if i = s then 1 else 0
  | 0, s, h => h.elim
  | f + 1, s, h => by
    have h1 := count_step (g := fun x => down ns f x.toNat) (i := (i : Int)) (p := (p : Int)) (kidsOf ns s) (fun x hx => by
      have hd := (h.2 x hx)
      have := down_count hf hk f x.toNat hd.2
      rw [this]
      congr 1
      by_cases e : (i : Int) = x
      · rw [if_pos (by omega), if_pos e]
      · rw [if_neg (by omega), if_neg e])
    have hc : (kidsOf ns s).count (i : Int) = if p = s then 1 else 0 := by
      by_cases e : p = s
      · subst e
        rw [if_pos rfl]
        exact nodup_count (hf p h.1).1 hk
      · rw [if_neg e]
        refine List.count_eq_zero.mpr fun hm => e ?_
        have a1 := (fit_kid hf hk).2.2.2
        have a2 := (fit_kid hf hm).2.2.2
        omega
    simp only [down, List.count_cons, h1, hc, beq_iff_eq]
    by_cases e1 : i = s
    · subst e1
      by_cases e2 : p = i
      · subst e2; simp
      · have : ¬ ((i : Int) = (p : Int)) := by omega
        simp [e2, this]
    · have e1' : ¬ ((s : Int) = (i : Int)) := by omega
      by_cases e2 : p = s
      · subst e2; simp [e1, e1']
      · have : ¬ ((s : Int) = (p : Int)) := by omega
        simp [e1, e1', e2, this]
theorem down_root {ns : List PNode} (hf : KidsFit ns) {i : Nat} (hk : ∀ p, (i : Int) ∉ kidsOf ns p) : ∀ (f s : Nat), deepOk ns f s → (down ns f s).count (i : Int) = if i = s then 1 else 0
  | 0, s, h => h.elim
  | f + 1, s, h => by
    have h1 := count_none (g := fun x => down ns f x.toNat) (i := (i : Int)) (kidsOf ns s) (fun x hx => by
      have hd := (h.2 x hx)
      rw [down_root hf hk f x.toNat hd.2, if_neg]
      intro e
      exact hk s (by rw [e, Int.toNat_of_nonneg hd.1]; exact hx))
    simp only [down, List.count_cons, h1, beq_iff_eq]
    by_cases e : i = s
    · subst e; simp
    · have : ¬ ((s : Int) = (i : Int)) := by omega
      simp [e, this]
theorem all_count {ns : List PNode} (hf : KidsFit ns) {i p : Nat} (hk : (i : Int) ∈ kidsOf ns p) : ∀ m, m ≤ ns.length → (allDown ns ns.length m).count (i : Int) = (allDown ns ns.length m).count (p : Int)
  | 0, _ => rfl
  | m + 1, hm => by
    simp only [allDown, List.count_append, all_count hf hk m (by omega)]
    by_cases h : parOf ns m = -1
    · rw [if_pos h, down_count hf hk ns.length m (deep_of_fit hf m (by omega) h), if_neg, Nat.add_zero]
      intro e
      have := (fit_kid hf hk).2.2.2
      rw [show ((i : Int)).toNat = i by simp, e, h] at this
      omega
    · rw [if_neg h]; rfl
theorem all_root {ns : List PNode} (hf : KidsFit ns) {i : Nat} (hi : parOf ns i = -1) : ∀ m, m ≤ ns.length → (allDown ns ns.length m).count (i : Int) = if i < m then 1 else 0
  | 0, _ => rfl
  | m + 1, hm => by
    have hk : ∀ p, (i : Int) ∉ kidsOf ns p := fun p hk => by
      have := (fit_kid hf hk).2.2.2
      rw [show ((i : Int)).toNat = i by simp, hi] at this
      omega
    simp only [allDown, List.count_append, all_root hf hi m (by omega)]
    by_cases h : parOf ns m = -1
    · rw [if_pos h, down_root hf hk ns.length m (deep_of_fit hf m (by omega) h)]
      by_cases e : i = m
      · subst e; simp
      · by_cases e2 : i < m
        · rw [if_pos e2, if_neg e, if_pos (by omega)]
        · rw [if_neg e2, if_neg e, if_neg (by omega)]
    · have e : i ≠ m := fun e => h (e ▸ hi)
      rw [if_neg h]
      by_cases e2 : i < m
      · rw [if_pos e2, if_pos (by omega)]; rfl
      · rw [if_neg e2, if_neg (by omega)]; rfl
theorem dep_count {ns : List PNode} (hf : KidsFit ns) : ∀ (d i : Nat), dep ns d i → (allDown ns ns.length ns.length).count (i : Int) = 1
  | 0, i, h => by rw [all_root hf h.2 _ (Nat.le_refl _), if_pos h.1]
  | d + 1, i, ⟨p, hp, hk⟩ => by rw [all_count hf hk _ (Nat.le_refl _), dep_count hf d p hp]
theorem all_nodup {ns : List PNode} (hf : KidsFit ns) : (allDown ns ns.length ns.length).Nodup := by
  refine List.nodup_iff_count.mpr fun x => ?_
  by_cases hx : x ∈ allDown ns ns.length ns.length
  · obtain ⟨h0, _, d, hd⟩ := allDown_dep hf ns.length ns.length (Nat.le_refl _) x hx
    have := dep_count hf d _ hd
    rw [Int.toNat_of_nonneg h0] at this
    omega
  · rw [List.count_eq_zero.mpr hx]; omega
theorem reach_le {ns : List PNode} (hf : KidsFit ns) : reachN ns ns.length ns.length ≤ ns.length := by
  rw [← allDown_len]
  exact nodup_le _ _ (all_nodup hf) fun x hx => ⟨(allDown_dep hf _ _ (Nat.le_refl _) x hx).1, (allDown_dep hf _ _ (Nat.le_refl _) x hx).2.1⟩
/-- Just then all are reached, when each stands some steps below one that stands below none. -/
theorem reach_iff {ns : List PNode} (hf : KidsFit ns) : reachN ns ns.length ns.length = ns.length ↔ ∀ i, i < ns.length → ∃ d, dep ns d i := by
  have hr := fun x hx => allDown_dep hf ns.length ns.length (Nat.le_refl _) x hx
  constructor
  · intro h i hi
    rw [← allDown_len] at h
    have hm := nodup_all (all_nodup hf) (fun x hx => ⟨(hr x hx).1, (hr x hx).2.1⟩) h i hi
    obtain ⟨_, _, d, hd⟩ := hr _ hm
    exact ⟨d, by simpa using hd⟩
  · intro h
    have h1 := reach_le hf
    have h2 : ns.length ≤ reachN ns ns.length ns.length := by
      rw [← allDown_len]
      have key : ∀ m, m ≤ ns.length → ∀ l : List Int, (∀ i : Nat, i < m → (i : Int) ∈ l) → m ≤ l.length := by
        intro m
        induction m with
        | zero => intro _ l _; omega
        | succ m ih =>
          intro hm l hl
          have hmm := hl m (by omega)
          have := ih (by omega) (l.erase (m : Int)) (fun i hi => (List.mem_erase_of_ne (by omega)).mpr (hl i (by omega)))
          rw [List.length_erase_of_mem hmm] at this
          have := List.length_pos_of_mem hmm
          omega
      refine key _ (Nat.le_refl _) _ fun i hi => ?_
      obtain ⟨d, hd⟩ := h i hi
      have := dep_count hf d i hd
      exact List.count_pos_iff.mp (by omega)
    omega
end Go.Proofs.YthdfhckmgneioaaGreat
