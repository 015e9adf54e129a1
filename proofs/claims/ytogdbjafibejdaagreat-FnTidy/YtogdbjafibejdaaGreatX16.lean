/- The draw of a list of attributes and of one more. -/
import Derived.Test.YtogdbjafibejdaaGreatX14
import Derived.Test.YtogdbjafibejdaaGreatX15
import Derived.Deep.RegionHeld
import Derived.Test.YtogdbjafibejdaaGreatX12
namespace Go.Proofs.YtogdbjafibejdaaGreat
open Go.RowKit
set_option maxRecDepth 100000
set_option linter.unusedVariables false

theorem far2 {w : World} {c b j k k' : Nat} {x u u' : Value} (hne : c ≠ b) (h : w.cell? ⟨c, j, none⟩ = some x) : ((w.setCell ⟨b, k, none⟩ u).setCell ⟨b, k', none⟩ u').drew.cell? ⟨c, j, none⟩ = some x := by
  have e : ((w.setCell ⟨b, k, none⟩ u).setCell ⟨b, k', none⟩ u').heap[c]? = w.heap[c]? := (Below.heap_setCell _ ⟨b, k', none⟩ u' c hne).trans (Below.heap_setCell w ⟨b, k, none⟩ u c hne)
  exact (World.cell?_of_block (a := ⟨c, j, none⟩) e).trans h

theorem tmp_cell_res {f : Func} {p q : Tmp} (hf : f.results = #[.tmp p, .cell q 115]) {tmps : Array Value} {w : World} {g : Nat} {x y : ByteArray} (h4 : tmps.getD q undef = .pointer (some ⟨g, 0, none⟩)) (hb : w.heap[g]? = some (.cells #[.string x, .string y] 115 (0, 0))) :
    (results f tmps).run Tryz.prog w = .ok (.tuple #[tmps.getD p undef, .agg #[.string x, .string y]]) w := by
  have h4' : tmps[q]?.getD undef = .pointer (some ⟨g, 0, none⟩) := by simpa using h4
  simp [results, hf, h4', asAddr, run_loadVar_row w g 115 115 #[.string x, .string y] (0, 0) _ hb Tryz.underlying115 rfl rfl]

end Go.Proofs.YtogdbjafibejdaaGreat

/- Nodes in memory: a slice of nodes, each with its attributes and its kids. No condition. -/
namespace Go.Proofs.YtogdbjafibejdaaGreat
open Go.RowKit
set_option maxRecDepth 100000
set_option linter.unusedVariables false

/-- A node, as plain values. -/
structure PNode where
  kind : Int
  name : ByteArray
  attrs : List (ByteArray × ByteArray)
  text : ByteArray
  parent : Int
  kids : List Int

/-- The six cells of a node whose lists are the slices 'p'. -/
def nodeRow (n : PNode) (p : Value × Value) : List Value := [.int .i64 n.kind, .string n.name, p.1, .string n.text, .int .i64 n.parent, p.2]
def nodeCells (qs : List (PNode × (Value × Value))) : List Value := qs.flatMap fun q => nodeRow q.1 q.2
theorem nodeCells_len (qs : List (PNode × (Value × Value))) : (nodeCells qs).length = qs.length * 6 := by
  induction qs with
  | nil => rfl
  | cons q qs ih => simp only [nodeCells, nodeRow, List.flatMap_cons, List.length_append, List.length_cons, List.length_nil] at ih ⊢; omega
theorem nodeCells_at (qs : List (PNode × (Value × Value))) (k j : Nat) (h : k < qs.length) (hj : j < 6) : (nodeCells qs).getD (k * 6 + j) undef = (nodeRow qs[k].1 qs[k].2).getD j undef := by
  induction qs generalizing k with
  | nil => simp at h
  | cons q qs ih =>
    cases k with
    | zero =>
      simp only [nodeCells, List.flatMap_cons, List.getD_eq_getElem?_getD, Nat.zero_mul, Nat.zero_add, List.getElem_cons_zero]
      rw [List.getElem?_append_left (by simp [nodeRow]; omega)]
    | succ k =>
      have := ih k (by simpa using h)
      simp only [nodeCells, List.flatMap_cons, List.getD_eq_getElem?_getD, List.getElem_cons_succ] at this ⊢
      rw [List.getElem?_append_right (by simp [nodeRow]; omega), ← this]
      congr 2
      simp [nodeRow]; omega

/-- The slice value v has the nodes 'ns'. -/
def NodesAt (w : World) (v : Value) (ns : List PNode) : Prop :=
  ∃ qs : List (PNode × (Value × Value)), qs.map (fun q => q.1) = ns ∧ Sv 6 w v (nodeCells qs) ∧ ∀ q ∈ qs, Sv 2 w q.2.1 (pairCells q.1.attrs) ∧ Sl .i64 w q.2.2 q.1.kids

theorem NodesAt.below {w w' : World} {v : Value} {ns : List PNode} (h : NodesAt w v ns) (hb : Below w.heap.size w w') : NodesAt w' v ns := by
  obtain ⟨qs, h1, h2, h3⟩ := h
  exact ⟨qs, h1, h2.below hb, fun q hq => ⟨(h3 q hq).1.below hb, (h3 q hq).2.below hb⟩⟩

/-- What is read at place k. -/
theorem NodesAt.slice {w : World} {v : Value} {ns : List PNode} (h : NodesAt w v ns) : ∃ a cap, v = .slice a ns.length cap ∧ ns.length ≤ cap ∧ cap ≤ maxLen ∧
    ∀ k (hk : k < ns.length), ∃ b off av kv, a = some ⟨b, off, none⟩ ∧ b < w.heap.size ∧ w.cell? ⟨b, off + k * 6, none⟩ = some (.int .i64 ns[k].kind) ∧ w.cell? ⟨b, off + k * 6 + 1, none⟩ = some (.string ns[k].name) ∧
      w.cell? ⟨b, off + k * 6 + 2, none⟩ = some av ∧ w.cell? ⟨b, off + k * 6 + 3, none⟩ = some (.string ns[k].text) ∧ w.cell? ⟨b, off + k * 6 + 4, none⟩ = some (.int .i64 ns[k].parent) ∧ w.cell? ⟨b, off + k * 6 + 5, none⟩ = some kv ∧
      Sv 2 w av (pairCells ns[k].attrs) ∧ Sl .i64 w kv ns[k].kids := by
  obtain ⟨qs, rfl, ⟨a, len, cap, rfl, hl, h1, h2, h3, hc⟩, hq⟩ := h
  have hlen : len = qs.length := by rw [nodeCells_len] at hl; omega
  subst hlen
  refine ⟨a, cap, by simp, by simpa using h1, h2, fun k hk => ?_⟩
  have hk' : k < qs.length := by simpa using hk
  have key : ∀ j, j < 6 → ∃ b off, a = some ⟨b, off, none⟩ ∧ w.cell? ⟨b, off + k * 6 + j, none⟩ = some ((nodeRow qs[k].1 qs[k].2).getD j undef) := fun j hj => by
    obtain ⟨b, off, e, c⟩ := hc (k * 6 + j) (by rw [nodeCells_len]; omega)
    rw [nodeCells_at qs k j hk' hj, ← Nat.add_assoc] at c
    exact ⟨b, off, e, c⟩
  obtain ⟨b, off, rfl, c0⟩ := key 0 (by omega)
  obtain ⟨_, _, e1, c1⟩ := key 1 (by omega); cases e1
  obtain ⟨_, _, e2, c2⟩ := key 2 (by omega); cases e2
  obtain ⟨_, _, e3, c3⟩ := key 3 (by omega); cases e3
  obtain ⟨_, _, e4, c4⟩ := key 4 (by omega); cases e4
  obtain ⟨_, _, e5, c5⟩ := key 5 (by omega); cases e5
  have hlt : b < w.heap.size := by
    by_cases hlt : b < w.heap.size
    · exact hlt
    · exfalso; simp [World.cell?, Array.getElem?_eq_none (Nat.le_of_not_lt hlt)] at c0
  have hm := hq qs[k] (List.getElem_mem hk')
  refine ⟨b, off, qs[k].2.1, qs[k].2.2, rfl, hlt, ?_, ?_, ?_, ?_, ?_, ?_, ?_, ?_⟩
  · simpa [nodeRow] using c0
  · simpa [nodeRow] using c1
  · simpa [nodeRow] using c2
  · simpa [nodeRow] using c3
  · simpa [nodeRow] using c4
  · simpa [nodeRow] using c5
  · simpa using hm.1
  · simpa using hm.2
end Go.Proofs.YtogdbjafibejdaaGreat

/- Kids that fit, in plain words. No condition. -/
namespace Go.Proofs.YtogdbjafibejdaaGreat
open Go.RowKit
set_option maxRecDepth 100000
set_option linter.unusedVariables false

/-- What has come when k rounds are over. -/
theorem take_snoc {α : Type} (zs : List α) {k : Nat} (hk : k < zs.length) : zs.take (k + 1) = zs.take k ++ [zs[k]] := by
  rw [List.take_add_one, List.getElem?_eq_getElem hk]; rfl
def kidsOf (ns : List PNode) (k : Nat) : List Int := (ns[k]?.map PNode.kids).getD []
def parOf (ns : List PNode) (k : Nat) : Int := (ns[k]?.map PNode.parent).getD (-1)
theorem kidsOf_at {ns : List PNode} {k : Nat} (h : k < ns.length) : kidsOf ns k = ns[k].kids := by simp [kidsOf, h]
theorem parOf_at {ns : List PNode} {k : Nat} (h : k < ns.length) : parOf ns k = ns[k].parent := by simp [parOf, h]

/-- The kids 'pre' of node k are right, as far as they go. -/
def FitPre (ns : List PNode) (k : Nat) (pre : List Int) : Prop := pre.Nodup ∧ ∀ x ∈ pre, 0 ≤ x ∧ x < ns.length ∧ parOf ns x.toNat = k
/-- Each number in Kids is that of a node whose Parent is just that one, and none stands twice. -/
def KidsFit (ns : List PNode) : Prop := ∀ k, k < ns.length → FitPre ns k (kidsOf ns k)
/-- The last one of 'pre' is wrong. -/
def BadPre (ns : List PNode) (k : Nat) (pre : List Int) : Prop :=
  ∃ (pre0 : List Int) (x : Int), pre = pre0 ++ [x] ∧ (¬ (0 ≤ x ∧ x < ns.length) ∨ ((x ∈ pre0 ∨ ∃ i, i < k ∧ x ∈ kidsOf ns i) ∨ parOf ns x.toNat ≠ k))
theorem bad_not {ns : List PNode} {k : Nat} {pre : List Int} (hk : k < ns.length) (hb : BadPre ns k pre) (hp : pre <+: kidsOf ns k) (hf : ∀ i, i < k → FitPre ns i (kidsOf ns i)) : ¬ KidsFit ns := by
  intro h
  obtain ⟨pre0, x, rfl, hx⟩ := hb
  obtain ⟨hn, hall⟩ := h k hk
  have hmem : x ∈ kidsOf ns k := hp.subset (by simp)
  have hr := hall x hmem
  rcases hx with hx | ((hx | ⟨i, hi, hx⟩) | hx)
  · exact hx ⟨hr.1, hr.2.1⟩
  · have : (pre0 ++ [x]).Nodup := hn.sublist hp.sublist
    rw [List.nodup_append] at this
    exact this.2.2 x hx x (by simp) rfl
  · have := ((hf i hi).2 x hx).2.2
    rw [hr.2.2] at this
    omega
  · exact hx hr.2.2

/-- What stands already when 'pre' of node k have come. -/
def Stand (ns : List PNode) (k : Nat) (pre : List Int) (j : Nat) : Prop := ((j : Int) ∈ pre ∨ ∃ i, i < k ∧ (j : Int) ∈ kidsOf ns i)
/-- The array's cells tell what stands. -/
def Stands (ns : List PNode) (k : Nat) (pre : List Int) (arr : Array Value) : Prop := arr.size = 500 ∧ ∀ j, j < 500 → ∃ b, arr[j]? = some (.bool b) ∧ (b = true ↔ Stand ns k pre j)
theorem Stands.snoc {ns : List PNode} {k : Nat} {pre : List Int} {arr : Array Value} (h : Stands ns k pre arr) (j : Nat) (hj : j < 500) : Stands ns k (pre ++ [(j : Int)]) (arr.setIfInBounds j (.bool true)) := by
  refine ⟨by simpa using h.1, fun i hi => ?_⟩
  by_cases e : j = i
  · subst e
    refine ⟨true, ?_, ?_⟩
    · have := h.1; simp [this, hj]
    · simp [Stand]
  · obtain ⟨b, hb, hs⟩ := h.2 i hi
    refine ⟨b, by rw [Array.getElem?_setIfInBounds]; simp [e, hb], hs.trans ?_⟩
    have : ¬ ((i : Int) = (j : Int)) := by omega
    simp [Stand, this]
theorem Stands.next {ns : List PNode} {k : Nat} {arr : Array Value} (h : Stands ns k (kidsOf ns k) arr) : Stands ns (k + 1) [] arr := by
  refine ⟨h.1, fun i hi => ?_⟩
  obtain ⟨b, hb, hs⟩ := h.2 i hi
  refine ⟨b, hb, hs.trans ?_⟩
  simp only [Stand, List.not_mem_nil, false_or]
  constructor
  · rintro (hm | ⟨j, hj, hm⟩)
    · exact ⟨k, by omega, hm⟩
    · exact ⟨j, by omega, hm⟩
  · rintro ⟨j, hj, hm⟩
    by_cases e : j = k
    · subst e; exact .inl hm
    · exact .inr ⟨j, by omega, hm⟩
theorem fit_snoc {ns : List PNode} {k j : Nat} {pre : List Int} (h : FitPre ns k pre) (hj : j < ns.length) (hs : ¬ Stand ns k pre j) (hp : parOf ns j = k) : FitPre ns k (pre ++ [(j : Int)]) := by
  refine ⟨?_, fun x hx => ?_⟩
  · rw [List.nodup_append]
    refine ⟨h.1, by simp, fun a ha b hb e => hs (.inl ?_)⟩
    simp at hb; subst hb; subst e; exact ha
  · rcases List.mem_append.mp hx with hx | hx
    · exact h.2 x hx
    · simp at hx; subst hx; exact ⟨by omega, by omega, by simpa using hp⟩
end Go.Proofs.YtogdbjafibejdaaGreat

/- What stands below a node, in plain words. No condition. -/
namespace Go.Proofs.YtogdbjafibejdaaGreat
open Go.RowKit
set_option maxRecDepth 100000
set_option linter.unusedVariables false

/-- A node and all that stand below it, each ahead of its kids; f levels at most. -/
def down (ns : List PNode) : Nat → Nat → List Int
  | 0, _ => []
  | f + 1, k => (k : Int) :: (kidsOf ns k).flatMap fun x => down ns f x.toNat
/-- Below the node there are fewer than f levels, and all that stand there are nodes. -/
def deepOk (ns : List PNode) : Nat → Nat → Prop
  | 0, _ => False
  | f + 1, k => k < ns.length ∧ ∀ x ∈ kidsOf ns k, 0 ≤ x ∧ deepOk ns f x.toNat
theorem deepOk_lt {ns : List PNode} {f k : Nat} (h : deepOk ns f k) : k < ns.length := by
  cases f with
  | zero => exact h.elim
  | succ f => exact h.1
end Go.Proofs.YtogdbjafibejdaaGreat

/- How many nodes are reached from those that stand below none, in plain words. No condition. -/
namespace Go.Proofs.YtogdbjafibejdaaGreat
open Go.RowKit
set_option maxRecDepth 100000
set_option linter.unusedVariables false

/-- How many are told from the nodes ahead of m that stand below none. -/
def reachN (ns : List PNode) (f : Nat) : Nat → Nat
  | 0 => 0
  | m + 1 => reachN ns f m + if parOf ns m = -1 then (down ns f m).length else 0
theorem reachN_le {ns : List PNode} {f : Nat} {k m : Nat} (h : k ≤ m) : reachN ns f k ≤ reachN ns f m := by
  obtain ⟨d, rfl⟩ := Nat.exists_eq_add_of_le h
  clear h
  induction d with
  | zero => exact Nat.le_refl _
  | succ d ih => exact Nat.le_trans ih (by rw [← Nat.add_assoc]; simp [reachN])

/-- Numbers below n, none twice, are n at most. -/
theorem nodup_le (n : Nat) : ∀ (l : List Int), l.Nodup → (∀ x ∈ l, 0 ≤ x ∧ x < n) → l.length ≤ n := by
  induction n with
  | zero =>
    intro l _ h
    cases l with
    | nil => simp
    | cons x l => have := h x (by simp); omega
  | succ n ih =>
    intro l hn h
    by_cases hm : (n : Int) ∈ l
    · have h1 := ih (l.erase (n : Int)) (hn.erase _) (fun x hx => by
        have := (hn.mem_erase_iff).mp hx
        have h2 := h x this.2
        have h3 := this.1
        omega)
      rw [List.length_erase_of_mem hm] at h1
      omega
    · have := ih l hn (fun x hx => by
        have h2 := h x hx
        have h3 : x ≠ (n : Int) := fun e => hm (e ▸ hx)
        omega)
      omega
theorem nodup_all {n : Nat} {l : List Int} (hn : l.Nodup) (h : ∀ x ∈ l, 0 ≤ x ∧ x < n) (hl : l.length = n) (i : Nat) (hi : i < n) : (i : Int) ∈ l := by
  by_cases hm : (i : Int) ∈ l
  · exact hm
  · have := nodup_le n ((i : Int) :: l) (List.nodup_cons.mpr ⟨hm, hn⟩) (fun x hx => by
      rcases List.mem_cons.mp hx with rfl | hx
      · omega
      · exact h x hx)
    simp only [List.length_cons] at this
    omega

/-- The node stands d steps below one that stands below none. -/
def dep (ns : List PNode) : Nat → Nat → Prop
  | 0, i => i < ns.length ∧ parOf ns i = -1
  | d + 1, i => ∃ p, dep ns d p ∧ (i : Int) ∈ kidsOf ns p
theorem kidsOf_out {ns : List PNode} {k : Nat} (h : ¬ k < ns.length) : kidsOf ns k = [] := by simp [kidsOf, Nat.le_of_not_lt h]
theorem fit_kid {ns : List PNode} (hf : KidsFit ns) {p : Nat} {x : Int} (h : x ∈ kidsOf ns p) : p < ns.length ∧ 0 ≤ x ∧ x < ns.length ∧ parOf ns x.toNat = p := by
  by_cases hp : p < ns.length
  · exact ⟨hp, (hf p hp).2 x h⟩
  · rw [kidsOf_out hp] at h; cases h
theorem dep_uniq {ns : List PNode} (hf : KidsFit ns) : ∀ (d e i : Nat), dep ns d i → dep ns e i → d = e
  | 0, 0, _, _, _ => rfl
  | 0, e + 1, i, h, h' => by
    obtain ⟨p, _, hk⟩ := h'
    have := (fit_kid hf hk).2.2.2
    rw [show ((i : Int)).toNat = i by simp, h.2] at this
    omega
  | d + 1, 0, i, h, h' => by
    obtain ⟨p, _, hk⟩ := h
    have := (fit_kid hf hk).2.2.2
    rw [show ((i : Int)).toNat = i by simp, h'.2] at this
    omega
  | d + 1, e + 1, i, ⟨p, hp, hk⟩, ⟨q, hq, hk'⟩ => by
    have h1 := (fit_kid hf hk).2.2.2
    have h2 := (fit_kid hf hk').2.2.2
    have : p = q := by omega
    subst this
    rw [dep_uniq hf d e p hp hq]
theorem dep_list {ns : List PNode} (hf : KidsFit ns) : ∀ (d i : Nat), dep ns d i → ∃ l : List Int, l.length = d + 1 ∧ l.Nodup ∧ ∀ x ∈ l, 0 ≤ x ∧ x < ns.length ∧ ∃ e, e ≤ d ∧ dep ns e x.toNat
  | 0, i, h => ⟨[(i : Int)], rfl, by simp, fun x hx => by simp at hx; subst hx; exact ⟨by omega, by have := h.1; omega, 0, Nat.le_refl _, by simpa using h⟩⟩
  | d + 1, i, h => by
    obtain ⟨p, hp, hk⟩ := h
    obtain ⟨l, h1, h2, h3⟩ := dep_list hf d p hp
    have hx := fit_kid hf hk
    refine ⟨(i : Int) :: l, by simp [h1], List.nodup_cons.mpr ⟨fun hm => ?_, h2⟩, fun x hx' => ?_⟩
    · obtain ⟨_, _, e, he, hde⟩ := h3 _ hm
      rw [show ((i : Int)).toNat = i by simp] at hde
      have := dep_uniq hf (d + 1) e i ⟨p, hp, hk⟩ hde
      omega
    · rcases List.mem_cons.mp hx' with rfl | hx'
      · exact ⟨hx.2.1, hx.2.2.1, d + 1, Nat.le_refl _, by rw [show ((i : Int)).toNat = i by simp]; exact ⟨p, hp, hk⟩⟩
      · obtain ⟨a, b, e, he, hd⟩ := h3 x hx'
        exact ⟨a, b, e, by omega, hd⟩
theorem dep_lt {ns : List PNode} (hf : KidsFit ns) {d i : Nat} (h : dep ns d i) : d < ns.length := by
  obtain ⟨l, h1, h2, h3⟩ := dep_list hf d i h
  have := nodup_le ns.length l h2 (fun x hx => ⟨(h3 x hx).1, (h3 x hx).2.1⟩)
  omega
theorem dep_in {ns : List PNode} (hf : KidsFit ns) : ∀ {d i : Nat}, dep ns d i → i < ns.length
  | 0, i, h => h.1
  | d + 1, i, ⟨p, hp, hk⟩ => by have := (fit_kid hf hk).2.2.1; omega
theorem dep_deep {ns : List PNode} (hf : KidsFit ns) : ∀ (m d i : Nat), d + m = ns.length → dep ns d i → deepOk ns m i
  | 0, d, i, hm, h => by have := dep_lt hf h; omega
  | m + 1, d, i, hm, h => ⟨dep_in hf h, fun x hx => by
      have hk := fit_kid hf hx
      exact ⟨hk.2.1, dep_deep hf m (d + 1) x.toNat (by omega) ⟨i, h, by rw [Int.toNat_of_nonneg hk.2.1]; exact hx⟩⟩⟩
theorem deep_of_fit {ns : List PNode} (hf : KidsFit ns) (k : Nat) (hk : k < ns.length) (hp : parOf ns k = -1) : deepOk ns ns.length k := dep_deep hf ns.length 0 k (by omega) ⟨hk, hp⟩

/-- All that is told, one behind the other. -/
def allDown (ns : List PNode) (f : Nat) : Nat → List Int
  | 0 => []
  | m + 1 => allDown ns f m ++ if parOf ns m = -1 then down ns f m else []
theorem allDown_len (ns : List PNode) (f : Nat) : ∀ m, (allDown ns f m).length = reachN ns f m
  | 0 => rfl
  | m + 1 => by
    simp only [allDown, reachN, List.length_append, allDown_len ns f m]
    by_cases h : parOf ns m = -1
    · simp [h]
    · simp [h]
/-- What is told stands so many steps below. -/
theorem down_dep {ns : List PNode} (hf : KidsFit ns) : ∀ (f d s : Nat), dep ns d s → ∀ x ∈ down ns f s, 0 ≤ x ∧ x < ns.length ∧ ∃ e, dep ns e x.toNat
  | 0, d, s, h, x, hx => by cases hx
  | f + 1, d, s, h, x, hx => by
    rcases List.mem_cons.mp hx with rfl | hx
    · exact ⟨by omega, by have := dep_in hf h; omega, d, by simpa using h⟩
    · obtain ⟨y, hy, hxy⟩ := List.mem_flatMap.mp hx
      have hk := fit_kid hf hy
      exact down_dep hf f (d + 1) y.toNat ⟨s, h, by rw [Int.toNat_of_nonneg hk.2.1]; exact hy⟩ x hxy
theorem allDown_dep {ns : List PNode} (hf : KidsFit ns) (f : Nat) : ∀ m, m ≤ ns.length → ∀ x ∈ allDown ns f m, 0 ≤ x ∧ x < ns.length ∧ ∃ e, dep ns e x.toNat
  | 0, _, x, hx => by cases hx
  | m + 1, hm, x, hx => by
    rcases List.mem_append.mp hx with hx | hx
    · exact allDown_dep hf f m (by omega) x hx
    · by_cases h : parOf ns m = -1
      · rw [if_pos h] at hx
        exact down_dep hf f 0 m ⟨by omega, h⟩ x hx
      · rw [if_neg h] at hx; cases hx

theorem count_step {g : Int → List Int} {i p : Int} : ∀ (l : List Int), (∀ x ∈ l, (g x).count i = (g x).count p + if i = x then 1 else 0) → (l.flatMap g).count i = (l.flatMap g).count p + l.count i
  | [], _ => rfl
  | x :: l, h => by
    have h1 := h x (by simp)
    have h2 := count_step l (fun y hy => h y (by simp [hy]))
    simp only [List.flatMap_cons, List.count_append, h1, h2, List.count_cons, beq_iff_eq]
    by_cases e : i = x
    · subst e; simp; omega
    · have e' : ¬ x = i := fun h => e h.symm
      simp [e, e']; omega
theorem count_none {g : Int → List Int} {i : Int} : ∀ (l : List Int), (∀ x ∈ l, (g x).count i = 0) → (l.flatMap g).count i = 0
  | [], _ => rfl
  | x :: l, h => by
    simp only [List.flatMap_cons, List.count_append, h x (by simp), count_none l (fun y hy => h y (by simp [hy]))]
theorem nodup_count {l : List Int} {x : Int} (hn : l.Nodup) (hm : x ∈ l) : l.count x = 1 := by
  have h1 := List.nodup_iff_count.mp hn x
  have h2 := List.count_pos_iff.mpr hm
  omega

theorem down_count {ns : List PNode} (hf : KidsFit ns) {i p : Nat} (hk : (i : Int) ∈ kidsOf ns p) : ∀ (f s : Nat), deepOk ns f s → (down ns f s).count (i : Int) = (down ns f s).count (p : Int) + if i = s then 1 else 0
  | 0, s, h => h.elim
  | f + 1, s, h => by
    have h1 := count_step (g := fun x => down ns f x.toNat) (i := (i : Int)) (p := (p : Int)) (kidsOf ns s) (fun x hx => by
      have hd := (h.2 x hx)
      have := down_count hf hk f x.toNat hd.2
      rw [this]
      congr 1
      by_cases e : (i : Int) = x
      · rw [if_pos (by omega), if_pos e]
      · rw [if_neg (by omega), if_neg e])
    have hc : (kidsOf ns s).count (i : Int) = if p = s then 1 else 0 := by
      by_cases e : p = s
      · subst e
        rw [if_pos rfl]
        exact nodup_count (hf p h.1).1 hk
      · rw [if_neg e]
        refine List.count_eq_zero.mpr fun hm => e ?_
        have a1 := (fit_kid hf hk).2.2.2
        have a2 := (fit_kid hf hm).2.2.2
        omega
    simp only [down, List.count_cons, h1, hc, beq_iff_eq]
    by_cases e1 : i = s
    · subst e1
      by_cases e2 : p = i
      · subst e2; simp
      · have : ¬ ((i : Int) = (p : Int)) := by omega
        simp [e2, this]
    · have e1' : ¬ ((s : Int) = (i : Int)) := by omega
      by_cases e2 : p = s
      · subst e2; simp [e1, e1']
      · have : ¬ ((s : Int) = (p : Int)) := by omega
        simp [e1, e1', e2, this]
theorem down_root {ns : List PNode} (hf : KidsFit ns) {i : Nat} (hk : ∀ p, (i : Int) ∉ kidsOf ns p) : ∀ (f s : Nat), deepOk ns f s → (down ns f s).count (i : Int) = if i = s then 1 else 0
  | 0, s, h => h.elim
  | f + 1, s, h => by
    have h1 := count_none (g := fun x => down ns f x.toNat) (i := (i : Int)) (kidsOf ns s) (fun x hx => by
      have hd := (h.2 x hx)
      rw [down_root hf hk f x.toNat hd.2, if_neg]
      intro e
      exact hk s (by rw [e, Int.toNat_of_nonneg hd.1]; exact hx))
    simp only [down, List.count_cons, h1, beq_iff_eq]
    by_cases e : i = s
    · subst e; simp
    · have : ¬ ((s : Int) = (i : Int)) := by omega
      simp [e, this]
theorem all_count {ns : List PNode} (hf : KidsFit ns) {i p : Nat} (hk : (i : Int) ∈ kidsOf ns p) : ∀ m, m ≤ ns.length → (allDown ns ns.length m).count (i : Int) = (allDown ns ns.length m).count (p : Int)
  | 0, _ => rfl
  | m + 1, hm => by
    simp only [allDown, List.count_append, all_count hf hk m (by omega)]
    by_cases h : parOf ns m = -1
    · rw [if_pos h, down_count hf hk ns.length m (deep_of_fit hf m (by omega) h), if_neg, Nat.add_zero]
      intro e
      have := (fit_kid hf hk).2.2.2
      rw [show ((i : Int)).toNat = i by simp, e, h] at this
      omega
    · rw [if_neg h]; rfl
theorem all_root {ns : List PNode} (hf : KidsFit ns) {i : Nat} (hi : parOf ns i = -1) : ∀ m, m ≤ ns.length → (allDown ns ns.length m).count (i : Int) = if i < m then 1 else 0
  | 0, _ => rfl
  | m + 1, hm => by
    have hk : ∀ p, (i : Int) ∉ kidsOf ns p := fun p hk => by
      have := (fit_kid hf hk).2.2.2
      rw [show ((i : Int)).toNat = i by simp, hi] at this
      omega
    simp only [allDown, List.count_append, all_root hf hi m (by omega)]
    by_cases h : parOf ns m = -1
    · rw [if_pos h, down_root hf hk ns.length m (deep_of_fit hf m (by omega) h)]
      by_cases e : i = m
      · subst e; simp
      · by_cases e2 : i < m
        · rw [if_pos e2, if_neg e, if_pos (by omega)]
        · rw [if_neg e2, if_neg e, if_neg (by omega)]
    · have e : i ≠ m := fun e => h (e ▸ hi)
      rw [if_neg h]
      by_cases e2 : i < m
      · rw [if_pos e2, if_pos (by omega)]; rfl
      · rw [if_neg e2, if_neg (by omega)]; rfl
theorem dep_count {ns : List PNode} (hf : KidsFit ns) : ∀ (d i : Nat), dep ns d i → (allDown ns ns.length ns.length).count (i : Int) = 1
  | 0, i, h => by rw [all_root hf h.2 _ (Nat.le_refl _), if_pos h.1]
  | d + 1, i, ⟨p, hp, hk⟩ => by rw [all_count hf hk _ (Nat.le_refl _), dep_count hf d p hp]
theorem all_nodup {ns : List PNode} (hf : KidsFit ns) : (allDown ns ns.length ns.length).Nodup := by
  refine List.nodup_iff_count.mpr fun x => ?_
  by_cases hx : x ∈ allDown ns ns.length ns.length
  · obtain ⟨h0, _, d, hd⟩ := allDown_dep hf ns.length ns.length (Nat.le_refl _) x hx
    have := dep_count hf d _ hd
    rw [Int.toNat_of_nonneg h0] at this
    omega
  · rw [List.count_eq_zero.mpr hx]; omega
theorem reach_le {ns : List PNode} (hf : KidsFit ns) : reachN ns ns.length ns.length ≤ ns.length := by
  rw [← allDown_len]
  exact nodup_le _ _ (all_nodup hf) fun x hx => ⟨(allDown_dep hf _ _ (Nat.le_refl _) x hx).1, (allDown_dep hf _ _ (Nat.le_refl _) x hx).2.1⟩
/-- Just then all are reached, when each stands some steps below one that stands below none. -/
theorem reach_iff {ns : List PNode} (hf : KidsFit ns) : reachN ns ns.length ns.length = ns.length ↔ ∀ i, i < ns.length → ∃ d, dep ns d i := by
  have hr := fun x hx => allDown_dep hf ns.length ns.length (Nat.le_refl _) x hx
  constructor
  · intro h i hi
    rw [← allDown_len] at h
    have hm := nodup_all (all_nodup hf) (fun x hx => ⟨(hr x hx).1, (hr x hx).2.1⟩) h i hi
    obtain ⟨_, _, d, hd⟩ := hr _ hm
    exact ⟨d, by simpa using hd⟩
  · intro h
    have h1 := reach_le hf
    have h2 : ns.length ≤ reachN ns ns.length ns.length := by
      rw [← allDown_len]
      have key : ∀ m, m ≤ ns.length → ∀ l : List Int, (∀ i : Nat, i < m → (i : Int) ∈ l) → m ≤ l.length := by
        intro m
        induction m with
        | zero => intro _ l _; omega
        | succ m ih =>
          intro hm l hl
          have hmm := hl m (by omega)
          have := ih (by omega) (l.erase (m : Int)) (fun i hi => (List.mem_erase_of_ne (by omega)).mpr (hl i (by omega)))
          rw [List.length_erase_of_mem hmm] at this
          have := List.length_pos_of_mem hmm
          omega
      refine key _ (Nat.le_refl _) _ fun i hi => ?_
      obtain ⟨d, hd⟩ := h i hi
      have := dep_count hf d i hd
      exact List.count_pos_iff.mp (by omega)
    omega
end Go.Proofs.YtogdbjafibejdaaGreat

/- The contract of the program's TokenOk. -/
namespace Go.Proofs.YtogdbjafibejdaaGreat
open Go.RowKit
set_option maxRecDepth 100000
set_option linter.unusedVariables false

theorem doctypeNameOk_any (s : ByteArray) (w : World) (hs : s.size ≤ 1048576) : Calls Tryz.prog 109 #[.string s] w fun e w' => e = .returned (.bool (decide (s.size ≤ 60) && utfOk (bs s))) ∧ Below w.heap.size w w' := by
  have c1 := fun w => textOk_any s w (by omega)
  obtain ⟨u, eu⟩ : ∃ u, u = utfOk (bs s) := ⟨_, rfl⟩
  rw [← eu] at c1 ⊢
  have C1 := (show Hid _ from c1)
  clear c1 eu
  by_cases h60 : s.size ≤ 60
  · rw [decide_eq_true h60]
    go_enter Tryz.func109, Tryz.ntmps109
    go_wp2_with fail
    go_at_call 112
    refine (C1.out _).mono ?_
    rintro e w2 ⟨rfl, b2⟩
    go_wp2
    go_ret
    exact ⟨ret_bool (by simp), b2⟩
  · rw [decide_eq_false h60]
    go_enter Tryz.func109, Tryz.ntmps109
    go_wp2
    go_ret
    exact ⟨ret_bool (by simp), Below.refl _ _⟩

end Go.Proofs.YtogdbjafibejdaaGreat
