/- Trees that are right as the specification has it, in plain words. No condition. -/
import Derived.Test.YtogdbjafibejdaaGreatU17
import Derived.Test.YtogdbjafibejdaaGreatU13
namespace Go.Proofs.YtogdbjafibejdaaGreat
open Go.RowKit
set_option maxRecDepth 100000
set_option linter.unusedVariables false

/-- What the specification asks: the document's words, and that the page has no Parent. -/
def STreeOkP (ns : List PNode) : Prop := TreeOkP ns ∧ parOf ns 0 = -1

/-- The Parent is a node's number, or -1; that of node 0 is -1. -/
def SPar (ns : List PNode) (k : Nat) : Prop := -1 ≤ parOf ns k ∧ parOf ns k ≤ ns.length - 1 ∧ (k = 0 → parOf ns k = -1)
theorem tree_par {ns : List PNode} (h : STreeOkP ns) {k : Nat} (hk : k < ns.length) : SPar ns k := by
  obtain ⟨d, hd⟩ := h.1.linked k hk
  refine ⟨?_, ?_, fun e => e ▸ h.2⟩
  all_goals
    cases d with
    | zero => have := hd.2; omega
    | succ d =>
      obtain ⟨p, hp, hm⟩ := hd
      have := fit_kid h.1.fit hm
      rw [show ((k : Int)).toNat = k by simp] at this
      omega
theorem tree_kid {ns : List PNode} (h : STreeOkP ns) {k : Nat} {x : Int} (hx : x ∈ kidsOf ns k) : 1 ≤ x ∧ x ≤ ns.length - 1 := by
  have hk := fit_kid h.1.fit hx
  by_cases e : x = 0
  · have h3 := hk.2.2.2
    rw [e] at h3
    have h4 := h.2
    rw [show (0 : Int).toNat = 0 from rfl] at h3
    omega
  · omega
theorem tree_bad {ns : List PNode} {k : Nat} {pre : List Int} (hk : k < ns.length) (hb : BadPre ns k pre) (hp : pre <+: kidsOf ns k) (hf : ∀ i, i < k → FitPre ns i (kidsOf ns i)) : ¬ STreeOkP ns := fun h => bad_not hk hb hp hf h.1.fit

/-- The array's cells tell what stands; N of them. -/
def StandsN (N : Nat) (ns : List PNode) (k : Nat) (pre : List Int) (arr : Array Value) : Prop := arr.size = N ∧ ∀ j, j < N → ∃ b, arr[j]? = some (.bool b) ∧ (b = true ↔ Stand ns k pre j)
theorem StandsN.snoc {N : Nat} {ns : List PNode} {k : Nat} {pre : List Int} {arr : Array Value} (h : StandsN N ns k pre arr) (j : Nat) (hj : j < N) : StandsN N ns k (pre ++ [(j : Int)]) (arr.setIfInBounds j (.bool true)) := by
  refine ⟨by simpa using h.1, fun i hi => ?_⟩
  by_cases e : j = i
  · subst e
    refine ⟨true, ?_, ?_⟩
    · have := h.1; simp [this, hj]
    · simp [Stand]
  · obtain ⟨b, hb, hs⟩ := h.2 i hi
    refine ⟨b, by rw [Array.getElem?_setIfInBounds]; simp [e, hb], hs.trans ?_⟩
    have : ¬ ((i : Int) = (j : Int)) := by omega
    simp [Stand, this]
theorem StandsN.next {N : Nat} {ns : List PNode} {k : Nat} {arr : Array Value} (h : StandsN N ns k (kidsOf ns k) arr) : StandsN N ns (k + 1) [] arr := by
  refine ⟨h.1, fun i hi => ?_⟩
  obtain ⟨b, hb, hs⟩ := h.2 i hi
  refine ⟨b, hb, hs.trans ?_⟩
  simp only [Stand, List.not_mem_nil, false_or]
  constructor
  · rintro (hm | ⟨j, hj, hm⟩)
    · exact ⟨k, by omega, hm⟩
    · exact ⟨j, by omega, hm⟩
  · rintro ⟨j, hj, hm⟩
    by_cases e : j = k
    · subst e; exact .inl hm
    · exact .inr ⟨j, by omega, hm⟩
theorem standsN_zero (N : Nat) (ns : List PNode) (arr : Array Value) (h : arr = Array.replicate N (.bool false)) : StandsN N ns 0 [] arr := by
  subst h
  refine ⟨by simp, fun j hj => ⟨false, by simp [hj], ?_⟩⟩
  simp [Stand]

/-- k steps up. -/
def up (ns : List PNode) : Nat → Nat → Int
  | 0, i => i
  | k + 1, i => parOf ns (up ns k i).toNat
theorem up_shift {ns : List PNode} {i p : Nat} (h : parOf ns i = p) : ∀ m, up ns (m + 1) i = up ns m p
  | 0 => by simp [up, h]
  | m + 1 => by
    show parOf ns (up ns (m + 1) i).toNat = parOf ns (up ns m p).toNat
    rw [up_shift h m]
theorem dep_up {ns : List PNode} (hf : KidsFit ns) : ∀ (d i : Nat), dep ns d i → up ns (d + 1) i = -1
  | 0, i, h => by simpa [up] using h.2
  | d + 1, i, ⟨p, hp, hk⟩ => by
    have := (fit_kid hf hk).2.2.2
    rw [show ((i : Int)).toNat = i by simp] at this
    rw [up_shift this, dep_up hf d p hp]
/-- In a right tree a way up ends in time. -/
theorem tree_up {ns : List PNode} (h : STreeOkP ns) {i : Nat} (hi : i < ns.length) : ∃ d, d ≤ ns.length ∧ up ns d i < 0 := by
  obtain ⟨d, hd⟩ := h.1.linked i hi
  have := dep_lt h.1.fit hd
  exact ⟨d + 1, by omega, by rw [dep_up h.1.fit d i hd]; omega⟩
theorem tree_seen {ns : List PNode} (h : STreeOkP ns) {i : Nat} (hi : i < ns.length) : Stand ns ns.length [] i ↔ 0 ≤ parOf ns i := by
  obtain ⟨d, hd⟩ := h.1.linked i hi
  constructor
  · rintro (hm | ⟨p, hp, hm⟩)
    · cases hm
    · have := (fit_kid h.1.fit hm).2.2.2
      rw [show ((i : Int)).toNat = i by simp] at this
      omega
  · intro h0
    cases d with
    | zero => have := hd.2; omega
    | succ d =>
      obtain ⟨p, hp, hm⟩ := hd
      exact .inr ⟨p, (fit_kid h.1.fit hm).1, hm⟩
/-- What the loops look for makes a right tree. -/
theorem tree_of {ns : List PNode} (h1 : 1 ≤ ns.length) (h5 : ns.length ≤ 500) (hg : ∀ k (h : k < ns.length), goodB ns[k] k = true) (hp : ∀ k, k < ns.length → SPar ns k) (hf : KidsFit ns)
    (hs : ∀ i, i < ns.length → (Stand ns ns.length [] i ↔ 0 ≤ parOf ns i)) (hu : ∀ i, i < ns.length → ∃ d, up ns d i < 0) : STreeOkP ns := by
  refine ⟨⟨h1, h5, hg, hf, ?_⟩, (hp 0 (by omega)).2.2 rfl⟩
  have key : ∀ d i, i < ns.length → up ns d i < 0 → ∃ e, dep ns e i := by
    intro d
    induction d with
    | zero => intro i _ h; simp [up] at h; omega
    | succ d ih =>
      intro i hi h
      by_cases h0 : 0 ≤ parOf ns i
      · obtain ⟨p, hpp⟩ : ∃ p : Nat, parOf ns i = p := ⟨(parOf ns i).toNat, by omega⟩
        rcases (hs i hi).mpr h0 with hm | ⟨q, hq, hm⟩
        · cases hm
        · have := (fit_kid hf hm).2.2.2
          rw [show ((i : Int)).toNat = i by simp] at this
          have : p = q := by omega
          subst this
          rw [up_shift hpp] at h
          obtain ⟨e, he⟩ := ih p hq h
          exact ⟨e + 1, p, he, hm⟩
      · exact ⟨0, hi, by have := (hp i hi).1; omega⟩
  exact fun i hi => by obtain ⟨d, hd⟩ := hu i hi; exact key d i hi hd
end Go.Proofs.YtogdbjafibejdaaGreat

/- The specification's l6Node. No condition. -/
namespace Go.Proofs.YtogdbjafibejdaaGreat
open Go.RowKit
set_option maxRecDepth 100000
set_option linter.unusedVariables false

set_option maxHeartbeats 1000000 in
theorem snode_page {w : World} (nm tx : ByteArray) (p : Int) {a ka : Option Addr} {na ca nk kc : Nat} :
    Calls Tryz.prog 58 #[.agg #[.int .i64 1, .string nm, .slice a na ca, .string tx, .int .i64 p, .slice ka nk kc]] w fun e w' => e = .returned (.bool (empB nm && decide (na = 0) && empB tx)) ∧ Below w.heap.size w w' := by
  unfold empB
  by_cases hnm : nm.toList = [] <;> by_cases htx : tx.toList = [] <;> by_cases hna : na = 0
  all_goals (go_enter Tryz.func58, Tryz.ntmps58; go_wp2)
  all_goals (go_ret; exact ⟨ret_bool (by simp [*]), (Below.refl _ _).alloc (Nat.le_refl _) _⟩)

set_option maxHeartbeats 1000000 in
theorem snode_other {w : World} (nm tx : ByteArray) (p : Int) {a ka : Option Addr} {na ca nk kc : Nat} (k : Int) (h1 : k ≠ 1) (h2 : k ≠ 2) (h3 : k ≠ 3) (h4 : k ≠ 4) (h5 : k ≠ 5) :
    Calls Tryz.prog 58 #[.agg #[.int .i64 (k), .string nm, .slice a na ca, .string tx, .int .i64 p, .slice ka nk kc]] w fun e w' => e = .returned (.bool (false)) ∧ Below w.heap.size w w' := by
  by_cases hnm : nm.toList = [] <;> by_cases htx : tx.toList = []
  all_goals (go_enter Tryz.func58, Tryz.ntmps58; go_wp2)
  all_goals (go_ret; exact ⟨ret_bool (by simp), (Below.refl _ _).alloc (Nat.le_refl _) _⟩)

set_option maxHeartbeats 1000000 in
theorem snode_doc {w : World} (nm tx : ByteArray) (p : Int) {a ka : Option Addr} {na ca nk kc : Nat} (hnm : nm.size ≤ 1048576) (htx : tx.size ≤ 1048576) :
    Calls Tryz.prog 58 #[.agg #[.int .i64 2, .string nm, .slice a na ca, .string tx, .int .i64 p, .slice ka nk kc]] w fun e w' => e = .returned (.bool ((decide (nm.size ≤ 60) && utfOk (bs nm)) && decide (na = 0) && empB tx && decide (nk = 0))) ∧ Below w.heap.size w w' := by
  have hy0 : (w.alloc (.cells #[.int .i64 2, .string nm, .slice a na ca, .string tx, .int .i64 p, .slice ka nk kc] 36)).heap[w.heap.size]? = some (.cells #[.int .i64 2, .string nm, .slice a na ca, .string tx, .int .i64 p, .slice ka nk kc] 36 (0, 0)) := World.alloc_heap_new _ _
  have HY0 := (show Hid _ from hy0)
  have c1 := fun w => l1Ok_any nm w (by omega)
  obtain ⟨u, eu⟩ : ∃ u, u = utfOk (bs nm) := ⟨_, rfl⟩
  rw [← eu] at c1 ⊢
  have C1 := (show Hid _ from c1)
  clear c1 eu hy0
  unfold empB
  by_cases hn0 : nm.toList = [] <;> by_cases ht0 : tx.toList = [] <;> by_cases hna : na = 0 <;> by_cases h60 : nm.size ≤ 60
  all_goals (go_enter Tryz.func58, Tryz.ntmps58; go_wp2_with fail)
  all_goals first
    | (go_ret; exact ⟨ret_bool (by simp [*]), (Below.refl _ _).alloc (Nat.le_refl _) _⟩)
    | (go_at_call 71
       refine (C1.out _).mono ?_
       rintro e w3 ⟨rfl, b3⟩
       have hy := (b3.block w.heap.size (by simp)).trans (World.alloc_heap_new _ _)
       have y5 : w3.cell? ⟨w.heap.size, 5, none⟩ = some (.slice ka nk kc) := by simp only [World.cell?, hy]; rfl
       replace b3 := ((Below.refl w.heap.size w).alloc (Nat.le_refl _) _).trans (b3.mono (by simp))
       clear hy HY0
       cases u <;> go_wp2
       all_goals (go_ret; exact ⟨ret_bool (by first | (simp [*]; done) | simp [*, natb0]), b3⟩))

set_option maxHeartbeats 1000000 in
theorem snode_text {w : World} (nm tx : ByteArray) (p : Int) {a ka : Option Addr} {na ca nk kc : Nat} (hnm : nm.size ≤ 1048576) (htx : tx.size ≤ 1048576) :
    Calls Tryz.prog 58 #[.agg #[.int .i64 4, .string nm, .slice a na ca, .string tx, .int .i64 p, .slice ka nk kc]] w fun e w' => e = .returned (.bool (!empB tx && utfOk (bs tx) && empB nm && decide (na = 0) && decide (nk = 0))) ∧ Below w.heap.size w w' := by
  have hy0 : (w.alloc (.cells #[.int .i64 4, .string nm, .slice a na ca, .string tx, .int .i64 p, .slice ka nk kc] 36)).heap[w.heap.size]? = some (.cells #[.int .i64 4, .string nm, .slice a na ca, .string tx, .int .i64 p, .slice ka nk kc] 36 (0, 0)) := World.alloc_heap_new _ _
  have HY0 := (show Hid _ from hy0)
  have c1 := fun w => l1Ok_any tx w (by omega)
  obtain ⟨u, eu⟩ : ∃ u, u = utfOk (bs tx) := ⟨_, rfl⟩
  rw [← eu] at c1 ⊢
  have C1 := (show Hid _ from c1)
  clear c1 eu hy0
  unfold empB
  by_cases hn0 : nm.toList = [] <;> by_cases ht0 : tx.toList = [] <;> by_cases hna : na = 0
  all_goals (go_enter Tryz.func58, Tryz.ntmps58; go_wp2_with fail)
  all_goals first
    | (go_ret; exact ⟨ret_bool (by simp [*]), (Below.refl _ _).alloc (Nat.le_refl _) _⟩)
    | (go_at_call 71
       refine (C1.out _).mono ?_
       rintro e w3 ⟨rfl, b3⟩
       have hy := (b3.block w.heap.size (by simp)).trans (World.alloc_heap_new _ _)
       have y5 : w3.cell? ⟨w.heap.size, 5, none⟩ = some (.slice ka nk kc) := by simp only [World.cell?, hy]; rfl
       replace b3 := ((Below.refl w.heap.size w).alloc (Nat.le_refl _) _).trans (b3.mono (by simp))
       clear hy HY0
       cases u <;> go_wp2
       all_goals (go_ret; exact ⟨ret_bool (by first | (simp [*]; done) | simp [*, natb0]), b3⟩))

set_option maxHeartbeats 1000000 in
theorem snode_com {w : World} (nm tx : ByteArray) (p : Int) {a ka : Option Addr} {na ca nk kc : Nat} (hnm : nm.size ≤ 1048576) (htx : tx.size ≤ 1048576) :
    Calls Tryz.prog 58 #[.agg #[.int .i64 5, .string nm, .slice a na ca, .string tx, .int .i64 p, .slice ka nk kc]] w fun e w' => e = .returned (.bool (utfOk (bs tx) && empB nm && decide (na = 0) && decide (nk = 0))) ∧ Below w.heap.size w w' := by
  have hy0 : (w.alloc (.cells #[.int .i64 5, .string nm, .slice a na ca, .string tx, .int .i64 p, .slice ka nk kc] 36)).heap[w.heap.size]? = some (.cells #[.int .i64 5, .string nm, .slice a na ca, .string tx, .int .i64 p, .slice ka nk kc] 36 (0, 0)) := World.alloc_heap_new _ _
  have HY0 := (show Hid _ from hy0)
  have c1 := fun w => l1Ok_any tx w (by omega)
  obtain ⟨u, eu⟩ : ∃ u, u = utfOk (bs tx) := ⟨_, rfl⟩
  rw [← eu] at c1 ⊢
  have C1 := (show Hid _ from c1)
  clear c1 eu hy0
  unfold empB
  by_cases hn0 : nm.toList = [] <;> by_cases ht0 : tx.toList = [] <;> by_cases hna : na = 0
  all_goals (go_enter Tryz.func58, Tryz.ntmps58; go_wp2_with fail)
  all_goals first
    | (go_ret; exact ⟨ret_bool (by simp [*]), (Below.refl _ _).alloc (Nat.le_refl _) _⟩)
    | (go_at_call 71
       refine (C1.out _).mono ?_
       rintro e w3 ⟨rfl, b3⟩
       have hy := (b3.block w.heap.size (by simp)).trans (World.alloc_heap_new _ _)
       have y5 : w3.cell? ⟨w.heap.size, 5, none⟩ = some (.slice ka nk kc) := by simp only [World.cell?, hy]; rfl
       replace b3 := ((Below.refl w.heap.size w).alloc (Nat.le_refl _) _).trans (b3.mono (by simp))
       clear hy HY0
       cases u <;> go_wp2
       all_goals (go_ret; exact ⟨ret_bool (by first | (simp [*]; done) | simp [*, natb0]), b3⟩))

set_option maxHeartbeats 1000000 in
theorem snode_elem {w : World} (nm tx : ByteArray) (p : Int) {a ka : Option Addr} {na ca nk kc : Nat} {rs : List (ByteArray × ByteArray)} (hav : Sv 2 w (.slice a na ca) (pairCells rs)) (hnm : nm.size ≤ 1048576) (htx : tx.size ≤ 1048576) (hrs : rs.length ≤ 1048576) (hrr : ∀ p ∈ rs, p.1.size ≤ 1099511627776 ∧ p.2.size ≤ 1099511627776) :
    Calls Tryz.prog 58 #[.agg #[.int .i64 3, .string nm, .slice a na ca, .string tx, .int .i64 p, .slice ka nk kc]] w fun e w' => e = .returned (.bool (nameOk (bs nm) && attrsOk rs && empB tx)) ∧ Below w.heap.size w w' := by
  have b1 : Below w.heap.size w (w.alloc (.cells #[.int .i64 3, .string nm, .slice a na ca, .string tx, .int .i64 p, .slice ka nk kc] 36)) := (Below.refl _ _).alloc (Nat.le_refl _) _
  have hy0 : (w.alloc (.cells #[.int .i64 3, .string nm, .slice a na ca, .string tx, .int .i64 p, .slice ka nk kc] 36)).heap[w.heap.size]? = some (.cells #[.int .i64 3, .string nm, .slice a na ca, .string tx, .int .i64 p, .slice ka nk kc] 36 (0, 0)) := World.alloc_heap_new _ _
  have HY0 := (show Hid _ from hy0)
  have c1 := fun w => snameOk_any nm w (by omega)
  have c2 : ∀ w', Below w.heap.size w w' → Calls Tryz.prog 108 #[.slice a na ca] w' fun e w'' => e = .returned (.bool (attrsOk rs)) ∧ Below w'.heap.size w' w'' := fun w' hb => sattrsOk_any (hav.below hb) (by omega) hrr
  obtain ⟨u, eu⟩ : ∃ u, u = nameOk (bs nm) := ⟨_, rfl⟩
  obtain ⟨u2, eu2⟩ : ∃ u2, u2 = attrsOk rs := ⟨_, rfl⟩
  rw [← eu] at c1 ⊢
  rw [← eu2] at c2 ⊢
  have C1 := (show Hid _ from c1)
  have C2 := (show Hid _ from c2)
  clear c1 c2 eu eu2 hy0 hav hrr
  unfold empB
  by_cases hn0 : nm.toList = [] <;> by_cases ht0 : tx.toList = []
  all_goals (go_enter Tryz.func58, Tryz.ntmps58; go_wp2_with fail)
  all_goals first
    | (go_ret; exact ⟨ret_bool (by simp [*]), b1⟩)
    | (go_at_call 107
       refine (C1.out _).mono ?_
       rintro e w3 ⟨rfl, b3⟩
       have hy := (b3.block w.heap.size (by simp)).trans HY0.out
       have y2 : w3.cell? ⟨w.heap.size, 2, none⟩ = some (.slice a na ca) := by simp only [World.cell?, hy]; rfl
       replace b3 := b1.trans (b3.mono b1.size)
       clear hy HY0
       cases u
       · go_wp2
         go_ret
         exact ⟨ret_bool (by simp), b3⟩
       · go_wp2_with fail
         go_at_call 108
         refine (C2.out _ b3).mono ?_
         rintro e w4 ⟨rfl, b4⟩
         replace b4 := b3.trans (b4.mono b3.size)
         go_wp2
         go_ret
         exact ⟨ret_bool (by simp [*]), b4⟩)

/-- l6Node, of every node. -/
theorem snodeOk_any {w : World} (k : Int) (nm tx : ByteArray) (p : Int) {a ka : Option Addr} {na ca nk kc : Nat} {rs : List (ByteArray × ByteArray)} (hav : Sv 2 w (.slice a na ca) (pairCells rs)) (hnm : nm.size ≤ 1048576) (htx : tx.size ≤ 1048576) (hrs : rs.length ≤ 1048576) (hrr : ∀ p ∈ rs, p.1.size ≤ 1099511627776 ∧ p.2.size ≤ 1099511627776) :
    Calls Tryz.prog 58 #[.agg #[.int .i64 k, .string nm, .slice a na ca, .string tx, .int .i64 p, .slice ka nk kc]] w fun e w' => e = .returned (.bool (nodeB k nm rs tx nk)) ∧ Below w.heap.size w w' := by
  obtain ⟨_, _, ev, _⟩ := hav.pair
  have hna : na = rs.length := by cases ev; rfl
  unfold nodeB
  by_cases h1 : k = 1
  · subst h1
    rw [if_pos rfl, ← hna]
    exact snode_page nm tx p
  rw [if_neg h1]
  by_cases h2 : k = 2
  · subst h2
    rw [if_pos rfl, ← hna]
    exact snode_doc nm tx p hnm htx
  rw [if_neg h2]
  by_cases h3 : k = 3
  · subst h3
    rw [if_pos rfl]
    exact snode_elem nm tx p hav hnm htx hrs hrr
  rw [if_neg h3]
  by_cases h4 : k = 4
  · subst h4
    rw [if_pos rfl, ← hna]
    exact snode_text nm tx p hnm htx
  rw [if_neg h4]
  by_cases h5 : k = 5
  · subst h5
    rw [if_pos rfl, ← hna]
    exact snode_com nm tx p hnm htx
  rw [if_neg h5]
  exact snode_other nm tx p k h1 h2 h3 h4 h5
end Go.Proofs.YtogdbjafibejdaaGreat
