/- The specification's l6Node. No condition. -/
import Derived.Test.YtogdbjafibejdaaGreatU17
import Derived.Test.YtogdbjafibejdaaGreatU13
namespace Go.Proofs.YtogdbjafibejdaaGreat
open Go.RowKit
set_option maxRecDepth 100000
set_option linter.unusedVariables false

set_option maxHeartbeats 1000000 in
theorem snode_page {w : World} (nm tx : ByteArray) (p : Int) {a ka : Option Addr} {na ca nk kc : Nat} :
    Calls Tryz.prog 58 #[.agg #[.int .i64 1, .string nm, .slice a na ca, .string tx, .int .i64 p, .slice ka nk kc]] w fun e w' => e = .returned (.bool (empB nm && decide (na = 0) && empB tx)) ∧ Below w.heap.size w w' := by
  unfold empB
  by_cases hnm : nm.toList = [] <;> by_cases htx : tx.toList = [] <;> by_cases hna : na = 0
  all_goals (go_enter Tryz.func58, Tryz.ntmps58; go_wp2)
  all_goals (go_ret; exact ⟨ret_bool (by simp [*]), (Below.refl _ _).alloc (Nat.le_refl _) _⟩)

set_option maxHeartbeats 1000000 in
theorem snode_other {w : World} (nm tx : ByteArray) (p : Int) {a ka : Option Addr} {na ca nk kc : Nat} (k : Int) (h1 : k ≠ 1) (h2 : k ≠ 2) (h3 : k ≠ 3) (h4 : k ≠ 4) (h5 : k ≠ 5) :
    Calls Tryz.prog 58 #[.agg #[.int .i64 (k), .string nm, .slice a na ca, .string tx, .int .i64 p, .slice ka nk kc]] w fun e w' => e = .returned (.bool (false)) ∧ Below w.heap.size w w' := by
  by_cases hnm : nm.toList = [] <;> by_cases htx : tx.toList = []
  all_goals (go_enter Tryz.func58, Tryz.ntmps58; go_wp2)
  all_goals (go_ret; exact ⟨ret_bool (by simp), (Below.refl _ _).alloc (Nat.le_refl _) _⟩)

set_option maxHeartbeats 1000000 in
theorem snode_doc {w : World} (nm tx : ByteArray) (p : Int) {a ka : Option Addr} {na ca nk kc : Nat} (hnm : nm.size ≤ 1048576) (htx : tx.size ≤ 1048576) :
    Calls Tryz.prog 58 #[.agg #[.int .i64 2, .string nm, .slice a na ca, .string tx, .int .i64 p, .slice ka nk kc]] w fun e w' => e = .returned (.bool ((decide (nm.size ≤ 60) && utfOk (bs nm)) && decide (na = 0) && empB tx && decide (nk = 0))) ∧ Below w.heap.size w w' := by
  have hy0 : (w.alloc (.cells #[.int .i64 2, .string nm, .slice a na ca, .string tx, .int .i64 p, .slice ka nk kc] 36)).heap[w.heap.size]? = some (.cells #[.int .i64 2, .string nm, .slice a na ca, .string tx, .int .i64 p, .slice ka nk kc] 36 (0, 0)) := World.alloc_heap_new _ _
  have HY0 := (show Hid _ from hy0)
  have c1 := fun w => l1Ok_any nm w (by omega)
  obtain ⟨u, eu⟩ : ∃ u, u = utfOk (bs nm) := ⟨_, rfl⟩
  rw [← eu] at c1 ⊢
  have C1 := (show Hid _ from c1)
  clear c1 eu hy0
  unfold empB
  by_cases hn0 : nm.toList = [] <;> by_cases ht0 : tx.toList = [] <;> by_cases hna : na = 0 <;> by_cases h60 : nm.size ≤ 60
  all_goals (go_enter Tryz.func58, Tryz.ntmps58; go_wp2_with fail)
  all_goals first
    | (go_ret; exact ⟨ret_bool (by simp [*]), (Below.refl _ _).alloc (Nat.le_refl _) _⟩)
    | (go_at_call 71
       refine (C1.out _).mono ?_
       rintro e w3 ⟨rfl, b3⟩
       have hy := (b3.block w.heap.size (by simp)).trans (World.alloc_heap_new _ _)
       have y5 : w3.cell? ⟨w.heap.size, 5, none⟩ = some (.slice ka nk kc) := by simp only [World.cell?, hy]; rfl
       replace b3 := ((Below.refl w.heap.size w).alloc (Nat.le_refl _) _).trans (b3.mono (by simp))
       clear hy HY0
       cases u <;> go_wp2
       all_goals (go_ret; exact ⟨ret_bool (by first | (simp [*]; done) | simp [*, natb0]), b3⟩))

set_option maxHeartbeats 1000000 in
theorem snode_text {w : World} (nm tx : ByteArray) (p : Int) {a ka : Option Addr} {na ca nk kc : Nat} (hnm : nm.size ≤ 1048576) (htx : tx.size ≤ 1048576) :
    Calls Tryz.prog 58 #[.agg #[.int .i64 4, .string nm, .slice a na ca, .string tx, .int .i64 p, .slice ka nk kc]] w fun e w' => e = .returned (.bool (!empB tx && utfOk (bs tx) && empB nm && decide (na = 0) && decide (nk = 0))) ∧ Below w.heap.size w w' := by
  have hy0 : (w.alloc (.cells #[.int .i64 4, .string nm, .slice a na ca, .string tx, .int .i64 p, .slice ka nk kc] 36)).heap[w.heap.size]? = some (.cells #[.int .i64 4, .string nm, .slice a na ca, .string tx, .int .i64 p, .slice ka nk kc] 36 (0, 0)) := World.alloc_heap_new _ _
  have HY0 := (show Hid _ from hy0)
  have c1 := fun w => l1Ok_any tx w (by omega)
  obtain ⟨u, eu⟩ : ∃ u, u = utfOk (bs tx) := ⟨_, rfl⟩
  rw [← eu] at c1 ⊢
  have C1 := (show Hid _ from c1)
  clear c1 eu hy0
  unfold empB
  by_cases hn0 : nm.toList = [] <;> by_cases ht0 : tx.toList = [] <;> by_cases hna : na = 0
  all_goals (go_enter Tryz.func58, Tryz.ntmps58; go_wp2_with fail)
  all_goals first
    | (go_ret; exact ⟨ret_bool (by simp [*]), (Below.refl _ _).alloc (Nat.le_refl _) _⟩)
    | (go_at_call 71
       refine (C1.out _).mono ?_
       rintro e w3 ⟨rfl, b3⟩
       have hy := (b3.block w.heap.size (by simp)).trans (World.alloc_heap_new _ _)
       have y5 : w3.cell? ⟨w.heap.size, 5, none⟩ = some (.slice ka nk kc) := by simp only [World.cell?, hy]; rfl
       replace b3 := ((Below.refl w.heap.size w).alloc (Nat.le_refl _) _).trans (b3.mono (by simp))
       clear hy HY0
       cases u <;> go_wp2
       all_goals (go_ret; exact ⟨ret_bool (by first | (simp [*]; done) | simp [*, natb0]), b3⟩))

set_option maxHeartbeats 1000000 in
theorem snode_com {w : World} (nm tx : ByteArray) (p : Int) {a ka : Option Addr} {na ca nk kc : Nat} (hnm : nm.size ≤ 1048576) (htx : tx.size ≤ 1048576) :
    Calls Tryz.prog 58 #[.agg #[.int .i64 5, .string nm, .slice a na ca, .string tx, .int .i64 p, .slice ka nk kc]] w fun e w' => e = .returned (.bool (utfOk (bs tx) && empB nm && decide (na = 0) && decide (nk = 0))) ∧ Below w.heap.size w w' := by
  have hy0 : (w.alloc (.cells #[.int .i64 5, .string nm, .slice a na ca, .string tx, .int .i64 p, .slice ka nk kc] 36)).heap[w.heap.size]? = some (.cells #[.int .i64 5, .string nm, .slice a na ca, .string tx, .int .i64 p, .slice ka nk kc] 36 (0, 0)) := World.alloc_heap_new _ _
  have HY0 := (show Hid _ from hy0)
  have c1 := fun w => l1Ok_any tx w (by omega)
  obtain ⟨u, eu⟩ : ∃ u, u = utfOk (bs tx) := ⟨_, rfl⟩
  rw [← eu] at c1 ⊢
  have C1 := (show Hid _ from c1)
  clear c1 eu hy0
  unfold empB
  by_cases hn0 : nm.toList = [] <;> by_cases ht0 : tx.toList = [] <;> by_cases hna : na = 0
  all_goals (go_enter Tryz.func58, Tryz.ntmps58; go_wp2_with fail)
  all_goals first
    | (go_ret; exact ⟨ret_bool (by simp [*]), (Below.refl _ _).alloc (Nat.le_refl _) _⟩)
    | (go_at_call 71
       refine (C1.out _).mono ?_
       rintro e w3 ⟨rfl, b3⟩
       have hy := (b3.block w.heap.size (by simp)).trans (World.alloc_heap_new _ _)
       have y5 : w3.cell? ⟨w.heap.size, 5, none⟩ = some (.slice ka nk kc) := by simp only [World.cell?, hy]; rfl
       replace b3 := ((Below.refl w.heap.size w).alloc (Nat.le_refl _) _).trans (b3.mono (by simp))
       clear hy HY0
       cases u <;> go_wp2
       all_goals (go_ret; exact ⟨ret_bool (by first | (simp [*]; done) | simp [*, natb0]), b3⟩))

set_option maxHeartbeats 1000000 in
theorem snode_elem {w : World} (nm tx : ByteArray) (p : Int) {a ka : Option Addr} {na ca nk kc : Nat} {rs : List (ByteArray × ByteArray)} (hav : Sv 2 w (.slice a na ca) (pairCells rs)) (hnm : nm.size ≤ 1048576) (htx : tx.size ≤ 1048576) (hrs : rs.length ≤ 1048576) (hrr : ∀ p ∈ rs, p.1.size ≤ 1099511627776 ∧ p.2.size ≤ 1099511627776) :
    Calls Tryz.prog 58 #[.agg #[.int .i64 3, .string nm, .slice a na ca, .string tx, .int .i64 p, .slice ka nk kc]] w fun e w' => e = .returned (.bool (nameOk (bs nm) && attrsOk rs && empB tx)) ∧ Below w.heap.size w w' := by
  have b1 : Below w.heap.size w (w.alloc (.cells #[.int .i64 3, .string nm, .slice a na ca, .string tx, .int .i64 p, .slice ka nk kc] 36)) := (Below.refl _ _).alloc (Nat.le_refl _) _
  have hy0 : (w.alloc (.cells #[.int .i64 3, .string nm, .slice a na ca, .string tx, .int .i64 p, .slice ka nk kc] 36)).heap[w.heap.size]? = some (.cells #[.int .i64 3, .string nm, .slice a na ca, .string tx, .int .i64 p, .slice ka nk kc] 36 (0, 0)) := World.alloc_heap_new _ _
  have HY0 := (show Hid _ from hy0)
  have c1 := fun w => snameOk_any nm w (by omega)
  have c2 : ∀ w', Below w.heap.size w w' → Calls Tryz.prog 108 #[.slice a na ca] w' fun e w'' => e = .returned (.bool (attrsOk rs)) ∧ Below w'.heap.size w' w'' := fun w' hb => sattrsOk_any (hav.below hb) (by omega) hrr
  obtain ⟨u, eu⟩ : ∃ u, u = nameOk (bs nm) := ⟨_, rfl⟩
  obtain ⟨u2, eu2⟩ : ∃ u2, u2 = attrsOk rs := ⟨_, rfl⟩
  rw [← eu] at c1 ⊢
  rw [← eu2] at c2 ⊢
  have C1 := (show Hid _ from c1)
  have C2 := (show Hid _ from c2)
  clear c1 c2 eu eu2 hy0 hav hrr
  unfold empB
  by_cases hn0 : nm.toList = [] <;> by_cases ht0 : tx.toList = []
  all_goals (go_enter Tryz.func58, Tryz.ntmps58; go_wp2_with fail)
  all_goals first
    | (go_ret; exact ⟨ret_bool (by simp [*]), b1⟩)
    | (go_at_call 107
       refine (C1.out _).mono ?_
       rintro e w3 ⟨rfl, b3⟩
       have hy := (b3.block w.heap.size (by simp)).trans HY0.out
       have y2 : w3.cell? ⟨w.heap.size, 2, none⟩ = some (.slice a na ca) := by simp only [World.cell?, hy]; rfl
       replace b3 := b1.trans (b3.mono b1.size)
       clear hy HY0
       cases u
       · go_wp2
         go_ret
         exact ⟨ret_bool (by simp), b3⟩
       · go_wp2_with fail
         go_at_call 108
         refine (C2.out _ b3).mono ?_
         rintro e w4 ⟨rfl, b4⟩
         replace b4 := b3.trans (b4.mono b3.size)
         go_wp2
         go_ret
         exact ⟨ret_bool (by simp [*]), b4⟩)

/-- l6Node, of every node. -/
theorem snodeOk_any {w : World} (k : Int) (nm tx : ByteArray) (p : Int) {a ka : Option Addr} {na ca nk kc : Nat} {rs : List (ByteArray × ByteArray)} (hav : Sv 2 w (.slice a na ca) (pairCells rs)) (hnm : nm.size ≤ 1048576) (htx : tx.size ≤ 1048576) (hrs : rs.length ≤ 1048576) (hrr : ∀ p ∈ rs, p.1.size ≤ 1099511627776 ∧ p.2.size ≤ 1099511627776) :
    Calls Tryz.prog 58 #[.agg #[.int .i64 k, .string nm, .slice a na ca, .string tx, .int .i64 p, .slice ka nk kc]] w fun e w' => e = .returned (.bool (nodeB k nm rs tx nk)) ∧ Below w.heap.size w w' := by
  obtain ⟨_, _, ev, _⟩ := hav.pair
  have hna : na = rs.length := by cases ev; rfl
  unfold nodeB
  by_cases h1 : k = 1
  · subst h1
    rw [if_pos rfl, ← hna]
    exact snode_page nm tx p
  rw [if_neg h1]
  by_cases h2 : k = 2
  · subst h2
    rw [if_pos rfl, ← hna]
    exact snode_doc nm tx p hnm htx
  rw [if_neg h2]
  by_cases h3 : k = 3
  · subst h3
    rw [if_pos rfl]
    exact snode_elem nm tx p hav hnm htx hrs hrr
  rw [if_neg h3]
  by_cases h4 : k = 4
  · subst h4
    rw [if_pos rfl, ← hna]
    exact snode_text nm tx p hnm htx
  rw [if_neg h4]
  by_cases h5 : k = 5
  · subst h5
    rw [if_pos rfl, ← hna]
    exact snode_com nm tx p hnm htx
  rw [if_neg h5]
  exact snode_other nm tx p k h1 h2 h3 h4 h5
end Go.Proofs.YtogdbjafibejdaaGreat
