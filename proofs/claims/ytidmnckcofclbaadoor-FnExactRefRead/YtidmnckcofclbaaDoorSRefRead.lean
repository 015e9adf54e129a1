/- The contract of the specification's RefRead. -/
import Derived.Test.YtidmnckcofclbaaDoorSRefList
import Derived.Test.YtidmnckcofclbaaDoorSNum
import Derived.Test.YtidmnckcofclbaaDoorSStands
import Derived.Test.YtidmnckcofclbaaDoorLines
namespace Go.Proofs.YtidmnckcofclbaaDoor
open Go.RowKit
set_option linter.unusedVariables false

theorem own1 (w : World) (x : Int) : Own w.heap.size 3 .i64 (w.alloc (.cells #[.int .i64 x] 3)) (.slice (some ⟨w.heap.size, 0, none⟩) 1 1) [x] :=
  World.ownsRow_lit w #[.int .i64 x] 1 (Nat.le_refl _) (by unfold maxLen; omega) rfl

/-- What a call of RefRead answers. -/
def Reads (w : World) (res : List Int × Int) (e : Ending) (w' : World) : Prop :=
  ∃ v, e = .returned (.tuple #[v, .int .i64 res.2]) ∧ Own w.heap.size 3 .i64 w' v res.1 ∧ Below w.heap.size w w'

theorem refRead_none {xs : List Int} {i : Int} {b : Bool} (h : 3000 < xs.length ∨ inB i 0 (xs.length - 1) = false ∨ xs.getD i.toNat 0 ≠ 38) : refRead xs i b = ([], i) := by unfold refRead; rw [if_pos h]

set_option maxHeartbeats 4000000 in
set_option maxRecDepth 100000 in
theorem srefRead_none {v : Value} {xs : List Int} {w : World} (h : Sl .i64 w v xs) (i : Int) (b : Bool) (hn : xs.length ≤ 1099511627776) (hi : 3000 < xs.length ∨ inB i 0 (xs.length - 1) = false ∨ xs.getD i.toNat 0 ≠ 38) :
    Calls Tryd.prog 9 #[v, .int .i64 i, .bool b] w (Reads w (refRead xs i b)) := by
  rw [refRead_none hi]
  have c1 := fun w => l1In_any i 0 (xs.length - 1) w
  obtain ⟨a, ca, rfl, _, _, _, ha⟩ := h
  by_cases h1 : 3000 < xs.length
  · clear ha
    go_enter Tryd.func9, Tryd.ntmps9
    go_wp2
    go_ret2
    exact ⟨_, rfl, own_empty _ _ _, (Below.refl _ _).alloc (Nat.le_refl _) _⟩
  · rcases h2 : inB i 0 (xs.length - 1) with _ | _
    · rw [h2] at c1
      clear ha
      go_enter Tryd.func9, Tryd.ntmps9
      go_wp2_with fail
      go_at_call 27
      refine (c1 _).mono ?_
      rintro e w1 ⟨rfl, rfl⟩
      go_wp2
      go_ret2
      exact ⟨_, rfl, own_empty _ _ _, (Below.refl _ _).alloc (Nat.le_refl _) _⟩
    · rw [h2] at c1
      have h3 : xs.getD i.toNat 0 ≠ 38 := by
        rcases hi with hi | hi | hi
        · exact absurd hi h1
        · rw [h2] at hi; cases hi
        · exact hi
      have h4 : 0 ≤ i ∧ i ≤ xs.length - 1 := by unfold inB at h2; simpa using h2
      obtain ⟨k, rfl⟩ : ∃ k : Nat, i = k := ⟨i.toNat, by omega⟩
      have hk : k < xs.length := by omega
      obtain ⟨b1, o1, rfl, k1⟩ := ha k hk
      rw [Int.toNat_natCast] at h3
      have e3 : (xs.getD k 0 != 38) = true := by simpa using h3
      obtain ⟨y, hy⟩ : ∃ y, y = xs.getD k 0 := ⟨_, rfl⟩
      rw [← hy] at k1 e3
      clear ha hy h3 h2 hi
      go_enter Tryd.func9, Tryd.ntmps9
      go_wp2_with fail
      go_at_call 27
      refine (c1 _).mono ?_
      rintro e w1 ⟨rfl, rfl⟩
      go_wp2
      go_ret2
      exact ⟨_, rfl, own_empty _ _ _, (Below.refl _ _).alloc (Nat.le_refl _) _⟩
end Go.Proofs.YtidmnckcofclbaaDoor
