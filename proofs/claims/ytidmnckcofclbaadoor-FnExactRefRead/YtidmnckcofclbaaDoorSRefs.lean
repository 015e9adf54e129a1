/- Contracts of the specification's functions on references. -/
import Derived.Test.YtidmnckcofclbaaDoorRefT
import Derived.Test.YtidmnckcofclbaaDoorSDigit
import Derived.Test.YtidmnckcofclbaaDoorSKinds
import Derived.Test.YtidmnckcofclbaaDoorPut
import Derived.Test.YtidmnckcofclbaaDoorStr
namespace Go.Proofs.YtidmnckcofclbaaDoor
open Go.RowKit
set_option linter.unusedVariables false

def oldCells : Array Value := #[.int .i64 8364, .int .i64 129, .int .i64 8218, .int .i64 402, .int .i64 8222, .int .i64 8230, .int .i64 8224, .int .i64 8225, .int .i64 710, .int .i64 8240, .int .i64 352, .int .i64 8249, .int .i64 338, .int .i64 141, .int .i64 381, .int .i64 143, .int .i64 144, .int .i64 8216, .int .i64 8217, .int .i64 8220, .int .i64 8221, .int .i64 8226, .int .i64 8211, .int .i64 8212, .int .i64 732, .int .i64 8482, .int .i64 353, .int .i64 8250, .int .i64 339, .int .i64 157, .int .i64 382, .int .i64 376]
theorem oldCells_at (k : Nat) (h : k < 32) : oldCells[k]? = some (.int .i64 (oldPoints.getD k 0)) := by
  have e : oldCells.toList = oldPoints.map (Value.int .i64) := rfl
  have : oldCells.toList[k]? = some (.int .i64 (oldPoints.getD k 0)) := by
    rw [e, List.getElem?_map]
    have hl : k < oldPoints.length := h
    simp [List.getD_eq_getElem?_getD, hl]
  simpa using this

theorem srefNumber_any (x : Int) (w : World) : Calls Tryd.prog 12 #[.int .i64 x] w fun e w' => e = .returned (.int .i64 (refNumber x)) ∧ Below w.heap.size w w' := by
  have c1 := fun w => sok_any x w
  have c2 := fun w => l1In_any x 128 159 w
  by_cases h0 : x = 0
  · subst h0
    go_enter Tryd.func12, Tryd.ntmps12
    go_wp2
    go_ret
    exact ⟨rfl, Below.refl _ _⟩
  have e0 : (x == 0) = false := by simpa using h0
  rcases hp : pointOk x with _ | _
  · have hr : refNumber x = 65533 := by unfold refNumber; rw [if_pos (.inr hp)]
    rw [hp] at c1
    rw [hr]
    clear hp hr
    go_enter Tryd.func12, Tryd.ntmps12
    go_wp2_with fail
    go_at_call 34
    refine (c1 _).mono ?_
    rintro e w1 ⟨rfl, rfl⟩
    go_wp2
    go_ret
    exact ⟨rfl, Below.refl _ _⟩
  · rw [hp] at c1
    by_cases h1 : 128 ≤ x ∧ x ≤ 159
    · have hr : refNumber x = oldPoints.getD (x - 128).toNat 0 := by unfold refNumber; rw [if_neg (by simp [h0, hp]), inB_yes h1.1 h1.2]; rfl
      rw [inB_yes h1.1 h1.2] at c2
      rw [hr]
      obtain ⟨k, rfl⟩ : ∃ k : Nat, x = 128 + k := ⟨(x - 128).toNat, by omega⟩
      have ek : ((128 : Int) + k - 128).toNat = k := by omega
      rw [ek]
      have hk : k < 32 := by omega
      have hc : ∀ w : World, (w.alloc (.cells oldCells 3)).cell? ⟨w.heap.size, k, none⟩ = some (.int .i64 (oldPoints.getD k 0)) := fun w => by
        rw [World.cell?_alloc_mark]; exact oldCells_at k hk
      unfold oldCells at hc
      obtain ⟨y, hy⟩ : ∃ y, y = oldPoints.getD k 0 := ⟨_, rfl⟩
      rw [← hy] at hc ⊢
      clear hy hp hr h1
      go_enter Tryd.func12, Tryd.ntmps12
      go_wp2_with fail
      go_at_call 34
      refine (c1 _).mono ?_
      rintro e w1 ⟨rfl, rfl⟩
      go_wp2_with fail
      go_at_call 27
      refine (c2 _).mono ?_
      rintro e w1 ⟨rfl, rfl⟩
      go_wp2
      go_ret
      exact ⟨rfl, (Below.refl _ _).alloc (Nat.le_refl _) _⟩
    · have hn := inB_no (x := x) (lo := 128) (hi := 159) (by omega)
      have hr : refNumber x = x := by unfold refNumber; rw [if_neg (by simp [h0, hp]), hn]; rfl
      rw [hn] at c2
      rw [hr]
      clear hp hr h1 hn
      go_enter Tryd.func12, Tryd.ntmps12
      go_wp2_with fail
      go_at_call 34
      refine (c1 _).mono ?_
      rintro e w1 ⟨rfl, rfl⟩
      go_wp2_with fail
      go_at_call 27
      refine (c2 _).mono ?_
      rintro e w1 ⟨rfl, rfl⟩
      go_wp2
      go_ret
      exact ⟨rfl, Below.refl _ _⟩

theorem l3At_any {v : Value} {xs : List Int} {w : World} (h : Sl .i64 w v xs) (k : Nat) (hn : xs.length ≤ 1099511627776) :
    Calls Tryd.prog 28 #[v, .int .i64 k] w fun e w' => e = .returned (.int .i64 (atL xs k)) ∧ w' = w := by
  obtain ⟨a, ca, rfl, _, _, _, ha⟩ := h
  by_cases hk : k < xs.length
  · rw [atL_in hk]
    obtain ⟨b1, o1, rfl, c1⟩ := ha k hk
    clear ha
    obtain ⟨y, hy⟩ : ∃ y, y = xs.getD k 0 := ⟨_, rfl⟩
    rw [← hy] at c1 ⊢
    clear hy
    go_enter Tryd.func28, Tryd.ntmps28
    go_wp2
    go_ret
    exact ⟨rfl, rfl⟩
  · rw [atL_out (by omega)]
    clear ha
    go_enter Tryd.func28, Tryd.ntmps28
    go_wp2
    go_ret
    exact ⟨rfl, rfl⟩
end Go.Proofs.YtidmnckcofclbaaDoor
