/- The contract of the specification's RefRead, where a reference by number stands, and where a name may stand. -/
import Derived.Test.YtidmnckcofclbaaDoorSRefRead
namespace Go.Proofs.YtidmnckcofclbaaDoor
open Go.RowKit
set_option linter.unusedVariables false

theorem refRead_num {xs : List Int} {k : Nat} {b : Bool} (h1 : xs.length ≤ 3000) (hk : k < xs.length) (h3 : xs.getD k 0 = 38) (h4 : atL xs (k + 1) = 35) :
    refRead xs k b = if 0 < (refNum xs (k + 2)).2 then ([(refNum xs (k + 2)).1], (refNum xs (k + 2)).2) else ([38], (k : Int) + 1) := by
  unfold refRead
  rw [if_neg (by rintro (h | h | h); exact absurd h (by omega); rw [inB_yes (by omega) (by omega)] at h; cases h; exact h (by simpa using h3)), Int.toNat_natCast, if_pos h4]
theorem refRead_name {xs : List Int} {k : Nat} {b : Bool} (h1 : xs.length ≤ 3000) (hk : k < xs.length) (h3 : xs.getD k 0 = 38) (h4 : atL xs (k + 1) ≠ 35) : refRead xs k b = refName xs k b := by
  unfold refRead
  rw [if_neg (by rintro (h | h | h); exact absurd h (by omega); rw [inB_yes (by omega) (by omega)] at h; cases h; exact h (by simpa using h3)), Int.toNat_natCast, if_neg h4]

set_option maxHeartbeats 4000000 in
set_option maxRecDepth 100000 in
theorem srefRead_num {v : Value} {xs : List Int} {w : World} (h : Sl .i64 w v xs) (k : Nat) (b : Bool) (h1 : xs.length ≤ 3000) (hk : k < xs.length) (h3 : xs.getD k 0 = 38) (h4 : atL xs (k + 1) = 35) :
    Calls Tryd.prog 9 #[v, .int .i64 k, .bool b] w (Reads w (refRead xs k b)) := by
  rw [refRead_num h1 hk h3 h4]
  have c1 := fun w => l1In_any k 0 (xs.length - 1) w
  rw [inB_yes (by omega) (by omega)] at c1
  have c2 := l3At_any h (k + 1) (by omega)
  rw [h4] at c2
  have c3 := l3Number_any h (k + 2) (by omega) (by omega)
  have e1 : ((k + 1 : Nat) : Int) = (k : Int) + 1 := by omega
  have e2 : ((k + 2 : Nat) : Int) = (k : Int) + 2 := by omega
  rw [e1] at c2
  rw [e2] at c3
  obtain ⟨p, hp⟩ : ∃ p, p = refNum xs (k + 2) := ⟨_, rfl⟩
  rw [← hp] at c3 ⊢
  obtain ⟨x, n⟩ := p
  simp only at c3 ⊢
  obtain ⟨a, ca, rfl, _, _, _, ha⟩ := h
  obtain ⟨b1, o1, rfl, k1⟩ := ha k hk
  rw [h3] at k1
  clear ha hp h3 h4 e1 e2
  by_cases hn : 0 < n
  · rw [if_pos hn]
    go_enter Tryd.func9, Tryd.ntmps9
    go_wp2_with fail
    go_at_call 27
    refine (c1 _).mono ?_
    rintro e w1 ⟨rfl, rfl⟩
    go_wp2_with fail
    go_at_call 28
    refine c2.mono ?_
    rintro e w1 ⟨rfl, rfl⟩
    go_wp2_with fail
    go_at_call 29
    refine c3.mono ?_
    rintro e w2 ⟨rfl, b2⟩
    go_wp2
    go_ret2
    exact ⟨_, rfl, (own1 _ _).base b2.size, b2.alloc b2.size _⟩
  · rw [if_neg hn]
    go_enter Tryd.func9, Tryd.ntmps9
    go_wp2_with fail
    go_at_call 27
    refine (c1 _).mono ?_
    rintro e w1 ⟨rfl, rfl⟩
    go_wp2_with fail
    go_at_call 28
    refine c2.mono ?_
    rintro e w1 ⟨rfl, rfl⟩
    go_wp2_with fail
    go_at_call 29
    refine c3.mono ?_
    rintro e w2 ⟨rfl, b2⟩
    go_wp2
    go_ret2
    exact ⟨_, rfl, (own1 _ _).base b2.size, b2.alloc b2.size _⟩
end Go.Proofs.YtidmnckcofclbaaDoor
