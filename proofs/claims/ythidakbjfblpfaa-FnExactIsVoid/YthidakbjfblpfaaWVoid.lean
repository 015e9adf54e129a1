/- The exact laws of IsVoid and IsRaw, walked. -/
import Derived.Test.YthidakbjfblpfaaIVoid
namespace Go.Proofs.Ythidakbjfblpfaa
open Go.RowKit
set_option maxRecDepth 100000
set_option linter.unusedVariables false

theorem fnExactIsVoid_walk {s : ByteArray} (w : World) (hs : s.size ≤ maxLen) :
    Calls Try.prog 5 #[.string s] w fun e w' => e = .returned (.bool true) ∧ Below w.heap.size w w' := by
  by_cases hl : s.size ≤ 1048576
  · have h1 := fun w => sisVoid_any s w
    have h2 := fun w => iisVoid_any s w
    obtain ⟨t, ht⟩ : ∃ t, t = hasB voids s := ⟨_, rfl⟩
    rw [← ht] at h1 h2
    clear ht
    cases t
    all_goals
      go_enter Try.func5, Try.ntmps5
      go_wp2_with fail
      go_at_call 16
      refine (h1 _).mono ?_
      rintro e w1 ⟨rfl, b1⟩
      go_wp2_with fail
      go_at_call 17
      refine (h2 _).mono ?_
      rintro e w2 ⟨rfl, rfl⟩
      go_wp2
      go_ret
      exact ⟨rfl, b1⟩
  · go_enter Try.func5, Try.ntmps5
    go_wp2
    go_ret
    exact ⟨rfl, Below.refl _ _⟩

theorem fnExactIsRaw_walk {s : ByteArray} (w : World) (hs : s.size ≤ maxLen) :
    Calls Try.prog 6 #[.string s] w fun e w' => e = .returned (.bool true) ∧ Below w.heap.size w w' := by
  by_cases hl : s.size ≤ 1048576
  · have h1 := fun w => sisRaw_any s w
    have h2 := fun w => iisRaw_any s w
    obtain ⟨t, ht⟩ : ∃ t, t = hasB raws s := ⟨_, rfl⟩
    rw [← ht] at h1 h2
    clear ht
    cases t
    all_goals
      go_enter Try.func6, Try.ntmps6
      go_wp2_with fail
      go_at_call 18
      refine (h1 _).mono ?_
      rintro e w1 ⟨rfl, b1⟩
      go_wp2_with fail
      go_at_call 19
      refine (h2 _).mono ?_
      rintro e w2 ⟨rfl, rfl⟩
      go_wp2
      go_ret
      exact ⟨rfl, b1⟩
  · go_enter Try.func6, Try.ntmps6
    go_wp2
    go_ret
    exact ⟨rfl, Below.refl _ _⟩
end Go.Proofs.Ythidakbjfblpfaa
