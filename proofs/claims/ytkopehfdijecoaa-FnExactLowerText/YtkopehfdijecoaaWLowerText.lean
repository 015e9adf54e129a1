/- The exact law of LowerText, walked: at every string it returns true and writes nothing that was there. -/
import Derived.Test.YtkopehfdijecoaaLower
namespace Go.Proofs.Ytkopehfdijecoaa
open Go.RowKit
set_option linter.unusedVariables false

theorem fnExactLowerText_walk {s : ByteArray} (w : World) (hs : s.size ≤ maxLen) :
    Calls Try.prog 8 #[.string s] w fun e w' => e = .returned (.bool true) ∧ Below w.heap.size w w' := by
  by_cases hl : s.size ≤ 1048576
  · have h1 := fun w => slowerText_any s w (by omega)
    have h2 := fun w => ilowerText_any s w (by omega)
    obtain ⟨t, ht⟩ : ∃ t, t = strOf ((bs s).map lowerOf) := ⟨_, rfl⟩
    rw [← ht] at h1 h2
    clear ht
    go_enter Try.func8, Try.ntmps8
    go_wp2_with fail
    go_at_call 13
    refine (h1 _).mono ?_
    rintro e w1 ⟨rfl, b1⟩
    go_wp2_with fail
    go_at_call 12
    refine (h2 _).mono ?_
    rintro e w2 ⟨rfl, b2⟩
    go_wp2
    go_ret
    exact ⟨rfl, b1.trans (b2.mono b1.size)⟩
  · go_enter Try.func8, Try.ntmps8
    go_wp2
    go_ret
    exact ⟨rfl, Below.refl _ _⟩
end Go.Proofs.Ytkopehfdijecoaa
