/- The exact law of Escape, walked. -/
import Derived.Test.YthidakbjfblpfaaSEsc
namespace Go.Proofs.Ythidakbjfblpfaa
open Go.RowKit
set_option maxRecDepth 100000
set_option linter.unusedVariables false

theorem fnExactEscape_walk {s : ByteArray} (w : World) (hs : s.size ≤ maxLen) (v : Bool) :
    Calls Try.prog 4 #[.string s, .bool v] w fun e w' => e = .returned (.bool true) ∧ Below w.heap.size w w' := by
  by_cases hl : s.size ≤ 1048576
  · have h1 := fun w => sescape_any s v w (by omega)
    have h2 := fun w => iescape_any s v w (by omega)
    obtain ⟨t, ht⟩ : ∃ t, t = lstr (esc v s.data.toList) := ⟨_, rfl⟩
    rw [← ht] at h1 h2
    clear ht
    go_enter Try.func4, Try.ntmps4
    go_wp2_with fail
    go_at_call 14
    refine (h1 _).mono ?_
    rintro e w1 ⟨rfl, b1⟩
    go_wp2_with fail
    go_at_call 15
    refine (h2 _).mono ?_
    rintro e w2 ⟨rfl, b2⟩
    go_wp2
    go_ret
    exact ⟨rfl, b1.trans (b2.mono b1.size)⟩
  · go_enter Try.func4, Try.ntmps4
    go_wp2
    go_ret
    exact ⟨rfl, Below.refl _ _⟩
end Go.Proofs.Ythidakbjfblpfaa
