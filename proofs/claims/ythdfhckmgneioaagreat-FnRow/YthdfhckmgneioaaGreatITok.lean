/- The contract of the program's TokenOk. -/
import Derived.Test.YthdfhckmgneioaaGreatTok
namespace Go.Proofs.YthdfhckmgneioaaGreat
open Go.RowKit
set_option maxRecDepth 100000
set_option linter.unusedVariables false

theorem doctypeNameOk_any (s : ByteArray) (w : World) (hs : s.size ≤ 1048576) : Calls Tryz.prog 88 #[.string s] w fun e w' => e = .returned (.bool (decide (s.size ≤ 60) && utfOk (bs s))) ∧ Below w.heap.size w w' := by
  have c1 := fun w => textOk_any s w (by omega)
  obtain ⟨u, eu⟩ : ∃ u, u = utfOk (bs s) := ⟨_, rfl⟩
  rw [← eu] at c1 ⊢
  have C1 := (show Hid _ from c1)
  clear c1 eu
  by_cases h60 : s.size ≤ 60
  · rw [decide_eq_true h60]
    go_enter Tryz.func88, Tryz.ntmps88
    go_wp2_with fail
    go_at_call 91
    refine (C1.out _).mono ?_
    rintro e w2 ⟨rfl, b2⟩
    go_wp2
    go_ret
    exact ⟨ret_bool (by simp), b2⟩
  · rw [decide_eq_false h60]
    go_enter Tryz.func88, Tryz.ntmps88
    go_wp2
    go_ret
    exact ⟨ret_bool (by simp), Below.refl _ _⟩

end Go.Proofs.YthdfhckmgneioaaGreat
