/- Contracts of the specification's functions of chapter 2 on one number. No condition. -/
import Derived.Test.YtlggfbelandpjaaKinds
namespace Go.Proofs.Ytlggfbelandpjaa
open Go.RowKit
set_option linter.unusedVariables false

theorem sblank_any (x : Int) (w : World) : Calls Try.prog 56 #[.int .i64 x] w fun e w' => e = .returned (.bool (isBlank x)) ∧ w' = w := by
  go_enter Try.func56, Try.ntmps56
  go_wp2
  all_goals
    go_ret
    exact ⟨ret_bool (by unfold isBlank; simp_all), rfl⟩

end Go.Proofs.Ytlggfbelandpjaa
