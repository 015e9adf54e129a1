/- Contracts of DigitOf, the program's, and of the specification's functions of chapter 2 on one number. No condition. -/
import Derived.Test.YtjgklckdkhbekaaDoorKinds
namespace Go.Proofs.YtjgklckdkhbekaaDoor
open Go.RowKit
set_option linter.unusedVariables false

theorem digitOf_none {x b : Int} (h : b ≠ 10 ∧ b ≠ 16) : digitOf x b = -1 := by unfold digitOf; rw [if_pos h]
theorem digitOf_ten {x : Int} : digitOf x 10 = if inB x 48 57 then x - 48 else -1 := by unfold digitOf; simp
theorem digitOf_hex {x : Int} : digitOf x 16 = if inB x 48 57 then x - 48 else if inB x 65 70 then x - 55 else if inB x 97 102 then x - 87 else -1 := by unfold digitOf; simp

end Go.Proofs.YtjgklckdkhbekaaDoor
