/- What stands below a node, in plain words. No condition. -/
import Derived.Test.YthdfhckmgneioaaGreatKidsP
namespace Go.Proofs.YthdfhckmgneioaaGreat
open Go.RowKit
set_option maxRecDepth 100000
set_option linter.unusedVariables false

/-- A node and all that stand below it, each ahead of its kids; f levels at most. -/
def down (ns : List PNode) : Nat → Nat → List Int
  | 0, _ => []
  | f + 1, k => (k : Int) :: (kidsOf ns k).flatMap fun x => down ns f x.toNat
/-- Below the node there are fewer than f levels, and all that stand there are nodes. -/
def deepOk (ns : List PNode) : Nat → Nat → Prop
  | 0, _ => False
  | f + 1, k => k < ns.length ∧ ∀ x ∈ kidsOf ns k, 0 ≤ x ∧ deepOk ns f x.toNat
theorem deepOk_lt {ns : List PNode} {f k : Nat} (h : deepOk ns f k) : k < ns.length := by
  cases f with
  | zero => exact h.elim
  | succ f => exact h.1
end Go.Proofs.YthdfhckmgneioaaGreat
