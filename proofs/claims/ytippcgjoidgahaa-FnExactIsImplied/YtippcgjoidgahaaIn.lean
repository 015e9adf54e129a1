/- The contract of the specification's small question whether a number lies between two bounds. No condition. -/
import Derived.Test.YtippcgjoidgahaaRows
import Derived.Test.YtippcgjoidgahaaBase
namespace Go.Proofs.Ytippcgjoidgahaa
open Go.RowKit
set_option maxRecDepth 100000
set_option linter.unusedVariables false

def inB (x lo hi : Int) : Bool := decide (lo ≤ x) && decide (x ≤ hi)
theorem inB_yes {x lo hi : Int} (h : lo ≤ x) (h' : x ≤ hi) : inB x lo hi = true := by simp [inB, h, h']
theorem inB_no {x lo hi : Int} (h : x < lo ∨ hi < x) : inB x lo hi = false := by
  rcases h with h | h
  · simp [inB]; omega
  · simp [inB]; omega

end Go.Proofs.Ytippcgjoidgahaa
