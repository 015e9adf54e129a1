/- Trees that are right, in plain words. No condition. -/
import Derived.Test.YthdfhckmgneioaaGreatReachP
import Derived.Test.YthdfhckmgneioaaGreatINode
namespace Go.Proofs.YthdfhckmgneioaaGreat
open Go.RowKit
set_option maxRecDepth 100000
set_option linter.unusedVariables false

/-- Nothing of the node is too long. -/
structure NodeFit (n : PNode) : Prop where
  nm : n.name.size ≤ 1048576
  tx : n.text.size ≤ 1048576
  rs : n.attrs.length ≤ 1048576
  each : ∀ p ∈ n.attrs, p.1.size ≤ 1099511627776 ∧ p.2.size ≤ 1099511627776
  kl : n.kids.length ≤ 1048576
/-- Node number k is right, but for its links. -/
def goodB (n : PNode) (k : Nat) : Bool := (decide (n.kind = 1) == decide (k = 0)) && nodeB n.kind n.name n.attrs n.text n.kids.length
/-- A tree that is right, as the document has it. -/
structure TreeOkP (ns : List PNode) : Prop where
  one : 1 ≤ ns.length
  most : ns.length ≤ 500
  good : ∀ k (h : k < ns.length), goodB ns[k] k = true
  fit : KidsFit ns
  linked : ∀ i, i < ns.length → ∃ d, dep ns d i
end Go.Proofs.YthdfhckmgneioaaGreat
