/- Contracts of chapter 2's functions on one number, the program's and the specification's. No condition. -/
import Derived.Test.YtiejfnnokfedkaaIn
import Derived.Laws.EntriesVeiled
namespace Go.Proofs.Ytiejfnnokfedkaa
open Go.RowKit
set_option maxRecDepth 100000
set_option linter.unusedVariables false

def isBlank (x : Int) : Bool := x == 9 || x == 10 || x == 12 || x == 32
def isBar (x : Int) : Bool := x == 0 || x == 47 || x == 62
def lowerOf (x : Int) : Int := if inB x 65 90 then x + 32 else x
def digitOf (x b : Int) : Int :=
  if b ≠ 10 ∧ b ≠ 16 then -1 else if inB x 48 57 then x - 48 else if b = 16 ∧ inB x 65 70 then x - 55 else if b = 16 ∧ inB x 97 102 then x - 87 else -1

end Go.Proofs.Ytiejfnnokfedkaa
