/- The specification's GetNum, at every list of bytes. -/
import Derived.Test.YtiejfnnokfedkaaRows
import Derived.Test.YtiejfnnokfedkaaHelp
import Derived.Test.YtiejfnnokfedkaaRda
import Derived.OwnWalk
namespace Go.Proofs.Ytiejfnnokfedkaa
open Go.RowKit
set_option maxRecDepth 100000
set_option linter.unusedVariables false

/-- What GetNum answers, of what is read at a place. -/
def numVal (i : Int) : Option (Int × Nat) → Value
  | some (y, n) => .tuple #[.int .i64 y, .int .i64 (i + n), .bool true]
  | none => .tuple #[.int .i64 0, .int .i64 0, .bool false]

theorem mul_eq7 {k : Nat} {acc d : Int} (hk : k ≤ 8) (h0 : 0 ≤ acc) (h1 : acc < 128 ^ k) (d0 : 0 ≤ d) (d1 : d < 128) : wrap64 (acc + wrap64 (d * 128 ^ k)) = acc + d * 128 ^ k := by
  have hs := acc_step (k := k) h0 h1 d0 d1
  have hp := pow_le7 hk
  have hq := pow_pos7 k
  rw [Int.pow_succ] at hs
  have e1 : 0 ≤ d * 128 ^ k := Int.mul_nonneg d0 (by omega)
  generalize d * 128 ^ k = q at *
  generalize (128 : Int) ^ k = p at *
  have w1 : wrap64 q = q := by unfold wrap64; omega
  rw [w1]
  unfold wrap64
  omega

theorem tup3 {a a' b b' : Int} {c : Bool} (ha : a = a') (hb : b = b') : Ending.returned (.tuple #[.int .i64 a, .int .i64 b, .bool c]) = .returned (.tuple #[.int .i64 a', .int .i64 b', .bool c]) := by rw [ha, hb]

end Go.Proofs.Ytiejfnnokfedkaa
