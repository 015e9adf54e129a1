/- The contract of the laws' marks of texts: the text for a number hangs on the number alone. -/
import Derived.Test.YthdfhckmgneioaaGreatDrawS
namespace Go.Proofs.YthdfhckmgneioaaGreat
open Go.RowKit
set_option maxRecDepth 100000
set_option linter.unusedVariables false

/-- The digits of k ahead of s, by a bound on their count. -/
def mtF : Nat → Nat → ByteArray → ByteArray
  | 0, _, s => s
  | n + 1, k, s => if k = 0 then s else mtF n (k / 10) (strOf [48 + (k : Int) % 10] ++ s)
/-- The text of a mark. -/
def mt (k : Int) : ByteArray := if k ≤ 0 then ⟨#[109, 48]⟩ else ⟨#[109]⟩ ++ mtF k.toNat k.toNat ⟨#[]⟩

theorem one_sl (w : World) (x : Int) : Sl .u8 (w.alloc (.cells #[.int .u8 x] 5)) (.slice (some ⟨w.heap.size, 0, none⟩) 1 1) [x] :=
  Own.sl (World.ownsRow_lit w #[.int .u8 x] 1 (Nat.le_refl _) (by unfold maxLen; omega) rfl : Own w.heap.size 5 .u8 _ _ [x])

theorem mtF_nought (n : Nat) (s : ByteArray) : mtF n 0 s = s := by
  cases n
  · rfl
  · unfold mtF; rw [if_pos rfl]

end Go.Proofs.YthdfhckmgneioaaGreat
