/- The contracts of the draws of strings: some string, of a bounded length. -/
import Derived.Test.YtgoedknimpdpoaaU10
import Derived.Test.YtgoedknimpdpoaaU7
import Derived.Laws.Concat
namespace Go.Proofs.Ytgoedknimpdpoaa
open Go.RowKit
set_option maxRecDepth 100000
set_option linter.unusedVariables false

theorem grown_past {w w1 w2 : World} {g : Nat} {row : Option Nat} (h : w.grownBy w1 (some g)) (k : w1.grownBy w2 row) (hr : ∀ j, row = some j → w.heap.size ≤ j) : w.grownBy w2 (some g) :=
  ⟨k.os.trans h.os, k.tape.trans h.tape, k.output.trans h.output, Nat.le_trans h.size k.size, fun j hj hne => (k.block j (Nat.lt_of_lt_of_le hj h.size) (fun e => by have := hr j e.symm; omega)).trans (h.block j hj hne)⟩
theorem grown_below {w w1 w2 : World} {g : Nat} (h : w.grownBy w1 (some g)) (k : Below w1.heap.size w1 w2) : w.grownBy w2 (some g) :=
  ⟨k.os.trans h.os, k.tape.trans h.tape, k.output.trans h.output, Nat.le_trans h.size k.size, fun j hj hne => (k.block j (Nat.lt_of_lt_of_le hj h.size)).trans (h.block j hj hne)⟩

theorem add_size (a b : ByteArray) : (a ++ b).size = a.size + b.size := by simp

theorem strOf_size (zs : List Int) : (strOf zs).size = zs.length := by
  have e := congrArg List.length (strOf_list zs ByteArray.empty)
  have e0 : ByteArray.empty.data.toList = [] := rfl
  rw [e0, List.nil_append, List.length_map] at e
  exact e

end Go.Proofs.Ytgoedknimpdpoaa

/- The contract of the laws' marks of texts: the text for a number hangs on the number alone. -/
namespace Go.Proofs.Ytgoedknimpdpoaa
open Go.RowKit
set_option maxRecDepth 100000
set_option linter.unusedVariables false

/-- The digits of k ahead of s, by a bound on their count. -/
def mtF : Nat → Nat → ByteArray → ByteArray
  | 0, _, s => s
  | n + 1, k, s => if k = 0 then s else mtF n (k / 10) (strOf [48 + (k : Int) % 10] ++ s)
/-- The text of a mark. -/
def mt (k : Int) : ByteArray := if k ≤ 0 then ⟨#[109, 48]⟩ else ⟨#[109]⟩ ++ mtF k.toNat k.toNat ⟨#[]⟩

theorem one_sl (w : World) (x : Int) : Sl .u8 (w.alloc (.cells #[.int .u8 x] 5)) (.slice (some ⟨w.heap.size, 0, none⟩) 1 1) [x] :=
  Own.sl (World.ownsRow_lit w #[.int .u8 x] 1 (Nat.le_refl _) (by unfold maxLen; omega) rfl : Own w.heap.size 5 .u8 _ _ [x])

theorem mtF_nought (n : Nat) (s : ByteArray) : mtF n 0 s = s := by
  cases n
  · rfl
  · unfold mtF; rw [if_pos rfl]

end Go.Proofs.Ytgoedknimpdpoaa
