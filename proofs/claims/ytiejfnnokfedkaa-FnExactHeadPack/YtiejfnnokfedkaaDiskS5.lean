/- The specification's DiskSync, DiskCrash, DiskNew. No condition. -/
import Derived.Test.YtiejfnnokfedkaaDiskS4
namespace Go.Proofs.Ytiejfnnokfedkaa
open Go.RowKit
set_option maxRecDepth 100000
set_option linter.unusedVariables false

theorem and_i64_nat (a b : Nat) (ha : a < 9223372036854775808) (hb : b < 9223372036854775808) : bits .and .i64 (a : Int) (b : Int) = ((a &&& b : Nat) : Int) := by
  have hx : a &&& b < 2 ^ 63 := Nat.and_lt_two_pow _ (by omega)
  have h1 : (BitVec.ofInt 64 (a : Int)).toNat = a := by
    rw [BitVec.ofInt_natCast, BitVec.toNat_ofNat]; exact Nat.mod_eq_of_lt (by omega)
  have h2 : (BitVec.ofInt 64 (b : Int)).toNat = b := by
    rw [BitVec.ofInt_natCast, BitVec.toNat_ofNat]; exact Nat.mod_eq_of_lt (by omega)
  show IntKind.i64.wrap ((BitVec.ofInt 64 (a : Int) &&& BitVec.ofInt 64 (b : Int)).toNat : Int) = _
  rw [BitVec.toNat_and, h1, h2, IntKind.wrap_i64]
  omega
theorem and_one_i64 (E : Int) (h0 : 0 ≤ E) (h1 : E ≤ 9223372036854775807) : bits BinOp.and IntKind.i64 E 1 = E % 2 := by
  have h := and_i64_nat E.toNat 1 (by omega) (by omega)
  rw [Nat.and_one_is_mod, Int.toNat_of_nonneg h0] at h
  have h2 : ((E.toNat % 2 : Nat) : Int) = E % 2 := by omega
  exact h.trans h2
theorem bit_run {keep : Int} (hk : 0 ≤ keep ∧ keep ≤ 2147483647) (k : Nat) : (bits BinOp.and IntKind.i64 (keep / 2 ^ (k % 31)) 1 == 1) = bitB keep k := by
  have hp : (0 : Int) < 2 ^ (k % 31) := by exact Int.pow_pos (by decide)
  have h0 : 0 ≤ keep / 2 ^ (k % 31) := Int.ediv_nonneg hk.1 (Int.le_of_lt hp)
  have h1 : keep / 2 ^ (k % 31) ≤ keep := Int.ediv_le_self _ hk.1
  rw [and_one_i64 _ h0 (by omega)]
  unfold bitB
  cases h : decide (keep / 2 ^ (k % 31) % 2 = 1)
  · simpa using h
  · simpa using h
/-- While the puts are done: k of them are. -/
structure DoneI (w : World) (d : PDisk) (keep : Int) (g8 c8 u : Nat) (sa : Option Addr) (sn sc : Nat) (la : Option Addr) (lc k : Nat) (W : World) : Prop where
  row : W.ownsRow w.heap.size 9 1 (.slice (some ⟨g8, 0, none⟩) d.safe.length c8) d.safe.length (strCells (doneN keep d.safe d.late k))
  arg : W.heap[w.heap.size]? = some (.cells #[.slice sa sn sc, .slice la d.late.length lc] 36 (0, 0))
  res : W.heap[w.heap.size + 1]? = some (.cells #[.slice none 0 0, .slice none 0 0] 36 (0, 0))
  out : W.heap[u]? = some (.cells #[.slice (some ⟨g8, 0, none⟩) d.safe.length c8, .slice none 0 0] 36 (0, 0))
  bel : Below w.heap.size w W

end Go.Proofs.Ytiejfnnokfedkaa
