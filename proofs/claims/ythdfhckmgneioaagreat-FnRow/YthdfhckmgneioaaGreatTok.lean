/- Tokens as plain values: what TokenOk says of one, and the program's helpers. -/
import Derived.Test.YthdfhckmgneioaaGreatIAttr3
import Derived.Test.YthdfhckmgneioaaGreatRound
import Derived.Test.YthdfhckmgneioaaGreatSAttr3
namespace Go.Proofs.YthdfhckmgneioaaGreat
open Go.RowKit
set_option maxRecDepth 100000
set_option linter.unusedVariables false

/-- A text that is right is read by both readers as the same. -/
theorem read_ok {xs : List Int} (h : utfOk xs = true) : utfRead xs = dec xs := by
  unfold utfOk at h
  simp only [Bool.and_eq_true, decide_eq_true_eq] at h
  obtain ⟨hl, hp⟩ := h
  have hr : utfRead xs = dec (unmark xs) := by unfold utfRead; rw [if_pos hl]
  rw [hr]
  unfold unmark
  by_cases h3 : xs.take 3 = [239, 187, 191]
  · exfalso
    have hu : unmark xs = xs.drop 3 := by unfold unmark; rw [if_pos h3]
    have hlen := utfRead_len xs
    rw [hr, hu] at hp hlen
    have hq : puts (dec (xs.drop 3)) = xs := by unfold pointsPut at hp; rw [if_pos hlen] at hp; exact hp
    have e1 : dec xs = (dec (xs.drop 3)).map pt := by rw [← dec_puts, hq]
    have e2 : xs = enc 65279 ++ xs.drop 3 := by
      have e := (List.take_append_drop 3 xs).symm
      rw [h3] at e
      exact e
    have e3 : dec xs = 65279 :: dec (xs.drop 3) := by
      rw [e2, dec_enc (by decide) (by decide) (by decide)]
      simp [enc]
    have := congrArg List.length (e1.symm.trans e3)
    simp at this
  · rw [if_neg h3]

/-- A token's value. -/
def tokVal (k : Int) (nm : ByteArray) (va : Value) (tx : ByteArray) (sf : Bool) : Value := .agg #[.int .i64 k, .string nm, va, .string tx, .bool sf]

/-- What TokenOk answers. -/
def tokenOk (k : Int) (nm : ByteArray) (rs : List (ByteArray × ByteArray)) (tx : ByteArray) (sf : Bool) : Bool :=
  if k = 1 then decide (rs.length = 0) && !sf && nm.toList.isEmpty && tx.toList.isEmpty
  else if k = 2 then decide (rs.length = 0) && !sf && nm.toList.isEmpty && utfOk (bs tx) && decide ((dec (bs tx)).length = 1)
  else if k = 3 then decide (rs.length = 0) && !sf && nm.toList.isEmpty && utfOk (bs tx)
  else if k = 4 then decide (rs.length = 0) && !sf && tx.toList.isEmpty && decide (nm.size ≤ 60) && utfOk (bs nm)
  else if k = 5 then tx.toList.isEmpty && nameOk (bs nm) && attrsOk rs
  else if k = 6 then decide (rs.length = 0) && !sf && tx.toList.isEmpty && nameOk (bs nm)
  else false

/-- What is asked of a token's parts: nothing is too long. -/
structure TokFit (nm : ByteArray) (rs : List (ByteArray × ByteArray)) (tx : ByteArray) : Prop where
  hnm : nm.size ≤ 1048576
  htx : tx.size ≤ 1048576
  hrs : rs.length ≤ 1048576
  each : ∀ p ∈ rs, p.1.size ≤ 1099511627776 ∧ p.2.size ≤ 1099511627776
end Go.Proofs.YthdfhckmgneioaaGreat
