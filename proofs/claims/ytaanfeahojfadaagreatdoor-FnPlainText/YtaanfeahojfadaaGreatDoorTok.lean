/- Tokens as plain values: what TokenOk says of one, and the program's helpers. -/
import Derived.Test.YtaanfeahojfadaaGreatDoorIAttr3
import Derived.Test.YtaanfeahojfadaaGreatDoorRound
import Derived.Test.YtaanfeahojfadaaGreatDoorSAttr3
namespace Go.Proofs.YtaanfeahojfadaaGreatDoor
open Go.RowKit
set_option maxRecDepth 100000
set_option linter.unusedVariables false

/-- A text that is right is read by both readers as the same. -/
theorem read_ok {xs : List Int} (h : utfOk xs = true) : utfRead xs = dec xs := by
  unfold utfOk at h
  simp only [Bool.and_eq_true, decide_eq_true_eq] at h
  obtain ⟨hl, hp⟩ := h
  have hr : utfRead xs = dec (unmark xs) := by unfold utfRead; rw [if_pos hl]
  rw [hr]
  unfold unmark
  by_cases h3 : xs.take 3 = [239, 187, 191]
  · exfalso
    have hu : unmark xs = xs.drop 3 := by unfold unmark; rw [if_pos h3]
    have hlen := utfRead_len xs
    rw [hr, hu] at hp hlen
    have hq : puts (dec (xs.drop 3)) = xs := by unfold pointsPut at hp; rw [if_pos hlen] at hp; exact hp
    have e1 : dec xs = (dec (xs.drop 3)).map pt := by rw [← dec_puts, hq]
    have e2 : xs = enc 65279 ++ xs.drop 3 := by
      have e := (List.take_append_drop 3 xs).symm
      rw [h3] at e
      exact e
    have e3 : dec xs = 65279 :: dec (xs.drop 3) := by
      rw [e2, dec_enc (by decide) (by decide) (by decide)]
      simp [enc]
    have := congrArg List.length (e1.symm.trans e3)
    simp at this
  · rw [if_neg h3]

/-- A token's value. -/
def tokVal (k : Int) (nm : ByteArray) (va : Value) (tx : ByteArray) (sf : Bool) : Value := .agg #[.int .i64 k, .string nm, va, .string tx, .bool sf]

set_option maxHeartbeats 1000000 in
set_option maxRecDepth 100000 in
theorem hasNothing_any (k : Int) (nm : ByteArray) (a : Option Addr) (n ca : Nat) (tx : ByteArray) (sf : Bool) (w : World) (hn : n ≤ 1048576) :
    Calls Tryz.prog 33 #[tokVal k nm (.slice a n ca) tx sf] w fun e w' => e = .returned (.bool (nm.toList.isEmpty && decide (n = 0) && tx.toList.isEmpty && !sf)) ∧ Below w.heap.size w w' := by
  unfold tokVal
  have b1 : Below w.heap.size w (w.alloc (.cells #[.int .i64 k, .string nm, .slice a n ca, .string tx, .bool sf] 30)) := (Below.refl _ _).alloc (Nat.le_refl _) _
  obtain ⟨q1, e1⟩ : ∃ q, q = nm.toList.isEmpty := ⟨_, rfl⟩
  obtain ⟨q2, e2⟩ : ∃ q, q = tx.toList.isEmpty := ⟨_, rfl⟩
  rw [← e1, ← e2]
  replace e1 := e1.symm
  replace e2 := e2.symm
  cases q1
  · go_enter Tryz.func33, Tryz.ntmps33
    go_wp2
    go_ret
    exact ⟨ret_bool (by simp), b1⟩
  · by_cases h0 : n = 0
    · subst h0
      cases q2
      · go_enter Tryz.func33, Tryz.ntmps33
        go_wp2
        go_ret
        exact ⟨ret_bool (by simp), b1⟩
      · cases sf
        all_goals
          go_enter Tryz.func33, Tryz.ntmps33
          go_wp2
          go_ret
          exact ⟨ret_bool (by simp), b1⟩
    · have h0' : ((n : Int) == 0) = false := by simp; omega
      go_enter Tryz.func33, Tryz.ntmps33
      go_wp2
      go_ret
      exact ⟨ret_bool (by simp [h0]), b1⟩

/-- What TokenOk answers. -/
def tokenOk (k : Int) (nm : ByteArray) (rs : List (ByteArray × ByteArray)) (tx : ByteArray) (sf : Bool) : Bool :=
  if k = 1 then decide (rs.length = 0) && !sf && nm.toList.isEmpty && tx.toList.isEmpty
  else if k = 2 then decide (rs.length = 0) && !sf && nm.toList.isEmpty && utfOk (bs tx) && decide ((dec (bs tx)).length = 1)
  else if k = 3 then decide (rs.length = 0) && !sf && nm.toList.isEmpty && utfOk (bs tx)
  else if k = 4 then decide (rs.length = 0) && !sf && tx.toList.isEmpty && decide (nm.size ≤ 60) && utfOk (bs nm)
  else if k = 5 then tx.toList.isEmpty && nameOk (bs nm) && attrsOk rs
  else if k = 6 then decide (rs.length = 0) && !sf && tx.toList.isEmpty && nameOk (bs nm)
  else false

/-- A token's variable lies in block g. -/
def TokAt (w : World) (g : Nat) (k : Int) (nm : ByteArray) (va : Value) (tx : ByteArray) (sf : Bool) : Prop := w.heap[g]? = some (.cells #[.int .i64 k, .string nm, va, .string tx, .bool sf] 30 (0, 0))
theorem TokAt.below {w w' : World} {g : Nat} {k : Int} {nm : ByteArray} {va : Value} {tx : ByteArray} {sf : Bool} (h : TokAt w g k nm va tx sf) (hb : Below w.heap.size w w') : TokAt w' g k nm va tx sf := by
  unfold TokAt at *
  rw [hb.block g (lt_of_block h)]; exact h
theorem TokAt.cells {w : World} {g : Nat} {k : Int} {nm : ByteArray} {va : Value} {tx : ByteArray} {sf : Bool} (h : TokAt w g k nm va tx sf) : w.cell? ⟨g, 0, none⟩ = some (.int .i64 k) ∧ w.cell? ⟨g, 1, none⟩ = some (.string nm) ∧ w.cell? ⟨g, 2, none⟩ = some va ∧ w.cell? ⟨g, 3, none⟩ = some (.string tx) ∧ w.cell? ⟨g, 4, none⟩ = some (.bool sf) := by
  unfold TokAt at h
  refine ⟨?_, ?_, ?_, ?_, ?_⟩ <;> simp [World.cell?, h]
theorem tokAt_new (w : World) (k : Int) (nm : ByteArray) (va : Value) (tx : ByteArray) (sf : Bool) : TokAt (w.alloc (.cells #[.int .i64 k, .string nm, va, .string tx, .bool sf] 30)) w.heap.size k nm va tx sf := heap_alloc_new _ _

/-- What is asked of a token's parts: nothing is too long. -/
structure TokFit (nm : ByteArray) (rs : List (ByteArray × ByteArray)) (tx : ByteArray) : Prop where
  hnm : nm.size ≤ 1048576
  htx : tx.size ≤ 1048576
  hrs : rs.length ≤ 1048576
  each : ∀ p ∈ rs, p.1.size ≤ 1099511627776 ∧ p.2.size ≤ 1099511627776
end Go.Proofs.YtaanfeahojfadaaGreatDoor
