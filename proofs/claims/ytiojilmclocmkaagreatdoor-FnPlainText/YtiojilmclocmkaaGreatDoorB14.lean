import Derived.Test.YtiojilmclocmkaaGreatDoorB11
import Derived.OwnWalk
import Derived.Test.YtiojilmclocmkaaGreatDoorB13
import Derived.Test.YtiojilmclocmkaaGreatDoorB7
import Derived.Test.YtiojilmclocmkaaGreatDoorB2
import Derived.Test.YtiojilmclocmkaaGreatDoorOk
/- Contracts of the laws' copies and measures of a list of attributes. -/
namespace Go.Proofs.YtiojilmclocmkaaGreatDoor
open Go.RowKit
set_option maxRecDepth 100000
set_option linter.unusedVariables false

theorem Tryz.infoA : (Tryz.prog.info? 65).map (fun i => (i.zero, i.size, i.bytes)) = some (some (.agg #[.string ⟨#[]⟩, .string ⟨#[]⟩]), 2, 32) := by kernel_rfl

theorem pair_take_set {cs : List Value} {rs : List (ByteArray × ByteArray)} {k : Nat} (hk : k < rs.length) (hl : cs.length = rs.length * 2) (h : cs.take (k * 2) = pairCells (rs.take k)) :
    ((cs.set (k * 2) (.string rs[k].1)).set (k * 2 + 1) (.string rs[k].2)).take ((k + 1) * 2) = pairCells (rs.take (k + 1)) := by
  have e1 : pairCells (rs.take (k + 1)) = pairCells (rs.take k) ++ [.string rs[k].1, .string rs[k].2] := by
    rw [List.take_succ_eq_append_getElem hk]
    unfold pairCells
    rw [List.flatMap_append]
    rfl
  rw [e1, ← h]
  apply List.ext_getElem?
  intro i
  have e2 : (k + 1) * 2 = k * 2 + 2 := by omega
  by_cases hi : i < k * 2
  · rw [List.getElem?_take_of_lt (by omega), List.getElem?_set_ne (by omega), List.getElem?_set_ne (by omega), List.getElem?_append_left (by simp; omega), List.getElem?_take_of_lt hi]
  · have hlt : (cs.take (k * 2)).length = k * 2 := by simp; omega
    rw [List.getElem?_append_right (by omega), hlt]
    by_cases h0 : i = k * 2
    · subst h0
      rw [List.getElem?_take_of_lt (by omega), List.getElem?_set_ne (by omega), List.getElem?_set_self (by omega)]
      simp
    · by_cases h1 : i = k * 2 + 1
      · subst h1
        rw [List.getElem?_take_of_lt (by omega), List.getElem?_set_self (by rw [List.length_set]; omega)]
        simp
      · rw [List.getElem?_eq_none (by simp; omega), List.getElem?_eq_none (by simp; omega)]

end Go.Proofs.YtiojilmclocmkaaGreatDoor

/- Contracts of the specification's AttrsSame and AttrAdd. -/
namespace Go.Proofs.YtiojilmclocmkaaGreatDoor
open Go.RowKit
set_option maxRecDepth 100000
set_option linter.unusedVariables false

theorem pair_oneCell (rs : List (ByteArray × ByteArray)) : ∀ y ∈ pairCells rs, y.oneCell' = true := by
  intro y hy
  unfold pairCells at hy
  obtain ⟨r, _, hr⟩ := List.mem_flatMap.mp hy
  simp at hr
  rcases hr with rfl | rfl <;> rfl
theorem pairCells_app (rs qs : List (ByteArray × ByteArray)) : pairCells rs ++ pairCells qs = pairCells (rs ++ qs) := by unfold pairCells; rw [List.flatMap_append]

theorem attrsSame_len {a b : List (ByteArray × ByteArray)} (h : a.length ≠ b.length) : attrsSame a b = false := by unfold attrsSame; rw [decide_eq_false h]; rfl
theorem attrsSame_no {a b : List (ByteArray × ByteArray)} {k : Nat} (hk : k < a.length) (h : attrOf b a[k].1 ≠ (a[k].2, true)) : attrsSame a b = false := by
  unfold attrsSame
  rw [Bool.and_eq_false_iff]
  right
  rw [List.all_eq_false]
  exact ⟨a[k], List.getElem_mem hk, by simpa using h⟩
theorem attrsSame_yes {a b : List (ByteArray × ByteArray)} (hl : a.length = b.length) (h : ∀ k (hk : k < a.length), attrOf b a[k].1 = (a[k].2, true)) : attrsSame a b = true := by
  unfold attrsSame
  rw [decide_eq_true hl, Bool.true_and, List.all_eq_true]
  intro p hp
  obtain ⟨k, hk, rfl⟩ := List.getElem_of_mem hp
  simpa using h k hk

theorem grown_cell {w w' : World} {g b k : Nat} (h : w.grownBy w' (some g)) (hne : b ≠ g) (hb : b < w.heap.size) : w'.cell? ⟨b, k, none⟩ = w.cell? ⟨b, k, none⟩ := by
  simp only [World.cell?, h.block b hb (fun e => hne (Option.some.inj e))]
theorem attrAdd_no {rs : List (ByteArray × ByteArray)} {p : ByteArray × ByteArray} (h : ((attrOf rs p.1).2 || decide (20 ≤ rs.length) || !attrOk p) = true) : attrAdd rs p = rs := by unfold attrAdd; rw [if_pos h]
theorem attrAdd_yes {rs : List (ByteArray × ByteArray)} {p : ByteArray × ByteArray} (h : ((attrOf rs p.1).2 || decide (20 ≤ rs.length) || !attrOk p) = false) : attrAdd rs p = rs ++ [p] := by unfold attrAdd; rw [if_neg (by rw [h]; decide)]

end Go.Proofs.YtiojilmclocmkaaGreatDoor

/- Tokens as plain values: what TokenOk says of one, and the program's helpers. -/
namespace Go.Proofs.YtiojilmclocmkaaGreatDoor
open Go.RowKit
set_option maxRecDepth 100000
set_option linter.unusedVariables false

/-- A text that is right is read by both readers as the same. -/
theorem read_ok {xs : List Int} (h : utfOk xs = true) : utfRead xs = dec xs := by
  unfold utfOk at h
  simp only [Bool.and_eq_true, decide_eq_true_eq] at h
  obtain ⟨hl, hp⟩ := h
  have hr : utfRead xs = dec (unmark xs) := by unfold utfRead; rw [if_pos hl]
  rw [hr]
  unfold unmark
  by_cases h3 : xs.take 3 = [239, 187, 191]
  · exfalso
    have hu : unmark xs = xs.drop 3 := by unfold unmark; rw [if_pos h3]
    have hlen := utfRead_len xs
    rw [hr, hu] at hp hlen
    have hq : puts (dec (xs.drop 3)) = xs := by unfold pointsPut at hp; rw [if_pos hlen] at hp; exact hp
    have e1 : dec xs = (dec (xs.drop 3)).map pt := by rw [← dec_puts, hq]
    have e2 : xs = enc 65279 ++ xs.drop 3 := by
      have e := (List.take_append_drop 3 xs).symm
      rw [h3] at e
      exact e
    have e3 : dec xs = 65279 :: dec (xs.drop 3) := by
      rw [e2, dec_enc (by decide) (by decide) (by decide)]
      simp [enc]
    have := congrArg List.length (e1.symm.trans e3)
    simp at this
  · rw [if_neg h3]

/-- A token's value. -/
def tokVal (k : Int) (nm : ByteArray) (va : Value) (tx : ByteArray) (sf : Bool) : Value := .agg #[.int .i64 k, .string nm, va, .string tx, .bool sf]

set_option maxHeartbeats 1000000 in
set_option maxRecDepth 100000 in
theorem hasNothing_any (k : Int) (nm : ByteArray) (a : Option Addr) (n ca : Nat) (tx : ByteArray) (sf : Bool) (w : World) (hn : n ≤ 1048576) :
    Calls Tryz.prog 22 #[tokVal k nm (.slice a n ca) tx sf] w fun e w' => e = .returned (.bool (nm.toList.isEmpty && decide (n = 0) && tx.toList.isEmpty && !sf)) ∧ Below w.heap.size w w' := by
  unfold tokVal
  have b1 : Below w.heap.size w (w.alloc (.cells #[.int .i64 k, .string nm, .slice a n ca, .string tx, .bool sf] 28)) := (Below.refl _ _).alloc (Nat.le_refl _) _
  obtain ⟨q1, e1⟩ : ∃ q, q = nm.toList.isEmpty := ⟨_, rfl⟩
  obtain ⟨q2, e2⟩ : ∃ q, q = tx.toList.isEmpty := ⟨_, rfl⟩
  rw [← e1, ← e2]
  replace e1 := e1.symm
  replace e2 := e2.symm
  cases q1
  · go_enter Tryz.func22, Tryz.ntmps22
    go_wp2
    go_ret
    exact ⟨ret_bool (by simp), b1⟩
  · by_cases h0 : n = 0
    · subst h0
      cases q2
      · go_enter Tryz.func22, Tryz.ntmps22
        go_wp2
        go_ret
        exact ⟨ret_bool (by simp), b1⟩
      · cases sf
        all_goals
          go_enter Tryz.func22, Tryz.ntmps22
          go_wp2
          go_ret
          exact ⟨ret_bool (by simp), b1⟩
    · have h0' : ((n : Int) == 0) = false := by simp; omega
      go_enter Tryz.func22, Tryz.ntmps22
      go_wp2
      go_ret
      exact ⟨ret_bool (by simp [h0]), b1⟩

/-- What TokenOk answers. -/
def tokenOk (k : Int) (nm : ByteArray) (rs : List (ByteArray × ByteArray)) (tx : ByteArray) (sf : Bool) : Bool :=
  if k = 1 then decide (rs.length = 0) && !sf && nm.toList.isEmpty && tx.toList.isEmpty
  else if k = 2 then decide (rs.length = 0) && !sf && nm.toList.isEmpty && utfOk (bs tx) && decide ((dec (bs tx)).length = 1)
  else if k = 3 then decide (rs.length = 0) && !sf && nm.toList.isEmpty && utfOk (bs tx)
  else if k = 4 then decide (rs.length = 0) && !sf && tx.toList.isEmpty && decide (nm.size ≤ 60) && utfOk (bs nm)
  else if k = 5 then tx.toList.isEmpty && nameOk (bs nm) && attrsOk rs
  else if k = 6 then decide (rs.length = 0) && !sf && tx.toList.isEmpty && nameOk (bs nm)
  else false

/-- A token's variable lies in block g. -/
def TokAt (w : World) (g : Nat) (k : Int) (nm : ByteArray) (va : Value) (tx : ByteArray) (sf : Bool) : Prop := w.heap[g]? = some (.cells #[.int .i64 k, .string nm, va, .string tx, .bool sf] 28 (0, 0))
theorem TokAt.below {w w' : World} {g : Nat} {k : Int} {nm : ByteArray} {va : Value} {tx : ByteArray} {sf : Bool} (h : TokAt w g k nm va tx sf) (hb : Below w.heap.size w w') : TokAt w' g k nm va tx sf := by
  unfold TokAt at *
  rw [hb.block g (lt_of_block h)]; exact h
theorem TokAt.cells {w : World} {g : Nat} {k : Int} {nm : ByteArray} {va : Value} {tx : ByteArray} {sf : Bool} (h : TokAt w g k nm va tx sf) : w.cell? ⟨g, 0, none⟩ = some (.int .i64 k) ∧ w.cell? ⟨g, 1, none⟩ = some (.string nm) ∧ w.cell? ⟨g, 2, none⟩ = some va ∧ w.cell? ⟨g, 3, none⟩ = some (.string tx) ∧ w.cell? ⟨g, 4, none⟩ = some (.bool sf) := by
  unfold TokAt at h
  refine ⟨?_, ?_, ?_, ?_, ?_⟩ <;> simp [World.cell?, h]
theorem tokAt_new (w : World) (k : Int) (nm : ByteArray) (va : Value) (tx : ByteArray) (sf : Bool) : TokAt (w.alloc (.cells #[.int .i64 k, .string nm, va, .string tx, .bool sf] 28)) w.heap.size k nm va tx sf := heap_alloc_new _ _

/-- What is asked of a token's parts: nothing is too long. -/
structure TokFit (nm : ByteArray) (rs : List (ByteArray × ByteArray)) (tx : ByteArray) : Prop where
  hnm : nm.size ≤ 1048576
  htx : tx.size ≤ 1048576
  hrs : rs.length ≤ 1048576
  each : ∀ p ∈ rs, p.1.size ≤ 1099511627776 ∧ p.2.size ≤ 1099511627776
end Go.Proofs.YtiojilmclocmkaaGreatDoor

/- The contract of the draw of bytes: some bytes, in new memory. -/
namespace Go.Proofs.YtiojilmclocmkaaGreatDoor
open Go.RowKit
set_option maxRecDepth 100000
set_option linter.unusedVariables false

theorem Sl.take {K : IntKind} {w : World} {a : Addr} {n cap r : Nat} {xs : List Int} (h : Sl K w (.slice (some a) n cap) xs) (hr : r ≤ xs.length) : Sl K w (.slice (some a) r cap) (xs.take r) := by
  obtain ⟨a', c', e, hl, hm, hnn, ha⟩ := h
  cases e
  have hlen : (xs.take r).length = r := by simp; omega
  refine ⟨some a, cap, by rw [hlen], by omega, hm, (fun h => by cases h), fun k hk => ?_⟩
  obtain ⟨b, off, e, c⟩ := ha k (by omega)
  refine ⟨b, off, e, ?_⟩
  have e2 : (xs.take r).getD k 0 = xs.getD k 0 := by simp [List.getD_eq_getElem?_getD, show k < r by omega]
  rw [e2]; exact c

theorem put_byte (x : Int) : ∀ y ∈ put x, 0 ≤ y ∧ y ≤ 255 := by
  have := pt_ok x
  exact enc_byte this.1 this.2.1

end Go.Proofs.YtiojilmclocmkaaGreatDoor
