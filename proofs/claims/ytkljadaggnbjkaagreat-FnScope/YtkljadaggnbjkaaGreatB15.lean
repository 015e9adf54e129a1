import Derived.Test.YtkljadaggnbjkaaGreatB11
import Derived.OwnWalk
import Derived.Test.YtkljadaggnbjkaaGreatB14
/- Contracts of the laws' copies and measures of a list of attributes. -/
namespace Go.Proofs.YtkljadaggnbjkaaGreat
open Go.RowKit
set_option maxRecDepth 100000
set_option linter.unusedVariables false

theorem Tryz.infoA : (Tryz.prog.info? 110).map (fun i => (i.zero, i.size, i.bytes)) = some (some (.agg #[.string ⟨#[]⟩, .string ⟨#[]⟩]), 2, 32) := by kernel_rfl

theorem pair_take_set {cs : List Value} {rs : List (ByteArray × ByteArray)} {k : Nat} (hk : k < rs.length) (hl : cs.length = rs.length * 2) (h : cs.take (k * 2) = pairCells (rs.take k)) :
    ((cs.set (k * 2) (.string rs[k].1)).set (k * 2 + 1) (.string rs[k].2)).take ((k + 1) * 2) = pairCells (rs.take (k + 1)) := by
  have e1 : pairCells (rs.take (k + 1)) = pairCells (rs.take k) ++ [.string rs[k].1, .string rs[k].2] := by
    rw [List.take_succ_eq_append_getElem hk]
    unfold pairCells
    rw [List.flatMap_append]
    rfl
  rw [e1, ← h]
  apply List.ext_getElem?
  intro i
  have e2 : (k + 1) * 2 = k * 2 + 2 := by omega
  by_cases hi : i < k * 2
  · rw [List.getElem?_take_of_lt (by omega), List.getElem?_set_ne (by omega), List.getElem?_set_ne (by omega), List.getElem?_append_left (by simp; omega), List.getElem?_take_of_lt hi]
  · have hlt : (cs.take (k * 2)).length = k * 2 := by simp; omega
    rw [List.getElem?_append_right (by omega), hlt]
    by_cases h0 : i = k * 2
    · subst h0
      rw [List.getElem?_take_of_lt (by omega), List.getElem?_set_ne (by omega), List.getElem?_set_self (by omega)]
      simp
    · by_cases h1 : i = k * 2 + 1
      · subst h1
        rw [List.getElem?_take_of_lt (by omega), List.getElem?_set_self (by rw [List.length_set]; omega)]
        simp
      · rw [List.getElem?_eq_none (by simp; omega), List.getElem?_eq_none (by simp; omega)]

end Go.Proofs.YtkljadaggnbjkaaGreat

/- Contracts of the specification's AttrsSame and AttrAdd. -/
namespace Go.Proofs.YtkljadaggnbjkaaGreat
open Go.RowKit
set_option maxRecDepth 100000
set_option linter.unusedVariables false

theorem pair_oneCell (rs : List (ByteArray × ByteArray)) : ∀ y ∈ pairCells rs, y.oneCell' = true := by
  intro y hy
  unfold pairCells at hy
  obtain ⟨r, _, hr⟩ := List.mem_flatMap.mp hy
  simp at hr
  rcases hr with rfl | rfl <;> rfl
theorem pairCells_app (rs qs : List (ByteArray × ByteArray)) : pairCells rs ++ pairCells qs = pairCells (rs ++ qs) := by unfold pairCells; rw [List.flatMap_append]

theorem attrsSame_len {a b : List (ByteArray × ByteArray)} (h : a.length ≠ b.length) : attrsSame a b = false := by unfold attrsSame; rw [decide_eq_false h]; rfl
theorem attrsSame_no {a b : List (ByteArray × ByteArray)} {k : Nat} (hk : k < a.length) (h : attrOf b a[k].1 ≠ (a[k].2, true)) : attrsSame a b = false := by
  unfold attrsSame
  rw [Bool.and_eq_false_iff]
  right
  rw [List.all_eq_false]
  exact ⟨a[k], List.getElem_mem hk, by simpa using h⟩
theorem attrsSame_yes {a b : List (ByteArray × ByteArray)} (hl : a.length = b.length) (h : ∀ k (hk : k < a.length), attrOf b a[k].1 = (a[k].2, true)) : attrsSame a b = true := by
  unfold attrsSame
  rw [decide_eq_true hl, Bool.true_and, List.all_eq_true]
  intro p hp
  obtain ⟨k, hk, rfl⟩ := List.getElem_of_mem hp
  simpa using h k hk

theorem grown_cell {w w' : World} {g b k : Nat} (h : w.grownBy w' (some g)) (hne : b ≠ g) (hb : b < w.heap.size) : w'.cell? ⟨b, k, none⟩ = w.cell? ⟨b, k, none⟩ := by
  simp only [World.cell?, h.block b hb (fun e => hne (Option.some.inj e))]
theorem attrAdd_no {rs : List (ByteArray × ByteArray)} {p : ByteArray × ByteArray} (h : ((attrOf rs p.1).2 || decide (20 ≤ rs.length) || !attrOk p) = true) : attrAdd rs p = rs := by unfold attrAdd; rw [if_pos h]
theorem attrAdd_yes {rs : List (ByteArray × ByteArray)} {p : ByteArray × ByteArray} (h : ((attrOf rs p.1).2 || decide (20 ≤ rs.length) || !attrOk p) = false) : attrAdd rs p = rs ++ [p] := by unfold attrAdd; rw [if_neg (by rw [h]; decide)]

end Go.Proofs.YtkljadaggnbjkaaGreat

/- Tokens as plain values: what TokenOk says of one, and the program's helpers. -/
namespace Go.Proofs.YtkljadaggnbjkaaGreat
open Go.RowKit
set_option maxRecDepth 100000
set_option linter.unusedVariables false

/-- A text that is right is read by both readers as the same. -/
theorem read_ok {xs : List Int} (h : utfOk xs = true) : utfRead xs = dec xs := by
  unfold utfOk at h
  simp only [Bool.and_eq_true, decide_eq_true_eq] at h
  obtain ⟨hl, hp⟩ := h
  have hr : utfRead xs = dec (unmark xs) := by unfold utfRead; rw [if_pos hl]
  rw [hr]
  unfold unmark
  by_cases h3 : xs.take 3 = [239, 187, 191]
  · exfalso
    have hu : unmark xs = xs.drop 3 := by unfold unmark; rw [if_pos h3]
    have hlen := utfRead_len xs
    rw [hr, hu] at hp hlen
    have hq : puts (dec (xs.drop 3)) = xs := by unfold pointsPut at hp; rw [if_pos hlen] at hp; exact hp
    have e1 : dec xs = (dec (xs.drop 3)).map pt := by rw [← dec_puts, hq]
    have e2 : xs = enc 65279 ++ xs.drop 3 := by
      have e := (List.take_append_drop 3 xs).symm
      rw [h3] at e
      exact e
    have e3 : dec xs = 65279 :: dec (xs.drop 3) := by
      rw [e2, dec_enc (by decide) (by decide) (by decide)]
      simp [enc]
    have := congrArg List.length (e1.symm.trans e3)
    simp at this
  · rw [if_neg h3]

/-- A token's value. -/
def tokVal (k : Int) (nm : ByteArray) (va : Value) (tx : ByteArray) (sf : Bool) : Value := .agg #[.int .i64 k, .string nm, va, .string tx, .bool sf]

/-- What TokenOk answers. -/
def tokenOk (k : Int) (nm : ByteArray) (rs : List (ByteArray × ByteArray)) (tx : ByteArray) (sf : Bool) : Bool :=
  if k = 1 then decide (rs.length = 0) && !sf && nm.toList.isEmpty && tx.toList.isEmpty
  else if k = 2 then decide (rs.length = 0) && !sf && nm.toList.isEmpty && utfOk (bs tx) && decide ((dec (bs tx)).length = 1)
  else if k = 3 then decide (rs.length = 0) && !sf && nm.toList.isEmpty && utfOk (bs tx)
  else if k = 4 then decide (rs.length = 0) && !sf && tx.toList.isEmpty && decide (nm.size ≤ 60) && utfOk (bs nm)
  else if k = 5 then tx.toList.isEmpty && nameOk (bs nm) && attrsOk rs
  else if k = 6 then decide (rs.length = 0) && !sf && tx.toList.isEmpty && nameOk (bs nm)
  else false

/-- What is asked of a token's parts: nothing is too long. -/
structure TokFit (nm : ByteArray) (rs : List (ByteArray × ByteArray)) (tx : ByteArray) : Prop where
  hnm : nm.size ≤ 1048576
  htx : tx.size ≤ 1048576
  hrs : rs.length ≤ 1048576
  each : ∀ p ∈ rs, p.1.size ≤ 1099511627776 ∧ p.2.size ≤ 1099511627776
end Go.Proofs.YtkljadaggnbjkaaGreat

/- The contract of the program's TokenOk. -/
namespace Go.Proofs.YtkljadaggnbjkaaGreat
open Go.RowKit
set_option maxRecDepth 100000
set_option linter.unusedVariables false

theorem doctypeNameOk_any (s : ByteArray) (w : World) (hs : s.size ≤ 1048576) : Calls Tryz.prog 88 #[.string s] w fun e w' => e = .returned (.bool (decide (s.size ≤ 60) && utfOk (bs s))) ∧ Below w.heap.size w w' := by
  have c1 := fun w => textOk_any s w (by omega)
  obtain ⟨u, eu⟩ : ∃ u, u = utfOk (bs s) := ⟨_, rfl⟩
  rw [← eu] at c1 ⊢
  have C1 := (show Hid _ from c1)
  clear c1 eu
  by_cases h60 : s.size ≤ 60
  · rw [decide_eq_true h60]
    go_enter Tryz.func88, Tryz.ntmps88
    go_wp2_with fail
    go_at_call 91
    refine (C1.out _).mono ?_
    rintro e w2 ⟨rfl, b2⟩
    go_wp2
    go_ret
    exact ⟨ret_bool (by simp), b2⟩
  · rw [decide_eq_false h60]
    go_enter Tryz.func88, Tryz.ntmps88
    go_wp2
    go_ret
    exact ⟨ret_bool (by simp), Below.refl _ _⟩

end Go.Proofs.YtkljadaggnbjkaaGreat
