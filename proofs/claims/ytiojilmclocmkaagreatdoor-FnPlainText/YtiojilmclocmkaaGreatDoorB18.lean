import Derived.Test.YtiojilmclocmkaaGreatDoorB14
import Derived.Test.YtiojilmclocmkaaGreatDoorOpenS
/- The contract of the specification's TokenOk. -/
namespace Go.Proofs.YtiojilmclocmkaaGreatDoor
open Go.RowKit
set_option maxRecDepth 100000
set_option linter.unusedVariables false

end Go.Proofs.YtiojilmclocmkaaGreatDoor

/- A token among the arguments, opened as its five cells. -/
namespace Go.Proofs.YtiojilmclocmkaaGreatDoor
open Go.RowKit Go.ChangeShapes Go.WideShapes
set_option maxRecDepth 100000
set_option linter.unusedVariables false

section
variable {H : Type} {enc : TypeId × Value → H} {P : Program} {w : World} {base : Nat} {spare : Nat → Bool} {held : Bool}

theorem trod_token {t e : TypeId} {f0 f1 f2 f3 f4 g0 g1 : Field} {fuel : Nat} {cs : List Value} {x : DataW H × List MemPlace} (ht : P.underlying t = some (.struct #[f0, f1, f2, f3, f4])) (hc : P.cellsOf t = 5)
    (h0 : P.underlying f0.type = some (.int .i64)) (h1 : P.underlying f1.type = some .string) (h2 : P.underlying f2.type = some (.slice e)) (h3 : P.underlying f3.type = some .string) (h4 : P.underlying f4.type = some .bool)
    (c0 : P.cellsOf f0.type = 1) (c1 : P.cellsOf f1.type = 1) (c2 : P.cellsOf f2.type = 1) (c3 : P.cellsOf f3.type = 1) (c4 : P.cellsOf f4.type = 1) (o0 : f0.offset = 0) (o1 : f1.offset = 1) (o2 : f2.offset = 2) (o3 : f3.offset = 3) (o4 : f4.offset = 4)
    (he : P.underlying e = some (.struct #[g0, g1])) (hec : P.cellsOf e = 2) (q0 : P.underlying g0.type = some .string) (q1 : P.underlying g1.type = some .string) (r0 : P.cellsOf g0.type = 1) (r1 : P.cellsOf g1.type = 1) (p0 : g0.offset = 0) (p1 : g1.offset = 1)
    (h : DataW.trod enc P w base spare held fuel t cs = some x) :
    ∃ (k : Int) (nm : ByteArray) (va : Value) (rs : List (ByteArray × ByteArray)) (tx : ByteArray) (sf : Bool), cs = [.int .i64 k, .string nm, va, .string tx, .bool sf] ∧ Sv 2 w va (pairCells rs) ∧ (∀ p ∈ rs, p.1.size ≤ maxLen ∧ p.2.size ≤ maxLen) ∧ nm.size ≤ maxLen ∧ tx.size ≤ maxLen := by
  obtain ⟨xs, n, _, _, hl, hx, hf⟩ := DataW.trod_struct ht h
  have e0 := hf 0 f0 rfl
  have e1 := hf 1 f1 rfl
  have e2 := hf 2 f2 rfl
  have e3 := hf 3 f3 rfl
  have e4 := hf 4 f4 rfl
  rw [c0, o0, List.drop_zero] at e0
  rw [c1, o1] at e1
  rw [c2, o2] at e2
  rw [c3, o3] at e3
  rw [c4, o4] at e4
  have hxs : xs.length = 5 := hx
  rw [List.getElem?_eq_getElem (by omega)] at e0 e1 e2 e3 e4
  rw [hc] at hl
  match cs, hl with
  | [v0, v1, v2, v3, v4], _ =>
    simp only [List.drop_succ_cons, List.drop_zero, List.take_succ_cons, List.take_zero] at e0 e1 e2 e3 e4
    obtain ⟨k, hk, _, _⟩ := DataW.trod_int h0 e0
    obtain ⟨nm, hn, _, sn⟩ := DataW.trod_string h1 e1
    obtain ⟨tx, htx, _, st⟩ := DataW.trod_string h3 e3
    obtain ⟨sf, hsf, _⟩ := DataW.trod_bool h4 e4
    obtain ⟨rows, hs, hr⟩ := open_rows (n := 2) (fun cs => ∃ p : ByteArray × ByteArray, cs = [.string p.1, .string p.2] ∧ p.1.size ≤ maxLen ∧ p.2.size ≤ maxLen) h2 hec (by decide)
      (fun m cs y hy => trod_pair he hec q0 q1 r0 r1 p0 p1 hy) e2
    obtain ⟨rs, er, hrs⟩ := rows_pairs hr
    rw [er] at hs
    cases hk
    cases hn
    cases htx
    cases hsf
    exact ⟨k, nm, v2, rs, tx, sf, rfl, hs, hrs, sn, st⟩
end
end Go.Proofs.YtiojilmclocmkaaGreatDoor
