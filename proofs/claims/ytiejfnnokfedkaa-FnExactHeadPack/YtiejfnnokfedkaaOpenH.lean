/- A head among the arguments: a struct of three ints. -/
import Derived.Test.YtiejfnnokfedkaaOpenS
import Derived.Test.YtiejfnnokfedkaaHeadM
namespace Go.Proofs.Ytiejfnnokfedkaa
open Go.RowKit Go.ChangeShapes Go.WideShapes
set_option maxRecDepth 100000
set_option linter.unusedVariables false

section
variable {H : Type} {enc : TypeId × Value → H} {P : Program} {w : World} {base : Nat} {spare : Nat → Bool} {held : Bool}

theorem trod_head {t : TypeId} {f0 f1 f2 : Field} {fuel : Nat} {cs : List Value} {x : DataW H × List MemPlace} (ht : P.underlying t = some (.struct #[f0, f1, f2])) (hc : P.cellsOf t = 3)
    (h0 : P.underlying f0.type = some (.int .i64)) (h1 : P.underlying f1.type = some (.int .i64)) (h2 : P.underlying f2.type = some (.int .i64)) (c0 : P.cellsOf f0.type = 1) (c1 : P.cellsOf f1.type = 1) (c2 : P.cellsOf f2.type = 1) (o0 : f0.offset = 0) (o1 : f1.offset = 1) (o2 : f2.offset = 2)
    (h : DataW.trod enc P w base spare held fuel t cs = some x) : ∃ p : PHead, cs = [.int .i64 p.no, .int .i64 p.area, .int .i64 p.en] ∧ (Lit.int .i64 p.no).wf = true ∧ (Lit.int .i64 p.area).wf = true ∧ (Lit.int .i64 p.en).wf = true := by
  obtain ⟨xs, n, _, _, hl, hx, hf⟩ := DataW.trod_struct ht h
  have e0 := hf 0 f0 rfl
  have e1 := hf 1 f1 rfl
  have e2 := hf 2 f2 rfl
  rw [c0, o0, List.drop_zero] at e0
  rw [c1, o1] at e1
  rw [c2, o2] at e2
  have hxs : xs.length = 3 := hx
  rw [List.getElem?_eq_getElem (by omega)] at e0 e1 e2
  rw [hc] at hl
  match cs, hl with
  | [u, v, y], _ =>
    simp only [List.drop_succ_cons, List.drop_zero, List.take_succ_cons, List.take_zero] at e0 e1 e2
    obtain ⟨a, ha, _, wa⟩ := DataW.trod_int h0 e0
    obtain ⟨b, hb, _, wb⟩ := DataW.trod_int h1 e1
    obtain ⟨c, hc, _, wc⟩ := DataW.trod_int h2 e2
    cases ha
    cases hb
    cases hc
    exact ⟨⟨a, b, c⟩, rfl, wa, wb, wc⟩
end
end Go.Proofs.Ytiejfnnokfedkaa
