/- The specification's HeadRead. No condition. -/
import Derived.Test.YtiejfnnokfedkaaSHead
import Derived.Test.YtiejfnnokfedkaaSGetNum
namespace Go.Proofs.Ytiejfnnokfedkaa
open Go.RowKit
set_option maxRecDepth 100000
set_option linter.unusedVariables false

theorem numVal_gv (i : Int) (r : Option (Int × Nat)) : numVal i r = .tuple #[.int .i64 (gv i r).1, .int .i64 (gv i r).2.1, .bool (gv i r).2.2] := by
  cases r with
  | none => rfl
  | some p => rfl
theorem head_res {fn : Func} {p u : Tmp} (hr : fn.results = #[.cell p 26, .tmp u]) {tmps : Array Value} {w : World} {g : Nat} {a b c r : Value} (h4 : tmps.getD p undef = .pointer (some ⟨g, 0, none⟩)) (h5 : tmps.getD u undef = r) (hb : w.heap[g]? = some (.cells #[a, b, c] 26 (0, 0))) :
    (results fn tmps).run Try.prog w = .ok (.tuple #[.agg #[a, b, c], r]) w := by
  rw [results_cell_tmp (p := p) (u := u) (ty := 26) hr, h4, h5]
  simp [asAddr, run_loadVar_row w g 26 26 #[a, b, c] (0, 0) _ hb Try.underlying26 rfl rfl, Result.andThen]

theorem read_parts (s : ByteArray) : ∃ (no i1 : Int) (k1 : Bool) (ar i2 : Int) (k2 : Bool) (en i3 : Int) (k3 : Bool), gv 0 (rdI (bs s) 0) = (no, i1, k1) ∧ gv i1 (rdI (bs s) i1) = (ar, i2, k2) ∧ gv i2 (rdI (bs s) i2) = (en, i3, k3) ∧
    readDk s = if (k1 && k2 && k3 && headB ⟨no, ar, en⟩ && decide (packS ⟨no, ar, en⟩ = s)) = true then (⟨no, ar, en⟩, true) else (zeroH, false) := by
  refine ⟨_, _, _, _, _, _, _, _, _, rfl, rfl, rfl, ?_⟩
  rfl

end Go.Proofs.Ytiejfnnokfedkaa
