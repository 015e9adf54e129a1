/- What the program's one error variable holds, from the row's condition. -/
import Derived.Test.YtokkigfjabbdaaaGreatDoorU33
import Derived.Stop.LaidErr
import Derived.LaidLaws
import Derived.MakeChecks
namespace Go.Proofs.YtokkigfjabbdaaaGreatDoor
open Go.RowKit
set_option maxRecDepth 100000
set_option linter.unusedVariables false

theorem trodVarsS_len {H : Type} {enc : TypeId × Value → H} {P : Program} {w : World} {sp : Nat → Bool} : ∀ {ns : List String} {gs : List (DataW H)} {ps : List MemPlace}, DataW.TrodVars enc P w sp ns gs ps → gs.length = ns.length
  | [], [], _, _ => rfl
  | [], _ :: _, _, h => h.elim
  | _ :: _, [], _, h => h.elim
  | _ :: ns, _ :: ds, _, ⟨_, _, _, _, _, _, _, _, _, _, h, _⟩ => by simp [trodVarsS_len h]
theorem sent_star : "*" ++ "errors.errorString" = "*errors.errorString" := by decide
theorem sent_row (u : TypeId) (h : Tryz.prog.typeName? 3 u = some "*errors.errorString") : u = 225 :=
  typeName_ptr_named (nm := "errors.errorString") (by rw [sent_star]; kernel_rfl) (by kernel_rfl) (by decide) u (by rw [sent_star]; exact h)
theorem sent_of {W : World} {text : List UInt8} {r : List (String × DataW Unit)} (h : laidMet Tryz.prog (("loop.example/g00118/impl.errNoHead", .iface "*errors.errorString" (.ptr (.agg [.lit (.string text)]))) :: r) W) : Sent W := by
  obtain ⟨a, s, hv, _, _, _⟩ := laid_sentinel h (g := 0) (ti := 141) (by kernel_rfl) (by kernel_rfl) Tryz.underlying141 sent_row Tryz.underlying225 Tryz.underlying251 rfl rfl Tryz.underlying9 (by kernel_rfl) (by kernel_rfl)
  exact ⟨a, by simpa using World.var?_cell (g := 0) (by kernel_rfl) hv 0⟩
end Go.Proofs.YtokkigfjabbdaaaGreatDoor
