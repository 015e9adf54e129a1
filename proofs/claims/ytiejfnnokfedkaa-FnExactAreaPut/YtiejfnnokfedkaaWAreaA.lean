/- The exact law of AreaPut: the program keeps its contract. -/
import Derived.Test.YtiejfnnokfedkaaB21
import Derived.Test.YtiejfnnokfedkaaB22
namespace Go.Proofs.Ytiejfnnokfedkaa
open Go.RowKit
set_option maxRecDepth 100000
set_option linter.unusedVariables false

theorem byteA_ok {xs : List Int} (h : ∀ n ∈ xs, (Lit.int .u8 n).wf = true) : ∀ x ∈ xs, 0 ≤ x ∧ x ≤ 255 := fun x hx => by
  have h1 := h x hx
  have e1 : IntKind.u8.min = 0 := rfl
  have e2 : IntKind.u8.max = 255 := rfl
  simp [Lit.wf, e1, e2] at h1
  omega
theorem fnExactAreaPut_walk {v : Value} {d : PDisk} {ar at' : Int} {u : Value} {b : List Int} (w0 : World) (h : DiskAt w0 v d) (hs : ∀ s ∈ d.safe, s.size ≤ maxLen) (hp : ∀ p ∈ d.late, p.2.size ≤ maxLen) (k0 : (Lit.int .i64 ar).wf = true) (k1 : (Lit.int .i64 at').wf = true) (hu : Sl .u8 w0 u b) (hb : ∀ x ∈ b, (Lit.int .u8 x).wf = true) :
    Calls Try.prog 5 #[v, .int .i64 ar, .int .i64 at', u] w0 fun e w' => e = .returned (.bool true) ∧ Below w0.heap.size w0 w' :=
  fnExactAreaPut_ofz (fun w v d ar at' u b hd hf x1 x2 hu hb hl => iareaPut_any w v d ar at' u b hd hf x1 x2 hu hb hl) w0 h hs hp k0 k1 hu (byteA_ok hb)
end Go.Proofs.Ytiejfnnokfedkaa
