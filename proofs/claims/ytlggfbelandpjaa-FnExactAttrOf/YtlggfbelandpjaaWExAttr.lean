/- The exact laws of AttrOf and AttrsOk, walked. -/
import Derived.Test.YtlggfbelandpjaaIAttr3
import Derived.Test.YtlggfbelandpjaaWAttr
namespace Go.Proofs.Ytlggfbelandpjaa
open Go.RowKit
set_option linter.unusedVariables false

theorem attrOfOk : AttrOfOk := fun v rs nm w h hs hn => iattrOf_any h nm (by have := hs.1; omega)
theorem attrsOkOk : AttrsOkOk := fun v rs w h hs => iattrsOk_any h (by have := hs.1; omega) hs.2

theorem fnExactAttrOf_walk {v : Value} {rs : List (ByteArray × ByteArray)} {nm : ByteArray} (w : World) (h : Sv 2 w v (pairCells rs)) (hs : ∀ p ∈ rs, p.1.size ≤ maxLen ∧ p.2.size ≤ maxLen) (hnm : nm.size ≤ maxLen) :
    Calls Try.prog 5 #[v, .string nm] w fun e w' => e = .returned (.bool true) ∧ Below w.heap.size w w' := fnExactAttrOf_of attrOfOk w h hs hnm
theorem fnExactAttrsOk_walk {v : Value} {rs : List (ByteArray × ByteArray)} (w : World) (h : Sv 2 w v (pairCells rs)) (hs : ∀ p ∈ rs, p.1.size ≤ maxLen ∧ p.2.size ≤ maxLen) :
    Calls Try.prog 4 #[v] w fun e w' => e = .returned (.bool true) ∧ Below w.heap.size w w' := fnExactAttrsOk_of attrsOkOk w h hs
end Go.Proofs.Ytlggfbelandpjaa
