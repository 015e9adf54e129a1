/-
  No cell of these rows narrows 'for every input' (looked for: loops, veiled, ifaces, maps, wideKeys, modest, calm, conditions, laid).
  DERIVED. THE GIVEN ROWS OF THIS SEAT. 9 by the template 'for every input the law returns true; each argument reads behind the call as it read before'; 0 by the template 'total and deterministic' (their statements: YtphaogkgnpalgaaTotals.lean).
  GIVEN WITH THE SEED: the statements are not yours to turn. If you find one false, say at which input.
  Laid BY PROGRAM, IN A SANDBOX (cutbox-rows.mjs): the forced cells as the released guide's own fill.sh prints them over the translation 4c21e6c9f76893aa… (all of the seat's roots in one cut). By AI agents, Wed Nov 11 2026. No macro, syntax, notation, axiom, sorry.
-/
import Derived.Test.YtphaogkgnpalgaaChecked
import GoSem.Claim
import GoSem.ClaimJoined
import GoSem.ClaimMapViews
import Derived.JoinedTies
import Derived.KernelRfl
namespace Go.Proofs.Ytphaogkgnpalgaa
/- THE CELL 'sum', in the pinned program and in every row, IS THE sha256 OF THE DUMP (.gsa) THAT YtphaogkgnpalgaaProg.lean LOADS. Nothing in Lean hashes anything: it is a label: what it is worth is what the hold of that sum in a sandbox is worth. -/
noncomputable def Try.pinned : Pinned := { name := "ytphaogkgnpalgaa", sum := "4c21e6c9f76893aabda3813a9bc2956305f0375eedf197b8e35023de75b497fd", checked := Try.checked }
namespace Rows
def none {H : Type} : Left H := { results := [], args := [] }

/-- 'laws.FnUtf': WHATEVER THE INPUT: true; the input reads as it did. -/
def fnUtfSpec : ChangeSpec := { name := "fnUtf", fn := fun _ => fun
  | [d] => { results := [.lit (.bool true)], args := [d] }
  | _ => none }
def fnUtfRow : OpenClaim := { program := "ytphaogkgnpalgaa", sum := "4c21e6c9f76893aabda3813a9bc2956305f0375eedf197b8e35023de75b497fd", func := "loop.example/g00118/laws.FnUtf", spec := "fnUtf", apart := false }
def FnUtfSaid : Prop := fnUtfRow.holds Try.pinned (OpenSpec.ofChange fnUtfSpec)

/-- ITS FALSE NEIGHBOUR: 'it returns false'. Refute it at one input. -/
def fnUtfWrong : ChangeSpec := { name := "fnUtf", fn := fun _ => fun
  | [d] => { results := [.lit (.bool false)], args := [d] }
  | _ => none }
def FnUtfWrongFalsely : Prop := fnUtfRow.holds Try.pinned (OpenSpec.ofChange fnUtfWrong)

/-- 'laws.FnLines': WHATEVER THE INPUT: true; the input reads as it did. -/
def fnLinesSpec : ChangeSpec := { name := "fnLines", fn := fun _ => fun
  | [d] => { results := [.lit (.bool true)], args := [d] }
  | _ => none }
def fnLinesRow : OpenClaim := { program := "ytphaogkgnpalgaa", sum := "4c21e6c9f76893aabda3813a9bc2956305f0375eedf197b8e35023de75b497fd", func := "loop.example/g00118/laws.FnLines", spec := "fnLines", apart := false }
def FnLinesSaid : Prop := fnLinesRow.holds Try.pinned (OpenSpec.ofChange fnLinesSpec)

/-- ITS FALSE NEIGHBOUR: 'it returns false'. Refute it at one input. -/
def fnLinesWrong : ChangeSpec := { name := "fnLines", fn := fun _ => fun
  | [d] => { results := [.lit (.bool false)], args := [d] }
  | _ => none }
def FnLinesWrongFalsely : Prop := fnLinesRow.holds Try.pinned (OpenSpec.ofChange fnLinesWrong)

/-- 'laws.FnPoint': WHATEVER THE INPUT: true; the input reads as it did. -/
def fnPointSpec : ChangeSpec := { name := "fnPoint", fn := fun _ => fun
  | [d] => { results := [.lit (.bool true)], args := [d] }
  | _ => none }
def fnPointRow : OpenClaim := { program := "ytphaogkgnpalgaa", sum := "4c21e6c9f76893aabda3813a9bc2956305f0375eedf197b8e35023de75b497fd", func := "loop.example/g00118/laws.FnPoint", spec := "fnPoint", apart := false }
def FnPointSaid : Prop := fnPointRow.holds Try.pinned (OpenSpec.ofChange fnPointSpec)

/-- ITS FALSE NEIGHBOUR: 'it returns false'. Refute it at one input. -/
def fnPointWrong : ChangeSpec := { name := "fnPoint", fn := fun _ => fun
  | [d] => { results := [.lit (.bool false)], args := [d] }
  | _ => none }
def FnPointWrongFalsely : Prop := fnPointRow.holds Try.pinned (OpenSpec.ofChange fnPointWrong)

/-- 'laws.FnExactPointOk': WHATEVER THE INPUT: true; the input reads as it did. -/
def fnExactPointOkSpec : ChangeSpec := { name := "fnExactPointOk", fn := fun _ => fun
  | [d] => { results := [.lit (.bool true)], args := [d] }
  | _ => none }
def fnExactPointOkRow : OpenClaim := { program := "ytphaogkgnpalgaa", sum := "4c21e6c9f76893aabda3813a9bc2956305f0375eedf197b8e35023de75b497fd", func := "loop.example/g00118/laws.FnExactPointOk", spec := "fnExactPointOk", apart := false }
def FnExactPointOkSaid : Prop := fnExactPointOkRow.holds Try.pinned (OpenSpec.ofChange fnExactPointOkSpec)

/-- ITS FALSE NEIGHBOUR: 'it returns false'. Refute it at one input. -/
def fnExactPointOkWrong : ChangeSpec := { name := "fnExactPointOk", fn := fun _ => fun
  | [d] => { results := [.lit (.bool false)], args := [d] }
  | _ => none }
def FnExactPointOkWrongFalsely : Prop := fnExactPointOkRow.holds Try.pinned (OpenSpec.ofChange fnExactPointOkWrong)

/-- 'laws.FnExactPointPut': WHATEVER THE INPUT: true; the input reads as it did. -/
def fnExactPointPutSpec : ChangeSpec := { name := "fnExactPointPut", fn := fun _ => fun
  | [d] => { results := [.lit (.bool true)], args := [d] }
  | _ => none }
def fnExactPointPutRow : OpenClaim := { program := "ytphaogkgnpalgaa", sum := "4c21e6c9f76893aabda3813a9bc2956305f0375eedf197b8e35023de75b497fd", func := "loop.example/g00118/laws.FnExactPointPut", spec := "fnExactPointPut", apart := false }
def FnExactPointPutSaid : Prop := fnExactPointPutRow.holds Try.pinned (OpenSpec.ofChange fnExactPointPutSpec)

/-- ITS FALSE NEIGHBOUR: 'it returns false'. Refute it at one input. -/
def fnExactPointPutWrong : ChangeSpec := { name := "fnExactPointPut", fn := fun _ => fun
  | [d] => { results := [.lit (.bool false)], args := [d] }
  | _ => none }
def FnExactPointPutWrongFalsely : Prop := fnExactPointPutRow.holds Try.pinned (OpenSpec.ofChange fnExactPointPutWrong)

/-- 'laws.FnExactPointsPut': WHATEVER THE INPUT: true; the input reads as it did. -/
def fnExactPointsPutSpec : ChangeSpec := { name := "fnExactPointsPut", fn := fun _ => fun
  | [d] => { results := [.lit (.bool true)], args := [d] }
  | _ => none }
def fnExactPointsPutRow : OpenClaim := { program := "ytphaogkgnpalgaa", sum := "4c21e6c9f76893aabda3813a9bc2956305f0375eedf197b8e35023de75b497fd", func := "loop.example/g00118/laws.FnExactPointsPut", spec := "fnExactPointsPut", apart := false }
def FnExactPointsPutSaid : Prop := fnExactPointsPutRow.holds Try.pinned (OpenSpec.ofChange fnExactPointsPutSpec)

/-- ITS FALSE NEIGHBOUR: 'it returns false'. Refute it at one input. -/
def fnExactPointsPutWrong : ChangeSpec := { name := "fnExactPointsPut", fn := fun _ => fun
  | [d] => { results := [.lit (.bool false)], args := [d] }
  | _ => none }
def FnExactPointsPutWrongFalsely : Prop := fnExactPointsPutRow.holds Try.pinned (OpenSpec.ofChange fnExactPointsPutWrong)

/-- 'laws.FnExactUtfRead': WHATEVER THE INPUT: true; the input reads as it did. -/
def fnExactUtfReadSpec : ChangeSpec := { name := "fnExactUtfRead", fn := fun _ => fun
  | [d] => { results := [.lit (.bool true)], args := [d] }
  | _ => none }
def fnExactUtfReadRow : OpenClaim := { program := "ytphaogkgnpalgaa", sum := "4c21e6c9f76893aabda3813a9bc2956305f0375eedf197b8e35023de75b497fd", func := "loop.example/g00118/laws.FnExactUtfRead", spec := "fnExactUtfRead", apart := false }
def FnExactUtfReadSaid : Prop := fnExactUtfReadRow.holds Try.pinned (OpenSpec.ofChange fnExactUtfReadSpec)

/-- ITS FALSE NEIGHBOUR: 'it returns false'. Refute it at one input. -/
def fnExactUtfReadWrong : ChangeSpec := { name := "fnExactUtfRead", fn := fun _ => fun
  | [d] => { results := [.lit (.bool false)], args := [d] }
  | _ => none }
def FnExactUtfReadWrongFalsely : Prop := fnExactUtfReadRow.holds Try.pinned (OpenSpec.ofChange fnExactUtfReadWrong)

/-- 'laws.FnExactUtfOk': WHATEVER THE INPUT: true; the input reads as it did. -/
def fnExactUtfOkSpec : ChangeSpec := { name := "fnExactUtfOk", fn := fun _ => fun
  | [d] => { results := [.lit (.bool true)], args := [d] }
  | _ => none }
def fnExactUtfOkRow : OpenClaim := { program := "ytphaogkgnpalgaa", sum := "4c21e6c9f76893aabda3813a9bc2956305f0375eedf197b8e35023de75b497fd", func := "loop.example/g00118/laws.FnExactUtfOk", spec := "fnExactUtfOk", apart := false }
def FnExactUtfOkSaid : Prop := fnExactUtfOkRow.holds Try.pinned (OpenSpec.ofChange fnExactUtfOkSpec)

/-- ITS FALSE NEIGHBOUR: 'it returns false'. Refute it at one input. -/
def fnExactUtfOkWrong : ChangeSpec := { name := "fnExactUtfOk", fn := fun _ => fun
  | [d] => { results := [.lit (.bool false)], args := [d] }
  | _ => none }
def FnExactUtfOkWrongFalsely : Prop := fnExactUtfOkRow.holds Try.pinned (OpenSpec.ofChange fnExactUtfOkWrong)

/-- 'laws.FnExactLinesOf': WHATEVER THE INPUT: true; the input reads as it did. -/
def fnExactLinesOfSpec : ChangeSpec := { name := "fnExactLinesOf", fn := fun _ => fun
  | [d] => { results := [.lit (.bool true)], args := [d] }
  | _ => none }
def fnExactLinesOfRow : OpenClaim := { program := "ytphaogkgnpalgaa", sum := "4c21e6c9f76893aabda3813a9bc2956305f0375eedf197b8e35023de75b497fd", func := "loop.example/g00118/laws.FnExactLinesOf", spec := "fnExactLinesOf", apart := false }
def FnExactLinesOfSaid : Prop := fnExactLinesOfRow.holds Try.pinned (OpenSpec.ofChange fnExactLinesOfSpec)

/-- ITS FALSE NEIGHBOUR: 'it returns false'. Refute it at one input. -/
def fnExactLinesOfWrong : ChangeSpec := { name := "fnExactLinesOf", fn := fun _ => fun
  | [d] => { results := [.lit (.bool false)], args := [d] }
  | _ => none }
def FnExactLinesOfWrongFalsely : Prop := fnExactLinesOfRow.holds Try.pinned (OpenSpec.ofChange fnExactLinesOfWrong)

/- THE SECOND FORM. 'bulk': how many values and letters a reading holds, each counted each time it is reached (what is shared counts as often as it is met; a slice's spare places count too). A statement '..UptoSaid' is the law's where the arguments, and the package variables that the reading takes, are together of bulk at most 1048576: NARROWER than '..Said'. Prove '..Said' where nothing that the law and all that it calls make is longer than what came in: it says more and counts as full. Else prove '..UptoSaid'. A law counts once. -/
mutual
def uptoBulk {H : Type} : DataW H → Nat
  | .lit (.string bytes) => bytes.length + 1
  | .lit _ => 1
  | .nil => 1
  | .ptr d => uptoBulk d + 1
  | .slice elems spare => uptoBulkAll elems + uptoBulkAll spare + 1
  | .agg parts => uptoBulkAll parts + 1
  | .iface _ d => uptoBulk d + 1
  | .map entries => uptoBulkEntries entries + 1
  | .held _ => 1
def uptoBulkAll {H : Type} : List (DataW H) → Nat
  | [] => 0
  | d :: r => uptoBulk d + uptoBulkAll r
def uptoBulkEntries {H : Type} : List (Lit × DataW H) → Nat
  | [] => 0
  | x :: r => uptoBulkEntry x + uptoBulkEntries r
def uptoBulkEntry {H : Type} : Lit × DataW H → Nat
  | (.string bytes, d) => bytes.length + uptoBulk d + 1
  | (_, d) => uptoBulk d + 1
 end
def uptoSmall : (H : Type) → List (DataW H) → Bool := fun _ ds => decide (uptoBulkAll ds ≤ 1048576)
def OpenSpec.upto (s : _root_.Go.ChangeSpec) : _root_.Go.OpenSpec := { _root_.Go.OpenSpec.ofChange s with cond := some uptoSmall }

/-- 'laws.FnUtf', WHERE WHAT IT READS IS OF BULK AT MOST 1048576: true; the input reads as it did. -/
def fnUtfUptoRow : OpenClaim := { program := "ytphaogkgnpalgaa", sum := "4c21e6c9f76893aabda3813a9bc2956305f0375eedf197b8e35023de75b497fd", func := "loop.example/g00118/laws.FnUtf", spec := "fnUtf", apart := false, narrowed := true }
def FnUtfUptoSaid : Prop := fnUtfUptoRow.holds Try.pinned (OpenSpec.upto fnUtfSpec)

/-- 'laws.FnLines', WHERE WHAT IT READS IS OF BULK AT MOST 1048576: true; the input reads as it did. -/
def fnLinesUptoRow : OpenClaim := { program := "ytphaogkgnpalgaa", sum := "4c21e6c9f76893aabda3813a9bc2956305f0375eedf197b8e35023de75b497fd", func := "loop.example/g00118/laws.FnLines", spec := "fnLines", apart := false, narrowed := true }
def FnLinesUptoSaid : Prop := fnLinesUptoRow.holds Try.pinned (OpenSpec.upto fnLinesSpec)

/-- 'laws.FnPoint', WHERE WHAT IT READS IS OF BULK AT MOST 1048576: true; the input reads as it did. -/
def fnPointUptoRow : OpenClaim := { program := "ytphaogkgnpalgaa", sum := "4c21e6c9f76893aabda3813a9bc2956305f0375eedf197b8e35023de75b497fd", func := "loop.example/g00118/laws.FnPoint", spec := "fnPoint", apart := false, narrowed := true }
def FnPointUptoSaid : Prop := fnPointUptoRow.holds Try.pinned (OpenSpec.upto fnPointSpec)

/-- 'laws.FnExactPointOk', WHERE WHAT IT READS IS OF BULK AT MOST 1048576: true; the input reads as it did. -/
def fnExactPointOkUptoRow : OpenClaim := { program := "ytphaogkgnpalgaa", sum := "4c21e6c9f76893aabda3813a9bc2956305f0375eedf197b8e35023de75b497fd", func := "loop.example/g00118/laws.FnExactPointOk", spec := "fnExactPointOk", apart := false, narrowed := true }
def FnExactPointOkUptoSaid : Prop := fnExactPointOkUptoRow.holds Try.pinned (OpenSpec.upto fnExactPointOkSpec)

/-- 'laws.FnExactPointPut', WHERE WHAT IT READS IS OF BULK AT MOST 1048576: true; the input reads as it did. -/
def fnExactPointPutUptoRow : OpenClaim := { program := "ytphaogkgnpalgaa", sum := "4c21e6c9f76893aabda3813a9bc2956305f0375eedf197b8e35023de75b497fd", func := "loop.example/g00118/laws.FnExactPointPut", spec := "fnExactPointPut", apart := false, narrowed := true }
def FnExactPointPutUptoSaid : Prop := fnExactPointPutUptoRow.holds Try.pinned (OpenSpec.upto fnExactPointPutSpec)

/-- 'laws.FnExactPointsPut', WHERE WHAT IT READS IS OF BULK AT MOST 1048576: true; the input reads as it did. -/
def fnExactPointsPutUptoRow : OpenClaim := { program := "ytphaogkgnpalgaa", sum := "4c21e6c9f76893aabda3813a9bc2956305f0375eedf197b8e35023de75b497fd", func := "loop.example/g00118/laws.FnExactPointsPut", spec := "fnExactPointsPut", apart := false, narrowed := true }
def FnExactPointsPutUptoSaid : Prop := fnExactPointsPutUptoRow.holds Try.pinned (OpenSpec.upto fnExactPointsPutSpec)

/-- 'laws.FnExactUtfRead', WHERE WHAT IT READS IS OF BULK AT MOST 1048576: true; the input reads as it did. -/
def fnExactUtfReadUptoRow : OpenClaim := { program := "ytphaogkgnpalgaa", sum := "4c21e6c9f76893aabda3813a9bc2956305f0375eedf197b8e35023de75b497fd", func := "loop.example/g00118/laws.FnExactUtfRead", spec := "fnExactUtfRead", apart := false, narrowed := true }
def FnExactUtfReadUptoSaid : Prop := fnExactUtfReadUptoRow.holds Try.pinned (OpenSpec.upto fnExactUtfReadSpec)

/-- 'laws.FnExactUtfOk', WHERE WHAT IT READS IS OF BULK AT MOST 1048576: true; the input reads as it did. -/
def fnExactUtfOkUptoRow : OpenClaim := { program := "ytphaogkgnpalgaa", sum := "4c21e6c9f76893aabda3813a9bc2956305f0375eedf197b8e35023de75b497fd", func := "loop.example/g00118/laws.FnExactUtfOk", spec := "fnExactUtfOk", apart := false, narrowed := true }
def FnExactUtfOkUptoSaid : Prop := fnExactUtfOkUptoRow.holds Try.pinned (OpenSpec.upto fnExactUtfOkSpec)

/-- 'laws.FnExactLinesOf', WHERE WHAT IT READS IS OF BULK AT MOST 1048576: true; the input reads as it did. -/
def fnExactLinesOfUptoRow : OpenClaim := { program := "ytphaogkgnpalgaa", sum := "4c21e6c9f76893aabda3813a9bc2956305f0375eedf197b8e35023de75b497fd", func := "loop.example/g00118/laws.FnExactLinesOf", spec := "fnExactLinesOf", apart := false, narrowed := true }
def FnExactLinesOfUptoSaid : Prop := fnExactLinesOfUptoRow.holds Try.pinned (OpenSpec.upto fnExactLinesOfSpec)

end Rows
end Go.Proofs.Ytphaogkgnpalgaa
