/-
  No cell of these rows narrows 'for every input' (looked for: loops, veiled, ifaces, maps, wideKeys, modest, calm, conditions, laid).
  DERIVED. THE GIVEN ROWS OF THIS SEAT. 4 by the template 'for every input the law returns true; each argument reads behind the call as it read before'; 0 by the template 'total and deterministic' (their statements: YtfgpmnkaabpppaaTotals.lean).
  GIVEN WITH THE SEED: the statements are not yours to turn. If you find one false, say at which input.
  Laid BY PROGRAM, IN A SANDBOX (cutbox-rows.mjs): the forced cells as the released guide's own fill.sh prints them over the translation f654fe26a5c3112b… (all of the seat's roots in one cut). By AI agents, Wed Nov 11 2026. No macro, syntax, notation, axiom, sorry.
-/
import Derived.Test.YtfgpmnkaabpppaaChecked
import GoSem.Claim
import GoSem.ClaimJoined
import GoSem.ClaimMapViews
import Derived.JoinedTies
import Derived.KernelRfl
namespace Go.Proofs.Ytfgpmnkaabpppaa
/- THE CELL 'sum', in the pinned program and in every row, IS THE sha256 OF THE DUMP (.gsa) THAT YtfgpmnkaabpppaaProg.lean LOADS. Nothing in Lean hashes anything: it is a label: what it is worth is what the hold of that sum in a sandbox is worth. -/
noncomputable def Try.pinned : Pinned := { name := "ytfgpmnkaabpppaa", sum := "f654fe26a5c3112b811e503ade690f20d916c366d499b5c50ba263a8560708b4", checked := Try.checked }
namespace Rows
def none {H : Type} : Left H := { results := [], args := [] }

/-- 'laws.FnExactFmtsOk': WHATEVER THE INPUT: true; the input reads as it did. -/
def fnExactFmtsOkSpec : ChangeSpec := { name := "fnExactFmtsOk", fn := fun _ => fun
  | [d1, d2] => { results := [.lit (.bool true)], args := [d1, d2] }
  | _ => none }
def fnExactFmtsOkRow : OpenClaim := { program := "ytfgpmnkaabpppaa", sum := "f654fe26a5c3112b811e503ade690f20d916c366d499b5c50ba263a8560708b4", func := "loop.example/g00118/laws.FnExactFmtsOk", spec := "fnExactFmtsOk", unfollowed := true, recurses := true, apart := false }
def FnExactFmtsOkSaid : Prop := fnExactFmtsOkRow.holds Try.pinned (OpenSpec.ofChange fnExactFmtsOkSpec)

/-- ITS FALSE NEIGHBOUR: 'it returns false'. Refute it at one input. -/
def fnExactFmtsOkWrong : ChangeSpec := { name := "fnExactFmtsOk", fn := fun _ => fun
  | [d1, d2] => { results := [.lit (.bool false)], args := [d1, d2] }
  | _ => none }
def FnExactFmtsOkWrongFalsely : Prop := fnExactFmtsOkRow.holds Try.pinned (OpenSpec.ofChange fnExactFmtsOkWrong)

/-- 'laws.FnExactFmtClear': WHATEVER THE INPUT: true; the input reads as it did. -/
def fnExactFmtClearSpec : ChangeSpec := { name := "fnExactFmtClear", fn := fun _ => fun
  | [d] => { results := [.lit (.bool true)], args := [d] }
  | _ => none }
def fnExactFmtClearRow : OpenClaim := { program := "ytfgpmnkaabpppaa", sum := "f654fe26a5c3112b811e503ade690f20d916c366d499b5c50ba263a8560708b4", func := "loop.example/g00118/laws.FnExactFmtClear", spec := "fnExactFmtClear", unfollowed := true, recurses := true, apart := false }
def FnExactFmtClearSaid : Prop := fnExactFmtClearRow.holds Try.pinned (OpenSpec.ofChange fnExactFmtClearSpec)

/-- ITS FALSE NEIGHBOUR: 'it returns false'. Refute it at one input. -/
def fnExactFmtClearWrong : ChangeSpec := { name := "fnExactFmtClear", fn := fun _ => fun
  | [d] => { results := [.lit (.bool false)], args := [d] }
  | _ => none }
def FnExactFmtClearWrongFalsely : Prop := fnExactFmtClearRow.holds Try.pinned (OpenSpec.ofChange fnExactFmtClearWrong)

/-- 'laws.FnExactFmtFind': WHATEVER THE INPUT: true; the input reads as it did. -/
def fnExactFmtFindSpec : ChangeSpec := { name := "fnExactFmtFind", fn := fun _ => fun
  | [d1, d2, d3] => { results := [.lit (.bool true)], args := [d1, d2, d3] }
  | _ => none }
def fnExactFmtFindRow : OpenClaim := { program := "ytfgpmnkaabpppaa", sum := "f654fe26a5c3112b811e503ade690f20d916c366d499b5c50ba263a8560708b4", func := "loop.example/g00118/laws.FnExactFmtFind", spec := "fnExactFmtFind", unfollowed := true, recurses := true, apart := false }
def FnExactFmtFindSaid : Prop := fnExactFmtFindRow.holds Try.pinned (OpenSpec.ofChange fnExactFmtFindSpec)

/-- ITS FALSE NEIGHBOUR: 'it returns false'. Refute it at one input. -/
def fnExactFmtFindWrong : ChangeSpec := { name := "fnExactFmtFind", fn := fun _ => fun
  | [d1, d2, d3] => { results := [.lit (.bool false)], args := [d1, d2, d3] }
  | _ => none }
def FnExactFmtFindWrongFalsely : Prop := fnExactFmtFindRow.holds Try.pinned (OpenSpec.ofChange fnExactFmtFindWrong)

/-- 'laws.FnExactFmtLess': WHATEVER THE INPUT: true; the input reads as it did. -/
def fnExactFmtLessSpec : ChangeSpec := { name := "fnExactFmtLess", fn := fun _ => fun
  | [d1, d2] => { results := [.lit (.bool true)], args := [d1, d2] }
  | _ => none }
def fnExactFmtLessRow : OpenClaim := { program := "ytfgpmnkaabpppaa", sum := "f654fe26a5c3112b811e503ade690f20d916c366d499b5c50ba263a8560708b4", func := "loop.example/g00118/laws.FnExactFmtLess", spec := "fnExactFmtLess", apart := false }
def FnExactFmtLessSaid : Prop := fnExactFmtLessRow.holds Try.pinned (OpenSpec.ofChange fnExactFmtLessSpec)

/-- ITS FALSE NEIGHBOUR: 'it returns false'. Refute it at one input. -/
def fnExactFmtLessWrong : ChangeSpec := { name := "fnExactFmtLess", fn := fun _ => fun
  | [d1, d2] => { results := [.lit (.bool false)], args := [d1, d2] }
  | _ => none }
def FnExactFmtLessWrongFalsely : Prop := fnExactFmtLessRow.holds Try.pinned (OpenSpec.ofChange fnExactFmtLessWrong)

/- THE SECOND FORM. 'bulk': how many values and letters a reading holds, each counted each time it is reached (what is shared counts as often as it is met; a slice's spare places count too). A statement '..UptoSaid' is the law's where the arguments, and the package variables that the reading takes, are together of bulk at most 1048576: NARROWER than '..Said'. Prove '..Said' where nothing that the law and all that it calls make is longer than what came in: it says more and counts as full. Else prove '..UptoSaid'. A law counts once. -/
mutual
def uptoBulk {H : Type} : DataW H → Nat
  | .lit (.string bytes) => bytes.length + 1
  | .lit _ => 1
  | .nil => 1
  | .ptr d => uptoBulk d + 1
  | .slice elems spare => uptoBulkAll elems + uptoBulkAll spare + 1
  | .agg parts => uptoBulkAll parts + 1
  | .iface _ d => uptoBulk d + 1
  | .map entries => uptoBulkEntries entries + 1
  | .held _ => 1
def uptoBulkAll {H : Type} : List (DataW H) → Nat
  | [] => 0
  | d :: r => uptoBulk d + uptoBulkAll r
def uptoBulkEntries {H : Type} : List (Lit × DataW H) → Nat
  | [] => 0
  | x :: r => uptoBulkEntry x + uptoBulkEntries r
def uptoBulkEntry {H : Type} : Lit × DataW H → Nat
  | (.string bytes, d) => bytes.length + uptoBulk d + 1
  | (_, d) => uptoBulk d + 1
 end
def uptoSmall : (H : Type) → List (DataW H) → Bool := fun _ ds => decide (uptoBulkAll ds ≤ 1048576)
def OpenSpec.upto (s : _root_.Go.ChangeSpec) : _root_.Go.OpenSpec := { _root_.Go.OpenSpec.ofChange s with cond := some uptoSmall }

/-- 'laws.FnExactFmtsOk', WHERE WHAT IT READS IS OF BULK AT MOST 1048576: true; the input reads as it did. -/
def fnExactFmtsOkUptoRow : OpenClaim := { program := "ytfgpmnkaabpppaa", sum := "f654fe26a5c3112b811e503ade690f20d916c366d499b5c50ba263a8560708b4", func := "loop.example/g00118/laws.FnExactFmtsOk", spec := "fnExactFmtsOk", unfollowed := true, recurses := true, apart := false, narrowed := true }
def FnExactFmtsOkUptoSaid : Prop := fnExactFmtsOkUptoRow.holds Try.pinned (OpenSpec.upto fnExactFmtsOkSpec)

/-- 'laws.FnExactFmtClear', WHERE WHAT IT READS IS OF BULK AT MOST 1048576: true; the input reads as it did. -/
def fnExactFmtClearUptoRow : OpenClaim := { program := "ytfgpmnkaabpppaa", sum := "f654fe26a5c3112b811e503ade690f20d916c366d499b5c50ba263a8560708b4", func := "loop.example/g00118/laws.FnExactFmtClear", spec := "fnExactFmtClear", unfollowed := true, recurses := true, apart := false, narrowed := true }
def FnExactFmtClearUptoSaid : Prop := fnExactFmtClearUptoRow.holds Try.pinned (OpenSpec.upto fnExactFmtClearSpec)

/-- 'laws.FnExactFmtFind', WHERE WHAT IT READS IS OF BULK AT MOST 1048576: true; the input reads as it did. -/
def fnExactFmtFindUptoRow : OpenClaim := { program := "ytfgpmnkaabpppaa", sum := "f654fe26a5c3112b811e503ade690f20d916c366d499b5c50ba263a8560708b4", func := "loop.example/g00118/laws.FnExactFmtFind", spec := "fnExactFmtFind", unfollowed := true, recurses := true, apart := false, narrowed := true }
def FnExactFmtFindUptoSaid : Prop := fnExactFmtFindUptoRow.holds Try.pinned (OpenSpec.upto fnExactFmtFindSpec)

/-- 'laws.FnExactFmtLess', WHERE WHAT IT READS IS OF BULK AT MOST 1048576: true; the input reads as it did. -/
def fnExactFmtLessUptoRow : OpenClaim := { program := "ytfgpmnkaabpppaa", sum := "f654fe26a5c3112b811e503ade690f20d916c366d499b5c50ba263a8560708b4", func := "loop.example/g00118/laws.FnExactFmtLess", spec := "fnExactFmtLess", apart := false, narrowed := true }
def FnExactFmtLessUptoSaid : Prop := fnExactFmtLessUptoRow.holds Try.pinned (OpenSpec.upto fnExactFmtLessSpec)

end Rows
end Go.Proofs.Ytfgpmnkaabpppaa
