/-
  No cell of these rows narrows 'for every input' (looked for: loops, veiled, ifaces, maps, wideKeys, modest, calm, conditions, laid).
  DERIVED. THE GIVEN ROWS OF THIS SEAT. 4 by the template 'for every input the law returns true; each argument reads behind the call as it read before'; 0 by the template 'total and deterministic' (their statements: YtiejfnnokfedkaaTotals.lean).
  GIVEN WITH THE SEED: the statements are not yours to turn. If you find one false, say at which input.
  Laid BY PROGRAM, IN A SANDBOX (cutbox-rows.mjs): the forced cells as the released guide's own fill.sh prints them over the translation e3ff361a6a9fe867… (all of the seat's roots in one cut). By AI agents, Wed Nov 11 2026. No macro, syntax, notation, axiom, sorry.
-/
import Derived.Test.YtiejfnnokfedkaaChecked
import GoSem.Claim
import GoSem.ClaimJoined
import GoSem.ClaimMapViews
import Derived.JoinedTies
import Derived.KernelRfl
namespace Go.Proofs.Ytiejfnnokfedkaa
/- THE CELL 'sum', in the pinned program and in every row, IS THE sha256 OF THE DUMP (.gsa) THAT YtiejfnnokfedkaaProg.lean LOADS. Nothing in Lean hashes anything: it is a label: what it is worth is what the hold of that sum in a sandbox is worth. -/
noncomputable def Try.pinned : Pinned := { name := "ytiejfnnokfedkaa", sum := "e3ff361a6a9fe867cd2a4c28953a5aeb39b0e9f43fdb71a3e17e301fd1698951", checked := Try.checked }
namespace Rows
def none {H : Type} : Left H := { results := [], args := [] }

/-- 'laws.FnExactHeadPack': WHATEVER THE INPUT: true; the input reads as it did. -/
def fnExactHeadPackSpec : ChangeSpec := { name := "fnExactHeadPack", fn := fun _ => fun
  | [d] => { results := [.lit (.bool true)], args := [d] }
  | _ => none }
def fnExactHeadPackRow : OpenClaim := { program := "ytiejfnnokfedkaa", sum := "e3ff361a6a9fe867cd2a4c28953a5aeb39b0e9f43fdb71a3e17e301fd1698951", func := "loop.example/g00118/laws.FnExactHeadPack", spec := "fnExactHeadPack", apart := false }
def FnExactHeadPackSaid : Prop := fnExactHeadPackRow.holds Try.pinned (OpenSpec.ofChange fnExactHeadPackSpec)

/-- ITS FALSE NEIGHBOUR: 'it returns false'. Refute it at one input. -/
def fnExactHeadPackWrong : ChangeSpec := { name := "fnExactHeadPack", fn := fun _ => fun
  | [d] => { results := [.lit (.bool false)], args := [d] }
  | _ => none }
def FnExactHeadPackWrongFalsely : Prop := fnExactHeadPackRow.holds Try.pinned (OpenSpec.ofChange fnExactHeadPackWrong)

/-- 'laws.FnExactHeadPut': WHATEVER THE INPUT: true; the input reads as it did. -/
def fnExactHeadPutSpec : ChangeSpec := { name := "fnExactHeadPut", fn := fun _ => fun
  | [d1, d2] => { results := [.lit (.bool true)], args := [d1, d2] }
  | _ => none }
def fnExactHeadPutRow : OpenClaim := { program := "ytiejfnnokfedkaa", sum := "e3ff361a6a9fe867cd2a4c28953a5aeb39b0e9f43fdb71a3e17e301fd1698951", func := "loop.example/g00118/laws.FnExactHeadPut", spec := "fnExactHeadPut", apart := false }
def FnExactHeadPutSaid : Prop := fnExactHeadPutRow.holds Try.pinned (OpenSpec.ofChange fnExactHeadPutSpec)

/-- ITS FALSE NEIGHBOUR: 'it returns false'. Refute it at one input. -/
def fnExactHeadPutWrong : ChangeSpec := { name := "fnExactHeadPut", fn := fun _ => fun
  | [d1, d2] => { results := [.lit (.bool false)], args := [d1, d2] }
  | _ => none }
def FnExactHeadPutWrongFalsely : Prop := fnExactHeadPutRow.holds Try.pinned (OpenSpec.ofChange fnExactHeadPutWrong)

/-- 'laws.FnExactAreaPut': WHATEVER THE INPUT: true; the input reads as it did. -/
def fnExactAreaPutSpec : ChangeSpec := { name := "fnExactAreaPut", fn := fun _ => fun
  | [d1, d2, d3, d4] => { results := [.lit (.bool true)], args := [d1, d2, d3, d4] }
  | _ => none }
def fnExactAreaPutRow : OpenClaim := { program := "ytiejfnnokfedkaa", sum := "e3ff361a6a9fe867cd2a4c28953a5aeb39b0e9f43fdb71a3e17e301fd1698951", func := "loop.example/g00118/laws.FnExactAreaPut", spec := "fnExactAreaPut", unfollowed := true, recurses := true, apart := false }
def FnExactAreaPutSaid : Prop := fnExactAreaPutRow.holds Try.pinned (OpenSpec.ofChange fnExactAreaPutSpec)

/-- ITS FALSE NEIGHBOUR: 'it returns false'. Refute it at one input. -/
def fnExactAreaPutWrong : ChangeSpec := { name := "fnExactAreaPut", fn := fun _ => fun
  | [d1, d2, d3, d4] => { results := [.lit (.bool false)], args := [d1, d2, d3, d4] }
  | _ => none }
def FnExactAreaPutWrongFalsely : Prop := fnExactAreaPutRow.holds Try.pinned (OpenSpec.ofChange fnExactAreaPutWrong)

/-- 'laws.FnExactAreaGet': WHATEVER THE INPUT: true; the input reads as it did. -/
def fnExactAreaGetSpec : ChangeSpec := { name := "fnExactAreaGet", fn := fun _ => fun
  | [d1, d2, d3, d4] => { results := [.lit (.bool true)], args := [d1, d2, d3, d4] }
  | _ => none }
def fnExactAreaGetRow : OpenClaim := { program := "ytiejfnnokfedkaa", sum := "e3ff361a6a9fe867cd2a4c28953a5aeb39b0e9f43fdb71a3e17e301fd1698951", func := "loop.example/g00118/laws.FnExactAreaGet", spec := "fnExactAreaGet", unfollowed := true, recurses := true, apart := false }
def FnExactAreaGetSaid : Prop := fnExactAreaGetRow.holds Try.pinned (OpenSpec.ofChange fnExactAreaGetSpec)

/-- ITS FALSE NEIGHBOUR: 'it returns false'. Refute it at one input. -/
def fnExactAreaGetWrong : ChangeSpec := { name := "fnExactAreaGet", fn := fun _ => fun
  | [d1, d2, d3, d4] => { results := [.lit (.bool false)], args := [d1, d2, d3, d4] }
  | _ => none }
def FnExactAreaGetWrongFalsely : Prop := fnExactAreaGetRow.holds Try.pinned (OpenSpec.ofChange fnExactAreaGetWrong)

/- THE SECOND FORM. 'bulk': how many values and letters a reading holds, each counted each time it is reached (what is shared counts as often as it is met; a slice's spare places count too). A statement '..UptoSaid' is the law's where the arguments, and the package variables that the reading takes, are together of bulk at most 1048576: NARROWER than '..Said'. Prove '..Said' where nothing that the law and all that it calls make is longer than what came in: it says more and counts as full. Else prove '..UptoSaid'. A law counts once. -/
mutual
def uptoBulk {H : Type} : DataW H → Nat
  | .lit (.string bytes) => bytes.length + 1
  | .lit _ => 1
  | .nil => 1
  | .ptr d => uptoBulk d + 1
  | .slice elems spare => uptoBulkAll elems + uptoBulkAll spare + 1
  | .agg parts => uptoBulkAll parts + 1
  | .iface _ d => uptoBulk d + 1
  | .map entries => uptoBulkEntries entries + 1
  | .held _ => 1
def uptoBulkAll {H : Type} : List (DataW H) → Nat
  | [] => 0
  | d :: r => uptoBulk d + uptoBulkAll r
def uptoBulkEntries {H : Type} : List (Lit × DataW H) → Nat
  | [] => 0
  | x :: r => uptoBulkEntry x + uptoBulkEntries r
def uptoBulkEntry {H : Type} : Lit × DataW H → Nat
  | (.string bytes, d) => bytes.length + uptoBulk d + 1
  | (_, d) => uptoBulk d + 1
 end
def uptoSmall : (H : Type) → List (DataW H) → Bool := fun _ ds => decide (uptoBulkAll ds ≤ 1048576)
def OpenSpec.upto (s : _root_.Go.ChangeSpec) : _root_.Go.OpenSpec := { _root_.Go.OpenSpec.ofChange s with cond := some uptoSmall }

/-- 'laws.FnExactHeadPack', WHERE WHAT IT READS IS OF BULK AT MOST 1048576: true; the input reads as it did. -/
def fnExactHeadPackUptoRow : OpenClaim := { program := "ytiejfnnokfedkaa", sum := "e3ff361a6a9fe867cd2a4c28953a5aeb39b0e9f43fdb71a3e17e301fd1698951", func := "loop.example/g00118/laws.FnExactHeadPack", spec := "fnExactHeadPack", apart := false, narrowed := true }
def FnExactHeadPackUptoSaid : Prop := fnExactHeadPackUptoRow.holds Try.pinned (OpenSpec.upto fnExactHeadPackSpec)

/-- 'laws.FnExactHeadPut', WHERE WHAT IT READS IS OF BULK AT MOST 1048576: true; the input reads as it did. -/
def fnExactHeadPutUptoRow : OpenClaim := { program := "ytiejfnnokfedkaa", sum := "e3ff361a6a9fe867cd2a4c28953a5aeb39b0e9f43fdb71a3e17e301fd1698951", func := "loop.example/g00118/laws.FnExactHeadPut", spec := "fnExactHeadPut", apart := false, narrowed := true }
def FnExactHeadPutUptoSaid : Prop := fnExactHeadPutUptoRow.holds Try.pinned (OpenSpec.upto fnExactHeadPutSpec)

/-- 'laws.FnExactAreaPut', WHERE WHAT IT READS IS OF BULK AT MOST 1048576: true; the input reads as it did. -/
def fnExactAreaPutUptoRow : OpenClaim := { program := "ytiejfnnokfedkaa", sum := "e3ff361a6a9fe867cd2a4c28953a5aeb39b0e9f43fdb71a3e17e301fd1698951", func := "loop.example/g00118/laws.FnExactAreaPut", spec := "fnExactAreaPut", unfollowed := true, recurses := true, apart := false, narrowed := true }
def FnExactAreaPutUptoSaid : Prop := fnExactAreaPutUptoRow.holds Try.pinned (OpenSpec.upto fnExactAreaPutSpec)

/-- 'laws.FnExactAreaGet', WHERE WHAT IT READS IS OF BULK AT MOST 1048576: true; the input reads as it did. -/
def fnExactAreaGetUptoRow : OpenClaim := { program := "ytiejfnnokfedkaa", sum := "e3ff361a6a9fe867cd2a4c28953a5aeb39b0e9f43fdb71a3e17e301fd1698951", func := "loop.example/g00118/laws.FnExactAreaGet", spec := "fnExactAreaGet", unfollowed := true, recurses := true, apart := false, narrowed := true }
def FnExactAreaGetUptoSaid : Prop := fnExactAreaGetUptoRow.holds Try.pinned (OpenSpec.upto fnExactAreaGetSpec)

end Rows
end Go.Proofs.Ytiejfnnokfedkaa
