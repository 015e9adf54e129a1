/-
  No cell of these rows narrows 'for every input' (looked for: loops, veiled, ifaces, maps, wideKeys, modest, calm, conditions, laid).
  DERIVED. THE GIVEN ROWS OF THIS SEAT. 7 by the template 'for every input the law returns true; each argument reads behind the call as it read before'; 0 by the template 'total and deterministic' (their statements: YtogdbjafibejdaaGreatTotals.lean).
  GIVEN WITH THE SEED: the statements are not yours to turn. If you find one false, say at which input.
  Laid BY PROGRAM, IN A SANDBOX (cutbox-rows.mjs): the forced cells as the released guide's own fill.sh prints them over the translation af6611f206c1a47a… (all of the seat's roots in one cut). By AI agents, Wed Nov 11 2026. No macro, syntax, notation, axiom, sorry.
-/
import Derived.Test.YtogdbjafibejdaaGreatChecked
import GoSem.Claim
import GoSem.ClaimJoined
import GoSem.ClaimMapViews
import Derived.JoinedTies
import Derived.KernelRfl
namespace Go.Proofs.YtogdbjafibejdaaGreat
/- THE CELL 'sum', in the pinned program and in every row, IS THE sha256 OF THE DUMP (.gsa) THAT YtogdbjafibejdaaGreatProg.lean LOADS. Nothing in Lean hashes anything: it is a label: what it is worth is what the hold of that sum in a sandbox is worth. -/
noncomputable def Tryz.pinned : Pinned := { name := "ytogdbjafibejdaagreat", sum := "af6611f206c1a47ada11bd77c0d183ed7d1c8f586288fdf4bd14d97bbeae59f4", checked := Tryz.checked }
namespace Rows
def none {H : Type} : Left H := { results := [], args := [] }

/-- 'laws.FnTreeOps': WHATEVER THE INPUT: true; the input reads as it did. -/
def fnTreeOpsSpec : ChangeSpec := { name := "fnTreeOps", fn := fun _ => fun
  | [d] => { results := [.lit (.bool true)], args := [d] }
  | _ => none }
def fnTreeOpsRow : OpenClaim := { program := "ytogdbjafibejdaagreat", sum := "af6611f206c1a47ada11bd77c0d183ed7d1c8f586288fdf4bd14d97bbeae59f4", func := "loop.example/g00118/laws.FnTreeOps", spec := "fnTreeOps", unfollowed := true, recurses := true, apart := false }
def FnTreeOpsSaid : Prop := fnTreeOpsRow.holds Tryz.pinned (OpenSpec.ofChange fnTreeOpsSpec)

/-- ITS FALSE NEIGHBOUR: 'it returns false'. Refute it at one input. -/
def fnTreeOpsWrong : ChangeSpec := { name := "fnTreeOps", fn := fun _ => fun
  | [d] => { results := [.lit (.bool false)], args := [d] }
  | _ => none }
def FnTreeOpsWrongFalsely : Prop := fnTreeOpsRow.holds Tryz.pinned (OpenSpec.ofChange fnTreeOpsWrong)

/-- 'laws.FnWrite': WHATEVER THE INPUT: true; the input reads as it did. -/
def fnWriteSpec : ChangeSpec := { name := "fnWrite", fn := fun _ => fun
  | [d] => { results := [.lit (.bool true)], args := [d] }
  | _ => none }
def fnWriteRow : OpenClaim := { program := "ytogdbjafibejdaagreat", sum := "af6611f206c1a47ada11bd77c0d183ed7d1c8f586288fdf4bd14d97bbeae59f4", func := "loop.example/g00118/laws.FnWrite", spec := "fnWrite", inPlace := ["internal/abi.NoEscape"], unfollowed := true, recurses := true, apart := false }
def FnWriteSaid : Prop := fnWriteRow.holds Tryz.pinned (OpenSpec.ofChange fnWriteSpec)

/-- ITS FALSE NEIGHBOUR: 'it returns false'. Refute it at one input. -/
def fnWriteWrong : ChangeSpec := { name := "fnWrite", fn := fun _ => fun
  | [d] => { results := [.lit (.bool false)], args := [d] }
  | _ => none }
def FnWriteWrongFalsely : Prop := fnWriteRow.holds Tryz.pinned (OpenSpec.ofChange fnWriteWrong)

/-- 'laws.FnTidy': WHATEVER THE INPUT: true; the input reads as it did. -/
def fnTidySpec : ChangeSpec := { name := "fnTidy", fn := fun _ => fun
  | [d] => { results := [.lit (.bool true)], args := [d] }
  | _ => none }
def fnTidyRow : OpenClaim := { program := "ytogdbjafibejdaagreat", sum := "af6611f206c1a47ada11bd77c0d183ed7d1c8f586288fdf4bd14d97bbeae59f4", func := "loop.example/g00118/laws.FnTidy", spec := "fnTidy", inPlace := ["internal/abi.NoEscape"], unfollowed := true, recurses := true, apart := false }
def FnTidySaid : Prop := fnTidyRow.holds Tryz.pinned (OpenSpec.ofChange fnTidySpec)

/-- ITS FALSE NEIGHBOUR: 'it returns false'. Refute it at one input. -/
def fnTidyWrong : ChangeSpec := { name := "fnTidy", fn := fun _ => fun
  | [d] => { results := [.lit (.bool false)], args := [d] }
  | _ => none }
def FnTidyWrongFalsely : Prop := fnTidyRow.holds Tryz.pinned (OpenSpec.ofChange fnTidyWrong)

/-- 'laws.FnPack': WHATEVER THE INPUT: true; the input reads as it did. -/
def fnPackSpec : ChangeSpec := { name := "fnPack", fn := fun _ => fun
  | [d] => { results := [.lit (.bool true)], args := [d] }
  | _ => none }
def fnPackRow : OpenClaim := { program := "ytogdbjafibejdaagreat", sum := "af6611f206c1a47ada11bd77c0d183ed7d1c8f586288fdf4bd14d97bbeae59f4", func := "loop.example/g00118/laws.FnPack", spec := "fnPack", unfollowed := true, recurses := true, apart := false }
def FnPackSaid : Prop := fnPackRow.holds Tryz.pinned (OpenSpec.ofChange fnPackSpec)

/-- ITS FALSE NEIGHBOUR: 'it returns false'. Refute it at one input. -/
def fnPackWrong : ChangeSpec := { name := "fnPack", fn := fun _ => fun
  | [d] => { results := [.lit (.bool false)], args := [d] }
  | _ => none }
def FnPackWrongFalsely : Prop := fnPackRow.holds Tryz.pinned (OpenSpec.ofChange fnPackWrong)

/-- 'laws.FnPrinted': WHATEVER THE INPUT: true; the input reads as it did. -/
def fnPrintedSpec : ChangeSpec := { name := "fnPrinted", fn := fun _ => fun
  | [d] => { results := [.lit (.bool true)], args := [d] }
  | _ => none }
def fnPrintedRow : OpenClaim := { program := "ytogdbjafibejdaagreat", sum := "af6611f206c1a47ada11bd77c0d183ed7d1c8f586288fdf4bd14d97bbeae59f4", func := "loop.example/g00118/laws.FnPrinted", spec := "fnPrinted", inPlace := ["internal/abi.NoEscape"], unfollowed := true, recurses := true, apart := false }
def FnPrintedSaid : Prop := fnPrintedRow.holds Tryz.pinned (OpenSpec.ofChange fnPrintedSpec)

/-- ITS FALSE NEIGHBOUR: 'it returns false'. Refute it at one input. -/
def fnPrintedWrong : ChangeSpec := { name := "fnPrinted", fn := fun _ => fun
  | [d] => { results := [.lit (.bool false)], args := [d] }
  | _ => none }
def FnPrintedWrongFalsely : Prop := fnPrintedRow.holds Tryz.pinned (OpenSpec.ofChange fnPrintedWrong)

/-- 'laws.FnExactTreePack': WHATEVER THE INPUT: true; the input reads as it did. -/
def fnExactTreePackSpec : ChangeSpec := { name := "fnExactTreePack", fn := fun _ => fun
  | [d] => { results := [.lit (.bool true)], args := [d] }
  | _ => none }
def fnExactTreePackRow : OpenClaim := { program := "ytogdbjafibejdaagreat", sum := "af6611f206c1a47ada11bd77c0d183ed7d1c8f586288fdf4bd14d97bbeae59f4", func := "loop.example/g00118/laws.FnExactTreePack", spec := "fnExactTreePack", unfollowed := true, recurses := true, apart := false }
def FnExactTreePackSaid : Prop := fnExactTreePackRow.holds Tryz.pinned (OpenSpec.ofChange fnExactTreePackSpec)

/-- ITS FALSE NEIGHBOUR: 'it returns false'. Refute it at one input. -/
def fnExactTreePackWrong : ChangeSpec := { name := "fnExactTreePack", fn := fun _ => fun
  | [d] => { results := [.lit (.bool false)], args := [d] }
  | _ => none }
def FnExactTreePackWrongFalsely : Prop := fnExactTreePackRow.holds Tryz.pinned (OpenSpec.ofChange fnExactTreePackWrong)

/-- 'laws.FnExactTreeRead': WHATEVER THE INPUT: true; the input reads as it did. -/
def fnExactTreeReadSpec : ChangeSpec := { name := "fnExactTreeRead", fn := fun _ => fun
  | [d] => { results := [.lit (.bool true)], args := [d] }
  | _ => none }
def fnExactTreeReadRow : OpenClaim := { program := "ytogdbjafibejdaagreat", sum := "af6611f206c1a47ada11bd77c0d183ed7d1c8f586288fdf4bd14d97bbeae59f4", func := "loop.example/g00118/laws.FnExactTreeRead", spec := "fnExactTreeRead", unfollowed := true, recurses := true, apart := false }
def FnExactTreeReadSaid : Prop := fnExactTreeReadRow.holds Tryz.pinned (OpenSpec.ofChange fnExactTreeReadSpec)

/-- ITS FALSE NEIGHBOUR: 'it returns false'. Refute it at one input. -/
def fnExactTreeReadWrong : ChangeSpec := { name := "fnExactTreeRead", fn := fun _ => fun
  | [d] => { results := [.lit (.bool false)], args := [d] }
  | _ => none }
def FnExactTreeReadWrongFalsely : Prop := fnExactTreeReadRow.holds Tryz.pinned (OpenSpec.ofChange fnExactTreeReadWrong)

/- THE SECOND FORM. 'bulk': how many values and letters a reading holds, each counted each time it is reached (what is shared counts as often as it is met; a slice's spare places count too). A statement '..UptoSaid' is the law's where the arguments, and the package variables that the reading takes, are together of bulk at most 1048576: NARROWER than '..Said'. Prove '..Said' where nothing that the law and all that it calls make is longer than what came in: it says more and counts as full. Else prove '..UptoSaid'. A law counts once. -/
mutual
def uptoBulk {H : Type} : DataW H → Nat
  | .lit (.string bytes) => bytes.length + 1
  | .lit _ => 1
  | .nil => 1
  | .ptr d => uptoBulk d + 1
  | .slice elems spare => uptoBulkAll elems + uptoBulkAll spare + 1
  | .agg parts => uptoBulkAll parts + 1
  | .iface _ d => uptoBulk d + 1
  | .map entries => uptoBulkEntries entries + 1
  | .held _ => 1
def uptoBulkAll {H : Type} : List (DataW H) → Nat
  | [] => 0
  | d :: r => uptoBulk d + uptoBulkAll r
def uptoBulkEntries {H : Type} : List (Lit × DataW H) → Nat
  | [] => 0
  | x :: r => uptoBulkEntry x + uptoBulkEntries r
def uptoBulkEntry {H : Type} : Lit × DataW H → Nat
  | (.string bytes, d) => bytes.length + uptoBulk d + 1
  | (_, d) => uptoBulk d + 1
 end
def uptoSmall : (H : Type) → List (DataW H) → Bool := fun _ ds => decide (uptoBulkAll ds ≤ 1048576)
def OpenSpec.upto (s : _root_.Go.ChangeSpec) : _root_.Go.OpenSpec := { _root_.Go.OpenSpec.ofChange s with cond := some uptoSmall }

/-- 'laws.FnTreeOps', WHERE WHAT IT READS IS OF BULK AT MOST 1048576: true; the input reads as it did. -/
def fnTreeOpsUptoRow : OpenClaim := { program := "ytogdbjafibejdaagreat", sum := "af6611f206c1a47ada11bd77c0d183ed7d1c8f586288fdf4bd14d97bbeae59f4", func := "loop.example/g00118/laws.FnTreeOps", spec := "fnTreeOps", unfollowed := true, recurses := true, apart := false, narrowed := true }
def FnTreeOpsUptoSaid : Prop := fnTreeOpsUptoRow.holds Tryz.pinned (OpenSpec.upto fnTreeOpsSpec)

/-- 'laws.FnWrite', WHERE WHAT IT READS IS OF BULK AT MOST 1048576: true; the input reads as it did. -/
def fnWriteUptoRow : OpenClaim := { program := "ytogdbjafibejdaagreat", sum := "af6611f206c1a47ada11bd77c0d183ed7d1c8f586288fdf4bd14d97bbeae59f4", func := "loop.example/g00118/laws.FnWrite", spec := "fnWrite", inPlace := ["internal/abi.NoEscape"], unfollowed := true, recurses := true, apart := false, narrowed := true }
def FnWriteUptoSaid : Prop := fnWriteUptoRow.holds Tryz.pinned (OpenSpec.upto fnWriteSpec)

/-- 'laws.FnTidy', WHERE WHAT IT READS IS OF BULK AT MOST 1048576: true; the input reads as it did. -/
def fnTidyUptoRow : OpenClaim := { program := "ytogdbjafibejdaagreat", sum := "af6611f206c1a47ada11bd77c0d183ed7d1c8f586288fdf4bd14d97bbeae59f4", func := "loop.example/g00118/laws.FnTidy", spec := "fnTidy", inPlace := ["internal/abi.NoEscape"], unfollowed := true, recurses := true, apart := false, narrowed := true }
def FnTidyUptoSaid : Prop := fnTidyUptoRow.holds Tryz.pinned (OpenSpec.upto fnTidySpec)

/-- 'laws.FnPack', WHERE WHAT IT READS IS OF BULK AT MOST 1048576: true; the input reads as it did. -/
def fnPackUptoRow : OpenClaim := { program := "ytogdbjafibejdaagreat", sum := "af6611f206c1a47ada11bd77c0d183ed7d1c8f586288fdf4bd14d97bbeae59f4", func := "loop.example/g00118/laws.FnPack", spec := "fnPack", unfollowed := true, recurses := true, apart := false, narrowed := true }
def FnPackUptoSaid : Prop := fnPackUptoRow.holds Tryz.pinned (OpenSpec.upto fnPackSpec)

/-- 'laws.FnPrinted', WHERE WHAT IT READS IS OF BULK AT MOST 1048576: true; the input reads as it did. -/
def fnPrintedUptoRow : OpenClaim := { program := "ytogdbjafibejdaagreat", sum := "af6611f206c1a47ada11bd77c0d183ed7d1c8f586288fdf4bd14d97bbeae59f4", func := "loop.example/g00118/laws.FnPrinted", spec := "fnPrinted", inPlace := ["internal/abi.NoEscape"], unfollowed := true, recurses := true, apart := false, narrowed := true }
def FnPrintedUptoSaid : Prop := fnPrintedUptoRow.holds Tryz.pinned (OpenSpec.upto fnPrintedSpec)

/-- 'laws.FnExactTreePack', WHERE WHAT IT READS IS OF BULK AT MOST 1048576: true; the input reads as it did. -/
def fnExactTreePackUptoRow : OpenClaim := { program := "ytogdbjafibejdaagreat", sum := "af6611f206c1a47ada11bd77c0d183ed7d1c8f586288fdf4bd14d97bbeae59f4", func := "loop.example/g00118/laws.FnExactTreePack", spec := "fnExactTreePack", unfollowed := true, recurses := true, apart := false, narrowed := true }
def FnExactTreePackUptoSaid : Prop := fnExactTreePackUptoRow.holds Tryz.pinned (OpenSpec.upto fnExactTreePackSpec)

/-- 'laws.FnExactTreeRead', WHERE WHAT IT READS IS OF BULK AT MOST 1048576: true; the input reads as it did. -/
def fnExactTreeReadUptoRow : OpenClaim := { program := "ytogdbjafibejdaagreat", sum := "af6611f206c1a47ada11bd77c0d183ed7d1c8f586288fdf4bd14d97bbeae59f4", func := "loop.example/g00118/laws.FnExactTreeRead", spec := "fnExactTreeRead", unfollowed := true, recurses := true, apart := false, narrowed := true }
def FnExactTreeReadUptoSaid : Prop := fnExactTreeReadUptoRow.holds Tryz.pinned (OpenSpec.upto fnExactTreeReadSpec)

end Rows
end Go.Proofs.YtogdbjafibejdaaGreat
