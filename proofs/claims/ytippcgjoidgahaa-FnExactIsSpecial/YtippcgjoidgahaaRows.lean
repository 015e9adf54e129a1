/-
  No cell of these rows narrows 'for every input' (looked for: loops, veiled, ifaces, maps, wideKeys, modest, calm, conditions, laid).
  DERIVED. THE GIVEN ROWS OF THIS SEAT. 8 by the template 'for every input the law returns true; each argument reads behind the call as it read before'; 0 by the template 'total and deterministic' (their statements: YtippcgjoidgahaaTotals.lean).
  GIVEN WITH THE SEED: the statements are not yours to turn. If you find one false, say at which input.
  Laid BY PROGRAM, IN A SANDBOX (cutbox-rows.mjs): the forced cells as the released guide's own fill.sh prints them over the translation 98f53a46c8df7a6f… (all of the seat's roots in one cut). By AI agents, Wed Nov 11 2026. No macro, syntax, notation, axiom, sorry.
-/
import Derived.Test.YtippcgjoidgahaaChecked
import GoSem.Claim
import GoSem.ClaimJoined
import GoSem.ClaimMapViews
import Derived.JoinedTies
import Derived.KernelRfl
namespace Go.Proofs.Ytippcgjoidgahaa
/- THE CELL 'sum', in the pinned program and in every row, IS THE sha256 OF THE DUMP (.gsa) THAT YtippcgjoidgahaaProg.lean LOADS. Nothing in Lean hashes anything: it is a label: what it is worth is what the hold of that sum in a sandbox is worth. -/
noncomputable def Try.pinned : Pinned := { name := "ytippcgjoidgahaa", sum := "98f53a46c8df7a6f47bbc61ff61d560bb54e4a696f992273704ea0de6a0fbfab", checked := Try.checked }
namespace Rows
def none {H : Type} : Left H := { results := [], args := [] }

/-- 'laws.FnKinds': WHATEVER THE INPUT: true; the input reads as it did. -/
def fnKindsSpec : ChangeSpec := { name := "fnKinds", fn := fun _ => fun
  | [d] => { results := [.lit (.bool true)], args := [d] }
  | _ => none }
def fnKindsRow : OpenClaim := { program := "ytippcgjoidgahaa", sum := "98f53a46c8df7a6f47bbc61ff61d560bb54e4a696f992273704ea0de6a0fbfab", func := "loop.example/g00118/laws.FnKinds", spec := "fnKinds", apart := false }
def FnKindsSaid : Prop := fnKindsRow.holds Try.pinned (OpenSpec.ofChange fnKindsSpec)

/-- ITS FALSE NEIGHBOUR: 'it returns false'. Refute it at one input. -/
def fnKindsWrong : ChangeSpec := { name := "fnKinds", fn := fun _ => fun
  | [d] => { results := [.lit (.bool false)], args := [d] }
  | _ => none }
def FnKindsWrongFalsely : Prop := fnKindsRow.holds Try.pinned (OpenSpec.ofChange fnKindsWrong)

/-- 'laws.FnExactIsFormat': WHATEVER THE INPUT: true; the input reads as it did. -/
def fnExactIsFormatSpec : ChangeSpec := { name := "fnExactIsFormat", fn := fun _ => fun
  | [d] => { results := [.lit (.bool true)], args := [d] }
  | _ => none }
def fnExactIsFormatRow : OpenClaim := { program := "ytippcgjoidgahaa", sum := "98f53a46c8df7a6f47bbc61ff61d560bb54e4a696f992273704ea0de6a0fbfab", func := "loop.example/g00118/laws.FnExactIsFormat", spec := "fnExactIsFormat", apart := false }
def FnExactIsFormatSaid : Prop := fnExactIsFormatRow.holds Try.pinned (OpenSpec.ofChange fnExactIsFormatSpec)

/-- ITS FALSE NEIGHBOUR: 'it returns false'. Refute it at one input. -/
def fnExactIsFormatWrong : ChangeSpec := { name := "fnExactIsFormat", fn := fun _ => fun
  | [d] => { results := [.lit (.bool false)], args := [d] }
  | _ => none }
def FnExactIsFormatWrongFalsely : Prop := fnExactIsFormatRow.holds Try.pinned (OpenSpec.ofChange fnExactIsFormatWrong)

/-- 'laws.FnExactIsBlock': WHATEVER THE INPUT: true; the input reads as it did. -/
def fnExactIsBlockSpec : ChangeSpec := { name := "fnExactIsBlock", fn := fun _ => fun
  | [d] => { results := [.lit (.bool true)], args := [d] }
  | _ => none }
def fnExactIsBlockRow : OpenClaim := { program := "ytippcgjoidgahaa", sum := "98f53a46c8df7a6f47bbc61ff61d560bb54e4a696f992273704ea0de6a0fbfab", func := "loop.example/g00118/laws.FnExactIsBlock", spec := "fnExactIsBlock", apart := false }
def FnExactIsBlockSaid : Prop := fnExactIsBlockRow.holds Try.pinned (OpenSpec.ofChange fnExactIsBlockSpec)

/-- ITS FALSE NEIGHBOUR: 'it returns false'. Refute it at one input. -/
def fnExactIsBlockWrong : ChangeSpec := { name := "fnExactIsBlock", fn := fun _ => fun
  | [d] => { results := [.lit (.bool false)], args := [d] }
  | _ => none }
def FnExactIsBlockWrongFalsely : Prop := fnExactIsBlockRow.holds Try.pinned (OpenSpec.ofChange fnExactIsBlockWrong)

/-- 'laws.FnExactIsHeading': WHATEVER THE INPUT: true; the input reads as it did. -/
def fnExactIsHeadingSpec : ChangeSpec := { name := "fnExactIsHeading", fn := fun _ => fun
  | [d] => { results := [.lit (.bool true)], args := [d] }
  | _ => none }
def fnExactIsHeadingRow : OpenClaim := { program := "ytippcgjoidgahaa", sum := "98f53a46c8df7a6f47bbc61ff61d560bb54e4a696f992273704ea0de6a0fbfab", func := "loop.example/g00118/laws.FnExactIsHeading", spec := "fnExactIsHeading", apart := false }
def FnExactIsHeadingSaid : Prop := fnExactIsHeadingRow.holds Try.pinned (OpenSpec.ofChange fnExactIsHeadingSpec)

/-- ITS FALSE NEIGHBOUR: 'it returns false'. Refute it at one input. -/
def fnExactIsHeadingWrong : ChangeSpec := { name := "fnExactIsHeading", fn := fun _ => fun
  | [d] => { results := [.lit (.bool false)], args := [d] }
  | _ => none }
def FnExactIsHeadingWrongFalsely : Prop := fnExactIsHeadingRow.holds Try.pinned (OpenSpec.ofChange fnExactIsHeadingWrong)

/-- 'laws.FnExactIsHead': WHATEVER THE INPUT: true; the input reads as it did. -/
def fnExactIsHeadSpec : ChangeSpec := { name := "fnExactIsHead", fn := fun _ => fun
  | [d] => { results := [.lit (.bool true)], args := [d] }
  | _ => none }
def fnExactIsHeadRow : OpenClaim := { program := "ytippcgjoidgahaa", sum := "98f53a46c8df7a6f47bbc61ff61d560bb54e4a696f992273704ea0de6a0fbfab", func := "loop.example/g00118/laws.FnExactIsHead", spec := "fnExactIsHead", apart := false }
def FnExactIsHeadSaid : Prop := fnExactIsHeadRow.holds Try.pinned (OpenSpec.ofChange fnExactIsHeadSpec)

/-- ITS FALSE NEIGHBOUR: 'it returns false'. Refute it at one input. -/
def fnExactIsHeadWrong : ChangeSpec := { name := "fnExactIsHead", fn := fun _ => fun
  | [d] => { results := [.lit (.bool false)], args := [d] }
  | _ => none }
def FnExactIsHeadWrongFalsely : Prop := fnExactIsHeadRow.holds Try.pinned (OpenSpec.ofChange fnExactIsHeadWrong)

/-- 'laws.FnExactIsSpecial': WHATEVER THE INPUT: true; the input reads as it did. -/
def fnExactIsSpecialSpec : ChangeSpec := { name := "fnExactIsSpecial", fn := fun _ => fun
  | [d] => { results := [.lit (.bool true)], args := [d] }
  | _ => none }
def fnExactIsSpecialRow : OpenClaim := { program := "ytippcgjoidgahaa", sum := "98f53a46c8df7a6f47bbc61ff61d560bb54e4a696f992273704ea0de6a0fbfab", func := "loop.example/g00118/laws.FnExactIsSpecial", spec := "fnExactIsSpecial", apart := false }
def FnExactIsSpecialSaid : Prop := fnExactIsSpecialRow.holds Try.pinned (OpenSpec.ofChange fnExactIsSpecialSpec)

/-- ITS FALSE NEIGHBOUR: 'it returns false'. Refute it at one input. -/
def fnExactIsSpecialWrong : ChangeSpec := { name := "fnExactIsSpecial", fn := fun _ => fun
  | [d] => { results := [.lit (.bool false)], args := [d] }
  | _ => none }
def FnExactIsSpecialWrongFalsely : Prop := fnExactIsSpecialRow.holds Try.pinned (OpenSpec.ofChange fnExactIsSpecialWrong)

/-- 'laws.FnExactIsImplied': WHATEVER THE INPUT: true; the input reads as it did. -/
def fnExactIsImpliedSpec : ChangeSpec := { name := "fnExactIsImplied", fn := fun _ => fun
  | [d] => { results := [.lit (.bool true)], args := [d] }
  | _ => none }
def fnExactIsImpliedRow : OpenClaim := { program := "ytippcgjoidgahaa", sum := "98f53a46c8df7a6f47bbc61ff61d560bb54e4a696f992273704ea0de6a0fbfab", func := "loop.example/g00118/laws.FnExactIsImplied", spec := "fnExactIsImplied", apart := false }
def FnExactIsImpliedSaid : Prop := fnExactIsImpliedRow.holds Try.pinned (OpenSpec.ofChange fnExactIsImpliedSpec)

/-- ITS FALSE NEIGHBOUR: 'it returns false'. Refute it at one input. -/
def fnExactIsImpliedWrong : ChangeSpec := { name := "fnExactIsImplied", fn := fun _ => fun
  | [d] => { results := [.lit (.bool false)], args := [d] }
  | _ => none }
def FnExactIsImpliedWrongFalsely : Prop := fnExactIsImpliedRow.holds Try.pinned (OpenSpec.ofChange fnExactIsImpliedWrong)

/-- 'laws.FnExactIsBound': WHATEVER THE INPUT: true; the input reads as it did. -/
def fnExactIsBoundSpec : ChangeSpec := { name := "fnExactIsBound", fn := fun _ => fun
  | [d] => { results := [.lit (.bool true)], args := [d] }
  | _ => none }
def fnExactIsBoundRow : OpenClaim := { program := "ytippcgjoidgahaa", sum := "98f53a46c8df7a6f47bbc61ff61d560bb54e4a696f992273704ea0de6a0fbfab", func := "loop.example/g00118/laws.FnExactIsBound", spec := "fnExactIsBound", apart := false }
def FnExactIsBoundSaid : Prop := fnExactIsBoundRow.holds Try.pinned (OpenSpec.ofChange fnExactIsBoundSpec)

/-- ITS FALSE NEIGHBOUR: 'it returns false'. Refute it at one input. -/
def fnExactIsBoundWrong : ChangeSpec := { name := "fnExactIsBound", fn := fun _ => fun
  | [d] => { results := [.lit (.bool false)], args := [d] }
  | _ => none }
def FnExactIsBoundWrongFalsely : Prop := fnExactIsBoundRow.holds Try.pinned (OpenSpec.ofChange fnExactIsBoundWrong)

/- THE SECOND FORM. 'bulk': how many values and letters a reading holds, each counted each time it is reached (what is shared counts as often as it is met; a slice's spare places count too). A statement '..UptoSaid' is the law's where the arguments, and the package variables that the reading takes, are together of bulk at most 1048576: NARROWER than '..Said'. Prove '..Said' where nothing that the law and all that it calls make is longer than what came in: it says more and counts as full. Else prove '..UptoSaid'. A law counts once. -/
mutual
def uptoBulk {H : Type} : DataW H → Nat
  | .lit (.string bytes) => bytes.length + 1
  | .lit _ => 1
  | .nil => 1
  | .ptr d => uptoBulk d + 1
  | .slice elems spare => uptoBulkAll elems + uptoBulkAll spare + 1
  | .agg parts => uptoBulkAll parts + 1
  | .iface _ d => uptoBulk d + 1
  | .map entries => uptoBulkEntries entries + 1
  | .held _ => 1
def uptoBulkAll {H : Type} : List (DataW H) → Nat
  | [] => 0
  | d :: r => uptoBulk d + uptoBulkAll r
def uptoBulkEntries {H : Type} : List (Lit × DataW H) → Nat
  | [] => 0
  | x :: r => uptoBulkEntry x + uptoBulkEntries r
def uptoBulkEntry {H : Type} : Lit × DataW H → Nat
  | (.string bytes, d) => bytes.length + uptoBulk d + 1
  | (_, d) => uptoBulk d + 1
 end
def uptoSmall : (H : Type) → List (DataW H) → Bool := fun _ ds => decide (uptoBulkAll ds ≤ 1048576)
def OpenSpec.upto (s : _root_.Go.ChangeSpec) : _root_.Go.OpenSpec := { _root_.Go.OpenSpec.ofChange s with cond := some uptoSmall }

/-- 'laws.FnKinds', WHERE WHAT IT READS IS OF BULK AT MOST 1048576: true; the input reads as it did. -/
def fnKindsUptoRow : OpenClaim := { program := "ytippcgjoidgahaa", sum := "98f53a46c8df7a6f47bbc61ff61d560bb54e4a696f992273704ea0de6a0fbfab", func := "loop.example/g00118/laws.FnKinds", spec := "fnKinds", apart := false, narrowed := true }
def FnKindsUptoSaid : Prop := fnKindsUptoRow.holds Try.pinned (OpenSpec.upto fnKindsSpec)

/-- 'laws.FnExactIsFormat', WHERE WHAT IT READS IS OF BULK AT MOST 1048576: true; the input reads as it did. -/
def fnExactIsFormatUptoRow : OpenClaim := { program := "ytippcgjoidgahaa", sum := "98f53a46c8df7a6f47bbc61ff61d560bb54e4a696f992273704ea0de6a0fbfab", func := "loop.example/g00118/laws.FnExactIsFormat", spec := "fnExactIsFormat", apart := false, narrowed := true }
def FnExactIsFormatUptoSaid : Prop := fnExactIsFormatUptoRow.holds Try.pinned (OpenSpec.upto fnExactIsFormatSpec)

/-- 'laws.FnExactIsBlock', WHERE WHAT IT READS IS OF BULK AT MOST 1048576: true; the input reads as it did. -/
def fnExactIsBlockUptoRow : OpenClaim := { program := "ytippcgjoidgahaa", sum := "98f53a46c8df7a6f47bbc61ff61d560bb54e4a696f992273704ea0de6a0fbfab", func := "loop.example/g00118/laws.FnExactIsBlock", spec := "fnExactIsBlock", apart := false, narrowed := true }
def FnExactIsBlockUptoSaid : Prop := fnExactIsBlockUptoRow.holds Try.pinned (OpenSpec.upto fnExactIsBlockSpec)

/-- 'laws.FnExactIsHeading', WHERE WHAT IT READS IS OF BULK AT MOST 1048576: true; the input reads as it did. -/
def fnExactIsHeadingUptoRow : OpenClaim := { program := "ytippcgjoidgahaa", sum := "98f53a46c8df7a6f47bbc61ff61d560bb54e4a696f992273704ea0de6a0fbfab", func := "loop.example/g00118/laws.FnExactIsHeading", spec := "fnExactIsHeading", apart := false, narrowed := true }
def FnExactIsHeadingUptoSaid : Prop := fnExactIsHeadingUptoRow.holds Try.pinned (OpenSpec.upto fnExactIsHeadingSpec)

/-- 'laws.FnExactIsHead', WHERE WHAT IT READS IS OF BULK AT MOST 1048576: true; the input reads as it did. -/
def fnExactIsHeadUptoRow : OpenClaim := { program := "ytippcgjoidgahaa", sum := "98f53a46c8df7a6f47bbc61ff61d560bb54e4a696f992273704ea0de6a0fbfab", func := "loop.example/g00118/laws.FnExactIsHead", spec := "fnExactIsHead", apart := false, narrowed := true }
def FnExactIsHeadUptoSaid : Prop := fnExactIsHeadUptoRow.holds Try.pinned (OpenSpec.upto fnExactIsHeadSpec)

/-- 'laws.FnExactIsSpecial', WHERE WHAT IT READS IS OF BULK AT MOST 1048576: true; the input reads as it did. -/
def fnExactIsSpecialUptoRow : OpenClaim := { program := "ytippcgjoidgahaa", sum := "98f53a46c8df7a6f47bbc61ff61d560bb54e4a696f992273704ea0de6a0fbfab", func := "loop.example/g00118/laws.FnExactIsSpecial", spec := "fnExactIsSpecial", apart := false, narrowed := true }
def FnExactIsSpecialUptoSaid : Prop := fnExactIsSpecialUptoRow.holds Try.pinned (OpenSpec.upto fnExactIsSpecialSpec)

/-- 'laws.FnExactIsImplied', WHERE WHAT IT READS IS OF BULK AT MOST 1048576: true; the input reads as it did. -/
def fnExactIsImpliedUptoRow : OpenClaim := { program := "ytippcgjoidgahaa", sum := "98f53a46c8df7a6f47bbc61ff61d560bb54e4a696f992273704ea0de6a0fbfab", func := "loop.example/g00118/laws.FnExactIsImplied", spec := "fnExactIsImplied", apart := false, narrowed := true }
def FnExactIsImpliedUptoSaid : Prop := fnExactIsImpliedUptoRow.holds Try.pinned (OpenSpec.upto fnExactIsImpliedSpec)

/-- 'laws.FnExactIsBound', WHERE WHAT IT READS IS OF BULK AT MOST 1048576: true; the input reads as it did. -/
def fnExactIsBoundUptoRow : OpenClaim := { program := "ytippcgjoidgahaa", sum := "98f53a46c8df7a6f47bbc61ff61d560bb54e4a696f992273704ea0de6a0fbfab", func := "loop.example/g00118/laws.FnExactIsBound", spec := "fnExactIsBound", apart := false, narrowed := true }
def FnExactIsBoundUptoSaid : Prop := fnExactIsBoundUptoRow.holds Try.pinned (OpenSpec.upto fnExactIsBoundSpec)

end Rows
end Go.Proofs.Ytippcgjoidgahaa
