/-
  NARROWER THAN 'FOR EVERY INPUT', by the rows' own cells (each row's printed sentence says how): FnHeads: ifaces, laid · FnAreas: ifaces, laid · FnExactHeadRead: ifaces, laid · FnExactHeadNow: ifaces, laid.
  DERIVED. THE GIVEN ROWS OF THIS SEAT. 4 by the template 'for every input the law returns true; each argument reads behind the call as it read before'; 0 by the template 'total and deterministic' (their statements: YtiejfnnokfedkaaDoorTotals.lean).
  GIVEN WITH THE SEED: the statements are not yours to turn. If you find one false, say at which input.
  Laid BY PROGRAM, IN A SANDBOX (cutbox-rows.mjs): the forced cells as the released guide's own fill.sh prints them over the translation 1eea12349c330146… (all of the seat's roots in one cut). By AI agents, Wed Nov 11 2026. No macro, syntax, notation, axiom, sorry.
-/
import Derived.Test.YtiejfnnokfedkaaDoorChecked
import GoSem.Claim
import GoSem.ClaimJoined
import GoSem.ClaimMapViews
import Derived.JoinedTies
import Derived.KernelRfl
namespace Go.Proofs.YtiejfnnokfedkaaDoor
/- THE CELL 'sum', in the pinned program and in every row, IS THE sha256 OF THE DUMP (.gsa) THAT YtiejfnnokfedkaaDoorProg.lean LOADS. Nothing in Lean hashes anything: it is a label: what it is worth is what the hold of that sum in a sandbox is worth. -/
noncomputable def Tryd.pinned : Pinned := { name := "ytiejfnnokfedkaadoor", sum := "1eea12349c33014623ab2d67d4beb68f7c031f744495c910e920afbaed2ddcff", checked := Tryd.checked }
namespace Rows
def none {H : Type} : Left H := { results := [], args := [] }

/- WHAT THE LISTED PACKAGE-LEVEL VARIABLES READ AS WHEN THE CALL BEGINS. Each datum BY PROGRAM (the guide's laid-datum.mjs) off the statement by which the dump's own 'gosem.cut.vars' lays the variable. In a bare row this is a premise. The card (YtiejfnnokfedkaaDoorCards.lean) ties it to the program's text. -/
def laid_loop_example_g00118_impl_errNoHead {H : Type} : DataW H := .iface "*errors.errorString" (.ptr (.agg [.lit (.string [110, 111, 32, 104, 101, 97, 100, 32, 115, 101, 99, 116, 111, 114])]))

/-- 'laws.FnHeads': WHATEVER THE INPUT: true; the input reads as it did. -/
def fnHeadsSpec : ChangeSpec := { name := "fnHeads", vars := ["loop.example/g00118/impl.errNoHead"], fn := fun _ => fun
  | [d, g1] => { results := [.lit (.bool true)], args := [d], vars := [g1] }
  | _ => none }
def fnHeadsRow : OpenClaim := { program := "ytiejfnnokfedkaadoor", sum := "1eea12349c33014623ab2d67d4beb68f7c031f744495c910e920afbaed2ddcff", func := "loop.example/g00118/laws.FnHeads", spec := "fnHeads", inPlace := ["internal/reflectlite.TypeOf"], unfollowed := true, recurses := true, named := ["loop.example/g00118/impl.errNoHead"], ifaces := true, apart := false, laid := [("loop.example/g00118/impl.errNoHead", laid_loop_example_g00118_impl_errNoHead)] }
def FnHeadsSaid : Prop := fnHeadsRow.holds Tryd.pinned (OpenSpec.ofChange fnHeadsSpec)

/-- ITS FALSE NEIGHBOUR: 'it returns false'. Refute it at one input. -/
def fnHeadsWrong : ChangeSpec := { name := "fnHeads", vars := ["loop.example/g00118/impl.errNoHead"], fn := fun _ => fun
  | [d, g1] => { results := [.lit (.bool false)], args := [d], vars := [g1] }
  | _ => none }
def FnHeadsWrongFalsely : Prop := fnHeadsRow.holds Tryd.pinned (OpenSpec.ofChange fnHeadsWrong)

/-- 'laws.FnAreas': WHATEVER THE INPUT: true; the input reads as it did. -/
def fnAreasSpec : ChangeSpec := { name := "fnAreas", vars := ["loop.example/g00118/impl.errNoHead"], fn := fun _ => fun
  | [d, g1] => { results := [.lit (.bool true)], args := [d], vars := [g1] }
  | _ => none }
def fnAreasRow : OpenClaim := { program := "ytiejfnnokfedkaadoor", sum := "1eea12349c33014623ab2d67d4beb68f7c031f744495c910e920afbaed2ddcff", func := "loop.example/g00118/laws.FnAreas", spec := "fnAreas", inPlace := ["internal/reflectlite.TypeOf"], unfollowed := true, recurses := true, named := ["loop.example/g00118/impl.errNoHead"], ifaces := true, apart := false, laid := [("loop.example/g00118/impl.errNoHead", laid_loop_example_g00118_impl_errNoHead)] }
def FnAreasSaid : Prop := fnAreasRow.holds Tryd.pinned (OpenSpec.ofChange fnAreasSpec)

/-- ITS FALSE NEIGHBOUR: 'it returns false'. Refute it at one input. -/
def fnAreasWrong : ChangeSpec := { name := "fnAreas", vars := ["loop.example/g00118/impl.errNoHead"], fn := fun _ => fun
  | [d, g1] => { results := [.lit (.bool false)], args := [d], vars := [g1] }
  | _ => none }
def FnAreasWrongFalsely : Prop := fnAreasRow.holds Tryd.pinned (OpenSpec.ofChange fnAreasWrong)

/-- 'laws.FnExactHeadRead': WHATEVER THE INPUT: true; the input reads as it did. -/
def fnExactHeadReadSpec : ChangeSpec := { name := "fnExactHeadRead", vars := ["loop.example/g00118/impl.errNoHead"], fn := fun _ => fun
  | [d, g1] => { results := [.lit (.bool true)], args := [d], vars := [g1] }
  | _ => none }
def fnExactHeadReadRow : OpenClaim := { program := "ytiejfnnokfedkaadoor", sum := "1eea12349c33014623ab2d67d4beb68f7c031f744495c910e920afbaed2ddcff", func := "loop.example/g00118/laws.FnExactHeadRead", spec := "fnExactHeadRead", inPlace := ["internal/reflectlite.TypeOf"], unfollowed := true, recurses := true, named := ["loop.example/g00118/impl.errNoHead"], ifaces := true, apart := false, laid := [("loop.example/g00118/impl.errNoHead", laid_loop_example_g00118_impl_errNoHead)] }
def FnExactHeadReadSaid : Prop := fnExactHeadReadRow.holds Tryd.pinned (OpenSpec.ofChange fnExactHeadReadSpec)

/-- ITS FALSE NEIGHBOUR: 'it returns false'. Refute it at one input. -/
def fnExactHeadReadWrong : ChangeSpec := { name := "fnExactHeadRead", vars := ["loop.example/g00118/impl.errNoHead"], fn := fun _ => fun
  | [d, g1] => { results := [.lit (.bool false)], args := [d], vars := [g1] }
  | _ => none }
def FnExactHeadReadWrongFalsely : Prop := fnExactHeadReadRow.holds Tryd.pinned (OpenSpec.ofChange fnExactHeadReadWrong)

/-- 'laws.FnExactHeadNow': WHATEVER THE INPUT: true; the input reads as it did. -/
def fnExactHeadNowSpec : ChangeSpec := { name := "fnExactHeadNow", vars := ["loop.example/g00118/impl.errNoHead"], fn := fun _ => fun
  | [d, g1] => { results := [.lit (.bool true)], args := [d], vars := [g1] }
  | _ => none }
def fnExactHeadNowRow : OpenClaim := { program := "ytiejfnnokfedkaadoor", sum := "1eea12349c33014623ab2d67d4beb68f7c031f744495c910e920afbaed2ddcff", func := "loop.example/g00118/laws.FnExactHeadNow", spec := "fnExactHeadNow", inPlace := ["internal/reflectlite.TypeOf"], unfollowed := true, recurses := true, named := ["loop.example/g00118/impl.errNoHead"], ifaces := true, apart := false, laid := [("loop.example/g00118/impl.errNoHead", laid_loop_example_g00118_impl_errNoHead)] }
def FnExactHeadNowSaid : Prop := fnExactHeadNowRow.holds Tryd.pinned (OpenSpec.ofChange fnExactHeadNowSpec)

/-- ITS FALSE NEIGHBOUR: 'it returns false'. Refute it at one input. -/
def fnExactHeadNowWrong : ChangeSpec := { name := "fnExactHeadNow", vars := ["loop.example/g00118/impl.errNoHead"], fn := fun _ => fun
  | [d, g1] => { results := [.lit (.bool false)], args := [d], vars := [g1] }
  | _ => none }
def FnExactHeadNowWrongFalsely : Prop := fnExactHeadNowRow.holds Tryd.pinned (OpenSpec.ofChange fnExactHeadNowWrong)

/- THE SECOND FORM. 'bulk': how many values and letters a reading holds, each counted each time it is reached (what is shared counts as often as it is met; a slice's spare places count too). A statement '..UptoSaid' is the law's where the arguments, and the package variables that the reading takes, are together of bulk at most 1048576: NARROWER than '..Said'. Prove '..Said' where nothing that the law and all that it calls make is longer than what came in: it says more and counts as full. Else prove '..UptoSaid'. A law counts once. -/
mutual
def uptoBulk {H : Type} : DataW H → Nat
  | .lit (.string bytes) => bytes.length + 1
  | .lit _ => 1
  | .nil => 1
  | .ptr d => uptoBulk d + 1
  | .slice elems spare => uptoBulkAll elems + uptoBulkAll spare + 1
  | .agg parts => uptoBulkAll parts + 1
  | .iface _ d => uptoBulk d + 1
  | .map entries => uptoBulkEntries entries + 1
  | .held _ => 1
def uptoBulkAll {H : Type} : List (DataW H) → Nat
  | [] => 0
  | d :: r => uptoBulk d + uptoBulkAll r
def uptoBulkEntries {H : Type} : List (Lit × DataW H) → Nat
  | [] => 0
  | x :: r => uptoBulkEntry x + uptoBulkEntries r
def uptoBulkEntry {H : Type} : Lit × DataW H → Nat
  | (.string bytes, d) => bytes.length + uptoBulk d + 1
  | (_, d) => uptoBulk d + 1
 end
def uptoSmall : (H : Type) → List (DataW H) → Bool := fun _ ds => decide (uptoBulkAll ds ≤ 1048576)
def OpenSpec.upto (s : _root_.Go.ChangeSpec) : _root_.Go.OpenSpec := { _root_.Go.OpenSpec.ofChange s with cond := some uptoSmall }

/-- 'laws.FnHeads', WHERE WHAT IT READS IS OF BULK AT MOST 1048576: true; the input reads as it did. -/
def fnHeadsUptoRow : OpenClaim := { program := "ytiejfnnokfedkaadoor", sum := "1eea12349c33014623ab2d67d4beb68f7c031f744495c910e920afbaed2ddcff", func := "loop.example/g00118/laws.FnHeads", spec := "fnHeads", inPlace := ["internal/reflectlite.TypeOf"], unfollowed := true, recurses := true, named := ["loop.example/g00118/impl.errNoHead"], ifaces := true, apart := false, laid := [("loop.example/g00118/impl.errNoHead", laid_loop_example_g00118_impl_errNoHead)], narrowed := true }
def FnHeadsUptoSaid : Prop := fnHeadsUptoRow.holds Tryd.pinned (OpenSpec.upto fnHeadsSpec)

/-- 'laws.FnAreas', WHERE WHAT IT READS IS OF BULK AT MOST 1048576: true; the input reads as it did. -/
def fnAreasUptoRow : OpenClaim := { program := "ytiejfnnokfedkaadoor", sum := "1eea12349c33014623ab2d67d4beb68f7c031f744495c910e920afbaed2ddcff", func := "loop.example/g00118/laws.FnAreas", spec := "fnAreas", inPlace := ["internal/reflectlite.TypeOf"], unfollowed := true, recurses := true, named := ["loop.example/g00118/impl.errNoHead"], ifaces := true, apart := false, laid := [("loop.example/g00118/impl.errNoHead", laid_loop_example_g00118_impl_errNoHead)], narrowed := true }
def FnAreasUptoSaid : Prop := fnAreasUptoRow.holds Tryd.pinned (OpenSpec.upto fnAreasSpec)

/-- 'laws.FnExactHeadRead', WHERE WHAT IT READS IS OF BULK AT MOST 1048576: true; the input reads as it did. -/
def fnExactHeadReadUptoRow : OpenClaim := { program := "ytiejfnnokfedkaadoor", sum := "1eea12349c33014623ab2d67d4beb68f7c031f744495c910e920afbaed2ddcff", func := "loop.example/g00118/laws.FnExactHeadRead", spec := "fnExactHeadRead", inPlace := ["internal/reflectlite.TypeOf"], unfollowed := true, recurses := true, named := ["loop.example/g00118/impl.errNoHead"], ifaces := true, apart := false, laid := [("loop.example/g00118/impl.errNoHead", laid_loop_example_g00118_impl_errNoHead)], narrowed := true }
def FnExactHeadReadUptoSaid : Prop := fnExactHeadReadUptoRow.holds Tryd.pinned (OpenSpec.upto fnExactHeadReadSpec)

/-- 'laws.FnExactHeadNow', WHERE WHAT IT READS IS OF BULK AT MOST 1048576: true; the input reads as it did. -/
def fnExactHeadNowUptoRow : OpenClaim := { program := "ytiejfnnokfedkaadoor", sum := "1eea12349c33014623ab2d67d4beb68f7c031f744495c910e920afbaed2ddcff", func := "loop.example/g00118/laws.FnExactHeadNow", spec := "fnExactHeadNow", inPlace := ["internal/reflectlite.TypeOf"], unfollowed := true, recurses := true, named := ["loop.example/g00118/impl.errNoHead"], ifaces := true, apart := false, laid := [("loop.example/g00118/impl.errNoHead", laid_loop_example_g00118_impl_errNoHead)], narrowed := true }
def FnExactHeadNowUptoSaid : Prop := fnExactHeadNowUptoRow.holds Tryd.pinned (OpenSpec.upto fnExactHeadNowSpec)

end Rows
end Go.Proofs.YtiejfnnokfedkaaDoor
