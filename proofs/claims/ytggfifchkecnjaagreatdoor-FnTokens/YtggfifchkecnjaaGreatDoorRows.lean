/-
  NARROWER THAN 'FOR EVERY INPUT', by the rows' own cells (each row's printed sentence says how): FnTokens: laid · FnExactTokens: laid.
  DERIVED. THE GIVEN ROWS OF THIS SEAT. 2 by the template 'for every input the law returns true; each argument reads behind the call as it read before'; 0 by the template 'total and deterministic' (their statements: YtggfifchkecnjaaGreatDoorTotals.lean).
  GIVEN WITH THE SEED: the statements are not yours to turn. If you find one false, say at which input.
  Laid BY PROGRAM, IN A SANDBOX (cutbox-rows.mjs): the forced cells as the released guide's own fill.sh prints them over the translation 0adfdcc2b801deed… (all of the seat's roots in one cut). By AI agents, Wed Nov 11 2026. No macro, syntax, notation, axiom, sorry.
-/
import Derived.Test.YtggfifchkecnjaaGreatDoorChecked
import GoSem.Claim
import GoSem.ClaimJoined
import GoSem.ClaimMapViews
import Derived.JoinedTies
import Derived.KernelRfl
namespace Go.Proofs.YtggfifchkecnjaaGreatDoor
/- THE CELL 'sum', in the pinned program and in every row, IS THE sha256 OF THE DUMP (.gsa) THAT YtggfifchkecnjaaGreatDoorProg.lean LOADS. Nothing in Lean hashes anything: it is a label: what it is worth is what the hold of that sum in a sandbox is worth. -/
noncomputable def Tryz.pinned : Pinned := { name := "ytggfifchkecnjaagreatdoor", sum := "0adfdcc2b801deedd7b2ec5de4b8351ac4931065987d84280d5c96be5687c544", checked := Tryz.checked }
namespace Rows
def none {H : Type} : Left H := { results := [], args := [] }

/- WHAT THE LISTED PACKAGE-LEVEL VARIABLES READ AS WHEN THE CALL BEGINS. Each datum BY PROGRAM (the guide's laid-datum.mjs) off the statement by which the dump's own 'gosem.cut.vars' lays the variable. In a bare row this is a premise. The card (YtggfifchkecnjaaGreatDoorCards.lean) ties it to the program's text. -/
def laid_loop_example_g00118_impl_olderPoints {H : Type} : DataW H := .agg [.lit (.int .i64 8364), .lit (.int .i64 129), .lit (.int .i64 8218), .lit (.int .i64 402), .lit (.int .i64 8222), .lit (.int .i64 8230), .lit (.int .i64 8224), .lit (.int .i64 8225), .lit (.int .i64 710), .lit (.int .i64 8240), .lit (.int .i64 352), .lit (.int .i64 8249), .lit (.int .i64 338), .lit (.int .i64 141), .lit (.int .i64 381), .lit (.int .i64 143), .lit (.int .i64 144), .lit (.int .i64 8216), .lit (.int .i64 8217), .lit (.int .i64 8220), .lit (.int .i64 8221), .lit (.int .i64 8226), .lit (.int .i64 8211), .lit (.int .i64 8212), .lit (.int .i64 732), .lit (.int .i64 8482), .lit (.int .i64 353), .lit (.int .i64 8250), .lit (.int .i64 339), .lit (.int .i64 157), .lit (.int .i64 382), .lit (.int .i64 376)]

/-- 'laws.FnTokens': WHATEVER THE INPUT: true; the input reads as it did. -/
def fnTokensSpec : ChangeSpec := { name := "fnTokens", vars := ["loop.example/g00118/impl.olderPoints"], fn := fun _ => fun
  | [d, g1] => { results := [.lit (.bool true)], args := [d], vars := [g1] }
  | _ => none }
def fnTokensRow : OpenClaim := { program := "ytggfifchkecnjaagreatdoor", sum := "0adfdcc2b801deedd7b2ec5de4b8351ac4931065987d84280d5c96be5687c544", func := "loop.example/g00118/laws.FnTokens", spec := "fnTokens", unfollowed := true, recurses := true, named := ["loop.example/g00118/impl.olderPoints"], apart := false, laid := [("loop.example/g00118/impl.olderPoints", laid_loop_example_g00118_impl_olderPoints)] }
def FnTokensSaid : Prop := fnTokensRow.holds Tryz.pinned (OpenSpec.ofChange fnTokensSpec)

/-- ITS FALSE NEIGHBOUR: 'it returns false'. Refute it at one input. -/
def fnTokensWrong : ChangeSpec := { name := "fnTokens", vars := ["loop.example/g00118/impl.olderPoints"], fn := fun _ => fun
  | [d, g1] => { results := [.lit (.bool false)], args := [d], vars := [g1] }
  | _ => none }
def FnTokensWrongFalsely : Prop := fnTokensRow.holds Tryz.pinned (OpenSpec.ofChange fnTokensWrong)

/-- 'laws.FnExactTokens': WHATEVER THE INPUT: true; the input reads as it did. -/
def fnExactTokensSpec : ChangeSpec := { name := "fnExactTokens", vars := ["loop.example/g00118/impl.olderPoints"], fn := fun _ => fun
  | [d, g1] => { results := [.lit (.bool true)], args := [d], vars := [g1] }
  | _ => none }
def fnExactTokensRow : OpenClaim := { program := "ytggfifchkecnjaagreatdoor", sum := "0adfdcc2b801deedd7b2ec5de4b8351ac4931065987d84280d5c96be5687c544", func := "loop.example/g00118/laws.FnExactTokens", spec := "fnExactTokens", unfollowed := true, recurses := true, named := ["loop.example/g00118/impl.olderPoints"], apart := false, laid := [("loop.example/g00118/impl.olderPoints", laid_loop_example_g00118_impl_olderPoints)] }
def FnExactTokensSaid : Prop := fnExactTokensRow.holds Tryz.pinned (OpenSpec.ofChange fnExactTokensSpec)

/-- ITS FALSE NEIGHBOUR: 'it returns false'. Refute it at one input. -/
def fnExactTokensWrong : ChangeSpec := { name := "fnExactTokens", vars := ["loop.example/g00118/impl.olderPoints"], fn := fun _ => fun
  | [d, g1] => { results := [.lit (.bool false)], args := [d], vars := [g1] }
  | _ => none }
def FnExactTokensWrongFalsely : Prop := fnExactTokensRow.holds Tryz.pinned (OpenSpec.ofChange fnExactTokensWrong)

/- THE SECOND FORM. 'bulk': how many values and letters a reading holds, each counted each time it is reached (what is shared counts as often as it is met; a slice's spare places count too). A statement '..UptoSaid' is the law's where the arguments, and the package variables that the reading takes, are together of bulk at most 1048576: NARROWER than '..Said'. Prove '..Said' where nothing that the law and all that it calls make is longer than what came in: it says more and counts as full. Else prove '..UptoSaid'. A law counts once. -/
mutual
def uptoBulk {H : Type} : DataW H → Nat
  | .lit (.string bytes) => bytes.length + 1
  | .lit _ => 1
  | .nil => 1
  | .ptr d => uptoBulk d + 1
  | .slice elems spare => uptoBulkAll elems + uptoBulkAll spare + 1
  | .agg parts => uptoBulkAll parts + 1
  | .iface _ d => uptoBulk d + 1
  | .map entries => uptoBulkEntries entries + 1
  | .held _ => 1
def uptoBulkAll {H : Type} : List (DataW H) → Nat
  | [] => 0
  | d :: r => uptoBulk d + uptoBulkAll r
def uptoBulkEntries {H : Type} : List (Lit × DataW H) → Nat
  | [] => 0
  | x :: r => uptoBulkEntry x + uptoBulkEntries r
def uptoBulkEntry {H : Type} : Lit × DataW H → Nat
  | (.string bytes, d) => bytes.length + uptoBulk d + 1
  | (_, d) => uptoBulk d + 1
 end
def uptoSmall : (H : Type) → List (DataW H) → Bool := fun _ ds => decide (uptoBulkAll ds ≤ 1048576)
def OpenSpec.upto (s : _root_.Go.ChangeSpec) : _root_.Go.OpenSpec := { _root_.Go.OpenSpec.ofChange s with cond := some uptoSmall }

/-- 'laws.FnTokens', WHERE WHAT IT READS IS OF BULK AT MOST 1048576: true; the input reads as it did. -/
def fnTokensUptoRow : OpenClaim := { program := "ytggfifchkecnjaagreatdoor", sum := "0adfdcc2b801deedd7b2ec5de4b8351ac4931065987d84280d5c96be5687c544", func := "loop.example/g00118/laws.FnTokens", spec := "fnTokens", unfollowed := true, recurses := true, named := ["loop.example/g00118/impl.olderPoints"], apart := false, laid := [("loop.example/g00118/impl.olderPoints", laid_loop_example_g00118_impl_olderPoints)], narrowed := true }
def FnTokensUptoSaid : Prop := fnTokensUptoRow.holds Tryz.pinned (OpenSpec.upto fnTokensSpec)

/-- 'laws.FnExactTokens', WHERE WHAT IT READS IS OF BULK AT MOST 1048576: true; the input reads as it did. -/
def fnExactTokensUptoRow : OpenClaim := { program := "ytggfifchkecnjaagreatdoor", sum := "0adfdcc2b801deedd7b2ec5de4b8351ac4931065987d84280d5c96be5687c544", func := "loop.example/g00118/laws.FnExactTokens", spec := "fnExactTokens", unfollowed := true, recurses := true, named := ["loop.example/g00118/impl.olderPoints"], apart := false, laid := [("loop.example/g00118/impl.olderPoints", laid_loop_example_g00118_impl_olderPoints)], narrowed := true }
def FnExactTokensUptoSaid : Prop := fnExactTokensUptoRow.holds Tryz.pinned (OpenSpec.upto fnExactTokensSpec)

end Rows
end Go.Proofs.YtggfifchkecnjaaGreatDoor
