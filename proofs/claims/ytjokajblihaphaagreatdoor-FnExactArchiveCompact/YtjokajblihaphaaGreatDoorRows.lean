/-
  NARROWER THAN 'FOR EVERY INPUT', by the rows' own cells (each row's printed sentence says how): FnExactArchiveDrop: ifaces, laid · FnExactArchiveCompact: ifaces, laid.
  DERIVED. THE GIVEN ROWS OF THIS SEAT. 2 by the template 'for every input the law returns true; each argument reads behind the call as it read before'; 0 by the template 'total and deterministic' (their statements: YtjokajblihaphaaGreatDoorTotals.lean).
  GIVEN WITH THE SEED: the statements are not yours to turn. If you find one false, say at which input.
  Laid BY PROGRAM, IN A SANDBOX (cutbox-rows.mjs): the forced cells as the released guide's own fill.sh prints them over the translation a491d156d2042b39… (all of the seat's roots in one cut). By AI agents, Wed Nov 11 2026. No macro, syntax, notation, axiom, sorry.
-/
import Derived.Test.YtjokajblihaphaaGreatDoorChecked
import GoSem.Claim
import GoSem.ClaimJoined
import GoSem.ClaimMapViews
import Derived.JoinedTies
import Derived.KernelRfl
namespace Go.Proofs.YtjokajblihaphaaGreatDoor
/- THE CELL 'sum', in the pinned program and in every row, IS THE sha256 OF THE DUMP (.gsa) THAT YtjokajblihaphaaGreatDoorProg.lean LOADS. Nothing in Lean hashes anything: it is a label: what it is worth is what the hold of that sum in a sandbox is worth. -/
noncomputable def Tryz.pinned : Pinned := { name := "ytjokajblihaphaagreatdoor", sum := "a491d156d2042b398602454452ce1f02875c089254501aaeca6746a04818ba85", checked := Tryz.checked }
namespace Rows
def none {H : Type} : Left H := { results := [], args := [] }

/- WHAT THE LISTED PACKAGE-LEVEL VARIABLES READ AS WHEN THE CALL BEGINS. Each datum BY PROGRAM (the guide's laid-datum.mjs) off the statement by which the dump's own 'gosem.cut.vars' lays the variable. In a bare row this is a premise. The card (YtjokajblihaphaaGreatDoorCards.lean) ties it to the program's text. -/
def laid_loop_example_g00118_impl_errNoHead {H : Type} : DataW H := .iface "*errors.errorString" (.ptr (.agg [.lit (.string [110, 111, 32, 104, 101, 97, 100, 32, 115, 101, 99, 116, 111, 114])]))

/-- 'laws.FnExactArchiveDrop': WHATEVER THE INPUT: true; the input reads as it did. -/
def fnExactArchiveDropSpec : ChangeSpec := { name := "fnExactArchiveDrop", vars := ["loop.example/g00118/impl.errNoHead"], fn := fun _ => fun
  | [d1, d2, g1] => { results := [.lit (.bool true)], args := [d1, d2], vars := [g1] }
  | _ => none }
def fnExactArchiveDropRow : OpenClaim := { program := "ytjokajblihaphaagreatdoor", sum := "a491d156d2042b398602454452ce1f02875c089254501aaeca6746a04818ba85", func := "loop.example/g00118/laws.FnExactArchiveDrop", spec := "fnExactArchiveDrop", inPlace := ["internal/reflectlite.TypeOf", "sync/atomic.StoreInt64", "sync/atomic.AddInt64", "sync/atomic.LoadInt64", "(*internal/sync.Mutex).Lock", "internal/race.Disable", "sync/atomic.CompareAndSwapInt32", "internal/race.Enable", "internal/race.Acquire", "(*internal/sync.Mutex).lockSlow", "internal/sync.runtime_canSpin", "internal/sync.runtime_doSpin", "internal/sync.throw", "internal/sync.runtime_nanotime", "internal/sync.runtime_SemacquireMutex", "sync/atomic.AddInt32", "(*internal/sync.Mutex).Unlock", "internal/race.ReleaseMerge", "(*internal/sync.Mutex).unlockSlow", "internal/sync.fatal", "internal/sync.runtime_Semrelease"], unfollowed := true, recurses := true, named := ["loop.example/g00118/impl.errNoHead"], ifaces := true, apart := false, laid := [("loop.example/g00118/impl.errNoHead", laid_loop_example_g00118_impl_errNoHead)] }
def FnExactArchiveDropSaid : Prop := fnExactArchiveDropRow.holds Tryz.pinned (OpenSpec.ofChange fnExactArchiveDropSpec)

/-- ITS FALSE NEIGHBOUR: 'it returns false'. Refute it at one input. -/
def fnExactArchiveDropWrong : ChangeSpec := { name := "fnExactArchiveDrop", vars := ["loop.example/g00118/impl.errNoHead"], fn := fun _ => fun
  | [d1, d2, g1] => { results := [.lit (.bool false)], args := [d1, d2], vars := [g1] }
  | _ => none }
def FnExactArchiveDropWrongFalsely : Prop := fnExactArchiveDropRow.holds Tryz.pinned (OpenSpec.ofChange fnExactArchiveDropWrong)

/-- 'laws.FnExactArchiveCompact': WHATEVER THE INPUT: true; the input reads as it did. -/
def fnExactArchiveCompactSpec : ChangeSpec := { name := "fnExactArchiveCompact", vars := ["loop.example/g00118/impl.errNoHead"], fn := fun _ => fun
  | [d, g1] => { results := [.lit (.bool true)], args := [d], vars := [g1] }
  | _ => none }
def fnExactArchiveCompactRow : OpenClaim := { program := "ytjokajblihaphaagreatdoor", sum := "a491d156d2042b398602454452ce1f02875c089254501aaeca6746a04818ba85", func := "loop.example/g00118/laws.FnExactArchiveCompact", spec := "fnExactArchiveCompact", inPlace := ["internal/reflectlite.TypeOf", "sync/atomic.StoreInt64", "sync/atomic.AddInt64", "sync/atomic.LoadInt64", "(*internal/sync.Mutex).Lock", "internal/race.Disable", "sync/atomic.CompareAndSwapInt32", "internal/race.Enable", "internal/race.Acquire", "(*internal/sync.Mutex).lockSlow", "internal/sync.runtime_canSpin", "internal/sync.runtime_doSpin", "internal/sync.throw", "internal/sync.runtime_nanotime", "internal/sync.runtime_SemacquireMutex", "sync/atomic.AddInt32", "(*internal/sync.Mutex).Unlock", "internal/race.ReleaseMerge", "(*internal/sync.Mutex).unlockSlow", "internal/sync.fatal", "internal/sync.runtime_Semrelease"], unfollowed := true, recurses := true, named := ["loop.example/g00118/impl.errNoHead"], ifaces := true, apart := false, laid := [("loop.example/g00118/impl.errNoHead", laid_loop_example_g00118_impl_errNoHead)] }
def FnExactArchiveCompactSaid : Prop := fnExactArchiveCompactRow.holds Tryz.pinned (OpenSpec.ofChange fnExactArchiveCompactSpec)

/-- ITS FALSE NEIGHBOUR: 'it returns false'. Refute it at one input. -/
def fnExactArchiveCompactWrong : ChangeSpec := { name := "fnExactArchiveCompact", vars := ["loop.example/g00118/impl.errNoHead"], fn := fun _ => fun
  | [d, g1] => { results := [.lit (.bool false)], args := [d], vars := [g1] }
  | _ => none }
def FnExactArchiveCompactWrongFalsely : Prop := fnExactArchiveCompactRow.holds Tryz.pinned (OpenSpec.ofChange fnExactArchiveCompactWrong)

/- THE SECOND FORM. 'bulk': how many values and letters a reading holds, each counted each time it is reached (what is shared counts as often as it is met; a slice's spare places count too). A statement '..UptoSaid' is the law's where the arguments, and the package variables that the reading takes, are together of bulk at most 1048576: NARROWER than '..Said'. Prove '..Said' where nothing that the law and all that it calls make is longer than what came in: it says more and counts as full. Else prove '..UptoSaid'. A law counts once. -/
mutual
def uptoBulk {H : Type} : DataW H → Nat
  | .lit (.string bytes) => bytes.length + 1
  | .lit _ => 1
  | .nil => 1
  | .ptr d => uptoBulk d + 1
  | .slice elems spare => uptoBulkAll elems + uptoBulkAll spare + 1
  | .agg parts => uptoBulkAll parts + 1
  | .iface _ d => uptoBulk d + 1
  | .map entries => uptoBulkEntries entries + 1
  | .held _ => 1
def uptoBulkAll {H : Type} : List (DataW H) → Nat
  | [] => 0
  | d :: r => uptoBulk d + uptoBulkAll r
def uptoBulkEntries {H : Type} : List (Lit × DataW H) → Nat
  | [] => 0
  | x :: r => uptoBulkEntry x + uptoBulkEntries r
def uptoBulkEntry {H : Type} : Lit × DataW H → Nat
  | (.string bytes, d) => bytes.length + uptoBulk d + 1
  | (_, d) => uptoBulk d + 1
 end
def uptoSmall : (H : Type) → List (DataW H) → Bool := fun _ ds => decide (uptoBulkAll ds ≤ 1048576)
def OpenSpec.upto (s : _root_.Go.ChangeSpec) : _root_.Go.OpenSpec := { _root_.Go.OpenSpec.ofChange s with cond := some uptoSmall }

/-- 'laws.FnExactArchiveDrop', WHERE WHAT IT READS IS OF BULK AT MOST 1048576: true; the input reads as it did. -/
def fnExactArchiveDropUptoRow : OpenClaim := { program := "ytjokajblihaphaagreatdoor", sum := "a491d156d2042b398602454452ce1f02875c089254501aaeca6746a04818ba85", func := "loop.example/g00118/laws.FnExactArchiveDrop", spec := "fnExactArchiveDrop", inPlace := ["internal/reflectlite.TypeOf", "sync/atomic.StoreInt64", "sync/atomic.AddInt64", "sync/atomic.LoadInt64", "(*internal/sync.Mutex).Lock", "internal/race.Disable", "sync/atomic.CompareAndSwapInt32", "internal/race.Enable", "internal/race.Acquire", "(*internal/sync.Mutex).lockSlow", "internal/sync.runtime_canSpin", "internal/sync.runtime_doSpin", "internal/sync.throw", "internal/sync.runtime_nanotime", "internal/sync.runtime_SemacquireMutex", "sync/atomic.AddInt32", "(*internal/sync.Mutex).Unlock", "internal/race.ReleaseMerge", "(*internal/sync.Mutex).unlockSlow", "internal/sync.fatal", "internal/sync.runtime_Semrelease"], unfollowed := true, recurses := true, named := ["loop.example/g00118/impl.errNoHead"], ifaces := true, apart := false, laid := [("loop.example/g00118/impl.errNoHead", laid_loop_example_g00118_impl_errNoHead)], narrowed := true }
def FnExactArchiveDropUptoSaid : Prop := fnExactArchiveDropUptoRow.holds Tryz.pinned (OpenSpec.upto fnExactArchiveDropSpec)

/-- 'laws.FnExactArchiveCompact', WHERE WHAT IT READS IS OF BULK AT MOST 1048576: true; the input reads as it did. -/
def fnExactArchiveCompactUptoRow : OpenClaim := { program := "ytjokajblihaphaagreatdoor", sum := "a491d156d2042b398602454452ce1f02875c089254501aaeca6746a04818ba85", func := "loop.example/g00118/laws.FnExactArchiveCompact", spec := "fnExactArchiveCompact", inPlace := ["internal/reflectlite.TypeOf", "sync/atomic.StoreInt64", "sync/atomic.AddInt64", "sync/atomic.LoadInt64", "(*internal/sync.Mutex).Lock", "internal/race.Disable", "sync/atomic.CompareAndSwapInt32", "internal/race.Enable", "internal/race.Acquire", "(*internal/sync.Mutex).lockSlow", "internal/sync.runtime_canSpin", "internal/sync.runtime_doSpin", "internal/sync.throw", "internal/sync.runtime_nanotime", "internal/sync.runtime_SemacquireMutex", "sync/atomic.AddInt32", "(*internal/sync.Mutex).Unlock", "internal/race.ReleaseMerge", "(*internal/sync.Mutex).unlockSlow", "internal/sync.fatal", "internal/sync.runtime_Semrelease"], unfollowed := true, recurses := true, named := ["loop.example/g00118/impl.errNoHead"], ifaces := true, apart := false, laid := [("loop.example/g00118/impl.errNoHead", laid_loop_example_g00118_impl_errNoHead)], narrowed := true }
def FnExactArchiveCompactUptoSaid : Prop := fnExactArchiveCompactUptoRow.holds Tryz.pinned (OpenSpec.upto fnExactArchiveCompactSpec)

end Rows
end Go.Proofs.YtjokajblihaphaaGreatDoor
