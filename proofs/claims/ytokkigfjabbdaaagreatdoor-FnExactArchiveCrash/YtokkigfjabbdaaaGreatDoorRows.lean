/-
  NARROWER THAN 'FOR EVERY INPUT', by the rows' own cells (each row's printed sentence says how): FnExactArchiveOk: ifaces, laid · FnExactArchiveUrls: ifaces, laid · FnExactArchiveCrash: ifaces, laid · FnExactArchiveOpen: ifaces, laid.
  DERIVED. THE GIVEN ROWS OF THIS SEAT. 4 by the template 'for every input the law returns true; each argument reads behind the call as it read before'; 0 by the template 'total and deterministic' (their statements: YtokkigfjabbdaaaGreatDoorTotals.lean).
  GIVEN WITH THE SEED: the statements are not yours to turn. If you find one false, say at which input.
  Laid BY PROGRAM, IN A SANDBOX (cutbox-rows.mjs): the forced cells as the released guide's own fill.sh prints them over the translation d7acf5d79f895af8… (all of the seat's roots in one cut). By AI agents, Wed Nov 11 2026. No macro, syntax, notation, axiom, sorry.
-/
import Derived.Test.YtokkigfjabbdaaaGreatDoorChecked
import GoSem.Claim
import GoSem.ClaimJoined
import GoSem.ClaimMapViews
import Derived.JoinedTies
import Derived.KernelRfl
namespace Go.Proofs.YtokkigfjabbdaaaGreatDoor
/- THE CELL 'sum', in the pinned program and in every row, IS THE sha256 OF THE DUMP (.gsa) THAT YtokkigfjabbdaaaGreatDoorProg.lean LOADS. Nothing in Lean hashes anything: it is a label: what it is worth is what the hold of that sum in a sandbox is worth. -/
noncomputable def Tryz.pinned : Pinned := { name := "ytokkigfjabbdaaagreatdoor", sum := "d7acf5d79f895af8d6bdbb4c1a8ed3820fa5e4184d4af80b457efa36f052f9ff", checked := Tryz.checked }
namespace Rows
def none {H : Type} : Left H := { results := [], args := [] }

/- WHAT THE LISTED PACKAGE-LEVEL VARIABLES READ AS WHEN THE CALL BEGINS. Each datum BY PROGRAM (the guide's laid-datum.mjs) off the statement by which the dump's own 'gosem.cut.vars' lays the variable. In a bare row this is a premise. The card (YtokkigfjabbdaaaGreatDoorCards.lean) ties it to the program's text. -/
def laid_loop_example_g00118_impl_errNoHead {H : Type} : DataW H := .iface "*errors.errorString" (.ptr (.agg [.lit (.string [110, 111, 32, 104, 101, 97, 100, 32, 115, 101, 99, 116, 111, 114])]))

/-- 'laws.FnExactArchiveOk': WHATEVER THE INPUT: true; the input reads as it did. -/
def fnExactArchiveOkSpec : ChangeSpec := { name := "fnExactArchiveOk", vars := ["loop.example/g00118/impl.errNoHead"], fn := fun _ => fun
  | [d, g1] => { results := [.lit (.bool true)], args := [d], vars := [g1] }
  | _ => none }
def fnExactArchiveOkRow : OpenClaim := { program := "ytokkigfjabbdaaagreatdoor", sum := "d7acf5d79f895af8d6bdbb4c1a8ed3820fa5e4184d4af80b457efa36f052f9ff", func := "loop.example/g00118/laws.FnExactArchiveOk", spec := "fnExactArchiveOk", inPlace := ["internal/reflectlite.TypeOf", "sync/atomic.StoreInt64", "sync/atomic.AddInt64", "sync/atomic.LoadInt64"], unfollowed := true, recurses := true, named := ["loop.example/g00118/impl.errNoHead"], ifaces := true, apart := false, laid := [("loop.example/g00118/impl.errNoHead", laid_loop_example_g00118_impl_errNoHead)] }
def FnExactArchiveOkSaid : Prop := fnExactArchiveOkRow.holds Tryz.pinned (OpenSpec.ofChange fnExactArchiveOkSpec)

/-- ITS FALSE NEIGHBOUR: 'it returns false'. Refute it at one input. -/
def fnExactArchiveOkWrong : ChangeSpec := { name := "fnExactArchiveOk", vars := ["loop.example/g00118/impl.errNoHead"], fn := fun _ => fun
  | [d, g1] => { results := [.lit (.bool false)], args := [d], vars := [g1] }
  | _ => none }
def FnExactArchiveOkWrongFalsely : Prop := fnExactArchiveOkRow.holds Tryz.pinned (OpenSpec.ofChange fnExactArchiveOkWrong)

/-- 'laws.FnExactArchiveUrls': WHATEVER THE INPUT: true; the input reads as it did. -/
def fnExactArchiveUrlsSpec : ChangeSpec := { name := "fnExactArchiveUrls", vars := ["loop.example/g00118/impl.errNoHead"], fn := fun _ => fun
  | [d, g1] => { results := [.lit (.bool true)], args := [d], vars := [g1] }
  | _ => none }
def fnExactArchiveUrlsRow : OpenClaim := { program := "ytokkigfjabbdaaagreatdoor", sum := "d7acf5d79f895af8d6bdbb4c1a8ed3820fa5e4184d4af80b457efa36f052f9ff", func := "loop.example/g00118/laws.FnExactArchiveUrls", spec := "fnExactArchiveUrls", inPlace := ["internal/reflectlite.TypeOf", "sync/atomic.StoreInt64", "sync/atomic.AddInt64", "sync/atomic.LoadInt64", "(*internal/sync.Mutex).Lock", "internal/race.Disable", "sync/atomic.CompareAndSwapInt32", "internal/race.Enable", "internal/race.Acquire", "(*internal/sync.Mutex).lockSlow", "internal/sync.runtime_canSpin", "internal/sync.runtime_doSpin", "internal/sync.throw", "internal/sync.runtime_nanotime", "internal/sync.runtime_SemacquireMutex", "sync/atomic.AddInt32", "(*internal/sync.Mutex).Unlock", "internal/race.ReleaseMerge", "(*internal/sync.Mutex).unlockSlow", "internal/sync.fatal", "internal/sync.runtime_Semrelease"], unfollowed := true, recurses := true, named := ["loop.example/g00118/impl.errNoHead"], ifaces := true, apart := false, laid := [("loop.example/g00118/impl.errNoHead", laid_loop_example_g00118_impl_errNoHead)] }
def FnExactArchiveUrlsSaid : Prop := fnExactArchiveUrlsRow.holds Tryz.pinned (OpenSpec.ofChange fnExactArchiveUrlsSpec)

/-- ITS FALSE NEIGHBOUR: 'it returns false'. Refute it at one input. -/
def fnExactArchiveUrlsWrong : ChangeSpec := { name := "fnExactArchiveUrls", vars := ["loop.example/g00118/impl.errNoHead"], fn := fun _ => fun
  | [d, g1] => { results := [.lit (.bool false)], args := [d], vars := [g1] }
  | _ => none }
def FnExactArchiveUrlsWrongFalsely : Prop := fnExactArchiveUrlsRow.holds Tryz.pinned (OpenSpec.ofChange fnExactArchiveUrlsWrong)

/-- 'laws.FnExactArchiveCrash': WHATEVER THE INPUT: true; the input reads as it did. -/
def fnExactArchiveCrashSpec : ChangeSpec := { name := "fnExactArchiveCrash", vars := ["loop.example/g00118/impl.errNoHead"], fn := fun _ => fun
  | [d, g1] => { results := [.lit (.bool true)], args := [d], vars := [g1] }
  | _ => none }
def fnExactArchiveCrashRow : OpenClaim := { program := "ytokkigfjabbdaaagreatdoor", sum := "d7acf5d79f895af8d6bdbb4c1a8ed3820fa5e4184d4af80b457efa36f052f9ff", func := "loop.example/g00118/laws.FnExactArchiveCrash", spec := "fnExactArchiveCrash", inPlace := ["internal/reflectlite.TypeOf", "sync/atomic.StoreInt64", "sync/atomic.AddInt64", "sync/atomic.LoadInt64", "(*internal/sync.Mutex).Lock", "internal/race.Disable", "sync/atomic.CompareAndSwapInt32", "internal/race.Enable", "internal/race.Acquire", "(*internal/sync.Mutex).lockSlow", "internal/sync.runtime_canSpin", "internal/sync.runtime_doSpin", "internal/sync.throw", "internal/sync.runtime_nanotime", "internal/sync.runtime_SemacquireMutex", "sync/atomic.AddInt32", "(*internal/sync.Mutex).Unlock", "internal/race.ReleaseMerge", "(*internal/sync.Mutex).unlockSlow", "internal/sync.fatal", "internal/sync.runtime_Semrelease"], unfollowed := true, recurses := true, named := ["loop.example/g00118/impl.errNoHead"], ifaces := true, apart := false, laid := [("loop.example/g00118/impl.errNoHead", laid_loop_example_g00118_impl_errNoHead)] }
def FnExactArchiveCrashSaid : Prop := fnExactArchiveCrashRow.holds Tryz.pinned (OpenSpec.ofChange fnExactArchiveCrashSpec)

/-- ITS FALSE NEIGHBOUR: 'it returns false'. Refute it at one input. -/
def fnExactArchiveCrashWrong : ChangeSpec := { name := "fnExactArchiveCrash", vars := ["loop.example/g00118/impl.errNoHead"], fn := fun _ => fun
  | [d, g1] => { results := [.lit (.bool false)], args := [d], vars := [g1] }
  | _ => none }
def FnExactArchiveCrashWrongFalsely : Prop := fnExactArchiveCrashRow.holds Tryz.pinned (OpenSpec.ofChange fnExactArchiveCrashWrong)

/-- 'laws.FnExactArchiveOpen': WHATEVER THE INPUT: true; the input reads as it did. -/
def fnExactArchiveOpenSpec : ChangeSpec := { name := "fnExactArchiveOpen", vars := ["loop.example/g00118/impl.errNoHead"], fn := fun _ => fun
  | [d, g1] => { results := [.lit (.bool true)], args := [d], vars := [g1] }
  | _ => none }
def fnExactArchiveOpenRow : OpenClaim := { program := "ytokkigfjabbdaaagreatdoor", sum := "d7acf5d79f895af8d6bdbb4c1a8ed3820fa5e4184d4af80b457efa36f052f9ff", func := "loop.example/g00118/laws.FnExactArchiveOpen", spec := "fnExactArchiveOpen", inPlace := ["internal/reflectlite.TypeOf", "sync/atomic.StoreInt64", "sync/atomic.AddInt64", "sync/atomic.LoadInt64", "(*internal/sync.Mutex).Lock", "internal/race.Disable", "sync/atomic.CompareAndSwapInt32", "internal/race.Enable", "internal/race.Acquire", "(*internal/sync.Mutex).lockSlow", "internal/sync.runtime_canSpin", "internal/sync.runtime_doSpin", "internal/sync.throw", "internal/sync.runtime_nanotime", "internal/sync.runtime_SemacquireMutex", "sync/atomic.AddInt32", "(*internal/sync.Mutex).Unlock", "internal/race.ReleaseMerge", "(*internal/sync.Mutex).unlockSlow", "internal/sync.fatal", "internal/sync.runtime_Semrelease"], unfollowed := true, recurses := true, named := ["loop.example/g00118/impl.errNoHead"], ifaces := true, apart := false, laid := [("loop.example/g00118/impl.errNoHead", laid_loop_example_g00118_impl_errNoHead)] }
def FnExactArchiveOpenSaid : Prop := fnExactArchiveOpenRow.holds Tryz.pinned (OpenSpec.ofChange fnExactArchiveOpenSpec)

/-- ITS FALSE NEIGHBOUR: 'it returns false'. Refute it at one input. -/
def fnExactArchiveOpenWrong : ChangeSpec := { name := "fnExactArchiveOpen", vars := ["loop.example/g00118/impl.errNoHead"], fn := fun _ => fun
  | [d, g1] => { results := [.lit (.bool false)], args := [d], vars := [g1] }
  | _ => none }
def FnExactArchiveOpenWrongFalsely : Prop := fnExactArchiveOpenRow.holds Tryz.pinned (OpenSpec.ofChange fnExactArchiveOpenWrong)

/- THE SECOND FORM. 'bulk': how many values and letters a reading holds, each counted each time it is reached (what is shared counts as often as it is met; a slice's spare places count too). A statement '..UptoSaid' is the law's where the arguments, and the package variables that the reading takes, are together of bulk at most 1048576: NARROWER than '..Said'. Prove '..Said' where nothing that the law and all that it calls make is longer than what came in: it says more and counts as full. Else prove '..UptoSaid'. A law counts once. -/
mutual
def uptoBulk {H : Type} : DataW H → Nat
  | .lit (.string bytes) => bytes.length + 1
  | .lit _ => 1
  | .nil => 1
  | .ptr d => uptoBulk d + 1
  | .slice elems spare => uptoBulkAll elems + uptoBulkAll spare + 1
  | .agg parts => uptoBulkAll parts + 1
  | .iface _ d => uptoBulk d + 1
  | .map entries => uptoBulkEntries entries + 1
  | .held _ => 1
def uptoBulkAll {H : Type} : List (DataW H) → Nat
  | [] => 0
  | d :: r => uptoBulk d + uptoBulkAll r
def uptoBulkEntries {H : Type} : List (Lit × DataW H) → Nat
  | [] => 0
  | x :: r => uptoBulkEntry x + uptoBulkEntries r
def uptoBulkEntry {H : Type} : Lit × DataW H → Nat
  | (.string bytes, d) => bytes.length + uptoBulk d + 1
  | (_, d) => uptoBulk d + 1
 end
def uptoSmall : (H : Type) → List (DataW H) → Bool := fun _ ds => decide (uptoBulkAll ds ≤ 1048576)
def OpenSpec.upto (s : _root_.Go.ChangeSpec) : _root_.Go.OpenSpec := { _root_.Go.OpenSpec.ofChange s with cond := some uptoSmall }

/-- 'laws.FnExactArchiveOk', WHERE WHAT IT READS IS OF BULK AT MOST 1048576: true; the input reads as it did. -/
def fnExactArchiveOkUptoRow : OpenClaim := { program := "ytokkigfjabbdaaagreatdoor", sum := "d7acf5d79f895af8d6bdbb4c1a8ed3820fa5e4184d4af80b457efa36f052f9ff", func := "loop.example/g00118/laws.FnExactArchiveOk", spec := "fnExactArchiveOk", inPlace := ["internal/reflectlite.TypeOf", "sync/atomic.StoreInt64", "sync/atomic.AddInt64", "sync/atomic.LoadInt64"], unfollowed := true, recurses := true, named := ["loop.example/g00118/impl.errNoHead"], ifaces := true, apart := false, laid := [("loop.example/g00118/impl.errNoHead", laid_loop_example_g00118_impl_errNoHead)], narrowed := true }
def FnExactArchiveOkUptoSaid : Prop := fnExactArchiveOkUptoRow.holds Tryz.pinned (OpenSpec.upto fnExactArchiveOkSpec)

/-- 'laws.FnExactArchiveUrls', WHERE WHAT IT READS IS OF BULK AT MOST 1048576: true; the input reads as it did. -/
def fnExactArchiveUrlsUptoRow : OpenClaim := { program := "ytokkigfjabbdaaagreatdoor", sum := "d7acf5d79f895af8d6bdbb4c1a8ed3820fa5e4184d4af80b457efa36f052f9ff", func := "loop.example/g00118/laws.FnExactArchiveUrls", spec := "fnExactArchiveUrls", inPlace := ["internal/reflectlite.TypeOf", "sync/atomic.StoreInt64", "sync/atomic.AddInt64", "sync/atomic.LoadInt64", "(*internal/sync.Mutex).Lock", "internal/race.Disable", "sync/atomic.CompareAndSwapInt32", "internal/race.Enable", "internal/race.Acquire", "(*internal/sync.Mutex).lockSlow", "internal/sync.runtime_canSpin", "internal/sync.runtime_doSpin", "internal/sync.throw", "internal/sync.runtime_nanotime", "internal/sync.runtime_SemacquireMutex", "sync/atomic.AddInt32", "(*internal/sync.Mutex).Unlock", "internal/race.ReleaseMerge", "(*internal/sync.Mutex).unlockSlow", "internal/sync.fatal", "internal/sync.runtime_Semrelease"], unfollowed := true, recurses := true, named := ["loop.example/g00118/impl.errNoHead"], ifaces := true, apart := false, laid := [("loop.example/g00118/impl.errNoHead", laid_loop_example_g00118_impl_errNoHead)], narrowed := true }
def FnExactArchiveUrlsUptoSaid : Prop := fnExactArchiveUrlsUptoRow.holds Tryz.pinned (OpenSpec.upto fnExactArchiveUrlsSpec)

/-- 'laws.FnExactArchiveCrash', WHERE WHAT IT READS IS OF BULK AT MOST 1048576: true; the input reads as it did. -/
def fnExactArchiveCrashUptoRow : OpenClaim := { program := "ytokkigfjabbdaaagreatdoor", sum := "d7acf5d79f895af8d6bdbb4c1a8ed3820fa5e4184d4af80b457efa36f052f9ff", func := "loop.example/g00118/laws.FnExactArchiveCrash", spec := "fnExactArchiveCrash", inPlace := ["internal/reflectlite.TypeOf", "sync/atomic.StoreInt64", "sync/atomic.AddInt64", "sync/atomic.LoadInt64", "(*internal/sync.Mutex).Lock", "internal/race.Disable", "sync/atomic.CompareAndSwapInt32", "internal/race.Enable", "internal/race.Acquire", "(*internal/sync.Mutex).lockSlow", "internal/sync.runtime_canSpin", "internal/sync.runtime_doSpin", "internal/sync.throw", "internal/sync.runtime_nanotime", "internal/sync.runtime_SemacquireMutex", "sync/atomic.AddInt32", "(*internal/sync.Mutex).Unlock", "internal/race.ReleaseMerge", "(*internal/sync.Mutex).unlockSlow", "internal/sync.fatal", "internal/sync.runtime_Semrelease"], unfollowed := true, recurses := true, named := ["loop.example/g00118/impl.errNoHead"], ifaces := true, apart := false, laid := [("loop.example/g00118/impl.errNoHead", laid_loop_example_g00118_impl_errNoHead)], narrowed := true }
def FnExactArchiveCrashUptoSaid : Prop := fnExactArchiveCrashUptoRow.holds Tryz.pinned (OpenSpec.upto fnExactArchiveCrashSpec)

/-- 'laws.FnExactArchiveOpen', WHERE WHAT IT READS IS OF BULK AT MOST 1048576: true; the input reads as it did. -/
def fnExactArchiveOpenUptoRow : OpenClaim := { program := "ytokkigfjabbdaaagreatdoor", sum := "d7acf5d79f895af8d6bdbb4c1a8ed3820fa5e4184d4af80b457efa36f052f9ff", func := "loop.example/g00118/laws.FnExactArchiveOpen", spec := "fnExactArchiveOpen", inPlace := ["internal/reflectlite.TypeOf", "sync/atomic.StoreInt64", "sync/atomic.AddInt64", "sync/atomic.LoadInt64", "(*internal/sync.Mutex).Lock", "internal/race.Disable", "sync/atomic.CompareAndSwapInt32", "internal/race.Enable", "internal/race.Acquire", "(*internal/sync.Mutex).lockSlow", "internal/sync.runtime_canSpin", "internal/sync.runtime_doSpin", "internal/sync.throw", "internal/sync.runtime_nanotime", "internal/sync.runtime_SemacquireMutex", "sync/atomic.AddInt32", "(*internal/sync.Mutex).Unlock", "internal/race.ReleaseMerge", "(*internal/sync.Mutex).unlockSlow", "internal/sync.fatal", "internal/sync.runtime_Semrelease"], unfollowed := true, recurses := true, named := ["loop.example/g00118/impl.errNoHead"], ifaces := true, apart := false, laid := [("loop.example/g00118/impl.errNoHead", laid_loop_example_g00118_impl_errNoHead)], narrowed := true }
def FnExactArchiveOpenUptoSaid : Prop := fnExactArchiveOpenUptoRow.holds Tryz.pinned (OpenSpec.upto fnExactArchiveOpenSpec)

end Rows
end Go.Proofs.YtokkigfjabbdaaaGreatDoor
