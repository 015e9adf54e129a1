/-
  No cell of these rows narrows 'for every input' (looked for: loops, veiled, ifaces, maps, wideKeys, modest, calm, conditions, laid).
  DERIVED. THE GIVEN ROWS OF THIS SEAT. 9 by the template 'for every input the law returns true; each argument reads behind the call as it read before'; 0 by the template 'total and deterministic' (their statements: YtmpgbonolmmcpaaTotals.lean).
  GIVEN WITH THE SEED: the statements are not yours to turn. If you find one false, say at which input.
  Laid BY PROGRAM, IN A SANDBOX (cutbox-rows.mjs): the forced cells as the released guide's own fill.sh prints them over the translation c5d33c45473c3b0e… (all of the seat's roots in one cut). By AI agents, Wed Nov 11 2026. No macro, syntax, notation, axiom, sorry.
-/
import Derived.Test.YtmpgbonolmmcpaaChecked
import GoSem.Claim
import GoSem.ClaimJoined
import GoSem.ClaimMapViews
import Derived.JoinedTies
import Derived.KernelRfl
namespace Go.Proofs.Ytmpgbonolmmcpaa
/- THE CELL 'sum', in the pinned program and in every row, IS THE sha256 OF THE DUMP (.gsa) THAT YtmpgbonolmmcpaaProg.lean LOADS. Nothing in Lean hashes anything: it is a label: what it is worth is what the hold of that sum in a sandbox is worth. -/
noncomputable def Try.pinned : Pinned := { name := "ytmpgbonolmmcpaa", sum := "c5d33c45473c3b0e6ba1cde33a427688e1a32ee46396f21ebb3ab2e4a94409fb", checked := Try.checked }
namespace Rows
def none {H : Type} : Left H := { results := [], args := [] }

/-- 'laws.FnRecords': WHATEVER THE INPUT: true; the input reads as it did. -/
def fnRecordsSpec : ChangeSpec := { name := "fnRecords", fn := fun _ => fun
  | [d] => { results := [.lit (.bool true)], args := [d] }
  | _ => none }
def fnRecordsRow : OpenClaim := { program := "ytmpgbonolmmcpaa", sum := "c5d33c45473c3b0e6ba1cde33a427688e1a32ee46396f21ebb3ab2e4a94409fb", func := "loop.example/g00118/laws.FnRecords", spec := "fnRecords", unfollowed := true, recurses := true, apart := false }
def FnRecordsSaid : Prop := fnRecordsRow.holds Try.pinned (OpenSpec.ofChange fnRecordsSpec)

/-- ITS FALSE NEIGHBOUR: 'it returns false'. Refute it at one input. -/
def fnRecordsWrong : ChangeSpec := { name := "fnRecords", fn := fun _ => fun
  | [d] => { results := [.lit (.bool false)], args := [d] }
  | _ => none }
def FnRecordsWrongFalsely : Prop := fnRecordsRow.holds Try.pinned (OpenSpec.ofChange fnRecordsWrong)

/-- 'laws.FnIndex': WHATEVER THE INPUT: true; the input reads as it did. -/
def fnIndexSpec : ChangeSpec := { name := "fnIndex", fn := fun _ => fun
  | [d] => { results := [.lit (.bool true)], args := [d] }
  | _ => none }
def fnIndexRow : OpenClaim := { program := "ytmpgbonolmmcpaa", sum := "c5d33c45473c3b0e6ba1cde33a427688e1a32ee46396f21ebb3ab2e4a94409fb", func := "loop.example/g00118/laws.FnIndex", spec := "fnIndex", unfollowed := true, recurses := true, apart := false }
def FnIndexSaid : Prop := fnIndexRow.holds Try.pinned (OpenSpec.ofChange fnIndexSpec)

/-- ITS FALSE NEIGHBOUR: 'it returns false'. Refute it at one input. -/
def fnIndexWrong : ChangeSpec := { name := "fnIndex", fn := fun _ => fun
  | [d] => { results := [.lit (.bool false)], args := [d] }
  | _ => none }
def FnIndexWrongFalsely : Prop := fnIndexRow.holds Try.pinned (OpenSpec.ofChange fnIndexWrong)

/-- 'laws.FnExactUrlOk': WHATEVER THE INPUT: true; the input reads as it did. -/
def fnExactUrlOkSpec : ChangeSpec := { name := "fnExactUrlOk", fn := fun _ => fun
  | [d] => { results := [.lit (.bool true)], args := [d] }
  | _ => none }
def fnExactUrlOkRow : OpenClaim := { program := "ytmpgbonolmmcpaa", sum := "c5d33c45473c3b0e6ba1cde33a427688e1a32ee46396f21ebb3ab2e4a94409fb", func := "loop.example/g00118/laws.FnExactUrlOk", spec := "fnExactUrlOk", apart := false }
def FnExactUrlOkSaid : Prop := fnExactUrlOkRow.holds Try.pinned (OpenSpec.ofChange fnExactUrlOkSpec)

/-- ITS FALSE NEIGHBOUR: 'it returns false'. Refute it at one input. -/
def fnExactUrlOkWrong : ChangeSpec := { name := "fnExactUrlOk", fn := fun _ => fun
  | [d] => { results := [.lit (.bool false)], args := [d] }
  | _ => none }
def FnExactUrlOkWrongFalsely : Prop := fnExactUrlOkRow.holds Try.pinned (OpenSpec.ofChange fnExactUrlOkWrong)

/-- 'laws.FnExactRecordPack': WHATEVER THE INPUT: true; the input reads as it did. -/
def fnExactRecordPackSpec : ChangeSpec := { name := "fnExactRecordPack", fn := fun _ => fun
  | [d] => { results := [.lit (.bool true)], args := [d] }
  | _ => none }
def fnExactRecordPackRow : OpenClaim := { program := "ytmpgbonolmmcpaa", sum := "c5d33c45473c3b0e6ba1cde33a427688e1a32ee46396f21ebb3ab2e4a94409fb", func := "loop.example/g00118/laws.FnExactRecordPack", spec := "fnExactRecordPack", apart := false }
def FnExactRecordPackSaid : Prop := fnExactRecordPackRow.holds Try.pinned (OpenSpec.ofChange fnExactRecordPackSpec)

/-- ITS FALSE NEIGHBOUR: 'it returns false'. Refute it at one input. -/
def fnExactRecordPackWrong : ChangeSpec := { name := "fnExactRecordPack", fn := fun _ => fun
  | [d] => { results := [.lit (.bool false)], args := [d] }
  | _ => none }
def FnExactRecordPackWrongFalsely : Prop := fnExactRecordPackRow.holds Try.pinned (OpenSpec.ofChange fnExactRecordPackWrong)

/-- 'laws.FnExactRecordRead': WHATEVER THE INPUT: true; the input reads as it did. -/
def fnExactRecordReadSpec : ChangeSpec := { name := "fnExactRecordRead", fn := fun _ => fun
  | [d1, d2] => { results := [.lit (.bool true)], args := [d1, d2] }
  | _ => none }
def fnExactRecordReadRow : OpenClaim := { program := "ytmpgbonolmmcpaa", sum := "c5d33c45473c3b0e6ba1cde33a427688e1a32ee46396f21ebb3ab2e4a94409fb", func := "loop.example/g00118/laws.FnExactRecordRead", spec := "fnExactRecordRead", unfollowed := true, recurses := true, apart := false }
def FnExactRecordReadSaid : Prop := fnExactRecordReadRow.holds Try.pinned (OpenSpec.ofChange fnExactRecordReadSpec)

/-- ITS FALSE NEIGHBOUR: 'it returns false'. Refute it at one input. -/
def fnExactRecordReadWrong : ChangeSpec := { name := "fnExactRecordRead", fn := fun _ => fun
  | [d1, d2] => { results := [.lit (.bool false)], args := [d1, d2] }
  | _ => none }
def FnExactRecordReadWrongFalsely : Prop := fnExactRecordReadRow.holds Try.pinned (OpenSpec.ofChange fnExactRecordReadWrong)

/-- 'laws.FnExactRecords': WHATEVER THE INPUT: true; the input reads as it did. -/
def fnExactRecordsSpec : ChangeSpec := { name := "fnExactRecords", fn := fun _ => fun
  | [d] => { results := [.lit (.bool true)], args := [d] }
  | _ => none }
def fnExactRecordsRow : OpenClaim := { program := "ytmpgbonolmmcpaa", sum := "c5d33c45473c3b0e6ba1cde33a427688e1a32ee46396f21ebb3ab2e4a94409fb", func := "loop.example/g00118/laws.FnExactRecords", spec := "fnExactRecords", unfollowed := true, recurses := true, apart := false }
def FnExactRecordsSaid : Prop := fnExactRecordsRow.holds Try.pinned (OpenSpec.ofChange fnExactRecordsSpec)

/-- ITS FALSE NEIGHBOUR: 'it returns false'. Refute it at one input. -/
def fnExactRecordsWrong : ChangeSpec := { name := "fnExactRecords", fn := fun _ => fun
  | [d] => { results := [.lit (.bool false)], args := [d] }
  | _ => none }
def FnExactRecordsWrongFalsely : Prop := fnExactRecordsRow.holds Try.pinned (OpenSpec.ofChange fnExactRecordsWrong)

/-- 'laws.FnExactIndexOf': WHATEVER THE INPUT: true; the input reads as it did. -/
def fnExactIndexOfSpec : ChangeSpec := { name := "fnExactIndexOf", fn := fun _ => fun
  | [d] => { results := [.lit (.bool true)], args := [d] }
  | _ => none }
def fnExactIndexOfRow : OpenClaim := { program := "ytmpgbonolmmcpaa", sum := "c5d33c45473c3b0e6ba1cde33a427688e1a32ee46396f21ebb3ab2e4a94409fb", func := "loop.example/g00118/laws.FnExactIndexOf", spec := "fnExactIndexOf", recurses := true, apart := false }
def FnExactIndexOfSaid : Prop := fnExactIndexOfRow.holds Try.pinned (OpenSpec.ofChange fnExactIndexOfSpec)

/-- ITS FALSE NEIGHBOUR: 'it returns false'. Refute it at one input. -/
def fnExactIndexOfWrong : ChangeSpec := { name := "fnExactIndexOf", fn := fun _ => fun
  | [d] => { results := [.lit (.bool false)], args := [d] }
  | _ => none }
def FnExactIndexOfWrongFalsely : Prop := fnExactIndexOfRow.holds Try.pinned (OpenSpec.ofChange fnExactIndexOfWrong)

/-- 'laws.FnExactIndexFind': WHATEVER THE INPUT: true; the input reads as it did. -/
def fnExactIndexFindSpec : ChangeSpec := { name := "fnExactIndexFind", fn := fun _ => fun
  | [d1, d2] => { results := [.lit (.bool true)], args := [d1, d2] }
  | _ => none }
def fnExactIndexFindRow : OpenClaim := { program := "ytmpgbonolmmcpaa", sum := "c5d33c45473c3b0e6ba1cde33a427688e1a32ee46396f21ebb3ab2e4a94409fb", func := "loop.example/g00118/laws.FnExactIndexFind", spec := "fnExactIndexFind", unfollowed := true, recurses := true, apart := false }
def FnExactIndexFindSaid : Prop := fnExactIndexFindRow.holds Try.pinned (OpenSpec.ofChange fnExactIndexFindSpec)

/-- ITS FALSE NEIGHBOUR: 'it returns false'. Refute it at one input. -/
def fnExactIndexFindWrong : ChangeSpec := { name := "fnExactIndexFind", fn := fun _ => fun
  | [d1, d2] => { results := [.lit (.bool false)], args := [d1, d2] }
  | _ => none }
def FnExactIndexFindWrongFalsely : Prop := fnExactIndexFindRow.holds Try.pinned (OpenSpec.ofChange fnExactIndexFindWrong)

/-- 'laws.FnExactIndexPack': WHATEVER THE INPUT: true; the input reads as it did. -/
def fnExactIndexPackSpec : ChangeSpec := { name := "fnExactIndexPack", fn := fun _ => fun
  | [d] => { results := [.lit (.bool true)], args := [d] }
  | _ => none }
def fnExactIndexPackRow : OpenClaim := { program := "ytmpgbonolmmcpaa", sum := "c5d33c45473c3b0e6ba1cde33a427688e1a32ee46396f21ebb3ab2e4a94409fb", func := "loop.example/g00118/laws.FnExactIndexPack", spec := "fnExactIndexPack", apart := false }
def FnExactIndexPackSaid : Prop := fnExactIndexPackRow.holds Try.pinned (OpenSpec.ofChange fnExactIndexPackSpec)

/-- ITS FALSE NEIGHBOUR: 'it returns false'. Refute it at one input. -/
def fnExactIndexPackWrong : ChangeSpec := { name := "fnExactIndexPack", fn := fun _ => fun
  | [d] => { results := [.lit (.bool false)], args := [d] }
  | _ => none }
def FnExactIndexPackWrongFalsely : Prop := fnExactIndexPackRow.holds Try.pinned (OpenSpec.ofChange fnExactIndexPackWrong)

/- THE SECOND FORM. 'bulk': how many values and letters a reading holds, each counted each time it is reached (what is shared counts as often as it is met; a slice's spare places count too). A statement '..UptoSaid' is the law's where the arguments, and the package variables that the reading takes, are together of bulk at most 1048576: NARROWER than '..Said'. Prove '..Said' where nothing that the law and all that it calls make is longer than what came in: it says more and counts as full. Else prove '..UptoSaid'. A law counts once. -/
mutual
def uptoBulk {H : Type} : DataW H → Nat
  | .lit (.string bytes) => bytes.length + 1
  | .lit _ => 1
  | .nil => 1
  | .ptr d => uptoBulk d + 1
  | .slice elems spare => uptoBulkAll elems + uptoBulkAll spare + 1
  | .agg parts => uptoBulkAll parts + 1
  | .iface _ d => uptoBulk d + 1
  | .map entries => uptoBulkEntries entries + 1
  | .held _ => 1
def uptoBulkAll {H : Type} : List (DataW H) → Nat
  | [] => 0
  | d :: r => uptoBulk d + uptoBulkAll r
def uptoBulkEntries {H : Type} : List (Lit × DataW H) → Nat
  | [] => 0
  | x :: r => uptoBulkEntry x + uptoBulkEntries r
def uptoBulkEntry {H : Type} : Lit × DataW H → Nat
  | (.string bytes, d) => bytes.length + uptoBulk d + 1
  | (_, d) => uptoBulk d + 1
 end
def uptoSmall : (H : Type) → List (DataW H) → Bool := fun _ ds => decide (uptoBulkAll ds ≤ 1048576)
def OpenSpec.upto (s : _root_.Go.ChangeSpec) : _root_.Go.OpenSpec := { _root_.Go.OpenSpec.ofChange s with cond := some uptoSmall }

/-- 'laws.FnRecords', WHERE WHAT IT READS IS OF BULK AT MOST 1048576: true; the input reads as it did. -/
def fnRecordsUptoRow : OpenClaim := { program := "ytmpgbonolmmcpaa", sum := "c5d33c45473c3b0e6ba1cde33a427688e1a32ee46396f21ebb3ab2e4a94409fb", func := "loop.example/g00118/laws.FnRecords", spec := "fnRecords", unfollowed := true, recurses := true, apart := false, narrowed := true }
def FnRecordsUptoSaid : Prop := fnRecordsUptoRow.holds Try.pinned (OpenSpec.upto fnRecordsSpec)

/-- 'laws.FnIndex', WHERE WHAT IT READS IS OF BULK AT MOST 1048576: true; the input reads as it did. -/
def fnIndexUptoRow : OpenClaim := { program := "ytmpgbonolmmcpaa", sum := "c5d33c45473c3b0e6ba1cde33a427688e1a32ee46396f21ebb3ab2e4a94409fb", func := "loop.example/g00118/laws.FnIndex", spec := "fnIndex", unfollowed := true, recurses := true, apart := false, narrowed := true }
def FnIndexUptoSaid : Prop := fnIndexUptoRow.holds Try.pinned (OpenSpec.upto fnIndexSpec)

/-- 'laws.FnExactUrlOk', WHERE WHAT IT READS IS OF BULK AT MOST 1048576: true; the input reads as it did. -/
def fnExactUrlOkUptoRow : OpenClaim := { program := "ytmpgbonolmmcpaa", sum := "c5d33c45473c3b0e6ba1cde33a427688e1a32ee46396f21ebb3ab2e4a94409fb", func := "loop.example/g00118/laws.FnExactUrlOk", spec := "fnExactUrlOk", apart := false, narrowed := true }
def FnExactUrlOkUptoSaid : Prop := fnExactUrlOkUptoRow.holds Try.pinned (OpenSpec.upto fnExactUrlOkSpec)

/-- 'laws.FnExactRecordPack', WHERE WHAT IT READS IS OF BULK AT MOST 1048576: true; the input reads as it did. -/
def fnExactRecordPackUptoRow : OpenClaim := { program := "ytmpgbonolmmcpaa", sum := "c5d33c45473c3b0e6ba1cde33a427688e1a32ee46396f21ebb3ab2e4a94409fb", func := "loop.example/g00118/laws.FnExactRecordPack", spec := "fnExactRecordPack", apart := false, narrowed := true }
def FnExactRecordPackUptoSaid : Prop := fnExactRecordPackUptoRow.holds Try.pinned (OpenSpec.upto fnExactRecordPackSpec)

/-- 'laws.FnExactRecordRead', WHERE WHAT IT READS IS OF BULK AT MOST 1048576: true; the input reads as it did. -/
def fnExactRecordReadUptoRow : OpenClaim := { program := "ytmpgbonolmmcpaa", sum := "c5d33c45473c3b0e6ba1cde33a427688e1a32ee46396f21ebb3ab2e4a94409fb", func := "loop.example/g00118/laws.FnExactRecordRead", spec := "fnExactRecordRead", unfollowed := true, recurses := true, apart := false, narrowed := true }
def FnExactRecordReadUptoSaid : Prop := fnExactRecordReadUptoRow.holds Try.pinned (OpenSpec.upto fnExactRecordReadSpec)

/-- 'laws.FnExactRecords', WHERE WHAT IT READS IS OF BULK AT MOST 1048576: true; the input reads as it did. -/
def fnExactRecordsUptoRow : OpenClaim := { program := "ytmpgbonolmmcpaa", sum := "c5d33c45473c3b0e6ba1cde33a427688e1a32ee46396f21ebb3ab2e4a94409fb", func := "loop.example/g00118/laws.FnExactRecords", spec := "fnExactRecords", unfollowed := true, recurses := true, apart := false, narrowed := true }
def FnExactRecordsUptoSaid : Prop := fnExactRecordsUptoRow.holds Try.pinned (OpenSpec.upto fnExactRecordsSpec)

/-- 'laws.FnExactIndexOf', WHERE WHAT IT READS IS OF BULK AT MOST 1048576: true; the input reads as it did. -/
def fnExactIndexOfUptoRow : OpenClaim := { program := "ytmpgbonolmmcpaa", sum := "c5d33c45473c3b0e6ba1cde33a427688e1a32ee46396f21ebb3ab2e4a94409fb", func := "loop.example/g00118/laws.FnExactIndexOf", spec := "fnExactIndexOf", recurses := true, apart := false, narrowed := true }
def FnExactIndexOfUptoSaid : Prop := fnExactIndexOfUptoRow.holds Try.pinned (OpenSpec.upto fnExactIndexOfSpec)

/-- 'laws.FnExactIndexFind', WHERE WHAT IT READS IS OF BULK AT MOST 1048576: true; the input reads as it did. -/
def fnExactIndexFindUptoRow : OpenClaim := { program := "ytmpgbonolmmcpaa", sum := "c5d33c45473c3b0e6ba1cde33a427688e1a32ee46396f21ebb3ab2e4a94409fb", func := "loop.example/g00118/laws.FnExactIndexFind", spec := "fnExactIndexFind", unfollowed := true, recurses := true, apart := false, narrowed := true }
def FnExactIndexFindUptoSaid : Prop := fnExactIndexFindUptoRow.holds Try.pinned (OpenSpec.upto fnExactIndexFindSpec)

/-- 'laws.FnExactIndexPack', WHERE WHAT IT READS IS OF BULK AT MOST 1048576: true; the input reads as it did. -/
def fnExactIndexPackUptoRow : OpenClaim := { program := "ytmpgbonolmmcpaa", sum := "c5d33c45473c3b0e6ba1cde33a427688e1a32ee46396f21ebb3ab2e4a94409fb", func := "loop.example/g00118/laws.FnExactIndexPack", spec := "fnExactIndexPack", apart := false, narrowed := true }
def FnExactIndexPackUptoSaid : Prop := fnExactIndexPackUptoRow.holds Try.pinned (OpenSpec.upto fnExactIndexPackSpec)

end Rows
end Go.Proofs.Ytmpgbonolmmcpaa
