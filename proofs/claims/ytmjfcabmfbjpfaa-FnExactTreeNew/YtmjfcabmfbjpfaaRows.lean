/-
  No cell of these rows narrows 'for every input' (looked for: loops, veiled, ifaces, maps, wideKeys, modest, calm, conditions, laid).
  DERIVED. THE GIVEN ROWS OF THIS SEAT. 6 by the template 'for every input the law returns true; each argument reads behind the call as it read before'; 0 by the template 'total and deterministic' (their statements: YtmjfcabmfbjpfaaTotals.lean).
  GIVEN WITH THE SEED: the statements are not yours to turn. If you find one false, say at which input.
  Laid BY PROGRAM, IN A SANDBOX (cutbox-rows.mjs): the forced cells as the released guide's own fill.sh prints them over the translation d1c45a1ce6a5f876… (all of the seat's roots in one cut). By AI agents, Wed Nov 11 2026. No macro, syntax, notation, axiom, sorry.
-/
import Derived.Test.YtmjfcabmfbjpfaaChecked
import GoSem.Claim
import GoSem.ClaimJoined
import GoSem.ClaimMapViews
import Derived.JoinedTies
import Derived.KernelRfl
namespace Go.Proofs.Ytmjfcabmfbjpfaa
/- THE CELL 'sum', in the pinned program and in every row, IS THE sha256 OF THE DUMP (.gsa) THAT YtmjfcabmfbjpfaaProg.lean LOADS. Nothing in Lean hashes anything: it is a label: what it is worth is what the hold of that sum in a sandbox is worth. -/
noncomputable def Try.pinned : Pinned := { name := "ytmjfcabmfbjpfaa", sum := "d1c45a1ce6a5f87638ea11605cb788127e760d40c6f908ce7a05fac27576cdc5", checked := Try.checked }
namespace Rows
def none {H : Type} : Left H := { results := [], args := [] }

/-- 'laws.FnExactTreeOk': WHATEVER THE INPUT: true; the input reads as it did. -/
def fnExactTreeOkSpec : ChangeSpec := { name := "fnExactTreeOk", fn := fun _ => fun
  | [d] => { results := [.lit (.bool true)], args := [d] }
  | _ => none }
def fnExactTreeOkRow : OpenClaim := { program := "ytmjfcabmfbjpfaa", sum := "d1c45a1ce6a5f87638ea11605cb788127e760d40c6f908ce7a05fac27576cdc5", func := "loop.example/g00118/laws.FnExactTreeOk", spec := "fnExactTreeOk", unfollowed := true, recurses := true, apart := false }
def FnExactTreeOkSaid : Prop := fnExactTreeOkRow.holds Try.pinned (OpenSpec.ofChange fnExactTreeOkSpec)

/-- ITS FALSE NEIGHBOUR: 'it returns false'. Refute it at one input. -/
def fnExactTreeOkWrong : ChangeSpec := { name := "fnExactTreeOk", fn := fun _ => fun
  | [d] => { results := [.lit (.bool false)], args := [d] }
  | _ => none }
def FnExactTreeOkWrongFalsely : Prop := fnExactTreeOkRow.holds Try.pinned (OpenSpec.ofChange fnExactTreeOkWrong)

/-- 'laws.FnExactTreeNew': WHATEVER THE INPUT: true; the input reads as it did. -/
def fnExactTreeNewSpec : ChangeSpec := { name := "fnExactTreeNew", fn := fun _ => fun
  | [] => { results := [.lit (.bool true)], args := [] }
  | _ => none }
def fnExactTreeNewRow : OpenClaim := { program := "ytmjfcabmfbjpfaa", sum := "d1c45a1ce6a5f87638ea11605cb788127e760d40c6f908ce7a05fac27576cdc5", func := "loop.example/g00118/laws.FnExactTreeNew", spec := "fnExactTreeNew", apart := false }
def FnExactTreeNewSaid : Prop := fnExactTreeNewRow.holds Try.pinned (OpenSpec.ofChange fnExactTreeNewSpec)

/-- ITS FALSE NEIGHBOUR: 'it returns false'. Refute it at one input. -/
def fnExactTreeNewWrong : ChangeSpec := { name := "fnExactTreeNew", fn := fun _ => fun
  | [] => { results := [.lit (.bool false)], args := [] }
  | _ => none }
def FnExactTreeNewWrongFalsely : Prop := fnExactTreeNewRow.holds Try.pinned (OpenSpec.ofChange fnExactTreeNewWrong)

/-- 'laws.FnExactTreeAdd': WHATEVER THE INPUT: true; the input reads as it did. -/
def fnExactTreeAddSpec : ChangeSpec := { name := "fnExactTreeAdd", fn := fun _ => fun
  | [d1, d2] => { results := [.lit (.bool true)], args := [d1, d2] }
  | _ => none }
def fnExactTreeAddRow : OpenClaim := { program := "ytmjfcabmfbjpfaa", sum := "d1c45a1ce6a5f87638ea11605cb788127e760d40c6f908ce7a05fac27576cdc5", func := "loop.example/g00118/laws.FnExactTreeAdd", spec := "fnExactTreeAdd", unfollowed := true, recurses := true, apart := false }
def FnExactTreeAddSaid : Prop := fnExactTreeAddRow.holds Try.pinned (OpenSpec.ofChange fnExactTreeAddSpec)

/-- ITS FALSE NEIGHBOUR: 'it returns false'. Refute it at one input. -/
def fnExactTreeAddWrong : ChangeSpec := { name := "fnExactTreeAdd", fn := fun _ => fun
  | [d1, d2] => { results := [.lit (.bool false)], args := [d1, d2] }
  | _ => none }
def FnExactTreeAddWrongFalsely : Prop := fnExactTreeAddRow.holds Try.pinned (OpenSpec.ofChange fnExactTreeAddWrong)

/-- 'laws.FnExactTreeTake': WHATEVER THE INPUT: true; the input reads as it did. -/
def fnExactTreeTakeSpec : ChangeSpec := { name := "fnExactTreeTake", fn := fun _ => fun
  | [d1, d2] => { results := [.lit (.bool true)], args := [d1, d2] }
  | _ => none }
def fnExactTreeTakeRow : OpenClaim := { program := "ytmjfcabmfbjpfaa", sum := "d1c45a1ce6a5f87638ea11605cb788127e760d40c6f908ce7a05fac27576cdc5", func := "loop.example/g00118/laws.FnExactTreeTake", spec := "fnExactTreeTake", unfollowed := true, recurses := true, apart := false }
def FnExactTreeTakeSaid : Prop := fnExactTreeTakeRow.holds Try.pinned (OpenSpec.ofChange fnExactTreeTakeSpec)

/-- ITS FALSE NEIGHBOUR: 'it returns false'. Refute it at one input. -/
def fnExactTreeTakeWrong : ChangeSpec := { name := "fnExactTreeTake", fn := fun _ => fun
  | [d1, d2] => { results := [.lit (.bool false)], args := [d1, d2] }
  | _ => none }
def FnExactTreeTakeWrongFalsely : Prop := fnExactTreeTakeRow.holds Try.pinned (OpenSpec.ofChange fnExactTreeTakeWrong)

/-- 'laws.FnExactTreeTidy': WHATEVER THE INPUT: true; the input reads as it did. -/
def fnExactTreeTidySpec : ChangeSpec := { name := "fnExactTreeTidy", fn := fun _ => fun
  | [d] => { results := [.lit (.bool true)], args := [d] }
  | _ => none }
def fnExactTreeTidyRow : OpenClaim := { program := "ytmjfcabmfbjpfaa", sum := "d1c45a1ce6a5f87638ea11605cb788127e760d40c6f908ce7a05fac27576cdc5", func := "loop.example/g00118/laws.FnExactTreeTidy", spec := "fnExactTreeTidy", unfollowed := true, recurses := true, apart := false }
def FnExactTreeTidySaid : Prop := fnExactTreeTidyRow.holds Try.pinned (OpenSpec.ofChange fnExactTreeTidySpec)

/-- ITS FALSE NEIGHBOUR: 'it returns false'. Refute it at one input. -/
def fnExactTreeTidyWrong : ChangeSpec := { name := "fnExactTreeTidy", fn := fun _ => fun
  | [d] => { results := [.lit (.bool false)], args := [d] }
  | _ => none }
def FnExactTreeTidyWrongFalsely : Prop := fnExactTreeTidyRow.holds Try.pinned (OpenSpec.ofChange fnExactTreeTidyWrong)

/-- 'laws.FnExactTreeSame': WHATEVER THE INPUT: true; the input reads as it did. -/
def fnExactTreeSameSpec : ChangeSpec := { name := "fnExactTreeSame", fn := fun _ => fun
  | [d1, d2] => { results := [.lit (.bool true)], args := [d1, d2] }
  | _ => none }
def fnExactTreeSameRow : OpenClaim := { program := "ytmjfcabmfbjpfaa", sum := "d1c45a1ce6a5f87638ea11605cb788127e760d40c6f908ce7a05fac27576cdc5", func := "loop.example/g00118/laws.FnExactTreeSame", spec := "fnExactTreeSame", unfollowed := true, recurses := true, apart := false }
def FnExactTreeSameSaid : Prop := fnExactTreeSameRow.holds Try.pinned (OpenSpec.ofChange fnExactTreeSameSpec)

/-- ITS FALSE NEIGHBOUR: 'it returns false'. Refute it at one input. -/
def fnExactTreeSameWrong : ChangeSpec := { name := "fnExactTreeSame", fn := fun _ => fun
  | [d1, d2] => { results := [.lit (.bool false)], args := [d1, d2] }
  | _ => none }
def FnExactTreeSameWrongFalsely : Prop := fnExactTreeSameRow.holds Try.pinned (OpenSpec.ofChange fnExactTreeSameWrong)

/- THE SECOND FORM. 'bulk': how many values and letters a reading holds, each counted each time it is reached (what is shared counts as often as it is met; a slice's spare places count too). A statement '..UptoSaid' is the law's where the arguments, and the package variables that the reading takes, are together of bulk at most 1048576: NARROWER than '..Said'. Prove '..Said' where nothing that the law and all that it calls make is longer than what came in: it says more and counts as full. Else prove '..UptoSaid'. A law counts once. -/
mutual
def uptoBulk {H : Type} : DataW H → Nat
  | .lit (.string bytes) => bytes.length + 1
  | .lit _ => 1
  | .nil => 1
  | .ptr d => uptoBulk d + 1
  | .slice elems spare => uptoBulkAll elems + uptoBulkAll spare + 1
  | .agg parts => uptoBulkAll parts + 1
  | .iface _ d => uptoBulk d + 1
  | .map entries => uptoBulkEntries entries + 1
  | .held _ => 1
def uptoBulkAll {H : Type} : List (DataW H) → Nat
  | [] => 0
  | d :: r => uptoBulk d + uptoBulkAll r
def uptoBulkEntries {H : Type} : List (Lit × DataW H) → Nat
  | [] => 0
  | x :: r => uptoBulkEntry x + uptoBulkEntries r
def uptoBulkEntry {H : Type} : Lit × DataW H → Nat
  | (.string bytes, d) => bytes.length + uptoBulk d + 1
  | (_, d) => uptoBulk d + 1
 end
def uptoSmall : (H : Type) → List (DataW H) → Bool := fun _ ds => decide (uptoBulkAll ds ≤ 1048576)
def OpenSpec.upto (s : _root_.Go.ChangeSpec) : _root_.Go.OpenSpec := { _root_.Go.OpenSpec.ofChange s with cond := some uptoSmall }

/-- 'laws.FnExactTreeOk', WHERE WHAT IT READS IS OF BULK AT MOST 1048576: true; the input reads as it did. -/
def fnExactTreeOkUptoRow : OpenClaim := { program := "ytmjfcabmfbjpfaa", sum := "d1c45a1ce6a5f87638ea11605cb788127e760d40c6f908ce7a05fac27576cdc5", func := "loop.example/g00118/laws.FnExactTreeOk", spec := "fnExactTreeOk", unfollowed := true, recurses := true, apart := false, narrowed := true }
def FnExactTreeOkUptoSaid : Prop := fnExactTreeOkUptoRow.holds Try.pinned (OpenSpec.upto fnExactTreeOkSpec)

/-- 'laws.FnExactTreeNew', WHERE WHAT IT READS IS OF BULK AT MOST 1048576: true; the input reads as it did. -/
def fnExactTreeNewUptoRow : OpenClaim := { program := "ytmjfcabmfbjpfaa", sum := "d1c45a1ce6a5f87638ea11605cb788127e760d40c6f908ce7a05fac27576cdc5", func := "loop.example/g00118/laws.FnExactTreeNew", spec := "fnExactTreeNew", apart := false, narrowed := true }
def FnExactTreeNewUptoSaid : Prop := fnExactTreeNewUptoRow.holds Try.pinned (OpenSpec.upto fnExactTreeNewSpec)

/-- 'laws.FnExactTreeAdd', WHERE WHAT IT READS IS OF BULK AT MOST 1048576: true; the input reads as it did. -/
def fnExactTreeAddUptoRow : OpenClaim := { program := "ytmjfcabmfbjpfaa", sum := "d1c45a1ce6a5f87638ea11605cb788127e760d40c6f908ce7a05fac27576cdc5", func := "loop.example/g00118/laws.FnExactTreeAdd", spec := "fnExactTreeAdd", unfollowed := true, recurses := true, apart := false, narrowed := true }
def FnExactTreeAddUptoSaid : Prop := fnExactTreeAddUptoRow.holds Try.pinned (OpenSpec.upto fnExactTreeAddSpec)

/-- 'laws.FnExactTreeTake', WHERE WHAT IT READS IS OF BULK AT MOST 1048576: true; the input reads as it did. -/
def fnExactTreeTakeUptoRow : OpenClaim := { program := "ytmjfcabmfbjpfaa", sum := "d1c45a1ce6a5f87638ea11605cb788127e760d40c6f908ce7a05fac27576cdc5", func := "loop.example/g00118/laws.FnExactTreeTake", spec := "fnExactTreeTake", unfollowed := true, recurses := true, apart := false, narrowed := true }
def FnExactTreeTakeUptoSaid : Prop := fnExactTreeTakeUptoRow.holds Try.pinned (OpenSpec.upto fnExactTreeTakeSpec)

/-- 'laws.FnExactTreeTidy', WHERE WHAT IT READS IS OF BULK AT MOST 1048576: true; the input reads as it did. -/
def fnExactTreeTidyUptoRow : OpenClaim := { program := "ytmjfcabmfbjpfaa", sum := "d1c45a1ce6a5f87638ea11605cb788127e760d40c6f908ce7a05fac27576cdc5", func := "loop.example/g00118/laws.FnExactTreeTidy", spec := "fnExactTreeTidy", unfollowed := true, recurses := true, apart := false, narrowed := true }
def FnExactTreeTidyUptoSaid : Prop := fnExactTreeTidyUptoRow.holds Try.pinned (OpenSpec.upto fnExactTreeTidySpec)

/-- 'laws.FnExactTreeSame', WHERE WHAT IT READS IS OF BULK AT MOST 1048576: true; the input reads as it did. -/
def fnExactTreeSameUptoRow : OpenClaim := { program := "ytmjfcabmfbjpfaa", sum := "d1c45a1ce6a5f87638ea11605cb788127e760d40c6f908ce7a05fac27576cdc5", func := "loop.example/g00118/laws.FnExactTreeSame", spec := "fnExactTreeSame", unfollowed := true, recurses := true, apart := false, narrowed := true }
def FnExactTreeSameUptoSaid : Prop := fnExactTreeSameUptoRow.holds Try.pinned (OpenSpec.upto fnExactTreeSameSpec)

end Rows
end Go.Proofs.Ytmjfcabmfbjpfaa
