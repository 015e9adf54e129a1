/- The law FnExactPutNum, walked: at every number it returns true and writes nothing that was there. -/
import Derived.Test.YtgcpdmnikoebkaaHelp
import Derived.Test.YtgcpdmnikoebkaaIPutNum
namespace Go.Proofs.Ytgcpdmnikoebkaa
open Go.RowKit
set_option maxRecDepth 100000
set_option linter.unusedVariables false

theorem fnExactPutNum_walk {x : Int} (w : World) (hx : (Lit.int .i64 x).wf = true) :
    Calls Try.prog 4 #[.int .i64 x] w fun e w' => e = .returned (.bool true) ∧ Below w.heap.size w w' := by
  have hl := form_len x
  have hx2 : x ≤ 9223372036854775807 := by
    have e : IntKind.max .i64 = 9223372036854775807 := by decide
    have h := hx
    simp only [Lit.wf, Bool.and_eq_true, decide_eq_true_eq, e] at h
    exact h.2
  go_enter Try.func4, Try.ntmps4
  go_wp2_with fail
  go_at_call 16
  refine (snum_any x _ hx2).mono ?_
  rintro e w1 ⟨v1, rfl, o1, b1⟩
  go_wp2_with fail
  go_at_call 10
  refine (inum_any x _ hx2).mono ?_
  rintro e w2 ⟨v2, rfl, o2, b2⟩
  have d12 := o1.ne o2
  replace o1 := o1.below b2
  go_wp2_with fail
  go_at_call 17
  refine (eqB_any o2.sl o1.sl (by omega) (by omega)).mono ?_
  rintro e w3 ⟨rfl, b3⟩
  replace o1 := o1.below b3
  replace o2 := o2.below b3
  go_wp2_with fail
  go_at_call 18
  refine (markB_any o2 (by omega) (by omega) (by omega)).mono ?_
  rintro e w4 ⟨rfl, o2', g4⟩
  replace o1 := o1.kept g4 d12
  have b4 : Below w.heap.size w w4 := (((b1.trans (b2.mono b1.size)).trans (b3.mono (Nat.le_trans b1.size b2.size)))).grown g4 (Nat.le_trans b1.size (Nat.le_trans b2.size b3.size)) (fun k hk => Nat.le_trans b1.size (o2.lt k hk).1)
  clear o2 g4 b1 b2 b3 d12
  go_wp2_with fail
  go_at_call 19
  refine (heldB_any o2'.sl (by omega) (by omega) (by omega)).mono ?_
  rintro e w5 ⟨rfl, b5⟩
  replace o1 := o1.below b5
  replace o2' := o2'.below b5
  replace b4 := b4.trans (b5.mono b4.size)
  clear b5
  go_wp2_with fail
  go_at_call 10
  refine (inum_any x _ hx2).mono ?_
  rintro e w6 ⟨v3, rfl, o3, b6⟩
  replace o1 := o1.below b6
  replace o2' := o2'.below b6
  replace b4 := b4.trans (b6.mono b4.size)
  clear b6
  go_wp2_with fail
  go_at_call 17
  refine (eqB_any o3.sl o1.sl (by omega) (by omega)).mono ?_
  rintro e w7 ⟨rfl, b7⟩
  replace o2' := o2'.below b7
  replace b4 := b4.trans (b7.mono b4.size)
  clear b7
  go_wp2_with fail
  go_at_call 19
  refine (heldB_any o2'.sl (by omega) (by omega) (by omega)).mono ?_
  rintro e w8 ⟨rfl, b8⟩
  replace b4 := b4.trans (b8.mono b4.size)
  clear b8
  go_wp2
  go_ret
  exact ⟨rfl, b4⟩
end Go.Proofs.Ytgcpdmnikoebkaa
