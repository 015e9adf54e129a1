/- The law FnExactPutText, walked: at every string it returns true and writes nothing that was there. -/
import Derived.Test.YtgcpdmnikoebkaaHelp
import Derived.Test.YtgcpdmnikoebkaaIPutText
namespace Go.Proofs.Ytgcpdmnikoebkaa
open Go.RowKit
set_option maxRecDepth 100000
set_option linter.unusedVariables false

theorem fnExactPutText_walk {s : ByteArray} (w : World) (hs : s.size ≤ maxLen) :
    Calls Try.prog 6 #[.string s] w fun e w' => e = .returned (.bool true) ∧ Below w.heap.size w w' := by
  by_cases hle : s.size ≤ 1048576
  · have hl := textForm_len s
    go_enter Try.func6, Try.ntmps6
    go_wp2_with fail
    go_at_call 22
    refine (sputText_any s _ (by omega)).mono ?_
    rintro e w1 ⟨v1, rfl, o1, b1⟩
    go_wp2_with fail
    go_at_call 14
    refine (iputText_any s _ (by omega)).mono ?_
    rintro e w2 ⟨v2, rfl, o2, b2⟩
    have d12 := o1.ne o2
    replace o1 := o1.below b2
    go_wp2_with fail
    go_at_call 17
    refine (eqB_any o2.sl o1.sl (by omega) (by omega)).mono ?_
    rintro e w3 ⟨rfl, b3⟩
    replace o1 := o1.below b3
    replace o2 := o2.below b3
    go_wp2_with fail
    go_at_call 18
    refine (markB_any o2 (by omega) (by omega) (by omega)).mono ?_
    rintro e w4 ⟨rfl, o2', g4⟩
    replace o1 := o1.kept g4 d12
    have b4 : Below w.heap.size w w4 := (((b1.trans (b2.mono b1.size)).trans (b3.mono (Nat.le_trans b1.size b2.size)))).grown g4 (Nat.le_trans b1.size (Nat.le_trans b2.size b3.size)) (fun k hk => Nat.le_trans b1.size (o2.lt k hk).1)
    clear o2 g4 b1 b2 b3 d12
    go_wp2_with fail
    go_at_call 19
    refine (heldB_any o2'.sl (by omega) (by omega) (by omega)).mono ?_
    rintro e w5 ⟨rfl, b5⟩
    replace o1 := o1.below b5
    replace o2' := o2'.below b5
    replace b4 := b4.trans (b5.mono b4.size)
    clear b5
    go_wp2_with fail
    go_at_call 14
    refine (iputText_any s _ (by omega)).mono ?_
    rintro e w6 ⟨v3, rfl, o3, b6⟩
    replace o1 := o1.below b6
    replace o2' := o2'.below b6
    replace b4 := b4.trans (b6.mono b4.size)
    clear b6
    go_wp2_with fail
    go_at_call 17
    refine (eqB_any o3.sl o1.sl (by omega) (by omega)).mono ?_
    rintro e w7 ⟨rfl, b7⟩
    replace o2' := o2'.below b7
    replace b4 := b4.trans (b7.mono b4.size)
    clear b7
    go_wp2_with fail
    go_at_call 19
    refine (heldB_any o2'.sl (by omega) (by omega) (by omega)).mono ?_
    rintro e w8 ⟨rfl, b8⟩
    replace b4 := b4.trans (b8.mono b4.size)
    clear b8
    go_wp2
    go_ret
    exact ⟨rfl, b4⟩
  · go_enter Try.func6, Try.ntmps6
    go_wp2
    go_ret
    exact ⟨rfl, Below.refl _ _⟩
end Go.Proofs.Ytgcpdmnikoebkaa
