/- The law FnExactUtfOk, walked: at every slice it returns true and writes nothing that was there. -/
import Derived.Test.YtphaogkgnpalgaaHelp
import Derived.Test.YtphaogkgnpalgaaOk
namespace Go.Proofs.Ytphaogkgnpalgaa
open Go.RowKit
set_option linter.unusedVariables false

theorem fnExactUtfOk_walk {v : Value} {xs : List Int} (w : World) (h : Sl .u8 w v xs) (hwf : ∀ n ∈ xs, (Lit.int .u8 n).wf = true) :
    Calls Try.prog 10 #[v] w fun e w' => e = .returned (.bool true) ∧ Below w.heap.size w w' := by
  have h0 := h
  obtain ⟨a, ca, rfl, _, _, _, ha⟩ := h
  clear ha
  by_cases hbig : 1048576 < xs.length
  · go_enter Try.func10, Try.ntmps10
    go_wp2
    go_ret
    exact ⟨rfl, Below.refl _ _⟩
  have hn : xs.length ≤ 1048576 := by omega
  obtain ⟨r, hr⟩ : ∃ r, r = utfOk xs := ⟨_, rfl⟩
  have HR : Hid (utfOk xs = r) := hr.symm
  clear hr
  have HB : Hid (∀ x ∈ xs, 0 ≤ x ∧ x ≤ 255) := byte_ok hwf
  clear hwf
  cases r
  all_goals
    go_enter Try.func10, Try.ntmps10
    go_wp2_with fail
    go_at_call 34
    refine (toB_any h0 (by omega)).mono ?_
    rintro e w1 ⟨x1, rfl, ox1, b1⟩
    replace h0 := h0.below b1
    go_wp2_with fail
    go_at_call 36
    refine (sutfOk_any ox1.sl HB.out (by omega)).mono ?_
    rintro e w2 ⟨rfl, b2⟩
    rw [HR.out]
    replace h0 := h0.below b2
    have B : Below w.heap.size w w2 := b1.trans (b2.mono b1.size)
    clear ox1 b1 b2
    go_wp2_with fail
    go_at_call 34
    refine (toB_any h0 (by omega)).mono ?_
    rintro e w3 ⟨x0, rfl, ox, b3⟩
    replace h0 := h0.below b3
    replace B := B.trans (b3.mono B.size)
    clear b3
    go_wp2_with fail
    go_at_call 20
    refine (iutfOk_any ox.sl HB.out (by omega)).mono ?_
    rintro e w4 ⟨rfl, b4⟩
    rw [HR.out]
    replace h0 := h0.below b4
    replace ox := ox.below b4
    replace B := B.trans (b4.mono B.size)
    clear b4
    go_wp2_with fail
    go_at_call 34
    refine (toB_any h0 (by omega)).mono ?_
    rintro e w5 ⟨x2, rfl, ox2, b5⟩
    replace ox := ox.below b5
    replace B := B.trans (b5.mono B.size)
    clear b5
    go_wp2_with fail
    go_at_call 27
    refine (eqB_any ox.sl ox2.sl (by omega) (by omega)).mono ?_
    rintro e w6 ⟨rfl, b6⟩
    replace B := B.trans (b6.mono B.size)
    go_wp2
    go_ret
    exact ⟨rfl, B⟩
end Go.Proofs.Ytphaogkgnpalgaa
