/- The law FnExactGetText, walked: at every slice and place it returns true and writes nothing that was there. -/
import Derived.Test.YtgcpdmnikoebkaaHelp
import Derived.Test.YtgcpdmnikoebkaaIGetText
import Derived.Test.YtgcpdmnikoebkaaSGetText
import Derived.Test.YtgcpdmnikoebkaaUtfRead
namespace Go.Proofs.Ytgcpdmnikoebkaa
open Go.RowKit
set_option maxRecDepth 100000
set_option linter.unusedVariables false

theorem fnExactGetText_walk {v : Value} {xs : List Int} {i : Int} (w : World) (h : Sl .u8 w v xs) (hwf : ∀ n ∈ xs, (Lit.int .u8 n).wf = true) (hi : (Lit.int .i64 i).wf = true) :
    Calls Try.prog 7 #[v, .int .i64 i] w fun e w' => e = .returned (.bool true) ∧ Below w.heap.size w w' := by
  have h0 := h
  obtain ⟨a, ca, rfl, _, _, _, ha⟩ := h
  clear ha
  by_cases hbig : 1048576 < xs.length
  · go_enter Try.func7, Try.ntmps7
    go_wp2
    go_ret
    exact ⟨rfl, Below.refl _ _⟩
  have hn : xs.length ≤ 1048576 := by omega
  have S1 := fun (v : Value) (w : World) (h : Sl .u8 w v xs) => sgetText_any (i := i) h (byte_ok hwf) (by omega)
  have I1 := fun (v : Value) (w : World) (h : Sl .u8 w v xs) => igetText_any (i := i) h (byte_ok hwf) (by omega)
  obtain ⟨R, hR⟩ : ∃ R, R = rdT xs i := ⟨_, rfl⟩
  rw [← hR] at S1 I1
  clear hR
  rcases R with _ | ⟨y, n⟩
  all_goals
    unfold textVal at S1 I1
    have HS := (show Hid (∀ _ _, _) from S1)
    have HI := (show Hid (∀ _ _, _) from I1)
    clear S1 I1
    go_enter Try.func7, Try.ntmps7
    go_wp2_with fail
    go_at_call 21
    refine (toB_any h0 (by omega)).mono ?_
    rintro e w1 ⟨x1, rfl, ox1, b1⟩
    replace h0 := h0.below b1
    go_wp2_with fail
    go_at_call 23
    refine (HS.out _ _ ox1.sl).mono ?_
    rintro e w2 ⟨rfl, rfl⟩
    clear ox1
    go_wp2_with fail
    go_at_call 21
    refine (toB_any h0 (by omega)).mono ?_
    rintro e w3 ⟨x0, rfl, ox, b3⟩
    replace h0 := h0.below b3
    have B := b1.trans (b3.mono b1.size)
    replace ox := ox.base b1.size
    clear b1 b3
    go_wp2_with fail
    go_at_call 15
    refine (HI.out _ _ ox.sl).mono ?_
    rintro e w4 ⟨rfl, b4⟩
    replace h0 := h0.below b4
    replace ox := ox.below b4
    replace B := B.trans (b4.mono B.size)
    clear b4
    go_wp2_with fail
    go_at_call 21
    refine (toB_any h0 (by omega)).mono ?_
    rintro e w5 ⟨x5, rfl, o5, b5⟩
    replace ox := ox.below b5
    replace B := B.trans (b5.mono B.size)
    clear b5
    go_wp2_with fail
    go_at_call 17
    refine (eqB_any ox.sl o5.sl (by omega) (by omega)).mono ?_
    rintro e w6 ⟨rfl, b6⟩
    replace B := B.trans (b6.mono B.size)
    clear b6
    go_wp2
    go_ret
    exact ⟨rfl, B⟩
end Go.Proofs.Ytgcpdmnikoebkaa
