/- The law FnExactFmtLess, walked: at every slice it returns true and writes nothing that was there. -/
import Derived.Test.YtfgpmnkaabpppaaHelp
import Derived.Test.YtfgpmnkaabpppaaHelpI
import Derived.Test.YtfgpmnkaabpppaaLess
namespace Go.Proofs.Ytfgpmnkaabpppaa
open Go.RowKit
set_option maxRecDepth 100000
set_option linter.unusedVariables false

theorem fnExactFmtLess_walk {v : Value} {xs : List Int} {x : Int} (w : World) (h : Sl .i64 w v xs) (hwf : ∀ n ∈ xs, (Lit.int .i64 n).wf = true) (hx : (Lit.int .i64 x).wf = true) :
    Calls Try.prog 6 #[v, .int .i64 x] w fun e w' => e = .returned (.bool true) ∧ Below w.heap.size w w' := by
  have h0 := h
  have hw := h
  obtain ⟨a, ca, rfl, _, _, _, ha⟩ := h
  clear ha
  by_cases hbig : 1048576 < xs.length
  · go_enter Try.func6, Try.ntmps6
    go_wp2
    go_ret
    exact ⟨rfl, Below.refl _ _⟩
  have hn : xs.length ≤ 1048576 := by omega
  have hl := lessL_len x xs
  go_enter Try.func6, Try.ntmps6
  go_wp2_with fail
  go_at_call 10
  refine (toI_any h0 (by omega)).mono ?_
  rintro e w1 ⟨x1, rfl, ox1, b1⟩
  replace h0 := h0.below b1
  go_wp2_with fail
  go_at_call 20
  refine (sfmtLess_any x ox1.sl  (by omega)).mono ?_
  rintro e w2 ⟨v1, rfl, o1, b2⟩
  replace h0 := h0.below b2
  have B : Below w.heap.size w w2 := b1.trans (b2.mono b1.size)
  replace o1 := o1.base b1.size
  clear ox1 b1 b2
  go_wp2_with fail
  go_at_call 10
  refine (toI_any h0 (by omega)).mono ?_
  rintro e w3 ⟨x0, rfl, ox, b3⟩
  have d1 := o1.ne ox
  have hbs := B.size
  replace h0 := h0.below b3
  replace o1 := o1.below b3
  replace B := B.trans (b3.mono hbs)
  replace ox := ox.base hbs
  clear b3 hbs
  go_wp2_with fail
  go_at_call 21
  refine (ifmtLess_any x ox.sl  (by omega)).mono ?_
  rintro e w4 ⟨v2, rfl, o2, b4⟩
  have d2 := ox.ne o2
  have d3 := o1.ne o2
  have hbs := B.size
  replace h0 := h0.below b4
  replace o1 := o1.below b4
  replace ox := ox.below b4
  replace B := B.trans (b4.mono hbs)
  replace o2 := o2.base hbs
  clear b4 hbs
  go_wp2_with fail
  go_at_call 13
  refine (eqI_any o2.sl o1.sl (by omega) (by omega)).mono ?_
  rintro e w5 ⟨rfl, b5⟩
  replace h0 := h0.below b5
  replace o1 := o1.below b5
  replace ox := ox.below b5
  replace o2 := o2.below b5
  replace B := B.trans (b5.mono B.size)
  clear b5
  go_wp2_with fail
  go_at_call 10
  refine (toI_any h0 (by omega)).mono ?_
  rintro e w6 ⟨x2, rfl, ox2, b6⟩
  replace h0 := h0.below b6
  replace o1 := o1.below b6
  replace ox := ox.below b6
  replace o2 := o2.below b6
  replace B := B.trans (b6.mono B.size)
  clear b6
  go_wp2_with fail
  go_at_call 13
  refine (eqI_any ox.sl ox2.sl (by omega) (by omega)).mono ?_
  rintro e w7 ⟨rfl, b7⟩
  clear ox2
  replace h0 := h0.below b7
  replace o1 := o1.below b7
  replace ox := ox.below b7
  replace o2 := o2.below b7
  replace B := B.trans (b7.mono B.size)
  clear b7
  go_wp2_with fail
  go_at_call 16
  refine (markI_any ox (by omega) (by omega) (by omega)).mono ?_
  rintro e w8 ⟨rfl, oxm, g8⟩
  replace o1 := o1.kept g8 d1
  replace o2 := o2.kept g8 (fun k j hk hj => (d2 j k hj hk).symm)
  have hgx : ∀ k, x0.ownBlock = some k → w.heap.size ≤ k := ox.grownAt
  replace B := B.grown g8 B.size hgx
  clear g8 hgx d1 d2 ox oxm
  replace h0 := hw.below B
  go_wp2_with fail
  go_at_call 13
  refine (eqI_any o2.sl o1.sl (by omega) (by omega)).mono ?_
  rintro e w9 ⟨rfl, b9⟩
  replace h0 := h0.below b9
  replace o1 := o1.below b9
  replace o2 := o2.below b9
  replace B := B.trans (b9.mono B.size)
  clear b9
  go_wp2_with fail
  go_at_call 16
  refine (markI_any o2 (by omega) (by omega) (by omega)).mono ?_
  rintro e w10 ⟨rfl, o2m, g10⟩
  replace o1 := o1.kept g10 d3
  replace B := B.grown g10 B.size o2.grownAt
  replace h0 := hw.below B
  clear g10 d3 o2
  go_wp2_with fail
  go_at_call 17
  refine (heldI_any o2m.sl (by omega) (by omega) (by omega)).mono ?_
  rintro e w11 ⟨rfl, b11⟩
  replace h0 := h0.below b11
  replace o1 := o1.below b11
  replace o2m := o2m.below b11
  replace B := B.trans (b11.mono B.size)
  clear b11
  go_wp2_with fail
  go_at_call 10
  refine (toI_any h0 (by omega)).mono ?_
  rintro e w12 ⟨x3, rfl, ox3, b12⟩
  replace h0 := h0.below b12
  replace o1 := o1.below b12
  replace o2m := o2m.below b12
  replace B := B.trans (b12.mono B.size)
  clear b12
  go_wp2_with fail
  go_at_call 21
  refine (ifmtLess_any x ox3.sl  (by omega)).mono ?_
  rintro e w13 ⟨v3, rfl, o3, b13⟩
  clear ox3
  replace h0 := h0.below b13
  replace o1 := o1.below b13
  replace o2m := o2m.below b13
  replace B := B.trans (b13.mono B.size)
  clear b13
  go_wp2_with fail
  go_at_call 13
  refine (eqI_any o3.sl o1.sl (by omega) (by omega)).mono ?_
  rintro e w14 ⟨rfl, b14⟩
  clear o3 o1
  replace o2m := o2m.below b14
  replace B := B.trans (b14.mono B.size)
  clear b14
  go_wp2_with fail
  go_at_call 17
  refine (heldI_any o2m.sl (by omega) (by omega) (by omega)).mono ?_
  rintro e w15 ⟨rfl, b15⟩
  clear o2m
  replace B := B.trans (b15.mono B.size)
  go_wp2
  go_ret
  exact ⟨rfl, B⟩
end Go.Proofs.Ytfgpmnkaabpppaa
