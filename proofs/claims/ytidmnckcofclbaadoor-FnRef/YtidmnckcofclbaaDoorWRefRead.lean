/- The law FnExactRefRead, walked from a contract of the program's RefRead: at every list, place and bool it returns true and writes nothing that was there. -/
import Derived.Test.YtidmnckcofclbaaDoorHelpI
import Derived.Test.YtidmnckcofclbaaDoorSRefRead3
namespace Go.Proofs.YtidmnckcofclbaaDoor
open Go.RowKit
set_option linter.unusedVariables false

theorem refRead_len (xs : List Int) (i : Int) (b : Bool) : (refRead xs i b).1.length ≤ 1 := by
  unfold refRead
  split
  · simp
  · split
    · simp only; split <;> simp
    · unfold refName
      simp only
      split
      · simp
      · split <;> simp

/-- What is asked of the program's RefRead, in every world that turns nothing of 'W'. -/
def RefReadOk (W : World) : Prop := ∀ (v : Value) (xs : List Int) (w : World), Below W.heap.size W w → Sl .i64 w v xs → ∀ (i : Int) (b : Bool), (Lit.int .i64 i).wf = true → xs.length ≤ 1048576 → Calls Tryd.prog 8 #[v, .int .i64 i, .bool b] w (Reads w (refRead xs i b))

set_option maxHeartbeats 2000000 in
set_option maxRecDepth 100000 in
theorem fnExactRefRead_of {v : Value} {xs : List Int} {i : Int} (w : World) (hI : RefReadOk w) (h : Sl .i64 w v xs) (hwf : ∀ n ∈ xs, (Lit.int .i64 n).wf = true) (hi : (Lit.int .i64 i).wf = true) (b : Bool) :
    Calls Tryd.prog 5 #[v, .int .i64 i, .bool b] w fun e w' => e = .returned (.bool true) ∧ Below w.heap.size w w' := by
  have h0 := h
  have hw := h
  have HI := (show Hid (RefReadOk w) from hI)
  have HW := (show Hid ((Lit.int .i64 i).wf = true) from hi)
  clear hI hi hwf
  obtain ⟨a, ca, rfl, _, _, _, ha⟩ := h
  clear ha
  by_cases hbig : 1048576 < xs.length
  · go_enter Tryd.func5, Tryd.ntmps5
    go_wp2
    go_ret
    exact ⟨rfl, Below.refl _ _⟩
  have hn : xs.length ≤ 1048576 := by omega
  have hl := refRead_len xs i b
  have CS := (show Hid (∀ (v : Value) (w : World), Sl .i64 w v xs → Calls Tryd.prog 9 #[v, .int .i64 i, .bool b] w (Reads w (refRead xs i b))) from fun v w h => srefRead_any h i b (by omega))
  have CI := (show Hid (∀ (v : Value) (w' : World), Below w.heap.size w w' → Sl .i64 w' v xs → Calls Tryd.prog 8 #[v, .int .i64 i, .bool b] w' (Reads w' (refRead xs i b))) from fun v w' hb h => HI.out v xs w' hb h i b HW.out hn)
  obtain ⟨r, hr⟩ : ∃ r, r = refRead xs i b := ⟨_, rfl⟩
  rw [← hr] at hl CS CI
  clear hr HI HW
  obtain ⟨rl, rn⟩ := r
  simp only at hl
  go_enter Tryd.func5, Tryd.ntmps5
  go_wp2_with fail
  go_at_call 14
  refine (toI_any h0 (by omega)).mono ?_
  rintro e w1 ⟨x1, rfl, ox1, b1⟩
  replace h0 := h0.below b1
  go_wp2_with fail
  go_at_call 9
  refine (CS.out _ _ ox1.sl).mono ?_
  rintro e w2 ⟨v1, rfl, o1, b2⟩
  replace h0 := h0.below b2
  have B : Below w.heap.size w w2 := b1.trans (b2.mono b1.size)
  replace o1 := o1.base b1.size
  clear ox1 b1 b2
  go_wp2_with fail
  go_at_call 14
  refine (toI_any h0 (by omega)).mono ?_
  rintro e w3 ⟨x0, rfl, ox, b3⟩
  have d1 := o1.ne ox
  have hbs := B.size
  replace h0 := h0.below b3
  replace o1 := o1.below b3
  replace B := B.trans (b3.mono hbs)
  replace ox := ox.base hbs
  clear b3 hbs
  go_wp2_with fail
  go_at_call 8
  refine (CI.out _ _ B ox.sl).mono ?_
  rintro e w4 ⟨v2, rfl, o2, b4⟩
  have d2 := ox.ne o2
  have d3 := o1.ne o2
  have hbs := B.size
  replace h0 := h0.below b4
  replace o1 := o1.below b4
  replace ox := ox.below b4
  replace B := B.trans (b4.mono hbs)
  replace o2 := o2.base hbs
  simp only at o1 o2
  clear b4 hbs
  go_wp2_with fail
  go_at_call 15
  refine (eqI_any o2.sl o1.sl (by omega) (by omega)).mono ?_
  rintro e w5 ⟨rfl, b5⟩
  replace h0 := h0.below b5
  replace o1 := o1.below b5
  replace ox := ox.below b5
  replace o2 := o2.below b5
  replace B := B.trans (b5.mono B.size)
  clear b5
  go_wp2_with fail
  go_at_call 14
  refine (toI_any h0 (by omega)).mono ?_
  rintro e w6 ⟨x2, rfl, ox2, b6⟩
  replace h0 := h0.below b6
  replace o1 := o1.below b6
  replace ox := ox.below b6
  replace o2 := o2.below b6
  replace B := B.trans (b6.mono B.size)
  clear b6
  go_wp2_with fail
  go_at_call 15
  refine (eqI_any ox.sl ox2.sl (by omega) (by omega)).mono ?_
  rintro e w7 ⟨rfl, b7⟩
  clear ox2
  replace h0 := h0.below b7
  replace o1 := o1.below b7
  replace ox := ox.below b7
  replace o2 := o2.below b7
  replace B := B.trans (b7.mono B.size)
  clear b7
  go_wp2_with fail
  go_at_call 16
  refine (markI_any ox (by omega) (by omega) (by omega)).mono ?_
  rintro e w8 ⟨rfl, oxm, g8⟩
  replace o1 := o1.kept g8 d1
  replace o2 := o2.kept g8 (fun k j hk hj => (d2 j k hj hk).symm)
  have hgx : ∀ k, x0.ownBlock = some k → w.heap.size ≤ k := ox.grownAt
  replace B := B.grown g8 B.size hgx
  clear g8 hgx d1 d2 ox oxm
  replace h0 := hw.below B
  go_wp2_with fail
  go_at_call 15
  refine (eqI_any o2.sl o1.sl (by omega) (by omega)).mono ?_
  rintro e w9 ⟨rfl, b9⟩
  replace h0 := h0.below b9
  replace o1 := o1.below b9
  replace o2 := o2.below b9
  replace B := B.trans (b9.mono B.size)
  clear b9
  go_wp2_with fail
  go_at_call 16
  refine (markI_any o2 (by omega) (by omega) (by omega)).mono ?_
  rintro e w10 ⟨rfl, o2m, g10⟩
  replace o1 := o1.kept g10 d3
  replace B := B.grown g10 B.size o2.grownAt
  replace h0 := hw.below B
  clear g10 d3 o2
  go_wp2_with fail
  go_at_call 17
  refine (heldI_any o2m.sl (by omega) (by omega) (by omega)).mono ?_
  rintro e w11 ⟨rfl, b11⟩
  replace h0 := h0.below b11
  replace o1 := o1.below b11
  replace o2m := o2m.below b11
  replace B := B.trans (b11.mono B.size)
  clear b11
  go_wp2_with fail
  go_at_call 14
  refine (toI_any h0 (by omega)).mono ?_
  rintro e w12 ⟨x3, rfl, ox3, b12⟩
  replace h0 := h0.below b12
  replace o1 := o1.below b12
  replace o2m := o2m.below b12
  replace B := B.trans (b12.mono B.size)
  clear b12
  go_wp2_with fail
  go_at_call 8
  refine (CI.out _ _ B ox3.sl).mono ?_
  rintro e w13 ⟨v3, rfl, o3, b13⟩
  clear ox3
  simp only at o3
  replace h0 := h0.below b13
  replace o1 := o1.below b13
  replace o2m := o2m.below b13
  replace B := B.trans (b13.mono B.size)
  clear b13
  go_wp2_with fail
  go_at_call 15
  refine (eqI_any o3.sl o1.sl (by omega) (by omega)).mono ?_
  rintro e w14 ⟨rfl, b14⟩
  clear o3 o1
  replace o2m := o2m.below b14
  replace B := B.trans (b14.mono B.size)
  clear b14
  go_wp2_with fail
  go_at_call 17
  refine (heldI_any o2m.sl (by omega) (by omega) (by omega)).mono ?_
  rintro e w15 ⟨rfl, b15⟩
  clear o2m
  replace B := B.trans (b15.mono B.size)
  go_wp2
  go_ret
  exact ⟨rfl, B⟩
end Go.Proofs.YtidmnckcofclbaaDoor
