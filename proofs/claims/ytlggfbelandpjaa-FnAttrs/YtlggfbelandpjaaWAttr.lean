/- The exact laws of AttrsOk, AttrOf and AttrsSame, walked from contracts of the program's functions. -/
import Derived.Test.YtlggfbelandpjaaSAttr3
namespace Go.Proofs.Ytlggfbelandpjaa
open Go.RowKit
set_option linter.unusedVariables false

/-- Every text of a list is short. -/
def Short (rs : List (ByteArray × ByteArray)) : Prop := rs.length ≤ 1048576 ∧ ∀ p ∈ rs, p.1.size ≤ 1099511627776 ∧ p.2.size ≤ 1099511627776

/-- What is asked of the program's functions. -/
def AttrsOkOk : Prop := ∀ (v : Value) (rs : List (ByteArray × ByteArray)) (w : World), Sv 2 w v (pairCells rs) → Short rs → Calls Try.prog 13 #[v] w fun e w' => e = .returned (.bool (attrsOk rs)) ∧ Below w.heap.size w w'
def AttrOfOk : Prop := ∀ (v : Value) (rs : List (ByteArray × ByteArray)) (nm : ByteArray) (w : World), Sv 2 w v (pairCells rs) → Short rs → nm.size ≤ 1099511627776 → Calls Try.prog 12 #[v, .string nm] w fun e w' => e = .returned (.tuple #[.string (attrOf rs nm).1, .bool (attrOf rs nm).2]) ∧ Below w.heap.size w w'
def AttrsSameOk : Prop := ∀ (va vb : Value) (rs qs : List (ByteArray × ByteArray)) (w : World), Sv 2 w va (pairCells rs) → Sv 2 w vb (pairCells qs) → Short rs → Short qs → Calls Try.prog 14 #[va, vb] w fun e w' => e = .returned (.bool (attrsSame rs qs)) ∧ Below w.heap.size w w'

theorem short_of {rs : List (ByteArray × ByteArray)} {l r : Int} (hl : l ≤ 1048576) (h : (rs.length : Int) ≤ l ∧ ∀ p ∈ rs, (p.1.size : Int) + p.2.size ≤ l) : Short rs :=
  ⟨by have := h.1; omega, fun p hp => by have := h.2 p hp; omega⟩

set_option maxHeartbeats 2000000 in
set_option maxRecDepth 100000 in
theorem fnExactAttrsOk_of (hI : AttrsOkOk) {v : Value} {rs : List (ByteArray × ByteArray)} (w : World) (h : Sv 2 w v (pairCells rs)) (hs : ∀ p ∈ rs, p.1.size ≤ maxLen ∧ p.2.size ≤ maxLen) :
    Calls Try.prog 4 #[v] w fun e w' => e = .returned (.bool true) ∧ Below w.heap.size w w' := by
  have HI := (show Hid AttrsOkOk from hI)
  have csz := szAttrS_any h hs 1048576 (by omega) (by omega)
  have H := (show Hid (Sv 2 w v (pairCells rs)) from h)
  clear hI hs h
  go_enter Try.func4, Try.ntmps4
  go_wp2_with fail
  go_at_call 15
  refine csz.mono ?_
  rintro e w1 ⟨r, rfl, hr, b1⟩
  clear csz
  rcases hr with hr | ⟨hr0, hr1, hr2⟩
  · go_wp2
    go_ret
    exact ⟨rfl, b1⟩
  · have hsh : Short rs := short_of (r := r) (Int.le_refl _) hr2
    have HSH := (show Hid (Short rs) from hsh)
    have hlen : rs.length ≤ 1048576 := hsh.1
    clear hr2 hsh
    go_wp2_with fail
    go_at_call 17
    refine (toAttrS_any (H.out.below b1) hlen).mono ?_
    rintro e w2 ⟨v2, rfl, o2, b2⟩
    replace b2 := b1.trans (b2.mono b1.size)
    clear b1
    go_wp2_with fail
    go_at_call 16
    refine (sattrsOk_any (sv_of_own o2) (by omega) HSH.out.2).mono ?_
    rintro e w3 ⟨rfl, b3⟩
    replace b3 := b2.trans (b3.mono b2.size)
    clear b2 o2
    go_wp2_with fail
    go_at_call 17
    refine (toAttrS_any (H.out.below b3) hlen).mono ?_
    rintro e w4 ⟨v4, rfl, o4, b4⟩
    replace b4 := b3.trans (b4.mono b3.size)
    clear b3
    go_wp2_with fail
    go_at_call 13
    refine (HI.out _ _ _ (sv_of_own o4) HSH.out).mono ?_
    rintro e w5 ⟨rfl, b5⟩
    have o5 := ownsRow_below o4 b5
    replace b5 := b4.trans (b5.mono b4.size)
    clear b4 o4
    obtain ⟨p, hp⟩ : ∃ p, p = attrsOk rs := ⟨_, rfl⟩
    rw [← hp]
    clear hp
    cases p
    all_goals
      go_wp2_with fail
      go_at_call 17
      refine (toAttrS_any (H.out.below b5) hlen).mono ?_
      rintro e w6 ⟨v6, rfl, o6, b6⟩
      have o56 := ownsRow_below o5 b6
      replace b6 := b5.trans (b6.mono b5.size)
      clear b5 o5
      go_wp2_with fail
      go_at_call 18
      refine (eqAttrS_any (sv_of_own o56) (sv_of_own o6) (by omega) (by omega)).mono ?_
      rintro e w7 ⟨rfl, b7⟩
      rw [decide_eq_true rfl]
      go_wp2
      go_ret
      exact ⟨rfl, b6.trans (b7.mono b6.size)⟩

set_option maxHeartbeats 2000000 in
set_option maxRecDepth 100000 in
theorem fnExactAttrOf_of (hI : AttrOfOk) {v : Value} {rs : List (ByteArray × ByteArray)} {nm : ByteArray} (w : World) (h : Sv 2 w v (pairCells rs)) (hs : ∀ p ∈ rs, p.1.size ≤ maxLen ∧ p.2.size ≤ maxLen) (hnm : nm.size ≤ maxLen) :
    Calls Try.prog 5 #[v, .string nm] w fun e w' => e = .returned (.bool true) ∧ Below w.heap.size w w' := by
  have HI := (show Hid AttrOfOk from hI)
  have csz := szAttrS_any h hs 1048576 (by omega) (by omega)
  have H := (show Hid (Sv 2 w v (pairCells rs)) from h)
  clear hI hs h
  by_cases hnb : nm.size ≤ 1048576
  · go_enter Try.func5, Try.ntmps5
    go_wp2_with fail
    go_at_call 15
    refine csz.mono ?_
    rintro e w1 ⟨r, rfl, hr, b1⟩
    clear csz
    rcases hr with hr | ⟨hr0, hr1, hr2⟩
    · go_wp2
      go_ret
      exact ⟨rfl, b1⟩
    · have hsh : Short rs := short_of (r := r) (Int.le_refl _) hr2
      have HSH := (show Hid (Short rs) from hsh)
      have hlen : rs.length ≤ 1048576 := hsh.1
      clear hr2 hsh
      go_wp2_with fail
      go_at_call 17
      refine (toAttrS_any (H.out.below b1) hlen).mono ?_
      rintro e w2 ⟨v2, rfl, o2, b2⟩
      replace b2 := b1.trans (b2.mono b1.size)
      clear b1
      go_wp2_with fail
      go_at_call 19
      refine (sattrOf_any (sv_of_own o2) nm (by omega)).mono ?_
      rintro e w2 ⟨rfl, rfl⟩
      clear o2
      go_wp2_with fail
      go_at_call 17
      refine (toAttrS_any (H.out.below b2) hlen).mono ?_
      rintro e w4 ⟨v4, rfl, o4, b4⟩
      replace b4 := b2.trans (b4.mono b2.size)
      clear b2
      go_wp2_with fail
      go_at_call 12
      refine (HI.out _ _ nm _ (sv_of_own o4) HSH.out (by omega)).mono ?_
      rintro e w5 ⟨rfl, b5⟩
      have o5 := ownsRow_below o4 b5
      replace b5 := b4.trans (b5.mono b4.size)
      clear b4 o4
      obtain ⟨p, hp⟩ : ∃ p, p = attrOf rs nm := ⟨_, rfl⟩
      rw [← hp]
      clear hp
      obtain ⟨pv, pb⟩ := p
      simp only
      cases pb
      all_goals
        go_wp2_with fail
        go_at_call 17
        refine (toAttrS_any (H.out.below b5) hlen).mono ?_
        rintro e w6 ⟨v6, rfl, o6, b6⟩
        have o56 := ownsRow_below o5 b6
        replace b6 := b5.trans (b6.mono b5.size)
        clear b5 o5
        go_wp2_with fail
        go_at_call 18
        refine (eqAttrS_any (sv_of_own o56) (sv_of_own o6) (by omega) (by omega)).mono ?_
        rintro e w7 ⟨rfl, b7⟩
        rw [decide_eq_true rfl]
        go_wp2
        go_ret
        exact ⟨rfl, b6.trans (b7.mono b6.size)⟩
  · go_enter Try.func5, Try.ntmps5
    go_wp2
    go_ret
    exact ⟨rfl, Below.refl _ _⟩
end Go.Proofs.Ytlggfbelandpjaa
