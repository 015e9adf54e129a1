/- The exact laws of chapter 9, walked (written by mk/wkind.py). -/
import Derived.Test.YtippcgjoidgahaaIKind2
import Derived.Test.YtippcgjoidgahaaSKind
namespace Go.Proofs.Ytippcgjoidgahaa
open Go.RowKit
set_option maxRecDepth 100000
set_option linter.unusedVariables false

theorem sisSpecial_any (s : ByteArray) (w : World) :
    Calls Try.prog 26 #[.string s] w fun e w' => e = .returned (.bool (specialF s)) ∧ Below w.heap.size w w' := by
  by_cases h1 : s = dialogB
  · refine (sisSpecial_no s w (.inl h1)).mono ?_
    rintro e w' ⟨rfl, b⟩
    refine ⟨?_, b⟩
    subst h1
    simp [specialF]
  by_cases h2 : s = searchB
  · refine (sisSpecial_no s w (.inr h2)).mono ?_
    rintro e w' ⟨rfl, b⟩
    refine ⟨?_, b⟩
    subst h2
    simp [specialF]
  refine (sisSpecial_yes s w h1 h2).mono ?_
  rintro e w' ⟨rfl, b⟩
  refine ⟨?_, b⟩
  simp [specialF, special4, hasB_append, toList_no h1, toList_no h2]

theorem fnExactIsFormat_walk {s : ByteArray} (w : World) (hs : s.size ≤ maxLen) :
    Calls Try.prog 4 #[.string s] w fun e w' => e = .returned (.bool true) ∧ Below w.heap.size w w' := by
  by_cases hl : s.size ≤ 1048576
  · have h1 := fun w => sisFormat_any s w
    have h2 := fun w => iisFormat_any s hs w
    obtain ⟨t, ht⟩ : ∃ t, t = hasB formats s := ⟨_, rfl⟩
    rw [← ht] at h1 h2
    clear ht
    cases t
    all_goals
      go_enter Try.func4, Try.ntmps4
      go_wp2_with fail
      go_at_call 17
      refine (h1 _).mono ?_
      rintro e w1 ⟨rfl, b1⟩
      go_wp2_with fail
      go_at_call 13
      refine (h2 _).mono ?_
      rintro e w2 ⟨rfl, b2⟩
      go_wp2
      go_ret
      exact ⟨rfl, b1.trans (b2.mono b1.size)⟩
  · go_enter Try.func4, Try.ntmps4
    go_wp2
    go_ret
    exact ⟨rfl, Below.refl _ _⟩

theorem fnExactIsBlock_walk {s : ByteArray} (w : World) (hs : s.size ≤ maxLen) :
    Calls Try.prog 5 #[.string s] w fun e w' => e = .returned (.bool true) ∧ Below w.heap.size w w' := by
  by_cases hl : s.size ≤ 1048576
  · have h1 := fun w => sisBlock_any s w
    have h2 := fun w => iisBlock_any s hs w
    obtain ⟨t, ht⟩ : ∃ t, t = hasB blocks s := ⟨_, rfl⟩
    rw [← ht] at h1 h2
    clear ht
    cases t
    all_goals
      go_enter Try.func5, Try.ntmps5
      go_wp2_with fail
      go_at_call 18
      refine (h1 _).mono ?_
      rintro e w1 ⟨rfl, b1⟩
      go_wp2_with fail
      go_at_call 14
      refine (h2 _).mono ?_
      rintro e w2 ⟨rfl, b2⟩
      go_wp2
      go_ret
      exact ⟨rfl, b1.trans (b2.mono b1.size)⟩
  · go_enter Try.func5, Try.ntmps5
    go_wp2
    go_ret
    exact ⟨rfl, Below.refl _ _⟩

theorem fnExactIsHeading_walk {s : ByteArray} (w : World) (hs : s.size ≤ maxLen) :
    Calls Try.prog 6 #[.string s] w fun e w' => e = .returned (.bool true) ∧ Below w.heap.size w w' := by
  by_cases hl : s.size ≤ 1048576
  · have h1 := fun w => sisHeading_any s w
    have h2 := fun w => iisHeading_any s hs w
    obtain ⟨t, ht⟩ : ∃ t, t = hasB headings s := ⟨_, rfl⟩
    rw [← ht] at h1 h2
    clear ht
    cases t
    all_goals
      go_enter Try.func6, Try.ntmps6
      go_wp2_with fail
      go_at_call 19
      refine (h1 _).mono ?_
      rintro e w1 ⟨rfl, b1⟩
      go_wp2_with fail
      go_at_call 15
      refine (h2 _).mono ?_
      rintro e w2 ⟨rfl, b2⟩
      go_wp2
      go_ret
      exact ⟨rfl, b1.trans (b2.mono b1.size)⟩
  · go_enter Try.func6, Try.ntmps6
    go_wp2
    go_ret
    exact ⟨rfl, Below.refl _ _⟩

theorem fnExactIsHead_walk {s : ByteArray} (w : World) (hs : s.size ≤ maxLen) :
    Calls Try.prog 7 #[.string s] w fun e w' => e = .returned (.bool true) ∧ Below w.heap.size w w' := by
  by_cases hl : s.size ≤ 1048576
  · have h1 := fun w => sisHead_any s w
    have h2 := fun w => iisHead_any s hs w
    obtain ⟨t, ht⟩ : ∃ t, t = hasB heads s := ⟨_, rfl⟩
    rw [← ht] at h1 h2
    clear ht
    cases t
    all_goals
      go_enter Try.func7, Try.ntmps7
      go_wp2_with fail
      go_at_call 20
      refine (h1 _).mono ?_
      rintro e w1 ⟨rfl, b1⟩
      go_wp2_with fail
      go_at_call 16
      refine (h2 _).mono ?_
      rintro e w2 ⟨rfl, b2⟩
      go_wp2
      go_ret
      exact ⟨rfl, b1.trans (b2.mono b1.size)⟩
  · go_enter Try.func7, Try.ntmps7
    go_wp2
    go_ret
    exact ⟨rfl, Below.refl _ _⟩

theorem fnExactIsSpecial_walk {s : ByteArray} (w : World) (hs : s.size ≤ maxLen) :
    Calls Try.prog 8 #[.string s] w fun e w' => e = .returned (.bool true) ∧ Below w.heap.size w w' := by
  by_cases hl : s.size ≤ 1048576
  · have h1 := fun w => sisSpecial_any s w
    have h2 := fun w => iisSpecial_any s hs w
    obtain ⟨t, ht⟩ : ∃ t, t = specialF s := ⟨_, rfl⟩
    rw [← ht] at h1 h2
    clear ht
    cases t
    all_goals
      go_enter Try.func8, Try.ntmps8
      go_wp2_with fail
      go_at_call 26
      refine (h1 _).mono ?_
      rintro e w1 ⟨rfl, b1⟩
      go_wp2_with fail
      go_at_call 25
      refine (h2 _).mono ?_
      rintro e w2 ⟨rfl, b2⟩
      go_wp2
      go_ret
      exact ⟨rfl, b1.trans (b2.mono b1.size)⟩
  · go_enter Try.func8, Try.ntmps8
    go_wp2
    go_ret
    exact ⟨rfl, Below.refl _ _⟩

theorem fnExactIsImplied_walk {s : ByteArray} (w : World) (hs : s.size ≤ maxLen) :
    Calls Try.prog 9 #[.string s] w fun e w' => e = .returned (.bool true) ∧ Below w.heap.size w w' := by
  by_cases hl : s.size ≤ 1048576
  · have h1 := fun w => sisImplied_any s w
    have h2 := fun w => iisImplied_any s hs w
    obtain ⟨t, ht⟩ : ∃ t, t = hasB implieds s := ⟨_, rfl⟩
    rw [← ht] at h1 h2
    clear ht
    cases t
    all_goals
      go_enter Try.func9, Try.ntmps9
      go_wp2_with fail
      go_at_call 24
      refine (h1 _).mono ?_
      rintro e w1 ⟨rfl, b1⟩
      go_wp2_with fail
      go_at_call 23
      refine (h2 _).mono ?_
      rintro e w2 ⟨rfl, b2⟩
      go_wp2
      go_ret
      exact ⟨rfl, b1.trans (b2.mono b1.size)⟩
  · go_enter Try.func9, Try.ntmps9
    go_wp2
    go_ret
    exact ⟨rfl, Below.refl _ _⟩

theorem fnExactIsBound_walk {s : ByteArray} (w : World) (hs : s.size ≤ maxLen) :
    Calls Try.prog 10 #[.string s] w fun e w' => e = .returned (.bool true) ∧ Below w.heap.size w w' := by
  by_cases hl : s.size ≤ 1048576
  · have h1 := fun w => sisBound_any s w
    have h2 := fun w => iisBound_any s hs w
    obtain ⟨t, ht⟩ : ∃ t, t = hasB bounds s := ⟨_, rfl⟩
    rw [← ht] at h1 h2
    clear ht
    cases t
    all_goals
      go_enter Try.func10, Try.ntmps10
      go_wp2_with fail
      go_at_call 22
      refine (h1 _).mono ?_
      rintro e w1 ⟨rfl, b1⟩
      go_wp2_with fail
      go_at_call 21
      refine (h2 _).mono ?_
      rintro e w2 ⟨rfl, b2⟩
      go_wp2
      go_ret
      exact ⟨rfl, b1.trans (b2.mono b1.size)⟩
  · go_enter Try.func10, Try.ntmps10
    go_wp2
    go_ret
    exact ⟨rfl, Below.refl _ _⟩
end Go.Proofs.Ytippcgjoidgahaa
