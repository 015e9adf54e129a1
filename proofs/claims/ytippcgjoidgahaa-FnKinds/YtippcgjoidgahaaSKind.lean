/- The specification's kinds of elements (written by mk/skind.py). -/
import Derived.Test.YtippcgjoidgahaaIKind1
namespace Go.Proofs.Ytippcgjoidgahaa
open Go.RowKit
set_option maxRecDepth 100000
set_option linter.unusedVariables false

theorem sisFormat_any (s : ByteArray) (w : World) :
    Calls Try.prog 17 #[.string s] w fun e w' => e = .returned (.bool (hasB formats s)) ∧ Below w.heap.size w w' := by
  go_enter Try.func17, Try.ntmps17
  go_wp2_with fail
  go_at_call 29
  refine (sin_any (ts := formats) (txt_alloc w _ formats _ rfl) s (by decide) rfl).mono ?_
  rintro e w1 ⟨rfl, rfl⟩
  go_wp2
  go_ret
  exact ⟨rfl, (Below.refl _ _).alloc (Nat.le_refl _) _⟩

theorem sisBlock_any (s : ByteArray) (w : World) :
    Calls Try.prog 18 #[.string s] w fun e w' => e = .returned (.bool (hasB blocks s)) ∧ Below w.heap.size w w' := by
  go_enter Try.func18, Try.ntmps18
  go_wp2_with fail
  go_at_call 29
  refine (sin_any (ts := blocks) (txt_alloc w _ blocks _ rfl) s (by decide) rfl).mono ?_
  rintro e w1 ⟨rfl, rfl⟩
  go_wp2
  go_ret
  exact ⟨rfl, (Below.refl _ _).alloc (Nat.le_refl _) _⟩

theorem sisHeading_any (s : ByteArray) (w : World) :
    Calls Try.prog 19 #[.string s] w fun e w' => e = .returned (.bool (hasB headings s)) ∧ Below w.heap.size w w' := by
  go_enter Try.func19, Try.ntmps19
  go_wp2_with fail
  go_at_call 29
  refine (sin_any (ts := headings) (txt_alloc w _ headings _ rfl) s (by decide) rfl).mono ?_
  rintro e w1 ⟨rfl, rfl⟩
  go_wp2
  go_ret
  exact ⟨rfl, (Below.refl _ _).alloc (Nat.le_refl _) _⟩

theorem sisHead_any (s : ByteArray) (w : World) :
    Calls Try.prog 20 #[.string s] w fun e w' => e = .returned (.bool (hasB heads s)) ∧ Below w.heap.size w w' := by
  go_enter Try.func20, Try.ntmps20
  go_wp2_with fail
  go_at_call 29
  refine (sin_any (ts := heads) (txt_alloc w _ heads _ rfl) s (by decide) rfl).mono ?_
  rintro e w1 ⟨rfl, rfl⟩
  go_wp2
  go_ret
  exact ⟨rfl, (Below.refl _ _).alloc (Nat.le_refl _) _⟩

theorem sisImplied_any (s : ByteArray) (w : World) :
    Calls Try.prog 24 #[.string s] w fun e w' => e = .returned (.bool (hasB implieds s)) ∧ Below w.heap.size w w' := by
  go_enter Try.func24, Try.ntmps24
  go_wp2_with fail
  go_at_call 29
  refine (sin_any (ts := implieds) (txt_alloc w _ implieds _ rfl) s (by decide) rfl).mono ?_
  rintro e w1 ⟨rfl, rfl⟩
  go_wp2
  go_ret
  exact ⟨rfl, (Below.refl _ _).alloc (Nat.le_refl _) _⟩

theorem sisBound_any (s : ByteArray) (w : World) :
    Calls Try.prog 22 #[.string s] w fun e w' => e = .returned (.bool (hasB bounds s)) ∧ Below w.heap.size w w' := by
  go_enter Try.func22, Try.ntmps22
  go_wp2_with fail
  go_at_call 29
  refine (sin_any (ts := bounds) (txt_alloc w _ bounds _ rfl) s (by decide) rfl).mono ?_
  rintro e w1 ⟨rfl, rfl⟩
  go_wp2
  go_ret
  exact ⟨rfl, (Below.refl _ _).alloc (Nat.le_refl _) _⟩

def special4 (s : ByteArray) : Bool := hasB blocks s || (hasB headings s || (hasB heads s || hasB otherSpecials s))

theorem sisSpecial_yes (s : ByteArray) (w : World) (h1 : s ≠ dialogB) (h2 : s ≠ searchB) :
    Calls Try.prog 26 #[.string s] w fun e w' => e = .returned (.bool (special4 s)) ∧ Below w.heap.size w w' := by
  have d1 := toList_no h1
  have d2 := toList_no h2
  have e1 : dialogB.toList = [100, 105, 97, 108, 111, 103] := by simp [dialogB, ByteArray.toList_eq]
  have e2 : searchB.toList = [115, 101, 97, 114, 99, 104] := by simp [searchB, ByteArray.toList_eq]
  obtain ⟨x1, hx1⟩ : ∃ x, x = hasB blocks s := ⟨_, rfl⟩
  obtain ⟨x2, hx2⟩ : ∃ x, x = hasB headings s := ⟨_, rfl⟩
  obtain ⟨x3, hx3⟩ : ∃ x, x = hasB heads s := ⟨_, rfl⟩
  have q1 := fun w => sisBlock_any s w
  have q2 := fun w => sisHeading_any s w
  have q3 := fun w => sisHead_any s w
  rw [← hx1] at q1
  rw [← hx2] at q2
  rw [← hx3] at q3
  have HX : Hid (special4 s = (x1 || (x2 || (x3 || hasB otherSpecials s)))) := by rw [hx1, hx2, hx3]; rfl
  have Q1 := (show Hid _ from q1)
  have Q2 := (show Hid _ from q2)
  have Q3 := (show Hid _ from q3)
  clear q1 q2 q3 hx1 hx2 hx3
  simp only [e1, e2] at d1 d2
  clear h1 h2 e1 e2
  by_cases hx1 : x1 = true
  · subst hx1
    go_enter Try.func26, Try.ntmps26
    go_wp2_with fail
    go_at_call 18
    refine (Q1.out _).mono ?_
    rintro e w1 ⟨rfl, b1⟩
    go_wp2
    go_ret
    refine ⟨ret_bool ?_, ?_⟩
    · rw [HX.out]; simp
    · exact b1
  simp only [Bool.not_eq_true] at hx1
  subst hx1
  by_cases hx2 : x2 = true
  · subst hx2
    go_enter Try.func26, Try.ntmps26
    go_wp2_with fail
    go_at_call 18
    refine (Q1.out _).mono ?_
    rintro e w1 ⟨rfl, b1⟩
    go_wp2_with fail
    go_at_call 19
    refine (Q2.out _).mono ?_
    rintro e w2 ⟨rfl, b2⟩
    go_wp2
    go_ret
    refine ⟨ret_bool ?_, ?_⟩
    · rw [HX.out]; simp
    · exact b1.trans (b2.mono b1.size)
  simp only [Bool.not_eq_true] at hx2
  subst hx2
  by_cases hx3 : x3 = true
  · subst hx3
    go_enter Try.func26, Try.ntmps26
    go_wp2_with fail
    go_at_call 18
    refine (Q1.out _).mono ?_
    rintro e w1 ⟨rfl, b1⟩
    go_wp2_with fail
    go_at_call 19
    refine (Q2.out _).mono ?_
    rintro e w2 ⟨rfl, b2⟩
    go_wp2_with fail
    go_at_call 20
    refine (Q3.out _).mono ?_
    rintro e w3 ⟨rfl, b3⟩
    go_wp2
    go_ret
    refine ⟨ret_bool ?_, ?_⟩
    · rw [HX.out]; simp
    · exact (b1.trans (b2.mono b1.size)).trans (b3.mono (Nat.le_trans b1.size b2.size))
  simp only [Bool.not_eq_true] at hx3
  subst hx3
  go_enter Try.func26, Try.ntmps26
  go_wp2_with fail
  go_at_call 18
  refine (Q1.out _).mono ?_
  rintro e w1 ⟨rfl, b1⟩
  go_wp2_with fail
  go_at_call 19
  refine (Q2.out _).mono ?_
  rintro e w2 ⟨rfl, b2⟩
  go_wp2_with fail
  go_at_call 20
  refine (Q3.out _).mono ?_
  rintro e w3 ⟨rfl, b3⟩
  go_wp2_with fail
  go_at_call 29
  refine (sin_any (ts := otherSpecials) (txt_alloc w3 _ otherSpecials _ rfl) s (by decide) rfl).mono ?_
  rintro e w4 ⟨rfl, rfl⟩
  go_wp2
  go_ret
  refine ⟨ret_bool ?_, ?_⟩
  · rw [HX.out]; simp
  · exact ((b1.trans (b2.mono b1.size)).trans (b3.mono (Nat.le_trans b1.size b2.size))).alloc (Nat.le_trans b1.size (Nat.le_trans b2.size b3.size)) _

theorem sisSpecial_no (s : ByteArray) (w : World) (h : s = dialogB ∨ s = searchB) :
    Calls Try.prog 26 #[.string s] w fun e w' => e = .returned (.bool false) ∧ Below w.heap.size w w' := by
  have e1 : dialogB.toList = [100, 105, 97, 108, 111, 103] := by simp [dialogB, ByteArray.toList_eq]
  have e2 : searchB.toList = [115, 101, 97, 114, 99, 104] := by simp [searchB, ByteArray.toList_eq]
  rcases h with rfl | rfl
  · have d1 : (dialogB.toList == [100, 105, 97, 108, 111, 103]) = true := by rw [e1]; rfl
    clear e1 e2
    go_enter Try.func26, Try.ntmps26
    go_wp2
    go_ret
    exact ⟨rfl, Below.refl _ _⟩
  · have d1 : (searchB.toList == [100, 105, 97, 108, 111, 103]) = false := by rw [e2]; rfl
    have d2 : (searchB.toList == [115, 101, 97, 114, 99, 104]) = true := by rw [e2]; rfl
    clear e1 e2
    go_enter Try.func26, Try.ntmps26
    go_wp2
    go_ret
    exact ⟨rfl, Below.refl _ _⟩

end Go.Proofs.Ytippcgjoidgahaa
