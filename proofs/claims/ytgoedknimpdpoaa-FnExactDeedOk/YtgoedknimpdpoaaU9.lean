/- The specification's DeedOk at every deed. No condition. -/
import Derived.Test.YtgoedknimpdpoaaU8
namespace Go.Proofs.Ytgoedknimpdpoaa
open Go.RowKit
set_option maxRecDepth 100000
set_option linter.unusedVariables false

set_option maxHeartbeats 8000000 in
set_option maxRecDepth 100000 in
theorem sdeedD (k : Int) (u p : ByteArray) (s q : Int) (w : World) (hu : u.size ≤ 1099511627776) (hp : p.size ≤ 1099511627776) (hs : s ≠ 0) (h1 : inB s 1 4 = true) (h2 : inB q 0 2147483647 = false) : Calls Try.prog 5 #[.agg #[.int .i64 k, .string u, .string p, .int .i64 s, .int .i64 q]] w fun e w' => e = .returned (.bool (deedB ⟨k, u, p, s, q⟩)) ∧ Below w.heap.size w w' := by
  have ht : tornB s q = false := by simp [tornB, hs, h1, h2]
  obtain ⟨nu, hnu⟩ : ∃ nu, nu = noB u := ⟨_, rfl⟩
  obtain ⟨np, hnp⟩ : ∃ np, np = noB p := ⟨_, rfl⟩
  have hue : u.toList.isEmpty = nu := by rw [noS_isEmpty, hnu]
  have hpe : p.toList.isEmpty = np := by rw [noS_isEmpty, hnp]
  simp only [deedB, ht, ← hnu, ← hnp]
  clear hnu hnp ht
  by_cases k1 : k = 1
  · subst k1
    rw [if_pos rfl]
    go_enter Try.func5, Try.ntmps5
    go_wp2_with fail
    go_at_call 8
    refine (l1In_any _ _ _ _).mono ?_
    rintro e w2 ⟨he0, hw0⟩
    rw [h1] at he0
    subst he0 hw0
    go_wp2_with fail
    go_at_call 8
    refine (l1In_any _ _ _ _).mono ?_
    rintro e w3 ⟨he1, hw1⟩
    rw [h2] at he1
    subst he1 hw1
    go_wp2
    go_ret
    exact ⟨retB (by simp), two_below _ _ _⟩
  rw [if_neg k1]
  by_cases k2 : k = 2
  · subst k2
    rw [if_pos rfl]
    go_enter Try.func5, Try.ntmps5
    go_wp2_with fail
    go_at_call 8
    refine (l1In_any _ _ _ _).mono ?_
    rintro e w2 ⟨he0, hw0⟩
    rw [h1] at he0
    subst he0 hw0
    go_wp2_with fail
    go_at_call 8
    refine (l1In_any _ _ _ _).mono ?_
    rintro e w3 ⟨he1, hw1⟩
    rw [h2] at he1
    subst he1 hw1
    go_wp2
    go_ret
    exact ⟨retB (by simp), two_below _ _ _⟩
  rw [if_neg k2]
  by_cases k3 : k = 3
  · subst k3
    rw [if_pos rfl]
    go_enter Try.func5, Try.ntmps5
    go_wp2_with fail
    go_at_call 8
    refine (l1In_any _ _ _ _).mono ?_
    rintro e w2 ⟨he0, hw0⟩
    rw [h1] at he0
    subst he0 hw0
    go_wp2_with fail
    go_at_call 8
    refine (l1In_any _ _ _ _).mono ?_
    rintro e w3 ⟨he1, hw1⟩
    rw [h2] at he1
    subst he1 hw1
    go_wp2
    go_ret
    exact ⟨retB (by simp), two_below _ _ _⟩
  rw [if_neg k3]
  by_cases k4 : k = 4
  · subst k4
    rw [if_pos (.inl rfl)]
    cases nu
    · go_enter Try.func5, Try.ntmps5
      go_wp2_with fail
      go_at_call 8
      refine (l1In_any _ _ _ _).mono ?_
      rintro e w2 ⟨he0, hw0⟩
      rw [h1] at he0
      subst he0 hw0
      go_wp2_with fail
      go_at_call 8
      refine (l1In_any _ _ _ _).mono ?_
      rintro e w3 ⟨he1, hw1⟩
      rw [h2] at he1
      subst he1 hw1
      go_wp2
      go_ret
      exact ⟨retB (by simp), two_below _ _ _⟩
    · cases np
      · go_enter Try.func5, Try.ntmps5
        go_wp2_with fail
        go_at_call 8
        refine (l1In_any _ _ _ _).mono ?_
        rintro e w2 ⟨he0, hw0⟩
        rw [h1] at he0
        subst he0 hw0
        go_wp2_with fail
        go_at_call 8
        refine (l1In_any _ _ _ _).mono ?_
        rintro e w3 ⟨he1, hw1⟩
        rw [h2] at he1
        subst he1 hw1
        go_wp2
        go_ret
        exact ⟨retB (by simp), two_below _ _ _⟩
      · rw [decide_eq_false hs]
        go_enter Try.func5, Try.ntmps5
        go_wp2_with fail
        go_at_call 8
        refine (l1In_any _ _ _ _).mono ?_
        rintro e w2 ⟨he0, hw0⟩
        rw [h1] at he0
        subst he0 hw0
        go_wp2_with fail
        go_at_call 8
        refine (l1In_any _ _ _ _).mono ?_
        rintro e w3 ⟨he1, hw1⟩
        rw [h2] at he1
        subst he1 hw1
        go_wp2
        go_ret
        exact ⟨retB (by simp), two_below _ _ _⟩
  by_cases k5 : k = 5
  · subst k5
    rw [if_pos (.inr rfl)]
    cases nu
    · go_enter Try.func5, Try.ntmps5
      go_wp2_with fail
      go_at_call 8
      refine (l1In_any _ _ _ _).mono ?_
      rintro e w2 ⟨he0, hw0⟩
      rw [h1] at he0
      subst he0 hw0
      go_wp2_with fail
      go_at_call 8
      refine (l1In_any _ _ _ _).mono ?_
      rintro e w3 ⟨he1, hw1⟩
      rw [h2] at he1
      subst he1 hw1
      go_wp2
      go_ret
      exact ⟨retB (by simp), two_below _ _ _⟩
    · cases np
      · go_enter Try.func5, Try.ntmps5
        go_wp2_with fail
        go_at_call 8
        refine (l1In_any _ _ _ _).mono ?_
        rintro e w2 ⟨he0, hw0⟩
        rw [h1] at he0
        subst he0 hw0
        go_wp2_with fail
        go_at_call 8
        refine (l1In_any _ _ _ _).mono ?_
        rintro e w3 ⟨he1, hw1⟩
        rw [h2] at he1
        subst he1 hw1
        go_wp2
        go_ret
        exact ⟨retB (by simp), two_below _ _ _⟩
      · rw [decide_eq_false hs]
        go_enter Try.func5, Try.ntmps5
        go_wp2_with fail
        go_at_call 8
        refine (l1In_any _ _ _ _).mono ?_
        rintro e w2 ⟨he0, hw0⟩
        rw [h1] at he0
        subst he0 hw0
        go_wp2_with fail
        go_at_call 8
        refine (l1In_any _ _ _ _).mono ?_
        rintro e w3 ⟨he1, hw1⟩
        rw [h2] at he1
        subst he1 hw1
        go_wp2
        go_ret
        exact ⟨retB (by simp), two_below _ _ _⟩
  rw [if_neg (by omega)]
  go_enter Try.func5, Try.ntmps5
  go_wp2_with fail
  go_at_call 8
  refine (l1In_any _ _ _ _).mono ?_
  rintro e w2 ⟨he0, hw0⟩
  rw [h1] at he0
  subst he0 hw0
  go_wp2_with fail
  go_at_call 8
  refine (l1In_any _ _ _ _).mono ?_
  rintro e w3 ⟨he1, hw1⟩
  rw [h2] at he1
  subst he1 hw1
  go_wp2
  go_ret
  exact ⟨retB (by simp), two_below _ _ _⟩
end Go.Proofs.Ytgoedknimpdpoaa

/- The specification's DeedOk at every deed. No condition. -/
namespace Go.Proofs.Ytgoedknimpdpoaa
open Go.RowKit
set_option maxRecDepth 100000
set_option linter.unusedVariables false

set_option maxHeartbeats 8000000 in
set_option maxRecDepth 100000 in
theorem sdeedE (k : Int) (u p : ByteArray) (s q : Int) (w : World) (hu : u.size ≤ 1099511627776) (hp : p.size ≤ 1099511627776) (hs : s ≠ 0) (h1 : inB s 1 4 = true) (h2 : inB q 0 2147483647 = true) : Calls Try.prog 5 #[.agg #[.int .i64 k, .string u, .string p, .int .i64 s, .int .i64 q]] w fun e w' => e = .returned (.bool (deedB ⟨k, u, p, s, q⟩)) ∧ Below w.heap.size w w' := by
  have ht : tornB s q = true := by simp [tornB, hs, h1, h2]
  obtain ⟨nu, hnu⟩ : ∃ nu, nu = noB u := ⟨_, rfl⟩
  obtain ⟨np, hnp⟩ : ∃ np, np = noB p := ⟨_, rfl⟩
  have hue : u.toList.isEmpty = nu := by rw [noS_isEmpty, hnu]
  have hpe : p.toList.isEmpty = np := by rw [noS_isEmpty, hnp]
  simp only [deedB, ht, ← hnu, ← hnp]
  clear hnu hnp ht
  by_cases k1 : k = 1
  · subst k1
    rw [if_pos rfl]
    by_cases c1 : (u.size : Int) ≤ 60
    · rw [decide_eq_true c1]
      by_cases c2 : (p.size : Int) ≤ 3000
      · rw [decide_eq_true c2]
        go_enter Try.func5, Try.ntmps5
        go_wp2_with fail
        go_at_call 8
        refine (l1In_any _ _ _ _).mono ?_
        rintro e w2 ⟨he0, hw0⟩
        rw [h1] at he0
        subst he0 hw0
        go_wp2_with fail
        go_at_call 8
        refine (l1In_any _ _ _ _).mono ?_
        rintro e w3 ⟨he1, hw1⟩
        rw [h2] at he1
        subst he1 hw1
        go_wp2
        go_ret
        exact ⟨retB (by simp), two_below _ _ _⟩
      · rw [decide_eq_false c2]
        go_enter Try.func5, Try.ntmps5
        go_wp2_with fail
        go_at_call 8
        refine (l1In_any _ _ _ _).mono ?_
        rintro e w2 ⟨he0, hw0⟩
        rw [h1] at he0
        subst he0 hw0
        go_wp2_with fail
        go_at_call 8
        refine (l1In_any _ _ _ _).mono ?_
        rintro e w3 ⟨he1, hw1⟩
        rw [h2] at he1
        subst he1 hw1
        go_wp2
        go_ret
        exact ⟨retB (by simp), two_below _ _ _⟩
    · rw [decide_eq_false c1]
      go_enter Try.func5, Try.ntmps5
      go_wp2_with fail
      go_at_call 8
      refine (l1In_any _ _ _ _).mono ?_
      rintro e w2 ⟨he0, hw0⟩
      rw [h1] at he0
      subst he0 hw0
      go_wp2_with fail
      go_at_call 8
      refine (l1In_any _ _ _ _).mono ?_
      rintro e w3 ⟨he1, hw1⟩
      rw [h2] at he1
      subst he1 hw1
      go_wp2
      go_ret
      exact ⟨retB (by simp), two_below _ _ _⟩
  rw [if_neg k1]
  by_cases k2 : k = 2
  · subst k2
    rw [if_pos rfl]
    by_cases c1 : (u.size : Int) ≤ 60
    · rw [decide_eq_true c1]
      cases np
      · go_enter Try.func5, Try.ntmps5
        go_wp2_with fail
        go_at_call 8
        refine (l1In_any _ _ _ _).mono ?_
        rintro e w2 ⟨he0, hw0⟩
        rw [h1] at he0
        subst he0 hw0
        go_wp2_with fail
        go_at_call 8
        refine (l1In_any _ _ _ _).mono ?_
        rintro e w3 ⟨he1, hw1⟩
        rw [h2] at he1
        subst he1 hw1
        go_wp2
        go_ret
        exact ⟨retB (by simp), two_below _ _ _⟩
      · go_enter Try.func5, Try.ntmps5
        go_wp2_with fail
        go_at_call 8
        refine (l1In_any _ _ _ _).mono ?_
        rintro e w2 ⟨he0, hw0⟩
        rw [h1] at he0
        subst he0 hw0
        go_wp2_with fail
        go_at_call 8
        refine (l1In_any _ _ _ _).mono ?_
        rintro e w3 ⟨he1, hw1⟩
        rw [h2] at he1
        subst he1 hw1
        go_wp2
        go_ret
        exact ⟨retB (by simp), two_below _ _ _⟩
    · rw [decide_eq_false c1]
      go_enter Try.func5, Try.ntmps5
      go_wp2_with fail
      go_at_call 8
      refine (l1In_any _ _ _ _).mono ?_
      rintro e w2 ⟨he0, hw0⟩
      rw [h1] at he0
      subst he0 hw0
      go_wp2_with fail
      go_at_call 8
      refine (l1In_any _ _ _ _).mono ?_
      rintro e w3 ⟨he1, hw1⟩
      rw [h2] at he1
      subst he1 hw1
      go_wp2
      go_ret
      exact ⟨retB (by simp), two_below _ _ _⟩
  rw [if_neg k2]
  by_cases k3 : k = 3
  · subst k3
    rw [if_pos rfl]
    cases nu
    · go_enter Try.func5, Try.ntmps5
      go_wp2_with fail
      go_at_call 8
      refine (l1In_any _ _ _ _).mono ?_
      rintro e w2 ⟨he0, hw0⟩
      rw [h1] at he0
      subst he0 hw0
      go_wp2_with fail
      go_at_call 8
      refine (l1In_any _ _ _ _).mono ?_
      rintro e w3 ⟨he1, hw1⟩
      rw [h2] at he1
      subst he1 hw1
      go_wp2
      go_ret
      exact ⟨retB (by simp), two_below _ _ _⟩
    · cases np
      · go_enter Try.func5, Try.ntmps5
        go_wp2_with fail
        go_at_call 8
        refine (l1In_any _ _ _ _).mono ?_
        rintro e w2 ⟨he0, hw0⟩
        rw [h1] at he0
        subst he0 hw0
        go_wp2_with fail
        go_at_call 8
        refine (l1In_any _ _ _ _).mono ?_
        rintro e w3 ⟨he1, hw1⟩
        rw [h2] at he1
        subst he1 hw1
        go_wp2
        go_ret
        exact ⟨retB (by simp), two_below _ _ _⟩
      · go_enter Try.func5, Try.ntmps5
        go_wp2_with fail
        go_at_call 8
        refine (l1In_any _ _ _ _).mono ?_
        rintro e w2 ⟨he0, hw0⟩
        rw [h1] at he0
        subst he0 hw0
        go_wp2_with fail
        go_at_call 8
        refine (l1In_any _ _ _ _).mono ?_
        rintro e w3 ⟨he1, hw1⟩
        rw [h2] at he1
        subst he1 hw1
        go_wp2
        go_ret
        exact ⟨retB (by simp), two_below _ _ _⟩
  rw [if_neg k3]
  by_cases k4 : k = 4
  · subst k4
    rw [if_pos (.inl rfl)]
    cases nu
    · go_enter Try.func5, Try.ntmps5
      go_wp2_with fail
      go_at_call 8
      refine (l1In_any _ _ _ _).mono ?_
      rintro e w2 ⟨he0, hw0⟩
      rw [h1] at he0
      subst he0 hw0
      go_wp2_with fail
      go_at_call 8
      refine (l1In_any _ _ _ _).mono ?_
      rintro e w3 ⟨he1, hw1⟩
      rw [h2] at he1
      subst he1 hw1
      go_wp2
      go_ret
      exact ⟨retB (by simp), two_below _ _ _⟩
    · cases np
      · go_enter Try.func5, Try.ntmps5
        go_wp2_with fail
        go_at_call 8
        refine (l1In_any _ _ _ _).mono ?_
        rintro e w2 ⟨he0, hw0⟩
        rw [h1] at he0
        subst he0 hw0
        go_wp2_with fail
        go_at_call 8
        refine (l1In_any _ _ _ _).mono ?_
        rintro e w3 ⟨he1, hw1⟩
        rw [h2] at he1
        subst he1 hw1
        go_wp2
        go_ret
        exact ⟨retB (by simp), two_below _ _ _⟩
      · rw [decide_eq_false hs]
        go_enter Try.func5, Try.ntmps5
        go_wp2_with fail
        go_at_call 8
        refine (l1In_any _ _ _ _).mono ?_
        rintro e w2 ⟨he0, hw0⟩
        rw [h1] at he0
        subst he0 hw0
        go_wp2_with fail
        go_at_call 8
        refine (l1In_any _ _ _ _).mono ?_
        rintro e w3 ⟨he1, hw1⟩
        rw [h2] at he1
        subst he1 hw1
        go_wp2
        go_ret
        exact ⟨retB (by simp), two_below _ _ _⟩
  by_cases k5 : k = 5
  · subst k5
    rw [if_pos (.inr rfl)]
    cases nu
    · go_enter Try.func5, Try.ntmps5
      go_wp2_with fail
      go_at_call 8
      refine (l1In_any _ _ _ _).mono ?_
      rintro e w2 ⟨he0, hw0⟩
      rw [h1] at he0
      subst he0 hw0
      go_wp2_with fail
      go_at_call 8
      refine (l1In_any _ _ _ _).mono ?_
      rintro e w3 ⟨he1, hw1⟩
      rw [h2] at he1
      subst he1 hw1
      go_wp2
      go_ret
      exact ⟨retB (by simp), two_below _ _ _⟩
    · cases np
      · go_enter Try.func5, Try.ntmps5
        go_wp2_with fail
        go_at_call 8
        refine (l1In_any _ _ _ _).mono ?_
        rintro e w2 ⟨he0, hw0⟩
        rw [h1] at he0
        subst he0 hw0
        go_wp2_with fail
        go_at_call 8
        refine (l1In_any _ _ _ _).mono ?_
        rintro e w3 ⟨he1, hw1⟩
        rw [h2] at he1
        subst he1 hw1
        go_wp2
        go_ret
        exact ⟨retB (by simp), two_below _ _ _⟩
      · rw [decide_eq_false hs]
        go_enter Try.func5, Try.ntmps5
        go_wp2_with fail
        go_at_call 8
        refine (l1In_any _ _ _ _).mono ?_
        rintro e w2 ⟨he0, hw0⟩
        rw [h1] at he0
        subst he0 hw0
        go_wp2_with fail
        go_at_call 8
        refine (l1In_any _ _ _ _).mono ?_
        rintro e w3 ⟨he1, hw1⟩
        rw [h2] at he1
        subst he1 hw1
        go_wp2
        go_ret
        exact ⟨retB (by simp), two_below _ _ _⟩
  rw [if_neg (by omega)]
  go_enter Try.func5, Try.ntmps5
  go_wp2_with fail
  go_at_call 8
  refine (l1In_any _ _ _ _).mono ?_
  rintro e w2 ⟨he0, hw0⟩
  rw [h1] at he0
  subst he0 hw0
  go_wp2_with fail
  go_at_call 8
  refine (l1In_any _ _ _ _).mono ?_
  rintro e w3 ⟨he1, hw1⟩
  rw [h2] at he1
  subst he1 hw1
  go_wp2
  go_ret
  exact ⟨retB (by simp), two_below _ _ _⟩
end Go.Proofs.Ytgoedknimpdpoaa

/- The specification's DeedOk at every deed. No condition. -/
namespace Go.Proofs.Ytgoedknimpdpoaa
open Go.RowKit
set_option maxRecDepth 100000
set_option linter.unusedVariables false

theorem sdeedOk_any (d : PDeed) (w : World) (hu : d.url.size ≤ 1099511627776) (hp : d.page.size ≤ 1099511627776) : Calls Try.prog 5 #[deedV d] w fun e w' => e = .returned (.bool (deedB d)) ∧ Below w.heap.size w w' := by
  obtain ⟨k, u, p, s, q⟩ := d
  show Calls Try.prog 5 #[.agg #[.int .i64 k, .string u, .string p, .int .i64 s, .int .i64 q]] w _
  by_cases hs : s = 0
  · by_cases hq : q = 0
    · exact sdeedA k u p s q w hu hp hs hq
    · exact sdeedB k u p s q w hu hp hs hq
  · cases h1 : inB s 1 4
    · exact sdeedC k u p s q w hu hp hs h1
    · cases h2 : inB q 0 2147483647
      · exact sdeedD k u p s q w hu hp hs h1 h2
      · exact sdeedE k u p s q w hu hp hs h1 h2
end Go.Proofs.Ytgoedknimpdpoaa
