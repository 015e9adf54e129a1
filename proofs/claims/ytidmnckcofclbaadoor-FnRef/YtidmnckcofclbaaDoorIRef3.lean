/- The contract of the program's refByNumber. -/
import Derived.Test.YtidmnckcofclbaaDoorIRef1
namespace Go.Proofs.YtidmnckcofclbaaDoor
open Go.RowKit
set_option linter.unusedVariables false

theorem refDigits_eq (xs : List Int) (b : Int) (k : Nat) : refDigits xs b k = if (digs b (xs.drop k)).length = 0 then (0, 0) else (refNumber (digNum xs b k), ((k + (digs b (xs.drop k)).length + (if atL xs (k + (digs b (xs.drop k)).length) = 59 then 1 else 0) : Nat) : Int)) := by
  unfold refDigits digNum
  simp only [List.length_eq_zero_iff]

/-- What refByNumber answers of the digits' result. -/
def numAns (p : Int × Int) : Value := if 0 < p.2 then .tuple #[.int .i64 p.1, .int .i64 p.2, .bool true] else .tuple #[.int .i64 0, .int .i64 0, .bool false]

set_option maxHeartbeats 4000000 in
set_option maxRecDepth 100000 in
theorem refByNumber_any {v : Value} {xs : List Int} {w : World} (ho : Older w) (h : Sl .i64 w v xs) (k : Nat) (hn : xs.length ≤ 3000) (hk : k ≤ 3000) :
    Calls Tryd.prog 25 #[v, .int .i64 k] w fun e w' => e = .returned (if atL xs k = 35 then numAns (refNum xs (k + 1)) else .tuple #[.int .i64 0, .int .i64 0, .bool false]) ∧ Below w.heap.size w w' := by
  have c0 := hasPoint_any h k 35 (by decide) (by omega)
  by_cases h35 : atL xs k = 35
  · rw [if_pos h35]
    rw [h35, show ((35 : Int) == 35) = true from rfl] at c0
    have e1 : ((k : Int) + 1) = ((k + 1 : Nat) : Int) := by omega
    have cx := hasPoint_any h (k + 1) 120 (by decide) (by omega)
    have cX := hasPoint_any h (k + 1) 88 (by decide) (by omega)
    have HP := (show Hid (∀ (w' : World) (j : Nat), Below w.heap.size w w' → Calls Tryd.prog 37 #[v, .int .i64 j, .int .i64 59] w' fun e w'' => e = .returned (.bool (atL xs j == 59)) ∧ w'' = w') from fun w' j hb => hasPoint_any (h.below hb) j 59 (by decide) (by omega))
    have HO := (show Hid (∀ (w' : World) (x : Int), Below w.heap.size w w' → Calls Tryd.prog 13 #[.int .i64 x] w' fun e w'' => e = .returned (.int .i64 (refNumber x)) ∧ w'' = w') from fun w' x hb => refNumber_any x w' (ho.below hb))
    clear ho
    obtain ⟨b, f, hb, er, hcs⟩ : ∃ (b : Int) (f : Nat), (b = 10 ∨ b = 16) ∧ refNum xs (k + 1) = refDigits xs b f ∧ ((atL xs (k + 1) = 120 ∧ b = 16 ∧ f = k + 2) ∨ (atL xs (k + 1) = 88 ∧ b = 16 ∧ f = k + 2) ∨ (atL xs (k + 1) ≠ 120 ∧ atL xs (k + 1) ≠ 88 ∧ b = 10 ∧ f = k + 1)) := by
      by_cases h1 : atL xs (k + 1) = 120
      · exact ⟨16, k + 2, by simp, by unfold refNum; rw [if_pos (.inl h1)], .inl ⟨h1, rfl, rfl⟩⟩
      · by_cases h2 : atL xs (k + 1) = 88
        · exact ⟨16, k + 2, by simp, by unfold refNum; rw [if_pos (.inr h2)], .inr (.inl ⟨h2, rfl, rfl⟩)⟩
        · exact ⟨10, k + 1, by simp, by unfold refNum; rw [if_neg (by rintro (h | h); exact h1 h; exact h2 h)], .inr (.inr ⟨h1, h2, rfl, rfl⟩)⟩
    rw [er, refDigits_eq]
    have cd := digitsFrom_any h f b hb hn (by omega)
    obtain ⟨c, hc⟩ : ∃ c, c = atL xs (k + 1) := ⟨_, rfl⟩
    rw [← hc] at cx cX hcs
    obtain ⟨D, hD⟩ : ∃ D, D = (digs b (xs.drop f)).length := ⟨_, rfl⟩
    rw [← hD] at cd ⊢
    have hdl := digs_le b (xs.drop f)
    rw [List.length_drop, ← hD] at hdl
    obtain ⟨nm, hnm⟩ : ∃ nm, nm = digNum xs b f := ⟨_, rfl⟩
    rw [← hnm] at cd ⊢
    obtain ⟨g, hg⟩ : ∃ g, g = k + 1 := ⟨_, rfl⟩
    rw [← hg] at cx cX e1 hcs
    have HPm := HP.out
    obtain ⟨m, hm⟩ : ∃ m, m = f + D := ⟨_, rfl⟩
    rw [← hm] at cd ⊢
    have c59 := (show Hid _ from fun w' hb => HPm w' m hb)
    obtain ⟨y, hy⟩ : ∃ y, y = atL xs m := ⟨_, rfl⟩
    rw [← hy] at c59 ⊢
    clear hc hD h hnm er h35 HPm HP hb hy
    have hmm : m ≤ 6010 := by omega
    have hgb : g ≤ 3001 := by omega
    have hfb : f ≤ 3002 := by omega
    have hfp : 0 < f := by omega
    have hmp : 0 < m := by omega
    have e120 : (((120 : Int)) == 120) = true := rfl
    have e88 : (((88 : Int)) == 88) = true := rfl
    have e88' : (((88 : Int)) == 120) = false := rfl
    have e59 : (((59 : Int)) == 59) = true := rfl
    rcases hcs with ⟨rfl, rfl, hfk⟩ | ⟨rfl, rfl, hfk⟩ | ⟨n1, n2, rfl, hfk⟩
    · have e2 : (g : Int) + 1 = (f : Int) := by omega
      clear hg hfk
      rw [e120] at cx
      by_cases hD0 : D = 0
      · have hmf : m = f := by omega
        subst hmf
        rw [if_pos hD0]
        clear hm hD0 hdl c59 HO
        go_enter Tryd.func25, Tryd.ntmps25
        go_wp2_with fail
        go_at_call 37
        refine c0.mono ?_
        rintro e w1 ⟨rfl, rfl⟩
        go_wp2_with fail
        go_at_call 37
        refine cx.mono ?_
        rintro e w1 ⟨rfl, rfl⟩
        go_wp2_with fail
        go_at_call 38
        refine cd.mono ?_
        rintro e w1 ⟨rfl, bw⟩
        go_wp2
        go_ret3
        exact ⟨rfl, bw⟩
      · have hmf : ((m : Int) == (f : Int)) = false := by simp; omega
        rw [if_neg hD0]
        clear hm hdl
        by_cases hy : y = 59
        · rw [if_pos hy]
          subst hy
          rw [e59] at c59
          go_enter Tryd.func25, Tryd.ntmps25
          go_wp2_with fail
          go_at_call 37
          refine c0.mono ?_
          rintro e w1 ⟨rfl, rfl⟩
          go_wp2_with fail
          go_at_call 37
          refine cx.mono ?_
          rintro e w1 ⟨rfl, rfl⟩
          go_wp2_with fail
          go_at_call 38
          refine cd.mono ?_
          rintro e w1 ⟨rfl, bw⟩
          go_wp2_with fail
          go_at_call 37
          refine (c59.out _ bw).mono ?_
          rintro e w1 ⟨rfl, rfl⟩
          go_wp2_with fail
          go_at_call 13
          refine (HO.out _ _ bw).mono ?_
          rintro e w1 ⟨rfl, rfl⟩
          go_wp2
          go_ret3
          exact ⟨by unfold numAns; rw [if_pos (by simp only; omega)]; simp, bw⟩
        · have hy2 : (y == 59) = false := by simpa using hy
          rw [if_neg hy]
          rw [hy2] at c59
          go_enter Tryd.func25, Tryd.ntmps25
          go_wp2_with fail
          go_at_call 37
          refine c0.mono ?_
          rintro e w1 ⟨rfl, rfl⟩
          go_wp2_with fail
          go_at_call 37
          refine cx.mono ?_
          rintro e w1 ⟨rfl, rfl⟩
          go_wp2_with fail
          go_at_call 38
          refine cd.mono ?_
          rintro e w1 ⟨rfl, bw⟩
          go_wp2_with fail
          go_at_call 37
          refine (c59.out _ bw).mono ?_
          rintro e w1 ⟨rfl, rfl⟩
          go_wp2_with fail
          go_at_call 13
          refine (HO.out _ _ bw).mono ?_
          rintro e w1 ⟨rfl, rfl⟩
          go_wp2
          go_ret3
          exact ⟨by unfold numAns; rw [if_pos (by simp only; omega)]; simp, bw⟩
    · have e2 : (g : Int) + 1 = (f : Int) := by omega
      clear hg hfk
      rw [e88'] at cx
      rw [e88] at cX
      by_cases hD0 : D = 0
      · have hmf : m = f := by omega
        subst hmf
        rw [if_pos hD0]
        clear hm hD0 hdl c59 HO
        go_enter Tryd.func25, Tryd.ntmps25
        go_wp2_with fail
        go_at_call 37
        refine c0.mono ?_
        rintro e w1 ⟨rfl, rfl⟩
        go_wp2_with fail
        go_at_call 37
        refine cx.mono ?_
        rintro e w1 ⟨rfl, rfl⟩
        go_wp2_with fail
        go_at_call 37
        refine cX.mono ?_
        rintro e w1 ⟨rfl, rfl⟩
        go_wp2_with fail
        go_at_call 38
        refine cd.mono ?_
        rintro e w1 ⟨rfl, bw⟩
        go_wp2
        go_ret3
        exact ⟨rfl, bw⟩
      · have hmf : ((m : Int) == (f : Int)) = false := by simp; omega
        rw [if_neg hD0]
        clear hm hdl
        by_cases hy : y = 59
        · rw [if_pos hy]
          subst hy
          rw [e59] at c59
          go_enter Tryd.func25, Tryd.ntmps25
          go_wp2_with fail
          go_at_call 37
          refine c0.mono ?_
          rintro e w1 ⟨rfl, rfl⟩
          go_wp2_with fail
          go_at_call 37
          refine cx.mono ?_
          rintro e w1 ⟨rfl, rfl⟩
          go_wp2_with fail
          go_at_call 37
          refine cX.mono ?_
          rintro e w1 ⟨rfl, rfl⟩
          go_wp2_with fail
          go_at_call 38
          refine cd.mono ?_
          rintro e w1 ⟨rfl, bw⟩
          go_wp2_with fail
          go_at_call 37
          refine (c59.out _ bw).mono ?_
          rintro e w1 ⟨rfl, rfl⟩
          go_wp2_with fail
          go_at_call 13
          refine (HO.out _ _ bw).mono ?_
          rintro e w1 ⟨rfl, rfl⟩
          go_wp2
          go_ret3
          exact ⟨by unfold numAns; rw [if_pos (by simp only; omega)]; simp, bw⟩
        · have hy2 : (y == 59) = false := by simpa using hy
          rw [if_neg hy]
          rw [hy2] at c59
          go_enter Tryd.func25, Tryd.ntmps25
          go_wp2_with fail
          go_at_call 37
          refine c0.mono ?_
          rintro e w1 ⟨rfl, rfl⟩
          go_wp2_with fail
          go_at_call 37
          refine cx.mono ?_
          rintro e w1 ⟨rfl, rfl⟩
          go_wp2_with fail
          go_at_call 37
          refine cX.mono ?_
          rintro e w1 ⟨rfl, rfl⟩
          go_wp2_with fail
          go_at_call 38
          refine cd.mono ?_
          rintro e w1 ⟨rfl, bw⟩
          go_wp2_with fail
          go_at_call 37
          refine (c59.out _ bw).mono ?_
          rintro e w1 ⟨rfl, rfl⟩
          go_wp2_with fail
          go_at_call 13
          refine (HO.out _ _ bw).mono ?_
          rintro e w1 ⟨rfl, rfl⟩
          go_wp2
          go_ret3
          exact ⟨by unfold numAns; rw [if_pos (by simp only; omega)]; simp, bw⟩
    · subst hfk
      clear hg
      have q1 : (c == 120) = false := by simpa using n1
      have q2 : (c == 88) = false := by simpa using n2
      rw [q1] at cx
      rw [q2] at cX
      by_cases hD0 : D = 0
      · have hmf : m = f := by omega
        subst hmf
        rw [if_pos hD0]
        clear hm hD0 hdl c59 HO
        go_enter Tryd.func25, Tryd.ntmps25
        go_wp2_with fail
        go_at_call 37
        refine c0.mono ?_
        rintro e w1 ⟨rfl, rfl⟩
        go_wp2_with fail
        go_at_call 37
        refine cx.mono ?_
        rintro e w1 ⟨rfl, rfl⟩
        go_wp2_with fail
        go_at_call 37
        refine cX.mono ?_
        rintro e w1 ⟨rfl, rfl⟩
        go_wp2_with fail
        go_at_call 38
        refine cd.mono ?_
        rintro e w1 ⟨rfl, bw⟩
        go_wp2
        go_ret3
        exact ⟨rfl, bw⟩
      · have hmf : ((m : Int) == (f : Int)) = false := by simp; omega
        rw [if_neg hD0]
        clear hm hdl
        by_cases hy : y = 59
        · rw [if_pos hy]
          subst hy
          rw [e59] at c59
          go_enter Tryd.func25, Tryd.ntmps25
          go_wp2_with fail
          go_at_call 37
          refine c0.mono ?_
          rintro e w1 ⟨rfl, rfl⟩
          go_wp2_with fail
          go_at_call 37
          refine cx.mono ?_
          rintro e w1 ⟨rfl, rfl⟩
          go_wp2_with fail
          go_at_call 37
          refine cX.mono ?_
          rintro e w1 ⟨rfl, rfl⟩
          go_wp2_with fail
          go_at_call 38
          refine cd.mono ?_
          rintro e w1 ⟨rfl, bw⟩
          go_wp2_with fail
          go_at_call 37
          refine (c59.out _ bw).mono ?_
          rintro e w1 ⟨rfl, rfl⟩
          go_wp2_with fail
          go_at_call 13
          refine (HO.out _ _ bw).mono ?_
          rintro e w1 ⟨rfl, rfl⟩
          go_wp2
          go_ret3
          exact ⟨by unfold numAns; rw [if_pos (by simp only; omega)]; simp, bw⟩
        · have hy2 : (y == 59) = false := by simpa using hy
          rw [if_neg hy]
          rw [hy2] at c59
          go_enter Tryd.func25, Tryd.ntmps25
          go_wp2_with fail
          go_at_call 37
          refine c0.mono ?_
          rintro e w1 ⟨rfl, rfl⟩
          go_wp2_with fail
          go_at_call 37
          refine cx.mono ?_
          rintro e w1 ⟨rfl, rfl⟩
          go_wp2_with fail
          go_at_call 37
          refine cX.mono ?_
          rintro e w1 ⟨rfl, rfl⟩
          go_wp2_with fail
          go_at_call 38
          refine cd.mono ?_
          rintro e w1 ⟨rfl, bw⟩
          go_wp2_with fail
          go_at_call 37
          refine (c59.out _ bw).mono ?_
          rintro e w1 ⟨rfl, rfl⟩
          go_wp2_with fail
          go_at_call 13
          refine (HO.out _ _ bw).mono ?_
          rintro e w1 ⟨rfl, rfl⟩
          go_wp2
          go_ret3
          exact ⟨by unfold numAns; rw [if_pos (by simp only; omega)]; simp, bw⟩
  · have e35 : (atL xs k == 35) = false := by simpa using h35
    rw [if_neg h35]
    rw [e35] at c0
    clear h35 e35 ho
    go_enter Tryd.func25, Tryd.ntmps25
    go_wp2_with fail
    go_at_call 37
    refine c0.mono ?_
    rintro e w1 ⟨rfl, rfl⟩
    go_wp2
    go_ret3
    exact ⟨rfl, Below.refl _ _⟩
end Go.Proofs.YtidmnckcofclbaaDoor
