/- What a reference takes is just what it tells: of plain lists. -/
import Derived.Test.YtidmnckcofclbaaDoorSv
namespace Go.Proofs.YtidmnckcofclbaaDoor
open Go.RowKit
set_option linter.unusedVariables false

theorem pointOk_refNumber (x : Int) : pointOk (refNumber x) = true ∧ refNumber x ≠ 0 := by
  unfold refNumber
  by_cases h : x = 0 ∨ pointOk x = false
  · rw [if_pos h]; decide
  · rw [if_neg h]
    by_cases h1 : 128 ≤ x ∧ x ≤ 159
    · rw [inB_yes h1.1 h1.2, if_pos rfl]
      have hk : (x - 128).toNat < 32 := by omega
      generalize (x - 128).toNat = k at hk
      have : ∀ k : Fin 32, pointOk (oldPoints.getD k.1 0) = true ∧ oldPoints.getD k.1 0 ≠ 0 := by decide
      exact this ⟨k, hk⟩
    · rw [inB_no (by omega), if_neg (by decide)]
      refine ⟨?_, fun e => h (.inl e)⟩
      rcases hp : pointOk x with _ | _
      · exact absurd (.inr hp) h
      · rfl

/-- The digits at a list's beginning are known by where they end. -/
theorem digs_eq {b : Int} {l : List Int} {m : Nat} (h : ∀ k, k < m → 0 ≤ digitOf (l.getD k (-1)) b) (he : digitOf (l.getD m (-1)) b < 0) : digs b l = (List.range m).map fun k => digitOf (l.getD k (-1)) b := by
  induction m generalizing l with
  | zero =>
    cases l with
    | nil => rfl
    | cons c cs => unfold digs; rw [if_neg (by simp at he; omega)]; rfl
  | succ m ih =>
    cases l with
    | nil => have := h 0 (by omega); have := digitOf_neg b; simp at *; omega
    | cons c cs =>
      have h0 := h 0 (by omega)
      unfold digs
      rw [if_pos (by simpa using h0), List.range_succ_eq_map, List.map_cons, List.map_map]
      have e := ih (l := cs) (fun k hk => by have := h (k + 1) (by omega); simpa using this) (by simpa using he)
      rw [e]
      simp [Function.comp_def]

/-- A list cut behind n, and a blank. -/
def cut (xs : List Int) (n : Nat) : List Int := xs.take n ++ [32]
theorem cut_lt {xs : List Int} {n j : Nat} (hn : n ≤ xs.length) (hj : j < n) : atL (cut xs n) j = atL xs j := by
  have h1 : j < (xs.take n).length := by simp; omega
  simp only [atL, cut, List.getD_eq_getElem?_getD]
  rw [List.getElem?_append_left h1, List.getElem?_take_of_lt hj]
theorem cut_at {xs : List Int} {n : Nat} (hn : n ≤ xs.length) : atL (cut xs n) n = 32 := by
  have h1 : (xs.take n).length = n := by simp; omega
  simp only [atL, cut, List.getD_eq_getElem?_getD]
  rw [List.getElem?_append_right (by omega), h1, Nat.sub_self]
  rfl
theorem drop_getD (xs : List Int) (f k : Nat) : (xs.drop f).getD k (-1) = atL xs (f + k) := by simp [atL, List.getD_eq_getElem?_getD, List.getElem?_drop]
theorem atL_lt {xs : List Int} {j : Nat} (h : atL xs j ≠ -1) : j < xs.length := by
  by_cases hj : j < xs.length
  · exact hj
  · exact absurd (atL_out (by omega)) h

theorem refDigits_cut {xs : List Int} {b : Int} (hb : b = 10 ∨ b = 16) {f n : Nat} {x : Int} (h : refDigits xs b f = (x, (n : Int))) (h0 : 0 < n) : f < n ∧ n ≤ xs.length ∧ refDigits (cut xs n) b f = (x, (n : Int)) := by
  unfold refDigits at h
  simp only at h
  by_cases hd : digs b (xs.drop f) = []
  · rw [if_pos hd] at h
    have := (Prod.mk.inj h).2
    omega
  · rw [if_neg hd] at h
    obtain ⟨hx, hn⟩ := Prod.mk.inj h
    have hlen : 0 < (digs b (xs.drop f)).length := List.length_pos_iff.mpr hd
    obtain ⟨m, hm⟩ : ∃ m, m = (digs b (xs.drop f)).length := ⟨_, rfl⟩
    have hdl := digs_le b (xs.drop f)
    rw [List.length_drop] at hdl
    have hat : ∀ k, k < m → 0 ≤ digitOf (atL xs (f + k)) b := fun k hk => by have := (digs_at b (xs.drop f) k (by omega)).2; rw [drop_getD] at this; exact this
    have hend := digs_end b (xs.drop f)
    rw [drop_getD, ← hm] at hend
    rw [← hm] at hn hlen hdl
    have hfm : f + m ≤ xs.length := by omega
    have hnn : n = f + m + (if atL xs (f + m) = 59 then 1 else 0) := by omega
    have hnle : n ≤ xs.length := by
      rw [hnn]
      by_cases h59 : atL xs (f + m) = 59
      · rw [if_pos h59]
        have := atL_lt (xs := xs) (j := f + m) (by rw [h59]; decide)
        omega
      · rw [if_neg h59]; omega
    have hfmn : f + m ≤ n := by omega
    refine ⟨by omega, hnle, ?_⟩
    have hat2 : ∀ k, k < m → atL (cut xs n) (f + k) = atL xs (f + k) := fun k hk => cut_lt hnle (by omega)
    have hend2 : digitOf (atL (cut xs n) (f + m)) b < 0 ∧ (atL (cut xs n) (f + m) = 59 ↔ atL xs (f + m) = 59) := by
      by_cases h59 : atL xs (f + m) = 59
      · rw [if_pos h59] at hnn
        rw [cut_lt hnle (by omega)]
        exact ⟨hend, Iff.rfl⟩
      · rw [if_neg h59] at hnn
        have e : f + m = n := by omega
        rw [e, cut_at hnle]
        refine ⟨?_, ?_⟩
        · rcases hb with rfl | rfl <;> decide
        · rw [← e]; exact ⟨fun h => absurd h (by decide), fun h => absurd h h59⟩
    have d1 := digs_eq (b := b) (l := xs.drop f) (m := m) (fun k hk => by rw [drop_getD]; exact hat k hk) (by rw [drop_getD]; exact hend)
    have d2 := digs_eq (b := b) (l := (cut xs n).drop f) (m := m) (fun k hk => by rw [drop_getD, hat2 k hk]; exact hat k hk) (by rw [drop_getD]; exact hend2.1)
    have e12 : digs b ((cut xs n).drop f) = digs b (xs.drop f) := by
      rw [d1, d2]
      apply List.map_congr_left
      intro k hk
      rw [drop_getD, drop_getD, hat2 k (List.mem_range.mp hk)]
    unfold refDigits
    simp only
    rw [e12, if_neg hd, ← hm, hx]
    congr 1
    by_cases h59 : atL xs (f + m) = 59
    · rw [if_pos (hend2.2.mpr h59)]; rw [if_pos h59] at hnn; rw [hnn]
    · rw [if_neg (fun e => h59 (hend2.2.mp e))]; rw [if_neg h59] at hnn; rw [hnn]
end Go.Proofs.YtidmnckcofclbaaDoor
