/- The plain mathematics of FnUtf: of any bytes points alone are read, and they are read again from their own bytes as the same. No condition. -/
import Derived.Test.YtaanfeahojfadaaGreatDoorRound
namespace Go.Proofs.YtaanfeahojfadaaGreatDoor

theorem tail1 (p lo hi : Int) (r : List Int) : (tailOf p 1 lo hi r).1 = 65533 ∨ ∃ c, lo ≤ c ∧ c ≤ hi ∧ (tailOf p 1 lo hi r).1 = p * 64 + c - 128 := by
  cases r with
  | nil => exact .inl rfl
  | cons c r =>
    by_cases h : lo ≤ c ∧ c ≤ hi
    · rw [tail_in p 0 r h.1 h.2]; exact .inr ⟨c, h.1, h.2, rfl⟩
    · rw [tail_out p 0 r (by omega)]; exact .inl rfl
theorem tail2 (p lo hi : Int) (r : List Int) : (tailOf p 2 lo hi r).1 = 65533 ∨ ∃ c d, lo ≤ c ∧ c ≤ hi ∧ 128 ≤ d ∧ d ≤ 191 ∧ (tailOf p 2 lo hi r).1 = (p * 64 + c - 128) * 64 + d - 128 := by
  cases r with
  | nil => exact .inl rfl
  | cons c r =>
    by_cases h : lo ≤ c ∧ c ≤ hi
    · rw [tail_in p 1 r h.1 h.2]
      rcases tail1 (p * 64 + c - 128) 128 191 r with e | ⟨d, d1, d2, e⟩
      · exact .inl e
      · exact .inr ⟨c, d, h.1, h.2, d1, d2, e⟩
    · rw [tail_out p 1 r (by omega)]; exact .inl rfl
theorem tail3 (p lo hi : Int) (r : List Int) : (tailOf p 3 lo hi r).1 = 65533 ∨ ∃ c d f, lo ≤ c ∧ c ≤ hi ∧ 128 ≤ d ∧ d ≤ 191 ∧ 128 ≤ f ∧ f ≤ 191 ∧ (tailOf p 3 lo hi r).1 = ((p * 64 + c - 128) * 64 + d - 128) * 64 + f - 128 := by
  cases r with
  | nil => exact .inl rfl
  | cons c r =>
    by_cases h : lo ≤ c ∧ c ≤ hi
    · rw [tail_in p 2 r h.1 h.2]
      rcases tail2 (p * 64 + c - 128) 128 191 r with e | ⟨d, f, d1, d2, f1, f2, e⟩
      · exact .inl e
      · exact .inr ⟨c, d, f, h.1, h.2, d1, d2, f1, f2, e⟩
    · rw [tail_out p 2 r (by omega)]; exact .inl rfl

theorem ok_std : pointOk 65533 = true := rfl
theorem stepOf_ok {b : Int} (h0 : 0 ≤ b) (r : List Int) : pointOk (stepOf b r).1 = true := by
  unfold stepOf
  split
  · rw [pointOk_iff]; simp; omega
  split
  · rename_i h
    rcases tail1 (b - 192) (loOf b) (hiOf b) r with e | ⟨c, c1, c2, e⟩
    · rw [e]; rfl
    · rw [loOf_le (by omega) (by omega)] at c1
      rw [hiOf_le (by omega) (by omega)] at c2
      rw [e, pointOk_iff]; omega
  split
  · rename_i h
    rcases tail2 (b - 224) (loOf b) (hiOf b) r with e | ⟨c, d, c1, c2, d1, d2, e⟩
    · rw [e]; rfl
    · have hl : 128 ≤ loOf b ∧ (b = 224 → loOf b = 160) := ⟨(lo_hi b).1, fun e => by rw [e]; rfl⟩
      have hh : hiOf b ≤ 191 ∧ (b = 237 → hiOf b = 159) := ⟨(lo_hi b).2.2.2, fun e => by rw [e]; rfl⟩
      rw [e, pointOk_iff]
      by_cases e1 : b = 224
      · have := hl.2 e1; omega
      by_cases e2 : b = 237
      · have := hh.2 e2; omega
      · omega
  split
  · rename_i h
    rcases tail3 (b - 240) (loOf b) (hiOf b) r with e | ⟨c, d, f, c1, c2, d1, d2, f1, f2, e⟩
    · rw [e]; rfl
    · have hl : 128 ≤ loOf b ∧ (b = 240 → loOf b = 144) := ⟨(lo_hi b).1, fun e => by rw [e]; rfl⟩
      have hh : hiOf b ≤ 191 ∧ (b = 244 → hiOf b = 143) := ⟨(lo_hi b).2.2.2, fun e => by rw [e]; rfl⟩
      rw [e, pointOk_iff]
      by_cases e1 : b = 240
      · have := hl.2 e1; omega
      by_cases e2 : b = 244
      · have := hh.2 e2; omega
      · omega
  · rfl
theorem tailOf_mem (p : Int) (k : Nat) (lo hi : Int) (r : List Int) : ∀ y ∈ (tailOf p k lo hi r).2, y ∈ r := by
  induction k generalizing p lo hi r with
  | zero => intro y hy; exact hy
  | succ k ih =>
    cases r with
    | nil => intro y hy; exact hy
    | cons c r =>
      by_cases h : lo ≤ c ∧ c ≤ hi
      · rw [tail_in p k r h.1 h.2]
        intro y hy
        exact List.mem_cons_of_mem _ (ih _ _ _ _ y hy)
      · rw [tail_out p k r (by omega)]
        intro y hy; exact hy
theorem stepOf_mem (b : Int) (r : List Int) : ∀ y ∈ (stepOf b r).2, y ∈ r := by
  unfold stepOf; repeat' split
  all_goals first | exact fun y hy => tailOf_mem _ _ _ _ _ y hy | exact fun y hy => hy
theorem dec_ok (n : Nat) (l : List Int) (h : l.length ≤ n) (hb : ∀ y ∈ l, 0 ≤ y) : ∀ p ∈ dec l, pointOk p = true := by
  induction n generalizing l with
  | zero => have : l = [] := List.length_eq_zero_iff.mp (by omega)
            subst this; rw [dec_nil]; intro p hp; cases hp
  | succ n ih =>
    cases l with
    | nil => rw [dec_nil]; intro p hp; cases hp
    | cons b r =>
      rw [dec_cons]
      have h1 := stepOf_le b r
      intro p hp
      rcases List.mem_cons.mp hp with e | e
      · rw [e]; exact stepOf_ok (hb b (List.mem_cons_self ..)) r
      · exact ih (stepOf b r).2 (by simp at h; omega) (fun y hy => hb y (List.mem_cons_of_mem _ (stepOf_mem b r y hy))) p e
theorem unmark_sub {xs : List Int} {y : Int} (h : y ∈ unmark xs) : y ∈ xs := by
  unfold unmark at h; split at h
  · exact List.mem_of_mem_drop h
  · exact h
theorem utfRead_ok {bs : List Int} (hb : ∀ y ∈ bs, 0 ≤ y ∧ y ≤ 255) : ∀ p ∈ utfRead bs, pointOk p = true := by
  unfold utfRead; split
  · exact dec_ok _ _ (Nat.le_refl _) (fun y hy => (hb y (unmark_sub hy)).1)
  · intro p hp; cases hp

theorem enc_mark : enc 65279 = [239, 187, 191] := by decide
theorem put_mark : put 65279 = [239, 187, 191] := by unfold put; rw [pt_of _ (by decide)]; exact enc_mark
theorem dec_mark (r : List Int) : dec (239 :: 187 :: 191 :: r) = 65279 :: dec r := by
  have h := dec_enc (p := 65279) (by omega) (by omega) (by omega) r
  rw [enc_mark] at h; exact h
theorem dec_puts_ok {l : List Int} (h : ∀ p ∈ l, pointOk p = true) : dec (puts l) = l := by rw [dec_puts, map_pt h]
theorem unmark_mark (t : List Int) : unmark (puts (65279 :: t)) = puts t := by
  have e : puts (65279 :: t) = 239 :: 187 :: 191 :: puts t := by
    have e1 : puts (65279 :: t) = put 65279 ++ puts t := by simp [puts]
    rw [e1, put_mark]; rfl
  rw [e]; unfold unmark; rw [if_pos (by rfl : List.take 3 (239 :: 187 :: 191 :: puts t) = [239, 187, 191])]; rfl
theorem unmark_other {l : List Int} (h : ∀ p ∈ l, pointOk p = true) (hh : ∀ t, l ≠ 65279 :: t) : unmark (puts l) = puts l := by
  unfold unmark
  split
  · rename_i ht
    exfalso
    have e : puts l = 239 :: 187 :: 191 :: (puts l).drop 3 := by
      conv => lhs; rw [← List.take_append_drop 3 (puts l), ht]
      rfl
    have d := dec_puts_ok h
    rw [e, dec_mark] at d
    exact hh _ d.symm
  · rfl

/-- What is read again. -/
theorem again_mark {t : List Int} (h : ∀ p ∈ t, pointOk p = true) (hl : (puts (65279 :: t)).length ≤ 3000) : utfRead (puts (65279 :: t)) = t := by
  unfold utfRead; rw [if_pos hl, unmark_mark, dec_puts_ok h]
theorem again_other {l : List Int} (h : ∀ p ∈ l, pointOk p = true) (hh : ∀ t, l ≠ 65279 :: t) (hl : (puts l).length ≤ 3000) : utfRead (puts l) = l := by
  unfold utfRead; rw [if_pos hl, unmark_other h hh, dec_puts_ok h]
theorem ok_other {l : List Int} (h : ∀ p ∈ l, pointOk p = true) (hh : ∀ t, l ≠ 65279 :: t) (hl : (puts l).length ≤ 3000) (h3 : l.length ≤ 3000) : utfOk (puts l) = true := by
  rw [utfOk_yes hl, again_other h hh hl]
  unfold pointsPut; rw [if_pos h3]; simp
end Go.Proofs.YtaanfeahojfadaaGreatDoor
