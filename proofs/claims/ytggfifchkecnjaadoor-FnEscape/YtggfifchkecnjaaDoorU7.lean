/- Escape, plain: what stands for each sign, byte by byte and rune by rune. -/
import Derived.Test.YtggfifchkecnjaaDoorU6
import Derived.Lib.TrimUEq
import Derived.Lib.Strings
import Derived.Lib.Small
import Derived.Test.YtggfifchkecnjaaDoorU2
import Derived.Test.YtggfifchkecnjaaDoorU4
import Derived.Test.YtggfifchkecnjaaDoorU5
namespace Go.Proofs.YtggfifchkecnjaaDoor
open Go.RowKit
set_option maxRecDepth 100000
set_option linter.unusedVariables false

def ampS : List UInt8 := [38, 97, 109, 112, 59]
def nbspS : List UInt8 := [38, 110, 98, 115, 112, 59]
def quotS : List UInt8 := [38, 113, 117, 111, 116, 59]
def ltS : List UInt8 := [38, 108, 116, 59]
def gtS : List UInt8 := [38, 103, 116, 59]

/-- What stands for one byte. -/
def esc1 (v : Bool) (b : UInt8) : List UInt8 :=
  if b = 38 then ampS else if b = 34 ∧ v = true then quotS else if b = 60 ∧ v = false then ltS else if b = 62 ∧ v = false then gtS else [b]
/-- What stands for a text. -/
def esc (v : Bool) : List UInt8 → List UInt8
  | [] => []
  | [b] => esc1 v b
  | b :: c :: r => if b = 194 ∧ c = 160 then nbspS ++ esc v r else esc1 v b ++ esc v (c :: r)

theorem esc_hard (v : Bool) (r : List UInt8) : esc v (194 :: 160 :: r) = nbspS ++ esc v r := by simp [esc]
theorem esc_cons (v : Bool) (b : UInt8) (r : List UInt8) (h : ¬ (b = 194 ∧ r.head? = some 160)) : esc v (b :: r) = esc1 v b ++ esc v r := by
  cases r with
  | nil => simp [esc]
  | cons c r =>
    rw [esc, if_neg]
    rintro ⟨rfl, rfl⟩
    exact h ⟨rfl, rfl⟩

theorem esc1_high (v : Bool) (b : UInt8) (h : 128 ≤ b.toNat) : esc1 v b = [b] := by
  unfold esc1
  rw [if_neg, if_neg, if_neg, if_neg]
  all_goals
    first | (rintro ⟨rfl, _⟩; revert h; decide) | (rintro rfl; revert h; decide)

theorem esc_high (v : Bool) (b : UInt8) (r : List UInt8) (h : 128 ≤ b.toNat) (hn : ¬ (b.toNat = 194 ∧ 1 ≤ r.length ∧ (r.getD 0 0).toNat = 160)) : esc v (b :: r) = b :: esc v r := by
  rw [esc_cons, esc1_high v b h]
  · rfl
  · rintro ⟨rfl, e⟩
    cases r with
    | nil => cases e
    | cons c r =>
      simp only [List.head?_cons, Option.some.injEq] at e
      subst e
      exact hn ⟨by decide, by simp, by simp⟩

theorem esc1_le (v : Bool) (b : UInt8) : (esc1 v b).length ≤ 6 := by
  unfold esc1
  repeat' split
  all_goals first | decide | simp

/-- What the program writes for a rune: empty where it stands for itself. -/
def refOf (r : Nat) (v : Bool) : List UInt8 :=
  if r = 38 then ampS else if r = 160 then nbspS else if r = 34 ∧ v = true then quotS else if r = 60 ∧ v = false then ltS else if r = 62 ∧ v = false then gtS else []

theorem refOf_le (r : Nat) (v : Bool) : (refOf r v).length ≤ 6 := by
  unfold refOf
  repeat' split
  all_goals decide

theorem u8_eq {b : UInt8} {n : Nat} (h : b.toNat = n) (hn : n < 256) : b = UInt8.ofNat n := by
  subst h; simp

/-- A rune below 128 is the byte itself. -/
theorem dec_low (b : UInt8) (r : List UInt8) (c : Nat) (hc : c < 128) (h : (Lib.decodeL (b :: r)).1 = c) : b.toNat = c ∧ (Lib.decodeL (b :: r)).2 = 1 := by
  rw [Lib.decodeL_N] at h ⊢
  have hb : ((b :: r).getD 0 0).toNat = b.toNat := rfl
  rw [hb] at h ⊢
  have h0 := b.toNat_lt
  unfold Lib.decodeN at h ⊢
  by_cases h1 : b.toNat < 128
  · rw [if_pos h1] at h ⊢
    exact ⟨h, rfl⟩
  · exfalso
    rw [if_neg h1] at h
    repeat' split at h
    all_goals simp only at h
    all_goals omega

/-- Point 160 is its two bytes. -/
theorem dec_hard (b : UInt8) (r : List UInt8) (h : (Lib.decodeL (b :: r)).1 = 160) : b.toNat = 194 ∧ 1 ≤ r.length ∧ (r.getD 0 0).toNat = 160 ∧ (Lib.decodeL (b :: r)).2 = 2 := by
  rw [Lib.decodeL_N] at h ⊢
  have hb : ((b :: r).getD 0 0).toNat = b.toNat := rfl
  have hc : ((b :: r).getD 1 0).toNat = (r.getD 0 0).toNat := rfl
  rw [hb, hc] at h ⊢
  have h0 := b.toNat_lt
  have h0' := (r.getD 0 0).toNat_lt
  simp only [List.length_cons] at h ⊢
  generalize ((b :: r).getD 2 0).toNat = b2 at h ⊢
  generalize ((b :: r).getD 3 0).toNat = b3 at h ⊢
  generalize (r.getD 0 0).toNat = b1 at h h0' ⊢
  generalize b.toNat = b0 at h h0 ⊢
  unfold Lib.decodeN at h ⊢
  repeat' split at h
  all_goals simp only at h
  all_goals first | (exfalso; omega) | skip
  rename_i h1 h2 h3
  rw [if_neg h1, if_pos h2, if_pos h3]
  exact ⟨by omega, by omega, by omega, rfl⟩

/-- How wide a rune is, and what its bytes are. -/
theorem dec_wide (b : UInt8) (r : List UInt8) (hh : 128 ≤ b.toNat) :
    ((Lib.decodeL (b :: r)).2 = 1 ∨ ((Lib.decodeL (b :: r)).2 = 2 ∧ 1 ≤ r.length ∧ (r.getD 0 0).toNat / 64 = 2) ∨ ((Lib.decodeL (b :: r)).2 = 3 ∧ 2 ≤ r.length ∧ (r.getD 0 0).toNat / 64 = 2 ∧ (r.getD 1 0).toNat / 64 = 2) ∨
      ((Lib.decodeL (b :: r)).2 = 4 ∧ 3 ≤ r.length ∧ (r.getD 0 0).toNat / 64 = 2 ∧ (r.getD 1 0).toNat / 64 = 2 ∧ (r.getD 2 0).toNat / 64 = 2)) ∧
    (b.toNat = 194 → 1 ≤ r.length → (r.getD 0 0).toNat = 160 → (Lib.decodeL (b :: r)).1 = 160) := by
  rw [Lib.decodeL_N]
  have hb : ((b :: r).getD 0 0).toNat = b.toNat := rfl
  have hc : ((b :: r).getD 1 0).toNat = (r.getD 0 0).toNat := rfl
  have hd : ((b :: r).getD 2 0).toNat = (r.getD 1 0).toNat := rfl
  have he : ((b :: r).getD 3 0).toNat = (r.getD 2 0).toNat := rfl
  rw [hb, hc, hd, he]
  have h0 := b.toNat_lt
  simp only [List.length_cons]
  generalize (r.getD 0 0).toNat = b1
  generalize (r.getD 1 0).toNat = b2
  generalize (r.getD 2 0).toNat = b3
  generalize b.toNat = b0 at hh h0
  unfold Lib.decodeN
  rw [if_neg (by omega)]
  constructor
  · repeat' split
    all_goals first | exact Or.inl rfl | exact Or.inr (Or.inl ⟨rfl, by omega, by omega⟩) | exact Or.inr (Or.inr (Or.inl ⟨rfl, by omega, by omega, by omega⟩)) | exact Or.inr (Or.inr (Or.inr ⟨rfl, by omega, by omega, by omega, by omega⟩))
  · intro e1 e2 e3
    subst e1 e3
    rw [if_pos (by omega), if_pos (by omega)]

theorem rune_plain (v : Bool) (b : UInt8) (r : List UInt8) (h : refOf (Lib.decodeL (b :: r)).1 v = []) :
    (Lib.decodeL (b :: r)).2 ≤ r.length + 1 ∧ esc v (b :: r) = (b :: r).take (Lib.decodeL (b :: r)).2 ++ esc v ((b :: r).drop (Lib.decodeL (b :: r)).2) := by
  by_cases hb : b.toNat < 128
  · have e : Lib.decodeL (b :: r) = (b.toNat, 1) := by
      rw [Lib.decodeL_N]
      have e0 : ((b :: r).getD 0 0).toNat = b.toNat := rfl
      rw [e0]
      unfold Lib.decodeN
      rw [if_pos hb]
    rw [e] at h ⊢
    simp only at h ⊢
    refine ⟨by omega, ?_⟩
    rw [esc_cons v b r (by rintro ⟨rfl, _⟩; revert hb; decide)]
    have e1 : esc1 v b = [b] := by
      have key : ∀ n : Nat, n < 256 → b = UInt8.ofNat n → b.toNat = n := by
        intro n hn hbn
        subst hbn
        simp [Nat.mod_eq_of_lt hn]
      unfold esc1
      unfold refOf at h
      rw [if_neg, if_neg, if_neg, if_neg]
      · rintro ⟨hb1, hv⟩; rw [key 62 (by decide) hb1, hv] at h; revert h; decide
      · rintro ⟨hb1, hv⟩; rw [key 60 (by decide) hb1, hv] at h; revert h; decide
      · rintro ⟨hb1, hv⟩; rw [key 34 (by decide) hb1, hv] at h; revert h; decide
      · intro hb1; rw [key 38 (by decide) hb1] at h; revert h; decide +revert
    rw [e1]
    rfl
  · obtain ⟨hw, h160⟩ := dec_wide b r (by omega)
    have hn : ¬ (b.toNat = 194 ∧ 1 ≤ r.length ∧ (r.getD 0 0).toNat = 160) := by
      rintro ⟨q1, q2, q3⟩
      rw [h160 q1 q2 q3] at h
      revert h; decide +revert
    have hgo := esc_high v b r (by omega) hn
    rcases hw with hw | ⟨hw, hl, c1⟩ | ⟨hw, hl, c1, c2⟩ | ⟨hw, hl, c1, c2, c3⟩
    · rw [hw]
      exact ⟨by omega, hgo⟩
    · rw [hw]
      match r, hl, c1, hgo with
      | c :: r, _, c1, hgo =>
        have c1' : c.toNat / 64 = 2 := c1
        refine ⟨by simp, ?_⟩
        rw [hgo, esc_high v c r (by omega) (by omega)]
        rfl
    · rw [hw]
      match r, hl, c1, c2, hgo with
      | c :: d :: r, _, c1, c2, hgo =>
        have c1' : c.toNat / 64 = 2 := c1
        have c2' : d.toNat / 64 = 2 := c2
        refine ⟨by simp, ?_⟩
        rw [hgo, esc_high v c _ (by omega) (by omega), esc_high v d _ (by omega) (by omega)]
        rfl
    · rw [hw]
      match r, hl, c1, c2, c3, hgo with
      | c :: d :: e :: r, _, c1, c2, c3, hgo =>
        have c1' : c.toNat / 64 = 2 := c1
        have c2' : d.toNat / 64 = 2 := c2
        have c3' : e.toNat / 64 = 2 := c3
        refine ⟨by simp, ?_⟩
        rw [hgo, esc_high v c _ (by omega) (by omega), esc_high v d _ (by omega) (by omega), esc_high v e _ (by omega) (by omega)]
        rfl

/-- Where a sign is written, the rune is as wide as its number says. -/
theorem rune_sign (v : Bool) (b : UInt8) (r : List UInt8) (h : refOf (Lib.decodeL (b :: r)).1 v ≠ []) :
    Lib.runeLen (Lib.decodeL (b :: r)).1 = (Lib.decodeL (b :: r)).2 ∧ (Lib.decodeL (b :: r)).2 ≤ r.length + 1 ∧ esc v (b :: r) = refOf (Lib.decodeL (b :: r)).1 v ++ esc v ((b :: r).drop (Lib.decodeL (b :: r)).2) := by
  have low : ∀ c : Nat, c < 128 → (Lib.decodeL (b :: r)).1 = c → refOf c v = esc1 v (UInt8.ofNat c) → Lib.runeLen (Lib.decodeL (b :: r)).1 = (Lib.decodeL (b :: r)).2 ∧ (Lib.decodeL (b :: r)).2 ≤ r.length + 1 ∧ esc v (b :: r) = refOf (Lib.decodeL (b :: r)).1 v ++ esc v ((b :: r).drop (Lib.decodeL (b :: r)).2) := by
    intro c hc hd he
    obtain ⟨h1, h2⟩ := dec_low b r c hc hd
    rw [h2, hd]
    have hb := u8_eq h1 (by omega)
    refine ⟨?_, by omega, ?_⟩
    · unfold Lib.runeLen
      rw [if_neg (by omega), if_pos (by omega)]
      rfl
    · rw [esc_cons v b r (by rintro ⟨rfl, _⟩; revert h1; simp; omega), he, ← hb]
      rfl
  by_cases h38 : (Lib.decodeL (b :: r)).1 = 38
  · exact low 38 (by decide) h38 (by cases v <;> rfl)
  by_cases h34 : (Lib.decodeL (b :: r)).1 = 34 ∧ v = true
  · obtain ⟨q, rfl⟩ := h34
    exact low 34 (by decide) q rfl
  by_cases h60 : (Lib.decodeL (b :: r)).1 = 60 ∧ v = false
  · obtain ⟨q, rfl⟩ := h60
    exact low 60 (by decide) q rfl
  by_cases h62 : (Lib.decodeL (b :: r)).1 = 62 ∧ v = false
  · obtain ⟨q, rfl⟩ := h62
    exact low 62 (by decide) q rfl
  by_cases h160 : (Lib.decodeL (b :: r)).1 = 160
  · obtain ⟨q1, q2, q3, q4⟩ := dec_hard b r h160
    rw [h160, q4]
    match r, q2, q3 with
    | c :: r, _, q3 =>
      have q3' : c.toNat = 160 := q3
      have e1 := u8_eq q1 (by omega)
      have e2 := u8_eq q3' (by omega)
      subst e1 e2
      exact ⟨by decide, by simp, esc_hard v r⟩
  · exfalso
    apply h
    unfold refOf
    rw [if_neg h38, if_neg h160, if_neg h34, if_neg h60, if_neg h62]
end Go.Proofs.YtggfifchkecnjaaDoor

/- The plain mathematics of putting and reading: points are read from their bytes as they were; what is read has points alone. No condition. -/
namespace Go.Proofs.YtggfifchkecnjaaDoor

theorem loOf_224 : loOf 224 = 160 := rfl
theorem loOf_le {b : Int} (h1 : b ≠ 224) (h2 : b ≠ 240) : loOf b = 128 := by unfold loOf; rw [if_neg h1, if_neg h2]
theorem hiOf_le {b : Int} (h1 : b ≠ 237) (h2 : b ≠ 244) : hiOf b = 191 := by unfold hiOf; rw [if_neg h1, if_neg h2]

theorem dec_enc {p : Int} (h0 : 0 ≤ p) (h1 : p ≤ 1114111) (h2 : p < 55296 ∨ 57343 < p) (r : List Int) : dec (enc p ++ r) = p :: dec r := by
  by_cases a : p < 128
  · rw [enc1 a]; exact dec_ascii r a
  by_cases b : p < 2048
  · rw [enc2 (by omega) b]
    show dec ((192 + p / 64) :: (128 + p % 64) :: r) = _
    rw [dec_two _ (by omega), tail_in _ 0 r (by rw [loOf_le (by omega) (by omega)]; omega) (by rw [hiOf_le (by omega) (by omega)]; omega)]
    simp only [tailOf]
    rw [show (192 + p / 64 - 192) * 64 + (128 + p % 64) - 128 = p by omega]
  by_cases c : p < 65536
  · rw [enc3 (by omega) c]
    show dec ((224 + p / 4096) :: (128 + p / 64 % 64) :: (128 + p % 64) :: r) = _
    have hlo : loOf (224 + p / 4096) ≤ 128 + p / 64 % 64 := by
      by_cases e : p / 4096 = 0
      · rw [e]; simp only [loOf]; simp; omega
      · rw [loOf_le (by omega) (by omega)]; omega
    have hhi : 128 + p / 64 % 64 ≤ hiOf (224 + p / 4096) := by
      by_cases e : p / 4096 = 13
      · rw [e]; simp only [hiOf]; simp; omega
      · rw [hiOf_le (by omega) (by omega)]; omega
    rw [dec_three _ (by omega), tail_in _ 1 _ hlo hhi, tail_in _ 0 r (by omega) (by omega)]
    simp only [tailOf]
    rw [show ((224 + p / 4096 - 224) * 64 + (128 + p / 64 % 64) - 128) * 64 + (128 + p % 64) - 128 = p by omega]
  · rw [enc4 (by omega)]
    show dec ((240 + p / 262144) :: (128 + p / 4096 % 64) :: (128 + p / 64 % 64) :: (128 + p % 64) :: r) = _
    have hlo : loOf (240 + p / 262144) ≤ 128 + p / 4096 % 64 := by
      by_cases e : p / 262144 = 0
      · rw [e]; simp only [loOf]; simp; omega
      · rw [loOf_le (by omega) (by omega)]; omega
    have hhi : 128 + p / 4096 % 64 ≤ hiOf (240 + p / 262144) := by
      by_cases e : p / 262144 = 4
      · rw [e]; simp only [hiOf]; simp; omega
      · rw [hiOf_le (by omega) (by omega)]; omega
    rw [dec_four _ (by omega), tail_in _ 2 _ hlo hhi, tail_in _ 1 _ (by omega) (by omega), tail_in _ 0 r (by omega) (by omega)]
    simp only [tailOf]
    rw [show (((240 + p / 262144 - 240) * 64 + (128 + p / 4096 % 64) - 128) * 64 + (128 + p / 64 % 64) - 128) * 64 + (128 + p % 64) - 128 = p by omega]

theorem dec_put (x : Int) (r : List Int) : dec (put x ++ r) = pt x :: dec r := by
  have h := pt_ok x
  exact dec_enc h.1 h.2.1 h.2.2 r
theorem dec_puts (xs : List Int) : dec (puts xs) = xs.map pt := by
  induction xs with
  | nil => exact dec_nil
  | cons x xs ih =>
    have e : puts (x :: xs) = put x ++ puts xs := by simp [puts]
    rw [e, dec_put, ih]; rfl
theorem put_pt (x : Int) : put (pt x) = put x := by unfold put; rw [pt_of _ (pointOk_pt x)]
theorem puts_pt (xs : List Int) : puts (xs.map pt) = puts xs := by
  unfold puts; rw [List.flatMap_map]; congr 1; funext x; exact put_pt x
theorem map_pt {xs : List Int} (h : ∀ x ∈ xs, pointOk x = true) : xs.map pt = xs := by
  conv => rhs; rw [← List.map_id xs]
  exact List.map_congr_left fun x hx => pt_of x (h x hx)

theorem unmark_first {b : Int} (h : b ≠ 239) (r : List Int) : unmark (b :: r) = b :: r := by
  unfold unmark; rw [if_neg]
  intro e
  match r, e with
  | [], e => simp at e
  | [_], e => simp at e
  | _ :: _ :: _, e => simp at e; exact h e.1

/-- What FnPoint reads and asks. -/
theorem read65 (x : Int) : utfRead ([65] ++ put x) = [65, pt x] := by
  have hl := (put_len x).2
  unfold utfRead
  rw [if_pos (by simp; omega)]
  show dec (unmark (65 :: put x)) = _
  rw [unmark_first (by omega)]
  have e : dec (65 :: put x) = 65 :: dec (put x) := dec_ascii _ (by omega)
  have e2 : dec (put x) = [pt x] := by have h := dec_put x []; rw [List.append_nil, dec_nil] at h; exact h
  rw [e, e2]
theorem put65 : put 65 = [65] := rfl
theorem ok65 (x : Int) : utfOk ([65] ++ put x) = true := by
  have hl := (put_len x).2
  rw [utfOk_yes (by simp; omega), read65]
  have e : pointsPut [65, pt x] = [65] ++ put x := by
    unfold pointsPut
    rw [if_pos (by simp)]
    show put 65 ++ (put (pt x) ++ []) = _
    rw [List.append_nil, put_pt]; rfl
  rw [e]; simp
end Go.Proofs.YtggfifchkecnjaaDoor

/- The plain mathematics of FnUtf: of any bytes points alone are read, and they are read again from their own bytes as the same. No condition. -/
namespace Go.Proofs.YtggfifchkecnjaaDoor

theorem tail1 (p lo hi : Int) (r : List Int) : (tailOf p 1 lo hi r).1 = 65533 ∨ ∃ c, lo ≤ c ∧ c ≤ hi ∧ (tailOf p 1 lo hi r).1 = p * 64 + c - 128 := by
  cases r with
  | nil => exact .inl rfl
  | cons c r =>
    by_cases h : lo ≤ c ∧ c ≤ hi
    · rw [tail_in p 0 r h.1 h.2]; exact .inr ⟨c, h.1, h.2, rfl⟩
    · rw [tail_out p 0 r (by omega)]; exact .inl rfl
theorem tail2 (p lo hi : Int) (r : List Int) : (tailOf p 2 lo hi r).1 = 65533 ∨ ∃ c d, lo ≤ c ∧ c ≤ hi ∧ 128 ≤ d ∧ d ≤ 191 ∧ (tailOf p 2 lo hi r).1 = (p * 64 + c - 128) * 64 + d - 128 := by
  cases r with
  | nil => exact .inl rfl
  | cons c r =>
    by_cases h : lo ≤ c ∧ c ≤ hi
    · rw [tail_in p 1 r h.1 h.2]
      rcases tail1 (p * 64 + c - 128) 128 191 r with e | ⟨d, d1, d2, e⟩
      · exact .inl e
      · exact .inr ⟨c, d, h.1, h.2, d1, d2, e⟩
    · rw [tail_out p 1 r (by omega)]; exact .inl rfl
theorem tail3 (p lo hi : Int) (r : List Int) : (tailOf p 3 lo hi r).1 = 65533 ∨ ∃ c d f, lo ≤ c ∧ c ≤ hi ∧ 128 ≤ d ∧ d ≤ 191 ∧ 128 ≤ f ∧ f ≤ 191 ∧ (tailOf p 3 lo hi r).1 = ((p * 64 + c - 128) * 64 + d - 128) * 64 + f - 128 := by
  cases r with
  | nil => exact .inl rfl
  | cons c r =>
    by_cases h : lo ≤ c ∧ c ≤ hi
    · rw [tail_in p 2 r h.1 h.2]
      rcases tail2 (p * 64 + c - 128) 128 191 r with e | ⟨d, f, d1, d2, f1, f2, e⟩
      · exact .inl e
      · exact .inr ⟨c, d, f, h.1, h.2, d1, d2, f1, f2, e⟩
    · rw [tail_out p 2 r (by omega)]; exact .inl rfl

theorem ok_std : pointOk 65533 = true := rfl
theorem stepOf_ok {b : Int} (h0 : 0 ≤ b) (r : List Int) : pointOk (stepOf b r).1 = true := by
  unfold stepOf
  split
  · rw [pointOk_iff]; simp; omega
  split
  · rename_i h
    rcases tail1 (b - 192) (loOf b) (hiOf b) r with e | ⟨c, c1, c2, e⟩
    · rw [e]; rfl
    · rw [loOf_le (by omega) (by omega)] at c1
      rw [hiOf_le (by omega) (by omega)] at c2
      rw [e, pointOk_iff]; omega
  split
  · rename_i h
    rcases tail2 (b - 224) (loOf b) (hiOf b) r with e | ⟨c, d, c1, c2, d1, d2, e⟩
    · rw [e]; rfl
    · have hl : 128 ≤ loOf b ∧ (b = 224 → loOf b = 160) := ⟨(lo_hi b).1, fun e => by rw [e]; rfl⟩
      have hh : hiOf b ≤ 191 ∧ (b = 237 → hiOf b = 159) := ⟨(lo_hi b).2.2.2, fun e => by rw [e]; rfl⟩
      rw [e, pointOk_iff]
      by_cases e1 : b = 224
      · have := hl.2 e1; omega
      by_cases e2 : b = 237
      · have := hh.2 e2; omega
      · omega
  split
  · rename_i h
    rcases tail3 (b - 240) (loOf b) (hiOf b) r with e | ⟨c, d, f, c1, c2, d1, d2, f1, f2, e⟩
    · rw [e]; rfl
    · have hl : 128 ≤ loOf b ∧ (b = 240 → loOf b = 144) := ⟨(lo_hi b).1, fun e => by rw [e]; rfl⟩
      have hh : hiOf b ≤ 191 ∧ (b = 244 → hiOf b = 143) := ⟨(lo_hi b).2.2.2, fun e => by rw [e]; rfl⟩
      rw [e, pointOk_iff]
      by_cases e1 : b = 240
      · have := hl.2 e1; omega
      by_cases e2 : b = 244
      · have := hh.2 e2; omega
      · omega
  · rfl
theorem tailOf_mem (p : Int) (k : Nat) (lo hi : Int) (r : List Int) : ∀ y ∈ (tailOf p k lo hi r).2, y ∈ r := by
  induction k generalizing p lo hi r with
  | zero => intro y hy; exact hy
  | succ k ih =>
    cases r with
    | nil => intro y hy; exact hy
    | cons c r =>
      by_cases h : lo ≤ c ∧ c ≤ hi
      · rw [tail_in p k r h.1 h.2]
        intro y hy
        exact List.mem_cons_of_mem _ (ih _ _ _ _ y hy)
      · rw [tail_out p k r (by omega)]
        intro y hy; exact hy
theorem stepOf_mem (b : Int) (r : List Int) : ∀ y ∈ (stepOf b r).2, y ∈ r := by
  unfold stepOf; repeat' split
  all_goals first | exact fun y hy => tailOf_mem _ _ _ _ _ y hy | exact fun y hy => hy
theorem dec_ok (n : Nat) (l : List Int) (h : l.length ≤ n) (hb : ∀ y ∈ l, 0 ≤ y) : ∀ p ∈ dec l, pointOk p = true := by
  induction n generalizing l with
  | zero => have : l = [] := List.length_eq_zero_iff.mp (by omega)
            subst this; rw [dec_nil]; intro p hp; cases hp
  | succ n ih =>
    cases l with
    | nil => rw [dec_nil]; intro p hp; cases hp
    | cons b r =>
      rw [dec_cons]
      have h1 := stepOf_le b r
      intro p hp
      rcases List.mem_cons.mp hp with e | e
      · rw [e]; exact stepOf_ok (hb b (List.mem_cons_self ..)) r
      · exact ih (stepOf b r).2 (by simp at h; omega) (fun y hy => hb y (List.mem_cons_of_mem _ (stepOf_mem b r y hy))) p e
theorem unmark_sub {xs : List Int} {y : Int} (h : y ∈ unmark xs) : y ∈ xs := by
  unfold unmark at h; split at h
  · exact List.mem_of_mem_drop h
  · exact h
theorem utfRead_ok {bs : List Int} (hb : ∀ y ∈ bs, 0 ≤ y ∧ y ≤ 255) : ∀ p ∈ utfRead bs, pointOk p = true := by
  unfold utfRead; split
  · exact dec_ok _ _ (Nat.le_refl _) (fun y hy => (hb y (unmark_sub hy)).1)
  · intro p hp; cases hp

theorem enc_mark : enc 65279 = [239, 187, 191] := by decide
theorem put_mark : put 65279 = [239, 187, 191] := by unfold put; rw [pt_of _ (by decide)]; exact enc_mark
theorem dec_mark (r : List Int) : dec (239 :: 187 :: 191 :: r) = 65279 :: dec r := by
  have h := dec_enc (p := 65279) (by omega) (by omega) (by omega) r
  rw [enc_mark] at h; exact h
theorem dec_puts_ok {l : List Int} (h : ∀ p ∈ l, pointOk p = true) : dec (puts l) = l := by rw [dec_puts, map_pt h]
theorem unmark_mark (t : List Int) : unmark (puts (65279 :: t)) = puts t := by
  have e : puts (65279 :: t) = 239 :: 187 :: 191 :: puts t := by
    have e1 : puts (65279 :: t) = put 65279 ++ puts t := by simp [puts]
    rw [e1, put_mark]; rfl
  rw [e]; unfold unmark; rw [if_pos (by rfl : List.take 3 (239 :: 187 :: 191 :: puts t) = [239, 187, 191])]; rfl
theorem unmark_other {l : List Int} (h : ∀ p ∈ l, pointOk p = true) (hh : ∀ t, l ≠ 65279 :: t) : unmark (puts l) = puts l := by
  unfold unmark
  split
  · rename_i ht
    exfalso
    have e : puts l = 239 :: 187 :: 191 :: (puts l).drop 3 := by
      conv => lhs; rw [← List.take_append_drop 3 (puts l), ht]
      rfl
    have d := dec_puts_ok h
    rw [e, dec_mark] at d
    exact hh _ d.symm
  · rfl

/-- What is read again. -/
theorem again_mark {t : List Int} (h : ∀ p ∈ t, pointOk p = true) (hl : (puts (65279 :: t)).length ≤ 3000) : utfRead (puts (65279 :: t)) = t := by
  unfold utfRead; rw [if_pos hl, unmark_mark, dec_puts_ok h]
theorem again_other {l : List Int} (h : ∀ p ∈ l, pointOk p = true) (hh : ∀ t, l ≠ 65279 :: t) (hl : (puts l).length ≤ 3000) : utfRead (puts l) = l := by
  unfold utfRead; rw [if_pos hl, unmark_other h hh, dec_puts_ok h]
theorem ok_other {l : List Int} (h : ∀ p ∈ l, pointOk p = true) (hh : ∀ t, l ≠ 65279 :: t) (hl : (puts l).length ≤ 3000) (h3 : l.length ≤ 3000) : utfOk (puts l) = true := by
  rw [utfOk_yes hl, again_other h hh hl]
  unfold pointsPut; rw [if_pos h3]; simp
end Go.Proofs.YtggfifchkecnjaaDoor
