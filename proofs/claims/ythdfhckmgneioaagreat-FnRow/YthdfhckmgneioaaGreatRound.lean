/- The plain mathematics of putting and reading: points are read from their bytes as they were; what is read has points alone. No condition. -/
import Derived.Test.YthdfhckmgneioaaGreatDec
import Derived.Test.YthdfhckmgneioaaGreatPuts
import Derived.Test.YthdfhckmgneioaaGreatOk
namespace Go.Proofs.YthdfhckmgneioaaGreat

theorem loOf_224 : loOf 224 = 160 := rfl
theorem loOf_le {b : Int} (h1 : b ≠ 224) (h2 : b ≠ 240) : loOf b = 128 := by unfold loOf; rw [if_neg h1, if_neg h2]
theorem hiOf_le {b : Int} (h1 : b ≠ 237) (h2 : b ≠ 244) : hiOf b = 191 := by unfold hiOf; rw [if_neg h1, if_neg h2]

theorem dec_enc {p : Int} (h0 : 0 ≤ p) (h1 : p ≤ 1114111) (h2 : p < 55296 ∨ 57343 < p) (r : List Int) : dec (enc p ++ r) = p :: dec r := by
  by_cases a : p < 128
  · rw [enc1 a]; exact dec_ascii r a
  by_cases b : p < 2048
  · rw [enc2 (by omega) b]
    show dec ((192 + p / 64) :: (128 + p % 64) :: r) = _
    rw [dec_two _ (by omega), tail_in _ 0 r (by rw [loOf_le (by omega) (by omega)]; omega) (by rw [hiOf_le (by omega) (by omega)]; omega)]
    simp only [tailOf]
    rw [show (192 + p / 64 - 192) * 64 + (128 + p % 64) - 128 = p by omega]
  by_cases c : p < 65536
  · rw [enc3 (by omega) c]
    show dec ((224 + p / 4096) :: (128 + p / 64 % 64) :: (128 + p % 64) :: r) = _
    have hlo : loOf (224 + p / 4096) ≤ 128 + p / 64 % 64 := by
      by_cases e : p / 4096 = 0
      · rw [e]; simp only [loOf]; simp; omega
      · rw [loOf_le (by omega) (by omega)]; omega
    have hhi : 128 + p / 64 % 64 ≤ hiOf (224 + p / 4096) := by
      by_cases e : p / 4096 = 13
      · rw [e]; simp only [hiOf]; simp; omega
      · rw [hiOf_le (by omega) (by omega)]; omega
    rw [dec_three _ (by omega), tail_in _ 1 _ hlo hhi, tail_in _ 0 r (by omega) (by omega)]
    simp only [tailOf]
    rw [show ((224 + p / 4096 - 224) * 64 + (128 + p / 64 % 64) - 128) * 64 + (128 + p % 64) - 128 = p by omega]
  · rw [enc4 (by omega)]
    show dec ((240 + p / 262144) :: (128 + p / 4096 % 64) :: (128 + p / 64 % 64) :: (128 + p % 64) :: r) = _
    have hlo : loOf (240 + p / 262144) ≤ 128 + p / 4096 % 64 := by
      by_cases e : p / 262144 = 0
      · rw [e]; simp only [loOf]; simp; omega
      · rw [loOf_le (by omega) (by omega)]; omega
    have hhi : 128 + p / 4096 % 64 ≤ hiOf (240 + p / 262144) := by
      by_cases e : p / 262144 = 4
      · rw [e]; simp only [hiOf]; simp; omega
      · rw [hiOf_le (by omega) (by omega)]; omega
    rw [dec_four _ (by omega), tail_in _ 2 _ hlo hhi, tail_in _ 1 _ (by omega) (by omega), tail_in _ 0 r (by omega) (by omega)]
    simp only [tailOf]
    rw [show (((240 + p / 262144 - 240) * 64 + (128 + p / 4096 % 64) - 128) * 64 + (128 + p / 64 % 64) - 128) * 64 + (128 + p % 64) - 128 = p by omega]

theorem dec_put (x : Int) (r : List Int) : dec (put x ++ r) = pt x :: dec r := by
  have h := pt_ok x
  exact dec_enc h.1 h.2.1 h.2.2 r
theorem dec_puts (xs : List Int) : dec (puts xs) = xs.map pt := by
  induction xs with
  | nil => exact dec_nil
  | cons x xs ih =>
    have e : puts (x :: xs) = put x ++ puts xs := by simp [puts]
    rw [e, dec_put, ih]; rfl
theorem put_pt (x : Int) : put (pt x) = put x := by unfold put; rw [pt_of _ (pointOk_pt x)]
theorem puts_pt (xs : List Int) : puts (xs.map pt) = puts xs := by
  unfold puts; rw [List.flatMap_map]; congr 1; funext x; exact put_pt x
theorem map_pt {xs : List Int} (h : ∀ x ∈ xs, pointOk x = true) : xs.map pt = xs := by
  conv => rhs; rw [← List.map_id xs]
  exact List.map_congr_left fun x hx => pt_of x (h x hx)

theorem unmark_first {b : Int} (h : b ≠ 239) (r : List Int) : unmark (b :: r) = b :: r := by
  unfold unmark; rw [if_neg]
  intro e
  match r, e with
  | [], e => simp at e
  | [_], e => simp at e
  | _ :: _ :: _, e => simp at e; exact h e.1

/-- What FnPoint reads and asks. -/
theorem read65 (x : Int) : utfRead ([65] ++ put x) = [65, pt x] := by
  have hl := (put_len x).2
  unfold utfRead
  rw [if_pos (by simp; omega)]
  show dec (unmark (65 :: put x)) = _
  rw [unmark_first (by omega)]
  have e : dec (65 :: put x) = 65 :: dec (put x) := dec_ascii _ (by omega)
  have e2 : dec (put x) = [pt x] := by have h := dec_put x []; rw [List.append_nil, dec_nil] at h; exact h
  rw [e, e2]
theorem put65 : put 65 = [65] := rfl
theorem ok65 (x : Int) : utfOk ([65] ++ put x) = true := by
  have hl := (put_len x).2
  rw [utfOk_yes (by simp; omega), read65]
  have e : pointsPut [65, pt x] = [65] ++ put x := by
    unfold pointsPut
    rw [if_pos (by simp)]
    show put 65 ++ (put (pt x) ++ []) = _
    rw [List.append_nil, put_pt]; rfl
  rw [e]; simp
end Go.Proofs.YthdfhckmgneioaaGreat
