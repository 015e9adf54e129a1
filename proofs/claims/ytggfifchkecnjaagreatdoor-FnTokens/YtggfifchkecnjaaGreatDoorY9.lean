/- The contracts of the specification's reading of points: it reads what the plain function 'dec' tells. -/
import Derived.Test.YtggfifchkecnjaaGreatDoorY6
import Derived.Test.YtggfifchkecnjaaGreatDoorY2
import Derived.Test.YtggfifchkecnjaaGreatDoorY3
import Derived.Test.YtggfifchkecnjaaGreatDoorY7
namespace Go.Proofs.YtggfifchkecnjaaGreatDoor
open Go.RowKit
set_option maxRecDepth 100000
set_option linter.unusedVariables false

def formsOf (b : Int) : Int := if b < 128 then 1 else if 194 ≤ b ∧ b ≤ 223 then 2 else if 224 ≤ b ∧ b ≤ 239 then 3 else if 240 ≤ b ∧ b ≤ 244 then 4 else 0
theorem forms1 {b : Int} (h : b < 128) : formsOf b = 1 := by unfold formsOf; rw [if_pos h]
theorem forms2 {b : Int} (h : 194 ≤ b ∧ b ≤ 223) : formsOf b = 2 := by unfold formsOf; rw [if_neg (by omega), if_pos h]
theorem forms3 {b : Int} (h : 224 ≤ b ∧ b ≤ 239) : formsOf b = 3 := by unfold formsOf; rw [if_neg (by omega), if_neg (by omega), if_pos h]
theorem forms4 {b : Int} (h : 240 ≤ b ∧ b ≤ 244) : formsOf b = 4 := by unfold formsOf; rw [if_neg (by omega), if_neg (by omega), if_neg (by omega), if_pos h]
theorem forms0 {b : Int} (h : 128 ≤ b ∧ b < 194 ∨ 244 < b) : formsOf b = 0 := by unfold formsOf; rw [if_neg (by omega), if_neg (by omega), if_neg (by omega), if_neg (by omega)]

theorem l1Forms_any (b : Int) (w : World) : Calls Tryz.prog 60 #[.int .i64 b] w fun e w' => e = .returned (.int .i64 (formsOf b)) ∧ w' = w := by
  rcases (show b < 128 ∨ (194 ≤ b ∧ b ≤ 223) ∨ (224 ≤ b ∧ b ≤ 239) ∨ (240 ≤ b ∧ b ≤ 244) ∨ (128 ≤ b ∧ b < 194) ∨ 244 < b by omega) with h | h | h | h | h | h
  · rw [forms1 h]
    go_enter Tryz.func60, Tryz.ntmps60
    go_wp2
    go_ret
    exact ⟨rfl, rfl⟩
  · rw [forms2 h]
    obtain ⟨h1, h2⟩ := h
    go_enter Tryz.func60, Tryz.ntmps60
    go_wp2
    go_ret
    exact ⟨rfl, rfl⟩
  · rw [forms3 h]
    obtain ⟨h1, h2⟩ := h
    go_enter Tryz.func60, Tryz.ntmps60
    go_wp2
    go_ret
    exact ⟨rfl, rfl⟩
  · rw [forms4 h]
    obtain ⟨h1, h2⟩ := h
    go_enter Tryz.func60, Tryz.ntmps60
    go_wp2
    go_ret
    exact ⟨rfl, rfl⟩
  · rw [forms0 (.inl h)]
    obtain ⟨h1, h2⟩ := h
    go_enter Tryz.func60, Tryz.ntmps60
    go_wp2
    go_ret
    exact ⟨rfl, rfl⟩
  · rw [forms0 (.inr h)]
    go_enter Tryz.func60, Tryz.ntmps60
    go_wp2
    go_ret
    exact ⟨rfl, rfl⟩

theorem fits1 (b c : Int) (w : World) : Calls Tryz.prog 61 #[.int .i64 b, .int .i64 1, .int .i64 c] w fun e w' => e = .returned (.bool (inB c (loOf b) (hiOf b))) ∧ w' = w := by
  rcases (show b = 224 ∨ b = 237 ∨ b = 240 ∨ b = 244 ∨ (b ≠ 224 ∧ b ≠ 237 ∧ b ≠ 240 ∧ b ≠ 244) by omega) with rfl | rfl | rfl | rfl | ⟨h1, h2, h3, h4⟩
  · go_enter Tryz.func61, Tryz.ntmps61
    go_wp2_with (go_at_call 42; refine (l1In_any _ _ _ _).mono ?_; rintro e w' ⟨rfl, rfl⟩)
    go_ret
    exact ⟨rfl, rfl⟩
  · go_enter Tryz.func61, Tryz.ntmps61
    go_wp2_with (go_at_call 42; refine (l1In_any _ _ _ _).mono ?_; rintro e w' ⟨rfl, rfl⟩)
    go_ret
    exact ⟨rfl, rfl⟩
  · go_enter Tryz.func61, Tryz.ntmps61
    go_wp2_with (go_at_call 42; refine (l1In_any _ _ _ _).mono ?_; rintro e w' ⟨rfl, rfl⟩)
    go_ret
    exact ⟨rfl, rfl⟩
  · go_enter Tryz.func61, Tryz.ntmps61
    go_wp2_with (go_at_call 42; refine (l1In_any _ _ _ _).mono ?_; rintro e w' ⟨rfl, rfl⟩)
    go_ret
    exact ⟨rfl, rfl⟩
  · have e1 : (b == 224) = false := by simpa using h1
    have e2 : (b == 237) = false := by simpa using h2
    have e3 : (b == 240) = false := by simpa using h3
    have e4 : (b == 244) = false := by simpa using h4
    have hl : loOf b = 128 := by unfold loOf; rw [if_neg h1, if_neg h3]
    have hh : hiOf b = 191 := by unfold hiOf; rw [if_neg h2, if_neg h4]
    rw [hl, hh]
    clear h1 h2 h3 h4 hl hh
    go_enter Tryz.func61, Tryz.ntmps61
    go_wp2_with (go_at_call 42; refine (l1In_any _ _ _ _).mono ?_; rintro e w' ⟨rfl, rfl⟩)
    go_ret
    exact ⟨rfl, rfl⟩

theorem fitsN (b k c : Int) (hk : 2 ≤ k) (w : World) : Calls Tryz.prog 61 #[.int .i64 b, .int .i64 k, .int .i64 c] w fun e w' => e = .returned (.bool (inB c 128 191)) ∧ w' = w := by
  have e1 : (k == 1) = false := by simp; omega
  go_enter Tryz.func61, Tryz.ntmps61
  go_wp2_with (go_at_call 42; refine (l1In_any _ _ _ _).mono ?_; rintro e w' ⟨rfl, rfl⟩)
  go_ret
  exact ⟨rfl, rfl⟩

def loJ (b : Int) (j : Nat) : Int := if j = 0 then loOf b else 128
def hiJ (b : Int) (j : Nat) : Int := if j = 0 then hiOf b else 191
theorem fits_any (b : Int) (j : Nat) (c : Int) (w : World) : Calls Tryz.prog 61 #[.int .i64 b, .int .i64 ((j : Int) + 1), .int .i64 c] w fun e w' => e = .returned (.bool (inB c (loJ b j) (hiJ b j))) ∧ w' = w := by
  cases j with
  | zero => exact fits1 b c w
  | succ j => exact fitsN b _ c (by omega) w
def pf (xs : List Int) (i : Nat) (p0 : Int) : Nat → Int
  | 0 => p0
  | j + 1 => pf xs i p0 j * 64 + xs.getD (i + 1 + j) 0 - 128
def baseOf (m : Nat) : Int := if m = 1 then 192 else if m = 2 then 224 else 240

theorem getD_ok {xs : List Int} (h : ∀ x ∈ xs, 0 ≤ x ∧ x ≤ 255) (k : Nat) : 0 ≤ xs.getD k 0 ∧ xs.getD k 0 ≤ 255 := by
  by_cases hk : k < xs.length
  · have := h xs[k] (List.getElem_mem hk)
    simpa [List.getD_eq_getElem?_getD, hk] using this
  · simp [List.getD_eq_getElem?_getD, hk]
theorem pf_bound {xs : List Int} (h : ∀ x ∈ xs, 0 ≤ x ∧ x ≤ 255) (i : Nat) (p0 : Int) (h0 : 0 ≤ p0 ∧ p0 ≤ 255) (j : Nat) (hj : j ≤ 3) : -1000000000 ≤ pf xs i p0 j ∧ pf xs i p0 j ≤ 1000000000 := by
  have a0 := getD_ok h (i + 1 + 0)
  have a1 := getD_ok h (i + 1 + 1)
  have a2 := getD_ok h (i + 1 + 2)
  rcases (show j = 0 ∨ j = 1 ∨ j = 2 ∨ j = 3 by omega) with rfl | rfl | rfl | rfl
  · simp only [pf]; omega
  · simp only [pf]; omega
  · simp only [pf]; omega
  · simp only [pf]; omega

theorem tail_step {xs : List Int} {i m j : Nat} {b p0 : Int} (T : tailOf p0 m (loOf b) (hiOf b) (xs.drop (i + 1)) = tailOf (pf xs i p0 j) (m - j) (loJ b j) (hiJ b j) (xs.drop (i + 1 + j)))
    (hj : j < m) (hl : i + 1 + j < xs.length) (h1 : loJ b j ≤ xs[i + 1 + j]) (h2 : xs[i + 1 + j] ≤ hiJ b j) :
    tailOf p0 m (loOf b) (hiOf b) (xs.drop (i + 1)) = tailOf (pf xs i p0 (j + 1)) (m - (j + 1)) (loJ b (j + 1)) (hiJ b (j + 1)) (xs.drop (i + 1 + (j + 1))) := by
  obtain ⟨d, hd⟩ : ∃ d, m - j = d + 1 := ⟨m - j - 1, by omega⟩
  have hd' : m - (j + 1) = d := by omega
  have e : xs.getD (i + 1 + j) 0 = xs[i + 1 + j] := by simp [List.getD_eq_getElem?_getD, hl]
  rw [T, hd, hd', List.drop_eq_getElem_cons hl, tail_in _ _ _ h1 h2]
  simp only [pf, e, loJ, hiJ]
  simp [Nat.add_assoc]
theorem tail_all {xs : List Int} {i m : Nat} {b p0 : Int} (T : tailOf p0 m (loOf b) (hiOf b) (xs.drop (i + 1)) = tailOf (pf xs i p0 m) (m - m) (loJ b m) (hiJ b m) (xs.drop (i + 1 + m))) :
    tailOf p0 m (loOf b) (hiOf b) (xs.drop (i + 1)) = (pf xs i p0 m, xs.drop (i + 1 + m)) := by rw [T, Nat.sub_self]; rfl
theorem tail_stop {xs : List Int} {i m j : Nat} {b p0 : Int} (T : tailOf p0 m (loOf b) (hiOf b) (xs.drop (i + 1)) = tailOf (pf xs i p0 j) (m - j) (loJ b j) (hiJ b j) (xs.drop (i + 1 + j)))
    (hj : j < m) (hl : i + 1 + j = xs.length) : tailOf p0 m (loOf b) (hiOf b) (xs.drop (i + 1)) = (65533, xs.drop (i + 1 + j)) := by
  obtain ⟨d, hd⟩ : ∃ d, m - j = d + 1 := ⟨m - j - 1, by omega⟩
  rw [T, hd, List.drop_eq_nil_of_le (by omega), tail_end]
theorem tail_bad {xs : List Int} {i m j : Nat} {b p0 : Int} (T : tailOf p0 m (loOf b) (hiOf b) (xs.drop (i + 1)) = tailOf (pf xs i p0 j) (m - j) (loJ b j) (hiJ b j) (xs.drop (i + 1 + j)))
    (hj : j < m) (hl : i + 1 + j < xs.length) (h : xs[i + 1 + j] < loJ b j ∨ hiJ b j < xs[i + 1 + j]) : tailOf p0 m (loOf b) (hiOf b) (xs.drop (i + 1)) = (65533, xs.drop (i + 1 + j)) := by
  obtain ⟨d, hd⟩ : ∃ d, m - j = d + 1 := ⟨m - j - 1, by omega⟩
  rw [T, hd, List.drop_eq_getElem_cons hl, tail_out _ _ _ h]
theorem dec_form {b : Int} {m : Nat} (hm : 1 ≤ m ∧ m ≤ 3) (h : formsOf b = (m : Int) + 1) (r : List Int) :
    dec (b :: r) = (tailOf (b - baseOf m) m (loOf b) (hiOf b) r).1 :: dec (tailOf (b - baseOf m) m (loOf b) (hiOf b) r).2 := by
  by_cases h1 : b < 128
  · rw [forms1 h1] at h; omega
  by_cases h2 : 194 ≤ b ∧ b ≤ 223
  · rw [forms2 h2] at h
    obtain rfl : m = 1 := by omega
    exact dec_two r h2
  by_cases h3 : 224 ≤ b ∧ b ≤ 239
  · rw [forms3 h3] at h
    obtain rfl : m = 2 := by omega
    exact dec_three r h3
  by_cases h4 : 240 ≤ b ∧ b ≤ 244
  · rw [forms4 h4] at h
    obtain rfl : m = 3 := by omega
    exact dec_four r h4
  · rw [forms0 (by omega)] at h; omega
theorem dec_snoc {xs out : List Int} {i k : Nat} {p : Int} (h : out ++ dec (xs.drop i) = dec xs) (hi : i < xs.length) (hd : dec (xs[i] :: xs.drop (i + 1)) = p :: dec (xs.drop k)) : (out ++ [p]) ++ dec (xs.drop k) = dec xs := by
  rw [List.drop_eq_getElem_cons hi, hd] at h
  rw [List.append_assoc]; exact h
theorem dec_snoc_form {xs out : List Int} {i k m : Nat} {p : Int} (h : out ++ dec (xs.drop i) = dec xs) (hi : i < xs.length) (hm : 1 ≤ m ∧ m ≤ 3) (hf : formsOf xs[i] = (m : Int) + 1)
    (ht : tailOf (xs[i] - baseOf m) m (loOf xs[i]) (hiOf xs[i]) (xs.drop (i + 1)) = (p, xs.drop k)) : (out ++ [p]) ++ dec (xs.drop k) = dec xs :=
  dec_snoc h hi (by rw [dec_form hm hf, ht])

set_option maxHeartbeats 4000000 in
set_option maxRecDepth 100000 in
theorem l1Read_any {v : Value} {xs : List Int} {w : World} (h : Sl .u8 w v xs) (hb : ∀ x ∈ xs, 0 ≤ x ∧ x ≤ 255) (hn : xs.length ≤ 1073741824) :
    Calls Tryz.prog 35 #[v] w fun e w' => ∃ v', e = .returned v' ∧ Own w.heap.size 3 .i64 w' v' (dec xs) ∧ Below w.heap.size w w' := by
  obtain ⟨a, ca, rfl, _, _, _, ha⟩ := h
  have hown0 := own_empty 3 .i64 w
  have hbel0 : Below w.heap.size w (w.alloc (.cells #[] 3)) := (Below.refl _ _).alloc (Nat.le_refl _) _
  obtain ⟨i0, hi, hz0, hz1, hz2⟩ := info_parts Tryz.infoI
  have HB : Hid (∀ x ∈ xs, 0 ≤ x ∧ x ≤ 255) := hb
  clear hb
  go_enter Tryz.func35, Tryz.ntmps35
  go_wp2
  go_loopw [3, 4] (fun v q wr => ∃ (i : Nat) (out : List Int), i ≤ xs.length ∧ out.length ≤ i ∧ q = .int .i64 i ∧ Own w.heap.size 3 .i64 wr v out ∧ out ++ dec (xs.drop i) = dec xs ∧ Below w.heap.size w wr) (fun _ q _ => xs.length - (intOf q).toNat)
  case atStart => exact ⟨0, [], Nat.zero_le _, Nat.le_refl _, rfl, hown0, rfl, hbel0⟩
  case round =>
    clear hown0 hbel0
    obtain ⟨i, out, hil, hol, rfl, hown, hdec, hbel⟩ := hrel
    have hbs := hbel.size
    have HD : Hid (out ++ dec (xs.drop i) = dec xs) := hdec
    clear hdec
    by_cases hlt : i < xs.length
    · have ha' := ha.below hbel
      obtain ⟨b1, o1, rfl, c1⟩ := ha' i hlt
      have hx : 0 ≤ xs[i] ∧ xs[i] ≤ 255 := HB.out _ (List.getElem_mem hlt)
      have HC : Hid (∀ k, k < xs.length → wr.cell? ⟨b1, o1 + k, none⟩ = some (.int .u8 xs[k]!)) := by
        intro k hk
        obtain ⟨b2, o2, eb, c2⟩ := ha' k hk
        cases eb
        simpa [List.getD_eq_getElem?_getD, hk] using c2
      clear ha ha'
      rcases (show xs[i] < 128 ∨ (128 ≤ xs[i] ∧ xs[i] < 194 ∨ 244 < xs[i]) ∨ (194 ≤ xs[i] ∧ xs[i] ≤ 223) ∨ (224 ≤ xs[i] ∧ xs[i] ≤ 239) ∨ (240 ≤ xs[i] ∧ xs[i] ≤ 244) by omega) with h1 | h1 | h1 | h1 | h1
      · have HF : Hid (formsOf xs[i] = 1) := forms1 h1
        have H1 : Hid (xs[i] < 128) := h1
        have HFF : Hid (∀ w, Calls Tryz.prog 60 #[.int .i64 xs[i]] w fun e w' => e = .returned (.int .i64 1) ∧ w' = w) := fun w => by have := l1Forms_any xs[i] w; rw [HF.out] at this; exact this
        go_wp2_with (go_at_call 60; refine (HFF.out _).mono ?_; rintro e w' ⟨rfl, rfl⟩)
        refine wp_loop_rounds 1 ?_
        rw [rounds_succ]
        go_wp2
        refine wp_loop_rounds 1 ?_
        rw [rounds_succ]
        go_wp2_with (at_builtin; refine wpList_app _ rfl (.tmp 90) (.tmp 92) 24 rfl w.heap.size 3 i0 (.int .i64 0) 8 Tryz.underlying24 hi hz0 hz1 hz2 rfl .i64 _ _ out [xs[i]] rfl rfl (hown.alloc _) (sl_one _ _ _ _) (by simp; omega) (by unfold maxLen; simp; omega) (by simp; omega) ?_; intro v' w3 o3 g3)
        go_roundw
        case rel => exact ⟨i + 1, out ++ [xs[i]], by omega, by simp; omega, by go_num, o3, dec_snoc HD.out hlt (dec_ascii _ H1.out), (hbel.alloc hbs _).grown g3 (by simp; omega) hown.grownAt⟩
        case measure => simp [intOf]; omega
      · have HF : Hid (formsOf xs[i] = 0) := forms0 h1
        have H1 : Hid (128 ≤ xs[i] ∧ xs[i] < 194 ∨ 244 < xs[i]) := h1
        clear h1
        have HFF : Hid (∀ w, Calls Tryz.prog 60 #[.int .i64 xs[i]] w fun e w' => e = .returned (.int .i64 0) ∧ w' = w) := fun w => by have := l1Forms_any xs[i] w; rw [HF.out] at this; exact this
        go_wp2_with (go_at_call 60; refine (HFF.out _).mono ?_; rintro e w' ⟨rfl, rfl⟩)
        refine wp_loop_rounds 1 ?_
        rw [rounds_succ]
        go_wp2_with (at_builtin; refine wpList_app _ rfl (.tmp 54) (.tmp 55) 24 rfl w.heap.size 3 i0 (.int .i64 0) 8 Tryz.underlying24 hi hz0 hz1 hz2 rfl .i64 _ _ out [65533] rfl rfl (hown.alloc _) (sl_one _ _ _ _) (by simp; omega) (by unfold maxLen; simp; omega) (by simp; omega) ?_; intro v' w3 o3 g3)
        go_roundw
        case rel => exact ⟨i + 1, out ++ [65533], by omega, by simp; omega, by go_num, o3, dec_snoc HD.out hlt (dec_bad _ H1.out), (hbel.alloc hbs _).grown g3 (by simp; omega) hown.grownAt⟩
        case measure => simp [intOf]; omega
      · have HF : Hid (formsOf xs[i] = 2) := forms2 h1
        have HM : Hid (formsOf xs[i] = ((1 : Nat) : Int) + 1) := HF.out
        have HBD : Hid (∀ j, j ≤ 3 → -1000000000 ≤ pf xs i (xs[i] - baseOf 1) j ∧ pf xs i (xs[i] - baseOf 1) j ≤ 1000000000) := fun j hj => pf_bound HB.out i _ (by simp [baseOf]; omega) j hj
        have HX : Hid (∀ k, k < xs.length → 0 ≤ xs[k]! ∧ xs[k]! ≤ 255) := fun k hk => by have := HB.out xs[k] (List.getElem_mem hk); simpa [hk] using this
        have HFF : Hid (∀ w, Calls Tryz.prog 60 #[.int .i64 xs[i]] w fun e w' => e = .returned (.int .i64 2) ∧ w' = w) := fun w => by have := l1Forms_any xs[i] w; rw [HF.out] at this; exact this
        go_wp2_with (go_at_call 60; refine (HFF.out _).mono ?_; rintro e w' ⟨rfl, rfl⟩)
        go_loop [7] (fun q => ∃ j : Nat, j ≤ 1 ∧ i + 1 + j ≤ xs.length ∧ q = .int .i64 ((j : Int) + 1) ∧ tailOf (xs[i] - baseOf 1) 1 (loOf xs[i]) (hiOf xs[i]) (xs.drop (i + 1)) = tailOf (pf xs i (xs[i] - baseOf 1) j) (1 - j) (loJ xs[i] j) (hiJ xs[i] j) (xs.drop (i + 1 + j))) (fun q => 2 - (intOf q).toNat)
        case atStart => exact ⟨0, by omega, by omega, rfl, rfl⟩
        case round =>
          obtain ⟨j, hjm, hjl, rfl, hT⟩ := hrel
          have HT : Hid (tailOf (xs[i] - baseOf 1) 1 (loOf xs[i]) (hiOf xs[i]) (xs.drop (i + 1)) = tailOf (pf xs i (xs[i] - baseOf 1) j) (1 - j) (loJ xs[i] j) (hiJ xs[i] j) (xs.drop (i + 1 + j))) := hT
          clear hT
          by_cases hj : j < 1
          · by_cases hl : i + 1 + j < xs.length
            · obtain ⟨cb, hcb⟩ : ∃ cb, cb = xs.getD (i + 1 + j) 0 := ⟨_, rfl⟩
              have hcx : 0 ≤ cb ∧ cb ≤ 255 := by rw [hcb]; exact getD_ok HB.out _
              have c2 : w'.cell? ⟨b1, o1 + (i + (j + 1)), none⟩ = some (.int .u8 cb) := by
                have e := HC.out (i + (j + 1)) (by omega)
                rw [e, hcb, show i + 1 + j = i + (j + 1) by omega]
                simp [List.getD_eq_getElem?_getD, show i + (j + 1) < xs.length by omega]
              have HCB : Hid (cb = xs.getD (i + 1 + j) 0) := hcb
              clear hcb
              have HCE : Hid (cb = xs[i + 1 + j]) := (show cb = xs[i + 1 + j] by have h := HCB.out; simpa [List.getD_eq_getElem?_getD, hl] using h)
              by_cases hfit : loJ xs[i] j ≤ cb ∧ cb ≤ hiJ xs[i] j
              · have HFT : Hid (∀ w, Calls Tryz.prog 61 #[.int .i64 xs[i], .int .i64 ((j : Int) + 1), .int .i64 cb] w fun e w' => e = .returned (.bool true) ∧ w' = w) := fun w => by have := fits_any xs[i] j cb w; rw [inB_yes hfit.1 hfit.2] at this; exact this
                have HS := (show Hid (tailOf (xs[i] - baseOf 1) 1 (loOf xs[i]) (hiOf xs[i]) (xs.drop (i + 1)) = tailOf (pf xs i (xs[i] - baseOf 1) (j + 1)) (1 - (j + 1)) (loJ xs[i] (j + 1)) (hiJ xs[i] (j + 1)) (xs.drop (i + 1 + (j + 1)))) from tail_step HT.out hj hl (by rw [← HCE.out]; exact hfit.1) (by rw [← HCE.out]; exact hfit.2))
                clear hfit
                go_wp2_with (go_at_call 61; refine (HFT.out _).mono ?_; rintro e w2 ⟨rfl, rfl⟩)
                go_round
                case rel => exact ⟨j + 1, by omega, by omega, by go_num, HS.out⟩
                case measure => simp [intOf]; omega
              · have hbad : cb < loJ xs[i] j ∨ hiJ xs[i] j < cb := by omega
                have HFT : Hid (∀ w, Calls Tryz.prog 61 #[.int .i64 xs[i], .int .i64 ((j : Int) + 1), .int .i64 cb] w fun e w' => e = .returned (.bool false) ∧ w' = w) := fun w => by have := fits_any xs[i] j cb w; rw [inB_no hbad] at this; exact this
                have HS := (show Hid (tailOf (xs[i] - baseOf 1) 1 (loOf xs[i]) (hiOf xs[i]) (xs.drop (i + 1)) = (65533, xs.drop (i + 1 + j))) from tail_bad HT.out hj hl (by rw [← HCE.out]; exact hbad))
                clear hfit hbad
                go_wp2_with (first | (go_at_call 61; refine (HFT.out _).mono ?_; rintro e w2 ⟨rfl, rfl⟩) | (at_builtin; refine wpList_app _ rfl (.tmp 54) (.tmp 55) 24 rfl w.heap.size 3 i0 (.int .i64 0) 8 Tryz.underlying24 hi hz0 hz1 hz2 rfl .i64 _ _ out [65533] rfl rfl (hown.alloc _) (sl_one _ _ _ _) (by simp; omega) (by unfold maxLen; simp; omega) (by simp; omega) ?_; intro v' w3 o3 g3))
                go_roundw
                case rel => exact ⟨i + (j + 1), out ++ [65533], by omega, by simp; omega, by go_num, o3, dec_snoc_form HD.out hlt (by omega) HM.out (by rw [HS.out, Nat.add_assoc, Nat.add_comm 1 j]), (hbel.alloc hbs _).grown g3 (by simp; omega) hown.grownAt⟩
                case measure => simp [intOf]; omega
            · have hle : i + 1 + j = xs.length := by omega
              have HS := (show Hid (tailOf (xs[i] - baseOf 1) 1 (loOf xs[i]) (hiOf xs[i]) (xs.drop (i + 1)) = (65533, xs.drop (i + 1 + j))) from tail_stop HT.out hj hle)
              clear hle
              go_wp2_with (at_builtin; refine wpList_app _ rfl (.tmp 54) (.tmp 55) 24 rfl w.heap.size 3 i0 (.int .i64 0) 8 Tryz.underlying24 hi hz0 hz1 hz2 rfl .i64 _ _ out [65533] rfl rfl (hown.alloc _) (sl_one _ _ _ _) (by simp; omega) (by unfold maxLen; simp; omega) (by simp; omega) ?_; intro v' w3 o3 g3)
              go_roundw
              case rel => exact ⟨i + (j + 1), out ++ [65533], by omega, by simp; omega, by go_num, o3, dec_snoc_form HD.out hlt (by omega) HM.out (by rw [HS.out, Nat.add_assoc, Nat.add_comm 1 j]), (hbel.alloc hbs _).grown g3 (by simp; omega) hown.grownAt⟩
              case measure => simp [intOf]; omega
          · obtain rfl : j = 1 := by omega
            have HS := (show Hid (tailOf (xs[i] - baseOf 1) 1 (loOf xs[i]) (hiOf xs[i]) (xs.drop (i + 1)) = (pf xs i (xs[i] - baseOf 1) 1, xs.drop (i + 1 + 1))) from tail_all HT.out)
            go_wp2
            go_loop [8, 9] (fun x q => ∃ t : Nat, t ≤ 1 ∧ x = .int .i64 (pf xs i (xs[i] - baseOf 1) t) ∧ q = .int .i64 ((t : Int) + 1)) (fun _ q => 2 - (intOf q).toNat)
            case atStart => exact ⟨0, by omega, rfl, rfl⟩
            case round =>
              obtain ⟨t, htm, rfl, rfl⟩ := hrel
              have hpb := HBD.out t (by omega)
              by_cases ht : t < 1
              · obtain ⟨cb, hcb⟩ : ∃ cb, cb = xs.getD (i + 1 + t) 0 := ⟨_, rfl⟩
                have hcx : 0 ≤ cb ∧ cb ≤ 255 := by rw [hcb]; exact getD_ok HB.out _
                have c2 : w'.cell? ⟨b1, o1 + (i + (t + 1)), none⟩ = some (.int .u8 cb) := by
                  have e := HC.out (i + (t + 1)) (by omega)
                  rw [e, hcb, show i + 1 + t = i + (t + 1) by omega]
                  simp [List.getD_eq_getElem?_getD, show i + (t + 1) < xs.length by omega]
                have HCB : Hid (cb = xs.getD (i + 1 + t) 0) := hcb
                clear hcb
                have HPF : Hid (pf xs i (xs[i] - baseOf 1) (t + 1) = pf xs i (xs[i] - baseOf 1) t * 64 + cb - 128) := by rw [HCB.out]; exact (rfl : pf xs i (xs[i] - baseOf 1) (t + 1) = _)
                go_wp2
                go_round
                case rel => exact ⟨t + 1, by omega, by rw [HPF.out]; go_num, by go_num⟩
                case measure => simp [intOf]; omega
              · obtain rfl : t = 1 := by omega
                go_wp2_with (at_builtin; refine wpList_app _ rfl (.tmp 90) (.tmp 92) 24 rfl w.heap.size 3 i0 (.int .i64 0) 8 Tryz.underlying24 hi hz0 hz1 hz2 rfl .i64 _ _ out [pf xs i (xs[i] - baseOf 1) 1] rfl rfl (hown.alloc _) (sl_one _ _ _ _) (by simp; omega) (by unfold maxLen; simp; omega) (by simp; omega) ?_; intro v' w3 o3 g3)
                go_roundw
                case rel => exact ⟨i + 2, out ++ [pf xs i (xs[i] - baseOf 1) 1], by omega, by simp; omega, by go_num, o3, dec_snoc_form HD.out hlt (by omega) HM.out (by rw [HS.out, Nat.add_assoc]), (hbel.alloc hbs _).grown g3 (by simp; omega) hown.grownAt⟩
                case measure => simp [intOf]; omega
      · have HF : Hid (formsOf xs[i] = 3) := forms3 h1
        have HM : Hid (formsOf xs[i] = ((2 : Nat) : Int) + 1) := HF.out
        have HBD : Hid (∀ j, j ≤ 3 → -1000000000 ≤ pf xs i (xs[i] - baseOf 2) j ∧ pf xs i (xs[i] - baseOf 2) j ≤ 1000000000) := fun j hj => pf_bound HB.out i _ (by simp [baseOf]; omega) j hj
        have HX : Hid (∀ k, k < xs.length → 0 ≤ xs[k]! ∧ xs[k]! ≤ 255) := fun k hk => by have := HB.out xs[k] (List.getElem_mem hk); simpa [hk] using this
        have HFF : Hid (∀ w, Calls Tryz.prog 60 #[.int .i64 xs[i]] w fun e w' => e = .returned (.int .i64 3) ∧ w' = w) := fun w => by have := l1Forms_any xs[i] w; rw [HF.out] at this; exact this
        go_wp2_with (go_at_call 60; refine (HFF.out _).mono ?_; rintro e w' ⟨rfl, rfl⟩)
        go_loop [7] (fun q => ∃ j : Nat, j ≤ 2 ∧ i + 1 + j ≤ xs.length ∧ q = .int .i64 ((j : Int) + 1) ∧ tailOf (xs[i] - baseOf 2) 2 (loOf xs[i]) (hiOf xs[i]) (xs.drop (i + 1)) = tailOf (pf xs i (xs[i] - baseOf 2) j) (2 - j) (loJ xs[i] j) (hiJ xs[i] j) (xs.drop (i + 1 + j))) (fun q => 3 - (intOf q).toNat)
        case atStart => exact ⟨0, by omega, by omega, rfl, rfl⟩
        case round =>
          obtain ⟨j, hjm, hjl, rfl, hT⟩ := hrel
          have HT : Hid (tailOf (xs[i] - baseOf 2) 2 (loOf xs[i]) (hiOf xs[i]) (xs.drop (i + 1)) = tailOf (pf xs i (xs[i] - baseOf 2) j) (2 - j) (loJ xs[i] j) (hiJ xs[i] j) (xs.drop (i + 1 + j))) := hT
          clear hT
          by_cases hj : j < 2
          · by_cases hl : i + 1 + j < xs.length
            · obtain ⟨cb, hcb⟩ : ∃ cb, cb = xs.getD (i + 1 + j) 0 := ⟨_, rfl⟩
              have hcx : 0 ≤ cb ∧ cb ≤ 255 := by rw [hcb]; exact getD_ok HB.out _
              have c2 : w'.cell? ⟨b1, o1 + (i + (j + 1)), none⟩ = some (.int .u8 cb) := by
                have e := HC.out (i + (j + 1)) (by omega)
                rw [e, hcb, show i + 1 + j = i + (j + 1) by omega]
                simp [List.getD_eq_getElem?_getD, show i + (j + 1) < xs.length by omega]
              have HCB : Hid (cb = xs.getD (i + 1 + j) 0) := hcb
              clear hcb
              have HCE : Hid (cb = xs[i + 1 + j]) := (show cb = xs[i + 1 + j] by have h := HCB.out; simpa [List.getD_eq_getElem?_getD, hl] using h)
              by_cases hfit : loJ xs[i] j ≤ cb ∧ cb ≤ hiJ xs[i] j
              · have HFT : Hid (∀ w, Calls Tryz.prog 61 #[.int .i64 xs[i], .int .i64 ((j : Int) + 1), .int .i64 cb] w fun e w' => e = .returned (.bool true) ∧ w' = w) := fun w => by have := fits_any xs[i] j cb w; rw [inB_yes hfit.1 hfit.2] at this; exact this
                have HS := (show Hid (tailOf (xs[i] - baseOf 2) 2 (loOf xs[i]) (hiOf xs[i]) (xs.drop (i + 1)) = tailOf (pf xs i (xs[i] - baseOf 2) (j + 1)) (2 - (j + 1)) (loJ xs[i] (j + 1)) (hiJ xs[i] (j + 1)) (xs.drop (i + 1 + (j + 1)))) from tail_step HT.out hj hl (by rw [← HCE.out]; exact hfit.1) (by rw [← HCE.out]; exact hfit.2))
                clear hfit
                go_wp2_with (go_at_call 61; refine (HFT.out _).mono ?_; rintro e w2 ⟨rfl, rfl⟩)
                go_round
                case rel => exact ⟨j + 1, by omega, by omega, by go_num, HS.out⟩
                case measure => simp [intOf]; omega
              · have hbad : cb < loJ xs[i] j ∨ hiJ xs[i] j < cb := by omega
                have HFT : Hid (∀ w, Calls Tryz.prog 61 #[.int .i64 xs[i], .int .i64 ((j : Int) + 1), .int .i64 cb] w fun e w' => e = .returned (.bool false) ∧ w' = w) := fun w => by have := fits_any xs[i] j cb w; rw [inB_no hbad] at this; exact this
                have HS := (show Hid (tailOf (xs[i] - baseOf 2) 2 (loOf xs[i]) (hiOf xs[i]) (xs.drop (i + 1)) = (65533, xs.drop (i + 1 + j))) from tail_bad HT.out hj hl (by rw [← HCE.out]; exact hbad))
                clear hfit hbad
                go_wp2_with (first | (go_at_call 61; refine (HFT.out _).mono ?_; rintro e w2 ⟨rfl, rfl⟩) | (at_builtin; refine wpList_app _ rfl (.tmp 54) (.tmp 55) 24 rfl w.heap.size 3 i0 (.int .i64 0) 8 Tryz.underlying24 hi hz0 hz1 hz2 rfl .i64 _ _ out [65533] rfl rfl (hown.alloc _) (sl_one _ _ _ _) (by simp; omega) (by unfold maxLen; simp; omega) (by simp; omega) ?_; intro v' w3 o3 g3))
                go_roundw
                case rel => exact ⟨i + (j + 1), out ++ [65533], by omega, by simp; omega, by go_num, o3, dec_snoc_form HD.out hlt (by omega) HM.out (by rw [HS.out, Nat.add_assoc, Nat.add_comm 1 j]), (hbel.alloc hbs _).grown g3 (by simp; omega) hown.grownAt⟩
                case measure => simp [intOf]; omega
            · have hle : i + 1 + j = xs.length := by omega
              have HS := (show Hid (tailOf (xs[i] - baseOf 2) 2 (loOf xs[i]) (hiOf xs[i]) (xs.drop (i + 1)) = (65533, xs.drop (i + 1 + j))) from tail_stop HT.out hj hle)
              clear hle
              go_wp2_with (at_builtin; refine wpList_app _ rfl (.tmp 54) (.tmp 55) 24 rfl w.heap.size 3 i0 (.int .i64 0) 8 Tryz.underlying24 hi hz0 hz1 hz2 rfl .i64 _ _ out [65533] rfl rfl (hown.alloc _) (sl_one _ _ _ _) (by simp; omega) (by unfold maxLen; simp; omega) (by simp; omega) ?_; intro v' w3 o3 g3)
              go_roundw
              case rel => exact ⟨i + (j + 1), out ++ [65533], by omega, by simp; omega, by go_num, o3, dec_snoc_form HD.out hlt (by omega) HM.out (by rw [HS.out, Nat.add_assoc, Nat.add_comm 1 j]), (hbel.alloc hbs _).grown g3 (by simp; omega) hown.grownAt⟩
              case measure => simp [intOf]; omega
          · obtain rfl : j = 2 := by omega
            have HS := (show Hid (tailOf (xs[i] - baseOf 2) 2 (loOf xs[i]) (hiOf xs[i]) (xs.drop (i + 1)) = (pf xs i (xs[i] - baseOf 2) 2, xs.drop (i + 1 + 2))) from tail_all HT.out)
            go_wp2
            go_loop [8, 9] (fun x q => ∃ t : Nat, t ≤ 2 ∧ x = .int .i64 (pf xs i (xs[i] - baseOf 2) t) ∧ q = .int .i64 ((t : Int) + 1)) (fun _ q => 3 - (intOf q).toNat)
            case atStart => exact ⟨0, by omega, rfl, rfl⟩
            case round =>
              obtain ⟨t, htm, rfl, rfl⟩ := hrel
              have hpb := HBD.out t (by omega)
              by_cases ht : t < 2
              · obtain ⟨cb, hcb⟩ : ∃ cb, cb = xs.getD (i + 1 + t) 0 := ⟨_, rfl⟩
                have hcx : 0 ≤ cb ∧ cb ≤ 255 := by rw [hcb]; exact getD_ok HB.out _
                have c2 : w'.cell? ⟨b1, o1 + (i + (t + 1)), none⟩ = some (.int .u8 cb) := by
                  have e := HC.out (i + (t + 1)) (by omega)
                  rw [e, hcb, show i + 1 + t = i + (t + 1) by omega]
                  simp [List.getD_eq_getElem?_getD, show i + (t + 1) < xs.length by omega]
                have HCB : Hid (cb = xs.getD (i + 1 + t) 0) := hcb
                clear hcb
                have HPF : Hid (pf xs i (xs[i] - baseOf 2) (t + 1) = pf xs i (xs[i] - baseOf 2) t * 64 + cb - 128) := by rw [HCB.out]; exact (rfl : pf xs i (xs[i] - baseOf 2) (t + 1) = _)
                go_wp2
                go_round
                case rel => exact ⟨t + 1, by omega, by rw [HPF.out]; go_num, by go_num⟩
                case measure => simp [intOf]; omega
              · obtain rfl : t = 2 := by omega
                go_wp2_with (at_builtin; refine wpList_app _ rfl (.tmp 90) (.tmp 92) 24 rfl w.heap.size 3 i0 (.int .i64 0) 8 Tryz.underlying24 hi hz0 hz1 hz2 rfl .i64 _ _ out [pf xs i (xs[i] - baseOf 2) 2] rfl rfl (hown.alloc _) (sl_one _ _ _ _) (by simp; omega) (by unfold maxLen; simp; omega) (by simp; omega) ?_; intro v' w3 o3 g3)
                go_roundw
                case rel => exact ⟨i + 3, out ++ [pf xs i (xs[i] - baseOf 2) 2], by omega, by simp; omega, by go_num, o3, dec_snoc_form HD.out hlt (by omega) HM.out (by rw [HS.out, Nat.add_assoc]), (hbel.alloc hbs _).grown g3 (by simp; omega) hown.grownAt⟩
                case measure => simp [intOf]; omega
      · have HF : Hid (formsOf xs[i] = 4) := forms4 h1
        have HM : Hid (formsOf xs[i] = ((3 : Nat) : Int) + 1) := HF.out
        have HBD : Hid (∀ j, j ≤ 3 → -1000000000 ≤ pf xs i (xs[i] - baseOf 3) j ∧ pf xs i (xs[i] - baseOf 3) j ≤ 1000000000) := fun j hj => pf_bound HB.out i _ (by simp [baseOf]; omega) j hj
        have HX : Hid (∀ k, k < xs.length → 0 ≤ xs[k]! ∧ xs[k]! ≤ 255) := fun k hk => by have := HB.out xs[k] (List.getElem_mem hk); simpa [hk] using this
        have HFF : Hid (∀ w, Calls Tryz.prog 60 #[.int .i64 xs[i]] w fun e w' => e = .returned (.int .i64 4) ∧ w' = w) := fun w => by have := l1Forms_any xs[i] w; rw [HF.out] at this; exact this
        go_wp2_with (go_at_call 60; refine (HFF.out _).mono ?_; rintro e w' ⟨rfl, rfl⟩)
        go_loop [7] (fun q => ∃ j : Nat, j ≤ 3 ∧ i + 1 + j ≤ xs.length ∧ q = .int .i64 ((j : Int) + 1) ∧ tailOf (xs[i] - baseOf 3) 3 (loOf xs[i]) (hiOf xs[i]) (xs.drop (i + 1)) = tailOf (pf xs i (xs[i] - baseOf 3) j) (3 - j) (loJ xs[i] j) (hiJ xs[i] j) (xs.drop (i + 1 + j))) (fun q => 4 - (intOf q).toNat)
        case atStart => exact ⟨0, by omega, by omega, rfl, rfl⟩
        case round =>
          obtain ⟨j, hjm, hjl, rfl, hT⟩ := hrel
          have HT : Hid (tailOf (xs[i] - baseOf 3) 3 (loOf xs[i]) (hiOf xs[i]) (xs.drop (i + 1)) = tailOf (pf xs i (xs[i] - baseOf 3) j) (3 - j) (loJ xs[i] j) (hiJ xs[i] j) (xs.drop (i + 1 + j))) := hT
          clear hT
          by_cases hj : j < 3
          · by_cases hl : i + 1 + j < xs.length
            · obtain ⟨cb, hcb⟩ : ∃ cb, cb = xs.getD (i + 1 + j) 0 := ⟨_, rfl⟩
              have hcx : 0 ≤ cb ∧ cb ≤ 255 := by rw [hcb]; exact getD_ok HB.out _
              have c2 : w'.cell? ⟨b1, o1 + (i + (j + 1)), none⟩ = some (.int .u8 cb) := by
                have e := HC.out (i + (j + 1)) (by omega)
                rw [e, hcb, show i + 1 + j = i + (j + 1) by omega]
                simp [List.getD_eq_getElem?_getD, show i + (j + 1) < xs.length by omega]
              have HCB : Hid (cb = xs.getD (i + 1 + j) 0) := hcb
              clear hcb
              have HCE : Hid (cb = xs[i + 1 + j]) := (show cb = xs[i + 1 + j] by have h := HCB.out; simpa [List.getD_eq_getElem?_getD, hl] using h)
              by_cases hfit : loJ xs[i] j ≤ cb ∧ cb ≤ hiJ xs[i] j
              · have HFT : Hid (∀ w, Calls Tryz.prog 61 #[.int .i64 xs[i], .int .i64 ((j : Int) + 1), .int .i64 cb] w fun e w' => e = .returned (.bool true) ∧ w' = w) := fun w => by have := fits_any xs[i] j cb w; rw [inB_yes hfit.1 hfit.2] at this; exact this
                have HS := (show Hid (tailOf (xs[i] - baseOf 3) 3 (loOf xs[i]) (hiOf xs[i]) (xs.drop (i + 1)) = tailOf (pf xs i (xs[i] - baseOf 3) (j + 1)) (3 - (j + 1)) (loJ xs[i] (j + 1)) (hiJ xs[i] (j + 1)) (xs.drop (i + 1 + (j + 1)))) from tail_step HT.out hj hl (by rw [← HCE.out]; exact hfit.1) (by rw [← HCE.out]; exact hfit.2))
                clear hfit
                go_wp2_with (go_at_call 61; refine (HFT.out _).mono ?_; rintro e w2 ⟨rfl, rfl⟩)
                go_round
                case rel => exact ⟨j + 1, by omega, by omega, by go_num, HS.out⟩
                case measure => simp [intOf]; omega
              · have hbad : cb < loJ xs[i] j ∨ hiJ xs[i] j < cb := by omega
                have HFT : Hid (∀ w, Calls Tryz.prog 61 #[.int .i64 xs[i], .int .i64 ((j : Int) + 1), .int .i64 cb] w fun e w' => e = .returned (.bool false) ∧ w' = w) := fun w => by have := fits_any xs[i] j cb w; rw [inB_no hbad] at this; exact this
                have HS := (show Hid (tailOf (xs[i] - baseOf 3) 3 (loOf xs[i]) (hiOf xs[i]) (xs.drop (i + 1)) = (65533, xs.drop (i + 1 + j))) from tail_bad HT.out hj hl (by rw [← HCE.out]; exact hbad))
                clear hfit hbad
                go_wp2_with (first | (go_at_call 61; refine (HFT.out _).mono ?_; rintro e w2 ⟨rfl, rfl⟩) | (at_builtin; refine wpList_app _ rfl (.tmp 54) (.tmp 55) 24 rfl w.heap.size 3 i0 (.int .i64 0) 8 Tryz.underlying24 hi hz0 hz1 hz2 rfl .i64 _ _ out [65533] rfl rfl (hown.alloc _) (sl_one _ _ _ _) (by simp; omega) (by unfold maxLen; simp; omega) (by simp; omega) ?_; intro v' w3 o3 g3))
                go_roundw
                case rel => exact ⟨i + (j + 1), out ++ [65533], by omega, by simp; omega, by go_num, o3, dec_snoc_form HD.out hlt (by omega) HM.out (by rw [HS.out, Nat.add_assoc, Nat.add_comm 1 j]), (hbel.alloc hbs _).grown g3 (by simp; omega) hown.grownAt⟩
                case measure => simp [intOf]; omega
            · have hle : i + 1 + j = xs.length := by omega
              have HS := (show Hid (tailOf (xs[i] - baseOf 3) 3 (loOf xs[i]) (hiOf xs[i]) (xs.drop (i + 1)) = (65533, xs.drop (i + 1 + j))) from tail_stop HT.out hj hle)
              clear hle
              go_wp2_with (at_builtin; refine wpList_app _ rfl (.tmp 54) (.tmp 55) 24 rfl w.heap.size 3 i0 (.int .i64 0) 8 Tryz.underlying24 hi hz0 hz1 hz2 rfl .i64 _ _ out [65533] rfl rfl (hown.alloc _) (sl_one _ _ _ _) (by simp; omega) (by unfold maxLen; simp; omega) (by simp; omega) ?_; intro v' w3 o3 g3)
              go_roundw
              case rel => exact ⟨i + (j + 1), out ++ [65533], by omega, by simp; omega, by go_num, o3, dec_snoc_form HD.out hlt (by omega) HM.out (by rw [HS.out, Nat.add_assoc, Nat.add_comm 1 j]), (hbel.alloc hbs _).grown g3 (by simp; omega) hown.grownAt⟩
              case measure => simp [intOf]; omega
          · obtain rfl : j = 3 := by omega
            have HS := (show Hid (tailOf (xs[i] - baseOf 3) 3 (loOf xs[i]) (hiOf xs[i]) (xs.drop (i + 1)) = (pf xs i (xs[i] - baseOf 3) 3, xs.drop (i + 1 + 3))) from tail_all HT.out)
            go_wp2
            go_loop [8, 9] (fun x q => ∃ t : Nat, t ≤ 3 ∧ x = .int .i64 (pf xs i (xs[i] - baseOf 3) t) ∧ q = .int .i64 ((t : Int) + 1)) (fun _ q => 4 - (intOf q).toNat)
            case atStart => exact ⟨0, by omega, rfl, rfl⟩
            case round =>
              obtain ⟨t, htm, rfl, rfl⟩ := hrel
              have hpb := HBD.out t (by omega)
              by_cases ht : t < 3
              · obtain ⟨cb, hcb⟩ : ∃ cb, cb = xs.getD (i + 1 + t) 0 := ⟨_, rfl⟩
                have hcx : 0 ≤ cb ∧ cb ≤ 255 := by rw [hcb]; exact getD_ok HB.out _
                have c2 : w'.cell? ⟨b1, o1 + (i + (t + 1)), none⟩ = some (.int .u8 cb) := by
                  have e := HC.out (i + (t + 1)) (by omega)
                  rw [e, hcb, show i + 1 + t = i + (t + 1) by omega]
                  simp [List.getD_eq_getElem?_getD, show i + (t + 1) < xs.length by omega]
                have HCB : Hid (cb = xs.getD (i + 1 + t) 0) := hcb
                clear hcb
                have HPF : Hid (pf xs i (xs[i] - baseOf 3) (t + 1) = pf xs i (xs[i] - baseOf 3) t * 64 + cb - 128) := by rw [HCB.out]; exact (rfl : pf xs i (xs[i] - baseOf 3) (t + 1) = _)
                go_wp2
                go_round
                case rel => exact ⟨t + 1, by omega, by rw [HPF.out]; go_num, by go_num⟩
                case measure => simp [intOf]; omega
              · obtain rfl : t = 3 := by omega
                go_wp2_with (at_builtin; refine wpList_app _ rfl (.tmp 90) (.tmp 92) 24 rfl w.heap.size 3 i0 (.int .i64 0) 8 Tryz.underlying24 hi hz0 hz1 hz2 rfl .i64 _ _ out [pf xs i (xs[i] - baseOf 3) 3] rfl rfl (hown.alloc _) (sl_one _ _ _ _) (by simp; omega) (by unfold maxLen; simp; omega) (by simp; omega) ?_; intro v' w3 o3 g3)
                go_roundw
                case rel => exact ⟨i + 4, out ++ [pf xs i (xs[i] - baseOf 3) 3], by omega, by simp; omega, by go_num, o3, dec_snoc_form HD.out hlt (by omega) HM.out (by rw [HS.out, Nat.add_assoc]), (hbel.alloc hbs _).grown g3 (by simp; omega) hown.grownAt⟩
                case measure => simp [intOf]; omega
    · go_wp2
      go_ret
      have hd := HD.out
      rw [List.drop_eq_nil_of_le (by omega), dec_nil, List.append_nil] at hd
      rw [← hd]
      exact ⟨_, rfl, hown, hbel⟩
end Go.Proofs.YtggfifchkecnjaaGreatDoor
