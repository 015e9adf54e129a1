/- Tokens, plain: references within a value. No condition. -/
import Derived.Test.YtggfifchkecnjaaGreatDoorY30
import Derived.Test.YtggfifchkecnjaaGreatDoorY24
import Derived.Test.YtggfifchkecnjaaGreatDoorY22
namespace Go.Proofs.YtggfifchkecnjaaGreatDoor
open Go.RowKit
set_option maxRecDepth 100000
set_option linter.unusedVariables false

def refChar (x : Int) : Bool := inB x 48 57 || inB x 65 90 || inB x 97 122 || x == 35 || x == 59
theorem digit_char {x b : Int} (h : 0 ≤ digitOf x b) : refChar x = true := by
  by_cases h1 : 48 ≤ x ∧ x ≤ 57
  · unfold refChar; rw [inB_yes h1.1 h1.2]; rfl
  by_cases h2 : 65 ≤ x ∧ x ≤ 90
  · unfold refChar; rw [inB_yes h2.1 h2.2]; simp
  by_cases h3 : 97 ≤ x ∧ x ≤ 122
  · unfold refChar; rw [inB_yes h3.1 h3.2]; simp
  · exfalso
    unfold digitOf at h
    rw [inB_no (x := x) (lo := 48) (hi := 57) (by omega), inB_no (x := x) (lo := 65) (hi := 70) (by omega), inB_no (x := x) (lo := 97) (hi := 102) (by omega)] at h
    split at h <;> simp at h
theorem digits_inside {xs : List Int} {b : Int} {f n : Nat} {x : Int} (h : refDigits xs b f = (x, (n : Int))) (h0 : 0 < n) : ∀ m, f ≤ m → m < n → refChar (atL xs m) = true := by
  intro m h1 h2
  unfold refDigits at h
  simp only at h
  by_cases hd : digs b (xs.drop f) = []
  · rw [if_pos hd] at h
    have := (Prod.mk.inj h).2
    omega
  · rw [if_neg hd] at h
    obtain ⟨hx, hn⟩ := Prod.mk.inj h
    obtain ⟨d, hdl⟩ : ∃ d, d = (digs b (xs.drop f)).length := ⟨_, rfl⟩
    rw [← hdl] at hn
    by_cases hm : m - f < d
    · have := (digs_at b (xs.drop f) (m - f) (by omega)).2
      rw [drop_getD, show f + (m - f) = m by omega] at this
      exact digit_char this
    · by_cases h59 : atL xs (f + d) = 59
      · rw [if_pos h59] at hn
        have : m = f + d := by omega
        rw [this, h59]; decide
      · rw [if_neg h59] at hn
        omega
theorem num_inside {xs : List Int} {k n : Nat} {x : Int} (h : refNum xs k = (x, (n : Int))) (h0 : 0 < n) : ∀ m, k ≤ m → m < n → refChar (atL xs m) = true := by
  intro m h1 h2
  unfold refNum at h
  by_cases hx : atL xs k = 120 ∨ atL xs k = 88
  · rw [if_pos hx] at h
    by_cases e : m = k
    · subst e
      rcases hx with hx | hx <;> rw [hx] <;> decide
    · exact digits_inside h h0 m (by omega) h2
  · rw [if_neg hx] at h
    exact digits_inside h h0 m h1 h2
theorem names_char : ∀ r ∈ refList, ∀ y ∈ bs r.1, refChar y = true := by decide
theorem best_mem (xs : List Int) (k : Nat) (h : 0 < (best xs k refList).1.size) : (best xs k refList) ∈ refList ∧ stands xs k (bs (best xs k refList).1) = true := by
  have key : ∀ (rs : List (ByteArray × Int)), (∀ r ∈ rs, r ∈ refList) → (best xs k rs).1.size = 0 ∨ (best xs k rs ∈ refList ∧ stands xs k (bs (best xs k rs).1) = true) := by
    intro rs
    unfold best
    suffices ∀ (b : ByteArray × Int), (b.1.size = 0 ∨ (b ∈ refList ∧ stands xs k (bs b.1) = true)) → (∀ r ∈ rs, r ∈ refList) → ((rs.foldl (fun b r => if stands xs k (bs r.1) && decide (b.1.size < r.1.size) then r else b) b).1.size = 0 ∨ ((rs.foldl (fun b r => if stands xs k (bs r.1) && decide (b.1.size < r.1.size) then r else b) b) ∈ refList ∧ stands xs k (bs (rs.foldl (fun b r => if stands xs k (bs r.1) && decide (b.1.size < r.1.size) then r else b) b).1) = true)) from this _ (.inl rfl)
    induction rs with
    | nil => intro b h _; exact h
    | cons r rs ih =>
      intro b h hm
      simp only [List.foldl_cons]
      refine ih _ ?_ (fun r hr => hm r (List.mem_cons_of_mem _ hr))
      split
      · rename_i hc
        rw [Bool.and_eq_true] at hc
        exact .inr ⟨hm r (List.mem_cons_self ..), hc.1⟩
      · exact h
  rcases key refList (fun r h => h) with h1 | h1
  · omega
  · exact h1
theorem ref_facts {xs : List Int} {k : Nat} (b : Bool) (h1 : xs.length ≤ 3000) (hk : k < xs.length) (h38 : atL xs k = 38) :
    ∃ (n : Nat) (y : Int), refRead xs k b = ([y], (n : Int)) ∧ k < n ∧ n ≤ xs.length ∧ pointOk y = true ∧ ∀ m, k < m → m < n → refChar (atL xs m) = true := by
  have h3 : xs.getD k 0 = 38 := by rw [← atL_in hk]; exact h38
  have hin : ∀ (n : Nat) (y : Int), refRead xs k b = ([y], (n : Int)) → ∀ m, k < m → m < n → refChar (atL xs m) = true := by
    intro n y he m hm1 hm2
    by_cases h4 : atL xs (k + 1) = 35
    · rw [refRead_num h1 hk h3 h4] at he
      by_cases hp : 0 < (refNum xs (k + 2)).2
      · rw [if_pos hp] at he
        have e2 := (Prod.mk.inj he).2
        by_cases e : m = k + 1
        · subst e; rw [h4]; decide
        · exact num_inside (x := (refNum xs (k + 2)).1) (n := n) (Prod.ext rfl e2) (by omega) m (by omega) hm2
      · rw [if_neg hp] at he
        have e2 := (Prod.mk.inj he).2
        omega
    · rw [refRead_name h1 hk h3 h4] at he
      unfold refName at he
      simp only at he
      split at he
      · have e2 := (Prod.mk.inj he).2
        omega
      · rename_i hz
        split at he
        · have e2 := (Prod.mk.inj he).2
          omega
        · have e2 := (Prod.mk.inj he).2
          obtain ⟨hm, hs⟩ := best_mem xs (k + 1) (by omega)
          have hl := bs_len (best xs (k + 1) refList).1
          have hat := stands_iff.mp hs (m - (k + 1)) (by omega)
          rw [show k + 1 + (m - (k + 1)) = m by omega] at hat
          rw [hat]
          refine names_char _ hm _ ?_
          have hlt : m - (k + 1) < (bs (best xs (k + 1) refList).1).length := by omega
          rw [List.getD_eq_getElem?_getD, List.getElem?_eq_getElem hlt]
          exact List.getElem_mem hlt
  have hne : (refRead xs k b).1 ≠ [] := by
    by_cases h4 : atL xs (k + 1) = 35
    · rw [refRead_num h1 hk h3 h4]; split <;> simp
    · rw [refRead_name h1 hk h3 h4]
      unfold refName
      simp only
      repeat' split
      all_goals simp
  obtain ⟨k', n, y, e, _, he, hy, hkn, hn, _⟩ := refRead_law hne
  have e' : k' = k := by omega
  subst e'
  exact ⟨n, y, he, hkn, hn, hy, hin n y he⟩
def EndsP (p : Int → Bool) : Prop := p 38 = false ∧ ∀ x, refChar x = true → p x = false
theorem val_fuel {p : Int → Bool} {ys : List Int} (hl : ys.length ≤ 3000) : ∀ (f f' k : Nat), ys.length - k ≤ f → ys.length - k ≤ f' → valF p ys f k = valF p ys f' k := by
  intro f
  induction f with
  | zero =>
    intro f' k h1 h2
    cases f' with
    | zero => rfl
    | succ f' => rw [valF, valF, if_neg (by omega)]
  | succ f ih =>
    intro f' k h1 h2
    cases f' with
    | zero => rw [valF, valF, if_neg (by omega)]
    | succ f' =>
      rw [valF, valF]
      by_cases hc : k < ys.length ∧ p (atL ys k) = false
      · rw [if_pos hc, if_pos hc]
        by_cases h38 : atL ys k = 38
        · obtain ⟨n, y, he, hkn, hn, _, _⟩ := ref_facts true hl hc.1 h38
          rw [if_pos h38, if_pos h38, he]
          simp only [Int.toNat_natCast]
          rw [ih f' n (by omega) (by omega)]
        · rw [if_neg h38, if_neg h38, ih f' (k + 1) (by omega) (by omega)]
      · rw [if_neg hc, if_neg hc]
def valV (p : Int → Bool) (ys : List Int) (k : Nat) : List Int × Nat := valF p ys ys.length k
theorem val_stop {p : Int → Bool} {ys : List Int} {k : Nat} (h : ¬ (k < ys.length ∧ p (atL ys k) = false)) : valV p ys k = ([], k) := by
  unfold valV
  cases e : ys.length with
  | zero => rw [valF]
  | succ f => rw [valF, if_neg h]
theorem val_plain {p : Int → Bool} {ys : List Int} (hl : ys.length ≤ 3000) {k : Nat} (hk : k < ys.length) (hp : p (atL ys k) = false) (h38 : atL ys k ≠ 38) : valV p ys k = (atL ys k :: (valV p ys (k + 1)).1, (valV p ys (k + 1)).2) := by
  unfold valV
  obtain ⟨f, hf⟩ : ∃ f, ys.length = f + 1 := ⟨ys.length - 1, by omega⟩
  have e := val_fuel (p := p) hl f ys.length (k + 1) (by omega) (by omega)
  rw [← e]
  conv => lhs; rw [hf, valF, if_pos ⟨hk, hp⟩, if_neg h38]
theorem val_ref {p : Int → Bool} {ys : List Int} (hl : ys.length ≤ 3000) {k n : Nat} {y : Int} (hk : k < ys.length) (hp : p (atL ys k) = false) (h38 : atL ys k = 38) (he : refRead ys k true = ([y], (n : Int))) (hkn : k < n) : valV p ys k = (y :: (valV p ys n).1, (valV p ys n).2) := by
  unfold valV
  obtain ⟨f, hf⟩ : ∃ f, ys.length = f + 1 := ⟨ys.length - 1, by omega⟩
  have e := val_fuel (p := p) hl f ys.length n (by omega) (by omega)
  rw [← e]
  conv => lhs; rw [hf, valF, if_pos ⟨hk, hp⟩, if_pos h38, he]
  simp only [Int.toNat_natCast, List.singleton_append]
theorem val_end {p : Int → Bool} (hP : EndsP p) {ys : List Int} (hl : ys.length ≤ 3000) : ∀ (d k : Nat), ys.length - k ≤ d → k ≤ ys.length → (valV p ys k).2 = upTo p ys k ∧ (valV p ys k).1.length + k ≤ ys.length := by
  intro d
  induction d with
  | zero => intro k h1 h2; rw [val_stop (by omega), upTo_out (by omega)]; exact ⟨rfl, by simp; omega⟩
  | succ d ih =>
    intro k h1 h2
    by_cases hk : k < ys.length
    · cases hp : p (atL ys k)
      · by_cases h38 : atL ys k = 38
        · obtain ⟨n, y, he, hkn, hn, _, hin⟩ := ref_facts true hl hk h38
          rw [val_ref hl hk hp h38 he hkn]
          obtain ⟨i1, i2⟩ := ih n (by omega) hn
          refine ⟨?_, by simp; omega⟩
          have hup : n ≤ upTo p ys k := by
            have key : ∀ m, k ≤ m → m ≤ n → m ≤ upTo p ys k := by
              intro m
              induction m with
              | zero => intro _ _; omega
              | succ m ihm =>
                intro h1 h2
                by_cases e : k = m + 1
                · rw [← e]; exact upTo_ge _ _ _
                · have := ihm (by omega) (by omega)
                  refine upTo_more (by omega) this (by omega) ?_
                  by_cases e2 : k = m
                  · rw [← e2]; exact hp
                  · exact hP.2 _ (hin m (by omega) (by omega))
            exact key n (by omega) (Nat.le_refl _)
          show (valV p ys n).2 = _
          rw [i1, upTo_mid (n - k) n (by omega) hup]
        · rw [val_plain hl hk hp h38]
          obtain ⟨i1, i2⟩ := ih (k + 1) (by omega) hk
          refine ⟨?_, by simp; omega⟩
          show (valV p ys (k + 1)).2 = _
          rw [i1, upTo_next hk hp]
      · rw [val_stop (by rw [hp]; simp), upTo_at hp hk]
        exact ⟨rfl, by simp; omega⟩
    · rw [val_stop (by omega), upTo_out (by omega)]
      exact ⟨rfl, by simp; omega⟩
theorem ends_word : EndsP endWord := ⟨by decide, fun x hx => by
  unfold refChar at hx
  have : x ≠ 9 ∧ x ≠ 10 ∧ x ≠ 12 ∧ x ≠ 32 ∧ x ≠ 62 := by
    refine ⟨?_, ?_, ?_, ?_, ?_⟩ <;> (rintro rfl; exact absurd hx (by decide))
  simp [endWord, isBlank, this]⟩
theorem ends_quote {q : Int} (h : q = 34 ∨ q = 39) : EndsP (fun x => x == q) := ⟨by rcases h with rfl | rfl <;> decide, fun x hx => by
  have : x ≠ q := by rintro rfl; rcases h with rfl | rfl <;> exact absurd hx (by decide)
  simpa using this⟩
end Go.Proofs.YtggfifchkecnjaaGreatDoor
