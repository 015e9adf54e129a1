/- Escape, plain: what stands for each sign, byte by byte and rune by rune. -/
import Derived.Test.YtogdbjafibejdaaGreatV8
import Derived.Lib.TrimUEq
import Derived.Lib.Strings
import Derived.Lib.Small
namespace Go.Proofs.YtogdbjafibejdaaGreat
open Go.RowKit
set_option maxRecDepth 100000
set_option linter.unusedVariables false

def ampS : List UInt8 := [38, 97, 109, 112, 59]
def nbspS : List UInt8 := [38, 110, 98, 115, 112, 59]
def quotS : List UInt8 := [38, 113, 117, 111, 116, 59]
def ltS : List UInt8 := [38, 108, 116, 59]
def gtS : List UInt8 := [38, 103, 116, 59]

/-- What stands for one byte. -/
def esc1 (v : Bool) (b : UInt8) : List UInt8 :=
  if b = 38 then ampS else if b = 34 ∧ v = true then quotS else if b = 60 ∧ v = false then ltS else if b = 62 ∧ v = false then gtS else [b]
/-- What stands for a text. -/
def esc (v : Bool) : List UInt8 → List UInt8
  | [] => []
  | [b] => esc1 v b
  | b :: c :: r => if b = 194 ∧ c = 160 then nbspS ++ esc v r else esc1 v b ++ esc v (c :: r)

theorem esc_hard (v : Bool) (r : List UInt8) : esc v (194 :: 160 :: r) = nbspS ++ esc v r := by simp [esc]
theorem esc_cons (v : Bool) (b : UInt8) (r : List UInt8) (h : ¬ (b = 194 ∧ r.head? = some 160)) : esc v (b :: r) = esc1 v b ++ esc v r := by
  cases r with
  | nil => simp [esc]
  | cons c r =>
    rw [esc, if_neg]
    rintro ⟨rfl, rfl⟩
    exact h ⟨rfl, rfl⟩

theorem esc1_high (v : Bool) (b : UInt8) (h : 128 ≤ b.toNat) : esc1 v b = [b] := by
  unfold esc1
  rw [if_neg, if_neg, if_neg, if_neg]
  all_goals
    first | (rintro ⟨rfl, _⟩; revert h; decide) | (rintro rfl; revert h; decide)

theorem esc_high (v : Bool) (b : UInt8) (r : List UInt8) (h : 128 ≤ b.toNat) (hn : ¬ (b.toNat = 194 ∧ 1 ≤ r.length ∧ (r.getD 0 0).toNat = 160)) : esc v (b :: r) = b :: esc v r := by
  rw [esc_cons, esc1_high v b h]
  · rfl
  · rintro ⟨rfl, e⟩
    cases r with
    | nil => cases e
    | cons c r =>
      simp only [List.head?_cons, Option.some.injEq] at e
      subst e
      exact hn ⟨by decide, by simp, by simp⟩

theorem esc1_le (v : Bool) (b : UInt8) : (esc1 v b).length ≤ 6 := by
  unfold esc1
  repeat' split
  all_goals first | decide | simp

/-- What the program writes for a rune: empty where it stands for itself. -/
def refOf (r : Nat) (v : Bool) : List UInt8 :=
  if r = 38 then ampS else if r = 160 then nbspS else if r = 34 ∧ v = true then quotS else if r = 60 ∧ v = false then ltS else if r = 62 ∧ v = false then gtS else []

theorem refOf_le (r : Nat) (v : Bool) : (refOf r v).length ≤ 6 := by
  unfold refOf
  repeat' split
  all_goals decide

theorem u8_eq {b : UInt8} {n : Nat} (h : b.toNat = n) (hn : n < 256) : b = UInt8.ofNat n := by
  subst h; simp

/-- A rune below 128 is the byte itself. -/
theorem dec_low (b : UInt8) (r : List UInt8) (c : Nat) (hc : c < 128) (h : (Lib.decodeL (b :: r)).1 = c) : b.toNat = c ∧ (Lib.decodeL (b :: r)).2 = 1 := by
  rw [Lib.decodeL_N] at h ⊢
  have hb : ((b :: r).getD 0 0).toNat = b.toNat := rfl
  rw [hb] at h ⊢
  have h0 := b.toNat_lt
  unfold Lib.decodeN at h ⊢
  by_cases h1 : b.toNat < 128
  · rw [if_pos h1] at h ⊢
    exact ⟨h, rfl⟩
  · exfalso
    rw [if_neg h1] at h
    repeat' split at h
    all_goals simp only at h
    all_goals omega

/-- Point 160 is its two bytes. -/
theorem dec_hard (b : UInt8) (r : List UInt8) (h : (Lib.decodeL (b :: r)).1 = 160) : b.toNat = 194 ∧ 1 ≤ r.length ∧ (r.getD 0 0).toNat = 160 ∧ (Lib.decodeL (b :: r)).2 = 2 := by
  rw [Lib.decodeL_N] at h ⊢
  have hb : ((b :: r).getD 0 0).toNat = b.toNat := rfl
  have hc : ((b :: r).getD 1 0).toNat = (r.getD 0 0).toNat := rfl
  rw [hb, hc] at h ⊢
  have h0 := b.toNat_lt
  have h0' := (r.getD 0 0).toNat_lt
  simp only [List.length_cons] at h ⊢
  generalize ((b :: r).getD 2 0).toNat = b2 at h ⊢
  generalize ((b :: r).getD 3 0).toNat = b3 at h ⊢
  generalize (r.getD 0 0).toNat = b1 at h h0' ⊢
  generalize b.toNat = b0 at h h0 ⊢
  unfold Lib.decodeN at h ⊢
  repeat' split at h
  all_goals simp only at h
  all_goals first | (exfalso; omega) | skip
  rename_i h1 h2 h3
  rw [if_neg h1, if_pos h2, if_pos h3]
  exact ⟨by omega, by omega, by omega, rfl⟩

/-- How wide a rune is, and what its bytes are. -/
theorem dec_wide (b : UInt8) (r : List UInt8) (hh : 128 ≤ b.toNat) :
    ((Lib.decodeL (b :: r)).2 = 1 ∨ ((Lib.decodeL (b :: r)).2 = 2 ∧ 1 ≤ r.length ∧ (r.getD 0 0).toNat / 64 = 2) ∨ ((Lib.decodeL (b :: r)).2 = 3 ∧ 2 ≤ r.length ∧ (r.getD 0 0).toNat / 64 = 2 ∧ (r.getD 1 0).toNat / 64 = 2) ∨
      ((Lib.decodeL (b :: r)).2 = 4 ∧ 3 ≤ r.length ∧ (r.getD 0 0).toNat / 64 = 2 ∧ (r.getD 1 0).toNat / 64 = 2 ∧ (r.getD 2 0).toNat / 64 = 2)) ∧
    (b.toNat = 194 → 1 ≤ r.length → (r.getD 0 0).toNat = 160 → (Lib.decodeL (b :: r)).1 = 160) := by
  rw [Lib.decodeL_N]
  have hb : ((b :: r).getD 0 0).toNat = b.toNat := rfl
  have hc : ((b :: r).getD 1 0).toNat = (r.getD 0 0).toNat := rfl
  have hd : ((b :: r).getD 2 0).toNat = (r.getD 1 0).toNat := rfl
  have he : ((b :: r).getD 3 0).toNat = (r.getD 2 0).toNat := rfl
  rw [hb, hc, hd, he]
  have h0 := b.toNat_lt
  simp only [List.length_cons]
  generalize (r.getD 0 0).toNat = b1
  generalize (r.getD 1 0).toNat = b2
  generalize (r.getD 2 0).toNat = b3
  generalize b.toNat = b0 at hh h0
  unfold Lib.decodeN
  rw [if_neg (by omega)]
  constructor
  · repeat' split
    all_goals first | exact Or.inl rfl | exact Or.inr (Or.inl ⟨rfl, by omega, by omega⟩) | exact Or.inr (Or.inr (Or.inl ⟨rfl, by omega, by omega, by omega⟩)) | exact Or.inr (Or.inr (Or.inr ⟨rfl, by omega, by omega, by omega, by omega⟩))
  · intro e1 e2 e3
    subst e1 e3
    rw [if_pos (by omega), if_pos (by omega)]

theorem rune_plain (v : Bool) (b : UInt8) (r : List UInt8) (h : refOf (Lib.decodeL (b :: r)).1 v = []) :
    (Lib.decodeL (b :: r)).2 ≤ r.length + 1 ∧ esc v (b :: r) = (b :: r).take (Lib.decodeL (b :: r)).2 ++ esc v ((b :: r).drop (Lib.decodeL (b :: r)).2) := by
  by_cases hb : b.toNat < 128
  · have e : Lib.decodeL (b :: r) = (b.toNat, 1) := by
      rw [Lib.decodeL_N]
      have e0 : ((b :: r).getD 0 0).toNat = b.toNat := rfl
      rw [e0]
      unfold Lib.decodeN
      rw [if_pos hb]
    rw [e] at h ⊢
    simp only at h ⊢
    refine ⟨by omega, ?_⟩
    rw [esc_cons v b r (by rintro ⟨rfl, _⟩; revert hb; decide)]
    have e1 : esc1 v b = [b] := by
      have key : ∀ n : Nat, n < 256 → b = UInt8.ofNat n → b.toNat = n := by
        intro n hn hbn
        subst hbn
        simp [Nat.mod_eq_of_lt hn]
      unfold esc1
      unfold refOf at h
      rw [if_neg, if_neg, if_neg, if_neg]
      · rintro ⟨hb1, hv⟩; rw [key 62 (by decide) hb1, hv] at h; revert h; decide
      · rintro ⟨hb1, hv⟩; rw [key 60 (by decide) hb1, hv] at h; revert h; decide
      · rintro ⟨hb1, hv⟩; rw [key 34 (by decide) hb1, hv] at h; revert h; decide
      · intro hb1; rw [key 38 (by decide) hb1] at h; revert h; decide +revert
    rw [e1]
    rfl
  · obtain ⟨hw, h160⟩ := dec_wide b r (by omega)
    have hn : ¬ (b.toNat = 194 ∧ 1 ≤ r.length ∧ (r.getD 0 0).toNat = 160) := by
      rintro ⟨q1, q2, q3⟩
      rw [h160 q1 q2 q3] at h
      revert h; decide +revert
    have hgo := esc_high v b r (by omega) hn
    rcases hw with hw | ⟨hw, hl, c1⟩ | ⟨hw, hl, c1, c2⟩ | ⟨hw, hl, c1, c2, c3⟩
    · rw [hw]
      exact ⟨by omega, hgo⟩
    · rw [hw]
      match r, hl, c1, hgo with
      | c :: r, _, c1, hgo =>
        have c1' : c.toNat / 64 = 2 := c1
        refine ⟨by simp, ?_⟩
        rw [hgo, esc_high v c r (by omega) (by omega)]
        rfl
    · rw [hw]
      match r, hl, c1, c2, hgo with
      | c :: d :: r, _, c1, c2, hgo =>
        have c1' : c.toNat / 64 = 2 := c1
        have c2' : d.toNat / 64 = 2 := c2
        refine ⟨by simp, ?_⟩
        rw [hgo, esc_high v c _ (by omega) (by omega), esc_high v d _ (by omega) (by omega)]
        rfl
    · rw [hw]
      match r, hl, c1, c2, c3, hgo with
      | c :: d :: e :: r, _, c1, c2, c3, hgo =>
        have c1' : c.toNat / 64 = 2 := c1
        have c2' : d.toNat / 64 = 2 := c2
        have c3' : e.toNat / 64 = 2 := c3
        refine ⟨by simp, ?_⟩
        rw [hgo, esc_high v c _ (by omega) (by omega), esc_high v d _ (by omega) (by omega), esc_high v e _ (by omega) (by omega)]
        rfl

/-- Where a sign is written, the rune is as wide as its number says. -/
theorem rune_sign (v : Bool) (b : UInt8) (r : List UInt8) (h : refOf (Lib.decodeL (b :: r)).1 v ≠ []) :
    Lib.runeLen (Lib.decodeL (b :: r)).1 = (Lib.decodeL (b :: r)).2 ∧ (Lib.decodeL (b :: r)).2 ≤ r.length + 1 ∧ esc v (b :: r) = refOf (Lib.decodeL (b :: r)).1 v ++ esc v ((b :: r).drop (Lib.decodeL (b :: r)).2) := by
  have low : ∀ c : Nat, c < 128 → (Lib.decodeL (b :: r)).1 = c → refOf c v = esc1 v (UInt8.ofNat c) → Lib.runeLen (Lib.decodeL (b :: r)).1 = (Lib.decodeL (b :: r)).2 ∧ (Lib.decodeL (b :: r)).2 ≤ r.length + 1 ∧ esc v (b :: r) = refOf (Lib.decodeL (b :: r)).1 v ++ esc v ((b :: r).drop (Lib.decodeL (b :: r)).2) := by
    intro c hc hd he
    obtain ⟨h1, h2⟩ := dec_low b r c hc hd
    rw [h2, hd]
    have hb := u8_eq h1 (by omega)
    refine ⟨?_, by omega, ?_⟩
    · unfold Lib.runeLen
      rw [if_neg (by omega), if_pos (by omega)]
      rfl
    · rw [esc_cons v b r (by rintro ⟨rfl, _⟩; revert h1; simp; omega), he, ← hb]
      rfl
  by_cases h38 : (Lib.decodeL (b :: r)).1 = 38
  · exact low 38 (by decide) h38 (by cases v <;> rfl)
  by_cases h34 : (Lib.decodeL (b :: r)).1 = 34 ∧ v = true
  · obtain ⟨q, rfl⟩ := h34
    exact low 34 (by decide) q rfl
  by_cases h60 : (Lib.decodeL (b :: r)).1 = 60 ∧ v = false
  · obtain ⟨q, rfl⟩ := h60
    exact low 60 (by decide) q rfl
  by_cases h62 : (Lib.decodeL (b :: r)).1 = 62 ∧ v = false
  · obtain ⟨q, rfl⟩ := h62
    exact low 62 (by decide) q rfl
  by_cases h160 : (Lib.decodeL (b :: r)).1 = 160
  · obtain ⟨q1, q2, q3, q4⟩ := dec_hard b r h160
    rw [h160, q4]
    match r, q2, q3 with
    | c :: r, _, q3 =>
      have q3' : c.toNat = 160 := q3
      have e1 := u8_eq q1 (by omega)
      have e2 := u8_eq q3' (by omega)
      subst e1 e2
      exact ⟨by decide, by simp, esc_hard v r⟩
  · exfalso
    apply h
    unfold refOf
    rw [if_neg h38, if_neg h160, if_neg h34, if_neg h60, if_neg h62]
end Go.Proofs.YtogdbjafibejdaaGreat

/- A name in a list of strings that is written out: the specification's l7Find and l8In. -/
namespace Go.Proofs.YtogdbjafibejdaaGreat
open Go.RowKit
set_option maxRecDepth 100000
set_option linter.unusedVariables false

theorem toList_no {a b : ByteArray} (h : a ≠ b) : (a.toList == b.toList) = false := by
  rw [beq_eq_false_iff_ne]
  exact fun e => h ((toList_eq_iff a b).mp e)

def hasB (ts : List ByteArray) (s : ByteArray) : Bool := ts.any fun t => s.toList == t.toList
theorem hasB_iff (ts : List ByteArray) (s : ByteArray) : hasB ts s = true ↔ s ∈ ts := by
  unfold hasB
  rw [List.any_eq_true]
  constructor
  · rintro ⟨t, ht, e⟩
    rw [beq_iff_eq, toList_eq_iff] at e
    exact e.symm ▸ ht
  · intro h
    exact ⟨s, h, by simp⟩
theorem hasB_no {ts : List ByteArray} {s : ByteArray} (h : s ∉ ts) : hasB ts s = false := by
  cases e : hasB ts s
  · rfl
  · exact absurd ((hasB_iff ts s).1 e) h

/-- The block g holds these strings. -/
def Txt (w : World) (g : Nat) (ts : List ByteArray) : Prop := ∀ k (hk : k < ts.length), w.cell? ⟨g, k, none⟩ = some (.string ts[k])

theorem txt_alloc (w : World) (cs : Array Value) (ts : List ByteArray) (t : TypeId) (hcs : cs.toList = ts.map Value.string) : Txt (w.alloc (.cells cs t)) w.heap.size ts := by
  intro k hk
  have e2 : cs[k]? = some (.string ts[k]) := by
    have : cs.toList[k]? = some (.string ts[k]) := by rw [hcs]; simp [hk]
    simpa using this
  simp only [World.cell?, heap_alloc_new]
  simpa using e2

set_option maxRecDepth 100000 in
theorem sfind_any {w : World} {g : Nat} {ts : List ByteArray} (h : Txt w g ts) (s : ByteArray) (hn : ts.length ≤ 1000) {n : Nat} (hnn : n = ts.length) :
    Calls Tryz.prog 90 #[.slice (some ⟨g, 0, none⟩) n n, .string s] w fun e w' => ∃ x : Int, e = .returned (.int .i64 x) ∧ -1 ≤ x ∧ x ≤ 1000 ∧ (0 ≤ x ↔ s ∈ ts) ∧ w' = w := by
  subst hnn
  have H : Hid (Txt w g ts) := h
  clear h
  go_enter Tryz.func90, Tryz.ntmps90
  go_wp2
  go_loop [5] (fun i => ∃ k : Nat, k ≤ ts.length ∧ i = .int .i64 k ∧ s ∉ ts.take k) (fun i => ts.length - (intOf i).toNat)
  case atStart => exact ⟨0, Nat.zero_le _, rfl, by simp⟩
  case round =>
    obtain ⟨k, hk, rfl, he⟩ := hrel
    have HE := (show Hid _ from he)
    clear he
    by_cases hlt : k < ts.length
    · have c1 := H.out k hlt
      obtain ⟨x, hx⟩ : ∃ x, x = ts[k] := ⟨_, rfl⟩
      rw [← hx] at c1
      have HX := (show Hid _ from hx)
      clear hx
      by_cases hm : x = s
      · have HM : Hid (s ∈ ts) := by rw [← hm, HX.out]; exact List.getElem_mem hlt
        subst hm
        go_wp2
        go_ret
        exact ⟨_, rfl, by omega, by omega, by simp [HM.out], rfl⟩
      · have hd := toList_no hm
        have HM : Hid (s ∉ ts.take (k + 1)) := by
          intro hmm
          rw [List.take_succ_eq_append_getElem hlt, List.mem_append, ← HX.out] at hmm
          rcases hmm with hmm | hmm
          · exact HE.out hmm
          · simp at hmm; exact hm hmm.symm
        go_wp2
        go_round
        case rel => exact ⟨k + 1, by omega, by go_num, HM.out⟩
        case measure => simp [intOf]; omega
    · have HM : Hid (s ∉ ts) := by
        have := HE.out
        rw [show k = ts.length by omega, List.take_length] at this
        exact this
      go_wp2
      go_ret
      exact ⟨_, rfl, by omega, by omega, by simp [HM.out], rfl⟩

set_option maxRecDepth 100000 in
theorem sin_any {w : World} {g : Nat} {ts : List ByteArray} (h : Txt w g ts) (s : ByteArray) (hn : ts.length ≤ 1000) {n : Nat} (hnn : n = ts.length) :
    Calls Tryz.prog 165 #[.slice (some ⟨g, 0, none⟩) n n, .string s] w fun e w' => e = .returned (.bool (hasB ts s)) ∧ w' = w := by
  have H : Hid (Txt w g ts) := h
  clear h
  subst hnn
  go_enter Tryz.func165, Tryz.ntmps165
  go_wp2_with fail
  go_at_call 90
  refine (sfind_any H.out s hn rfl).mono ?_
  rintro e w1 ⟨x, rfl, x1, x2, x3, rfl⟩
  clear H
  have HB : Hid (decide (0 ≤ x) = hasB ts s) := by
    by_cases hx : 0 ≤ x
    · rw [(hasB_iff ts s).2 (x3.1 hx)]; exact decide_eq_true hx
    · rw [hasB_no (fun h => hx (x3.2 h))]; exact decide_eq_false hx
  clear x3
  go_wp2
  go_ret
  exact ⟨ret_bool HB.out, rfl⟩
end Go.Proofs.YtogdbjafibejdaaGreat
