/- Escape, plain: what stands for each sign, byte by byte and rune by rune. -/
import Derived.Test.YtogdbjafibejdaaGreatX8
import Derived.Lib.TrimUEq
import Derived.Lib.Strings
import Derived.Lib.Small
import Derived.Test.YtogdbjafibejdaaGreatX29
import Derived.Test.YtogdbjafibejdaaGreatX17
import Derived.Test.YtogdbjafibejdaaGreatX31
import Derived.Test.YtogdbjafibejdaaGreatX32
namespace Go.Proofs.YtogdbjafibejdaaGreat
open Go.RowKit
set_option maxRecDepth 100000
set_option linter.unusedVariables false

def ampS : List UInt8 := [38, 97, 109, 112, 59]
def nbspS : List UInt8 := [38, 110, 98, 115, 112, 59]
def quotS : List UInt8 := [38, 113, 117, 111, 116, 59]
def ltS : List UInt8 := [38, 108, 116, 59]
def gtS : List UInt8 := [38, 103, 116, 59]

/-- What stands for one byte. -/
def esc1 (v : Bool) (b : UInt8) : List UInt8 :=
  if b = 38 then ampS else if b = 34 ∧ v = true then quotS else if b = 60 ∧ v = false then ltS else if b = 62 ∧ v = false then gtS else [b]
/-- What stands for a text. -/
def esc (v : Bool) : List UInt8 → List UInt8
  | [] => []
  | [b] => esc1 v b
  | b :: c :: r => if b = 194 ∧ c = 160 then nbspS ++ esc v r else esc1 v b ++ esc v (c :: r)

theorem esc_hard (v : Bool) (r : List UInt8) : esc v (194 :: 160 :: r) = nbspS ++ esc v r := by simp [esc]
theorem esc_cons (v : Bool) (b : UInt8) (r : List UInt8) (h : ¬ (b = 194 ∧ r.head? = some 160)) : esc v (b :: r) = esc1 v b ++ esc v r := by
  cases r with
  | nil => simp [esc]
  | cons c r =>
    rw [esc, if_neg]
    rintro ⟨rfl, rfl⟩
    exact h ⟨rfl, rfl⟩

theorem esc1_high (v : Bool) (b : UInt8) (h : 128 ≤ b.toNat) : esc1 v b = [b] := by
  unfold esc1
  rw [if_neg, if_neg, if_neg, if_neg]
  all_goals
    first | (rintro ⟨rfl, _⟩; revert h; decide) | (rintro rfl; revert h; decide)

theorem esc_high (v : Bool) (b : UInt8) (r : List UInt8) (h : 128 ≤ b.toNat) (hn : ¬ (b.toNat = 194 ∧ 1 ≤ r.length ∧ (r.getD 0 0).toNat = 160)) : esc v (b :: r) = b :: esc v r := by
  rw [esc_cons, esc1_high v b h]
  · rfl
  · rintro ⟨rfl, e⟩
    cases r with
    | nil => cases e
    | cons c r =>
      simp only [List.head?_cons, Option.some.injEq] at e
      subst e
      exact hn ⟨by decide, by simp, by simp⟩

theorem esc1_le (v : Bool) (b : UInt8) : (esc1 v b).length ≤ 6 := by
  unfold esc1
  repeat' split
  all_goals first | decide | simp

/-- What the program writes for a rune: empty where it stands for itself. -/
def refOf (r : Nat) (v : Bool) : List UInt8 :=
  if r = 38 then ampS else if r = 160 then nbspS else if r = 34 ∧ v = true then quotS else if r = 60 ∧ v = false then ltS else if r = 62 ∧ v = false then gtS else []

theorem refOf_le (r : Nat) (v : Bool) : (refOf r v).length ≤ 6 := by
  unfold refOf
  repeat' split
  all_goals decide

theorem u8_eq {b : UInt8} {n : Nat} (h : b.toNat = n) (hn : n < 256) : b = UInt8.ofNat n := by
  subst h; simp

/-- A rune below 128 is the byte itself. -/
theorem dec_low (b : UInt8) (r : List UInt8) (c : Nat) (hc : c < 128) (h : (Lib.decodeL (b :: r)).1 = c) : b.toNat = c ∧ (Lib.decodeL (b :: r)).2 = 1 := by
  rw [Lib.decodeL_N] at h ⊢
  have hb : ((b :: r).getD 0 0).toNat = b.toNat := rfl
  rw [hb] at h ⊢
  have h0 := b.toNat_lt
  unfold Lib.decodeN at h ⊢
  by_cases h1 : b.toNat < 128
  · rw [if_pos h1] at h ⊢
    exact ⟨h, rfl⟩
  · exfalso
    rw [if_neg h1] at h
    repeat' split at h
    all_goals simp only at h
    all_goals omega

/-- Point 160 is its two bytes. -/
theorem dec_hard (b : UInt8) (r : List UInt8) (h : (Lib.decodeL (b :: r)).1 = 160) : b.toNat = 194 ∧ 1 ≤ r.length ∧ (r.getD 0 0).toNat = 160 ∧ (Lib.decodeL (b :: r)).2 = 2 := by
  rw [Lib.decodeL_N] at h ⊢
  have hb : ((b :: r).getD 0 0).toNat = b.toNat := rfl
  have hc : ((b :: r).getD 1 0).toNat = (r.getD 0 0).toNat := rfl
  rw [hb, hc] at h ⊢
  have h0 := b.toNat_lt
  have h0' := (r.getD 0 0).toNat_lt
  simp only [List.length_cons] at h ⊢
  generalize ((b :: r).getD 2 0).toNat = b2 at h ⊢
  generalize ((b :: r).getD 3 0).toNat = b3 at h ⊢
  generalize (r.getD 0 0).toNat = b1 at h h0' ⊢
  generalize b.toNat = b0 at h h0 ⊢
  unfold Lib.decodeN at h ⊢
  repeat' split at h
  all_goals simp only at h
  all_goals first | (exfalso; omega) | skip
  rename_i h1 h2 h3
  rw [if_neg h1, if_pos h2, if_pos h3]
  exact ⟨by omega, by omega, by omega, rfl⟩

/-- How wide a rune is, and what its bytes are. -/
theorem dec_wide (b : UInt8) (r : List UInt8) (hh : 128 ≤ b.toNat) :
    ((Lib.decodeL (b :: r)).2 = 1 ∨ ((Lib.decodeL (b :: r)).2 = 2 ∧ 1 ≤ r.length ∧ (r.getD 0 0).toNat / 64 = 2) ∨ ((Lib.decodeL (b :: r)).2 = 3 ∧ 2 ≤ r.length ∧ (r.getD 0 0).toNat / 64 = 2 ∧ (r.getD 1 0).toNat / 64 = 2) ∨
      ((Lib.decodeL (b :: r)).2 = 4 ∧ 3 ≤ r.length ∧ (r.getD 0 0).toNat / 64 = 2 ∧ (r.getD 1 0).toNat / 64 = 2 ∧ (r.getD 2 0).toNat / 64 = 2)) ∧
    (b.toNat = 194 → 1 ≤ r.length → (r.getD 0 0).toNat = 160 → (Lib.decodeL (b :: r)).1 = 160) := by
  rw [Lib.decodeL_N]
  have hb : ((b :: r).getD 0 0).toNat = b.toNat := rfl
  have hc : ((b :: r).getD 1 0).toNat = (r.getD 0 0).toNat := rfl
  have hd : ((b :: r).getD 2 0).toNat = (r.getD 1 0).toNat := rfl
  have he : ((b :: r).getD 3 0).toNat = (r.getD 2 0).toNat := rfl
  rw [hb, hc, hd, he]
  have h0 := b.toNat_lt
  simp only [List.length_cons]
  generalize (r.getD 0 0).toNat = b1
  generalize (r.getD 1 0).toNat = b2
  generalize (r.getD 2 0).toNat = b3
  generalize b.toNat = b0 at hh h0
  unfold Lib.decodeN
  rw [if_neg (by omega)]
  constructor
  · repeat' split
    all_goals first | exact Or.inl rfl | exact Or.inr (Or.inl ⟨rfl, by omega, by omega⟩) | exact Or.inr (Or.inr (Or.inl ⟨rfl, by omega, by omega, by omega⟩)) | exact Or.inr (Or.inr (Or.inr ⟨rfl, by omega, by omega, by omega, by omega⟩))
  · intro e1 e2 e3
    subst e1 e3
    rw [if_pos (by omega), if_pos (by omega)]

theorem rune_plain (v : Bool) (b : UInt8) (r : List UInt8) (h : refOf (Lib.decodeL (b :: r)).1 v = []) :
    (Lib.decodeL (b :: r)).2 ≤ r.length + 1 ∧ esc v (b :: r) = (b :: r).take (Lib.decodeL (b :: r)).2 ++ esc v ((b :: r).drop (Lib.decodeL (b :: r)).2) := by
  by_cases hb : b.toNat < 128
  · have e : Lib.decodeL (b :: r) = (b.toNat, 1) := by
      rw [Lib.decodeL_N]
      have e0 : ((b :: r).getD 0 0).toNat = b.toNat := rfl
      rw [e0]
      unfold Lib.decodeN
      rw [if_pos hb]
    rw [e] at h ⊢
    simp only at h ⊢
    refine ⟨by omega, ?_⟩
    rw [esc_cons v b r (by rintro ⟨rfl, _⟩; revert hb; decide)]
    have e1 : esc1 v b = [b] := by
      have key : ∀ n : Nat, n < 256 → b = UInt8.ofNat n → b.toNat = n := by
        intro n hn hbn
        subst hbn
        simp [Nat.mod_eq_of_lt hn]
      unfold esc1
      unfold refOf at h
      rw [if_neg, if_neg, if_neg, if_neg]
      · rintro ⟨hb1, hv⟩; rw [key 62 (by decide) hb1, hv] at h; revert h; decide
      · rintro ⟨hb1, hv⟩; rw [key 60 (by decide) hb1, hv] at h; revert h; decide
      · rintro ⟨hb1, hv⟩; rw [key 34 (by decide) hb1, hv] at h; revert h; decide
      · intro hb1; rw [key 38 (by decide) hb1] at h; revert h; decide +revert
    rw [e1]
    rfl
  · obtain ⟨hw, h160⟩ := dec_wide b r (by omega)
    have hn : ¬ (b.toNat = 194 ∧ 1 ≤ r.length ∧ (r.getD 0 0).toNat = 160) := by
      rintro ⟨q1, q2, q3⟩
      rw [h160 q1 q2 q3] at h
      revert h; decide +revert
    have hgo := esc_high v b r (by omega) hn
    rcases hw with hw | ⟨hw, hl, c1⟩ | ⟨hw, hl, c1, c2⟩ | ⟨hw, hl, c1, c2, c3⟩
    · rw [hw]
      exact ⟨by omega, hgo⟩
    · rw [hw]
      match r, hl, c1, hgo with
      | c :: r, _, c1, hgo =>
        have c1' : c.toNat / 64 = 2 := c1
        refine ⟨by simp, ?_⟩
        rw [hgo, esc_high v c r (by omega) (by omega)]
        rfl
    · rw [hw]
      match r, hl, c1, c2, hgo with
      | c :: d :: r, _, c1, c2, hgo =>
        have c1' : c.toNat / 64 = 2 := c1
        have c2' : d.toNat / 64 = 2 := c2
        refine ⟨by simp, ?_⟩
        rw [hgo, esc_high v c _ (by omega) (by omega), esc_high v d _ (by omega) (by omega)]
        rfl
    · rw [hw]
      match r, hl, c1, c2, c3, hgo with
      | c :: d :: e :: r, _, c1, c2, c3, hgo =>
        have c1' : c.toNat / 64 = 2 := c1
        have c2' : d.toNat / 64 = 2 := c2
        have c3' : e.toNat / 64 = 2 := c3
        refine ⟨by simp, ?_⟩
        rw [hgo, esc_high v c _ (by omega) (by omega), esc_high v d _ (by omega) (by omega), esc_high v e _ (by omega) (by omega)]
        rfl

/-- Where a sign is written, the rune is as wide as its number says. -/
theorem rune_sign (v : Bool) (b : UInt8) (r : List UInt8) (h : refOf (Lib.decodeL (b :: r)).1 v ≠ []) :
    Lib.runeLen (Lib.decodeL (b :: r)).1 = (Lib.decodeL (b :: r)).2 ∧ (Lib.decodeL (b :: r)).2 ≤ r.length + 1 ∧ esc v (b :: r) = refOf (Lib.decodeL (b :: r)).1 v ++ esc v ((b :: r).drop (Lib.decodeL (b :: r)).2) := by
  have low : ∀ c : Nat, c < 128 → (Lib.decodeL (b :: r)).1 = c → refOf c v = esc1 v (UInt8.ofNat c) → Lib.runeLen (Lib.decodeL (b :: r)).1 = (Lib.decodeL (b :: r)).2 ∧ (Lib.decodeL (b :: r)).2 ≤ r.length + 1 ∧ esc v (b :: r) = refOf (Lib.decodeL (b :: r)).1 v ++ esc v ((b :: r).drop (Lib.decodeL (b :: r)).2) := by
    intro c hc hd he
    obtain ⟨h1, h2⟩ := dec_low b r c hc hd
    rw [h2, hd]
    have hb := u8_eq h1 (by omega)
    refine ⟨?_, by omega, ?_⟩
    · unfold Lib.runeLen
      rw [if_neg (by omega), if_pos (by omega)]
      rfl
    · rw [esc_cons v b r (by rintro ⟨rfl, _⟩; revert h1; simp; omega), he, ← hb]
      rfl
  by_cases h38 : (Lib.decodeL (b :: r)).1 = 38
  · exact low 38 (by decide) h38 (by cases v <;> rfl)
  by_cases h34 : (Lib.decodeL (b :: r)).1 = 34 ∧ v = true
  · obtain ⟨q, rfl⟩ := h34
    exact low 34 (by decide) q rfl
  by_cases h60 : (Lib.decodeL (b :: r)).1 = 60 ∧ v = false
  · obtain ⟨q, rfl⟩ := h60
    exact low 60 (by decide) q rfl
  by_cases h62 : (Lib.decodeL (b :: r)).1 = 62 ∧ v = false
  · obtain ⟨q, rfl⟩ := h62
    exact low 62 (by decide) q rfl
  by_cases h160 : (Lib.decodeL (b :: r)).1 = 160
  · obtain ⟨q1, q2, q3, q4⟩ := dec_hard b r h160
    rw [h160, q4]
    match r, q2, q3 with
    | c :: r, _, q3 =>
      have q3' : c.toNat = 160 := q3
      have e1 := u8_eq q1 (by omega)
      have e2 := u8_eq q3' (by omega)
      subst e1 e2
      exact ⟨by decide, by simp, esc_hard v r⟩
  · exfalso
    apply h
    unfold refOf
    rw [if_neg h38, if_neg h160, if_neg h34, if_neg h60, if_neg h62]
end Go.Proofs.YtogdbjafibejdaaGreat

/- IsVoid and IsRaw: both sides, at every string. -/
namespace Go.Proofs.YtogdbjafibejdaaGreat
open Go.RowKit
set_option maxRecDepth 100000
set_option linter.unusedVariables false

def voids : List ByteArray := [⟨#[97, 114, 101, 97]⟩, ⟨#[98, 97, 115, 101]⟩, ⟨#[98, 114]⟩, ⟨#[101, 109, 98, 101, 100]⟩, ⟨#[104, 114]⟩, ⟨#[105, 109, 103]⟩, ⟨#[105, 110, 112, 117, 116]⟩, ⟨#[108, 105, 110, 107]⟩, ⟨#[109, 101, 116, 97]⟩, ⟨#[112, 97, 114, 97, 109]⟩, ⟨#[115, 111, 117, 114, 99, 101]⟩, ⟨#[116, 114, 97, 99, 107]⟩, ⟨#[119, 98, 114]⟩]
def raws : List ByteArray := [⟨#[105, 102, 114, 97, 109, 101]⟩, ⟨#[110, 111, 101, 109, 98, 101, 100]⟩, ⟨#[110, 111, 102, 114, 97, 109, 101, 115]⟩, ⟨#[112, 108, 97, 105, 110, 116, 101, 120, 116]⟩, ⟨#[115, 99, 114, 105, 112, 116]⟩, ⟨#[115, 116, 121, 108, 101]⟩, ⟨#[120, 109, 112]⟩]

set_option maxRecDepth 100000 in
theorem sisVoid_any (s : ByteArray) (w : World) :
    Calls Tryz.prog 126 #[.string s] w fun e w' => e = .returned (.bool (hasB voids s)) ∧ Below w.heap.size w w' := by
  go_enter Tryz.func126, Tryz.ntmps126
  go_wp2_with fail
  go_at_call 165
  refine (sin_any (ts := voids) (txt_alloc w _ voids _ rfl) s (by decide) rfl).mono ?_
  rintro e w1 ⟨rfl, rfl⟩
  go_wp2
  go_ret
  exact ⟨rfl, (Below.refl _ _).alloc (Nat.le_refl _) _⟩

set_option maxRecDepth 100000 in
theorem sisRaw_any (s : ByteArray) (w : World) :
    Calls Tryz.prog 127 #[.string s] w fun e w' => e = .returned (.bool (hasB raws s)) ∧ Below w.heap.size w w' := by
  go_enter Tryz.func127, Tryz.ntmps127
  go_wp2_with fail
  go_at_call 165
  refine (sin_any (ts := raws) (txt_alloc w _ raws _ rfl) s (by decide) rfl).mono ?_
  rintro e w1 ⟨rfl, rfl⟩
  go_wp2
  go_ret
  exact ⟨rfl, (Below.refl _ _).alloc (Nat.le_refl _) _⟩

theorem raws_any (s : ByteArray) : hasB raws s = (s.toList == [105, 102, 114, 97, 109, 101] || (s.toList == [110, 111, 101, 109, 98, 101, 100] || (s.toList == [110, 111, 102, 114, 97, 109, 101, 115] || (s.toList == [112, 108, 97, 105, 110, 116, 101, 120, 116] || (s.toList == [115, 99, 114, 105, 112, 116] || (s.toList == [115, 116, 121, 108, 101] || (s.toList == [120, 109, 112]))))))) := by
  simp only [hasB, raws, List.any_cons, List.any_nil, Bool.or_false, ByteArray.toList_eq]
theorem voids_any (s : ByteArray) : hasB voids s = (s.toList == [97, 114, 101, 97] || (s.toList == [98, 97, 115, 101] || (s.toList == [98, 114] || (s.toList == [101, 109, 98, 101, 100] || (s.toList == [104, 114] || (s.toList == [105, 109, 103] || (s.toList == [105, 110, 112, 117, 116] || (s.toList == [108, 105, 110, 107] || (s.toList == [109, 101, 116, 97] || (s.toList == [112, 97, 114, 97, 109] || (s.toList == [115, 111, 117, 114, 99, 101] || (s.toList == [116, 114, 97, 99, 107] || (s.toList == [119, 98, 114]))))))))))))) := by
  simp only [hasB, voids, List.any_cons, List.any_nil, Bool.or_false, ByteArray.toList_eq]

set_option maxRecDepth 100000 in
theorem iisRaw_any (s : ByteArray) (w : World) :
    Calls Tryz.prog 196 #[.string s] w fun e w' => e = .returned (.bool (hasB raws s)) ∧ w' = w := by
  rw [raws_any]
  go_enter Tryz.func196, Tryz.ntmps196
  go_wp2
  all_goals first | (exfalso; simp_all; done) | (go_ret; refine ⟨ret_bool ?_, rfl⟩; simp_all)

set_option maxRecDepth 100000 in
theorem iisVoid_any (s : ByteArray) (w : World) :
    Calls Tryz.prog 195 #[.string s] w fun e w' => e = .returned (.bool (hasB voids s)) ∧ w' = w := by
  rw [voids_any]
  go_enter Tryz.func195, Tryz.ntmps195
  go_wp2
  all_goals first | (exfalso; simp_all; done) | (go_ret; refine ⟨ret_bool ?_, rfl⟩; simp_all)
end Go.Proofs.YtogdbjafibejdaaGreat

/- A tree with a node more behind, in plain words. No condition. -/
namespace Go.Proofs.YtogdbjafibejdaaGreat
open Go.RowKit
set_option maxRecDepth 100000
set_option linter.unusedVariables false

theorem kidsOf_snoc {ns : List PNode} {nd : PNode} (hk : nd.kids = []) (k : Nat) : kidsOf (ns ++ [nd]) k = kidsOf ns k := by
  unfold kidsOf
  by_cases h : k < ns.length
  · rw [List.getElem?_append_left h]
  · rw [List.getElem?_append_right (by omega), List.getElem?_eq_none (by omega : ns.length ≤ k)]
    by_cases h2 : k = ns.length
    · subst h2; simp [hk]
    · rw [List.getElem?_eq_none (by simp; omega)]
theorem parOf_snoc {ns : List PNode} {nd : PNode} (hp : nd.parent = -1) (k : Nat) : parOf (ns ++ [nd]) k = parOf ns k := by
  unfold parOf
  by_cases h : k < ns.length
  · rw [List.getElem?_append_left h]
  · rw [List.getElem?_append_right (by omega), List.getElem?_eq_none (by omega : ns.length ≤ k)]
    by_cases h2 : k = ns.length
    · subst h2; simp [hp]
    · rw [List.getElem?_eq_none (by simp; omega)]
theorem dep_snoc {ns : List PNode} {nd : PNode} (hk : nd.kids = []) (hp : nd.parent = -1) : ∀ (d i : Nat), dep ns d i → dep (ns ++ [nd]) d i
  | 0, i, h => ⟨by have := h.1; simp; omega, by rw [parOf_snoc hp]; exact h.2⟩
  | d + 1, i, h => by
    obtain ⟨p, h1, h2⟩ := h
    exact ⟨p, dep_snoc hk hp d p h1, by rw [kidsOf_snoc hk]; exact h2⟩

/-- An element below none may be put behind, where there is room. -/
theorem tree_snoc {ns : List PNode} (h : TreeOkP ns) {nd : PNode} (hk : nd.kids = []) (hp : nd.parent = -1) (hn : nd.kind ≠ 1) (hg : nodeB nd.kind nd.name nd.attrs nd.text nd.kids.length = true) (hl : ns.length < 500) : TreeOkP (ns ++ [nd]) := by
  have h1 := h.one
  refine ⟨by simp, by simp; omega, fun k hlt => ?_, fun k hlt => ?_, fun i hi => ?_⟩
  · by_cases hk2 : k < ns.length
    · rw [List.getElem_append_left hk2]
      exact h.good k hk2
    · have e : k = ns.length := by simp at hlt; omega
      subst e
      rw [List.getElem_append_right (Nat.le_refl _)]
      simp only [Nat.sub_self, List.getElem_cons_zero]
      rw [goodB, hg, decide_eq_false hn, decide_eq_false (by omega)]
      rfl
  · rw [kidsOf_snoc hk]
    by_cases hk2 : k < ns.length
    · obtain ⟨f1, f2⟩ := h.fit k hk2
      refine ⟨f1, fun x hx => ?_⟩
      obtain ⟨g1, g2, g3⟩ := f2 x hx
      exact ⟨g1, by simp; omega, by rw [parOf_snoc hp]; exact g3⟩
    · rw [kidsOf_out hk2]
      exact ⟨List.nodup_nil, fun x hx => by cases hx⟩
  · by_cases hi2 : i < ns.length
    · obtain ⟨d, hd⟩ := h.linked i hi2
      exact ⟨d, dep_snoc hk hp d i hd⟩
    · refine ⟨0, hi, ?_⟩
      rw [parOf_snoc hp, parOf, List.getElem?_eq_none (by omega)]
      rfl
theorem tree_full {ns : List PNode} {nd : PNode} (hl : ¬ ns.length < 500) : ¬ TreeOkP (ns ++ [nd]) := fun h => by
  have := h.most
  simp at this
  omega
end Go.Proofs.YtogdbjafibejdaaGreat

/- A text that is written below a node, in plain words. No condition. -/
namespace Go.Proofs.YtogdbjafibejdaaGreat
open Go.RowKit
set_option maxRecDepth 100000
set_option linter.unusedVariables false

/-- The last of the Kids of node p is the text k. -/
def LastT (ns : List PNode) (p k : Nat) : Prop := ∃ pre, kidsOf ns p = pre ++ [(k : Int)] ∧ ∃ h : k < ns.length, ns[k].kind = 4
theorem LastT.one {ns : List PNode} {p k j : Nat} (h : LastT ns p k) (h' : LastT ns p j) : k = j := by
  obtain ⟨a, ha, _⟩ := h
  obtain ⟨b, hb, _⟩ := h'
  rw [ha] at hb
  have e := List.append_inj_right' hb rfl
  simp at e
  omega
def setText (n : PNode) (s : ByteArray) : PNode := ⟨n.kind, n.name, n.attrs, s, n.parent, n.kids⟩
/-- A text that stands below none. -/
def txtN (s : ByteArray) : PNode := ⟨4, ⟨#[]⟩, [], s, -1, []⟩
/-- More at the end of the text k. -/
def moreN (ns : List PNode) (k : Nat) (s : ByteArray) : List PNode := ns.modify k fun n => setText n (n.text ++ s)
/-- A new text below node p. -/
def newN (ns : List PNode) (p : Nat) (s : ByteArray) : List PNode := hangN (ns ++ [txtN s]) ns.length p

theorem moreN_len (ns : List PNode) (k : Nat) (s : ByteArray) : (moreN ns k s).length = ns.length := by simp [moreN]
theorem kidsOf_moreN (ns : List PNode) (k : Nat) (s : ByteArray) (j : Nat) : kidsOf (moreN ns k s) j = kidsOf ns j := by
  unfold kidsOf moreN
  rw [List.getElem?_modify]
  cases ns[j]? with
  | none => rfl
  | some n => by_cases e : k = j <;> simp [e, setText]
theorem parOf_moreN (ns : List PNode) (k : Nat) (s : ByteArray) (j : Nat) : parOf (moreN ns k s) j = parOf ns j := by
  unfold parOf moreN
  rw [List.getElem?_modify]
  cases ns[j]? with
  | none => rfl
  | some n => by_cases e : k = j <;> simp [e, setText]
theorem dep_like {ns ms : List PNode} (hl : ms.length = ns.length) (hk : ∀ k, kidsOf ms k = kidsOf ns k) (hp : ∀ k, parOf ms k = parOf ns k) : ∀ d i, dep ns d i → dep ms d i
  | 0, i, h => ⟨by have := h.1; omega, by rw [hp]; exact h.2⟩
  | d + 1, i, h => by
    obtain ⟨p, h1, h2⟩ := h
    exact ⟨p, dep_like hl hk hp d p h1, by rw [hk]; exact h2⟩
theorem tree_like {ns ms : List PNode} (hl : ms.length = ns.length) (hk : ∀ k, kidsOf ms k = kidsOf ns k) (hp : ∀ k, parOf ms k = parOf ns k) (h : TreeOkP ns) (hg : ∀ k (h : k < ms.length), goodB ms[k] k = true) : TreeOkP ms := by
  refine ⟨by have := h.one; omega, by have := h.most; omega, hg, fun k hlt => ?_, fun i hi => ?_⟩
  · obtain ⟨f1, f2⟩ := h.fit k (by omega)
    rw [hk]
    refine ⟨f1, fun x hx => ?_⟩
    obtain ⟨g1, g2, g3⟩ := f2 x hx
    exact ⟨g1, by rw [hl]; exact g2, by rw [hp]; exact g3⟩
  · obtain ⟨d, hd⟩ := h.linked i (by omega)
    exact ⟨d, dep_like hl hk hp d i hd⟩

theorem toListW_loop (s : ByteArray) : ∀ (n i : Nat) (r : List UInt8), s.size - i = n → (r ≠ [] ∨ 0 < n) → ByteArray.toList.loop s i r ≠ []
  | 0, i, r, h, hr => by
    rw [ByteArray.toList.loop]
    rw [if_neg (by omega)]
    rcases hr with hr | hr
    · simpa using hr
    · omega
  | n + 1, i, r, h, hr => by
    rw [ByteArray.toList.loop]
    rw [if_pos (by omega)]
    exact toListW_loop s n (i + 1) _ (by omega) (.inl (by simp))
theorem empB_iff (s : ByteArray) : empB s = true ↔ s.size = 0 := by
  unfold empB
  rw [decide_eq_true_iff]
  constructor
  · intro h
    apply Classical.byContradiction
    intro hn
    exact toListW_loop s s.size 0 [] (by omega) (.inr (by omega)) h
  · intro h
    unfold ByteArray.toList
    rw [ByteArray.toList.loop, if_neg (by omega)]
    rfl
theorem empB_no {s : ByteArray} : empB s = false ↔ s.size ≠ 0 := by
  rw [← Bool.not_eq_true, empB_iff]
theorem emp_more {t s : ByteArray} (h : empB t = false) : empB (t ++ s) = false := by
  rw [empB_no] at *
  rw [ByteArray.size_append]
  omega
theorem more_ok {ns : List PNode} (h : TreeOkP ns) {k : Nat} (hk : k < ns.length) (h4 : ns[k].kind = 4) (s : ByteArray) : TreeOkP (moreN ns k s) ↔ utfOk (bs (ns[k].text ++ s)) = true := by
  have hg := h.good k hk
  unfold goodB nodeB at hg
  simp only [h4] at hg
  simp at hg
  have hat : ∀ hk', (moreN ns k s)[k]'hk' = setText ns[k] (ns[k].text ++ s) := fun hk' => by simp [moreN]
  constructor
  · intro h'
    have := h'.good k (by rw [moreN_len]; exact hk)
    rw [hat] at this
    unfold goodB nodeB setText at this
    simp only [h4] at this
    simp at this
    exact this.2.1.1.1.2
  · intro hu
    refine tree_like (moreN_len _ _ _) (kidsOf_moreN _ _ _) (parOf_moreN _ _ _) h (fun j hj => ?_)
    have hj' : j < ns.length := by rw [moreN_len] at hj; exact hj
    by_cases e : k = j
    · subst e
      rw [hat]
      unfold goodB nodeB setText
      simp only [h4]
      simp
      exact ⟨hg.1, ⟨⟨⟨emp_more (by simpa using hg.2.1.1.1.1), hu⟩, hg.2.1.1.2⟩, hg.2.1.2⟩, hg.2.2⟩
    · have : (moreN ns k s)[j] = ns[j] := by simp [moreN, e]
      rw [this]
      exact h.good j hj'

theorem bel_leaf {ns : List PNode} {c : Nat} (hk : kidsOf ns c = []) : ∀ d i, belD ns c d i → i = c
  | 0, i, h => h
  | d + 1, i, h => by
    obtain ⟨q, hq, hm⟩ := h
    have := bel_leaf hk d q hq
    subst this
    rw [hk] at hm
    cases hm
theorem new_ok {ns : List PNode} (h : STreeOkP ns) {p : Nat} (hp : p < ns.length) {s : ByteArray} (hs : empB s = false) (hu : utfOk (bs s) = true) : TreeOkP (newN ns p s) ↔ ns.length < 500 ∧ opensB ns[p] = true := by
  by_cases hl : ns.length < 500
  · have ht : TreeOkP (ns ++ [txtN s]) := tree_snoc h.1 rfl rfl (by show (4 : Int) ≠ 1; decide) (by simp [nodeB, txtN, hs, hu]; exact (empB_iff _).mpr rfl) hl
    have hst : STreeOkP (ns ++ [txtN s]) := ⟨ht, by rw [parOf_snoc rfl]; exact h.2⟩
    have hc : ns.length < (ns ++ [txtN s]).length := by simp
    have hp' : p < (ns ++ [txtN s]).length := by simp; omega
    have ho : (ns ++ [txtN s])[p] = ns[p] := List.getElem_append_left hp
    have hkd : kidsOf (ns ++ [txtN s]) ns.length = [] := by rw [kidsOf_snoc rfl, kidsOf_out (by omega)]
    have h1 := h.1.one
    constructor
    · intro hh
      refine ⟨hl, ?_⟩
      cases e : opensB ns[p] with
      | true => rfl
      | false => exact absurd hh (hang_bad hst hc hp' (.inl (by rw [ho]; exact e)))
    · intro hh
      exact (hang_ok hst hc hp' (by omega) (by rw [ho]; exact hh.2) (fun d hd => by have := bel_leaf hkd d p hd; omega)).1
  · constructor
    · intro hh
      have := hh.most
      simp [newN, hangN_len] at this
      omega
    · intro hh
      exact absurd hh.1 hl
theorem last_opens {ns : List PNode} (h : TreeOkP ns) {p k : Nat} (hp : p < ns.length) (hl : LastT ns p k) : opensB ns[p] = true := by
  obtain ⟨pre, hk, _⟩ := hl
  rw [kidsOf_at hp] at hk
  exact opens_of rfl (h.good p hp) (by rw [hk]; simp)
end Go.Proofs.YtogdbjafibejdaaGreat

/- The program's change with the step of TreeAdd, and TreeAdd of a tree that is right. No condition. -/
namespace Go.Proofs.YtogdbjafibejdaaGreat
open Go.RowKit
set_option maxRecDepth 100000
set_option linter.unusedVariables false

theorem AddFrK.from {B a K : Nat} {w w3 w4 : World} (b : Below w.heap.size w w3) (f : AddFrK B a K w3 w4) : AddFrK B a K w w4 :=
  ⟨f.os.trans b.os, f.tape.trans b.tape, f.output.trans b.output, Nat.le_trans b.size f.size, fun j hj h1 h2 h3 => (f.block j (Nat.lt_of_lt_of_le hj b.size) h1 h2 (by rcases h3 with h3 | ⟨cs, t, fr, h4, h5⟩; exact .inl h3; exact .inr ⟨cs, t, fr, (b.block j hj).trans h4, h5⟩)).trans (b.block j hj)⟩
theorem AddFrK.andThen {B a K : Nat} {w w4 w5 : World} (f : AddFrK B a K w w4) {row : Option Nat} (g : w4.grownBy w5 row) (hrow : ∀ r, row = some r → w.heap.size ≤ r ∨ r = a ∨ r = K) : AddFrK B a K w w5 :=
  ⟨g.os.trans f.os, g.tape.trans f.tape, g.output.trans f.output, Nat.le_trans f.size g.size, fun j hj h1 h2 h3 => (g.block j (Nat.lt_of_lt_of_le hj f.size) (fun e => by have := hrow j e.symm; omega)).trans (f.block j hj h1 h2 h3)⟩
theorem below_none {w w' : World} (h : Below w.heap.size w w') : w.grownBy w' none := ⟨h.os, h.tape, h.output, h.size, fun j hj _ => h.block j hj⟩

set_option maxHeartbeats 2000000 in
set_option maxRecDepth 100000 in
theorem ichange_any {B a A N K : Nat} {w : World} {v : Value} {qs : List (PNode × (Value × Value))} (ha : w.heap[a]? = some (.cells #[v] 77 (0, 0))) (hO : OwnQ B w v qs) (hB : B ≤ w.heap.size) (h0 : 0 < qs.length) (hlen : qs.length ≤ 100000) {k p : Int} {nm tx : ByteArray}
    {av1 : Option Addr} {av2 av3 : Nat} {kv1 : Option Addr} {kv2 kv3 : Nat} {rs : List (ByteArray × ByteArray)} (hav : Sv 2 w (.slice av1 av2 av3) (pairCells rs)) (hrs : rs.length ≤ 1048576)
    (hA : w.heap[A]? = some (.cells #[.pointer (some ⟨a, 0, none⟩)] 64 (0, 0))) (hN : w.heap[N]? = some (.cells #[.int .i64 k, .string nm, .slice av1 av2 av3, .string tx, .int .i64 p, .slice kv1 kv2 kv3] 36 (0, 0)))
    {x : Int} (hK : w.heap[K]? = some (.cells #[.int .i64 x] 3 (0, 0))) (hKa : K ≠ a) (hne : ∀ q ∈ qs, q.2.2.ownBlock ≠ some K)
    (hfit : ∀ n ∈ qs.map (fun q => q.1), NodeFit n) (hfn : NodeFit ⟨k, nm, rs, tx, -1, []⟩) :
    Calls Tryz.prog 48 #[.pointer (some ⟨a, 0, none⟩), .func (.func 78) #[] #[.pointer (some ⟨A, 0, none⟩), .pointer (some ⟨N, 0, none⟩), .pointer (some ⟨K, 0, none⟩)]] w fun e w' =>
      ∃ r : Bool, e = .returned (.bool r) ∧ (r = true ↔ TreeOkP (qs.map (fun q => q.1) ++ [⟨k, nm, rs, tx, -1, []⟩])) ∧ (∃ g n c, w'.heap[a]? = some (.cells #[.slice (some ⟨g, 0, none⟩) n c] 77 (0, 0)) ∧ (r = true → ∃ av', OwnQ B w' (.slice (some ⟨g, 0, none⟩) n c) (qs ++ [(⟨k, nm, rs, tx, -1, []⟩, (av', .slice none 0 0))]))) ∧ w'.heap[K]? = some (.cells #[.int .i64 qs.length] 3 (0, 0)) ∧ AddFrK B a K w w' := by
  have hmf : ∀ (fn : Fn) (first cap : Array Value) (w : World), (Instr.makeFunc fn first cap).run Tryz.prog w = .ok (.func fn first cap) w := fun _ _ _ _ => rfl
  have HA := (show Hid _ from ha)
  have HO := (show Hid (OwnQ B w v qs) from hO)
  have HAV := (show Hid (Sv 2 w (.slice av1 av2 av3) (pairCells rs)) from hav)
  have HBA := (show Hid _ from hA)
  have HN := (show Hid _ from hN)
  have HK := (show Hid _ from hK)
  have HNE := (show Hid _ from hne)
  have HFIT := (show Hid _ from hfit)
  have HFN := (show Hid (NodeFit ⟨k, nm, rs, tx, -1, []⟩) from hfn)
  have hal := lt_of_block ha
  have hKl := lt_of_block hK
  obtain ⟨gv, cv, rfl, hgv, hgl⟩ := hO.form h0
  clear ha hO hav hA hN hK hne hfit hfn
  obtain ⟨w1, hw1⟩ : ∃ x, x = (w.alloc (.cells #[.pointer (some ⟨a, 0, none⟩)] 64)).alloc (.cells #[.bool false] 4) := ⟨_, rfl⟩
  have b1 : Below w.heap.size w w1 := by rw [hw1]; exact ((Below.refl _ w).alloc (Nat.le_refl _) _).alloc (by simp) _
  have hs1 : w1.heap.size = w.heap.size + 1 + 1 := by rw [hw1, World.size_alloc, World.size_alloc]
  have gP : w1.heap[w.heap.size]? = some (.cells #[.pointer (some ⟨a, 0, none⟩)] 64 (0, 0)) := by rw [hw1, Below.heap_alloc _ _ _ (by simp)]; exact World.alloc_heap_new _ _
  have gD : w1.heap[w.heap.size + 1]? = some (.cells #[.bool false] 4 (0, 0)) := by
    rw [hw1]
    have := World.alloc_heap_new (w.alloc (.cells #[.pointer (some ⟨a, 0, none⟩)] 64)) (.cells #[.bool false] 4)
    rwa [World.size_alloc] at this
  obtain ⟨ca, _⟩ := one_cell ((b1.block a hal).trans HA.out)
  obtain ⟨ca0, _⟩ := one_cell HA.out
  have GP := (show Hid _ from gP)
  have GD := (show Hid _ from gD)
  have HS1 := (show Hid _ from hs1)
  clear gP gD hs1
  go_enter_defers Tryz.func48, Tryz.ntmps48
  go_wp2_with fail
  go_at_call 103
  rw [← hw1]
  refine Calls.mono (icopy_any (ns := qs.map (fun q => q.1)) (w := w1) (v := .slice (some ⟨gv, 0, none⟩) qs.length cv) ((HO.out.n.nodes).below b1) HFIT.out (by rw [List.length_map]; omega)) ?_
  rintro e w2 ⟨vb, rfl, ob, b2⟩
  clear hw1
  have hform := ob.form (by rw [List.length_map]; exact h0)
  rw [List.length_map] at hform
  obtain ⟨gb, cb, rfl, _, _⟩ := hform
  clear ob
  have hb2 := b1.trans (b2.mono b1.size)
  obtain ⟨w3, hw3⟩ : ∃ x, x = w2.alloc (.cells #[.slice (some ⟨gb, 0, none⟩) qs.length cb] 24) := ⟨_, rfl⟩
  have b23 : Below w2.heap.size w2 w3 := by rw [hw3]; exact (Below.refl _ _).alloc (Nat.le_refl _) _
  have b3 : Below w.heap.size w w3 := hb2.trans (b23.mono hb2.size)
  have b13 : Below w1.heap.size w1 w3 := b2.trans (b23.mono b2.size)
  have hsz1 := HS1.out
  have gP3 := (b13.block w.heap.size (by omega)).trans GP.out
  have gD3 := (b13.block (w.heap.size + 1) (by omega)).trans GD.out
  have gE3 : w3.heap[w2.heap.size]? = some (.cells #[.slice (some ⟨gb, 0, none⟩) qs.length cb] 24 (0, 0)) := by rw [hw3]; exact World.alloc_heap_new _ _
  have hE : w.heap.size + 1 + 1 ≤ w2.heap.size := by have := b2.size; omega
  have CC := (show Hid _ from iaddStep_any (B := B) (a := a) (A := A) (N := N) (K := K) (w := w3) (k := k) (p := p) (nm := nm) (tx := tx) (kv1 := kv1) (kv2 := kv2) (kv3 := kv3) (rs := rs) ((b3.block a hal).trans HA.out) (HO.out.below b3) (Nat.le_trans hB b3.size) h0 hlen (HAV.out.below b3) hrs ((b3.block A (lt_of_block HBA.out)).trans HBA.out) ((b3.block N (lt_of_block HN.out)).trans HN.out) ((b3.block K hKl).trans HK.out) hKa HNE.out)
  have GP3 := (show Hid _ from gP3)
  have GD3 := (show Hid _ from gD3)
  have GE3 := (show Hid _ from gE3)
  have HE := (show Hid (w.heap.size + 1 + 1 ≤ w2.heap.size) from hE)
  have B3 := (show Hid (Below w.heap.size w w3) from b3)
  clear gP3 gD3 gE3 hE b3 b13 b23 b2 hb2 b1 hsz1 GP GD HS1 ca ca0
  go_wp2_with fail
  go_at_call 78
  rw [← hw3]
  refine Calls.mono CC.out ?_
  rintro e w4 ⟨rfl, ⟨v4, ha4, av4, o4⟩, hk4, fr4⟩
  clear hw3 CC
  have gP4 := fr4.box GP3.out (by decide) (by omega) (by omega)
  have gD4 := fr4.box GD3.out (by decide) (by omega) (by omega)
  have gE4 := fr4.box GE3.out (by decide) (by have := HE.out; omega) (by have := HE.out; omega)
  obtain ⟨cP4, _⟩ := one_cell gP4
  have hform := o4.form (by simp)
  rw [List.length_append, List.length_singleton] at hform
  obtain ⟨g4, c4, rfl, hg4, hgl4⟩ := hform
  have F4 := (show Hid (AddFrK B a K w w4) from AddFrK.from B3.out fr4)
  have O4 := (show Hid (OwnQ B w4 (.slice (some ⟨g4, 0, none⟩) (qs.length + 1) c4) (qs ++ [(⟨k, nm, rs, tx, -1, []⟩, (av4, .slice none 0 0))])) from o4)
  have GP4 := (show Hid _ from gP4)
  have GD4 := (show Hid _ from gD4)
  have GE4 := (show Hid _ from gE4)
  have HA4 := (show Hid _ from ha4)
  have HK4 := (show Hid _ from hk4)
  clear gP4 gD4 gE4 o4 ha4 hk4 fr4 GP3 GD3 GE3 B3
  go_wp2_with fail
  go_at_call 51
  refine Calls.mono (itree_any HA4.out) ?_
  rintro e w5 ⟨rfl, b5⟩
  have B5 := (show Hid (Below w4.heap.size w4 w5) from b5)
  have HNL : Hid ((qs ++ [((⟨k, nm, rs, tx, -1, []⟩ : PNode), (av4, Value.slice none 0 0))]).map (fun q => q.1) = qs.map (fun q => q.1) ++ [⟨k, nm, rs, tx, -1, []⟩]) := (by simp : (qs ++ [((⟨k, nm, rs, tx, -1, []⟩ : PNode), (av4, Value.slice none 0 0))]).map (fun q => q.1) = qs.map (fun q => q.1) ++ [⟨k, nm, rs, tx, -1, []⟩])
  have CT := (show Hid _ from itreeOk_any (w := w5) (v := .slice (some ⟨g4, 0, none⟩) (qs.length + 1) c4) (ns := qs.map (fun q => q.1) ++ [⟨k, nm, rs, tx, -1, []⟩]) (by rw [← HNL.out]; exact (OwnQ.below O4.out b5).n.nodes) (by
    intro n hn
    rcases List.mem_append.mp hn with hn | hn
    · exact HFIT.out n hn
    · simp only [List.mem_cons, List.not_mem_nil, or_false] at hn
      subst hn
      exact HFN.out) (by simp; omega))
  clear b5
  go_wp2_with fail
  go_at_call 15
  refine Calls.mono CT.out ?_
  rintro e w6 ⟨r, rfl, hr, b6⟩
  clear CT
  have b46 : Below w4.heap.size w4 w6 := B5.out.trans (b6.mono B5.out.size)
  have gD6 := (b46.block _ (lt_of_block GD4.out)).trans GD4.out
  obtain ⟨cD6, zD6⟩ := one_cell gD6
  have HR := (show Hid _ from hr)
  have B46 := (show Hid (Below w4.heap.size w4 w6) from b46)
  have GD6 := (show Hid _ from gD6)
  clear hr b6 b46 gD6 B5 cP4
  have g67 : w6.grownBy (w6.setCell ⟨w.heap.size + 1, 0, none⟩ (.bool r)) (some (w.heap.size + 1)) := grown_setCell _ _ _ _
  have b6s := B46.out.size
  have f4s := F4.out.size
  have hDl := lt_of_block GD4.out
  have hEl := lt_of_block GE4.out
  have hE2 := HE.out
  have a7 : (w6.setCell ⟨w.heap.size + 1, 0, none⟩ (.bool r)).heap[a]? = some (.cells #[.slice (some ⟨g4, 0, none⟩) (qs.length + 1) c4] 77 (0, 0)) := (Below.heap_setCell _ _ _ a (by show a ≠ w.heap.size + 1; omega)).trans ((B46.out.block a (lt_of_block HA4.out)).trans HA4.out)
  have k7 : (w6.setCell ⟨w.heap.size + 1, 0, none⟩ (.bool r)).heap[K]? = some (.cells #[.int .i64 qs.length] 3 (0, 0)) := (Below.heap_setCell _ _ _ K (by show K ≠ w.heap.size + 1; omega)).trans ((B46.out.block K (lt_of_block HK4.out)).trans HK4.out)
  have e7 : (w6.setCell ⟨w.heap.size + 1, 0, none⟩ (.bool r)).heap[w2.heap.size]? = some (.cells #[.slice (some ⟨gb, 0, none⟩) qs.length cb] 24 (0, 0)) := (Below.heap_setCell _ _ _ _ (by show w2.heap.size ≠ w.heap.size + 1; omega)).trans ((B46.out.block _ hEl).trans GE4.out)
  have p7 : (w6.setCell ⟨w.heap.size + 1, 0, none⟩ (.bool r)).heap[w.heap.size]? = some (.cells #[.pointer (some ⟨a, 0, none⟩)] 64 (0, 0)) := (Below.heap_setCell _ _ _ _ (by show w.heap.size ≠ w.heap.size + 1; omega)).trans ((B46.out.block _ (lt_of_block GP4.out)).trans GP4.out)
  have d7 : (w6.setCell ⟨w.heap.size + 1, 0, none⟩ (.bool r)).heap[w.heap.size + 1]? = some (.cells #[.bool r] 4 (0, 0)) := setCell_at GD6.out
  have o7 : OwnQ B (w6.setCell ⟨w.heap.size + 1, 0, none⟩ (.bool r)) (.slice (some ⟨g4, 0, none⟩) (qs.length + 1) c4) (qs ++ [(⟨k, nm, rs, tx, -1, []⟩, (av4, .slice none 0 0))]) := (OwnQ.below O4.out B46.out).kept g67 (fun q e => by cases e; exact ⟨_, _, _, GD6.out, by decide, by decide, by decide⟩)
  have f7 : AddFrK B a K w (w6.setCell ⟨w.heap.size + 1, 0, none⟩ (.bool r)) := (AddFrK.andThen F4.out (below_none B46.out) (fun q e => by cases e)).andThen g67 (fun q e => by cases e; omega)
  have Z7 := (show Hid (_ ∧ _ ∧ _ ∧ _ ∧ _ ∧ _ ∧ AddFrK B a K w (w6.setCell ⟨w.heap.size + 1, 0, none⟩ (.bool r))) from ⟨a7, k7, e7, p7, d7, o7, f7⟩)
  clear a7 k7 e7 p7 d7 o7 f7 g67
  go_wp2
  refine leaves_cons (f := 104) (args := #[.pointer (some ⟨w.heap.size + 1, 0, none⟩), .pointer (some ⟨w2.heap.size, 0, none⟩), .pointer (some ⟨w.heap.size, 0, none⟩)]) (by simp) (by simp [go_sem]) ?_
  obtain ⟨a7, k7, e7, p7, d7, o7, f7⟩ := Z7.out
  refine (idone_any a7 d7 e7 ⟨_, _, _, rfl⟩ p7 _).mono ?_
  rintro e u' w8 ⟨rfl, rfl, rfl⟩
  cases r
  · have d8 := (Below.heap_setCell (w6.setCell ⟨w.heap.size + 1, 0, none⟩ (.bool false)) ⟨a, 0, none⟩ (.slice (some ⟨gb, 0, none⟩) qs.length cb) (w.heap.size + 1) (by show w.heap.size + 1 ≠ a; omega)).trans d7
    have c8 := (one_cell d8).1
    have k8 := (Below.heap_setCell (w6.setCell ⟨w.heap.size + 1, 0, none⟩ (.bool false)) ⟨a, 0, none⟩ (.slice (some ⟨gb, 0, none⟩) qs.length cb) K (by show K ≠ a; omega)).trans k7
    have a8 : ((w6.setCell ⟨w.heap.size + 1, 0, none⟩ (.bool false)).setCell ⟨a, 0, none⟩ (.slice (some ⟨gb, 0, none⟩) qs.length cb)).heap[a]? = some (.cells #[.slice (some ⟨gb, 0, none⟩) qs.length cb] 77 (0, 0)) := setCell_at a7
    have f8 := f7.andThen (grown_setCell (w6.setCell ⟨w.heap.size + 1, 0, none⟩ (.bool false)) a 0 (.slice (some ⟨gb, 0, none⟩) qs.length cb)) (fun q e => by cases e; omega)
    exact ⟨.bool false, by simp [results, Tryz.results48, go_sem, c8], false, rfl, HR.out, ⟨gb, _, _, a8, (fun h => by cases h)⟩, k8, f8⟩
  · have c8 := (one_cell d7).1
    exact ⟨.bool true, by simp [results, Tryz.results48, go_sem, c8], true, rfl, HR.out, ⟨g4, _, _, a7, (fun _ => ⟨_, o7⟩)⟩, k7, f7⟩
end Go.Proofs.YtogdbjafibejdaaGreat
