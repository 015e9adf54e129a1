/- Tokens, plain: where a remark that is torn ends. No condition. -/
import Derived.Test.YtggfifchkecnjaaGreatDoorY32
import Derived.Test.YtggfifchkecnjaaGreatDoorY30
namespace Go.Proofs.YtggfifchkecnjaaGreatDoor
open Go.RowKit
set_option maxRecDepth 100000
set_option linter.unusedVariables false

theorem suf_snoc {a b : List Int} {c x : Int} : (a ++ [c]) <:+ (b ++ [x]) ↔ c = x ∧ a <:+ b := by
  constructor
  · rintro ⟨t, ht⟩
    rw [← List.append_assoc] at ht
    obtain ⟨h1, h2⟩ := List.append_inj' ht rfl
    exact ⟨by simpa using h2, ⟨t, h1⟩⟩
  · rintro ⟨rfl, t, rfl⟩
    exact ⟨t, by rw [List.append_assoc]⟩
theorem puts_snocX (l : List Int) (x : Int) : puts (l ++ [x]) = puts l ++ put x := by simp [puts]
theorem put_last {x : Int} (h : pointOk x = true) (h1 : ¬ x < 128) : ∃ p z, put x = p ++ [z] ∧ 128 ≤ z := by
  obtain ⟨x0, x1, x2⟩ := (pointOk_iff x).mp h
  have hh := enc_high (x := x) (by omega) x1
  rw [put_is h]
  have hne : enc x ≠ [] := by intro e; rw [e] at hh; simp at hh
  exact ⟨(enc x).dropLast, (enc x).getLast hne, (List.dropLast_concat_getLast hne).symm, hh.2 _ (List.getLast_mem hne)⟩
theorem ends_puts : ∀ (n : Nat) (e l : List Int), e.length = n → (∀ c ∈ e, c < 128) → (∀ x ∈ l, pointOk x = true) → (e <:+ puts l ↔ e <:+ l) := by
  intro n
  induction n with
  | zero =>
    intro e l h _ _
    have : e = [] := List.length_eq_zero_iff.mp h
    subst this
    simp
  | succ n ih =>
    intro e l h he hl
    have hne : e ≠ [] := by intro e'; rw [e'] at h; cases h
    obtain ⟨a, c, rfl⟩ : ∃ a c, e = a ++ [c] := ⟨e.dropLast, e.getLast hne, (List.dropLast_concat_getLast hne).symm⟩
    have hc := he c (by simp)
    by_cases hln : l = []
    · subst hln; simp [puts]
    obtain ⟨l, x, rfl⟩ : ∃ b y, l = b ++ [y] := ⟨l.dropLast, l.getLast hln, (List.dropLast_concat_getLast hln).symm⟩
    clear hln
    rcases (show True ∨ False from .inl trivial) with _ | h0
    rotate_left
    · exact h0.elim
    · have hx := hl x (by simp)
      rw [puts_snocX, suf_snoc]
      have ih' := ih a l (by simpa using h) (fun y hy => he y (by simp [hy])) (fun y hy => hl y (by simp [hy]))
      by_cases h1 : x < 128
      · rw [put_low hx h1, suf_snoc, ih']
      · obtain ⟨p, z, hp, hz⟩ := put_last hx h1
        rw [hp, ← List.append_assoc, suf_snoc]
        constructor
        · rintro ⟨rfl, _⟩; omega
        · rintro ⟨rfl, _⟩; omega
theorem puts_take_end {e l : List Int} (h : e <:+ l) (he : ∀ c ∈ e, c < 128) (hl : ∀ x ∈ l, pointOk x = true) : (puts l).take ((puts l).length - e.length) = puts (l.take (l.length - e.length)) := by
  obtain ⟨t, rfl⟩ := h
  have h1 : puts e = e := by
    have : ∀ (e : List Int), (∀ c ∈ e, c < 128) → (∀ x ∈ e, pointOk x = true) → puts e = e := by
      intro e
      induction e with
      | nil => intro _ _; rfl
      | cons x e ih =>
        intro h1 h2
        have e2 : puts (x :: e) = put x ++ puts e := rfl
        rw [e2, put_low (h2 x (List.mem_cons_self ..)) (h1 x (List.mem_cons_self ..)), ih (fun y hy => h1 y (List.mem_cons_of_mem _ hy)) (fun y hy => h2 y (List.mem_cons_of_mem _ hy))]
        rfl
    exact this e he (fun x hx => hl x (List.mem_append.mpr (.inr hx)))
  have h2 : puts (t ++ e) = puts t ++ puts e := by simp [puts]
  rw [h2, h1]
  simp
def tornL (l : List Int) : List Int :=
  if [45, 45, 33] <:+ l then l.take (l.length - 3) else if [45, 45] <:+ l then l.take (l.length - 2) else if [45] <:+ l then l.take (l.length - 1) else l
theorem torn_puts {l : List Int} (hl : ∀ x ∈ l, pointOk x = true) : tornL (puts l) = puts (tornL l) := by
  unfold tornL
  have a1 : ∀ c ∈ ([45, 45, 33] : List Int), c < 128 := by decide
  have a2 : ∀ c ∈ ([45, 45] : List Int), c < 128 := by decide
  have a3 : ∀ c ∈ ([45] : List Int), c < 128 := by decide
  have e1 := ends_puts 3 [45, 45, 33] l rfl a1 hl
  have e2 := ends_puts 2 [45, 45] l rfl a2 hl
  have e3 := ends_puts 1 [45] l rfl a3 hl
  by_cases h1 : [45, 45, 33] <:+ l
  · rw [if_pos h1, if_pos (e1.mpr h1)]; exact puts_take_end h1 a1 hl
  rw [if_neg h1, if_neg (fun h => h1 (e1.mp h))]
  by_cases h2 : [45, 45] <:+ l
  · rw [if_pos h2, if_pos (e2.mpr h2)]; exact puts_take_end h2 a2 hl
  rw [if_neg h2, if_neg (fun h => h2 (e2.mp h))]
  by_cases h3 : [45] <:+ l
  · rw [if_pos h3, if_pos (e3.mpr h3)]; exact puts_take_end h3 a3 hl
  rw [if_neg h3, if_neg (fun h => h3 (e3.mp h))]
theorem atL_of {xs : List Int} {j : Nat} {y : Int} (h : atL xs j = y) (hy : y ≠ -1) : j < xs.length ∧ xs[j]? = some y := by
  have hj := atL_lt (xs := xs) (j := j) (by rw [h]; exact hy)
  rw [atL_in hj, List.getD_eq_getElem?_getD, List.getElem?_eq_getElem hj] at h
  exact ⟨hj, by rw [List.getElem?_eq_getElem hj]; exact congrArg some h⟩
theorem suf_sub {xs : List Int} {i : Nat} {e : List Int} (hi : i ≤ xs.length) (hm : ∀ c ∈ e, c ≠ -1) : e <:+ sub xs i xs.length ↔ i + e.length ≤ xs.length ∧ stands xs (xs.length - e.length) e = true := by
  have hs : sub xs i xs.length = xs.drop i := by unfold sub; rw [List.take_length]
  rw [hs]
  constructor
  · rintro ⟨t, ht⟩
    have hl := congrArg List.length ht
    rw [List.length_append, List.length_drop] at hl
    refine ⟨by omega, stands_iff.mpr (fun j hj => ?_)⟩
    have h1 : xs.length - e.length + j < xs.length := by omega
    rw [atL_in h1]
    have h2 : (xs.drop i)[t.length + j]? = e[j]? := by rw [← ht, List.getElem?_append_right (by omega)]; congr 1; omega
    rw [List.getElem?_drop, show i + (t.length + j) = xs.length - e.length + j by omega] at h2
    rw [List.getD_eq_getElem?_getD, List.getD_eq_getElem?_getD, h2]
  · rintro ⟨h1, h2⟩
    refine ⟨(xs.drop i).take (xs.length - e.length - i), ?_⟩
    have h3 : (xs.drop i).drop (xs.length - e.length - i) = e := by
      rw [List.drop_drop, show i + (xs.length - e.length - i) = xs.length - e.length by omega]
      apply List.ext_getElem?
      intro j
      rw [List.getElem?_drop]
      by_cases hj : j < e.length
      · have := stands_iff.mp h2 j hj
        have hej : e.getD j 0 = e[j] := by simp [List.getD_eq_getElem?_getD, hj]
        rw [hej] at this
        rw [(atL_of this (hm _ (List.getElem_mem hj))).2, List.getElem?_eq_getElem hj]
      · rw [List.getElem?_eq_none (by omega), List.getElem?_eq_none (by omega)]
    conv => lhs; rhs; rw [← h3]
    exact List.take_append_drop _ _
theorem torn_sub {xs : List Int} {i : Nat} (hi : i ≤ xs.length) : tornL (sub xs i xs.length) = sub xs i (tornE xs i) := by
  have hl : (sub xs i xs.length).length = xs.length - i := sub_len (Nat.le_refl _)
  have htk : ∀ n, i + n ≤ xs.length → (sub xs i xs.length).take (xs.length - i - n) = sub xs i (xs.length - n) := by
    intro n hn
    unfold sub
    rw [List.take_length, List.drop_take]
    congr 1
    omega
  have s1 : [45, 45, 33] <:+ sub xs i xs.length ↔ i + 3 ≤ xs.length ∧ stands xs (xs.length - 3) [45, 45, 33] = true := suf_sub (e := [45, 45, 33]) hi (by decide)
  have s2 : [45, 45] <:+ sub xs i xs.length ↔ i + 2 ≤ xs.length ∧ stands xs (xs.length - 2) [45, 45] = true := suf_sub (e := [45, 45]) hi (by decide)
  have s3 : [45] <:+ sub xs i xs.length ↔ i + 1 ≤ xs.length ∧ stands xs (xs.length - 1) [45] = true := suf_sub (e := [45]) hi (by decide)
  unfold tornL tornE
  rw [hl]
  by_cases h1 : [45, 45, 33] <:+ sub xs i xs.length
  · rw [if_pos h1, if_pos (s1.mp h1)]; exact htk 3 (s1.mp h1).1
  rw [if_neg h1, if_neg (fun h => h1 (s1.mpr h))]
  by_cases h2 : [45, 45] <:+ sub xs i xs.length
  · rw [if_pos h2, if_pos (s2.mp h2)]; exact htk 2 (s2.mp h2).1
  rw [if_neg h2, if_neg (fun h => h2 (s2.mpr h))]
  by_cases h3 : [45] <:+ sub xs i xs.length
  · rw [if_pos h3, if_pos (s3.mp h3)]; exact htk 1 (s3.mp h3).1
  rw [if_neg h3, if_neg (fun h => h3 (s3.mpr h))]
theorem torn_txt {xs : List Int} (hy : ∀ y ∈ xs, pointOk y = true) {i : Nat} (hi : i ≤ xs.length) : strOf (tornL (puts (sub xs i xs.length))) = txtOf xs i (tornE xs i) := by
  rw [torn_puts (fun x h => hy x (sub_mem h)), torn_sub hi]; rfl
def comV (xs : List Int) (st i : Nat) : ByteArray × Nat := comF xs st (xs.length + 1) i
theorem com_fuel {xs : List Int} {st : Nat} : ∀ (f f' k : Nat), xs.length - k < f → xs.length - k < f' → comF xs st f k = comF xs st f' k := by
  intro f
  induction f with
  | zero => intro f' k h1 h2; omega
  | succ f ih =>
    intro f' k h1 h2
    cases f' with
    | zero => omega
    | succ f' =>
      rw [comF, comF]
      by_cases hk : k < xs.length
      · rw [if_pos hk, if_pos hk]
        split
        · rfl
        · split
          · rfl
          · exact ih f' _ (by omega) (by omega)
      · rw [if_neg hk, if_neg hk]
theorem com_out {xs : List Int} {st k : Nat} (h : xs.length ≤ k) : comV xs st k = (txtOf xs st (tornE xs st), xs.length) := by unfold comV; rw [comF, if_neg (by omega)]
theorem com_three {xs : List Int} {st k : Nat} (h : k < xs.length) (h1 : stands xs k [45, 45, 62] = true) : comV xs st k = (txtOf xs st k, k + 3) := by unfold comV; rw [comF, if_pos h, if_pos h1]
theorem com_four {xs : List Int} {st k : Nat} (h : k < xs.length) (h1 : stands xs k [45, 45, 62] = false) (h2 : stands xs k [45, 45, 33, 62] = true) : comV xs st k = (txtOf xs st k, k + 4) := by unfold comV; rw [comF, if_pos h, if_neg (by rw [h1]; decide), if_pos h2]
theorem com_next {xs : List Int} {st k : Nat} (h : k < xs.length) (h1 : stands xs k [45, 45, 62] = false) (h2 : stands xs k [45, 45, 33, 62] = false) : comV xs st k = comV xs st (k + 1) := by
  unfold comV
  rw [com_fuel (st := st) (xs.length + 1) xs.length (k + 1) (by omega) (by omega)]
  conv => lhs; rw [comF, if_pos h, if_neg (by rw [h1]; decide), if_neg (by rw [h2]; decide)]
end Go.Proofs.YtggfifchkecnjaaGreatDoor

/- The program's cutter: a text is taken; an attribute's name; a short name. No condition. -/
namespace Go.Proofs.YtggfifchkecnjaaGreatDoor
open Go.RowKit
set_option maxRecDepth 100000
set_option linter.unusedVariables false

def behT (xs : List Int) (k : Nat) (t : ByteArray) : Nat := if standsLow xs k (bs t) = true then k + t.size else k
set_option maxHeartbeats 2000000 in
theorem takes_any {w0 : World} {g : Nat} {v : Value} {xs : List Int} {k : Nat} {w : World} (h : Cut w0 g v xs k w) (hy : ∀ y ∈ xs, pointOk y = true) (s t : ByteArray) (ht : LowT t) (ht0 : 0 < t.size) :
    Calls Tryz.prog 118 #[cutVal v g s, .string t] w fun e w' => e = .returned (.bool (standsLow xs k (bs t))) ∧ Cut w0 g v xs (behT xs k t) w' ∧ w.grownBy w' (some g) := by
  have hcb := cb_new (s := s) h
  obtain ⟨w1, hw1⟩ : ∃ z, z = w.alloc (.cells #[v, .pointer (some ⟨g, 0, none⟩), .string s] 47) := ⟨_, rfl⟩
  rw [← hw1] at hcb
  have HCB := (show Hid (CB w0 g v xs s w k w1) from hcb)
  have CBT := (show Hid _ from behindText_any hcb.cut hy s t ht 0 (by omega))
  have hlen := fun h => standsLow_len (ys := xs) (k := k) (t := t) h ht0
  rw [Nat.add_zero, Nat.zero_add] at CBT
  unfold behT
  obtain ⟨st, hst⟩ : ∃ z, z = standsLow xs k (bs t) := ⟨_, rfl⟩
  rw [← hst] at CBT hlen ⊢
  have hkl := h.2.2.2.1.2
  obtain ⟨c0, c1, c2⟩ := HCB.out.cells
  clear hcb h hy hst ht
  unfold cutVal at CBT ⊢
  go_enter Tryz.func118, Tryz.ntmps118
  go_upto_region 1 with fail
  rw [← hw1]
  clear hw1
  go_wp2_with fail
  go_at_call 128
  refine Calls.mono CBT.out ?_
  rintro e w2 ⟨rfl, hc2, hg2⟩
  have cb2 := (show Hid (CB w0 g v xs s w k w2) from HCB.out.move hc2 hg2)
  clear HCB hc2 hg2 CBT c0 c1 c2
  obtain ⟨c0, c1, c2⟩ := cb2.out.cells
  cases st
  · go_wp2_with fail
    go_at_call 110
    refine (move_cb cb2.out 0 0 rfl (by omega)).mono ?_
    rintro e w3 ⟨rfl, cb3⟩
    have CB3 := (show Hid _ from cb3)
    clear cb2 cb3
    go_wp2
    go_ret
    exact ⟨rfl, CB3.out.cut, CB3.out.gro⟩
  · have hl := hlen rfl
    go_wp2_with fail
    go_at_call 110
    refine (move_cb cb2.out t.size _ rfl hl).mono ?_
    rintro e w3 ⟨rfl, cb3⟩
    have CB3 := (show Hid _ from cb3)
    clear cb2 cb3
    go_wp2
    go_ret
    exact ⟨rfl, CB3.out.cut, CB3.out.gro⟩
end Go.Proofs.YtggfifchkecnjaaGreatDoor

/- Tokens, plain: what a token tells. No condition. -/
namespace Go.Proofs.YtggfifchkecnjaaGreatDoor
open Go.RowKit
set_option maxRecDepth 100000
set_option linter.unusedVariables false

theorem short_size : ∀ (l acc : List Int), acc.length ≤ 60 → (shortB acc l).length ≤ 60 := by
  intro l
  induction l with
  | nil => intro acc h; exact h
  | cons x l ih =>
    intro acc h
    rw [shortB]
    split
    · exact h
    · rename_i hc
      exact ih _ (by rw [List.length_append]; omega)
theorem shortOf_size (ys : List Int) (i j : Nat) : (shortOf ys i j).size ≤ 60 := by unfold shortOf; rw [strOf_size]; exact short_size _ _ (by simp)
structure TokB (ys : List Int) (i : Nat) (r : TokD × Nat) : Prop where
  kind : 1 ≤ r.1.k ∧ r.1.k ≤ 6
  done : r.1.k = 1 → r.1 = endT ∧ r.2 = ys.length
  more : r.1.k ≠ 1 → i < r.2
  le : r.2 ≤ ys.length
  few : Few r.1.rs
  nm : r.1.nm.size ≤ 60
  tx : r.1.tx.size ≤ 12000
theorem tokB_end (ys : List Int) (i : Nat) : TokB ys i (endT, ys.length) := ⟨by show (1 : Int) ≤ 1 ∧ (1 : Int) ≤ 6; decide, fun _ => ⟨rfl, rfl⟩, fun h => absurd rfl h, Nat.le_refl _, few_nil, Nat.zero_le _, Nat.zero_le _⟩
theorem tokB_char {ys : List Int} {i : Nat} (h : i < ys.length) : TokB ys i (charM ys i) :=
  ⟨⟨by show (1 : Int) ≤ 2; decide, by show (2 : Int) ≤ 6; decide⟩, fun e => absurd e (by show ¬ (2 : Int) = 1; decide), fun _ => by show i < i + 1; omega, h, few_nil, Nat.zero_le _, by
    show (strOf (put (atL ys i))).size ≤ 12000
    have := put_len (atL ys i)
    rw [strOf_size]; omega⟩
theorem tokB_rem {ys : List Int} (hl : ys.length ≤ 3000) {i k : Nat} (h : i ≤ ys.length) (hk : k < i) : TokB ys k (remM ys i) := by
  have h1 := upTo_ge isGr ys i
  have h2 := upTo_le (p := isGr) h
  have h3 := past_le h2
  exact ⟨⟨by show (1 : Int) ≤ 3; decide, by show (3 : Int) ≤ 6; decide⟩, fun e => absurd e (by show ¬ (3 : Int) = 1; decide), fun _ => by show k < past ys _; omega, h3.2, few_nil, Nat.zero_le _, txtOf_size hl _ _⟩
theorem stands_le {ys : List Int} {k : Nat} {e : List Int} (h : stands ys k e = true) (h0 : 0 < e.length) (hm : ∀ c ∈ e, c ≠ -1) : k + e.length ≤ ys.length := by
  have h1 := stands_iff.mp h (e.length - 1) (by omega)
  have hlt : e.length - 1 < e.length := by omega
  have he : e.getD (e.length - 1) 0 = e[e.length - 1] := by simp [List.getD_eq_getElem?_getD, hlt]
  rw [he] at h1
  have := atL_of h1 (hm _ (List.getElem_mem hlt))
  omega
theorem com_tells {ys : List Int} (hl : ys.length ≤ 3000) (st : Nat) : ∀ (d k : Nat), ys.length - k ≤ d → k ≤ ys.length → k ≤ (comV ys st k).2 ∧ (comV ys st k).2 ≤ ys.length ∧ (comV ys st k).1.size ≤ 12000 := by
  intro d
  induction d with
  | zero => intro k h1 h2; rw [com_out (by omega)]; exact ⟨by show k ≤ ys.length; omega, Nat.le_refl _, txtOf_size hl _ _⟩
  | succ d ih =>
    intro k h1 h2
    by_cases hk : k < ys.length
    · rcases h3 : stands ys k [45, 45, 62] with _ | _
      · rcases h4 : stands ys k [45, 45, 33, 62] with _ | _
        · rw [com_next hk h3 h4]
          obtain ⟨i1, i2, i3⟩ := ih (k + 1) (by omega) (by omega)
          exact ⟨by omega, i2, i3⟩
        · rw [com_four hk h3 h4]
          have := stands_le h4 (by decide) (by decide)
          exact ⟨by show k ≤ k + 4; omega, this, txtOf_size hl _ _⟩
      · rw [com_three hk h3]
        have := stands_le h3 (by decide) (by decide)
        exact ⟨by show k ≤ k + 3; omega, this, txtOf_size hl _ _⟩
    · rw [com_out (by omega)]; exact ⟨by show k ≤ ys.length; omega, Nat.le_refl _, txtOf_size hl _ _⟩
theorem tokB_com {ys : List Int} (hl : ys.length ≤ 3000) {i k : Nat} (h : i ≤ ys.length) (hk : k < i) : TokB ys k (comM ys i) := by
  unfold comM
  by_cases h1 : stands ys i [62] = true
  · rw [if_pos h1]
    have := stands_le h1 (by decide) (by decide)
    exact ⟨⟨by show (1 : Int) ≤ 3; decide, by show (3 : Int) ≤ 6; decide⟩, fun e => absurd e (by show ¬ (3 : Int) = 1; decide), fun _ => by show k < i + 1; omega, this, few_nil, Nat.zero_le _, Nat.zero_le _⟩
  rw [if_neg h1]
  by_cases h2 : stands ys i [45, 62] = true
  · rw [if_pos h2]
    have := stands_le h2 (by decide) (by decide)
    exact ⟨⟨by show (1 : Int) ≤ 3; decide, by show (3 : Int) ≤ 6; decide⟩, fun e => absurd e (by show ¬ (3 : Int) = 1; decide), fun _ => by show k < i + 2; omega, this, few_nil, Nat.zero_le _, Nat.zero_le _⟩
  rw [if_neg h2]
  obtain ⟨c1, c2, c3⟩ := com_tells hl i ys.length i (by omega) h
  exact ⟨⟨by show (1 : Int) ≤ 3; decide, by show (3 : Int) ≤ 6; decide⟩, fun e => absurd e (by show ¬ (3 : Int) = 1; decide), fun _ => Nat.lt_of_lt_of_le hk c1, c2, few_nil, Nat.zero_le _, c3⟩
theorem standsL_le {ys : List Int} {k : Nat} (h : standsLow ys k docL = true) : k + 7 ≤ ys.length := standsLow_len (t := ⟨#[100, 111, 99, 116, 121, 112, 101]⟩) h (by decide)
theorem tokB_doc {ys : List Int} {i k : Nat} (h : i ≤ ys.length) (hk : k < i) : TokB ys k (docM ys i) := by
  have h1 := skip_le h
  have h2 := upTo_ge endWord ys (skipB ys i)
  have h3 := upTo_le (p := endWord) h1.2
  have h4 := upTo_ge isGr ys (upTo endWord ys (skipB ys i))
  have h5 := upTo_le (p := isGr) h3
  have h6 := past_le h5
  exact ⟨⟨by show (1 : Int) ≤ 4; decide, by show (4 : Int) ≤ 6; decide⟩, fun e => absurd e (by show ¬ (4 : Int) = 1; decide), fun _ => by show k < past ys _; omega, h6.2, few_nil, shortOf_size _ _ _, Nat.zero_le _⟩
theorem tokB_mark {ys : List Int} (hl : ys.length ≤ 3000) {i k : Nat} (h : i ≤ ys.length) (hk : k < i) : TokB ys k (markM ys i) := by
  unfold markM
  by_cases h1 : stands ys i [45, 45] = true
  · rw [if_pos h1]
    have := stands_le h1 (by decide) (by decide)
    exact tokB_com hl this (by omega)
  rw [if_neg h1]
  by_cases h2 : standsLow ys i docL = true
  · rw [if_pos h2]
    exact tokB_doc (standsL_le h2) (by omega)
  rw [if_neg h2]
  exact tokB_rem hl h hk
theorem tokB_tag {ys : List Int} (hl : ys.length ≤ 3000) {i k : Nat} (h : i ≤ ys.length) (hk : k < i) {kk : Int} (hkk : kk = 5 ∨ kk = 6) : TokB ys k (tagM ys kk i) := by
  unfold tagM
  have h1 := upTo_ge endTag ys i
  have h2 := upTo_le (p := endTag) h
  rcases ht : tagF ys (ys.length + 1) (upTo endTag ys i) [] with _ | ⟨rs, sf, j⟩
  · exact tokB_end ys k
  · obtain ⟨t1, t2, t3⟩ := tag_tells hl ys.length (upTo endTag ys i) [] (by omega) few_nil (rs, sf, j) ht
    simp only at t1 t2 t3 ⊢
    refine ⟨?_, ?_, fun _ => by show k < j; omega, t2, ?_, shortOf_size _ _ _, Nat.zero_le _⟩
    · show 1 ≤ kk ∧ kk ≤ 6; omega
    · intro e; exfalso; have e' : kk = 1 := e; omega
    · show Few (if kk = 6 then [] else rs)
      split
      · exact few_nil
      · exact t3
theorem tok_tells {ys : List Int} (hl : ys.length ≤ 3000) : ∀ (f i : Nat), ys.length - i < f → TokB ys i (tokM ys f i) := by
  intro f
  induction f with
  | zero => intro i h; omega
  | succ f ih =>
    intro i h
    rw [tokM]
    by_cases hi : ys.length ≤ i
    · rw [if_pos hi]; exact tokB_end ys i
    rw [if_neg hi]
    by_cases h38 : atL ys i = 38
    · rw [if_pos h38]
      obtain ⟨n, y, he, hkn, hnl, hyo, _⟩ := ref_facts false hl (by omega) h38
      rw [he]
      simp only [Int.toNat_natCast]
      exact ⟨⟨by show (1 : Int) ≤ 2; decide, by show (2 : Int) ≤ 6; decide⟩, fun e => absurd e (by show ¬ (2 : Int) = 1; decide), fun _ => hkn, hnl, few_nil, Nat.zero_le _, by
        show (strOf (puts [y])).size ≤ 12000
        have := puts_len [y]
        rw [strOf_size]; simp at this; omega⟩
    rw [if_neg h38]
    by_cases h60 : atL ys i ≠ 60
    · rw [if_pos h60]; exact tokB_char (by omega)
    rw [if_neg h60]
    have hb : ∀ (m : Nat) (c : Int), atL ys m = c → c ≠ -1 → m < ys.length := fun m c h1 h2 => (atL_of h1 h2).1
    by_cases h33 : atL ys (i + 1) = 33
    · rw [if_pos h33]
      have := hb _ _ h33 (by decide)
      exact tokB_mark hl (by omega) (by omega)
    rw [if_neg h33]
    by_cases h47 : atL ys (i + 1) = 47
    · rw [if_pos h47]
      by_cases hn : atL ys (i + 2) = -1
      · rw [if_pos hn]; exact tokB_char (by omega)
      rw [if_neg hn]
      have hi2 : i + 2 < ys.length := hb _ _ rfl hn
      by_cases h62 : atL ys (i + 2) = 62
      · rw [if_pos h62]
        have := ih (i + 3) (by omega)
        exact ⟨this.kind, this.done, fun e => by have := this.more e; omega, this.le, this.few, this.nm, this.tx⟩
      rw [if_neg h62]
      by_cases ha : isAlp (atL ys (i + 2)) = true
      · rw [if_pos ha]; exact tokB_tag hl (by omega) (by omega) (.inr rfl)
      · rw [if_neg ha]; exact tokB_rem hl (by omega) (by omega)
    rw [if_neg h47]
    by_cases ha : isAlp (atL ys (i + 1)) = true
    · rw [if_pos ha]
      have : i + 1 < ys.length := by
        by_cases hh : i + 1 < ys.length
        · exact hh
        · rw [atL_out (by omega)] at ha; exact absurd ha (by decide)
      exact tokB_tag hl (by omega) (by omega) (.inl rfl)
    rw [if_neg ha]
    by_cases h63 : atL ys (i + 1) = 63
    · rw [if_pos h63]
      have := hb _ _ h63 (by decide)
      exact tokB_rem hl (by omega) (by omega)
    rw [if_neg h63]
    exact tokB_char (by omega)
def tokV (ys : List Int) (i : Nat) : TokD × Nat := tokM ys (ys.length + 1) i
theorem tokV_tells {ys : List Int} (hl : ys.length ≤ 3000) (i : Nat) : TokB ys i (tokV ys i) := tok_tells hl _ _ (by omega)
theorem toks_fuel {ys : List Int} (hl : ys.length ≤ 3000) : ∀ (f f' i : Nat), ys.length - i < f → ys.length - i < f' → toksF ys f i = toksF ys f' i := by
  intro f
  induction f with
  | zero => intro f' i h1 h2; omega
  | succ f ih =>
    intro f' i h1 h2
    cases f' with
    | zero => omega
    | succ f' =>
      rw [toksF, toksF]
      have ht := tokV_tells hl i
      unfold tokV at ht
      by_cases h1' : (tokM ys (ys.length + 1) i).1.k = 1
      · rw [if_pos h1', if_pos h1']
      · rw [if_neg h1', if_neg h1']
        have := ht.more h1'
        have := ht.le
        rw [ih f' _ (by omega) (by omega)]
def toksV (ys : List Int) (i : Nat) : List TokD := toksF ys (ys.length + 1) i
theorem toks_end {ys : List Int} {i : Nat} (h : (tokV ys i).1.k = 1) : toksV ys i = [(tokV ys i).1] := by unfold toksV; rw [toksF]; exact if_pos h
theorem toks_more {ys : List Int} (hl : ys.length ≤ 3000) {i : Nat} (h : (tokV ys i).1.k ≠ 1) : toksV ys i = (tokV ys i).1 :: toksV ys (tokV ys i).2 := by
  have ht := tokV_tells hl i
  have h1 := ht.more h
  have h2 := ht.le
  unfold toksV
  rw [toks_fuel hl (ys.length + 1) ys.length (tokV ys i).2 (by omega) (by omega)]
  conv => lhs; rw [toksF]
  exact if_neg h
theorem toks_len {ys : List Int} (hl : ys.length ≤ 3000) : ∀ (d i : Nat), ys.length - i ≤ d → (toksV ys i).length ≤ ys.length - i + 1 := by
  intro d
  induction d with
  | zero =>
    intro i h
    by_cases h1 : (tokV ys i).1.k = 1
    · rw [toks_end h1]; simp
    · have ht := tokV_tells hl i
      have := ht.more h1
      have := ht.le
      omega
  | succ d ih =>
    intro i h
    by_cases h1 : (tokV ys i).1.k = 1
    · rw [toks_end h1]; simp
    · have ht := tokV_tells hl i
      have h2 := ht.more h1
      have h3 := ht.le
      rw [toks_more hl h1, List.length_cons]
      have := ih (tokV ys i).2 (by omega)
      omega
end Go.Proofs.YtggfifchkecnjaaGreatDoor

/- The program's kinds of points that end something (written by mk/icuta.py). No condition. -/
namespace Go.Proofs.YtggfifchkecnjaaGreatDoor
open Go.RowKit
set_option maxRecDepth 100000
set_option linter.unusedVariables false

theorem endsTag_any (x : Int) (w : World) : Calls Tryz.prog 116 #[.int .i64 x] w fun e w' => e = .returned (.bool (endTag x)) ∧ Below w.heap.size w w' := by
  rcases (show x = 47 ∨ x = 62 ∨ (x ≠ 47 ∧ x ≠ 62) by omega) with rfl | rfl | ⟨h47, h62⟩
  · have cb := iblank_any 47 w
    go_enter Tryz.func116, Tryz.ntmps116
    go_wp2_with fail
    go_at_call 133
    refine cb.mono ?_
    rintro e w1 ⟨rfl, b1⟩
    go_wp2
    go_ret
    exact ⟨rfl, b1⟩
  · have cb := iblank_any 62 w
    go_enter Tryz.func116, Tryz.ntmps116
    go_wp2_with fail
    go_at_call 133
    refine cb.mono ?_
    rintro e w1 ⟨rfl, b1⟩
    go_wp2
    go_ret
    exact ⟨rfl, b1⟩
  · have n47 : (x == 47) = false := by simp [h47]
    have n62 : (x == 62) = false := by simp [h62]
    have hd : endTag x = isBlank x := by simp [endTag, n47, n62]
    obtain ⟨q, hq⟩ : ∃ q, q = isBlank x := ⟨_, rfl⟩
    have cb := iblank_any x w
    rw [← hq] at cb
    rw [hd, ← hq]
    clear hd hq
    go_enter Tryz.func116, Tryz.ntmps116
    go_wp2_with fail
    go_at_call 133
    refine cb.mono ?_
    rintro e w1 ⟨rfl, b1⟩
    cases q
    · go_wp2
      go_ret
      exact ⟨rfl, b1⟩
    · go_wp2
      go_ret
      exact ⟨rfl, b1⟩
theorem endsAttr_any (x : Int) (w : World) : Calls Tryz.prog 151 #[.int .i64 x] w fun e w' => e = .returned (.bool (endAttr x)) ∧ Below w.heap.size w w' := by
  rcases (show x = 61 ∨ (x ≠ 61) by omega) with rfl | ⟨h61⟩
  · have cb := endsTag_any 61 w
    go_enter Tryz.func151, Tryz.ntmps151
    go_wp2_with fail
    go_at_call 116
    refine cb.mono ?_
    rintro e w1 ⟨rfl, b1⟩
    go_wp2
    go_ret
    exact ⟨rfl, b1⟩
  · have n61 : (x == 61) = false := by simp [h61]
    have hd : endAttr x = endTag x := by simp [endAttr, n61]
    obtain ⟨q, hq⟩ : ∃ q, q = endTag x := ⟨_, rfl⟩
    have cb := endsTag_any x w
    rw [← hq] at cb
    rw [hd, ← hq]
    clear hd hq
    go_enter Tryz.func151, Tryz.ntmps151
    go_wp2_with fail
    go_at_call 116
    refine cb.mono ?_
    rintro e w1 ⟨rfl, b1⟩
    cases q
    · go_wp2
      go_ret
      exact ⟨rfl, b1⟩
    · go_wp2
      go_ret
      exact ⟨rfl, b1⟩
theorem endsWord_any (x : Int) (w : World) : Calls Tryz.prog 121 #[.int .i64 x] w fun e w' => e = .returned (.bool (endWord x)) ∧ Below w.heap.size w w' := by
  rcases (show x = 62 ∨ (x ≠ 62) by omega) with rfl | ⟨h62⟩
  · have cb := iblank_any 62 w
    go_enter Tryz.func121, Tryz.ntmps121
    go_wp2_with fail
    go_at_call 133
    refine cb.mono ?_
    rintro e w1 ⟨rfl, b1⟩
    go_wp2
    go_ret
    exact ⟨rfl, b1⟩
  · have n62 : (x == 62) = false := by simp [h62]
    have hd : endWord x = isBlank x := by simp [endWord, n62]
    obtain ⟨q, hq⟩ : ∃ q, q = isBlank x := ⟨_, rfl⟩
    have cb := iblank_any x w
    rw [← hq] at cb
    rw [hd, ← hq]
    clear hd hq
    go_enter Tryz.func121, Tryz.ntmps121
    go_wp2_with fail
    go_at_call 133
    refine cb.mono ?_
    rintro e w1 ⟨rfl, b1⟩
    cases q
    · go_wp2
      go_ret
      exact ⟨rfl, b1⟩
    · go_wp2
      go_ret
      exact ⟨rfl, b1⟩
theorem isGreater_any (x : Int) (w : World) : Calls Tryz.prog 119 #[.int .i64 x] w fun e w' => e = .returned (.bool (isGr x)) ∧ Below w.heap.size w w' := by
  go_enter Tryz.func119, Tryz.ntmps119
  go_wp2
  go_ret
  exact ⟨rfl, Below.refl _ _⟩
end Go.Proofs.YtggfifchkecnjaaGreatDoor

/- Tokens, plain: references of a page and of the page without what is no point. No condition. -/
namespace Go.Proofs.YtggfifchkecnjaaGreatDoor
open Go.RowKit
set_option maxRecDepth 100000
set_option linter.unusedVariables false

theorem clean_at (xs : List Int) (k : Nat) : atL (xs.map clean) k = if k < xs.length then clean (atL xs k) else -1 := by
  by_cases h : k < xs.length
  · rw [if_pos h, atL_in (by simpa using h), atL_in h, map_clean_at xs k h]
    simp [List.getD_eq_getElem?_getD, h]
  · rw [if_neg h, atL_out (by simpa using h)]
theorem clean_low (xs : List Int) (k : Nat) : atL (xs.map clean) k = atL xs k ∨ ((atL (xs.map clean) k < 1 ∨ 127 < atL (xs.map clean) k) ∧ (atL xs k < 1 ∨ 127 < atL xs k)) := by
  rw [clean_at]
  by_cases h : k < xs.length
  · rw [if_pos h]
    unfold clean
    by_cases h1 : atL xs k = 0 ∨ pointOk (atL xs k) = false
    · rw [if_pos h1]
      right
      refine ⟨.inr (by decide), ?_⟩
      rcases h1 with h1 | h1
      · left; omega
      · by_cases h2 : atL xs k < 1 ∨ 127 < atL xs k
        · exact h2
        · rw [(pointOk_iff _).mpr ⟨by omega, by omega, by omega⟩] at h1
          cases h1
    · rw [if_neg h1]; exact .inl rfl
  · rw [if_neg h, atL_out (by omega)]; exact .inl rfl
theorem clean_eq {xs : List Int} {k : Nat} {c : Int} (h0 : 1 ≤ c) (h1 : c ≤ 127) : atL (xs.map clean) k = c ↔ atL xs k = c := by
  rcases clean_low xs k with h | ⟨h2, h3⟩
  · rw [h]
  · constructor <;> (intro h; omega)
theorem clean_digit {xs : List Int} {k : Nat} {b : Int} : digitOf (atL (xs.map clean) k) b = digitOf (atL xs k) b := by
  rcases clean_low xs k with h | ⟨h2, h3⟩
  · rw [h]
  · have key : ∀ x : Int, (x < 1 ∨ 127 < x) → digitOf x b = -1 := by
      intro x hx
      unfold digitOf
      rw [inB_no (x := x) (lo := 48) (hi := 57) (by omega), inB_no (x := x) (lo := 65) (hi := 70) (by omega), inB_no (x := x) (lo := 97) (hi := 102) (by omega)]
      simp
    rw [key _ h2, key _ h3]
theorem digs_clean (b : Int) : ∀ (l : List Int), digs b (l.map clean) = digs b l := by
  intro l
  induction l with
  | nil => rfl
  | cons c l ih =>
    have hc : digitOf (clean c) b = digitOf c b := by
      have := clean_digit (xs := [c]) (k := 0) (b := b)
      simpa [atL] using this
    rw [List.map_cons, digs, digs, hc, ih]
theorem refDigits_clean (xs : List Int) (b : Int) (k : Nat) : refDigits (xs.map clean) b k = refDigits xs b k := by
  unfold refDigits
  rw [← List.map_drop, digs_clean]
  simp only
  have e : (atL (xs.map clean) (k + (digs b (xs.drop k)).length) = 59) = (atL xs (k + (digs b (xs.drop k)).length) = 59) := propext (clean_eq (by decide) (by decide))
  simp only [e]
theorem refNum_clean (xs : List Int) (k : Nat) : refNum (xs.map clean) k = refNum xs k := by
  unfold refNum
  have e1 : (atL (xs.map clean) k = 120) = (atL xs k = 120) := propext (clean_eq (by decide) (by decide))
  have e2 : (atL (xs.map clean) k = 88) = (atL xs k = 88) := propext (clean_eq (by decide) (by decide))
  simp only [e1, e2, refDigits_clean]
theorem names_low : ∀ r ∈ refList, ∀ y ∈ bs r.1, 1 ≤ y ∧ y ≤ 127 := by decide
theorem stands_clean {xs : List Int} {k : Nat} {l : List Int} (h : ∀ y ∈ l, 1 ≤ y ∧ y ≤ 127) : stands (xs.map clean) k l = stands xs k l := by
  unfold stands
  rw [Bool.eq_iff_iff, List.all_eq_true, List.all_eq_true]
  have key : ∀ i ∈ List.range l.length, (atL (xs.map clean) (k + i) == l.getD i 0) = (atL xs (k + i) == l.getD i 0) := by
    intro i hi
    have hi' := List.mem_range.mp hi
    have e : l.getD i 0 = l[i] := by simp [List.getD_eq_getElem?_getD, hi']
    obtain ⟨h1, h2⟩ := h _ (List.getElem_mem hi')
    rw [e, Bool.eq_iff_iff, beq_iff_eq, beq_iff_eq]
    exact clean_eq h1 h2
  constructor
  · intro H i hi; rw [← key i hi]; exact H i hi
  · intro H i hi; rw [key i hi]; exact H i hi
theorem best_clean (xs : List Int) (k : Nat) : best (xs.map clean) k refList = best xs k refList := by
  have key : ∀ (rs : List (ByteArray × Int)) (b : ByteArray × Int), (∀ r ∈ rs, ∀ y ∈ bs r.1, 1 ≤ y ∧ y ≤ 127) → rs.foldl (fun b r => if stands (xs.map clean) k (bs r.1) && decide (b.1.size < r.1.size) then r else b) b = rs.foldl (fun b r => if stands xs k (bs r.1) && decide (b.1.size < r.1.size) then r else b) b := by
    intro rs
    induction rs with
    | nil => intro b _; rfl
    | cons r rs ih =>
      intro b h
      rw [List.foldl_cons, List.foldl_cons, stands_clean (h r (List.mem_cons_self ..))]
      exact ih _ (fun r' hr => h r' (List.mem_cons_of_mem _ hr))
  exact key refList _ names_low
theorem refName_clean (xs : List Int) (k : Nat) (b : Bool) : refName (xs.map clean) k b = refName xs k b := by
  unfold refName
  rw [best_clean]
  simp only
  obtain ⟨m, hm⟩ : ∃ m, m = k + 1 + (best xs (k + 1) refList).1.size := ⟨_, rfl⟩
  rw [← hm]
  have e1 : (atL (xs.map clean) m == 61) = (atL xs m == 61) := by
    rw [Bool.eq_iff_iff, beq_iff_eq, beq_iff_eq]; exact clean_eq (by decide) (by decide)
  have e2 : (inB (atL (xs.map clean) m) 65 90 || inB (atL (xs.map clean) m) 97 122) = (inB (atL xs m) 65 90 || inB (atL xs m) 97 122) := by
    rcases clean_low xs m with h | ⟨h2, h3⟩
    · rw [h]
    · rw [inB_no (x := atL (xs.map clean) m) (lo := 65) (hi := 90) (by omega), inB_no (x := atL (xs.map clean) m) (lo := 97) (hi := 122) (by omega), inB_no (x := atL xs m) (lo := 65) (hi := 90) (by omega), inB_no (x := atL xs m) (lo := 97) (hi := 122) (by omega)]
  rw [e1, e2, clean_digit]
theorem refRead_clean (xs : List Int) (k : Nat) (b : Bool) : refRead (xs.map clean) k b = refRead xs k b := by
  have e0 : ((xs.map clean).getD (k : Int).toNat 0 ≠ 38) = (xs.getD (k : Int).toNat 0 ≠ 38) := by
    rw [Int.toNat_natCast]
    by_cases hk : k < xs.length
    · rw [← atL_in (by simpa using hk), ← atL_in hk]
      exact propext (not_congr (clean_eq (by decide) (by decide)))
    · have h1 : (xs.map clean).getD k 0 = 0 := by simp [List.getD_eq_getElem?_getD, List.getElem?_eq_none (show xs.length ≤ k by omega)]
      have h2 : xs.getD k 0 = 0 := by simp [List.getD_eq_getElem?_getD, List.getElem?_eq_none (show xs.length ≤ k by omega)]
      rw [h1, h2]
  unfold refRead
  simp only [List.length_map, e0]
  have e1 : (atL (xs.map clean) ((k : Int).toNat + 1) = 35) = (atL xs ((k : Int).toNat + 1) = 35) := propext (clean_eq (by decide) (by decide))
  simp only [e1, refNum_clean, refName_clean]
end Go.Proofs.YtggfifchkecnjaaGreatDoor
