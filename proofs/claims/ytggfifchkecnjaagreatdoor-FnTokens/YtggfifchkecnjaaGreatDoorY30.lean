/- The exact law of TokenOk, walked. -/
import Derived.Test.YtggfifchkecnjaaGreatDoorY26
import Derived.Test.YtggfifchkecnjaaGreatDoorY27
import Derived.Test.YtggfifchkecnjaaGreatDoorY28
import Derived.Deep.RegionHeld
import Derived.Test.YtggfifchkecnjaaGreatDoorY20
import Derived.Test.YtggfifchkecnjaaGreatDoorY14
import Derived.Test.YtggfifchkecnjaaGreatDoorY6
import Derived.Test.YtggfifchkecnjaaGreatDoorY21
import Derived.Test.YtggfifchkecnjaaGreatDoorY29
import Derived.Test.YtggfifchkecnjaaGreatDoorY16
namespace Go.Proofs.YtggfifchkecnjaaGreatDoor
open Go.RowKit
set_option maxRecDepth 100000
set_option linter.unusedVariables false
end Go.Proofs.YtggfifchkecnjaaGreatDoor

/- Tokens, plain: what a page of points is cut to. No condition. -/
namespace Go.Proofs.YtggfifchkecnjaaGreatDoor
open Go.RowKit
set_option maxRecDepth 100000
set_option linter.unusedVariables false

def upTo (p : Int → Bool) (ys : List Int) (i : Nat) : Nat := i + ((ys.drop i).takeWhile (fun x => !p x)).length
theorem upTo_ge (p : Int → Bool) (ys : List Int) (i : Nat) : i ≤ upTo p ys i := Nat.le_add_right _ _
theorem tw_len {α : Type} (p : α → Bool) : ∀ l : List α, (l.takeWhile p).length ≤ l.length := by
  intro l
  induction l with
  | nil => exact Nat.le_refl _
  | cons x l ih => rw [List.takeWhile_cons]; split <;> simp <;> omega
theorem upTo_le {p : Int → Bool} {ys : List Int} {i : Nat} (h : i ≤ ys.length) : upTo p ys i ≤ ys.length := by
  have := tw_len (fun x => !p x) (ys.drop i)
  rw [List.length_drop] at this
  unfold upTo; omega
theorem upTo_out {p : Int → Bool} {ys : List Int} {i : Nat} (h : ys.length ≤ i) : upTo p ys i = i := by
  unfold upTo; rw [List.drop_eq_nil_of_le h]; rfl
theorem upTo_at {p : Int → Bool} {ys : List Int} {i : Nat} (h : p (atL ys i) = true) (hi : i < ys.length) : upTo p ys i = i := by
  rw [atL_in hi] at h
  have e : ys.getD i 0 = ys[i] := by simp [List.getD_eq_getElem?_getD, hi]
  rw [e] at h
  unfold upTo; rw [List.drop_eq_getElem_cons hi, List.takeWhile_cons, h]; rfl
theorem upTo_next {p : Int → Bool} {ys : List Int} {i : Nat} (hi : i < ys.length) (h : p (atL ys i) = false) : upTo p ys i = upTo p ys (i + 1) := by
  rw [atL_in hi] at h
  have e : ys.getD i 0 = ys[i] := by simp [List.getD_eq_getElem?_getD, hi]
  rw [e] at h
  unfold upTo; rw [List.drop_eq_getElem_cons hi, List.takeWhile_cons, h]; simp; omega
theorem upTo_not {p : Int → Bool} {ys : List Int} : ∀ (n i k : Nat), ys.length - i ≤ n → i ≤ k → k < upTo p ys i → k < ys.length ∧ p (atL ys k) = false := by
  intro n
  induction n with
  | zero => intro i k h1 h2 h3; rw [upTo_out (by omega)] at h3; omega
  | succ n ih =>
    intro i k h1 h2 h3
    by_cases hi : i < ys.length
    · cases hp : p (atL ys i)
      · rw [upTo_next hi hp] at h3
        by_cases e : i = k
        · subst e; exact ⟨hi, hp⟩
        · exact ih (i + 1) k (by omega) (by omega) h3
      · rw [upTo_at hp hi] at h3; omega
    · rw [upTo_out (by omega)] at h3; omega
theorem upTo_mid {p : Int → Bool} {ys : List Int} {i : Nat} : ∀ (d k : Nat), k = i + d → k ≤ upTo p ys i → upTo p ys k = upTo p ys i := by
  intro d
  induction d with
  | zero => intro k e _; subst e; rfl
  | succ d ih =>
    intro k e h
    subst e
    have h1 := ih (i + d) rfl (by omega)
    obtain ⟨hl, hp⟩ := upTo_not (p := p) (ys := ys) ys.length i (i + d) (by omega) (by omega) (by omega)
    rw [show i + (d + 1) = i + d + 1 by omega, ← upTo_next hl hp, h1]

theorem upTo_more {p : Int → Bool} {ys : List Int} {i k : Nat} (h0 : i ≤ k) (h1 : k ≤ upTo p ys i) (hk : k < ys.length) (hp : p (atL ys k) = false) : k + 1 ≤ upTo p ys i := by
  have := upTo_mid (p := p) (ys := ys) (i := i) (k - i) k (by omega) h1
  rw [← this, upTo_next hk hp]; exact upTo_ge _ _ _
theorem upTo_here {p : Int → Bool} {ys : List Int} {i k : Nat} (h0 : i ≤ k) (h1 : k ≤ upTo p ys i) (hk : k < ys.length) (hp : p (atL ys k) = true) : k = upTo p ys i := by
  have := upTo_mid (p := p) (ys := ys) (i := i) (k - i) k (by omega) h1
  rw [← this, upTo_at hp hk]
theorem upTo_last {p : Int → Bool} {ys : List Int} {i k : Nat} (h0 : i ≤ k) (h1 : k ≤ upTo p ys i) (hk : ys.length ≤ k) : k = upTo p ys i := by
  have := upTo_mid (p := p) (ys := ys) (i := i) (k - i) k (by omega) h1
  rw [← this, upTo_out hk]
def sub (ys : List Int) (i j : Nat) : List Int := (ys.take j).drop i
theorem sub_len {ys : List Int} {i j : Nat} (h : j ≤ ys.length) : (sub ys i j).length = j - i := by unfold sub; rw [List.length_drop, List.length_take]; omega
theorem sub_at {ys : List Int} {i j k : Nat} (h : i + k < j) (hj : j ≤ ys.length) : (sub ys i j).getD k 0 = ys.getD (i + k) 0 := by
  unfold sub
  rw [List.getD_eq_getElem?_getD, List.getElem?_drop, List.getElem?_take_of_lt h, List.getD_eq_getElem?_getD]
theorem sub_snoc {ys : List Int} {i j : Nat} (h : i ≤ j) (hj : j < ys.length) : sub ys i (j + 1) = sub ys i j ++ [atL ys j] := by
  unfold sub
  rw [List.take_succ_eq_append_getElem hj, List.drop_append_of_le_length (by rw [List.length_take]; omega), atL_in hj]
  simp [List.getD_eq_getElem?_getD, hj]
theorem sub_nil (ys : List Int) {i j : Nat} (h : j ≤ i) : sub ys i j = [] := by
  unfold sub; exact List.drop_eq_nil_of_le (by rw [List.length_take]; omega)

def txtOf (ys : List Int) (i j : Nat) : ByteArray := strOf (puts (sub ys i j))
def lowOf (ys : List Int) (i j : Nat) : ByteArray := strOf (puts ((sub ys i j).map lowerOf))
def shortB : List Int → List Int → List Int
  | acc, [] => acc
  | acc, x :: xs => if 60 < acc.length + (put (lowerOf x)).length then acc else shortB (acc ++ put (lowerOf x)) xs
def shortOf (ys : List Int) (i j : Nat) : ByteArray := strOf (shortB [] (sub ys i j))

def endTag (x : Int) : Bool := isBlank x || x == 47 || x == 62
def endAttr (x : Int) : Bool := endTag x || x == 61
def endWord (x : Int) : Bool := isBlank x || x == 62
def isGr (x : Int) : Bool := x == 62
def notBlank (x : Int) : Bool := !isBlank x
def isAlp (x : Int) : Bool := inB x 65 90 || inB x 97 122
def skipB (ys : List Int) (i : Nat) : Nat := upTo notBlank ys i
def past (ys : List Int) (i : Nat) : Nat := if i < ys.length then i + 1 else i

def valF (p : Int → Bool) (ys : List Int) : Nat → Nat → List Int × Nat
  | 0, i => ([], i)
  | f + 1, i =>
    if i < ys.length ∧ p (atL ys i) = false then
      if atL ys i = 38 then ((refRead ys i true).1 ++ (valF p ys f (refRead ys i true).2.toNat).1, (valF p ys f (refRead ys i true).2.toNat).2)
      else (atL ys i :: (valF p ys f (i + 1)).1, (valF p ys f (i + 1)).2)
    else ([], i)
def valM (ys : List Int) (i : Nat) : ByteArray × Nat :=
  if atL ys i = 34 ∨ atL ys i = 39 then
    (strOf (puts (valF (fun x => x == atL ys i) ys ys.length (i + 1)).1), past ys (valF (fun x => x == atL ys i) ys ys.length (i + 1)).2)
  else (strOf (puts (valF endWord ys ys.length i).1), (valF endWord ys ys.length i).2)
def attrM (ys : List Int) (i : Nat) : (ByteArray × ByteArray) × Nat :=
  let e := upTo endAttr ys (i + 1)
  let j := skipB ys e
  if atL ys j = 61 then ((lowOf ys i e, (valM ys (skipB ys (j + 1))).1), (valM ys (skipB ys (j + 1))).2) else ((lowOf ys i e, ⟨#[]⟩), j)
def tagF (ys : List Int) : Nat → Nat → List (ByteArray × ByteArray) → Option (List (ByteArray × ByteArray) × Bool × Nat)
  | 0, _, _ => none
  | f + 1, i, rs =>
    if ys.length ≤ i then none
    else if atL ys i = 62 then some (rs, false, i + 1)
    else if atL ys i = 47 ∧ atL ys (i + 1) = 62 then some (rs, true, i + 2)
    else if endTag (atL ys i) = true then tagF ys f (i + 1) rs
    else tagF ys f (attrM ys i).2 (attrAdd rs (attrM ys i).1)
def endT : TokD := ⟨1, ⟨#[]⟩, [], ⟨#[]⟩, false⟩
def tagM (ys : List Int) (k : Int) (i : Nat) : TokD × Nat :=
  match tagF ys (ys.length + 1) (upTo endTag ys i) [] with
  | none => (endT, ys.length)
  | some (rs, sf, j) => (⟨k, shortOf ys i (upTo endTag ys i), if k = 6 then [] else rs, ⟨#[]⟩, if k = 6 then false else sf⟩, j)
def remarkT (t : ByteArray) : TokD := ⟨3, ⟨#[]⟩, [], t, false⟩
def charT (t : ByteArray) : TokD := ⟨2, ⟨#[]⟩, [], t, false⟩
def remM (ys : List Int) (i : Nat) : TokD × Nat := (remarkT (txtOf ys i (upTo isGr ys i)), past ys (upTo isGr ys i))
def tornE (ys : List Int) (i : Nat) : Nat :=
  if i + 3 ≤ ys.length ∧ stands ys (ys.length - 3) [45, 45, 33] = true then ys.length - 3
  else if i + 2 ≤ ys.length ∧ stands ys (ys.length - 2) [45, 45] = true then ys.length - 2
  else if i + 1 ≤ ys.length ∧ stands ys (ys.length - 1) [45] = true then ys.length - 1
  else ys.length
def comF (ys : List Int) (st : Nat) : Nat → Nat → ByteArray × Nat
  | 0, _ => (txtOf ys st (tornE ys st), ys.length)
  | f + 1, i =>
    if i < ys.length then
      if stands ys i [45, 45, 62] = true then (txtOf ys st i, i + 3)
      else if stands ys i [45, 45, 33, 62] = true then (txtOf ys st i, i + 4)
      else comF ys st f (i + 1)
    else (txtOf ys st (tornE ys st), ys.length)
def comM (ys : List Int) (i : Nat) : TokD × Nat :=
  if stands ys i [62] = true then (remarkT ⟨#[]⟩, i + 1)
  else if stands ys i [45, 62] = true then (remarkT ⟨#[]⟩, i + 2)
  else (remarkT (comF ys i (ys.length + 1) i).1, (comF ys i (ys.length + 1) i).2)
def docM (ys : List Int) (i : Nat) : TokD × Nat :=
  (⟨4, shortOf ys (skipB ys i) (upTo endWord ys (skipB ys i)), [], ⟨#[]⟩, false⟩, past ys (upTo isGr ys (upTo endWord ys (skipB ys i))))
def standsLow (ys : List Int) (k : Nat) (nm : List Int) : Bool := (List.range nm.length).all fun i => lowerOf (atL ys (k + i)) == nm.getD i 0
def docL : List Int := [100, 111, 99, 116, 121, 112, 101]
def markM (ys : List Int) (i : Nat) : TokD × Nat :=
  if stands ys i [45, 45] = true then comM ys (i + 2) else if standsLow ys i docL = true then docM ys (i + 7) else remM ys i
def charM (ys : List Int) (i : Nat) : TokD × Nat := (charT (strOf (put (atL ys i))), i + 1)
def tokM (ys : List Int) : Nat → Nat → TokD × Nat
  | 0, _ => (endT, ys.length)
  | f + 1, i =>
    if ys.length ≤ i then (endT, ys.length)
    else if atL ys i = 38 then (charT (strOf (puts (refRead ys i false).1)), (refRead ys i false).2.toNat)
    else if atL ys i ≠ 60 then charM ys i
    else if atL ys (i + 1) = 33 then markM ys (i + 2)
    else if atL ys (i + 1) = 47 then
      if atL ys (i + 2) = -1 then charM ys i
      else if atL ys (i + 2) = 62 then tokM ys f (i + 3)
      else if isAlp (atL ys (i + 2)) = true then tagM ys 6 (i + 2)
      else remM ys (i + 2)
    else if isAlp (atL ys (i + 1)) = true then tagM ys 5 (i + 1)
    else if atL ys (i + 1) = 63 then remM ys (i + 1)
    else charM ys i
def toksF (ys : List Int) : Nat → Nat → List TokD
  | 0, _ => []
  | f + 1, i => if (tokM ys (ys.length + 1) i).1.k = 1 then [(tokM ys (ys.length + 1) i).1] else (tokM ys (ys.length + 1) i).1 :: toksF ys f (tokM ys (ys.length + 1) i).2
end Go.Proofs.YtggfifchkecnjaaGreatDoor

/- The program's NextToken: by the states of the cutter; and in plain text. -/
namespace Go.Proofs.YtggfifchkecnjaaGreatDoor
open Go.RowKit
set_option maxRecDepth 100000
set_option linter.unusedVariables false

theorem nil_row (w : World) (B : Nat) : w.ownsRow B 81 2 (.slice none 0 0) ([] : List (ByteArray × ByteArray)).length (pairCells []) := ⟨rfl, .inl ⟨rfl, rfl⟩⟩

theorem goes_char {w0 : World} {g : Nat} {v : Value} {xs : List Int} {s : ByteArray} {i m : Nat} (hi : i < xs.length) : Goes w0 g v xs s ⟨2, ⟨#[]⟩, [], strOf (put (xs.getD i 0)), false⟩ (i + 1) (m + 1) 6 i := by
  unfold Goes
  refine ⟨⟨by omega, by omega⟩, fun w hc => ?_⟩
  refine (char_any hc s hi).mono ?_
  rintro e w' ⟨rfl, k, gr⟩
  exact ⟨_, ⟨2, ⟨#[]⟩, [], strOf (put (xs.getD i 0)), false⟩, 0, i + 1, rfl, ⟨_, rfl, nil_row _ _⟩, k, gr, .inl ⟨rfl, rfl, rfl⟩⟩
end Go.Proofs.YtggfifchkecnjaaGreatDoor

/- Tokens, plain: a text that stands, byte for byte. No condition. -/
namespace Go.Proofs.YtggfifchkecnjaaGreatDoor
open Go.RowKit
set_option maxRecDepth 100000
set_option linter.unusedVariables false

theorem enc_high {x : Int} (h : 128 ≤ x) (h2 : x ≤ 1114111) : 2 ≤ (enc x).length ∧ ∀ b ∈ enc x, 128 ≤ b := by
  by_cases h3 : x < 2048
  · rw [enc2 h h3]
    refine ⟨by simp, fun b hb => ?_⟩
    simp only [List.mem_cons, List.not_mem_nil, or_false] at hb
    rcases hb with rfl | rfl <;> omega
  by_cases h4 : x < 65536
  · rw [enc3 (by omega) h4]
    refine ⟨by simp, fun b hb => ?_⟩
    simp only [List.mem_cons, List.not_mem_nil, or_false] at hb
    rcases hb with rfl | rfl | rfl <;> omega
  · rw [enc4 (by omega)]
    refine ⟨by simp, fun b hb => ?_⟩
    simp only [List.mem_cons, List.not_mem_nil, or_false] at hb
    rcases hb with rfl | rfl | rfl | rfl <;> omega
theorem put_is {x : Int} (h : pointOk x = true) : put x = enc x := by simp [put, pt_of x h]
theorem put_low {x : Int} (h : pointOk x = true) (h1 : x < 128) : put x = [x] := by rw [put_is h, enc1 h1]
theorem lowerOf_high {x : Int} (h : 128 ≤ x) : lowerOf x = x := by unfold lowerOf; rw [inB_no (by omega)]; rfl
theorem lowerOf_low {x : Int} (h0 : x < 128) : lowerOf x < 128 := by
  unfold lowerOf
  by_cases h : 65 ≤ x ∧ x ≤ 90
  · rw [inB_yes h.1 h.2, if_pos rfl]; omega
  · rw [inB_no (by omega)]; simpa using h0
def LowT (t : ByteArray) : Prop := t.size ≤ 7 ∧ ∀ b ∈ bs t, b < 128 ∧ lowerOf b = b
theorem behind_step {x : Int} {t : ByteArray} (ht : LowT t) (hx : pointOk x = true) {j : Nat} (hj : j < t.size) :
    (lowerOf x = (bs t).getD j 0 → (put x).length = 1 ∧ strOf ((((bs t).drop j).take (put x).length).map lowerOf) = strOf ((put x).map lowerOf)) ∧
      (lowerOf x ≠ (bs t).getD j 0 → t.size - j < (put x).length ∨ strOf ((((bs t).drop j).take (put x).length).map lowerOf) ≠ strOf ((put x).map lowerOf)) := by
  obtain ⟨x0, x1, x2⟩ := (pointOk_iff x).mp hx
  have hjl : j < (bs t).length := by rw [bs_len]; exact hj
  have hg : (bs t).getD j 0 = (bs t)[j] := by simp [List.getD_eq_getElem?_getD, hjl]
  have hm := ht.2 _ (List.getElem_mem hjl)
  have hb0 := bs_byte t _ (List.getElem_mem hjl)
  obtain ⟨c, hc⟩ : ∃ c, c = (bs t)[j] := ⟨_, rfl⟩
  have hd : (bs t).drop j = c :: (bs t).drop (j + 1) := by rw [hc]; exact List.drop_eq_getElem_cons hjl
  rw [← hc] at hg hm hb0
  rw [hg, hd]
  clear hg hc
  by_cases h1 : x < 128
  · rw [put_low hx h1]
    refine ⟨fun e => ⟨rfl, by simp [e, hm.2]⟩, fun e => .inr (fun e2 => e ?_)⟩
    have h3 := lowerOf_byte x0 (by omega)
    have := strOf_inj (xs := [c]) (ys := [lowerOf x]) (by intro y hy; rw [List.mem_singleton] at hy; subst hy; exact hb0) (by intro y hy; rw [List.mem_singleton] at hy; subst hy; exact h3) (by simpa [hm.2] using e2)
    injection this with this
    exact this.symm
  · have hh := enc_high (x := x) (by omega) x1
    rw [put_is hx]
    refine ⟨fun e => ?_, fun e => ?_⟩
    · rw [lowerOf_high (by omega)] at e; omega
    · right
      intro e2
      obtain ⟨d, r, hr⟩ : ∃ d r, enc x = d :: r := by
        match h : enc x, hh.1 with
        | d :: r, _ => exact ⟨d, r, rfl⟩
      have hd2 := hh.2 d (by rw [hr]; exact List.mem_cons_self ..)
      have hpb := put_byte x
      rw [put_is hx, hr] at hpb
      have hmb := fun z (hz : z ∈ bs t) => bs_byte t z hz
      rw [hr] at e2
      simp only [List.length_cons, List.take_succ_cons, List.map_cons] at e2
      have hcr : c :: (bs t).drop (j + 1) = (bs t).drop j := hd.symm
      have := strOf_inj (xs := lowerOf c :: ((((bs t).drop (j + 1)).take r.length).map lowerOf)) (ys := lowerOf d :: r.map lowerOf)
        (by
          intro y hy
          rcases List.mem_cons.mp hy with rfl | hy
          · exact lowerOf_byte hb0.1 hb0.2
          · obtain ⟨z, hz, rfl⟩ := List.mem_map.mp hy
            have := hmb z (List.mem_of_mem_drop (List.mem_of_mem_take hz))
            exact lowerOf_byte this.1 this.2)
        (by
          intro y hy
          rcases List.mem_cons.mp hy with rfl | hy
          · have := hpb d (List.mem_cons_self ..); exact lowerOf_byte this.1 this.2
          · obtain ⟨z, hz, rfl⟩ := List.mem_map.mp hy
            have := hpb z (List.mem_cons_of_mem _ hz)
            exact lowerOf_byte this.1 this.2) e2
      injection this with this
      rw [hm.2, lowerOf_high hd2] at this
      omega
theorem standsLow_succ (ys : List Int) (k : Nat) (l : List Int) (j : Nat) (h : j < l.length) : standsLow ys k (l.take (j + 1)) = (standsLow ys k (l.take j) && (lowerOf (atL ys (k + j)) == l.getD j 0)) := by
  unfold standsLow
  have h1 : (l.take (j + 1)).length = j + 1 := by rw [List.length_take]; omega
  have h2 : (l.take j).length = j := by rw [List.length_take]; omega
  rw [h1, h2, List.range_succ, List.all_append]
  have e1 : (List.range j).all (fun i => lowerOf (atL ys (k + i)) == (l.take (j + 1)).getD i 0) = (List.range j).all (fun i => lowerOf (atL ys (k + i)) == (l.take j).getD i 0) := by
    rw [Bool.eq_iff_iff, List.all_eq_true, List.all_eq_true]
    constructor
    · intro H i hi
      have := H i hi
      have hi' := List.mem_range.mp hi
      rw [List.getD_eq_getElem?_getD, List.getElem?_take_of_lt (by omega)] at this
      rw [List.getD_eq_getElem?_getD, List.getElem?_take_of_lt (by omega)]; exact this
    · intro H i hi
      have := H i hi
      have hi' := List.mem_range.mp hi
      rw [List.getD_eq_getElem?_getD, List.getElem?_take_of_lt (by omega)] at this
      rw [List.getD_eq_getElem?_getD, List.getElem?_take_of_lt (by omega)]; exact this
  rw [e1]
  congr 1
  simp [List.getD_eq_getElem?_getD, List.getElem?_take_of_lt]
theorem standsLow_no {ys : List Int} {k : Nat} {l : List Int} {j : Nat} (h : j < l.length) (hn : lowerOf (atL ys (k + j)) ≠ l.getD j 0) : standsLow ys k l = false := by
  cases e : standsLow ys k l
  · rfl
  · unfold standsLow at e
    rw [List.all_eq_true] at e
    exact absurd (by simpa using e j (List.mem_range.mpr h)) hn
theorem standsLow_len {ys : List Int} {k : Nat} {t : ByteArray} (h : standsLow ys k (bs t) = true) (h0 : 0 < t.size) : k + t.size ≤ ys.length := by
  by_cases hk : k + (t.size - 1) < ys.length
  · omega
  · exfalso
    have hl := bs_len t
    have := standsLow_no (ys := ys) (k := k) (l := bs t) (j := t.size - 1) (by omega) (by
      rw [atL_out (by omega)]
      have hm := bs_bound t (t.size - 1)
      have : lowerOf (-1) = -1 := by decide
      omega)
    rw [h] at this
    cases this
theorem puts_lower : ∀ (l : List Int), (∀ x ∈ l, pointOk x = true) → (puts l).map lowerOf = puts (l.map lowerOf) := by
  intro l
  induction l with
  | nil => intro _; rfl
  | cons x l ih =>
    intro h
    have hx := h x (List.mem_cons_self ..)
    obtain ⟨x0, x1, x2⟩ := (pointOk_iff x).mp hx
    have e : (put x).map lowerOf = put (lowerOf x) := by
      by_cases h1 : x < 128
      · have h2 := lowerOf_low h1
        have h3 := lowerOf_byte x0 (by omega)
        rw [put_low hx h1, put_low ((pointOk_iff _).mpr ⟨h3.1, by omega, by omega⟩) h2]; rfl
      · rw [lowerOf_high (by omega), put_is hx]
        have hh := (enc_high (x := x) (by omega) x1).2
        conv => rhs; rw [← List.map_id (enc x)]
        exact List.map_congr_left (fun b hb => lowerOf_high (hh b hb))
    have e2 : ∀ (a : Int) (m : List Int), puts (a :: m) = put a ++ puts m := fun a m => rfl
    rw [List.map_cons, e2, e2, List.map_append, e, ih (fun y hy => h y (List.mem_cons_of_mem _ hy))]
theorem sub_mem {ys : List Int} {i j : Nat} {y : Int} (h : y ∈ sub ys i j) : y ∈ ys := List.mem_of_mem_take (List.mem_of_mem_drop h)
theorem sub_few {ys : List Int} {i j : Nat} (h : ys.length ≤ 3000) : (sub ys i j).length ≤ 3000 := by unfold sub; rw [List.length_drop, List.length_take]; omega
theorem toListE_loop (s : ByteArray) : ∀ (n i : Nat) (r : List UInt8), s.size - i = n → (r ≠ [] ∨ 0 < n) → (ByteArray.toList.loop s i r).isEmpty = false
  | 0, i, r, h, hr => by
    rw [ByteArray.toList.loop]
    rw [if_neg (by omega)]
    rcases hr with hr | hr
    · cases r with
      | nil => exact absurd rfl hr
      | cons a l => simp
    · omega
  | n + 1, i, r, h, hr => by
    rw [ByteArray.toList.loop]
    rw [if_pos (by omega)]
    exact toListE_loop s n (i + 1) _ (by omega) (.inl (by simp))
theorem empty_no {s : ByteArray} (h : 0 < s.size) : s.toList.isEmpty = false := toListE_loop s s.size 0 [] rfl (.inr (by omega))
theorem empty_yes {s : ByteArray} (h : s.size = 0) : s.toList.isEmpty = true := by
  unfold ByteArray.toList; rw [ByteArray.toList.loop, if_neg (by omega)]; rfl
end Go.Proofs.YtggfifchkecnjaaGreatDoor

/- The program's NextToken in plain text, and of a page that is too long. -/
namespace Go.Proofs.YtggfifchkecnjaaGreatDoor
open Go.RowKit
set_option maxRecDepth 100000
set_option linter.unusedVariables false

theorem map_clean_at (xs : List Int) (i : Nat) (h : i < xs.length) : (xs.map clean).getD i 0 = clean xs[i] := by
  simp [List.getD_eq_getElem?_getD, h]

end Go.Proofs.YtggfifchkecnjaaGreatDoor

/- The program's cutter: blanks, what is taken up to a point. No condition. -/
namespace Go.Proofs.YtggfifchkecnjaaGreatDoor
open Go.RowKit
set_option maxRecDepth 100000
set_option linter.unusedVariables false

structure CB (w0 : World) (g : Nat) (v : Value) (xs : List Int) (s : ByteArray) (w : World) (k : Nat) (wr : World) : Prop where
  cut : Cut w0 g v xs k wr
  gro : w.grownBy wr (some g)
  box : wr.heap[w.heap.size]? = some (.cells #[v, .pointer (some ⟨g, 0, none⟩), .string s] 47 (0, 0))
theorem CB.below {w0 : World} {g : Nat} {v : Value} {xs : List Int} {s : ByteArray} {w : World} {k : Nat} {wr wr' : World} (h : CB w0 g v xs s w k wr) (b : Below wr.heap.size wr wr') : CB w0 g v xs s w k wr' :=
  ⟨h.cut.below b, grown_below h.gro b, (b.block _ (lt_of_block h.box)).trans h.box⟩
theorem CB.move {w0 : World} {g : Nat} {v : Value} {xs : List Int} {s : ByteArray} {w : World} {k k' : Nat} {wr wr' : World} (h : CB w0 g v xs s w k wr) (hc : Cut w0 g v xs k' wr') (hg : wr.grownBy wr' (some g)) : CB w0 g v xs s w k' wr' :=
  ⟨hc, grown_trans h.gro hg, (hg.block _ (lt_of_block h.box) (fun e => by
    injection e with e
    have := h.cut.2.2.2.2
    rw [← e, h.box] at this
    injection this with this
    injection this with _ this _
    exact absurd this (by decide))).trans h.box⟩
theorem CB.cells {w0 : World} {g : Nat} {v : Value} {xs : List Int} {s : ByteArray} {w : World} {k : Nat} {wr : World} (h : CB w0 g v xs s w k wr) :
    wr.cell? ⟨w.heap.size, 0, none⟩ = some v ∧ wr.cell? ⟨w.heap.size, 1, none⟩ = some (.pointer (some ⟨g, 0, none⟩)) ∧ wr.cell? ⟨w.heap.size, 2, none⟩ = some (.string s) :=
  ⟨cell_block h.box rfl, cell_block h.box rfl, cell_block h.box rfl⟩
theorem cb_new {w0 : World} {g : Nat} {v : Value} {xs : List Int} {s : ByteArray} {w : World} {k : Nat} (h : Cut w0 g v xs k w) :
    CB w0 g v xs s w k (w.alloc (.cells #[v, .pointer (some ⟨g, 0, none⟩), .string s] 47)) :=
  have b : Below w.heap.size w (w.alloc (.cells #[v, .pointer (some ⟨g, 0, none⟩), .string s] 47)) := (Below.refl _ _).alloc (Nat.le_refl _) _
  ⟨h.below b, below_grown g b, heap_alloc_new _ _⟩
def plc (w : World) (g : Nat) : Nat := match w.cell? ⟨g, 0, none⟩ with | some (.int _ n) => n.toNat | _ => 0
theorem CB.plc {w0 : World} {g : Nat} {v : Value} {xs : List Int} {s : ByteArray} {w : World} {k : Nat} {wr : World} (h : CB w0 g v xs s w k wr) : plc wr g = k := by
  unfold Go.Proofs.YtggfifchkecnjaaGreatDoor.plc; rw [h.cut.cell.1]; simp

theorem ahead_cb {w0 : World} {g : Nat} {v : Value} {xs : List Int} {s : ByteArray} {w : World} {k : Nat} {wr : World} (h : CB w0 g v xs s w k wr) (n : Nat) (c : Int) (hc : c = n) (hn : n ≤ 5000) :
    Calls Tryz.prog 108 #[.agg #[v, .pointer (some ⟨g, 0, none⟩), .string s], .int .i64 c] wr fun e w' => e = .returned (.int .i64 (atL xs (k + n))) ∧ Below wr.heap.size wr w' := by
  subst hc; exact ahead_any h.cut s n hn
theorem move_cb {w0 : World} {g : Nat} {v : Value} {xs : List Int} {s : ByteArray} {w : World} {k : Nat} {wr : World} (h : CB w0 g v xs s w k wr) (n : Nat) (c : Int) (hc : c = n) (hn : k + n ≤ xs.length) :
    Calls Tryz.prog 110 #[.agg #[v, .pointer (some ⟨g, 0, none⟩), .string s], .int .i64 c] wr fun e w' => e = .returned (.tuple #[]) ∧ CB w0 g v xs s w (k + n) w' := by
  subst hc
  refine (move_any h.cut s n hn).mono ?_
  rintro e w' ⟨rfl, hc, hg⟩
  exact ⟨rfl, h.move hc hg⟩

set_option maxHeartbeats 2000000 in
theorem skipBlanks_any {w0 : World} {g : Nat} {v : Value} {xs : List Int} {i : Nat} {w : World} (h : Cut w0 g v xs i w) (s : ByteArray) :
    Calls Tryz.prog 120 #[cutVal v g s] w fun e w' => e = .returned (.tuple #[]) ∧ Cut w0 g v xs (skipB xs i) w' ∧ w.grownBy w' (some g) := by
  have hil := h.2.2.2.1.2
  have hule : skipB xs i ≤ xs.length := upTo_le hil
  have hcb := cb_new (s := s) h
  obtain ⟨w1, hw1⟩ : ∃ z, z = w.alloc (.cells #[v, .pointer (some ⟨g, 0, none⟩), .string s] 47) := ⟨_, rfl⟩
  rw [← hw1] at hcb
  have HCB := (show Hid (CB w0 g v xs s w i w1) from hcb)
  clear hcb h
  unfold cutVal
  go_enter Tryz.func120, Tryz.ntmps120
  go_wp2_with fail
  rw [← hw1]
  clear hw1
  go_loopw [] (fun wr => ∃ k : Nat, i ≤ k ∧ k ≤ skipB xs i ∧ Hid (CB w0 g v xs s w k wr)) (fun wr => xs.length - plc wr g)
  case atStart => exact ⟨i, Nat.le_refl _, upTo_ge _ _ _, HCB⟩
  case round =>
    clear HCB
    obtain ⟨k, hk0, hk1, cb⟩ := hrel
    have MP := (show Hid (plc wr g = k) from cb.out.plc)
    obtain ⟨c0, c1, c2⟩ := cb.out.cells
    go_wp2_with fail
    go_at_call 108
    refine (ahead_cb cb.out 0 0 rfl (by omega)).mono ?_
    rintro e w2 ⟨rfl, b2⟩
    rw [Nat.add_zero]
    have cb2 := (show Hid (CB w0 g v xs s w k w2) from cb.out.below b2)
    clear cb b2 c0 c1 c2
    go_wp2_with fail
    go_at_call 133
    refine (iblank_any _ _).mono ?_
    rintro e w3 ⟨rfl, b3⟩
    have cb3 := (show Hid (CB w0 g v xs s w k w3) from cb2.out.below b3)
    clear cb2 b3
    obtain ⟨c0, c1, c2⟩ := cb3.out.cells
    by_cases hkl : k < xs.length
    · rcases hb : isBlank (atL xs k) with _ | _
      · have hk : k = skipB xs i := upTo_here hk0 hk1 hkl (by unfold notBlank; rw [hb]; rfl)
        have CE := (show Hid (Cut w0 g v xs (skipB xs i) w3) from by rw [← hk]; exact cb3.out.cut)
        clear hk
        go_wp2
        go_end0
        exact ⟨rfl, CE.out, cb3.out.gro⟩
      · have hk : k + 1 ≤ skipB xs i := upTo_more hk0 hk1 hkl (by unfold notBlank; rw [hb]; rfl)
        go_wp2_with fail
        go_at_call 110
        refine (move_cb cb3.out 1 1 rfl (by omega)).mono ?_
        rintro e w4 ⟨rfl, cb4⟩
        have CB4 := (show Hid _ from cb4)
        clear cb3 c0 c1 c2 cb4
        go_wp2
        go_roundw
        case rel => exact ⟨k + 1, by omega, hk, CB4⟩
        case measure => rw [CB4.out.plc, MP.out]; omega
    · have hk : k = skipB xs i := upTo_last hk0 hk1 (by omega)
      have hb : isBlank (atL xs k) = false := by rw [atL_out (by omega)]; rfl
      have CE := (show Hid (Cut w0 g v xs (skipB xs i) w3) from by rw [← hk]; exact cb3.out.cut)
      clear hk
      go_wp2
      go_end0
      exact ⟨rfl, CE.out, cb3.out.gro⟩
end Go.Proofs.YtggfifchkecnjaaGreatDoor
