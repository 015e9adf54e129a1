/- The program's cutter: a short name; an attribute's name. No condition. -/
import Derived.Test.YtggfifchkecnjaaGreatDoorY33
namespace Go.Proofs.YtggfifchkecnjaaGreatDoor
open Go.RowKit
set_option maxRecDepth 100000
set_option linter.unusedVariables false

theorem short_stop {acc : List Int} {x : Int} {l : List Int} (h : 60 < acc.length + (put (lowerOf x)).length) : shortB acc (x :: l) = acc := by rw [shortB, if_pos h]
theorem short_more {acc : List Int} {x : Int} {l : List Int} (h : ¬ 60 < acc.length + (put (lowerOf x)).length) : shortB acc (x :: l) = shortB (acc ++ put (lowerOf x)) l := by rw [shortB, if_neg h]

set_option maxHeartbeats 2000000 in
theorem shortName_any {v : Value} {l : List Int} {w : World} (h : Sl .i64 w v l) (hn : l.length ≤ 3000) :
    Calls Tryz.prog 114 #[v] w fun e w' => e = .returned (.string (strOf (shortB [] l))) ∧ Below w.heap.size w w' := by
  have HS := (show Hid (Sl .i64 w v l) from h)
  obtain ⟨a, ca, rfl, _, _, _, ha⟩ := h
  have HA := (show Hid _ from ha)
  obtain ⟨i0, hi, hz0, hz1, hz2⟩ := info_parts Tryz.infoB
  have o1 := own_empty 5 .u8 w
  obtain ⟨res, hres⟩ : ∃ r, r = shortB [] l := ⟨_, rfl⟩
  rw [← hres]
  have HR := (show Hid (shortB [] l = res) from hres.symm)
  clear ha hres
  go_enter Tryz.func114, Tryz.ntmps114
  go_wp2
  go_loopw [3, 10] (fun u i wr => ∃ (k : Nat) (acc : List Int), k ≤ l.length ∧ i = .int .i64 k ∧ acc.length ≤ 60 ∧ Hid (Own w.heap.size 5 .u8 wr u acc ∧ shortB acc (l.drop k) = res ∧ Below w.heap.size w wr)) (fun _ i _ => l.length - (intOf i).toNat)
  case atStart => exact ⟨0, [], Nat.zero_le _, rfl, by simp, o1, by rw [List.drop_zero]; exact HR.out, (Below.refl _ _).alloc (Nat.le_refl _) _⟩
  case round =>
    clear o1
    obtain ⟨k, acc, hk, rfl, hac, I⟩ := hrel
    by_cases hlt : k < l.length
    · obtain ⟨b1, o1, rfl, c1⟩ := HA.out k hlt
      have hbl : b1 < w.heap.size := by
        by_cases hb : b1 < w.heap.size
        · exact hb
        · exfalso; simp [World.cell?, Array.getElem?_eq_none (Nat.le_of_not_lt hb)] at c1
      have c2 : wr.cell? ⟨b1, o1 + k, none⟩ = some (.int .i64 (l.getD k 0)) := (I.out.2.2.cell (p := ⟨b1, o1 + k, none⟩) hbl).trans c1
      have hd : l.drop k = l.getD k 0 :: l.drop (k + 1) := by rw [List.drop_eq_getElem_cons hlt]; simp [List.getD_eq_getElem?_getD, hlt]
      obtain ⟨x, hx⟩ : ∃ x, x = l.getD k 0 := ⟨_, rfl⟩
      rw [← hx] at c2 hd
      have HD := (show Hid (l.drop k = x :: l.drop (k + 1)) from hd)
      clear c1 hbl hx hd
      go_wp2_with fail
      go_at_call 132
      refine (ilower_any _ _).mono ?_
      rintro e w2 ⟨rfl, b2⟩
      obtain ⟨z, hz⟩ : ∃ z, z = lowerOf x := ⟨_, rfl⟩
      rw [← hz]
      have HZ := (show Hid (z = lowerOf x) from hz)
      clear hz
      go_wp2_with fail
      go_at_call 111
      refine (iput_any _ _).mono ?_
      rintro e w3 ⟨vp, rfl, op, b3⟩
      have hpl := put_len z
      obtain ⟨pl, hpz⟩ : ∃ pl, pl = put z := ⟨_, rfl⟩
      rw [← hpz] at op hpl
      have HP := (show Hid (pl = put z) from hpz)
      have own2 := (I.out.1.below b2).below b3
      have bel := I.out.2.2.trans ((b2.trans (b3.mono b2.size)).mono I.out.2.2.size)
      have OS := (show Hid _ from op.sl)
      have OW := (show Hid (Own w.heap.size 5 .u8 w3 u3 acc) from own2)
      have BEL := (show Hid (Below w.heap.size w w3) from bel)
      clear hpz b2 b3 own2 bel c2
      obtain ⟨ua, uc, rfl, _, _, _, _⟩ := OW.out.sl
      obtain ⟨pa, pc, rfl, _, _, _, _⟩ := OS.out
      clear op
      by_cases hgt : 60 < acc.length + pl.length
      · have hres : acc = res := by
          have := I.out.2.1
          rwa [HD.out, short_stop (by rw [← HZ.out, ← HP.out]; exact hgt)] at this
        have hcv := conv_sl OW.out.sl
        have hxl : acc.length = res.length := by rw [hres]
        rw [hres, ← hxl] at hcv
        clear hxl
        have hgi : (60 : Int) < (acc.length : Int) + (pl.length : Int) := by omega
        clear hres
        go_wp2
        go_ret
        exact ⟨rfl, BEL.out⟩
      · have hres : shortB (acc ++ pl) (l.drop (k + 1)) = res := by
          have := I.out.2.1
          rwa [HD.out, short_more (by rw [← HZ.out, ← HP.out]; exact hgt), ← HZ.out, ← HP.out] at this
        have HRS := (show Hid _ from hres)
        have hgi : ¬ (60 : Int) < (acc.length : Int) + (pl.length : Int) := by omega
        clear hres
        go_wp2_with (at_builtin; refine wpList_app _ rfl (.tmp 23) (.tmp 24) 22 rfl w.heap.size 5 i0 (.int .u8 0) 1 Tryz.underlying22 hi hz0 hz1 hz2 rfl .u8 _ _ acc pl rfl rfl OW.out OS.out (by omega) (by unfold maxLen; omega) BEL.out.size ?_; intro v' w4 o4 g4)
        have B4 := (show Hid (Below w.heap.size w w4) from BEL.out.grown g4 BEL.out.size (fun j hj => (OW.out.lt j hj).1))
        have O4 := (show Hid _ from o4)
        clear o4 g4
        go_wp2
        go_roundw
        case rel => exact ⟨k + 1, acc ++ pl, by omega, by go_num, by rw [List.length_append]; omega, O4.out, HRS.out, B4.out⟩
        case measure => simp [intOf]; omega
    · have hres : acc = res := by
        have := I.out.2.1
        rwa [List.drop_eq_nil_of_le (by omega), shortB] at this
      have hcv := conv_sl I.out.1.sl
      obtain ⟨ua, uc, rfl, _, _, _, _⟩ := I.out.1.sl
      rw [hres] at hcv
      have hxl : acc.length = res.length := by rw [hres]
      rw [← hxl] at hcv
      clear hres hxl
      go_wp2
      go_ret
      exact ⟨rfl, I.out.2.2⟩
end Go.Proofs.YtggfifchkecnjaaGreatDoor

/- Tokens, plain: a name, cut point by point from behind. No condition. -/
namespace Go.Proofs.YtggfifchkecnjaaGreatDoor
open Go.RowKit
set_option maxRecDepth 100000
set_option linter.unusedVariables false

theorem puts_cons (x : Int) (l : List Int) : puts (x :: l) = put x ++ puts l := rfl
theorem short_all : ∀ (l acc : List Int), acc.length + (puts (l.map lowerOf)).length ≤ 60 → shortB acc l = acc ++ puts (l.map lowerOf) := by
  intro l
  induction l with
  | nil => intro acc _; simp [shortB, puts]
  | cons x l ih =>
    intro acc h
    rw [List.map_cons, puts_cons, List.length_append] at h
    rw [shortB, if_neg (by omega), ih _ (by rw [List.length_append]; omega), List.map_cons, puts_cons, List.append_assoc]
theorem short_drop : ∀ (l acc : List Int) (x : Int), 60 < acc.length + (puts ((l ++ [x]).map lowerOf)).length → shortB acc (l ++ [x]) = shortB acc l := by
  intro l
  induction l with
  | nil =>
    intro acc x h
    rw [List.nil_append, List.map_cons, List.map_nil, puts_cons] at h
    simp only [puts, List.flatMap_nil, List.append_nil] at h
    have e1 : shortB acc [x] = acc := by rw [shortB, if_pos h]
    have e2 : shortB acc [] = acc := by rw [shortB]
    rw [List.nil_append, e1, e2]
  | cons y l ih =>
    intro acc x h
    rw [List.cons_append, List.map_cons, puts_cons, List.length_append] at h
    by_cases hc : 60 < acc.length + (put (lowerOf y)).length
    · have e1 : ∀ m, shortB acc (y :: m) = acc := fun m => by rw [shortB, if_pos hc]
      rw [List.cons_append, e1, e1]
    · have e1 : ∀ m, shortB acc (y :: m) = shortB (acc ++ put (lowerOf y)) m := fun m => by rw [shortB, if_neg hc]
      rw [List.cons_append, e1, e1]
      exact ih _ x (by rw [List.length_append]; omega)
theorem low_len {ys : List Int} {i j : Nat} : (lowOf ys i j).size = (puts ((sub ys i j).map lowerOf)).length := by unfold lowOf; rw [strOf_size]
theorem short_step {ys : List Int} {i n : Nat} (h : i ≤ n) (hn : n < ys.length) (hs : 60 < (lowOf ys i (n + 1)).size) : shortOf ys i (n + 1) = shortOf ys i n := by
  unfold shortOf
  rw [sub_snoc h hn, short_drop _ _ _ (by rw [low_len, sub_snoc h hn] at hs; simpa using hs)]
theorem short_fits {ys : List Int} {i n : Nat} (hs : (lowOf ys i n).size ≤ 60) : lowOf ys i n = shortOf ys i n := by
  rw [low_len] at hs
  unfold shortOf lowOf
  rw [short_all _ _ (by simpa using hs), List.nil_append]
theorem low_none {ys : List Int} {i n : Nat} (h : n ≤ i) : (lowOf ys i n).size = 0 := by rw [low_len, sub_nil ys h]; rfl
theorem upTo_congr {p q : Int → Bool} (h : ∀ x, p x = q x) (ys : List Int) (i : Nat) : upTo p ys i = upTo q ys i := by rw [show p = q from funext h]
def untilP (bl : Bool) (a b d : Int) (x : Int) : Bool := (bl && isBlank x) || x == a || x == b || x == d
theorem until_attr (x : Int) : untilP true 47 62 61 x = endAttr x := by simp [untilP, endAttr, endTag]
theorem until_tag (x : Int) : untilP true 47 62 62 x = endTag x := by unfold untilP endTag; cases isBlank x <;> cases (x == 47) <;> cases (x == 62) <;> rfl
theorem until_word (x : Int) : untilP true 62 62 62 x = endWord x := by unfold untilP endWord; cases isBlank x <;> cases (x == 62) <;> rfl
theorem until_gr (x : Int) : untilP false 62 62 62 x = isGr x := by unfold untilP isGr; cases (x == 62) <;> rfl
theorem until_quote (q x : Int) : untilP false q q q x = (x == q) := by unfold untilP; cases (x == q) <;> rfl
end Go.Proofs.YtggfifchkecnjaaGreatDoor
