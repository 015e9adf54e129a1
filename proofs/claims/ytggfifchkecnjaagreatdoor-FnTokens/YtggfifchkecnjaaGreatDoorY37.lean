/- Tokens, plain: the tokens of a page are right, where no reference could be the mark. No condition. -/
import Derived.Test.YtggfifchkecnjaaGreatDoorY34
import Derived.Test.YtggfifchkecnjaaGreatDoorY11
import Derived.Test.YtggfifchkecnjaaGreatDoorY24
import Derived.Test.YtggfifchkecnjaaGreatDoorY35
namespace Go.Proofs.YtggfifchkecnjaaGreatDoor
open Go.RowKit
set_option maxRecDepth 100000
set_option linter.unusedVariables false

theorem refNumber_not {x : Int} (h : x ≠ 65279) : refNumber x ≠ 65279 := by
  unfold refNumber
  split
  · decide
  · split
    · rename_i h1 h2
      have hb : 128 ≤ x ∧ x ≤ 159 := by simpa [inB] using h2
      have key : ∀ n, n < 32 → oldPoints.getD n 0 ≠ 65279 := by decide
      exact key _ (by omega)
    · exact h
theorem refDigits_not {xs : List Int} {b : Int} {k : Nat} (h : 7 < (digVal b (digs b (xs.drop k))).2 ∨ (digVal b (digs b (xs.drop k))).1 ≠ 65279) : (refDigits xs b k).1 ≠ 65279 := by
  unfold refDigits
  simp only
  split
  · decide
  · show refNumber _ ≠ 65279
    rcases h with h | h
    · rw [if_pos h]; exact refNumber_not (by decide)
    · split
      · exact refNumber_not (by decide)
      · exact refNumber_not h
theorem digs_hex (m : List Int) : ∀ d ∈ digs 16 m, 0 ≤ d ∧ d < 16 := by
  induction m with
  | nil => intro d hd; cases hd
  | cons c m ih =>
    intro d hd
    unfold digs at hd
    split at hd
    · rename_i h
      rcases List.mem_cons.mp hd with rfl | hd
      · exact ⟨h, digitOf_le c 16 (.inr rfl)⟩
      · exact ih d hd
    · cases hd
theorem drop_at {l : List Int} {k : Nat} {x : Int} {m : List Int} (h : l.drop k = x :: m) : atL l k = x ∧ l.drop (k + 1) = m := by
  have hk : k < l.length := by
    by_cases hk : k < l.length
    · exact hk
    · rw [List.drop_eq_nil_of_le (by omega)] at h; cases h
  rw [List.drop_eq_getElem_cons hk] at h
  injection h with h1 h2
  refine ⟨?_, h2⟩
  rw [atL_in hk, List.getD_eq_getElem?_getD, List.getElem?_eq_getElem hk]
  exact h1
theorem refNum_dec {ys : List Int} {k : Nat} {x : Int} {m : List Int} (h : ys.drop k = x :: m) (h1 : x ≠ 120) (h2 : x ≠ 88) (h3 : (digVal 10 (digs 10 (x :: m))).1 ≠ 65279) : (refNum ys k).1 ≠ 65279 := by
  have e := (drop_at h).1
  unfold refNum
  rw [if_neg (by omega)]
  exact refDigits_not (.inr (by rw [h]; exact h3))
theorem refNum_hex {ys : List Int} {k : Nat} {x : Int} {m : List Int} (h : ys.drop k = x :: m) (h1 : x = 120 ∨ x = 88) (h3 : 7 < (digVal 16 (digs 16 m)).2 ∨ (digVal 16 (digs 16 m)).1 ≠ 65279) : (refNum ys k).1 ≠ 65279 := by
  obtain ⟨e, e2⟩ := drop_at h
  unfold refNum
  rw [if_pos (by omega)]
  exact refDigits_not (by rw [e2]; exact h3)
theorem refNum_not {ys : List Int} (hs : safeL ys = true) {k : Nat} (h1 : atL ys k = 38) (h2 : atL ys (k + 1) = 35) : (refNum ys (k + 2)).1 ≠ 65279 := by
  obtain ⟨p, hp, m, e⟩ := safe_at hs h1 h2
  have four : ∀ m, 7 < (digVal 16 (digs 16 (52 :: m))).2 ∨ (digVal 16 (digs 16 (52 :: m))).1 ≠ 65279 := by
    intro m
    have e : digs 16 (52 :: m) = 4 :: digs 16 m := rfl
    rw [e]
    by_cases h : (digVal 16 (4 :: digs 16 m)).2 ≤ 7
    · exact .inr (four_not _ (digs_hex m) h)
    · exact .inl (by omega)
  simp only [pats, List.mem_cons, List.not_mem_nil, or_false] at hp
  rcases hp with rfl | rfl | rfl | rfl | rfl | rfl | rfl | rfl | rfl | rfl | rfl
  · exact refNum_dec e (by decide) (by decide) (show (0 : Int) ≠ 65279 by decide)
  · exact refNum_hex e (.inl rfl) (.inr (show (0 : Int) ≠ 65279 by decide))
  · exact refNum_hex e (.inl rfl) (four m)
  · exact refNum_hex e (.inr rfl) (four m)
  · exact refNum_hex e (.inl rfl) (.inl (show 7 < 8 by decide))
  · exact refNum_dec e (by decide) (by decide) (show (65 : Int) ≠ 65279 by decide)
  · exact refNum_dec e (by decide) (by decide) (show (128 : Int) ≠ 65279 by decide)
  · exact refNum_dec e (by decide) (by decide) (show (0 : Int) ≠ 65279 by decide)
  · exact refNum_dec e (by decide) (by decide) (show (65 : Int) ≠ 65279 by decide)
  · exact refNum_dec e (by decide) (by decide) (show (55296 : Int) ≠ 65279 by decide)
  · exact refNum_dec e (by decide) (by decide) (show (1234567 : Int) ≠ 65279 by decide)
theorem ref_not {ys : List Int} (hs : safeL ys = true) {k : Nat} (h38 : atL ys k = 38) : ∀ y ∈ (refRead ys k false).1, y ≠ 65279 := by
  unfold refRead
  simp only [Int.toNat_natCast]
  split
  · intro y hy; cases hy
  · split
    · rename_i h35
      split
      · intro y hy
        rw [List.mem_singleton] at hy
        subst hy
        exact refNum_not hs h38 h35
      · intro y hy
        rw [List.mem_singleton] at hy
        subst hy; decide
    · unfold refName
      simp only [Bool.false_and]
      split
      · intro y hy
        rw [List.mem_singleton] at hy
        subst hy; decide
      · rename_i hn
        rw [if_neg (by decide)]
        intro y hy
        rw [List.mem_singleton] at hy
        subst hy
        have hm := (best_mem ys (k + 1) (by omega)).1
        have key : ∀ r ∈ refList, r.2 ≠ 65279 := by decide
        exact key _ hm
end Go.Proofs.YtggfifchkecnjaaGreatDoor

/- The specification's cutter: texts, names, values. No condition. -/
namespace Go.Proofs.YtggfifchkecnjaaGreatDoor
open Go.RowKit
set_option maxRecDepth 100000
set_option linter.unusedVariables false

def partOf (lo : Bool) (ys : List Int) (i j : Nat) : List Int := puts ((sub ys i j).map fun x => if lo then lowerOf x else x)
theorem part_txt (ys : List Int) (i j : Nat) : strOf (partOf false ys i j) = txtOf ys i j := by
  have : (sub ys i j).map (fun x => if false = true then lowerOf x else x) = sub ys i j := by simp
  unfold partOf txtOf; rw [this]
theorem part_snoc {lo : Bool} {ys : List Int} {i k : Nat} (h : i ≤ k) (hk : k < ys.length) : partOf lo ys i (k + 1) = partOf lo ys i k ++ put (if lo then lowerOf (atL ys k) else atL ys k) := by
  unfold partOf
  rw [sub_snoc h hk, List.map_append]
  simp [puts]
theorem part_len {lo : Bool} {ys : List Int} (hl : ys.length ≤ 3000) (i k : Nat) : (partOf lo ys i k).length ≤ 12000 := by
  have h1 := puts_len ((sub ys i k).map fun x => if lo then lowerOf x else x)
  have h2 := sub_few (i := i) (j := k) hl
  rw [List.length_map] at h1
  unfold partOf; omega

set_option maxHeartbeats 1000000 in
theorem l5Text_any {v : Value} {xs ys : List Int} {w : World} (h : Sl .i64 w v xs) (hys : ys = xs.map clean) (i j : Nat) (hij : i ≤ j) (hj : j ≤ ys.length) (lo : Bool) (hn : xs.length ≤ 3000) :
    Calls Tryz.prog 94 #[v, .int .i64 i, .int .i64 j, .bool lo] w fun e w' => e = .returned (.string (strOf (partOf lo ys i j))) ∧ Below w.heap.size w w' := by
  have hyl : ys.length ≤ 3000 := by rw [hys, List.length_map]; exact hn
  have HL := (show Hid (∀ W, Below w.heap.size w W → ∀ k : Nat, Calls Tryz.prog 43 #[v, .int .i64 k] W fun e w' => e = .returned (.int .i64 (atL ys k)) ∧ w' = W) from fun W b k => by rw [hys]; exact l5At_any (h.below b) k hn)
  obtain ⟨i0, hi, hz0, hz1, hz2⟩ := info_parts Tryz.infoB
  have o1 := own_empty 5 .u8 w
  clear h hys
  go_enter Tryz.func94, Tryz.ntmps94
  go_wp2
  go_loopw [9, 10] (fun u c wr => ∃ k : Nat, i ≤ k ∧ k ≤ j ∧ c = .int .i64 k ∧ Hid (Own w.heap.size 5 .u8 wr u (partOf lo ys i k) ∧ Below w.heap.size w wr)) (fun _ c _ => j - (intOf c).toNat)
  case atStart => exact ⟨i, Nat.le_refl _, hij, rfl, by unfold partOf; rw [sub_nil ys (Nat.le_refl _)]; exact o1, (Below.refl _ _).alloc (Nat.le_refl _) _⟩
  case round =>
    clear o1
    obtain ⟨k, hk0, hk1, rfl, I⟩ := hrel
    by_cases hkj : k < j
    · have hs := part_snoc (lo := lo) (ys := ys) hk0 (show k < ys.length by omega)
      have hpl := part_len (lo := lo) hyl i k
      obtain ⟨x, hx⟩ : ∃ x, x = atL ys k := ⟨_, rfl⟩
      have cl := HL.out wr I.out.2 k
      rw [← hx] at cl hs
      obtain ⟨acc, hacc⟩ : ∃ acc, acc = partOf lo ys i k := ⟨_, rfl⟩
      have OW := (show Hid (Own w.heap.size 5 .u8 wr u9 acc) from by rw [hacc]; exact I.out.1)
      have BW := (show Hid (Below w.heap.size w wr) from I.out.2)
      rw [← hacc] at hs hpl
      have HS := (show Hid _ from hs)
      clear I hx hs hacc
      go_wp2_with fail
      go_at_call 43
      refine cl.mono ?_
      rintro e w1 ⟨rfl, rfl⟩
      clear cl
      cases lo
      · have HS' := (show Hid (partOf false ys i (k + 1) = acc ++ put x) from HS.out)
        clear HS
        go_wp2_with fail
        go_at_call 83
        refine (sput_any _ _).mono ?_
        rintro e w3 ⟨vp, rfl, op, b3⟩
        have hpp := put_len x
        have O3 := (show Hid _ from OW.out.below b3)
        have B3 := (show Hid (Below w.heap.size w w3) from BW.out.trans (b3.mono BW.out.size))
        go_wp2_with (at_builtin; refine wpList_app _ rfl (.tmp 25) (.tmp 27) 22 rfl w.heap.size 5 i0 (.int .u8 0) 1 Tryz.underlying22 hi hz0 hz1 hz2 rfl .u8 _ _ acc (put x) rfl rfl O3.out op.sl (by omega) (by unfold maxLen; omega) B3.out.size ?_; intro v' w4 o4 g4)
        have B4 := (show Hid (Below w.heap.size w w4) from B3.out.grown g4 B3.out.size (fun r e => (Own.lt O3.out r e).1))
        have O4 := (show Hid _ from o4)
        clear OW BW op b3 o4 g4 O3 B3
        go_wp2
        go_roundw
        case rel => exact ⟨k + 1, by omega, hkj, by go_num, by rw [HS'.out]; exact O4.out, B4.out⟩
        case measure => simp [intOf]; omega
      · have HS' := (show Hid (partOf true ys i (k + 1) = acc ++ put (lowerOf x)) from HS.out)
        clear HS
        go_wp2_with fail
        go_at_call 84
        refine (slower_any _ _).mono ?_
        rintro e w2 ⟨rfl, rfl⟩
        obtain ⟨z, hz⟩ : ∃ z, z = lowerOf x := ⟨_, rfl⟩
        rw [← hz] at HS' ⊢
        clear hz
        go_wp2_with fail
        go_at_call 83
        refine (sput_any _ _).mono ?_
        rintro e w3 ⟨vp, rfl, op, b3⟩
        have hpp := put_len z
        have O3 := (show Hid _ from OW.out.below b3)
        have B3 := (show Hid (Below w.heap.size w w3) from BW.out.trans (b3.mono BW.out.size))
        go_wp2_with (at_builtin; refine wpList_app _ rfl (.tmp 25) (.tmp 27) 22 rfl w.heap.size 5 i0 (.int .u8 0) 1 Tryz.underlying22 hi hz0 hz1 hz2 rfl .u8 _ _ acc (put z) rfl rfl O3.out op.sl (by omega) (by unfold maxLen; omega) B3.out.size ?_; intro v' w4 o4 g4)
        have B4 := (show Hid (Below w.heap.size w w4) from B3.out.grown g4 B3.out.size (fun r e => (Own.lt O3.out r e).1))
        have O4 := (show Hid _ from o4)
        clear OW BW op b3 o4 g4 O3 B3
        go_wp2
        go_roundw
        case rel => exact ⟨k + 1, by omega, hkj, by go_num, by rw [HS'.out]; exact O4.out, B4.out⟩
        case measure => simp [intOf]; omega
    · have hkj' : k = j := by omega
      subst hkj'
      have hcv := conv_sl I.out.1.sl
      obtain ⟨ua, uc, rfl, _⟩ := I.out.1.sl
      go_wp2
      go_ret
      exact ⟨rfl, I.out.2⟩

set_option maxHeartbeats 1000000 in
theorem l5Name_any {v : Value} {xs ys : List Int} {w : World} (h : Sl .i64 w v xs) (hys : ys = xs.map clean) (i j : Nat) (hij : i ≤ j) (hj : j ≤ ys.length) (hn : xs.length ≤ 3000) :
    Calls Tryz.prog 87 #[v, .int .i64 i, .int .i64 j] w fun e w' => e = .returned (.string (shortOf ys i j)) ∧ Below w.heap.size w w' := by
  have hyl : ys.length ≤ 3000 := by rw [hys, List.length_map]; exact hn
  have HT := (show Hid (∀ W, Below w.heap.size w W → ∀ n : Nat, i ≤ n → n ≤ ys.length → Calls Tryz.prog 94 #[v, .int .i64 i, .int .i64 n, .bool true] W fun e w' => e = .returned (.string (lowOf ys i n)) ∧ Below W.heap.size W w') from fun W b n h1 h2 => l5Text_any (h.below b) hys i n h1 h2 true hn)
  clear h hys
  go_enter Tryz.func87, Tryz.ntmps87
  go_wp2_with fail
  go_at_call 94
  refine (HT.out _ (Below.refl _ _) j hij hj).mono ?_
  rintro e w1 ⟨rfl, b1⟩
  go_wp2
  go_loopw [2, 7] (fun u t wr => ∃ n : Nat, i ≤ n ∧ n ≤ j ∧ u = .int .i64 n ∧ t = .string (lowOf ys i n) ∧ Hid (shortOf ys i n = shortOf ys i j ∧ Below w.heap.size w wr)) (fun u _ _ => (intOf u).toNat)
  case atStart => exact ⟨j, hij, Nat.le_refl _, rfl, rfl, rfl, b1⟩
  case round =>
    clear b1
    obtain ⟨n, hn0, hn1, rfl, rfl, I⟩ := hrel
    by_cases hs : 60 < (lowOf ys i n).size
    · have hni : i < n := by
        by_cases hh : i < n
        · exact hh
        · rw [low_none (by omega)] at hs; omega
      obtain ⟨m, rfl⟩ : ∃ m, n = m + 1 := ⟨n - 1, by omega⟩
      have hst := short_step (ys := ys) (i := i) (n := m) (by omega) (by omega) hs
      have HS := (show Hid (shortOf ys i m = shortOf ys i j) from by rw [← hst]; exact I.out.1)
      have BW := (show Hid (Below w.heap.size w wr) from I.out.2)
      obtain ⟨t, ht⟩ : ∃ t, t = lowOf ys i (m + 1) := ⟨_, rfl⟩
      rw [← ht] at hs ⊢
      have hsub : ((m + 1 : Nat) : Int) - 1 = (m : Int) := by omega
      have hwr : IntKind.i64.wrap (m : Int) = (m : Int) := wrap_fit (by omega) (by omega)
      clear I hst ht
      go_wp2_with fail
      go_at_call 94
      refine (HT.out _ BW.out m (by omega) (by omega)).mono ?_
      rintro e w3 ⟨rfl, b3⟩
      have B3 := (show Hid (Below w.heap.size w w3) from BW.out.trans (b3.mono BW.out.size))
      clear b3 BW
      go_wp2
      go_roundw
      case rel => exact ⟨m, by omega, by omega, rfl, rfl, HS.out, B3.out⟩
      case measure => simp [intOf]
    · have hf := short_fits (ys := ys) (i := i) (n := n) (by omega)
      rw [I.out.1] at hf
      obtain ⟨t, ht⟩ : ∃ t, t = lowOf ys i n := ⟨_, rfl⟩
      rw [← ht] at hs hf ⊢
      have HF := (show Hid (t = shortOf ys i j) from hf)
      clear hf ht
      go_wp2
      go_ret
      exact ⟨by rw [HF.out]; rfl, I.out.2⟩

set_option maxHeartbeats 1000000 in
theorem l5Value_any {p : Int → Bool} (hP : EndsP p) {v : Value} {xs ys : List Int} {w : World} (h : Sl .i64 w v xs) (hys : ys = xs.map clean) (i j : Nat) (hi : i ≤ ys.length) (hj : j = upTo p ys i) (hn : xs.length ≤ 3000) :
    Calls Tryz.prog 125 #[v, .int .i64 i, .int .i64 j] w fun e w' => e = .returned (.string (strOf (puts (valV p ys i).1))) ∧ Below w.heap.size w w' := by
  have hyl : ys.length ≤ 3000 := by rw [hys, List.length_map]; exact hn
  have HL := (show Hid (∀ W, Below w.heap.size w W → ∀ k : Nat, Calls Tryz.prog 43 #[v, .int .i64 k] W fun e w' => e = .returned (.int .i64 (atL ys k)) ∧ w' = W) from fun W b k => by rw [hys]; exact l5At_any (h.below b) k hn)
  have HR := (show Hid (∀ W, Below w.heap.size w W → ∀ k : Nat, Calls Tryz.prog 44 #[v, .int .i64 k, .bool true] W (Reads W (refRead ys k true))) from fun W b k => by rw [hys, refRead_clean]; exact srefRead_any (h.below b) k true (by omega))
  obtain ⟨i0, hi0, hz0, hz1, hz2⟩ := info_parts Tryz.infoB
  have o1 := own_empty 5 .u8 w
  obtain ⟨R, hR⟩ : ∃ R, R = (valV p ys i).1 := ⟨_, rfl⟩
  have hRl := (val_end hP hyl ys.length i (by omega) hi).2
  rw [← hR] at hRl ⊢
  have hij : i ≤ j := by rw [hj]; exact upTo_ge _ _ _
  have hjl : j ≤ ys.length := by rw [hj]; exact upTo_le hi
  have HJ := (show Hid (j = upTo p ys i) from hj)
  have HRR := (show Hid (R = (valV p ys i).1) from hR)
  have hpR := puts_len R
  clear h hys hj hR
  go_enter Tryz.func125, Tryz.ntmps125
  go_wp2
  go_loopw [1, 7] (fun c u wr => ∃ (k : Nat) (acc : List Int), i ≤ k ∧ k ≤ j ∧ c = .int .i64 k ∧ Hid (Own w.heap.size 5 .u8 wr u acc ∧ acc ++ puts (valV p ys k).1 = puts R ∧ Below w.heap.size w wr)) (fun c _ _ => j - (intOf c).toNat)
  case atStart => exact ⟨i, [], Nat.le_refl _, hij, rfl, o1, by rw [← HRR.out]; rfl, (Below.refl _ _).alloc (Nat.le_refl _) _⟩
  case round =>
    clear o1
    obtain ⟨k, acc, hk0, hk1, rfl, I⟩ := hrel
    have hal : acc.length ≤ 12000 := by
      have := congrArg List.length I.out.2.1
      rw [List.length_append] at this
      omega
    have BW := (show Hid (Below w.heap.size w wr) from I.out.2.2)
    have OW := (show Hid (Own w.heap.size 5 .u8 wr u7 acc) from I.out.1)
    have HE := (show Hid (acc ++ puts (valV p ys k).1 = puts R) from I.out.2.1)
    clear I
    by_cases hkj : k < j
    · obtain ⟨hkl, hp⟩ := upTo_not (p := p) (ys := ys) ys.length i k (by omega) hk0 (by rw [← HJ.out]; exact hkj)
      have cl := HL.out wr BW.out k
      obtain ⟨x, hx⟩ : ∃ x, x = atL ys k := ⟨_, rfl⟩
      rw [← hx] at cl
      by_cases h38 : x = 38
      · obtain ⟨n, y, he, hkn, hnl, hyo, _⟩ := ref_facts true hyl hkl (by rw [← hx]; exact h38)
        have hvr := val_ref hyl hkl hp (by rw [← hx]; exact h38) he hkn
        have hnj : n ≤ j := by
          have h1 := (val_end hP hyl ys.length k (by omega) (by omega)).1
          have h2 := (val_end hP hyl ys.length n (by omega) hnl).1
          have h3 := upTo_mid (p := p) (ys := ys) (i := i) (k - i) k (by omega) (by rw [← HJ.out]; exact hk1)
          have h4 := upTo_ge p ys n
          rw [hvr] at h1
          have h5 : (valV p ys n).2 = upTo p ys k := h1
          rw [HJ.out]; omega
        have HE2 := (show Hid ((acc ++ puts [y]) ++ puts (valV p ys n).1 = puts R) from (show _ = _ by
          have := HE.out
          rw [hvr] at this
          have e1 : puts (y :: (valV p ys n).1) = puts [y] ++ puts (valV p ys n).1 := by simp [puts]
          rw [List.append_assoc, ← e1]
          exact this))
        have cr := HR.out wr BW.out k
        rw [he] at cr
        have CR := (show Hid _ from cr)
        have hpy := puts_len [y]
        clear hx hvr he cr HE
        subst h38
        go_wp2_with fail
        go_at_call 43
        refine cl.mono ?_
        rintro e w1 ⟨rfl, rfl⟩
        clear cl
        go_wp2_with fail
        go_at_call 44
        refine Calls.mono CR.out ?_
        rintro e w2 ⟨vx, rfl, ox, b2⟩
        have O2 := (show Hid _ from OW.out.below b2)
        have B2 := (show Hid (Below w.heap.size w w2) from BW.out.trans (b2.mono BW.out.size))
        have CP := (show Hid _ from l1Put_any ox.sl (by simp))
        clear CR OW BW b2 ox
        go_wp2_with fail
        go_at_call 45
        refine Calls.mono CP.out ?_
        rintro e w3 ⟨vp, rfl, op, b3⟩
        have O3 := (show Hid _ from Own.below O2.out b3)
        have B3 := (show Hid (Below w.heap.size w w3) from B2.out.trans (b3.mono B2.out.size))
        clear CP O2 B2 b3
        go_wp2_with (at_builtin; refine wpList_app _ rfl (.tmp 24) (.tmp 26) 22 rfl w.heap.size 5 i0 (.int .u8 0) 1 Tryz.underlying22 hi0 hz0 hz1 hz2 rfl .u8 _ _ acc (puts [y]) rfl rfl O3.out op.sl (by simp at hpy; omega) (by unfold maxLen; simp at hpy; omega) B3.out.size ?_; intro v' w4 o4 g4)
        have B4 := (show Hid (Below w.heap.size w w4) from B3.out.grown g4 B3.out.size (fun r e => (Own.lt O3.out r e).1))
        have O4 := (show Hid _ from o4)
        clear op o4 g4 O3 B3
        go_wp2
        go_roundw
        case rel => exact ⟨n, acc ++ puts [y], by omega, hnj, rfl, O4.out, HE2.out, B4.out⟩
        case measure => simp [intOf]; omega
      · have hvp := val_plain hyl hkl hp (by rw [← hx]; exact h38)
        rw [← hx] at hvp
        have HE2 := (show Hid ((acc ++ put x) ++ puts (valV p ys (k + 1)).1 = puts R) from (show _ = _ by
          have := HE.out
          rw [hvp] at this
          rw [List.append_assoc]
          exact this))
        have n38 : (x == 38) = false := by simp [h38]
        have hpp := put_len x
        clear hx hvp HE h38
        go_wp2_with fail
        go_at_call 43
        refine cl.mono ?_
        rintro e w1 ⟨rfl, rfl⟩
        go_wp2_with fail
        go_at_call 43
        refine cl.mono ?_
        rintro e w1 ⟨rfl, rfl⟩
        clear cl
        go_wp2_with fail
        go_at_call 83
        refine (sput_any _ _).mono ?_
        rintro e w3 ⟨vp, rfl, op, b3⟩
        have O3 := (show Hid _ from OW.out.below b3)
        have B3 := (show Hid (Below w.heap.size w w3) from BW.out.trans (b3.mono BW.out.size))
        clear OW BW b3
        go_wp2_with (at_builtin; refine wpList_app _ rfl (.tmp 29) (.tmp 33) 22 rfl w.heap.size 5 i0 (.int .u8 0) 1 Tryz.underlying22 hi0 hz0 hz1 hz2 rfl .u8 _ _ acc (put x) rfl rfl O3.out op.sl (by omega) (by unfold maxLen; omega) B3.out.size ?_; intro v' w4 o4 g4)
        have B4 := (show Hid (Below w.heap.size w w4) from B3.out.grown g4 B3.out.size (fun r e => (Own.lt O3.out r e).1))
        have O4 := (show Hid _ from o4)
        clear op o4 g4 O3 B3
        go_wp2
        go_roundw
        case rel => exact ⟨k + 1, acc ++ put x, by omega, hkj, by go_num, O4.out, HE2.out, B4.out⟩
        case measure => simp [intOf]; omega
    · have hkj' : k = j := by omega
      have hst : valV p ys k = ([], k) := by
        refine val_stop (fun hc => ?_)
        have := upTo_more (p := p) hk0 (by rw [← HJ.out]; exact hk1) hc.1 hc.2
        rw [← HJ.out] at this; omega
      have hacc : acc = puts R := by
        have := HE.out
        rw [hst] at this
        simpa [puts] using this
      have HACC := (show Hid (acc = puts R) from hacc)
      have hcv := conv_sl OW.out.sl
      obtain ⟨ua, uc, rfl, _⟩ := OW.out.sl
      clear hst hacc
      subst hkj'
      go_wp2
      go_ret
      exact ⟨by rw [← HACC.out]; rfl, BW.out⟩
end Go.Proofs.YtggfifchkecnjaaGreatDoor
