/- The specification's Tokens. No condition. -/
import Derived.Test.YtggfifchkecnjaaGreatDoorY48
import Derived.Test.YtggfifchkecnjaaGreatDoorY37
import Derived.Test.YtggfifchkecnjaaGreatDoorY43
namespace Go.Proofs.YtggfifchkecnjaaGreatDoor
open Go.RowKit
set_option maxRecDepth 100000
set_option linter.unusedVariables false

structure TkS (w : World) (tv : Value) (qs : List (TokD × Value)) (wr : World) : Prop where
  own : OwnK w.heap.size wr tv qs
  ap : ApartK qs
  bel : Below w.heap.size w wr
theorem TkS.below {w : World} {tv : Value} {qs : List (TokD × Value)} {wr wr' : World} (h : TkS w tv qs wr) (b : Below wr.heap.size wr wr') : TkS w tv qs wr' := ⟨h.own.below b, h.ap, h.bel.trans (b.mono h.bel.size)⟩
theorem TkS.snoc {w : World} {tv tv' : Value} {qs : List (TokD × Value)} {q : TokD × Value} {wr wr' : World} (h : TkS w tv qs wr) (hq : wr.ownsRow w.heap.size 81 2 q.2 q.1.rs.length (pairCells q.1.rs))
    (hn : ∀ p ∈ qs, ∀ r, q.2.ownBlock = some r → p.2.ownBlock = some r → False) (ho : wr'.ownsRow w.heap.size 30 5 tv' (qs.length + 1) (tokCells qs ++ tokRow q.1 q.2)) (hg : wr.grownBy wr' tv.ownBlock) : TkS w tv' (qs ++ [q]) wr' :=
  ⟨h.own.snoc hq ho hg, apartK_snoc h.ap hn, h.bel.grown hg h.bel.size (fun r e => (World.ownsRow.lt h.own.row r e).1)⟩

theorem stokens_none {v : Value} {xs : List Int} {w : World} (h : Sl .i64 w v xs) (hl : 3000 < xs.length) (hm : xs.length ≤ 1099511627776) :
    Calls Tryz.prog 8 #[v] w fun e w' => ∃ tv, e = .returned tv ∧ OwnK w.heap.size w' tv [] ∧ Below w.heap.size w w' := by
  obtain ⟨a, ca, rfl, _, _, _, _⟩ := h
  have hl2 : (3000 : Int) < (xs.length : Int) := by omega
  have r4 : (w.alloc (.cells #[] 30)).ownsRow w.heap.size 30 5 (.slice (some ⟨w.heap.size, 0, none⟩) 0 0) 0 [] := World.ownsRow_lit w #[] 0 (Nat.le_refl _) (Nat.zero_le _) rfl
  go_enter Tryz.func8, Tryz.ntmps8
  go_wp2
  go_ret
  exact ⟨_, rfl, ownK_nil _ _ r4, (Below.refl _ _).alloc (Nat.le_refl _) _⟩

theorem itokens_none {v : Value} {xs : List Int} {w : World} (h : Sl .i64 w v xs) (hl : 3000 < xs.length) (hm : xs.length ≤ 1099511627776) :
    Calls Tryz.prog 7 #[v] w fun e w' => ∃ tv, e = .returned tv ∧ OwnK w.heap.size w' tv [] ∧ Below w.heap.size w w' := by
  obtain ⟨a, ca, rfl, _, _, _, _⟩ := h
  have hl2 : (3000 : Int) < (xs.length : Int) := by omega
  obtain ⟨w1, hw1⟩ : ∃ z, z = w.alloc (.cells #[.int .i64 0] 3) := ⟨_, rfl⟩
  have r4 : (w.alloc (.cells #[] 30)).ownsRow w.heap.size 30 5 (.slice (some ⟨w.heap.size, 0, none⟩) 0 0) 0 [] := World.ownsRow_lit w #[] 0 (Nat.le_refl _) (Nat.zero_le _) rfl
  clear hw1 w1
  go_enter Tryz.func7, Tryz.ntmps7
  go_wp2
  go_ret
  exact ⟨_, rfl, ownK_nil _ _ r4, (Below.refl _ _).alloc (Nat.le_refl _) _⟩

set_option maxHeartbeats 1000000 in
theorem stokens_any {v : Value} {xs : List Int} {w : World} (h : Sl .i64 w v xs) (hl : xs.length ≤ 3000) :
    Calls Tryz.prog 8 #[v] w fun e w' => ∃ tv qs, e = .returned tv ∧ OwnK w.heap.size w' tv qs ∧ ApartK qs ∧ qs.map (fun q => q.1) = toksV (xs.map clean) 0 ∧ Below w.heap.size w w' := by
  obtain ⟨iT, hiT, hT0, hT1, hT2⟩ := info_parts Tryz.infoTok
  have h0 := h
  obtain ⟨a, ca, rfl, _, _, _, _⟩ := h
  obtain ⟨ys, hys⟩ : ∃ z, z = xs.map clean := ⟨_, rfl⟩
  have hlen : ys.length = xs.length := by rw [hys, List.length_map]
  have hyl : ys.length ≤ 3000 := by omega
  have HP := (show Hid (∀ W, Below w.heap.size w W → SPage W (.slice a xs.length ca) xs ys) from fun W b => ⟨h0.below b, hl, hys⟩)
  rw [← hys]
  have hl2 : ¬ (3000 : Int) < (xs.length : Int) := by omega
  obtain ⟨w1, hw1⟩ : ∃ z, z = w.alloc (.cells #[] 30) := ⟨_, rfl⟩
  have r4 : w1.ownsRow w.heap.size 30 5 (.slice (some ⟨w.heap.size, 0, none⟩) 0 0) 0 [] := by rw [hw1]; exact World.ownsRow_lit w #[] 0 (Nat.le_refl _) (Nat.zero_le _) rfl
  have TK := (show Hid (TkS w (.slice (some ⟨w.heap.size, 0, none⟩) 0 0) [] w1) from ⟨ownK_nil _ _ r4, apartK_nil, by rw [hw1]; exact (Below.refl _ _).alloc (Nat.le_refl _) _⟩)
  clear h0 hys r4
  go_enter Tryz.func8, Tryz.ntmps8
  go_upto_region 2 with fail
  rw [← hw1]
  clear hw1
  go_wp2_with fail
  go_loopw [3, 4] (fun u c wr => ∃ (k : Nat) (qs : List (TokD × Value)), k ≤ ys.length ∧ qs.length ≤ 3001 ∧ c = .int .i64 k ∧ Hid (TkS w u qs wr ∧ qs.map (fun q => q.1) ++ toksV ys k = toksV ys 0)) (fun _ c _ => ys.length - (intOf c).toNat)
  case atStart => exact ⟨0, [], Nat.zero_le _, Nat.zero_le _, rfl, TK.out, rfl⟩
  case round =>
    clear TK
    obtain ⟨k, qs, hk, hq, rfl, I⟩ := hrel
    have T0 := (show Hid (TkS w u3 qs wr) from I.out.1)
    have HV := (show Hid (qs.map (fun q => q.1) ++ toksV ys k = toksV ys 0) from I.out.2)
    clear I
    have tb := tokV_tells hyl k
    have hT1 : (tokV ys k).1.k = 1 → toksV ys k = [(tokV ys k).1] := toks_end
    have hT2' : (tokV ys k).1.k ≠ 1 → toksV ys k = (tokV ys k).1 :: toksV ys (tokV ys k).2 := toks_more hyl
    have cn := nextToken_data (HP.out wr T0.out.bel) k hk ⟨#[]⟩
    obtain ⟨⟨⟨tk, nm, rs, tx, sf⟩, j⟩, hr⟩ : ∃ r, r = tokV ys k := ⟨_, rfl⟩
    rw [← hr] at cn tb hT1 hT2'
    have CN := (show Hid _ from cn)
    have TB := (show Hid (TokB ys k (⟨tk, nm, rs, tx, sf⟩, j)) from tb)
    have HT1 := (show Hid (tk = 1 → toksV ys k = [⟨tk, nm, rs, tx, sf⟩]) from hT1)
    have HT2 := (show Hid (tk ≠ 1 → toksV ys k = ⟨tk, nm, rs, tx, sf⟩ :: toksV ys j) from hT2')
    have hln := toks_len hyl ys.length 0 (by omega)
    rw [← HV.out, List.length_append, List.length_map] at hln
    clear cn hr tb hT1 hT2'
    go_wp2_with fail
    go_at_call 24
    refine Calls.mono CN.out ?_
    rintro e w5 ⟨u5, rfl, ⟨va, rfl, row5⟩, b5⟩
    simp only at row5
    obtain ⟨a5, l5, d5, rfl⟩ := row_slice row5
    have T5 := (show Hid (TkS w u3 qs w5) from T0.out.below b5)
    have NEW := (show Hid (∀ p ∈ qs, ∀ r, (Value.slice a5 l5 d5).ownBlock = some r → p.2.ownBlock = some r → False) from fun p hp r e1 e2 => by
      have h1 := (World.ownsRow.lt row5 r e1).1
      have h2 := (World.ownsRow.lt (T0.out.own.each p hp) r e2).2
      omega)
    have R5 := (show Hid (w5.ownsRow w.heap.size 81 2 (.slice a5 l5 d5) rs.length (pairCells rs)) from row_base row5 T0.out.bel.size)
    unfold tokVal
    obtain ⟨w6, hw6⟩ : ∃ z, z = w5.alloc (.cells #[.int .i64 tk, .string nm, .slice a5 l5 d5, .string tx, .bool sf] 30) := ⟨_, rfl⟩
    have b6 : Below w5.heap.size w5 w6 := by rw [hw6]; exact (Below.refl _ _).alloc (Nat.le_refl _) _
    have g6 : w6.heap[w5.heap.size]? = some (.cells #[.int .i64 tk, .string nm, .slice a5 l5 d5, .string tx, .bool sf] 30 (0, 0)) := by rw [hw6]; exact heap_alloc_new _ _
    obtain ⟨w7, hw7⟩ : ∃ z, z = w6.alloc (.cells #[.int .i64 tk, .string nm, .slice a5 l5 d5, .string tx, .bool sf] 30) := ⟨_, rfl⟩
    have b7 : Below w6.heap.size w6 w7 := by rw [hw7]; exact (Below.refl _ _).alloc (Nat.le_refl _) _
    have hs6 : w6.heap.size = w5.heap.size + 1 := by rw [hw6, World.size_alloc]
    have sv7 := sv_tok w6 tk nm (.slice a5 l5 d5) tx sf rs
    rw [← hw7] at sv7
    have T7 := (show Hid _ from (T5.out.below b6).below b7)
    have R7 := (show Hid _ from ownsRow_below (ownsRow_below R5.out b6) b7)
    have G7 := (show Hid (w7.heap[w5.heap.size]? = some (.cells #[.int .i64 tk, .string nm, .slice a5 l5 d5, .string tx, .bool sf] 30 (0, 0))) from (b7.block _ (lt_of_block g6)).trans g6)
    have SV7 := (show Hid _ from sv7)
    have HLO := (show Hid (∀ r tv, TkS w tv qs w5 → tv.ownBlock = some r → r ≠ w5.heap.size) from fun r tv ht e => by
      have := (World.ownsRow.lt ht.own.row r e).2
      omega)
    have hq2 : qs.length ≤ 3000 := by
      by_cases h1 : tk = 1
      · have := HT1.out h1; rw [this] at hln; simp at hln; omega
      · have := HT2.out h1; rw [this] at hln; simp at hln; omega
    rw [hs6] at SV7
    have hsz7 : w.heap.size ≤ w7.heap.size := T7.out.bel.size
    have HW7 := (show Hid (w7 = (w5.alloc (.cells #[.int .i64 tk, .string nm, .slice a5 l5 d5, .string tx, .bool sf] 30)).alloc (.cells #[.int .i64 tk, .string nm, .slice a5 l5 d5, .string tx, .bool sf] 30)) from (show _ = _ by rw [← hw6]; exact hw7))
    clear CN row5 b5 T0 hw6 b6 g6 hw7 b7 hs6 sv7 R5 hln
    go_wp2_with (at_builtin
                 rw [← HW7.out]
                 refine wpList_appV _ rfl (.tmp 18) (.tmp 20) 26 rfl w.heap.size 30 iT _ 5 72 Tryz.underlying26 hiT hT0 hT1 hT2 rfl (by decide) _ _ qs.length 1 (tokCells qs) (tokRow ⟨tk, nm, rs, tx, sf⟩ (.slice a5 l5 d5)) rfl rfl T7.out.own.row SV7.out rfl (tok_one _ _ _ _) (by omega) (by unfold maxLen; omega) hsz7 ?_
                 intro v' w8 o8 g8
                 have T8 := (show Hid _ from T7.out.snoc (q := (⟨tk, nm, rs, tx, sf⟩, .slice a5 l5 d5)) R7.out NEW.out o8 g8)
                 have G8 := (show Hid (w8.heap[w5.heap.size]? = some (.cells #[.int .i64 tk, .string nm, .slice a5 l5 d5, .string tx, .bool sf] 30 (0, 0))) from (g8.block _ (lt_of_block G7.out) (fun e => HLO.out _ _ T5.out e.symm rfl)).trans G7.out)
                 have ck := (cell_block (k := 0) G8.out rfl : w8.cell? ⟨w5.heap.size, 0, none⟩ = some (.int .i64 tk))
                 clear o8 g8)
    · rename_i hk1
      have h1 : tk = 1 := by simpa using hk1
      go_ret
      exact ⟨v', qs ++ [(⟨tk, nm, rs, tx, sf⟩, .slice a5 l5 d5)], rfl, T8.out.own, T8.out.ap, by rw [List.map_append, ← HV.out, HT1.out h1]; rfl, T8.out.bel⟩
    · rename_i hk1
      have h1 : tk ≠ 1 := by simpa using hk1
      have hmo : k < j := TB.out.more h1
      have hle : j ≤ ys.length := TB.out.le
      refine ⟨⟨j, qs ++ [(⟨tk, nm, rs, tx, sf⟩, .slice a5 l5 d5)], hle, by rw [List.length_append, List.length_singleton]; omega, rfl, T8.out, ?_⟩, ?_⟩
      · rw [List.map_append, List.append_assoc, ← HV.out, HT2.out h1]; rfl
      · simp [intOf]; omega
end Go.Proofs.YtggfifchkecnjaaGreatDoor

/- Tokens, plain: TokenOk of a page's tokens; the last of them; how many there are of plain text. No condition. -/
namespace Go.Proofs.YtggfifchkecnjaaGreatDoor
open Go.RowKit
set_option maxRecDepth 100000
set_option linter.unusedVariables false

theorem attrsOk_add {rs : List (ByteArray × ByteArray)} {p : ByteArray × ByteArray} (h : attrsOk rs = true) : attrsOk (attrAdd rs p) = true := by
  rcases hc : ((attrOf rs p.1).2 || decide (20 ≤ rs.length) || !attrOk p) with _ | _
  · rw [attrAdd_yes hc]
    simp only [Bool.or_eq_false_iff, decide_eq_false_iff_not, Bool.not_eq_false'] at hc
    obtain ⟨⟨h1, h2⟩, h3⟩ := hc
    unfold attrsOk attrsTo at *
    simp only [Bool.and_eq_true, decide_eq_true_eq] at *
    obtain ⟨a, b, c⟩ := h
    refine ⟨by simp; omega, ?_, ?_⟩
    · rw [List.all_append, b]; simp [h3]
    · rw [List.pairwise_append]
      refine ⟨c, by simp, fun q hq r hr e => ?_⟩
      simp only [List.mem_singleton] at hr
      subst hr
      have := (attrOf_has rs r.1).mpr ⟨q, hq, e⟩
      rw [this] at h1; cases h1
  · rw [attrAdd_no hc]; exact h
theorem tag_attrs {ys : List Int} : ∀ (f k : Nat) (rs : List (ByteArray × ByteArray)), attrsOk rs = true → ∀ r, tagF ys f k rs = some r → attrsOk r.1 = true := by
  intro f
  induction f with
  | zero => intro k rs _ r h; cases h
  | succ f ih =>
    intro k rs h r hr
    rw [tagF] at hr
    split at hr
    · cases hr
    · split at hr
      · cases hr; exact h
      · split at hr
        · cases hr; exact h
        · split at hr
          · exact ih _ _ h r hr
          · exact ih _ _ (attrsOk_add h) r hr
structure GoodY (ys : List Int) : Prop where
  ok : ∀ y ∈ ys, pointOk y = true ∧ y ≠ 65279 ∧ y ≠ 0
  safe : safeL ys = true
  few : ys.length ≤ 3000
theorem GoodY.at {ys : List Int} (h : GoodY ys) {k : Nat} (hk : k < ys.length) : pointOk (atL ys k) = true ∧ atL ys k ≠ 65279 ∧ atL ys k ≠ 0 := by
  rw [atL_in hk]
  have e : ys.getD k 0 = ys[k] := by simp [List.getD_eq_getElem?_getD, hk]
  rw [e]
  exact h.ok _ (List.getElem_mem hk)
theorem puts_ok {l : List Int} (h : ∀ y ∈ l, pointOk y = true ∧ y ≠ 65279) (hl : (puts l).length ≤ 3000) : utfOk (puts l) = true := by
  refine ok_other (fun y hy => (h y hy).1) (fun t e => ?_) hl ?_
  · exact (h 65279 (by rw [e]; exact List.mem_cons_self ..)).2 rfl
  · have h2 : ∀ m : List Int, m.length ≤ (puts m).length := by
      intro m
      induction m with
      | nil => exact Nat.le_refl _
      | cons x m ih =>
        rw [puts_cons, List.length_append, List.length_cons]
        have : 1 ≤ (put x).length := by
          unfold put enc
          split
          · simp
          · split
            · simp
            · split <;> simp
        omega
    have := h2 l
    omega
theorem chr_ok {y : Int} (h : pointOk y = true) (h2 : y ≠ 65279) : tokenOk 2 ⟨#[]⟩ [] (strOf (puts [y])) false = true := by
  have hb : bs (strOf (puts [y])) = puts [y] := bs_strOf (puts_byte _)
  have hp := puts_len [y]
  have hu : utfOk (puts [y]) = true := puts_ok (fun z hz => by rw [List.mem_singleton] at hz; subst hz; exact ⟨h, h2⟩) (by simp at hp; omega)
  have hd : dec (puts [y]) = [y] := dec_puts_ok (fun z hz => by rw [List.mem_singleton] at hz; subst hz; exact h)
  have he : (⟨#[]⟩ : ByteArray).toList.isEmpty = true := empty_yes rfl
  unfold tokenOk
  rw [if_neg (by decide), if_pos rfl, hb, hu, hd, he]
  rfl
theorem puts_one (y : Int) : puts [y] = put y := by simp [puts]
theorem end_ok : tokenOk 1 ⟨#[]⟩ [] ⟨#[]⟩ false = true := by
  have he : (⟨#[]⟩ : ByteArray).toList.isEmpty = true := empty_yes rfl
  unfold tokenOk
  rw [if_pos rfl, he]
  rfl
theorem short_part : ∀ (l acc : List Int), ∃ j, j ≤ l.length ∧ shortB acc l = acc ++ puts ((l.take j).map lowerOf) := by
  intro l
  induction l with
  | nil => intro acc; exact ⟨0, Nat.le_refl _, by simp [shortB, puts]⟩
  | cons x l ih =>
    intro acc
    unfold shortB
    split
    · exact ⟨0, Nat.zero_le _, by simp [puts]⟩
    · obtain ⟨j, hj, e⟩ := ih (acc ++ put (lowerOf x))
      refine ⟨j + 1, by simp; omega, ?_⟩
      rw [e, List.take_succ_cons, List.map_cons, puts_cons, List.append_assoc]
theorem low_point {x : Int} (h : pointOk x = true) (h2 : x ≠ 65279) : pointOk (lowerOf x) = true ∧ lowerOf x ≠ 65279 := by
  unfold lowerOf
  split
  · rename_i h1
    have hb : 65 ≤ x ∧ x ≤ 90 := by simpa [inB] using h1
    refine ⟨(pointOk_iff _).mpr ?_, by omega⟩
    omega
  · exact ⟨h, h2⟩
theorem low_bad {x : Int} (h : pointOk x = true) (h0 : x ≠ 0) (he : endTag x = false) : ∀ b ∈ put (lowerOf x), badB b = false := by
  by_cases hx : x < 128
  · have hb0 := ((pointOk_iff _).mp h).1
    have hl : pointOk (lowerOf x) = true := by
      unfold lowerOf
      split
      · rename_i h1
        have hb : 65 ≤ x ∧ x ≤ 90 := by simpa [inB] using h1
        exact (pointOk_iff _).mpr (by omega)
      · exact h
    rw [put_low hl (lowerOf_low hx)]
    intro b hb
    rw [List.mem_singleton] at hb
    subst hb
    have key : ∀ n : Nat, n < 128 → n ≠ 0 → endTag (n : Int) = false → badB (lowerOf (n : Int)) = false := by decide
    obtain ⟨n, rfl⟩ : ∃ n : Nat, x = n := ⟨x.toNat, by omega⟩
    exact key n (by omega) (by omega) he
  · rw [lowerOf_high (by omega), put_is h]
    intro b hb
    have h1 := (enc_high (x := x) (by omega) ((pointOk_iff _).mp h).2.1).2 b hb
    unfold badB isBlank isBar
    rw [inB_no (by omega)]
    simp
    omega
theorem alp_low {x : Int} (h : isAlp x = true) : 97 ≤ lowerOf x ∧ lowerOf x ≤ 122 ∧ x < 128 ∧ endTag x = false := by
  unfold isAlp inB at h
  simp only [Bool.or_eq_true, Bool.and_eq_true, decide_eq_true_eq] at h
  have e : lowerOf x = if 65 ≤ x ∧ x ≤ 90 then x + 32 else x := by
    unfold lowerOf inB
    simp only [Bool.and_eq_true, decide_eq_true_eq]
  rw [e]
  refine ⟨?_, ?_, by omega, ?_⟩
  · split <;> omega
  · split <;> omega
  · unfold endTag isBlank
    simp
    omega
theorem name_ok {ys : List Int} (h : GoodY ys) {i : Nat} (ha : isAlp (atL ys i) = true) : nameOk (bs (shortOf ys i (upTo endTag ys i))) = true := by
  have hi : i < ys.length := by
    by_cases hi : i < ys.length
    · exact hi
    · rw [atL_out (by omega)] at ha; exact absurd ha (by decide)
  obtain ⟨a1, a2, a3, a4⟩ := alp_low ha
  obtain ⟨e, he⟩ : ∃ e, e = upTo endTag ys i := ⟨_, rfl⟩
  have hel : e ≤ ys.length := by rw [he]; exact upTo_le (by omega)
  have hie : i + 1 ≤ e := by rw [he, upTo_next hi a4]; exact upTo_ge _ _ _
  rw [← he]
  have hsub : ∀ y ∈ sub ys i e, (pointOk y = true ∧ y ≠ 65279 ∧ y ≠ 0) ∧ endTag y = false := by
    intro y hy
    obtain ⟨k, hk, rfl⟩ := List.getElem_of_mem hy
    have hsl : (sub ys i e).length = e - i := sub_len hel
    have e1 := sub_at (ys := ys) (i := i) (j := e) (k := k) (by omega) hel
    have e2 : (sub ys i e).getD k 0 = (sub ys i e)[k] := by simp [List.getD_eq_getElem?_getD, hk]
    have hu := upTo_not (p := endTag) (ys := ys) ys.length i (i + k) (by omega) (by omega) (by rw [← he]; omega)
    rw [← e2, e1, ← atL_in hu.1]
    exact ⟨h.at hu.1, hu.2⟩
  have hcons : sub ys i e = atL ys i :: (sub ys i e).drop 1 := by
    have hsl : (sub ys i e).length = e - i := sub_len hel
    have h0 : 0 < (sub ys i e).length := by omega
    have e1 := sub_at (ys := ys) (i := i) (j := e) (k := 0) (by omega) hel
    have e2 : (sub ys i e).getD 0 0 = (sub ys i e)[0] := by simp [List.getD_eq_getElem?_getD, h0]
    rw [Nat.add_zero, ← atL_in hi] at e1
    conv => lhs; rw [← List.drop_zero (l := sub ys i e), List.drop_eq_getElem_cons h0, ← e2, e1]
  obtain ⟨D, hD⟩ : ∃ D, D = (sub ys i e).drop 1 := ⟨_, rfl⟩
  rw [← hD] at hcons
  have hok := (h.at hi)
  have hlp := low_point hok.1 hok.2.1
  have hput : put (lowerOf (atL ys i)) = [lowerOf (atL ys i)] := put_low hlp.1 (by omega)
  have hstep : shortB [] (sub ys i e) = shortB [lowerOf (atL ys i)] D := by
    rw [hcons, shortB, hput, if_neg (by simp)]; rfl
  obtain ⟨j, hj, hB⟩ := short_part D [lowerOf (atL ys i)]
  have hpts : ∀ y ∈ ((atL ys i) :: D.take j).map lowerOf, pointOk y = true ∧ y ≠ 65279 := by
    intro y hy
    obtain ⟨z, hz, rfl⟩ := List.mem_map.mp hy
    have hz' : z ∈ sub ys i e := by
      rw [hcons]
      rcases List.mem_cons.mp hz with rfl | hz
      · exact List.mem_cons_self ..
      · exact List.mem_cons_of_mem _ (List.mem_of_mem_take hz)
    have := (hsub z hz').1
    exact low_point this.1 this.2.1
  have hname : shortB [] (sub ys i e) = puts (((atL ys i) :: D.take j).map lowerOf) := by
    rw [hstep, hB, List.map_cons, puts_cons, hput]
  have hbs : bs (shortOf ys i e) = puts (((atL ys i) :: D.take j).map lowerOf) := by
    unfold shortOf
    rw [hname]
    exact bs_strOf (puts_byte _)
  have hsz : (puts (((atL ys i) :: D.take j).map lowerOf)).length ≤ 60 := by
    rw [← hname]; exact short_size _ _ (by simp)
  have hhd : puts (((atL ys i) :: D.take j).map lowerOf) = lowerOf (atL ys i) :: puts ((D.take j).map lowerOf) := by
    rw [List.map_cons, puts_cons, hput]; rfl
  rw [hbs]
  unfold nameOk
  rw [puts_ok hpts (by omega)]
  have hl1 : 1 ≤ (puts (((atL ys i) :: D.take j).map lowerOf)).length := by rw [hhd]; simp
  rw [inB_yes (x := ((puts (((atL ys i) :: D.take j).map lowerOf)).length : Int)) (by omega) (by omega)]
  rw [show (puts (((atL ys i) :: D.take j).map lowerOf)).getD 0 0 = lowerOf (atL ys i) by rw [hhd]; rfl, inB_yes a1 a2]
  simp only [Bool.true_and, Bool.not_eq_true', List.any_eq_false]
  intro b hb
  unfold puts at hb
  obtain ⟨z, hz, hb⟩ := List.mem_flatMap.mp hb
  obtain ⟨x, hx, rfl⟩ := List.mem_map.mp hz
  have hx' : x ∈ sub ys i e := by
    rw [hcons]
    rcases List.mem_cons.mp hx with rfl | hx
    · exact List.mem_cons_self ..
    · exact List.mem_cons_of_mem _ (List.mem_of_mem_take hx)
  have hg := hsub x hx'
  rw [low_bad hg.1.1 hg.1.2.2 hg.2 b hb]
  decide
def TokGood (t : TokD) : Prop := t.k = 3 ∨ t.k = 4 ∨ tokenOk t.k t.nm t.rs t.tx t.sf = true
theorem good_tag {ys : List Int} (h : GoodY ys) {i : Nat} (ha : isAlp (atL ys i) = true) {kk : Int} (hkk : kk = 5 ∨ kk = 6) : TokGood (tagM ys kk i).1 := by
  have he : (⟨#[]⟩ : ByteArray).toList.isEmpty = true := empty_yes rfl
  have hn := name_ok h ha
  unfold tagM
  rcases ht : tagF ys (ys.length + 1) (upTo endTag ys i) [] with _ | ⟨rs, sf, j⟩
  · exact .inr (.inr end_ok)
  · have hr := tag_attrs _ _ _ (show attrsOk [] = true by rfl) _ ht
    refine .inr (.inr ?_)
    rcases hkk with rfl | rfl
    · simp only [if_neg (show ¬ ((5 : Int) = 6) by decide)]
      unfold tokenOk
      rw [if_neg (by decide), if_neg (by decide), if_neg (by decide), if_neg (by decide), if_pos rfl, he, hn]
      simpa using hr
    · simp only [if_pos]
      unfold tokenOk
      rw [if_neg (by decide), if_neg (by decide), if_neg (by decide), if_neg (by decide), if_neg (by decide), if_pos rfl, he, hn]
      rfl
theorem good_char {ys : List Int} (h : GoodY ys) {i : Nat} (hi : i < ys.length) : TokGood (charM ys i).1 := by
  have hg := h.at hi
  refine .inr (.inr ?_)
  show tokenOk 2 ⟨#[]⟩ [] (strOf (put (atL ys i))) false = true
  rw [← puts_one]
  exact chr_ok hg.1 hg.2.1
theorem rem_k (ys : List Int) (i : Nat) : (remM ys i).1.k = 3 := rfl
theorem com_k (ys : List Int) (i : Nat) : (comM ys i).1.k = 3 := by
  unfold comM
  by_cases h1 : stands ys i [62] = true
  · rw [if_pos h1]; rfl
  · rw [if_neg h1]
    by_cases h2 : stands ys i [45, 62] = true
    · rw [if_pos h2]; rfl
    · rw [if_neg h2]; rfl
theorem mark_k (ys : List Int) (i : Nat) : (markM ys i).1.k = 3 ∨ (markM ys i).1.k = 4 := by
  unfold markM
  by_cases h1 : stands ys i [45, 45] = true
  · rw [if_pos h1]; exact .inl (com_k _ _)
  · rw [if_neg h1]
    by_cases h2 : standsLow ys i docL = true
    · rw [if_pos h2]; exact .inr rfl
    · rw [if_neg h2]; exact .inl (rem_k _ _)
theorem good_tok {ys : List Int} (h : GoodY ys) : ∀ (f i : Nat), TokGood (tokM ys f i).1 := by
  intro f
  induction f with
  | zero => intro i; exact .inr (.inr end_ok)
  | succ f ih =>
    intro i
    by_cases hi : i < ys.length
    · by_cases h38 : atL ys i = 38
      · rw [tok_ref hi h38]
        obtain ⟨n, y, e, _, _, hy, _⟩ := ref_facts false h.few hi h38
        have hne := ref_not h.safe h38
        rw [e] at hne ⊢
        exact .inr (.inr (chr_ok hy (hne y (List.mem_singleton.mpr rfl))))
      · by_cases h60 : atL ys i = 60
        · by_cases h33 : atL ys (i + 1) = 33
          · rw [tok_mark hi h60 h33]
            rcases mark_k ys (i + 2) with e | e
            · exact .inl e
            · exact .inr (.inl e)
          · by_cases h47 : atL ys (i + 1) = 47
            · rcases ha : isAlp (atL ys (i + 2)) with _ | _
              · by_cases h1 : atL ys (i + 2) = -1
                · rw [tok_none hi h60 h47 h1]; exact good_char h hi
                · by_cases h62 : atL ys (i + 2) = 62
                  · rw [tok_again hi h60 h47 h62]; exact ih _
                  · rw [tok_rem hi h60 h47 h1 h62 ha]; exact .inl (rem_k _ _)
              · rw [tok_close hi h60 h47 ha]; exact good_tag h ha (.inr rfl)
            · rcases ha : isAlp (atL ys (i + 1)) with _ | _
              · by_cases h63 : atL ys (i + 1) = 63
                · rw [tok_ask hi h60 h63]; exact .inl (rem_k _ _)
                · rw [tok_else hi h60 h33 h47 ha h63]; exact good_char h hi
              · rw [tok_open hi h60 ha]; exact good_tag h ha (.inl rfl)
        · rw [tok_plain hi h38 h60]; exact good_char h hi
    · rw [tok_over (by omega)]; exact .inr (.inr end_ok)
theorem toks_last {ys : List Int} (hl : ys.length ≤ 3000) : ∀ (d i : Nat), ys.length - i ≤ d → i ≤ ys.length → 0 < (toksV ys i).length ∧ ∀ k (hk : k < (toksV ys i).length), ((toksV ys i)[k].k = 1 ↔ k + 1 = (toksV ys i).length) := by
  intro d
  induction d with
  | zero =>
    intro i h hi
    have tb := tokV_tells hl i
    have h1 : (tokV ys i).1.k = 1 := by
      by_cases h1 : (tokV ys i).1.k = 1
      · exact h1
      · have := tb.more h1; have := tb.le; omega
    rw [toks_end h1]
    refine ⟨by simp, fun k hk => ?_⟩
    simp only [List.length_singleton] at hk ⊢
    obtain rfl : k = 0 := by omega
    simp [h1]
  | succ d ih =>
    intro i h hi
    have tb := tokV_tells hl i
    by_cases h1 : (tokV ys i).1.k = 1
    · rw [toks_end h1]
      refine ⟨by simp, fun k hk => ?_⟩
      simp only [List.length_singleton] at hk ⊢
      obtain rfl : k = 0 := by omega
      simp [h1]
    · rw [toks_more hl h1]
      have h2 := tb.more h1
      obtain ⟨p1, p2⟩ := ih (tokV ys i).2 (by omega) tb.le
      refine ⟨by simp, fun k hk => ?_⟩
      cases k with
      | zero =>
        simp only [List.getElem_cons_zero, List.length_cons]
        constructor
        · intro e; exact absurd e h1
        · intro e; omega
      | succ k =>
        simp only [List.getElem_cons_succ, List.length_cons]
        have := p2 k (by simpa using hk)
        rw [this]
        omega
theorem toks_plain {ys : List Int} (hl : ys.length ≤ 3000) (hp : ∀ y ∈ ys, y ≠ 38 ∧ y ≠ 60) : ∀ (d i : Nat), ys.length - i ≤ d → i ≤ ys.length → (toksV ys i).length = ys.length - i + 1 := by
  intro d
  induction d with
  | zero =>
    intro i h hi
    have e : tokV ys i = (endT, ys.length) := tok_over (by omega)
    rw [toks_end (by rw [e]; rfl)]
    simp; omega
  | succ d ih =>
    intro i h hi
    by_cases hk : i < ys.length
    · have hq : atL ys i ≠ 38 ∧ atL ys i ≠ 60 := by
        rw [atL_in hk]
        have e : ys.getD i 0 = ys[i] := by simp [List.getD_eq_getElem?_getD, hk]
        rw [e]; exact hp _ (List.getElem_mem hk)
      have e : tokV ys i = charM ys i := tok_plain hk hq.1 hq.2
      rw [toks_more hl (by rw [e]; show (2 : Int) ≠ 1; decide), e]
      show (toksV ys (i + 1)).length + 1 = _
      rw [ih (i + 1) (by omega) hk]
      omega
    · have e : tokV ys i = (endT, ys.length) := tok_over (by omega)
      rw [toks_end (by rw [e]; rfl)]
      simp; omega
end Go.Proofs.YtggfifchkecnjaaGreatDoor

/- The law FnExactTokens, walked, where the program's table lies as its text lays it. -/
namespace Go.Proofs.YtggfifchkecnjaaGreatDoor
open Go.RowKit
set_option maxRecDepth 100000
set_option linter.unusedVariables false

theorem toks_all {ys : List Int} (hl : ys.length ≤ 3000) (Q : TokD → Prop) (hQ : ∀ i, i ≤ ys.length → Q (tokV ys i).1) : ∀ (d i : Nat), ys.length - i ≤ d → i ≤ ys.length → ∀ t ∈ toksV ys i, Q t := by
  intro d
  induction d with
  | zero =>
    intro i h hi t ht
    have tb := tokV_tells hl i
    by_cases h1 : (tokV ys i).1.k = 1
    · rw [toks_end h1] at ht
      rw [List.mem_singleton] at ht
      subst ht
      exact hQ i hi
    · have := tb.more h1
      have := tb.le
      omega
  | succ d ih =>
    intro i h hi t ht
    have tb := tokV_tells hl i
    by_cases h1 : (tokV ys i).1.k = 1
    · rw [toks_end h1] at ht
      rw [List.mem_singleton] at ht
      subst ht
      exact hQ i hi
    · rw [toks_more hl h1] at ht
      have h2 := tb.more h1
      rcases List.mem_cons.mp ht with rfl | ht
      · exact hQ i hi
      · exact ih _ (by omega) tb.le t ht
def toksOf (xs : List Int) : List TokD := if xs.length ≤ 3000 then toksV (xs.map clean) 0 else []
theorem itokens_all {v : Value} {xs : List Int} {w : World} (ho : Older w) (h : Sl .i64 w v xs) (hm : xs.length ≤ 1099511627776) : Calls Tryz.prog 7 #[v] w fun e w' => ∃ tv qs, e = .returned tv ∧ OwnK w.heap.size w' tv qs ∧ ApartK qs ∧ qs.map (fun q => q.1) = toksOf xs ∧ Below w.heap.size w w' := by
  unfold toksOf
  by_cases hl : xs.length ≤ 3000
  · rw [if_pos hl]; exact itokens_any ho h hl
  · rw [if_neg hl]
    refine (itokens_none h (by omega) hm).mono ?_
    rintro e w' ⟨tv, rfl, o, b⟩
    exact ⟨tv, [], rfl, o, apartK_nil, rfl, b⟩
theorem stokens_all {v : Value} {xs : List Int} {w : World} (h : Sl .i64 w v xs) (hm : xs.length ≤ 1099511627776) : Calls Tryz.prog 8 #[v] w fun e w' => ∃ tv qs, e = .returned tv ∧ OwnK w.heap.size w' tv qs ∧ ApartK qs ∧ qs.map (fun q => q.1) = toksOf xs ∧ Below w.heap.size w w' := by
  unfold toksOf
  by_cases hl : xs.length ≤ 3000
  · rw [if_pos hl]; exact stokens_any h hl
  · rw [if_neg hl]
    refine (stokens_none h (by omega) hm).mono ?_
    rintro e w' ⟨tv, rfl, o, b⟩
    exact ⟨tv, [], rfl, o, apartK_nil, rfl, b⟩
theorem ownK_slice {B : Nat} {w : World} {v : Value} {qs : List (TokD × Value)} (h : OwnK B w v qs) : ∃ a n c, v = .slice a n c := by
  obtain ⟨_, h | ⟨_, _, _, h, _⟩⟩ := h.row
  · exact ⟨_, _, _, h.1⟩
  · exact ⟨_, _, _, h⟩

end Go.Proofs.YtggfifchkecnjaaGreatDoor
