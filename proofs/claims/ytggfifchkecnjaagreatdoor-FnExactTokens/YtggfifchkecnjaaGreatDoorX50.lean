/- The specification's Tokens. No condition. -/
import Derived.Test.YtggfifchkecnjaaGreatDoorX49
import Derived.Test.YtggfifchkecnjaaGreatDoorX44
namespace Go.Proofs.YtggfifchkecnjaaGreatDoor
open Go.RowKit
set_option maxRecDepth 100000
set_option linter.unusedVariables false

structure TkS (w : World) (tv : Value) (qs : List (TokD × Value)) (wr : World) : Prop where
  own : OwnK w.heap.size wr tv qs
  ap : ApartK qs
  bel : Below w.heap.size w wr
theorem TkS.below {w : World} {tv : Value} {qs : List (TokD × Value)} {wr wr' : World} (h : TkS w tv qs wr) (b : Below wr.heap.size wr wr') : TkS w tv qs wr' := ⟨h.own.below b, h.ap, h.bel.trans (b.mono h.bel.size)⟩
theorem TkS.snoc {w : World} {tv tv' : Value} {qs : List (TokD × Value)} {q : TokD × Value} {wr wr' : World} (h : TkS w tv qs wr) (hq : wr.ownsRow w.heap.size 81 2 q.2 q.1.rs.length (pairCells q.1.rs))
    (hn : ∀ p ∈ qs, ∀ r, q.2.ownBlock = some r → p.2.ownBlock = some r → False) (ho : wr'.ownsRow w.heap.size 30 5 tv' (qs.length + 1) (tokCells qs ++ tokRow q.1 q.2)) (hg : wr.grownBy wr' tv.ownBlock) : TkS w tv' (qs ++ [q]) wr' :=
  ⟨h.own.snoc hq ho hg, apartK_snoc h.ap hn, h.bel.grown hg h.bel.size (fun r e => (World.ownsRow.lt h.own.row r e).1)⟩

theorem stokens_none {v : Value} {xs : List Int} {w : World} (h : Sl .i64 w v xs) (hl : 3000 < xs.length) (hm : xs.length ≤ 1099511627776) :
    Calls Tryz.prog 8 #[v] w fun e w' => ∃ tv, e = .returned tv ∧ OwnK w.heap.size w' tv [] ∧ Below w.heap.size w w' := by
  obtain ⟨a, ca, rfl, _, _, _, _⟩ := h
  have hl2 : (3000 : Int) < (xs.length : Int) := by omega
  have r4 : (w.alloc (.cells #[] 30)).ownsRow w.heap.size 30 5 (.slice (some ⟨w.heap.size, 0, none⟩) 0 0) 0 [] := World.ownsRow_lit w #[] 0 (Nat.le_refl _) (Nat.zero_le _) rfl
  go_enter Tryz.func8, Tryz.ntmps8
  go_wp2
  go_ret
  exact ⟨_, rfl, ownK_nil _ _ r4, (Below.refl _ _).alloc (Nat.le_refl _) _⟩

theorem itokens_none {v : Value} {xs : List Int} {w : World} (h : Sl .i64 w v xs) (hl : 3000 < xs.length) (hm : xs.length ≤ 1099511627776) :
    Calls Tryz.prog 7 #[v] w fun e w' => ∃ tv, e = .returned tv ∧ OwnK w.heap.size w' tv [] ∧ Below w.heap.size w w' := by
  obtain ⟨a, ca, rfl, _, _, _, _⟩ := h
  have hl2 : (3000 : Int) < (xs.length : Int) := by omega
  obtain ⟨w1, hw1⟩ : ∃ z, z = w.alloc (.cells #[.int .i64 0] 3) := ⟨_, rfl⟩
  have r4 : (w.alloc (.cells #[] 30)).ownsRow w.heap.size 30 5 (.slice (some ⟨w.heap.size, 0, none⟩) 0 0) 0 [] := World.ownsRow_lit w #[] 0 (Nat.le_refl _) (Nat.zero_le _) rfl
  clear hw1 w1
  go_enter Tryz.func7, Tryz.ntmps7
  go_wp2
  go_ret
  exact ⟨_, rfl, ownK_nil _ _ r4, (Below.refl _ _).alloc (Nat.le_refl _) _⟩

set_option maxHeartbeats 1000000 in
theorem stokens_any {v : Value} {xs : List Int} {w : World} (h : Sl .i64 w v xs) (hl : xs.length ≤ 3000) :
    Calls Tryz.prog 8 #[v] w fun e w' => ∃ tv qs, e = .returned tv ∧ OwnK w.heap.size w' tv qs ∧ ApartK qs ∧ qs.map (fun q => q.1) = toksV (xs.map clean) 0 ∧ Below w.heap.size w w' := by
  obtain ⟨iT, hiT, hT0, hT1, hT2⟩ := info_parts Tryz.infoTok
  have h0 := h
  obtain ⟨a, ca, rfl, _, _, _, _⟩ := h
  obtain ⟨ys, hys⟩ : ∃ z, z = xs.map clean := ⟨_, rfl⟩
  have hlen : ys.length = xs.length := by rw [hys, List.length_map]
  have hyl : ys.length ≤ 3000 := by omega
  have HP := (show Hid (∀ W, Below w.heap.size w W → SPage W (.slice a xs.length ca) xs ys) from fun W b => ⟨h0.below b, hl, hys⟩)
  rw [← hys]
  have hl2 : ¬ (3000 : Int) < (xs.length : Int) := by omega
  obtain ⟨w1, hw1⟩ : ∃ z, z = w.alloc (.cells #[] 30) := ⟨_, rfl⟩
  have r4 : w1.ownsRow w.heap.size 30 5 (.slice (some ⟨w.heap.size, 0, none⟩) 0 0) 0 [] := by rw [hw1]; exact World.ownsRow_lit w #[] 0 (Nat.le_refl _) (Nat.zero_le _) rfl
  have TK := (show Hid (TkS w (.slice (some ⟨w.heap.size, 0, none⟩) 0 0) [] w1) from ⟨ownK_nil _ _ r4, apartK_nil, by rw [hw1]; exact (Below.refl _ _).alloc (Nat.le_refl _) _⟩)
  clear h0 hys r4
  go_enter Tryz.func8, Tryz.ntmps8
  go_upto_region 2 with fail
  rw [← hw1]
  clear hw1
  go_wp2_with fail
  go_loopw [3, 4] (fun u c wr => ∃ (k : Nat) (qs : List (TokD × Value)), k ≤ ys.length ∧ qs.length ≤ 3001 ∧ c = .int .i64 k ∧ Hid (TkS w u qs wr ∧ qs.map (fun q => q.1) ++ toksV ys k = toksV ys 0)) (fun _ c _ => ys.length - (intOf c).toNat)
  case atStart => exact ⟨0, [], Nat.zero_le _, Nat.zero_le _, rfl, TK.out, rfl⟩
  case round =>
    clear TK
    obtain ⟨k, qs, hk, hq, rfl, I⟩ := hrel
    have T0 := (show Hid (TkS w u3 qs wr) from I.out.1)
    have HV := (show Hid (qs.map (fun q => q.1) ++ toksV ys k = toksV ys 0) from I.out.2)
    clear I
    have tb := tokV_tells hyl k
    have hT1 : (tokV ys k).1.k = 1 → toksV ys k = [(tokV ys k).1] := toks_end
    have hT2' : (tokV ys k).1.k ≠ 1 → toksV ys k = (tokV ys k).1 :: toksV ys (tokV ys k).2 := toks_more hyl
    have cn := nextToken_data (HP.out wr T0.out.bel) k hk ⟨#[]⟩
    obtain ⟨⟨⟨tk, nm, rs, tx, sf⟩, j⟩, hr⟩ : ∃ r, r = tokV ys k := ⟨_, rfl⟩
    rw [← hr] at cn tb hT1 hT2'
    have CN := (show Hid _ from cn)
    have TB := (show Hid (TokB ys k (⟨tk, nm, rs, tx, sf⟩, j)) from tb)
    have HT1 := (show Hid (tk = 1 → toksV ys k = [⟨tk, nm, rs, tx, sf⟩]) from hT1)
    have HT2 := (show Hid (tk ≠ 1 → toksV ys k = ⟨tk, nm, rs, tx, sf⟩ :: toksV ys j) from hT2')
    have hln := toks_len hyl ys.length 0 (by omega)
    rw [← HV.out, List.length_append, List.length_map] at hln
    clear cn hr tb hT1 hT2'
    go_wp2_with fail
    go_at_call 24
    refine Calls.mono CN.out ?_
    rintro e w5 ⟨u5, rfl, ⟨va, rfl, row5⟩, b5⟩
    simp only at row5
    obtain ⟨a5, l5, d5, rfl⟩ := row_slice row5
    have T5 := (show Hid (TkS w u3 qs w5) from T0.out.below b5)
    have NEW := (show Hid (∀ p ∈ qs, ∀ r, (Value.slice a5 l5 d5).ownBlock = some r → p.2.ownBlock = some r → False) from fun p hp r e1 e2 => by
      have h1 := (World.ownsRow.lt row5 r e1).1
      have h2 := (World.ownsRow.lt (T0.out.own.each p hp) r e2).2
      omega)
    have R5 := (show Hid (w5.ownsRow w.heap.size 81 2 (.slice a5 l5 d5) rs.length (pairCells rs)) from row_base row5 T0.out.bel.size)
    unfold tokVal
    obtain ⟨w6, hw6⟩ : ∃ z, z = w5.alloc (.cells #[.int .i64 tk, .string nm, .slice a5 l5 d5, .string tx, .bool sf] 30) := ⟨_, rfl⟩
    have b6 : Below w5.heap.size w5 w6 := by rw [hw6]; exact (Below.refl _ _).alloc (Nat.le_refl _) _
    have g6 : w6.heap[w5.heap.size]? = some (.cells #[.int .i64 tk, .string nm, .slice a5 l5 d5, .string tx, .bool sf] 30 (0, 0)) := by rw [hw6]; exact heap_alloc_new _ _
    obtain ⟨w7, hw7⟩ : ∃ z, z = w6.alloc (.cells #[.int .i64 tk, .string nm, .slice a5 l5 d5, .string tx, .bool sf] 30) := ⟨_, rfl⟩
    have b7 : Below w6.heap.size w6 w7 := by rw [hw7]; exact (Below.refl _ _).alloc (Nat.le_refl _) _
    have hs6 : w6.heap.size = w5.heap.size + 1 := by rw [hw6, World.size_alloc]
    have sv7 := sv_tok w6 tk nm (.slice a5 l5 d5) tx sf rs
    rw [← hw7] at sv7
    have T7 := (show Hid _ from (T5.out.below b6).below b7)
    have R7 := (show Hid _ from ownsRow_below (ownsRow_below R5.out b6) b7)
    have G7 := (show Hid (w7.heap[w5.heap.size]? = some (.cells #[.int .i64 tk, .string nm, .slice a5 l5 d5, .string tx, .bool sf] 30 (0, 0))) from (b7.block _ (lt_of_block g6)).trans g6)
    have SV7 := (show Hid _ from sv7)
    have HLO := (show Hid (∀ r tv, TkS w tv qs w5 → tv.ownBlock = some r → r ≠ w5.heap.size) from fun r tv ht e => by
      have := (World.ownsRow.lt ht.own.row r e).2
      omega)
    have hq2 : qs.length ≤ 3000 := by
      by_cases h1 : tk = 1
      · have := HT1.out h1; rw [this] at hln; simp at hln; omega
      · have := HT2.out h1; rw [this] at hln; simp at hln; omega
    rw [hs6] at SV7
    have hsz7 : w.heap.size ≤ w7.heap.size := T7.out.bel.size
    have HW7 := (show Hid (w7 = (w5.alloc (.cells #[.int .i64 tk, .string nm, .slice a5 l5 d5, .string tx, .bool sf] 30)).alloc (.cells #[.int .i64 tk, .string nm, .slice a5 l5 d5, .string tx, .bool sf] 30)) from (show _ = _ by rw [← hw6]; exact hw7))
    clear CN row5 b5 T0 hw6 b6 g6 hw7 b7 hs6 sv7 R5 hln
    go_wp2_with (at_builtin
                 rw [← HW7.out]
                 refine wpList_appV _ rfl (.tmp 18) (.tmp 20) 26 rfl w.heap.size 30 iT _ 5 72 Tryz.underlying26 hiT hT0 hT1 hT2 rfl (by decide) _ _ qs.length 1 (tokCells qs) (tokRow ⟨tk, nm, rs, tx, sf⟩ (.slice a5 l5 d5)) rfl rfl T7.out.own.row SV7.out rfl (tok_one _ _ _ _) (by omega) (by unfold maxLen; omega) hsz7 ?_
                 intro v' w8 o8 g8
                 have T8 := (show Hid _ from T7.out.snoc (q := (⟨tk, nm, rs, tx, sf⟩, .slice a5 l5 d5)) R7.out NEW.out o8 g8)
                 have G8 := (show Hid (w8.heap[w5.heap.size]? = some (.cells #[.int .i64 tk, .string nm, .slice a5 l5 d5, .string tx, .bool sf] 30 (0, 0))) from (g8.block _ (lt_of_block G7.out) (fun e => HLO.out _ _ T5.out e.symm rfl)).trans G7.out)
                 have ck := (cell_block (k := 0) G8.out rfl : w8.cell? ⟨w5.heap.size, 0, none⟩ = some (.int .i64 tk))
                 clear o8 g8)
    · rename_i hk1
      have h1 : tk = 1 := by simpa using hk1
      go_ret
      exact ⟨v', qs ++ [(⟨tk, nm, rs, tx, sf⟩, .slice a5 l5 d5)], rfl, T8.out.own, T8.out.ap, by rw [List.map_append, ← HV.out, HT1.out h1]; rfl, T8.out.bel⟩
    · rename_i hk1
      have h1 : tk ≠ 1 := by simpa using hk1
      have hmo : k < j := TB.out.more h1
      have hle : j ≤ ys.length := TB.out.le
      refine ⟨⟨j, qs ++ [(⟨tk, nm, rs, tx, sf⟩, .slice a5 l5 d5)], hle, by rw [List.length_append, List.length_singleton]; omega, rfl, T8.out, ?_⟩, ?_⟩
      · rw [List.map_append, List.append_assoc, ← HV.out, HT2.out h1]; rfl
      · simp [intOf]; omega
end Go.Proofs.YtggfifchkecnjaaGreatDoor

/- The law FnExactTokens, walked, where the program's table lies as its text lays it. -/
namespace Go.Proofs.YtggfifchkecnjaaGreatDoor
open Go.RowKit
set_option maxRecDepth 100000
set_option linter.unusedVariables false

theorem toks_all {ys : List Int} (hl : ys.length ≤ 3000) (Q : TokD → Prop) (hQ : ∀ i, i ≤ ys.length → Q (tokV ys i).1) : ∀ (d i : Nat), ys.length - i ≤ d → i ≤ ys.length → ∀ t ∈ toksV ys i, Q t := by
  intro d
  induction d with
  | zero =>
    intro i h hi t ht
    have tb := tokV_tells hl i
    by_cases h1 : (tokV ys i).1.k = 1
    · rw [toks_end h1] at ht
      rw [List.mem_singleton] at ht
      subst ht
      exact hQ i hi
    · have := tb.more h1
      have := tb.le
      omega
  | succ d ih =>
    intro i h hi t ht
    have tb := tokV_tells hl i
    by_cases h1 : (tokV ys i).1.k = 1
    · rw [toks_end h1] at ht
      rw [List.mem_singleton] at ht
      subst ht
      exact hQ i hi
    · rw [toks_more hl h1] at ht
      have h2 := tb.more h1
      rcases List.mem_cons.mp ht with rfl | ht
      · exact hQ i hi
      · exact ih _ (by omega) tb.le t ht
def toksOf (xs : List Int) : List TokD := if xs.length ≤ 3000 then toksV (xs.map clean) 0 else []
theorem toksOf_few (xs : List Int) : (∀ t ∈ toksOf xs, t.rs.length ≤ 20) ∧ (toksOf xs).length ≤ 3001 := by
  unfold toksOf
  split
  · rename_i hl
    have hyl : (xs.map clean).length ≤ 3000 := by rw [List.length_map]; exact hl
    refine ⟨toks_all hyl _ (fun i _ => (tokV_tells hyl i).few.1) _ 0 (Nat.le_refl _) (Nat.zero_le _), ?_⟩
    have := toks_len hyl (xs.map clean).length 0 (by omega)
    omega
  · exact ⟨fun t ht => by simp at ht, by simp⟩
theorem itokens_all {v : Value} {xs : List Int} {w : World} (ho : Older w) (h : Sl .i64 w v xs) (hm : xs.length ≤ 1099511627776) : Calls Tryz.prog 7 #[v] w fun e w' => ∃ tv qs, e = .returned tv ∧ OwnK w.heap.size w' tv qs ∧ ApartK qs ∧ qs.map (fun q => q.1) = toksOf xs ∧ Below w.heap.size w w' := by
  unfold toksOf
  by_cases hl : xs.length ≤ 3000
  · rw [if_pos hl]; exact itokens_any ho h hl
  · rw [if_neg hl]
    refine (itokens_none h (by omega) hm).mono ?_
    rintro e w' ⟨tv, rfl, o, b⟩
    exact ⟨tv, [], rfl, o, apartK_nil, rfl, b⟩
theorem stokens_all {v : Value} {xs : List Int} {w : World} (h : Sl .i64 w v xs) (hm : xs.length ≤ 1099511627776) : Calls Tryz.prog 8 #[v] w fun e w' => ∃ tv qs, e = .returned tv ∧ OwnK w.heap.size w' tv qs ∧ ApartK qs ∧ qs.map (fun q => q.1) = toksOf xs ∧ Below w.heap.size w w' := by
  unfold toksOf
  by_cases hl : xs.length ≤ 3000
  · rw [if_pos hl]; exact stokens_any h hl
  · rw [if_neg hl]
    refine (stokens_none h (by omega) hm).mono ?_
    rintro e w' ⟨tv, rfl, o, b⟩
    exact ⟨tv, [], rfl, o, apartK_nil, rfl, b⟩
theorem OwnK.marked {A B : Nat} {w3 w w' : World} {v : Value} {qs : List (TokD × Value)} (h : OwnK A w v qs) (h3 : OwnK A w3 v qs) (hB : w3.heap.size ≤ B) (f : MkFk B w w') : OwnK A w' v qs :=
  ⟨f.row h.row (fun r e => Nat.lt_of_lt_of_le (World.ownsRow.lt h3.row r e).2 hB), fun q hq => f.row (h.each q hq) (fun r e => Nat.lt_of_lt_of_le (World.ownsRow.lt (h3.each q hq) r e).2 hB)⟩
theorem OwnK.ints {A B : Nat} {w w' : World} {v u : Value} {qs : List (TokD × Value)} {xs : List Int} (h : OwnK A w v qs) (o : Own B 3 .i64 w u xs) (hg : w.grownBy w' u.ownBlock) : OwnK A w' v qs :=
  ⟨kept_kind h.row hg (fun r e => by obtain ⟨cs, fr, hh⟩ := row_kind o e; exact ⟨cs, _, fr, hh, by decide⟩), fun q hq => kept_kind (h.each q hq) hg (fun r e => by obtain ⟨cs, fr, hh⟩ := row_kind o e; exact ⟨cs, _, fr, hh, by decide⟩)⟩
theorem ownK_slice {B : Nat} {w : World} {v : Value} {qs : List (TokD × Value)} (h : OwnK B w v qs) : ∃ a n c, v = .slice a n c := by
  obtain ⟨_, h | ⟨_, _, _, h, _⟩⟩ := h.row
  · exact ⟨_, _, _, h.1⟩
  · exact ⟨_, _, _, h⟩

set_option maxHeartbeats 2000000 in
set_option maxRecDepth 100000 in
theorem fnExactTokens_walk {v : Value} {xs : List Int} (w : World) (ho : Older w) (h : Sl .i64 w v xs) (hwf : ∀ n ∈ xs, (Lit.int .i64 n).wf = true) :
    Calls Tryz.prog 4 #[v] w fun e w' => e = .returned (.bool true) ∧ Below w.heap.size w w' := by
  have h0 := h
  have hw := h
  have HO := (show Hid (Older w) from ho)
  obtain ⟨a, ca, rfl, _, _, _, ha⟩ := h
  clear ha ho hwf
  by_cases hbig : 1048576 < xs.length
  · go_enter Tryz.func4, Tryz.ntmps4
    go_wp2
    go_ret
    exact ⟨rfl, Below.refl _ _⟩
  have hn : xs.length ≤ 1048576 := by omega
  obtain ⟨ts, hts⟩ : ∃ ts, ts = toksOf xs := ⟨_, rfl⟩
  have hfl := toksOf_few xs
  rw [← hts] at hfl
  have HFEW := (show Hid (∀ t ∈ ts, t.rs.length ≤ 20) from hfl.1)
  have HLEN := (show Hid (ts.length ≤ 3001) from hfl.2)
  have HS := (show Hid (∀ (v : Value) (w : World), Sl .i64 w v xs → Calls Tryz.prog 8 #[v] w fun e w' => ∃ tv qs, e = .returned tv ∧ OwnK w.heap.size w' tv qs ∧ ApartK qs ∧ qs.map (fun q => q.1) = ts ∧ Below w.heap.size w w') from fun v w h => by rw [hts]; exact stokens_all h (by omega))
  have HI := (show Hid (∀ (v : Value) (w : World), Older w → Sl .i64 w v xs → Calls Tryz.prog 7 #[v] w fun e w' => ∃ tv qs, e = .returned tv ∧ OwnK w.heap.size w' tv qs ∧ ApartK qs ∧ qs.map (fun q => q.1) = ts ∧ Below w.heap.size w w') from fun v w ho h => by rw [hts]; exact itokens_all ho h (by omega))
  clear hts hfl
  go_enter Tryz.func4, Tryz.ntmps4
  go_wp2_with fail
  go_at_call 10
  refine (toI_any h0 (by omega)).mono ?_
  rintro e w1 ⟨x1, rfl, ox1, b1⟩
  replace h0 := h0.below b1
  go_wp2_with fail
  go_at_call 8
  refine (HS.out _ _ ox1.sl).mono ?_
  rintro e w2 ⟨v1, q1, rfl, o1, _, m1, b2⟩
  replace h0 := h0.below b2
  have B := b1.trans (b2.mono b1.size)
  replace o1 := o1.base b1.size
  clear ox1 b1 b2 HS
  obtain ⟨p1, l1, c1, rfl⟩ := ownK_slice o1
  go_wp2_with fail
  go_at_call 10
  refine (toI_any h0 (by omega)).mono ?_
  rintro e w3 ⟨x0, rfl, ox, b3⟩
  replace h0 := h0.below b3
  replace o1 := o1.below b3
  replace ox := ox.base B.size
  replace B := B.trans (b3.mono B.size)
  have O3 := (show Hid _ from o1)
  have hs3 := B.size
  obtain ⟨C, hC⟩ : ∃ C, C = w3.heap.size := ⟨_, rfl⟩
  have HC3 := (show Hid (w3.heap.size ≤ C) from Nat.le_of_eq hC.symm)
  have hwC : w.heap.size ≤ C := by omega
  have hCC := (show Hid (C = w3.heap.size) from hC)
  clear b3 hC hs3
  go_wp2_with fail
  go_at_call 7
  refine (HI.out _ _ (HO.out.below B) ox.sl).mono ?_
  rintro e w4 ⟨v2, q2, rfl, o2, a2, m2, b4⟩
  rw [← hCC.out] at o2
  have hC4 : C ≤ w4.heap.size := by rw [hCC.out]; exact b4.size
  clear hCC
  obtain ⟨p2, l2, c2, rfl⟩ := ownK_slice o2
  replace h0 := h0.below b4
  replace o1 := o1.below b4
  replace ox := ox.below b4
  replace B := B.trans (b4.mono B.size)
  clear b4
  have n1 := o1.at
  rw [m1] at n1
  have n2 := o2.at
  rw [m2] at n2
  go_wp2_with fail
  go_at_call 11
  refine (eqTokenS_same n2 n1 HFEW.out HLEN.out).mono ?_
  rintro e w5 ⟨rfl, b5⟩
  replace h0 := h0.below b5
  replace o1 := o1.below b5
  replace o2 := o2.below b5
  replace ox := ox.below b5
  replace B := B.trans (b5.mono B.size)
  replace hC4 := Nat.le_trans hC4 b5.size
  clear b5 n1 n2
  go_wp2_with fail
  go_at_call 10
  refine (toI_any h0 (by omega)).mono ?_
  rintro e w6 ⟨x2, rfl, ox2, b6⟩
  replace h0 := h0.below b6
  replace o1 := o1.below b6
  replace o2 := o2.below b6
  replace ox := ox.below b6
  replace B := B.trans (b6.mono B.size)
  replace hC4 := Nat.le_trans hC4 b6.size
  clear b6
  go_wp2_with fail
  go_at_call 12
  refine (eqI_any ox.sl ox2.sl (by omega) (by omega)).mono ?_
  rintro e w7 ⟨rfl, b7⟩
  rw [decide_eq_true rfl]
  clear ox2 h0
  replace o1 := o1.below b7
  replace o2 := o2.below b7
  replace ox := ox.below b7
  replace B := B.trans (b7.mono B.size)
  replace hC4 := Nat.le_trans hC4 b7.size
  clear b7
  go_wp2_with fail
  go_at_call 13
  refine (markI_any ox (by omega) (by omega) (by omega)).mono ?_
  rintro e w8 ⟨rfl, oxm, g8⟩
  replace o1 := o1.ints ox g8
  replace o2 := o2.ints ox g8
  replace B := B.grown g8 B.size (fun k hk => (Own.lt ox k hk).1)
  replace hC4 := Nat.le_trans hC4 g8.size
  clear g8 ox oxm
  have n1 := o1.at
  rw [m1] at n1
  have n2 := o2.at
  rw [m2] at n2
  go_wp2_with fail
  go_at_call 11
  refine (eqTokenS_same n2 n1 HFEW.out HLEN.out).mono ?_
  rintro e w9 ⟨rfl, b9⟩
  replace o1 := o1.below b9
  replace o2 := o2.below b9
  replace B := B.trans (b9.mono B.size)
  replace hC4 := Nat.le_trans hC4 b9.size
  clear b9 n1 n2
  have hq2 : q2.length ≤ 3001 := by
    have hh : q2.length = ts.length := by rw [← m2, List.length_map]
    rw [hh]; exact HLEN.out
  have hf2 : ∀ t ∈ q2.map (fun q => q.1), t.rs.length ≤ 20 := by rw [m2]; exact HFEW.out
  go_wp2_with fail
  go_at_call 14
  refine (markTokenS_any o2 a2 hf2 hq2).mono ?_
  rintro e w10 ⟨rfl, o2m, f10⟩
  replace o1 := o1.marked O3.out HC3.out f10
  replace B := f10.below hwC B (Nat.le_refl _) B.size
  obtain ⟨mk, hadv⟩ := mkKs_marked 1 q2
  have n2 := o2m.at
  have hf3 := mkKs_few 1 q2 hf2
  obtain ⟨ms, hms⟩ : ∃ ms, ms = (mkKs 1 q2).map fun q => q.1 := ⟨_, rfl⟩
  have hl3 : ms.length ≤ 3001 := by rw [hms, List.length_map, mkKs_len]; exact hq2
  rw [← hms] at mk n2 hf3 hadv
  have hk0 := (advKs_le hf3).1
  rw [← hadv]
  obtain ⟨K, hK⟩ : ∃ K : Int, K = 1 + advKs ms := ⟨_, rfl⟩
  rw [← hK]
  have hK0 : 0 ≤ K := by omega
  have CH := (show Hid (∀ W, ToksAt W (.slice p2 l2 c2) ms → Calls Tryz.prog 15 #[.slice p2 l2 c2, .int .i64 1] W fun e w' => e = .returned (.int .i64 K) ∧ Below W.heap.size W w') from fun W hh => by rw [hK]; exact heldTokenS_any hh mk hf3 hl3)
  have HN2 := (show Hid (ToksAt w10 (.slice p2 l2 c2) ms) from n2)
  clear f10 hms o2m o2 a2 hq2 hf2 mk n2 hk0 m2 O3 HC3 hC4 hadv hf3 hl3 hK
  go_wp2_with fail
  go_at_call 15
  refine (CH.out _ HN2.out).mono ?_
  rintro e w11 ⟨rfl, b11⟩
  replace o1 := o1.below b11
  replace B := B.trans (b11.mono B.size)
  replace HN2 := (show Hid (ToksAt _ (.slice p2 l2 c2) ms) from HN2.out.below b11)
  clear b11
  have h0 := hw.below B
  go_wp2_with fail
  go_at_call 10
  refine (toI_any h0 (by omega)).mono ?_
  rintro e w12 ⟨x3, rfl, ox3, b12⟩
  replace o1 := o1.below b12
  replace B := B.trans (b12.mono B.size)
  replace HN2 := (show Hid (ToksAt _ (.slice p2 l2 c2) ms) from HN2.out.below b12)
  clear b12 h0
  go_wp2_with fail
  go_at_call 7
  refine (HI.out _ _ (HO.out.below B) ox3.sl).mono ?_
  rintro e w13 ⟨v3, q3, rfl, o3, _, m3, b13⟩
  clear ox3
  obtain ⟨p3, l3, c3, rfl⟩ := ownK_slice o3
  replace o1 := o1.below b13
  replace B := B.trans (b13.mono B.size)
  replace HN2 := (show Hid (ToksAt _ (.slice p2 l2 c2) ms) from HN2.out.below b13)
  clear b13
  have n1 := o1.at
  rw [m1] at n1
  have n3 := o3.at
  rw [m3] at n3
  go_wp2_with fail
  go_at_call 11
  refine (eqTokenS_same n3 n1 HFEW.out HLEN.out).mono ?_
  rintro e w14 ⟨rfl, b14⟩
  clear o3 o1 n1 n3 m1 m3
  replace B := B.trans (b14.mono B.size)
  replace HN2 := (show Hid (ToksAt _ (.slice p2 l2 c2) ms) from HN2.out.below b14)
  clear b14
  go_wp2_with fail
  go_at_call 15
  refine (CH.out _ HN2.out).mono ?_
  rintro e w15 ⟨rfl, b15⟩
  replace B := B.trans (b15.mono B.size)
  clear b15 HN2
  go_wp2
  go_ret
  exact ⟨rfl, B⟩
end Go.Proofs.YtggfifchkecnjaaGreatDoor
