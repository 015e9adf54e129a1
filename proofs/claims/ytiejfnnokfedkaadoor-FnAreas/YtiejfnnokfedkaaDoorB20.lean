import Derived.Test.YtiejfnnokfedkaaDoorB19
/- The specification's l16Area, l16Get, AreaGet. No condition. -/
namespace Go.Proofs.YtiejfnnokfedkaaDoor
open Go.RowKit
set_option maxRecDepth 100000
set_option linter.unusedVariables false

set_option maxRecDepth 100000 in
theorem sl16Area_any (x : Int) (w : World) : Calls Tryd.prog 53 #[.int .i64 x] w fun e w' => e = .returned (.bool (decide (x = 0) || decide (x = 1))) ∧ w' = w := by
  go_enter Tryd.func53, Tryd.ntmps53
  by_cases h0 : x = 0
  · subst h0
    go_wp2
    go_ret
    exact ⟨rfl, rfl⟩
  · by_cases h1 : x = 1
    · subst h1
      go_wp2
      go_ret
      exact ⟨rfl, rfl⟩
    · have e0 : (x == 0) = false := by simpa using h0
      have e1 : (x == 1) = false := by simpa using h1
      go_wp2
      go_ret
      exact ⟨by simp [h0, h1], rfl⟩

set_option maxHeartbeats 1000000 in
set_option maxRecDepth 100000 in
theorem sl16Get_any {w : World} {v : Value} {d : PDisk} (h : DiskAt w v d) (hr : diskB d = true) {a : Int} (ha : a = 0 ∨ a = 1) (at' n : Nat) (hn : at' + n ≤ 4096) :
    Calls Tryd.prog 56 #[v, .int .i64 a, .int .i64 at', .int .i64 n] w fun e w' => ∃ u, e = .returned u ∧ Own w.heap.size 5 .u8 w' u (getL d a at' n) ∧ Below w.heap.size w w' := by
  have HD := (show Hid (DiskAt w v d) from h)
  obtain ⟨sa, sn, sc, la, ln, lc, rfl, _, _⟩ := h
  have HR := (show Hid (diskB d = true) from hr)
  have a0 : 0 ≤ a := by omega
  have a1 : a ≤ 1 := by omega
  have CO := (show Hid (∀ (k : Nat) W, k < n → Below w.heap.size w W → Calls Tryd.prog 39 #[.agg #[.slice sa sn sc, .slice la ln lc], .int .i64 (2 + 64 * a + ((at' : Int) + (k : Int)) / 64)] W fun e w' => e = .returned (.string (sectorD d (secOf a ((at' + k) / 64)))) ∧ Below W.heap.size W w') from fun k W hk b => by
    have e : 2 + 64 * a + ((at' : Int) + (k : Int)) / 64 = secOf a ((at' + k) / 64) := by unfold secOf; omega
    rw [e]
    exact sl15Of_any (HD.out.below b) (fit_right HR.out) (by have := diskB_len HR.out; unfold secOf; omega))
  have CS := (show Hid (∀ k : Nat, k < n → (sectorD d (secOf a ((at' + k) / 64))).size = 64) from fun k hk => sector_size HR.out (by unfold secOf; omega))
  obtain ⟨i0, hi, hz0, hz1, hz2⟩ := info_parts Tryd.infoB
  have h1 := (Hl.refl w).new #[.slice sa sn sc, .slice la ln lc] 34
  have o1 := own_empty 5 .u8 (w.alloc (.cells #[.slice sa sn sc, .slice la ln lc] 34))
  have h2 : Hl w [(w.heap.size, #[.slice sa sn sc, .slice la ln lc], 34)] ((w.alloc (.cells #[.slice sa sn sc, .slice la ln lc] 34)).alloc (.cells #[] 5)) := h1.below ((Below.refl _ _).alloc (Nat.le_refl _) _)
  rw [World.size_alloc] at o1
  have S0 := (show Hid (_ ∧ _) from ⟨o1, h2⟩)
  clear h1 o1 h2 hr ha
  go_enter Tryd.func56, Tryd.ntmps56
  go_wp2_with fail
  go_loopw [9, 10] (fun z i wr => ∃ k : Nat, k ≤ n ∧ i = .int .i64 k ∧ Own (w.heap.size + 1) 5 .u8 wr z (getL d a at' k) ∧ Hl w [(w.heap.size, #[.slice sa sn sc, .slice la ln lc], 34)] wr) (fun z i _ => n - (intOf i).toNat)
  case atStart => exact ⟨0, Nat.zero_le _, rfl, S0.out.1, S0.out.2⟩
  case round =>
    clear S0
    obtain ⟨k, hk, rfl, ho, hl⟩ := hrel
    have HO := (show Hid (Own (w.heap.size + 1) 5 .u8 wr u9 (getL d a at' k)) from ho)
    have HL := (show Hid (Hl w [(w.heap.size, #[.slice sa sn sc, .slice la ln lc], 34)] wr) from hl)
    clear ho hl
    by_cases hlt : k < n
    · have hltI : (k : Int) < n := by omega
      obtain ⟨q1, q2, _, _⟩ := rk_two HL.out.at0
      have C1 := (show Hid _ from CO.out k wr hlt HL.out.1)
      have C2 := CS.out k hlt
      obtain ⟨s, hs⟩ : ∃ s, s = sectorD d (secOf a ((at' + k) / 64)) := ⟨_, rfl⟩
      rw [← hs] at C1 C2
      have HS := (show Hid (_ = _) from hs)
      clear hs
      go_wp2_with fail
      go_at_call 39
      refine Calls.mono C1.out ?_
      rintro e w3 ⟨rfl, b3⟩
      have L3 := (show Hid _ from HL.out.below b3)
      have O3 := (show Hid (Own (w.heap.size + 1) 5 .u8 w3 u9 (getL d a at' k)) from HO.out.below b3)
      clear C1 b3 HL HO q1 q2
      have hj : (at' + k) % 64 < s.size := by omega
      obtain ⟨x, hx⟩ : ∃ x : Int, x = ((s[(at' + k) % 64]'hj).toNat : Int) := ⟨_, rfl⟩
      have HX : Hid (getL d a at' k ++ [x] = getL d a at' (k + 1)) := (show _ = _ by rw [getL_succ, byteD, ← HS.out, hx, bs_at])
      have glen := getL_len d a at' k
      have q1 : ((getL d a at' k).length + ([x] : List Int).length) * 1 ≤ 140737488355328 := by rw [glen, List.length_singleton]; omega
      have q2 : (getL d a at' k).length + ([x] : List Int).length ≤ maxLen := by rw [glen, List.length_singleton]; unfold maxLen; omega
      have q3 : w.heap.size + 1 ≤ (w3.alloc (.cells #[.int .u8 x] 5)).heap.size := by rw [World.size_alloc]; have := L3.out.1.size; omega
      have qo : Own (w.heap.size + 1) 5 .u8 (w3.alloc (.cells #[.int .u8 x] 5)) u9 (getL d a at' k) := O3.out.below ((Below.refl _ _).alloc (Nat.le_refl _) _)
      have ql := L3.out.below ((Below.refl w3.heap.size w3).alloc (Nat.le_refl _) (.cells #[.int .u8 x] 5))
      have Q := (show Hid (_ ∧ _ ∧ _ ∧ _) from ⟨q1, q2, q3, qo⟩)
      have QL := (show Hid _ from ql)
      clear q1 q2 q3 qo ql glen
      go_wp2_with (at_builtin
                   rw [← hx]
                   refine wpList_app _ rfl _ _ 22 rfl (w.heap.size + 1) 5 i0 (.int .u8 0) 1 Tryd.underlying22 hi hz0 hz1 hz2 rfl .u8 u9 _ (getL d a at' k) [x] rfl rfl Q.out.2.2.2 (sl_one 5 .u8 w3 x) Q.out.1 Q.out.2.1 Q.out.2.2.1 ?_
                   intro v8 w8 o8 g8
                   have L8 := (show Hid (Hl w [(w.heap.size, #[.slice sa sn sc, .slice la ln lc], 34)] w8) from QL.out.past g8 (fun r e => ⟨by have := (World.ownsRow.lt Q.out.2.2.2 r e).1; omega, fun p hp => by have := (World.ownsRow.lt Q.out.2.2.2 r e).1; simp only [List.mem_cons, List.not_mem_nil, or_false] at hp; rw [hp]; show w.heap.size ≠ r; omega⟩))
                   rw [HX.out] at o8
                   have O8 := (show Hid _ from o8)
                   clear o8 g8)
      go_roundw
      case rel => exact ⟨k + 1, by omega, by go_num, O8.out, L8.out⟩
      case measure => simp [intOf]; omega
    · obtain rfl : k = n := by omega
      have hltI : ¬ (k : Int) < k := by omega
      go_wp2
      go_ret
      exact ⟨_, rfl, HO.out.base (by omega), HL.out.1⟩

theorem bytes_res {fn : Func} {p q : Tmp} (h : fn.results = #[.tmp p, .tmp q]) {tmps : Array Value} {w : World} {a : Option Addr} {n c : Nat} {b : Bool} (h1 : tmps.getD p undef = .slice a n c) (h2 : tmps.getD q undef = .bool b) : (results fn tmps).run Tryd.prog w = .ok (.tuple #[.slice a n c, .bool b]) w := by
  have h1' : tmps[p]?.getD undef = .slice a n c := by simpa using h1
  have h2' : tmps[q]?.getD undef = .bool b := by simpa using h2
  simp [results, h, h1', h2', go_sem]

set_option maxHeartbeats 1000000 in
set_option maxRecDepth 100000 in
theorem sareaGet_any {w : World} {v : Value} {d : PDisk} (h : DiskAt w v d) (hf : DiskFit d) (a at' n : Int) :
    Calls Tryd.prog 21 #[v, .int .i64 a, .int .i64 at', .int .i64 n] w fun e w' => ∃ u, e = .returned (.tuple #[u, .bool (getDk d a at' n).2]) ∧ Own w.heap.size 5 .u8 w' u (getDk d a at' n).1 ∧ Below w.heap.size w w' := by
  have HD := (show Hid (DiskAt w v d) from h)
  have HF := (show Hid (DiskFit d) from hf)
  obtain ⟨sa, sn, sc, la, ln, lc, rfl, _, _⟩ := h
  obtain ⟨⟨qs, qb⟩, hq⟩ : ∃ q, q = getDk d a at' n := ⟨_, rfl⟩
  have HQ := (show Hid (_ = _) from hq)
  rw [← hq]
  simp only
  clear hq
  have no : Hid (getOk d a at' n = false → qs = [] ∧ qb = false) := fun e => by
    have := HQ.out
    rw [getDk, if_neg (by rw [e]; simp)] at this
    cases this
    exact ⟨rfl, rfl⟩
  obtain ⟨w1, hw1⟩ : ∃ y, y = w.alloc (.cells #[.slice sa sn sc, .slice la ln lc] 34) := ⟨_, rfl⟩
  have h1 : Hl w [(w.heap.size, #[.slice sa sn sc, .slice la ln lc], 34)] w1 := by rw [hw1]; exact (Hl.refl w).new #[.slice sa sn sc, .slice la ln lc] 34
  have H1 := (show Hid _ from h1)
  clear h1 hf
  go_enter Tryd.func21, Tryd.ntmps21
  go_wp2_with fail
  go_at_call 38
  rw [← hw1]
  refine (sdiskOk_any (HD.out.below H1.out.1) HF.out).mono ?_
  rintro e w2 ⟨rfl, b2⟩
  clear hw1
  have H2 := (show Hid _ from H1.out.below b2)
  clear H1 b2
  have fin : Hid (∀ W, Below w.heap.size w W → ∃ u, Ending.returned (.tuple #[.slice (some ⟨W.heap.size, 0, none⟩) 0 0, .bool false]) = .returned (.tuple #[u, .bool false]) ∧ Own w.heap.size 5 .u8 (W.alloc (.cells #[] 5)) u [] ∧ Below w.heap.size w (W.alloc (.cells #[] 5))) := fun W b => ⟨_, rfl, (own_empty _ _ _).base b.size, b.alloc b.size _⟩
  obtain ⟨q1, q2, _, _⟩ := rk_two H2.out.at0
  cases hb : diskB d
  · obtain ⟨rfl, rfl⟩ := no.out (by simp [getOk, hb])
    clear hb HQ no
    go_wp2
    refine bodyPost_ret (bytes_res rfl rfl rfl) rfl ?_
    exact fin.out _ H2.out.1
  · have HB := (show Hid (diskB d = true) from hb)
    clear hb
    go_wp2_with fail
    go_at_call 53
    refine (sl16Area_any a w2).mono ?_
    rintro e w3 ⟨rfl, e3⟩
    replace e3 := e3.symm
    subst e3
    cases ha : (decide (a = 0) || decide (a = 1))
    · obtain ⟨rfl, rfl⟩ := no.out (by simp only [getOk, ha, Bool.and_false, Bool.false_and])
      clear ha HQ no
      go_wp2
      refine bodyPost_ret (bytes_res rfl rfl rfl) rfl ?_
      exact fin.out _ H2.out.1
    · have HA := (show Hid _ from ha)
      clear ha
      go_wp2_with fail
      go_at_call 54
      refine (l1In_any at' 0 4096 w2).mono ?_
      rintro e w3 ⟨rfl, e3⟩
      replace e3 := e3.symm
      subst e3
      cases hp : inB at' 0 4096
      · obtain ⟨rfl, rfl⟩ := no.out (by simp only [getOk, hp, Bool.and_false, Bool.false_and])
        clear hp HQ no
        go_wp2
        refine bodyPost_ret (bytes_res rfl rfl rfl) rfl ?_
        exact fin.out _ H2.out.1
      · have HP := (show Hid _ from hp)
        simp only [inB, Bool.and_eq_true, decide_eq_true_eq] at hp
        obtain ⟨p0, p1⟩ := hp
        go_wp2_with fail
        go_at_call 54
        refine (l1In_any n 0 (4096 - at') w2).mono ?_
        rintro e w3 ⟨rfl, e3⟩
        replace e3 := e3.symm
        subst e3
        cases hn : inB n 0 (4096 - at')
        · obtain ⟨rfl, rfl⟩ := no.out (by simp only [getOk, hn, Bool.and_false])
          clear hn HQ no
          go_wp2
          refine bodyPost_ret (bytes_res rfl rfl rfl) rfl ?_
          exact fin.out _ H2.out.1
        · have HR : Hid ((qs, qb) = (getL d a at'.toNat n.toNat, true)) := (show _ = _ by rw [HQ.out, getDk, if_pos (by simp only [getOk, HB.out, HA.out, HP.out, hn, Bool.and_self])])
          cases HR.out
          simp only [inB, Bool.and_eq_true, decide_eq_true_eq] at hn
          obtain ⟨n0, n1⟩ := hn
          have ha : a = 0 ∨ a = 1 := by simpa using HA.out
          have CC := sl16Get_any (HD.out.below H2.out.1) HB.out ha at'.toNat n.toNat (by omega)
          rw [Int.toNat_of_nonneg p0, Int.toNat_of_nonneg n0] at CC
          have CG := (show Hid _ from CC)
          clear CC HQ no ha HR
          go_wp2_with fail
          go_at_call 56
          refine Calls.mono CG.out ?_
          rintro e w3 ⟨v3, rfl, o3, b3⟩
          obtain ⟨x, y, rfl, _⟩ := o3.sl
          have H3 := (show Hid (Own w.heap.size 5 .u8 w3 _ (getL d a at'.toNat n.toNat) ∧ Below w.heap.size w w3) from ⟨o3.base H2.out.1.size, H2.out.1.trans (b3.mono H2.out.1.size)⟩)
          clear CG o3 b3 q1 q2
          go_wp2
          refine bodyPost_ret (bytes_res rfl rfl rfl) rfl ?_
          exact ⟨_, rfl, H3.out.1, H3.out.2⟩
end Go.Proofs.YtiejfnnokfedkaaDoor

/- The specification's AreaPut. No condition. -/
namespace Go.Proofs.YtiejfnnokfedkaaDoor
open Go.RowKit
set_option maxRecDepth 100000
set_option linter.unusedVariables false

/-- The bytes of a sector while they are laid. -/
def partL (old b : List Int) (at' k i : Nat) : List Int := (newL old b at' k).take i ++ old.drop i
theorem partL_zero (old b : List Int) (at' k : Nat) : partL old b at' k 0 = old := by simp [partL]
theorem partL_all {old : List Int} (h : old.length = 64) (b : List Int) (at' k : Nat) : partL old b at' k 64 = newL old b at' k := by
  unfold partL
  rw [List.take_of_length_le (by rw [newL_len]; omega), List.drop_of_length_le (by omega), List.append_nil]
theorem partL_len {old : List Int} (h : old.length = 64) (b : List Int) (at' k i : Nat) (hi : i ≤ 64) : (partL old b at' k i).length = 64 := by
  simp only [partL, List.length_append, List.length_take, List.length_drop, newL_len, h]; omega
theorem newL_at (old b : List Int) (at' k i : Nat) (hi : i < (newL old b at' k).length) : (newL old b at' k)[i] = if at' ≤ 64 * k + i ∧ 64 * k + i < at' + b.length then b.getD (64 * k + i - at') 0 else old.getD i 0 := by
  simp [newL]
theorem partL_yes {old : List Int} (h : old.length = 64) {b : List Int} {at' k i : Nat} (hi : i < 64) (hc : at' ≤ 64 * k + i ∧ 64 * k + i < at' + b.length) : (partL old b at' k i).set i (b.getD (64 * k + i - at') 0) = partL old b at' k (i + 1) := by
  have hn : i < (newL old b at' k).length := by rw [newL_len]; exact hi
  have ht : ((newL old b at' k).take i).length = i := by rw [List.length_take, newL_len]; omega
  unfold partL
  rw [List.drop_eq_getElem_cons (by omega), List.set_append_right _ _ (by omega), ht, Nat.sub_self, List.set_cons_zero, List.take_succ_eq_append_getElem hn, newL_at, if_pos hc, List.append_assoc]
  rfl
theorem partL_no {old : List Int} (h : old.length = 64) {b : List Int} {at' k i : Nat} (hi : i < 64) (hc : ¬ (at' ≤ 64 * k + i ∧ 64 * k + i < at' + b.length)) : partL old b at' k i = partL old b at' k (i + 1) := by
  have hn : i < (newL old b at' k).length := by rw [newL_len]; exact hi
  unfold partL
  rw [List.take_succ_eq_append_getElem hn, newL_at, if_neg hc, List.append_assoc, List.drop_eq_getElem_cons (by omega : i < old.length)]
  simp [List.getD_eq_getElem?_getD, show i < old.length by omega]

/-- What AreaPut holds while it goes on: its out, the copy, the result's block, the argument. -/
structure ApI (w : World) (O S3 : Nat) (x y s t p q : Value) (d e : PDisk) (W : World) : Prop where
  hl : Hl w [(O, #[x, y], 34), (S3, #[s, t], 34), (w.heap.size + 1, #[.slice none 0 0, .slice none 0 0], 34), (w.heap.size, #[p, q], 34)] W
  oe : OwnDk w.heap.size W (.agg #[x, y]) e
  od : OwnDk w.heap.size W (.agg #[s, t]) d
theorem ApI.below {w : World} {O S3 : Nat} {x y s t p q : Value} {d e : PDisk} {W W' : World} (h : ApI w O S3 x y s t p q d e W) (b : Below W.heap.size W W') : ApI w O S3 x y s t p q d e W' := ⟨h.hl.below b, h.oe.below b, h.od.below b⟩
theorem OwnDk.setT {B b k : Nat} {w : World} {v u : Value} {d : PDisk} (h : OwnDk B w v d) {cs : Array Value} {t : TypeId} {fr : Nat × Nat} (hb : w.heap[b]? = some (.cells cs t fr)) (h1 : t ≠ 9) (h2 : t ≠ 76) : OwnDk B (w.setCell ⟨b, k, none⟩ u) v d := by
  obtain ⟨sa, sn, sc, la, ln, lc, e, o1, o2⟩ := h
  exact ⟨sa, sn, sc, la, ln, lc, e, rk_set o1 hb h1, rk_set o2 hb h2⟩
/-- A byte of the text is laid. -/
theorem ApI.byte {w : World} {O S3 : Nat} {x y s t p q : Value} {d e : PDisk} {W : World} (h : ApI w O S3 x y s t p q d e W) {T k : Nat} {u : Value} {xs : List Int} (hT : Blk .u8 5 W T xs) (hO : O < T) (hS : S3 < O) (hw : w.heap.size + 1 < S3) : ApI w O S3 x y s t p q d e (W.setCell ⟨T, k, none⟩ u) := by
  obtain ⟨cur, lo, hi, hh, _⟩ := hT
  exact ⟨h.hl.past (grown_setCell _ _ _ _) (fun r e => by cases e; exact ⟨by omega, by simp; omega⟩), h.oe.setT hh (by decide) (by decide), h.od.setT hh (by decide) (by decide)⟩
/-- The new disk is laid into out. -/
theorem ApI.turn {w : World} {O S3 : Nat} {x y s t p q : Value} {d e : PDisk} {W : World} (h : ApI w O S3 x y s t p q d e W) (hS : S3 < O) (hw : w.heap.size + 1 < S3) {a b : Value} {e' : PDisk} (o : OwnDk w.heap.size W (.agg #[a, b]) e') : ApI w O S3 a b s t p q d e' ((W.setCell ⟨O, 0, none⟩ a).setCell ⟨O, 1, none⟩ b) := by
  have hL : ∀ r ∈ [(S3, #[s, t], 34), (w.heap.size + 1, #[.slice none 0 0, .slice none 0 0], 34), (w.heap.size, #[p, q], 34)], r.1 ≠ O := by simp; omega
  exact ⟨h.hl.set2 (by omega) hL a b, (o.setD h.hl.at0).setD (h.hl.set (by omega) hL 0 a).at0, (h.od.setD h.hl.at0).setD (h.hl.set (by omega) hL 0 a).at0⟩

set_option maxHeartbeats 1000000 in
set_option maxRecDepth 100000 in
theorem sareaPut_any {w : World} {v : Value} {d : PDisk} (h : DiskAt w v d) (hf : DiskFit d) (a at' : Int) {u : Value} {b : List Int} (hu : Sl .u8 w u b) (hb : ∀ x ∈ b, 0 ≤ x ∧ x ≤ 255) (hbl : b.length ≤ 1099511627776) :
    Calls Tryd.prog 19 #[v, .int .i64 a, .int .i64 at', u] w fun e w' => ∃ v', e = .returned (.tuple #[v', .bool (areaDk d a at' b).2]) ∧ OwnDk w.heap.size w' v' (areaDk d a at' b).1 ∧ Below w.heap.size w w' := by
  have HD := (show Hid (DiskAt w v d) from h)
  have HF := (show Hid (DiskFit d) from hf)
  have HU := (show Hid (Sl .u8 w u b) from hu)
  obtain ⟨sa, sn, sc, la, ln, lc, rfl, _, _⟩ := h
  obtain ⟨ba, bc, rfl, _⟩ := hu
  obtain ⟨⟨qd, qb⟩, hq⟩ : ∃ q, q = areaDk d a at' b := ⟨_, rfl⟩
  have HQ := (show Hid (_ = _) from hq)
  rw [← hq]
  simp only
  clear hq
  obtain ⟨w1, hw1⟩ : ∃ y, y = (w.alloc (.cells #[.slice sa sn sc, .slice la ln lc] 34)).alloc (.cells #[.slice none 0 0, .slice none 0 0] 34) := ⟨_, rfl⟩
  have h1 : Hl w [(w.heap.size + 1, #[.slice none 0 0, .slice none 0 0], 34), (w.heap.size, #[.slice sa sn sc, .slice la ln lc], 34)] w1 := by
    have := ((Hl.refl w).new #[.slice sa sn sc, .slice la ln lc] 34).new #[.slice none 0 0, .slice none 0 0] 34
    rw [World.size_alloc] at this
    rw [hw1]; exact this
  have H1 := (show Hid _ from h1)
  clear h1 hf
  go_enter Tryd.func19, Tryd.ntmps19
  go_wp2_with fail
  go_at_call 38
  rw [← hw1]
  refine (sdiskOk_any (HD.out.below H1.out.1) HF.out).mono ?_
  rintro e w2 ⟨rfl, b2⟩
  clear hw1
  have H2 := (show Hid _ from H1.out.below b2)
  clear H1 b2
  obtain ⟨r1, r2, r3, r4⟩ := rk_two H2.out.at0
  obtain ⟨q1, q2, _, _⟩ := rk_two H2.out.at1
  cases hB : diskB d
  · have HR : Hid ((qd, qb) = (zeroDk, false)) := (show _ = _ by rw [HQ.out, areaDk, if_pos hB])
    cases HR.out
    clear hB HQ HR
    go_wp2
    have z := OwnDk.laid H2.out (by omega) (by simp) (ownDk_nil _ _)
    refine bodyPost_ret (disk_res rfl rfl rfl z.2.2) rfl ?_
    exact ⟨_, rfl, z.1, z.2.1⟩
  · have HB := (show Hid (diskB d = true) from hB)
    clear hB
    have CC := (show Hid (∀ W, Below w.heap.size w W → Calls Tryd.prog 52 #[.agg #[.slice sa sn sc, .slice la ln lc]] W fun e w' => ∃ v', e = .returned v' ∧ OwnDk w.heap.size w' v' d ∧ Below W.heap.size W w') from fun W b => (sl15Copy_any (HD.out.below b) HF.out).mono (by
      rintro e w' ⟨v', rfl, o, k⟩
      exact ⟨v', rfl, o.based b.size, k⟩))
    go_wp2_with fail
    go_at_call 52
    refine Calls.mono (CC.out w2 H2.out.1) ?_
    rintro e w3 ⟨v3, rfl, o3, b3⟩
    obtain ⟨ta, tn, tc, ma, mn, mc, rfl, _⟩ := id o3
    obtain ⟨w4, hw4⟩ : ∃ y, y = w3.alloc (.cells #[.slice ta tn tc, .slice ma mn mc] 34) := ⟨_, rfl⟩
    have H4 := (show Hid _ from (H2.out.below b3).new #[.slice ta tn tc, .slice ma mn mc] 34)
    have O4 := (show Hid (OwnDk w.heap.size w4 (.agg #[.slice ta tn tc, .slice ma mn mc]) d) from by rw [hw4]; exact o3.below ((Below.refl _ _).alloc (Nat.le_refl _) _))
    have hs3 : w.heap.size + 1 < w3.heap.size := (H2.out.below b3).lt (p := (w.heap.size + 1, #[.slice none 0 0, .slice none 0 0], 34)) (by simp)
    rw [← hw4] at H4
    clear b3 o3 H2 r1 r2 r3 r4 q1 q2
    obtain ⟨q1, q2, _, _⟩ := rk_two H4.out.at2
    obtain ⟨s1, s2, s3, s4⟩ := rk_two H4.out.at0
    obtain ⟨r1, r2, r3, r4⟩ := rk_two H4.out.at1
    have fin : Hid (∀ W, Hl w [(w3.heap.size, #[.slice ta tn tc, .slice ma mn mc], 34), (w.heap.size + 1, #[.slice none 0 0, .slice none 0 0], 34), (w.heap.size, #[.slice sa sn sc, .slice la ln lc], 34)] W → OwnDk w.heap.size W (.agg #[.slice ta tn tc, .slice ma mn mc]) d → OwnDk w.heap.size ((W.setCell ⟨w.heap.size + 1, 0, none⟩ (.slice ta tn tc)).setCell ⟨w.heap.size + 1, 1, none⟩ (.slice ma mn mc)) (.agg #[.slice ta tn tc, .slice ma mn mc]) d ∧ Below w.heap.size w ((W.setCell ⟨w.heap.size + 1, 0, none⟩ (.slice ta tn tc)).setCell ⟨w.heap.size + 1, 1, none⟩ (.slice ma mn mc)) ∧ ((W.setCell ⟨w.heap.size + 1, 0, none⟩ (.slice ta tn tc)).setCell ⟨w.heap.size + 1, 1, none⟩ (.slice ma mn mc)).heap[w.heap.size + 1]? = some (.cells #[.slice ta tn tc, .slice ma mn mc] 34 (0, 0))) := fun W h o =>
      OwnDk.laid (h.sub (L' := [(w.heap.size + 1, #[.slice none 0 0, .slice none 0 0], 34)]) (by simp)) (by omega) (by simp) o
    go_upto_region 5 with fail
    rw [← hw4]
    clear hw4
    go_wp2_with fail
    go_at_call 53
    refine (sl16Area_any a w4).mono ?_
    rintro e w5 ⟨rfl, e5⟩
    replace e5 := e5.symm
    subst e5
    cases ha : (decide (a = 0) || decide (a = 1))
    · have HR : Hid ((qd, qb) = (d, false)) := (show _ = _ by rw [HQ.out, areaDk, if_neg (by rw [HB.out]; simp), if_pos (by simp only [putOkA, ha, Bool.false_and])])
      cases HR.out
      clear ha HQ HR
      go_wp2
      have z := fin.out _ H4.out O4.out
      refine bodyPost_ret (disk_res rfl rfl rfl z.2.2) rfl ?_
      exact ⟨_, rfl, z.1, z.2.1⟩
    · have HA := (show Hid _ from ha)
      clear ha
      go_wp2_with fail
      go_at_call 54
      refine (l1In_any at' 0 4096 w4).mono ?_
      rintro e w5 ⟨rfl, e5⟩
      replace e5 := e5.symm
      subst e5
      cases hp : inB at' 0 4096
      · have HR : Hid ((qd, qb) = (d, false)) := (show _ = _ by rw [HQ.out, areaDk, if_neg (by rw [HB.out]; simp), if_pos (by simp only [putOkA, hp, Bool.and_false, Bool.false_and])])
        cases HR.out
        clear hp HQ HR
        go_wp2
        have z := fin.out _ H4.out O4.out
        refine bodyPost_ret (disk_res rfl rfl rfl z.2.2) rfl ?_
        exact ⟨_, rfl, z.1, z.2.1⟩
      · have HP := (show Hid _ from hp)
        simp only [inB, Bool.and_eq_true, decide_eq_true_eq] at hp
        obtain ⟨p0, p1⟩ := hp
        by_cases hle : (b.length : Int) ≤ 4096 - at'
        · have hnl : ¬ 4096 - at' < (b.length : Int) := by omega
          go_wp2_with fail
          go_at_call 52
          refine Calls.mono (CC.out w4 H4.out.1) ?_
          rintro e w6 ⟨v6, rfl, o6, b6⟩
          obtain ⟨xa, xn, xc, ya, yn, yc, rfl, _⟩ := id o6
          obtain ⟨w7, hw7⟩ : ∃ y, y = w6.alloc (.cells #[.slice xa xn xc, .slice ya yn yc] 34) := ⟨_, rfl⟩
          have H7 := (show Hid _ from (H4.out.below b6).new #[.slice xa xn xc, .slice ya yn yc] 34)
          have O7 := (show Hid (OwnDk w.heap.size w7 (.agg #[.slice xa xn xc, .slice ya yn yc]) d ∧ OwnDk w.heap.size w7 (.agg #[.slice ta tn tc, .slice ma mn mc]) d) from by rw [hw7]; exact ⟨o6.below ((Below.refl _ _).alloc (Nat.le_refl _) _), (O4.out.below b6).below ((Below.refl _ _).alloc (Nat.le_refl _) _)⟩)
          have hs6 : w3.heap.size < w6.heap.size := (H4.out.below b6).lt (p := (w3.heap.size, #[.slice ta tn tc, .slice ma mn mc], 34)) (by simp)
          rw [← hw7] at H7
          clear b6 o6 H4 O4 r1 r2 r3 r4 q1 q2 s1 s2 s3 s4 CC
          go_wp2_with fail
          rw [← hw7]
          clear hw7
          obtain ⟨S3, hS3⟩ : ∃ x, x = w3.heap.size := ⟨_, rfl⟩
          obtain ⟨O, hO⟩ : ∃ x, x = w6.heap.size := ⟨_, rfl⟩
          have I7 := (show Hid (ApI w w6.heap.size w3.heap.size (.slice xa xn xc) (.slice ya yn yc) (.slice ta tn tc) (.slice ma mn mc) (.slice sa sn sc) (.slice la ln lc) d d w7) from ⟨H7.out, O7.out.1, O7.out.2⟩)
          rw [← hO, ← hS3] at I7
          rw [← hS3] at fin hs6 hs3
          rw [← hO] at hs6
          rw [← hO, ← hS3]
          obtain ⟨A, rfl⟩ : ∃ A : Nat, at' = A := ⟨at'.toNat, by omega⟩
          have ha : a = 0 ∨ a = 1 := by simpa using HA.out
          have HQ' : Hid ((qd, qb) = match areaN d a b A 64 with
            | some e => (e, true)
            | none => (d, false)) := (show _ = _ by rw [HQ.out, areaDk, if_neg (by rw [HB.out]; simp), if_neg (by simp only [putOkA, HA.out, HP.out, hle, decide_true, Bool.and_self]; simp)]; rfl)
          have a0 : 0 ≤ a := by omega
          have a1 : a ≤ 1 := by omega
          have HAA := (show Hid (a = 0 ∨ a = 1) from ha)
          clear HQ H7 O7 hO hS3 ha HP HA
          go_loopw [12] (fun i wr => ∃ (k : Nat) (e : PDisk) (x y : Value), k ≤ 64 ∧ i = .int .i64 k ∧ areaN d a b A k = some e ∧ ApI w O S3 x y (.slice ta tn tc) (.slice ma mn mc) (.slice sa sn sc) (.slice la ln lc) d e wr) (fun i _ => 64 - (intOf i).toNat)
          case atStart => exact ⟨0, d, _, _, by omega, rfl, rfl, I7.out⟩
          case round =>
            clear I7
            obtain ⟨k, e, x, y, hk, rfl, hN, hI⟩ := hrel
            obtain ⟨xa, xn, xc, ya, yn, yc, exy, _⟩ := id hI.oe
            cases exy
            have HI := (show Hid _ from hI)
            have HN := (show Hid (areaN d a b A k = some e) from hN)
            have HE := (show Hid (diskB e = true) from areaN_right HB.out HAA.out hk hN)
            clear hI hN
            by_cases hlt : k < 64
            · have hltI : (k : Int) < 64 := by omega
              by_cases c1 : (k : Int) * 64 + 64 ≤ A
              · have HS : Hid (areaN d a b A (k + 1) = some e) := (show _ = _ by rw [areaN_succ HN.out, if_neg (by simp only [touch, Bool.and_eq_true, decide_eq_true_eq]; omega)])
                go_wp2
                go_roundw
                case rel => exact ⟨k + 1, e, _, _, by omega, by go_num, HS.out, HI.out⟩
                case measure => simp [intOf]; omega
              · by_cases c2 : (A : Int) + b.length ≤ k * 64
                · have HS : Hid (areaN d a b A (k + 1) = some e) := (show _ = _ by rw [areaN_succ HN.out, if_neg (by simp only [touch, Bool.and_eq_true, decide_eq_true_eq]; omega)])
                  go_wp2
                  go_roundw
                  case rel => exact ⟨k + 1, e, _, _, by omega, by go_num, HS.out, HI.out⟩
                  case measure => simp [intOf]; omega
                · by_cases c3 : b.length = 0
                  · have HS : Hid (areaN d a b A (k + 1) = some e) := (show _ = _ by rw [areaN_succ HN.out, if_neg (by simp only [touch, Bool.and_eq_true, decide_eq_true_eq]; omega)])
                    have c3' : ((b.length : Int) == 0) = true := beq_iff_eq.mpr (by omega)
                    clear c3
                    go_wp2
                    go_roundw
                    case rel => exact ⟨k + 1, e, _, _, by omega, by go_num, HS.out, HI.out⟩
                    case measure => simp [intOf]; omega
                  · have c3' : ((b.length : Int) == 0) = false := beq_eq_false_iff_ne.mpr (by omega)
                    have HS : Hid (areaN d a b A (k + 1) = if e.late.length < 200 then some ⟨e.safe, e.late ++ [(secOf a k, newS e a b A k)]⟩ else none) := (show _ = _ by rw [areaN_succ HN.out, if_pos (by simp only [touch, Bool.and_eq_true, decide_eq_true_eq]; omega)])
                    obtain ⟨q1, q2, _, _⟩ := rk_two HI.out.hl.at0
                    have CO := (show Hid (Calls Tryd.prog 39 #[.agg #[.slice xa xn xc, .slice ya yn yc], .int .i64 (2 + 64 * a + (k : Int))] wr fun e' w' => e' = .returned (.string (sectorD e (secOf a k))) ∧ Below wr.heap.size wr w') from sl15Of_any (x := secOf a k) HI.out.oe.at (fit_right HE.out) (by have := diskB_len HE.out; unfold secOf; omega))
                    have hs64 := sector_size HE.out (x := secOf a k) (by unfold secOf; omega)
                    obtain ⟨s, hs⟩ : ∃ s, s = sectorD e (secOf a k) := ⟨_, rfl⟩
                    rw [← hs] at CO hs64
                    have HSS := (show Hid (_ = _) from hs)
                    clear hs
                    go_wp2_with fail
                    go_at_call 39
                    refine Calls.mono CO.out ?_
                    rintro e' w8 ⟨rfl, b8⟩
                    have I8 := (show Hid _ from HI.out.below b8)
                    clear CO q1 q2 HI
                    obtain ⟨cap, w9, hcv, hbk, hc1, hc2, b9⟩ := conv_str s w8 (by rw [hs64]; unfold maxLen; omega)
                    have I9 := (show Hid _ from I8.out.below b9)
                    have hT : O < w8.heap.size := I8.out.hl.lt (List.mem_cons_self ..)
                    rw [hs64] at hcv hc1
                    have HCV := (show Hid _ from hcv)
                    clear hcv b8 b9
                    go_wp2_with fail
                    rw [HCV.out]
                    clear HCV I8
                    obtain ⟨T, hTT⟩ : ∃ T, T = w8.heap.size := ⟨_, rfl⟩
                    rw [← hTT] at hbk hT
                    rw [← hTT]
                    have hol : (bs s).length = 64 := by rw [bs_len, hs64]
                    have KB : Hid (Blk .u8 5 w9 T (partL (bs s) b A k 0)) := (show Blk _ _ _ _ _ by rw [partL_zero]; exact hbk)
                    clear hTT hbk
                    go_wp2_with fail
                    go_loopw [16] (fun i wi => ∃ j : Nat, j ≤ 64 ∧ i = .int .i64 j ∧ Blk .u8 5 wi T (partL (bs s) b A k j) ∧ ApI w O S3 (.slice xa xn xc) (.slice ya yn yc) (.slice ta tn tc) (.slice ma mn mc) (.slice sa sn sc) (.slice la ln lc) d e wi) (fun i _ => 64 - (intOf i).toNat)
                    case atStart => exact ⟨0, by omega, rfl, KB.out, I9.out⟩
                    case round =>
                      clear KB I9
                      obtain ⟨j, hj, rfl, hb9, hi9⟩ := hrel
                      have KB := (show Hid (Blk .u8 5 wr T (partL (bs s) b A k j)) from hb9)
                      have I9 := (show Hid _ from hi9)
                      clear hb9 hi9
                      by_cases hj64 : j < 64
                      · have hj64I : (j : Int) < 64 := by omega
                        by_cases c4 : (A : Int) ≤ k * 64 + j
                        · by_cases c5 : (k : Int) * 64 + j < A + b.length
                          · obtain ⟨_, _, eU, _, _, _, hc⟩ := HU.out.below I9.out.hl.1
                            cases eU
                            have hmb : k * 64 + j - A < b.length := by omega
                            obtain ⟨B, off, rfl, cB⟩ := hc (k * 64 + j - A) hmb
                            have HK : Hid ((partL (bs s) b A k j).set j (b.getD (k * 64 + j - A) 0) = partL (bs s) b A k (j + 1)) := (show _ = _ by rw [← partL_yes hol (by omega) ⟨by omega, by omega⟩, show 64 * k + j - A = k * 64 + j - A by omega])
                            obtain ⟨z, hz⟩ : ∃ z, z = b.getD (k * 64 + j - A) 0 := ⟨_, rfl⟩
                            rw [← hz] at HK cB
                            have KS := (show Hid _ from KB.out.set j (by rw [partL_len hol _ _ _ _ hj]; omega) z)
                            rw [HK.out] at KS
                            have IS := (show Hid _ from I9.out.byte (k := j) (u := .int .u8 z) KB.out hT hs6 hs3)
                            have cT := KB.out.cell j (by rw [partL_len hol _ _ _ _ hj]; omega)
                            have fT := KB.out.frozen j (by rw [partL_len hol _ _ _ _ hj]; omega)
                            clear hc HK hz
                            go_wp2
                            go_roundw
                            case rel => exact ⟨j + 1, by omega, by go_num, KS.out, IS.out⟩
                            case measure => simp [intOf]; omega
                          · have HK : Hid (partL (bs s) b A k j = partL (bs s) b A k (j + 1)) := (show _ = _ from partL_no hol (by omega) (by omega))
                            rw [HK.out] at KB
                            clear HK
                            go_wp2
                            go_roundw
                            case rel => exact ⟨j + 1, by omega, by go_num, KB.out, I9.out⟩
                            case measure => simp [intOf]; omega
                        · have HK : Hid (partL (bs s) b A k j = partL (bs s) b A k (j + 1)) := (show _ = _ from partL_no hol (by omega) (by omega))
                          rw [HK.out] at KB
                          clear HK
                          go_wp2
                          go_roundw
                          case rel => exact ⟨j + 1, by omega, by go_num, KB.out, I9.out⟩
                          case measure => simp [intOf]; omega
                      · obtain rfl : j = 64 := by omega
                        rw [partL_all hol] at KB
                        have hcv := conv_sl (KB.out.sl (n := 64) (cap := cap) (by rw [newL_len]) (by rw [newL_len]; omega) hc2)
                        have hnS : strOf (newL (bs s) b A k) = newS e a b A k := by rw [newS, ← HSS.out]
                        rw [hnS] at hcv
                        have CP := sdiskPut_any I9.out.oe.at (fit_right HE.out) (secOf a k) (newS e a b A k) (by rw [newS_size]; omega)
                        obtain ⟨z, hz⟩ : ∃ z, z = newS e a b A k := ⟨_, rfl⟩
                        have hz64 : z.size = 64 := by rw [hz, newS_size]
                        rw [← hz] at CP HS hcv
                        obtain ⟨⟨pd, pb⟩, hp⟩ : ∃ p, p = putDk e (secOf a k) z := ⟨_, rfl⟩
                        rw [← hp] at CP
                        simp only at CP
                        have CQ := (show Hid (Calls Tryd.prog 55 #[.agg #[.slice xa xn xc, .slice ya yn yc], .int .i64 (2 + 64 * a + (k : Int)), .string z] wr fun e w' => ∃ v', e = .returned (.tuple #[v', .bool pb]) ∧ OwnDk wr.heap.size w' v' pd ∧ Below wr.heap.size wr w') from CP)
                        have HP := (show Hid (_ = _) from hp)
                        obtain ⟨q1, q2, _, _⟩ := rk_two I9.out.hl.at0
                        clear CP hp hz hnS KB
                        go_wp2_with fail
                        go_at_call 55
                        refine Calls.mono CQ.out ?_
                        rintro e' w10 ⟨v10, rfl, o10, b10⟩
                        clear CQ q1 q2 hcv
                        obtain ⟨na, nn, nc, pa, pn, pc, rfl, _⟩ := id o10
                        obtain ⟨w11, hw11⟩ : ∃ y, y = w10.alloc (.cells #[.slice na nn nc, .slice pa pn pc] 34) := ⟨_, rfl⟩
                        have b11 : Below w10.heap.size w10 w11 := by rw [hw11]; exact (Below.refl _ _).alloc (Nat.le_refl _) _
                        have x11 : w11.heap[w10.heap.size]? = some (.cells #[.slice na nn nc, .slice pa pn pc] 34 (0, 0)) := by rw [hw11]; exact World.alloc_heap_new _ _
                        have I11 := (show Hid _ from (I9.out.below b10).below b11)
                        have O11 := (show Hid (OwnDk w.heap.size w11 (.agg #[.slice na nn nc, .slice pa pn pc]) pd) from (o10.based I9.out.hl.1.size).below b11)
                        obtain ⟨q1, q2, q3, q4⟩ := rk_two I11.out.hl.at0
                        obtain ⟨m1, m2, _, _⟩ := rk_two x11
                        clear b10 b11 x11 o10 I9
                        go_upto_region 20 with fail
                        rw [← hw11]
                        clear hw11
                        have hin := secOf_in HAA.out hlt
                        by_cases h2 : e.late.length = 200
                        · have e1 : (pd, pb) = (e, false) := by rw [HP.out, putDk, if_neg (by rw [HE.out]; simp), if_pos (.inr (.inr h2))]
                          cases e1
                          rw [if_neg (by omega)] at HS
                          have e2 := areaN_none HS.out (64 - (k + 1))
                          rw [show k + 1 + (64 - (k + 1)) = 64 by omega] at e2
                          have HR : Hid ((qd, qb) = (d, false)) := (show _ = _ by rw [HQ'.out, e2])
                          cases HR.out
                          obtain ⟨s1, s2, s3, s4⟩ := rk_two I11.out.hl.at1
                          obtain ⟨r1, r2, r3, r4⟩ := rk_two I11.out.hl.at2
                          clear HQ' HR e2 HP hin m1 m2 q1 q2 q3 q4
                          go_wp2
                          have z := fin.out _ I11.out.hl.tail I11.out.od
                          refine bodyPost_ret (disk_res rfl rfl rfl z.2.2) rfl ?_
                          exact ⟨_, rfl, z.1, z.2.1⟩
                        · have hle2 := (diskB_len HE.out).2
                          have e1 : (pd, pb) = (⟨e.safe, e.late ++ [(secOf a k, z)]⟩, true) := by rw [HP.out, putDk, if_neg (by rw [HE.out]; simp), if_neg (by rw [hin]; simp [hz64, h2])]
                          cases e1
                          rw [if_pos (by omega)] at HS
                          have T11 := (show Hid _ from I11.out.turn hs6 hs3 O11.out)
                          clear HP hin hle2
                          go_wp2
                          go_roundw
                          case rel => exact ⟨k + 1, _, _, _, by omega, by go_num, HS.out, T11.out⟩
                          case measure => simp [intOf]; omega
            · obtain rfl : k = 64 := by omega
              have hltI : ¬ ((64 : Nat) : Int) < 64 := by omega
              have HR : Hid ((qd, qb) = (e, true)) := (show _ = _ by rw [HQ'.out, HN.out])
              cases HR.out
              obtain ⟨q1, q2, _, _⟩ := rk_two HI.out.hl.at0
              obtain ⟨r1, r2, r3, r4⟩ := rk_two HI.out.hl.at2
              clear HQ' HR
              go_wp2
              have z := OwnDk.laid (HI.out.hl.sub (L' := [(w.heap.size + 1, #[.slice none 0 0, .slice none 0 0], 34)]) (by simp)) (by omega) (by simp) HI.out.oe
              refine bodyPost_ret (disk_res rfl rfl rfl z.2.2) rfl ?_
              exact ⟨_, rfl, z.1, z.2.1⟩
        · have HR : Hid ((qd, qb) = (d, false)) := (show _ = _ by rw [HQ.out, areaDk, if_neg (by rw [HB.out]; simp), if_pos (by simp only [putOkA, hle, decide_false, Bool.and_false])])
          have hnl : 4096 - at' < (b.length : Int) := by omega
          cases HR.out
          clear HQ HR
          go_wp2
          have z := fin.out _ H4.out O4.out
          refine bodyPost_ret (disk_res rfl rfl rfl z.2.2) rfl ?_
          exact ⟨_, rfl, z.1, z.2.1⟩
end Go.Proofs.YtiejfnnokfedkaaDoor

/- The draw of a disk with heads and bytes. No condition. -/
namespace Go.Proofs.YtiejfnnokfedkaaDoor
open Go.RowKit
set_option maxRecDepth 100000
set_option linter.unusedVariables false

theorem fit_headPut' {d : PDisk} (h : DiskFit d) (q : PHead) : DiskFit (headPutDk d q).1 := by
  unfold headPutDk
  split
  · exact ⟨by decide, by decide, (fun s hs => by cases hs), (fun p hp => by cases hp)⟩
  · split
    · exact h
    · unfold putDk
      split
      · exact ⟨by decide, by decide, (fun s hs => by cases hs), (fun p hp => by cases hp)⟩
      · rename_i hb
        split
        · exact h
        · exact fit_snoc h (diskB_len (by simpa using hb)).2 (by rw [packS_size]; omega)
theorem fit_area' {d : PDisk} (h : DiskFit d) (ar at' : Int) (b : List Int) : DiskFit (areaDk d ar at' b).1 := by
  unfold areaDk
  split
  · exact ⟨by decide, by decide, (fun s hs => by cases hs), (fun p hp => by cases hp)⟩
  · rename_i hb
    split
    · exact h
    · rename_i hp
      have ha : ar = 0 ∨ ar = 1 := by
        simp only [putOkA, Bool.not_eq_false, Bool.and_eq_true, Bool.or_eq_true, decide_eq_true_eq] at hp
        exact hp.1.1
      cases e : areaN d ar b at'.toNat 64 with
      | none => exact h
      | some e' => exact fit_right (areaN_right (by simpa using hb) ha (Nat.le_refl _) e)

set_option maxHeartbeats 1000000 in
set_option maxRecDepth 100000 in
theorem drawDisk16_any {w0 : World} {g : Nat} {v : Value} {xs : List Int} {w : World} (h : Cur w0 g v xs w) (hb : ∀ x ∈ xs, 0 ≤ x ∧ x ≤ 255) :
    Calls Tryd.prog 37 #[.pointer (some ⟨g, 0, none⟩)] w fun e w' => ∃ (u : Value) (d : PDisk), e = .returned u ∧ DiskI (w.heap.size + 1) w'.heap.size w' u d ∧ DiskFit d ∧ Cur w0 g v xs w' ∧ w.grownBy w' (some g) := by
  have HB : Hid (∀ x ∈ xs, 0 ≤ x ∧ x ≤ 255) := hb
  have hgl := h.lt
  clear hb
  have h1 := (Dw.refl h).new #[.slice none 0 0, .slice none 0 0] 34
  obtain ⟨w1, hw1⟩ : ∃ y, y = w.alloc (.cells #[.slice none 0 0, .slice none 0 0] 34) := ⟨_, rfl⟩
  have hs1 : w1.heap.size = w.heap.size + 1 := by rw [hw1, World.size_alloc]
  have HS1 := (show Hid (_ = _) from hs1)
  clear hs1
  rw [← hw1] at h1
  have H1 := (show Hid _ from h1)
  clear h1
  go_enter Tryd.func37, Tryd.ntmps37
  go_wp2_with fail
  go_at_call 71
  rw [← hw1]
  refine (drawDisk15_any H1.out.cur HB.out).mono ?_
  rintro e w2 ⟨v2, d, rfl, o2, hf, k2, g2⟩
  have h2 := H1.out.cursor k2 g2
  have hsz2 := g2.size
  obtain ⟨sa, sn, sc, la, ln, lc, rfl, _⟩ := id o2
  have h3 := (h2.add o2.diskI (by rw [HS1.out]; omega) (Nat.le_refl _)).new #[.slice sa sn sc, .slice la ln lc] 34
  obtain ⟨w3, hw3⟩ : ∃ y, y = w2.alloc (.cells #[.slice sa sn sc, .slice la ln lc] 34) := ⟨_, rfl⟩
  rw [← hw3] at h3
  have hRD : w.heap.size < w2.heap.size := by rw [HS1.out] at hsz2; omega
  obtain ⟨D, hD⟩ : ∃ D, D = w2.heap.size := ⟨_, rfl⟩
  rw [HS1.out, ← hD] at h3
  rw [← hD] at hRD
  have H3 := (show Hid _ from h3)
  have HF := (show Hid (DiskFit d) from hf)
  clear o2 hf k2 g2 h2 h3 hw1 H1 hsz2
  go_wp2_with fail
  rw [← hw3, ← hD]
  clear hw3 hD
  go_loopw [4] (fun i wr => ∃ (k : Nat) (d : PDisk) (sa : Option Addr) (sn sc : Nat) (la : Option Addr) (ln lc lo hi : Nat), k ≤ 4 ∧ i = .int .i64 k ∧ DiskFit d ∧ (hi ≤ D ∨ D < lo) ∧ w.heap.size < lo ∧ Dw w0 g v xs w [(D, #[.slice sa sn sc, .slice la ln lc], 34), (w.heap.size, #[.slice none 0 0, .slice none 0 0], 34)] [(lo, hi, .agg #[.slice sa sn sc, .slice la ln lc], d)] wr) (fun i _ => 4 - (intOf i).toNat)
  case atStart => exact ⟨0, d, _, _, _, _, _, _, _, _, by omega, rfl, HF.out, .inl (Nat.le_refl _), Nat.lt_succ_self _, H3.out⟩
  case round =>
    clear H3 HF
    obtain ⟨k, d, sa, sn, sc, la, ln, lc, lo, hi, hk, rfl, hf, hDD, hRl, hI⟩ := hrel
    have HI := (show Hid _ from hI)
    have HF := (show Hid (DiskFit d) from hf)
    clear hI hf
    go_wp2_with fail
    go_at_call 45
    refine (below_any 4 (by omega) HI.out.cur HB.out).mono ?_
    rintro e w4 ⟨x, rfl, x0, x4, _, k4, g4⟩
    replace x4 := x4 (by omega)
    have I4 := (show Hid _ from HI.out.cursor k4 g4)
    clear k4 g4 HI
    have fin : Hid (∀ (W : World), Dw w0 g v xs w [(D, #[.slice sa sn sc, .slice la ln lc], 34), (w.heap.size, #[.slice none 0 0, .slice none 0 0], 34)] [(lo, hi, .agg #[.slice sa sn sc, .slice la ln lc], d)] W → ∃ W', W' = (W.setCell ⟨w.heap.size, 0, none⟩ (.slice sa sn sc)).setCell ⟨w.heap.size, 1, none⟩ (.slice la ln lc) ∧ W'.heap[w.heap.size]? = some (.cells #[.slice sa sn sc, .slice la ln lc] 34 (0, 0)) ∧ ∃ (u : Value) (d' : PDisk), Ending.returned (.agg #[.slice sa sn sc, .slice la ln lc]) = .returned u ∧ DiskI (w.heap.size + 1) W'.heap.size W' u d' ∧ DiskFit d' ∧ Cur w0 g v xs W' ∧ w.grownBy W' (some g)) := fun W hW => by
      have hn : w.heap.size ≠ D := by omega
      have F := hW.swap.set2 (by simp; omega) (by simp only [List.mem_cons, List.not_mem_nil, or_false, forall_eq]; omega) (.slice sa sn sc) (.slice la ln lc)
      obtain ⟨o, _, o3⟩ := F.rows _ (List.mem_cons_self ..)
      exact ⟨_, rfl, F.at0, _, d, rfl, o.wide (by simp only; omega) o3, HF.out, F.cur, F.gr⟩
    by_cases hlt : (k : Int) < x
    · obtain ⟨q1, q2, _, _⟩ := rk_two I4.out.at0
      have CK := (show Hid _ from sdiskOk_any (I4.out.rows _ (List.mem_cons_self ..)).1.at HF.out)
      go_wp2_with fail
      go_at_call 38
      refine Calls.mono CK.out ?_
      rintro e w5 ⟨rfl, b5⟩
      have I5 := (show Hid _ from I4.out.below b5)
      clear CK b5 I4 q1 q2
      cases hb : diskB d
      · clear hb
        obtain ⟨q1, q2, _, _⟩ := rk_two I5.out.at0
        obtain ⟨r1, r2, r3, r4⟩ := rk_two I5.out.at1
        go_wp2
        obtain ⟨W', rfl, f1, f2⟩ := fin.out _ I5.out
        refine bodyPost_ret (results_cell_row rfl _ _ w.heap.size 34 #[.slice sa sn sc, .slice la ln lc] (0, 0) _ rfl f1 Tryd.underlying34 rfl rfl) rfl ?_
        obtain ⟨u, x, e1, e2⟩ := f2
        first
          | exact ⟨u, x, e1, e2⟩
          | exact ⟨u, e1, x, e2⟩
      · have HBd := (show Hid (diskB d = true) from hb)
        clear hb
        go_wp2_with fail
        have HDk := (show Hid (∀ W, Dw w0 g v xs w [(D, #[.slice sa sn sc, .slice la ln lc], 34), (w.heap.size, #[.slice none 0 0, .slice none 0 0], 34)] [(lo, hi, .agg #[.slice sa sn sc, .slice la ln lc], d)] W → DiskAt W (.agg #[.slice sa sn sc, .slice la ln lc]) d) from fun W h => (h.rows _ (List.mem_cons_self ..)).1.at)
        have HS := (show Hid (∀ W, Dw w0 g v xs w [(D, #[.slice sa sn sc, .slice la ln lc], 34), (w.heap.size, #[.slice none 0 0, .slice none 0 0], 34)] [(lo, hi, .agg #[.slice sa sn sc, .slice la ln lc], d)] W → W.cell? ⟨D, 0, none⟩ = some (.slice sa sn sc) ∧ W.cell? ⟨D, 1, none⟩ = some (.slice la ln lc) ∧ Dw w0 g v xs w [(D, #[.slice sa sn sc, .slice la ln lc], 34), (w.heap.size, #[.slice none 0 0, .slice none 0 0], 34)] [(lo, hi, .agg #[.slice sa sn sc, .slice la ln lc], d)] W) from fun W h => ⟨(rk_two h.at0).1, (rk_two h.at0).2.1, h⟩)
        have hD5 : D < w5.heap.size := lt_of_block I5.out.at0
        have hh5 : hi ≤ w5.heap.size := (I5.out.rows _ (List.mem_cons_self ..)).2.2
        have hg5 : g < w5.heap.size := I5.out.cur.lt
        have KD := (show Hid (Dw w0 g v xs w [(D, #[.slice sa sn sc, .slice la ln lc], 34), (w.heap.size, #[.slice none 0 0, .slice none 0 0], 34)] [(lo, hi, .agg #[.slice sa sn sc, .slice la ln lc], d)] w5.drew) from I5.out.below (below_drewN 1))
        have CH := (show Hid (∀ W, Dw w0 g v xs w [(D, #[.slice sa sn sc, .slice la ln lc], 34), (w.heap.size, #[.slice none 0 0, .slice none 0 0], 34)] [(lo, hi, .agg #[.slice sa sn sc, .slice la ln lc], d)] W → Calls Tryd.prog 27 #[.pointer (some ⟨g, 0, none⟩)] W fun e w' => ∃ q : PHead, e = .returned (.agg #[.int .i64 q.no, .int .i64 q.area, .int .i64 q.en]) ∧ Dw w0 g v xs w [(D, #[.slice sa sn sc, .slice la ln lc], 34), (w.heap.size, #[.slice none 0 0, .slice none 0 0], 34)] [(lo, hi, .agg #[.slice sa sn sc, .slice la ln lc], d)] w' ∧ Cur w0 g v xs w' ∧ W.grownBy w' (some g)) from fun W h => (drawHead_any h.cur HB.out).mono (by
          rintro e w' ⟨q, rfl, _, k, gr⟩
          exact ⟨q, rfl, h.cursor k gr, k, gr⟩))
        have CP := (show Hid (∀ W (q : PHead), Dw w0 g v xs w [(D, #[.slice sa sn sc, .slice la ln lc], 34), (w.heap.size, #[.slice none 0 0, .slice none 0 0], 34)] [(lo, hi, .agg #[.slice sa sn sc, .slice la ln lc], d)] W → Calls Tryd.prog 72 #[.agg #[.slice sa sn sc, .slice la ln lc], .agg #[.int .i64 q.no, .int .i64 q.area, .int .i64 q.en]] W fun e w' => ∃ na nn nc ma mn mc bb dn, e = .returned (.tuple #[.agg #[.slice na nn nc, .slice ma mn mc], .bool bb]) ∧ DiskI W.heap.size w'.heap.size w' (.agg #[.slice na nn nc, .slice ma mn mc]) dn ∧ DiskFit dn ∧ Dw w0 g v xs w [(D, #[.slice sa sn sc, .slice la ln lc], 34), (w.heap.size, #[.slice none 0 0, .slice none 0 0], 34)] [(lo, hi, .agg #[.slice sa sn sc, .slice la ln lc], d)] w' ∧ Below W.heap.size W w') from fun W q h => (sheadPut_any (HDk.out W h) HF.out q).mono (by
          rintro e w' ⟨v', rfl, o, b⟩
          have o' := o.diskB.diskI
          obtain ⟨_, _, _, _, _, _, rfl, _⟩ := o
          exact ⟨_, _, _, _, _, _, _, _, rfl, o', fit_headPut' HF.out q, h.below b, b⟩))
        go_cut [5, 6] from 9 to 40 (fun s5 s6 wx => ∃ (N lo2 hi2 : Nat) (na : Option Addr) (nn nc : Nat) (ma : Option Addr) (mn mc : Nat) (bb : Bool) (dn : PDisk), s5 = .pointer (some ⟨N, 0, none⟩) ∧ s6 = .bool bb ∧ DiskFit dn ∧ D < N ∧ D < lo2 ∧ w.heap.size < lo2 ∧ hi ≤ N ∧ Dw w0 g v xs w ((N, #[.slice na nn nc, .slice ma mn mc], 34) :: [(D, #[.slice sa sn sc, .slice la ln lc], 34), (w.heap.size, #[.slice none 0 0, .slice none 0 0], 34)]) ((lo2, hi2, .agg #[.slice na nn nc, .slice ma mn mc], dn) :: [(lo, hi, .agg #[.slice sa sn sc, .slice la ln lc], d)]) wx)
        case first =>
          go_region_held3 (fun w' => w'.cell? ⟨D, 0, none⟩ = some (.slice sa sn sc) ∧ w'.cell? ⟨D, 1, none⟩ = some (.slice la ln lc) ∧ Dw w0 g v xs w [(D, #[.slice sa sn sc, .slice la ln lc], 34), (w.heap.size, #[.slice none 0 0, .slice none 0 0], 34)] [(lo, hi, .agg #[.slice sa sn sc, .slice la ln lc], d)] w')
            (first | exact HS.out _ KD.out | exact HS.out _ (KD.out.new _ _).tail | exact HS.out _ Q0.out | exact HS.out _ (Q0.out.new _ _).tail | exact HS.out _ Q1.out | exact HS.out _ (Q1.out.new _ _).tail | exact HS.out _ (PS.out.sub (by simp) (by simp)) | exact HS.out _ (PN.out.sub (by simp) (by simp)))
            (first
              | (go_at_call 27
                 refine Calls.mono (CH.out _ (‹_ ∧ _ ∧ Dw _ _ _ _ _ _ _ _›).2.2) ?_
                 rintro e y0 ⟨q, rfl, l0, k0, g0⟩
                 have Q0 := (show Hid (Dw w0 g v xs w [(D, #[.slice sa sn sc, .slice la ln lc], 34), (w.heap.size, #[.slice none 0 0, .slice none 0 0], 34)] [(lo, hi, .agg #[.slice sa sn sc, .slice la ln lc], d)] y0) from l0)
                 have z0 : w5.heap.size ≤ y0.heap.size := by have := g0.size; (try simp at this); omega
                 (first
                   | (have M0 := (show Hid (Dw w0 g v xs w ((w5.heap.size, #[.slice none 0 0, .slice none 0 0], 34) :: [(D, #[.slice sa sn sc, .slice la ln lc], 34), (w.heap.size, #[.slice none 0 0, .slice none 0 0], 34)]) [(lo, hi, .agg #[.slice sa sn sc, .slice la ln lc], d)] y0) from (KD.out.new #[.slice none 0 0, .slice none 0 0] 34).cursor k0 g0))
                   | skip)
                 clear l0 k0 g0)
              | (go_at_call 72
                 refine Calls.mono (CP.out _ q (‹_ ∧ _ ∧ Dw _ _ _ _ _ _ _ _›).2.2) ?_
                 rintro e y1 ⟨na, nn, nc, ma, mn, mc, bb, dn, rfl, o1, f1, l1, b1⟩
                 have Q1 := (show Hid (Dw w0 g v xs w [(D, #[.slice sa sn sc, .slice la ln lc], 34), (w.heap.size, #[.slice none 0 0, .slice none 0 0], 34)] [(lo, hi, .agg #[.slice sa sn sc, .slice la ln lc], d)] y1) from l1)
                 have z1 : y0.heap.size ≤ y1.heap.size := by have := b1.size; (try simp at this); omega
                 have F1 := (show Hid (DiskFit dn) from f1)
                 have o1' := o1.wide (lo' := y0.heap.size) (by (try simp)) (Nat.le_refl _)
                 (first
                   | (have hN0 := lt_of_block M0.out.at0
                      have n1 := (M0.out.below b1).add o1 (by (try simp); omega) (Nat.le_refl _)
                      obtain ⟨m1, m2, m3, m4⟩ := rk_two n1.at0
                      have PS := (show Hid _ from n1.set2 (by simp; omega) (by (try simp); omega) (.slice na nn nc) (.slice ma mn mc))
                      clear n1)
                   | (have n1 := ((Q0.out.new #[.slice none 0 0, .slice none 0 0] 34).below b1).add o1 (by (try simp); omega) (Nat.le_refl _)
                      obtain ⟨m1, m2, m3, m4⟩ := rk_two n1.at0
                      have PS := (show Hid _ from n1.set2 (by simp; omega) (by (try simp); omega) (.slice na nn nc) (.slice ma mn mc))
                      clear n1)
                   | (have PN := (show Hid _ from (Q1.out.add o1 (by (try simp); omega) (Nat.le_refl _)).new #[.slice na nn nc, .slice ma mn mc] 34)))
                 clear l1 b1 o1 o1' f1))
          all_goals go_wp2
          all_goals go_meet
          all_goals
            case rel =>
              first
                | exact ⟨_, _, _, _, _, _, _, _, _, _, _, rfl, rfl, F1.out, by omega, by (try simp); omega, by (try simp); omega, by omega, PS.out⟩
                | exact ⟨_, _, _, _, _, _, _, _, _, _, _, rfl, rfl, F1.out, by omega, by (try simp); omega, by (try simp); omega, by omega, PN.out⟩
        case rest =>
          clear KD HS CH CP hg5 I5
          obtain ⟨N, lo2, hi2, na, nn, nc, ma, mn, mc, bb, dn, rfl, rfl, hfn, hDN, hDl, hRl2, hhN, hc⟩ := hcut
          have HN := (show Hid (Dw w0 g v xs w ((N, #[.slice na nn nc, .slice ma mn mc], 34) :: [(D, #[.slice sa sn sc, .slice la ln lc], 34), (w.heap.size, #[.slice none 0 0, .slice none 0 0], 34)]) ((lo2, hi2, .agg #[.slice na nn nc, .slice ma mn mc], dn) :: [(lo, hi, .agg #[.slice sa sn sc, .slice la ln lc], d)]) wc) from hc)
          have FN := (show Hid (DiskFit dn) from hfn)
          clear hc hfn
          go_wp2_with fail
          go_at_call 73
          refine (once_any 2 (by omega) HN.out.cur HB.out).mono ?_
          rintro e w8 ⟨r, rfl, k8, g8⟩
          have I8 := (show Hid _ from HN.out.cursor k8 g8)
          clear k8 g8 HN
          cases r
          · cases bb
            · go_wp2
              go_roundw
              case rel => exact ⟨k + 1, d, sa, sn, sc, la, ln, lc, lo, hi, by omega, by go_num, HF.out, hDD, hRl, I8.out.sub (by simp) (by simp)⟩
              case measure => simp [intOf]; omega
            · obtain ⟨p1, p2, _, _⟩ := rk_two I8.out.at0
              obtain ⟨y1, y2, y3, y4⟩ := rk_two I8.out.at1
              have T8 := (show Hid (Dw w0 g v xs w [(D, #[.slice na nn nc, .slice ma mn mc], 34), (w.heap.size, #[.slice none 0 0, .slice none 0 0], 34)] [(lo2, hi2, .agg #[.slice na nn nc, .slice ma mn mc], dn)] _) from ((I8.out.swap.sub (R' := [(lo2, hi2, .agg #[.slice na nn nc, .slice ma mn mc], dn)]) (fun p hp => hp) (by simp)).set2 (by simp; omega) (by simp; omega) (.slice na nn nc) (.slice ma mn mc)).sub (by simp) (by simp))
              go_wp2
              go_roundw
              case rel => exact ⟨k + 1, dn, _, _, _, _, _, _, _, _, by omega, by go_num, FN.out, .inr (by omega), by omega, T8.out⟩
              case measure => simp [intOf]; omega
          · obtain ⟨q1, q2, _, _⟩ := rk_two I8.out.at1
            have J8 := (show Hid (Dw w0 g v xs w ((N, #[.slice na nn nc, .slice ma mn mc], 34) :: [(D, #[.slice sa sn sc, .slice la ln lc], 34), (w.heap.size, #[.slice none 0 0, .slice none 0 0], 34)]) [(lo, hi, .agg #[.slice sa sn sc, .slice la ln lc], d)] w8) from I8.out.sub (fun p hp => hp) (by simp))
            clear I8 q1 q2
            go_wp2_with fail
            have HDk := (show Hid (∀ W, Dw w0 g v xs w ((N, #[.slice na nn nc, .slice ma mn mc], 34) :: [(D, #[.slice sa sn sc, .slice la ln lc], 34), (w.heap.size, #[.slice none 0 0, .slice none 0 0], 34)]) [(lo, hi, .agg #[.slice sa sn sc, .slice la ln lc], d)] W → DiskAt W (.agg #[.slice sa sn sc, .slice la ln lc]) d) from fun W h => (h.rows _ (List.mem_cons_self ..)).1.at)
            have HS := (show Hid (∀ W, Dw w0 g v xs w [(D, #[.slice sa sn sc, .slice la ln lc], 34), (w.heap.size, #[.slice none 0 0, .slice none 0 0], 34)] [(lo, hi, .agg #[.slice sa sn sc, .slice la ln lc], d)] W → W.cell? ⟨D, 0, none⟩ = some (.slice sa sn sc) ∧ W.cell? ⟨D, 1, none⟩ = some (.slice la ln lc) ∧ Dw w0 g v xs w [(D, #[.slice sa sn sc, .slice la ln lc], 34), (w.heap.size, #[.slice none 0 0, .slice none 0 0], 34)] [(lo, hi, .agg #[.slice sa sn sc, .slice la ln lc], d)] W) from fun W h => ⟨(rk_two h.at0).1, (rk_two h.at0).2.1, h⟩)
            have hN8 : N < w8.heap.size := lt_of_block J8.out.at0
            have hh8 : hi ≤ w8.heap.size := (J8.out.rows _ (List.mem_cons_self ..)).2.2
            have hg8 : g < w8.heap.size := J8.out.cur.lt
            have KD := (show Hid (Dw w0 g v xs w ((N, #[.slice na nn nc, .slice ma mn mc], 34) :: [(D, #[.slice sa sn sc, .slice la ln lc], 34), (w.heap.size, #[.slice none 0 0, .slice none 0 0], 34)]) [(lo, hi, .agg #[.slice sa sn sc, .slice la ln lc], d)] w8.drew) from J8.out.below (below_drewN 1))
            have CB := (show Hid (∀ W (n : Int), n ≤ 1000 → Dw w0 g v xs w ((N, #[.slice na nn nc, .slice ma mn mc], 34) :: [(D, #[.slice sa sn sc, .slice la ln lc], 34), (w.heap.size, #[.slice none 0 0, .slice none 0 0], 34)]) [(lo, hi, .agg #[.slice sa sn sc, .slice la ln lc], d)] W → Calls Tryd.prog 45 #[.pointer (some ⟨g, 0, none⟩), .int .i64 n] W fun e w' => ∃ x : Int, e = .returned (.int .i64 x) ∧ Dw w0 g v xs w ((N, #[.slice na nn nc, .slice ma mn mc], 34) :: [(D, #[.slice sa sn sc, .slice la ln lc], 34), (w.heap.size, #[.slice none 0 0, .slice none 0 0], 34)]) [(lo, hi, .agg #[.slice sa sn sc, .slice la ln lc], d)] w' ∧ W.grownBy w' (some g)) from fun W n hn h => (below_any n (by omega) h.cur HB.out).mono (by
              rintro e w' ⟨x, rfl, _, _, _, k, gr⟩
              exact ⟨x, rfl, h.cursor k gr, gr⟩))
            have CY := (show Hid (∀ W, Dw w0 g v xs w ((N, #[.slice na nn nc, .slice ma mn mc], 34) :: [(D, #[.slice sa sn sc, .slice la ln lc], 34), (w.heap.size, #[.slice none 0 0, .slice none 0 0], 34)]) [(lo, hi, .agg #[.slice sa sn sc, .slice la ln lc], d)] W → Calls Tryd.prog 46 #[.pointer (some ⟨g, 0, none⟩), .int .i64 90] W fun e w' => ∃ u zs, e = .returned u ∧ Sl .u8 w' u zs ∧ zs.length ≤ 90 ∧ (∀ y ∈ zs, 0 ≤ y ∧ y ≤ 255) ∧ Dw w0 g v xs w ((N, #[.slice na nn nc, .slice ma mn mc], 34) :: [(D, #[.slice sa sn sc, .slice la ln lc], 34), (w.heap.size, #[.slice none 0 0, .slice none 0 0], 34)]) [(lo, hi, .agg #[.slice sa sn sc, .slice la ln lc], d)] w' ∧ W.grownBy w' (some g)) from fun W h => (drawBytes_any h.cur HB.out 90 (by omega)).mono (by
              rintro e w' ⟨u, zs, rfl, o, hl, hy, k, gr⟩
              exact ⟨u, zs, rfl, o.sl, hl, hy, h.cursor k gr, gr⟩))
            have CP := (show Hid (∀ W (ar at' : Int) (u : Value) (zs : List Int), Dw w0 g v xs w ((N, #[.slice na nn nc, .slice ma mn mc], 34) :: [(D, #[.slice sa sn sc, .slice la ln lc], 34), (w.heap.size, #[.slice none 0 0, .slice none 0 0], 34)]) [(lo, hi, .agg #[.slice sa sn sc, .slice la ln lc], d)] W → Sl .u8 W u zs → (∀ y ∈ zs, 0 ≤ y ∧ y ≤ 255) → zs.length ≤ 90 → Calls Tryd.prog 19 #[.agg #[.slice sa sn sc, .slice la ln lc], .int .i64 ar, .int .i64 at', u] W fun e w' => ∃ ea en ec fa fn fc bb de, e = .returned (.tuple #[.agg #[.slice ea en ec, .slice fa fn fc], .bool bb]) ∧ DiskI W.heap.size w'.heap.size w' (.agg #[.slice ea en ec, .slice fa fn fc]) de ∧ DiskFit de ∧ Dw w0 g v xs w ((N, #[.slice na nn nc, .slice ma mn mc], 34) :: [(D, #[.slice sa sn sc, .slice la ln lc], 34), (w.heap.size, #[.slice none 0 0, .slice none 0 0], 34)]) [(lo, hi, .agg #[.slice sa sn sc, .slice la ln lc], d)] w' ∧ Below W.heap.size W w') from fun W ar at' u zs h hu hy hl => (sareaPut_any (HDk.out W h) HF.out ar at' hu hy (by omega)).mono (by
              rintro e w' ⟨v', rfl, o, b⟩
              have o' := o.diskB.diskI
              obtain ⟨_, _, _, _, _, _, rfl, _⟩ := o
              exact ⟨_, _, _, _, _, _, _, _, rfl, o', fit_area' HF.out ar at' zs, h.below b, b⟩))
            go_region_held3 (fun w' => w'.cell? ⟨D, 0, none⟩ = some (.slice sa sn sc) ∧ w'.cell? ⟨D, 1, none⟩ = some (.slice la ln lc) ∧ Dw w0 g v xs w [(D, #[.slice sa sn sc, .slice la ln lc], 34), (w.heap.size, #[.slice none 0 0, .slice none 0 0], 34)] [(lo, hi, .agg #[.slice sa sn sc, .slice la ln lc], d)] w')
              (first | exact HS.out _ KD.out.tail | exact HS.out _ Q0.out.tail | exact HS.out _ Q1.out.tail | exact HS.out _ Q2.out.tail | exact HS.out _ Q3.out.tail | exact HS.out _ (P3.out.tail.sub (fun p hp => hp) (by simp)))
              (first
                | (go_at_call 45
                   with_reducible refine Calls.mono (CB.out _ 2 (by decide) KD.out) ?_
                   rintro e y0 ⟨ar, rfl, l0, g0⟩
                   have Q0 := (show Hid (Dw w0 g v xs w ((N, #[.slice na nn nc, .slice ma mn mc], 34) :: [(D, #[.slice sa sn sc, .slice la ln lc], 34), (w.heap.size, #[.slice none 0 0, .slice none 0 0], 34)]) [(lo, hi, .agg #[.slice sa sn sc, .slice la ln lc], d)] y0) from l0)
                   have z0 : w8.heap.size ≤ y0.heap.size := g0.size
                   clear l0 g0)
                | (go_at_call 45
                   with_reducible refine Calls.mono (CB.out _ 200 (by decide) Q0.out) ?_
                   rintro e y1 ⟨at', rfl, l1, g1⟩
                   have Q1 := (show Hid (Dw w0 g v xs w ((N, #[.slice na nn nc, .slice ma mn mc], 34) :: [(D, #[.slice sa sn sc, .slice la ln lc], 34), (w.heap.size, #[.slice none 0 0, .slice none 0 0], 34)]) [(lo, hi, .agg #[.slice sa sn sc, .slice la ln lc], d)] y1) from l1)
                   have z1 : w8.heap.size ≤ y1.heap.size := Nat.le_trans z0 g1.size
                   clear l1 g1)
                | (go_at_call 46
                   refine Calls.mono (CY.out _ Q1.out) ?_
                   rintro e y2 ⟨u, zs, rfl, ou, hul, huy, l2, g2⟩
                   have Q2 := (show Hid (Dw w0 g v xs w ((N, #[.slice na nn nc, .slice ma mn mc], 34) :: [(D, #[.slice sa sn sc, .slice la ln lc], 34), (w.heap.size, #[.slice none 0 0, .slice none 0 0], 34)]) [(lo, hi, .agg #[.slice sa sn sc, .slice la ln lc], d)] y2) from l2)
                   have z2 : w8.heap.size ≤ y2.heap.size := Nat.le_trans z1 g2.size
                   have OU := (show Hid (Sl .u8 y2 u zs ∧ (∀ y ∈ zs, 0 ≤ y ∧ y ≤ 255) ∧ zs.length ≤ 90) from ⟨ou, huy, hul⟩)
                   clear l2 g2 ou hul huy)
                | (go_at_call 19
                   refine Calls.mono (CP.out _ ar at' u zs Q2.out OU.out.1 OU.out.2.1 OU.out.2.2) ?_
                   rintro e y3 ⟨ea, en, ec, fa, fn, fc, bb3, de, rfl, o3, f3, l3, b3⟩
                   have Q3 := (show Hid (Dw w0 g v xs w ((N, #[.slice na nn nc, .slice ma mn mc], 34) :: [(D, #[.slice sa sn sc, .slice la ln lc], 34), (w.heap.size, #[.slice none 0 0, .slice none 0 0], 34)]) [(lo, hi, .agg #[.slice sa sn sc, .slice la ln lc], d)] y3) from l3)
                   have F3 := (show Hid (DiskFit de) from f3)
                   have P3 := (show Hid (Dw w0 g v xs w ((N, #[.slice ea en ec, .slice fa fn fc], 34) :: [(D, #[.slice sa sn sc, .slice la ln lc], 34), (w.heap.size, #[.slice none 0 0, .slice none 0 0], 34)]) ((y2.heap.size, y3.heap.size, .agg #[.slice ea en ec, .slice fa fn fc], de) :: [(lo, hi, .agg #[.slice sa sn sc, .slice la ln lc], d)]) _) from (Q3.out.add o3 (by omega) (Nat.le_refl _)).set2 (by simp; omega) (by simp; omega) (.slice ea en ec) (.slice fa fn fc))
                   obtain ⟨m1, m2, m3, m4⟩ := rk_two Q3.out.at0
                   clear l3 b3 o3 f3))
            obtain ⟨w9, hw9⟩ : ∃ W, W = (y3.setCell ⟨N, 0, none⟩ (.slice ea en ec)).setCell ⟨N, 1, none⟩ (.slice fa fn fc) := ⟨_, rfl⟩
            rw [← hw9] at P3
            rw [← hw9]
            obtain ⟨lo3, hlo3⟩ : ∃ x, x = y2.heap.size := ⟨_, rfl⟩
            obtain ⟨hi3, hhi3⟩ : ∃ x, x = y3.heap.size := ⟨_, rfl⟩
            have hl3 : N < lo3 := by rw [hlo3]; omega
            rw [← hlo3, ← hhi3] at P3
            clear hw9 m1 m2 m3 m4 Q3 Q2 Q1 Q0 OU KD CB CY CP HS HDk hlo3 hhi3
            cases bb3
            · go_wp2
              go_roundw
              case rel => exact ⟨k + 1, d, sa, sn, sc, la, ln, lc, lo, hi, by omega, by go_num, HF.out, hDD, hRl, P3.out.sub (by simp) (by simp)⟩
              case measure => simp [intOf]; omega
            · obtain ⟨p1, p2, _, _⟩ := rk_two P3.out.at0
              obtain ⟨y1, y2, y3, y4⟩ := rk_two P3.out.at1
              have T8 := (show Hid (Dw w0 g v xs w [(D, #[.slice ea en ec, .slice fa fn fc], 34), (w.heap.size, #[.slice none 0 0, .slice none 0 0], 34)] [(lo3, hi3, .agg #[.slice ea en ec, .slice fa fn fc], de)] _) from ((P3.out.swap.sub (R' := [(lo3, hi3, .agg #[.slice ea en ec, .slice fa fn fc], de)]) (fun p hp => hp) (by simp)).set2 (by simp; omega) (by simp; omega) (.slice ea en ec) (.slice fa fn fc)).sub (by simp) (by simp))
              go_wp2
              go_roundw
              case rel => exact ⟨k + 1, de, _, _, _, _, _, _, _, _, by omega, by go_num, F3.out, .inr (by omega), by omega, T8.out⟩
              case measure => simp [intOf]; omega
    · obtain ⟨q1, q2, _, _⟩ := rk_two I4.out.at0
      obtain ⟨r1, r2, r3, r4⟩ := rk_two I4.out.at1
      go_wp2
      obtain ⟨W', rfl, f1, f2⟩ := fin.out _ I4.out
      refine bodyPost_ret (results_cell_row rfl _ _ w.heap.size 34 #[.slice sa sn sc, .slice la ln lc] (0, 0) _ rfl f1 Tryd.underlying34 rfl rfl) rfl ?_
      obtain ⟨u, x, e1, e2⟩ := f2
      first
        | exact ⟨u, x, e1, e2⟩
        | exact ⟨u, e1, x, e2⟩
end Go.Proofs.YtiejfnnokfedkaaDoor

/- The draw DrawAreaPut. No condition. -/
namespace Go.Proofs.YtiejfnnokfedkaaDoor
open Go.RowKit
set_option maxRecDepth 100000
set_option linter.unusedVariables false

theorem disk_four_res {f : Func} {p q u r : Tmp} (hf : f.results = #[.cell p 34, .tmp q, .tmp u, .tmp r]) {tmps : Array Value} {w : World} {g : Nat} {a b : Value} (h4 : tmps.getD p undef = .pointer (some ⟨g, 0, none⟩)) (hb : w.heap[g]? = some (.cells #[a, b] 34 (0, 0))) :
    (results f tmps).run Tryd.prog w = .ok (.tuple #[.agg #[a, b], tmps.getD q undef, tmps.getD u undef, tmps.getD r undef]) w := by
  have h4' : tmps[p]?.getD undef = .pointer (some ⟨g, 0, none⟩) := by simpa using h4
  simp [results, hf, h4', asAddr, run_loadVar_row w g 34 34 #[a, b] (0, 0) _ hb Tryd.underlying34 rfl rfl]
theorem Own.past {B g : Nat} {e : TypeId} {K : IntKind} {w w' : World} {v : Value} {xs : List Int} (h : Own B e K w v xs) (hg : w.grownBy w' (some g)) (hl : g < B) : Own B e K w' v xs := h.kept1 hg (fun k hk => by have := (h.lt k hk).1; omega)

set_option maxHeartbeats 1000000 in
set_option maxRecDepth 100000 in
theorem drawAreaPut_any {v : Value} {xs : List Int} {w : World} (h : Sl .u8 w v xs) (hb : ∀ x ∈ xs, 0 ≤ x ∧ x ≤ 255) (hn : xs.length ≤ 1099511627776) :
    Calls Tryd.prog 17 #[v] w fun e w' => ∃ (u : Value) (d : PDisk) (ar at' : Int) (bv : Value) (b : List Int), e = .returned (.tuple #[u, .int .i64 ar, .int .i64 at', bv]) ∧ DiskAt w' u d ∧ DiskFit d ∧ (-1 ≤ ar ∧ ar ≤ 2 ∧ -1 ≤ at' ∧ at' ≤ 4097) ∧ Sl .u8 w' bv b ∧ (∀ x ∈ b, 0 ≤ x ∧ x ≤ 255) ∧ b.length ≤ 4096 ∧ Below w.heap.size w w' := by
  have HB : Hid (∀ x ∈ xs, 0 ≤ x ∧ x ≤ 255) := hb
  clear hb
  obtain ⟨w1, hw1⟩ : ∃ y, y = w.alloc (.cells #[.slice none 0 0, .slice none 0 0] 34) := ⟨_, rfl⟩
  have b1 : Below w.heap.size w w1 := by rw [hw1]; exact (Below.refl _ _).alloc (Nat.le_refl _) _
  have x1 : w1.heap[w.heap.size]? = some (.cells #[.slice none 0 0, .slice none 0 0] 34 (0, 0)) := by rw [hw1]; exact World.alloc_heap_new _ _
  have CN := (show Hid _ from new_any (h.below b1) HB.out hn)
  have X1 := (show Hid (_ ∧ Below w.heap.size w w1) from ⟨x1, b1⟩)
  have hlt1 := lt_of_block x1
  clear b1 x1
  go_enter Tryd.func17, Tryd.ntmps17
  go_wp2_with fail
  go_at_call 28
  rw [← hw1]
  refine Calls.mono CN.out ?_
  rintro e w2 ⟨rfl, k2, b2⟩
  obtain ⟨g, hg⟩ : ∃ g, g = w1.heap.size := ⟨_, rfl⟩
  rw [← hg] at k2 ⊢
  have hgw : w.heap.size < g := by rw [hg]; exact hlt1
  have hgl := k2.lt
  have CD := (show Hid _ from drawDisk16_any k2 HB.out)
  have H2 := (show Hid _ from Dw.refl k2)
  clear CN hw1 b2 k2 hlt1 hg
  go_wp2_with fail
  go_at_call 37
  refine Calls.mono CD.out ?_
  rintro e w3 ⟨u, d, rfl, o3, hf3, k3, g3⟩
  obtain ⟨sa, sn, sc, la, ln, lc, rfl, _⟩ := id o3
  have h4 := ((H2.out.cursor k3 g3).add o3 (by omega) (Nat.le_refl _)).new #[.slice sa sn sc, .slice la ln lc] 34
  obtain ⟨w4, hw4⟩ : ∃ y, y = w3.alloc (.cells #[.slice sa sn sc, .slice la ln lc] 34) := ⟨_, rfl⟩
  rw [← hw4] at h4
  have H4 := (show Hid _ from h4)
  have HF := (show Hid (DiskFit d) from hf3)
  clear CD k3 g3 o3 hf3 h4 H2
  go_wp2_with fail
  go_at_call 45
  rw [← hw4]
  refine (below_any 2 (by omega) H4.out.cur HB.out).mono ?_
  rintro e w5 ⟨ar, rfl, ar0, ar2, _, k5, g5⟩
  replace ar2 := ar2 (by omega)
  have H5 := (show Hid _ from H4.out.cursor k5 g5)
  clear hw4 k5 g5 H4
  go_wp2_with fail
  go_at_call 45
  refine (below_any 300 (by omega) H5.out.cur HB.out).mono ?_
  rintro e w6 ⟨at', rfl, at0, at2, _, k6, g6⟩
  replace at2 := at2 (by omega)
  have H6 := (show Hid _ from H5.out.cursor k6 g6)
  clear k6 g6 H5
  go_wp2_with fail
  go_at_call 46
  refine (drawBytes_any H6.out.cur HB.out 150 (by omega)).mono ?_
  rintro e w7 ⟨bv, b, rfl, o7, bl, bb, k7, g7⟩
  have hg6 : g < w6.heap.size := H6.out.cur.lt
  have hz67 : w6.heap.size ≤ w7.heap.size := g7.size
  have H7 := (show Hid _ from H6.out.cursor k7 g7)
  have O7 := (show Hid (Own w6.heap.size 5 .u8 w7 bv b) from o7)
  have BB := (show Hid (∀ x ∈ b, 0 ≤ x ∧ x ≤ 255) from bb)
  obtain ⟨ba, bc, ebv, _⟩ := o7.sl
  subst ebv
  clear k7 g7 H6 o7 bb
  go_wp2_with fail
  go_at_call 45
  refine (below_any 15 (by omega) H7.out.cur HB.out).mono ?_
  rintro e w8 ⟨s, rfl, s0, s9, _, k8, g8⟩
  replace s9 := s9 (by omega)
  have H8 := (show Hid _ from H7.out.cursor k8 g8)
  have O8 := (show Hid (Own w6.heap.size 5 .u8 w8 (.slice ba b.length bc) b) from O7.out.past g8 hg6)
  have hz78 : w6.heap.size ≤ w8.heap.size := Nat.le_trans hz67 g8.size
  clear k8 g8 H7 O7
  have fin : Hid (∀ (W : World) (ar at' : Int) (bv : Value) (b : List Int), Dw w1 g v xs w2 [(w3.heap.size, #[.slice sa sn sc, .slice la ln lc], 34)] [(w2.heap.size + 1, w3.heap.size, .agg #[.slice sa sn sc, .slice la ln lc], d)] W → Own w6.heap.size 5 .u8 W bv b → (-1 ≤ ar ∧ ar ≤ 2 ∧ -1 ≤ at' ∧ at' ≤ 4097) → (∀ x ∈ b, 0 ≤ x ∧ x ≤ 255) → b.length ≤ 4096 → ∃ W', W' = (W.setCell ⟨w.heap.size, 0, none⟩ (.slice sa sn sc)).setCell ⟨w.heap.size, 1, none⟩ (.slice la ln lc) ∧ W'.heap[w.heap.size]? = some (.cells #[.slice sa sn sc, .slice la ln lc] 34 (0, 0)) ∧ ∃ (u : Value) (d' : PDisk) (ar' at2 : Int) (bv' : Value) (b' : List Int), Ending.returned (.tuple #[.agg #[.slice sa sn sc, .slice la ln lc], .int .i64 ar, .int .i64 at', bv]) = .returned (.tuple #[u, .int .i64 ar', .int .i64 at2, bv']) ∧ DiskAt W' u d' ∧ DiskFit d' ∧ (-1 ≤ ar' ∧ ar' ≤ 2 ∧ -1 ≤ at2 ∧ at2 ≤ 4097) ∧ Sl .u8 W' bv' b' ∧ (∀ x ∈ b', 0 ≤ x ∧ x ≤ 255) ∧ b'.length ≤ 4096 ∧ Below w.heap.size w W') := fun W ar at' bv b hW ho hb1 hb2 hb3 => by
    have hbel : Below w1.heap.size w1 W := hW.cur.2.2.1
    have hR := (hbel.block _ (lt_of_block X1.out.1)).trans X1.out.1
    have z1 := rk_at (k := 0) (u := .slice sa sn sc) hR
    have z2 := rk_at (k := 1) (u := .slice la ln lc) z1
    have g1 := grown_setCell W w.heap.size 0 (.slice sa sn sc)
    have g2 := grown_setCell (W.setCell ⟨w.heap.size, 0, none⟩ (.slice sa sn sc)) w.heap.size 1 (.slice la ln lc)
    have hw6 : w.heap.size < w6.heap.size := by omega
    refine ⟨_, rfl, z2, _, d, ar, at', bv, b, rfl, ?_, HF.out, hb1, ((ho.past g1 hw6).past g2 hw6).sl, hb2, hb3, ?_⟩
    · obtain ⟨o, _, o3⟩ := hW.rows _ (List.mem_cons_self ..)
      have hs := hW.gr.size
      exact ((o.keep (fun j hj hj2 => g1.block j (by simp only at hj2 o3; omega) (fun e => by have := Option.some.inj e; simp only at hj; omega))).keep (fun j hj hj2 => g2.block j (by have := g1.size; simp only at hj2 o3; omega) (fun e => by have := Option.some.inj e; simp only at hj; omega))).at
    · have hB : Below w.heap.size w W := X1.out.2.trans (hbel.mono X1.out.2.size)
      exact (hB.setCell (p := ⟨w.heap.size, 0, none⟩) (Nat.le_refl _) _).setCell (p := ⟨w.heap.size, 1, none⟩) (Nat.le_refl _) _
  have hRof : Hid (∀ W, Dw w1 g v xs w2 [(w3.heap.size, #[.slice sa sn sc, .slice la ln lc], 34)] [(w2.heap.size + 1, w3.heap.size, .agg #[.slice sa sn sc, .slice la ln lc], d)] W → W.heap[w.heap.size]? = some (.cells #[.slice none 0 0, .slice none 0 0] 34 (0, 0))) := fun W hW => (hW.cur.2.2.1.block _ (lt_of_block X1.out.1)).trans X1.out.1
  by_cases e0 : s = 0
  · subst e0
    go_wp2_with fail
    go_at_call 47
    refine Calls.mono (pickL_any H8.out.cur HB.out [-1, 2] (by simp) (by simp) _ rfl 2 rfl) ?_
    rintro e w9 ⟨q, rfl, hq, k9, g9⟩
    have H9 := (show Hid _ from H8.out.cursor k9 g9)
    have O9 := (show Hid (Own w6.heap.size 5 .u8 w9 (.slice ba b.length bc) b) from O8.out.past g9 hg6)
    have hq' : -1 ≤ q ∧ q ≤ 2 := by simp at hq; omega
    clear k9 g9 H8 O8 hq
    obtain ⟨q1, q2, _, _⟩ := rk_two H9.out.at0
    obtain ⟨r1, r2, r3, r4⟩ := rk_two (hRof.out _ H9.out)
    obtain ⟨W', eW, f1, f2⟩ := fin.out _ (q) (at') _ _ H9.out O9.out (by omega) BB.out (by omega)
    subst eW
    have F2 := (show Hid _ from f2)
    have F1 := (show Hid _ from f1)
    clear f1 f2
    go_wp2
    (try simp only [Exit.inBlock, Exit.then])
    refine bodyPost_ret (disk_four_res rfl rfl F1.out) rfl ?_
    obtain ⟨y1, y2, y3, y4, y5, y6, y7, y8⟩ := F2.out
    exact ⟨y1, y2, y3, y4, y5, y6, y7, y8⟩
  · have e0' : (s == 0) = false := beq_eq_false_iff_ne.mpr e0
    by_cases e1 : s = 1
    · subst e1
      go_wp2_with fail
      go_at_call 47
      refine Calls.mono (pickL_any H8.out.cur HB.out [-1, 4096, 4097, 4096 - (b.length : Int), 4096 - (b.length : Int) + 1] (by simp) (by simp) _ rfl 5 rfl) ?_
      rintro e w9 ⟨q, rfl, hq, k9, g9⟩
      have H9 := (show Hid _ from H8.out.cursor k9 g9)
      have O9 := (show Hid (Own w6.heap.size 5 .u8 w9 (.slice ba b.length bc) b) from O8.out.past g9 hg6)
      have hq' : -1 ≤ q ∧ q ≤ 4097 := by
        simp only [List.mem_cons, List.not_mem_nil, or_false] at hq
        omega
      clear k9 g9 H8 O8 hq
      obtain ⟨q1, q2, _, _⟩ := rk_two H9.out.at0
      obtain ⟨r1, r2, r3, r4⟩ := rk_two (hRof.out _ H9.out)
      obtain ⟨W', eW, f1, f2⟩ := fin.out _ (ar) (q) _ _ H9.out O9.out (by omega) BB.out (by omega)
      subst eW
      have F2 := (show Hid _ from f2)
      have F1 := (show Hid _ from f1)
      clear f1 f2
      go_wp2
      (try simp only [Exit.inBlock, Exit.then])
      refine bodyPost_ret (disk_four_res rfl rfl F1.out) rfl ?_
      obtain ⟨y1, y2, y3, y4, y5, y6, y7, y8⟩ := F2.out
      exact ⟨y1, y2, y3, y4, y5, y6, y7, y8⟩
    · have e1' : (s == 1) = false := beq_eq_false_iff_ne.mpr e1
      by_cases e2 : s = 2
      · subst e2
        obtain ⟨i0, hi, hz0, hz1, hz2⟩ := info_parts Tryd.infoB
        go_wp2_with (at_make; refine wpList_mkn _ rfl (.const (.int .i64 4096)) (.const (.int .i64 4096)) 22 rfl 5 i0 .u8 Tryd.underlying22 hi hz0 hz1 4096 4096 4096 rfl rfl rfl rfl (by rw [hz2]; omega) (by unfold maxLen; omega) ?_; intro w9 o9 b9)
        go_at_call 45
        have H9 := (show Hid _ from H8.out.below b9)
        have O9 := (show Hid (Own w6.heap.size 5 .u8 w9 (.slice (some ⟨w8.heap.size, 0, none⟩) 4096 4096) (List.replicate 4096 0)) from o9.base hz78)
        clear H8 O8 o9 b9
        refine (below_any 2 (by omega) H9.out.cur HB.out).mono ?_
        rintro e w10 ⟨q, rfl, q0, q2, _, k10, g10⟩
        replace q2 := q2 (by omega)
        have H10 := (show Hid _ from H9.out.cursor k10 g10)
        have O10 := (show Hid (Own w6.heap.size 5 .u8 w10 (.slice (some ⟨w8.heap.size, 0, none⟩) 4096 4096) (List.replicate 4096 0)) from O9.out.past g10 hg6)
        clear k10 g10 H9 O9
        obtain ⟨q1, q2, _, _⟩ := rk_two H10.out.at0
        obtain ⟨r1, r2, r3, r4⟩ := rk_two (hRof.out _ H10.out)
        obtain ⟨W', eW, f1, f2⟩ := fin.out _ (ar) (q) _ _ H10.out O10.out (by omega) (fun x hx => by rw [List.eq_of_mem_replicate hx]; omega) (by simp)
        subst eW
        have F2 := (show Hid _ from f2)
        have F1 := (show Hid _ from f1)
        clear f1 f2
        go_wp2
        (try simp only [Exit.inBlock, Exit.then])
        refine bodyPost_ret (disk_four_res rfl rfl F1.out) rfl ?_
        obtain ⟨y1, y2, y3, y4, y5, y6, y7, y8⟩ := F2.out
        exact ⟨y1, y2, y3, y4, y5, y6, y7, y8⟩
      · have e2' : (s == 2) = false := beq_eq_false_iff_ne.mpr e2
        obtain ⟨q1, q2, _, _⟩ := rk_two H8.out.at0
        obtain ⟨r1, r2, r3, r4⟩ := rk_two (hRof.out _ H8.out)
        obtain ⟨W', eW, f1, f2⟩ := fin.out _ (ar) (at') _ _ H8.out O8.out (by omega) BB.out (by omega)
        subst eW
        have F2 := (show Hid _ from f2)
        have F1 := (show Hid _ from f1)
        clear f1 f2
        go_wp2
        (try simp only [Exit.inBlock, Exit.then])
        refine bodyPost_ret (disk_four_res rfl rfl F1.out) rfl ?_
        obtain ⟨y1, y2, y3, y4, y5, y6, y7, y8⟩ := F2.out
        exact ⟨y1, y2, y3, y4, y5, y6, y7, y8⟩
end Go.Proofs.YtiejfnnokfedkaaDoor

/- What is put is got, and no other byte is turned, plainly. No condition. -/
namespace Go.Proofs.YtiejfnnokfedkaaDoor
open Go.RowKit
set_option maxRecDepth 100000
set_option linter.unusedVariables false

theorem newL_byte {s : ByteArray} {b : List Int} (hb : ∀ x ∈ b, 0 ≤ x ∧ x ≤ 255) (A k : Nat) : ∀ x ∈ newL (bs s) b A k, 0 ≤ x ∧ x ≤ 255 := by
  intro x hx
  simp only [newL, List.mem_map, List.mem_range] at hx
  obtain ⟨i, _, rfl⟩ := hx
  split
  · rename_i h
    have hl : 64 * k + i - A < b.length := by omega
    simp only [List.getD_eq_getElem?_getD, List.getElem?_eq_getElem hl, Option.getD_some]
    exact hb _ (List.getElem_mem _)
  · exact bs_bound s i
theorem newL_getD (old b : List Int) (A k i : Nat) (hi : i < 64) : (newL old b A k).getD i 0 = if A ≤ 64 * k + i ∧ 64 * k + i < A + b.length then b.getD (64 * k + i - A) 0 else old.getD i 0 := by
  have hl : i < (newL old b A k).length := by rw [newL_len]; exact hi
  rw [List.getD_eq_getElem?_getD, List.getElem?_eq_getElem hl, Option.getD_some, newL_at]
/-- The bytes of the area that was put to. -/
theorem byteD_area {d e : PDisk} {a : Int} {b : List Int} (hb : ∀ x ∈ b, 0 ≤ x ∧ x ≤ 255) {A : Nat} (h : areaN d a b A 64 = some e) {k : Nat} (hk : k < 4096) : byteD e a k = if A ≤ k ∧ k < A + b.length then b.getD (k - A) 0 else byteD d a k := by
  obtain ⟨_, h2⟩ := areaN_sector h
  have hj : k / 64 < 64 := by omega
  have hi : k % 64 < 64 := by omega
  have e1 : 64 * (k / 64) + k % 64 = k := by omega
  unfold byteD
  rw [h2 _ hj]
  split
  · unfold newS
    rw [bs_strOf (newL_byte hb _ _), newL_getD _ _ _ _ _ hi, e1]
  · rename_i ht
    have : ¬ (A ≤ k ∧ k < A + b.length) := fun hc => ht (by simp only [touch, Bool.and_eq_true, decide_eq_true_eq]; omega)
    rw [if_neg this]
/-- Those of the other one. -/
theorem byteD_other {d e : PDisk} {a : Int} {b : List Int} {A : Nat} (ha : a = 0 ∨ a = 1) (h : areaN d a b A 64 = some e) {k : Nat} (hk : k < 4096) : byteD e (1 - a) k = byteD d (1 - a) k := by
  obtain ⟨h1, _⟩ := areaN_sector h
  unfold byteD
  rw [h1 _ (fun j hj => by unfold secOf; omega)]
theorem sector_heads {d e : PDisk} {a : Int} {b : List Int} {A : Nat} (ha : a = 0 ∨ a = 1) (h : areaN d a b A 64 = some e) {x : Int} (hx : x = 0 ∨ x = 1) : sectorD e x = sectorD d x := (areaN_sector h).1 _ (fun j hj => by unfold secOf; omega)
theorem getL_congr {d e : PDisk} {a c : Int} {A n : Nat} (h : ∀ j, j < n → byteD e a (A + j) = byteD d c (A + j)) : getL e a A n = getL d c A n := by
  unfold getL
  apply List.map_congr_left
  intro j hj
  exact h j (List.mem_range.mp hj)
theorem area_yes {d : PDisk} {a at' : Int} {b : List Int} (h : (areaDk d a at' b).2 = true) : diskB d = true ∧ (a = 0 ∨ a = 1) ∧ 0 ≤ at' ∧ at' ≤ 4096 ∧ (b.length : Int) ≤ 4096 - at' ∧ areaN d a b at'.toNat 64 = some (areaDk d a at' b).1 := by
  unfold areaDk at h ⊢
  split at h
  · cases h
  · rename_i hb
    rw [if_neg hb]
    split at h
    · cases h
    · rename_i hp
      rw [if_neg hp]
      simp only [putOkA, inB, Bool.not_eq_false, Bool.and_eq_true, Bool.or_eq_true, decide_eq_true_eq] at hp
      cases e : areaN d a b at'.toNat 64 with
      | none => rw [e] at h; cases h
      | some e' => exact ⟨by simpa using hb, hp.1.1, hp.1.2.1, hp.1.2.2, hp.2, by simp⟩
theorem area_no {d : PDisk} {a at' : Int} {b : List Int} (h : (areaDk d a at' b).2 = false) : (areaDk d a at' b).1.late.length = d.late.length ∨ (areaDk d a at' b).1.safe.length = 0 := by
  unfold areaDk at h ⊢
  split at h
  · rename_i hb
    rw [if_pos hb]
    exact .inr rfl
  · rename_i hb
    rw [if_neg hb]
    split at h
    · rename_i hp
      rw [if_pos hp]
      exact .inl rfl
    · rename_i hp
      rw [if_neg hp]
      cases e : areaN d a b at'.toNat 64 with
      | none => exact .inl rfl
      | some e' => rw [e] at h; cases h
theorem get_right {d : PDisk} (hd : diskB d = true) {a at' n : Int} (ha : a = 0 ∨ a = 1) (h0 : 0 ≤ at') (h1 : 0 ≤ n) (h2 : at' + n ≤ 4096) : getDk d a at' n = (getL d a at'.toNat n.toNat, true) := by
  rw [getDk, if_pos]
  simp only [getOk, inB, Bool.and_eq_true, Bool.or_eq_true, decide_eq_true_eq]
  exact ⟨⟨⟨hd, ha⟩, by omega, by omega⟩, by omega, by omega⟩
/-- What FnAreas asks. -/
structure AreaSays (d e : PDisk) (a at' : Int) (b : List Int) : Prop where
  got : getDk e a at' b.length = (b, true)
  head : getDk e a 0 at' = getDk d a 0 at'
  one : (getDk d a 0 at').2 = true
  tail : getDk e a (at' + b.length) (4096 - (at' + b.length)) = getDk d a (at' + b.length) (4096 - (at' + b.length))
  two : (getDk d a (at' + b.length) (4096 - (at' + b.length))).2 = true
  other : getDk e (1 - a) 0 4096 = getDk d (1 - a) 0 4096
  three : (getDk d (1 - a) 0 4096).2 = true
theorem area_says {d : PDisk} {a at' : Int} {b : List Int} (hb : ∀ x ∈ b, 0 ≤ x ∧ x ≤ 255) (h : (areaDk d a at' b).2 = true) : AreaSays d (areaDk d a at' b).1 a at' b := by
  obtain ⟨hd, ha, h0, h1, h2, hN⟩ := area_yes h
  obtain ⟨e, he⟩ : ∃ e, e = (areaDk d a at' b).1 := ⟨_, rfl⟩
  rw [← he] at hN ⊢
  obtain ⟨A, rfl⟩ : ∃ A : Nat, at' = A := ⟨at'.toNat, by omega⟩
  simp only [Int.toNat_natCast] at hN
  have hr : diskB e = true := areaN_right hd ha (Nat.le_refl _) hN
  have ha' : 1 - a = 0 ∨ 1 - a = 1 := by omega
  have hn : ((A : Int) + b.length).toNat = A + b.length := by omega
  have hm : (4096 - ((A : Int) + b.length)).toNat = 4096 - (A + b.length) := by omega
  refine ⟨?_, ?_, ?_, ?_, ?_, ?_, ?_⟩
  · rw [get_right hr ha h0 (by omega) (by omega)]
    simp only [Int.toNat_natCast, Prod.mk.injEq, and_true]
    apply List.ext_getElem
    · rw [getL_len]
    · intro j hj1 hj2
      rw [getL_len] at hj1
      simp only [getL, List.getElem_map, List.getElem_range]
      rw [byteD_area hb hN (by omega), if_pos ⟨by omega, by omega⟩, show A + j - A = j by omega]
      simp [List.getD_eq_getElem?_getD, hj2]
  · rw [get_right hr ha (by omega) h0 (by omega), get_right hd ha (by omega) h0 (by omega)]
    simp only [Int.toNat_natCast, Int.toNat_zero, Prod.mk.injEq, and_true]
    exact getL_congr (fun j hj => by rw [byteD_area hb hN (by omega), if_neg (by omega)])
  · rw [get_right hd ha (by omega) h0 (by omega)]
  · rw [get_right hr ha (by omega) (by omega) (by omega), get_right hd ha (by omega) (by omega) (by omega), hn, hm]
    simp only [Prod.mk.injEq, and_true]
    exact getL_congr (fun j hj => by rw [byteD_area hb hN (by omega), if_neg (by omega)])
  · rw [get_right hd ha (by omega) (by omega) (by omega)]
  · rw [get_right hr ha' (by omega) (by omega) (by omega), get_right hd ha' (by omega) (by omega) (by omega)]
    simp only [Prod.mk.injEq, and_true]
    exact getL_congr (fun j hj => by
      have hj' : j < 4096 := by simpa using hj
      rw [byteD_other ha hN (by simpa using hj')])
  · rw [get_right hd ha' (by omega) (by omega) (by omega)]
theorem area_now {d : PDisk} {a at' : Int} {b : List Int} (h : (areaDk d a at' b).2 = true) : nowDk (areaDk d a at' b).1 = nowDk d := by
  obtain ⟨hd, ha, h0, h1, h2, hN⟩ := area_yes h
  have hr : diskB (areaDk d a at' b).1 = true := areaN_right hd ha (Nat.le_refl _) hN
  unfold nowDk
  rw [sector_heads ha hN (.inl rfl), sector_heads ha hN (.inr rfl), hr, hd]
end Go.Proofs.YtiejfnnokfedkaaDoor

/- The laws' helpers on heads. No condition. -/
namespace Go.Proofs.YtiejfnnokfedkaaDoor
open Go.RowKit
set_option maxRecDepth 100000
set_option linter.unusedVariables false

set_option maxRecDepth 100000 in
theorem eqHead_same (h : PHead) (w : World) : Calls Tryd.prog 23 #[headV h, headV h] w fun e w' => e = .returned (.bool true) ∧ Below w.heap.size w w' := by
  obtain ⟨a, b, c⟩ := h
  show Calls Tryd.prog 23 #[.agg #[.int .i64 a, .int .i64 b, .int .i64 c], .agg #[.int .i64 a, .int .i64 b, .int .i64 c]] w _
  have e1 : (a != a) = false := by simp
  have e2 : (b != b) = false := by simp
  have e3 : (c != c) = false := by simp
  have h1 := ((Hl.refl w).new #[.int .i64 a, .int .i64 b, .int .i64 c] 25).new #[.int .i64 a, .int .i64 b, .int .i64 c] 25
  have H1 := (show Hid _ from h1)
  clear h1
  go_enter Tryd.func23, Tryd.ntmps23
  go_wp2
  go_ret
  exact ⟨rfl, H1.out.1⟩

/-- What the program must keep. -/
def HeadPackOk : Prop := ∀ (h : PHead) (w : World), (Lit.int .i64 h.no).wf = true → (Lit.int .i64 h.area).wf = true → (Lit.int .i64 h.en).wf = true → Calls Tryd.prog 9 #[headV h] w fun e w' => e = .returned (.tuple #[.string (packDk h).1, .bool (packDk h).2]) ∧ Below w.heap.size w w'
def HeadReadOk (w0 : World) : Prop := ∀ (s : ByteArray) (w : World), Below w0.heap.size w0 w → s.size ≤ 1099511627776 → Calls Tryd.prog 11 #[.string s] w fun e w' => e = .returned (.tuple #[headV (readDk s).1, .bool (readDk s).2]) ∧ Below w.heap.size w w'
def HeadNowOk (w0 : World) : Prop := ∀ (w : World) (v : Value) (d : PDisk), Below w0.heap.size w0 w → DiskAt w v d → DiskFit d → Calls Tryd.prog 13 #[v] w fun e w' => e = .returned (headV (nowDk d)) ∧ Below w.heap.size w w'

set_option maxRecDepth 100000 in
theorem fnExactHeadRead_of (s : ByteArray) (w : World) (H : HeadReadOk w) (hs : s.size ≤ maxLen) :
    Calls Tryd.prog 5 #[.string s] w fun e w' => e = .returned (.bool true) ∧ Below w.heap.size w w' := by
  by_cases hbig : 1048576 < (s.size : Int)
  · go_enter Tryd.func5, Tryd.ntmps5
    go_wp2
    go_ret
    exact ⟨rfl, Below.refl _ _⟩
  have hs40 : s.size ≤ 1099511627776 := by omega
  have CI := (show Hid (∀ W, Below w.heap.size w W → Calls Tryd.prog 11 #[.string s] W fun e w' => e = .returned (.tuple #[headV (readDk s).1, .bool (readDk s).2]) ∧ Below W.heap.size W w') from fun W b => H s W b hs40)
  have CS := (show Hid (∀ W, Calls Tryd.prog 22 #[.string s] W fun e w' => e = .returned (.tuple #[headV (readDk s).1, .bool (readDk s).2]) ∧ Below W.heap.size W w') from fun W => sheadRead_any s W hs40)
  obtain ⟨⟨q, qb⟩, hp⟩ : ∃ p, p = readDk s := ⟨_, rfl⟩
  rw [← hp] at CI CS
  simp only at CI CS
  have CE := (show Hid _ from eqHead_same q)
  have e1 : (qb != qb) = false := by cases qb <;> rfl
  obtain ⟨a, b, c⟩ := q
  unfold headV at CI CS CE
  simp only at CI CS CE
  clear hp H
  go_enter Tryd.func5, Tryd.ntmps5
  go_wp2_with fail
  go_at_call 22
  refine Calls.mono (CS.out w) ?_
  rintro e w2 ⟨rfl, b2⟩
  have h2 := (show Hid _ from ((Hl.refl w).below b2).new #[.int .i64 a, .int .i64 b, .int .i64 c] 25)
  obtain ⟨w3, hw3⟩ : ∃ y, y = w2.alloc (.cells #[.int .i64 a, .int .i64 b, .int .i64 c] 25) := ⟨_, rfl⟩
  rw [← hw3] at h2
  clear b2 CS
  go_wp2_with fail
  go_at_call 11
  rw [← hw3]
  refine Calls.mono (CI.out w3 h2.out.1) ?_
  rintro e w4 ⟨rfl, b4⟩
  have h4 := (show Hid _ from (h2.out.below b4).new #[.int .i64 a, .int .i64 b, .int .i64 c] 25)
  obtain ⟨w5, hw5⟩ : ∃ y, y = w4.alloc (.cells #[.int .i64 a, .int .i64 b, .int .i64 c] 25) := ⟨_, rfl⟩
  rw [← hw5] at h4
  clear b4 CI h2 hw3
  obtain ⟨c1, c2, c3, _⟩ := rk_three h4.out.at0
  obtain ⟨d1, d2, d3, _⟩ := rk_three h4.out.at1
  go_upto_region 5 with fail
  rw [← hw5]
  clear hw5
  go_wp2_with fail
  go_at_call 23
  refine Calls.mono (CE.out w5) ?_
  rintro e w6 ⟨rfl, b6⟩
  have h6 := (show Hid _ from h4.out.below b6)
  clear h4 b6 c1 c2 c3 d1 d2 d3 CE
  go_wp2
  go_ret
  exact ⟨rfl, h6.out.1⟩
end Go.Proofs.YtiejfnnokfedkaaDoor
