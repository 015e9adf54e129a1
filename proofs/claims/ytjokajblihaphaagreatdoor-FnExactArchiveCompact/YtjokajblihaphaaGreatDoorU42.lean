/- The program's HeadPut. No condition. -/
import Derived.Test.YtjokajblihaphaaGreatDoorU33
import Derived.Test.YtjokajblihaphaaGreatDoorU30
import Derived.Test.YtjokajblihaphaaGreatDoorU22
import Derived.Test.YtjokajblihaphaaGreatDoorU21
import Derived.Test.YtjokajblihaphaaGreatDoorU35
import Derived.Test.YtjokajblihaphaaGreatDoorU29
import Derived.Test.YtjokajblihaphaaGreatDoorU39
import Derived.Test.YtjokajblihaphaaGreatDoorU40
namespace Go.Proofs.YtjokajblihaphaaGreatDoor
open Go.RowKit
set_option maxRecDepth 100000
set_option linter.unusedVariables false

theorem headPut_eq (d : PDisk) (h : PHead) : putDk d (Int.tmod h.no 2) (packDk h).1 = headPutDk d h := by
  unfold headPutDk
  by_cases hb : diskB d = false
  · rw [if_pos hb, putDk, if_pos hb]
  · rw [if_neg hb]
    by_cases hh : headB h = false
    · rw [if_pos hh, packDk, if_neg (by rw [hh]; decide), putDk, if_neg hb, if_pos (.inr (.inl (by decide)))]
    · have hh' : headB h = true := by simpa using hh
      have hi := headB_in hh'
      rw [if_neg hh, packDk, if_pos hh', Int.tmod_eq_emod_of_nonneg (by omega)]

set_option maxHeartbeats 1000000 in
set_option maxRecDepth 100000 in
theorem iheadPut_any (w : World) (v : Value) (d : PDisk) (h : PHead) (hd : DiskAt w v d) (hf : DiskFit d) (x1 : (Lit.int .i64 h.no).wf = true) (x2 : (Lit.int .i64 h.area).wf = true) (x3 : (Lit.int .i64 h.en).wf = true) :
    Calls Tryz.prog 128 #[v, headV h] w fun e w' => ∃ v', e = .returned (.tuple #[v', .bool (headPutDk d h).2]) ∧ OwnDz w.heap.size w' v' (headPutDk d h).1 ∧ Below w.heap.size w w' := by
  rw [← headPut_eq]
  have CP := (show Hid (∀ W, Calls Tryz.prog 172 #[headV h] W fun e w' => e = .returned (.tuple #[.string (packDk h).1, .bool (packDk h).2]) ∧ Below W.heap.size W w') from fun W => iheadPack_any h W x1 x2 x3)
  have hsz : (packDk h).1.size ≤ 1099511627776 := by
    unfold packDk
    split
    · rw [packS_size]; omega
    · exact Nat.zero_le _
  obtain ⟨⟨ps, pb⟩, hp⟩ : ∃ p, p = packDk h := ⟨_, rfl⟩
  rw [← hp] at CP hsz ⊢
  simp only at CP hsz ⊢
  obtain ⟨no, ar, en⟩ := h
  have HD := (show Hid (DiskAt w v d) from hd)
  have HF := (show Hid (DiskFit d) from hf)
  obtain ⟨sa, sn, sc, la, ln, lc, rfl, _, _⟩ := hd
  have HZ := (show Hid _ from hsz)
  clear hf x2 x3 hp hsz
  unfold headV at CP ⊢
  simp only at CP x1 ⊢
  obtain ⟨w1, hw1⟩ : ∃ y, y = ((w.alloc (.cells #[.slice sa sn sc, .slice la ln lc] 34)).alloc (.cells #[.int .i64 no, .int .i64 ar, .int .i64 en] 35)).alloc (.cells #[.slice none 0 0, .slice none 0 0] 34) := ⟨_, rfl⟩
  have h1 := (((Hl.refl w).new #[.slice sa sn sc, .slice la ln lc] 34).new #[.int .i64 no, .int .i64 ar, .int .i64 en] 35).new #[.slice none 0 0, .slice none 0 0] 34
  rw [← hw1, World.size_alloc, World.size_alloc] at h1
  have H1 := (show Hid _ from h1)
  clear h1
  go_enter Tryz.func128, Tryz.ntmps128
  go_wp2_with fail
  go_at_call 172
  rw [← hw1]
  refine Calls.mono (CP.out w1) ?_
  rintro e w2 ⟨rfl, b2⟩
  have H2 := (show Hid _ from H1.out.below b2)
  clear hw1 H1 b2 CP
  obtain ⟨c1, c2, c3, _⟩ := rk_three H2.out.at1
  obtain ⟨d1, d2, _, _⟩ := rk_two H2.out.at2
  have CD := (show Hid _ from idiskPut_any w2 _ d (Int.tmod no 2) ps (HD.out.below H2.out.1) HF.out HZ.out)
  go_wp2_with (go_at_call 168
               refine Calls.mono CD.out ?_
               rintro e w3 ⟨v3, rfl, o3, b3⟩
               have H3 := (show Hid _ from H2.out.below b3)
               obtain ⟨ta, tn, tc, ma, mn, mc, rfl, p1, p2⟩ := o3
               have O3 := (show Hid (_ ∧ _) from And.intro p1 p2)
               obtain ⟨r1, r2, r3, r4⟩ := rk_two H3.out.at0
               have S3 := (show Hid (w.heap.size ≤ w2.heap.size) from H2.out.1.size)
               clear b3 p1 p2 CD)
  have H4 := H3.out.set2 (by omega) (by
    intro p hp
    simp only [List.mem_cons, List.not_mem_nil, or_false] at hp
    rcases hp with rfl | rfl
    · show w.heap.size + 1 ≠ w.heap.size + 1 + 1; omega
    · show w.heap.size ≠ w.heap.size + 1 + 1; omega) (.slice ta tn tc) (.slice ma mn mc)
  refine bodyPost_ret (disk_res rfl rfl rfl H4.at0) rfl ?_
  have s1 := rk_at (k := 0) (u := .slice ta tn tc) H3.out.at0
  refine ⟨_, rfl, ⟨_, _, _, _, _, _, rfl, ((O3.out.1.base S3.out).set H3.out.at0 (by decide)).set s1 (by decide), ((O3.out.2.base S3.out).set H3.out.at0 (by decide)).set s1 (by decide)⟩, H4.1⟩
end Go.Proofs.YtjokajblihaphaaGreatDoor

/- What AreaPut puts, sector by sector, plainly. No condition. -/
namespace Go.Proofs.YtjokajblihaphaaGreatDoor
open Go.RowKit
set_option maxRecDepth 100000
set_option linter.unusedVariables false

theorem touch_no {at' n k : Nat} (h : at' + n ≤ 64 * k ∨ 64 * k + 64 ≤ at' ∨ n = 0) : touch at' n k = false := by
  simp only [touch, Bool.and_eq_false_iff, decide_eq_false_iff_not]; omega
theorem touch_yes {at' n k : Nat} (h1 : at' < 64 * k + 64) (h2 : 64 * k < at' + n) (h3 : 0 < n) : touch at' n k = true := by
  simp only [touch, Bool.and_eq_true, decide_eq_true_eq]; omega
/-- Where no byte stands nothing is put. -/
theorem areaN_skip {d : PDisk} {a : Int} {b : List Int} {at' k : Nat} {e : PDisk} (h : areaN d a b at' k = some e) : ∀ m, (∀ j, k ≤ j → j < k + m → touch at' b.length j = false) → areaN d a b at' (k + m) = some e := by
  intro m
  induction m with
  | zero => intro _; exact h
  | succ m ih =>
    intro ht
    have h1 := ih (fun j h1 h2 => ht j h1 (by omega))
    rw [← Nat.add_assoc, areaN_succ h1, ht (k + m) (by omega) (by omega)]
    simp
theorem areaN_first {d : PDisk} {a : Int} {b : List Int} {at' : Nat} : areaN d a b at' (at' / 64) = some d := by
  have := areaN_skip (d := d) (a := a) (b := b) (at' := at') (k := 0) (e := d) rfl (at' / 64) (fun j _ hj => touch_no (by omega))
  rwa [Nat.zero_add] at this
theorem areaN_last {d : PDisk} {a : Int} {b : List Int} {at' k : Nat} {e : PDisk} (hk : k ≤ 64) (h : areaN d a b at' k = some e) (hl : at' + b.length ≤ 64 * k ∨ b.length = 0) : areaN d a b at' 64 = some e := by
  have := areaN_skip h (64 - k) (fun j h1 h2 => touch_no (by omega))
  rwa [Nat.add_sub_cancel' hk] at this
theorem areaN_fail {d : PDisk} {a : Int} {b : List Int} {at' k : Nat} (hk : k ≤ 64) (h : areaN d a b at' k = none) : areaN d a b at' 64 = none := by
  have := areaN_none h (64 - k)
  rwa [Nat.add_sub_cancel' hk] at this
/-- The new text of a sector, as it is copied. -/
theorem newL_copy {old b : List Int} {at' k j x m : Nat} (ho : old.length = 64) (hx : x < 64) (hxj : 64 * k + x = at' + j) (hj : j < b.length) (hm : m = min (64 - x) (b.length - j)) (h0 : j = 0 ∨ x = 0) :
    newL old b at' k = old.take x ++ (b.drop j).take m ++ old.drop (x + m) := by
  have hm1 : m ≤ 64 - x := by rw [hm]; exact Nat.min_le_left _ _
  have hm2 : m ≤ b.length - j := by rw [hm]; exact Nat.min_le_right _ _
  have hlt : ((b.drop j).take m).length = m := by rw [List.length_take, List.length_drop]; omega
  have hlx : (old.take x).length = x := by rw [List.length_take]; omega
  apply List.ext_getElem?
  intro i
  by_cases hi : i < 64
  · have e1 : (newL old b at' k)[i]? = some (if at' ≤ 64 * k + i ∧ 64 * k + i < at' + b.length then b.getD (64 * k + i - at') 0 else old.getD i 0) := by
      simp [newL, hi]
    rw [e1]
    by_cases h1 : i < x
    · rw [List.append_assoc, List.getElem?_append_left (by omega), List.getElem?_take_of_lt h1, if_neg (by omega), List.getElem?_eq_getElem (by omega), List.getD_eq_getElem?_getD, List.getElem?_eq_getElem (by omega)]
      rfl
    · by_cases h2 : i < x + m
      · rw [List.append_assoc, List.getElem?_append_right (by omega), hlx, List.getElem?_append_left (by omega), List.getElem?_take_of_lt (by omega), List.getElem?_drop, if_pos (by omega), show j + (i - x) = 64 * k + i - at' by omega, List.getD_eq_getElem?_getD, List.getElem?_eq_getElem (by omega)]
        rfl
      · have hmm : m = b.length - j := by omega
        rw [List.getElem?_append_right (by rw [List.length_append]; omega), List.length_append, hlx, hlt, List.getElem?_drop, if_neg (by omega), show x + m + (i - (x + m)) = i by omega, List.getElem?_eq_getElem (by omega), List.getD_eq_getElem?_getD, List.getElem?_eq_getElem (by omega)]
        rfl
  · rw [List.getElem?_eq_none (by rw [newL_len]; omega), List.getElem?_eq_none (by simp only [List.length_append, hlx, hlt, List.length_drop]; omega)]
end Go.Proofs.YtjokajblihaphaaGreatDoor

/- The program's AreaPut. No condition. -/
namespace Go.Proofs.YtjokajblihaphaaGreatDoor
open Go.RowKit
set_option maxRecDepth 100000
set_option linter.unusedVariables false

theorem dz_below {B : Nat} {w w' : World} {v : Value} {d : PDisk} (h : OwnDz B w v d) (b : Below w.heap.size w w') : OwnDz B w' v d := by
  obtain ⟨_, _, _, _, _, _, e, h1, h2⟩ := h
  exact ⟨_, _, _, _, _, _, e, h1.below b, h2.below b⟩
theorem dz_base {B B' : Nat} {w : World} {v : Value} {d : PDisk} (h : OwnDz B w v d) (b : B' ≤ B) : OwnDz B' w v d := by
  obtain ⟨_, _, _, _, _, _, e, h1, h2⟩ := h
  exact ⟨_, _, _, _, _, _, e, h1.base b, h2.base b⟩
theorem dz_set {B b k : Nat} {w : World} {v u : Value} {d : PDisk} (h : OwnDz B w v d) {cs : Array Value} {fr : Nat × Nat} (hb : w.heap[b]? = some (.cells cs 34 fr)) : OwnDz B (w.setCell ⟨b, k, none⟩ u) v d := by
  obtain ⟨_, _, _, _, _, _, e, h1, h2⟩ := h
  exact ⟨_, _, _, _, _, _, e, h1.set hb (by decide), h2.set hb (by decide)⟩
theorem dz_at {B : Nat} {w : World} {v : Value} {d : PDisk} (h : OwnDz B w v d) : DiskAt w v d := by
  obtain ⟨_, _, _, _, _, _, e, h1, h2⟩ := h
  exact ⟨_, _, _, _, _, _, e, h1.sv, h2.sv⟩

/-- What AreaPut holds while it runs. -/
structure ApZ (w : World) (O S3 : Nat) (x y s t p q : Value) (d e : PDisk) (W : World) : Prop where
  hl : Hl w [(O, #[x, y], 34), (S3, #[s, t], 34), (w.heap.size + 1, #[.slice none 0 0, .slice none 0 0], 34), (w.heap.size, #[p, q], 34)] W
  oe : OwnDz w.heap.size W (.agg #[x, y]) e
  od : OwnDz w.heap.size W (.agg #[s, t]) d
theorem ApZ.below {w : World} {O S3 : Nat} {x y s t p q : Value} {d e : PDisk} {W W' : World} (h : ApZ w O S3 x y s t p q d e W) (b : Below W.heap.size W W') : ApZ w O S3 x y s t p q d e W' := ⟨h.hl.below b, dz_below h.oe b, dz_below h.od b⟩
theorem ApZ.turn {w : World} {O S3 : Nat} {x y s t p q : Value} {d e : PDisk} {W : World} (h : ApZ w O S3 x y s t p q d e W) (hS : S3 < O) (hw : w.heap.size + 1 < S3) {a b : Value} {e' : PDisk} (o : OwnDz w.heap.size W (.agg #[a, b]) e') : ApZ w O S3 a b s t p q d e' ((W.setCell ⟨O, 0, none⟩ a).setCell ⟨O, 1, none⟩ b) := by
  have s1 := rk_at (k := 0) (u := a) h.hl.at0
  refine ⟨h.hl.set2 (by omega) (fun p hp => ?_) a b, dz_set (dz_set o h.hl.at0) s1, dz_set (dz_set h.od h.hl.at0) s1⟩
  simp only [List.mem_cons, List.not_mem_nil, or_false] at hp
  rcases hp with rfl | rfl | rfl <;> simp only <;> omega

theorem newL_byteP {old b : List Int} {at' k : Nat} (ho : ∀ y ∈ old, 0 ≤ y ∧ y ≤ 255) (hb : ∀ y ∈ b, 0 ≤ y ∧ y ≤ 255) : ∀ y ∈ newL old b at' k, 0 ≤ y ∧ y ≤ 255 := by
  have g : ∀ (l : List Int), (∀ y ∈ l, 0 ≤ y ∧ y ≤ 255) → ∀ i, 0 ≤ l.getD i 0 ∧ l.getD i 0 ≤ 255 := by
    intro l hl i
    rw [List.getD_eq_getElem?_getD]
    by_cases hi : i < l.length
    · rw [List.getElem?_eq_getElem hi]; exact hl _ (List.getElem_mem hi)
    · rw [List.getElem?_eq_none (by omega)]; exact ⟨Int.le_refl _, by decide⟩
  intro y hy
  simp only [newL, List.mem_map] at hy
  obtain ⟨i, _, rfl⟩ := hy
  split
  · exact g b hb _
  · exact g old ho _
/-- The copy into a sector. -/
theorem copy_put {W : World} {g bb bo uc : Nat} {T : ByteArray} {b : List Int} {A K j x m : Nat} (hg : W.heap[g]? = some (.cells (secA T) 224 (0, 0))) (hT : T.size = 64) (hs : Cells .u8 W (some ⟨bb, bo, none⟩) b) (hb : ∀ y ∈ b, 0 ≤ y ∧ y ≤ 255)
    (hx : x < 64) (hxj : 64 * K + x = A + j) (hj : j < b.length) (hm : m = min (64 - x) (b.length - j)) (h0 : j = 0 ∨ x = 0) (ty : TypeId) :
    (Builtin.copy_ #[68, 68] ty #[.slice (some ⟨g, x, none⟩) (64 - x) (64 - x), .slice (some ⟨bb, bo + j, none⟩) (b.length - j) (uc - j)]).run Tryz.prog W = .ok (goInt m) (W.setRow g (secA (strOf (newL (bs T) b A K)))) := by
  have hlb : (bs T).length = 64 := by rw [bs_len, hT]
  have hm1 : m ≤ 64 - x := by rw [hm]; exact Nat.min_le_left _ _
  have hm2 : m ≤ b.length - j := by rw [hm]; exact Nat.min_le_right _ _
  have hcl : (((b.drop j).take m).map (Value.int .u8)).length = m := by rw [List.length_map, List.length_take, List.length_drop]; omega
  have hr := run_copy_row (P := Tryz.prog) W 68 68 ty 5 g x (64 - x) (64 - x) ⟨bb, bo + j, none⟩ (b.length - j) (uc - j) (secA T) 224 (((b.drop j).take m).map (Value.int .u8)) Tryz.underlying68 (by kernel_rfl) hg (by
      rw [hcl, hm]; exact Nat.min_comm _ _) (fun i v hv => by
      rw [List.getElem?_map] at hv
      obtain ⟨y, hy, rfl⟩ := Option.map_eq_some_iff.mp hv
      have hi : i < m := by
        have := (List.getElem?_eq_some_iff.1 hy).1
        rw [List.length_take] at this; omega
      rw [List.getElem?_take_of_lt hi, List.getElem?_drop] at hy
      obtain ⟨b', o', e, c⟩ := hs (j + i) (by omega)
      cases e
      have e2 : b.getD (j + i) 0 = y := by rw [List.getD_eq_getElem?_getD, hy]; rfl
      rw [e2] at c
      rw [Addr.add_mid, ← c]
      congr 1
      simp only [Addr.mk.injEq, and_true, true_and]; omega) (by rw [hcl, secA_size, hT]; omega) (ints_oneCell _ _)
  rw [hcl] at hr
  have hbs : bs (strOf (newL (bs T) b A K)) = newL (bs T) b A K := bs_strOf (newL_byteP (bs_byte T) hb)
  have hrow : ((secA T).toList.take x ++ ((b.drop j).take m).map (Value.int .u8) ++ (secA T).toList.drop (x + m)).toArray = secA (strOf (newL (bs T) b A K)) := by
    have e1 : (secA T).toList = (bs T).map (Value.int .u8) := rfl
    have e2 : secA (strOf (newL (bs T) b A K)) = ((newL (bs T) b A K).map (Value.int .u8)).toArray := by rw [secA, secL, hbs]
    rw [e1, e2, newL_copy hlb hx hxj hj hm h0]
    simp only [List.map_append, List.map_take, List.map_drop]
  rw [hrow] at hr
  exact hr

theorem range_sec {W : World} {g : Nat} {S : ByteArray} {t : TypeId} (h : W.heap[g]? = some (.cells (secA S) t (0, 0))) : W.rangeAt g 0 (secL S) := fun j v hv => by
  rw [Nat.zero_add, cell_of_row W g j _ _ _ h]
  simpa [secA] using hv
theorem next_facts {u W : World} {g : Nat} {a b : Value} {q : PDisk} (hB : Below u.heap.size u W) (hg : u.heap.size ≤ g) (x : W.heap[g]? = some (.cells #[.slice none 0 0, .slice none 0 0] 34 (0, 0))) (o : OwnDz u.heap.size W (.agg #[a, b]) q) :
    Below u.heap.size u ((W.setCell ⟨g, 0, none⟩ a).setCell ⟨g, 1, none⟩ b) ∧ ((W.setCell ⟨g, 0, none⟩ a).setCell ⟨g, 1, none⟩ b).heap[g]? = some (.cells #[a, b] 34 (0, 0)) ∧ OwnDz u.heap.size ((W.setCell ⟨g, 0, none⟩ a).setCell ⟨g, 1, none⟩ b) (.agg #[a, b]) q := by
  have s1 := rk_at (k := 0) (u := a) x
  exact ⟨(hB.setCell (p := ⟨g, 0, none⟩) hg _).setCell (p := ⟨g, 1, none⟩) hg _, rk_at (k := 1) (u := b) s1, dz_set (dz_set o x) s1⟩
theorem put_full {e : PDisk} {X : Int} {S : ByteArray} (he : diskB e = true) (hX : inB X 0 129 = true) (hS : S.size = 64) : putDk e X S = if e.late.length < 200 then (⟨e.safe, e.late ++ [(X, S)]⟩, true) else (e, false) := by
  have hl := (diskB_len he).2
  rw [putDk, if_neg (by rw [he]; decide)]
  by_cases h : e.late.length < 200
  · rw [if_neg (by rw [hX]; simp [hS]; omega), if_pos h]
  · rw [if_pos (.inr (.inr (by omega))), if_neg h]
theorem areaN_round {d : PDisk} {ar X : Int} {b : List Int} {A K : Nat} {e : PDisk} {S : ByteArray} (h : areaN d ar b A K = some e) (ht : touch A b.length K = true) (hX : X = secOf ar K) (hS : S = newS e ar b A K) : areaN d ar b A (K + 1) = if e.late.length < 200 then some ⟨e.safe, e.late ++ [(X, S)]⟩ else none := by
  rw [areaN_succ h, if_pos ht, hX, hS]
/-- What is put is told by what was done so far. -/
theorem span_put (a at' : Int) (b : List Int) (d : PDisk) : putOkA d a at' b = spanB a at' (b.length : Int) := by
  have h1 : (decide (a = 0) || decide (a = 1)) = inB a 0 1 := by
    by_cases h0 : a = 0
    · subst h0; rfl
    · by_cases h1 : a = 1
      · subst h1; rfl
      · rw [inB_no (by omega)]; simp [h0, h1]
  have h2 : decide ((b.length : Int) ≤ 4096 - at') = inB (b.length : Int) 0 (4096 - at') := by
    by_cases h : (b.length : Int) ≤ 4096 - at'
    · rw [inB_yes (by omega) h, decide_eq_true h]
    · rw [inB_no (by omega), decide_eq_false h]
  unfold putOkA spanB
  rw [h1, h2]

theorem areaDk_right {d : PDisk} {ar at' : Int} {b : List Int} (hb : diskB d = true) : areaDk d ar at' b = if spanB ar at' (b.length : Int) = false then (d, false) else match areaN d ar b at'.toNat 64 with | some e => (e, true) | none => (d, false) := by
  rw [areaDk, if_neg (by rw [hb]; decide), span_put]; rfl

set_option maxHeartbeats 400000 in
set_option maxRecDepth 100000 in
theorem iareaPut_any (w : World) (v : Value) (d : PDisk) (ar at' : Int) (u : Value) (b : List Int) (hd : DiskAt w v d) (hf : DiskFit d) (x1 : (Lit.int .i64 ar).wf = true) (x2 : (Lit.int .i64 at').wf = true) (hu : Sl .u8 w u b) (hb : ∀ x ∈ b, 0 ≤ x ∧ x ≤ 255) (hbl : b.length ≤ 1099511627776) :
    Calls Tryz.prog 125 #[v, .int .i64 ar, .int .i64 at', u] w fun e w' => ∃ v', e = .returned (.tuple #[v', .bool (areaDk d ar at' b).2]) ∧ OwnDz w.heap.size w' v' (areaDk d ar at' b).1 ∧ Below w.heap.size w w' := by
  have HD := (show Hid (DiskAt w v d) from hd)
  have HF := (show Hid (DiskFit d) from hf)
  have HU := (show Hid (Sl .u8 w u b) from hu)
  have HBB := (show Hid _ from hb)
  obtain ⟨sa, sn, sc, la, ln, lc, rfl, _, _⟩ := hd
  obtain ⟨ua, uc, rfl, hub, hum, hun, huc⟩ := hu
  have HUB := (show Hid (b.length ≤ uc) from hub)
  have HUC := (show Hid (Cells .u8 w ua b) from huc)
  clear hub hun huc
  clear hf hb
  obtain ⟨w1, hw1⟩ : ∃ y, y = (w.alloc (.cells #[.slice sa sn sc, .slice la ln lc] 34)).alloc (.cells #[.slice none 0 0, .slice none 0 0] 34) := ⟨_, rfl⟩
  have h1 := ((Hl.refl w).new #[.slice sa sn sc, .slice la ln lc] 34).new #[.slice none 0 0, .slice none 0 0] 34
  rw [← hw1, World.size_alloc] at h1
  have H1 := (show Hid _ from h1)
  clear h1
  go_enter Tryz.func125, Tryz.ntmps125
  go_wp2_with fail
  go_at_call 75
  rw [← hw1]
  refine (idiskOk_any (HD.out.below H1.out.1) HF.out).mono ?_
  rintro e w2 ⟨rfl, b2⟩
  have H2 := (show Hid _ from H1.out.below b2)
  clear hw1 H1 b2
  obtain ⟨r1, r2, r3, r4⟩ := rk_two H2.out.at0
  obtain ⟨q1, q2, _, _⟩ := rk_two H2.out.at1
  cases hb : diskB d
  · have HR : Hid (areaDk d ar at' b = (zeroDk, false)) := (show areaDk d ar at' b = (zeroDk, false) by rw [areaDk, if_pos hb])
    clear hb
    go_wp2
    have H4 := H2.out.set2 (Nat.le_succ _) (by simp) (.slice none 0 0) (.slice none 0 0)
    refine bodyPost_ret (disk_res rfl rfl rfl H4.at0) rfl ?_
    rw [HR.out]
    exact ⟨_, rfl, ⟨_, _, _, _, _, _, rfl, .inl (World.ownsRow_nil _ _ _ _), .inl (World.ownsRow_nil _ _ _ _)⟩, H4.1⟩
  · have HB := (show Hid (diskB d = true) from hb)
    have HA := (show Hid (areaDk d ar at' b = if spanB ar at' (b.length : Int) = false then (d, false) else match areaN d ar b at'.toNat 64 with | some e => (e, true) | none => (d, false)) from areaDk_right hb)
    clear hb
    have CC := (show Hid _ from icopyOfDisk_any (HD.out.below H2.out.1) HF.out)
    go_wp2_with fail
    go_at_call 76
    refine Calls.mono CC.out ?_
    rintro e w3 ⟨v3, rfl, o3, b3⟩
    have H3 := (show Hid _ from H2.out.below b3)
    have O3 := (show Hid (OwnDz w.heap.size w3 v3 d) from dz_base o3 H2.out.1.size)
    obtain ⟨ta, tn, tc, ma, mn, mc, rfl, _, _⟩ := o3
    have S3 := (show Hid (w.heap.size + 1 < w3.heap.size) from Nat.lt_of_lt_of_le (lt_of_block H2.out.at0) b3.size)
    clear b3 CC r1 r2 r3 r4 q1 q2 H2
    obtain ⟨w4, hw4⟩ : ∃ y, y = w3.alloc (.cells #[.slice ta tn tc, .slice ma mn mc] 34) := ⟨_, rfl⟩
    have h4 := H3.out.new #[.slice ta tn tc, .slice ma mn mc] 34
    rw [← hw4] at h4
    have H4 := (show Hid _ from h4)
    have O4 := (show Hid (OwnDz w.heap.size w4 (.agg #[.slice ta tn tc, .slice ma mn mc]) d) from dz_below O3.out (by rw [hw4]; exact (Below.refl _ _).alloc (Nat.le_refl _) _))
    have e4 : w4.heap.size = w3.heap.size + 1 := by rw [hw4, World.size_alloc]
    have E4 := (show Hid _ from e4)
    clear h4 e4 H3 O3
    go_wp2_with fail
    go_at_call 165
    rw [← hw4]
    clear hw4
    refine (ispanOk_any ar at' (b.length : Int) w4).mono ?_
    rintro e w5 ⟨rfl, e5⟩
    replace e5 := e5.symm
    subst e5
    obtain ⟨r1, r2, r3, r4⟩ := rk_two H4.out.at1
    obtain ⟨t1, t2, _, _⟩ := rk_two H4.out.at0
    cases hp : spanB ar at' (b.length : Int)
    · have HR : Hid (areaDk d ar at' b = (d, false)) := (show areaDk d ar at' b = (d, false) by rw [HA.out, if_pos hp])
      clear hp
      go_wp2
      have H5 := H4.out.swap.set2 (Nat.le_succ _) (fun p hp => by
        simp only [List.mem_cons, List.not_mem_nil, or_false] at hp
        have := S3.out
        rcases hp with rfl | rfl <;> simp only <;> omega) (.slice ta tn tc) (.slice ma mn mc)
      have s1 := rk_at (k := 0) (u := .slice ta tn tc) H4.out.at1
      refine bodyPost_ret (disk_res rfl rfl rfl H5.at0) rfl ?_
      rw [HR.out]
      exact ⟨_, rfl, dz_set (dz_set O4.out H4.out.at1) s1, H5.1⟩
    · have hsp : (ar = 0 ∨ ar = 1) ∧ 0 ≤ at' ∧ at' ≤ 4096 ∧ (b.length : Int) ≤ 4096 - at' := by
        simp only [spanB, inB, Bool.and_eq_true, decide_eq_true_eq] at hp
        omega
      obtain ⟨ha, q1, q2, q4⟩ := hsp
      obtain ⟨A, rfl⟩ := Int.eq_ofNat_of_zero_le q1
      have HR := (show Hid (areaDk d ar (A : Int) b = match areaN d ar b A 64 with | some e => (e, true) | none => (d, false)) from HA.out.trans (by rw [if_neg (by rw [hp]; decide), Int.toNat_natCast]))
      clear HA hp q1 x1 x2
      have hA : A ≤ 4096 := by omega
      have hN : A + b.length ≤ 4096 := by omega
      clear q2 q4
      obtain ⟨w5, hw5⟩ : ∃ y, y = w4.alloc (.cells #[.slice ta tn tc, .slice ma mn mc] 34) := ⟨_, rfl⟩
      have h5 := H4.out.new #[.slice ta tn tc, .slice ma mn mc] 34
      rw [← hw5] at h5
      have O5 := (show Hid (OwnDz w.heap.size w5 (.agg #[.slice ta tn tc, .slice ma mn mc]) d) from dz_below O4.out (by rw [hw5]; exact (Below.refl _ _).alloc (Nat.le_refl _) _))
      have I5 := (show Hid (ApZ w w4.heap.size w3.heap.size (.slice ta tn tc) (.slice ma mn mc) (.slice ta tn tc) (.slice ma mn mc) (.slice sa sn sc) (.slice la ln lc) d d w5) from ⟨h5, O5.out, O5.out⟩)
      have F0 := (show Hid (areaN d ar b A (A / 64) = some d) from areaN_first)
      clear h5 O5
      go_wp2_with fail
      rw [← hw5]
      clear hw5 r1 r2 r3 r4 t1 t2 H4 O4
      go_loopw [12] (fun k wr => ∃ (j K : Nat) (na : Option Addr) (nn nc : Nat) (pa : Option Addr) (pn pc : Nat) (e : PDisk), j ≤ b.length ∧ k = .int .i64 (j : Int) ∧ areaN d ar b A K = some e ∧ K ≤ 64 ∧ (j < b.length → K = (A + j) / 64 ∧ (j = 0 ∨ (A + j) % 64 = 0)) ∧ (j = b.length → A + b.length ≤ 64 * K ∨ b.length = 0) ∧ ApZ w w4.heap.size w3.heap.size (.slice na nn nc) (.slice pa pn pc) (.slice ta tn tc) (.slice ma mn mc) (.slice sa sn sc) (.slice la ln lc) d e wr) (fun k _ => b.length - (intOf k).toNat)
      case atStart => exact ⟨0, A / 64, _, _, _, _, _, _, d, Nat.zero_le _, rfl, F0.out, by omega, fun _ => ⟨rfl, .inl rfl⟩, fun h => .inr h.symm, I5.out⟩
      case round =>
        clear I5 F0
        obtain ⟨j, K, na, nn, nc, pa, pn, pc, e, hj, rfl, hK, hK64, hlt1, hlt2, I⟩ := hrel
        have HI := (show Hid (ApZ w w4.heap.size w3.heap.size (.slice na nn nc) (.slice pa pn pc) (.slice ta tn tc) (.slice ma mn mc) (.slice sa sn sc) (.slice la ln lc) d e wr) from I)
        have HK := (show Hid _ from hK)
        clear I hK
        by_cases hlt : j < b.length
        · obtain ⟨hKe, hj0⟩ := hlt1 hlt
          clear hlt1 hlt2
          have HKE := (show Hid (K = (A + j) / 64) from hKe)
          have HJ0 := (show Hid (j = 0 ∨ (A + j) % 64 = 0) from hj0)
          have hlt' : (j : Int) < (b.length : Int) := by omega
          have HE := (show Hid (diskB e = true) from areaN_right HB.out ha hK64 HK.out)
          have hK63 : K < 64 := by omega
          obtain ⟨bb, bo, rfl, _⟩ := HUC.out j hlt
          obtain ⟨X, hX⟩ : ∃ X, X = secOf ar K := ⟨_, rfl⟩
          have hin : inB X 0 129 = true := by rw [hX]; exact secOf_in ha hK63
          have K1 := (show Hid (∀ W, Calls Tryz.prog 166 #[.int .i64 ar, .int .i64 ((A : Int) + (j : Int))] W fun e w' => e = .returned (.int .i64 X) ∧ w' = W) from fun W => by
            have C1 := isectorAt_any ar (A + j) W ha (by omega)
            have e1 : 2 + 64 * ar + (((A + j) / 64 : Nat) : Int) = X := by rw [hX, hKe]; rfl
            rw [e1, show ((A + j : Nat) : Int) = (A : Int) + (j : Int) by omega] at C1
            exact C1)
          have K2 := (show Hid (∀ W, Below wr.heap.size wr W → Calls Tryz.prog 145 #[.agg #[.slice na nn nc, .slice pa pn pc], .int .i64 X] W fun e' w' => e' = .returned (.tuple #[.string (sectorD e X), .bool true]) ∧ Below W.heap.size W w') from fun W b => by
            have C2 := isectorOf_any (dz_at (HI.out.below b).oe) (fit_right HE.out) X
            have e2 : sectorDk e X = (sectorD e X, true) := by rw [sectorDk, if_neg (by rw [HE.out, hin]; simp)]
            rw [e2] at C2
            exact C2)
          have hT := sector_size HE.out (x := X) (by simp only [inB, Bool.and_eq_true, decide_eq_true_eq] at hin; omega)
          obtain ⟨T, hTT⟩ : ∃ T, T = sectorD e X := ⟨_, rfl⟩
          rw [← hTT] at K2 hT
          have HT := (show Hid _ from hT)
          have HX := (show Hid (X = secOf ar K) from hX)
          have HTT := (show Hid (T = sectorD e X) from hTT)
          have HIN := (show Hid _ from hin)
          clear hX hTT hin hT
          clear hKe hj0
          obtain ⟨n1, n2, n3, n4⟩ := rk_two HI.out.hl.at0
          have hwx : IntKind.i64.wrap ((A : Int) + (j : Int)) = (A : Int) + (j : Int) := by simp only [IntKind.wrap, IntKind.bits, IntKind.signed]; simp; omega
          go_wp2_with (first
            | (go_at_call 166
               with_reducible refine Calls.mono (K1.out _) ?_
               rintro e' w6 ⟨rfl, e6⟩
               replace e6 := e6.symm
               subst e6)
            | (go_at_call 145
               with_reducible refine Calls.mono (K2.out _ (Below.refl _ _)) ?_
               rintro e' w6 ⟨rfl, b6⟩)
            | (go_at_call 167
               refine (isectorFrom_any T w6 HT.out).mono ?_
               rintro e' w7 ⟨rfl, b7⟩
               have B7 := (show Hid (Below wr.heap.size wr w7) from b6.trans (b7.mono b6.size))
               clear b6 b7 K1 K2)
            | (refine wpList_store_row rfl 224 (.tmp 16) (.tmp 49) rfl w7.heap.size (secA T) rfl rfl 224 _ (World.alloc_heap_new _ _) (secSize HT.out) (by rw [secA_size, HT.out]; rfl) (secA_one T) ?_
               obtain ⟨w8, hw8⟩ : ∃ y, y = (w7.alloc (.cells #[.int .u8 0, .int .u8 0, .int .u8 0, .int .u8 0, .int .u8 0, .int .u8 0, .int .u8 0, .int .u8 0, .int .u8 0, .int .u8 0, .int .u8 0, .int .u8 0, .int .u8 0, .int .u8 0, .int .u8 0, .int .u8 0, .int .u8 0, .int .u8 0, .int .u8 0, .int .u8 0, .int .u8 0, .int .u8 0, .int .u8 0, .int .u8 0, .int .u8 0, .int .u8 0, .int .u8 0, .int .u8 0, .int .u8 0, .int .u8 0, .int .u8 0, .int .u8 0, .int .u8 0, .int .u8 0, .int .u8 0, .int .u8 0, .int .u8 0, .int .u8 0, .int .u8 0, .int .u8 0, .int .u8 0, .int .u8 0, .int .u8 0, .int .u8 0, .int .u8 0, .int .u8 0, .int .u8 0, .int .u8 0, .int .u8 0, .int .u8 0, .int .u8 0, .int .u8 0, .int .u8 0, .int .u8 0, .int .u8 0, .int .u8 0, .int .u8 0, .int .u8 0, .int .u8 0, .int .u8 0, .int .u8 0, .int .u8 0, .int .u8 0, .int .u8 0] 224)).setRow w7.heap.size (secA T) := ⟨_, rfl⟩
               rw [← hw8]
               have B8 := (show Hid (Below wr.heap.size wr w8) from by
                 rw [hw8]
                 exact (B7.out.alloc B7.out.size _).grown (grown_setRow _ _ _) (B7.out.alloc B7.out.size _).size (fun r e => by cases e; exact B7.out.size))
               have X8 := (show Hid (w8.heap[w7.heap.size]? = some (.cells (secA T) 224 (0, 0)) ∧ wr.heap.size ≤ w7.heap.size) from by
                 rw [hw8]
                 exact ⟨setRow_heap _ _ _ _ _ _ (World.alloc_heap_new _ _), B7.out.size⟩)
               clear hw8 B7))
          obtain ⟨x, hx⟩ : ∃ x : Nat, x = (A + j) % 64 := ⟨_, rfl⟩
          have HXX := (show Hid (x = (A + j) % 64) from hx)
          have m1 : ((A : Int) + (j : Int)) % 64 = (x : Int) := by omega
          have m2 : Int.tmod ((A : Int) + (j : Int)) 64 = (x : Int) := by rw [Int.tmod_eq_emod_of_nonneg (by omega)]; exact m1
          have m3 : (0 : Int) ≤ (x : Int) := by omega
          have m4 : (x : Int) ≤ 64 := by omega
          have m5 : x ≤ 64 := by omega
          clear hx
          have hub := HUB.out
          have hx2 : x < 64 := by have := HXX.out; omega
          obtain ⟨m, hm⟩ : ∃ m, m = min (64 - x) (b.length - j) := ⟨_, rfl⟩
          have hm1 : 1 ≤ m := by omega
          have hm3 : j + m ≤ b.length := by omega
          have HM := (show Hid (m = min (64 - x) (b.length - j)) from hm)
          have KE := (show Hid (Below wr.heap.size wr w8.drew) from B8.out.trans ((below_drewN 1).mono B8.out.size))
          have X9 := (show Hid (w8.drew.heap[w7.heap.size]? = some (.cells (secA T) 224 (0, 0))) from ((below_drewN (B := w8.heap.size) (w := w8) 1).block _ (lt_of_block X8.out.1)).trans X8.out.1)
          have cp := copy_put (K := K) (A := A) (j := j) (x := x) (m := m) X9.out HT.out (HUC.out.below (HI.out.hl.1.trans (KE.out.mono HI.out.hl.1.size))) HBB.out hx2 (by have := HXX.out; have := HKE.out; omega) hlt hm (by have := HXX.out; have := HJ0.out; omega) (uc := uc) 3
          obtain ⟨S, hS⟩ : ∃ S, S = strOf (newL (bs T) b A K) := ⟨_, rfl⟩
          rw [← hS] at cp
          have HS : Hid (S = newS e ar b A K) := (show S = newS e ar b A K by rw [hS, newS, ← HX.out, ← HTT.out])
          obtain ⟨w9, hw9⟩ : ∃ y, y = w8.drew.setRow w7.heap.size (secA S) := ⟨_, rfl⟩
          rw [← hw9] at cp
          have hSs : S.size = 64 := by rw [hS, strOf_size, newL_len]
          have HSs := (show Hid _ from hSs)
          have B9 := (show Hid (Below wr.heap.size wr w9 ∧ w9.heap[w7.heap.size]? = some (.cells (secA S) 224 (0, 0))) from by
            rw [hw9]
            exact ⟨KE.out.grown (grown_setRow _ _ _) KE.out.size (fun r e => by cases e; exact X8.out.2), setRow_heap _ _ _ _ _ _ X9.out⟩)
          have hjm : IntKind.i64.wrap ((j : Int) + (m : Int)) = (j : Int) + (m : Int) := by simp only [IntKind.wrap, IntKind.bits, IntKind.signed]; simp; omega
          clear hm hS hw9 KE X9 X8 B8 hSs n1 n2 n3 n4
          go_region_held3 (fun _ => True) (trivial) (fail)
          obtain ⟨n1, n2, n3, n4⟩ := rk_two (HI.out.hl.below B9.out.1).at0
          clear cp
          obtain ⟨⟨qd, qb⟩, hq⟩ : ∃ q, q = putDk e X S := ⟨_, rfl⟩
          have HQ := (show Hid ((qd, qb) = putDk e X S) from hq)
          have K3 := (show Hid (∀ W, Below w9.heap.size w9 W → Calls Tryz.prog 168 #[.agg #[.slice na nn nc, .slice pa pn pc], .int .i64 X, .string S] W fun e' w' => ∃ v', e' = .returned (.tuple #[v', .bool qb]) ∧ OwnDz W.heap.size w' v' qd ∧ Below W.heap.size W w') from fun W b => by
            have := idiskPut_any W _ e X S (dz_at ((HI.out.below B9.out.1).below b).oe) (fit_right HE.out) (by rw [HSs.out]; omega)
            rw [← hq] at this
            exact this)
          clear hq
          have K4 := (show Hid (∀ W, Calls Tryz.prog 169 #[.agg (secL S).toArray] W fun e' w' => e' = .returned (.string S) ∧ Below W.heap.size W w') from fun W => itext_any S W HSs.out)
          have KD := (show Hid (Below w9.heap.size w9 w9.drew) from below_drewN 1)
          have KA := (show Hid (Below w9.heap.size w9 (w9.alloc (.cells #[.slice none 0 0, .slice none 0 0] 34)).drew) from ((Below.refl _ _).alloc (Nat.le_refl _) _).trans (below_drewN 1))
          have XA := (show Hid ((w9.alloc (.cells #[.slice none 0 0, .slice none 0 0] 34)).drew.heap[w9.heap.size]? = some (.cells #[.slice none 0 0, .slice none 0 0] 34 (0, 0))) from World.alloc_heap_new w9 _)
          have SA := (show Hid (w9.heap.size ≤ w9.heap.size) from Nat.le_refl _)
          have HSK := (show Hid (∀ W, Below w9.heap.size w9 W → W.cell? ⟨w4.heap.size, 0, none⟩ = some (.slice na nn nc) ∧ W.cell? ⟨w4.heap.size, 1, none⟩ = some (.slice pa pn pc) ∧ W.rangeAt w7.heap.size 0 (secL S)) from fun W b => by
            obtain ⟨p0, p1, _⟩ := rk_two ((HI.out.below B9.out.1).below b).hl.at0
            exact ⟨p0, p1, range_sec ((b.block _ (lt_of_block B9.out.2)).trans B9.out.2)⟩)
          have hsy := Tryz.underlying224
          have hsl : (Tryz.prog.info? 224).map (·.size) = some (secL S).length := by have := secSize HSs.out; rw [secA_size] at this; rw [secL_len]; exact this
          go_wp2_with fail
          go_region_held3 (fun w' => w'.cell? ⟨w4.heap.size, 0, none⟩ = some (.slice na nn nc) ∧ w'.cell? ⟨w4.heap.size, 1, none⟩ = some (.slice pa pn pc) ∧ w'.rangeAt w7.heap.size 0 (secL S))
            (first | exact HSK.out _ KD.out | exact HSK.out _ KA.out | exact HSK.out _ B10.out | exact HSK.out _ (B10.out.alloc B10.out.size _) | exact HSK.out _ B11.out | exact HSK.out _ (B11.out.alloc B11.out.size _) | exact HSK.out _ (B11.out.setCell S10.out _) | exact HSK.out _ ((B11.out.setCell S10.out _).setCell S10.out _) | exact HSK.out _ (B11.out.setCell SA.out _) | exact HSK.out _ ((B11.out.setCell SA.out _).setCell SA.out _) | exact HSK.out _ ((B11.out.alloc B11.out.size _).setCell B11.out.size _) | exact HSK.out _ (((B11.out.alloc B11.out.size _).setCell B11.out.size _).setCell B11.out.size _))
            (first
              | (go_at_call 169
                 with_reducible refine Calls.mono (K4.out w9.drew) ?_
                 rintro e' w10 ⟨rfl, b10⟩
                 have B10 := (show Hid (Below w9.heap.size w9 w10) from KD.out.trans (b10.mono KD.out.size))
                 have S10 := (show Hid (w9.heap.size ≤ w10.heap.size) from B10.out.size)
                 clear b10)
              | (go_at_call 169
                 with_reducible refine Calls.mono (K4.out (w9.alloc (.cells #[.slice none 0 0, .slice none 0 0] 34)).drew) ?_
                 rintro e' w10 ⟨rfl, b10⟩
                 have B10 := (show Hid (Below w9.heap.size w9 w10) from KA.out.trans (b10.mono KA.out.size))
                 have X10 := (show Hid (w10.heap[w9.heap.size]? = some (.cells #[.slice none 0 0, .slice none 0 0] 34 (0, 0))) from (b10.block _ (lt_of_block XA.out)).trans XA.out)
                 have S10 := (show Hid (w9.heap.size ≤ w10.heap.size) from B10.out.size)
                 clear b10)
              | (go_at_call 168
                 with_reducible refine Calls.mono (K3.out w10 B10.out) ?_
                 rintro e' w11 ⟨v11, rfl, o11, b11⟩
                 have X11 := (show Hid (w11.heap[w9.heap.size]? = some (.cells #[.slice none 0 0, .slice none 0 0] 34 (0, 0))) from (b11.block _ (lt_of_block X10.out)).trans X10.out)
                 obtain ⟨f1, f2, f3, f4⟩ := rk_two X11.out
                 have B11 := (show Hid (Below w9.heap.size w9 w11) from Below.trans B10.out (b11.mono (Below.size B10.out)))
                 have O11 := (show Hid (OwnDz w9.heap.size w11 v11 qd) from dz_base o11 (Below.size B10.out))
                 obtain ⟨ya, yn, yc, za, zn, zc, rfl, _, _⟩ := o11
                 clear b11)
              | (go_at_call 168
                 with_reducible refine Calls.mono (K3.out w10 B10.out) ?_
                 rintro e' w11 ⟨v11, rfl, o11, b11⟩
                 have B11 := (show Hid (Below w9.heap.size w9 w11) from Below.trans B10.out (b11.mono (Below.size B10.out)))
                 have O11 := (show Hid (OwnDz w9.heap.size w11 v11 qd) from dz_base o11 (Below.size B10.out))
                 obtain ⟨ya, yn, yc, za, zn, zc, rfl, _, _⟩ := o11
                 clear b11)
              | (go_at_call 168
                 with_reducible refine Calls.mono (K3.out (w10.alloc (.cells #[.slice none 0 0, .slice none 0 0] 34)) (B10.out.alloc B10.out.size _)) ?_
                 rintro e' w11 ⟨v11, rfl, o11, b11⟩
                 have X11 := (show Hid (w11.heap[w10.heap.size]? = some (.cells #[.slice none 0 0, .slice none 0 0] 34 (0, 0))) from (b11.block _ (by rw [World.size_alloc]; exact Nat.lt_succ_self _)).trans (World.alloc_heap_new _ _))
                 obtain ⟨f1, f2, f3, f4⟩ := rk_two X11.out
                 have B11 := (show Hid (Below w9.heap.size w9 w11) from Below.trans (B10.out.alloc B10.out.size _) (b11.mono (Below.size (B10.out.alloc B10.out.size _))))
                 have O11 := (show Hid (OwnDz w9.heap.size w11 v11 qd) from dz_base o11 (Below.size (B10.out.alloc B10.out.size _)))
                 obtain ⟨ya, yn, yc, za, zn, zc, rfl, _, _⟩ := o11
                 clear b11))
          all_goals
            first
            | (
             obtain ⟨w12, hw12⟩ : ∃ y, y = w11.alloc (.cells #[.slice ya yn yc, .slice za zn zc] 34) := ⟨_, rfl⟩
             rw [← hw12]
             have F : Below w9.heap.size w9 w12 ∧ w12.heap[w11.heap.size]? = some (.cells #[.slice ya yn yc, .slice za zn zc] 34 (0, 0)) ∧ OwnDz w9.heap.size w12 (.agg #[.slice ya yn yc, .slice za zn zc]) qd := by
               rw [hw12]
               exact ⟨B11.out.alloc B11.out.size _, World.alloc_heap_new _ _, dz_below O11.out ((Below.refl _ _).alloc (Nat.le_refl _) _)⟩
             obtain ⟨NX, hNX⟩ : ∃ n, n = w11.heap.size := ⟨_, rfl⟩
             rw [← hNX]
             have F12 := (show Hid (Below w9.heap.size w9 w12 ∧ w12.heap[NX]? = some (.cells #[.slice ya yn yc, .slice za zn zc] 34 (0, 0)) ∧ OwnDz w9.heap.size w12 (.agg #[.slice ya yn yc, .slice za zn zc]) qd) from ⟨F.1, by rw [hNX]; exact F.2.1, F.2.2⟩)
             clear F hw12 hNX)
            | (
             obtain ⟨w12, hw12⟩ : ∃ y, y = ((w11).setCell ⟨w10.heap.size, 0, none⟩ (.slice ya yn yc)).setCell ⟨w10.heap.size, 1, none⟩ (.slice za zn zc) := ⟨_, rfl⟩
             rw [← hw12]
             have F := next_facts (a := .slice ya yn yc) (b := .slice za zn zc) (B11.out) (S10.out) (X11.out) (O11.out)
             rw [← hw12] at F
             obtain ⟨NX, hNX⟩ : ∃ n, n = w10.heap.size := ⟨_, rfl⟩
             rw [← hNX]
             have F12 := (show Hid (Below w9.heap.size w9 w12 ∧ w12.heap[NX]? = some (.cells #[.slice ya yn yc, .slice za zn zc] 34 (0, 0)) ∧ OwnDz w9.heap.size w12 (.agg #[.slice ya yn yc, .slice za zn zc]) qd) from ⟨F.1, by rw [hNX]; exact F.2.1, F.2.2⟩)
             clear F hw12 hNX)
            | (
             obtain ⟨w12, hw12⟩ : ∃ y, y = ((w11).setCell ⟨w9.heap.size, 0, none⟩ (.slice ya yn yc)).setCell ⟨w9.heap.size, 1, none⟩ (.slice za zn zc) := ⟨_, rfl⟩
             rw [← hw12]
             have F := next_facts (a := .slice ya yn yc) (b := .slice za zn zc) (B11.out) (Nat.le_refl _) (X11.out) (O11.out)
             rw [← hw12] at F
             obtain ⟨NX, hNX⟩ : ∃ n, n = w9.heap.size := ⟨_, rfl⟩
             rw [← hNX]
             have F12 := (show Hid (Below w9.heap.size w9 w12 ∧ w12.heap[NX]? = some (.cells #[.slice ya yn yc, .slice za zn zc] 34 (0, 0)) ∧ OwnDz w9.heap.size w12 (.agg #[.slice ya yn yc, .slice za zn zc]) qd) from ⟨F.1, by rw [hNX]; exact F.2.1, F.2.2⟩)
             clear F hw12 hNX)
          all_goals
            have I12 := (show Hid (ApZ w w4.heap.size w3.heap.size (.slice na nn nc) (.slice pa pn pc) (.slice ta tn tc) (.slice ma mn mc) (.slice sa sn sc) (.slice la ln lc) d e w12) from (HI.out.below B9.out.1).below F12.out.1)
            obtain ⟨t1, t2, _, _⟩ := rk_two I12.out.hl.at1
            obtain ⟨r1, r2, r3, r4⟩ := rk_two I12.out.hl.at2
            obtain ⟨n1, n2, n3, n4⟩ := rk_two I12.out.hl.at0
            obtain ⟨y1, y2, _, _⟩ := rk_two F12.out.2.1
            clear K3 K4 HSK KD KA XA SA
          all_goals
            have HP := (show Hid ((qd, qb) = if e.late.length < 200 then (⟨e.safe, e.late ++ [(X, S)]⟩, true) else (e, false)) from HQ.out.trans (put_full HE.out HIN.out HSs.out))
            have HN1 := (show Hid (areaN d ar b A (K + 1) = if e.late.length < 200 then some ⟨e.safe, e.late ++ [(X, S)]⟩ else none) from areaN_round HK.out (touch_yes (by have := HKE.out; omega) (by have := HKE.out; omega) (by omega)) HX.out HS.out)
            have S9 := (show Hid (w.heap.size ≤ w9.heap.size) from Nat.le_trans HI.out.hl.1.size B9.out.1.size)
            clear HQ
          all_goals
            cases qb
            · have hful : ¬ e.late.length < 200 := fun h => by
                have := HP.out
                rw [if_pos h] at this
                simp at this
              have HRZ : Hid (areaDk d ar (A : Int) b = (d, false)) := (show areaDk d ar (A : Int) b = (d, false) by rw [HR.out, areaN_fail (k := K + 1) (by omega) (by rw [HN1.out, if_neg hful])])
              clear hful HP HN1 HM
              go_wp2
              have H5 := (I12.out.hl.sub (L' := [(w.heap.size + 1, #[.slice none 0 0, .slice none 0 0], 34)]) (by simp)).set2 (Nat.le_succ _) (by simp) (.slice ta tn tc) (.slice ma mn mc)
              have s1 := rk_at (k := 0) (u := .slice ta tn tc) I12.out.hl.at2
              refine bodyPost_ret (disk_res rfl rfl rfl H5.at0) rfl ?_
              rw [HRZ.out]
              exact ⟨_, rfl, dz_set (dz_set I12.out.od I12.out.hl.at2) s1, H5.1⟩
            · have hful : e.late.length < 200 := by
                by_cases h : e.late.length < 200
                · exact h
                · have := HP.out
                  rw [if_neg h] at this
                  simp at this
              have HAN : Hid (areaN d ar b A (K + 1) = some qd) := (show areaN d ar b A (K + 1) = some qd by
                have := HP.out
                rw [if_pos hful] at this
                rw [HN1.out, if_pos hful, (Prod.mk.inj this).1])
              have I13 := (show Hid _ from I12.out.turn (by rw [E4.out]; exact Nat.lt_succ_self _) S3.out (dz_base F12.out.2.2 S9.out))
              clear hful HP HN1
              go_wp2
              go_roundw
              case rel => exact ⟨j + m, K + 1, _, _, _, _, _, _, qd, hm3, by go_num, HAN.out, by omega, fun h => by have := HXX.out; have := HM.out; have := HKE.out; omega, fun h => by have := HXX.out; have := HM.out; have := HKE.out; omega, I13.out⟩
              case measure => simp [intOf]; omega
        · have hje : j = b.length := by omega
          have HRZ : Hid (areaDk d ar (A : Int) b = (e, true)) := (show areaDk d ar (A : Int) b = (e, true) by rw [HR.out, areaN_last hK64 HK.out (hlt2 hje)])
          have hn' : ¬ ((j : Int) < (b.length : Int)) := by omega
          obtain ⟨n1, n2, n3, n4⟩ := rk_two HI.out.hl.at0
          obtain ⟨r1, r2, r3, r4⟩ := rk_two HI.out.hl.at2
          clear hlt1 hlt2
          go_wp2
          have H5 := (HI.out.hl.sub (L' := [(w.heap.size + 1, #[.slice none 0 0, .slice none 0 0], 34)]) (by simp)).set2 (Nat.le_succ _) (by simp) (.slice na nn nc) (.slice pa pn pc)
          have s1 := rk_at (k := 0) (u := .slice na nn nc) HI.out.hl.at2
          refine bodyPost_ret (disk_res rfl rfl rfl H5.at0) rfl ?_
          rw [HRZ.out]
          exact ⟨_, rfl, dz_set (dz_set HI.out.oe HI.out.hl.at2) s1, H5.1⟩
end Go.Proofs.YtjokajblihaphaaGreatDoor

/- The program's DiskSync and DiskCrash. No condition. -/
namespace Go.Proofs.YtjokajblihaphaaGreatDoor
open Go.RowKit
set_option maxRecDepth 100000
set_option linter.unusedVariables false

set_option maxHeartbeats 1000000 in
set_option maxRecDepth 100000 in
theorem idiskSync_any {w : World} {v : Value} {d : PDisk} (h : DiskAt w v d) (hf : DiskFit d) :
    Calls Tryz.prog 126 #[v] w fun e w' => ∃ v', e = .returned (.tuple #[v', .bool (syncDk d).2]) ∧ OwnDk w.heap.size w' v' (syncDk d).1 ∧ Below w.heap.size w w' := by
  have HD := (show Hid (DiskAt w v d) from h)
  have HF := (show Hid (DiskFit d) from hf)
  obtain ⟨sa, sn, sc, la, ln, lc, rfl, _, _⟩ := h
  clear hf
  obtain ⟨w1, hw1⟩ : ∃ x, x = (w.alloc (.cells #[.slice sa sn sc, .slice la ln lc] 34)).alloc (.cells #[.slice none 0 0, .slice none 0 0] 34) := ⟨_, rfl⟩
  have b1 : Below w.heap.size w w1 := by rw [hw1]; exact ((Below.refl _ _).alloc (Nat.le_refl _) _).alloc (by simp) _
  have x1 : w1.heap[w.heap.size]? = some (.cells #[.slice sa sn sc, .slice la ln lc] 34 (0, 0)) := by rw [hw1, Below.heap_alloc _ _ _ (by simp)]; exact World.alloc_heap_new _ _
  have x2 : w1.heap[w.heap.size + 1]? = some (.cells #[.slice none 0 0, .slice none 0 0] 34 (0, 0)) := by
    rw [hw1]
    have := World.alloc_heap_new (w.alloc (.cells #[.slice sa sn sc, .slice la ln lc] 34)) (.cells #[.slice none 0 0, .slice none 0 0] 34)
    rwa [World.size_alloc] at this
  have X1 := (show Hid _ from x1)
  have X2 := (show Hid _ from x2)
  have B1 := (show Hid (Below w.heap.size w w1) from b1)
  clear b1 x1 x2
  go_enter Tryz.func126, Tryz.ntmps126
  go_wp2_with fail
  go_at_call 75
  rw [← hw1]
  refine (idiskOk_any (HD.out.below B1.out) HF.out).mono ?_
  rintro e w2 ⟨rfl, b2⟩
  clear hw1
  have B2 := (show Hid (Below w.heap.size w w2) from B1.out.trans (b2.mono B1.out.size))
  have y1 := (b2.block _ (lt_of_block X1.out)).trans X1.out
  have y2 := (b2.block _ (lt_of_block X2.out)).trans X2.out
  obtain ⟨q1, q2, _, _⟩ := rk_two y1
  obtain ⟨r1, r2, r3, r4⟩ := rk_two y2
  have Y2 := (show Hid _ from y2)
  clear b2 y1 y2 X1 X2
  cases hb : diskB d
  · have HR : Hid (syncDk d = (zeroDk, false)) := (show syncDk d = (zeroDk, false) by rw [syncDk, if_pos hb])
    clear hb
    go_wp2
    have z2 := rk_at (k := 1) (u := .slice none 0 0) (rk_at (k := 0) (u := .slice none 0 0) Y2.out)
    refine bodyPost_ret (disk_res rfl rfl rfl z2) rfl ?_
    rw [HR.out]
    exact ⟨_, rfl, ownDk_nil _ _, ((B2.out.setCell (Nat.le_succ _) _).setCell (Nat.le_succ _) _)⟩
  · have HR : Hid (syncDk d = (doneDk 2147483647 d, true)) := (show syncDk d = (doneDk 2147483647 d, true) by rw [syncDk, if_neg (by rw [hb]; simp)])
    have CC := (show Hid _ from isettledS_any (HD.out.below B2.out) HF.out hb)
    clear hb
    go_wp2_with fail
    go_at_call 170
    refine Calls.mono CC.out ?_
    rintro e w3 ⟨v3, rfl, o3, b3⟩
    clear CC r1 r2 r3 r4 q1 q2
    have B3 := (show Hid (Below w.heap.size w w3) from B2.out.trans (b3.mono B2.out.size))
    obtain ⟨ta, tn, tc, ma, mn, mc, rfl, o31, o32⟩ := o3
    have y2 := (b3.block _ (lt_of_block Y2.out)).trans Y2.out
    obtain ⟨r1, r2, r3, r4⟩ := rk_two y2
    have O1 := (show Hid (w3.ownsRow w.heap.size 9 1 (.slice ta tn tc) (doneDk 2147483647 d).safe.length (strCells (doneDk 2147483647 d).safe)) from rk_base o31 B2.out.size)
    have O2 := (show Hid (w3.ownsRow w.heap.size 130 2 (.slice ma mn mc) (doneDk 2147483647 d).late.length (putCells (doneDk 2147483647 d).late)) from rk_base o32 B2.out.size)
    have Z2 := (show Hid _ from y2)
    clear b3 o31 o32 y2
    go_wp2
    have z1 := rk_at (k := 0) (u := .slice ta tn tc) Z2.out
    have z2 := rk_at (k := 1) (u := .slice ma mn mc) z1
    refine bodyPost_ret (disk_res rfl rfl rfl z2) rfl ?_
    rw [HR.out]
    exact ⟨_, rfl, ⟨_, _, _, _, _, _, rfl, rk_set (rk_set O1.out Z2.out (by decide)) z1 (by decide), rk_set (rk_set O2.out Z2.out (by decide)) z1 (by decide)⟩, (B3.out.setCell (p := ⟨w.heap.size + 1, 0, none⟩) (Nat.le_succ _) _).setCell (p := ⟨w.heap.size + 1, 1, none⟩) (Nat.le_succ _) _⟩

end Go.Proofs.YtjokajblihaphaaGreatDoor

/- The closures of the steps of a write (written by mk/istep1.py). No condition. -/
namespace Go.Proofs.YtjokajblihaphaaGreatDoor
open Go.RowKit
set_option maxRecDepth 100000
set_option linter.unusedVariables false

/-- What a step answers: the disk and whether it went well, in memory of its own. -/
def StepOut (W : World) (q : PDisk × Bool) (e : Ending) (w' : World) : Prop := ∃ v', e = .returned (.tuple #[v', .bool q.2]) ∧ OwnDy W.heap.size w' v' q.1 ∧ Below W.heap.size W w'
theorem rk_oneS {w : World} {b : Nat} {x : Value} {t : TypeId} (h : w.heap[b]? = some (.cells #[x] t (0, 0))) : w.cell? ⟨b, 0, none⟩ = some x := by simp only [World.cell?, h]; rfl
theorem rk_fourS {w : World} {b : Nat} {x y z u : Value} {t : TypeId} (h : w.heap[b]? = some (.cells #[x, y, z, u] t (0, 0))) : w.cell? ⟨b, 0, none⟩ = some x ∧ w.cell? ⟨b, 1, none⟩ = some y ∧ w.cell? ⟨b, 2, none⟩ = some z ∧ w.cell? ⟨b, 3, none⟩ = some u := ⟨by simp only [World.cell?, h]; rfl, by simp only [World.cell?, h]; rfl, by simp only [World.cell?, h]; rfl, by simp only [World.cell?, h]; rfl⟩
theorem OwnDy.set2 {B N : Nat} {w : World} {v x y a b : Value} {d : PDisk} (o : OwnDy B w v d) (h : w.heap[N]? = some (.cells #[x, y] 34 (0, 0))) : OwnDy B ((w.setCell ⟨N, 0, none⟩ a).setCell ⟨N, 1, none⟩ b) v d := by
  have g : w.grownBy ((w.setCell ⟨N, 0, none⟩ a).setCell ⟨N, 1, none⟩ b) (some N) := grown_trans (grown_setCell _ _ _ _) (grown_setCell _ _ _ _)
  exact o.turned g (fun j e => by cases e; exact ⟨_, _, _, h, by decide, by decide⟩)
theorem isync_step {w : World} {v : Value} {d : PDisk} (h : DiskAt w v d) (hf : DiskFit d) : Calls Tryz.prog 126 #[v] w fun e w' => StepOut w (syncDk d) e w' :=
  (idiskSync_any h hf).mono (by
    rintro e w' ⟨v', rfl, o, b⟩
    exact ⟨v', rfl, .of (.of o), b⟩)

set_option maxHeartbeats 1000000 in
set_option maxRecDepth 100000 in
theorem istep1_any {w : World} {v : Value} {d : PDisk} {ar at' : Int} {ua : Option Addr} {un uc : Nat} {b : List Int} {ba bt bb : Nat} (hd : DiskAt w v d) (hf : DiskFit d) (hba : w.heap[ba]? = some (.cells #[.int .i64 ar] 3 (0, 0))) (hbt : w.heap[bt]? = some (.cells #[.int .i64 at'] 3 (0, 0))) (hbb : w.heap[bb]? = some (.cells #[.slice ua un uc] 68 (0, 0))) (x1 : (Lit.int .i64 ar).wf = true) (x2 : (Lit.int .i64 at').wf = true) (hu : Sl .u8 w (.slice ua un uc) b) (hb : ∀ x ∈ b, 0 ≤ x ∧ x ≤ 255) (hbl : b.length ≤ 1099511627776) :
    Calls Tryz.prog 124 #[v, .pointer (some ⟨ba, 0, none⟩), .pointer (some ⟨bt, 0, none⟩), .pointer (some ⟨bb, 0, none⟩)] w fun e w' => StepOut w (areaDk d ar at' b) e w' := by
  have HD := (show Hid (DiskAt w v d) from hd)
  have HF := (show Hid (DiskFit d) from hf)
  obtain ⟨sa, sn, sc, la, ln, lc, rfl, _, _⟩ := hd
  obtain ⟨w1, hw1⟩ : ∃ y, y = (w.alloc (.cells #[.slice sa sn sc, .slice la ln lc] 34)).alloc (.cells #[.slice none 0 0, .slice none 0 0] 34) := ⟨_, rfl⟩
  have h0 : Hl w [(ba, #[.int .i64 ar], 3), (bt, #[.int .i64 at'], 3), (bb, #[.slice ua un uc], 68)] w := ⟨Below.refl _ _, fun p hp => by
    simp only [List.mem_cons, List.not_mem_nil, or_false] at hp
    rcases hp with rfl | rfl | rfl
    · exact hba
    · exact hbt
    · exact hbb⟩
  have h1 := (h0.new #[.slice sa sn sc, .slice la ln lc] 34).new #[.slice none 0 0, .slice none 0 0] 34
  rw [← hw1, World.size_alloc] at h1
  have H1 := (show Hid _ from h1)
  have hlt := (show Hid (ba < w.heap.size ∧ bt < w.heap.size ∧ bb < w.heap.size) from ⟨lt_of_block hba, lt_of_block hbt, lt_of_block hbb⟩)
  clear h1 h0 hf hba hbt hbb
  have CD := (show Hid _ from iareaPut_any w1 _ d ar at' (.slice ua un uc) b (HD.out.below H1.out.1) HF.out x1 x2 (hu.below H1.out.1) hb hbl)
  obtain ⟨d1, d2, _, _⟩ := rk_two H1.out.at1
  have e1 := rk_oneS H1.out.at2
  have e2 := rk_oneS H1.out.at3
  have e3 := rk_oneS (H1.out.at (b := bb) (cs := #[.slice ua un uc]) (t := 68) (by simp))
  rw [hw1] at d1 d2 e1 e2 e3
  go_enter Tryz.func124, Tryz.ntmps124
  go_wp2_with (go_at_call 125
               rw [← hw1]
               refine Calls.mono CD.out ?_
               rintro e w3 ⟨v3, rfl, o3, b3⟩
               have H3 := (show Hid _ from H1.out.below b3)
               have S3 := (show Hid (w.heap.size ≤ w1.heap.size) from H1.out.1.size)
               have O3 := (show Hid _ from OwnDy.of o3)
               obtain ⟨ta, tn, tc, ma, mn, mc, rfl, p1, p2⟩ := o3
               obtain ⟨r1, r2, r3, r4⟩ := rk_two H3.out.at0
               clear b3 p1 p2 CD hw1)
  have H4 := H3.out.set2 (by omega) (by
    intro p hp
    simp only [List.mem_cons, List.not_mem_nil, or_false] at hp
    rcases hp with rfl | rfl | rfl | rfl
    · show w.heap.size ≠ w.heap.size + 1; omega
    · have := hlt.out; omega
    · have := hlt.out; omega
    · have := hlt.out; omega) (.slice ta tn tc) (.slice ma mn mc)
  refine bodyPost_ret (disk_res rfl rfl rfl H4.at0) rfl ?_
  exact ⟨_, rfl, OwnDy.set2 (OwnDy.base O3.out S3.out) H3.out.at0, H4.1⟩

set_option maxHeartbeats 1000000 in
set_option maxRecDepth 100000 in
theorem istep3_any {w : World} {v : Value} {d : PDisk} {no ar en : Int} {bn : Nat} (hd : DiskAt w v d) (hf : DiskFit d) (hbn : w.heap[bn]? = some (.cells #[.int .i64 no, .int .i64 ar, .int .i64 en] 35 (0, 0))) (x1 : (Lit.int .i64 no).wf = true) (x2 : (Lit.int .i64 ar).wf = true) (x3 : (Lit.int .i64 en).wf = true) :
    Calls Tryz.prog 127 #[v, .pointer (some ⟨bn, 0, none⟩)] w fun e w' => StepOut w (headPutDk d ⟨no, ar, en⟩) e w' := by
  have HD := (show Hid (DiskAt w v d) from hd)
  have HF := (show Hid (DiskFit d) from hf)
  obtain ⟨sa, sn, sc, la, ln, lc, rfl, _, _⟩ := hd
  obtain ⟨w1, hw1⟩ : ∃ y, y = (w.alloc (.cells #[.slice sa sn sc, .slice la ln lc] 34)).alloc (.cells #[.slice none 0 0, .slice none 0 0] 34) := ⟨_, rfl⟩
  have h0 : Hl w [(bn, #[.int .i64 no, .int .i64 ar, .int .i64 en], 35)] w := ⟨Below.refl _ _, fun p hp => by
    simp only [List.mem_cons, List.not_mem_nil, or_false] at hp
    rcases hp with rfl
    · exact hbn⟩
  have h1 := (h0.new #[.slice sa sn sc, .slice la ln lc] 34).new #[.slice none 0 0, .slice none 0 0] 34
  rw [← hw1, World.size_alloc] at h1
  have H1 := (show Hid _ from h1)
  have hlt := (show Hid (bn < w.heap.size) from lt_of_block hbn)
  clear h1 h0 hf hbn
  have CD := (show Hid _ from iheadPut_any w1 _ d ⟨no, ar, en⟩ (HD.out.below H1.out.1) HF.out x1 x2 x3)
  obtain ⟨d1, d2, _, _⟩ := rk_two H1.out.at1
  obtain ⟨e1, e2, e3, _⟩ := rk_three H1.out.at2
  rw [hw1] at d1 d2 e1 e2 e3
  go_enter Tryz.func127, Tryz.ntmps127
  go_wp2_with (go_at_call 128
               rw [← hw1]
               refine Calls.mono CD.out ?_
               rintro e w3 ⟨v3, rfl, o3, b3⟩
               have H3 := (show Hid _ from H1.out.below b3)
               have S3 := (show Hid (w.heap.size ≤ w1.heap.size) from H1.out.1.size)
               have O3 := (show Hid _ from OwnDy.of o3)
               obtain ⟨ta, tn, tc, ma, mn, mc, rfl, p1, p2⟩ := o3
               obtain ⟨r1, r2, r3, r4⟩ := rk_two H3.out.at0
               clear b3 p1 p2 CD hw1)
  have H4 := H3.out.set2 (by omega) (by
    intro p hp
    simp only [List.mem_cons, List.not_mem_nil, or_false] at hp
    rcases hp with rfl | rfl
    · show w.heap.size ≠ w.heap.size + 1; omega
    · have := hlt.out; omega) (.slice ta tn tc) (.slice ma mn mc)
  refine bodyPost_ret (disk_res rfl rfl rfl H4.at0) rfl ?_
  exact ⟨_, rfl, OwnDy.set2 (OwnDy.base O3.out S3.out) H3.out.at0, H4.1⟩
end Go.Proofs.YtjokajblihaphaaGreatDoor
