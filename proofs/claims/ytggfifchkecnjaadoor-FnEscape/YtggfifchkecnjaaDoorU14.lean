/- The specification's Escape: byte by byte. -/
import Derived.Test.YtggfifchkecnjaaDoorU10
import Derived.Test.YtggfifchkecnjaaDoorU1
import Derived.Lib.SlBytesConst
import Derived.Test.YtggfifchkecnjaaDoorU5
import Derived.Test.YtggfifchkecnjaaDoorU13
namespace Go.Proofs.YtggfifchkecnjaaDoor
open Go.RowKit
set_option maxRecDepth 100000
set_option linter.unusedVariables false

theorem bs_app (a b : List UInt8) : bs (lstr (a ++ b)) = bs (lstr a) ++ bs (lstr b) := by simp [bs, lstr]
theorem bs_lstr_len (a : List UInt8) : (bs (lstr a)).length = a.length := by simp [bs, lstr]
theorem bs_lstr1 (b : UInt8) : bs (lstr [b]) = [(b.toNat : Int)] := rfl
/-- '[]byte(..)' of a constant: its row bears a mark behind its end. -/
theorem lit_sl (w : World) (zs : List Int) (t : TypeId) (cs : Array Value) (hcs : cs.toList = zs.map (Value.int .u8)) (hn : zs.length ≤ 1000) : Sl .u8 (w.alloc (.cells cs t (zs.length, zs.length + 1))) (.slice (some ⟨w.heap.size, 0, none⟩) zs.length zs.length) zs := by
  refine Blk.sl (t := t) ⟨_, _, _, heap_alloc_new _ _, ?_, .inl (Nat.le_refl _)⟩ rfl (Nat.le_refl _) (by unfold maxLen; omega)
  intro j hj
  have : cs.toList[j]? = some (.int .u8 (zs.getD j 0)) := by rw [hcs]; simp [hj, List.getD]
  simpa using this

theorem byte_eq {b : UInt8} {n : Nat} {x : Int} (h : (b.toNat : Int) = x) (hx : x = n) (hn : n < 256) : b = UInt8.ofNat n := u8_eq (by omega) hn

theorem esc1_self (v : Bool) (b : UInt8) (h1 : b.toNat ≠ 38) (h2 : ¬ (b.toNat = 34 ∧ v = true)) (h3 : ¬ (b.toNat = 60 ∧ v = false)) (h4 : ¬ (b.toNat = 62 ∧ v = false)) : esc1 v b = [b] := by
  unfold esc1
  rw [if_neg, if_neg, if_neg, if_neg]
  · rintro ⟨rfl, hv⟩; exact h4 ⟨rfl, hv⟩
  · rintro ⟨rfl, hv⟩; exact h3 ⟨rfl, hv⟩
  · rintro ⟨rfl, hv⟩; exact h2 ⟨rfl, hv⟩
  · rintro rfl; exact h1 rfl

set_option maxHeartbeats 4000000 in
set_option maxRecDepth 100000 in
theorem sescape_any (s : ByteArray) (v : Bool) (w : World) (hs : s.size ≤ 1099511627776) :
    Calls Tryd.prog 7 #[.string s, .bool v] w fun e w' => e = .returned (.string (lstr (esc v s.data.toList))) ∧ Below w.heap.size w w' := by
  obtain ⟨i0, hi, hz0, hz1, hz2⟩ := info_parts Tryd.infoB
  have hsl : s.data.toList.length = s.size := by simp
  have HSL := (show Hid _ from hsl)
  clear hsl
  have o1 := own_empty 5 .u8 w
  go_enter Tryd.func7, Tryd.ntmps7
  go_wp2
  go_loopw [5, 6] (fun u i wr => ∃ (k : Nat) (acc : List UInt8), k ≤ s.size ∧ i = .int .i64 k ∧ Own w.heap.size 5 .u8 wr u (bs (lstr acc)) ∧ Below w.heap.size w wr ∧ acc ++ esc v (s.data.toList.drop k) = esc v s.data.toList ∧ acc.length ≤ 6 * k) (fun _ i _ => s.size - (intOf i).toNat)
  case atStart => exact ⟨0, [], Nat.zero_le _, rfl, o1, (Below.refl _ _).alloc (Nat.le_refl _) _, rfl, Nat.zero_le _⟩
  case round =>
    clear o1
    obtain ⟨k, acc, hk, rfl, own, bw, hacc, hal⟩ := hrel
    have HA := (show Hid _ from hacc)
    clear hacc
    have hbs := bw.size
    obtain ⟨xs, hx⟩ : ∃ xs, xs = bs (lstr acc) := ⟨_, rfl⟩
    rw [← hx] at own
    have HX := (show Hid _ from hx)
    have hxl : xs.length = acc.length := by rw [hx]; exact bs_lstr_len acc
    clear hx
    by_cases hlt : k < s.size
    · have hat := bs_at s k hlt
      have hbd := bs_bound s k
      obtain ⟨b, r, hbr⟩ : ∃ b r, s.data.toList.drop k = b :: r := by
        cases e : s.data.toList.drop k with
        | nil => have := congrArg List.length e; rw [List.length_drop, HSL.out] at this; simp at this; omega
        | cons b r => exact ⟨b, r, rfl⟩
      have hrl : r.length + 1 = s.size - k := by have := congrArg List.length hbr; rw [List.length_drop, HSL.out] at this; simpa using this.symm
      have hrd : Hid (s.data.toList.drop (k + 1) = r) := by show s.data.toList.drop (k + 1) = r; rw [← List.drop_drop, hbr]; rfl
      have hbx : Hid ((b.toNat : Int) = (bs s).getD k 0) := by
        show (b.toNat : Int) = (bs s).getD k 0
        rw [← hat]
        have e := List.getElem?_drop (xs := s.data.toList) (i := k) (j := 0)
        rw [hbr] at e
        simp [hlt] at e
        rw [e]; rfl
      have HBR := (show Hid _ from hbr)
      clear hbr
      obtain ⟨x, hx⟩ : ∃ x, x = (bs s).getD k 0 := ⟨_, rfl⟩
      rw [← hx] at hat hbd hbx
      clear hx
      have hex : x % 256 = x := by omega
      -- what stands for it, when it is no hard blank
      have HS : Hid (¬ (x = 194 ∧ r.head? = some 160) → ∀ c, esc1 v b = c → (acc ++ c) ++ esc v (s.data.toList.drop (k + 1)) = esc v s.data.toList) := by
        intro hn c hc
        rw [← HA.out, HBR.out, hrd.out, List.append_assoc, esc_cons v b r (by rintro ⟨rfl, e⟩; exact hn ⟨by rw [← hbx.out]; rfl, e⟩), hc]
      by_cases h38 : x = 38
      · have hb38 := byte_eq hbx.out (n := 38) (by omega) (by decide)
        have HE := (show Hid _ from HS.out (fun h => by omega) ampS (by rw [hb38]; rfl))
        have HQ : Hid (bs (lstr ampS) = [38, 97, 109, 112, 59]) := by show bs (lstr ampS) = _; decide
        subst h38
        clear hb38
        have hcv := Lib.run_convert_bytes_const (P := Tryd.prog) wr 22 5 #[.int .u8 38, .int .u8 97, .int .u8 109, .int .u8 112, .int .u8 59] 5 5 Tryd.underlying22 Tryd.underlying5
        have hone : Sl .u8 (wr.alloc (.cells #[.int .u8 38, .int .u8 97, .int .u8 109, .int .u8 112, .int .u8 59] 5 (5, 5 + 1))) (.slice (some ⟨wr.heap.size, 0, none⟩) 5 5) [38, 97, 109, 112, 59] := lit_sl wr [38, 97, 109, 112, 59] 5 _ rfl (by decide)
        go_wp2_with (at_builtin; refine wpList_app _ rfl (.tmp 25) (.tmp 27) 22 rfl w.heap.size 5 i0 (.int .u8 0) 1 Tryd.underlying22 hi hz0 hz1 hz2 rfl .u8 _ _ xs [38, 97, 109, 112, 59] rfl rfl (own.alloc _) hone (by simp; omega) (by unfold maxLen; simp; omega) (by simp; omega) ?_; intro v' w9 o9 g9)
        have b9 := (bw.alloc hbs _).grown g9 (by simp; omega) (fun j hj => (own.lt j hj).1)
        go_roundw
        case rel => exact ⟨k + 1, acc ++ ampS, by omega, by go_num, by rw [bs_app, ← HX.out, HQ.out]; exact o9, b9, HE.out, by rw [List.length_append]; have : (ampS : List UInt8).length = 5 := rfl; omega⟩
        case measure => simp [intOf]; omega
      · by_cases h194 : x = 194
        · by_cases hlt2 : k + 1 < s.size
          · have hat2 := bs_at s (k + 1) hlt2
            have hbd2 := bs_bound s (k + 1)
            obtain ⟨c, r2, hcr⟩ : ∃ c r2, r = c :: r2 := by
              cases r with
              | nil => simp at hrl; omega
              | cons c r2 => exact ⟨c, r2, rfl⟩
            have hcx : Hid ((c.toNat : Int) = (bs s).getD (k + 1) 0) := by
              show (c.toNat : Int) = (bs s).getD (k + 1) 0
              rw [← hat2]
              have e := List.getElem?_drop (xs := s.data.toList) (i := k + 1) (j := 0)
              rw [hrd.out, hcr] at e
              simp [hlt2] at e
              rw [e]; rfl
            obtain ⟨y, hy⟩ : ∃ y, y = (bs s).getD (k + 1) 0 := ⟨_, rfl⟩
            rw [← hy] at hat2 hbd2 hcx
            clear hy
            by_cases h160 : y = 160
            · have HE : Hid ((acc ++ nbspS) ++ esc v (s.data.toList.drop (k + 2)) = esc v s.data.toList) := by
                show (acc ++ nbspS) ++ esc v (s.data.toList.drop (k + 2)) = esc v s.data.toList
                have e2 : s.data.toList.drop (k + 2) = r2 := by rw [show k + 2 = (k + 1) + 1 from rfl, ← List.drop_drop, hrd.out, hcr]; rfl
                rw [← HA.out, HBR.out, e2, hcr, byte_eq hbx.out (n := 194) (by omega) (by decide), byte_eq hcx.out (n := 160) (by omega) (by decide), List.append_assoc]
                exact congrArg _ (esc_hard v r2).symm
              have HQ : Hid (bs (lstr nbspS) = [38, 110, 98, 115, 112, 59]) := by show bs (lstr nbspS) = _; decide
              subst h194 h160
              clear hcr
              have hcv := Lib.run_convert_bytes_const (P := Tryd.prog) wr 22 5 #[.int .u8 38, .int .u8 110, .int .u8 98, .int .u8 115, .int .u8 112, .int .u8 59] 6 6 Tryd.underlying22 Tryd.underlying5
              have hone : Sl .u8 (wr.alloc (.cells #[.int .u8 38, .int .u8 110, .int .u8 98, .int .u8 115, .int .u8 112, .int .u8 59] 5 (6, 6 + 1))) (.slice (some ⟨wr.heap.size, 0, none⟩) 6 6) [38, 110, 98, 115, 112, 59] := lit_sl wr [38, 110, 98, 115, 112, 59] 5 _ rfl (by decide)
              go_wp2_with (at_builtin; refine wpList_app _ rfl (.tmp 48) (.tmp 50) 22 rfl w.heap.size 5 i0 (.int .u8 0) 1 Tryd.underlying22 hi hz0 hz1 hz2 rfl .u8 _ _ xs [38, 110, 98, 115, 112, 59] rfl rfl (own.alloc _) hone (by simp; omega) (by unfold maxLen; simp; omega) (by simp; omega) ?_; intro v' w9 o9 g9)
              have b9 := (bw.alloc hbs _).grown g9 (by simp; omega) (fun j hj => (own.lt j hj).1)
              go_roundw
              case rel => exact ⟨k + 2, acc ++ nbspS, by omega, by go_num, by rw [bs_app, ← HX.out, HQ.out]; exact o9, b9, HE.out, by rw [List.length_append]; have : (nbspS : List UInt8).length = 6 := rfl; omega⟩
              case measure => simp [intOf]; omega
            · have HE := (show Hid _ from HS.out (by rintro ⟨_, e⟩; rw [hcr] at e; simp only [List.head?_cons, Option.some.injEq] at e; rw [e] at hcx; exact h160 hcx.out.symm) [b] (esc1_high v b (by have := hbx.out; omega)))
              have HQ : Hid (bs (lstr [b]) = [x]) := by show bs (lstr [b]) = [x]; rw [bs_lstr1, hbx.out]
              have hny : (y == 160) = false := by simp; omega
              subst h194
              clear hcr h160
              cases v
              all_goals
                have hone : Sl .u8 (wr.alloc (.cells #[.int .u8 194] 5)) (.slice (some ⟨wr.heap.size, 0, none⟩) 1 1) [194] :=
                  Own.sl (World.ownsRow_lit wr #[.int .u8 194] 1 (Nat.le_refl _) (by unfold maxLen; omega) rfl : Own wr.heap.size 5 .u8 _ _ [194])
                go_wp2_with (at_builtin; refine wpList_app _ rfl (.tmp 14) (.tmp 18) 22 rfl w.heap.size 5 i0 (.int .u8 0) 1 Tryd.underlying22 hi hz0 hz1 hz2 rfl .u8 _ _ xs [194] rfl rfl (own.alloc _) hone (by simp; omega) (by unfold maxLen; simp; omega) (by simp; omega) ?_; intro v' w9 o9 g9)
                have b9 := (bw.alloc hbs _).grown g9 (by simp; omega) (fun j hj => (own.lt j hj).1)
                go_roundw
                case rel => exact ⟨k + 1, acc ++ [b], by omega, by go_num, by rw [bs_app, ← HX.out, HQ.out]; exact o9, b9, HE.out, by rw [List.length_append]; have : ([b] : List UInt8).length = 1 := rfl; omega⟩
                case measure => simp [intOf]; omega
          · have HE := (show Hid _ from HS.out (by rintro ⟨_, e⟩; cases r with | nil => cases e | cons c r2 => simp at hrl; omega) [b] (esc1_high v b (by have := hbx.out; omega)))
            have HQ : Hid (bs (lstr [b]) = [x]) := by show bs (lstr [b]) = [x]; rw [bs_lstr1, hbx.out]
            subst h194
            cases v
            all_goals
              have hone : Sl .u8 (wr.alloc (.cells #[.int .u8 194] 5)) (.slice (some ⟨wr.heap.size, 0, none⟩) 1 1) [194] :=
                Own.sl (World.ownsRow_lit wr #[.int .u8 194] 1 (Nat.le_refl _) (by unfold maxLen; omega) rfl : Own wr.heap.size 5 .u8 _ _ [194])
              go_wp2_with (at_builtin; refine wpList_app _ rfl (.tmp 14) (.tmp 18) 22 rfl w.heap.size 5 i0 (.int .u8 0) 1 Tryd.underlying22 hi hz0 hz1 hz2 rfl .u8 _ _ xs [194] rfl rfl (own.alloc _) hone (by simp; omega) (by unfold maxLen; simp; omega) (by simp; omega) ?_; intro v' w9 o9 g9)
              have b9 := (bw.alloc hbs _).grown g9 (by simp; omega) (fun j hj => (own.lt j hj).1)
              go_roundw
              case rel => exact ⟨k + 1, acc ++ [b], by omega, by go_num, by rw [bs_app, ← HX.out, HQ.out]; exact o9, b9, HE.out, by rw [List.length_append]; have : ([b] : List UInt8).length = 1 := rfl; omega⟩
              case measure => simp [intOf]; omega
        · have n38 : (x == 38) = false := by simp; omega
          have n194 : (x == 194) = false := by simp; omega
          by_cases h34 : x = 34
          · cases v
            · clear n38 n194
              have HE := (show Hid _ from HS.out (fun h => by omega) [b] (esc1_self _ b (by have := hbx.out; omega) (fun h => by have := hbx.out; have := h.1; first | omega | cases h.2) (fun h => by have := hbx.out; have := h.1; first | omega | cases h.2) (fun h => by have := hbx.out; have := h.1; first | omega | cases h.2)))
              have HQ : Hid (bs (lstr [b]) = [x]) := by show bs (lstr [b]) = [x]; rw [bs_lstr1, hbx.out]
              clear h38 h194
              subst h34
              have hone : Sl .u8 (wr.alloc (.cells #[.int .u8 34] 5)) (.slice (some ⟨wr.heap.size, 0, none⟩) 1 1) [34] :=
                Own.sl (World.ownsRow_lit wr #[.int .u8 34] 1 (Nat.le_refl _) (by unfold maxLen; omega) rfl : Own wr.heap.size 5 .u8 _ _ [34])
              go_wp2_with (at_builtin; refine wpList_app _ rfl (.tmp 14) (.tmp 18) 22 rfl w.heap.size 5 i0 (.int .u8 0) 1 Tryd.underlying22 hi hz0 hz1 hz2 rfl .u8 _ _ xs [34] rfl rfl (own.alloc _) hone (by simp; omega) (by unfold maxLen; simp; omega) (by simp; omega) ?_; intro v' w9 o9 g9)
              have b9 := (bw.alloc hbs _).grown g9 (by simp; omega) (fun j hj => (own.lt j hj).1)
              go_roundw
              case rel => exact ⟨k + 1, acc ++ [b], by omega, by go_num, by rw [bs_app, ← HX.out, HQ.out]; exact o9, b9, HE.out, by rw [List.length_append]; have : ([b] : List UInt8).length = 1 := rfl; omega⟩
              case measure => simp [intOf]; omega
            · clear n38 n194
              have HE := (show Hid _ from HS.out (fun h => by omega) quotS (by rw [byte_eq hbx.out (n := 34) (by omega) (by decide)]; rfl))
              have HQ : Hid (bs (lstr quotS) = [38, 113, 117, 111, 116, 59]) := by show bs (lstr quotS) = _; decide
              clear h38 h194
              subst h34
              have hcv := Lib.run_convert_bytes_const (P := Tryd.prog) wr 22 5 #[.int .u8 38, .int .u8 113, .int .u8 117, .int .u8 111, .int .u8 116, .int .u8 59] 6 6 Tryd.underlying22 Tryd.underlying5
              have hone : Sl .u8 (wr.alloc (.cells #[.int .u8 38, .int .u8 113, .int .u8 117, .int .u8 111, .int .u8 116, .int .u8 59] 5 (6, 6 + 1))) (.slice (some ⟨wr.heap.size, 0, none⟩) 6 6) [38, 113, 117, 111, 116, 59] := lit_sl wr [38, 113, 117, 111, 116, 59] 5 _ rfl (by decide)
              go_wp2_with (at_builtin; refine wpList_app _ rfl (.tmp 62) (.tmp 64) 22 rfl w.heap.size 5 i0 (.int .u8 0) 1 Tryd.underlying22 hi hz0 hz1 hz2 rfl .u8 _ _ xs [38, 113, 117, 111, 116, 59] rfl rfl (own.alloc _) hone (by simp; omega) (by unfold maxLen; simp; omega) (by simp; omega) ?_; intro v' w9 o9 g9)
              have b9 := (bw.alloc hbs _).grown g9 (by simp; omega) (fun j hj => (own.lt j hj).1)
              go_roundw
              case rel => exact ⟨k + 1, acc ++ quotS, by omega, by go_num, by rw [bs_app, ← HX.out, HQ.out]; exact o9, b9, HE.out, by rw [List.length_append]; have : (quotS : List UInt8).length = 6 := rfl; omega⟩
              case measure => simp [intOf]; omega
          · by_cases h60 : x = 60
            · cases v
              · clear n38 n194 h34
                have HE := (show Hid _ from HS.out (fun h => by omega) ltS (by rw [byte_eq hbx.out (n := 60) (by omega) (by decide)]; rfl))
                have HQ : Hid (bs (lstr ltS) = [38, 108, 116, 59]) := by show bs (lstr ltS) = _; decide
                clear h38 h194
                subst h60
                have hcv := Lib.run_convert_bytes_const (P := Tryd.prog) wr 22 5 #[.int .u8 38, .int .u8 108, .int .u8 116, .int .u8 59] 4 4 Tryd.underlying22 Tryd.underlying5
                have hone : Sl .u8 (wr.alloc (.cells #[.int .u8 38, .int .u8 108, .int .u8 116, .int .u8 59] 5 (4, 4 + 1))) (.slice (some ⟨wr.heap.size, 0, none⟩) 4 4) [38, 108, 116, 59] := lit_sl wr [38, 108, 116, 59] 5 _ rfl (by decide)
                go_wp2_with (at_builtin; refine wpList_app _ rfl (.tmp 75) (.tmp 77) 22 rfl w.heap.size 5 i0 (.int .u8 0) 1 Tryd.underlying22 hi hz0 hz1 hz2 rfl .u8 _ _ xs [38, 108, 116, 59] rfl rfl (own.alloc _) hone (by simp; omega) (by unfold maxLen; simp; omega) (by simp; omega) ?_; intro v' w9 o9 g9)
                have b9 := (bw.alloc hbs _).grown g9 (by simp; omega) (fun j hj => (own.lt j hj).1)
                go_roundw
                case rel => exact ⟨k + 1, acc ++ ltS, by omega, by go_num, by rw [bs_app, ← HX.out, HQ.out]; exact o9, b9, HE.out, by rw [List.length_append]; have : (ltS : List UInt8).length = 4 := rfl; omega⟩
                case measure => simp [intOf]; omega
              · clear n38 n194 h34
                have HE := (show Hid _ from HS.out (fun h => by omega) [b] (esc1_self _ b (by have := hbx.out; omega) (fun h => by have := hbx.out; have := h.1; first | omega | cases h.2) (fun h => by have := hbx.out; have := h.1; first | omega | cases h.2) (fun h => by have := hbx.out; have := h.1; first | omega | cases h.2)))
                have HQ : Hid (bs (lstr [b]) = [x]) := by show bs (lstr [b]) = [x]; rw [bs_lstr1, hbx.out]
                clear h38 h194
                subst h60
                have hone : Sl .u8 (wr.alloc (.cells #[.int .u8 60] 5)) (.slice (some ⟨wr.heap.size, 0, none⟩) 1 1) [60] :=
                  Own.sl (World.ownsRow_lit wr #[.int .u8 60] 1 (Nat.le_refl _) (by unfold maxLen; omega) rfl : Own wr.heap.size 5 .u8 _ _ [60])
                go_wp2_with (at_builtin; refine wpList_app _ rfl (.tmp 14) (.tmp 18) 22 rfl w.heap.size 5 i0 (.int .u8 0) 1 Tryd.underlying22 hi hz0 hz1 hz2 rfl .u8 _ _ xs [60] rfl rfl (own.alloc _) hone (by simp; omega) (by unfold maxLen; simp; omega) (by simp; omega) ?_; intro v' w9 o9 g9)
                have b9 := (bw.alloc hbs _).grown g9 (by simp; omega) (fun j hj => (own.lt j hj).1)
                go_roundw
                case rel => exact ⟨k + 1, acc ++ [b], by omega, by go_num, by rw [bs_app, ← HX.out, HQ.out]; exact o9, b9, HE.out, by rw [List.length_append]; have : ([b] : List UInt8).length = 1 := rfl; omega⟩
                case measure => simp [intOf]; omega
            · by_cases h62 : x = 62
              · cases v
                · clear n38 n194 h34 h60
                  have HE := (show Hid _ from HS.out (fun h => by omega) gtS (by rw [byte_eq hbx.out (n := 62) (by omega) (by decide)]; rfl))
                  have HQ : Hid (bs (lstr gtS) = [38, 103, 116, 59]) := by show bs (lstr gtS) = _; decide
                  clear h38 h194
                  subst h62
                  have hcv := Lib.run_convert_bytes_const (P := Tryd.prog) wr 22 5 #[.int .u8 38, .int .u8 103, .int .u8 116, .int .u8 59] 4 4 Tryd.underlying22 Tryd.underlying5
                  have hone : Sl .u8 (wr.alloc (.cells #[.int .u8 38, .int .u8 103, .int .u8 116, .int .u8 59] 5 (4, 4 + 1))) (.slice (some ⟨wr.heap.size, 0, none⟩) 4 4) [38, 103, 116, 59] := lit_sl wr [38, 103, 116, 59] 5 _ rfl (by decide)
                  go_wp2_with (at_builtin; refine wpList_app _ rfl (.tmp 88) (.tmp 90) 22 rfl w.heap.size 5 i0 (.int .u8 0) 1 Tryd.underlying22 hi hz0 hz1 hz2 rfl .u8 _ _ xs [38, 103, 116, 59] rfl rfl (own.alloc _) hone (by simp; omega) (by unfold maxLen; simp; omega) (by simp; omega) ?_; intro v' w9 o9 g9)
                  have b9 := (bw.alloc hbs _).grown g9 (by simp; omega) (fun j hj => (own.lt j hj).1)
                  go_roundw
                  case rel => exact ⟨k + 1, acc ++ gtS, by omega, by go_num, by rw [bs_app, ← HX.out, HQ.out]; exact o9, b9, HE.out, by rw [List.length_append]; have : (gtS : List UInt8).length = 4 := rfl; omega⟩
                  case measure => simp [intOf]; omega
                · clear n38 n194 h34 h60
                  have HE := (show Hid _ from HS.out (fun h => by omega) [b] (esc1_self _ b (by have := hbx.out; omega) (fun h => by have := hbx.out; have := h.1; first | omega | cases h.2) (fun h => by have := hbx.out; have := h.1; first | omega | cases h.2) (fun h => by have := hbx.out; have := h.1; first | omega | cases h.2)))
                  have HQ : Hid (bs (lstr [b]) = [x]) := by show bs (lstr [b]) = [x]; rw [bs_lstr1, hbx.out]
                  clear h38 h194
                  subst h62
                  have hone : Sl .u8 (wr.alloc (.cells #[.int .u8 62] 5)) (.slice (some ⟨wr.heap.size, 0, none⟩) 1 1) [62] :=
                    Own.sl (World.ownsRow_lit wr #[.int .u8 62] 1 (Nat.le_refl _) (by unfold maxLen; omega) rfl : Own wr.heap.size 5 .u8 _ _ [62])
                  go_wp2_with (at_builtin; refine wpList_app _ rfl (.tmp 14) (.tmp 18) 22 rfl w.heap.size 5 i0 (.int .u8 0) 1 Tryd.underlying22 hi hz0 hz1 hz2 rfl .u8 _ _ xs [62] rfl rfl (own.alloc _) hone (by simp; omega) (by unfold maxLen; simp; omega) (by simp; omega) ?_; intro v' w9 o9 g9)
                  have b9 := (bw.alloc hbs _).grown g9 (by simp; omega) (fun j hj => (own.lt j hj).1)
                  go_roundw
                  case rel => exact ⟨k + 1, acc ++ [b], by omega, by go_num, by rw [bs_app, ← HX.out, HQ.out]; exact o9, b9, HE.out, by rw [List.length_append]; have : ([b] : List UInt8).length = 1 := rfl; omega⟩
                  case measure => simp [intOf]; omega
              · have n34 : (x == 34) = false := by simp; omega
                have n60 : (x == 60) = false := by simp; omega
                have n62 : (x == 62) = false := by simp; omega
                cases v
                all_goals
                  have HE := (show Hid _ from HS.out (fun h => by omega) [b] (esc1_self _ b (by have := hbx.out; omega) (fun h => by have := hbx.out; have := h.1; first | omega | cases h.2) (fun h => by have := hbx.out; have := h.1; first | omega | cases h.2) (fun h => by have := hbx.out; have := h.1; first | omega | cases h.2)))
                  have HQ : Hid (bs (lstr [b]) = [x]) := by show bs (lstr [b]) = [x]; rw [bs_lstr1, hbx.out]
                  clear h38 h194
                  have hone : Sl .u8 (wr.alloc (.cells #[.int .u8 x] 5)) (.slice (some ⟨wr.heap.size, 0, none⟩) 1 1) [x] :=
                    Own.sl (World.ownsRow_lit wr #[.int .u8 x] 1 (Nat.le_refl _) (by unfold maxLen; omega) rfl : Own wr.heap.size 5 .u8 _ _ [x])
                  go_wp2_with (at_builtin; refine wpList_app _ rfl (.tmp 14) (.tmp 18) 22 rfl w.heap.size 5 i0 (.int .u8 0) 1 Tryd.underlying22 hi hz0 hz1 hz2 rfl .u8 _ _ xs [x] rfl rfl (own.alloc _) hone (by simp; omega) (by unfold maxLen; simp; omega) (by simp; omega) ?_; intro v' w9 o9 g9)
                  have b9 := (bw.alloc hbs _).grown g9 (by simp; omega) (fun j hj => (own.lt j hj).1)
                  go_roundw
                  case rel => exact ⟨k + 1, acc ++ [b], by omega, by go_num, by rw [bs_app, ← HX.out, HQ.out]; exact o9, b9, HE.out, by rw [List.length_append]; have : ([b] : List UInt8).length = 1 := rfl; omega⟩
                  case measure => simp [intOf]; omega
    · have hke : k = s.size := by omega
      have HF : Hid (lstr acc = lstr (esc v s.data.toList)) := by
        show lstr acc = lstr (esc v s.data.toList)
        rw [← HA.out, hke, ← HSL.out, List.drop_length]
        simp [esc]
      have cv := conv_sl own.sl
      rw [HX.out, strOf_bs, HF.out] at cv
      clear hke HX
      go_wp2
      go_ret
      exact ⟨rfl, bw⟩
end Go.Proofs.YtggfifchkecnjaaDoor

/- The draw of a text to be escaped: some text none of whose bytes is above 195. No condition. -/
namespace Go.Proofs.YtggfifchkecnjaaDoor
open Go.RowKit
set_option maxRecDepth 100000
set_option linter.unusedVariables false

def pkE : List ByteArray := [⟨#[38]⟩, ⟨#[60]⟩, ⟨#[62]⟩, ⟨#[34]⟩, ⟨#[194, 160]⟩, ⟨#[97]⟩, ⟨#[194]⟩, ⟨#[160]⟩, ⟨#[38, 97, 109, 112, 59]⟩]
theorem pkE_low : ∀ t ∈ pkE, t.size ≤ 25 ∧ lowS t := by decide

theorem escDr_res {tmps : Array Value} {fn : Func} {w : World} {s : ByteArray} {b : Bool} {p q : Tmp} (h : fn.results = #[.tmp p, .tmp q]) (h1 : tmps.getD p undef = .string s) (h2 : tmps.getD q undef = .bool b) : (results fn tmps).run Tryd.prog w = .ok (.tuple #[.string s, .bool b]) w := by
  rw [results_tmp2 h, h1, h2]

set_option maxHeartbeats 1000000 in
theorem drawEscape_any {v : Value} {xs : List Int} {w : World} (h : Sl .u8 w v xs) (hb : ∀ x ∈ xs, 0 ≤ x ∧ x ≤ 255) (hn : xs.length ≤ 1099511627776) :
    Calls Tryd.prog 5 #[v] w fun e w' => ∃ s b, e = .returned (.tuple #[.string s, .bool b]) ∧ s.size ≤ 300 ∧ lowS s ∧ Below w.heap.size w w' := by
  have HB : Hid (∀ x ∈ xs, 0 ≤ x ∧ x ≤ 255) := hb
  clear hb
  go_enter Tryd.func5, Tryd.ntmps5
  go_wp2_with fail
  go_at_call 12
  refine (new_any h HB.out hn).mono ?_
  rintro e w1 ⟨rfl, k1, b1⟩
  go_wp2
  go_loopw [5, 6] (fun u i wr => ∃ (k : Nat) (s : ByteArray), k ≤ 9 ∧ i = .int .i64 k ∧ u = .string s ∧ s.size ≤ 25 * k ∧ lowS s ∧ Cur w w.heap.size v xs wr ∧ Below w.heap.size w wr) (fun _ i _ => 9 - (intOf i).toNat)
  case atStart => exact ⟨0, ⟨#[]⟩, Nat.zero_le _, rfl, rfl, Nat.zero_le _, by decide, k1, b1⟩
  case round =>
    clear k1 b1
    obtain ⟨k, s, hk, rfl, rfl, hsl, hlow, cur, bel⟩ := hrel
    have LOW := (show Hid (lowS s) from hlow)
    clear hlow
    go_wp2_with fail
    go_at_call 13
    refine (below_any _ (by omega) cur HB.out).mono ?_
    rintro e w4 ⟨q, rfl, q0, q1, q2, k4, g4⟩
    replace q1 := q1 (by omega)
    have b4 := bel.grown g4 bel.size (fun j hj => by cases hj; exact Nat.le_refl _)
    clear q2 cur bel g4
    by_cases hkq : (k : Int) < q
    · go_wp2_with fail
      go_at_call 14
      refine (pickLow_any k4 HB.out pkE (by decide) (by decide) pkE_low _ rfl 9 rfl).mono ?_
      rintro e w5 ⟨t, rfl, ht, lt, k5, g5⟩
      have hs2 : s.size ≤ 300 := by omega
      have hadd := run_string_add_sum (P := Tryd.prog) w5 s t (by omega)
      have hszz := add_size s t
      obtain ⟨z, ez⟩ : ∃ z0, z0 = s ++ t := ⟨_, rfl⟩
      rw [← ez] at hadd hszz
      have b5 := b4.grown g5 b4.size (fun j hj => by cases hj; exact Nat.le_refl _)
      go_wp2
      go_roundw
      case rel => exact ⟨k + 1, z, by omega, by go_num, by first | rfl | (rw [ez]; done), by omega, by rw [ez]; exact LOW.out.add lt, k5, b5⟩
      case measure => simp [intOf]; omega
    · go_wp2_with fail
      go_at_call 15
      refine (once_any 2 (by omega) k4 HB.out).mono ?_
      rintro e w5 ⟨b, rfl, k5, g5⟩
      have b5 := b4.grown g5 b4.size (fun j hj => by cases hj; exact Nat.le_refl _)
      go_wp2
      refine bodyPost_ret (escDr_res rfl rfl rfl) rfl ?_
      exact ⟨s, b, rfl, by omega, LOW.out, b5⟩
end Go.Proofs.YtggfifchkecnjaaDoor
