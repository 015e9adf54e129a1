/- Contracts of LowerText, the program's and the specification's, at every string of at most 2^40 bytes. -/
import Derived.Test.YtkopehfdijecoaaStr
import Derived.Test.YtkopehfdijecoaaSKinds
namespace Go.Proofs.Ytkopehfdijecoaa
open Go.RowKit
set_option linter.unusedVariables false

theorem lowerOf_byte {x : Int} (h0 : 0 ≤ x) (h1 : x ≤ 255) : 0 ≤ lowerOf x ∧ lowerOf x ≤ 255 := by
  unfold lowerOf
  by_cases h : 65 ≤ x ∧ x ≤ 90
  · rw [inB_yes h.1 h.2, if_pos rfl]; omega
  · rw [inB_no (by omega), if_neg (by decide)]; omega
/-- A row of bytes, lowered up to k. -/
def lowAt (k : Nat) (xs : List Int) : List Int := (xs.take k).map lowerOf ++ xs.drop k
theorem lowAt_len (k : Nat) (xs : List Int) : (lowAt k xs).length = xs.length := by simp [lowAt]; omega
theorem lowAt_zero (xs : List Int) : lowAt 0 xs = xs := by simp [lowAt]
theorem lowAt_all (xs : List Int) : lowAt xs.length xs = xs.map lowerOf := by simp [lowAt]
theorem lowAt_get {k : Nat} {xs : List Int} (h : k < xs.length) : (lowAt k xs).getD k 0 = xs.getD k 0 := by
  have hl : ((xs.take k).map lowerOf).length = k := by simp; omega
  rw [List.getD_eq_getElem?_getD, List.getD_eq_getElem?_getD, lowAt, List.getElem?_append_right (by omega), hl, Nat.sub_self]
  simp [h]
theorem lowAt_set {k : Nat} {xs : List Int} (h : k < xs.length) : (lowAt k xs).set k (lowerOf (xs.getD k 0)) = lowAt (k + 1) xs := by
  have hl : ((xs.take k).map lowerOf).length = k := by simp; omega
  have hg : xs.getD k 0 = xs[k] := by simp [List.getD_eq_getElem?_getD, h]
  rw [lowAt, List.set_append_right _ _ (by omega), hl, Nat.sub_self, List.drop_eq_getElem_cons h, List.set_cons_zero, lowAt, List.take_succ_eq_append_getElem h, hg, List.map_append, List.append_assoc]
  rfl
theorem low_byte {xs : List Int} (h : ∀ x ∈ xs, 0 ≤ x ∧ x ≤ 255) : ∀ x ∈ xs.map lowerOf, 0 ≤ x ∧ x ≤ 255 := by
  intro x hx
  obtain ⟨y, hy, rfl⟩ := List.mem_map.mp hx
  exact lowerOf_byte (h y hy).1 (h y hy).2

set_option maxRecDepth 100000 in
theorem ilowerText_any (s : ByteArray) (w : World) (hs : s.size ≤ 1099511627776) :
    Calls Try.prog 12 #[.string s] w fun e w' => e = .returned (.string (strOf ((bs s).map lowerOf))) ∧ Below w.heap.size w w' := by
  obtain ⟨cap, w1, hc, hk, hcap, hm, hb⟩ := conv_str s w (by unfold maxLen; omega)
  have hl := bs_len s
  go_enter Try.func12, Try.ntmps12
  go_wp2
  go_loopw [10] (fun i wr => ∃ k : Nat, k ≤ s.size ∧ i = .int .i64 k ∧ Blk .u8 5 wr w.heap.size (lowAt k (bs s)) ∧ Below w.heap.size w wr) (fun i _ => s.size - (intOf i).toNat)
  case atStart => exact ⟨0, Nat.zero_le _, rfl, by rw [lowAt_zero]; exact hk, hb⟩
  case round =>
    clear hc hk hb
    obtain ⟨k, hks, rfl, hk, hb⟩ := hrel
    by_cases hlt : k < s.size
    · have c0 := hk.cell k (by rw [lowAt_len]; omega)
      rw [lowAt_get (by omega)] at c0
      have hbk := bs_bound s k
      obtain ⟨y, hy⟩ : ∃ y, y = (bs s).getD k 0 := ⟨_, rfl⟩
      rw [← hy] at c0 hbk
      have HY : Hid (y = (bs s).getD k 0) := hy
      clear hy
      have hlb := lowerOf_byte hbk.1 hbk.2
      go_wp2_with fail
      go_at_call 14
      refine (ilower_any _ _).mono ?_
      rintro e w2 ⟨rfl, b2⟩
      have hk2 := hk.below b2
      have f2 := hk2.frozen k (by rw [lowAt_len]; omega)
      have c2 := hk2.cell k (by rw [lowAt_len]; omega)
      have hb2 := hb.trans (b2.mono hb.size)
      obtain ⟨z, hz⟩ : ∃ z, z = lowerOf y := ⟨_, rfl⟩
      rw [← hz] at hlb ⊢
      have HZ : Hid (z = lowerOf y) := hz
      have ez : z % 256 = z := by omega
      clear c0 b2 hk hb hz
      go_wp2
      go_roundw
      case rel =>
        refine ⟨k + 1, by omega, by go_num, ?_, hb2.setCell (Nat.le_refl _) _⟩
        have := hk2.set k (by rw [lowAt_len]; omega) z
        rw [HZ.out, HY.out, lowAt_set (by omega), ← HY.out, ← HZ.out] at this
        exact this
      case measure => simp [intOf]; omega
    · have hkk : k = s.size := by omega
      subst hkk
      rw [← hl, lowAt_all] at hk
      have hsl := hk.sl (n := s.size) (cap := cap) (by simpa using hl.symm) (by simpa using by omega) hm
      have cv := conv_sl hsl
      go_wp2
      go_ret
      exact ⟨rfl, hb⟩

theorem take_map_succ {xs : List Int} {k : Nat} (h : k < xs.length) : (xs.take k).map lowerOf ++ [lowerOf (xs.getD k 0)] = (xs.take (k + 1)).map lowerOf := by
  have hg : xs.getD k 0 = xs[k] := by simp [List.getD_eq_getElem?_getD, h]
  rw [List.take_succ_eq_append_getElem h, List.map_append, hg]; rfl

set_option maxRecDepth 100000 in
theorem slowerText_any (s : ByteArray) (w : World) (hs : s.size ≤ 1099511627776) :
    Calls Try.prog 13 #[.string s] w fun e w' => e = .returned (.string (strOf ((bs s).map lowerOf))) ∧ Below w.heap.size w w' := by
  have hl := bs_len s
  obtain ⟨i0, hi, hz0, hz1, hz2⟩ := info_parts Try.infoB
  have o1 := own_empty 5 .u8 w
  have ba : Below w.heap.size w (w.alloc (.cells #[] 5)) := (Below.refl _ _).alloc (Nat.le_refl _) _
  go_enter Try.func13, Try.ntmps13
  go_wp2
  go_loopw [3, 4] (fun u i wr => ∃ k : Nat, k ≤ s.size ∧ i = .int .i64 k ∧ Own w.heap.size 5 .u8 wr u (((bs s).take k).map lowerOf) ∧ Below w.heap.size w wr) (fun _ i _ => s.size - (intOf i).toNat)
  case atStart => exact ⟨0, Nat.zero_le _, rfl, by simpa using o1, ba⟩
  case round =>
    clear o1 ba
    obtain ⟨k, hks, rfl, own, bel⟩ := hrel
    by_cases hlt : k < s.size
    · have hat := bs_at s k hlt
      have hbk := bs_bound s k
      have hm := take_map_succ (xs := bs s) (k := k) (by omega)
      obtain ⟨y, hy⟩ : ∃ y, y = (bs s).getD k 0 := ⟨_, rfl⟩
      rw [← hy] at hat hbk hm
      have hlb := lowerOf_byte hbk.1 hbk.2
      have hbs := bel.size
      have hkl : (((bs s).take k).map lowerOf).length = k := by simp; omega
      obtain ⟨zs, hzs⟩ : ∃ zs, zs = ((bs s).take k).map lowerOf := ⟨_, rfl⟩
      rw [← hzs] at own hkl hm
      clear hy hzs
      go_wp2_with fail
      go_at_call 22
      refine (slower_any _ _).mono ?_
      rintro e w2 ⟨rfl, rfl⟩
      obtain ⟨z, hz⟩ : ∃ z, z = lowerOf y := ⟨_, rfl⟩
      rw [← hz] at hlb hm ⊢
      clear hz
      have ez : z % 256 = z := by omega
      have HM : Hid (zs ++ [z] = ((bs s).take (k + 1)).map lowerOf) := hm
      clear hm
      have hone : Sl .u8 (w2.alloc (.cells #[.int .u8 z] 5)) (.slice (some ⟨w2.heap.size, 0, none⟩) 1 1) [z] :=
        Own.sl (World.ownsRow_lit w2 #[.int .u8 z] 1 (Nat.le_refl _) (by unfold maxLen; omega) rfl : Own w2.heap.size 5 .u8 _ _ [z])
      go_wp2_with (at_builtin; refine wpList_app _ rfl (.tmp 12) (.tmp 19) 22 rfl w.heap.size 5 i0 (.int .u8 0) 1 Try.underlying22 hi hz0 hz1 hz2 rfl .u8 _ _ zs [z] rfl rfl (own.alloc _) hone (by simp; omega) (by unfold maxLen; simp; omega) (by simp; omega) ?_; intro v' w9 o9 g9)
      go_roundw
      case rel =>
        refine ⟨k + 1, by omega, by go_num, by rw [← HM.out]; exact o9, ?_⟩
        exact (bel.alloc hbs _).grown g9 (by simp; omega) (fun k hk => (own.lt k hk).1)
      case measure => simp [intOf]; omega
    · have hkk : k = s.size := by omega
      subst hkk
      rw [← hl, List.take_length] at own
      have cv := conv_sl own.sl
      obtain ⟨t, ht⟩ : ∃ t, t = strOf ((bs s).map lowerOf) := ⟨_, rfl⟩
      rw [← ht] at cv
      have HT : Hid (t = strOf ((bs s).map lowerOf)) := ht
      clear ht own
      go_wp2
      go_ret
      exact ⟨by rw [← HT.out]; rfl, bel⟩
end Go.Proofs.Ytkopehfdijecoaa
