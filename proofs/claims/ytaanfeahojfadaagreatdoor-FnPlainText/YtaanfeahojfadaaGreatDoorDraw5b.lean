/- The draw of a page's points: few and none of them a mark, or noughts alone. -/
import Derived.Test.YtaanfeahojfadaaGreatDoorDraw5
namespace Go.Proofs.YtaanfeahojfadaaGreatDoor
open Go.RowKit
set_option maxRecDepth 100000
set_option linter.unusedVariables false

theorem l3PointsOf_any (s : ByteArray) (w : World) (hs : s.size ≤ 1000000) : Calls Tryz.prog 20 #[.string s] w fun e w' => ∃ v, e = .returned v ∧ Own w.heap.size 3 .i64 w' v (dec (bs s)) ∧ Below w.heap.size w w' := by
  obtain ⟨cap, w1, hc, hk, hcap, hm, hb⟩ := conv_str s w (by unfold maxLen; omega)
  have hl := bs_len s
  have hsl := hk.sl (n := s.size) (cap := cap) (by omega) (by omega) hm
  have hu := l1Read_any hsl (bs_byte s) (by omega)
  clear hk
  go_enter Tryz.func20, Tryz.ntmps20
  go_wp2_with fail
  go_at_call 39
  refine hu.mono ?_
  rintro e w2 ⟨v2, rfl, o2, b2⟩
  go_wp2
  go_ret
  exact ⟨_, rfl, o2.base hb.size, hb.trans (b2.mono hb.size)⟩

set_option maxHeartbeats 1000000 in
theorem drawTokens_any {v : Value} {xs : List Int} {w : World} (h : Sl .u8 w v xs) (hb : ∀ x ∈ xs, 0 ≤ x ∧ x ≤ 255) (hn : xs.length ≤ 1099511627776) :
    Calls Tryz.prog 7 #[v] w fun e w' => ∃ v' zs, e = .returned v' ∧ Own w.heap.size 3 .i64 w' v' zs ∧ zs.length ≤ 3001 ∧ (∀ z ∈ zs, pointOk z = true ∧ z ≠ 65279) ∧ Below w.heap.size w w' := by
  have HB : Hid (∀ x ∈ xs, 0 ≤ x ∧ x ≤ 255) := hb
  clear hb
  obtain ⟨i0, hi, hz0, hz1, hz2⟩ := info_parts Tryz.infoI
  go_enter Tryz.func7, Tryz.ntmps7
  go_wp2_with fail
  go_at_call 19
  refine (new_any h HB.out hn).mono ?_
  rintro e w1 ⟨rfl, k1, b1⟩
  have h1 := h.below b1
  go_wp2_with fail
  go_at_call 22
  refine (size_any h1 hn 14 (by omega)).mono ?_
  rintro e w2 ⟨⟨m, rfl, m0, m1⟩, rfl⟩
  obtain ⟨m, rfl⟩ : ∃ k : Nat, m = k := ⟨m.toNat, by omega⟩
  clear h1
  go_wp2_with fail
  go_at_call 21
  refine (drawPage_any k1 HB.out m (by omega)).mono ?_
  rintro e w3 ⟨s, rfl, hs, hlow, k3, g3⟩
  have b3 := b1.grown g3 b1.size (fun k hk => by cases hk; exact Nat.le_refl _)
  clear k1 b1 g3
  have hdl : (dec (bs s)).length ≤ 840 := by have := dec_len _ (bs s) (Nat.le_refl _); have := bs_len s; omega
  have HD : Hid (∀ z ∈ dec (bs s), pointOk z = true ∧ z ≠ 65279) := fun z hz => ⟨dec_ok _ (bs s) (Nat.le_refl _) (fun y hy => (hlow.bs y hy).1) z hz, dec_low _ (bs s) (Nat.le_refl _) hlow.bs z hz⟩
  go_wp2_with fail
  go_at_call 20
  refine (l3PointsOf_any s w3 (by omega)).mono ?_
  rintro e w5 ⟨u, rfl, o5, b5⟩
  obtain ⟨zs, hzs⟩ : ∃ zs, zs = dec (bs s) := ⟨_, rfl⟩
  rw [← hzs] at o5 hdl HD
  have k5 := k3.below b5
  have hlt := k3.lt
  replace o5 := o5.base (B' := w.heap.size + 1) (by omega)
  replace b5 := b3.trans (b5.mono b3.size)
  clear k3 b3 hzs hs hlow hlt
  go_wp2_with fail
  go_at_call 23
  refine (once_any _ (by omega) k5 HB.out).mono ?_
  rintro e w6 ⟨b6, rfl, k6, g6⟩
  have o6 := own_past o5 g6 (by omega)
  have b6' := b5.grown g6 b5.size (fun k hk => by cases hk; exact Nat.le_refl _)
  clear o5 k5 b5 g6
  cases b6
  · go_wp2
    go_ret
    exact ⟨_, _, rfl, o6.base (by omega), by omega, HD.out, b6'⟩
  · go_wp2_with fail
    go_at_call 24
    refine (below_any _ (by omega) k6 HB.out).mono ?_
    rintro e w8 ⟨q, rfl, q0, q1, q2, k8, g8⟩
    replace q1 := q1 (by omega)
    clear q2
    obtain ⟨q, rfl⟩ : ∃ k : Nat, q = k := ⟨q.toNat, by omega⟩
    have b8 := b6'.grown g8 b6'.size (fun k hk => by cases hk; exact Nat.le_refl _)
    clear o6 b6' k6 g8
    go_wp2_with (at_make; refine wpList_mkn _ rfl (.tmp 16) (.tmp 16) 24 rfl 3 i0 .i64 Tryz.underlying24 hi hz0 hz1 (3000 + q) (3000 + q) (3000 + q) rfl rfl (by omega) (by omega) (by rw [hz2]; omega) (by unfold maxLen; omega) ?_; intro w9 o9 b9)
    go_ret
    exact ⟨_, _, rfl, o9.base b8.size, by simp; omega, fun y hy => (by have := List.eq_of_mem_replicate hy; subst this; decide), b8.trans (b9.mono b8.size)⟩
end Go.Proofs.YtaanfeahojfadaaGreatDoor
