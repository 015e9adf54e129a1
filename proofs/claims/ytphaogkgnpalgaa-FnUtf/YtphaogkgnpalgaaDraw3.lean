/- The contract of the draw of bytes: some bytes, in new memory. -/
import Derived.Test.YtphaogkgnpalgaaDraw1
import Derived.Test.YtphaogkgnpalgaaPut
import Derived.Test.YtphaogkgnpalgaaOk
namespace Go.Proofs.Ytphaogkgnpalgaa
open Go.RowKit
set_option linter.unusedVariables false

theorem Sl.take {K : IntKind} {w : World} {a : Addr} {n cap r : Nat} {xs : List Int} (h : Sl K w (.slice (some a) n cap) xs) (hr : r ≤ xs.length) : Sl K w (.slice (some a) r cap) (xs.take r) := by
  obtain ⟨a', c', e, hl, hm, hnn, ha⟩ := h
  cases e
  have hlen : (xs.take r).length = r := by simp; omega
  refine ⟨some a, cap, by rw [hlen], by omega, hm, (fun h => by cases h), fun k hk => ?_⟩
  obtain ⟨b, off, e, c⟩ := ha k (by omega)
  refine ⟨b, off, e, ?_⟩
  have e2 : (xs.take r).getD k 0 = xs.getD k 0 := by simp [List.getD_eq_getElem?_getD, show k < r by omega]
  rw [e2]; exact c

theorem put_byte (x : Int) : ∀ y ∈ put x, 0 ≤ y ∧ y ≤ 255 := by
  have := pt_ok x
  exact enc_byte this.1 this.2.1

theorem bytes_app {xs ys : List Int} (h : ∀ y ∈ xs, 0 ≤ y ∧ y ≤ 255) (h' : ∀ y ∈ ys, 0 ≤ y ∧ y ≤ 255) : ∀ y ∈ xs ++ ys, 0 ≤ y ∧ y ≤ 255 := fun y hy => by
  rcases List.mem_append.mp hy with a | a
  · exact h y a
  · exact h' y a

/-- One number of a list that is written out. -/
theorem pickL_any {w0 : World} {g : Nat} {v : Value} {xs : List Int} {w : World} (h : Cur w0 g v xs w) (hb : ∀ x ∈ xs, 0 ≤ x ∧ x ≤ 255) (zs : List Int) (hz : 0 < zs.length) (hz2 : zs.length ≤ 1000) (cs : Array Value) (hcs : cs.toList = zs.map (Value.int .i64)) (n : Nat) (hn : n = zs.length) :
    Calls Try.prog 47 #[.pointer (some ⟨g, 0, none⟩), .slice (some ⟨w.heap.size, 0, none⟩) n n] (w.alloc (.cells cs 3)) fun e w' => ∃ x : Int, e = .returned (.int .i64 x) ∧ x ∈ zs ∧ Cur w0 g v xs w' ∧ w.grownBy w' (some g) := by
  have hsz : cs.size = zs.length := by have := congrArg List.length hcs; simpa using this
  have hown : Own w.heap.size 3 .i64 (w.alloc (.cells cs 3)) (.slice (some ⟨w.heap.size, 0, none⟩) n n) zs := by
    have h1 := World.ownsRow_lit (base := w.heap.size) (e := 3) (size := 1) w cs n (Nat.le_refl _) (by unfold maxLen; omega) (by omega)
    rw [hcs] at h1
    unfold Own
    rw [← hn]; exact h1
  refine (pick_any (h.below ((Below.refl _ _).alloc (Nat.le_refl _) _)) hb hown.sl hz hz2 (fun w' hg => (own_past hown hg h.lt).sl)).mono ?_
  rintro e w3 ⟨z, rfl, hz, k3, g3⟩
  exact ⟨z, rfl, hz, k3, grown_trans (World.grownBy_alloc _ _ _) g3⟩

set_option maxHeartbeats 4000000 in
theorem drawUtf_any {v : Value} {xs : List Int} {w : World} (h : Sl .u8 w v xs) (hb : ∀ x ∈ xs, 0 ≤ x ∧ x ≤ 255) (hn : xs.length ≤ 1099511627776) :
    Calls Try.prog 37 #[v] w fun e w' => ∃ v' zs, e = .returned v' ∧ Own w.heap.size 5 .u8 w' v' zs ∧ zs.length ≤ 4000 ∧ (∀ y ∈ zs, 0 ≤ y ∧ y ≤ 255) ∧ Below w.heap.size w w' := by
  have HB : Hid (∀ x ∈ xs, 0 ≤ x ∧ x ≤ 255) := hb
  clear hb
  obtain ⟨i0, hi, hz0, hz1, hz2⟩ := info_parts Try.infoB
  go_enter Try.func37, Try.ntmps37
  go_wp2_with fail
  go_at_call 44
  refine (new_any h HB.out hn).mono ?_
  rintro e w1 ⟨rfl, k1, b1⟩
  have hlt := k1.lt
  have o1 := own_empty 5 .u8 w1
  have ba : Below w1.heap.size w1 (w1.alloc (.cells #[] 5)) := (Below.refl _ _).alloc (Nat.le_refl _) _
  have h1 := (h.below b1).below ba
  replace k1 := k1.below ba
  replace b1 := b1.trans (ba.mono b1.size)
  replace o1 := o1.base (B' := w.heap.size + 1) (by omega)
  clear ba hlt
  go_wp2_with fail
  go_at_call 46
  refine (size_any h1 hn 12 (by omega)).mono ?_
  rintro e w2 ⟨⟨m, rfl, m0, m1⟩, rfl⟩
  go_wp2_with fail
  go_at_call 45
  refine (below_any _ (by omega) k1 HB.out).mono ?_
  rintro e w3 ⟨n, rfl, n0, n1, n2, k3, g3⟩
  replace n1 := n1 (by omega)
  clear n2
  obtain ⟨n, rfl⟩ : ∃ k : Nat, n = k := ⟨n.toNat, by omega⟩
  have o3 := own_past o1 g3 (by omega)
  have b3 := b1.grown g3 b1.size (fun k hk => by cases hk; exact Nat.le_refl _)
  clear o1 b1 g3 k1 h1
  go_wp2
  go_loopw [4, 6] (fun u i wr => ∃ (k : Nat) (zs : List Int), k ≤ n ∧ i = .int .i64 k ∧ zs.length ≤ 4 * k ∧ (∀ y ∈ zs, 0 ≤ y ∧ y ≤ 255) ∧ Own (w.heap.size + 1) 5 .u8 wr u zs ∧ Cur w w.heap.size v xs wr ∧ Below w.heap.size w wr) (fun _ i _ => n - (intOf i).toNat)
  case atStart => exact ⟨0, [], Nat.zero_le _, rfl, Nat.zero_le _, fun y hy => (by cases hy), o3, k3, b3⟩
  case round =>
    clear o3 k3 b3
    obtain ⟨k, zs, hk, rfl, hzl, hzb, own, cur, bel⟩ := hrel
    have HZ : Hid (∀ y ∈ zs, 0 ≤ y ∧ y ≤ 255) := hzb
    have hzl2 : zs.length ≤ 52 := by omega
    clear hzb
    have hbs := bel.size
    by_cases hkn : k < n
    · go_wp2_with fail
      go_at_call 49
      refine (drawPoint_any cur HB.out).mono ?_
      rintro e w4 ⟨x, rfl, k4, g4⟩
      have o4 := own_past own g4 (by omega)
      have b4 := bel.grown g4 hbs (fun k hk => by cases hk; exact Nat.le_refl _)
      clear own cur bel g4 hbs
      go_wp2_with fail
      go_at_call 26
      refine (sput_any x _).mono ?_
      rintro e w5 ⟨p, rfl, op, b5⟩
      have hpl := put_len x
      have HPB : Hid (∀ y ∈ put x, 0 ≤ y ∧ y ≤ 255) := put_byte x
      replace op := op.base (B' := w.heap.size + 1) (by have := k4.lt; omega)
      have o5 := o4.below b5
      have k5 := k4.below b5
      replace b5 := b4.trans (b5.mono b4.size)
      clear o4 k4 b4
      go_wp2_with fail
      go_at_call 45
      refine (below_any _ (by omega) k5 HB.out).mono ?_
      rintro e w6 ⟨q, rfl, q0, q1, q2, k6, g6⟩
      replace q1 := q1 (by omega)
      clear q2
      have o6 := own_past o5 g6 (by omega)
      have op6 := own_past op g6 (by omega)
      have b6 := b5.grown g6 b5.size (fun k hk => by cases hk; exact Nat.le_refl _)
      clear o5 op k5 b5 g6
      have hbs := b6.size
      rcases (show q = 0 ∨ q = 1 ∨ (q ≠ 0 ∧ q ≠ 1) by omega) with rfl | rfl | ⟨hq0, hq1⟩
      · rcases op6.shape with ⟨_, hnil⟩ | ⟨gp, cp, rfl, hBp, hgp, hlp, hmp⟩
        · rw [hnil] at hpl; simp at hpl
        go_wp2_with fail
        go_at_call 45
        refine (below_any _ (by omega) k6 HB.out).mono ?_
        rintro e w7 ⟨r, rfl, r0, r1, r2, k7, g7⟩
        replace r1 := r1 (by omega)
        clear r2
        obtain ⟨r, rfl⟩ : ∃ k : Nat, r = k := ⟨r.toNat, by omega⟩
        have o7 := own_past o6 g7 (by omega)
        have op7 := own_past op6 g7 (by omega)
        have b7 := b6.grown g7 hbs (fun k hk => by cases hk; exact Nat.le_refl _)
        clear o6 op6 k6 b6 g7 hbs
        have hbs := b7.size
        have hst := op7.sl.take (r := r) (by omega)
        have hlt : ((put x).take r).length ≤ 4 := by simp; omega
        clear op7
        go_wp2_with (at_builtin; refine wpList_app _ rfl (.tmp 46) (.tmp 47) 22 rfl (w.heap.size + 1) 5 i0 (.int .u8 0) 1 Try.underlying22 hi hz0 hz1 hz2 rfl .u8 _ _ zs ((put x).take r) rfl rfl o7 hst (by omega) (by unfold maxLen; omega) (by have := k7.lt; omega) ?_; intro v' w8 o8 g8)
        go_roundw
        case rel => exact ⟨k + 1, _, by omega, by go_num, by rw [List.length_append]; omega, bytes_app HZ.out (fun y hy => HPB.out y (List.mem_of_mem_take hy)), o8, k7.kept g8 (fun e => by have := (o7.lt _ e).1; omega) (fun k hk => by have := (o7.lt k hk).1; omega), b7.grown g8 hbs (fun k hk => by have := (o7.lt k hk).1; omega)⟩
        case measure => simp [intOf]; omega
      · go_wp2_with fail
        go_at_call 47
        refine (pickL_any k6 HB.out [192, 193, 194, 224, 237, 240, 244, 245, 255, 128, 191] (by simp) (by simp) #[.int .i64 192, .int .i64 193, .int .i64 194, .int .i64 224, .int .i64 237, .int .i64 240, .int .i64 244, .int .i64 245, .int .i64 255, .int .i64 128, .int .i64 191] rfl 11 rfl).mono ?_
        rintro e w7 ⟨z1, rfl, _, k7, g7⟩
        have o7 := own_past o6 g7 (by omega)
        have b7 := b6.grown g7 hbs (fun k hk => by cases hk; exact Nat.le_refl _)
        clear o6 op6 k6 b6 g7 hbs
        go_wp2_with fail
        go_at_call 47
        refine (pickL_any k7 HB.out [128, 143, 144, 159, 160, 191, 65] (by simp) (by simp) #[.int .i64 128, .int .i64 143, .int .i64 144, .int .i64 159, .int .i64 160, .int .i64 191, .int .i64 65] rfl 7 rfl).mono ?_
        rintro e w8 ⟨z2, rfl, _, k8, g8⟩
        have o8 := own_past o7 g8 (by omega)
        have b8 := b7.grown g8 b7.size (fun k hk => by cases hk; exact Nat.le_refl _)
        clear o7 k7 b7 g8
        have hbs := b8.size
        have hc8 := k8.lt
        have htwo : Sl .u8 (w8.alloc (.cells #[.int .u8 (z1 % 256), .int .u8 (z2 % 256)] 5)) (.slice (some ⟨w8.heap.size, 0, none⟩) 2 2) [z1 % 256, z2 % 256] :=
          Own.sl (World.ownsRow_lit w8 #[.int .u8 (z1 % 256), .int .u8 (z2 % 256)] 2 (Nat.le_refl _) (by unfold maxLen; omega) rfl : Own w8.heap.size 5 .u8 _ _ [z1 % 256, z2 % 256])
        go_wp2_with (at_builtin; refine wpList_app _ rfl (.tmp 46) (.tmp 47) 22 rfl (w.heap.size + 1) 5 i0 (.int .u8 0) 1 Try.underlying22 hi hz0 hz1 hz2 rfl .u8 _ _ zs [z1 % 256, z2 % 256] rfl rfl (o8.alloc _) htwo (by simp; omega) (by unfold maxLen; simp; omega) (by simp; omega) ?_; intro v' w9 o9 g9)
        go_roundw
        case rel =>
          refine ⟨k + 1, _, by omega, by go_num, by rw [List.length_append]; simp; omega, bytes_app HZ.out (fun y hy => by simp at hy; omega), o9, ?_, ?_⟩
          · exact (k8.below ((Below.refl _ _).alloc (Nat.le_refl _) _)).kept g9 (fun e => by have := (o8.lt _ e).1; omega) (fun k hk => by have := (o8.lt k hk).1; omega)
          · exact (b8.alloc hbs _).grown g9 (by simp; omega) (fun k hk => by have := (o8.lt k hk).1; omega)
        case measure => simp [intOf]; omega
      · have e0 : (q == 0) = false := by simpa using hq0
        have e1 : (q == 1) = false := by simpa using hq1
        clear hq0 hq1
        go_wp2_with (at_builtin; refine wpList_app _ rfl (.tmp 46) (.tmp 47) 22 rfl (w.heap.size + 1) 5 i0 (.int .u8 0) 1 Try.underlying22 hi hz0 hz1 hz2 rfl .u8 _ _ zs (put x) rfl rfl o6 op6.sl (by omega) (by unfold maxLen; omega) (by have := k6.lt; omega) ?_; intro v' w8 o8 g8)
        go_roundw
        case rel => exact ⟨k + 1, _, by omega, by go_num, by rw [List.length_append]; omega, bytes_app HZ.out HPB.out, o8, k6.kept g8 (fun e => by have := (o6.lt _ e).1; omega) (fun k hk => by have := (o6.lt k hk).1; omega), b6.grown g8 hbs (fun k hk => by have := (o6.lt k hk).1; omega)⟩
        case measure => simp [intOf]; omega
    · go_wp2_with fail
      go_at_call 48
      refine (once_any _ (by omega) cur HB.out).mono ?_
      rintro e w5 ⟨b, rfl, k5, g5⟩
      have o5 := own_past own g5 (by omega)
      have b5 := bel.grown g5 hbs (fun k hk => by cases hk; exact Nat.le_refl _)
      clear own cur bel g5 hbs
      cases b
      · go_wp2_with fail
        go_at_call 48
        refine (once_any _ (by omega) k5 HB.out).mono ?_
        rintro e w7 ⟨b, rfl, k7, g7⟩
        have o7 := own_past o5 g7 (by omega)
        have b7 := b5.grown g7 b5.size (fun k hk => by cases hk; exact Nat.le_refl _)
        clear o5 k5 b5 g7
        cases b
        · go_wp2
          go_ret
          exact ⟨_, _, rfl, o7.base (by omega), by omega, HZ.out, b7⟩
        · go_wp2_with fail
          go_at_call 45
          refine (below_any _ (by omega) k7 HB.out).mono ?_
          rintro e w8 ⟨q, rfl, q0, q1, q2, k8, g8⟩
          replace q1 := q1 (by omega)
          clear q2
          obtain ⟨q, rfl⟩ : ∃ k : Nat, q = k := ⟨q.toNat, by omega⟩
          have b8 := b7.grown g8 b7.size (fun k hk => by cases hk; exact Nat.le_refl _)
          clear o7 b7 k7 g8
          go_wp2_with (at_make; refine wpList_mkn _ rfl (.tmp 58) (.tmp 58) 22 rfl 5 i0 .u8 Try.underlying22 hi hz0 hz1 (3000 + q) (3000 + q) (3000 + q) rfl rfl (by omega) (by omega) (by rw [hz2]; omega) (by unfold maxLen; omega) ?_; intro w9 o9 b9)
          go_ret
          exact ⟨_, _, rfl, o9.base b8.size, by simp; omega, fun y hy => (by have := List.eq_of_mem_replicate hy; omega), b8.trans (b9.mono b8.size)⟩
      · have hbs := b5.size
        have hc5 := k5.lt
        have o3b : Own w5.heap.size 5 .u8 (w5.alloc (.cells #[.int .u8 239, .int .u8 187, .int .u8 191] 5)) (.slice (some ⟨w5.heap.size, 0, none⟩) 3 3) [239, 187, 191] :=
          World.ownsRow_lit w5 #[.int .u8 239, .int .u8 187, .int .u8 191] 3 (Nat.le_refl _) (by unfold maxLen; omega) rfl
        have o5b := o5.below (w' := w5.alloc (.cells #[.int .u8 239, .int .u8 187, .int .u8 191] 5)) ((Below.refl _ _).alloc (Nat.le_refl _) _)
        clear o5
        go_wp2_with (at_builtin; refine wpList_app _ rfl (.tmp 51) (.tmp 52) 22 rfl w5.heap.size 5 i0 (.int .u8 0) 1 Try.underlying22 hi hz0 hz1 hz2 rfl .u8 _ _ [239, 187, 191] zs rfl rfl o3b o5b.sl (by simp; omega) (by unfold maxLen; simp; omega) (by simp) ?_; intro v' w6 o6 g6)
        have k6 := (k5.below ((Below.refl _ _).alloc (Nat.le_refl _) _)).kept g6 (fun e => by have := (o3b.lt _ e).1; omega) (fun k hk => by have := (o3b.lt k hk).1; omega)
        have b6 := (b5.alloc hbs _).grown g6 (by simp; omega) (fun k hk => by have := (o3b.lt k hk).1; omega)
        replace o6 := o6.base (B' := w.heap.size + 1) (by omega)
        clear o3b o5b g6 k5 b5 hbs hc5
        go_at_call 48
        refine (once_any _ (by omega) k6 HB.out).mono ?_
        rintro e w7 ⟨b, rfl, k7, g7⟩
        have o7 := own_past o6 g7 (by omega)
        have b7 := b6.grown g7 b6.size (fun k hk => by cases hk; exact Nat.le_refl _)
        clear o6 k6 b6 g7
        cases b
        · go_wp2
          go_ret
          exact ⟨_, _, rfl, o7.base (by omega), by simp; omega, bytes_app (fun y hy => by simp at hy; omega) HZ.out, b7⟩
        · go_wp2_with fail
          go_at_call 45
          refine (below_any _ (by omega) k7 HB.out).mono ?_
          rintro e w8 ⟨q, rfl, q0, q1, q2, k8, g8⟩
          replace q1 := q1 (by omega)
          clear q2
          obtain ⟨q, rfl⟩ : ∃ k : Nat, q = k := ⟨q.toNat, by omega⟩
          have b8 := b7.grown g8 b7.size (fun k hk => by cases hk; exact Nat.le_refl _)
          clear o7 b7 k7 g8
          go_wp2_with (at_make; refine wpList_mkn _ rfl (.tmp 58) (.tmp 58) 22 rfl 5 i0 .u8 Try.underlying22 hi hz0 hz1 (3000 + q) (3000 + q) (3000 + q) rfl rfl (by omega) (by omega) (by rw [hz2]; omega) (by unfold maxLen; omega) ?_; intro w9 o9 b9)
          go_ret
          exact ⟨_, _, rfl, o9.base b8.size, by simp; omega, fun y hy => (by have := List.eq_of_mem_replicate hy; omega), b8.trans (b9.mono b8.size)⟩

theorem drawRead_any {v : Value} {xs : List Int} {w : World} (h : Sl .u8 w v xs) (hb : ∀ x ∈ xs, 0 ≤ x ∧ x ≤ 255) (hn : xs.length ≤ 1099511627776) :
    Calls Try.prog 13 #[v] w fun e w' => ∃ v' zs, e = .returned v' ∧ Own w.heap.size 5 .u8 w' v' zs ∧ zs.length ≤ 4000 ∧ (∀ y ∈ zs, 0 ≤ y ∧ y ≤ 255) ∧ Below w.heap.size w w' := by
  go_enter Try.func13, Try.ntmps13
  go_wp2_with fail
  go_at_call 37
  refine (drawUtf_any h hb hn).mono ?_
  rintro e w1 ⟨v1, zs, rfl, o1, hz, hzb, b1⟩
  go_wp2
  go_ret
  exact ⟨_, zs, rfl, o1, hz, hzb, b1⟩
end Go.Proofs.Ytphaogkgnpalgaa
