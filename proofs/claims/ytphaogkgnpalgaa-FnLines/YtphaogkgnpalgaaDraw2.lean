/- The contract of the draw of lines: some integers, in new memory. -/
import Derived.Test.YtphaogkgnpalgaaDraw1
namespace Go.Proofs.Ytphaogkgnpalgaa
open Go.RowKit
set_option linter.unusedVariables false

set_option maxHeartbeats 2000000 in
theorem drawLines_any {v : Value} {xs : List Int} {w : World} (h : Sl .u8 w v xs) (hb : ∀ x ∈ xs, 0 ≤ x ∧ x ≤ 255) (hn : xs.length ≤ 1099511627776) :
    Calls Try.prog 21 #[v] w fun e w' => ∃ v' zs, e = .returned v' ∧ Own w.heap.size 3 .i64 w' v' zs ∧ zs.length ≤ 4000 ∧ Below w.heap.size w w' := by
  have HB : Hid (∀ x ∈ xs, 0 ≤ x ∧ x ≤ 255) := hb
  clear hb
  obtain ⟨i0, hi, hz0, hz1, hz2⟩ := info_parts Try.infoI
  go_enter Try.func21, Try.ntmps21
  go_wp2_with fail
  go_at_call 44
  refine (new_any h HB.out hn).mono ?_
  rintro e w1 ⟨rfl, k1, b1⟩
  have hlt := k1.lt
  have o1 := own_empty 3 .i64 w1
  have ba : Below w1.heap.size w1 (w1.alloc (.cells #[] 3)) := (Below.refl _ _).alloc (Nat.le_refl _) _
  have h1 := (h.below b1).below ba
  replace k1 := k1.below ba
  replace b1 := b1.trans (ba.mono b1.size)
  replace o1 := o1.base (B' := w.heap.size + 1) (by omega)
  clear ba hlt
  go_wp2_with fail
  go_at_call 46
  refine (size_any h1 hn 12 (by omega)).mono ?_
  rintro e w2 ⟨⟨m, rfl, m0, m1⟩, rfl⟩
  go_wp2_with fail
  go_at_call 45
  refine (below_any _ (by omega) k1 HB.out).mono ?_
  rintro e w3 ⟨n, rfl, n0, n1, n2, k3, g3⟩
  replace n1 := n1 (by omega)
  clear n2
  obtain ⟨n, rfl⟩ : ∃ k : Nat, n = k := ⟨n.toNat, by omega⟩
  have o3 := own_past o1 g3 (by omega)
  have b3 := b1.grown g3 b1.size (fun k hk => by cases hk; exact Nat.le_refl _)
  clear o1 b1 g3 k1 h1
  go_wp2
  go_loopw [4, 6] (fun u i wr => ∃ (k : Nat) (zs : List Int), k ≤ n ∧ i = .int .i64 k ∧ zs.length = k ∧ Own (w.heap.size + 1) 3 .i64 wr u zs ∧ Cur w w.heap.size v xs wr ∧ Below w.heap.size w wr) (fun _ i _ => n - (intOf i).toNat)
  case atStart => exact ⟨0, [], Nat.zero_le _, rfl, rfl, o3, k3, b3⟩
  case round =>
    clear o3 k3 b3
    obtain ⟨k, zs, hk, rfl, hzl, own, cur, bel⟩ := hrel
    have HZ : Hid (zs.length = k) := hzl
    have hzl2 : zs.length ≤ 13 := by omega
    clear hzl
    have hbs := bel.size
    have hcl := cur.lt
    by_cases hkn : k < n
    · go_wp2_with fail
      go_at_call 47
      have hown : Own wr.heap.size 3 .i64 (wr.alloc _) (.slice (some ⟨wr.heap.size, 0, none⟩) 5 5) [13, 10, 13, 65, 12] :=
        World.ownsRow_lit wr #[.int .i64 13, .int .i64 10, .int .i64 13, .int .i64 65, .int .i64 12] 5 (Nat.le_refl _) (by unfold maxLen; omega) rfl
      have bal : Below wr.heap.size wr (wr.alloc (.cells #[.int .i64 13, .int .i64 10, .int .i64 13, .int .i64 65, .int .i64 12] 3)) := (Below.refl _ _).alloc (Nat.le_refl _) _
      refine (pick_any (cur.below bal) HB.out hown.sl (by simp) (by simp) (fun w' hg => (own_past hown hg hcl).sl)).mono ?_
      rintro e w5 ⟨z, rfl, _, k5, g5⟩
      have o5 := own_past (own.below bal) g5 (by omega)
      have b5 := (bel.trans (bal.mono hbs)).grown g5 (by simp; omega) (fun k hk => by cases hk; exact Nat.le_refl _)
      have hbs5 := b5.size
      have hcl5 := k5.lt
      clear hown bal g5 own cur bel hbs hcl
      go_wp2_with (at_builtin; refine wpList_app _ rfl (.tmp 20) (.tmp 24) 25 rfl (w.heap.size + 1) 3 i0 (.int .i64 0) 8 Try.underlying25 hi hz0 hz1 hz2 rfl .i64 _ _ zs [z] rfl rfl (o5.alloc _) (sl_one _ _ _ _) (by simp; omega) (by unfold maxLen; simp; omega) (by simp; omega) ?_; intro v' w6 o6 g6)
      go_roundw
      case rel =>
        refine ⟨k + 1, zs ++ [z], by omega, by go_num, by simp [HZ.out], o6, ?_, ?_⟩
        · exact (k5.below ((Below.refl _ _).alloc (Nat.le_refl _) _)).kept g6 (fun e => by have := (o5.lt _ e).1; omega) (fun k hk => by have := (o5.lt k hk).1; omega)
        · exact (b5.alloc hbs5 _).grown g6 (by simp; omega) (fun k hk => by have := (o5.lt k hk).1; omega)
      case measure => simp [intOf]; omega
    · go_wp2_with fail
      go_at_call 48
      refine (once_any _ (by omega) cur HB.out).mono ?_
      rintro e w5 ⟨b, rfl, k5, g5⟩
      have o5 := own_past own g5 (by omega)
      have b5 := bel.grown g5 hbs (fun k hk => by cases hk; exact Nat.le_refl _)
      clear own cur bel g5
      cases b
      · go_wp2
        go_ret
        exact ⟨_, zs, rfl, o5.base (by omega), by omega, b5⟩
      · go_wp2_with fail
        go_at_call 45
        refine (below_any _ (by omega) k5 HB.out).mono ?_
        rintro e w6 ⟨q, rfl, q0, q1, q2, k6, g6⟩
        replace q1 := q1 (by omega)
        clear q2
        obtain ⟨q, rfl⟩ : ∃ k : Nat, q = k := ⟨q.toNat, by omega⟩
        have b6 := b5.grown g6 b5.size (fun k hk => by cases hk; exact Nat.le_refl _)
        clear o5 b5 k5 g6
        go_wp2_with (at_make; refine wpList_mkn _ rfl (.tmp 30) (.tmp 30) 25 rfl 3 i0 .i64 Try.underlying25 hi hz0 hz1 (3000 + q) (3000 + q) (3000 + q) rfl rfl (by omega) (by omega) (by rw [hz2]; omega) (by unfold maxLen; omega) ?_; intro w7 o7 b7)
        go_ret
        exact ⟨_, _, rfl, o7.base b6.size, by simp; omega, b6.trans (b7.mono b6.size)⟩
end Go.Proofs.Ytphaogkgnpalgaa
