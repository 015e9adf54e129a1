/- The law FnLower, walked: at every code of bytes it returns true and writes nothing that was there. -/
import Derived.Test.YtkopehfdijecoaaDrawS
import Derived.Test.YtkopehfdijecoaaLower
import Derived.Test.YtkopehfdijecoaaSName
import Derived.Test.YtkopehfdijecoaaRegB
namespace Go.Proofs.Ytkopehfdijecoaa
open Go.RowKit
set_option linter.unusedVariables false

theorem lowerOf_twice (x : Int) : lowerOf (lowerOf x) = lowerOf x := by
  unfold lowerOf
  by_cases h : 65 ≤ x ∧ x ≤ 90
  · rw [inB_yes h.1 h.2, if_pos rfl, inB_no (by omega)]; rfl
  · have hn := inB_no (x := x) (lo := 65) (hi := 90) (by omega)
    have e : (if inB x 65 90 then x + 32 else x) = x := by rw [hn]; rfl
    rw [e, e]
theorem lower_up {x : Int} (h : 65 ≤ x ∧ x ≤ 90) : lowerOf x = x + 32 ∧ isBlank x = false ∧ (lowerOf x != x) = true := by
  have hz : lowerOf x = x + 32 := by unfold lowerOf; rw [inB_yes h.1 h.2]; rfl
  refine ⟨hz, ?_, by rw [hz]; simp; omega⟩
  rcases hb : isBlank x with _ | _
  · rfl
  · unfold isBlank at hb
    simp at hb
    omega
theorem lower_else {x : Int} (h : ¬ (65 ≤ x ∧ x ≤ 90)) : lowerOf x = x := by
  have hn := inB_no (x := x) (lo := 65) (hi := 90) (by omega)
  unfold lowerOf; rw [hn]; rfl
theorem low_twice (xs : List Int) : (xs.map lowerOf).map lowerOf = xs.map lowerOf := by
  rw [List.map_map]; exact List.map_congr_left (fun x _ => lowerOf_twice x)
/-- A name that is right is lowered. -/
theorem low_name {xs : List Int} (h : nameOk xs = true) : xs.map lowerOf = xs ∧ xs.length ≤ 60 := by
  unfold nameOk at h
  simp only [Bool.and_eq_true, Bool.not_eq_true'] at h
  obtain ⟨⟨⟨h1, _⟩, _⟩, h4⟩ := h
  have hl : xs.length ≤ 60 := by
    unfold inB at h1
    simp at h1
    omega
  refine ⟨?_, hl⟩
  conv => rhs; rw [← List.map_id xs]
  apply List.map_congr_left
  intro x hx
  have hb : badB x = false := by
    rcases h : badB x with _ | _
    · rfl
    · rw [List.any_eq_true.mpr ⟨x, hx, h⟩] at h4; cases h4
  unfold badB at hb
  simp only [Bool.or_eq_false_iff] at hb
  unfold lowerOf
  rw [hb.1.2]; rfl
theorem low_at {xs : List Int} {k : Nat} (h : k < xs.length) : (xs.map lowerOf).getD k 0 = lowerOf (xs.getD k 0) := by
  simp [List.getD_eq_getElem?_getD, h]

set_option maxHeartbeats 4000000 in
set_option maxRecDepth 100000 in
theorem fnLower_walk {v : Value} {xs : List Int} (w : World) (h : Sl .u8 w v xs) (hwf : ∀ n ∈ xs, (Lit.int .u8 n).wf = true) :
    Calls Try.prog 3 #[v] w fun e w' => e = .returned (.bool true) ∧ Below w.heap.size w w' := by
  have HB : Hid (∀ x ∈ xs, 0 ≤ x ∧ x ≤ 255) := byte_ok hwf
  clear hwf
  have hbig := big_any h
  by_cases hl : 1048576 < xs.length
  · rw [decide_eq_true hl] at hbig
    go_enter Try.func3, Try.ntmps3
    go_wp2_with fail
    go_at_call 10
    refine hbig.mono ?_
    rintro e w1 ⟨rfl, rfl⟩
    go_wp2
    go_ret
    exact ⟨rfl, Below.refl _ _⟩
  · rw [decide_eq_false hl] at hbig
    go_enter Try.func3, Try.ntmps3
    go_wp2_with fail
    go_at_call 10
    refine hbig.mono ?_
    rintro e w1 ⟨rfl, rfl⟩
    clear hbig
    go_wp2_with fail
    go_at_call 11
    refine (drawLowerText_any h HB.out (by omega)).mono ?_
    rintro e w2 ⟨s, rfl, hs, b2⟩
    go_wp2_with fail
    go_at_call 12
    have h1 := fun w => ilowerText_any s w (by omega)
    have h2 := fun w => slowerText_any s w (by omega)
    have hlen : (strOf ((bs s).map lowerOf)).size = s.size := by rw [strOf_size, List.length_map, bs_len]
    have hbl : bs (strOf ((bs s).map lowerOf)) = (bs s).map lowerOf := bs_strOf (low_byte (bs_byte s))
    obtain ⟨t, ht⟩ : ∃ t, t = strOf ((bs s).map lowerOf) := ⟨_, rfl⟩
    rw [← ht] at h1 h2 hlen hbl
    have h3 := fun w => ilowerText_any t w (by omega)
    rw [hbl, low_twice, ← ht] at h3
    clear ht
    have HBL : Hid (bs t = (bs s).map lowerOf) := hbl
    clear hbl
    refine (h1 _).mono ?_
    rintro e w3 ⟨rfl, b3⟩
    replace b3 := b2.trans (b3.mono b2.size)
    clear b2 h1
    go_wp2_with fail
    go_at_call 13
    refine (h2 _).mono ?_
    rintro e w4 ⟨rfl, b4⟩
    replace b4 := b3.trans (b4.mono b3.size)
    clear b3 h2
    go_wp2_with fail
    go_at_call 12
    refine (h3 _).mono ?_
    rintro e w5 ⟨rfl, b5⟩
    replace b5 := b4.trans (b5.mono b4.size)
    clear b4 h3
    go_wp2
    go_loopw [5] (fun i wr => ∃ k : Nat, k ≤ s.size ∧ i = .int .i64 k ∧ Below w1.heap.size w1 wr) (fun i _ => s.size - (intOf i).toNat)
    case atStart => exact ⟨0, Nat.zero_le _, rfl, b5⟩
    case round =>
      clear b5
      obtain ⟨k, hks, rfl, bel⟩ := hrel
      by_cases hlt : k < s.size
      · have hkt : k < t.size := by omega
        have hat := bs_at s k hlt
        have hat2 := bs_at t k hkt
        have hbk := bs_bound s k
        rw [HBL.out, low_at (by rw [bs_len]; exact hlt)] at hat2
        obtain ⟨x, hx⟩ : ∃ x, x = (bs s).getD k 0 := ⟨_, rfl⟩
        rw [← hx] at hat hat2 hbk
        clear hx
        have hwx : IntKind.i64.wrap x = x := wrap_byte hbk.1 hbk.2
        have hlb := lowerOf_byte hbk.1 hbk.2
        have hwz : IntKind.i64.wrap (lowerOf x) = lowerOf x := wrap_byte hlb.1 hlb.2
        have c1 := fun w => ilower_any x w
        have c2 := fun w => ialpha_any x w
        have c3 := fun w => iblank_any x w
        by_cases hu : 65 ≤ x ∧ x ≤ 90
        · obtain ⟨hz, hbf, hne⟩ := lower_up hu
          rw [inB_yes hu.1 hu.2] at c2
          rw [hbf] at c3
          obtain ⟨z, ez⟩ : ∃ z, z = lowerOf x := ⟨_, rfl⟩
          rw [← ez] at hat2 hlb hwz c1 hne
          clear ez hz hbf
          have C1 := (show Hid _ from c1)
          have C2 := (show Hid _ from c2)
          have C3 := (show Hid _ from c3)
          clear c1 c2 c3
          go_wp2
          have ne := Wd.any w1.heap.size w1
          refine wp_region_below (by kernel_rfl) (by kernel_rfl) bel ?_
          repeat (go_big_quiet_step ((first
            | (go_at_call 14; exact quiet_below (C1.out _) (Nat.le_refl _))
            | (go_at_call 15; exact quiet_below (C2.out _) (Nat.le_refl _))
            | (go_at_call 16; exact quiet_below (C3.out _) (Nat.le_refl _)))))
          refine wpQuiet_nil ?_
          intro wq hq
          replace hq := Wd.of hq
          go_wp2
          go_roundw
          case rel => exact ⟨k + 1, by omega, by go_num, hq⟩
          case measure => simp [intOf]; omega
        · have hz := lower_else hu
          rw [hz] at hat2 c1
          clear hz hlb hwz c2 hu
          have C1 := (show Hid _ from c1)
          clear c1
          have ne := Wd.any w1.heap.size w1
          rcases hb : isBlank x with _ | _
          all_goals
            rw [hb] at c3
            have C3 := (show Hid _ from c3)
            clear c3 hb
            go_wp2
            refine wp_region_below (by kernel_rfl) (by kernel_rfl) bel ?_
            repeat (go_big_quiet_step ((first
              | (go_at_call 14; exact quiet_below (C1.out _) (Nat.le_refl _))
              | (go_at_call 16; exact quiet_below (C3.out _) (Nat.le_refl _)))))
            refine wpQuiet_nil ?_
            intro wq hq
            replace hq := Wd.of hq
            go_wp2
            go_roundw
            case rel => exact ⟨k + 1, by omega, by go_num, hq⟩
            case measure => simp [intOf]; omega
      · clear HBL
        have h' := h.below bel
        go_wp2_with fail
        go_at_call 17
        refine (drawNameOk_any h' HB.out (by omega)).mono ?_
        rintro e w6 ⟨nm, rfl, hnm, b6⟩
        replace b6 := bel.trans (b6.mono bel.size)
        have q1 := fun w => inameOk_any nm w (by omega)
        have q2 := fun w => snameOk_any nm w (by omega)
        have q3 := fun w => ilowerText_any nm w (by omega)
        have hln : nameOk (bs nm) = true → strOf ((bs nm).map lowerOf) = nm ∧ nm.size ≤ 60 := fun hp => by
          have hq := low_name hp
          rw [bs_len] at hq
          exact ⟨by rw [hq.1, strOf_bs], hq.2⟩
        obtain ⟨p, hp⟩ : ∃ p, p = nameOk (bs nm) := ⟨_, rfl⟩
        rw [← hp] at q1 q2 hln
        clear hp h' bel
        cases p
        · clear hln q3
          go_wp2_with fail
          go_at_call 18
          refine (q1 _).mono ?_
          rintro e w7 ⟨rfl, b7⟩
          replace b7 := b6.trans (b7.mono b6.size)
          go_wp2_with fail
          go_at_call 19
          refine (q2 _).mono ?_
          rintro e w8 ⟨rfl, b8⟩
          replace b8 := b7.trans (b8.mono b7.size)
          go_wp2
          go_ret
          exact ⟨rfl, b8⟩
        · obtain ⟨e3, hn60⟩ := hln rfl
          rw [e3] at q3
          clear hln e3
          go_wp2_with fail
          go_at_call 18
          refine (q1 _).mono ?_
          rintro e w7 ⟨rfl, b7⟩
          replace b7 := b6.trans (b7.mono b6.size)
          go_wp2_with fail
          go_at_call 19
          refine (q2 _).mono ?_
          rintro e w8 ⟨rfl, b8⟩
          replace b8 := b7.trans (b8.mono b7.size)
          go_wp2_with fail
          go_at_call 12
          refine (q3 _).mono ?_
          rintro e w9 ⟨rfl, b9⟩
          replace b9 := b8.trans (b9.mono b8.size)
          go_wp2
          go_ret
          exact ⟨ret_bool (by first | rfl | (simp; omega)), b9⟩
end Go.Proofs.Ytkopehfdijecoaa
