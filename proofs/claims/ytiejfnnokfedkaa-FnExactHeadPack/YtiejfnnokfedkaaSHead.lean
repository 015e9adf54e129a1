/- The specification's heads: l16Right, HeadPack. No condition. -/
import Derived.Test.YtiejfnnokfedkaaHeadM
import Derived.Test.YtiejfnnokfedkaaIPutNum
import Derived.Test.YtiejfnnokfedkaaAppS
import Derived.Deep.RegionHeld3
namespace Go.Proofs.Ytiejfnnokfedkaa
open Go.RowKit
set_option maxRecDepth 100000
set_option linter.unusedVariables false

theorem rk_three {w : World} {b : Nat} {u v y : Value} {t : TypeId} (h : w.heap[b]? = some (.cells #[u, v, y] t (0, 0))) : w.cell? ⟨b, 0, none⟩ = some u ∧ w.cell? ⟨b, 1, none⟩ = some v ∧ w.cell? ⟨b, 2, none⟩ = some y ∧ w.frozen? ⟨b, 0, none⟩ = false ∧ w.frozen? ⟨b, 1, none⟩ = false ∧ w.frozen? ⟨b, 2, none⟩ = false :=
  ⟨by simp only [World.cell?, h]; rfl, by simp only [World.cell?, h]; rfl, by simp only [World.cell?, h]; rfl, by simp only [World.frozen?, h]; rfl, by simp only [World.frozen?, h]; rfl, by simp only [World.frozen?, h]; rfl⟩

set_option maxRecDepth 100000 in
theorem sl16Right_any (h : PHead) (w : World) : Calls Try.prog 25 #[headV h] w fun e w' => e = .returned (.bool (headB h)) ∧ Below w.heap.size w w' := by
  obtain ⟨no, ar, en⟩ := h
  unfold headV headB
  simp only
  have b1 : Below w.heap.size w (w.alloc (.cells #[.int .i64 no, .int .i64 ar, .int .i64 en] 26)) := (Below.refl _ _).alloc (Nat.le_refl _) _
  have B1 := (show Hid _ from b1)
  clear b1
  have C1 := l1In_any no 1 1000000000
  have C2 := l1In_any ar 0 1
  have C3 := l1In_any en 0 4096
  obtain ⟨p, hp⟩ : ∃ p, p = inB no 1 1000000000 := ⟨_, rfl⟩
  obtain ⟨q, hq⟩ : ∃ q, q = inB ar 0 1 := ⟨_, rfl⟩
  obtain ⟨r, hr⟩ : ∃ r, r = inB en 0 4096 := ⟨_, rfl⟩
  rw [← hp] at C1 ⊢
  rw [← hq] at C2 ⊢
  rw [← hr] at C3 ⊢
  have D1 := (show Hid _ from C1)
  have D2 := (show Hid _ from C2)
  have D3 := (show Hid _ from C3)
  clear hp hq hr C1 C2 C3
  go_enter Try.func25, Try.ntmps25
  go_wp2_with fail
  go_at_call 46
  refine (D1.out _).mono ?_
  rintro e w1 ⟨rfl, e1⟩
  subst e1
  cases p
  · go_wp2
    go_ret
    exact ⟨rfl, B1.out⟩
  · go_wp2_with fail
    go_at_call 46
    refine (D2.out _).mono ?_
    rintro e w2 ⟨rfl, e2⟩
    subst e2
    cases q
    · go_wp2
      go_ret
      exact ⟨rfl, B1.out⟩
    · go_wp2_with fail
      go_at_call 46
      refine (D3.out _).mono ?_
      rintro e w3 ⟨rfl, e3⟩
      subst e3
      cases r
      · go_wp2
        go_ret
        exact ⟨rfl, B1.out⟩
      · go_wp2
        go_ret
        exact ⟨rfl, B1.out⟩

theorem zeros_len {h : PHead} {n : Nat} : (formsL h ++ List.replicate n (0 : Int)).length = (formsL h).length + n := by simp

set_option maxHeartbeats 1000000 in
set_option maxRecDepth 100000 in
theorem sheadPack_any (h : PHead) (w : World) : Calls Try.prog 7 #[headV h] w fun e w' => e = .returned (.tuple #[.string (packDk h).1, .bool (packDk h).2]) ∧ Below w.heap.size w w' := by
  have CR := (show Hid _ from sl16Right_any h)
  obtain ⟨i0, hi, hz0, hz1, hz2⟩ := info_parts Try.infoB
  obtain ⟨w1, hw1⟩ : ∃ y, y = w.alloc (.cells #[.int .i64 h.no, .int .i64 h.area, .int .i64 h.en] 26) := ⟨_, rfl⟩
  have b1 : Below w.heap.size w w1 := by rw [hw1]; exact (Below.refl _ _).alloc (Nat.le_refl _) _
  have x1 : w1.heap[w.heap.size]? = some (.cells #[.int .i64 h.no, .int .i64 h.area, .int .i64 h.en] 26 (0, 0)) := by rw [hw1]; exact World.alloc_heap_new _ _
  have B1 := (show Hid (Below w.heap.size w w1) from b1)
  have X1 := (show Hid _ from x1)
  clear b1 x1
  show Calls Try.prog 7 #[.agg #[.int .i64 h.no, .int .i64 h.area, .int .i64 h.en]] w _
  go_enter Try.func7, Try.ntmps7
  go_wp2_with fail
  go_at_call 25
  rw [← hw1]
  refine Calls.mono (CR.out w1) ?_
  rintro e w2 ⟨rfl, b2⟩
  clear hw1 CR
  have B2 := (show Hid (Below w.heap.size w w2) from B1.out.trans (b2.mono B1.out.size))
  have x2 := (b2.block _ (lt_of_block X1.out)).trans X1.out
  have X2 := (show Hid _ from x2)
  obtain ⟨c0, c1, c2, _⟩ := rk_three x2
  clear b2 x2 X1 B1
  cases hb : headB h
  · have HR : Hid (packDk h = (⟨#[]⟩, false)) := (show packDk h = (⟨#[]⟩, false) by rw [packDk, if_neg (by rw [hb]; simp)])
    clear hb
    go_wp2
    go_ret2
    exact ⟨by rw [HR.out]; rfl, B2.out⟩
  · have hin := headB_in hb
    have HR : Hid (packDk h = (packS h, true)) := (show packDk h = (packS h, true) by rw [packDk, if_pos hb])
    have hl27 := formsL_len h
    clear hb
    obtain ⟨F, hF⟩ : ∃ F : World → Prop, F = fun W => Below w2.heap.size w2 W := ⟨_, rfl⟩
    have HS := (show Hid (∀ W, Below w2.heap.size w2 W → W.cell? ⟨w.heap.size, 0, none⟩ = some (.int .i64 h.no) ∧ W.cell? ⟨w.heap.size, 1, none⟩ = some (.int .i64 h.area) ∧ W.cell? ⟨w.heap.size, 2, none⟩ = some (.int .i64 h.en)) from fun W b => by
      obtain ⟨p0, p1, p2, _⟩ := rk_three ((b.block _ (lt_of_block X2.out)).trans X2.out)
      exact ⟨p0, p1, p2⟩)
    have KD := (show Hid (Below w2.heap.size w2 w2.drew) from below_drewN 1)
    have C1 := (show Hid (∀ W, Calls Try.prog 26 #[.int .i64 h.no] W fun e w' => ∃ v, e = .returned v ∧ Own W.heap.size 5 .u8 w' v (form h.no) ∧ Below W.heap.size W w') from fun W => snum_any h.no W (by omega))
    have C2 := (show Hid (∀ W, Calls Try.prog 26 #[.int .i64 h.area] W fun e w' => ∃ v, e = .returned v ∧ Own W.heap.size 5 .u8 w' v (form h.area) ∧ Below W.heap.size W w') from fun W => snum_any h.area W (by omega))
    have C3 := (show Hid (∀ W, Calls Try.prog 26 #[.int .i64 h.en] W fun e w' => ∃ v, e = .returned v ∧ Own W.heap.size 5 .u8 w' v (form h.en) ∧ Below W.heap.size W w') from fun W => snum_any h.en W (by omega))
    clear hF F
    go_wp2
    go_region_held3 (fun w' => w'.cell? ⟨w.heap.size, 0, none⟩ = some (.int .i64 h.no) ∧ w'.cell? ⟨w.heap.size, 1, none⟩ = some (.int .i64 h.area) ∧ w'.cell? ⟨w.heap.size, 2, none⟩ = some (.int .i64 h.en))
      (first | exact HS.out _ KD.out | exact HS.out _ B3.out | exact HS.out _ B4.out | exact HS.out _ B5.out)
      (first
        | (go_at_call 26
           with_reducible refine Calls.mono (C1.out _) ?_
           rintro e w3 ⟨v3, rfl, o3, b3⟩
           have B3 := (show Hid (Below w2.heap.size w2 w3) from KD.out.trans (b3.mono KD.out.size))
           have O3 := (show Hid (Own w2.heap.size 5 .u8 w3 v3 (form h.no)) from o3.base KD.out.size)
           clear b3 o3)
        | (go_at_call 26
           with_reducible refine Calls.mono (C2.out _) ?_
           rintro e w4 ⟨v4, rfl, o4, b4⟩
           have B4 := (show Hid (Below w2.heap.size w2 w4) from B3.out.trans (b4.mono B3.out.size))
           have O34 := (show Hid (Own w2.heap.size 5 .u8 w4 v3 (form h.no)) from O3.out.below b4)
           have O4 := (show Hid (Own w3.heap.size 5 .u8 w4 v4 (form h.area)) from o4)
           clear b4 o4)
        | (refine step_appS rfl _ _ 43 rfl w2.heap.size 5 i0 (.int .u8 0) 1 1 Try.underlying43 hi hz0 hz1 hz2 rfl (by decide) v3 (form h.no).length ((form h.no).map (Value.int .u8)) rfl O34.out v4 (form h.area).length ((form h.area).map (Value.int .u8)) rfl (sv_of_own O4.out) (by simp) (by intro u hu; obtain ⟨y, _, rfl⟩ := List.mem_map.mp hu; rfl) (by have := form_len h.no; have := form_len h.area; unfold maxLen; omega) (by have := form_len h.no; have := form_len h.area; omega) B4.out.size ?_
           intro v5 w5 o5 g5
           have B5 := (show Hid (Below w2.heap.size w2 w5) from B4.out.grown g5 B4.out.size (fun r e => (World.ownsRow.lt O34.out r e).1))
           have O5 := (show Hid (Own w2.heap.size 5 .u8 w5 v5 (form h.no ++ form h.area)) from by show World.ownsRow _ _ _ _ _ _ _; rw [List.length_append, List.map_append]; exact o5)
           clear o5 g5))
    obtain ⟨c0, c1, c2⟩ := HS.out _ B5.out
    clear C1 C2 O34 O4 B3 B4
    have hs2 := B2.out.size
    go_wp2_with (first
      | (go_at_call 26
         with_reducible refine Calls.mono (C3.out _) ?_
         rintro e w6 ⟨v6, rfl, o6, b6⟩
         have B6 := (show Hid (Below w2.heap.size w2 w6) from B5.out.trans (b6.mono B5.out.size))
         have O56 := (show Hid (Own w2.heap.size 5 .u8 w6 v5 (form h.no ++ form h.area)) from O5.out.below b6)
         have O6 := (show Hid (Own w5.heap.size 5 .u8 w6 v6 (form h.en)) from o6)
         clear b6 o6)
      | (at_builtin
         refine wpList_app _ rfl _ _ 43 rfl w2.heap.size 5 i0 (.int .u8 0) 1 Try.underlying43 hi hz0 hz1 hz2 rfl .u8 v5 v6 (form h.no ++ form h.area) (form h.en) rfl rfl O56.out O6.out.sl (by have := form_len h.no; have := form_len h.area; have := form_len h.en; rw [List.length_append]; omega) (by have := form_len h.no; have := form_len h.area; have := form_len h.en; unfold maxLen; rw [List.length_append]; omega) B6.out.size ?_
         intro v7 w7 o7 g7
         have B7 := (show Hid (Below w2.heap.size w2 w7) from B6.out.grown g7 B6.out.size (fun r e => (World.ownsRow.lt O56.out r e).1))
         have O7 := (show Hid (Own w2.heap.size 5 .u8 w7 v7 (formsL h)) from o7)
         clear o7 g7))
    go_loopw [4] (fun z wr => ∃ n : Nat, n ≤ 64 - (formsL h).length ∧ Own w2.heap.size 5 .u8 wr z (formsL h ++ List.replicate n 0) ∧ Below w2.heap.size w2 wr) (fun z _ => match z with | .slice _ n _ => 64 - n | _ => 0)
    case atStart => exact ⟨0, Nat.zero_le _, by simpa using O7.out, B7.out⟩
    case round =>
      clear O7 B7 O56 O6 B6 O5 B5 C3 O3
      obtain ⟨n, hn, ho, bel⟩ := hrel
      obtain ⟨a, cap, rfl, _⟩ := ho.sl
      have hlen : (formsL h ++ List.replicate n (0 : Int)).length = (formsL h).length + n := zeros_len
      rw [hlen] at ho ⊢
      have HO := (show Hid (Own w2.heap.size 5 .u8 wr (.slice a ((formsL h).length + n) cap) (formsL h ++ List.replicate n 0)) from ho)
      clear ho
      by_cases hlt : (formsL h).length + n < 64
      · have hltI : ((formsL h).length : Int) + (n : Int) < 64 := by omega
        have hap : formsL h ++ List.replicate n (0 : Int) ++ [0] = formsL h ++ List.replicate (n + 1) 0 := by rw [List.append_assoc, List.replicate_succ']
        have q1 : ((formsL h ++ List.replicate n (0 : Int)).length + ([0] : List Int).length) * 1 ≤ 140737488355328 := by rw [hlen, List.length_singleton]; omega
        have q2 : (formsL h ++ List.replicate n (0 : Int)).length + ([0] : List Int).length ≤ maxLen := by rw [hlen, List.length_singleton]; unfold maxLen; omega
        have q3 : w2.heap.size ≤ (wr.alloc (.cells #[.int .u8 0] 5)).heap.size := by rw [World.size_alloc]; have := bel.size; omega
        have qo : Own w2.heap.size 5 .u8 (wr.alloc (.cells #[.int .u8 0] 5)) (.slice a ((formsL h).length + n) cap) (formsL h ++ List.replicate n 0) := HO.out.below ((Below.refl _ _).alloc (Nat.le_refl _) _)
        have Q := (show Hid (_ ∧ _ ∧ _ ∧ _) from ⟨q1, q2, q3, qo⟩)
        clear q1 q2 q3 qo
        go_wp2_with (at_builtin
                     refine wpList_app _ rfl _ _ 43 rfl w2.heap.size 5 i0 (.int .u8 0) 1 Try.underlying43 hi hz0 hz1 hz2 rfl .u8 (.slice a ((formsL h).length + n) cap) _ (formsL h ++ List.replicate n 0) [0] rfl rfl Q.out.2.2.2 (sl_one 5 .u8 wr 0) Q.out.1 Q.out.2.1 Q.out.2.2.1 ?_
                     intro v8 w8 o8 g8
                     have B8 := (show Hid (Below w2.heap.size w2 w8) from (bel.alloc bel.size _).grown g8 (bel.alloc bel.size _).size (fun r e => (World.ownsRow.lt Q.out.2.2.2 r e).1))
                     rw [hap] at o8
                     obtain ⟨a8, c8, rfl, _⟩ := o8.sl
                     rw [zeros_len] at o8
                     have O8 := (show Hid (Own w2.heap.size 5 .u8 w8 (.slice a8 ((formsL h).length + (n + 1)) c8) (formsL h ++ List.replicate (n + 1) 0)) from o8)
                     rw [zeros_len]
                     clear o8 g8)
        go_roundw
        case rel => exact ⟨n + 1, by omega, O8.out, B8.out⟩
        case measure => show 64 - ((formsL h).length + (n + 1)) < 64 - ((formsL h).length + n); omega
      · obtain rfl : n = 64 - (formsL h).length := by omega
        have hltI : ¬ ((formsL h).length : Int) + ((64 - (formsL h).length : Nat) : Int) < 64 := by omega
        have hcv := conv_sl HO.out.sl
        have hst : strOf (formsL h ++ List.replicate (64 - (formsL h).length) 0) = packS h := rfl
        rw [hst] at hcv
        obtain ⟨q, hq⟩ : ∃ q, q = packS h := ⟨_, rfl⟩
        rw [← hq] at hcv HR
        have B9 := (show Hid (Below w.heap.size w wr) from B2.out.trans (bel.mono B2.out.size))
        clear hq hst
        go_wp2
        go_ret2
        exact ⟨by rw [HR.out]; rfl, B9.out⟩
end Go.Proofs.Ytiejfnnokfedkaa
