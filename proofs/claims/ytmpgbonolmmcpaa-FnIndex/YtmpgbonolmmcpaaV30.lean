/- The program's RecordPack. No condition. -/
import Derived.Test.YtmpgbonolmmcpaaV29
namespace Go.Proofs.Ytmpgbonolmmcpaa
open Go.RowKit
set_option maxRecDepth 100000
set_option linter.unusedVariables false

theorem form_posR {x : Int} (h : 0 ≤ x) : 0 < (form x).length := by
  rw [form, if_neg (by omega)]
  by_cases h' : x < 128
  · rw [nf_lt h']; simp
  · rw [nf_ge (by omega)]; simp
theorem urlB_len {s : ByteArray} (h : urlB s = true) : s.size ≤ 60 := by
  unfold urlB at h
  simp only [Bool.and_eq_true] at h
  by_cases e : s.size ≤ 60
  · exact e
  · rw [inB_no (by omega)] at h; simp at h
theorem iconcat2 {W : World} {v1 v2 : Value} {x y : List Int} (s1 : Sl .u8 W v1 x) (s2 : Sl .u8 W v2 y) (h1 : x.length ≤ 9) (h2 : y.length ≤ 69) (h0 : 0 < x.length) :
    Calls Try.prog 51 #[.slice (some ⟨W.heap.size, 0, none⟩) 2 2] (W.alloc (.cells #[v1, v2] 22)) fun e w' => ∃ v', e = .returned v' ∧ Own W.heap.size 5 .u8 w' v' (x ++ y) ∧ Below W.heap.size W w' := by
  have b1 : Below W.heap.size W (W.alloc (.cells #[v1, v2] 22)) := (Below.refl _ _).alloc (Nat.le_refl _) _
  obtain ⟨c1, c2, _⟩ := rk_two (World.alloc_heap_new W (.cells #[v1, v2] 22))
  have hc := iconcat_any (w := W.alloc (.cells #[v1, v2] 22)) (b := W.heap.size) (ps := [(v1, x), (v2, y)]) (by simp) (fun k hk => by
    match k, hk with
    | 0, _ => exact ⟨c1, s1.below b1⟩
    | 1, _ => exact ⟨c2, s2.below b1⟩) (by simp) (fun p hp => by
      simp only [List.mem_cons, List.not_mem_nil, or_false] at hp
      rcases hp with rfl | rfl
      · exact Nat.le_trans h1 (by decide)
      · exact Nat.le_trans h2 (by decide)) (by show 0 < (x ++ (y ++ [])).length; rw [List.length_append]; omega)
  have e1 : catP [(v1, x), (v2, y)] = x ++ y := by simp [catP]
  rw [e1] at hc
  refine Calls.mono hc ?_
  rintro e w' ⟨v', rfl, o, b⟩
  exact ⟨v', rfl, o.base b1.size, b1.trans (b.mono b1.size)⟩

set_option maxHeartbeats 400000 in
set_option maxRecDepth 100000 in
theorem irecPack_any (r : PRec) (w : World) (hu : r.url.size ≤ 1099511627776) (hb : r.body.size ≤ 1099511627776) :
    Calls Try.prog 14 #[recV r] w fun e w' => ∃ v, e = .returned (.tuple #[v, .bool (packR r).2]) ∧ Own w.heap.size 5 .u8 w' v (packR r).1 ∧ Below w.heap.size w w' := by
  have CR := (show Hid (∀ W, Calls Try.prog 50 #[recV r] W fun e w' => e = .returned (.bool (recB r)) ∧ Below W.heap.size W w') from fun W => irecordOk_any r W hu)
  have HP := (show Hid (packR r = if recB r = true then (recL r, true) else ([], false)) from rfl)
  have HK := (show Hid (recB r = true → (r.kind = 1 ∨ r.kind = 2) ∧ urlB r.url = true ∧ (r.kind = 2 → r.body = emptyS)) from recB_kind)
  have HL := (show Hid (recL r = form r.kind ++ textForm r.url ++ (if r.kind = 1 then textForm r.body else [])) from rfl)
  obtain ⟨kd, ur, bo⟩ := r
  unfold recV at CR ⊢
  simp only at CR hu hb HK HL ⊢
  obtain ⟨w1, hw1⟩ : ∃ y, y = w.alloc (.cells #[.int .i64 kd, .string ur, .string bo] 25) := ⟨_, rfl⟩
  have h1 := (Hl.refl w).new #[.int .i64 kd, .string ur, .string bo] 25
  rw [← hw1] at h1
  have H1 := (show Hid _ from h1)
  clear h1
  cases hq : recB ⟨kd, ur, bo⟩
  · have HR : Hid (packR ⟨kd, ur, bo⟩ = ([], false)) := (show packR ⟨kd, ur, bo⟩ = ([], false) by rw [HP.out, if_neg (by rw [hq]; decide)])
    rw [hq] at CR
    clear hq
    go_enter Try.func14, Try.ntmps14
    go_wp2_with fail
    go_at_call 50
    rw [← hw1]
    refine Calls.mono (CR.out _) ?_
    rintro e w2 ⟨rfl, b2⟩
    have H2 := (show Hid _ from H1.out.below b2)
    clear hw1 b2
    go_wp2
    go_ret2
    refine ⟨_, by rw [HR.out]; rfl, ?_, H2.out.1⟩
    rw [HR.out]
    exact ⟨rfl, .inl ⟨rfl, rfl⟩⟩
  · have HR : Hid (packR ⟨kd, ur, bo⟩ = (recL ⟨kd, ur, bo⟩, true)) := (show packR ⟨kd, ur, bo⟩ = _ by rw [HP.out, if_pos hq])
    obtain ⟨k1, k2, k3⟩ := HK.out hq
    have hul := urlB_len k2
    have hk0 : 1 ≤ kd ∧ kd ≤ 2 := by omega
    rw [hq] at CR
    clear hq k2 k3 HK
    obtain ⟨i0, hi, hz0, hz1, hz2⟩ := info_parts Try.infoB
    have HS := (show Hid (∀ W, Below w1.heap.size w1 W → W.cell? ⟨w.heap.size, 0, none⟩ = some (.int .i64 kd) ∧ W.cell? ⟨w.heap.size, 1, none⟩ = some (.string ur) ∧ W.cell? ⟨w.heap.size, 2, none⟩ = some (.string bo)) from fun W b => by
      obtain ⟨p0, p1, p2, _⟩ := rk_three (H1.out.below b).at0
      exact ⟨p0, p1, p2⟩)
    have C1 := (show Hid (∀ W, Calls Try.prog 52 #[.int .i64 kd] W fun e w' => ∃ v, e = .returned v ∧ Own W.heap.size 5 .u8 w' v (form kd) ∧ Below W.heap.size W w') from fun W => inum_any kd W (by omega))
    have C2 := (show Hid (∀ W, Calls Try.prog 53 #[.string ur] W fun e w' => ∃ v, e = .returned v ∧ Own W.heap.size 5 .u8 w' v (textForm ur) ∧ Below W.heap.size W w') from fun W => iputText_any ur W hu)
    have C3 := (show Hid (∀ W, Calls Try.prog 53 #[.string bo] W fun e w' => ∃ v, e = .returned v ∧ Own W.heap.size 5 .u8 w' v (textForm bo) ∧ Below W.heap.size W w') from fun W => iputText_any bo W hb)
    have L1 := (show Hid ((form kd).length ≤ 9 ∧ (textForm ur).length ≤ 69 ∧ 0 < (form kd).length ∧ (textForm bo).length ≤ 9 + bo.size ∧ (form kd ++ textForm ur).length ≤ 78) from ⟨form_len _, by have := textForm_len ur; omega, form_posR (by omega), textForm_len _, by have := textForm_len ur; have := form_len kd; rw [List.length_append]; omega⟩)
    go_enter Try.func14, Try.ntmps14
    go_wp2_with (go_at_call 50
                 rw [← hw1]
                 refine Calls.mono (CR.out _) ?_
                 rintro e w2 ⟨rfl, b2⟩
                 have B2 := (show Hid (Below w1.heap.size w1 w2) from b2)
                 have KD := (show Hid (Below w1.heap.size w1 w2.drew) from b2.trans (below_drewN 1))
                 clear hw1 b2
                 obtain ⟨d1, d2, d3⟩ := HS.out _ B2.out)
    go_region_held3 (fun w' => w'.cell? ⟨w.heap.size, 0, none⟩ = some (.int .i64 kd) ∧ w'.cell? ⟨w.heap.size, 1, none⟩ = some (.string ur) ∧ w'.cell? ⟨w.heap.size, 2, none⟩ = some (.string bo))
      (first | exact HS.out _ KD.out | exact HS.out _ B3.out | exact HS.out _ B4.out | exact HS.out _ (B4.out.alloc B4.out.size _) | exact HS.out _ B5.out)
      (first
        | (go_at_call 52
           with_reducible refine Calls.mono (C1.out _) ?_
           rintro e w3 ⟨v3, rfl, o3, b3⟩
           obtain ⟨a3, c3, e3, _⟩ := o3.sl
           subst e3
           have B3 := (show Hid (Below w1.heap.size w1 w3) from KD.out.trans (b3.mono KD.out.size))
           have O3 := (show Hid (Own w1.heap.size 5 .u8 w3 (.slice a3 (form kd).length c3) (form kd)) from o3.base KD.out.size)
           clear b3 o3)
        | (go_at_call 53
           with_reducible refine Calls.mono (C2.out _) ?_
           rintro e w4 ⟨v4, rfl, o4, b4⟩
           obtain ⟨a4, c4, e4, _⟩ := o4.sl
           subst e4
           have B4 := (show Hid (Below w1.heap.size w1 w4) from B3.out.trans (b4.mono B3.out.size))
           have O34 := (show Hid (Own w1.heap.size 5 .u8 w4 (.slice a3 (form kd).length c3) (form kd)) from O3.out.below b4)
           have O4 := (show Hid (Own w3.heap.size 5 .u8 w4 (.slice a4 (textForm ur).length c4) (textForm ur)) from o4)
           clear b4 o4)
        | (go_at_call 51
           with_reducible refine Calls.mono (iconcat2 O34.out.sl O4.out.sl L1.out.1 L1.out.2.1 L1.out.2.2.1) ?_
           rintro e w5 ⟨v5, rfl, o5, b5⟩
           have B5 := (show Hid (Below w1.heap.size w1 w5) from B4.out.trans (b5.mono B4.out.size))
           have O5 := (show Hid (Own w1.heap.size 5 .u8 w5 v5 (form kd ++ textForm ur)) from o5.base B4.out.size)
           clear b5 o5))
    obtain ⟨d1, d2, d3⟩ := HS.out _ B5.out
    have S1 := (show Hid (w.heap.size ≤ w1.heap.size) from H1.out.1.size)
    by_cases hk : kd = 1
    · subst hk
      go_wp2_with (first
        | (go_at_call 53
           with_reducible refine Calls.mono (C3.out _) ?_
           rintro e w6 ⟨v6, rfl, o6, b6⟩
           have B6 := (show Hid (Below w1.heap.size w1 w6) from B5.out.trans (b6.mono B5.out.size))
           have O56 := (show Hid (Own w1.heap.size 5 .u8 w6 v5 (form 1 ++ textForm ur)) from O5.out.below b6)
           have O6 := (show Hid (Own w5.heap.size 5 .u8 w6 v6 (textForm bo)) from o6)
           clear b6 o6)
        | (at_builtin
           refine wpList_app _ rfl _ _ 22 rfl w1.heap.size 5 i0 (.int .u8 0) 1 Try.underlying22 hi hz0 hz1 hz2 rfl .u8 v5 v6 (form 1 ++ textForm ur) (textForm bo) rfl rfl O56.out O6.out.sl (by have := L1.out; omega) (by have := L1.out; unfold maxLen; omega) B6.out.size ?_
           intro v7 w7 o7 g7
           have B7 := (show Hid (Below w1.heap.size w1 w7) from B6.out.grown g7 B6.out.size (fun r e => (World.ownsRow.lt O56.out r e).1))
           have O7 := (show Hid (Own w1.heap.size 5 .u8 w7 v7 (form 1 ++ textForm ur ++ textForm bo)) from o7)
           clear o7 g7))
      go_ret2
      refine ⟨_, by rw [HR.out]; rfl, ?_, H1.out.1.trans (B7.out.mono S1.out)⟩
      rw [HR.out, HL.out, if_pos trivial]
      exact O7.out.base S1.out
    · have hkn : (kd == 1) = false := by simp [hk]
      have HN := (show Hid (¬ kd = 1) from hk)
      go_wp2
      go_ret2
      refine ⟨_, by rw [HR.out]; rfl, ?_, H1.out.1.trans (B5.out.mono S1.out)⟩
      rw [HR.out, HL.out, if_neg HN.out, List.append_nil]
      exact O5.out.base S1.out
end Go.Proofs.Ytmpgbonolmmcpaa
