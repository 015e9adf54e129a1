/- slices.Grow and slices.Concat of three. No condition. -/
import Derived.Test.YtmpgbonolmmcpaaU17
import Derived.Test.YtmpgbonolmmcpaaU14
import Derived.Test.YtmpgbonolmmcpaaU10
namespace Go.Proofs.Ytmpgbonolmmcpaa
open Go.RowKit
set_option maxRecDepth 100000
set_option linter.unusedVariables false

set_option maxRecDepth 100000 in
theorem igrow_any (n : Nat) (w : World) (h0 : 0 < n) (h1 : n ≤ 1000) :
    Calls Try.prog 78 #[.slice none 0 0, .int .i64 (n : Int)] w fun e w' => ∃ v', e = .returned v' ∧ Own w.heap.size 5 .u8 w' v' [] ∧ Below w.heap.size w w' := by
  obtain ⟨i0, hi, hz0, hz1, hz2⟩ := info_parts Try.infoB
  have hb5 : Try.t5.bytes = 1 := rfl
  have hp : ¬ ((n : Int) < 0) := by omega
  have hq : (0 : Int) < (n : Int) := by omega
  go_enter Try.func78, Try.ntmps78
  go_wp2_with fail
  · exfalso; have hn := nextslicecap_zero h0; rename_i h _ _ _; simp only [hb5, hn] at *; omega
  · go_ret
    have hge := grownCap_ge w n 0 5
    have hm := grownCap_le_maxLen w n 0 5 (by unfold maxLen; omega)
    have o1 := World.ownsRow_made (e := 5) (size := 1) w (Builtin.zeroCells #[Value.int IntKind.u8 0] n ++ Builtin.zeroCells #[Value.int IntKind.u8 0] (grownCap w n 0 5 - n)) (grownCap w n 0 5) (Nat.le_refl _) hm (by rw [Array.size_append, size_zeroCells, size_zeroCells]; simp; omega)
    exact ⟨_, rfl, Own.below (show Own w.heap.size 5 .u8 _ _ [] from o1) (below_drewN 1), ((Below.refl _ _).alloc (Nat.le_refl _) _).trans (below_drewN 1)⟩

def catP (ps : List (Value × List Int)) : List Int := ps.flatMap (·.2)
theorem catP_take {ps : List (Value × List Int)} {k : Nat} (hk : k < ps.length) : catP (ps.take (k + 1)) = catP (ps.take k) ++ ps[k].2 := by
  unfold catP; rw [List.take_succ_eq_append_getElem hk, List.flatMap_append]; simp
theorem catP_len {ps : List (Value × List Int)} (h : ∀ p ∈ ps, p.2.length ≤ 300) : (catP ps).length ≤ ps.length * 300 := by
  induction ps with
  | nil => simp [catP]
  | cons p ps ih =>
    have e : catP (p :: ps) = p.2 ++ catP ps := rfl
    have h1 := h p (by simp)
    have h2 := ih (fun q hq => h q (by simp [hq]))
    rw [e, List.length_append, List.length_cons]; omega

set_option maxRecDepth 100000 in
theorem iconcat_any {w : World} {b : Nat} {ps : List (Value × List Int)} (hb : b < w.heap.size) (hc : ∀ k (hk : k < ps.length), w.cell? ⟨b, k, none⟩ = some ps[k].1 ∧ Sl .u8 w ps[k].1 ps[k].2) (hl : ps.length ≤ 3) (hs : ∀ p ∈ ps, p.2.length ≤ 300) (hpos : 0 < (catP ps).length) :
    Calls Try.prog 51 #[.slice (some ⟨b, 0, none⟩) ps.length ps.length] w fun e w' => ∃ v', e = .returned v' ∧ Own w.heap.size 5 .u8 w' v' (catP ps) ∧ Below w.heap.size w w' := by
  have HC := (show Hid (∀ k (hk : k < ps.length), w.cell? ⟨b, k, none⟩ = some ps[k].1 ∧ Sl .u8 w ps[k].1 ps[k].2) from hc)
  have HS := (show Hid _ from hs)
  clear hc hs
  go_enter Try.func51, Try.ntmps51
  go_wp2
  go_loopw [3, 11] (fun z i wr => ∃ k : Nat, k ≤ ps.length ∧ i = .int .i64 (k : Int) ∧ z = .int .i64 ((catP (ps.take k)).length : Int) ∧ Hid (w = wr)) (fun _ i _ => ps.length - (intOf i).toNat)
  case atStart => exact ⟨0, Nat.zero_le _, rfl, rfl, rfl⟩
  case round =>
    obtain ⟨k, hk, rfl, rfl, hw⟩ := hrel
    have ew := hw.out
    subst ew
    by_cases hlt : k < ps.length
    · obtain ⟨c1, s1⟩ := HC.out k hlt
      have hl1 := HS.out _ (List.getElem_mem hlt)
      have hl2 := catP_len (ps := ps.take k) (fun p hp => HS.out p (List.mem_of_mem_take hp))
      have e3 : (catP (ps.take (k + 1))).length = (catP (ps.take k)).length + ps[k].2.length := by rw [catP_take hlt, List.length_append]
      have E3 := (show Hid _ from e3)
      rw [List.length_take] at hl2
      obtain ⟨a, ca, e1, _, _, _, _⟩ := s1
      rw [e1] at c1
      have hlt' : (k : Int) < (ps.length : Int) := by omega
      obtain ⟨m, hm⟩ : ∃ m, m = ps[k].2.length := ⟨_, rfl⟩
      obtain ⟨t, ht⟩ : ∃ t, t = (catP (ps.take k)).length := ⟨_, rfl⟩
      rw [← hm] at c1 hl1 E3
      rw [← ht] at hl2 E3
      rw [← ht]
      have ht2 : t ≤ 900 := by omega
      clear e1 e3 hm ht hl2
      go_wp2
      go_roundw
      case rel => exact ⟨k + 1, hlt, by go_num, by rw [E3.out]; go_num, trivial⟩
      case measure => simp [intOf]; omega
    · have hke : k = ps.length := by omega
      subst hke
      rw [List.take_length]
      have hc2 := catP_len (ps := ps) (fun p hp => HS.out p hp)
      go_wp2_with fail
      go_at_call 78
      refine (igrow_any _ _ hpos (by omega)).mono ?_
      rintro e w2 ⟨v2, rfl, o2, b2⟩
      have hb2 := b2.size
      obtain ⟨i0, hi, hz0, hz1, hz2⟩ := info_parts Try.infoB
      have O2 := (show Hid (Own w.heap.size 5 .u8 w2 v2 [] ∧ Below w.heap.size w w2) from ⟨o2, b2⟩)
      clear o2 b2 hw hlt hk
      go_wp2
      go_loopw [6, 27] (fun z i wq => ∃ k : Nat, k ≤ ps.length ∧ i = .int .i64 (k : Int) ∧ Own w.heap.size 5 .u8 wq z (catP (ps.take k)) ∧ Below w.heap.size w wq) (fun _ i _ => ps.length - (intOf i).toNat)
      case atStart => exact ⟨0, Nat.zero_le _, rfl, O2.out.1, O2.out.2⟩
      case round =>
        obtain ⟨k, hk, rfl, o3, b3⟩ := hrel
        by_cases hlt : k < ps.length
        · obtain ⟨c1, s1⟩ := HC.out k hlt
          have hl1 := HS.out _ (List.getElem_mem hlt)
          have hl2 := catP_len (ps := ps.take k) (fun p hp => HS.out p (List.mem_of_mem_take hp))
          rw [List.length_take] at hl2
          have hlt' : (k : Int) < (ps.length : Int) := by omega
          have c2 := (b3.cell (p := ⟨b, k, none⟩) hb).trans c1
          have S2 := (show Hid _ from s1.below b3)
          have CT := (show Hid _ from catP_take hlt)
          have O3 := (show Hid (Own _ 5 .u8 _ _ _) from o3)
          have B3 := (show Hid (Below _ _ _) from b3)
          have hb3 := b3.size
          obtain ⟨p, hp⟩ : ∃ p, p = ps[k] := ⟨_, rfl⟩
          rw [← hp] at c2 S2 hl1 CT
          obtain ⟨pv, pl⟩ := p
          simp only at c2 S2 hl1 CT
          obtain ⟨tl, ht⟩ : ∃ t, t = catP (ps.take k) := ⟨_, rfl⟩
          rw [← ht] at O3 CT hl2
          have ht2 : tl.length ≤ 900 := by omega
          clear o3 b3 c1 s1 hp ht hl2
          go_wp2_with (at_builtin
                       refine wpList_app _ rfl _ _ 22 rfl w.heap.size 5 i0 (.int .u8 0) 1 Try.underlying22 hi hz0 hz1 hz2 rfl .u8 _ _ tl pl rfl rfl O3.out S2.out (by omega) (by unfold maxLen; omega) hb3 ?_
                       intro v' w4 o4 g4)
          go_roundw
          case rel => exact ⟨k + 1, hlt, by go_num, by rw [CT.out]; exact o4, B3.out.grown g4 hb3 O3.out.grownAt⟩
          case measure => simp [intOf]; omega
        · have hke : k = ps.length := by omega
          subst hke
          rw [List.take_length] at o3
          have O3 := (show Hid (Own _ 5 .u8 _ _ _) from o3)
          have B3 := (show Hid (Below _ _ _) from b3)
          clear o3 b3
          go_wp2
          go_ret
          exact ⟨_, rfl, O3.out, B3.out⟩
end Go.Proofs.Ytmpgbonolmmcpaa

/- The program's RecordPack. No condition. -/
namespace Go.Proofs.Ytmpgbonolmmcpaa
open Go.RowKit
set_option maxRecDepth 100000
set_option linter.unusedVariables false

theorem form_posR {x : Int} (h : 0 ≤ x) : 0 < (form x).length := by
  rw [form, if_neg (by omega)]
  by_cases h' : x < 128
  · rw [nf_lt h']; simp
  · rw [nf_ge (by omega)]; simp
theorem urlB_len {s : ByteArray} (h : urlB s = true) : s.size ≤ 60 := by
  unfold urlB at h
  simp only [Bool.and_eq_true] at h
  by_cases e : s.size ≤ 60
  · exact e
  · rw [inB_no (by omega)] at h; simp at h
theorem iconcat2 {W : World} {v1 v2 : Value} {x y : List Int} (s1 : Sl .u8 W v1 x) (s2 : Sl .u8 W v2 y) (h1 : x.length ≤ 9) (h2 : y.length ≤ 69) (h0 : 0 < x.length) :
    Calls Try.prog 51 #[.slice (some ⟨W.heap.size, 0, none⟩) 2 2] (W.alloc (.cells #[v1, v2] 22)) fun e w' => ∃ v', e = .returned v' ∧ Own W.heap.size 5 .u8 w' v' (x ++ y) ∧ Below W.heap.size W w' := by
  have b1 : Below W.heap.size W (W.alloc (.cells #[v1, v2] 22)) := (Below.refl _ _).alloc (Nat.le_refl _) _
  obtain ⟨c1, c2, _⟩ := rk_two (World.alloc_heap_new W (.cells #[v1, v2] 22))
  have hc := iconcat_any (w := W.alloc (.cells #[v1, v2] 22)) (b := W.heap.size) (ps := [(v1, x), (v2, y)]) (by simp) (fun k hk => by
    match k, hk with
    | 0, _ => exact ⟨c1, s1.below b1⟩
    | 1, _ => exact ⟨c2, s2.below b1⟩) (by simp) (fun p hp => by
      simp only [List.mem_cons, List.not_mem_nil, or_false] at hp
      rcases hp with rfl | rfl
      · exact Nat.le_trans h1 (by decide)
      · exact Nat.le_trans h2 (by decide)) (by show 0 < (x ++ (y ++ [])).length; rw [List.length_append]; omega)
  have e1 : catP [(v1, x), (v2, y)] = x ++ y := by simp [catP]
  rw [e1] at hc
  refine Calls.mono hc ?_
  rintro e w' ⟨v', rfl, o, b⟩
  exact ⟨v', rfl, o.base b1.size, b1.trans (b.mono b1.size)⟩

set_option maxHeartbeats 400000 in
set_option maxRecDepth 100000 in
theorem irecPack_any (r : PRec) (w : World) (hu : r.url.size ≤ 1099511627776) (hb : r.body.size ≤ 1099511627776) :
    Calls Try.prog 14 #[recV r] w fun e w' => ∃ v, e = .returned (.tuple #[v, .bool (packR r).2]) ∧ Own w.heap.size 5 .u8 w' v (packR r).1 ∧ Below w.heap.size w w' := by
  have CR := (show Hid (∀ W, Calls Try.prog 50 #[recV r] W fun e w' => e = .returned (.bool (recB r)) ∧ Below W.heap.size W w') from fun W => irecordOk_any r W hu)
  have HP := (show Hid (packR r = if recB r = true then (recL r, true) else ([], false)) from rfl)
  have HK := (show Hid (recB r = true → (r.kind = 1 ∨ r.kind = 2) ∧ urlB r.url = true ∧ (r.kind = 2 → r.body = emptyS)) from recB_kind)
  have HL := (show Hid (recL r = form r.kind ++ textForm r.url ++ (if r.kind = 1 then textForm r.body else [])) from rfl)
  obtain ⟨kd, ur, bo⟩ := r
  unfold recV at CR ⊢
  simp only at CR hu hb HK HL ⊢
  obtain ⟨w1, hw1⟩ : ∃ y, y = w.alloc (.cells #[.int .i64 kd, .string ur, .string bo] 25) := ⟨_, rfl⟩
  have h1 := (Hl.refl w).new #[.int .i64 kd, .string ur, .string bo] 25
  rw [← hw1] at h1
  have H1 := (show Hid _ from h1)
  clear h1
  cases hq : recB ⟨kd, ur, bo⟩
  · have HR : Hid (packR ⟨kd, ur, bo⟩ = ([], false)) := (show packR ⟨kd, ur, bo⟩ = ([], false) by rw [HP.out, if_neg (by rw [hq]; decide)])
    rw [hq] at CR
    clear hq
    go_enter Try.func14, Try.ntmps14
    go_wp2_with fail
    go_at_call 50
    rw [← hw1]
    refine Calls.mono (CR.out _) ?_
    rintro e w2 ⟨rfl, b2⟩
    have H2 := (show Hid _ from H1.out.below b2)
    clear hw1 b2
    go_wp2
    go_ret2
    refine ⟨_, by rw [HR.out]; rfl, ?_, H2.out.1⟩
    rw [HR.out]
    exact ⟨rfl, .inl ⟨rfl, rfl⟩⟩
  · have HR : Hid (packR ⟨kd, ur, bo⟩ = (recL ⟨kd, ur, bo⟩, true)) := (show packR ⟨kd, ur, bo⟩ = _ by rw [HP.out, if_pos hq])
    obtain ⟨k1, k2, k3⟩ := HK.out hq
    have hul := urlB_len k2
    have hk0 : 1 ≤ kd ∧ kd ≤ 2 := by omega
    rw [hq] at CR
    clear hq k2 k3 HK
    obtain ⟨i0, hi, hz0, hz1, hz2⟩ := info_parts Try.infoB
    have HS := (show Hid (∀ W, Below w1.heap.size w1 W → W.cell? ⟨w.heap.size, 0, none⟩ = some (.int .i64 kd) ∧ W.cell? ⟨w.heap.size, 1, none⟩ = some (.string ur) ∧ W.cell? ⟨w.heap.size, 2, none⟩ = some (.string bo)) from fun W b => by
      obtain ⟨p0, p1, p2, _⟩ := rk_three (H1.out.below b).at0
      exact ⟨p0, p1, p2⟩)
    have C1 := (show Hid (∀ W, Calls Try.prog 52 #[.int .i64 kd] W fun e w' => ∃ v, e = .returned v ∧ Own W.heap.size 5 .u8 w' v (form kd) ∧ Below W.heap.size W w') from fun W => inum_any kd W (by omega))
    have C2 := (show Hid (∀ W, Calls Try.prog 53 #[.string ur] W fun e w' => ∃ v, e = .returned v ∧ Own W.heap.size 5 .u8 w' v (textForm ur) ∧ Below W.heap.size W w') from fun W => iputText_any ur W hu)
    have C3 := (show Hid (∀ W, Calls Try.prog 53 #[.string bo] W fun e w' => ∃ v, e = .returned v ∧ Own W.heap.size 5 .u8 w' v (textForm bo) ∧ Below W.heap.size W w') from fun W => iputText_any bo W hb)
    have L1 := (show Hid ((form kd).length ≤ 9 ∧ (textForm ur).length ≤ 69 ∧ 0 < (form kd).length ∧ (textForm bo).length ≤ 9 + bo.size ∧ (form kd ++ textForm ur).length ≤ 78) from ⟨form_len _, by have := textForm_len ur; omega, form_posR (by omega), textForm_len _, by have := textForm_len ur; have := form_len kd; rw [List.length_append]; omega⟩)
    go_enter Try.func14, Try.ntmps14
    go_wp2_with (go_at_call 50
                 rw [← hw1]
                 refine Calls.mono (CR.out _) ?_
                 rintro e w2 ⟨rfl, b2⟩
                 have B2 := (show Hid (Below w1.heap.size w1 w2) from b2)
                 have KD := (show Hid (Below w1.heap.size w1 w2.drew) from b2.trans (below_drewN 1))
                 clear hw1 b2
                 obtain ⟨d1, d2, d3⟩ := HS.out _ B2.out)
    go_region_held3 (fun w' => w'.cell? ⟨w.heap.size, 0, none⟩ = some (.int .i64 kd) ∧ w'.cell? ⟨w.heap.size, 1, none⟩ = some (.string ur) ∧ w'.cell? ⟨w.heap.size, 2, none⟩ = some (.string bo))
      (first | exact HS.out _ KD.out | exact HS.out _ B3.out | exact HS.out _ B4.out | exact HS.out _ (B4.out.alloc B4.out.size _) | exact HS.out _ B5.out)
      (first
        | (go_at_call 52
           with_reducible refine Calls.mono (C1.out _) ?_
           rintro e w3 ⟨v3, rfl, o3, b3⟩
           obtain ⟨a3, c3, e3, _⟩ := o3.sl
           subst e3
           have B3 := (show Hid (Below w1.heap.size w1 w3) from KD.out.trans (b3.mono KD.out.size))
           have O3 := (show Hid (Own w1.heap.size 5 .u8 w3 (.slice a3 (form kd).length c3) (form kd)) from o3.base KD.out.size)
           clear b3 o3)
        | (go_at_call 53
           with_reducible refine Calls.mono (C2.out _) ?_
           rintro e w4 ⟨v4, rfl, o4, b4⟩
           obtain ⟨a4, c4, e4, _⟩ := o4.sl
           subst e4
           have B4 := (show Hid (Below w1.heap.size w1 w4) from B3.out.trans (b4.mono B3.out.size))
           have O34 := (show Hid (Own w1.heap.size 5 .u8 w4 (.slice a3 (form kd).length c3) (form kd)) from O3.out.below b4)
           have O4 := (show Hid (Own w3.heap.size 5 .u8 w4 (.slice a4 (textForm ur).length c4) (textForm ur)) from o4)
           clear b4 o4)
        | (go_at_call 51
           with_reducible refine Calls.mono (iconcat2 O34.out.sl O4.out.sl L1.out.1 L1.out.2.1 L1.out.2.2.1) ?_
           rintro e w5 ⟨v5, rfl, o5, b5⟩
           have B5 := (show Hid (Below w1.heap.size w1 w5) from B4.out.trans (b5.mono B4.out.size))
           have O5 := (show Hid (Own w1.heap.size 5 .u8 w5 v5 (form kd ++ textForm ur)) from o5.base B4.out.size)
           clear b5 o5))
    obtain ⟨d1, d2, d3⟩ := HS.out _ B5.out
    have S1 := (show Hid (w.heap.size ≤ w1.heap.size) from H1.out.1.size)
    by_cases hk : kd = 1
    · subst hk
      go_wp2_with (first
        | (go_at_call 53
           with_reducible refine Calls.mono (C3.out _) ?_
           rintro e w6 ⟨v6, rfl, o6, b6⟩
           have B6 := (show Hid (Below w1.heap.size w1 w6) from B5.out.trans (b6.mono B5.out.size))
           have O56 := (show Hid (Own w1.heap.size 5 .u8 w6 v5 (form 1 ++ textForm ur)) from O5.out.below b6)
           have O6 := (show Hid (Own w5.heap.size 5 .u8 w6 v6 (textForm bo)) from o6)
           clear b6 o6)
        | (at_builtin
           refine wpList_app _ rfl _ _ 22 rfl w1.heap.size 5 i0 (.int .u8 0) 1 Try.underlying22 hi hz0 hz1 hz2 rfl .u8 v5 v6 (form 1 ++ textForm ur) (textForm bo) rfl rfl O56.out O6.out.sl (by have := L1.out; omega) (by have := L1.out; unfold maxLen; omega) B6.out.size ?_
           intro v7 w7 o7 g7
           have B7 := (show Hid (Below w1.heap.size w1 w7) from B6.out.grown g7 B6.out.size (fun r e => (World.ownsRow.lt O56.out r e).1))
           have O7 := (show Hid (Own w1.heap.size 5 .u8 w7 v7 (form 1 ++ textForm ur ++ textForm bo)) from o7)
           clear o7 g7))
      go_ret2
      refine ⟨_, by rw [HR.out]; rfl, ?_, H1.out.1.trans (B7.out.mono S1.out)⟩
      rw [HR.out, HL.out, if_pos trivial]
      exact O7.out.base S1.out
    · have hkn : (kd == 1) = false := by simp [hk]
      have HN := (show Hid (¬ kd = 1) from hk)
      go_wp2
      go_ret2
      refine ⟨_, by rw [HR.out]; rfl, ?_, H1.out.1.trans (B5.out.mono S1.out)⟩
      rw [HR.out, HL.out, if_neg HN.out, List.append_nil]
      exact O5.out.base S1.out
end Go.Proofs.Ytmpgbonolmmcpaa

/- The specification's RecordRead. No condition. -/
namespace Go.Proofs.Ytmpgbonolmmcpaa
open Go.RowKit
set_option maxRecDepth 100000
set_option linter.unusedVariables false

theorem results_cell_tmp2 {fn : Func} {p u v : Tmp} {ty : TypeId} (h : fn.results = #[.cell p ty, .tmp u, .tmp v]) (tmps : Array Value) (P : Program) (w : World) :
    (results fn tmps).run P w = ((asAddr (tmps.getD p undef)).run P w).andThen fun a w₁ => ((loadVar ty a).run P w₁).andThen fun x w₂ => .ok (.tuple #[x, tmps.getD u undef, tmps.getD v undef]) w₂ := by
  simp only [results, h]
  simp [Sem.run_bind, Result.andThen]
theorem rec_res {fn : Func} {p u v : Tmp} (hr : fn.results = #[.cell p 25, .tmp u, .tmp v]) {tmps : Array Value} {w : World} {g : Nat} {a b c r q : Value} (h4 : tmps.getD p undef = .pointer (some ⟨g, 0, none⟩)) (h5 : tmps.getD u undef = r) (h6 : tmps.getD v undef = q) (hb : w.heap[g]? = some (.cells #[a, b, c] 25 (0, 0))) :
    (results fn tmps).run Try.prog w = .ok (.tuple #[.agg #[a, b, c], r, q]) w := by
  rw [results_cell_tmp2 (p := p) (u := u) (v := v) (ty := 25) hr, h4, h5, h6]
  simp [asAddr, run_loadVar_row w g 25 25 #[a, b, c] (0, 0) _ hb Try.underlying25 rfl rfl, Result.andThen]
theorem rdT_len {xs t : List Int} {i j : Int} (h : rdT xs i = some (t, j)) : t.length ≤ xs.length := by
  unfold rdT at h
  split at h
  · split at h
    · simp only [Option.some.injEq, Prod.mk.injEq] at h
      rw [← h.1, List.length_take, List.length_drop]; omega
    · cases h
  · cases h

set_option maxHeartbeats 400000 in
set_option maxRecDepth 100000 in
theorem srecRead_any {v : Value} {xs : List Int} {i : Int} {w : World} (h : Sl .u8 w v xs) (hb : ∀ x ∈ xs, 0 ≤ x ∧ x ≤ 255) (hn : xs.length ≤ 1099511627776) :
    Calls Try.prog 33 #[v, .int .i64 i] w fun e w' => e = .returned (.tuple #[recV (readR xs i).1, .int .i64 (readR xs i).2.1, .bool (readR xs i).2.2]) ∧ Below w.heap.size w w' := by
  have HS := (show Hid (Sl .u8 w v xs) from h)
  have HB := (show Hid _ from hb)
  have CN := (show Hid (∀ W, Below w.heap.size w W → Calls Try.prog 68 #[v, .int .i64 i] W fun e w' => e = .returned (numVal i (rdI xs i)) ∧ w' = W) from fun W b => sgetNum_any (h.below b) hb hn)
  have CT := (show Hid (∀ (W : World) (j : Int), Below w.heap.size w W → Calls Try.prog 69 #[v, .int .i64 j] W fun e w' => e = .returned (textVal (rdT xs j)) ∧ w' = W) from fun W j b => sgetText_any (h.below b) hb hn)
  obtain ⟨a, ca, rfl, _, _, _, _⟩ := h
  clear hb
  obtain ⟨w1, hw1⟩ : ∃ y, y = (w.alloc (.cells #[.int .i64 0, .string ⟨#[]⟩, .string ⟨#[]⟩] 25)).alloc (.cells #[.int .i64 0, .string ⟨#[]⟩, .string ⟨#[]⟩] 25) := ⟨_, rfl⟩
  have h1 := ((Hl.refl w).new #[.int .i64 0, .string ⟨#[]⟩, .string ⟨#[]⟩] 25).new #[.int .i64 0, .string ⟨#[]⟩, .string ⟨#[]⟩] 25
  rw [← hw1, World.size_alloc] at h1
  have H1 := (show Hid _ from h1.swap)
  clear h1
  obtain ⟨_, _, _, r1, r2, r3⟩ := rk_three H1.out.at0
  obtain ⟨n1, n2, n3, _⟩ := rk_three H1.out.at1
  go_enter Try.func33, Try.ntmps33
  go_wp2_with fail
  go_at_call 68
  rw [← hw1]
  refine Calls.mono (CN.out w1 H1.out.1) ?_
  rintro e w2 ⟨rfl, e2⟩
  replace e2 := e2.symm
  subst e2
  clear hw1 CN
  cases h1 : rdI xs i with
  | none =>
    simp only [numVal]
    have HR : Hid (readR xs i = (zeroR, 0, false)) := (show readR xs i = (zeroR, 0, false) by rw [readR, h1])
    clear h1 CT
    go_wp2
    have H9 := H1.out.set3 (Nat.le_refl _) (by simp) (.int .i64 0) (.string ⟨#[]⟩) (.string ⟨#[]⟩)
    refine bodyPost_ret (rec_res rfl rfl rfl rfl H9.at0) rfl ?_
    rw [HR.out]
    exact ⟨rfl, H9.1⟩
  | some p =>
    obtain ⟨k, n⟩ := p
    have H0 := (show Hid (rdI xs i = some (k, n)) from h1)
    simp only [numVal]
    clear h1
    go_wp2_with fail
    go_at_call 69
    refine Calls.mono (CT.out w1 (i + n) H1.out.1) ?_
    rintro e w2 ⟨rfl, e2⟩
    replace e2 := e2.symm
    subst e2
    cases h2 : rdT xs (i + n) with
    | none =>
      simp only [textVal]
      have HR : Hid (readR xs i = (zeroR, 0, false)) := (show readR xs i = (zeroR, 0, false) by rw [readR, H0.out]; simp only; rw [h2])
      clear h2 CT H0
      go_wp2
      have H9 := H1.out.set3 (Nat.le_refl _) (by simp) (.int .i64 0) (.string ⟨#[]⟩) (.string ⟨#[]⟩)
      refine bodyPost_ret (rec_res rfl rfl rfl rfl H9.at0) rfl ?_
      rw [HR.out]
      exact ⟨rfl, H9.1⟩
    | some p =>
      obtain ⟨t, j⟩ := p
      have H2 := (show Hid (rdT xs (i + n) = some (t, j)) from h2)
      have L2 := (show Hid (t.length ≤ xs.length) from rdT_len h2)
      simp only [textVal]
      clear h2
      obtain ⟨w3, hw3⟩ : ∃ y, y = w1.alloc (.cells #[.int .i64 k, .string (strOf t), .string ⟨#[]⟩] 25) := ⟨_, rfl⟩
      have h3 := H1.out.new #[.int .i64 k, .string (strOf t), .string ⟨#[]⟩] 25
      rw [← hw3] at h3
      have H3 := (show Hid _ from h3)
      clear h3
      obtain ⟨m1, m2, m3, x1, x2, x3⟩ := rk_three H3.out.at0
      by_cases hk : k = 1
      · subst hk
        go_wp2_with fail
        go_at_call 69
        rw [← hw3]
        refine Calls.mono (CT.out w3 j H3.out.1) ?_
        rintro e w4 ⟨rfl, e4⟩
        replace e4 := e4.symm
        subst e4
        clear hw3
        cases h4 : rdT xs j with
        | none =>
          simp only [textVal]
          have HR : Hid (readR xs i = (zeroR, 0, false)) := (show readR xs i = (zeroR, 0, false) by rw [readR, H0.out]; simp only; rw [H2.out]; simp only; rw [if_pos trivial, h4])
          obtain ⟨_, _, _, r1, r2, r3⟩ := rk_three H3.out.at1
          obtain ⟨n1, n2, n3, _⟩ := rk_three H3.out.at2
          clear h4 CT H0 H2
          go_wp2
          have H9 := H3.out.swap.set3 (Nat.le_refl _) (fun p hp => by
            simp only [List.mem_cons, List.not_mem_nil, or_false] at hp
            have := lt_of_block H1.out.at0
            rcases hp with rfl | rfl
            · show w1.heap.size ≠ w.heap.size; omega
            · show w.heap.size + 1 ≠ w.heap.size; omega) (.int .i64 0) (.string ⟨#[]⟩) (.string ⟨#[]⟩)
          refine bodyPost_ret (rec_res rfl rfl rfl rfl H9.at0) rfl ?_
          rw [HR.out]
          exact ⟨rfl, H9.1⟩
        | some p =>
          obtain ⟨t2, m⟩ := p
          have H4 := (show Hid (rdT xs j = some (t2, m)) from h4)
          have L4 := (show Hid (t2.length ≤ xs.length) from rdT_len h4)
          simp only [textVal]
          clear h4 CT
          obtain ⟨w5, hw5⟩ : ∃ y, y = w3.setCell ⟨w1.heap.size, 2, none⟩ (.string (strOf t2)) := ⟨_, rfl⟩
          have h5 : Hl w [(w1.heap.size, #[.int .i64 1, .string (strOf t), .string (strOf t2)], 25), (w.heap.size, #[.int .i64 0, .string ⟨#[]⟩, .string ⟨#[]⟩], 25), (w.heap.size + 1, #[.int .i64 0, .string ⟨#[]⟩, .string ⟨#[]⟩], 25)] w5 := by
            rw [hw5]
            exact H3.out.set H1.out.1.size (fun p hp => by
              simp only [List.mem_cons, List.not_mem_nil, or_false] at hp
              have := lt_of_block H1.out.at1
              rcases hp with rfl | rfl
              · show w.heap.size ≠ w1.heap.size; omega
              · show w.heap.size + 1 ≠ w1.heap.size; omega) 2 (.string (strOf t2))
          have H5 := (show Hid _ from h5)
          clear h5
          have CP := (show Hid _ from srecPack_any ⟨1, strOf t, strOf t2⟩ w5 (by show (strOf t).size ≤ _; rw [strOf_size]; have := L2.out; omega) (by show (strOf t2).size ≤ _; rw [strOf_size]; have := L4.out; omega))
          have HPB : Hid ((packR ⟨1, strOf t, strOf t2⟩).2 = recB ⟨1, strOf t, strOf t2⟩) := (show (packR ⟨1, strOf t, strOf t2⟩).2 = recB ⟨1, strOf t, strOf t2⟩ by unfold packR; split <;> simp_all)
          rw [HPB.out] at CP
          have HQ : Hid (readR xs i = if recB ⟨1, strOf t, strOf t2⟩ = true then (⟨1, strOf t, strOf t2⟩, m, true) else (zeroR, 0, false)) := (show readR xs i = _ by rw [readR, H0.out]; simp only; rw [H2.out]; simp only; rw [if_pos trivial, H4.out])
          obtain ⟨pb, hpb⟩ : ∃ pb, pb = recB ⟨1, strOf t, strOf t2⟩ := ⟨_, rfl⟩
          rw [← hpb] at CP HQ
          unfold recV at CP
          simp only at CP
          clear hpb HPB
          obtain ⟨m1, m2, m3, _⟩ := rk_three H5.out.at0
          go_wp2_with fail
          go_at_call 15
          rw [← hw5]
          refine Calls.mono CP.out ?_
          rintro e w6 ⟨v6, rfl, _, b6⟩
          have H6 := (show Hid _ from H5.out.below b6)
          obtain ⟨m1, m2, m3, _⟩ := rk_three H6.out.at0
          obtain ⟨_, _, _, r1, r2, r3⟩ := rk_three H6.out.at1
          obtain ⟨n1, n2, n3, _⟩ := rk_three H6.out.at2
          have NE := (show Hid (∀ p ∈ ([(w1.heap.size, #[.int .i64 1, .string (strOf t), .string (strOf t2)], 25), (w.heap.size + 1, #[.int .i64 0, .string ⟨#[]⟩, .string ⟨#[]⟩], 25)] : List (Nat × Array Value × TypeId)), p.1 ≠ w.heap.size) from fun p hp => by
            simp only [List.mem_cons, List.not_mem_nil, or_false] at hp
            have := lt_of_block H1.out.at0
            rcases hp with rfl | rfl
            · show w1.heap.size ≠ w.heap.size; omega
            · show w.heap.size + 1 ≠ w.heap.size; omega)
          clear b6 CP
          cases pb
          · have HR : Hid (readR xs i = (zeroR, 0, false)) := (show readR xs i = (zeroR, 0, false) by rw [HQ.out, if_neg (by decide)])
            clear HQ
            go_wp2
            have H9 := H6.out.swap.set3 (Nat.le_refl _) NE.out (.int .i64 0) (.string ⟨#[]⟩) (.string ⟨#[]⟩)
            refine bodyPost_ret (rec_res rfl rfl rfl rfl H9.at0) rfl ?_
            rw [HR.out]
            exact ⟨rfl, H9.1⟩
          · have HR : Hid (readR xs i = (⟨1, strOf t, strOf t2⟩, m, true)) := (show readR xs i = _ by rw [HQ.out, if_pos rfl])
            clear HQ
            go_wp2
            have H9 := H6.out.swap.set3 (Nat.le_refl _) NE.out (.int .i64 1) (.string (strOf t)) (.string (strOf t2))
            refine bodyPost_ret (rec_res rfl rfl rfl rfl H9.at0) rfl ?_
            rw [HR.out]
            exact ⟨rfl, H9.1⟩
      · have hke : (k == 1) = false := by simp [hk]
        have HK := (show Hid (¬ k = 1) from hk)
        clear CT
        have CP := (show Hid _ from srecPack_any ⟨k, strOf t, emptyS⟩ w3 (by show (strOf t).size ≤ _; rw [strOf_size]; have := L2.out; omega) (Nat.zero_le _))
        have HPB : Hid ((packR ⟨k, strOf t, emptyS⟩).2 = recB ⟨k, strOf t, emptyS⟩) := (show (packR ⟨k, strOf t, emptyS⟩).2 = recB ⟨k, strOf t, emptyS⟩ by unfold packR; split <;> simp_all)
        rw [HPB.out] at CP
        have HQ : Hid (readR xs i = if recB ⟨k, strOf t, emptyS⟩ = true then (⟨k, strOf t, emptyS⟩, j, true) else (zeroR, 0, false)) := (show readR xs i = _ by rw [readR, H0.out]; simp only; rw [H2.out]; simp only; rw [if_neg HK.out])
        obtain ⟨pb, hpb⟩ : ∃ pb, pb = recB ⟨k, strOf t, emptyS⟩ := ⟨_, rfl⟩
        rw [← hpb] at CP HQ
        unfold recV at CP
        simp only at CP
        clear hpb HPB
        obtain ⟨m1, m2, m3, _⟩ := rk_three H3.out.at0
        go_wp2_with fail
        go_at_call 15
        rw [← hw3]
        refine Calls.mono CP.out ?_
        rintro e w6 ⟨v6, rfl, _, b6⟩
        have H6 := (show Hid _ from H3.out.below b6)
        obtain ⟨m1, m2, m3, _⟩ := rk_three H6.out.at0
        obtain ⟨_, _, _, r1, r2, r3⟩ := rk_three H6.out.at1
        obtain ⟨n1, n2, n3, _⟩ := rk_three H6.out.at2
        have NE := (show Hid (∀ p ∈ ([(w1.heap.size, #[.int .i64 k, .string (strOf t), .string (emptyS)], 25), (w.heap.size + 1, #[.int .i64 0, .string ⟨#[]⟩, .string ⟨#[]⟩], 25)] : List (Nat × Array Value × TypeId)), p.1 ≠ w.heap.size) from fun p hp => by
          simp only [List.mem_cons, List.not_mem_nil, or_false] at hp
          have := lt_of_block H1.out.at0
          rcases hp with rfl | rfl
          · show w1.heap.size ≠ w.heap.size; omega
          · show w.heap.size + 1 ≠ w.heap.size; omega)
        clear b6 CP
        cases pb
        · have HR : Hid (readR xs i = (zeroR, 0, false)) := (show readR xs i = (zeroR, 0, false) by rw [HQ.out, if_neg (by decide)])
          clear HQ
          go_wp2
          have H9 := H6.out.swap.set3 (Nat.le_refl _) NE.out (.int .i64 0) (.string ⟨#[]⟩) (.string ⟨#[]⟩)
          refine bodyPost_ret (rec_res rfl rfl rfl rfl H9.at0) rfl ?_
          rw [HR.out]
          exact ⟨rfl, H9.1⟩
        · have HR : Hid (readR xs i = (⟨k, strOf t, emptyS⟩, j, true)) := (show readR xs i = _ by rw [HQ.out, if_pos rfl])
          clear HQ
          go_wp2
          have H9 := H6.out.swap.set3 (Nat.le_refl _) NE.out (.int .i64 k) (.string (strOf t)) (.string (emptyS))
          refine bodyPost_ret (rec_res rfl rfl rfl rfl H9.at0) rfl ?_
          rw [HR.out]
          exact ⟨rfl, H9.1⟩
end Go.Proofs.Ytmpgbonolmmcpaa

/- Rows of records, plainly. No condition. -/
namespace Go.Proofs.Ytmpgbonolmmcpaa
open Go.RowKit
set_option maxRecDepth 100000
set_option linter.unusedVariables false

def recCells (rs : List PRec) : List Value := rs.flatMap fun r => [.int .i64 r.kind, .string r.url, .string r.body]
theorem recCells_nil : recCells [] = [] := rfl
theorem recCells_cons (r : PRec) (rs : List PRec) : recCells (r :: rs) = .int .i64 r.kind :: .string r.url :: .string r.body :: recCells rs := rfl
theorem recCells_app (xs ys : List PRec) : recCells (xs ++ ys) = recCells xs ++ recCells ys := by simp [recCells]
theorem recCells_len (rs : List PRec) : (recCells rs).length = rs.length * 3 := by
  induction rs with
  | nil => rfl
  | cons r rs ih => rw [recCells_cons, List.length_cons, List.length_cons, List.length_cons, ih, List.length_cons]; omega
theorem rec_oneCell (rs : List PRec) : ∀ v ∈ recCells rs, v.oneCell' = true := by
  intro v hv
  obtain ⟨r, _, hr⟩ := List.mem_flatMap.mp hv
  simp only [List.mem_cons, List.not_mem_nil, or_false] at hr
  rcases hr with rfl | rfl | rfl <;> rfl
/-- A row of records of the call's own. -/
abbrev OwnRs (B : Nat) (w : World) (v : Value) (rs : List PRec) : Prop := w.ownsRow B 25 3 v rs.length (recCells rs)
theorem Try.infoRec : (Try.prog.info? 25).map (fun i => (i.zero, i.size, i.bytes)) = some (some (.agg #[.int .i64 0, .string ⟨#[]⟩, .string ⟨#[]⟩]), 3, 40) := by kernel_rfl

theorem rdT_some {xs t : List Int} {i j : Int} (h : rdT xs i = some (t, j)) (hb : ∀ x ∈ xs, 0 ≤ x ∧ x ≤ 255) : i < j ∧ j ≤ xs.length ∧ 0 ≤ i := by
  unfold rdT at h
  split at h
  · rename_i y n e
    obtain ⟨h1, h2, h3, h4, h5, h6, h7⟩ := rdI_some e hb
    split at h
    · simp only [Option.some.injEq, Prod.mk.injEq] at h
      omega
    · cases h
  · cases h
/-- What is read goes on. -/
theorem readR_next {xs : List Int} {i j : Int} {r : PRec} (h : readR xs i = (r, j, true)) (hb : ∀ x ∈ xs, 0 ≤ x ∧ x ≤ 255) : 0 ≤ i ∧ i < j ∧ j ≤ xs.length ∧ recB r = true ∧ r.url.size ≤ xs.length ∧ r.body.size ≤ xs.length := by
  unfold readR at h
  split at h
  · simp at h
  · rename_i k n e
    obtain ⟨h1, h2, h3, h4, h5, h6, h7⟩ := rdI_some e hb
    split at h
    · simp at h
    · rename_i u l e2
      have b2 := rdT_some e2 hb
      have l2 := rdT_len e2
      split at h
      · split at h
        · simp at h
        · rename_i t m e3
          have b3 := rdT_some e3 hb
          have l3 := rdT_len e3
          split at h
          · rename_i hr
            simp only [Prod.mk.injEq, and_true] at h
            obtain ⟨rfl, rfl⟩ := h
            exact ⟨h1, by omega, by omega, hr, by show (strOf u).size ≤ _; rw [strOf_size]; exact l2, by show (strOf t).size ≤ _; rw [strOf_size]; exact l3⟩
          · simp at h
      · split at h
        · rename_i hr
          simp only [Prod.mk.injEq, and_true] at h
          obtain ⟨rfl, rfl⟩ := h
          exact ⟨h1, by omega, by omega, hr, by show (strOf u).size ≤ _; rw [strOf_size]; exact l2, Nat.zero_le _⟩
        · simp at h
theorem readR_no {xs : List Int} {i : Int} (h : (readR xs i).2.2 = false) : readR xs i = (zeroR, 0, false) := by
  unfold readR at h ⊢
  split
  · rfl
  · rename_i k n e
    rw [e] at h
    simp only at h
    split
    · rfl
    · rename_i u l e2
      rw [e2] at h
      simp only at h
      split
      · rename_i hk
        rw [if_pos hk] at h
        split
        · rfl
        · rename_i t m e3
          rw [e3] at h
          simp only at h
          split
          · rename_i hr
            rw [if_pos hr] at h
            cases h
          · rfl
      · rename_i hk
        rw [if_neg hk] at h
        split
        · rename_i hr
          rw [if_pos hr] at h
          cases h
        · rfl
/-- The records from a place on. -/
def recsF (xs : List Int) : Nat → Nat → Option (List PRec)
  | 0, _ => none
  | f + 1, i => if i < xs.length then (if (readR xs i).2.2 = true then (recsF xs f (readR xs i).2.1.toNat).map ((readR xs i).1 :: ·) else none) else some []
def recsR (xs : List Int) : List PRec × Bool := match recsF xs (xs.length + 1) 0 with
  | some l => (l, true)
  | none => ([], false)
end Go.Proofs.Ytmpgbonolmmcpaa

/- A record among the arguments: a struct of an int and two strings; and a slice of them. -/
namespace Go.Proofs.Ytmpgbonolmmcpaa
open Go.RowKit Go.ChangeShapes Go.WideShapes
set_option maxRecDepth 100000
set_option linter.unusedVariables false

section
variable {H : Type} {enc : TypeId × Value → H} {P : Program} {w : World} {base : Nat} {spare : Nat → Bool} {held : Bool}

theorem trod_rec {t : TypeId} {f0 f1 f2 : Field} {fuel : Nat} {cs : List Value} {x : DataW H × List MemPlace} (ht : P.underlying t = some (.struct #[f0, f1, f2])) (hc : P.cellsOf t = 3)
    (h0 : P.underlying f0.type = some (.int .i64)) (h1 : P.underlying f1.type = some .string) (h2 : P.underlying f2.type = some .string) (c0 : P.cellsOf f0.type = 1) (c1 : P.cellsOf f1.type = 1) (c2 : P.cellsOf f2.type = 1) (o0 : f0.offset = 0) (o1 : f1.offset = 1) (o2 : f2.offset = 2)
    (h : DataW.trod enc P w base spare held fuel t cs = some x) : ∃ p : PRec, cs = [.int .i64 p.kind, .string p.url, .string p.body] ∧ (Lit.int .i64 p.kind).wf = true ∧ p.url.size ≤ maxLen ∧ p.body.size ≤ maxLen := by
  obtain ⟨xs, n, _, _, hl, hx, hf⟩ := DataW.trod_struct ht h
  have e0 := hf 0 f0 rfl
  have e1 := hf 1 f1 rfl
  have e2 := hf 2 f2 rfl
  rw [c0, o0, List.drop_zero] at e0
  rw [c1, o1] at e1
  rw [c2, o2] at e2
  have hxs : xs.length = 3 := hx
  rw [List.getElem?_eq_getElem (by omega)] at e0 e1 e2
  rw [hc] at hl
  match cs, hl with
  | [u, v, y], _ =>
    simp only [List.drop_succ_cons, List.drop_zero, List.take_succ_cons, List.take_zero] at e0 e1 e2
    obtain ⟨a, ha, _, wa⟩ := DataW.trod_int h0 e0
    obtain ⟨b, hb, _, wb⟩ := DataW.trod_string h1 e1
    obtain ⟨c, hc, _, wc⟩ := DataW.trod_string h2 e2
    cases ha
    cases hb
    cases hc
    exact ⟨⟨a, b, c⟩, rfl, wa, wb, wc⟩
end

theorem rows_recs {rows : List (List Value)} (h : ∀ r ∈ rows, r.length = 3 ∧ ∃ p : PRec, r = [.int .i64 p.kind, .string p.url, .string p.body] ∧ (Lit.int .i64 p.kind).wf = true ∧ p.url.size ≤ maxLen ∧ p.body.size ≤ maxLen) :
    ∃ rs : List PRec, rows.flatten = recCells rs ∧ ∀ p ∈ rs, p.url.size ≤ maxLen ∧ p.body.size ≤ maxLen := by
  induction rows with
  | nil => exact ⟨[], rfl, fun p hp => by cases hp⟩
  | cons r rows ih =>
    obtain ⟨rs, h1, h2⟩ := ih (fun q hq => h q (List.mem_cons_of_mem _ hq))
    obtain ⟨_, p, rfl, hp⟩ := h r (List.mem_cons_self ..)
    refine ⟨p :: rs, ?_, fun q hq => ?_⟩
    · rw [List.flatten_cons, h1]; rfl
    · rcases List.mem_cons.mp hq with rfl | hq
      · exact hp.2
      · exact h2 q hq
end Go.Proofs.Ytmpgbonolmmcpaa

/- The exact laws of UrlOk and RecordPack: the program keeps its contracts. -/
namespace Go.Proofs.Ytmpgbonolmmcpaa
open Go.RowKit
set_option maxRecDepth 100000
set_option linter.unusedVariables false

theorem fnExactUrlOk_walk {s : ByteArray} (w : World) (hs : s.size ≤ maxLen) :
    Calls Try.prog 5 #[.string s] w fun e w' => e = .returned (.bool true) ∧ Below w.heap.size w w' :=
  fnExactUrlOk_of (fun s w h => iurlOk_any s w h) w hs
theorem fnExactRecordPack_walk {r : PRec} (w : World) (k0 : (Lit.int .i64 r.kind).wf = true) (ha : r.url.size ≤ maxLen) (hb : r.body.size ≤ maxLen) :
    Calls Try.prog 6 #[recV r] w fun e w' => e = .returned (.bool true) ∧ Below w.heap.size w w' :=
  fnExactRecordPack_of (fun r w h1 h2 => irecPack_any r w h1 h2) w k0 ha hb
end Go.Proofs.Ytmpgbonolmmcpaa
