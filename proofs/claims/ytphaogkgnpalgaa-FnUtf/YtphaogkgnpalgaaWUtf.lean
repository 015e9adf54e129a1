/- The law FnUtf, walked: at every slice of bytes it returns true and writes nothing that was there. -/
import Derived.Test.YtphaogkgnpalgaaDraw3
import Derived.Test.YtphaogkgnpalgaaSame
import Derived.Test.YtphaogkgnpalgaaPts
namespace Go.Proofs.Ytphaogkgnpalgaa
open Go.RowKit
set_option linter.unusedVariables false

theorem take1 {l : List Int} (h : 0 < l.length) : l.take 1 = [l[0]] := by
  match l, h with
  | a :: r, _ => rfl
theorem Sl.drop1 {K : IntKind} {w : World} {b cap : Nat} {xs : List Int} (h : Sl K w (.slice (some ⟨b, 0, none⟩) xs.length cap) xs) (h1 : 1 ≤ xs.length) (hc : 1 < cap) :
    Sl K w (.slice (some ⟨b, 1, none⟩) (xs.length - 1) (cap - 1)) (xs.drop 1) := by
  obtain ⟨a', c', e, hl, hm, hnn, ha⟩ := h
  cases e
  refine ⟨some ⟨b, 1, none⟩, cap - 1, by simp, by simp; omega, by omega, (fun h => by cases h), fun k hk => ⟨b, 1, rfl, ?_⟩⟩
  simp at hk
  obtain ⟨b2, o2, e2, c2⟩ := ha (1 + k) (by omega)
  cases e2
  have e3 : (xs.drop 1).getD k 0 = xs.getD (1 + k) 0 := by simp [List.getD_eq_getElem?_getD, Nat.add_comm]
  rw [e3]; simpa using c2

set_option maxHeartbeats 4000000 in
theorem fnUtf_walk {v : Value} {xs : List Int} (w : World) (h : Sl .u8 w v xs) (hwf : ∀ n ∈ xs, (Lit.int .u8 n).wf = true) :
    Calls Try.prog 3 #[v] w fun e w' => e = .returned (.bool true) ∧ Below w.heap.size w w' := by
  by_cases hbig : 1048576 < xs.length
  · have hbg := big_any h
    rw [decide_eq_true hbig] at hbg
    have HG : Hid (Calls Try.prog 12 #[v] w fun e w' => e = .returned (.bool true) ∧ w' = w) := hbg
    clear hbg
    go_enter Try.func3, Try.ntmps3
    go_wp2_with fail
    go_at_call 12
    refine HG.out.mono ?_
    rintro e w1 ⟨rfl, rfl⟩
    go_wp2
    go_ret
    exact ⟨rfl, Below.refl _ _⟩
  have hbg := big_any h
  rw [decide_eq_false hbig] at hbg
  have HG : Hid (Calls Try.prog 12 #[v] w fun e w' => e = .returned (.bool false) ∧ w' = w) := hbg
  clear hbg
  have hn : xs.length ≤ 1048576 := by omega
  have HB : Hid (∀ x ∈ xs, 0 ≤ x ∧ x ≤ 255) := byte_ok hwf
  clear hwf
  go_enter Try.func3, Try.ntmps3
  go_wp2_with fail
  go_at_call 12
  refine HG.out.mono ?_
  rintro e w1 ⟨rfl, rfl⟩
  go_wp2_with fail
  go_at_call 13
  refine (drawRead_any h HB.out (by omega)).mono ?_
  rintro e w2 ⟨v1, bs, rfl, o1, hbl, hbb, B⟩
  have HBB : Hid (∀ y ∈ bs, 0 ≤ y ∧ y ≤ 255) := hbb
  have hll := utfRead_len bs
  have HOK : Hid (∀ p ∈ utfRead bs, pointOk p = true) := utfRead_ok hbb
  have HLG : Hid (3000 < bs.length → utfRead bs = []) := fun hl => by unfold utfRead; rw [if_neg (by omega)]
  obtain ⟨l, hl⟩ : ∃ l, l = utfRead bs := ⟨_, rfl⟩
  clear hbb
  go_wp2_with fail
  go_at_call 14
  refine (iread_any o1.sl HBB.out (by omega)).mono ?_
  rintro e w3 ⟨v2, rfl, o2, b3⟩
  replace o1 := o1.below b3
  replace B := B.trans (b3.mono B.size)
  clear b3 h
  go_wp2_with fail
  go_at_call 16
  refine (sread_any o1.sl HBB.out (by omega)).mono ?_
  rintro e w4 ⟨v3, rfl, o3, b4⟩
  replace o1 := o1.below b4
  replace o2 := o2.below b4
  replace B := B.trans (b4.mono B.size)
  clear b4
  rw [← hl] at o2 o3 hll HOK HLG
  clear hl
  go_wp2_with fail
  go_at_call 15
  refine (same_any o2.sl o3.sl (by omega) (by omega)).mono ?_
  rintro e w5 ⟨rfl, b5⟩
  replace o1 := o1.below b5
  replace o2 := o2.below b5
  replace B := B.trans (b5.mono B.size)
  clear b5 o3
  obtain ⟨a1, c1, rfl, _, _, _, ha1⟩ := o1.sl
  clear ha1 o1
  have hcase : (3000 < bs.length ∧ l.length < 1) ∨ ¬ 3000 < bs.length := by
    by_cases h : 3000 < bs.length
    · exact .inl ⟨h, by rw [HLG.out h]; simp⟩
    · exact .inr h
  have hs2 : ∃ a2 c2, v2 = .slice a2 l.length c2 := by obtain ⟨a2, c2, e, _⟩ := o2.sl; exact ⟨a2, c2, e⟩
  obtain ⟨a2, c2, rfl⟩ := hs2
  replace o2 := o2.base (B' := 0) (Nat.zero_le _)
  rcases hcase with ⟨hb3, hl0⟩ | hb3
  · go_wp2
    go_loopw [5] (fun i wr => ∃ k : Nat, k ≤ l.length ∧ i = .int .i64 k ∧ Own 0 3 .i64 wr (.slice a2 l.length c2) l ∧ Below w1.heap.size w1 wr) (fun i _ => l.length - (intOf i).toNat)
    case atStart => exact ⟨0, Nat.zero_le _, rfl, o2, B⟩
    case round =>
      clear o2 B
      obtain ⟨k, hk, rfl, o2, B⟩ := hrel
      by_cases hlt : k < l.length
      · exact absurd hlt (by omega)
      · go_wp2_with fail
        go_at_call 19
        refine (iputs_any o2.sl (by omega)).mono ?_
        rintro e w7 ⟨v7, rfl, o7, b7⟩
        replace o2 := o2.below b7
        replace B := B.trans (b7.mono B.size)
        have hpp : pointsPut l = puts l := by unfold pointsPut; rw [if_pos hll]
        rw [hpp] at o7
        have hpl := puts_len l
        have HPB : Hid (∀ y ∈ puts l, 0 ≤ y ∧ y ≤ 255) := puts_byte l
        obtain ⟨a7, c7, rfl⟩ : ∃ a7 c7, v7 = .slice a7 (puts l).length c7 := by obtain ⟨a7, c7, e, _⟩ := o7.sl; exact ⟨a7, c7, e⟩
        clear b7 hpp
        go_wp2_with fail
        go_at_call 14
        refine (iread_any o7.sl HPB.out (by omega)).mono ?_
        rintro e w8 ⟨v8, rfl, o8, b8⟩
        replace o2 := o2.below b8
        replace o7 := o7.below b8
        replace B := B.trans (b8.mono B.size)
        clear b8
        have HNE : Hid (∀ t, l ≠ 65279 :: t) := fun t e => (by rw [e] at hl0; simp at hl0)
        have hp : ¬ 3000 < (puts l).length := by omega
        have e8 := again_other HOK.out HNE.out (by omega)
        rw [e8] at o8
        clear e8
        go_wp2_with fail
        go_at_call 15
        refine (same_any o8.sl o2.sl (by omega) (by omega)).mono ?_
        rintro e w9 ⟨rfl, b9⟩
        replace o7 := o7.below b9
        replace B := B.trans (b9.mono B.size)
        clear b9 o8 o2
        go_wp2_with fail
        go_at_call 20
        refine (iutfOk_any o7.sl HPB.out (by omega)).mono ?_
        rintro e w10 ⟨rfl, b10⟩
        rw [ok_other HOK.out HNE.out (by omega) hll]
        go_wp2
        go_ret
        exact ⟨rfl, B.trans (b10.mono B.size)⟩
  · go_wp2
    go_loopw [5] (fun i wr => ∃ k : Nat, k ≤ l.length ∧ i = .int .i64 k ∧ Own 0 3 .i64 wr (.slice a2 l.length c2) l ∧ Below w1.heap.size w1 wr) (fun i _ => l.length - (intOf i).toNat)
    case atStart => exact ⟨0, Nat.zero_le _, rfl, o2, B⟩
    case round =>
      clear o2 B
      obtain ⟨k, hk, rfl, o2, B⟩ := hrel
      by_cases hlt : k < l.length
      · obtain ⟨a', c', ev, _, _, _, ha⟩ := o2.sl
        cases ev
        obtain ⟨b1, q1, rfl, d1⟩ := ha k hlt
        have hok : pointOk l[k] = true := HOK.out _ (List.getElem_mem hlt)
        have hpl := put_len l[k]
        clear ha
        go_wp2_with fail
        go_at_call 17
        refine (iok_any _ _).mono ?_
        rintro e w6 ⟨rfl, rfl⟩
        rw [hok]
        go_wp2_with fail
        go_at_call 18
        refine (iput_any _ _).mono ?_
        rintro e w7 ⟨v7, rfl, o7, b7⟩
        rcases o7.shape with ⟨_, hnil⟩ | ⟨g7, c7, rfl, _, _, _, _⟩
        · rw [hnil] at hpl; simp at hpl
        clear o7
        go_wp2
        go_roundw
        case rel => exact ⟨k + 1, by omega, by go_num, o2.below b7, B.trans (b7.mono B.size)⟩
        case measure => simp [intOf]; omega
      · go_wp2_with fail
        go_at_call 19
        refine (iputs_any o2.sl (by omega)).mono ?_
        rintro e w7 ⟨v7, rfl, o7, b7⟩
        replace o2 := o2.below b7
        replace B := B.trans (b7.mono B.size)
        have hpp : pointsPut l = puts l := by unfold pointsPut; rw [if_pos hll]
        rw [hpp] at o7
        have hpl := puts_len l
        have HPB : Hid (∀ y ∈ puts l, 0 ≤ y ∧ y ≤ 255) := puts_byte l
        obtain ⟨a7, c7, rfl⟩ : ∃ a7 c7, v7 = .slice a7 (puts l).length c7 := by obtain ⟨a7, c7, e, _⟩ := o7.sl; exact ⟨a7, c7, e⟩
        clear b7 hpp
        go_wp2_with fail
        go_at_call 14
        refine (iread_any o7.sl HPB.out (by omega)).mono ?_
        rintro e w8 ⟨v8, rfl, o8, b8⟩
        replace o2 := o2.below b8
        replace o7 := o7.below b8
        replace B := B.trans (b8.mono B.size)
        clear b8
        by_cases hl1 : 0 < l.length
        · rcases o2.shape with ⟨_, hnil⟩ | ⟨g2, c2', ev, _, hg2, hl2, hm2⟩
          · rw [hnil] at hl1; simp at hl1
          cases ev
          have d0 : w8.cell? ⟨g2, 0, none⟩ = some (.int .i64 l[0]) := by
            have h := World.ownsRow.cellAt o2 0 (by omega)
            rw [h, List.getElem?_map, List.getElem?_eq_getElem hl1]; rfl
          by_cases hx : l[0] = 65279
          · have e0 : (l[0] == 65279) = true := by simpa using hx
            by_cases hp : 3000 < (puts l).length
            · clear hx
              go_wp2
              go_ret
              exact ⟨rfl, B⟩
            · have hlc : l = 65279 :: l.drop 1 := by
                conv => lhs; rw [← List.take_append_drop 1 l, take1 hl1, hx]
                rfl
              have h8 : utfRead (puts l) = l.drop 1 := by
                have h := again_mark (t := l.drop 1) (fun p hp => HOK.out p (List.mem_of_mem_drop hp)) (by rw [← hlc]; omega)
                rw [← hlc] at h; exact h
              rw [h8] at o8
              clear h8 hlc hx
              by_cases hc1 : c2 = 1
              · subst hc1
                have hl1e : l.length = 1 := by omega
                have hd1 : Sl .i64 w8 (.slice (some ⟨g2, 0, none⟩) 0 0) (l.drop 1) := by
                  rw [List.drop_eq_nil_of_le (by omega)]
                  exact ⟨some ⟨g2, 0, none⟩, 0, rfl, Nat.le_refl _, Nat.zero_le _, fun _ => rfl, fun k hk => absurd hk (Nat.not_lt_zero _)⟩
                clear hl1e
                go_wp2_with fail
                go_at_call 15
                refine (same_any o8.sl hd1 (by simp; omega) (by simp; omega)).mono ?_
                rintro e w9 ⟨rfl, b9⟩
                go_wp2
                go_ret
                exact ⟨rfl, B.trans (b9.mono B.size)⟩
              · have hd1 := o2.sl.drop1 (by omega) (by omega)
                go_wp2_with fail
                go_at_call 15
                refine (same_any o8.sl hd1 (by simp; omega) (by simp; omega)).mono ?_
                rintro e w9 ⟨rfl, b9⟩
                go_wp2
                go_ret
                exact ⟨rfl, B.trans (b9.mono B.size)⟩
          · have e0 : (l[0] == 65279) = false := by simpa using hx
            have HNE : Hid (∀ t, l ≠ 65279 :: t) := fun t e => hx (by simp [e])
            clear hx
            by_cases hp : 3000 < (puts l).length
            · go_wp2
              go_ret
              exact ⟨rfl, B⟩
            · have e8 := again_other HOK.out HNE.out (by omega)
              rw [e8] at o8
              clear e8
              go_wp2_with fail
              go_at_call 15
              refine (same_any o8.sl o2.sl (by omega) (by omega)).mono ?_
              rintro e w9 ⟨rfl, b9⟩
              replace o7 := o7.below b9
              replace B := B.trans (b9.mono B.size)
              clear b9 o8 o2
              go_wp2_with fail
              go_at_call 20
              refine (iutfOk_any o7.sl HPB.out (by omega)).mono ?_
              rintro e w10 ⟨rfl, b10⟩
              rw [ok_other HOK.out HNE.out (by omega) hll]
              go_wp2
              go_ret
              exact ⟨rfl, B.trans (b10.mono B.size)⟩
        · have HNE : Hid (∀ t, l ≠ 65279 :: t) := fun t e => hl1 (by rw [e]; simp)
          have hp : ¬ 3000 < (puts l).length := by omega
          have e8 := again_other HOK.out HNE.out (by omega)
          rw [e8] at o8
          clear e8
          go_wp2_with fail
          go_at_call 15
          refine (same_any o8.sl o2.sl (by omega) (by omega)).mono ?_
          rintro e w9 ⟨rfl, b9⟩
          replace o7 := o7.below b9
          replace B := B.trans (b9.mono B.size)
          clear b9 o8 o2
          go_wp2_with fail
          go_at_call 20
          refine (iutfOk_any o7.sl HPB.out (by omega)).mono ?_
          rintro e w10 ⟨rfl, b10⟩
          rw [ok_other HOK.out HNE.out (by omega) hll]
          go_wp2
          go_ret
          exact ⟨rfl, B.trans (b10.mono B.size)⟩
end Go.Proofs.Ytphaogkgnpalgaa
