/- The contract of the specification's reading of a reference by number. -/
import Derived.Test.YtggfifchkecnjaaGreatDoorX16
import Derived.Test.YtggfifchkecnjaaGreatDoorX11
namespace Go.Proofs.YtggfifchkecnjaaGreatDoor
open Go.RowKit
set_option maxRecDepth 100000
set_option linter.unusedVariables false

set_option maxHeartbeats 4000000 in
set_option maxRecDepth 100000 in
theorem l3Number_dec {v : Value} {xs : List Int} {w : World} (h : Sl .i64 w v xs) (f : Nat) (hn : xs.length ≤ 1099511627776) (hf : f ≤ 1099511627776) (n1 : atL xs f ≠ 120) (n2 : atL xs f ≠ 88) :
    Calls Tryz.prog 79 #[v, .int .i64 f] w fun e w' => e = .returned (.tuple #[.int .i64 (refDigits xs 10 f).1, .int .i64 (refDigits xs 10 f).2]) ∧ Below w.heap.size w w' := by
  have c0 := l3At_any h f hn
  obtain ⟨c, hc⟩ : ∃ c, c = atL xs f := ⟨_, rfl⟩
  rw [← hc] at c0 n1 n2
  clear hc
  have e1 : (c == 120) = false := by simpa using n1
  have e2 : (c == 88) = false := by simpa using n2
  clear n1 n2
  go_enter Tryz.func79, Tryz.ntmps79
  go_wp2_with fail
  go_at_call 78
  refine c0.mono ?_
  rintro e w1 ⟨rfl, rfl⟩
  go_wp2_with fail
  go_at_call 78
  refine c0.mono ?_
  rintro e w1 ⟨rfl, rfl⟩
  clear c0
  go_wp2
  go_loop [1, 8, 9] (fun i u n => ∃ k m : Nat, k ≤ (digs 10 (xs.drop f)).length ∧ m = f + k ∧ i = .int .i64 m ∧ u = .int .i64 (digVal 10 ((digs 10 (xs.drop f)).take k)).1 ∧ n = .int .i64 (digVal 10 ((digs 10 (xs.drop f)).take k)).2) (fun i _ _ => f + (digs 10 (xs.drop f)).length - (intOf i).toNat)
  case atStart => exact ⟨0, f, Nat.zero_le _, rfl, rfl, rfl, rfl⟩
  case round =>
    obtain ⟨k, m, hk, hm, rfl, rfl, rfl⟩ := hrel
    have hdl := digs_le 10 (xs.drop f)
    rw [List.length_drop] at hdl
    have hpos := digVal_ok (b := 10) (by simp) (xs.drop f) k
    have hcnt : (digVal 10 ((digs 10 (xs.drop f)).take k)).2 ≤ 0 + ((digs 10 (xs.drop f)).take k).length := digVal_count _ (0, 0)
    have hlt' : ((digs 10 (xs.drop f)).take k).length ≤ xs.length := by simp; omega
    obtain ⟨p, hp⟩ : ∃ p, p = digVal 10 ((digs 10 (xs.drop f)).take k) := ⟨_, rfl⟩
    rw [← hp] at hpos hcnt
    have hat : (xs.drop f).getD k (-1) = atL xs m := by rw [hm]; simp [atL, List.getD_eq_getElem?_getD, List.getElem?_drop]
    have c1 := fun w (h : Sl .i64 w v xs) => l3At_any h m hn
    by_cases hlt : k < (digs 10 (xs.drop f)).length
    · have hd := digs_at 10 (xs.drop f) k hlt
      have hle := digitOf_le (atL xs m) 10 (by simp)
      have hstep := digVal_succ 10 (digs 10 (xs.drop f)) k hlt
      rw [hat] at hd
      rw [← hp, hd.1] at hstep
      obtain ⟨d, hdd⟩ : ∃ d, d = digitOf (atL xs m) 10 := ⟨_, rfl⟩
      have c2 := fun w => sdigit_any (atL xs m) 10 w
      obtain ⟨c, hc⟩ : ∃ c, c = atL xs m := ⟨_, rfl⟩
      rw [← hdd] at hd hle hstep c2
      rw [← hc] at c1 c2
      have C1 := (show Hid _ from c1)
      have C2 := (show Hid _ from c2)
      have HS := (show Hid _ from hstep)
      have HK : Hid (k + 1 ≤ (digs 10 (xs.drop f)).length) := hlt
      have HM : Hid (m = f + k) := hm
      have d0 := hd.2
      have hmb : m ≤ 2199023255552 := by omega
      obtain ⟨px, pn⟩ := p
      simp only at hpos hcnt
      have HP := (show Hid _ from hp)
      clear c1 c2 hstep hm hd hdd hc hlt hat hp
      rw [← HP.out]
      simp only
      go_wp2_with fail
      go_at_call 78
      refine (C1.out _ h).mono ?_
      rintro e w1 ⟨rfl, rfl⟩
      go_wp2_with fail
      go_at_call 82
      refine (C2.out _).mono ?_
      rintro e w1 ⟨rfl, rfl⟩
      go_wp2_with fail
      go_at_call 78
      refine (C1.out _ h).mono ?_
      rintro e w1 ⟨rfl, rfl⟩
      go_wp2_with fail
      go_at_call 82
      refine (C2.out _).mono ?_
      rintro e w1 ⟨rfl, rfl⟩
      rcases (show (0 < pn) ∨ (pn = 0 ∧ 0 < d) ∨ (pn = 0 ∧ d = 0) by omega) with hc | ⟨rfl, hc⟩ | ⟨rfl, rfl⟩
      · by_cases h7 : pn + 1 ≤ 7
        · go_wp2
          go_round
          case rel => exact ⟨k + 1, m + 1, HK.out, by rw [HM.out]; omega, by go_num, by rw [HS.out, digStep_inc (.inl hc) h7], by rw [HS.out, digStep_inc (.inl hc) h7]; go_num⟩
          case measure => have := HM.out; have := HK.out; simp [intOf]; omega
        · go_wp2
          go_round
          case rel => exact ⟨k + 1, m + 1, HK.out, by rw [HM.out]; omega, by go_num, by rw [HS.out, digStep_over (.inl hc) h7], by rw [HS.out, digStep_over (.inl hc) h7]; go_num⟩
          case measure => have := HM.out; have := HK.out; simp [intOf]; omega
      · go_wp2
        go_round
        case rel => exact ⟨k + 1, m + 1, HK.out, by rw [HM.out]; omega, by go_num, by rw [HS.out, digStep_inc (.inr hc) (by omega)], by rw [HS.out, digStep_inc (.inr hc) (by omega)]; go_num⟩
        case measure => have := HM.out; have := HK.out; simp [intOf]; omega
      · go_wp2
        go_round
        case rel => exact ⟨k + 1, m + 1, HK.out, by rw [HM.out]; omega, by go_num, by rw [HS.out, digStep_nought]; go_num, by rw [HS.out, digStep_nought]; go_num⟩
        case measure => have := HM.out; have := HK.out; simp [intOf]; omega
    · have hkk : k = (digs 10 (xs.drop f)).length := by omega
      have hend := digs_end 10 (xs.drop f)
      have c2 := fun w => sdigit_any (atL xs m) 10 w
      rw [← hkk, hat] at hend
      rw [hkk, List.take_length] at hp
      have hmb : m ≤ 2199023255552 := by omega
      have hres : refDigits xs 10 f = if k = 0 then (0, 0) else (refNumber (if 7 < p.2 then 1114112 else p.1), ((m + (if atL xs m = 59 then 1 else 0) : Nat) : Int)) := by
        unfold refDigits
        simp only
        rw [← hp, ← hkk, ← hm]
        by_cases h0 : k = 0
        · rw [if_pos h0, if_pos (List.length_eq_zero_iff.mp (by omega))]
        · rw [if_neg h0, if_neg (fun e => h0 (by rw [hkk, e]; rfl))]
      have HR := (show Hid _ from hres)
      have hp' : digVal 10 ((digs 10 (xs.drop f)).take k) = p := by rw [hkk, List.take_length]; exact hp.symm
      rw [hp']
      obtain ⟨px, pn⟩ := p
      simp only at hpos hcnt HR ⊢
      obtain ⟨d, hdd⟩ : ∃ d, d = digitOf (atL xs m) 10 := ⟨_, rfl⟩
      rw [← hdd] at hend c2
      obtain ⟨c, hc⟩ : ∃ c, c = atL xs m := ⟨_, rfl⟩
      rw [← hc] at c1 c2 HR
      have C1 := (show Hid _ from c1)
      have C2 := (show Hid _ from c2)
      have HM : Hid (m = f + k) := hm
      clear c1 c2 hm hdd hc hlt hat hp hp' hres hkk
      go_wp2_with fail
      go_at_call 78
      refine (C1.out _ h).mono ?_
      rintro e w1 ⟨rfl, rfl⟩
      go_wp2_with fail
      go_at_call 82
      refine (C2.out _).mono ?_
      rintro e w1 ⟨rfl, rfl⟩
      by_cases hk0 : k = 0
      · have hmf : m = f := by have := HM.out; omega
        subst hmf
        have HR2 := HR.out
        rw [if_pos hk0] at HR2
        have HR3 := (show Hid _ from HR2)
        clear HR2
        go_wp2
        go_ret2
        exact ⟨by rw [HR3.out]; rfl, Below.refl _ _⟩
      · have hmf : ((m : Int) == (f : Int)) = false := by have := HM.out; simp; omega
        have HR2 := HR.out
        rw [if_neg hk0] at HR2
        have HR3 := (show Hid _ from HR2)
        clear HR2 HR
        by_cases h7 : 7 < pn
        all_goals by_cases h59 : c = 59
        · subst h59
          have E : Hid (refDigits xs 10 f = (refNumber 1114112, ((m + 1 : Nat) : Int))) := by show _ = _; rw [HR3.out, if_pos h7, if_pos rfl]
          go_wp2_with fail
          go_at_call 78
          refine (C1.out _ h).mono ?_
          rintro e w1 ⟨rfl, rfl⟩
          go_wp2_with fail
          go_at_call 124
          refine (srefNumber_any _ _).mono ?_
          rintro e w2 ⟨rfl, b2⟩
          go_wp2
          go_ret2
          exact ⟨by rw [E.out]; simp, b2⟩
        · have e59 : (c == 59) = false := by simpa using h59
          have E : Hid (refDigits xs 10 f = (refNumber 1114112, ((m : Nat) : Int))) := by show _ = _; rw [HR3.out, if_pos h7, if_neg h59]; rfl
          go_wp2_with fail
          go_at_call 78
          refine (C1.out _ h).mono ?_
          rintro e w1 ⟨rfl, rfl⟩
          go_wp2_with fail
          go_at_call 124
          refine (srefNumber_any _ _).mono ?_
          rintro e w2 ⟨rfl, b2⟩
          go_wp2
          go_ret2
          exact ⟨by rw [E.out]; simp, b2⟩
        · subst h59
          have E : Hid (refDigits xs 10 f = (refNumber px, ((m + 1 : Nat) : Int))) := by show _ = _; rw [HR3.out, if_neg h7, if_pos rfl]
          go_wp2_with fail
          go_at_call 78
          refine (C1.out _ h).mono ?_
          rintro e w1 ⟨rfl, rfl⟩
          go_wp2_with fail
          go_at_call 124
          refine (srefNumber_any _ _).mono ?_
          rintro e w2 ⟨rfl, b2⟩
          go_wp2
          go_ret2
          exact ⟨by rw [E.out]; simp, b2⟩
        · have e59 : (c == 59) = false := by simpa using h59
          have E : Hid (refDigits xs 10 f = (refNumber px, ((m : Nat) : Int))) := by show _ = _; rw [HR3.out, if_neg h7, if_neg h59]; rfl
          go_wp2_with fail
          go_at_call 78
          refine (C1.out _ h).mono ?_
          rintro e w1 ⟨rfl, rfl⟩
          go_wp2_with fail
          go_at_call 124
          refine (srefNumber_any _ _).mono ?_
          rintro e w2 ⟨rfl, b2⟩
          go_wp2
          go_ret2
          exact ⟨by rw [E.out]; simp, b2⟩

set_option maxHeartbeats 4000000 in
set_option maxRecDepth 100000 in
theorem l3Number_hex {v : Value} {xs : List Int} {w : World} (h : Sl .i64 w v xs) (g f : Nat) (hg : f = g + 1) (hn : xs.length ≤ 1099511627776) (hf : f ≤ 1099511627776) (n1 : atL xs g = 120 ∨ atL xs g = 88) :
    Calls Tryz.prog 79 #[v, .int .i64 g] w fun e w' => e = .returned (.tuple #[.int .i64 (refDigits xs 16 f).1, .int .i64 (refDigits xs 16 f).2]) ∧ Below w.heap.size w w' := by
  have c0 := l3At_any h g hn
  obtain ⟨c, hc⟩ : ∃ c, c = atL xs g := ⟨_, rfl⟩
  rw [← hc] at c0 n1
  clear hc
  have hgf : (g : Int) + 1 = (f : Int) := by omega
  clear hg
  rcases n1 with rfl | rfl
  all_goals
    go_enter Tryz.func79, Tryz.ntmps79
    go_wp2_with fail
    go_at_call 78
    refine c0.mono ?_
    rintro e w1 ⟨rfl, rfl⟩
    try (go_wp2_with fail; go_at_call 78; refine c0.mono ?_; rintro e w1 ⟨rfl, rfl⟩)
    clear c0
    go_wp2
    clear hgf
    go_loop [1, 8, 9] (fun i u n => ∃ k m : Nat, k ≤ (digs 16 (xs.drop f)).length ∧ m = f + k ∧ i = .int .i64 m ∧ u = .int .i64 (digVal 16 ((digs 16 (xs.drop f)).take k)).1 ∧ n = .int .i64 (digVal 16 ((digs 16 (xs.drop f)).take k)).2) (fun i _ _ => f + (digs 16 (xs.drop f)).length - (intOf i).toNat)
    case atStart => exact ⟨0, f, Nat.zero_le _, rfl, rfl, rfl, rfl⟩
    case round =>
      obtain ⟨k, m, hk, hm, rfl, rfl, rfl⟩ := hrel
      have hdl := digs_le 16 (xs.drop f)
      rw [List.length_drop] at hdl
      have hpos := digVal_ok (b := 16) (by simp) (xs.drop f) k
      have hcnt : (digVal 16 ((digs 16 (xs.drop f)).take k)).2 ≤ 0 + ((digs 16 (xs.drop f)).take k).length := digVal_count _ (0, 0)
      have hlt' : ((digs 16 (xs.drop f)).take k).length ≤ xs.length := by simp; omega
      obtain ⟨p, hp⟩ : ∃ p, p = digVal 16 ((digs 16 (xs.drop f)).take k) := ⟨_, rfl⟩
      rw [← hp] at hpos hcnt
      have hat : (xs.drop f).getD k (-1) = atL xs m := by rw [hm]; simp [atL, List.getD_eq_getElem?_getD, List.getElem?_drop]
      have c1 := fun w (h : Sl .i64 w v xs) => l3At_any h m hn
      by_cases hlt : k < (digs 16 (xs.drop f)).length
      · have hd := digs_at 16 (xs.drop f) k hlt
        have hle := digitOf_le (atL xs m) 16 (by simp)
        have hstep := digVal_succ 16 (digs 16 (xs.drop f)) k hlt
        rw [hat] at hd
        rw [← hp, hd.1] at hstep
        obtain ⟨d, hdd⟩ : ∃ d, d = digitOf (atL xs m) 16 := ⟨_, rfl⟩
        have c2 := fun w => sdigit_any (atL xs m) 16 w
        obtain ⟨c, hc⟩ : ∃ c, c = atL xs m := ⟨_, rfl⟩
        rw [← hdd] at hd hle hstep c2
        rw [← hc] at c1 c2
        have C1 := (show Hid _ from c1)
        have C2 := (show Hid _ from c2)
        have HS := (show Hid _ from hstep)
        have HK : Hid (k + 1 ≤ (digs 16 (xs.drop f)).length) := hlt
        have HM : Hid (m = f + k) := hm
        have d0 := hd.2
        have hmb : m ≤ 2199023255552 := by omega
        obtain ⟨px, pn⟩ := p
        simp only at hpos hcnt
        have HP := (show Hid _ from hp)
        clear c1 c2 hstep hm hd hdd hc hlt hat hp
        rw [← HP.out]
        simp only
        go_wp2_with fail
        go_at_call 78
        refine (C1.out _ h).mono ?_
        rintro e w1 ⟨rfl, rfl⟩
        go_wp2_with fail
        go_at_call 82
        refine (C2.out _).mono ?_
        rintro e w1 ⟨rfl, rfl⟩
        go_wp2_with fail
        go_at_call 78
        refine (C1.out _ h).mono ?_
        rintro e w1 ⟨rfl, rfl⟩
        go_wp2_with fail
        go_at_call 82
        refine (C2.out _).mono ?_
        rintro e w1 ⟨rfl, rfl⟩
        rcases (show (0 < pn) ∨ (pn = 0 ∧ 0 < d) ∨ (pn = 0 ∧ d = 0) by omega) with hc | ⟨rfl, hc⟩ | ⟨rfl, rfl⟩
        · by_cases h7 : pn + 1 ≤ 7
          · go_wp2
            go_round
            case rel => exact ⟨k + 1, m + 1, HK.out, by rw [HM.out]; omega, by go_num, by rw [HS.out, digStep_inc (.inl hc) h7], by rw [HS.out, digStep_inc (.inl hc) h7]; go_num⟩
            case measure => have := HM.out; have := HK.out; simp [intOf]; omega
          · go_wp2
            go_round
            case rel => exact ⟨k + 1, m + 1, HK.out, by rw [HM.out]; omega, by go_num, by rw [HS.out, digStep_over (.inl hc) h7], by rw [HS.out, digStep_over (.inl hc) h7]; go_num⟩
            case measure => have := HM.out; have := HK.out; simp [intOf]; omega
        · go_wp2
          go_round
          case rel => exact ⟨k + 1, m + 1, HK.out, by rw [HM.out]; omega, by go_num, by rw [HS.out, digStep_inc (.inr hc) (by omega)], by rw [HS.out, digStep_inc (.inr hc) (by omega)]; go_num⟩
          case measure => have := HM.out; have := HK.out; simp [intOf]; omega
        · go_wp2
          go_round
          case rel => exact ⟨k + 1, m + 1, HK.out, by rw [HM.out]; omega, by go_num, by rw [HS.out, digStep_nought]; go_num, by rw [HS.out, digStep_nought]; go_num⟩
          case measure => have := HM.out; have := HK.out; simp [intOf]; omega
      · have hkk : k = (digs 16 (xs.drop f)).length := by omega
        have hend := digs_end 16 (xs.drop f)
        have c2 := fun w => sdigit_any (atL xs m) 16 w
        rw [← hkk, hat] at hend
        rw [hkk, List.take_length] at hp
        have hmb : m ≤ 2199023255552 := by omega
        have hres : refDigits xs 16 f = if k = 0 then (0, 0) else (refNumber (if 7 < p.2 then 1114112 else p.1), ((m + (if atL xs m = 59 then 1 else 0) : Nat) : Int)) := by
          unfold refDigits
          simp only
          rw [← hp, ← hkk, ← hm]
          by_cases h0 : k = 0
          · rw [if_pos h0, if_pos (List.length_eq_zero_iff.mp (by omega))]
          · rw [if_neg h0, if_neg (fun e => h0 (by rw [hkk, e]; rfl))]
        have HR := (show Hid _ from hres)
        have hp' : digVal 16 ((digs 16 (xs.drop f)).take k) = p := by rw [hkk, List.take_length]; exact hp.symm
        rw [hp']
        obtain ⟨px, pn⟩ := p
        simp only at hpos hcnt HR ⊢
        obtain ⟨d, hdd⟩ : ∃ d, d = digitOf (atL xs m) 16 := ⟨_, rfl⟩
        rw [← hdd] at hend c2
        obtain ⟨c, hc⟩ : ∃ c, c = atL xs m := ⟨_, rfl⟩
        rw [← hc] at c1 c2 HR
        have C1 := (show Hid _ from c1)
        have C2 := (show Hid _ from c2)
        have HM : Hid (m = f + k) := hm
        clear c1 c2 hm hdd hc hlt hat hp hp' hres hkk
        go_wp2_with fail
        go_at_call 78
        refine (C1.out _ h).mono ?_
        rintro e w1 ⟨rfl, rfl⟩
        go_wp2_with fail
        go_at_call 82
        refine (C2.out _).mono ?_
        rintro e w1 ⟨rfl, rfl⟩
        by_cases hk0 : k = 0
        · have hmf : m = f := by have := HM.out; omega
          subst hmf
          have HR2 := HR.out
          rw [if_pos hk0] at HR2
          have HR3 := (show Hid _ from HR2)
          clear HR2
          go_wp2
          go_ret2
          exact ⟨by rw [HR3.out]; rfl, Below.refl _ _⟩
        · have hmf : ((m : Int) == (f : Int)) = false := by have := HM.out; simp; omega
          have HR2 := HR.out
          rw [if_neg hk0] at HR2
          have HR3 := (show Hid _ from HR2)
          clear HR2 HR
          by_cases h7 : 7 < pn
          all_goals by_cases h59 : c = 59
          · subst h59
            have E : Hid (refDigits xs 16 f = (refNumber 1114112, ((m + 1 : Nat) : Int))) := by show _ = _; rw [HR3.out, if_pos h7, if_pos rfl]
            go_wp2_with fail
            go_at_call 78
            refine (C1.out _ h).mono ?_
            rintro e w1 ⟨rfl, rfl⟩
            go_wp2_with fail
            go_at_call 124
            refine (srefNumber_any _ _).mono ?_
            rintro e w2 ⟨rfl, b2⟩
            go_wp2
            go_ret2
            exact ⟨by rw [E.out]; simp, b2⟩
          · have e59 : (c == 59) = false := by simpa using h59
            have E : Hid (refDigits xs 16 f = (refNumber 1114112, ((m : Nat) : Int))) := by show _ = _; rw [HR3.out, if_pos h7, if_neg h59]; rfl
            go_wp2_with fail
            go_at_call 78
            refine (C1.out _ h).mono ?_
            rintro e w1 ⟨rfl, rfl⟩
            go_wp2_with fail
            go_at_call 124
            refine (srefNumber_any _ _).mono ?_
            rintro e w2 ⟨rfl, b2⟩
            go_wp2
            go_ret2
            exact ⟨by rw [E.out]; simp, b2⟩
          · subst h59
            have E : Hid (refDigits xs 16 f = (refNumber px, ((m + 1 : Nat) : Int))) := by show _ = _; rw [HR3.out, if_neg h7, if_pos rfl]
            go_wp2_with fail
            go_at_call 78
            refine (C1.out _ h).mono ?_
            rintro e w1 ⟨rfl, rfl⟩
            go_wp2_with fail
            go_at_call 124
            refine (srefNumber_any _ _).mono ?_
            rintro e w2 ⟨rfl, b2⟩
            go_wp2
            go_ret2
            exact ⟨by rw [E.out]; simp, b2⟩
          · have e59 : (c == 59) = false := by simpa using h59
            have E : Hid (refDigits xs 16 f = (refNumber px, ((m : Nat) : Int))) := by show _ = _; rw [HR3.out, if_neg h7, if_neg h59]; rfl
            go_wp2_with fail
            go_at_call 78
            refine (C1.out _ h).mono ?_
            rintro e w1 ⟨rfl, rfl⟩
            go_wp2_with fail
            go_at_call 124
            refine (srefNumber_any _ _).mono ?_
            rintro e w2 ⟨rfl, b2⟩
            go_wp2
            go_ret2
            exact ⟨by rw [E.out]; simp, b2⟩

theorem l3Number_any {v : Value} {xs : List Int} {w : World} (h : Sl .i64 w v xs) (k : Nat) (hn : xs.length ≤ 1099511627776) (hk : k < 1099511627776) :
    Calls Tryz.prog 79 #[v, .int .i64 k] w fun e w' => e = .returned (.tuple #[.int .i64 (refNum xs k).1, .int .i64 (refNum xs k).2]) ∧ Below w.heap.size w w' := by
  by_cases hx : atL xs k = 120 ∨ atL xs k = 88
  · have e : refNum xs k = refDigits xs 16 (k + 1) := by unfold refNum; rw [if_pos hx]
    rw [e]
    exact l3Number_hex h k (k + 1) rfl hn (by omega) hx
  · have e : refNum xs k = refDigits xs 10 k := by unfold refNum; rw [if_neg hx]
    rw [e]
    exact l3Number_dec h k hn (by omega) (fun e => hx (.inl e)) (fun e => hx (.inr e))
end Go.Proofs.YtggfifchkecnjaaGreatDoor

/- The contract of the specification's question whether a text stands at a place. -/
namespace Go.Proofs.YtggfifchkecnjaaGreatDoor
open Go.RowKit
set_option maxRecDepth 100000
set_option linter.unusedVariables false

theorem stands_no {xs nm : List Int} {k i : Nat} (h : i < nm.length) (e : atL xs (k + i) ≠ nm.getD i 0) : stands xs k nm = false := by
  unfold stands
  rw [List.all_eq_false]
  exact ⟨i, List.mem_range.mpr h, by simpa using e⟩
theorem stands_yes {xs nm : List Int} {k : Nat} (h : ∀ i, i < nm.length → atL xs (k + i) = nm.getD i 0) : stands xs k nm = true := by
  unfold stands
  rw [List.all_eq_true]
  intro i hi
  simpa using h i (List.mem_range.mp hi)

set_option maxRecDepth 100000 in
theorem l3Stands_any {v : Value} {xs : List Int} {w : World} (h : Sl .i64 w v xs) (k : Nat) (s : ByteArray) (hn : xs.length ≤ 1099511627776) (hk : k ≤ 1099511627776) (hs : s.size ≤ 1099511627776) :
    Calls Tryz.prog 81 #[v, .int .i64 k, .string s] w fun e w' => e = .returned (.bool (stands xs k (bs s))) ∧ ∃ n, w' = w.drewN n := by
  have hl := bs_len s
  go_enter Tryz.func81, Tryz.ntmps81
  go_wp2
  go_loopw [7] (fun i wr => ∃ j : Nat, j ≤ s.size ∧ i = .int .i64 j ∧ (∀ t, t < j → atL xs (k + t) = (bs s).getD t 0) ∧ ∃ n, wr = w.drewN n) (fun i _ => s.size - (intOf i).toNat)
  case atStart => exact ⟨0, Nat.zero_le _, rfl, fun t ht => absurd ht (by omega), 0, rfl⟩
  case round =>
    obtain ⟨j, hj, rfl, hall, hw⟩ := hrel
    have h' : Sl .i64 wr v xs := by obtain ⟨n, rfl⟩ := hw; exact h.below (below_drewN n)
    have HW := (show Hid (∃ n, wr = w.drewN n) from hw)
    clear hw
    have HA := (show Hid _ from hall)
    clear hall
    by_cases hlt : j < s.size
    · have hat := bs_at s j hlt
      have hbk := bs_bound s j
      obtain ⟨m, hm⟩ : ∃ m : Nat, m = k + j := ⟨_, rfl⟩
      have hme : (k : Int) + (j : Int) = (m : Int) := by omega
      have c1 := fun n => l3At_any (h'.below (below_drewN n)) m hn
      have HN : Hid (atL xs m ≠ (bs s).getD j 0 → stands xs k (bs s) = false) := fun e => stands_no (i := j) (by omega) (by rw [← hm]; exact e)
      have HY : Hid (atL xs m = (bs s).getD j 0 → ∀ t, t < j + 1 → atL xs (k + t) = (bs s).getD t 0) := fun e t ht => by
        by_cases htj : t = j
        · subst htj; rw [← hm]; exact e
        · exact HA.out t (by omega)
      obtain ⟨x, hx⟩ : ∃ x, x = (bs s).getD j 0 := ⟨_, rfl⟩
      obtain ⟨c, hc⟩ : ∃ c, c = atL xs m := ⟨_, rfl⟩
      rw [← hx] at hat hbk HN HY
      rw [← hc] at c1 HN HY
      have hwx : IntKind.i64.wrap x = x := wrap_byte hbk.1 hbk.2
      have C1 := (show Hid _ from c1)
      clear c1 hx hc hm
      by_cases hcx : c = x
      · subst hcx
        go_wp2
        go_quiet ((go_at_call 78; refine Calls.quiet_of_same (C1.out _)))
        go_wp2
        go_roundw
        case rel => exact ⟨j + 1, by omega, by go_num, HY.out (by simp), by obtain ⟨n, hn⟩ := HW.out; exact ⟨n + nq, by rw [hn, World.drewN_drewN]⟩⟩
        case measure => simp [intOf]; omega
      · have e : (c != x) = true := by simpa using hcx
        go_wp2
        go_quiet ((go_at_call 78; refine Calls.quiet_of_same (C1.out _)))
        go_wp2
        go_ret
        exact ⟨ret_bool (HN.out hcx).symm, by obtain ⟨n, hn⟩ := HW.out; exact ⟨n + nq, by rw [hn, World.drewN_drewN]⟩⟩
    · go_wp2
      go_ret
      exact ⟨ret_bool (by rw [stands_yes (fun i hi => HA.out i (by omega))]), HW.out⟩
end Go.Proofs.YtggfifchkecnjaaGreatDoor

/- The contract of the program's RefNumber, where its table lies as the program's text lays it. -/
namespace Go.Proofs.YtggfifchkecnjaaGreatDoor
open Go.RowKit
set_option maxRecDepth 100000
set_option linter.unusedVariables false

theorem refNumber_any (x : Int) (w : World) (ho : Older w) : Calls Tryz.prog 141 #[.int .i64 x] w fun e w' => e = .returned (.int .i64 (refNumber x)) ∧ w' = w := by
  have c1 := fun w => iok_any x w
  by_cases h0 : x = 0
  · subst h0
    clear ho
    go_enter Tryz.func141, Tryz.ntmps141
    go_wp2
    go_ret
    exact ⟨rfl, rfl⟩
  have e0 : (x == 0) = false := by simpa using h0
  rcases hp : pointOk x with _ | _
  · have hr : refNumber x = 65533 := by unfold refNumber; rw [if_pos (.inr hp)]
    rw [hp] at c1
    rw [hr]
    clear hp hr ho
    go_enter Tryz.func141, Tryz.ntmps141
    go_wp2_with fail
    go_at_call 40
    refine (c1 _).mono ?_
    rintro e w1 ⟨rfl, rfl⟩
    go_wp2
    go_ret
    exact ⟨rfl, rfl⟩
  · rw [hp] at c1
    by_cases h1 : 128 ≤ x ∧ x ≤ 159
    · have hr : refNumber x = oldPoints.getD (x - 128).toNat 0 := by unfold refNumber; rw [if_neg (by simp [h0, hp]), inB_yes h1.1 h1.2]; rfl
      rw [hr]
      obtain ⟨k, rfl⟩ : ∃ k : Nat, x = 128 + k := ⟨(x - 128).toNat, by omega⟩
      have ek : ((128 : Int) + k - 128).toNat = k := by omega
      rw [ek]
      have hk : k < 32 := by omega
      have hc := ho.cell k hk
      obtain ⟨y, hy⟩ : ∃ y, y = oldPoints.getD k 0 := ⟨_, rfl⟩
      rw [← hy] at hc ⊢
      clear hy hp hr h1 ho
      go_enter Tryz.func141, Tryz.ntmps141
      go_wp2_with fail
      go_at_call 40
      refine (c1 _).mono ?_
      rintro e w1 ⟨rfl, rfl⟩
      go_wp2
      go_ret
      exact ⟨rfl, rfl⟩
    · have hr : refNumber x = x := by unfold refNumber; rw [if_neg (by simp [h0, hp]), inB_no (by omega)]; rfl
      rw [hr]
      clear hp hr ho
      go_enter Tryz.func141, Tryz.ntmps141
      go_wp2_with fail
      go_at_call 40
      refine (c1 _).mono ?_
      rintro e w1 ⟨rfl, rfl⟩
      go_wp2
      all_goals
        go_ret
        exact ⟨rfl, rfl⟩
end Go.Proofs.YtggfifchkecnjaaGreatDoor
