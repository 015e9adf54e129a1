/- The contracts of the program's hasPoint and digitsFrom. -/
import Derived.Test.YtggfifchkecnjaaDoorU15
namespace Go.Proofs.YtggfifchkecnjaaDoor
open Go.RowKit
set_option maxRecDepth 100000
set_option linter.unusedVariables false

theorem hasPoint_any {v : Value} {xs : List Int} {w : World} (h : Sl .i64 w v xs) (k : Nat) (x : Int) (hx : 0 ≤ x) (hn : xs.length ≤ 1099511627776) :
    Calls Tryd.prog 30 #[v, .int .i64 k, .int .i64 x] w fun e w' => e = .returned (.bool (atL xs k == x)) ∧ w' = w := by
  obtain ⟨a, ca, rfl, _, _, _, ha⟩ := h
  by_cases hk : k < xs.length
  · rw [atL_in hk]
    obtain ⟨b1, o1, rfl, c1⟩ := ha k hk
    clear ha
    obtain ⟨y, hy⟩ : ∃ y, y = xs.getD k 0 := ⟨_, rfl⟩
    rw [← hy] at c1 ⊢
    clear hy
    go_enter Tryd.func30, Tryd.ntmps30
    go_wp2
    go_ret
    exact ⟨rfl, rfl⟩
  · rw [atL_out (by omega)]
    have e : ((-1 : Int) == x) = false := by simp; omega
    rw [e]
    clear ha e
    go_enter Tryd.func30, Tryd.ntmps30
    go_wp2
    go_ret
    exact ⟨rfl, rfl⟩

theorem digitOf_zero {x b : Int} (hb : b = 10 ∨ b = 16) (h : 0 ≤ digitOf x b) : digitOf x b = 0 ↔ x = 48 := by
  unfold digitOf at *
  by_cases h1 : 48 ≤ x ∧ x ≤ 57
  · rw [inB_yes h1.1 h1.2] at *
    rcases hb with rfl | rfl <;> simp <;> omega
  · rw [inB_no (x := x) (lo := 48) (hi := 57) (by omega)] at *
    rcases hb with rfl | rfl
    · simp at h
    · by_cases h2 : 65 ≤ x ∧ x ≤ 70
      · rw [inB_yes h2.1 h2.2] at *; simp; omega
      · rw [inB_no (x := x) (lo := 65) (hi := 70) (by omega)] at *
        by_cases h3 : 97 ≤ x ∧ x ≤ 102
        · rw [inB_yes h3.1 h3.2] at *; simp; omega
        · rw [inB_no (x := x) (lo := 97) (hi := 102) (by omega)] at *; simp at h

/-- The value of the digits at a place, or a number that is no point. -/
def digNum (xs : List Int) (b : Int) (k : Nat) : Int := let p := digVal b (digs b (xs.drop k)); if 7 < p.2 then 1114112 else p.1

set_option maxHeartbeats 4000000 in
set_option maxRecDepth 100000 in
theorem digitsFrom_any {v : Value} {xs : List Int} {w : World} (h : Sl .i64 w v xs) (f : Nat) (b : Int) (hb : b = 10 ∨ b = 16) (hn : xs.length ≤ 3000) (hf : f ≤ 3002) :
    Calls Tryd.prog 31 #[v, .int .i64 f, .int .i64 b] w fun e w' => e = .returned (.tuple #[.int .i64 (digNum xs b f), .int .i64 (f + (digs b (xs.drop f)).length : Nat)]) ∧ Below w.heap.size w w' := by
  have h0 := h
  have HS := (show Hid (Sl .i64 w v xs) from h)
  obtain ⟨a, ca, rfl, _, _, _, ha⟩ := h
  have hbb : 10 ≤ b ∧ b ≤ 16 := by omega
  clear ha h0
  go_enter Tryd.func31, Tryd.ntmps31
  go_wp2
  go_loopw [1, 8, 9] (fun i u n wr => ∃ k m : Nat, k ≤ (digs b (xs.drop f)).length ∧ m = f + k ∧ i = .int .i64 m ∧ u = .int .i64 (digVal b ((digs b (xs.drop f)).take k)).1 ∧ n = .int .i64 (digVal b ((digs b (xs.drop f)).take k)).2 ∧ Below w.heap.size w wr) (fun i _ _ _ => f + (digs b (xs.drop f)).length - (intOf i).toNat)
  case atStart => exact ⟨0, f, Nat.zero_le _, rfl, rfl, rfl, rfl, Below.refl _ _⟩
  case round =>
    obtain ⟨k, m, hk, hm, rfl, rfl, rfl, bel⟩ := hrel
    have hdl := digs_le b (xs.drop f)
    rw [List.length_drop] at hdl
    have hpos := digVal_ok hb (xs.drop f) k
    have hcnt : (digVal b ((digs b (xs.drop f)).take k)).2 ≤ 0 + ((digs b (xs.drop f)).take k).length := digVal_count _ (0, 0)
    have hlt' : ((digs b (xs.drop f)).take k).length ≤ xs.length := by simp; omega
    obtain ⟨p, hp⟩ : ∃ p, p = digVal b ((digs b (xs.drop f)).take k) := ⟨_, rfl⟩
    rw [← hp] at hpos hcnt
    have hat : (xs.drop f).getD k (-1) = atL xs m := by rw [hm]; simp [atL, List.getD_eq_getElem?_getD, List.getElem?_drop]
    by_cases hlt : k < (digs b (xs.drop f)).length
    · have hd := digs_at b (xs.drop f) k hlt
      have hml : m < xs.length := by rw [hm]; omega
      have hle := digitOf_le (atL xs m) b hb
      have hstep := digVal_succ b (digs b (xs.drop f)) k hlt
      rw [hat] at hd
      rw [← hp, hd.1] at hstep
      have hz := digitOf_zero hb hd.2
      obtain ⟨_, _, ev, _, _, _, ha⟩ := HS.out.below bel
      cases ev
      obtain ⟨b1, o1, rfl, c1⟩ := ha m hml
      clear ha
      rw [← atL_in hml] at c1
      obtain ⟨d, hdd⟩ : ∃ d, d = digitOf (atL xs m) b := ⟨_, rfl⟩
      have c2 := fun w => idigit_any (atL xs m) b w
      obtain ⟨c, hc⟩ : ∃ c, c = atL xs m := ⟨_, rfl⟩
      rw [← hdd] at hd hle hstep c2 hz
      rw [← hc] at c1 c2 hz
      have C2 := (show Hid _ from c2)
      have HSt := (show Hid _ from hstep)
      have HK : Hid (k + 1 ≤ (digs b (xs.drop f)).length) := hlt
      have HM : Hid (m = f + k) := hm
      have d0 := hd.2
      have hmb : m ≤ 3000 := by omega
      obtain ⟨px, pn⟩ := p
      simp only at hpos hcnt
      have HP := (show Hid _ from hp)
      have hbx : b * px = px * b := Int.mul_comm _ _
      have hpx : 0 ≤ px * b ∧ px * b < 268435456 * 16 := by
        rcases hb with rfl | rfl <;> omega
      have hcb := c1
      clear c2 hstep hm hd hdd hc hlt hat hp hb
      rw [← HP.out]
      simp only
      obtain ⟨q, hq⟩ : ∃ q, q = px * b := ⟨_, rfl⟩
      rw [← hq] at hbx hpx
      have HC : Hid (∀ w', Below wr.heap.size wr w' → w'.cell? ⟨b1, o1 + m, none⟩ = some (.int .i64 c)) := fun w' hb' => (hb'.cell (p := ⟨b1, o1 + m, none⟩) (by
        by_cases hl : b1 < wr.heap.size
        · exact hl
        · exfalso; simp [World.cell?, Array.getElem?_eq_none (Nat.le_of_not_lt hl)] at c1)).trans c1
      go_wp2_with fail
      go_at_call 41
      refine (C2.out _).mono ?_
      rintro e w1 ⟨rfl, bw⟩
      have c2 := HC.out _ bw
      rcases (show (0 < pn) ∨ (pn = 0 ∧ 0 < d) ∨ (pn = 0 ∧ d = 0) by omega) with hc | ⟨rfl, hc⟩ | ⟨rfl, rfl⟩
      · by_cases h7 : pn + 1 ≤ 7
        · go_wp2_with fail
          go_at_call 41
          refine (C2.out _).mono ?_
          rintro e w2 ⟨rfl, bw2⟩
          go_wp2
          go_roundw
          case rel => exact ⟨k + 1, m + 1, HK.out, by rw [HM.out]; omega, by go_num, by rw [HSt.out, digStep_inc (.inl hc) h7, Int.mul_comm], by rw [HSt.out, digStep_inc (.inl hc) h7]; go_num, (bel.trans (bw.mono bel.size)).trans (bw2.mono ((bel.trans (bw.mono bel.size)).size))⟩
          case measure => have := HM.out; have := HK.out; simp [intOf]; omega
        · go_wp2
          go_roundw
          case rel => exact ⟨k + 1, m + 1, HK.out, by rw [HM.out]; omega, by go_num, by rw [HSt.out, digStep_over (.inl hc) h7], by rw [HSt.out, digStep_over (.inl hc) h7]; go_num, (bel.trans (bw.mono bel.size))⟩
          case measure => have := HM.out; have := HK.out; simp [intOf]; omega
      · have hc48 : (c != 48) = true := by simp; intro e; have := hz.mpr e; omega
        go_wp2_with fail
        go_at_call 41
        refine (C2.out _).mono ?_
        rintro e w2 ⟨rfl, bw2⟩
        go_wp2
        go_roundw
        case rel => exact ⟨k + 1, m + 1, HK.out, by rw [HM.out]; omega, by go_num, by rw [HSt.out, digStep_inc (.inr hc) (by omega), Int.mul_comm], by rw [HSt.out, digStep_inc (.inr hc) (by omega)]; go_num, (bel.trans (bw.mono bel.size)).trans (bw2.mono ((bel.trans (bw.mono bel.size)).size))⟩
        case measure => have := HM.out; have := HK.out; simp [intOf]; omega
      · obtain rfl : c = 48 := hz.mp rfl
        go_wp2_with fail
        go_at_call 41
        refine (C2.out _).mono ?_
        rintro e w2 ⟨rfl, bw2⟩
        go_wp2
        go_roundw
        case rel => exact ⟨k + 1, m + 1, HK.out, by rw [HM.out]; omega, by go_num, by rw [HSt.out, digStep_nought, Int.mul_comm]; go_num, by rw [HSt.out, digStep_nought]; go_num, (bel.trans (bw.mono bel.size)).trans (bw2.mono ((bel.trans (bw.mono bel.size)).size))⟩
        case measure => have := HM.out; have := HK.out; simp [intOf]; omega
    · have hkk : k = (digs b (xs.drop f)).length := by omega
      have hend := digs_end b (xs.drop f)
      rw [← hkk, hat] at hend
      rw [hkk, List.take_length] at hp
      have hmb : m ≤ 6002 := by omega
      have hmf : f + (digs b (xs.drop f)).length = m := by rw [← hkk]; exact hm.symm
      have hres : digNum xs b f = if 7 < p.2 then 1114112 else p.1 := by unfold digNum; simp only; rw [← hp]
      have HR : Hid (digNum xs b f = (if 7 < p.2 then 1114112 else p.1) ∧ f + (digs b (xs.drop f)).length = m) := ⟨hres, hmf⟩
      have hp' : digVal b ((digs b (xs.drop f)).take k) = p := by rw [hkk, List.take_length]; exact hp.symm
      rw [hp']
      obtain ⟨px, pn⟩ := p
      simp only at hpos hcnt HR ⊢
      by_cases hml : m < xs.length
      · have c2 := fun w => idigit_any (atL xs m) b w
        obtain ⟨_, _, ev, _, _, _, ha⟩ := HS.out.below bel
        cases ev
        obtain ⟨b1, o1, rfl, c1⟩ := ha m hml
        rw [← atL_in hml] at c1
        obtain ⟨d, hdd⟩ : ∃ d, d = digitOf (atL xs m) b := ⟨_, rfl⟩
        obtain ⟨c, hc⟩ : ∃ c, c = atL xs m := ⟨_, rfl⟩
        rw [← hdd] at hend c2
        rw [← hc] at c1 c2
        have C2 := (show Hid _ from c2)
        clear c2 hm hdd hc hlt hat hp hp' hres hkk hmf hb ha hk hlt' hdl hcnt
        go_wp2_with fail
        go_at_call 41
        refine (C2.out _).mono ?_
        rintro e w1 ⟨rfl, bw⟩
        by_cases h7 : 7 < pn
        · have hr := HR.out; rw [if_pos h7] at hr; have HR2 := (show Hid _ from hr); clear hr
          go_wp2
          go_ret2
          exact ⟨by rw [HR2.out.1, HR2.out.2]; rfl, bel.trans (bw.mono bel.size)⟩
        · have hr := HR.out; rw [if_neg h7] at hr; have HR2 := (show Hid _ from hr); clear hr
          go_wp2
          go_ret2
          exact ⟨by rw [HR2.out.1, HR2.out.2]; rfl, bel.trans (bw.mono bel.size)⟩
      · clear hm hlt hat hp hp' hres hkk hmf hb hk hlt' hdl hcnt hend
        by_cases h7 : 7 < pn
        · have hr := HR.out; rw [if_pos h7] at hr; have HR2 := (show Hid _ from hr); clear hr
          go_wp2
          go_ret2
          exact ⟨by rw [HR2.out.1, HR2.out.2]; rfl, bel⟩
        · have hr := HR.out; rw [if_neg h7] at hr; have HR2 := (show Hid _ from hr); clear hr
          go_wp2
          go_ret2
          exact ⟨by rw [HR2.out.1, HR2.out.2]; rfl, bel⟩
end Go.Proofs.YtggfifchkecnjaaDoor

/- The contract of the program's refByNumber. -/
namespace Go.Proofs.YtggfifchkecnjaaDoor
open Go.RowKit
set_option maxRecDepth 100000
set_option linter.unusedVariables false

theorem refDigits_eq (xs : List Int) (b : Int) (k : Nat) : refDigits xs b k = if (digs b (xs.drop k)).length = 0 then (0, 0) else (refNumber (digNum xs b k), ((k + (digs b (xs.drop k)).length + (if atL xs (k + (digs b (xs.drop k)).length) = 59 then 1 else 0) : Nat) : Int)) := by
  unfold refDigits digNum
  simp only [List.length_eq_zero_iff]

/-- What refByNumber answers of the digits' result. -/
def numAns (p : Int × Int) : Value := if 0 < p.2 then .tuple #[.int .i64 p.1, .int .i64 p.2, .bool true] else .tuple #[.int .i64 0, .int .i64 0, .bool false]

set_option maxHeartbeats 4000000 in
set_option maxRecDepth 100000 in
theorem refByNumber_any {v : Value} {xs : List Int} {w : World} (ho : Older w) (h : Sl .i64 w v xs) (k : Nat) (hn : xs.length ≤ 3000) (hk : k ≤ 3000) :
    Calls Tryd.prog 22 #[v, .int .i64 k] w fun e w' => e = .returned (if atL xs k = 35 then numAns (refNum xs (k + 1)) else .tuple #[.int .i64 0, .int .i64 0, .bool false]) ∧ Below w.heap.size w w' := by
  have c0 := hasPoint_any h k 35 (by decide) (by omega)
  by_cases h35 : atL xs k = 35
  · rw [if_pos h35]
    rw [h35, show ((35 : Int) == 35) = true from rfl] at c0
    have e1 : ((k : Int) + 1) = ((k + 1 : Nat) : Int) := by omega
    have cx := hasPoint_any h (k + 1) 120 (by decide) (by omega)
    have cX := hasPoint_any h (k + 1) 88 (by decide) (by omega)
    have HP := (show Hid (∀ (w' : World) (j : Nat), Below w.heap.size w w' → Calls Tryd.prog 30 #[v, .int .i64 j, .int .i64 59] w' fun e w'' => e = .returned (.bool (atL xs j == 59)) ∧ w'' = w') from fun w' j hb => hasPoint_any (h.below hb) j 59 (by decide) (by omega))
    have HO := (show Hid (∀ (w' : World) (x : Int), Below w.heap.size w w' → Calls Tryd.prog 32 #[.int .i64 x] w' fun e w'' => e = .returned (.int .i64 (refNumber x)) ∧ w'' = w') from fun w' x hb => refNumber_any x w' (ho.below hb))
    clear ho
    obtain ⟨b, f, hb, er, hcs⟩ : ∃ (b : Int) (f : Nat), (b = 10 ∨ b = 16) ∧ refNum xs (k + 1) = refDigits xs b f ∧ ((atL xs (k + 1) = 120 ∧ b = 16 ∧ f = k + 2) ∨ (atL xs (k + 1) = 88 ∧ b = 16 ∧ f = k + 2) ∨ (atL xs (k + 1) ≠ 120 ∧ atL xs (k + 1) ≠ 88 ∧ b = 10 ∧ f = k + 1)) := by
      by_cases h1 : atL xs (k + 1) = 120
      · exact ⟨16, k + 2, by simp, by unfold refNum; rw [if_pos (.inl h1)], .inl ⟨h1, rfl, rfl⟩⟩
      · by_cases h2 : atL xs (k + 1) = 88
        · exact ⟨16, k + 2, by simp, by unfold refNum; rw [if_pos (.inr h2)], .inr (.inl ⟨h2, rfl, rfl⟩)⟩
        · exact ⟨10, k + 1, by simp, by unfold refNum; rw [if_neg (by rintro (h | h); exact h1 h; exact h2 h)], .inr (.inr ⟨h1, h2, rfl, rfl⟩)⟩
    rw [er, refDigits_eq]
    have cd := digitsFrom_any h f b hb hn (by omega)
    obtain ⟨c, hc⟩ : ∃ c, c = atL xs (k + 1) := ⟨_, rfl⟩
    rw [← hc] at cx cX hcs
    obtain ⟨D, hD⟩ : ∃ D, D = (digs b (xs.drop f)).length := ⟨_, rfl⟩
    rw [← hD] at cd ⊢
    have hdl := digs_le b (xs.drop f)
    rw [List.length_drop, ← hD] at hdl
    obtain ⟨nm, hnm⟩ : ∃ nm, nm = digNum xs b f := ⟨_, rfl⟩
    rw [← hnm] at cd ⊢
    obtain ⟨g, hg⟩ : ∃ g, g = k + 1 := ⟨_, rfl⟩
    rw [← hg] at cx cX e1 hcs
    have HPm := HP.out
    obtain ⟨m, hm⟩ : ∃ m, m = f + D := ⟨_, rfl⟩
    rw [← hm] at cd ⊢
    have c59 := (show Hid _ from fun w' hb => HPm w' m hb)
    obtain ⟨y, hy⟩ : ∃ y, y = atL xs m := ⟨_, rfl⟩
    rw [← hy] at c59 ⊢
    clear hc hD h hnm er h35 HPm HP hb hy
    have hmm : m ≤ 6010 := by omega
    have hgb : g ≤ 3001 := by omega
    have hfb : f ≤ 3002 := by omega
    have hfp : 0 < f := by omega
    have hmp : 0 < m := by omega
    have e120 : (((120 : Int)) == 120) = true := rfl
    have e88 : (((88 : Int)) == 88) = true := rfl
    have e88' : (((88 : Int)) == 120) = false := rfl
    have e59 : (((59 : Int)) == 59) = true := rfl
    rcases hcs with ⟨rfl, rfl, hfk⟩ | ⟨rfl, rfl, hfk⟩ | ⟨n1, n2, rfl, hfk⟩
    · have e2 : (g : Int) + 1 = (f : Int) := by omega
      clear hg hfk
      rw [e120] at cx
      by_cases hD0 : D = 0
      · have hmf : m = f := by omega
        subst hmf
        rw [if_pos hD0]
        clear hm hD0 hdl c59 HO
        go_enter Tryd.func22, Tryd.ntmps22
        go_wp2_with fail
        go_at_call 30
        refine c0.mono ?_
        rintro e w1 ⟨rfl, rfl⟩
        go_wp2_with fail
        go_at_call 30
        refine cx.mono ?_
        rintro e w1 ⟨rfl, rfl⟩
        go_wp2_with fail
        go_at_call 31
        refine cd.mono ?_
        rintro e w1 ⟨rfl, bw⟩
        go_wp2
        go_ret3
        exact ⟨rfl, bw⟩
      · have hmf : ((m : Int) == (f : Int)) = false := by simp; omega
        rw [if_neg hD0]
        clear hm hdl
        by_cases hy : y = 59
        · rw [if_pos hy]
          subst hy
          rw [e59] at c59
          go_enter Tryd.func22, Tryd.ntmps22
          go_wp2_with fail
          go_at_call 30
          refine c0.mono ?_
          rintro e w1 ⟨rfl, rfl⟩
          go_wp2_with fail
          go_at_call 30
          refine cx.mono ?_
          rintro e w1 ⟨rfl, rfl⟩
          go_wp2_with fail
          go_at_call 31
          refine cd.mono ?_
          rintro e w1 ⟨rfl, bw⟩
          go_wp2_with fail
          go_at_call 30
          refine (c59.out _ bw).mono ?_
          rintro e w1 ⟨rfl, rfl⟩
          go_wp2_with fail
          go_at_call 32
          refine (HO.out _ _ bw).mono ?_
          rintro e w1 ⟨rfl, rfl⟩
          go_wp2
          go_ret3
          exact ⟨by unfold numAns; rw [if_pos (by simp only; omega)]; simp, bw⟩
        · have hy2 : (y == 59) = false := by simpa using hy
          rw [if_neg hy]
          rw [hy2] at c59
          go_enter Tryd.func22, Tryd.ntmps22
          go_wp2_with fail
          go_at_call 30
          refine c0.mono ?_
          rintro e w1 ⟨rfl, rfl⟩
          go_wp2_with fail
          go_at_call 30
          refine cx.mono ?_
          rintro e w1 ⟨rfl, rfl⟩
          go_wp2_with fail
          go_at_call 31
          refine cd.mono ?_
          rintro e w1 ⟨rfl, bw⟩
          go_wp2_with fail
          go_at_call 30
          refine (c59.out _ bw).mono ?_
          rintro e w1 ⟨rfl, rfl⟩
          go_wp2_with fail
          go_at_call 32
          refine (HO.out _ _ bw).mono ?_
          rintro e w1 ⟨rfl, rfl⟩
          go_wp2
          go_ret3
          exact ⟨by unfold numAns; rw [if_pos (by simp only; omega)]; simp, bw⟩
    · have e2 : (g : Int) + 1 = (f : Int) := by omega
      clear hg hfk
      rw [e88'] at cx
      rw [e88] at cX
      by_cases hD0 : D = 0
      · have hmf : m = f := by omega
        subst hmf
        rw [if_pos hD0]
        clear hm hD0 hdl c59 HO
        go_enter Tryd.func22, Tryd.ntmps22
        go_wp2_with fail
        go_at_call 30
        refine c0.mono ?_
        rintro e w1 ⟨rfl, rfl⟩
        go_wp2_with fail
        go_at_call 30
        refine cx.mono ?_
        rintro e w1 ⟨rfl, rfl⟩
        go_wp2_with fail
        go_at_call 30
        refine cX.mono ?_
        rintro e w1 ⟨rfl, rfl⟩
        go_wp2_with fail
        go_at_call 31
        refine cd.mono ?_
        rintro e w1 ⟨rfl, bw⟩
        go_wp2
        go_ret3
        exact ⟨rfl, bw⟩
      · have hmf : ((m : Int) == (f : Int)) = false := by simp; omega
        rw [if_neg hD0]
        clear hm hdl
        by_cases hy : y = 59
        · rw [if_pos hy]
          subst hy
          rw [e59] at c59
          go_enter Tryd.func22, Tryd.ntmps22
          go_wp2_with fail
          go_at_call 30
          refine c0.mono ?_
          rintro e w1 ⟨rfl, rfl⟩
          go_wp2_with fail
          go_at_call 30
          refine cx.mono ?_
          rintro e w1 ⟨rfl, rfl⟩
          go_wp2_with fail
          go_at_call 30
          refine cX.mono ?_
          rintro e w1 ⟨rfl, rfl⟩
          go_wp2_with fail
          go_at_call 31
          refine cd.mono ?_
          rintro e w1 ⟨rfl, bw⟩
          go_wp2_with fail
          go_at_call 30
          refine (c59.out _ bw).mono ?_
          rintro e w1 ⟨rfl, rfl⟩
          go_wp2_with fail
          go_at_call 32
          refine (HO.out _ _ bw).mono ?_
          rintro e w1 ⟨rfl, rfl⟩
          go_wp2
          go_ret3
          exact ⟨by unfold numAns; rw [if_pos (by simp only; omega)]; simp, bw⟩
        · have hy2 : (y == 59) = false := by simpa using hy
          rw [if_neg hy]
          rw [hy2] at c59
          go_enter Tryd.func22, Tryd.ntmps22
          go_wp2_with fail
          go_at_call 30
          refine c0.mono ?_
          rintro e w1 ⟨rfl, rfl⟩
          go_wp2_with fail
          go_at_call 30
          refine cx.mono ?_
          rintro e w1 ⟨rfl, rfl⟩
          go_wp2_with fail
          go_at_call 30
          refine cX.mono ?_
          rintro e w1 ⟨rfl, rfl⟩
          go_wp2_with fail
          go_at_call 31
          refine cd.mono ?_
          rintro e w1 ⟨rfl, bw⟩
          go_wp2_with fail
          go_at_call 30
          refine (c59.out _ bw).mono ?_
          rintro e w1 ⟨rfl, rfl⟩
          go_wp2_with fail
          go_at_call 32
          refine (HO.out _ _ bw).mono ?_
          rintro e w1 ⟨rfl, rfl⟩
          go_wp2
          go_ret3
          exact ⟨by unfold numAns; rw [if_pos (by simp only; omega)]; simp, bw⟩
    · subst hfk
      clear hg
      have q1 : (c == 120) = false := by simpa using n1
      have q2 : (c == 88) = false := by simpa using n2
      rw [q1] at cx
      rw [q2] at cX
      by_cases hD0 : D = 0
      · have hmf : m = f := by omega
        subst hmf
        rw [if_pos hD0]
        clear hm hD0 hdl c59 HO
        go_enter Tryd.func22, Tryd.ntmps22
        go_wp2_with fail
        go_at_call 30
        refine c0.mono ?_
        rintro e w1 ⟨rfl, rfl⟩
        go_wp2_with fail
        go_at_call 30
        refine cx.mono ?_
        rintro e w1 ⟨rfl, rfl⟩
        go_wp2_with fail
        go_at_call 30
        refine cX.mono ?_
        rintro e w1 ⟨rfl, rfl⟩
        go_wp2_with fail
        go_at_call 31
        refine cd.mono ?_
        rintro e w1 ⟨rfl, bw⟩
        go_wp2
        go_ret3
        exact ⟨rfl, bw⟩
      · have hmf : ((m : Int) == (f : Int)) = false := by simp; omega
        rw [if_neg hD0]
        clear hm hdl
        by_cases hy : y = 59
        · rw [if_pos hy]
          subst hy
          rw [e59] at c59
          go_enter Tryd.func22, Tryd.ntmps22
          go_wp2_with fail
          go_at_call 30
          refine c0.mono ?_
          rintro e w1 ⟨rfl, rfl⟩
          go_wp2_with fail
          go_at_call 30
          refine cx.mono ?_
          rintro e w1 ⟨rfl, rfl⟩
          go_wp2_with fail
          go_at_call 30
          refine cX.mono ?_
          rintro e w1 ⟨rfl, rfl⟩
          go_wp2_with fail
          go_at_call 31
          refine cd.mono ?_
          rintro e w1 ⟨rfl, bw⟩
          go_wp2_with fail
          go_at_call 30
          refine (c59.out _ bw).mono ?_
          rintro e w1 ⟨rfl, rfl⟩
          go_wp2_with fail
          go_at_call 32
          refine (HO.out _ _ bw).mono ?_
          rintro e w1 ⟨rfl, rfl⟩
          go_wp2
          go_ret3
          exact ⟨by unfold numAns; rw [if_pos (by simp only; omega)]; simp, bw⟩
        · have hy2 : (y == 59) = false := by simpa using hy
          rw [if_neg hy]
          rw [hy2] at c59
          go_enter Tryd.func22, Tryd.ntmps22
          go_wp2_with fail
          go_at_call 30
          refine c0.mono ?_
          rintro e w1 ⟨rfl, rfl⟩
          go_wp2_with fail
          go_at_call 30
          refine cx.mono ?_
          rintro e w1 ⟨rfl, rfl⟩
          go_wp2_with fail
          go_at_call 30
          refine cX.mono ?_
          rintro e w1 ⟨rfl, rfl⟩
          go_wp2_with fail
          go_at_call 31
          refine cd.mono ?_
          rintro e w1 ⟨rfl, bw⟩
          go_wp2_with fail
          go_at_call 30
          refine (c59.out _ bw).mono ?_
          rintro e w1 ⟨rfl, rfl⟩
          go_wp2_with fail
          go_at_call 32
          refine (HO.out _ _ bw).mono ?_
          rintro e w1 ⟨rfl, rfl⟩
          go_wp2
          go_ret3
          exact ⟨by unfold numAns; rw [if_pos (by simp only; omega)]; simp, bw⟩
  · have e35 : (atL xs k == 35) = false := by simpa using h35
    rw [if_neg h35]
    rw [e35] at c0
    clear h35 e35 ho
    go_enter Tryd.func22, Tryd.ntmps22
    go_wp2_with fail
    go_at_call 30
    refine c0.mono ?_
    rintro e w1 ⟨rfl, rfl⟩
    go_wp2
    go_ret3
    exact ⟨rfl, Below.refl _ _⟩
end Go.Proofs.YtggfifchkecnjaaDoor
