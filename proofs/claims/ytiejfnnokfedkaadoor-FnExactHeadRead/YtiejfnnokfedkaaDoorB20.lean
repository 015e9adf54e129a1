import Derived.Test.YtiejfnnokfedkaaDoorB16
import Derived.Test.YtiejfnnokfedkaaDoorB12
/- The program's small questions on heads and areas. No condition. -/
namespace Go.Proofs.YtiejfnnokfedkaaDoor
open Go.RowKit
set_option maxRecDepth 100000
set_option linter.unusedVariables false

theorem iisArea_any (x : Int) (w : World) : Calls Tryd.prog 64 #[.int .i64 x] w fun e w' => e = .returned (.bool (inB x 0 1)) ∧ w' = w := by
  by_cases h1 : 0 ≤ x
  · by_cases h2 : x < 2
    · rw [inB_yes h1 (by omega)]
      go_enter Tryd.func64, Tryd.ntmps64
      go_wp2
      go_ret
      exact ⟨rfl, rfl⟩
    · have : inB x 0 1 = false := by simp [inB]; omega
      rw [this]
      go_enter Tryd.func64, Tryd.ntmps64
      go_wp2
      go_ret
      exact ⟨rfl, rfl⟩
  · have : inB x 0 1 = false := by simp [inB]; omega
    rw [this]
    go_enter Tryd.func64, Tryd.ntmps64
    go_wp2
    go_ret
    exact ⟨rfl, rfl⟩

set_option maxRecDepth 100000 in
theorem iisRight_any (h : PHead) (w : World) : Calls Tryd.prog 29 #[headV h] w fun e w' => e = .returned (.bool (headB h)) ∧ Below w.heap.size w w' := by
  obtain ⟨no, ar, en⟩ := h
  unfold headV
  simp only
  have b1 : Below w.heap.size w (w.alloc (.cells #[.int .i64 no, .int .i64 ar, .int .i64 en] 25)) := (Below.refl _ _).alloc (Nat.le_refl _) _
  have B1 := (show Hid _ from b1)
  clear b1
  obtain ⟨r, hr⟩ : ∃ r, r = headB ⟨no, ar, en⟩ := ⟨_, rfl⟩
  rw [← hr]
  have HR := (show Hid (r = (inB no 1 1000000000 && inB ar 0 1 && inB en 0 4096)) from hr)
  have CA := (show Hid _ from iisArea_any ar)
  clear hr
  by_cases h1 : 1 ≤ no
  · by_cases h2 : no ≤ 1000000000
    · cases hq : inB ar 0 1
      · rw [hq] at CA
        have HF : Hid (r = false) := (show r = false by rw [HR.out, hq]; simp)
        clear HR hq
        go_enter Tryd.func29, Tryd.ntmps29
        go_wp2_with fail
        go_at_call 64
        refine (CA.out _).mono ?_
        rintro e w2 ⟨rfl, e2⟩
        subst e2
        go_wp2
        go_ret
        exact ⟨ret_bool HF.out.symm, B1.out⟩
      · rw [hq] at CA
        by_cases h3 : 0 ≤ en
        · by_cases h4 : en ≤ 4096
          · have HF : Hid (r = true) := (show r = true by rw [HR.out, hq, inB_yes h1 h2, inB_yes h3 h4]; rfl)
            clear HR hq
            go_enter Tryd.func29, Tryd.ntmps29
            go_wp2_with fail
            go_at_call 64
            refine (CA.out _).mono ?_
            rintro e w2 ⟨rfl, e2⟩
            subst e2
            go_wp2
            go_ret
            exact ⟨ret_bool HF.out.symm, B1.out⟩
          · have HF : Hid (r = false) := (show r = false by rw [HR.out, inB_no (x := en) (lo := 0) (hi := 4096) (by omega)]; simp)
            clear HR hq
            go_enter Tryd.func29, Tryd.ntmps29
            go_wp2_with fail
            go_at_call 64
            refine (CA.out _).mono ?_
            rintro e w2 ⟨rfl, e2⟩
            subst e2
            go_wp2
            go_ret
            exact ⟨ret_bool ((decide_eq_false (by omega)).trans HF.out.symm), B1.out⟩
        · have HF : Hid (r = false) := (show r = false by rw [HR.out, inB_no (x := en) (lo := 0) (hi := 4096) (by omega)]; simp)
          clear HR hq
          go_enter Tryd.func29, Tryd.ntmps29
          go_wp2_with fail
          go_at_call 64
          refine (CA.out _).mono ?_
          rintro e w2 ⟨rfl, e2⟩
          subst e2
          go_wp2
          go_ret
          exact ⟨ret_bool HF.out.symm, B1.out⟩
    · have HF : Hid (r = false) := (show r = false by rw [HR.out, inB_no (x := no) (lo := 1) (hi := 1000000000) (by omega)]; simp)
      clear HR CA
      go_enter Tryd.func29, Tryd.ntmps29
      go_wp2
      go_ret
      exact ⟨ret_bool HF.out.symm, B1.out⟩
  · have HF : Hid (r = false) := (show r = false by rw [HR.out, inB_no (x := no) (lo := 1) (hi := 1000000000) (by omega)]; simp)
    clear HR CA
    go_enter Tryd.func29, Tryd.ntmps29
    go_wp2
    go_ret
    exact ⟨ret_bool HF.out.symm, B1.out⟩

/-- What spanOk answers. -/
def spanB (a at' n : Int) : Bool := inB a 0 1 && inB at' 0 4096 && inB n 0 (4096 - at')
theorem ispanOk_any (a at' n : Int) (w : World) : Calls Tryd.prog 49 #[.int .i64 a, .int .i64 at', .int .i64 n] w fun e w' => e = .returned (.bool (spanB a at' n)) ∧ w' = w := by
  obtain ⟨r, hr⟩ : ∃ r, r = spanB a at' n := ⟨_, rfl⟩
  rw [← hr]
  have HR := (show Hid (r = (inB a 0 1 && inB at' 0 4096 && inB n 0 (4096 - at'))) from hr)
  have CA := (show Hid _ from iisArea_any a)
  clear hr
  cases hq : inB a 0 1
  · rw [hq] at CA
    have HF : Hid (r = false) := (show r = false by rw [HR.out, hq]; simp)
    clear HR hq
    go_enter Tryd.func49, Tryd.ntmps49
    go_wp2_with fail
    go_at_call 64
    refine (CA.out _).mono ?_
    rintro e w2 ⟨rfl, e2⟩
    subst e2
    go_wp2
    go_ret
    exact ⟨ret_bool HF.out.symm, rfl⟩
  · rw [hq] at CA
    have HQ := (show Hid _ from hq)
    clear hq
    by_cases h1 : 0 ≤ at' ∧ at' ≤ 4096
    · obtain ⟨h1, h2⟩ := h1
      by_cases h3 : 0 ≤ n
      · by_cases h4 : n ≤ 4096 - at'
        · have HF : Hid (r = true) := (show r = true by rw [HR.out, HQ.out, inB_yes h1 h2, inB_yes h3 h4]; rfl)
          clear HR HQ
          go_enter Tryd.func49, Tryd.ntmps49
          go_wp2_with fail
          go_at_call 64
          refine (CA.out _).mono ?_
          rintro e w2 ⟨rfl, e2⟩
          subst e2
          go_wp2
          go_ret
          exact ⟨ret_bool HF.out.symm, rfl⟩
        · have HF : Hid (r = false) := (show r = false by rw [HR.out, inB_no (x := n) (lo := 0) (hi := 4096 - at') (by omega)]; simp)
          clear HR HQ
          go_enter Tryd.func49, Tryd.ntmps49
          go_wp2_with fail
          go_at_call 64
          refine (CA.out _).mono ?_
          rintro e w2 ⟨rfl, e2⟩
          subst e2
          go_wp2
          go_ret
          exact ⟨ret_bool ((decide_eq_false (by omega)).trans HF.out.symm), rfl⟩
      · have HF : Hid (r = false) := (show r = false by rw [HR.out, inB_no (x := n) (lo := 0) (hi := 4096 - at') (by omega)]; simp)
        clear HR HQ
        go_enter Tryd.func49, Tryd.ntmps49
        go_wp2_with fail
        go_at_call 64
        refine (CA.out _).mono ?_
        rintro e w2 ⟨rfl, e2⟩
        subst e2
        go_wp2
        go_ret
        exact ⟨ret_bool HF.out.symm, rfl⟩
    · have HF : Hid (r = false) := (show r = false by rw [HR.out, inB_no (x := at') (lo := 0) (hi := 4096) (by omega)]; simp)
      clear HR HQ
      by_cases h0 : 0 ≤ at'
      · have h2 : ¬ (at' ≤ 4096) := fun e => h1 ⟨h0, e⟩
        clear h1
        go_enter Tryd.func49, Tryd.ntmps49
        go_wp2_with fail
        go_at_call 64
        refine (CA.out _).mono ?_
        rintro e w2 ⟨rfl, e2⟩
        subst e2
        go_wp2
        go_ret
        exact ⟨ret_bool HF.out.symm, rfl⟩
      · clear h1
        go_enter Tryd.func49, Tryd.ntmps49
        go_wp2_with fail
        go_at_call 64
        refine (CA.out _).mono ?_
        rintro e w2 ⟨rfl, e2⟩
        subst e2
        go_wp2
        go_ret
        exact ⟨ret_bool HF.out.symm, rfl⟩

theorem isectorAt_any (a : Int) (k : Nat) (w : World) (ha : a = 0 ∨ a = 1) (hk : k ≤ 4096) : Calls Tryd.prog 50 #[.int .i64 a, .int .i64 (k : Int)] w fun e w' => e = .returned (.int .i64 (2 + 64 * a + ((k / 64 : Nat) : Int))) ∧ w' = w := by
  obtain ⟨x, hx⟩ : ∃ x : Int, x = (k : Int) := ⟨_, rfl⟩
  have HX := (show Hid (x = (k : Int)) from hx)
  have h0 : 0 ≤ x := by omega
  have h1 : x ≤ 4096 := by omega
  rw [← hx]
  clear hx hk
  go_enter Tryd.func50, Tryd.ntmps50
  go_wp2
  go_ret
  refine ⟨ret_int ?_, rfl⟩
  have hx := HX.out
  rcases ha with rfl | rfl <;> simp <;> omega
end Go.Proofs.YtiejfnnokfedkaaDoor

/- slices.Grow and slices.Concat of three. No condition. -/
namespace Go.Proofs.YtiejfnnokfedkaaDoor
open Go.RowKit
set_option maxRecDepth 100000
set_option linter.unusedVariables false

set_option maxRecDepth 100000 in
theorem igrow_any (n : Nat) (w : World) (h0 : 0 < n) (h1 : n ≤ 1000) :
    Calls Tryd.prog 65 #[.slice none 0 0, .int .i64 (n : Int)] w fun e w' => ∃ v', e = .returned v' ∧ Own w.heap.size 5 .u8 w' v' [] ∧ Below w.heap.size w w' := by
  obtain ⟨i0, hi, hz0, hz1, hz2⟩ := info_parts Tryd.infoB
  have hb5 : Tryd.t5.bytes = 1 := rfl
  have hp : ¬ ((n : Int) < 0) := by omega
  have hq : (0 : Int) < (n : Int) := by omega
  go_enter Tryd.func65, Tryd.ntmps65
  go_wp2_with fail
  · exfalso; have hn := nextslicecap_zero h0; rename_i h _ _ _; simp only [hb5, hn] at *; omega
  · go_ret
    have hge := grownCap_ge w n 0 5
    have hm := grownCap_le_maxLen w n 0 5 (by unfold maxLen; omega)
    have o1 := World.ownsRow_made (e := 5) (size := 1) w (Builtin.zeroCells #[Value.int IntKind.u8 0] n ++ Builtin.zeroCells #[Value.int IntKind.u8 0] (grownCap w n 0 5 - n)) (grownCap w n 0 5) (Nat.le_refl _) hm (by rw [Array.size_append, size_zeroCells, size_zeroCells]; simp; omega)
    exact ⟨_, rfl, Own.below (show Own w.heap.size 5 .u8 _ _ [] from o1) (below_drewN 1), ((Below.refl _ _).alloc (Nat.le_refl _) _).trans (below_drewN 1)⟩

def catP (ps : List (Value × List Int)) : List Int := ps.flatMap (·.2)
theorem catP_take {ps : List (Value × List Int)} {k : Nat} (hk : k < ps.length) : catP (ps.take (k + 1)) = catP (ps.take k) ++ ps[k].2 := by
  unfold catP; rw [List.take_succ_eq_append_getElem hk, List.flatMap_append]; simp
theorem catP_len {ps : List (Value × List Int)} (h : ∀ p ∈ ps, p.2.length ≤ 300) : (catP ps).length ≤ ps.length * 300 := by
  induction ps with
  | nil => simp [catP]
  | cons p ps ih =>
    have e : catP (p :: ps) = p.2 ++ catP ps := rfl
    have h1 := h p (by simp)
    have h2 := ih (fun q hq => h q (by simp [hq]))
    rw [e, List.length_append, List.length_cons]; omega

set_option maxRecDepth 100000 in
theorem iconcat_any {w : World} {b : Nat} {ps : List (Value × List Int)} (hb : b < w.heap.size) (hc : ∀ k (hk : k < ps.length), w.cell? ⟨b, k, none⟩ = some ps[k].1 ∧ Sl .u8 w ps[k].1 ps[k].2) (hl : ps.length ≤ 3) (hs : ∀ p ∈ ps, p.2.length ≤ 300) (hpos : 0 < (catP ps).length) :
    Calls Tryd.prog 30 #[.slice (some ⟨b, 0, none⟩) ps.length ps.length] w fun e w' => ∃ v', e = .returned v' ∧ Own w.heap.size 5 .u8 w' v' (catP ps) ∧ Below w.heap.size w w' := by
  have HC := (show Hid (∀ k (hk : k < ps.length), w.cell? ⟨b, k, none⟩ = some ps[k].1 ∧ Sl .u8 w ps[k].1 ps[k].2) from hc)
  have HS := (show Hid _ from hs)
  clear hc hs
  go_enter Tryd.func30, Tryd.ntmps30
  go_wp2
  go_loopw [3, 11] (fun z i wr => ∃ k : Nat, k ≤ ps.length ∧ i = .int .i64 (k : Int) ∧ z = .int .i64 ((catP (ps.take k)).length : Int) ∧ Hid (w = wr)) (fun _ i _ => ps.length - (intOf i).toNat)
  case atStart => exact ⟨0, Nat.zero_le _, rfl, rfl, rfl⟩
  case round =>
    obtain ⟨k, hk, rfl, rfl, hw⟩ := hrel
    have ew := hw.out
    subst ew
    by_cases hlt : k < ps.length
    · obtain ⟨c1, s1⟩ := HC.out k hlt
      have hl1 := HS.out _ (List.getElem_mem hlt)
      have hl2 := catP_len (ps := ps.take k) (fun p hp => HS.out p (List.mem_of_mem_take hp))
      have e3 : (catP (ps.take (k + 1))).length = (catP (ps.take k)).length + ps[k].2.length := by rw [catP_take hlt, List.length_append]
      have E3 := (show Hid _ from e3)
      rw [List.length_take] at hl2
      obtain ⟨a, ca, e1, _, _, _, _⟩ := s1
      rw [e1] at c1
      have hlt' : (k : Int) < (ps.length : Int) := by omega
      obtain ⟨m, hm⟩ : ∃ m, m = ps[k].2.length := ⟨_, rfl⟩
      obtain ⟨t, ht⟩ : ∃ t, t = (catP (ps.take k)).length := ⟨_, rfl⟩
      rw [← hm] at c1 hl1 E3
      rw [← ht] at hl2 E3
      rw [← ht]
      have ht2 : t ≤ 900 := by omega
      clear e1 e3 hm ht hl2
      go_wp2
      go_roundw
      case rel => exact ⟨k + 1, hlt, by go_num, by rw [E3.out]; go_num, trivial⟩
      case measure => simp [intOf]; omega
    · have hke : k = ps.length := by omega
      subst hke
      rw [List.take_length]
      have hc2 := catP_len (ps := ps) (fun p hp => HS.out p hp)
      go_wp2_with fail
      go_at_call 65
      refine (igrow_any _ _ hpos (by omega)).mono ?_
      rintro e w2 ⟨v2, rfl, o2, b2⟩
      have hb2 := b2.size
      obtain ⟨i0, hi, hz0, hz1, hz2⟩ := info_parts Tryd.infoB
      have O2 := (show Hid (Own w.heap.size 5 .u8 w2 v2 [] ∧ Below w.heap.size w w2) from ⟨o2, b2⟩)
      clear o2 b2 hw hlt hk
      go_wp2
      go_loopw [6, 27] (fun z i wq => ∃ k : Nat, k ≤ ps.length ∧ i = .int .i64 (k : Int) ∧ Own w.heap.size 5 .u8 wq z (catP (ps.take k)) ∧ Below w.heap.size w wq) (fun _ i _ => ps.length - (intOf i).toNat)
      case atStart => exact ⟨0, Nat.zero_le _, rfl, O2.out.1, O2.out.2⟩
      case round =>
        obtain ⟨k, hk, rfl, o3, b3⟩ := hrel
        by_cases hlt : k < ps.length
        · obtain ⟨c1, s1⟩ := HC.out k hlt
          have hl1 := HS.out _ (List.getElem_mem hlt)
          have hl2 := catP_len (ps := ps.take k) (fun p hp => HS.out p (List.mem_of_mem_take hp))
          rw [List.length_take] at hl2
          have hlt' : (k : Int) < (ps.length : Int) := by omega
          have c2 := (b3.cell (p := ⟨b, k, none⟩) hb).trans c1
          have S2 := (show Hid _ from s1.below b3)
          have CT := (show Hid _ from catP_take hlt)
          have O3 := (show Hid (Own _ 5 .u8 _ _ _) from o3)
          have B3 := (show Hid (Below _ _ _) from b3)
          have hb3 := b3.size
          obtain ⟨p, hp⟩ : ∃ p, p = ps[k] := ⟨_, rfl⟩
          rw [← hp] at c2 S2 hl1 CT
          obtain ⟨pv, pl⟩ := p
          simp only at c2 S2 hl1 CT
          obtain ⟨tl, ht⟩ : ∃ t, t = catP (ps.take k) := ⟨_, rfl⟩
          rw [← ht] at O3 CT hl2
          have ht2 : tl.length ≤ 900 := by omega
          clear o3 b3 c1 s1 hp ht hl2
          go_wp2_with (at_builtin
                       refine wpList_app _ rfl _ _ 22 rfl w.heap.size 5 i0 (.int .u8 0) 1 Tryd.underlying22 hi hz0 hz1 hz2 rfl .u8 _ _ tl pl rfl rfl O3.out S2.out (by omega) (by unfold maxLen; omega) hb3 ?_
                       intro v' w4 o4 g4)
          go_roundw
          case rel => exact ⟨k + 1, hlt, by go_num, by rw [CT.out]; exact o4, B3.out.grown g4 hb3 O3.out.grownAt⟩
          case measure => simp [intOf]; omega
        · have hke : k = ps.length := by omega
          subst hke
          rw [List.take_length] at o3
          have O3 := (show Hid (Own _ 5 .u8 _ _ _) from o3)
          have B3 := (show Hid (Below _ _ _) from b3)
          clear o3 b3
          go_wp2
          go_ret
          exact ⟨_, rfl, O3.out, B3.out⟩
end Go.Proofs.YtiejfnnokfedkaaDoor

/- The program's DiskOk. No condition. -/
namespace Go.Proofs.YtiejfnnokfedkaaDoor
open Go.RowKit
set_option maxRecDepth 100000
set_option linter.unusedVariables false

theorem ihasSector_any (x : Int) (w : World) : Calls Tryd.prog 42 #[.int .i64 x] w fun e w' => e = .returned (.bool (inB x 0 129)) ∧ w' = w := by
  by_cases h1 : 0 ≤ x
  · by_cases h2 : x < 130
    · rw [inB_yes h1 (by omega)]
      go_enter Tryd.func42, Tryd.ntmps42
      go_wp2
      go_ret
      exact ⟨rfl, rfl⟩
    · have : inB x 0 129 = false := by simp [inB]; omega
      rw [this]
      go_enter Tryd.func42, Tryd.ntmps42
      go_wp2
      go_ret
      exact ⟨rfl, rfl⟩
  · have : inB x 0 129 = false := by simp [inB]; omega
    rw [this]
    go_enter Tryd.func42, Tryd.ntmps42
    go_wp2
    go_ret
    exact ⟨rfl, rfl⟩

/-- A put that is right. -/
def putB (p : Int × ByteArray) : Bool := inB p.1 0 129 && decide (p.2.size = 64)
set_option maxRecDepth 100000 in
theorem iputOk_any (x : Int) (s : ByteArray) (w : World) (hs : s.size ≤ 1099511627776) : Calls Tryd.prog 75 #[.agg #[.int .i64 x, .string s]] w fun e w' => e = .returned (.bool (putB (x, s))) ∧ Below w.heap.size w w' := by
  obtain ⟨w1, hw1⟩ : ∃ y, y = w.alloc (.cells #[.int .i64 x, .string s] 76) := ⟨_, rfl⟩
  have b1 : Below w.heap.size w w1 := by rw [hw1]; exact (Below.refl _ _).alloc (Nat.le_refl _) _
  have x1 : w1.heap[w.heap.size]? = some (.cells #[.int .i64 x, .string s] 76 (0, 0)) := by rw [hw1]; exact World.alloc_heap_new _ _
  obtain ⟨q1, q2, _, _⟩ := rk_two x1
  have B1 := (show Hid (Below w.heap.size w w1) from b1)
  have Q := (show Hid _ from q2)
  clear x1 b1 q2
  go_enter Tryd.func75, Tryd.ntmps75
  go_wp2_with fail
  go_at_call 42
  rw [← hw1]
  refine (ihasSector_any x w1).mono ?_
  rintro e w2 ⟨rfl, e2⟩
  subst e2
  clear hw1
  have q2 := Q.out
  cases hi : inB x 0 129
  · have HR : Hid (putB (x, s) = false) := (show putB (x, s) = false by simp [putB, hi])
    clear hi
    go_wp2
    go_ret
    exact ⟨ret_bool HR.out.symm, B1.out⟩
  · by_cases e : s.size = 64
    · have HR : Hid (putB (x, s) = true) := (show putB (x, s) = true by simp [putB, hi, e])
      have hn : ((s.size : Int) == 64) = true := by simp; omega
      clear hi e
      go_wp2
      go_ret
      exact ⟨ret_bool HR.out.symm, B1.out⟩
    · have HR : Hid (putB (x, s) = false) := (show putB (x, s) = false by simp [putB, hi, e])
      have hn : ((s.size : Int) == 64) = false := by simp; omega
      clear hi e
      go_wp2
      go_ret
      exact ⟨ret_bool HR.out.symm, B1.out⟩

theorem putB_no {d : PDisk} {k : Nat} (hk : k < d.late.length) (h : putB d.late[k] = false) : diskB d = false := by
  apply diskB_no4 hk
  simp only [putB, Bool.and_eq_false_iff, decide_eq_false_iff_not] at h
  exact h
theorem putB_yes {p : Int × ByteArray} (h : putB p = true) : inB p.1 0 129 = true ∧ p.2.size = 64 := by simpa [putB] using h

set_option maxHeartbeats 2000000 in
set_option maxRecDepth 100000 in
theorem idiskOk_any {w : World} {v : Value} {d : PDisk} (h : DiskAt w v d) (hf : DiskFit d) :
    Calls Tryd.prog 41 #[v] w fun e w' => e = .returned (.bool (diskB d)) ∧ Below w.heap.size w w' := by
  obtain ⟨sa, sn, sc, la, ln, lc, rfl, h1, h2⟩ := h
  have f1 := hf.sl
  have f2 := hf.ll
  have F3 := (show Hid (∀ s ∈ d.safe, s.size ≤ 1099511627776) from hf.st)
  have F4 := (show Hid (∀ p ∈ d.late, p.2.size ≤ 1099511627776) from hf.lt)
  obtain ⟨a1, c1, e1, _, _, hs⟩ := h1.str
  cases e1
  obtain ⟨a2, c2, e2, _, _, hp⟩ := h2.put
  cases e2
  have HS := (show Hid (∀ k (hk : k < d.safe.length), ∃ b off, sa = some ⟨b, off, none⟩ ∧ b < w.heap.size ∧ w.cell? ⟨b, off + k, none⟩ = some (.string d.safe[k])) from hs)
  have HP := (show Hid (∀ k (hk : k < d.late.length), ∃ b off, la = some ⟨b, off, none⟩ ∧ b < w.heap.size ∧ w.cell? ⟨b, off + k * 2, none⟩ = some (.int .i64 d.late[k].1) ∧ w.cell? ⟨b, off + k * 2 + 1, none⟩ = some (.string d.late[k].2)) from hp)
  clear h1 h2 hf hs hp
  obtain ⟨w1, hw1⟩ : ∃ x, x = w.alloc (.cells #[.slice sa d.safe.length sc, .slice la d.late.length lc] 34) := ⟨_, rfl⟩
  have b1 : Below w.heap.size w w1 := by rw [hw1]; exact (Below.refl _ _).alloc (Nat.le_refl _) _
  have x1 : w1.heap[w.heap.size]? = some (.cells #[.slice sa d.safe.length sc, .slice la d.late.length lc] 34 (0, 0)) := by rw [hw1]; exact World.alloc_heap_new _ _
  have X1 := (show Hid _ from x1)
  have B1 := (show Hid (Below w.heap.size w w1) from b1)
  obtain ⟨q1, q2, _, _⟩ := rk_two x1
  have Q := (show Hid (w1.cell? ⟨w.heap.size, 0, none⟩ = some (.slice sa d.safe.length sc) ∧ w1.cell? ⟨w.heap.size, 1, none⟩ = some (.slice la d.late.length lc)) from ⟨q1, q2⟩)
  clear x1 b1 q1 q2
  by_cases hl1 : d.safe.length = 130
  · by_cases hl2 : d.late.length ≤ 200
    · have hl2' : ¬ (200 < (d.late.length : Int)) := by omega
      have hn1 : ((d.safe.length : Int) != 130) = false := by simp; omega
      have HL1 := (show Hid (d.safe.length = 130) from hl1)
      clear hl1
      obtain ⟨q1, q2⟩ := Q.out
      go_enter Tryd.func41, Tryd.ntmps41
      go_wp2
      rw [← hw1]
      go_loopw [20] (fun i wr => ∃ k : Nat, k ≤ d.safe.length ∧ i = .int .i64 k ∧ (∀ j (hj : j < d.safe.length), j < k → d.safe[j].size = 64) ∧ w1 = wr) (fun i _ => d.safe.length - (intOf i).toNat)
      case atStart => exact ⟨0, Nat.zero_le _, rfl, fun j hj h => by omega, rfl⟩
      case round =>
        obtain ⟨k, hk, rfl, he, rfl⟩ := hrel
        have HE := (show Hid (∀ j (hj : j < d.safe.length), j < k → d.safe[j].size = 64) from he)
        clear he hw1
        by_cases hlt : k < d.safe.length
        · obtain ⟨b, o, rfl, hb, c⟩ := HS.out k hlt
          have c' := (B1.out.cell (p := ⟨b, o + k, none⟩) hb).trans c
          have hz := F3.out _ (List.getElem_mem hlt)
          have HN := (show Hid (d.safe[k].size ≠ 64 → diskB d = false) from diskB_no3 hlt)
          have HX := (show Hid (d.safe[k].size = 64 → ∀ j (hj : j < d.safe.length), j < k + 1 → d.safe[j].size = 64) from fun e j hj h => by
            by_cases e2 : j = k
            · subst e2; exact e
            · exact HE.out j hj (by omega))
          obtain ⟨x, hx⟩ : ∃ x, x = d.safe[k] := ⟨_, rfl⟩
          rw [← hx] at c' hz HN HX
          clear hx c
          by_cases e : x.size = 64
          · have hn : ((x.size : Int) != 64) = false := by simp; omega
            have HX' := (show Hid _ from HX.out e)
            clear HX HN e
            go_wp2
            go_roundw
            case rel => exact ⟨k + 1, by omega, by go_num, HX'.out, by first | rfl | trivial⟩
            case measure => simp [intOf]; omega
          · have hn : ((x.size : Int) != 64) = true := by simp; omega
            have HN' := (show Hid _ from HN.out e)
            clear HX HN e
            go_wp2
            go_ret
            exact ⟨ret_bool HN'.out.symm, B1.out⟩
        · have HE2 := (show Hid (∀ j (hj : j < d.safe.length), d.safe[j].size = 64) from fun j hj => HE.out j hj (by omega))
          clear HE
          go_wp2
          go_loopw [31] (fun i wr => ∃ k : Nat, k ≤ d.late.length ∧ i = .int .i64 k ∧ (∀ j (hj : j < d.late.length), j < k → inB d.late[j].1 0 129 = true ∧ d.late[j].2.size = 64) ∧ Below w1.heap.size w1 wr) (fun i _ => d.late.length - (intOf i).toNat)
          case atStart => exact ⟨0, Nat.zero_le _, rfl, fun j hj h => by omega, Below.refl _ _⟩
          case round =>
            clear q1 q2
            obtain ⟨m, hm, rfl, he, bel⟩ := hrel
            have HE := (show Hid (∀ j (hj : j < d.late.length), j < m → inB d.late[j].1 0 129 = true ∧ d.late[j].2.size = 64) from he)
            clear he
            by_cases hlt2 : m < d.late.length
            · obtain ⟨b, o, rfl, hb, c3, c4⟩ := HP.out m hlt2
              have hb1 : b < w1.heap.size := Nat.lt_of_lt_of_le hb B1.out.size
              have c3' := (bel.cell (p := ⟨b, o + m * 2, none⟩) hb1).trans ((B1.out.cell (p := ⟨b, o + m * 2, none⟩) hb).trans c3)
              have c4' := (bel.cell (p := ⟨b, o + m * 2 + 1, none⟩) hb1).trans ((B1.out.cell (p := ⟨b, o + m * 2 + 1, none⟩) hb).trans c4)
              have hz := F4.out _ (List.getElem_mem hlt2)
              have HN := (show Hid (putB d.late[m] = false → diskB d = false) from putB_no hlt2)
              have HX := (show Hid (putB d.late[m] = true → ∀ j (hj : j < d.late.length), j < m + 1 → inB d.late[j].1 0 129 = true ∧ d.late[j].2.size = 64) from fun e j hj h => by
                by_cases e2 : j = m
                · subst e2; exact putB_yes e
                · exact HE.out j hj (by omega))
              obtain ⟨x, hx⟩ : ∃ x, x = d.late[m] := ⟨_, rfl⟩
              rw [← hx] at c3' c4' hz HN HX
              obtain ⟨xa, xs⟩ := x
              simp only at c3' c4' hz HN HX
              clear hx c3 c4
              obtain ⟨wx, hwx⟩ : ∃ wx, wx = wr.alloc (.cells #[.int .i64 xa, .string xs] 76) := ⟨_, rfl⟩
              have bx : Below wr.heap.size wr wx := by rw [hwx]; exact (Below.refl _ _).alloc (Nat.le_refl _) _
              have belx := bel.trans (bx.mono bel.size)
              have CC := iputOk_any xa xs wx hz
              obtain ⟨r, hr⟩ : ∃ r, r = putB (xa, xs) := ⟨_, rfl⟩
              rw [← hr] at CC HN HX
              have C2 := (show Hid _ from CC)
              have BX := (show Hid (Below w1.heap.size w1 wx) from belx)
              clear hr CC bx belx
              go_wp2_with fail
              go_at_call 75
              rw [← hwx]
              refine Calls.mono C2.out ?_
              rintro e w2 ⟨rfl, b2⟩
              replace b2 := BX.out.trans (b2.mono BX.out.size)
              clear C2 hwx c3' c4'
              cases r
              · have HN' := (show Hid _ from HN.out rfl)
                clear HX HN
                go_wp2
                go_ret
                exact ⟨ret_bool HN'.out.symm, B1.out.trans (b2.mono B1.out.size)⟩
              · have HX' := (show Hid _ from HX.out rfl)
                clear HX HN
                go_wp2
                go_roundw
                case rel => exact ⟨m + 1, by omega, by go_num, HX'.out, b2⟩
                case measure => simp [intOf]; omega
            · have HD : Hid (diskB d = true) := diskB_yes HL1.out hl2 HE2.out (fun j hj => HE.out j hj (by omega))
              go_wp2
              go_ret
              exact ⟨ret_bool HD.out.symm, B1.out.trans (bel.mono B1.out.size)⟩
    · have hn1 : ((d.safe.length : Int) != 130) = false := by simp; omega
      have hl2' : 200 < (d.late.length : Int) := by omega
      have HD := (show Hid (diskB d = false) from diskB_no2 (by omega))
      clear hl1
      have B2 := (show Hid _ from B1.out)
      rw [hw1] at B2
      go_enter Tryd.func41, Tryd.ntmps41
      go_wp2
      go_ret
      exact ⟨ret_bool HD.out.symm, B2.out⟩
  · have hn1 : ((d.safe.length : Int) != 130) = true := by simp; omega
    have HD := (show Hid (diskB d = false) from diskB_no1 hl1)
    have B2 := (show Hid _ from B1.out)
    rw [hw1] at B2
    go_enter Tryd.func41, Tryd.ntmps41
    go_wp2
    go_ret
    exact ⟨ret_bool HD.out.symm, B2.out⟩
end Go.Proofs.YtiejfnnokfedkaaDoor

/- The program's copies of rows (written by mk/icopyr.py). No condition. -/
namespace Go.Proofs.YtiejfnnokfedkaaDoor
open Go.RowKit
set_option maxRecDepth 100000
set_option linter.unusedVariables false

/-- A row of the call's own, or one that is empty and has no room. -/
def OwnZ (B e size : Nat) (w : World) (v : Value) (n : Nat) (xs : List Value) : Prop := w.ownsRow B e size v n xs ∨ (n = 0 ∧ xs = [] ∧ ∃ a, v = .slice (some a) 0 0)

/-- 's = append(s[:0:0], u...)'. -/
theorem wpList_app0 {P : Program} (w : World) {ops : Array Oper} {rest : List Oper} {o : Oper} {a : Act} {Q : Exit → Act → World → Prop} (hgd : o.guard = none)
    (s x : Operand) (t : TypeId) (ho : o.op = Op.call { callee := Callee.builtin Builtin.append, args := #[s, x], argTypes := #[t, t] }) (B : Nat) (e : TypeId) (i : TypeInfo)
    (z : Value) (size bytes : Nat) (ht : P.underlying t = some (TypeDesc.slice e)) (hi : P.info? e = some i) (hz : i.zero = some z) (hsize : i.size = size) (hby : i.bytes = bytes)
    (hzs : z.cells.size = size) (hpos : 0 < size) (ad bd : Addr) (m cap : Nat) (ys : List Value) (hs : a.eval s = .slice (some ad) 0 0) (hx : a.eval x = .slice (some bd) m cap) (hu : Sv size w (.slice (some bd) m cap) ys)
    (hb : m * bytes ≤ 140737488355328) (h63 : m ≤ maxLen) (hbase : B ≤ w.heap.size)
    (h : ∀ (v' : Value) (w' : World), OwnZ B e size w' v' m ys → Below w.heap.size w w' → wpList P ops Q rest (a.put o.dst v') w') :
    wpList P ops Q (o :: rest) a w := by
  subst hsize
  subst hby
  obtain ⟨ao, len, cap', ev, hl, hlc, hcm, hnone, hc⟩ := hu
  cases ev
  have hnews : ∀ j y, ys[j]? = some y → w.cell? (bd.add j) = some y := by
    intro j y hy
    have hj : j < ys.length := by
      by_cases hj : j < ys.length
      · exact hj
      · rw [List.getElem?_eq_none (Nat.le_of_not_lt hj)] at hy; cases hy
    obtain ⟨b, off, e, c⟩ := hc j hj
    cases e
    have e2 : ys.getD j undef = y := by rw [List.getD_eq_getElem?_getD, hy]; rfl
    rw [e2] at c
    rw [← c]
    by_cases h0 : j = 0
    · subst h0; simp [Addr.add]
    · simp [Addr.add, h0]
  refine wpList_plain hgd fun K hK => ?_
  by_cases hm : m = 0
  · subst hm
    have hy : ys = [] := List.length_eq_zero_iff.mp (by omega)
    subst hy
    have hr : (Builtin.append_ #[t, t] o.type #[.slice (some ad) 0 0, .slice (some bd) 0 cap]).run P w = .ok (.slice (some ad) 0 0) w := by
      simp [Builtin.append_, run_underlying ht, sizeOf, typeInfo, hi, Builtin.lenOf, Builtin.firstCells, loadCells, loadCellsFrom, storeCells]
    unfold Oper.wp execOp
    simp only [ho, resolve, invoke, builtin, Sem.run_bind, Sem.run_pure, Result.andThen_ok, List.map_toArray, List.map_cons, List.map_nil, hs, hx, hr]
    exact hK _ _ (h _ _ (.inr ⟨rfl, rfl, ad, rfl⟩) (Below.refl _ _))
  · have hr := run_append_grow (P := P) w t o.type e i z ht hi hz ad 0 0 [] (by simp) (fun j y hy => by simp at hy) bd m cap ys hl hnews (by omega) (by simp only [maxLen] at h63; omega) (growslice_fits (by omega) (by rw [Nat.zero_add]; exact hb))
    simp only [Nat.zero_add, Array.empty_append] at hr
    unfold Oper.wp execOp
    simp only [ho, resolve, invoke, builtin, Sem.run_bind, Sem.run_pure, Result.andThen_ok, List.map_toArray, List.map_cons, List.map_nil, hs, hx, hr]
    have hge := grownCap_ge w m 0 e
    have hgm := grownCap_le_maxLen w m 0 e h63
    refine hK _ _ (h _ _ (.inl ⟨hl, .inr ⟨w.heap.size, _, _, rfl, hbase, heap_alloc_new w.drew _, hge, hgm, ?_, ?_⟩⟩) ?_)
    · simp only [Array.size_append, List.size_toArray, size_zeroCells, hzs, hl]
      rw [← Nat.add_mul]
      congr 1
      omega
    · simp only [Array.toList_append]
      rw [← hl]
      exact List.take_left
    · exact ⟨rfl, rfl, rfl, by simp, fun k hk => (Below.heap_alloc w.drew _ k hk)⟩

/-- What an append onto a row turns: that row's block, if it has one, and it is of the row's type. -/
structure GrewZ (B e : Nat) (w w' : World) (row : Option Nat) : Prop where
  grown : w.grownBy w' row
  kind : ∀ r, row = some r → B ≤ r ∧ ∃ cs fr, w.heap[r]? = some (.cells cs e fr)
theorem GrewZ.keep {B e : Nat} {w w' : World} {row : Option Nat} (h : GrewZ B e w w' row) {j : Nat} {cs : Array Value} {t : TypeId} {fr : Nat × Nat} (hj : w.heap[j]? = some (.cells cs t fr)) (ht : t ≠ e) : w'.heap[j]? = some (.cells cs t fr) := by
  refine (h.grown.block j (lt_of_block hj) (fun er => ?_)).trans hj
  obtain ⟨_, c2, f2, h2⟩ := h.kind j er.symm
  rw [hj] at h2
  cases h2
  exact ht rfl
theorem GrewZ.row {B e B' e' size n : Nat} {w w' : World} {row : Option Nat} {v : Value} {xs : List Value} (h : GrewZ B e w w' row) (o : w.ownsRow B' e' size v n xs) (ht : e ≠ e') : w'.ownsRow B' e' size v n xs :=
  rk_type o h.grown (fun r er => by obtain ⟨_, c, f, hh⟩ := h.kind r er; exact ⟨c, e, f, hh, ht⟩)
theorem GrewZ.rowZ {B e B' e' size n : Nat} {w w' : World} {row : Option Nat} {v : Value} {xs : List Value} (h : GrewZ B e w w' row) (o : OwnZ B' e' size w v n xs) (ht : e ≠ e') : OwnZ B' e' size w' v n xs := by
  rcases o with o | o
  · exact .inl (h.row o ht)
  · exact .inr o
theorem GrewZ.below {B e : Nat} {w0 w w' : World} {row : Option Nat} (h : GrewZ B e w w' row) (b : Below B w0 w) (hB : B ≤ w.heap.size) : Below B w0 w' :=
  b.grown h.grown hB (fun r er => (h.kind r er).1)
/-- 'v = append(v, u...)', v as a copy of a row is, u some. -/
theorem wpList_appZ {P : Program} (w : World) {ops : Array Oper} {rest : List Oper} {o : Oper} {a : Act} {Q : Exit → Act → World → Prop} (hgd : o.guard = none)
    (s x : Operand) (t : TypeId) (ho : o.op = Op.call { callee := Callee.builtin Builtin.append, args := #[s, x], argTypes := #[t, t] }) (B : Nat) (e : TypeId) (i : TypeInfo)
    (z : Value) (size bytes : Nat) (ht : P.underlying t = some (TypeDesc.slice e)) (hi : P.info? e = some i) (hz : i.zero = some z) (hsize : i.size = size) (hby : i.bytes = bytes)
    (hzs : z.cells.size = size) (hpos : 0 < size) (v : Value) (n : Nat) (xs : List Value) (bd : Addr) (m cap : Nat) (ys : List Value) (hs : a.eval s = v) (hx : a.eval x = .slice (some bd) m cap) (hown : OwnZ B e size w v n xs) (hu : Sv size w (.slice (some bd) m cap) ys)
    (hm : 0 < m) (h1 : ∀ y ∈ ys, y.oneCell' = true) (hb : (n + m) * bytes ≤ 140737488355328) (h63 : n + m ≤ maxLen) (hbase : B ≤ w.heap.size)
    (h : ∀ (v' : Value) (w' : World) (row : Option Nat), w'.ownsRow B e size v' (n + m) (xs ++ ys) → GrewZ B e w w' row → wpList P ops Q rest (a.put o.dst v') w') :
    wpList P ops Q (o :: rest) a w := by
  have hl : ys.length = m * size := by
    obtain ⟨_, _, _, ev, hl, _⟩ := hu
    cases ev; exact hl
  rcases hown with hown | ⟨rfl, rfl, ad, rfl⟩
  · exact wpList_appV w hgd s x t ho B e i z size bytes ht hi hz hsize hby hzs hpos v _ n m xs ys hs hx hown hu hl h1 hb h63 hbase fun v' w' o' g' => h v' w' _ o' ⟨g', fun r er => ⟨(World.ownsRow.lt hown r er).1, rk_kind hown er⟩⟩
  · refine wpList_app0 w hgd s x t ho B e i z size bytes ht hi hz hsize hby hzs hpos ad bd m cap ys hs hx hu (by simpa using hb) (by simpa using h63) hbase fun v' w' o' b' => ?_
    rcases o' with o' | ⟨h0, _⟩
    · exact h v' w' none (by simpa using o') ⟨⟨b'.os, b'.tape, b'.output, b'.size, fun k hk _ => b'.block k hk⟩, fun r er => by cases er⟩
    · omega
theorem Tryd.infoSec : (Tryd.prog.info? 59).map (fun i => (i.zero, i.size, i.bytes)) = some (some (.agg (Array.replicate 64 (.int .u8 0))), 64, 64) := by kernel_rfl

set_option maxRecDepth 100000 in
theorem icopyS_any {w : World} {v : Value} {xs : List Value} {m : Nat} (h : Sv 1 w v xs) (hm : xs.length = m * 1) (hn : m ≤ 1048576) :
    Calls Tryd.prog 77 #[v] w fun e w' => ∃ v', e = .returned v' ∧ OwnZ w.heap.size 9 1 w' v' m xs ∧ Below w.heap.size w w' := by
  obtain ⟨i0, hi, hz0, hz1, hz2⟩ := info_parts Tryd.infoStr
  have H := (show Hid (Sv 1 w v xs) from h)
  obtain ⟨a, len, cap, rfl, hl, hlc, hcm, hnone, hc⟩ := h
  have hlm : len = m := by omega
  subst hlm
  clear hl hc
  cases a with
  | none =>
    have hc0 := hnone rfl
    subst hc0
    have hl0 : len = 0 := by omega
    subst hl0
    have HX : Hid (xs = []) := (show xs = [] from List.length_eq_zero_iff.mp (by omega))
    clear hm hnone
    go_enter Tryd.func77, Tryd.ntmps77
    go_wp2
    go_ret
    rw [HX.out]
    exact ⟨_, rfl, .inl (World.ownsRow_nil _ _ _ _), Below.refl _ _⟩
  | some a =>
    go_enter Tryd.func77, Tryd.ntmps77
    go_wp2_with (at_builtin
                 refine wpList_app0 _ rfl (.tmp 4) (.tmp 5) 31 rfl w.heap.size 9 i0 _ 1 16 Tryd.underlying31 hi hz0 hz1 hz2 (by decide) (by decide) a a len cap xs rfl rfl H.out (by omega) (by unfold maxLen; omega) (Nat.le_refl _) ?_
                 intro v2 w2 o2 b2)
    go_ret
    exact ⟨_, rfl, o2, b2⟩

set_option maxRecDepth 100000 in
theorem icopyP_any {w : World} {v : Value} {xs : List Value} {m : Nat} (h : Sv 2 w v xs) (hm : xs.length = m * 2) (hn : m ≤ 1048576) :
    Calls Tryd.prog 78 #[v] w fun e w' => ∃ v', e = .returned v' ∧ OwnZ w.heap.size 76 2 w' v' m xs ∧ Below w.heap.size w w' := by
  obtain ⟨i0, hi, hz0, hz1, hz2⟩ := info_parts Tryd.infoPut
  have H := (show Hid (Sv 2 w v xs) from h)
  obtain ⟨a, len, cap, rfl, hl, hlc, hcm, hnone, hc⟩ := h
  have hlm : len = m := by omega
  subst hlm
  clear hl hc
  cases a with
  | none =>
    have hc0 := hnone rfl
    subst hc0
    have hl0 : len = 0 := by omega
    subst hl0
    have HX : Hid (xs = []) := (show xs = [] from List.length_eq_zero_iff.mp (by omega))
    clear hm hnone
    go_enter Tryd.func78, Tryd.ntmps78
    go_wp2
    go_ret
    rw [HX.out]
    exact ⟨_, rfl, .inl (World.ownsRow_nil _ _ _ _), Below.refl _ _⟩
  | some a =>
    go_enter Tryd.func78, Tryd.ntmps78
    go_wp2_with (at_builtin
                 refine wpList_app0 _ rfl (.tmp 4) (.tmp 5) 32 rfl w.heap.size 76 i0 _ 2 24 Tryd.underlying32 hi hz0 hz1 hz2 (by decide) (by decide) a a len cap xs rfl rfl H.out (by omega) (by unfold maxLen; omega) (Nat.le_refl _) ?_
                 intro v2 w2 o2 b2)
    go_ret
    exact ⟨_, rfl, o2, b2⟩

end Go.Proofs.YtiejfnnokfedkaaDoor
