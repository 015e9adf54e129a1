/- The program's cutter: an attribute's name. No condition. -/
import Derived.Test.YtggfifchkecnjaaGreatDoorY34
import Derived.Test.YtggfifchkecnjaaGreatDoorY5
import Derived.StillTailTactics
import Derived.Test.YtggfifchkecnjaaGreatDoorY22
import Derived.Test.YtggfifchkecnjaaGreatDoorY17
namespace Go.Proofs.YtggfifchkecnjaaGreatDoor
open Go.RowKit
set_option maxRecDepth 100000
set_option linter.unusedVariables false

theorem nonneg {xs : List Int} (h : ∀ y ∈ xs, pointOk y = true) : ∀ y ∈ xs, 0 ≤ y := fun y hy => ((pointOk_iff y).mp (h y hy)).1
theorem iputs_part {v : Value} {xs : List Int} {w : World} {i j : Nat} (h : Sl .i64 w v (sub xs i j)) (hx : xs.length ≤ 3000) :
    Calls Tryz.prog 96 #[v] w fun e w' => ∃ pa pn pc, e = .returned (.slice pa pn pc) ∧ (convert 22 9 (.slice pa pn pc)).run Tryz.prog w' = .ok (.string (txtOf xs i j)) w' ∧ Below w.heap.size w w' := by
  have hf := sub_few (i := i) (j := j) hx
  refine (iputs_any h (by omega)).mono ?_
  rintro e w' ⟨v', rfl, o, b⟩
  have e2 : pointsPut (sub xs i j) = puts (sub xs i j) := by unfold pointsPut; rw [if_pos hf]
  rw [e2] at o
  have hcv := conv_sl o.sl
  obtain ⟨pa, pc, rfl, _⟩ := o.sl
  exact ⟨pa, _, pc, rfl, hcv, b⟩
theorem low_part {xs : List Int} (hy : ∀ y ∈ xs, pointOk y = true) (hx : xs.length ≤ 3000) (i j : Nat) (w : World) :
    Calls Tryz.prog 138 #[.string (txtOf xs i j)] w fun e w' => e = .returned (.string (lowOf xs i j)) ∧ Below w.heap.size w w' := by
  have hf := sub_few (i := i) (j := j) hx
  have hb : bs (txtOf xs i j) = puts (sub xs i j) := bs_strOf (fun y hy => by
    obtain ⟨z, _, hz⟩ := List.mem_flatMap.mp hy
    exact put_byte z y hz)
  have hl := puts_len (sub xs i j)
  have c := ilowerText_any (txtOf xs i j) w (by rw [← bs_len, hb]; omega)
  rw [hb, puts_lower _ (fun y h => hy y (sub_mem h))] at c
  exact c

set_option maxHeartbeats 4000000 in
theorem attrName_any {w0 : World} {g : Nat} {v : Value} {xs : List Int} {k : Nat} {w : World} (h : Cut w0 g v xs k w) (hy : ∀ y ∈ xs, pointOk y = true) (s : ByteArray) (hk : k < xs.length) :
    Calls Tryz.prog 146 #[cutVal v g s] w fun e w' => e = .returned (.string (lowOf xs k (upTo endAttr xs (k + 1)))) ∧ Cut w0 g v xs (upTo endAttr xs (k + 1)) w' ∧ w.grownBy w' (some g) := by
  have hxl := h.2.2.2.1.1
  have hul : upTo endAttr xs (k + 1) ≤ xs.length := upTo_le hk
  have hug : k + 1 ≤ upTo endAttr xs (k + 1) := upTo_ge _ _ _
  obtain ⟨a, ca, rfl, hca, hcm, _, _⟩ := h.sl
  have hcb := cb_new (s := s) h
  obtain ⟨w1, hw1⟩ : ∃ z, z = w.alloc (.cells #[.slice a xs.length ca, .pointer (some ⟨g, 0, none⟩), .string s] 47) := ⟨_, rfl⟩
  rw [← hw1] at hcb
  have HCB := (show Hid (CB w0 g (.slice a xs.length ca) xs s w k w1) from hcb)
  have HY := (show Hid (∀ y ∈ xs, pointOk y = true) from hy)
  obtain ⟨c0, c1, c2⟩ := HCB.out.cells
  obtain ⟨cg, fg⟩ := HCB.out.cut.cell
  obtain ⟨e, he⟩ : ∃ e, e = upTo endAttr xs (k + 1) := ⟨_, rfl⟩
  rw [← he] at hul hug ⊢
  have HE := (show Hid (e = upTo endAttr xs (k + 1)) from he)
  clear hcb h hy he
  unfold cutVal
  go_enter Tryz.func146, Tryz.ntmps146
  go_upto_region 1 with fail
  rw [← hw1]
  clear hw1
  go_wp2_with fail
  go_at_call 110
  refine (move_cb HCB.out 1 1 rfl (by omega)).mono ?_
  rintro e' w2 ⟨rfl, cb2⟩
  have CB2 := (show Hid _ from cb2)
  clear HCB cb2 c0 c1 c2 cg fg
  obtain ⟨c0, c1, c2⟩ := CB2.out.cells
  have CT := (show Hid _ from takeUpTo_any (p := endAttr) (f := 151) (fun args w => Tryz.call151 args w) endsAttr_any CB2.out.cut (nonneg HY.out) s)
  rw [← HE.out] at CT
  unfold cutVal at CT
  go_wp2_with fail
  go_at_call 115
  refine Calls.mono CT.out ?_
  rintro e' w3 ⟨vs, rfl, _, hc3, hg3⟩
  have cb3 := (show Hid (CB w0 g (.slice a xs.length ca) xs s w e w3) from CB2.out.move hc3 hg3)
  clear CB2 hc3 hg3 CT c0 c1 c2
  obtain ⟨c0, c1, c2⟩ := cb3.out.cells
  have cg := cb3.out.cut.cell.1
  have hb1 : (k : Int) ≤ (e : Int) := by omega
  have hb2 : (e : Int) ≤ (ca : Int) := by omega
  have hck : ¬ ca = k := by omega
  go_upto_region 4 with fail
  refine region_tail 8 (by kernel_rfl) (by kernel_rfl) ?_
  intro w4 K1 hW1 hK1
  have ne := One.any w4
  have cb4 := (show Hid (CB w0 g (.slice a xs.length ca) xs s w e w4) from by rw [hW1.out]; exact cb3.out.below (below_drewN 1))
  have d0 : ∀ n : One w4, n.w.cell? ⟨w.heap.size, 0, none⟩ = some (.slice a xs.length ca) := fun n => by rw [n.eq]; exact cb4.out.cells.1
  have d1 : ∀ n : One w4, n.w.cell? ⟨w.heap.size, 1, none⟩ = some (.pointer (some ⟨g, 0, none⟩)) := fun n => by rw [n.eq]; exact cb4.out.cells.2.1
  have d2 : ∀ n : One w4, n.w.cell? ⟨g, 0, none⟩ = some (.int .i64 e) := fun n => by rw [n.eq]; exact cb4.out.cut.cell.1
  clear hW1 cb3 c0 c1 c2 cg
  simp only [List.take_succ_cons, List.take_zero, List.drop_succ_cons, List.drop_zero] at hK1 ⊢
  repeat (go_big_quiet_step (fail))
  refine wpQuiet_nil ?_
  refine hK1.out _ ?_
  clear hK1 d0 d1 d2 ne
  have CP := (show Hid _ from iputs_part (part_sl cb4.out.cut.sl (show k ≤ e by omega) hul hck) hxl)
  have CL := (show Hid (∀ W, Calls Tryz.prog 138 #[.string (txtOf xs k e)] W fun e' w' => e' = .returned (.string (lowOf xs k e)) ∧ Below W.heap.size W w') from fun W => low_part HY.out hxl k e W)
  go_wp2_with fail
  go_at_call 96
  refine Calls.mono CP.out ?_
  rintro e' w5 ⟨pa, pn, pc, rfl, hcv, b5⟩
  have cb5 := (show Hid _ from cb4.out.below b5)
  clear CP b5 cb4
  go_wp2_with fail
  go_at_call 138
  refine Calls.mono (CL.out _) ?_
  rintro e' w6 ⟨rfl, b6⟩
  have CE := (show Hid _ from cb5.out.below b6)
  clear CL b6 cb5 hcv
  go_wp2
  go_ret
  exact ⟨rfl, CE.out.cut, CE.out.gro⟩
end Go.Proofs.YtggfifchkecnjaaGreatDoor

/- The specification's cutter: places and texts. No condition. -/
namespace Go.Proofs.YtggfifchkecnjaaGreatDoor
open Go.RowKit
set_option maxRecDepth 100000
set_option linter.unusedVariables false

theorem l1Point_any (x : Int) (w : World) : Calls Tryz.prog 77 #[.int .i64 x] w fun e w' => e = .returned (.int .i64 (pt x)) ∧ w' = w := by
  have co := sok_any x w
  unfold pt
  cases hp : pointOk x
  · rw [hp] at co
    go_enter Tryz.func77, Tryz.ntmps77
    go_wp2_with fail
    go_at_call 123
    refine co.mono ?_
    rintro e w1 ⟨rfl, rfl⟩
    go_wp2
    go_ret
    exact ⟨rfl, rfl⟩
  · rw [hp] at co
    go_enter Tryz.func77, Tryz.ntmps77
    go_wp2_with fail
    go_at_call 123
    refine co.mono ?_
    rintro e w1 ⟨rfl, rfl⟩
    go_wp2
    go_ret
    exact ⟨rfl, rfl⟩
theorem clean_pt {x : Int} (h : x ≠ 0) : clean x = pt x := by
  unfold clean pt
  cases hp : pointOk x
  · simp
  · simp [h]
theorem l5At_any {v : Value} {xs : List Int} {w : World} (h : Sl .i64 w v xs) (k : Nat) (hn : xs.length ≤ 3000) :
    Calls Tryz.prog 43 #[v, .int .i64 k] w fun e w' => e = .returned (.int .i64 (atL (xs.map clean) k)) ∧ w' = w := by
  obtain ⟨a, ca, rfl, _, _, _, ha⟩ := h
  rw [clean_at]
  by_cases hk : k < xs.length
  · rw [if_pos hk, atL_in hk]
    obtain ⟨b1, o1, rfl, c1⟩ := ha k hk
    clear ha
    obtain ⟨y, hy⟩ : ∃ y, y = xs.getD k 0 := ⟨_, rfl⟩
    rw [← hy] at c1 ⊢
    clear hy
    have hkn : ¬ ((k : Int) ≥ (xs.length : Int)) := by omega
    by_cases h0 : y = 0
    · subst h0
      have hc : clean 0 = 65533 := by decide
      rw [hc]
      go_enter Tryz.func43, Tryz.ntmps43
      go_wp2
      go_ret
      exact ⟨rfl, rfl⟩
    · rw [clean_pt h0]
      have hn0 : (y == 0) = false := by simp [h0]
      have cp := fun W => l1Point_any y W
      clear h0
      go_enter Tryz.func43, Tryz.ntmps43
      go_wp2_with fail
      go_at_call 77
      refine (cp _).mono ?_
      rintro e w1 ⟨rfl, rfl⟩
      go_wp2
      go_ret
      exact ⟨rfl, rfl⟩
  · rw [if_neg hk]
    clear ha
    have hkn : (k : Int) ≥ (xs.length : Int) := by omega
    go_enter Tryz.func43, Tryz.ntmps43
    go_wp2
    go_ret
    exact ⟨rfl, rfl⟩
theorem l1Min_any (x y : Nat) (w : World) : Calls Tryz.prog 93 #[.int .i64 x, .int .i64 y] w fun e w' => e = .returned (.int .i64 (min x y : Nat)) ∧ w' = w := by
  by_cases h : x < y
  · rw [Nat.min_eq_left (by omega)]
    go_enter Tryz.func93, Tryz.ntmps93
    go_wp2
    go_ret
    exact ⟨rfl, rfl⟩
  · rw [Nat.min_eq_right (by omega)]
    go_enter Tryz.func93, Tryz.ntmps93
    go_wp2
    go_ret
    exact ⟨rfl, rfl⟩
theorem blank_lt {ys : List Int} {k : Nat} (h : isBlank (atL ys k) = true) : k < ys.length := by
  by_cases hk : k < ys.length
  · exact hk
  · rw [atL_out (by omega)] at h; exact absurd h (by decide)

theorem l5Blanks_any {v : Value} {xs ys : List Int} {w : World} (h : Sl .i64 w v xs) (hys : ys = xs.map clean) (i : Nat) (hn : xs.length ≤ 3000) :
    Calls Tryz.prog 88 #[v, .int .i64 i] w fun e w' => e = .returned (.int .i64 (skipB ys i)) ∧ w' = w := by
  have HL := (show Hid (∀ k : Nat, Calls Tryz.prog 43 #[v, .int .i64 k] w fun e w' => e = .returned (.int .i64 (atL ys k)) ∧ w' = w) from fun k => by rw [hys]; exact l5At_any h k hn)
  have hyl : ys.length ≤ 3000 := by rw [hys, List.length_map]; exact hn
  obtain ⟨r, hr⟩ : ∃ r, r = skipB ys i := ⟨_, rfl⟩
  rw [← hr]
  have HR := (show Hid (r = skipB ys i) from hr)
  have hir : i ≤ r := by rw [hr]; exact upTo_ge _ _ _
  clear h hys hr
  go_enter Tryz.func88, Tryz.ntmps88
  go_wp2_with fail
  go_loop [1] (fun u => ∃ k : Nat, i ≤ k ∧ k ≤ r ∧ u = .int .i64 k) (fun u => r - (intOf u).toNat)
  case atStart => exact ⟨i, Nat.le_refl _, hir, rfl⟩
  case round =>
    obtain ⟨k, hk0, hk1, rfl⟩ := hrel
    go_wp2_with fail
    go_at_call 43
    refine (HL.out k).mono ?_
    rintro e w1 ⟨rfl, rfl⟩
    go_wp2_with fail
    go_at_call 85
    refine (sblank_any _ _).mono ?_
    rintro e w1 ⟨rfl, rfl⟩
    rcases hb : isBlank (atL ys k) with _ | _
    · have hkr : k = r := by
        rw [HR.out]
        by_cases hkl : k < ys.length
        · exact upTo_here hk0 (by rw [← show r = upTo notBlank ys i from HR.out]; exact hk1) hkl (by unfold notBlank; rw [hb]; rfl)
        · exact upTo_last hk0 (by rw [← show r = upTo notBlank ys i from HR.out]; exact hk1) (by omega)
      subst hkr
      go_wp2
      go_ret
      exact ⟨rfl, rfl⟩
    · have hkr : k + 1 ≤ r := by
        rw [HR.out]
        exact upTo_more hk0 (by rw [← show r = upTo notBlank ys i from HR.out]; exact hk1) (blank_lt hb) (by unfold notBlank; rw [hb]; rfl)
      have hkl := blank_lt hb
      go_wp2
      go_round
      case rel => exact ⟨k + 1, by omega, hkr, by go_num⟩
      case measure => simp [intOf]; omega

set_option maxHeartbeats 1000000 in
theorem l5Until_any {v : Value} {xs ys : List Int} {w : World} (h : Sl .i64 w v xs) (hys : ys = xs.map clean) (i : Nat) (hi : i ≤ 5000) (bl : Bool) (a b d : Int) (hn : xs.length ≤ 3000) :
    Calls Tryz.prog 86 #[v, .int .i64 i, .bool bl, .int .i64 a, .int .i64 b, .int .i64 d] w fun e w' => e = .returned (.int .i64 (upTo (untilP bl a b d) ys i)) ∧ w' = w := by
  have HL := (show Hid (∀ k : Nat, Calls Tryz.prog 43 #[v, .int .i64 k] w fun e w' => e = .returned (.int .i64 (atL ys k)) ∧ w' = w) from fun k => by rw [hys]; exact l5At_any h k hn)
  have hyl : xs.length = ys.length := by rw [hys, List.length_map]
  obtain ⟨va, vc, rfl, _⟩ := h
  rw [hyl] at HL ⊢
  have hn' : ys.length ≤ 3000 := by omega
  obtain ⟨r, hr⟩ : ∃ r, r = upTo (untilP bl a b d) ys i := ⟨_, rfl⟩
  rw [← hr]
  have HR := (show Hid (r = upTo (untilP bl a b d) ys i) from hr)
  have hir : i ≤ r := by rw [hr]; exact upTo_ge _ _ _
  clear hys hr hyl hn
  go_enter Tryz.func86, Tryz.ntmps86
  go_wp2_with fail
  go_loop [1] (fun u => ∃ k : Nat, i ≤ k ∧ k ≤ r ∧ u = .int .i64 k) (fun u => r + 1 - (intOf u).toNat)
  case atStart => exact ⟨i, Nat.le_refl _, hir, rfl⟩
  case round =>
    obtain ⟨k, hk0, hk1, rfl⟩ := hrel
    by_cases hkl : k < ys.length
    · obtain ⟨x, hx⟩ : ∃ x, x = atL ys k := ⟨_, rfl⟩
      have hl := HL.out k
      rw [← hx] at hl
      have stop : untilP bl a b d x = true → k = r := fun hp => by rw [HR.out]; exact upTo_here hk0 (by rw [← HR.out]; exact hk1) hkl (by rw [← hx]; exact hp)
      have more : untilP bl a b d x = false → k + 1 ≤ r := fun hp => by rw [HR.out]; exact upTo_more hk0 (by rw [← HR.out]; exact hk1) hkl (by rw [← hx]; exact hp)
      have STOP := (show Hid _ from stop)
      have MORE := (show Hid _ from more)
      have cb := fun W => sblank_any x W
      clear hx stop more
      go_wp2_with fail
      go_at_call 43
      refine hl.mono ?_
      rintro e w1 ⟨rfl, rfl⟩
      clear hl
      have key : ∀ q : Bool, (bl && isBlank x) = q → (x == a) = (x == a) → True := fun _ _ _ => trivial
      clear key
      cases bl
      · rcases ha : (x == a) with _ | _ <;> rcases hb : (x == b) with _ | _ <;> rcases hd : (x == d) with _ | _
        case false.false.false =>
          have hm := MORE.out (by simp [untilP, ha, hb, hd])
          go_wp2
          go_round
          case rel => exact ⟨k + 1, by omega, hm, by go_num⟩
          case measure => simp [intOf]; omega
        all_goals
          have hs := STOP.out (by simp [untilP, ha, hb, hd])
          subst hs
          go_wp2
          go_ret
          exact ⟨rfl, rfl⟩
      · go_wp2_with fail
        go_at_call 85
        refine (cb _).mono ?_
        rintro e w1 ⟨rfl, rfl⟩
        rcases hq : isBlank x with _ | _ <;> rcases ha : (x == a) with _ | _ <;> rcases hb : (x == b) with _ | _ <;> rcases hd : (x == d) with _ | _
        case false.false.false.false =>
          have hm := MORE.out (by simp [untilP, ha, hb, hd, hq])
          go_wp2
          go_round
          case rel => exact ⟨k + 1, by omega, hm, by go_num⟩
          case measure => simp [intOf]; omega
        all_goals
          have hs := STOP.out (by simp [untilP, ha, hb, hd, hq])
          subst hs
          go_wp2
          go_ret
          exact ⟨rfl, rfl⟩
    · have hkr : k = r := by rw [HR.out]; exact upTo_last hk0 (by rw [← HR.out]; exact hk1) (by omega)
      subst hkr
      go_wp2
      go_ret
      exact ⟨rfl, rfl⟩
end Go.Proofs.YtggfifchkecnjaaGreatDoor
