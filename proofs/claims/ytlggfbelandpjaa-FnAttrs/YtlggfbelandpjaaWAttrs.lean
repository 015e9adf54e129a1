/- The law FnAttrs, walked. -/
import Derived.Test.YtlggfbelandpjaaDrawA2
import Derived.Test.YtlggfbelandpjaaISame
import Derived.Test.YtlggfbelandpjaaIAttr5
namespace Go.Proofs.Ytlggfbelandpjaa
open Go.RowKit
set_option linter.unusedVariables false

theorem attrOf_snoc {rs : List (ByteArray × ByteArray)} {p : ByteArray × ByteArray} (h : (attrOf rs p.1).2 = false) : attrOf (rs ++ [p]) p.1 = (p.2, true) := by
  induction rs with
  | nil => simp [attrOf]
  | cons q qs ih =>
    unfold attrOf at h
    by_cases hq : q.1 = p.1
    · rw [if_pos hq] at h; cases h
    · rw [if_neg hq] at h
      rw [List.cons_append]
      unfold attrOf
      rw [if_neg hq]
      exact ih h
theorem attrsOk_snoc {rs : List (ByteArray × ByteArray)} {p : ByteArray × ByteArray} (h : attrsOk rs = true) (h1 : (attrOf rs p.1).2 = false) (h2 : rs.length < 20) (h3 : attrOk p = true) : attrsOk (rs ++ [p]) = true := by
  unfold attrsOk attrsTo at *
  simp only [Bool.and_eq_true, decide_eq_true_eq] at *
  obtain ⟨a, b, c⟩ := h
  refine ⟨by simp; omega, ?_, ?_⟩
  · rw [List.all_append, b]; simp [h3]
  · rw [List.pairwise_append]
    refine ⟨c, by simp, fun q hq r hr e => ?_⟩
    simp only [List.mem_singleton] at hr
    subst hr
    have := (attrOf_has rs r.1).mpr ⟨q, hq, e⟩
    rw [this] at h1; cases h1
/-- What the law asks of the lists. -/
theorem attrs_facts (rs : List (ByteArray × ByteArray)) (p : ByteArray × ByteArray) : ((attrAdd rs p = rs) ∨ (attrAdd rs p = rs ++ [p] ∧ (attrOf rs p.1).2 = false)) ∧ (attrsOk rs = true → attrsOk (attrAdd rs p) = true) := by
  rcases h : ((attrOf rs p.1).2 || decide (20 ≤ rs.length) || !attrOk p) with _ | _
  · have e := attrAdd_yes h
    simp only [Bool.or_eq_false_iff, decide_eq_false_iff_not, Bool.not_eq_false'] at h
    rw [e]
    exact ⟨.inr ⟨rfl, h.1.1⟩, fun ho => attrsOk_snoc ho h.1.1 (by omega) h.2⟩
  · have e := attrAdd_no h
    rw [e]
    exact ⟨.inl rfl, fun h => h⟩

set_option maxHeartbeats 2000000 in
set_option maxRecDepth 100000 in
theorem fnAttrs_walk {v : Value} {xs : List Int} (w : World) (h : Sl .u8 w v xs) (hwf : ∀ n ∈ xs, (Lit.int .u8 n).wf = true) :
    Calls Try.prog 3 #[v] w fun e w' => e = .returned (.bool true) ∧ Below w.heap.size w w' := by
  have HB : Hid (∀ x ∈ xs, 0 ≤ x ∧ x ≤ 255) := byte_ok hwf
  clear hwf
  have hbig := big_any h
  by_cases hl : 1048576 < xs.length
  · rw [decide_eq_true hl] at hbig
    go_enter Try.func3, Try.ntmps3
    go_wp2_with fail
    go_at_call 8
    refine hbig.mono ?_
    rintro e w1 ⟨rfl, rfl⟩
    go_wp2
    go_ret
    exact ⟨rfl, Below.refl _ _⟩
  · rw [decide_eq_false hl] at hbig
    go_enter Try.func3, Try.ntmps3
    go_wp2_with fail
    go_at_call 8
    refine hbig.mono ?_
    rintro e w1 ⟨rfl, rfl⟩
    clear hbig
    go_wp2_with fail
    go_at_call 9
    refine (drawAttrAdd_any h HB.out (by omega)).mono ?_
    rintro e w2 ⟨v2, rs, ⟨pn, pv⟩, rfl, o2, hl2, hz2, hp1, hp2, b2⟩
    simp only at hp1 hp2 ⊢
    have hsh : Short rs := ⟨by omega, fun p hp => by have := hz2 p hp; omega⟩
    have HSH := (show Hid (Short rs) from hsh)
    obtain ⟨a2, c2, rfl, _, _, _⟩ := (sv_of_own o2).pair
    clear hz2 hsh h HB hl
    obtain ⟨wx, hwx⟩ : ∃ wx, wx = w2.alloc (.cells #[.string pn, .string pv] 26) := ⟨_, rfl⟩
    have bx : Below w2.heap.size w2 wx := by rw [hwx]; exact (Below.refl _ _).alloc (Nat.le_refl _) _
    have HX := (show Hid (wx.heap[w2.heap.size]? = some (.cells #[.string pn, .string pv] 26)) from by rw [hwx]; exact heap_alloc_new _ _)
    have H2 := (show Hid (∀ w', Below wx.heap.size wx w' → Sv 2 w' (.slice a2 rs.length c2) (pairCells rs)) from fun w' hb => (sv_of_own (ownsRow_below o2 bx)).below hb)
    have bel := b2.trans (bx.mono b2.size)
    have FA := (show Hid _ from attrs_facts rs (pn, pv))
    have hAl := attrAdd_len rs (pn, pv)
    have CADD := (show Hid _ from attrAddOk (.slice a2 rs.length c2) rs (pn, pv) wx (H2.out _ (Below.refl _ _)) HSH.out (by simp only; omega) (by simp only; omega))
    have CAD2 := (show Hid (∀ w', Below wx.heap.size wx w' → Calls Try.prog 11 #[.slice a2 rs.length c2, .agg #[.string pn, .string pv]] w' fun e w'' => ∃ v', e = .returned v' ∧ w''.ownsRow w'.heap.size 26 2 v' (attrAdd rs (pn, pv)).length (pairCells (attrAdd rs (pn, pv))) ∧ Below w'.heap.size w' w'') from fun w' hb => sattrAdd_any (H2.out _ hb) (pn, pv) (by omega) (by simp only; omega) (by simp only; omega))
    have hsA : ∀ q ∈ attrAdd rs (pn, pv), q.1.size ≤ 1099511627776 ∧ q.2.size ≤ 1099511627776 := fun q hq => by
      rcases FA.out.1 with e | ⟨e, _⟩
      · rw [e] at hq; exact HSH.out.2 q hq
      · rw [e] at hq
        rcases List.mem_append.mp hq with hq | hq
        · exact HSH.out.2 q hq
        · simp only [List.mem_singleton] at hq; subst hq; simp only; omega
    obtain ⟨A, hA⟩ : ∃ A, A = attrAdd rs (pn, pv) := ⟨_, rfl⟩
    simp only at CADD
    rw [← hA] at CADD CAD2 FA hAl hsA
    have HSA := (show Hid _ from hsA)
    clear hA hsA o2
    go_wp2_with fail
    go_at_call 10
    rw [← hwx]
    refine (Calls.mono CADD.out ?_)
    rintro e w3 ⟨v3, rfl, o3, b3⟩
    have HX3 := (show Hid (w3.heap[w2.heap.size]? = some (.cells #[.string pn, .string pv] 26)) from (b3.block w2.heap.size (lt_of_block HX.out)).trans HX.out)
    obtain ⟨a3, c3, rfl, _, _, _⟩ := (sv_of_own o3).pair
    clear CADD HX hwx
    have x0 : w3.cell? ⟨w2.heap.size, 0, none⟩ = some (.string pn) := by simp only [World.cell?, HX3.out]; rfl
    have x1 : w3.cell? ⟨w2.heap.size, 1, none⟩ = some (.string pv) := by simp only [World.cell?, HX3.out]; rfl
    go_wp2_with fail
    go_at_call 11
    refine (Calls.mono (CAD2.out _ b3) ?_)
    rintro e w4 ⟨v4, rfl, o4, b4⟩
    have HX4 := (show Hid (w4.heap[w2.heap.size]? = some (.cells #[.string pn, .string pv] 26)) from (b4.block w2.heap.size (lt_of_block HX3.out)).trans HX3.out)
    replace o3 := ownsRow_below o3 b4
    replace b4 := b3.trans (b4.mono b3.size)
    obtain ⟨a4, c4, rfl, _, _, _⟩ := (sv_of_own o4).pair
    clear CAD2 HX3 x0 x1 b3 o4
    have x0 : w4.cell? ⟨w2.heap.size, 0, none⟩ = some (.string pn) := by simp only [World.cell?, HX4.out]; rfl
    have x1 : w4.cell? ⟨w2.heap.size, 1, none⟩ = some (.string pv) := by simp only [World.cell?, HX4.out]; rfl
    go_wp2_with fail
    go_at_call 12
    refine (iattrOf_any (H2.out _ b4) pn (by omega)).mono ?_
    rintro e w5 ⟨rfl, b5⟩
    have HX5 := (show Hid (w5.heap[w2.heap.size]? = some (.cells #[.string pn, .string pv] 26)) from (b5.block w2.heap.size (lt_of_block HX4.out)).trans HX4.out)
    replace o3 := ownsRow_below o3 b5
    replace b5 := b4.trans (b5.mono b4.size)
    clear HX4 x0 x1 b4
    have x0 : w5.cell? ⟨w2.heap.size, 0, none⟩ = some (.string pn) := by simp only [World.cell?, HX5.out]; rfl
    have x1 : w5.cell? ⟨w2.heap.size, 1, none⟩ = some (.string pv) := by simp only [World.cell?, HX5.out]; rfl
    go_wp2_with fail
    go_at_call 12
    refine (iattrOf_any (sv_of_own o3) pn (by omega)).mono ?_
    rintro e w6 ⟨rfl, b6⟩
    have HX6 := (show Hid (w6.heap[w2.heap.size]? = some (.cells #[.string pn, .string pv] 26)) from (b6.block w2.heap.size (lt_of_block HX5.out)).trans HX5.out)
    replace o3 := ownsRow_below o3 b6
    replace b6 := b5.trans (b6.mono b5.size)
    clear HX5 x0 x1 b5
    have x0 : w6.cell? ⟨w2.heap.size, 0, none⟩ = some (.string pn) := by simp only [World.cell?, HX6.out]; rfl
    have x1 : w6.cell? ⟨w2.heap.size, 1, none⟩ = some (.string pv) := by simp only [World.cell?, HX6.out]; rfl
    have hpre : ∀ i (hi : i < rs.length) (hj : i < A.length), A[i] = rs[i] := fun i hi hj => by
      rcases FA.out.1 with e | ⟨e, _⟩
      · subst e; rfl
      · subst e; rw [List.getElem_append_left hi]
    have hK : ((attrOf rs pn).2 = true → (attrOf A pn).2 = true ∧ (attrOf A pn).1 = (attrOf rs pn).1 ∧ A.length = rs.length) ∧ ((attrOf rs pn).2 = false → A.length = rs.length ∨ (A.length = rs.length + 1 ∧ (attrOf A pn).1 = pv)) := by
      rcases FA.out.1 with e | ⟨e, h0⟩
      · rw [e]; exact ⟨fun h => ⟨h, rfl, rfl⟩, fun _ => .inl rfl⟩
      · refine ⟨fun h => ?_, fun _ => .inr ⟨by rw [e]; simp, ?_⟩⟩
        · rw [h0] at h; cases h
        · have := attrOf_snoc (p := (pn, pv)) h0
          simp only at this
          rw [e, this]
    have hge : rs.length ≤ A.length := by
      rcases FA.out.1 with e | ⟨e, _⟩
      · rw [e]; exact Nat.le_refl _
      · rw [e]; simp
    have HPRE := (show Hid _ from hpre)
    obtain ⟨q1, hq1⟩ : ∃ q, q = attrOf rs pn := ⟨_, rfl⟩
    obtain ⟨q2, hq2⟩ : ∃ q, q = attrOf A pn := ⟨_, rfl⟩
    rw [← hq1, ← hq2] at hK
    rw [← hq1, ← hq2]
    obtain ⟨ov, had⟩ := q1
    obtain ⟨gv, has⟩ := q2
    simp only at hK ⊢
    have HK := (show Hid _ from hK)
    clear hpre hq1 hq2 hK
    have hAb : A.length ≤ 41 := by omega
    have CO := (show Hid (∀ w', Below wx.heap.size wx w' → Calls Try.prog 13 #[.slice a2 rs.length c2] w' fun e w'' => e = .returned (.bool (attrsOk rs)) ∧ Below w'.heap.size w' w'') from fun w' hb => iattrsOk_any (H2.out _ hb) (by omega) HSH.out.2)
    have CN := (show Hid (∀ w', w'.ownsRow wx.heap.size 26 2 (.slice a3 A.length c3) A.length (pairCells A) → Calls Try.prog 13 #[.slice a3 A.length c3] w' fun e w'' => e = .returned (.bool (attrsOk A)) ∧ Below w'.heap.size w' w'') from fun w' ho => iattrsOk_any (sv_of_own ho) (by omega) HSA.out)
    have CS := (show Hid (∀ w', Below wx.heap.size wx w' → Calls Try.prog 14 #[.slice a2 rs.length c2, .slice a2 rs.length c2] w' fun e w'' => e = .returned (.bool true) ∧ Below w'.heap.size w' w'') from fun w' hb => isame_self (H2.out _ hb) (by omega))
    have O3 := (show Hid (w6.ownsRow wx.heap.size 26 2 (.slice a3 A.length c3) A.length (pairCells A)) from o3)
    have B6 := (show Hid (Below wx.heap.size wx w6) from b6)
    have BEL := (show Hid (Below w1.heap.size w1 w6) from bel.trans (b6.mono bel.size))
    obtain ⟨t1, ht1⟩ : ∃ t, t = attrsOk rs := ⟨_, rfl⟩
    obtain ⟨t2, ht2⟩ : ∃ t, t = attrsOk A := ⟨_, rfl⟩
    have HT := (show Hid (t1 = true → t2 = true) from by rw [ht1, ht2]; exact FA.out.2)
    rw [← ht1] at CO
    rw [← ht2] at CN
    clear ht1 ht2 FA HSA HSH o3 b6 bel HX6 b2 bx
    rcases (show (had = false ∧ A.length = rs.length) ∨ (had = false ∧ A.length = rs.length + 1 ∧ gv = pv) ∨ (had = true ∧ has = true ∧ gv = ov ∧ A.length = rs.length) from by
      have hk := HK.out
      cases had
      · rcases hk.2 rfl with e | ⟨e1, e2⟩
        · exact .inl ⟨rfl, e⟩
        · exact .inr (.inl ⟨rfl, e1, e2⟩)
      · obtain ⟨e1, e2, e3⟩ := hk.1 rfl
        exact .inr (.inr ⟨rfl, e1, e2, e3⟩)) with ⟨rfl, he⟩ | ⟨rfl, he, rfl⟩ | ⟨rfl, rfl, rfl, he⟩
    all_goals
      first
        | (have hgt : ¬ ((rs.length : Int) < (A.length : Int)) := by omega)
        | (have hgt : (rs.length : Int) < (A.length : Int) := by omega)
      try (have heq : ((A.length : Int) != (rs.length : Int)) = false := by simp; omega)
      have HE := (show Hid _ from he)
      clear he HK
      go_wp2
      clear hgt
      try clear heq
      go_loopw [11] (fun i wr => ∃ j : Nat, j ≤ rs.length ∧ i = .int .i64 j ∧ ∃ n, wr = w6.drewN n) (fun i _ => rs.length - (intOf i).toNat)
      case atStart => exact ⟨0, Nat.zero_le _, rfl, 0, rfl⟩
      case round =>
        clear x0 x1
        obtain ⟨j, hj, rfl, nn, rfl⟩ := hrel
        have BW := (show Hid (Below wx.heap.size wx (w6.drewN nn)) from B6.out.trans (below_drewN nn))
        by_cases hlt : j < rs.length
        · have hltA : j < A.length := by omega
          obtain ⟨_, _, ev, _, _, hca⟩ := (H2.out _ BW.out).pair
          cases ev
          obtain ⟨b1, o1, rfl, l1, c1, c2'⟩ := hca j hlt
          obtain ⟨_, _, ev, _, _, hcb⟩ := (sv_of_own (ownsRow_below O3.out (below_drewN nn))).pair
          cases ev
          obtain ⟨b3', o3', rfl, l3, d1, d2⟩ := hcb j hltA
          rw [HPRE.out j hlt hltA] at d1 d2
          obtain ⟨x, hx⟩ : ∃ x, x = rs[j] := ⟨_, rfl⟩
          rw [← hx] at c1 c2' d1 d2
          clear hx hca hcb
          obtain ⟨xn, xv⟩ := x
          simp only at c1 c2' d1 d2
          go_wp2
          go_region_held (fun w' => w'.cell? ⟨b1, o1 + j * 2, none⟩ = some (.string xn) ∧ w'.cell? ⟨b1, o1 + j * 2 + 1, none⟩ = some (.string xv) ∧ w'.cell? ⟨b3', o3' + j * 2, none⟩ = some (.string xn) ∧ w'.cell? ⟨b3', o3' + j * 2 + 1, none⟩ = some (.string xv)) (exact ⟨c1, c2', d1, d2⟩) (fail)
          go_wp2
          go_roundw
          case rel => exact ⟨j + 1, by omega, by go_num, nn + 1, (World.drewN_drewN w6 nn 1)⟩
          case measure => simp [intOf]; omega
        · have bw := BEL.out.trans (below_drewN nn)
          have ow := ownsRow_below O3.out (below_drewN nn)
          cases t1
          · go_wp2_with fail
            go_at_call 13
            refine (CO.out _ BW.out).mono ?_
            rintro e w7 ⟨rfl, b7⟩
            replace b7 := bw.trans (b7.mono bw.size)
            go_wp2
            go_ret
            exact ⟨rfl, b7⟩
          · obtain rfl := HT.out rfl
            go_wp2_with fail
            go_at_call 13
            refine (CO.out _ BW.out).mono ?_
            rintro e w7 ⟨rfl, b7⟩
            have BW7 := (show Hid (Below wx.heap.size wx w7) from BW.out.trans (b7.mono BW.out.size))
            replace ow := ownsRow_below ow b7
            replace b7 := bw.trans (b7.mono bw.size)
            go_wp2_with fail
            go_at_call 13
            refine (CN.out _ ow).mono ?_
            rintro e w8 ⟨rfl, b8⟩
            have BW8 := (show Hid (Below wx.heap.size wx w8) from BW7.out.trans (b8.mono BW7.out.size))
            replace b8 := b7.trans (b8.mono b7.size)
            go_wp2_with fail
            go_at_call 14
            refine (CS.out _ BW8.out).mono ?_
            rintro e w9 ⟨rfl, b9⟩
            go_wp2
            go_ret
            exact ⟨rfl, b8.trans (b9.mono b8.size)⟩
end Go.Proofs.Ytlggfbelandpjaa
