/- The laws' sameEntries of two lists of the same entries. No condition. -/
import Derived.Test.YtmpgbonolmmcpaaV19
import Derived.Laws.StructEq
import Derived.Test.YtmpgbonolmmcpaaV32
import Derived.Test.YtmpgbonolmmcpaaV33
import Derived.Test.YtmpgbonolmmcpaaV25
namespace Go.Proofs.Ytmpgbonolmmcpaa
open Go.RowKit
set_option maxRecDepth 100000
set_option linter.unusedVariables false

theorem ent_neq (b c : ByteArray) (w : World) : (binOp .neq 41 (.agg #[.string b, .string c]) (.agg #[.string b, .string c])).run Try.prog w = .ok (.bool false) w := by
  have hu := Try.underlying41
  rw [run_neq_struct, show (10000 : Nat) = 9999 + 1 from rfl, run_equalIn_agg w 9999 41 _ _ (by kernel_rfl) (by kernel_rfl)]
  simp only [Program.fieldsOf, hu]
  have h2 := fun (x y : ByteArray) (w : World) => run_equalIn_string (P := Try.prog) w 9998 9 x y Try.underlying9
  have g9 := Try.isAgg9
  simp [Op.eqFields, part, h2, g9, Result.andThen]

set_option maxHeartbeats 1000000 in
set_option maxRecDepth 100000 in
theorem sameE_any {a b : Value} {ps : List (ByteArray × ByteArray)} {w : World} (h1 : Sv 2 w a (pairCells ps)) (h2 : Sv 2 w b (pairCells ps)) (hn : ps.length ≤ 1099511627776) :
    Calls Try.prog 23 #[a, b] w fun e w' => e = .returned (.bool true) ∧ Below w.heap.size w w' := by
  obtain ⟨aa, ac, rfl, _, _, hca⟩ := h1.pair
  obtain ⟨ba, bc, rfl, _, _, hcb⟩ := h2.pair
  have HA := (show Hid _ from hca)
  have HBc := (show Hid _ from hcb)
  clear h1 h2 hca hcb
  have hne := ent_neq
  go_enter Try.func23, Try.ntmps23
  go_wp2_with fail
  go_loopw [5] (fun i wr => ∃ k : Nat, k ≤ ps.length ∧ i = .int .i64 k ∧ Hid (Below w.heap.size w wr)) (fun i _ => ps.length - (intOf i).toNat)
  case atStart => exact ⟨0, Nat.zero_le _, rfl, Below.refl _ _⟩
  case round =>
    obtain ⟨k, hk, rfl, B⟩ := hrel
    by_cases hlt : k < ps.length
    · obtain ⟨b1, o1, rfl, l1, c1, c2⟩ := HA.out k hlt
      obtain ⟨b2, o2, rfl, l2, d1, d2⟩ := HBc.out k hlt
      obtain ⟨x, hx⟩ : ∃ x, x = ps[k] := ⟨_, rfl⟩
      rw [← hx] at c1 c2 d1 d2
      clear hx
      obtain ⟨xu, xb⟩ := x
      simp only at c1 c2 d1 d2
      have HQ := (show Hid (∀ W, Below w.heap.size w W → W.cell? ⟨b1, o1 + k * 2, none⟩ = some (.string xu) ∧ W.cell? ⟨b1, o1 + k * 2 + 1, none⟩ = some (.string xb) ∧ W.cell? ⟨b2, o2 + k * 2, none⟩ = some (.string xu) ∧ W.cell? ⟨b2, o2 + k * 2 + 1, none⟩ = some (.string xb)) from fun W b => ⟨(b.cell (p := ⟨b1, o1 + k * 2, none⟩) l1).trans c1, (b.cell (p := ⟨b1, o1 + k * 2 + 1, none⟩) l1).trans c2, (b.cell (p := ⟨b2, o2 + k * 2, none⟩) l2).trans d1, (b.cell (p := ⟨b2, o2 + k * 2 + 1, none⟩) l2).trans d2⟩)
      clear c1 c2 d1 d2
      obtain ⟨w4, hw4⟩ : ∃ y, y = wr.drew := ⟨_, rfl⟩
      have B4 : Hid (Below w.heap.size w w4) := (show Below w.heap.size w w4 by rw [hw4]; exact B.out.trans (below_drewN 1))
      have Q4 := (show Hid _ from HQ.out _ B4.out)
      rw [hw4] at Q4
      go_wp2_with fail
      go_region_held3 (fun w' => w'.cell? ⟨b1, o1 + k * 2, none⟩ = some (.string xu) ∧ w'.cell? ⟨b1, o1 + k * 2 + 1, none⟩ = some (.string xb) ∧ w'.cell? ⟨b2, o2 + k * 2, none⟩ = some (.string xu) ∧ w'.cell? ⟨b2, o2 + k * 2 + 1, none⟩ = some (.string xb)) (first | exact Q4.out) (fail)
      rw [← hw4]
      clear hw4 Q4
      go_wp2
      go_roundw
      case rel => exact ⟨k + 1, by omega, by go_num, B4⟩
      case measure => simp [intOf]; omega
    · go_wp2
      go_ret
      exact ⟨rfl, B.out⟩
end Go.Proofs.Ytmpgbonolmmcpaa

/- The law FnIndex, walked. No condition. -/
namespace Go.Proofs.Ytmpgbonolmmcpaa
open Go.RowKit
set_option maxRecDepth 100000
set_option linter.unusedVariables false

theorem lastOf_ne : ∀ (qs : List PRec) (u : ByteArray) (x : ByteArray × Bool), (∀ r ∈ qs, r.url ≠ u) → lastOf qs u x = x := by
  intro qs
  induction qs with
  | nil => intro u x _; rfl
  | cons r qs ih =>
    intro u x h
    rw [lastOf, if_neg (h r (List.mem_cons_self ..))]
    exact ih u x (fun q hq => h q (List.mem_cons_of_mem _ hq))
/-- The last one of an address decides. -/
theorem lastOf_at : ∀ (qs : List PRec) (u : ByteArray) (x : ByteArray × Bool) (j : Nat) (hj : j < qs.length), qs[j].url = u → (∀ m (hm : m < qs.length), j < m → qs[m].url ≠ u) →
    lastOf qs u x = if qs[j].kind = 1 then (qs[j].body, true) else (⟨#[]⟩, false) := by
  intro qs
  induction qs with
  | nil => intro u x j hj; simp at hj
  | cons r qs ih =>
    intro u x j hj hu hm
    cases j with
    | zero =>
      rw [lastOf]
      have hu' : r.url = u := hu
      rw [if_pos hu']
      exact lastOf_ne qs u _ (fun q hq => by
        obtain ⟨t, ht, rfl⟩ := List.getElem_of_mem hq
        exact hm (t + 1) (by simpa using ht) (by omega))
    | succ j =>
      rw [lastOf]
      exact ih u _ j (by simpa using hj) hu (fun m h1 h2 => hm (m + 1) (by simpa using h1) (by omega))
theorem packX_fit {ps : List (ByteArray × ByteArray)} (h : ∀ p ∈ ps, p.1.size ≤ 61 ∧ p.2.size ≤ 9) (hn : ps.length ≤ 9) : (packX ps).1.length ≤ 1000 ∧ ∀ y ∈ (packX ps).1, 0 ≤ y ∧ y ≤ 255 := by
  unfold packX
  cases hq : packE ps with
  | none => exact ⟨by simp, fun y hy => by cases hy⟩
  | some b =>
    obtain ⟨a1, _⟩ := packE_flat _ _ hq
    simp only
    rw [a1]
    have key : ∀ l : List (ByteArray × ByteArray), (∀ p ∈ l, p.1.size ≤ 61 ∧ p.2.size ≤ 9) → ((l.map recE).flatMap recL).length ≤ 97 * l.length ∧ ∀ y ∈ (l.map recE).flatMap recL, 0 ≤ y ∧ y ≤ 255 := by
      intro l
      induction l with
      | nil => intro _; exact ⟨Nat.le_refl _, fun y hy => by cases hy⟩
      | cons p l ih =>
        intro hl
        obtain ⟨i1, i2⟩ := ih (fun q hq => hl q (List.mem_cons_of_mem _ hq))
        obtain ⟨s1, s2⟩ := hl p (List.mem_cons_self ..)
        have hd : recD (recE p) := ⟨by simp [recE], by simp [recE], s1, s2⟩
        have h3 := recL_len97 hd
        rw [List.map_cons, List.flatMap_cons]
        refine ⟨by rw [List.length_append, List.length_cons]; omega, bytes_app (recL_byte (by have := hd.2.1; omega) (by have := hd.2.2.1; omega) (by have := hd.2.2.2; omega)) i2⟩
    obtain ⟨k1, k2⟩ := key ps h
    exact ⟨by omega, k2⟩
theorem idxOf_tiny {qs : List PRec} (h : ∀ q ∈ qs, recD q) : ∀ p ∈ idxOf qs, p.1.size ≤ 61 ∧ p.2.size ≤ 9 := by
  intro p hp
  rcases idxN_mem qs [] p hp with h' | ⟨r, hr, e⟩
  · cases h'
  · rw [e]; exact ⟨(h r hr).2.2.1, (h r hr).2.2.2⟩

/-- All that the law asks of an index. -/
structure IdxF (qs : List PRec) (ps : List (ByteArray × ByteArray)) : Prop where
  asc : Asc ps
  find : ∀ (j : Nat) (hj : j < qs.length), (∀ m (hm : m < qs.length), j < m → qs[m].url ≠ qs[j].url) → attrOf ps qs[j].url = if qs[j].kind = 1 then (qs[j].body, true) else (⟨#[]⟩, false)
  fit : ∀ p ∈ ps, p.1.size ≤ 61 ∧ p.2.size ≤ 9
  len : ps.length ≤ 9
theorem idxF_of {qs : List PRec} (h : ∀ q ∈ qs, recD q) (hn : qs.length ≤ 9) : IdxF qs (idxOf qs) :=
  ⟨idxOf_rise qs, fun j hj hm => by rw [attrOf_idxOf]; exact lastOf_at qs _ _ j hj rfl hm, idxOf_tiny h, Nat.le_trans (idxOf_len qs) hn⟩

set_option maxHeartbeats 4000000 in
set_option maxRecDepth 100000 in
theorem fnIndex_walk {v : Value} {xs : List Int} (w : World) (h : Sl .u8 w v xs) (hf : ∀ n ∈ xs, (Lit.int .u8 n).wf = true) :
    Calls Try.prog 4 #[v] w fun e w' => e = .returned (.bool true) ∧ Below w.heap.size w w' := by
  have hb : ∀ x ∈ xs, 0 ≤ x ∧ x ≤ 255 := byte_ok hf
  have CB := (show Hid _ from big_any h)
  by_cases hbig : 1048576 < xs.length
  · have hd : decide (1048576 < xs.length) = true := decide_eq_true hbig
    rw [hd] at CB
    go_enter Try.func4, Try.ntmps4
    go_wp2_with fail
    go_at_call 12
    refine Calls.mono CB.out ?_
    rintro e w1 ⟨rfl, e1⟩
    subst e1
    go_wp2
    go_ret
    exact ⟨rfl, Below.refl _ _⟩
  have hd : decide (1048576 < xs.length) = false := decide_eq_false hbig
  rw [hd] at CB
  have HS := (show Hid (Sl .u8 w v xs) from h)
  have HB := (show Hid (∀ x ∈ xs, 0 ≤ x ∧ x ≤ 255) from hb)
  have hxl : xs.length ≤ 1048576 := by omega
  clear hd hf hb hbig h
  have hge := geq_str
  go_enter Try.func4, Try.ntmps4
  go_wp2_with fail
  go_at_call 12
  refine Calls.mono CB.out ?_
  rintro e w1 ⟨rfl, e1⟩
  have e2 : w1 = w := e1
  subst e2
  clear CB e1
  go_wp2_with fail
  go_at_call 21
  refine (drawIndexOf_any HS.out HB.out (by omega)).mono ?_
  rintro e w2 ⟨lv, qs, rfl, ol, hql, hqd, b2⟩
  have hsh : ShortR qs := ⟨by omega, fun p hp => ⟨by have := (hqd p hp).2.2.1; omega, by have := (hqd p hp).2.2.2; omega⟩⟩
  have F := (show Hid (IdxF qs (idxOf qs)) from idxF_of hqd hql)
  have SL := (show Hid (Sv 3 w2 lv (recCells qs)) from sv_of_own ol)
  have SH := (show Hid (ShortR qs) from hsh)
  have B2 := (show Hid (Below w1.heap.size w1 w2) from b2)
  clear HS HB hxl ol hqd hsh b2
  obtain ⟨la, lc, rfl, _, _, _⟩ := SL.out.recs
  go_wp2_with fail
  go_at_call 22
  refine (iindexOf_any _ _ _ SL.out SH.out).mono ?_
  rintro e w3 ⟨iv, rfl, oi, b3⟩
  have SL3 := (show Hid (Sv 3 w3 (.slice la qs.length lc) (recCells qs)) from SL.out.below b3)
  have B3 := (show Hid (Below w1.heap.size w1 w3) from B2.out.trans (b3.mono B2.out.size))
  have SI := (show Hid (Sv 2 w3 iv (pairCells (idxOf qs))) from sv_of_own oi)
  clear SL B2 oi b3
  go_wp2_with fail
  go_at_call 24
  refine (sindexOf_any SL3.out (by have := SH.out.1; omega)).mono ?_
  rintro e w4 ⟨iv2, rfl, oj, b4⟩
  have SL4 := (show Hid (Sv 3 w4 (.slice la qs.length lc) (recCells qs)) from SL3.out.below b4)
  have B4 := (show Hid (Below w1.heap.size w1 w4) from B3.out.trans (b4.mono B3.out.size))
  have SI4 := (show Hid (Sv 2 w4 iv (pairCells (idxOf qs))) from SI.out.below b4)
  have SJ := (show Hid (Sv 2 w4 iv2 (pairCells (idxOf qs))) from sv_of_own oj)
  clear SL3 B3 SI oj b4 SH
  obtain ⟨ps, hps⟩ : ∃ ps, ps = idxOf qs := ⟨_, rfl⟩
  rw [← hps] at F SI4 SJ
  clear hps
  have hpl := F.out.len
  obtain ⟨ia, ic, rfl, _, _, _⟩ := SI4.out.pair
  go_wp2_with fail
  go_at_call 23
  refine (sameE_any SI4.out SJ.out (by omega)).mono ?_
  rintro e w5 ⟨rfl, b5⟩
  have SL5 := (show Hid (Sv 3 w5 (.slice la qs.length lc) (recCells qs)) from SL4.out.below b5)
  have B5 := (show Hid (Below w1.heap.size w1 w5) from B4.out.trans (b5.mono B4.out.size))
  have SI5 := (show Hid (Sv 2 w5 (.slice ia ps.length ic) (pairCells ps)) from SI4.out.below b5)
  clear SL4 B4 SI4 SJ b5
  go_wp2_with fail
  go_loopw [5] (fun i wr => ∃ k : Nat, k ≤ ps.length ∧ i = .int .i64 k ∧ Hid (Below w5.heap.size w5 wr)) (fun i _ => ps.length - (intOf i).toNat)
  case atStart => exact ⟨0, Nat.zero_le _, rfl, Below.refl _ _⟩
  case round =>
    obtain ⟨k, hk, rfl, B⟩ := hrel
    by_cases hlt : k < ps.length
    · have B6 := (show Hid (Below w5.heap.size w5 wr.drew) from B.out.trans (below_drewN 1))
      rcases Nat.eq_zero_or_pos k with rfl | hk0
      · go_wp2_with fail
        refine region_tail 15 (by kernel_rfl) (by kernel_rfl) ?_
        intro x1 K1 hX1 hK1
        have ne := One.any x1
        simp only [List.take_succ_cons, List.take_zero, List.drop_succ_cons, List.drop_zero] at hK1 ⊢
        repeat (go_big_quiet_step (fail))
        refine wpQuiet_nil ?_
        refine hK1.out _ ?_
        clear hK1 ne
        rw [hX1.out]
        clear hX1
        go_wp2
        go_roundw
        case rel => exact ⟨1, by omega, by go_num, B6⟩
        case measure => simp [intOf]; omega
      · obtain ⟨m, hkm⟩ : ∃ m : Nat, (k : Int) - 1 = (m : Int) := ⟨k - 1, by omega⟩
        have hm : m + 1 = k := by omega
        have hlm : m < ps.length := by omega
        obtain ⟨_, _, ev, _, _, hca⟩ := (SI5.out.below B6.out).pair
        cases ev
        obtain ⟨b1, o1, rfl, l1, c1, c1b⟩ := hca m hlm
        clear c1b
        obtain ⟨_, _, ev, _, d1, d1b⟩ := hca k hlt
        cases ev
        clear d1b
        have hs : slt ps[m].1 ps[k].1 = true := List.pairwise_iff_getElem.mp F.out.asc m k hlm hlt (by omega)
        have hsl : Op.bytesLess ps[m].1.toList ps[k].1.toList = true := hs
        have hlm' : (m : Int) < (ps.length : Int) := by omega
        have hlt' : (k : Int) < (ps.length : Int) := by omega
        have hk1 : (0 : Int) < (k : Int) := by omega
        have hm0 : (0 : Int) ≤ (m : Int) := by omega
        have hwk : IntKind.i64.wrap ((k : Int) - 1) = (m : Int) := by rw [IntKind.wrap_i64]; omega
        have HKM := (show Hid _ from hkm)
        obtain ⟨x, hx⟩ : ∃ x, x = ps[m].1 := ⟨_, rfl⟩
        obtain ⟨y, hy⟩ : ∃ y, y = ps[k].1 := ⟨_, rfl⟩
        rw [← hx] at c1 hsl
        rw [← hy] at d1 hsl
        have Q := (show Hid (wr.drew.cell? ⟨b1, o1 + m * 2, none⟩ = some (.string x) ∧ wr.drew.cell? ⟨b1, o1 + k * 2, none⟩ = some (.string y)) from ⟨c1, d1⟩)
        have HM := (show Hid _ from hm)
        clear hx hy c1 d1 hca hs hm hkm
        go_wp2_with fail
        go_region_held3 (fun w' => w'.cell? ⟨b1, o1 + m * 2, none⟩ = some (.string x) ∧ w'.cell? ⟨b1, o1 + k * 2, none⟩ = some (.string y)) (first | exact Q.out) (fail)
        go_wp2
        go_roundw
        case rel => exact ⟨k + 1, by omega, by go_num, B6⟩
        case measure => simp [intOf]; omega
    · go_wp2_with fail
      go_loopw [6] (fun i wr => ∃ k : Nat, k ≤ qs.length ∧ i = .int .i64 k ∧ Hid (Below w5.heap.size w5 wr)) (fun i _ => qs.length - (intOf i).toNat)
      case atStart => exact ⟨0, Nat.zero_le _, rfl, B⟩
      case round =>
        clear B
        obtain ⟨k2, hk2, rfl, B⟩ := hrel
        by_cases hlt2 : k2 < qs.length
        · have hlt2' : (k2 : Int) < (qs.length : Int) := by omega
          have hk20 : (0 : Int) ≤ (k2 : Int) := by omega
          go_wp2_with fail
          go_loopw [7, 8] (fun la i wr => ∃ m j : Nat, i = .int .i64 m ∧ la = .int .i64 j ∧ m ≤ qs.length ∧ k2 ≤ m ∧ j ≤ m ∧ j < qs.length ∧ Hid (∃ hj : j < qs.length, qs[j].url = (qs[k2]'hlt2).url) ∧ Hid (∀ t (ht : t < qs.length), j < t → t < m → qs[t].url ≠ (qs[k2]'hlt2).url) ∧ Hid (Below w5.heap.size w5 wr)) (fun _ i _ => qs.length - (intOf i).toNat)
          case atStart => exact ⟨k2, k2, rfl, rfl, by omega, Nat.le_refl _, Nat.le_refl _, hlt2, (show ∃ hj : k2 < qs.length, qs[k2].url = (qs[k2]'hlt2).url from ⟨hlt2, rfl⟩), (show ∀ t (ht : t < qs.length), k2 < t → t < k2 → qs[t].url ≠ (qs[k2]'hlt2).url from fun t ht h1 h2 => by omega), B⟩
          case round =>
            clear B
            obtain ⟨m, j, rfl, rfl, hm, hkm, hjm, hj, HJ, HN, B⟩ := hrel
            by_cases hltm : m < qs.length
            · have hltm' : (m : Int) < (qs.length : Int) := by omega
              have hm0 : (0 : Int) ≤ (m : Int) := by omega
              have B6 := (show Hid (Below w5.heap.size w5 wr.drew) from B.out.trans (below_drewN 1))
              obtain ⟨_, _, ev, _, _, hca⟩ := (SL5.out.below B6.out).recs
              cases ev
              obtain ⟨b1, o1, rfl, l1, c0, c1, c2⟩ := hca m hltm
              obtain ⟨_, _, ev, _, d0, d1, d2⟩ := hca k2 hlt2
              cases ev
              obtain ⟨x, hx⟩ : ∃ x, x = qs[m].url := ⟨_, rfl⟩
              obtain ⟨y, hy⟩ : ∃ y, y = qs[k2].url := ⟨_, rfl⟩
              rw [← hx] at c1
              rw [← hy] at d1
              have HX := (show Hid _ from hx)
              have HYY := (show Hid _ from hy)
              have Q := (show Hid (wr.drew.cell? ⟨b1, o1 + m * 3 + 1, none⟩ = some (.string x) ∧ wr.drew.cell? ⟨b1, o1 + k2 * 3 + 1, none⟩ = some (.string y)) from ⟨c1, d1⟩)
              clear hx hy c0 c1 c2 d0 d1 d2 hca
              by_cases hxy : x = y
              · have hxt : (x.toList == y.toList) = true := by rw [hxy]; simp
                have HXY := (show Hid _ from hxy)
                clear hxy
                go_wp2_with fail
                go_region_held3 (fun w' => w'.cell? ⟨b1, o1 + m * 3 + 1, none⟩ = some (.string x) ∧ w'.cell? ⟨b1, o1 + k2 * 3 + 1, none⟩ = some (.string y)) (first | exact Q.out) (fail)
                go_wp2
                go_roundw
                case rel => exact ⟨m + 1, m, by go_num, rfl, by omega, by omega, by omega, hltm, (show ∃ hj : m < qs.length, qs[m].url = (qs[k2]'hlt2).url from ⟨hltm, by rw [← HX.out, ← HYY.out]; exact HXY.out⟩), (show ∀ t (ht : t < qs.length), m < t → t < m + 1 → qs[t].url ≠ (qs[k2]'hlt2).url from fun t ht h1 h2 => by omega), B6⟩
                case measure => simp [intOf]; omega
              · have hxt := toList_ne hxy
                have HXY := (show Hid (x ≠ y) from hxy)
                clear hxy
                go_wp2_with fail
                go_region_held3 (fun w' => w'.cell? ⟨b1, o1 + m * 3 + 1, none⟩ = some (.string x) ∧ w'.cell? ⟨b1, o1 + k2 * 3 + 1, none⟩ = some (.string y)) (first | exact Q.out) (fail)
                go_wp2
                go_roundw
                case rel => exact ⟨m + 1, j, by go_num, rfl, by omega, by omega, by omega, hj, HJ, (show ∀ t (ht : t < qs.length), j < t → t < m + 1 → qs[t].url ≠ (qs[k2]'hlt2).url from fun t ht h1 h2 => by
                  by_cases e : t = m
                  · subst e
                    intro e2
                    exact HXY.out (by rw [HX.out, HYY.out]; exact e2)
                  · exact HN.out t ht h1 (by omega)), B6⟩
                case measure => simp [intOf]; omega
            · obtain ⟨_, _, ev, _, _, hca⟩ := (SL5.out.below B.out).recs
              cases ev
              obtain ⟨b1, o1, rfl, l1, c0, c1, c2⟩ := hca k2 hlt2
              obtain ⟨_, _, ev, _, d0, d1, d2⟩ := hca j hj
              cases ev
              have hj' : (j : Int) < (qs.length : Int) := by omega
              have hj0 : (0 : Int) ≤ (j : Int) := by omega
              obtain ⟨_, hju⟩ := HJ.out
              have hat := F.out.find j hj (fun t ht h1 => by rw [hju]; exact HN.out t ht h1 (by omega))
              rw [hju] at hat
              obtain ⟨u, hu⟩ : ∃ u, u = qs[k2].url := ⟨_, rfl⟩
              obtain ⟨q, hq⟩ : ∃ q, q = qs[j] := ⟨_, rfl⟩
              rw [← hu] at c1 hat
              rw [← hq] at d0 d2 hat
              clear hu hq hju d1 c0 c2 HJ HN hca
              obtain ⟨kd, ur, bo⟩ := q
              simp only at d0 d2 hat
              have CF := (show Hid _ from iidxFind_any (SI5.out.below B.out) u (by omega))
              rw [hat] at CF
              clear hat
              by_cases hkd : kd = 1
              · subst hkd
                rw [if_pos rfl] at CF
                go_wp2_with fail
                go_at_call 25
                refine Calls.mono CF.out ?_
                rintro e w6 ⟨rfl, b6⟩
                have B6 := (show Hid (Below w5.heap.size w5 w6) from B.out.trans (b6.mono B.out.size))
                have l2 : b1 < wr.heap.size := l1
                have d0' := (b6.cell (p := ⟨b1, o1 + j * 3, none⟩) l2).trans d0
                have d2' := (b6.cell (p := ⟨b1, o1 + j * 3 + 2, none⟩) l2).trans d2
                clear d0 d2 b6 CF c1
                go_wp2
                go_roundw
                case rel => exact ⟨k2 + 1, by omega, by go_num, B6⟩
                case measure => simp [intOf]; omega
              · have hkb : (kd == 1) = false := beq_eq_false_iff_ne.mpr hkd
                rw [if_neg hkd] at CF
                go_wp2_with fail
                go_at_call 25
                refine Calls.mono CF.out ?_
                rintro e w6 ⟨rfl, b6⟩
                have B6 := (show Hid (Below w5.heap.size w5 w6) from B.out.trans (b6.mono B.out.size))
                have l2 : b1 < wr.heap.size := l1
                have d0' := (b6.cell (p := ⟨b1, o1 + j * 3, none⟩) l2).trans d0
                have d2' := (b6.cell (p := ⟨b1, o1 + j * 3 + 2, none⟩) l2).trans d2
                clear d0 d2 b6 CF c1
                go_wp2
                go_roundw
                case rel => exact ⟨k2 + 1, by omega, by go_num, B6⟩
                case measure => simp [intOf]; omega
        · have SI6 := (show Hid (Sv 2 wr (.slice ia ps.length ic) (pairCells ps)) from SI5.out.below B.out)
          have B6 := (show Hid (Below w1.heap.size w1 wr) from B5.out.trans (B.out.mono B5.out.size))
          clear B SL5 B5 SI5
          go_wp2_with fail
          go_at_call 26
          refine (iindexPack_any SI6.out (by omega) (fun p hp => ⟨by have := (F.out.fit p hp).1; omega, by have := (F.out.fit p hp).2; omega⟩)).mono ?_
          rintro e w7 ⟨pv, rfl, op, b7⟩
          have PF := (show Hid _ from packX_fit F.out.fit F.out.len)
          have PR := (show Hid ((packX ps).2 = true → recsR (packX ps).1 = (ps.map recE, true)) from packX_read (fun p hp => by have := (F.out.fit p hp).2; omega))
          have OP := (show Hid (Sl .u8 w7 pv (packX ps).1) from Own.sl op)
          have SI7 := (show Hid (Sv 2 w7 (.slice ia ps.length ic) (pairCells ps)) from SI6.out.below b7)
          have B7 := (show Hid (Below w1.heap.size w1 w7) from B6.out.trans (b7.mono B6.out.size))
          clear op b7 SI6 B6
          obtain ⟨p, hp⟩ : ∃ p, p = packX ps := ⟨_, rfl⟩
          rw [← hp] at PF PR OP ⊢
          clear hp
          obtain ⟨pb, ok⟩ := p
          simp only at PF PR OP ⊢
          go_wp2_with fail
          go_at_call 18
          refine (irecords_any OP.out PF.out.2 (by have := PF.out.1; omega)).mono ?_
          rintro e w8 ⟨bv, rfl, ob, b8⟩
          have SI8 := (show Hid (Sv 2 w8 (.slice ia ps.length ic) (pairCells ps)) from SI7.out.below b8)
          have B8 := (show Hid (Below w1.heap.size w1 w8) from B7.out.trans (b8.mono B7.out.size))
          cases ok
          · clear PR ob
            obtain ⟨fb, hfb⟩ : ∃ fb, fb = (recsR pb).2 := ⟨_, rfl⟩
            rw [← hfb]
            clear hfb
            go_wp2
            go_ret
            exact ⟨rfl, B8.out⟩
          · have hpr := PR.out rfl
            rw [hpr] at ob ⊢
            simp only at ob ⊢
            have SB := (show Hid (Sv 3 w8 bv (recCells (ps.map recE))) from sv_of_own ob)
            have hsb : ShortR (ps.map recE) := ⟨by rw [List.length_map]; omega, fun r hr => by
              obtain ⟨p, hp, rfl⟩ := List.mem_map.mp hr
              exact ⟨by have := (F.out.fit p hp).1; show p.1.size ≤ _; omega, by have := (F.out.fit p hp).2; show p.2.size ≤ _; omega⟩⟩
            have CI := (show Hid _ from iindexOf_any bv _ w8 SB.out hsb)
            rw [idxOf_own F.out.asc] at CI
            clear PR hpr ob SB hsb b8
            go_wp2_with fail
            go_at_call 22
            refine Calls.mono CI.out ?_
            rintro e w9 ⟨jv, rfl, oj, b9⟩
            have SJ := (show Hid (Sv 2 w9 jv (pairCells ps)) from sv_of_own oj)
            have SI9 := (show Hid (Sv 2 w9 (.slice ia ps.length ic) (pairCells ps)) from SI8.out.below b9)
            have B9 := (show Hid (Below w1.heap.size w1 w9) from B8.out.trans (b9.mono B8.out.size))
            clear CI oj b9 SI8 B8
            go_wp2_with fail
            go_at_call 23
            refine (sameE_any SJ.out SI9.out (by omega)).mono ?_
            rintro e w10 ⟨rfl, b10⟩
            have B10 := (show Hid (Below w1.heap.size w1 w10) from B9.out.trans (b10.mono B9.out.size))
            go_wp2
            go_ret
            exact ⟨rfl, B10.out⟩
end Go.Proofs.Ytmpgbonolmmcpaa
