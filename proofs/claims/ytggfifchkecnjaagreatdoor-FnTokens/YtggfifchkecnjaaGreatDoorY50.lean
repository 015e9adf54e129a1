/- The law FnTokens, walked, where the program's table lies as its text lays it. -/
import Derived.Test.YtggfifchkecnjaaGreatDoorY49
import Derived.Test.YtggfifchkecnjaaGreatDoorY23
import Derived.Test.YtggfifchkecnjaaGreatDoorY28
import Derived.Test.YtggfifchkecnjaaGreatDoorY10
namespace Go.Proofs.YtggfifchkecnjaaGreatDoor
open Go.RowKit
set_option maxRecDepth 100000
set_option linter.unusedVariables false

theorem clean_not {x y : Int} (hy : y ≠ 65533) (h : x ≠ y) : clean x ≠ y := by
  unfold clean
  split
  · exact fun e => hy e.symm
  · exact h
theorem clean_same {x : Int} (h : clean x = 38 ∨ clean x = 35) : clean x = x := by
  unfold clean at h ⊢
  split
  · rename_i hc
    rw [if_pos hc] at h
    omega
  · rfl
theorem clean_low7 (x : Int) (h0 : 1 ≤ x) (h1 : x ≤ 127) : clean x = x := by
  unfold clean
  rw [if_neg]
  rintro (h | h)
  · omega
  · have : pointOk x = true := (pointOk_iff x).mpr (by omega)
    rw [this] at h; cases h
theorem good_clean {zs : List Int} (h1 : ∀ z ∈ zs, pointOk z = true ∧ z ≠ 65279) (h2 : safeL zs = true) (h3 : zs.length ≤ 3000) : GoodY (zs.map clean) where
  ok := by
    intro y hy
    obtain ⟨x, hx, rfl⟩ := List.mem_map.mp hy
    exact ⟨(clean_ok x).1, clean_not (by decide) (h1 x hx).2, (clean_ok x).2⟩
  safe := safe_map (fun x a b => clean_low7 x a b) (fun x a => clean_same a) h2
  few := by rw [List.length_map]; exact h3
def plainL (zs : List Int) : Bool := zs.all fun z => z != 38 && z != 60
theorem plain_succ {zs : List Int} {k : Nat} (hk : k < zs.length) : plainL (zs.take (k + 1)) = (plainL (zs.take k) && (zs.getD k 0 != 38 && zs.getD k 0 != 60)) := by
  have e : zs.getD k 0 = zs[k] := by simp [List.getD_eq_getElem?_getD, hk]
  unfold plainL
  rw [List.take_succ_eq_append_getElem hk, List.all_append, e]
  simp
structure ToksL (zs : List Int) (ts : List TokD) : Prop where
  pos : 0 < ts.length
  few : ts.length ≤ 3001
  last : ∀ k (hk : k < ts.length), (ts[k].k = 1 ↔ k + 1 = ts.length)
  good : ∀ t ∈ ts, TokGood t ∧ t.nm.size ≤ 60 ∧ t.tx.size ≤ 12000 ∧ Few t.rs
  plain : plainL zs = true → ts.length = zs.length + 1
theorem toksL_of {zs : List Int} (h1 : ∀ z ∈ zs, pointOk z = true ∧ z ≠ 65279) (h2 : safeL zs = true) (h3 : zs.length ≤ 3000) : ToksL zs (toksOf zs) := by
  have hg := good_clean h1 h2 h3
  have hl := hg.few
  have e : toksOf zs = toksV (zs.map clean) 0 := by unfold toksOf; rw [if_pos h3]
  obtain ⟨l1, l2⟩ := toks_last hl (zs.map clean).length 0 (by omega) (Nat.zero_le _)
  rw [e]
  refine ⟨l1, ?_, l2, ?_, fun hp => ?_⟩
  · have := toks_len hl (zs.map clean).length 0 (by omega)
    omega
  · exact toks_all hl _ (fun i _ => ⟨good_tok hg _ _, (tokV_tells hl i).nm, (tokV_tells hl i).tx, (tokV_tells hl i).few⟩) _ 0 (Nat.le_refl _) (Nat.zero_le _)
  · have := toks_plain hl (fun y hy => by
      obtain ⟨x, hx, rfl⟩ := List.mem_map.mp hy
      unfold plainL at hp
      have hx2 := List.all_eq_true.mp hp x hx
      simp only [Bool.and_eq_true, bne_iff_ne] at hx2
      exact ⟨clean_not (by decide) hx2.1, clean_not (by decide) hx2.2⟩) (zs.map clean).length 0 (by omega) (Nat.zero_le _)
    rw [this, List.length_map]
    omega

set_option maxHeartbeats 2000000 in
set_option maxRecDepth 100000 in
theorem fnTokens_walk {v : Value} {xs : List Int} (w : World) (ho : Older w) (h : Sl .u8 w v xs) (hwf : ∀ n ∈ xs, (Lit.int .u8 n).wf = true) :
    Calls Tryz.prog 3 #[v] w fun e w' => e = .returned (.bool true) ∧ Below w.heap.size w w' := by
  have HB : Hid (∀ x ∈ xs, 0 ≤ x ∧ x ≤ 255) := byte_ok hwf
  have HO := (show Hid (Older w) from ho)
  clear hwf ho
  have hbig := big_any h
  by_cases hl : 1048576 < xs.length
  · rw [decide_eq_true hl] at hbig
    go_enter Tryz.func3, Tryz.ntmps3
    go_wp2_with fail
    go_at_call 5
    refine hbig.mono ?_
    rintro e w1 ⟨rfl, rfl⟩
    go_wp2
    go_ret
    exact ⟨rfl, Below.refl _ _⟩
  rw [decide_eq_false hl] at hbig
  have hn : xs.length ≤ 1048576 := by omega
  go_enter Tryz.func3, Tryz.ntmps3
  go_wp2_with fail
  go_at_call 5
  refine hbig.mono ?_
  rintro e w1 ⟨rfl, rfl⟩
  clear hbig
  go_wp2_with fail
  go_at_call 6
  refine (drawTokensSaf_any h HB.out (by omega)).mono ?_
  rintro e w2 ⟨vz, zs, rfl, oz, hzl, hz1, hz2, b2⟩
  have HZ1 := (show Hid (∀ z ∈ zs, pointOk z = true ∧ z ≠ 65279) from hz1)
  have HZ2 := (show Hid (safeL zs = true) from hz2)
  obtain ⟨pz, lz, cz, rfl⟩ := row_slice oz
  have hlz : lz = zs.length := by obtain ⟨_, _, e, _⟩ := oz.sl; injection e
  subst hlz
  clear hz1 hz2 h hl
  go_wp2_with fail
  go_at_call 7
  refine (itokens_all (HO.out.below b2) oz.sl (by omega)).mono ?_
  rintro e w3 ⟨tv, qs, rfl, o3, _, m3, b3⟩
  obtain ⟨p3, l3, c3, rfl⟩ := ownK_slice o3
  have hl3 : l3 = qs.length := by obtain ⟨_, _, e, _⟩ := (sv_of_own o3.row).five; injection e
  subst hl3
  replace oz := oz.below b3
  replace o3 := o3.base b2.size
  replace b2 := b2.trans (b3.mono b2.size)
  clear b3
  go_wp2_with fail
  go_at_call 8
  refine (stokens_all oz.sl (by omega)).mono ?_
  rintro e w4 ⟨sv, ps, rfl, o4, _, m4, b4⟩
  obtain ⟨p4, l4, c4, rfl⟩ := ownK_slice o4
  have hl4 : l4 = qs.length := by
    obtain ⟨_, _, e, _⟩ := (sv_of_own o4.row).five
    injection e with _ e2 _
    have h1 := congrArg List.length m3
    have h2 := congrArg List.length m4
    rw [List.length_map] at h1 h2
    omega
  subst hl4
  replace oz := oz.below b4
  replace o3 := o3.below b4
  replace b2 := b2.trans (b4.mono b2.size)
  clear b4 o4 m4
  by_cases h3 : 3000 < zs.length
  · have hq0 : qs.length = 0 := by
      have := congrArg List.length m3
      rw [List.length_map] at this
      unfold toksOf at this
      rw [if_neg (by omega)] at this
      exact this
    have h3' : (3000 : Int) < (zs.length : Int) := by omega
    have h0' : ((qs.length : Int) == 0) = true := by rw [hq0]; rfl
    go_wp2
    go_ret
    exact ⟨ret_bool (by simp), b2⟩
  · have h3' : ¬ (3000 : Int) < (zs.length : Int) := by omega
    have TL := (show Hid (ToksL zs (qs.map fun q => q.1)) from (show ToksL zs _ by rw [m3]; exact toksL_of HZ1.out HZ2.out (by omega)))
    have ht := o3.at
    have HT := (show Hid (ToksAt w4 (.slice p3 qs.length c3) (qs.map fun q => q.1)) from ht)
    obtain ⟨_, _, ezz, _, _, _, hcz⟩ := oz.sl
    injection ezz with e1 e2 e3
    subst e1
    have HCZ := (show Hid _ from hcz)
    have hq1 : 0 < qs.length ∧ qs.length ≤ 3001 := by
      have a := TL.out.pos
      have b := TL.out.few
      rw [List.length_map] at a b
      exact ⟨a, b⟩
    obtain ⟨hq1a, hq1b⟩ := hq1
    clear ht hcz e3 m3 oz o3 HZ1 HZ2
    go_wp2_with fail
    go_loopw [6, 7] (fun p i wr => ∃ (k : Nat) (q : Bool), k ≤ zs.length ∧ i = .int .i64 k ∧ p = .bool q ∧ Hid (q = plainL (zs.take k)) ∧ w4 = wr) (fun _ i _ => zs.length - (intOf i).toNat)
    case atStart => exact ⟨0, true, Nat.zero_le _, rfl, rfl, rfl, rfl⟩
    case round =>
      obtain ⟨k, q, hk, rfl, rfl, hq, rfl⟩ := hrel
      by_cases hlt : k < zs.length
      · obtain ⟨b, off, rfl, cz0⟩ := HCZ.out k hlt
        obtain ⟨z, hz⟩ : ∃ z, z = zs.getD k 0 := ⟨_, rfl⟩
        have hp := plain_succ hlt
        rw [← hq.out, ← hz] at hp
        rw [← hz] at cz0
        have HP := (show Hid _ from hp)
        have hkl : (k : Int) < (zs.length : Int) := by omega
        clear hz hp hq
        cases q
        · go_wp2
          go_roundw
          case rel => exact ⟨k + 1, false, by omega, by go_num, rfl, (show false = _ by rw [HP.out]; rfl), trivial⟩
          case measure => simp [intOf]; omega
        · by_cases h38 : z = 38
          · have n38 : (z != 38) = false := by simp [h38]
            go_wp2
            go_roundw
            case rel => exact ⟨k + 1, false, by omega, by go_num, rfl, (show false = _ by rw [HP.out, n38]; rfl), trivial⟩
            case measure => simp [intOf]; omega
          · have n38 : (z != 38) = true := by simp [h38]
            by_cases h60 : z = 60
            · have n60 : (z != 60) = false := by simp [h60]
              go_wp2
              go_roundw
              case rel => exact ⟨k + 1, false, by omega, by go_num, rfl, (show false = _ by rw [HP.out, n60]; simp), trivial⟩
              case measure => simp [intOf]; omega
            · have n60 : (z != 60) = true := by simp [h60]
              go_wp2
              go_roundw
              case rel => exact ⟨k + 1, true, by omega, by go_num, rfl, (show true = _ by rw [HP.out, n38, n60]; rfl), trivial⟩
              case measure => simp [intOf]; omega
      · obtain rfl : k = zs.length := by omega
        have HPL := (show Hid (q = plainL zs) from (show q = _ by rw [hq.out, List.take_length]))
        clear hq hlt hk HCZ
        have ne := Wd.any w4.heap.size w4
        go_wp2_with fail
        go_loopw [8] (fun i wr => ∃ (k : Nat), k ≤ qs.length ∧ i = .int .i64 k ∧ Below w4.heap.size w4 wr) (fun i _ => qs.length - (intOf i).toNat)
        case atStart => exact ⟨0, Nat.zero_le _, rfl, Below.refl _ _⟩
        case round =>
          obtain ⟨k, hk, rfl, hb⟩ := hrel
          by_cases hlt : k < qs.length
          · have hlm : k < (qs.map fun q => q.1).length := by rw [List.length_map]; exact hlt
            have htb := HT.out.below hb
            obtain ⟨_, _, ea, _, _, hca⟩ := htb
            injection ea with e1 e2 e3
            subst e1
            obtain ⟨b, off, va, rfl, l1, c0, c1, c2, c3', c4', sa⟩ := hca k hlm
            have hlast := TL.out.last k hlm
            obtain ⟨hgood, hnm, htx, hfew⟩ := TL.out.good _ (List.getElem_mem hlm)
            rw [List.length_map] at hlast
            obtain ⟨t, ht⟩ : ∃ t, t = (qs.map fun q => q.1)[k] := ⟨_, rfl⟩
            rw [← ht] at c0 c1 c3' c4' sa hlast hgood hnm htx hfew
            obtain ⟨tk, nm, rs, tx, sf⟩ := t
            simp only at c0 c1 c3' c4' sa hlast hnm htx hfew
            obtain ⟨va1, va2, rfl, _, _, _⟩ := sa.pair
            have CK := (show Hid _ from itokenOk_any sa tk nm tx sf ⟨by omega, by omega, by have := hfew.1; omega, fun p hp => by have := hfew.2 p hp; omega⟩)
            have hwl : IntKind.i64.wrap ((qs.length : Int) - 1) = (qs.length : Int) - 1 := wrap_fit (by omega) (by omega)
            have hkl : (k : Int) < (qs.length : Int) := by omega
            have h1l : ((k : Int) == (qs.length : Int) - 1) = (tk == 1) := by
              by_cases h1 : tk = 1
              · have := hlast.mp h1
                have e1 : (tk == 1) = true := by simp [h1]
                rw [e1]; simp; omega
              · have e1 : (tk == 1) = false := by simp [h1]
                have : ¬ k + 1 = qs.length := fun h => h1 (hlast.mpr h)
                rw [e1]; simp; omega
            have hxx : ∀ q : Bool, (q != q) = false := fun q => by cases q <;> rfl
            have hnm' : (nm.size : Int) ≤ 60 := by omega
            have HGOOD := (show Hid (tk = 3 ∨ tk = 4 ∨ tokenOk tk nm rs tx sf = true) from hgood)
            clear hca hlast hgood ht hfew sa htx hlm e2 e3
            by_cases h3 : tk = 3
            · have n3 : (tk != 3) = false := by simp [h3]
              have n1 : (tk == 1) = false := by simp [h3]
              rw [n1] at h1l
              clear CK HGOOD h3
              go_wp2
              go_roundw
              case rel => exact ⟨k + 1, by omega, by go_num, hb⟩
              case measure => simp [intOf]; omega
            · have n3 : (tk != 3) = true := by simp [h3]
              obtain ⟨q1, hq1⟩ : ∃ q, q = (tk == 1) := ⟨_, rfl⟩
              rw [← hq1] at h1l
              obtain ⟨qk, hqk⟩ : ∃ q, q = tokenOk tk nm rs tx sf := ⟨_, rfl⟩
              rw [← hqk] at CK HGOOD
              clear hqk
              have N1 := (show Hid (q1 = (tk == 1)) from hq1)
              have n1 : (tk == 1) = q1 := hq1.symm
              clear hq1
              cases qk
              · have h4 : tk = 4 := by
                  rcases HGOOD.out with h | h | h
                  · exact absurd h h3
                  · exact h
                  · cases h
                subst h4
                obtain rfl : q1 = false := n1.symm
                clear HGOOD N1 n1 n3 h3
                go_wp2_with fail
                go_at_call 9
                refine Calls.mono CK.out ?_
                rintro e w5 ⟨rfl, b5⟩
                replace hb := hb.trans (b5.mono hb.size)
                have d1 := (b5.cell (p := ⟨b, off + k * 5 + 1, none⟩) l1).trans c1
                have d0 := (b5.cell (p := ⟨b, off + k * 5, none⟩) l1).trans c0
                clear c0 c1 c2 c3' c4' CK b5
                go_wp2
                go_roundw
                case rel => exact ⟨k + 1, by omega, by go_num, hb⟩
                case measure => simp [intOf]; omega
              · clear HGOOD N1 h3
                cases q1
                all_goals
                  go_wp2_with fail
                  go_at_call 9
                  refine Calls.mono CK.out ?_
                  rintro e w5 ⟨rfl, b5⟩
                  replace hb := hb.trans (b5.mono hb.size)
                  clear c0 c1 c2 c3' c4' CK b5
                  go_wp2
                  go_roundw
                  case rel => exact ⟨k + 1, by omega, by go_num, hb⟩
                  case measure => simp [intOf]; omega
          · obtain rfl : k = qs.length := by omega
            have hpos : (0 : Int) < (qs.length : Int) := by omega
            replace hb := b2.trans (hb.mono b2.size)
            cases q
            · go_wp2
              go_ret
              exact ⟨rfl, hb⟩
            · have hpl := TL.out.plain HPL.out.symm
              rw [List.length_map] at hpl
              have hw1 : IntKind.i64.wrap ((zs.length : Int) + 1) = (zs.length : Int) + 1 := wrap_fit (by omega) (by omega)
              have he : ((qs.length : Int) == (zs.length : Int) + 1) = true := by simp; omega
              go_wp2
              go_ret
              exact ⟨rfl, hb⟩
end Go.Proofs.YtggfifchkecnjaaGreatDoor
