import Derived.Test.YtiojilmclocmkaaGreatDoorB5
import Derived.Lib.LaidTab
import Derived.MakeChecks
import Derived.Test.YtiojilmclocmkaaGreatDoorB19
import Derived.Test.YtiojilmclocmkaaGreatDoorB20
/- What a package-level table holds that a row lists: its cells, in every world that turns nothing of what was there. -/
namespace Go.Proofs.YtiojilmclocmkaaGreatDoor
open Go.RowKit
set_option maxRecDepth 100000
set_option linter.unusedVariables false

/-- The variable at block g holds just the integers 'xs'. -/
structure TabAt (g : Nat) (xs : List Int) (w : World) : Prop where
  cell : ∀ k, k < xs.length → w.cell? ⟨g, k, none⟩ = some (.int .i64 (xs.getD k 0))

theorem TabAt.below {g : Nat} {xs : List Int} {w w' : World} (h : TabAt g xs w) (hb : Below w.heap.size w w') : TabAt g xs w' := ⟨fun k hk => by
  have c := h.cell k hk
  have hlt : g < w.heap.size := by
    by_cases hlt : g < w.heap.size
    · exact hlt
    · exfalso; simp [World.cell?, Array.getElem?_eq_none (Nat.le_of_not_lt hlt)] at c
  exact (hb.cell (p := ⟨g, k, none⟩) hlt).trans c⟩

theorem laidVars_mem {P : Program} {w : World} {n : String} {d : DataW Unit} : ∀ {l : List (String × DataW Unit)} {ps : List MemPlace}, DataW.LaidVars P w l ps → (n, d) ∈ l →
    ∃ g t cs fuel p, P.globalNamed n = some g ∧ (P.globals[g]?).map (·.type) = some t ∧ w.var? P n = some cs ∧ DataW.trod (fun _ => ()) P w 0 (fun _ => true) false fuel t cs.toList = some (d, p)
  | [], _, _, hm => by cases hm
  | (n', d') :: r, _, h, hm => by
    obtain ⟨g, t, cs, fuel, p, q, h1, h2, h3, h4, h5, _⟩ := h
    rcases List.mem_cons.1 hm with e | e
    · cases e
      exact ⟨g, t, cs, fuel, p, h1, h2, h3, h4⟩
    · exact laidVars_mem h5 e

theorem trodVars_len {H : Type} {enc : TypeId × Value → H} {P : Program} {w : World} {sp : Nat → Bool} : ∀ {ns : List String} {gs : List (DataW H)} {ps : List MemPlace}, DataW.TrodVars enc P w sp ns gs ps → gs.length = ns.length
  | [], [], _, _ => rfl
  | [], _ :: _, _, h => h.elim
  | _ :: _, [], _, h => h.elim
  | _ :: ns, _ :: ds, _, ⟨_, _, _, _, _, _, _, _, _, _, h, _⟩ => by simp [trodVars_len h]

/-- From the row's condition to the table's cells. -/
theorem tabAt_of {P : Program} {W : World} {name : String} {zs : List Int} {l : List (String × DataW Unit)} {g : Nat} {t e : TypeId} {n : Nat}
    (hg : P.globalNamed name = some g) (hty : (P.globals[g]?).map (·.type) = some t) (ht : P.underlying t = some (.array n e)) (he : P.underlying e = some (.int .i64)) (hce : P.cellsOf e = 1) (hct : P.cellsOf t = n)
    (h : laidMet P l W) (hm : (name, Lib.tabData .i64 zs) ∈ l) : TabAt g zs W := by
  obtain ⟨ps, hv, _⟩ := h
  obtain ⟨g', t', cs, fuel, p, hg', ht', hvar, hd⟩ := laidVars_mem hv hm
  obtain rfl := Option.some.inj (hg.symm.trans hg')
  obtain rfl := Option.some.inj (hty.symm.trans ht')
  have hT : Lib.TabIs P W name .i64 zs := by
    unfold Lib.TabIs
    rw [hvar, ← Lib.cells_of_tab ht he hce hct hd]
  exact ⟨fun k hk => hT.cell hg k hk⟩

/-- The table of the program's numbers 128 to 159. -/
abbrev Older (w : World) : Prop := TabAt 0 oldPoints w
end Go.Proofs.YtiojilmclocmkaaGreatDoor

/- The law FnPlainText, walked. -/
namespace Go.Proofs.YtiojilmclocmkaaGreatDoor
open Go.RowKit
set_option maxRecDepth 100000
set_option linter.unusedVariables false

/-- A point of a page that is one. -/
def plainPt (x : Int) : Int := if x = 0 then 65533 else x
theorem clean_plain {x : Int} (h : pointOk x = true) : clean x = plainPt x := by unfold clean plainPt; rw [h]; simp

set_option maxHeartbeats 4000000 in
theorem fnPlainText_any {v : Value} {xs : List Int} (w : World) (h : Sl .u8 w v xs) (hwf : ∀ n ∈ xs, (Lit.int .u8 n).wf = true) :
    Calls Tryz.prog 3 #[v] w fun e w' => e = .returned (.bool true) ∧ Below w.heap.size w w' := by
  have HB : Hid (∀ x ∈ xs, 0 ≤ x ∧ x ≤ 255) := byte_ok hwf
  clear hwf
  have hbig := big_any h
  by_cases hl : 1048576 < xs.length
  · rw [decide_eq_true hl] at hbig
    go_enter Tryz.func3, Tryz.ntmps3
    go_wp2_with fail
    go_at_call 4
    refine hbig.mono ?_
    rintro e w1 ⟨rfl, rfl⟩
    go_wp2
    go_ret
    exact ⟨rfl, Below.refl _ _⟩
  · rw [decide_eq_false hl] at hbig
    obtain ⟨i0, hi0, hz0, hz1, hz2⟩ := info_parts Tryz.infoB
    obtain ⟨j0, hj0, hy0, hy1, hy2⟩ := info_parts Tryz.infoI
    go_enter Tryz.func3, Tryz.ntmps3
    go_wp2_with fail
    go_at_call 4
    refine hbig.mono ?_
    rintro e w1 ⟨rfl, rfl⟩
    clear hbig
    go_wp2_with fail
    go_at_call 5
    refine (drawTokens_any h HB.out (by omega)).mono ?_
    rintro e w2 ⟨u, zs, rfl, o2, hzl, hzs, b2⟩
    have HZ := (show Hid (∀ z ∈ zs, pointOk z = true ∧ z ≠ 65279) from hzs)
    have h2 := o2.sl
    have H2 := (show Hid (Sl .i64 w2 u zs) from h2)
    clear hzs o2 h HB
    obtain ⟨a, ca, eu, _, _, _, _⟩ := h2
    rename_i x1 x2 x3 x4
    subst eu
    clear x1 x2 x3 x4
    by_cases h3 : 3000 < zs.length
    · have hn := next_long H2.out h3 (by omega)
      go_wp2_with fail
      go_at_call 6
      refine hn.mono ?_
      rintro e w3 ⟨rfl, b3⟩
      unfold tokVal
      go_wp2
      go_ret
      exact ⟨rfl, (b2.trans (b3.mono b2.size)).alloc (Nat.le_trans b2.size b3.size) _⟩
    · have hown0 := own_empty 5 .u8 w2
      have hbel0 : Below w1.heap.size w1 (w2.alloc (.cells #[] 5)) := b2.alloc b2.size _
      replace hown0 := hown0.base b2.size
      have H3 : Hid (Below w2.heap.size w2 (w2.alloc (.cells #[] 5))) := (Below.refl _ _).alloc (Nat.le_refl _) _
      go_wp2
      go_loopw [6, 7] (fun o i wr => ∃ k : Nat, k ≤ zs.length ∧ i = .int .i64 k ∧ Own w2.heap.size 5 .u8 wr o (puts ((zs.map plainPt).take k)) ∧ Below w2.heap.size w2 wr) (fun _ i _ => zs.length - (intOf i).toNat)
      case atStart => exact ⟨0, Nat.zero_le _, rfl, own_empty 5 .u8 w2, H3.out⟩
      case round =>
        clear hown0 hbel0 H3
        obtain ⟨k, hk, rfl, own, bel⟩ := hrel
        have hbs := bel.size
        by_cases hlt : k < zs.length
        · have hz := HZ.out zs[k] (List.getElem_mem hlt)
          have ck := char_ok (clean_char hz.1 hz.2).1 (clean_char hz.1 hz.2).2
          have hn := next_plain (H2.out.below bel) k hlt (by omega)
          rw [clean_plain hz.1] at ck hn
          have hsz : (strOf (put (plainPt zs[k]))).size ≤ 4 := by rw [strOf_size]; exact (put_len _).2
          have hbt : bs (strOf (put (plainPt zs[k]))) = put (plainPt zs[k]) := put_str _
          obtain ⟨tx, htx⟩ : ∃ tx, tx = strOf (put (plainPt zs[k])) := ⟨_, rfl⟩
          rw [← htx] at ck hn hsz hbt
          have HT := (show Hid _ from hbt)
          clear htx hz hbt
          go_wp2_with fail
          go_at_call 6
          refine hn.mono ?_
          rintro e w4 ⟨a4, c4, rfl, sv4, b4⟩
          unfold tokVal
          obtain ⟨w5, hw5⟩ : ∃ w5, w5 = w4.alloc (.cells #[.int .i64 2, .string ⟨#[]⟩, .slice a4 0 c4, .string tx, .bool false] 28) := ⟨_, rfl⟩
          have b5 : Below w4.heap.size w4 w5 := by rw [hw5]; exact (Below.refl _ _).alloc (Nat.le_refl _) _
          have hk5 : w5.heap[w4.heap.size]? = some (.cells #[.int .i64 2, .string ⟨#[]⟩, .slice a4 0 c4, .string tx, .bool false] 28 (0, 0)) := by rw [hw5]; exact heap_alloc_new _ _
          have ct := itokenOk_any (rs := []) (sv4.below b5) 2 ⟨#[]⟩ tx false ⟨by decide, by omega, by decide, fun p hp => by cases hp⟩
          rw [ck] at ct
          unfold tokVal at ct
          have HK5 := (show Hid _ from hk5)
          clear hk5 sv4 hn ck
          go_wp2_with fail
          rw [← hw5]
          go_at_call 7
          refine ct.mono ?_
          rintro e w6 ⟨rfl, b6⟩
          have hk6 := (b6.block _ (lt_of_block HK5.out)).trans HK5.out
          have o6 := ((own.below b4).below b5).below b6
          replace b6 := bel.trans ((b4.trans ((b5.trans (b6.mono b5.size)).mono b4.size)).mono hbs)
          obtain ⟨⟨k0, k1, k2, k3, k4⟩, _, _, _, _, _⟩ := tok_cells hk6
          obtain ⟨cap, w7, hc, hkk, hcap, hm, hb7⟩ := conv_str tx w6 (by unfold maxLen; omega)
          have hsl := hkk.sl (n := tx.size) (cap := cap) (by rw [bs_len]) (by rw [bs_len]; exact hcap) hm
          rw [HT.out] at hsl
          have o7 := o6.below hb7
          replace hb7 := b6.trans (hb7.mono b6.size)
          have hb7s := hb7.size
          have hpl := puts_len ((zs.map plainPt).take k)
          have htl : ((zs.map plainPt).take k).length ≤ k := List.length_take_le _ _
          have hql := (put_len (plainPt zs[k])).2
          clear o6 b6 b5 b4 own bel HK5 hk6 ct hkk hw5 hbs
          go_wp2_with (at_builtin; refine wpList_app _ rfl (.tmp 59) (.tmp 62) 22 rfl w2.heap.size 5 i0 (.int .u8 0) 1 Tryz.underlying22 hi0 hz0 hz1 hz2 rfl .u8 _ _ (puts ((zs.map plainPt).take k)) (put (plainPt zs[k])) rfl rfl o7 hsl (by omega) (by unfold maxLen; omega) hb7s ?_; intro v' w8 o8 g8)
          go_roundw
          case rel =>
            refine ⟨k + 1, by omega, by go_num, ?_, hb7.grown g8 hb7s o7.grownAt⟩
            have hkm : k < (zs.map plainPt).length := by simpa using hlt
            rw [puts_take_succ _ k hkm]
            simpa using o8
          case measure => simp [intOf]; omega
        · have hke : k = zs.length := by omega
          subst hke
          obtain ⟨wo, rfl⟩ : ∃ wo, wo = wr := ⟨_, rfl⟩
          have hmt : (zs.map plainPt).take zs.length = zs.map plainPt := List.take_of_length_le (by simp)
          rw [hmt] at own
          have START : Hid (Own wo.heap.size 3 .i64 (wo.alloc (.cells #[] 3)) (.slice (some ⟨wo.heap.size, 0, none⟩) 0 0) [] ∧ Below wo.heap.size wo (wo.alloc (.cells #[] 3))) := ⟨own_empty 3 .i64 wo, (Below.refl _ _).alloc (Nat.le_refl _) _⟩
          obtain ⟨a', ca', eu, _, _, _, ha⟩ := H2.out.below bel
          cases eu
          rename_i y1 y2 y3
          clear y1 y2 y3 hmt
          go_wp2
          go_loopw [10, 11] (fun o i wq => ∃ k : Nat, k ≤ zs.length ∧ i = .int .i64 k ∧ Own wo.heap.size 3 .i64 wq o ((zs.map plainPt).take k) ∧ Below wo.heap.size wo wq) (fun _ i _ => zs.length - (intOf i).toNat)
          case atStart => exact ⟨0, Nat.zero_le _, rfl, START.out.1, START.out.2⟩
          case round =>
            clear START
            obtain ⟨k, hk, rfl, own2, bel2⟩ := hrel
            have hbs2 := bel2.size
            by_cases hlt : k < zs.length
            · have ha' := ha.below bel2
              obtain ⟨b1, o1, rfl, c1⟩ := ha' k hlt
              clear ha'
              have hkm : k < (zs.map plainPt).length := by simpa using hlt
              have hpt : (zs.map plainPt)[k] = plainPt zs[k] := by simp
              have HS := (show Hid _ from (List.take_succ_eq_append_getElem hkm).trans (by rw [hpt]))
              have htl : ((zs.map plainPt).take k).length ≤ k := List.length_take_le _ _
              clear hpt hkm
              by_cases h0 : zs[k] = 0
              · have e1 : plainPt zs[k] = 65533 := by unfold plainPt; rw [if_pos h0]
                have e2 : (zs[k] == 0) = true := by simpa using h0
                have HS2 := HS.out
                rw [e1] at HS2
                have HS3 := (show Hid _ from HS2)
                clear HS HS2 e1
                go_wp2_with (at_builtin; refine wpList_app _ rfl (.tmp 77) (.tmp 79) 24 rfl wo.heap.size 3 j0 (.int .i64 0) 8 Tryz.underlying24 hj0 hy0 hy1 hy2 rfl .i64 _ _ ((zs.map plainPt).take k) [65533] rfl rfl (own2.alloc _) (sl_one _ _ _ _) (by simp; omega) (by unfold maxLen; simp; omega) (by simp; omega) ?_; intro v' w3 o3 g3)
                go_roundw
                case rel => exact ⟨k + 1, by omega, by go_num, by rw [HS3.out]; exact o3, (bel2.alloc hbs2 _).grown g3 (by simp; omega) own2.grownAt⟩
                case measure => simp [intOf]; omega
              · have e1 : plainPt zs[k] = zs[k] := by unfold plainPt; rw [if_neg h0]
                have e2 : (zs[k] == 0) = false := by simpa using h0
                have HS2 := HS.out
                rw [e1] at HS2
                have HS3 := (show Hid _ from HS2)
                clear HS HS2 e1
                go_wp2_with (at_builtin; refine wpList_app _ rfl (.tmp 77) (.tmp 79) 24 rfl wo.heap.size 3 j0 (.int .i64 0) 8 Tryz.underlying24 hj0 hy0 hy1 hy2 rfl .i64 _ _ ((zs.map plainPt).take k) [zs[k]] rfl rfl (own2.alloc _) (sl_one _ _ _ _) (by simp; omega) (by unfold maxLen; simp; omega) (by simp; omega) ?_; intro v' w3 o3 g3)
                go_roundw
                case rel => exact ⟨k + 1, by omega, by go_num, by rw [HS3.out]; exact o3, (bel2.alloc hbs2 _).grown g3 (by simp; omega) own2.grownAt⟩
                case measure => simp [intOf]; omega
            · have hke : k = zs.length := by omega
              subst hke
              have hmt : (zs.map plainPt).take zs.length = zs.map plainPt := List.take_of_length_le (by simp)
              rw [hmt] at own2
              have hlm : (zs.map plainPt).length = zs.length := by simp
              have hpp : pointsPut (zs.map plainPt) = puts (zs.map plainPt) := by unfold pointsPut; rw [if_pos (by omega)]
              obtain ⟨s1, hs1⟩ : ∃ s, s = strOf (puts (zs.map plainPt)) := ⟨_, rfl⟩
              have b0 : Below wr.heap.size wr wr.drew := (Below.refl _ _).drew
              have op := (own.below bel2).below b0
              have ow := own2.below b0
              have c1 := conv_sl op.sl
              rw [← hs1] at c1
              have HS1 : Hid (s1 = strOf (puts (zs.map plainPt))) := hs1
              have HPP : Hid (pointsPut (zs.map plainPt) = puts (zs.map plainPt)) := hpp
              clear own own2 hs1 hpp hmt
              go_wp2
              go_region_with (first
                | (go_at_call 8; refine (sputs_any ow.sl (by omega)).mono ?_; rintro e w9 ⟨v9, rfl, o9, b9⟩; rw [HPP.out] at o9; have c3 := conv_sl (op.below b9).sl; rw [← HS1.out] at c3; have c4 := conv_sl o9.sl; rw [← HS1.out] at c4))
              all_goals
                go_wp2
                go_ret
                exact ⟨ret_bool (by simp), (b2.trans ((bel.trans ((bel2.trans ((b0.trans (b9.mono b0.size)).mono bel2.size)).mono bel.size)).mono b2.size))⟩

theorem fnPlainText_walk {v : Value} {xs : List Int} (w : World) (ho : Older w) (h : Sl .u8 w v xs) (hwf : ∀ n ∈ xs, (Lit.int .u8 n).wf = true) :
    Calls Tryz.prog 3 #[v] w fun e w' => e = .returned (.bool true) ∧ Below w.heap.size w w' := fnPlainText_any w h hwf
end Go.Proofs.YtiojilmclocmkaaGreatDoor
