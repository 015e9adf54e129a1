/- The draw of a tree: l6DrawTree. No condition. -/
import Derived.Test.YtogdbjafibejdaaGreatX34
import Derived.Deep.CutBlock
namespace Go.Proofs.YtogdbjafibejdaaGreat
open Go.RowKit
set_option maxRecDepth 100000
set_option linter.unusedVariables false

theorem wrap_tree {x : Int} (h0 : -9223372036854775808 ≤ x) (h1 : x ≤ 9223372036854775807) : IntKind.i64.wrap x = x := by
  simp [IntKind.wrap, IntKind.bits, IntKind.signed]; omega

set_option maxHeartbeats 40000000 in
set_option maxRecDepth 100000 in
theorem drawTree_any {w0 : World} {g : Nat} {cv : Value} {xs : List Int} {w : World} (hc : Cur w0 g cv xs w) (hb : ∀ x ∈ xs, 0 ≤ x ∧ x ≤ 255) :
    Calls Tryz.prog 45 #[.pointer (some ⟨g, 0, none⟩)] w fun e w' => ∃ nv ns, e = .returned (.agg #[nv]) ∧ OwnN w.heap.size w' nv ns ∧ OutT ns ∧ Cur w0 g cv xs w' ∧ w.grownBy w' (some g) := by
  have HB := (show Hid (∀ x ∈ xs, 0 ≤ x ∧ x ≤ 255) from hb)
  have hgl := hc.lt
  have H0 := (show Hid (w0.heap.size ≤ w.heap.size) from hc.2.2.1.size)
  have HC := (show Hid (Cur w0 g cv xs w) from hc)
  clear hb hc
  obtain ⟨W0, hW0⟩ : ∃ q, q = w.alloc (.cells #[.slice none 0 0] 26) := ⟨_, rfl⟩
  have b0 : Below w.heap.size w W0 := by rw [hW0]; exact (Below.refl _ _).alloc (Nat.le_refl _) _
  have hs0 : W0.heap.size = w.heap.size + 1 := by rw [hW0, World.size_alloc]
  have hr0 : W0.heap[w.heap.size]? = some (.cells #[.slice none 0 0] 26 (0, 0)) := by rw [hW0]; exact World.alloc_heap_new _ _
  go_enter Tryz.func45, Tryz.ntmps45
  go_wp2_with fail
  go_at_call 93
  rw [← hW0]
  refine Calls.mono (drawRight_any (HC.out.below b0) HB.out) ?_
  rintro e w1 ⟨nv, ns, rfl, own1, ⟨k, hdr, hk⟩, k1, g1⟩
  have hcnt := hdr.cnt
  obtain ⟨q, cap, rfl, hq1, hq2⟩ : ∃ q cap, nv = .slice (some ⟨q, 0, none⟩) ns.length cap ∧ W0.heap.size ≤ q ∧ q < w1.heap.size := by obtain ⟨_, _, h2, _⟩ := own1; exact one_form h2 (by omega)
  obtain ⟨w2, hw2⟩ : ∃ x, x = w1.alloc (.cells #[.slice (some ⟨q, 0, none⟩) ns.length cap] 26) := ⟨_, rfl⟩
  have b12 : Below w1.heap.size w1 w2 := by rw [hw2]; exact (Below.refl _ _).alloc (Nat.le_refl _) _
  have hr1 := (g1.block _ (blk_lt hr0) (fun e => by simp only [Option.some.injEq] at e; omega)).trans hr0
  have HD : Hid (RtW w0 w g cv xs w1.heap.size (.slice (some ⟨q, 0, none⟩) ns.length cap) ns w2) := by
    refine ⟨k1.below b12, (b12.block _ (blk_lt hr1)).trans hr1, by rw [hw2]; exact World.alloc_heap_new _ _, (own1.base (by omega)).below b12, ?_⟩
    exact grown_below (grown_trans (below_by g b0) g1) b12
  have hT : w.heap.size < w1.heap.size := by have := g1.size; omega
  obtain ⟨T, hTT⟩ : ∃ T, T = w1.heap.size := ⟨_, rfl⟩
  rw [← hTT] at HD hT
  have HDR := (show Hid (DrT ns k) from hdr)
  have HCNT := (show Hid (ns.length = k + 1) from hcnt)
  have hqw : w.heap.size < q := by omega
  clear own1 k1 g1 hdr hcnt hr0 hr1 b0 hs0 hq1 hq2 hW0 b12
  go_wp2_with fail
  go_at_call 68
  rw [← hw2, ← hTT]
  refine Calls.mono (below_any (ns.length : Int) (by have := HCNT.out; omega) HD.out.cur HB.out) ?_
  rintro e w3 ⟨x, rfl, x0, x1, _, k3, g3⟩
  replace x1 := x1 (by have := HCNT.out; omega)
  have HD3 := (show Hid (RtW w0 w g cv xs T (.slice (some ⟨q, 0, none⟩) ns.length cap) ns w3) from HD.out.cursor k3 g3 hgl hT)
  obtain ⟨c, rfl⟩ : ∃ c : Nat, x = c := ⟨x.toNat, by omega⟩
  have hcl : c < ns.length := by omega
  clear HD k3 g3 hw2 hTT x0
  go_wp2_with fail
  go_at_call 68
  refine Calls.mono (below_any 25 (by decide) HD3.out.cur HB.out) ?_
  rintro e w4 ⟨y, rfl, y0, y1, _, k4, g4⟩
  have HD4 := (show Hid (RtW w0 w g cv xs T (.slice (some ⟨q, 0, none⟩) ns.length cap) ns w4) from HD3.out.cursor k4 g4 hgl hT)
  clear HD3 k4 g4
  have cT := (six_one HD4.out.bT).1
  go_upto_block 0 with fail
  go_cut [] from 14 (fun wx => EndT w0 w g cv xs T wx)
  case first =>
    by_cases h0 : y = 0
    · subst h0
      have HDd := (show Hid (RtW w0 w g cv xs T (.slice (some ⟨q, 0, none⟩) ns.length cap) ns w4.drew) from HD4.out.below (below_drewN 1))
      have cTd := (six_one HDd.out.bT).1
      go_upto_region 5 with fail
      go_region_with (first
        | (go_at_call 68
           refine Calls.mono (below_any 4 (by decide) HDd.out.cur HB.out) ?_
           rintro e w5 ⟨z, rfl, z0, z1, _, k5, g5⟩
           replace z1 := z1 (by decide)
           have HD5 := (show Hid (RtW w0 w g cv xs T (.slice (some ⟨q, 0, none⟩) ns.length cap) ns w5) from HDd.out.cursor k5 g5 hgl hT)
           have cT5 := (six_one HD5.out.bT).1
           obtain ⟨⟨yy, c5⟩, z5⟩ := HD5.out.cellIn rfl hcl (j := 4) (by omega)
           have HR := (show Hid _ from HD5.out.field rfl hcl (j := 4) (by omega) (.int .i64 (IntKind.i64.wrap (z - 1))) (fun n => ⟨n.kind, n.name, n.attrs, n.text, IntKind.i64.wrap (z - 1), n.kids⟩) (fun m vv => rfl) (fun m => rfl) (fun m => rfl) hgl H0.out)
           clear k5 g5)
        | fail)
      all_goals
        go_wp2_with fail
        go_meet
        exact ⟨_, _, out_par HDR.out hk, HR.out⟩
    · by_cases h1 : y = 1
      · subst h1
        obtain ⟨ii, hii, hzi0, hzi1, hzi2⟩ := info_parts Tryz.infoIntRow
        obtain ⟨kv, k5, hkv⟩ := HD4.out.kidsIn rfl hcl
        obtain ⟨ka, kn, kc, rfl⟩ := own_slice hkv
        have hkl : ns[c].kids.length ≤ 499 := by have := (HDR.out.mild ns[c] (List.getElem_mem hcl)).kl; omega
        have HKV := (show Hid (Own w.heap.size 3 .i64 w4 (.slice ka kn kc) ns[c].kids) from hkv)
        have HDd := (show Hid (RtW w0 w g cv xs T (.slice (some ⟨q, 0, none⟩) ns.length cap) ns w4.drew) from HD4.out.below (below_drewN 1))
        have hlT : T < w4.heap.size := blk_lt HD4.out.bT
        have hlq : q < w4.heap.size := by obtain ⟨_, cs, fr, h⟩ := HD4.out.rowAt; exact blk_lt h
        have hqg : q ≠ g := by omega
        clear hkv
        have hw8 : IntKind.i64.wrap ((ns.length : Int) + 1) = (ns.length : Int) + 1 := wrap_tree (by omega) (by have := HCNT.out; omega)
        go_upto_region 7 with fail
        go_region_law (first
          | (with_reducible refine step_appK (w := (x1.alloc (Obj.cells #[.int .i64 z] 3))) ?_ (.tmp 34) (.tmp 41) 34 ?_ w.heap.size 3 ii (.int .i64 0) 8 ?_ hii hzi0 hzi1 hzi2 ?_ .i64 (.slice ka kn kc) ns[c].kids ?_ ?_ ⟨x1.heap.size, 0, none⟩ 1 [z] ?_ ?_ ?_ ?_ ?_ ?_
             · rfl
             · rfl
             · exact Tryz.underlying34
             · rfl
             · simp [Act.eval]
             · exact ownsRow_below HO1.out ((Below.refl _ _).alloc (Nat.le_refl _) _)
             · simp [Act.eval]
             · exact sl_one _ _ x1 _
             · (simp; omega)
             · (unfold maxLen; simp; omega)
             · exact (HDa.out _).gr.size
             intro v2 x2 o2 g2 hkeep
             obtain ⟨va, vn, vc, rfl⟩ := own_slice o2
             obtain ⟨ns', hR', hl', hlike⟩ := (HDa.out _).app (ownsRow_below HO1.out ((Below.refl _ _).alloc (Nat.le_refl _) _)) g2 hkeep hgl H0.out
             have l0 := (six_one hR'.bT).1
             obtain ⟨⟨yy, l5⟩, z5⟩ := hR'.cellIn hl'.symm (hl' ▸ hcl) (j := 5) (by omega)
             have HF := (show Hid (EndT w0 w g cv xs T (x2.setCell ⟨q, c * 6 + 5, none⟩ (.slice va vn vc))) from ⟨_, _, out_kids HDR.out hk hl' hlike (by simp; omega), hR'.kids hl'.symm (hl' ▸ hcl) o2 hgl H0.out⟩)
             clear o2 g2 hkeep hR' hl' hlike)
          | (go_simp
             go_at_call 68
             with_reducible refine Calls.mono (below_any ((ns.length : Int) + 1) (by have := HCNT.out; omega) HDd.out.cur HB.out) ?_
             rintro e x1 ⟨z, rfl, z0, z1, _, k6, g6⟩
             have HD5 := (show Hid (RtW w0 w g cv xs T (.slice (some ⟨q, 0, none⟩) ns.length cap) ns x1) from HDd.out.cursor k6 g6 hgl hT)
             have HO1 := (show Hid (Own w.heap.size 3 .i64 x1 (.slice ka kn kc) ns[c].kids) from row_past (ownsRow_below HKV.out (below_drewN 1)) g6 hgl)
             have HDa := (show Hid (∀ X, RtW w0 w g cv xs T (.slice (some ⟨q, 0, none⟩) ns.length cap) ns (x1.alloc X)) from fun X => HD5.out.below ((Below.refl _ _).alloc (Nat.le_refl _) X))
             have j0 := (six_one HD5.out.bT).1
             have j0a : ∀ X, (x1.alloc X).cell? ⟨T, 0, none⟩ = some (.slice (some ⟨q, 0, none⟩) ns.length cap) := fun X => (six_one (HDa.out X).bT).1
             have hbq : x1.heap[q]? = w4.heap[q]? := g6.block q hlq (fun e => hqg (by simp only [Option.some.injEq] at e; exact e))
             have j5 : x1.cell? ⟨q, c * 6 + 5, none⟩ = some (.slice ka kn kc) := by rw [← k5]; simp only [World.cell?, hbq]
             have j5a : ∀ X, (x1.alloc X).cell? ⟨q, c * 6 + 5, none⟩ = some (.slice ka kn kc) := fun X => (((Below.refl _ x1).alloc (Nat.le_refl _) X).cell (p := ⟨q, c * 6 + 5, none⟩) (lt_of_cell6 j5)).trans j5
             clear k6 g6 hbq))
        all_goals
          go_wp2_with fail
          go_meet
          exact HF.out
      · by_cases h2 : y = 2
        · subst h2
          have HDd := (show Hid (RtW w0 w g cv xs T (.slice (some ⟨q, 0, none⟩) ns.length cap) ns w4.drew) from HD4.out.below (below_drewN 1))
          have cTd := (six_one HDd.out.bT).1
          go_upto_region 9 with fail
          go_region_with (first
            | (go_at_call 68
               refine Calls.mono (below_any 7 (by decide) HDd.out.cur HB.out) ?_
               rintro e w5 ⟨z, rfl, z0, z1, _, k5, g5⟩
               replace z1 := z1 (by decide)
               have HD5 := (show Hid (RtW w0 w g cv xs T (.slice (some ⟨q, 0, none⟩) ns.length cap) ns w5) from HDd.out.cursor k5 g5 hgl hT)
               have cT5 := (six_one HD5.out.bT).1
               obtain ⟨⟨yy, c5⟩, z5⟩ := HD5.out.cellIn rfl hcl (j := 0) (by omega)
               replace c5 : w5.cell? ⟨q, c * 6, none⟩ = some yy := c5
               replace z5 : w5.frozen? ⟨q, c * 6, none⟩ = false := z5
               have HR := (show Hid _ from HD5.out.field rfl hcl (j := 0) (by omega) (.int .i64 z) (fun n => ⟨z, n.name, n.attrs, n.text, n.parent, n.kids⟩) (fun m vv => rfl) (fun m => rfl) (fun m => rfl) hgl H0.out)
               clear k5 g5)
            | fail)
          all_goals
            go_wp2_with fail
            go_meet
            exact ⟨_, _, out_same HDR.out hk fit_kind (fun _ => rfl), HR.out⟩
        · by_cases h3 : y = 3
          · subst h3
            have HR := (show Hid _ from HD4.out.field rfl hcl (j := 3) (by omega) (.string ⟨#[255]⟩) (fun n => ⟨n.kind, n.name, n.attrs, ⟨#[255]⟩, n.parent, n.kids⟩) (fun m vv => rfl) (fun m => rfl) (fun m => rfl) hgl H0.out)
            obtain ⟨⟨yy, c5⟩, z5⟩ := HD4.out.cellIn rfl hcl (j := 3) (by omega)
            go_wp2
            go_meet
            case rel => exact ⟨_, _, out_same HDR.out hk (fit_text (x := ⟨#[255]⟩) (by decide)) (fun _ => rfl), HR.out⟩
          · by_cases h4 : y = 4
            · subst h4
              have HR := (show Hid _ from HD4.out.field rfl hcl (j := 1) (by omega) (.string ⟨#[80]⟩) (fun n => ⟨n.kind, ⟨#[80]⟩, n.attrs, n.text, n.parent, n.kids⟩) (fun m vv => rfl) (fun m => rfl) (fun m => rfl) hgl H0.out)
              obtain ⟨⟨yy, c5⟩, z5⟩ := HD4.out.cellIn rfl hcl (j := 1) (by omega)
              go_wp2
              go_meet
              case rel => exact ⟨_, _, out_same HDR.out hk (fit_name (x := ⟨#[80]⟩) (by decide)) (fun _ => rfl), HR.out⟩
            · by_cases h5 : y = 5
              · subst h5
                have zT := (six_one HD4.out.bT).2
                have HR := (show Hid (RtW w0 w g cv xs T (.slice none 0 0) [] (w4.setCell ⟨T, 0, none⟩ (.slice none 0 0))) from HD4.out.tree ⟨[], rfl, World.ownsRow_nil _ _ _ _, fun q hq => (by cases hq)⟩ hgl hT)
                go_wp2
                go_meet
                case rel => exact ⟨_, _, out_nil, HR.out⟩
              · go_wp2
                go_meet
                case rel => exact ⟨_, _, out_plain HDR.out hk, HD4.out⟩
  case rest =>
    obtain ⟨nv, ns2, hout, hR⟩ := hcut
    obtain ⟨na, nn, nc, rfl⟩ : ∃ a n c, nv = .slice a n c := by obtain ⟨_, _, h, _⟩ := hR.own; exact own_slice h
    have k0 := (six_one hR.bT).1
    have k1 := (six_one hR.bR).1
    have z1 := (six_one hR.bR).2
    have HR := (show Hid _ from hR)
    have HO := (show Hid _ from hout)
    clear hR hout HD4
    go_wp2
    have gs := setCell_at (k := 0) (u := .slice na nn nc) HR.out.bR
    refine bodyPost_ret (results_cell_row rfl _ _ w.heap.size 26 _ (0, 0) _ rfl gs Tryz.underlying26 rfl rfl) rfl ?_
    obtain ⟨f1, f2, f3⟩ := HR.out.fin hgl (.slice na nn nc)
    exact ⟨_, ns2, rfl, f1, HO.out, f2, f3⟩
end Go.Proofs.YtogdbjafibejdaaGreat
