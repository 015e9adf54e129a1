/- The draw of a tree: l6DrawTree. No condition. -/
import Derived.Test.YtogdbjafibejdaaGreatV23
import Derived.Deep.CutBlock
import Derived.Test.YtogdbjafibejdaaGreatV17
import Derived.Test.YtogdbjafibejdaaGreatV1
import Derived.Test.YtogdbjafibejdaaGreatV8
namespace Go.Proofs.YtogdbjafibejdaaGreat
open Go.RowKit
set_option maxRecDepth 100000
set_option linter.unusedVariables false

theorem wrap_tree {x : Int} (h0 : -9223372036854775808 ≤ x) (h1 : x ≤ 9223372036854775807) : IntKind.i64.wrap x = x := by
  simp [IntKind.wrap, IntKind.bits, IntKind.signed]; omega

set_option maxHeartbeats 40000000 in
set_option maxRecDepth 100000 in
theorem drawTree_any {w0 : World} {g : Nat} {cv : Value} {xs : List Int} {w : World} (hc : Cur w0 g cv xs w) (hb : ∀ x ∈ xs, 0 ≤ x ∧ x ≤ 255) :
    Calls Tryz.prog 45 #[.pointer (some ⟨g, 0, none⟩)] w fun e w' => ∃ nv ns, e = .returned (.agg #[nv]) ∧ OwnN w.heap.size w' nv ns ∧ OutT ns ∧ Cur w0 g cv xs w' ∧ w.grownBy w' (some g) := by
  have HB := (show Hid (∀ x ∈ xs, 0 ≤ x ∧ x ≤ 255) from hb)
  have hgl := hc.lt
  have H0 := (show Hid (w0.heap.size ≤ w.heap.size) from hc.2.2.1.size)
  have HC := (show Hid (Cur w0 g cv xs w) from hc)
  clear hb hc
  obtain ⟨W0, hW0⟩ : ∃ q, q = w.alloc (.cells #[.slice none 0 0] 26) := ⟨_, rfl⟩
  have b0 : Below w.heap.size w W0 := by rw [hW0]; exact (Below.refl _ _).alloc (Nat.le_refl _) _
  have hs0 : W0.heap.size = w.heap.size + 1 := by rw [hW0, World.size_alloc]
  have hr0 : W0.heap[w.heap.size]? = some (.cells #[.slice none 0 0] 26 (0, 0)) := by rw [hW0]; exact World.alloc_heap_new _ _
  go_enter Tryz.func45, Tryz.ntmps45
  go_wp2_with fail
  go_at_call 93
  rw [← hW0]
  refine Calls.mono (drawRight_any (HC.out.below b0) HB.out) ?_
  rintro e w1 ⟨nv, ns, rfl, own1, ⟨k, hdr, hk⟩, k1, g1⟩
  have hcnt := hdr.cnt
  obtain ⟨q, cap, rfl, hq1, hq2⟩ : ∃ q cap, nv = .slice (some ⟨q, 0, none⟩) ns.length cap ∧ W0.heap.size ≤ q ∧ q < w1.heap.size := by obtain ⟨_, _, h2, _⟩ := own1; exact one_form h2 (by omega)
  obtain ⟨w2, hw2⟩ : ∃ x, x = w1.alloc (.cells #[.slice (some ⟨q, 0, none⟩) ns.length cap] 26) := ⟨_, rfl⟩
  have b12 : Below w1.heap.size w1 w2 := by rw [hw2]; exact (Below.refl _ _).alloc (Nat.le_refl _) _
  have hr1 := (g1.block _ (blk_lt hr0) (fun e => by simp only [Option.some.injEq] at e; omega)).trans hr0
  have HD : Hid (RtW w0 w g cv xs w1.heap.size (.slice (some ⟨q, 0, none⟩) ns.length cap) ns w2) := by
    refine ⟨k1.below b12, (b12.block _ (blk_lt hr1)).trans hr1, by rw [hw2]; exact World.alloc_heap_new _ _, (own1.base (by omega)).below b12, ?_⟩
    exact grown_below (grown_trans (below_by g b0) g1) b12
  have hT : w.heap.size < w1.heap.size := by have := g1.size; omega
  obtain ⟨T, hTT⟩ : ∃ T, T = w1.heap.size := ⟨_, rfl⟩
  rw [← hTT] at HD hT
  have HDR := (show Hid (DrT ns k) from hdr)
  have HCNT := (show Hid (ns.length = k + 1) from hcnt)
  have hqw : w.heap.size < q := by omega
  clear own1 k1 g1 hdr hcnt hr0 hr1 b0 hs0 hq1 hq2 hW0 b12
  go_wp2_with fail
  go_at_call 68
  rw [← hw2, ← hTT]
  refine Calls.mono (below_any (ns.length : Int) (by have := HCNT.out; omega) HD.out.cur HB.out) ?_
  rintro e w3 ⟨x, rfl, x0, x1, _, k3, g3⟩
  replace x1 := x1 (by have := HCNT.out; omega)
  have HD3 := (show Hid (RtW w0 w g cv xs T (.slice (some ⟨q, 0, none⟩) ns.length cap) ns w3) from HD.out.cursor k3 g3 hgl hT)
  obtain ⟨c, rfl⟩ : ∃ c : Nat, x = c := ⟨x.toNat, by omega⟩
  have hcl : c < ns.length := by omega
  clear HD k3 g3 hw2 hTT x0
  go_wp2_with fail
  go_at_call 68
  refine Calls.mono (below_any 25 (by decide) HD3.out.cur HB.out) ?_
  rintro e w4 ⟨y, rfl, y0, y1, _, k4, g4⟩
  have HD4 := (show Hid (RtW w0 w g cv xs T (.slice (some ⟨q, 0, none⟩) ns.length cap) ns w4) from HD3.out.cursor k4 g4 hgl hT)
  clear HD3 k4 g4
  have cT := (six_one HD4.out.bT).1
  go_upto_block 0 with fail
  go_cut [] from 14 (fun wx => EndT w0 w g cv xs T wx)
  case first =>
    by_cases h0 : y = 0
    · subst h0
      have HDd := (show Hid (RtW w0 w g cv xs T (.slice (some ⟨q, 0, none⟩) ns.length cap) ns w4.drew) from HD4.out.below (below_drewN 1))
      have cTd := (six_one HDd.out.bT).1
      go_upto_region 5 with fail
      go_region_with (first
        | (go_at_call 68
           refine Calls.mono (below_any 4 (by decide) HDd.out.cur HB.out) ?_
           rintro e w5 ⟨z, rfl, z0, z1, _, k5, g5⟩
           replace z1 := z1 (by decide)
           have HD5 := (show Hid (RtW w0 w g cv xs T (.slice (some ⟨q, 0, none⟩) ns.length cap) ns w5) from HDd.out.cursor k5 g5 hgl hT)
           have cT5 := (six_one HD5.out.bT).1
           obtain ⟨⟨yy, c5⟩, z5⟩ := HD5.out.cellIn rfl hcl (j := 4) (by omega)
           have HR := (show Hid _ from HD5.out.field rfl hcl (j := 4) (by omega) (.int .i64 (IntKind.i64.wrap (z - 1))) (fun n => ⟨n.kind, n.name, n.attrs, n.text, IntKind.i64.wrap (z - 1), n.kids⟩) (fun m vv => rfl) (fun m => rfl) (fun m => rfl) hgl H0.out)
           clear k5 g5)
        | fail)
      all_goals
        go_wp2_with fail
        go_meet
        exact ⟨_, _, out_par HDR.out hk, HR.out⟩
    · by_cases h1 : y = 1
      · subst h1
        obtain ⟨ii, hii, hzi0, hzi1, hzi2⟩ := info_parts Tryz.infoIntRow
        obtain ⟨kv, k5, hkv⟩ := HD4.out.kidsIn rfl hcl
        obtain ⟨ka, kn, kc, rfl⟩ := own_slice hkv
        have hkl : ns[c].kids.length ≤ 499 := by have := (HDR.out.mild ns[c] (List.getElem_mem hcl)).kl; omega
        have HKV := (show Hid (Own w.heap.size 3 .i64 w4 (.slice ka kn kc) ns[c].kids) from hkv)
        have HDd := (show Hid (RtW w0 w g cv xs T (.slice (some ⟨q, 0, none⟩) ns.length cap) ns w4.drew) from HD4.out.below (below_drewN 1))
        have hlT : T < w4.heap.size := blk_lt HD4.out.bT
        have hlq : q < w4.heap.size := by obtain ⟨_, cs, fr, h⟩ := HD4.out.rowAt; exact blk_lt h
        have hqg : q ≠ g := by omega
        clear hkv
        have hw8 : IntKind.i64.wrap ((ns.length : Int) + 1) = (ns.length : Int) + 1 := wrap_tree (by omega) (by have := HCNT.out; omega)
        go_upto_region 7 with fail
        go_region_law (first
          | (with_reducible refine step_appK (w := (x1.alloc (Obj.cells #[.int .i64 z] 3))) ?_ (.tmp 34) (.tmp 41) 34 ?_ w.heap.size 3 ii (.int .i64 0) 8 ?_ hii hzi0 hzi1 hzi2 ?_ .i64 (.slice ka kn kc) ns[c].kids ?_ ?_ ⟨x1.heap.size, 0, none⟩ 1 [z] ?_ ?_ ?_ ?_ ?_ ?_
             · rfl
             · rfl
             · exact Tryz.underlying34
             · rfl
             · simp [Act.eval]
             · exact ownsRow_below HO1.out ((Below.refl _ _).alloc (Nat.le_refl _) _)
             · simp [Act.eval]
             · exact sl_one _ _ x1 _
             · (simp; omega)
             · (unfold maxLen; simp; omega)
             · exact (HDa.out _).gr.size
             intro v2 x2 o2 g2 hkeep
             obtain ⟨va, vn, vc, rfl⟩ := own_slice o2
             obtain ⟨ns', hR', hl', hlike⟩ := (HDa.out _).app (ownsRow_below HO1.out ((Below.refl _ _).alloc (Nat.le_refl _) _)) g2 hkeep hgl H0.out
             have l0 := (six_one hR'.bT).1
             obtain ⟨⟨yy, l5⟩, z5⟩ := hR'.cellIn hl'.symm (hl' ▸ hcl) (j := 5) (by omega)
             have HF := (show Hid (EndT w0 w g cv xs T (x2.setCell ⟨q, c * 6 + 5, none⟩ (.slice va vn vc))) from ⟨_, _, out_kids HDR.out hk hl' hlike (by simp; omega), hR'.kids hl'.symm (hl' ▸ hcl) o2 hgl H0.out⟩)
             clear o2 g2 hkeep hR' hl' hlike)
          | (go_simp
             go_at_call 68
             with_reducible refine Calls.mono (below_any ((ns.length : Int) + 1) (by have := HCNT.out; omega) HDd.out.cur HB.out) ?_
             rintro e x1 ⟨z, rfl, z0, z1, _, k6, g6⟩
             have HD5 := (show Hid (RtW w0 w g cv xs T (.slice (some ⟨q, 0, none⟩) ns.length cap) ns x1) from HDd.out.cursor k6 g6 hgl hT)
             have HO1 := (show Hid (Own w.heap.size 3 .i64 x1 (.slice ka kn kc) ns[c].kids) from row_past (ownsRow_below HKV.out (below_drewN 1)) g6 hgl)
             have HDa := (show Hid (∀ X, RtW w0 w g cv xs T (.slice (some ⟨q, 0, none⟩) ns.length cap) ns (x1.alloc X)) from fun X => HD5.out.below ((Below.refl _ _).alloc (Nat.le_refl _) X))
             have j0 := (six_one HD5.out.bT).1
             have j0a : ∀ X, (x1.alloc X).cell? ⟨T, 0, none⟩ = some (.slice (some ⟨q, 0, none⟩) ns.length cap) := fun X => (six_one (HDa.out X).bT).1
             have hbq : x1.heap[q]? = w4.heap[q]? := g6.block q hlq (fun e => hqg (by simp only [Option.some.injEq] at e; exact e))
             have j5 : x1.cell? ⟨q, c * 6 + 5, none⟩ = some (.slice ka kn kc) := by rw [← k5]; simp only [World.cell?, hbq]
             have j5a : ∀ X, (x1.alloc X).cell? ⟨q, c * 6 + 5, none⟩ = some (.slice ka kn kc) := fun X => (((Below.refl _ x1).alloc (Nat.le_refl _) X).cell (p := ⟨q, c * 6 + 5, none⟩) (lt_of_cell6 j5)).trans j5
             clear k6 g6 hbq))
        all_goals
          go_wp2_with fail
          go_meet
          exact HF.out
      · by_cases h2 : y = 2
        · subst h2
          have HDd := (show Hid (RtW w0 w g cv xs T (.slice (some ⟨q, 0, none⟩) ns.length cap) ns w4.drew) from HD4.out.below (below_drewN 1))
          have cTd := (six_one HDd.out.bT).1
          go_upto_region 9 with fail
          go_region_with (first
            | (go_at_call 68
               refine Calls.mono (below_any 7 (by decide) HDd.out.cur HB.out) ?_
               rintro e w5 ⟨z, rfl, z0, z1, _, k5, g5⟩
               replace z1 := z1 (by decide)
               have HD5 := (show Hid (RtW w0 w g cv xs T (.slice (some ⟨q, 0, none⟩) ns.length cap) ns w5) from HDd.out.cursor k5 g5 hgl hT)
               have cT5 := (six_one HD5.out.bT).1
               obtain ⟨⟨yy, c5⟩, z5⟩ := HD5.out.cellIn rfl hcl (j := 0) (by omega)
               replace c5 : w5.cell? ⟨q, c * 6, none⟩ = some yy := c5
               replace z5 : w5.frozen? ⟨q, c * 6, none⟩ = false := z5
               have HR := (show Hid _ from HD5.out.field rfl hcl (j := 0) (by omega) (.int .i64 z) (fun n => ⟨z, n.name, n.attrs, n.text, n.parent, n.kids⟩) (fun m vv => rfl) (fun m => rfl) (fun m => rfl) hgl H0.out)
               clear k5 g5)
            | fail)
          all_goals
            go_wp2_with fail
            go_meet
            exact ⟨_, _, out_same HDR.out hk fit_kind (fun _ => rfl), HR.out⟩
        · by_cases h3 : y = 3
          · subst h3
            have HR := (show Hid _ from HD4.out.field rfl hcl (j := 3) (by omega) (.string ⟨#[255]⟩) (fun n => ⟨n.kind, n.name, n.attrs, ⟨#[255]⟩, n.parent, n.kids⟩) (fun m vv => rfl) (fun m => rfl) (fun m => rfl) hgl H0.out)
            obtain ⟨⟨yy, c5⟩, z5⟩ := HD4.out.cellIn rfl hcl (j := 3) (by omega)
            go_wp2
            go_meet
            case rel => exact ⟨_, _, out_same HDR.out hk (fit_text (x := ⟨#[255]⟩) (by decide)) (fun _ => rfl), HR.out⟩
          · by_cases h4 : y = 4
            · subst h4
              have HR := (show Hid _ from HD4.out.field rfl hcl (j := 1) (by omega) (.string ⟨#[80]⟩) (fun n => ⟨n.kind, ⟨#[80]⟩, n.attrs, n.text, n.parent, n.kids⟩) (fun m vv => rfl) (fun m => rfl) (fun m => rfl) hgl H0.out)
              obtain ⟨⟨yy, c5⟩, z5⟩ := HD4.out.cellIn rfl hcl (j := 1) (by omega)
              go_wp2
              go_meet
              case rel => exact ⟨_, _, out_same HDR.out hk (fit_name (x := ⟨#[80]⟩) (by decide)) (fun _ => rfl), HR.out⟩
            · by_cases h5 : y = 5
              · subst h5
                have zT := (six_one HD4.out.bT).2
                have HR := (show Hid (RtW w0 w g cv xs T (.slice none 0 0) [] (w4.setCell ⟨T, 0, none⟩ (.slice none 0 0))) from HD4.out.tree ⟨[], rfl, World.ownsRow_nil _ _ _ _, fun q hq => (by cases hq)⟩ hgl hT)
                go_wp2
                go_meet
                case rel => exact ⟨_, _, out_nil, HR.out⟩
              · go_wp2
                go_meet
                case rel => exact ⟨_, _, out_plain HDR.out hk, HD4.out⟩
  case rest =>
    obtain ⟨nv, ns2, hout, hR⟩ := hcut
    obtain ⟨na, nn, nc, rfl⟩ : ∃ a n c, nv = .slice a n c := by obtain ⟨_, _, h, _⟩ := hR.own; exact own_slice h
    have k0 := (six_one hR.bT).1
    have k1 := (six_one hR.bR).1
    have z1 := (six_one hR.bR).2
    have HR := (show Hid _ from hR)
    have HO := (show Hid _ from hout)
    clear hR hout HD4
    go_wp2
    have gs := setCell_at (k := 0) (u := .slice na nn nc) HR.out.bR
    refine bodyPost_ret (results_cell_row rfl _ _ w.heap.size 26 _ (0, 0) _ rfl gs Tryz.underlying26 rfl rfl) rfl ?_
    obtain ⟨f1, f2, f3⟩ := HR.out.fin hgl (.slice na nn nc)
    exact ⟨_, ns2, rfl, f1, HO.out, f2, f3⟩
end Go.Proofs.YtogdbjafibejdaaGreat

/- The draw of a place in a tree: l6DrawAt. No condition. -/
namespace Go.Proofs.YtogdbjafibejdaaGreat
open Go.RowKit
set_option maxRecDepth 100000
set_option linter.unusedVariables false

set_option maxHeartbeats 1000000 in
set_option maxRecDepth 100000 in
theorem drawAt_any {w0 : World} {g : Nat} {cv : Value} {xs : List Int} {w : World} (hc : Cur w0 g cv xs w) (hb : ∀ x ∈ xs, 0 ≤ x ∧ x ≤ 255) {v : Value} {ns : List PNode} (hn : NodesAt w v ns) (hlen : ns.length ≤ 500) :
    Calls Tryz.prog 46 #[.pointer (some ⟨g, 0, none⟩), .agg #[v]] w fun e w' => ∃ z : Int, e = .returned (.int .i64 z) ∧ -1 ≤ z ∧ z ≤ 500 ∧ Cur w0 g cv xs w' ∧ w.grownBy w' (some g) := by
  have HB := (show Hid (∀ x ∈ xs, 0 ≤ x ∧ x ≤ 255) from hb)
  have hgl := hc.lt
  obtain ⟨a, cap, rfl, _, _, _⟩ := hn.slice
  have HC := (show Hid (Cur w0 g cv xs w) from hc)
  clear hb hc hn
  obtain ⟨W0, hW0⟩ : ∃ q, q = w.alloc (.cells #[.slice a ns.length cap] 26) := ⟨_, rfl⟩
  have b0 : Below w.heap.size w W0 := by rw [hW0]; exact (Below.refl _ _).alloc (Nat.le_refl _) _
  have HB0 := (show Hid _ from b0)
  clear b0
  go_enter Tryz.func46, Tryz.ntmps46
  go_wp2_with fail
  go_at_call 68
  rw [← hW0]
  refine Calls.mono (below_any ((ns.length : Int) + 1) (by omega) (HC.out.below HB0.out) HB.out) ?_
  rintro e w1 ⟨x, rfl, x0, x1, _, k1, g1⟩
  replace x1 := x1 (by omega)
  have HK1 := (show Hid _ from k1)
  have HG1 := (show Hid (w.grownBy w1 (some g)) from grown_trans (below_by g HB0.out) g1)
  clear k1 g1 HB0 hW0
  go_wp2_with fail
  go_at_call 68
  refine Calls.mono (below_any 20 (by decide) HK1.out HB.out) ?_
  rintro e w2 ⟨y, rfl, y0, y1, _, k2, g2⟩
  replace y1 := y1 (by decide)
  have HK2 := (show Hid _ from k2)
  have HG2 := (show Hid (w.grownBy w2 (some g)) from grown_trans HG1.out g2)
  clear k2 g2
  go_wp2
  go_ret
  refine ⟨_, rfl, ?_, ?_, HK2.out, HG2.out⟩
  · omega
  · omega
end Go.Proofs.YtogdbjafibejdaaGreat

/- The draw DrawPrintOf. No condition. -/
namespace Go.Proofs.YtogdbjafibejdaaGreat
open Go.RowKit
set_option maxRecDepth 100000
set_option linter.unusedVariables false

set_option maxHeartbeats 2000000 in
set_option maxRecDepth 100000 in
theorem drawPrintOf_any {v : Value} {xs : List Int} {w : World} (h : Sl .u8 w v xs) (hb : ∀ x ∈ xs, 0 ≤ x ∧ x ≤ 255) (hn : xs.length ≤ 1099511627776) :
    Calls Tryz.prog 34 #[v] w fun e w' => ∃ nv ns, e = .returned (.agg #[nv]) ∧ OwnN w.heap.size w' nv ns ∧ OutT ns ∧ Below w.heap.size w w' := by
  have HB := (show Hid (∀ x ∈ xs, 0 ≤ x ∧ x ≤ 255) from hb)
  have HS := (show Hid (Sl .u8 w v xs) from h)
  obtain ⟨a, ca, rfl, _, _, _, ha⟩ := h
  clear hb ha
  obtain ⟨wA, hwA⟩ : ∃ wA, wA = w.alloc (.cells #[.slice none 0 0] 26) := ⟨_, rfl⟩
  have bA : Below w.heap.size w wA := by rw [hwA]; exact (Below.refl _ _).alloc (Nat.le_refl _) _
  have gA : wA.heap[w.heap.size]? = some (.cells #[.slice none 0 0] 26 (0, 0)) := by rw [hwA]; exact World.alloc_heap_new _ _
  have HGA := (show Hid _ from gA)
  have BA := (show Hid (Below w.heap.size w wA) from bA)
  have hsA : w.heap.size < wA.heap.size := blk_lt gA
  clear gA bA
  go_enter Tryz.func34, Tryz.ntmps34
  go_wp2_with fail
  go_at_call 44
  rw [← hwA]
  clear hwA
  refine Calls.mono (new_any (HS.out.below BA.out) HB.out hn) ?_
  rintro e w1 ⟨rfl, k1, b1⟩
  obtain ⟨G, hG⟩ : ∃ G, G = wA.heap.size := ⟨_, rfl⟩
  rw [← hG] at k1
  rw [← hG]
  have HK1 := (show Hid (Cur wA G (.slice a xs.length ca) xs w1) from k1)
  have HB1 := (show Hid (Below wA.heap.size wA w1) from b1)
  have HGG := (show Hid (G = wA.heap.size) from hG)
  clear k1 b1 hG HS
  go_wp2_with fail
  go_at_call 45
  refine Calls.mono (drawTree_any HK1.out HB.out) ?_
  rintro e w2 ⟨nv, ns, rfl, own2, hout, k2, g2⟩
  obtain ⟨na, ncap, rfl, _, _, j1⟩ := own2.nodes.slice
  clear j1
  have HO := (show Hid (OutT ns) from hout)
  have gA2 := (g2.block w.heap.size (by have := HB1.out.size; omega) (fun e => by have := HGG.out; simp only [Option.some.injEq] at e; omega)).trans ((HB1.out.block _ hsA).trans HGA.out)
  have bw2 : Below w.heap.size w w2 := (BA.out.trans (HB1.out.mono BA.out.size)).grown g2 (Nat.le_trans BA.out.size HB1.out.size) (fun r e => by have := HGG.out; simp only [Option.some.injEq] at e; omega)
  obtain ⟨cA2, zA2⟩ := six_one gA2
  have GA2 := (show Hid _ from gA2)
  have BW := (show Hid _ from bw2)
  have HOW := (show Hid (OwnN w1.heap.size w2 (.slice na ns.length ncap) ns) from own2)
  have hlw : w.heap.size ≤ w1.heap.size := Nat.le_trans BA.out.size HB1.out.size
  clear own2 hout k2 g2 gA2 bw2
  go_wp2
  have gs := setCell_at (k := 0) (u := .slice na ns.length ncap) GA2.out
  have gr := grown_setCell w2 w.heap.size 0 (.slice na ns.length ncap)
  refine bodyPost_ret (results_cell_row rfl _ _ w.heap.size 26 _ (0, 0) _ rfl gs Tryz.underlying26 rfl rfl) rfl ?_
  exact ⟨_, ns, rfl, (HOW.out.kept gr (fun k e => by cases e; exact ⟨_, _, _, GA2.out, by decide, by decide, by decide⟩)).base hlw, HO.out, BW.out.setCell (p := ⟨w.heap.size, 0, none⟩) (Nat.le_refl _) _⟩
end Go.Proofs.YtogdbjafibejdaaGreat

/- A loop over an iterator whose own functions hold such loops: a law of our own, for bodies that always go on. No condition. -/
namespace Go.Proofs.YtogdbjafibejdaaGreat
open Go.RowKit
set_option maxRecDepth 100000
set_option linter.unusedVariables false

/-- What lay below n0, what lies from n1 on, and whatever is no cells lies as it lay. -/
structure Kq (n0 n1 : Nat) (W W' : World) : Prop where
  os : W'.os = W.os
  tape : W'.tape = W.tape
  output : W'.output = W.output
  size : W.heap.size ≤ W'.heap.size
  same : ∀ (k : Nat) (o : Obj), W.heap[k]? = some o → (k < n0 ∨ n1 ≤ k ∨ o.isCells = false) → W'.heap[k]? = some o
theorem Kq.refl (n0 n1 : Nat) (W : World) : Kq n0 n1 W W := ⟨rfl, rfl, rfl, Nat.le_refl _, fun _ _ h _ => h⟩
theorem Kq.trans {n0 n1 : Nat} {A B C : World} (h : Kq n0 n1 A B) (k : Kq n0 n1 B C) : Kq n0 n1 A C :=
  ⟨k.os.trans h.os, k.tape.trans h.tape, k.output.trans h.output, Nat.le_trans h.size k.size, fun i o hi ho => k.same i o (h.same i o hi ho) ho⟩
theorem Kq.below {n0 n1 : Nat} {A B : World} (h : Kq n0 n1 A B) (hn : n0 ≤ A.heap.size) : Below n0 A B :=
  ⟨h.os, h.tape, h.output, h.size, fun k hk => by
    have hlt : k < A.heap.size := by omega
    rw [h.same k A.heap[k] (by simp [hlt]) (.inl hk)]
    simp [hlt]⟩
theorem Kq.keeps {n0 n1 : Nat} {A B : World} (h : Kq n0 n1 A B) : KeepsOthers A B := ⟨h.size, fun k o hk ho => h.same k o hk (.inr (.inr ho))⟩
theorem Kq.of_below {n0 n1 : Nat} {A B : World} (h : Below A.heap.size A B) : Kq n0 n1 A B :=
  ⟨h.os, h.tape, h.output, h.size, fun k o hk _ => (h.block k (blk_lt hk)).trans hk⟩
theorem Kq.alloc (n0 n1 : Nat) (W : World) (o : Obj) : Kq n0 n1 W (W.alloc o) := Kq.of_below ((Below.refl _ W).alloc (Nat.le_refl _) _)
theorem Kq.own {n0 n1 B : Nat} {W0 W W' : World} {row : Option Nat} (h : Kq n0 n1 W0 W) (hB : W0.heap.size ≤ B) (hg : W.grownBy W' row) (hr : ∀ r, row = some r → B ≤ r ∧ ∃ o : Obj, W.heap[r]? = some o ∧ o.isCells = false) : Kq n0 n1 W0 W' :=
  ⟨hg.os.trans h.os, hg.tape.trans h.tape, hg.output.trans h.output, Nat.le_trans h.size hg.size, fun k o hk ho => blk_from (B := B) (h.same k o hk ho) (by have := blk_lt hk; omega) hg hr⟩

/-- What abides whatever turns blocks from B on, and makes new ones. -/
def FreeFrom {β : Type} (B : Nat) (J : β → World → Prop) : Prop := ∀ s W W' row, J s W → W.grownBy W' row → (∀ r, row = some r → B ≤ r) → J s W'
theorem FreeFrom.own {β : Type} {B : Nat} {J : β → World → Prop} (h : FreeFrom B J) {C : Nat} (hC : B ≤ C) : OwnFrom C J := fun s W W' row hs hg hr => h s W W' row hs hg (fun r e => Nat.le_trans hC (hr r e).1)
theorem blk_free {B : Nat} {k : Nat} {o : Obj} {W W' : World} {row : Option Nat} (h : W.heap[k]? = some o) (hk : k < B) (hg : W.grownBy W' row) (hr : ∀ r, row = some r → B ≤ r) : W'.heap[k]? = some o := by
  rw [hg.block k (blk_lt h) (fun e => by have := hr k e.symm; omega)]
  exact h
theorem below_free {n0 B : Nat} {w0 W W' : World} {row : Option Nat} (h : Below n0 w0 W) (h0 : n0 ≤ w0.heap.size) (hB : n0 ≤ B) (hg : W.grownBy W' row) (hr : ∀ r, row = some r → B ≤ r) : Below n0 w0 W' :=
  h.grown hg (by have := h.size; omega) (fun r e => by have := hr r e; omega)

/-- The iterator's word: it tells 'all', one behind the other, to whatever body goes on. -/
def SeqTells (P : Program) (g : Nat) (lb : Array Value) (n0 : Nat) (all : List Int) (w : World) : Prop :=
  ∀ (n l n1 : Nat) (J : List Int → World → Prop) (W : World), Below w.heap.size w W → n1 ≤ W.heap.size → FreeFrom n1 J →
    (∀ m pre x W1, J pre W1 → YieldAt Fence.wide m P l #[.int .i64 x] W1 fun e W' => e = .returned (.bool true) ∧ J (pre ++ [x]) W' ∧ Kq n0 n1 W1 W') →
    J [] W → CallsIn Fence.wide n P g (#[.func (.yield l) #[] #[]] ++ lb) W fun e W' => (∃ v, e = .returned v) ∧ J all W' ∧ Kq n0 n1 W W'

theorem wpIn_tells {P : Program} {n : Nat} {g : Operand} {p : Tmp} {assign body : Code} {Q : Exit → Act → World → Prop} {a : Act} {w w0 : World} {n0 : Nat} {all : List Int}
    {gf : Nat} {lb : Array Value} (hg : a.eval g = .func (.func gf) #[] lb) (eg : ∀ args w, (callFunc gf args).run P w = .ok (.enter gf args) w)
    (hseq : SeqTells P gf lb n0 all w0) (hb0 : Below w0.heap.size w0 w) (hn0 : n0 ≤ w.heap.size)
    (I : List Int → World → Prop) (hF : FreeFrom w.heap.size I) (h0 : I [] w) (a1 : Int → Act)
    (hassign : ∀ (l m : Nat) (x : Int) (W : World) (K : Act → World → Prop), K (a1 x) W → assign.wpIn (Fence.wide.inRound l) m P (Exit.then K (fun _ _ _ => False)) { tmps := a.tmps.setIfInBounds p (.int .i64 x), defers := [] } W)
    (hbody : ∀ (l m : Nat) (pre : List Int) (x : Int) (W : World), I pre W → body.wpIn (Fence.wide.inRound l) m P (fun e _ W' => e = .normal ∧ Kq n0 w.heap.size W W' ∧ I (pre ++ [x]) W') (a1 x) W)
    (hdone : ∀ (D : Nat) (W : World), w.heap.size ≤ D → I all W → Kq n0 w.heap.size w W → W.heap[D]? = some (.deferred (some [])) → Q .normal { a with defers := { target := .collected D, args := #[] } :: a.defers } W) :
    (Code.rangeFunc g #[p] assign body).wpIn Fence.wide n P Q a w := by
  have hI := hF.own (Nat.le_refl _)
  refine wpIn_rangeFunc fun fn hfn => ?_
  let rc : LoopState → Loop := fun st => { state := st, pending := none, fn, tmps := a.tmps, params := #[p], assign, body, defers := w.heap.size }
  have hW1 : Below w.heap.size w ((w.alloc (.deferred (some []))).alloc (.loop (rc .ready))) := ((Below.refl _ w).alloc (Nat.le_refl _) _).alloc (by simp) _
  have hl1 : ((w.alloc (.deferred (some []))).alloc (.loop (rc .ready))).heap[w.heap.size + 1]? = some (.loop (rc .ready)) := by
    have := World.alloc_heap_new (w.alloc (.deferred (some []))) (.loop (rc .ready)); rwa [World.size_alloc] at this
  have hd1 : ((w.alloc (.deferred (some []))).alloc (.loop (rc .ready))).heap[w.heap.size]? = some (.deferred (some [])) := (Below.heap_alloc _ _ _ (by simp)).trans (World.alloc_heap_new w _)
  refine ⟨w.heap.size + 1, [{ target := .collected w.heap.size, args := #[] }], ((w.alloc (.deferred (some []))).alloc (.loop (rc .ready))), { target := .fn (.func gf) lb, args := #[.func (.yield (w.heap.size + 1)) #[] #[]] }, ((w.alloc (.deferred (some []))).alloc (.loop (rc .ready))), gf, #[.func (.yield (w.heap.size + 1)) #[] #[]] ++ lb, ((w.alloc (.deferred (some []))).alloc (.loop (rc .ready))), run_enterLoop_outer _ _ _ _ _, ?_, fun _ _ => trivial, ?_, fun h => (by cases h), ?_⟩
  · simp only [resolve, hg]
    simp [go_sem]
  · simp [invoke, go_sem, eg]
  · have hJ : FreeFrom (w.heap.size + 2) (fun pre W => I pre W ∧ W.heap[w.heap.size + 1]? = some (.loop (rc .ready)) ∧ W.heap[w.heap.size]? = some (.deferred (some []))) := fun pre A B row hs hgr hr =>
      ⟨hF pre A B row hs.1 hgr (fun r e => by have := hr r e; omega), blk_free hs.2.1 (by omega) hgr hr, blk_free hs.2.2 (by omega) hgr hr⟩
    refine (hseq (n - 1) (w.heap.size + 1) (w.heap.size + 2) _ _ (hb0.trans (hW1.mono hb0.size)) (by simp) hJ ?_ ⟨hI.alloc _ (hI.alloc _ h0), hl1, hd1⟩).mono ?_
    · rintro m pre x W ⟨hi, hl, hd⟩
      have hy := run_yield (P := P) (args := #[Value.int .i64 x]) hl rfl
      have htm : ((rc .ready).params.zip #[Value.int .i64 x]).foldl (fun tmps (t, a) => tmps.setIfInBounds t a) (rc .ready).tmps = a.tmps.setIfInBounds p (.int .i64 x) := by simp [rc]
      rw [htm] at hy
      refine ⟨fn, _, assign, body, hy, roundIn_of_wpIn hfn (hassign _ _ x W _ ⟨_, run_beginRound hl rfl, ?_⟩)⟩
      have hlt := blk_lt hl
      have hl2 : (W.putObj (w.heap.size + 1) (.loop { rc .ready with state := .busy })).heap[w.heap.size + 1]? = some (.loop { rc .ready with state := .busy }) := World.putObj_heap_same hlt
      refine wpIn_mono (hbody _ _ pre x _ (hI.putObj _ hi (by omega) hl rfl)) ?_
      rintro e a3 W3 ⟨rfl, hk3, hi3⟩
      have hl3 := hk3.same _ _ hl2 (.inr (.inr rfl))
      have he := run_endRound (P := P) none hl3
      refine ⟨_, _, he, rfl, ⟨hI.putObj _ hi3 (by omega) hl3 rfl, World.putObj_heap_same (blk_lt hl3), ?_⟩, hk3.os, hk3.tape, hk3.output, ?_, fun k o hk ho => ?_⟩
      · rw [World.putObj_heap_other (by omega)]
        exact hk3.same _ _ ((World.putObj_heap_other (by omega)).trans hd) (.inr (.inr rfl))
      · have := hk3.size; simpa using this
      · by_cases hkl : k = w.heap.size + 1
        · subst hkl
          rw [hl] at hk
          cases hk
          exact World.putObj_heap_same (blk_lt hl3)
        · rw [World.putObj_heap_other hkl]
          refine hk3.same k o ((World.putObj_heap_other hkl).trans hk) ?_
          rcases ho with ho | ho | ho
          · exact .inl ho
          · exact .inr (.inl (by omega))
          · exact .inr (.inr ho)
    · rintro e W2 ⟨⟨v, rfl⟩, ⟨hi, hl, hd⟩, hk⟩
      refine ⟨none, _, run_endLoop (P := P) hl (by simp [rc]), hdone _ _ (Nat.le_refl _) (hI.putObj _ hi (by omega) hl rfl) ?_ ((World.putObj_heap_other (by omega)).trans hd)⟩
      refine ⟨hk.os, hk.tape, hk.output, ?_, fun k o hk1 ho => ?_⟩
      · have := hk.size; simp at this ⊢; omega
      · have hkw := blk_lt hk1
        rw [World.putObj_heap_other (by omega)]
        refine hk.same k o ((hW1.block k hkw).trans hk1) ?_
        rcases ho with ho | ho | ho
        · exact .inl ho
        · omega
        · exact .inr (.inr ho)
end Go.Proofs.YtogdbjafibejdaaGreat

/- A range over an iterator, its body with memory of its own that grows: which blocks are the body's is told by a set. No condition. -/
namespace Go.Proofs.YtogdbjafibejdaaGreat
open Go.RowKit
set_option maxRecDepth 100000
set_option linter.unusedVariables false

/-- Cells of one of these types. -/
def InT (T : TypeId → Prop) (o : Obj) : Prop := ∃ cs t fr, o = .cells cs t fr ∧ T t
/-- Of W nothing is turned but cells of blocks in S or of the types T, from n0 on; the set S' has what S has, and new blocks. -/
structure Kz (n0 : Nat) (T : TypeId → Prop) (S S' : Nat → Prop) (W W' : World) : Prop where
  os : W'.os = W.os
  tape : W'.tape = W.tape
  output : W'.output = W.output
  size : W.heap.size ≤ W'.heap.size
  same : ∀ (k : Nat) (o : Obj), W.heap[k]? = some o → (k < n0 ∨ (¬ S k ∧ ¬ InT T o) ∨ o.isCells = false) → W'.heap[k]? = some o
  sub : ∀ k, S' k → k < W'.heap.size ∧ (S k ∨ W.heap.size ≤ k)
theorem Kz.refl {n0 : Nat} {T : TypeId → Prop} {S : Nat → Prop} {W : World} (h : ∀ k, S k → k < W.heap.size) : Kz n0 T S S W W := ⟨rfl, rfl, rfl, Nat.le_refl _, fun _ _ h _ => h, fun k hk => ⟨h k hk, .inl hk⟩⟩
theorem Kz.trans {n0 : Nat} {T : TypeId → Prop} {S S1 S2 : Nat → Prop} {A B C : World} (h : Kz n0 T S S1 A B) (k : Kz n0 T S1 S2 B C) : Kz n0 T S S2 A C :=
  ⟨k.os.trans h.os, k.tape.trans h.tape, k.output.trans h.output, Nat.le_trans h.size k.size, fun i o hi ho => k.same i o (h.same i o hi ho) (by
    rcases ho with ho | ho | ho
    · exact .inl ho
    · refine .inr (.inl ⟨fun hs => ?_, ho.2⟩)
      rcases (h.sub i hs).2 with h1 | h1
      · exact ho.1 h1
      · have := blk_lt hi; omega
    · exact .inr (.inr ho)), fun i hi => ⟨(k.sub i hi).1, by
      rcases (k.sub i hi).2 with h1 | h1
      · exact (h.sub i h1).2
      · exact .inr (by have := h.size; omega)⟩⟩
theorem Kz.below {n0 : Nat} {T : TypeId → Prop} {S S' : Nat → Prop} {A B : World} (h : Kz n0 T S S' A B) (hn : n0 ≤ A.heap.size) : Below n0 A B :=
  ⟨h.os, h.tape, h.output, h.size, fun k hk => by
    have hlt : k < A.heap.size := by omega
    rw [h.same k A.heap[k] (by simp [hlt]) (.inl hk)]
    simp [hlt]⟩
theorem Kz.keeps {n0 : Nat} {T : TypeId → Prop} {S S' : Nat → Prop} {A B : World} (h : Kz n0 T S S' A B) : KeepsOthers A B := ⟨h.size, fun k o hk ho => h.same k o hk (.inr (.inr ho))⟩
theorem Kz.of_below {n0 : Nat} {T : TypeId → Prop} {S : Nat → Prop} {A B : World} (h : Below A.heap.size A B) (hs : ∀ k, S k → k < A.heap.size) : Kz n0 T S S A B :=
  ⟨h.os, h.tape, h.output, h.size, fun k o hk _ => (h.block k (blk_lt hk)).trans hk, fun k hk => ⟨Nat.lt_of_lt_of_le (hs k hk) h.size, .inl hk⟩⟩
/-- Objects of the iterator's own are turned besides. -/
theorem Kz.own {n0 B : Nat} {T : TypeId → Prop} {S S' : Nat → Prop} {W0 W W' : World} {row : Option Nat} (h : Kz n0 T S S' W0 W) (hB : W0.heap.size ≤ B) (hg : W.grownBy W' row) (hr : ∀ r, row = some r → B ≤ r) : Kz n0 T S S' W0 W' :=
  ⟨hg.os.trans h.os, hg.tape.trans h.tape, hg.output.trans h.output, Nat.le_trans h.size hg.size, fun k o hk ho => by
    have h1 := h.same k o hk ho
    rw [hg.block k (blk_lt h1) (fun e => by have := hr k e.symm; have := blk_lt hk; omega)]
    exact h1, fun k hk => ⟨Nat.lt_of_lt_of_le (h.sub k hk).1 hg.size, (h.sub k hk).2⟩⟩

/-- What is below n0 and n1, and the cells of the blocks in S and of the types T are as they were. -/
structure Agree (n0 n1 : Nat) (T : TypeId → Prop) (S : Nat → Prop) (W W' : World) : Prop where
  os : W'.os = W.os
  tape : W'.tape = W.tape
  output : W'.output = W.output
  size : W.heap.size ≤ W'.heap.size
  same : ∀ (k : Nat) (o : Obj), W.heap[k]? = some o → (k < n0 ∨ (S k ∧ o.isCells = true) ∨ InT T o ∨ k < n1) → W'.heap[k]? = some o
def FreeS (n0 n1 : Nat) (T : TypeId → Prop) (J : (Nat → Prop) → List Int → World → Prop) : Prop := ∀ S pre W W', J S pre W → Agree n0 n1 T S W W' → J S pre W'
theorem Agree.of_below {n0 n1 : Nat} {T : TypeId → Prop} {S : Nat → Prop} {A B : World} (h : Below A.heap.size A B) : Agree n0 n1 T S A B := ⟨h.os, h.tape, h.output, h.size, fun k o hk _ => (h.block k (blk_lt hk)).trans hk⟩
/-- An object of the iterator's own is turned: no cells of S, nothing below n0, none of the objects below n1. -/
theorem Agree.own {n0 n1 : Nat} {T : TypeId → Prop} {S : Nat → Prop} {W W' : World} {row : Option Nat} (hg : W.grownBy W' row) (hr : ∀ r, row = some r → n0 ≤ r ∧ n1 ≤ r ∧ ((¬ S r ∧ ∀ o, W.heap[r]? = some o → ¬ InT T o) ∨ ∃ o : Obj, W.heap[r]? = some o ∧ o.isCells = false)) : Agree n0 n1 T S W W' :=
  ⟨hg.os, hg.tape, hg.output, hg.size, fun k o hk ho => by
    rw [hg.block k (blk_lt hk) (fun e => by
      obtain ⟨h0, h1, h2⟩ := hr k e.symm
      rcases ho with ho | ho | ho | ho
      · omega
      · rcases h2 with h2 | ⟨o', e1, e2⟩
        · exact h2.1 ho.1
        · rw [hk] at e1; cases e1; rw [ho.2] at e2; cases e2
      · rcases h2 with h2 | ⟨o', e1, e2⟩
        · exact h2.2 o hk ho
        · rw [hk] at e1; cases e1; obtain ⟨cs, t, fr, rfl, _⟩ := ho; cases e2
      · omega)]
    exact hk⟩

/-- The iterator's word: it tells 'all', one behind the other, to whatever body goes on. -/
def SeqTells2 (P : Program) (T : TypeId → Prop) (g : Nat) (lb : Array Value) (n0 : Nat) (all : List Int) (w : World) : Prop :=
  ∀ (n l n1 : Nat) (J : (Nat → Prop) → List Int → World → Prop) (S : Nat → Prop) (W : World), Below w.heap.size w W → n1 ≤ W.heap.size → n0 ≤ W.heap.size → (∀ k, S k → k < W.heap.size) → FreeS n0 n1 T J →
    (∀ m S pre x W1, pre ++ [x] <+: all → J S pre W1 → (∀ k, S k → k < W1.heap.size) → YieldAt Fence.wide m P l #[.int .i64 x] W1 fun e W' => e = .returned (.bool true) ∧ ∃ S', J S' (pre ++ [x]) W' ∧ Kz n0 T S S' W1 W') →
    J S [] W → CallsIn Fence.wide n P g (#[.func (.yield l) #[] #[]] ++ lb) W fun e W' => (∃ v, e = .returned v) ∧ ∃ S', J S' all W' ∧ Kz n0 T S S' W W'

theorem wpIn_tells2 {P : Program} {T : TypeId → Prop} {n : Nat} {g : Operand} {p : Tmp} {assign body : Code} {Q : Exit → Act → World → Prop} {a : Act} {w w0 : World} {n0 : Nat} {all : List Int}
    {gf : Nat} {lb : Array Value} (hg : a.eval g = .func (.func gf) #[] lb) (eg : ∀ args w, (callFunc gf args).run P w = .ok (.enter gf args) w)
    (hseq : SeqTells2 P T gf lb n0 all w0) (hb0 : Below w0.heap.size w0 w) (hn0 : n0 ≤ w.heap.size)
    (I : (Nat → Prop) → List Int → World → Prop) (hF : FreeS n0 w.heap.size T I) (S0 : Nat → Prop) (hS0 : ∀ k, S0 k → k < w.heap.size) (h0 : I S0 [] w) (a1 : Int → Act)
    (hassign : ∀ (l m : Nat) (x : Int) (W : World) (K : Act → World → Prop), K (a1 x) W → assign.wpIn (Fence.wide.inRound l) m P (Exit.then K (fun _ _ _ => False)) { tmps := a.tmps.setIfInBounds p (.int .i64 x), defers := [] } W)
    (hbody : ∀ (l m : Nat) (S : Nat → Prop) (pre : List Int) (x : Int) (W : World), pre ++ [x] <+: all → I S pre W → (∀ k, S k → k < W.heap.size) → body.wpIn (Fence.wide.inRound l) m P (fun e _ W' => e = .normal ∧ ∃ S', Kz n0 T S S' W W' ∧ I S' (pre ++ [x]) W') (a1 x) W)
    (hdone : ∀ (D : Nat) (S' : Nat → Prop) (W : World), w.heap.size ≤ D → I S' all W → Kz n0 T S0 S' w W → W.heap[D]? = some (.deferred (some [])) → Q .normal { a with defers := { target := .collected D, args := #[] } :: a.defers } W) :
    (Code.rangeFunc g #[p] assign body).wpIn Fence.wide n P Q a w := by
  refine wpIn_rangeFunc fun fn hfn => ?_
  let rc : LoopState → Loop := fun st => { state := st, pending := none, fn, tmps := a.tmps, params := #[p], assign, body, defers := w.heap.size }
  have hW1 : Below w.heap.size w ((w.alloc (.deferred (some []))).alloc (.loop (rc .ready))) := ((Below.refl _ w).alloc (Nat.le_refl _) _).alloc (by simp) _
  have hl1 : ((w.alloc (.deferred (some []))).alloc (.loop (rc .ready))).heap[w.heap.size + 1]? = some (.loop (rc .ready)) := by
    have := World.alloc_heap_new (w.alloc (.deferred (some []))) (.loop (rc .ready)); rwa [World.size_alloc] at this
  have hd1 : ((w.alloc (.deferred (some []))).alloc (.loop (rc .ready))).heap[w.heap.size]? = some (.deferred (some [])) := (Below.heap_alloc _ _ _ (by simp)).trans (World.alloc_heap_new w _)
  have hs1 : ((w.alloc (.deferred (some []))).alloc (.loop (rc .ready))).heap.size = w.heap.size + 2 := by simp
  refine ⟨w.heap.size + 1, [{ target := .collected w.heap.size, args := #[] }], ((w.alloc (.deferred (some []))).alloc (.loop (rc .ready))), { target := .fn (.func gf) lb, args := #[.func (.yield (w.heap.size + 1)) #[] #[]] }, ((w.alloc (.deferred (some []))).alloc (.loop (rc .ready))), gf, #[.func (.yield (w.heap.size + 1)) #[] #[]] ++ lb, ((w.alloc (.deferred (some []))).alloc (.loop (rc .ready))), run_enterLoop_outer _ _ _ _ _, ?_, fun _ _ => trivial, ?_, fun h => (by cases h), ?_⟩
  · simp only [resolve, hg]
    simp [go_sem]
  · simp [invoke, go_sem, eg]
  · have hJ : FreeS n0 (w.heap.size + 2) T (fun S pre W => I S pre W ∧ W.heap[w.heap.size + 1]? = some (.loop (rc .ready)) ∧ W.heap[w.heap.size]? = some (.deferred (some []))) := fun S pre A B hs hag =>
      ⟨hF S pre A B hs.1 ⟨hag.os, hag.tape, hag.output, hag.size, fun k o hk ho => hag.same k o hk (by
        rcases ho with ho | ho | ho | ho
        · exact .inl ho
        · exact .inr (.inl ho)
        · exact .inr (.inr (.inl ho))
        · exact .inr (.inr (.inr (by omega))))⟩, hag.same _ _ hs.2.1 (.inr (.inr (.inr (by omega)))), hag.same _ _ hs.2.2 (.inr (.inr (.inr (by omega))))⟩
    refine (hseq (n - 1) (w.heap.size + 1) (w.heap.size + 2) _ S0 _ (hb0.trans (hW1.mono hb0.size)) (by simp) (by simp; omega) (fun k hk => by have := hS0 k hk; omega) hJ ?_ ⟨hF _ _ _ _ h0 (Agree.of_below hW1), hl1, hd1⟩).mono ?_
    · rintro m S pre x W hxa ⟨hi, hl, hd⟩ hSW
      have hy := run_yield (P := P) (args := #[Value.int .i64 x]) hl rfl
      have htm : ((rc .ready).params.zip #[Value.int .i64 x]).foldl (fun tmps (t, a) => tmps.setIfInBounds t a) (rc .ready).tmps = a.tmps.setIfInBounds p (.int .i64 x) := by simp [rc]
      rw [htm] at hy
      refine ⟨fn, _, assign, body, hy, roundIn_of_wpIn hfn (hassign _ _ x W _ ⟨_, run_beginRound hl rfl, ?_⟩)⟩
      have hlt := blk_lt hl
      have hl2 : (W.putObj (w.heap.size + 1) (.loop { rc .ready with state := .busy })).heap[w.heap.size + 1]? = some (.loop { rc .ready with state := .busy }) := World.putObj_heap_same hlt
      have hag2 : Agree n0 w.heap.size T S W (W.putObj (w.heap.size + 1) (.loop { rc .ready with state := .busy })) := Agree.own (grownBy_putObj' _ _ _) (fun r e => by cases e; exact ⟨by omega, by omega, .inr ⟨_, hl, rfl⟩⟩)
      refine wpIn_mono (hbody _ _ S pre x _ hxa (hF _ _ _ _ hi hag2) (fun k hk => by have := hSW k hk; simpa using this)) ?_
      rintro e a3 W3 ⟨rfl, S', hk3, hi3⟩
      have hl3 := hk3.same _ _ hl2 (.inr (.inr rfl))
      have he := run_endRound (P := P) none hl3
      have hag3 : Agree n0 w.heap.size T S' W3 (W3.putObj (w.heap.size + 1) (.loop (rc .ready))) := Agree.own (grownBy_putObj' _ _ _) (fun r e => by cases e; exact ⟨by omega, by omega, .inr ⟨_, hl3, rfl⟩⟩)
      refine ⟨_, _, he, rfl, S', ⟨hF _ _ _ _ hi3 hag3, World.putObj_heap_same (blk_lt hl3), ?_⟩, hk3.os, hk3.tape, hk3.output, ?_, fun k o hk ho => ?_, fun k hk => ?_⟩
      · rw [World.putObj_heap_other (by omega)]
        exact hk3.same _ _ ((World.putObj_heap_other (by omega)).trans hd) (.inr (.inr rfl))
      · have := hk3.size; simpa using this
      · by_cases hkl : k = w.heap.size + 1
        · subst hkl
          rw [hl] at hk
          cases hk
          exact World.putObj_heap_same (blk_lt hl3)
        · rw [World.putObj_heap_other hkl]
          exact hk3.same k o ((World.putObj_heap_other hkl).trans hk) ho
      · have := hk3.sub k hk
        simpa using this
    · rintro e W2 ⟨⟨v, rfl⟩, S', ⟨hi, hl, hd⟩, hk⟩
      have hag : Agree n0 w.heap.size T S' W2 (W2.putObj (w.heap.size + 1) (.loop { rc .ready with state := .exhausted })) := Agree.own (grownBy_putObj' _ _ _) (fun r e => by cases e; exact ⟨by omega, by omega, .inr ⟨_, hl, rfl⟩⟩)
      refine ⟨none, _, run_endLoop (P := P) hl (by simp [rc]), hdone _ S' _ (Nat.le_refl _) (hF _ _ _ _ hi hag) ?_ ((World.putObj_heap_other (by omega)).trans hd)⟩
      refine ⟨hk.os, hk.tape, hk.output, ?_, fun k o hk1 ho => ?_, fun k hk1 => ?_⟩
      · have := hk.size; simp at this ⊢; omega
      · have hkw := blk_lt hk1
        rw [World.putObj_heap_other (by omega)]
        exact hk.same k o ((hW1.block k hkw).trans hk1) ho
      · have := hk.sub k hk1
        refine ⟨by simpa using this.1, ?_⟩
        rcases this.2 with h | h
        · exact .inl h
        · exact .inr (by omega)
end Go.Proofs.YtogdbjafibejdaaGreat

/- 'append(v, s...)' where v is the call's own and s a string. No condition. -/
namespace Go.Proofs.YtogdbjafibejdaaGreat
open Go.RowKit
set_option maxRecDepth 100000
set_option linter.unusedVariables false

theorem bs_cells (s : ByteArray) : (bs s).map (Value.int .u8) = (s.data.map (fun b => Value.int .u8 b.toNat)).toList := by
  simp [bs, Function.comp_def]

theorem first_str {P : Program} (w : World) (s : ByteArray) : (Builtin.firstCells 1 s.size (.string s)).run P w = .ok ((bs s).map (Value.int .u8)).toArray w := by
  rw [bs_cells]
  simp [Builtin.firstCells]
  apply Array.ext'
  simp

theorem run_append_str {P : Program} (w : World) (base : Nat) (t u ty e : TypeId) (i : TypeInfo) (z : Value) (ht : P.underlying t = some (.slice e)) (hu : P.underlying u = some .string)
    (hi : P.info? e = some i) (hz : i.zero = some z) (hsize : i.size = 1) (hby : i.bytes = 1) (hzs : z.cells.size = 1) (v : Value) (xs : List Int) (hown : Own base e .u8 w v xs) (hne : xs ≠ [])
    (s : ByteArray) (hb : xs.length + s.size ≤ 140737488355328) (hbase : base ≤ w.heap.size) :
    ∃ v' w', (Builtin.append_ #[t, u] ty #[v, .string s]).run P w = .ok v' w' ∧ Own base e .u8 w' v' (xs ++ bs s) ∧ w.grownBy w' v.ownBlock := by
  have h63 : xs.length + s.size ≤ maxLen := by unfold maxLen; omega
  obtain ⟨ys, hys⟩ : ∃ ys, ys = xs.map (Value.int .u8) := ⟨_, rfl⟩
  obtain ⟨news, hnw⟩ : ∃ ns, ns = (bs s).map (Value.int .u8) := ⟨_, rfl⟩
  have hnl : news.length = s.size := by rw [hnw, List.length_map, bs_len]
  have hyl : ys.length = xs.length := by rw [hys, List.length_map]
  have hpos : 0 < xs.length := List.length_pos_iff.mpr hne
  have h1 : ∀ u ∈ news, u.oneCell' = true := by rw [hnw]; exact ints_oneCell .u8 (bs s)
  have hlen : (ys ++ news).length = xs.length + s.size := by rw [List.length_append, hyl, hnl]
  have hxl : (xs ++ bs s).length = xs.length + s.size := by rw [List.length_append, bs_len]
  have hmap : (xs ++ bs s).map (Value.int .u8) = ys ++ news := by rw [List.map_append, ← hys, ← hnw]
  have hown' := hown
  unfold Own at hown ⊢
  rw [← hys] at hown
  rw [hmap, hxl]
  rcases hown.2 with ⟨rfl, h0⟩ | ⟨g, cap, cur, rfl, hbg, hg, hnc, hcm, hcs, htake⟩
  · omega
  · simp only [Nat.mul_one] at hcs htake
    by_cases hroom : xs.length + s.size ≤ cap
    · have hf := first_str (P := P) w s
      rw [← hnw] at hf
      have hfit : xs.length * 1 + news.length ≤ cur.size := by rw [hnl, hcs]; omega
      have hst := run_storeCells_at P g (xs.length * 1) e news 0 cur w hg (by simpa using hfit) h1
      simp only [Nat.add_zero, Nat.mul_one] at hst
      have hr : (Builtin.append_ #[t, u] ty #[.slice (some ⟨g, 0, none⟩) xs.length cap, .string s]).run P w = .ok (.slice (some ⟨g, 0, none⟩) (xs.length + s.size) cap) (w.setRow g (cur.toList.take xs.length ++ news ++ cur.toList.drop (xs.length + news.length)).toArray) := by
        simp [Builtin.append_, run_underlying ht, run_underlying hu, sizeOf, typeInfo, hi, hsize, Builtin.lenOf, hroom, hf, Addr.add_lit, hst]
      refine ⟨_, _, hr, ⟨by rw [hlen, Nat.mul_one], .inr ⟨g, cap, _, rfl, hbg, setRow_heap w g cur _ e _ hg, hroom, hcm, ?_, ?_⟩⟩, ⟨rfl, rfl, rfl, by simp, fun k _ hk => setRow_other w g k _ (fun e => hk (by simp [Value.ownBlock, e]))⟩⟩
      · simp only [List.size_toArray, List.length_append, List.length_take, List.length_drop, Array.length_toList]
        omega
      · simp only [Nat.mul_one]
        rw [htake, ← hlen]
        exact List.take_left
    · have holds : ∀ j u, ys[j]? = some u → w.cell? ((⟨g, 0, none⟩ : Addr).add j) = some u := hown.cells (g := g) rfl
      have hfo := run_firstCells_some (P := P) w.drew 1 xs.length ⟨g, 0, none⟩ xs.length cap ys (by rw [hyl, Nat.mul_one]) (by simpa using holds)
      have hf := first_str (P := P) w.drew s
      rw [← hnw] at hf
      have h63' : ¬ (9223372036854775807 < ((xs.length : Int) + (s.size : Int))) := by unfold maxLen at h63; omega
      have hfits := growslice_fits (need := xs.length + s.size) (old := cap) (bytes := 1) (by omega) (by omega)
      have h48' : ¬ (281474976710656 < Builtin.nextslicecap (xs.length + s.size) cap) := by omega
      have hge := grownCap_ge w (xs.length + s.size) cap e
      have hcm' : grownCap w (xs.length + s.size) cap e ≤ maxLen := grownCap_le_maxLen w (xs.length + s.size) cap e h63
      have hr : (Builtin.append_ #[t, u] ty #[.slice (some ⟨g, 0, none⟩) xs.length cap, .string s]).run P w = .ok (.slice (some ⟨w.heap.size, 0, none⟩) (xs.length + s.size) (grownCap w (xs.length + s.size) cap e))
          (w.drew.alloc (.cells (ys.toArray ++ news.toArray ++ Builtin.zeroCells z.cells (grownCap w (xs.length + s.size) cap e - (xs.length + s.size))) e)) := by
        simp [Builtin.append_, run_underlying ht, run_underlying hu, sizeOf, typeInfo, zeroValue, hi, hz, hsize, hby, Builtin.lenOf, hroom, h63', h48', Question.forced, hf, hfo, newRow, grownCap]
        congr 2
        apply Array.ext'
        simp [List.append_assoc]
      refine ⟨_, _, hr, ⟨by rw [hlen, Nat.mul_one], .inr ⟨w.heap.size, _, _, rfl, hbase, heap_alloc_new w.drew _, hge, hcm', ?_, ?_⟩⟩, ⟨rfl, rfl, rfl, by simp, fun k hk _ => Below.heap_alloc w.drew _ k hk⟩⟩
      · simp only [Array.size_append, List.size_toArray, size_zeroCells, hzs, hyl, hnl, Nat.mul_one]
        omega
      · simp only [Array.toList_append, List.append_assoc, Nat.mul_one]
        rw [← List.append_assoc, ← hlen]
        exact List.take_left

theorem wpList_app_str {P : Program} (w : World) {ops : Array Oper} {rest : List Oper} {o : Oper} {a : Act} {Q : Exit → Act → World → Prop} (hgd : o.guard = none)
    (s x : Operand) (t u : TypeId) (ho : o.op = Op.call { callee := Callee.builtin Builtin.append, args := #[s, x], argTypes := #[t, u] }) (B : Nat) (e : TypeId) (i : TypeInfo)
    (z : Value) (ht : P.underlying t = some (TypeDesc.slice e)) (hu : P.underlying u = some .string) (hi : P.info? e = some i) (hz : i.zero = some z) (hsize : i.size = 1) (hby : i.bytes = 1)
    (hzs : z.cells.size = 1) (v : Value) (st : ByteArray) (xs : List Int) (hs : a.eval s = v) (hx : a.eval x = .string st) (hown : Own B e .u8 w v xs) (hne : xs ≠ [])
    (hb : xs.length + st.size ≤ 140737488355328) (hbase : B ≤ w.heap.size)
    (h : ∀ (v' : Value) (w' : World), Own B e .u8 w' v' (xs ++ bs st) → w.grownBy w' v.ownBlock → wpList P ops Q rest (a.put o.dst v') w') :
    wpList P ops Q (o :: rest) a w := by
  obtain ⟨v', w', hr, h2, h3⟩ := run_append_str (P := P) w B t u o.type e i z ht hu hi hz hsize hby hzs v xs hown hne st hb hbase
  refine wpList_plain hgd fun _ hK => ?_
  unfold Oper.wp execOp
  simp only [ho, resolve, invoke, builtin, Sem.run_bind, Sem.run_pure, Result.andThen_ok, List.map_toArray, List.map_cons, List.map_nil, hs, hx, hr]
  exact hK _ _ (h v' w' h2 h3)
end Go.Proofs.YtogdbjafibejdaaGreat
