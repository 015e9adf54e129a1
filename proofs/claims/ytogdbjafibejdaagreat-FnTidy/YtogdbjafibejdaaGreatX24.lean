/- The draw of a tree: l6DrawTree. No condition. -/
import Derived.Test.YtogdbjafibejdaaGreatX23
import Derived.Deep.CutBlock
import Derived.Test.YtogdbjafibejdaaGreatX17
import Derived.Test.YtogdbjafibejdaaGreatX4
import Derived.Test.YtogdbjafibejdaaGreatX13
namespace Go.Proofs.YtogdbjafibejdaaGreat
open Go.RowKit
set_option maxRecDepth 100000
set_option linter.unusedVariables false

theorem wrap_tree {x : Int} (h0 : -9223372036854775808 ≤ x) (h1 : x ≤ 9223372036854775807) : IntKind.i64.wrap x = x := by
  simp [IntKind.wrap, IntKind.bits, IntKind.signed]; omega

set_option maxHeartbeats 40000000 in
set_option maxRecDepth 100000 in
theorem drawTree_any {w0 : World} {g : Nat} {cv : Value} {xs : List Int} {w : World} (hc : Cur w0 g cv xs w) (hb : ∀ x ∈ xs, 0 ≤ x ∧ x ≤ 255) :
    Calls Tryz.prog 45 #[.pointer (some ⟨g, 0, none⟩)] w fun e w' => ∃ nv ns, e = .returned (.agg #[nv]) ∧ OwnN w.heap.size w' nv ns ∧ OutT ns ∧ Cur w0 g cv xs w' ∧ w.grownBy w' (some g) := by
  have HB := (show Hid (∀ x ∈ xs, 0 ≤ x ∧ x ≤ 255) from hb)
  have hgl := hc.lt
  have H0 := (show Hid (w0.heap.size ≤ w.heap.size) from hc.2.2.1.size)
  have HC := (show Hid (Cur w0 g cv xs w) from hc)
  clear hb hc
  obtain ⟨W0, hW0⟩ : ∃ q, q = w.alloc (.cells #[.slice none 0 0] 26) := ⟨_, rfl⟩
  have b0 : Below w.heap.size w W0 := by rw [hW0]; exact (Below.refl _ _).alloc (Nat.le_refl _) _
  have hs0 : W0.heap.size = w.heap.size + 1 := by rw [hW0, World.size_alloc]
  have hr0 : W0.heap[w.heap.size]? = some (.cells #[.slice none 0 0] 26 (0, 0)) := by rw [hW0]; exact World.alloc_heap_new _ _
  go_enter Tryz.func45, Tryz.ntmps45
  go_wp2_with fail
  go_at_call 93
  rw [← hW0]
  refine Calls.mono (drawRight_any (HC.out.below b0) HB.out) ?_
  rintro e w1 ⟨nv, ns, rfl, own1, ⟨k, hdr, hk⟩, k1, g1⟩
  have hcnt := hdr.cnt
  obtain ⟨q, cap, rfl, hq1, hq2⟩ : ∃ q cap, nv = .slice (some ⟨q, 0, none⟩) ns.length cap ∧ W0.heap.size ≤ q ∧ q < w1.heap.size := by obtain ⟨_, _, h2, _⟩ := own1; exact one_form h2 (by omega)
  obtain ⟨w2, hw2⟩ : ∃ x, x = w1.alloc (.cells #[.slice (some ⟨q, 0, none⟩) ns.length cap] 26) := ⟨_, rfl⟩
  have b12 : Below w1.heap.size w1 w2 := by rw [hw2]; exact (Below.refl _ _).alloc (Nat.le_refl _) _
  have hr1 := (g1.block _ (blk_lt hr0) (fun e => by simp only [Option.some.injEq] at e; omega)).trans hr0
  have HD : Hid (RtW w0 w g cv xs w1.heap.size (.slice (some ⟨q, 0, none⟩) ns.length cap) ns w2) := by
    refine ⟨k1.below b12, (b12.block _ (blk_lt hr1)).trans hr1, by rw [hw2]; exact World.alloc_heap_new _ _, (own1.base (by omega)).below b12, ?_⟩
    exact grown_below (grown_trans (below_by g b0) g1) b12
  have hT : w.heap.size < w1.heap.size := by have := g1.size; omega
  obtain ⟨T, hTT⟩ : ∃ T, T = w1.heap.size := ⟨_, rfl⟩
  rw [← hTT] at HD hT
  have HDR := (show Hid (DrT ns k) from hdr)
  have HCNT := (show Hid (ns.length = k + 1) from hcnt)
  have hqw : w.heap.size < q := by omega
  clear own1 k1 g1 hdr hcnt hr0 hr1 b0 hs0 hq1 hq2 hW0 b12
  go_wp2_with fail
  go_at_call 68
  rw [← hw2, ← hTT]
  refine Calls.mono (below_any (ns.length : Int) (by have := HCNT.out; omega) HD.out.cur HB.out) ?_
  rintro e w3 ⟨x, rfl, x0, x1, _, k3, g3⟩
  replace x1 := x1 (by have := HCNT.out; omega)
  have HD3 := (show Hid (RtW w0 w g cv xs T (.slice (some ⟨q, 0, none⟩) ns.length cap) ns w3) from HD.out.cursor k3 g3 hgl hT)
  obtain ⟨c, rfl⟩ : ∃ c : Nat, x = c := ⟨x.toNat, by omega⟩
  have hcl : c < ns.length := by omega
  clear HD k3 g3 hw2 hTT x0
  go_wp2_with fail
  go_at_call 68
  refine Calls.mono (below_any 25 (by decide) HD3.out.cur HB.out) ?_
  rintro e w4 ⟨y, rfl, y0, y1, _, k4, g4⟩
  have HD4 := (show Hid (RtW w0 w g cv xs T (.slice (some ⟨q, 0, none⟩) ns.length cap) ns w4) from HD3.out.cursor k4 g4 hgl hT)
  clear HD3 k4 g4
  have cT := (six_one HD4.out.bT).1
  go_upto_block 0 with fail
  go_cut [] from 14 (fun wx => EndT w0 w g cv xs T wx)
  case first =>
    by_cases h0 : y = 0
    · subst h0
      have HDd := (show Hid (RtW w0 w g cv xs T (.slice (some ⟨q, 0, none⟩) ns.length cap) ns w4.drew) from HD4.out.below (below_drewN 1))
      have cTd := (six_one HDd.out.bT).1
      go_upto_region 5 with fail
      go_region_with (first
        | (go_at_call 68
           refine Calls.mono (below_any 4 (by decide) HDd.out.cur HB.out) ?_
           rintro e w5 ⟨z, rfl, z0, z1, _, k5, g5⟩
           replace z1 := z1 (by decide)
           have HD5 := (show Hid (RtW w0 w g cv xs T (.slice (some ⟨q, 0, none⟩) ns.length cap) ns w5) from HDd.out.cursor k5 g5 hgl hT)
           have cT5 := (six_one HD5.out.bT).1
           obtain ⟨⟨yy, c5⟩, z5⟩ := HD5.out.cellIn rfl hcl (j := 4) (by omega)
           have HR := (show Hid _ from HD5.out.field rfl hcl (j := 4) (by omega) (.int .i64 (IntKind.i64.wrap (z - 1))) (fun n => ⟨n.kind, n.name, n.attrs, n.text, IntKind.i64.wrap (z - 1), n.kids⟩) (fun m vv => rfl) (fun m => rfl) (fun m => rfl) hgl H0.out)
           clear k5 g5)
        | fail)
      all_goals
        go_wp2_with fail
        go_meet
        exact ⟨_, _, out_par HDR.out hk, HR.out⟩
    · by_cases h1 : y = 1
      · subst h1
        obtain ⟨ii, hii, hzi0, hzi1, hzi2⟩ := info_parts Tryz.infoIntRow
        obtain ⟨kv, k5, hkv⟩ := HD4.out.kidsIn rfl hcl
        obtain ⟨ka, kn, kc, rfl⟩ := own_slice hkv
        have hkl : ns[c].kids.length ≤ 499 := by have := (HDR.out.mild ns[c] (List.getElem_mem hcl)).kl; omega
        have HKV := (show Hid (Own w.heap.size 3 .i64 w4 (.slice ka kn kc) ns[c].kids) from hkv)
        have HDd := (show Hid (RtW w0 w g cv xs T (.slice (some ⟨q, 0, none⟩) ns.length cap) ns w4.drew) from HD4.out.below (below_drewN 1))
        have hlT : T < w4.heap.size := blk_lt HD4.out.bT
        have hlq : q < w4.heap.size := by obtain ⟨_, cs, fr, h⟩ := HD4.out.rowAt; exact blk_lt h
        have hqg : q ≠ g := by omega
        clear hkv
        have hw8 : IntKind.i64.wrap ((ns.length : Int) + 1) = (ns.length : Int) + 1 := wrap_tree (by omega) (by have := HCNT.out; omega)
        go_upto_region 7 with fail
        go_region_law (first
          | (with_reducible refine step_appK (w := (x1.alloc (Obj.cells #[.int .i64 z] 3))) ?_ (.tmp 34) (.tmp 41) 34 ?_ w.heap.size 3 ii (.int .i64 0) 8 ?_ hii hzi0 hzi1 hzi2 ?_ .i64 (.slice ka kn kc) ns[c].kids ?_ ?_ ⟨x1.heap.size, 0, none⟩ 1 [z] ?_ ?_ ?_ ?_ ?_ ?_
             · rfl
             · rfl
             · exact Tryz.underlying34
             · rfl
             · simp [Act.eval]
             · exact ownsRow_below HO1.out ((Below.refl _ _).alloc (Nat.le_refl _) _)
             · simp [Act.eval]
             · exact sl_one _ _ x1 _
             · (simp; omega)
             · (unfold maxLen; simp; omega)
             · exact (HDa.out _).gr.size
             intro v2 x2 o2 g2 hkeep
             obtain ⟨va, vn, vc, rfl⟩ := own_slice o2
             obtain ⟨ns', hR', hl', hlike⟩ := (HDa.out _).app (ownsRow_below HO1.out ((Below.refl _ _).alloc (Nat.le_refl _) _)) g2 hkeep hgl H0.out
             have l0 := (six_one hR'.bT).1
             obtain ⟨⟨yy, l5⟩, z5⟩ := hR'.cellIn hl'.symm (hl' ▸ hcl) (j := 5) (by omega)
             have HF := (show Hid (EndT w0 w g cv xs T (x2.setCell ⟨q, c * 6 + 5, none⟩ (.slice va vn vc))) from ⟨_, _, out_kids HDR.out hk hl' hlike (by simp; omega), hR'.kids hl'.symm (hl' ▸ hcl) o2 hgl H0.out⟩)
             clear o2 g2 hkeep hR' hl' hlike)
          | (go_simp
             go_at_call 68
             with_reducible refine Calls.mono (below_any ((ns.length : Int) + 1) (by have := HCNT.out; omega) HDd.out.cur HB.out) ?_
             rintro e x1 ⟨z, rfl, z0, z1, _, k6, g6⟩
             have HD5 := (show Hid (RtW w0 w g cv xs T (.slice (some ⟨q, 0, none⟩) ns.length cap) ns x1) from HDd.out.cursor k6 g6 hgl hT)
             have HO1 := (show Hid (Own w.heap.size 3 .i64 x1 (.slice ka kn kc) ns[c].kids) from row_past (ownsRow_below HKV.out (below_drewN 1)) g6 hgl)
             have HDa := (show Hid (∀ X, RtW w0 w g cv xs T (.slice (some ⟨q, 0, none⟩) ns.length cap) ns (x1.alloc X)) from fun X => HD5.out.below ((Below.refl _ _).alloc (Nat.le_refl _) X))
             have j0 := (six_one HD5.out.bT).1
             have j0a : ∀ X, (x1.alloc X).cell? ⟨T, 0, none⟩ = some (.slice (some ⟨q, 0, none⟩) ns.length cap) := fun X => (six_one (HDa.out X).bT).1
             have hbq : x1.heap[q]? = w4.heap[q]? := g6.block q hlq (fun e => hqg (by simp only [Option.some.injEq] at e; exact e))
             have j5 : x1.cell? ⟨q, c * 6 + 5, none⟩ = some (.slice ka kn kc) := by rw [← k5]; simp only [World.cell?, hbq]
             have j5a : ∀ X, (x1.alloc X).cell? ⟨q, c * 6 + 5, none⟩ = some (.slice ka kn kc) := fun X => (((Below.refl _ x1).alloc (Nat.le_refl _) X).cell (p := ⟨q, c * 6 + 5, none⟩) (lt_of_cell6 j5)).trans j5
             clear k6 g6 hbq))
        all_goals
          go_wp2_with fail
          go_meet
          exact HF.out
      · by_cases h2 : y = 2
        · subst h2
          have HDd := (show Hid (RtW w0 w g cv xs T (.slice (some ⟨q, 0, none⟩) ns.length cap) ns w4.drew) from HD4.out.below (below_drewN 1))
          have cTd := (six_one HDd.out.bT).1
          go_upto_region 9 with fail
          go_region_with (first
            | (go_at_call 68
               refine Calls.mono (below_any 7 (by decide) HDd.out.cur HB.out) ?_
               rintro e w5 ⟨z, rfl, z0, z1, _, k5, g5⟩
               replace z1 := z1 (by decide)
               have HD5 := (show Hid (RtW w0 w g cv xs T (.slice (some ⟨q, 0, none⟩) ns.length cap) ns w5) from HDd.out.cursor k5 g5 hgl hT)
               have cT5 := (six_one HD5.out.bT).1
               obtain ⟨⟨yy, c5⟩, z5⟩ := HD5.out.cellIn rfl hcl (j := 0) (by omega)
               replace c5 : w5.cell? ⟨q, c * 6, none⟩ = some yy := c5
               replace z5 : w5.frozen? ⟨q, c * 6, none⟩ = false := z5
               have HR := (show Hid _ from HD5.out.field rfl hcl (j := 0) (by omega) (.int .i64 z) (fun n => ⟨z, n.name, n.attrs, n.text, n.parent, n.kids⟩) (fun m vv => rfl) (fun m => rfl) (fun m => rfl) hgl H0.out)
               clear k5 g5)
            | fail)
          all_goals
            go_wp2_with fail
            go_meet
            exact ⟨_, _, out_same HDR.out hk fit_kind (fun _ => rfl), HR.out⟩
        · by_cases h3 : y = 3
          · subst h3
            have HR := (show Hid _ from HD4.out.field rfl hcl (j := 3) (by omega) (.string ⟨#[255]⟩) (fun n => ⟨n.kind, n.name, n.attrs, ⟨#[255]⟩, n.parent, n.kids⟩) (fun m vv => rfl) (fun m => rfl) (fun m => rfl) hgl H0.out)
            obtain ⟨⟨yy, c5⟩, z5⟩ := HD4.out.cellIn rfl hcl (j := 3) (by omega)
            go_wp2
            go_meet
            case rel => exact ⟨_, _, out_same HDR.out hk (fit_text (x := ⟨#[255]⟩) (by decide)) (fun _ => rfl), HR.out⟩
          · by_cases h4 : y = 4
            · subst h4
              have HR := (show Hid _ from HD4.out.field rfl hcl (j := 1) (by omega) (.string ⟨#[80]⟩) (fun n => ⟨n.kind, ⟨#[80]⟩, n.attrs, n.text, n.parent, n.kids⟩) (fun m vv => rfl) (fun m => rfl) (fun m => rfl) hgl H0.out)
              obtain ⟨⟨yy, c5⟩, z5⟩ := HD4.out.cellIn rfl hcl (j := 1) (by omega)
              go_wp2
              go_meet
              case rel => exact ⟨_, _, out_same HDR.out hk (fit_name (x := ⟨#[80]⟩) (by decide)) (fun _ => rfl), HR.out⟩
            · by_cases h5 : y = 5
              · subst h5
                have zT := (six_one HD4.out.bT).2
                have HR := (show Hid (RtW w0 w g cv xs T (.slice none 0 0) [] (w4.setCell ⟨T, 0, none⟩ (.slice none 0 0))) from HD4.out.tree ⟨[], rfl, World.ownsRow_nil _ _ _ _, fun q hq => (by cases hq)⟩ hgl hT)
                go_wp2
                go_meet
                case rel => exact ⟨_, _, out_nil, HR.out⟩
              · go_wp2
                go_meet
                case rel => exact ⟨_, _, out_plain HDR.out hk, HD4.out⟩
  case rest =>
    obtain ⟨nv, ns2, hout, hR⟩ := hcut
    obtain ⟨na, nn, nc, rfl⟩ : ∃ a n c, nv = .slice a n c := by obtain ⟨_, _, h, _⟩ := hR.own; exact own_slice h
    have k0 := (six_one hR.bT).1
    have k1 := (six_one hR.bR).1
    have z1 := (six_one hR.bR).2
    have HR := (show Hid _ from hR)
    have HO := (show Hid _ from hout)
    clear hR hout HD4
    go_wp2
    have gs := setCell_at (k := 0) (u := .slice na nn nc) HR.out.bR
    refine bodyPost_ret (results_cell_row rfl _ _ w.heap.size 26 _ (0, 0) _ rfl gs Tryz.underlying26 rfl rfl) rfl ?_
    obtain ⟨f1, f2, f3⟩ := HR.out.fin hgl (.slice na nn nc)
    exact ⟨_, ns2, rfl, f1, HO.out, f2, f3⟩
end Go.Proofs.YtogdbjafibejdaaGreat

/- The draw of a place in a tree: l6DrawAt. No condition. -/
namespace Go.Proofs.YtogdbjafibejdaaGreat
open Go.RowKit
set_option maxRecDepth 100000
set_option linter.unusedVariables false

set_option maxHeartbeats 1000000 in
set_option maxRecDepth 100000 in
theorem drawAt_any {w0 : World} {g : Nat} {cv : Value} {xs : List Int} {w : World} (hc : Cur w0 g cv xs w) (hb : ∀ x ∈ xs, 0 ≤ x ∧ x ≤ 255) {v : Value} {ns : List PNode} (hn : NodesAt w v ns) (hlen : ns.length ≤ 500) :
    Calls Tryz.prog 46 #[.pointer (some ⟨g, 0, none⟩), .agg #[v]] w fun e w' => ∃ z : Int, e = .returned (.int .i64 z) ∧ -1 ≤ z ∧ z ≤ 500 ∧ Cur w0 g cv xs w' ∧ w.grownBy w' (some g) := by
  have HB := (show Hid (∀ x ∈ xs, 0 ≤ x ∧ x ≤ 255) from hb)
  have hgl := hc.lt
  obtain ⟨a, cap, rfl, _, _, _⟩ := hn.slice
  have HC := (show Hid (Cur w0 g cv xs w) from hc)
  clear hb hc hn
  obtain ⟨W0, hW0⟩ : ∃ q, q = w.alloc (.cells #[.slice a ns.length cap] 26) := ⟨_, rfl⟩
  have b0 : Below w.heap.size w W0 := by rw [hW0]; exact (Below.refl _ _).alloc (Nat.le_refl _) _
  have HB0 := (show Hid _ from b0)
  clear b0
  go_enter Tryz.func46, Tryz.ntmps46
  go_wp2_with fail
  go_at_call 68
  rw [← hW0]
  refine Calls.mono (below_any ((ns.length : Int) + 1) (by omega) (HC.out.below HB0.out) HB.out) ?_
  rintro e w1 ⟨x, rfl, x0, x1, _, k1, g1⟩
  replace x1 := x1 (by omega)
  have HK1 := (show Hid _ from k1)
  have HG1 := (show Hid (w.grownBy w1 (some g)) from grown_trans (below_by g HB0.out) g1)
  clear k1 g1 HB0 hW0
  go_wp2_with fail
  go_at_call 68
  refine Calls.mono (below_any 20 (by decide) HK1.out HB.out) ?_
  rintro e w2 ⟨y, rfl, y0, y1, _, k2, g2⟩
  replace y1 := y1 (by decide)
  have HK2 := (show Hid _ from k2)
  have HG2 := (show Hid (w.grownBy w2 (some g)) from grown_trans HG1.out g2)
  clear k2 g2
  go_wp2
  go_ret
  refine ⟨_, rfl, ?_, ?_, HK2.out, HG2.out⟩
  · omega
  · omega
end Go.Proofs.YtogdbjafibejdaaGreat

/- The draw DrawTreeTidy. No condition. -/
namespace Go.Proofs.YtogdbjafibejdaaGreat
open Go.RowKit
set_option maxRecDepth 100000
set_option linter.unusedVariables false

set_option maxHeartbeats 2000000 in
set_option maxRecDepth 100000 in
theorem drawTreeTidy_any {v : Value} {xs : List Int} {w : World} (h : Sl .u8 w v xs) (hb : ∀ x ∈ xs, 0 ≤ x ∧ x ≤ 255) (hn : xs.length ≤ 1099511627776) :
    Calls Tryz.prog 24 #[v] w fun e w' => ∃ nv ns, e = .returned (.agg #[nv]) ∧ OwnN w.heap.size w' nv ns ∧ OutT ns ∧ Below w.heap.size w w' := by
  have HB := (show Hid (∀ x ∈ xs, 0 ≤ x ∧ x ≤ 255) from hb)
  have HS := (show Hid (Sl .u8 w v xs) from h)
  obtain ⟨a, ca, rfl, _, _, _, ha⟩ := h
  clear hb ha
  obtain ⟨wA, hwA⟩ : ∃ wA, wA = w.alloc (.cells #[.slice none 0 0] 26) := ⟨_, rfl⟩
  have bA : Below w.heap.size w wA := by rw [hwA]; exact (Below.refl _ _).alloc (Nat.le_refl _) _
  have gA : wA.heap[w.heap.size]? = some (.cells #[.slice none 0 0] 26 (0, 0)) := by rw [hwA]; exact World.alloc_heap_new _ _
  have HGA := (show Hid _ from gA)
  have BA := (show Hid (Below w.heap.size w wA) from bA)
  have hsA : w.heap.size < wA.heap.size := blk_lt gA
  clear gA bA
  go_enter Tryz.func24, Tryz.ntmps24
  go_wp2_with fail
  go_at_call 44
  rw [← hwA]
  clear hwA
  refine Calls.mono (new_any (HS.out.below BA.out) HB.out hn) ?_
  rintro e w1 ⟨rfl, k1, b1⟩
  obtain ⟨G, hG⟩ : ∃ G, G = wA.heap.size := ⟨_, rfl⟩
  rw [← hG] at k1
  rw [← hG]
  have HK1 := (show Hid (Cur wA G (.slice a xs.length ca) xs w1) from k1)
  have HB1 := (show Hid (Below wA.heap.size wA w1) from b1)
  have HGG := (show Hid (G = wA.heap.size) from hG)
  clear k1 b1 hG HS
  go_wp2_with fail
  go_at_call 45
  refine Calls.mono (drawTree_any HK1.out HB.out) ?_
  rintro e w2 ⟨nv, ns, rfl, own2, hout, k2, g2⟩
  obtain ⟨na, ncap, rfl, _, _, j1⟩ := own2.nodes.slice
  clear j1
  have HO := (show Hid (OutT ns) from hout)
  have gA2 := (g2.block w.heap.size (by have := HB1.out.size; omega) (fun e => by have := HGG.out; simp only [Option.some.injEq] at e; omega)).trans ((HB1.out.block _ hsA).trans HGA.out)
  have bw2 : Below w.heap.size w w2 := (BA.out.trans (HB1.out.mono BA.out.size)).grown g2 (Nat.le_trans BA.out.size HB1.out.size) (fun r e => by have := HGG.out; simp only [Option.some.injEq] at e; omega)
  obtain ⟨cA2, zA2⟩ := six_one gA2
  have GA2 := (show Hid _ from gA2)
  have BW := (show Hid _ from bw2)
  have HOW := (show Hid (OwnN w1.heap.size w2 (.slice na ns.length ncap) ns) from own2)
  have hlw : w.heap.size ≤ w1.heap.size := Nat.le_trans BA.out.size HB1.out.size
  clear own2 hout k2 g2 gA2 bw2
  go_wp2
  have gs := setCell_at (k := 0) (u := .slice na ns.length ncap) GA2.out
  have gr := grown_setCell w2 w.heap.size 0 (.slice na ns.length ncap)
  refine bodyPost_ret (results_cell_row rfl _ _ w.heap.size 26 _ (0, 0) _ rfl gs Tryz.underlying26 rfl rfl) rfl ?_
  exact ⟨_, ns, rfl, (HOW.out.kept gr (fun k e => by cases e; exact ⟨_, _, _, GA2.out, by decide, by decide, by decide⟩)).base hlw, HO.out, BW.out.setCell (p := ⟨w.heap.size, 0, none⟩) (Nat.le_refl _) _⟩
end Go.Proofs.YtogdbjafibejdaaGreat

/- Trees that are right as the specification has it, in plain words. No condition. -/
namespace Go.Proofs.YtogdbjafibejdaaGreat
open Go.RowKit
set_option maxRecDepth 100000
set_option linter.unusedVariables false

/-- What the specification asks: the document's words, and that the page has no Parent. -/
def STreeOkP (ns : List PNode) : Prop := TreeOkP ns ∧ parOf ns 0 = -1

/-- The Parent is a node's number, or -1; that of node 0 is -1. -/
def SPar (ns : List PNode) (k : Nat) : Prop := -1 ≤ parOf ns k ∧ parOf ns k ≤ ns.length - 1 ∧ (k = 0 → parOf ns k = -1)
theorem tree_par {ns : List PNode} (h : STreeOkP ns) {k : Nat} (hk : k < ns.length) : SPar ns k := by
  obtain ⟨d, hd⟩ := h.1.linked k hk
  refine ⟨?_, ?_, fun e => e ▸ h.2⟩
  all_goals
    cases d with
    | zero => have := hd.2; omega
    | succ d =>
      obtain ⟨p, hp, hm⟩ := hd
      have := fit_kid h.1.fit hm
      rw [show ((k : Int)).toNat = k by simp] at this
      omega
theorem tree_kid {ns : List PNode} (h : STreeOkP ns) {k : Nat} {x : Int} (hx : x ∈ kidsOf ns k) : 1 ≤ x ∧ x ≤ ns.length - 1 := by
  have hk := fit_kid h.1.fit hx
  by_cases e : x = 0
  · have h3 := hk.2.2.2
    rw [e] at h3
    have h4 := h.2
    rw [show (0 : Int).toNat = 0 from rfl] at h3
    omega
  · omega
theorem tree_bad {ns : List PNode} {k : Nat} {pre : List Int} (hk : k < ns.length) (hb : BadPre ns k pre) (hp : pre <+: kidsOf ns k) (hf : ∀ i, i < k → FitPre ns i (kidsOf ns i)) : ¬ STreeOkP ns := fun h => bad_not hk hb hp hf h.1.fit

/-- The array's cells tell what stands; N of them. -/
def StandsN (N : Nat) (ns : List PNode) (k : Nat) (pre : List Int) (arr : Array Value) : Prop := arr.size = N ∧ ∀ j, j < N → ∃ b, arr[j]? = some (.bool b) ∧ (b = true ↔ Stand ns k pre j)
theorem StandsN.snoc {N : Nat} {ns : List PNode} {k : Nat} {pre : List Int} {arr : Array Value} (h : StandsN N ns k pre arr) (j : Nat) (hj : j < N) : StandsN N ns k (pre ++ [(j : Int)]) (arr.setIfInBounds j (.bool true)) := by
  refine ⟨by simpa using h.1, fun i hi => ?_⟩
  by_cases e : j = i
  · subst e
    refine ⟨true, ?_, ?_⟩
    · have := h.1; simp [this, hj]
    · simp [Stand]
  · obtain ⟨b, hb, hs⟩ := h.2 i hi
    refine ⟨b, by rw [Array.getElem?_setIfInBounds]; simp [e, hb], hs.trans ?_⟩
    have : ¬ ((i : Int) = (j : Int)) := by omega
    simp [Stand, this]
theorem StandsN.next {N : Nat} {ns : List PNode} {k : Nat} {arr : Array Value} (h : StandsN N ns k (kidsOf ns k) arr) : StandsN N ns (k + 1) [] arr := by
  refine ⟨h.1, fun i hi => ?_⟩
  obtain ⟨b, hb, hs⟩ := h.2 i hi
  refine ⟨b, hb, hs.trans ?_⟩
  simp only [Stand, List.not_mem_nil, false_or]
  constructor
  · rintro (hm | ⟨j, hj, hm⟩)
    · exact ⟨k, by omega, hm⟩
    · exact ⟨j, by omega, hm⟩
  · rintro ⟨j, hj, hm⟩
    by_cases e : j = k
    · subst e; exact .inl hm
    · exact .inr ⟨j, by omega, hm⟩
theorem standsN_zero (N : Nat) (ns : List PNode) (arr : Array Value) (h : arr = Array.replicate N (.bool false)) : StandsN N ns 0 [] arr := by
  subst h
  refine ⟨by simp, fun j hj => ⟨false, by simp [hj], ?_⟩⟩
  simp [Stand]

/-- k steps up. -/
def up (ns : List PNode) : Nat → Nat → Int
  | 0, i => i
  | k + 1, i => parOf ns (up ns k i).toNat
theorem up_shift {ns : List PNode} {i p : Nat} (h : parOf ns i = p) : ∀ m, up ns (m + 1) i = up ns m p
  | 0 => by simp [up, h]
  | m + 1 => by
    show parOf ns (up ns (m + 1) i).toNat = parOf ns (up ns m p).toNat
    rw [up_shift h m]
theorem dep_up {ns : List PNode} (hf : KidsFit ns) : ∀ (d i : Nat), dep ns d i → up ns (d + 1) i = -1
  | 0, i, h => by simpa [up] using h.2
  | d + 1, i, ⟨p, hp, hk⟩ => by
    have := (fit_kid hf hk).2.2.2
    rw [show ((i : Int)).toNat = i by simp] at this
    rw [up_shift this, dep_up hf d p hp]
/-- In a right tree a way up ends in time. -/
theorem tree_up {ns : List PNode} (h : STreeOkP ns) {i : Nat} (hi : i < ns.length) : ∃ d, d ≤ ns.length ∧ up ns d i < 0 := by
  obtain ⟨d, hd⟩ := h.1.linked i hi
  have := dep_lt h.1.fit hd
  exact ⟨d + 1, by omega, by rw [dep_up h.1.fit d i hd]; omega⟩
theorem tree_seen {ns : List PNode} (h : STreeOkP ns) {i : Nat} (hi : i < ns.length) : Stand ns ns.length [] i ↔ 0 ≤ parOf ns i := by
  obtain ⟨d, hd⟩ := h.1.linked i hi
  constructor
  · rintro (hm | ⟨p, hp, hm⟩)
    · cases hm
    · have := (fit_kid h.1.fit hm).2.2.2
      rw [show ((i : Int)).toNat = i by simp] at this
      omega
  · intro h0
    cases d with
    | zero => have := hd.2; omega
    | succ d =>
      obtain ⟨p, hp, hm⟩ := hd
      exact .inr ⟨p, (fit_kid h.1.fit hm).1, hm⟩
/-- What the loops look for makes a right tree. -/
theorem tree_of {ns : List PNode} (h1 : 1 ≤ ns.length) (h5 : ns.length ≤ 500) (hg : ∀ k (h : k < ns.length), goodB ns[k] k = true) (hp : ∀ k, k < ns.length → SPar ns k) (hf : KidsFit ns)
    (hs : ∀ i, i < ns.length → (Stand ns ns.length [] i ↔ 0 ≤ parOf ns i)) (hu : ∀ i, i < ns.length → ∃ d, up ns d i < 0) : STreeOkP ns := by
  refine ⟨⟨h1, h5, hg, hf, ?_⟩, (hp 0 (by omega)).2.2 rfl⟩
  have key : ∀ d i, i < ns.length → up ns d i < 0 → ∃ e, dep ns e i := by
    intro d
    induction d with
    | zero => intro i _ h; simp [up] at h; omega
    | succ d ih =>
      intro i hi h
      by_cases h0 : 0 ≤ parOf ns i
      · obtain ⟨p, hpp⟩ : ∃ p : Nat, parOf ns i = p := ⟨(parOf ns i).toNat, by omega⟩
        rcases (hs i hi).mpr h0 with hm | ⟨q, hq, hm⟩
        · cases hm
        · have := (fit_kid hf hm).2.2.2
          rw [show ((i : Int)).toNat = i by simp] at this
          have : p = q := by omega
          subst this
          rw [up_shift hpp] at h
          obtain ⟨e, he⟩ := ih p hq h
          exact ⟨e + 1, p, he, hm⟩
      · exact ⟨0, hi, by have := (hp i hi).1; omega⟩
  exact fun i hi => by obtain ⟨d, hd⟩ := hu i hi; exact key d i hi hd
end Go.Proofs.YtogdbjafibejdaaGreat

/- A row of open elements, in plain words. No condition. -/
namespace Go.Proofs.YtogdbjafibejdaaGreat
open Go.RowKit
set_option maxRecDepth 100000
set_option linter.unusedVariables false

def nmOf (ns : List PNode) (x : Int) : ByteArray := (ns[x.toNat]?.map PNode.name).getD ⟨#[]⟩
def kdOf (ns : List PNode) (x : Int) : Int := (ns[x.toNat]?.map PNode.kind).getD 0
theorem nmOf_at {ns : List PNode} {k : Nat} (h : k < ns.length) : nmOf ns (k : Int) = ns[k].name := by simp [nmOf, h]
theorem kdOf_at {ns : List PNode} {k : Nat} (h : k < ns.length) : kdOf ns (k : Int) = ns[k].kind := by simp [kdOf, h]
/-- The number x is that of an element. -/
def elB (ns : List PNode) (x : Int) : Bool := inB x 0 ((ns.length : Int) - 1) && decide (kdOf ns x = 3)
theorem inB_at {ns : List PNode} {x : Int} (h : inB x 0 ((ns.length : Int) - 1) = true) : ∃ k : Nat, x = (k : Int) ∧ k < ns.length := by
  have h' : 0 ≤ x ∧ x ≤ (ns.length : Int) - 1 := by simpa [inB] using h
  exact ⟨x.toNat, by omega, by omega⟩
theorem elB_at {ns : List PNode} {x : Int} (h : elB ns x = true) : ∃ k : Nat, x = (k : Int) ∧ k < ns.length := by
  rw [elB, Bool.and_eq_true] at h
  exact inB_at h.1
structure RowP (ns : List PNode) (row : List Int) : Prop where
  len : row.length ≤ 40
  el : ∀ i (h : i < row.length), elB ns row[i] = true
  once : ∀ i k (h : i < row.length) (hk : k < i), row[k] ≠ row[i]
/-- One more than the place of the last one that fits among the first n; 0 where there is none. -/
def lastAt (p : Int → Bool) (xs : List Int) : Nat → Nat
  | 0 => 0
  | n + 1 => if p (xs.getD n 0) then n + 1 else lastAt p xs n
theorem lastAt_le (p : Int → Bool) (xs : List Int) (n : Nat) : lastAt p xs n ≤ n := by
  induction n with
  | zero => exact Nat.le_refl _
  | succ n ih => unfold lastAt; split <;> omega
theorem lastAt_no {p : Int → Bool} {xs : List Int} {n : Nat} (h : p (xs.getD n 0) = false) : lastAt p xs (n + 1) = lastAt p xs n := by rw [lastAt, h]; rfl
theorem lastAt_yes {p : Int → Bool} {xs : List Int} {n : Nat} (h : p (xs.getD n 0) = true) : lastAt p xs (n + 1) = n + 1 := by rw [lastAt, h]; rfl
theorem lastAt_above {p : Int → Bool} {xs : List Int} {n : Nat} : ∀ i, lastAt p xs n ≤ i → i < n → p (xs.getD i 0) = false := by
  induction n with
  | zero => intro i _ h; omega
  | succ n ih =>
    intro i h1 h2
    cases hp : p (xs.getD n 0) with
    | true => rw [lastAt_yes hp] at h1; omega
    | false =>
      rw [lastAt_no hp] at h1
      by_cases e : i = n
      · subst e; exact hp
      · exact ih i h1 (by omega)
end Go.Proofs.YtogdbjafibejdaaGreat

/- The specification's l6Node. No condition. -/
namespace Go.Proofs.YtogdbjafibejdaaGreat
open Go.RowKit
set_option maxRecDepth 100000
set_option linter.unusedVariables false

set_option maxHeartbeats 1000000 in
theorem snode_page {w : World} (nm tx : ByteArray) (p : Int) {a ka : Option Addr} {na ca nk kc : Nat} :
    Calls Tryz.prog 58 #[.agg #[.int .i64 1, .string nm, .slice a na ca, .string tx, .int .i64 p, .slice ka nk kc]] w fun e w' => e = .returned (.bool (empB nm && decide (na = 0) && empB tx)) ∧ Below w.heap.size w w' := by
  unfold empB
  by_cases hnm : nm.toList = [] <;> by_cases htx : tx.toList = [] <;> by_cases hna : na = 0
  all_goals (go_enter Tryz.func58, Tryz.ntmps58; go_wp2)
  all_goals (go_ret; exact ⟨ret_bool (by simp [*]), (Below.refl _ _).alloc (Nat.le_refl _) _⟩)

set_option maxHeartbeats 1000000 in
theorem snode_other {w : World} (nm tx : ByteArray) (p : Int) {a ka : Option Addr} {na ca nk kc : Nat} (k : Int) (h1 : k ≠ 1) (h2 : k ≠ 2) (h3 : k ≠ 3) (h4 : k ≠ 4) (h5 : k ≠ 5) :
    Calls Tryz.prog 58 #[.agg #[.int .i64 (k), .string nm, .slice a na ca, .string tx, .int .i64 p, .slice ka nk kc]] w fun e w' => e = .returned (.bool (false)) ∧ Below w.heap.size w w' := by
  by_cases hnm : nm.toList = [] <;> by_cases htx : tx.toList = []
  all_goals (go_enter Tryz.func58, Tryz.ntmps58; go_wp2)
  all_goals (go_ret; exact ⟨ret_bool (by simp), (Below.refl _ _).alloc (Nat.le_refl _) _⟩)

set_option maxHeartbeats 1000000 in
theorem snode_doc {w : World} (nm tx : ByteArray) (p : Int) {a ka : Option Addr} {na ca nk kc : Nat} (hnm : nm.size ≤ 1048576) (htx : tx.size ≤ 1048576) :
    Calls Tryz.prog 58 #[.agg #[.int .i64 2, .string nm, .slice a na ca, .string tx, .int .i64 p, .slice ka nk kc]] w fun e w' => e = .returned (.bool ((decide (nm.size ≤ 60) && utfOk (bs nm)) && decide (na = 0) && empB tx && decide (nk = 0))) ∧ Below w.heap.size w w' := by
  have hy0 : (w.alloc (.cells #[.int .i64 2, .string nm, .slice a na ca, .string tx, .int .i64 p, .slice ka nk kc] 36)).heap[w.heap.size]? = some (.cells #[.int .i64 2, .string nm, .slice a na ca, .string tx, .int .i64 p, .slice ka nk kc] 36 (0, 0)) := World.alloc_heap_new _ _
  have HY0 := (show Hid _ from hy0)
  have c1 := fun w => l1Ok_any nm w (by omega)
  obtain ⟨u, eu⟩ : ∃ u, u = utfOk (bs nm) := ⟨_, rfl⟩
  rw [← eu] at c1 ⊢
  have C1 := (show Hid _ from c1)
  clear c1 eu hy0
  unfold empB
  by_cases hn0 : nm.toList = [] <;> by_cases ht0 : tx.toList = [] <;> by_cases hna : na = 0 <;> by_cases h60 : nm.size ≤ 60
  all_goals (go_enter Tryz.func58, Tryz.ntmps58; go_wp2_with fail)
  all_goals first
    | (go_ret; exact ⟨ret_bool (by simp [*]), (Below.refl _ _).alloc (Nat.le_refl _) _⟩)
    | (go_at_call 71
       refine (C1.out _).mono ?_
       rintro e w3 ⟨rfl, b3⟩
       have hy := (b3.block w.heap.size (by simp)).trans (World.alloc_heap_new _ _)
       have y5 : w3.cell? ⟨w.heap.size, 5, none⟩ = some (.slice ka nk kc) := by simp only [World.cell?, hy]; rfl
       replace b3 := ((Below.refl w.heap.size w).alloc (Nat.le_refl _) _).trans (b3.mono (by simp))
       clear hy HY0
       cases u <;> go_wp2
       all_goals (go_ret; exact ⟨ret_bool (by first | (simp [*]; done) | simp [*, natb0]), b3⟩))

set_option maxHeartbeats 1000000 in
theorem snode_text {w : World} (nm tx : ByteArray) (p : Int) {a ka : Option Addr} {na ca nk kc : Nat} (hnm : nm.size ≤ 1048576) (htx : tx.size ≤ 1048576) :
    Calls Tryz.prog 58 #[.agg #[.int .i64 4, .string nm, .slice a na ca, .string tx, .int .i64 p, .slice ka nk kc]] w fun e w' => e = .returned (.bool (!empB tx && utfOk (bs tx) && empB nm && decide (na = 0) && decide (nk = 0))) ∧ Below w.heap.size w w' := by
  have hy0 : (w.alloc (.cells #[.int .i64 4, .string nm, .slice a na ca, .string tx, .int .i64 p, .slice ka nk kc] 36)).heap[w.heap.size]? = some (.cells #[.int .i64 4, .string nm, .slice a na ca, .string tx, .int .i64 p, .slice ka nk kc] 36 (0, 0)) := World.alloc_heap_new _ _
  have HY0 := (show Hid _ from hy0)
  have c1 := fun w => l1Ok_any tx w (by omega)
  obtain ⟨u, eu⟩ : ∃ u, u = utfOk (bs tx) := ⟨_, rfl⟩
  rw [← eu] at c1 ⊢
  have C1 := (show Hid _ from c1)
  clear c1 eu hy0
  unfold empB
  by_cases hn0 : nm.toList = [] <;> by_cases ht0 : tx.toList = [] <;> by_cases hna : na = 0
  all_goals (go_enter Tryz.func58, Tryz.ntmps58; go_wp2_with fail)
  all_goals first
    | (go_ret; exact ⟨ret_bool (by simp [*]), (Below.refl _ _).alloc (Nat.le_refl _) _⟩)
    | (go_at_call 71
       refine (C1.out _).mono ?_
       rintro e w3 ⟨rfl, b3⟩
       have hy := (b3.block w.heap.size (by simp)).trans (World.alloc_heap_new _ _)
       have y5 : w3.cell? ⟨w.heap.size, 5, none⟩ = some (.slice ka nk kc) := by simp only [World.cell?, hy]; rfl
       replace b3 := ((Below.refl w.heap.size w).alloc (Nat.le_refl _) _).trans (b3.mono (by simp))
       clear hy HY0
       cases u <;> go_wp2
       all_goals (go_ret; exact ⟨ret_bool (by first | (simp [*]; done) | simp [*, natb0]), b3⟩))

set_option maxHeartbeats 1000000 in
theorem snode_com {w : World} (nm tx : ByteArray) (p : Int) {a ka : Option Addr} {na ca nk kc : Nat} (hnm : nm.size ≤ 1048576) (htx : tx.size ≤ 1048576) :
    Calls Tryz.prog 58 #[.agg #[.int .i64 5, .string nm, .slice a na ca, .string tx, .int .i64 p, .slice ka nk kc]] w fun e w' => e = .returned (.bool (utfOk (bs tx) && empB nm && decide (na = 0) && decide (nk = 0))) ∧ Below w.heap.size w w' := by
  have hy0 : (w.alloc (.cells #[.int .i64 5, .string nm, .slice a na ca, .string tx, .int .i64 p, .slice ka nk kc] 36)).heap[w.heap.size]? = some (.cells #[.int .i64 5, .string nm, .slice a na ca, .string tx, .int .i64 p, .slice ka nk kc] 36 (0, 0)) := World.alloc_heap_new _ _
  have HY0 := (show Hid _ from hy0)
  have c1 := fun w => l1Ok_any tx w (by omega)
  obtain ⟨u, eu⟩ : ∃ u, u = utfOk (bs tx) := ⟨_, rfl⟩
  rw [← eu] at c1 ⊢
  have C1 := (show Hid _ from c1)
  clear c1 eu hy0
  unfold empB
  by_cases hn0 : nm.toList = [] <;> by_cases ht0 : tx.toList = [] <;> by_cases hna : na = 0
  all_goals (go_enter Tryz.func58, Tryz.ntmps58; go_wp2_with fail)
  all_goals first
    | (go_ret; exact ⟨ret_bool (by simp [*]), (Below.refl _ _).alloc (Nat.le_refl _) _⟩)
    | (go_at_call 71
       refine (C1.out _).mono ?_
       rintro e w3 ⟨rfl, b3⟩
       have hy := (b3.block w.heap.size (by simp)).trans (World.alloc_heap_new _ _)
       have y5 : w3.cell? ⟨w.heap.size, 5, none⟩ = some (.slice ka nk kc) := by simp only [World.cell?, hy]; rfl
       replace b3 := ((Below.refl w.heap.size w).alloc (Nat.le_refl _) _).trans (b3.mono (by simp))
       clear hy HY0
       cases u <;> go_wp2
       all_goals (go_ret; exact ⟨ret_bool (by first | (simp [*]; done) | simp [*, natb0]), b3⟩))

set_option maxHeartbeats 1000000 in
theorem snode_elem {w : World} (nm tx : ByteArray) (p : Int) {a ka : Option Addr} {na ca nk kc : Nat} {rs : List (ByteArray × ByteArray)} (hav : Sv 2 w (.slice a na ca) (pairCells rs)) (hnm : nm.size ≤ 1048576) (htx : tx.size ≤ 1048576) (hrs : rs.length ≤ 1048576) (hrr : ∀ p ∈ rs, p.1.size ≤ 1099511627776 ∧ p.2.size ≤ 1099511627776) :
    Calls Tryz.prog 58 #[.agg #[.int .i64 3, .string nm, .slice a na ca, .string tx, .int .i64 p, .slice ka nk kc]] w fun e w' => e = .returned (.bool (nameOk (bs nm) && attrsOk rs && empB tx)) ∧ Below w.heap.size w w' := by
  have b1 : Below w.heap.size w (w.alloc (.cells #[.int .i64 3, .string nm, .slice a na ca, .string tx, .int .i64 p, .slice ka nk kc] 36)) := (Below.refl _ _).alloc (Nat.le_refl _) _
  have hy0 : (w.alloc (.cells #[.int .i64 3, .string nm, .slice a na ca, .string tx, .int .i64 p, .slice ka nk kc] 36)).heap[w.heap.size]? = some (.cells #[.int .i64 3, .string nm, .slice a na ca, .string tx, .int .i64 p, .slice ka nk kc] 36 (0, 0)) := World.alloc_heap_new _ _
  have HY0 := (show Hid _ from hy0)
  have c1 := fun w => snameOk_any nm w (by omega)
  have c2 : ∀ w', Below w.heap.size w w' → Calls Tryz.prog 108 #[.slice a na ca] w' fun e w'' => e = .returned (.bool (attrsOk rs)) ∧ Below w'.heap.size w' w'' := fun w' hb => sattrsOk_any (hav.below hb) (by omega) hrr
  obtain ⟨u, eu⟩ : ∃ u, u = nameOk (bs nm) := ⟨_, rfl⟩
  obtain ⟨u2, eu2⟩ : ∃ u2, u2 = attrsOk rs := ⟨_, rfl⟩
  rw [← eu] at c1 ⊢
  rw [← eu2] at c2 ⊢
  have C1 := (show Hid _ from c1)
  have C2 := (show Hid _ from c2)
  clear c1 c2 eu eu2 hy0 hav hrr
  unfold empB
  by_cases hn0 : nm.toList = [] <;> by_cases ht0 : tx.toList = []
  all_goals (go_enter Tryz.func58, Tryz.ntmps58; go_wp2_with fail)
  all_goals first
    | (go_ret; exact ⟨ret_bool (by simp [*]), b1⟩)
    | (go_at_call 107
       refine (C1.out _).mono ?_
       rintro e w3 ⟨rfl, b3⟩
       have hy := (b3.block w.heap.size (by simp)).trans HY0.out
       have y2 : w3.cell? ⟨w.heap.size, 2, none⟩ = some (.slice a na ca) := by simp only [World.cell?, hy]; rfl
       replace b3 := b1.trans (b3.mono b1.size)
       clear hy HY0
       cases u
       · go_wp2
         go_ret
         exact ⟨ret_bool (by simp), b3⟩
       · go_wp2_with fail
         go_at_call 108
         refine (C2.out _ b3).mono ?_
         rintro e w4 ⟨rfl, b4⟩
         replace b4 := b3.trans (b4.mono b3.size)
         go_wp2
         go_ret
         exact ⟨ret_bool (by simp [*]), b4⟩)

/-- l6Node, of every node. -/
theorem snodeOk_any {w : World} (k : Int) (nm tx : ByteArray) (p : Int) {a ka : Option Addr} {na ca nk kc : Nat} {rs : List (ByteArray × ByteArray)} (hav : Sv 2 w (.slice a na ca) (pairCells rs)) (hnm : nm.size ≤ 1048576) (htx : tx.size ≤ 1048576) (hrs : rs.length ≤ 1048576) (hrr : ∀ p ∈ rs, p.1.size ≤ 1099511627776 ∧ p.2.size ≤ 1099511627776) :
    Calls Tryz.prog 58 #[.agg #[.int .i64 k, .string nm, .slice a na ca, .string tx, .int .i64 p, .slice ka nk kc]] w fun e w' => e = .returned (.bool (nodeB k nm rs tx nk)) ∧ Below w.heap.size w w' := by
  obtain ⟨_, _, ev, _⟩ := hav.pair
  have hna : na = rs.length := by cases ev; rfl
  unfold nodeB
  by_cases h1 : k = 1
  · subst h1
    rw [if_pos rfl, ← hna]
    exact snode_page nm tx p
  rw [if_neg h1]
  by_cases h2 : k = 2
  · subst h2
    rw [if_pos rfl, ← hna]
    exact snode_doc nm tx p hnm htx
  rw [if_neg h2]
  by_cases h3 : k = 3
  · subst h3
    rw [if_pos rfl]
    exact snode_elem nm tx p hav hnm htx hrs hrr
  rw [if_neg h3]
  by_cases h4 : k = 4
  · subst h4
    rw [if_pos rfl, ← hna]
    exact snode_text nm tx p hnm htx
  rw [if_neg h4]
  by_cases h5 : k = 5
  · subst h5
    rw [if_pos rfl, ← hna]
    exact snode_com nm tx p hnm htx
  rw [if_neg h5]
  exact snode_other nm tx p k h1 h2 h3 h4 h5
end Go.Proofs.YtogdbjafibejdaaGreat
