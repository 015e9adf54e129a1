import Derived.Test.YtckhmolmnlcabaaB21
import Derived.Deep.CutBlock
/- The draw of a tree: l6DrawTree. No condition. -/
namespace Go.Proofs.Ytckhmolmnlcabaa
open Go.RowKit
set_option maxRecDepth 100000
set_option linter.unusedVariables false

theorem wrap_tree {x : Int} (h0 : -9223372036854775808 ≤ x) (h1 : x ≤ 9223372036854775807) : IntKind.i64.wrap x = x := by
  simp [IntKind.wrap, IntKind.bits, IntKind.signed]; omega

set_option maxHeartbeats 40000000 in
set_option maxRecDepth 100000 in
theorem drawTree_any {w0 : World} {g : Nat} {cv : Value} {xs : List Int} {w : World} (hc : Cur w0 g cv xs w) (hb : ∀ x ∈ xs, 0 ≤ x ∧ x ≤ 255) :
    Calls Try.prog 10 #[.pointer (some ⟨g, 0, none⟩)] w fun e w' => ∃ nv ns, e = .returned (.agg #[nv]) ∧ OwnN w.heap.size w' nv ns ∧ OutT ns ∧ Cur w0 g cv xs w' ∧ w.grownBy w' (some g) := by
  have HB := (show Hid (∀ x ∈ xs, 0 ≤ x ∧ x ≤ 255) from hb)
  have hgl := hc.lt
  have H0 := (show Hid (w0.heap.size ≤ w.heap.size) from hc.2.2.1.size)
  have HC := (show Hid (Cur w0 g cv xs w) from hc)
  clear hb hc
  obtain ⟨W0, hW0⟩ : ∃ q, q = w.alloc (.cells #[.slice none 0 0] 26) := ⟨_, rfl⟩
  have b0 : Below w.heap.size w W0 := by rw [hW0]; exact (Below.refl _ _).alloc (Nat.le_refl _) _
  have hs0 : W0.heap.size = w.heap.size + 1 := by rw [hW0, World.size_alloc]
  have hr0 : W0.heap[w.heap.size]? = some (.cells #[.slice none 0 0] 26 (0, 0)) := by rw [hW0]; exact World.alloc_heap_new _ _
  go_enter Try.func10, Try.ntmps10
  go_wp2_with fail
  go_at_call 21
  rw [← hW0]
  refine Calls.mono (drawRight_any (HC.out.below b0) HB.out) ?_
  rintro e w1 ⟨nv, ns, rfl, own1, ⟨k, hdr, hk⟩, k1, g1⟩
  have hcnt := hdr.cnt
  obtain ⟨q, cap, rfl, hq1, hq2⟩ : ∃ q cap, nv = .slice (some ⟨q, 0, none⟩) ns.length cap ∧ W0.heap.size ≤ q ∧ q < w1.heap.size := by obtain ⟨_, _, h2, _⟩ := own1; exact one_form h2 (by omega)
  obtain ⟨w2, hw2⟩ : ∃ x, x = w1.alloc (.cells #[.slice (some ⟨q, 0, none⟩) ns.length cap] 26) := ⟨_, rfl⟩
  have b12 : Below w1.heap.size w1 w2 := by rw [hw2]; exact (Below.refl _ _).alloc (Nat.le_refl _) _
  have hr1 := (g1.block _ (blk_lt hr0) (fun e => by simp only [Option.some.injEq] at e; omega)).trans hr0
  have HD : Hid (RtW w0 w g cv xs w1.heap.size (.slice (some ⟨q, 0, none⟩) ns.length cap) ns w2) := by
    refine ⟨k1.below b12, (b12.block _ (blk_lt hr1)).trans hr1, by rw [hw2]; exact World.alloc_heap_new _ _, (own1.base (by omega)).below b12, ?_⟩
    exact grown_below (grown_trans (below_by g b0) g1) b12
  have hT : w.heap.size < w1.heap.size := by have := g1.size; omega
  obtain ⟨T, hTT⟩ : ∃ T, T = w1.heap.size := ⟨_, rfl⟩
  rw [← hTT] at HD hT
  have HDR := (show Hid (DrT ns k) from hdr)
  have HCNT := (show Hid (ns.length = k + 1) from hcnt)
  have hqw : w.heap.size < q := by omega
  clear own1 k1 g1 hdr hcnt hr0 hr1 b0 hs0 hq1 hq2 hW0 b12
  go_wp2_with fail
  go_at_call 22
  rw [← hw2, ← hTT]
  refine Calls.mono (below_any (ns.length : Int) (by have := HCNT.out; omega) HD.out.cur HB.out) ?_
  rintro e w3 ⟨x, rfl, x0, x1, _, k3, g3⟩
  replace x1 := x1 (by have := HCNT.out; omega)
  have HD3 := (show Hid (RtW w0 w g cv xs T (.slice (some ⟨q, 0, none⟩) ns.length cap) ns w3) from HD.out.cursor k3 g3 hgl hT)
  obtain ⟨c, rfl⟩ : ∃ c : Nat, x = c := ⟨x.toNat, by omega⟩
  have hcl : c < ns.length := by omega
  clear HD k3 g3 hw2 hTT x0
  go_wp2_with fail
  go_at_call 22
  refine Calls.mono (below_any 25 (by decide) HD3.out.cur HB.out) ?_
  rintro e w4 ⟨y, rfl, y0, y1, _, k4, g4⟩
  have HD4 := (show Hid (RtW w0 w g cv xs T (.slice (some ⟨q, 0, none⟩) ns.length cap) ns w4) from HD3.out.cursor k4 g4 hgl hT)
  clear HD3 k4 g4
  have cT := (six_one HD4.out.bT).1
  go_upto_block 0 with fail
  go_cut [] from 14 (fun wx => EndT w0 w g cv xs T wx)
  case first =>
    by_cases h0 : y = 0
    · subst h0
      have HDd := (show Hid (RtW w0 w g cv xs T (.slice (some ⟨q, 0, none⟩) ns.length cap) ns w4.drew) from HD4.out.below (below_drewN 1))
      have cTd := (six_one HDd.out.bT).1
      go_upto_region 5 with fail
      go_region_with (first
        | (go_at_call 22
           refine Calls.mono (below_any 4 (by decide) HDd.out.cur HB.out) ?_
           rintro e w5 ⟨z, rfl, z0, z1, _, k5, g5⟩
           replace z1 := z1 (by decide)
           have HD5 := (show Hid (RtW w0 w g cv xs T (.slice (some ⟨q, 0, none⟩) ns.length cap) ns w5) from HDd.out.cursor k5 g5 hgl hT)
           have cT5 := (six_one HD5.out.bT).1
           obtain ⟨⟨yy, c5⟩, z5⟩ := HD5.out.cellIn rfl hcl (j := 4) (by omega)
           have HR := (show Hid _ from HD5.out.field rfl hcl (j := 4) (by omega) (.int .i64 (IntKind.i64.wrap (z - 1))) (fun n => ⟨n.kind, n.name, n.attrs, n.text, IntKind.i64.wrap (z - 1), n.kids⟩) (fun m vv => rfl) (fun m => rfl) (fun m => rfl) hgl H0.out)
           clear k5 g5)
        | fail)
      all_goals
        go_wp2_with fail
        go_meet
        exact ⟨_, _, out_par HDR.out hk, HR.out⟩
    · by_cases h1 : y = 1
      · subst h1
        obtain ⟨ii, hii, hzi0, hzi1, hzi2⟩ := info_parts Try.infoIntRow
        obtain ⟨kv, k5, hkv⟩ := HD4.out.kidsIn rfl hcl
        obtain ⟨ka, kn, kc, rfl⟩ := own_slice hkv
        have hkl : ns[c].kids.length ≤ 499 := by have := (HDR.out.mild ns[c] (List.getElem_mem hcl)).kl; omega
        have HKV := (show Hid (Own w.heap.size 3 .i64 w4 (.slice ka kn kc) ns[c].kids) from hkv)
        have HDd := (show Hid (RtW w0 w g cv xs T (.slice (some ⟨q, 0, none⟩) ns.length cap) ns w4.drew) from HD4.out.below (below_drewN 1))
        have hlT : T < w4.heap.size := blk_lt HD4.out.bT
        have hlq : q < w4.heap.size := by obtain ⟨_, cs, fr, h⟩ := HD4.out.rowAt; exact blk_lt h
        have hqg : q ≠ g := by omega
        clear hkv
        have hw8 : IntKind.i64.wrap ((ns.length : Int) + 1) = (ns.length : Int) + 1 := wrap_tree (by omega) (by have := HCNT.out; omega)
        go_upto_region 7 with fail
        go_region_law (first
          | (with_reducible refine step_appK (w := (x1.alloc (Obj.cells #[.int .i64 z] 3))) ?_ (.tmp 34) (.tmp 41) 32 ?_ w.heap.size 3 ii (.int .i64 0) 8 ?_ hii hzi0 hzi1 hzi2 ?_ .i64 (.slice ka kn kc) ns[c].kids ?_ ?_ ⟨x1.heap.size, 0, none⟩ 1 [z] ?_ ?_ ?_ ?_ ?_ ?_
             · rfl
             · rfl
             · exact Try.underlying32
             · rfl
             · simp [Act.eval]
             · exact ownsRow_below HO1.out ((Below.refl _ _).alloc (Nat.le_refl _) _)
             · simp [Act.eval]
             · exact sl_one _ _ x1 _
             · (simp; omega)
             · (unfold maxLen; simp; omega)
             · exact (HDa.out _).gr.size
             intro v2 x2 o2 g2 hkeep
             obtain ⟨va, vn, vc, rfl⟩ := own_slice o2
             obtain ⟨ns', hR', hl', hlike⟩ := (HDa.out _).app (ownsRow_below HO1.out ((Below.refl _ _).alloc (Nat.le_refl _) _)) g2 hkeep hgl H0.out
             have l0 := (six_one hR'.bT).1
             obtain ⟨⟨yy, l5⟩, z5⟩ := hR'.cellIn hl'.symm (hl' ▸ hcl) (j := 5) (by omega)
             have HF := (show Hid (EndT w0 w g cv xs T (x2.setCell ⟨q, c * 6 + 5, none⟩ (.slice va vn vc))) from ⟨_, _, out_kids HDR.out hk hl' hlike (by simp; omega), hR'.kids hl'.symm (hl' ▸ hcl) o2 hgl H0.out⟩)
             clear o2 g2 hkeep hR' hl' hlike)
          | (go_simp
             go_at_call 22
             with_reducible refine Calls.mono (below_any ((ns.length : Int) + 1) (by have := HCNT.out; omega) HDd.out.cur HB.out) ?_
             rintro e x1 ⟨z, rfl, z0, z1, _, k6, g6⟩
             have HD5 := (show Hid (RtW w0 w g cv xs T (.slice (some ⟨q, 0, none⟩) ns.length cap) ns x1) from HDd.out.cursor k6 g6 hgl hT)
             have HO1 := (show Hid (Own w.heap.size 3 .i64 x1 (.slice ka kn kc) ns[c].kids) from row_past (ownsRow_below HKV.out (below_drewN 1)) g6 hgl)
             have HDa := (show Hid (∀ X, RtW w0 w g cv xs T (.slice (some ⟨q, 0, none⟩) ns.length cap) ns (x1.alloc X)) from fun X => HD5.out.below ((Below.refl _ _).alloc (Nat.le_refl _) X))
             have j0 := (six_one HD5.out.bT).1
             have j0a : ∀ X, (x1.alloc X).cell? ⟨T, 0, none⟩ = some (.slice (some ⟨q, 0, none⟩) ns.length cap) := fun X => (six_one (HDa.out X).bT).1
             have hbq : x1.heap[q]? = w4.heap[q]? := g6.block q hlq (fun e => hqg (by simp only [Option.some.injEq] at e; exact e))
             have j5 : x1.cell? ⟨q, c * 6 + 5, none⟩ = some (.slice ka kn kc) := by rw [← k5]; simp only [World.cell?, hbq]
             have j5a : ∀ X, (x1.alloc X).cell? ⟨q, c * 6 + 5, none⟩ = some (.slice ka kn kc) := fun X => (((Below.refl _ x1).alloc (Nat.le_refl _) X).cell (p := ⟨q, c * 6 + 5, none⟩) (lt_of_cell6 j5)).trans j5
             clear k6 g6 hbq))
        all_goals
          go_wp2_with fail
          go_meet
          exact HF.out
      · by_cases h2 : y = 2
        · subst h2
          have HDd := (show Hid (RtW w0 w g cv xs T (.slice (some ⟨q, 0, none⟩) ns.length cap) ns w4.drew) from HD4.out.below (below_drewN 1))
          have cTd := (six_one HDd.out.bT).1
          go_upto_region 9 with fail
          go_region_with (first
            | (go_at_call 22
               refine Calls.mono (below_any 7 (by decide) HDd.out.cur HB.out) ?_
               rintro e w5 ⟨z, rfl, z0, z1, _, k5, g5⟩
               replace z1 := z1 (by decide)
               have HD5 := (show Hid (RtW w0 w g cv xs T (.slice (some ⟨q, 0, none⟩) ns.length cap) ns w5) from HDd.out.cursor k5 g5 hgl hT)
               have cT5 := (six_one HD5.out.bT).1
               obtain ⟨⟨yy, c5⟩, z5⟩ := HD5.out.cellIn rfl hcl (j := 0) (by omega)
               replace c5 : w5.cell? ⟨q, c * 6, none⟩ = some yy := c5
               replace z5 : w5.frozen? ⟨q, c * 6, none⟩ = false := z5
               have HR := (show Hid _ from HD5.out.field rfl hcl (j := 0) (by omega) (.int .i64 z) (fun n => ⟨z, n.name, n.attrs, n.text, n.parent, n.kids⟩) (fun m vv => rfl) (fun m => rfl) (fun m => rfl) hgl H0.out)
               clear k5 g5)
            | fail)
          all_goals
            go_wp2_with fail
            go_meet
            exact ⟨_, _, out_same HDR.out hk fit_kind (fun _ => rfl), HR.out⟩
        · by_cases h3 : y = 3
          · subst h3
            have HR := (show Hid _ from HD4.out.field rfl hcl (j := 3) (by omega) (.string ⟨#[255]⟩) (fun n => ⟨n.kind, n.name, n.attrs, ⟨#[255]⟩, n.parent, n.kids⟩) (fun m vv => rfl) (fun m => rfl) (fun m => rfl) hgl H0.out)
            obtain ⟨⟨yy, c5⟩, z5⟩ := HD4.out.cellIn rfl hcl (j := 3) (by omega)
            go_wp2
            go_meet
            case rel => exact ⟨_, _, out_same HDR.out hk (fit_text (x := ⟨#[255]⟩) (by decide)) (fun _ => rfl), HR.out⟩
          · by_cases h4 : y = 4
            · subst h4
              have HR := (show Hid _ from HD4.out.field rfl hcl (j := 1) (by omega) (.string ⟨#[80]⟩) (fun n => ⟨n.kind, ⟨#[80]⟩, n.attrs, n.text, n.parent, n.kids⟩) (fun m vv => rfl) (fun m => rfl) (fun m => rfl) hgl H0.out)
              obtain ⟨⟨yy, c5⟩, z5⟩ := HD4.out.cellIn rfl hcl (j := 1) (by omega)
              go_wp2
              go_meet
              case rel => exact ⟨_, _, out_same HDR.out hk (fit_name (x := ⟨#[80]⟩) (by decide)) (fun _ => rfl), HR.out⟩
            · by_cases h5 : y = 5
              · subst h5
                have zT := (six_one HD4.out.bT).2
                have HR := (show Hid (RtW w0 w g cv xs T (.slice none 0 0) [] (w4.setCell ⟨T, 0, none⟩ (.slice none 0 0))) from HD4.out.tree ⟨[], rfl, World.ownsRow_nil _ _ _ _, fun q hq => (by cases hq)⟩ hgl hT)
                go_wp2
                go_meet
                case rel => exact ⟨_, _, out_nil, HR.out⟩
              · go_wp2
                go_meet
                case rel => exact ⟨_, _, out_plain HDR.out hk, HD4.out⟩
  case rest =>
    obtain ⟨nv, ns2, hout, hR⟩ := hcut
    obtain ⟨na, nn, nc, rfl⟩ : ∃ a n c, nv = .slice a n c := by obtain ⟨_, _, h, _⟩ := hR.own; exact own_slice h
    have k0 := (six_one hR.bT).1
    have k1 := (six_one hR.bR).1
    have z1 := (six_one hR.bR).2
    have HR := (show Hid _ from hR)
    have HO := (show Hid _ from hout)
    clear hR hout HD4
    go_wp2
    have gs := setCell_at (k := 0) (u := .slice na nn nc) HR.out.bR
    refine bodyPost_ret (results_cell_row rfl _ _ w.heap.size 26 _ (0, 0) _ rfl gs Try.underlying26 rfl rfl) rfl ?_
    obtain ⟨f1, f2, f3⟩ := HR.out.fin hgl (.slice na nn nc)
    exact ⟨_, ns2, rfl, f1, HO.out, f2, f3⟩
end Go.Proofs.Ytckhmolmnlcabaa

/- The draw of a place in a tree: l6DrawAt. No condition. -/
namespace Go.Proofs.Ytckhmolmnlcabaa
open Go.RowKit
set_option maxRecDepth 100000
set_option linter.unusedVariables false

set_option maxHeartbeats 1000000 in
set_option maxRecDepth 100000 in
theorem drawAt_any {w0 : World} {g : Nat} {cv : Value} {xs : List Int} {w : World} (hc : Cur w0 g cv xs w) (hb : ∀ x ∈ xs, 0 ≤ x ∧ x ≤ 255) {v : Value} {ns : List PNode} (hn : NodesAt w v ns) (hlen : ns.length ≤ 500) :
    Calls Try.prog 11 #[.pointer (some ⟨g, 0, none⟩), .agg #[v]] w fun e w' => ∃ z : Int, e = .returned (.int .i64 z) ∧ -1 ≤ z ∧ z ≤ 500 ∧ Cur w0 g cv xs w' ∧ w.grownBy w' (some g) := by
  have HB := (show Hid (∀ x ∈ xs, 0 ≤ x ∧ x ≤ 255) from hb)
  have hgl := hc.lt
  obtain ⟨a, cap, rfl, _, _, _⟩ := hn.slice
  have HC := (show Hid (Cur w0 g cv xs w) from hc)
  clear hb hc hn
  obtain ⟨W0, hW0⟩ : ∃ q, q = w.alloc (.cells #[.slice a ns.length cap] 26) := ⟨_, rfl⟩
  have b0 : Below w.heap.size w W0 := by rw [hW0]; exact (Below.refl _ _).alloc (Nat.le_refl _) _
  have HB0 := (show Hid _ from b0)
  clear b0
  go_enter Try.func11, Try.ntmps11
  go_wp2_with fail
  go_at_call 22
  rw [← hW0]
  refine Calls.mono (below_any ((ns.length : Int) + 1) (by omega) (HC.out.below HB0.out) HB.out) ?_
  rintro e w1 ⟨x, rfl, x0, x1, _, k1, g1⟩
  replace x1 := x1 (by omega)
  have HK1 := (show Hid _ from k1)
  have HG1 := (show Hid (w.grownBy w1 (some g)) from grown_trans (below_by g HB0.out) g1)
  clear k1 g1 HB0 hW0
  go_wp2_with fail
  go_at_call 22
  refine Calls.mono (below_any 20 (by decide) HK1.out HB.out) ?_
  rintro e w2 ⟨y, rfl, y0, y1, _, k2, g2⟩
  replace y1 := y1 (by decide)
  have HK2 := (show Hid _ from k2)
  have HG2 := (show Hid (w.grownBy w2 (some g)) from grown_trans HG1.out g2)
  clear k2 g2
  go_wp2
  go_ret
  refine ⟨_, rfl, ?_, ?_, HK2.out, HG2.out⟩
  · omega
  · omega
end Go.Proofs.Ytckhmolmnlcabaa

/- The draw DrawTextOf. No condition. -/
namespace Go.Proofs.Ytckhmolmnlcabaa
open Go.RowKit
set_option maxRecDepth 100000
set_option linter.unusedVariables false

theorem text_res {f : Func} {p q : Tmp} (hf : f.results = #[.cell p 26, .tmp q]) {tmps : Array Value} {w : World} {g : Nat} {a : Option Addr} {n c : Nat} {z : Int} (h4 : tmps.getD p undef = .pointer (some ⟨g, 0, none⟩)) (h5 : tmps.getD q undef = .int .i64 z) (hb : w.heap[g]? = some (.cells #[.slice a n c] 26 (0, 0))) :
    (results f tmps).run Try.prog w = .ok (.tuple #[.agg #[.slice a n c], .int .i64 z]) w := by
  rw [results_cell_tmp (p := p) (u := q) (ty := 26) hf, h4, h5]
  simp [asAddr, run_loadVar_row w g 26 26 #[.slice a n c] (0, 0) _ hb Try.underlying26 rfl rfl, Result.andThen]

set_option maxHeartbeats 2000000 in
set_option maxRecDepth 100000 in
theorem drawTextOf_any {v : Value} {xs : List Int} {w : World} (h : Sl .u8 w v xs) (hb : ∀ x ∈ xs, 0 ≤ x ∧ x ≤ 255) (hn : xs.length ≤ 1099511627776) :
    Calls Try.prog 5 #[v] w fun e w' => ∃ nv ns z, e = .returned (.tuple #[.agg #[nv], .int .i64 z]) ∧ OwnN w.heap.size w' nv ns ∧ OutT ns ∧ -1 ≤ z ∧ z ≤ 500 ∧ Below w.heap.size w w' := by
  have HB := (show Hid (∀ x ∈ xs, 0 ≤ x ∧ x ≤ 255) from hb)
  have HS := (show Hid (Sl .u8 w v xs) from h)
  obtain ⟨a, ca, rfl, _, _, _, ha⟩ := h
  clear hb ha
  obtain ⟨wA, hwA⟩ : ∃ wA, wA = w.alloc (.cells #[.slice none 0 0] 26) := ⟨_, rfl⟩
  have bA : Below w.heap.size w wA := by rw [hwA]; exact (Below.refl _ _).alloc (Nat.le_refl _) _
  have gA : wA.heap[w.heap.size]? = some (.cells #[.slice none 0 0] 26 (0, 0)) := by rw [hwA]; exact World.alloc_heap_new _ _
  have HGA := (show Hid _ from gA)
  have BA := (show Hid (Below w.heap.size w wA) from bA)
  have hsA : w.heap.size < wA.heap.size := blk_lt gA
  clear gA bA
  go_enter Try.func5, Try.ntmps5
  go_wp2_with fail
  go_at_call 9
  rw [← hwA]
  clear hwA
  refine Calls.mono (new_any (HS.out.below BA.out) HB.out hn) ?_
  rintro e w1 ⟨rfl, k1, b1⟩
  obtain ⟨G, hG⟩ : ∃ G, G = wA.heap.size := ⟨_, rfl⟩
  rw [← hG] at k1
  rw [← hG]
  have HK1 := (show Hid (Cur wA G (.slice a xs.length ca) xs w1) from k1)
  have HB1 := (show Hid (Below wA.heap.size wA w1) from b1)
  have HGG := (show Hid (G = wA.heap.size) from hG)
  clear k1 b1 hG HS
  go_wp2_with fail
  go_at_call 10
  refine Calls.mono (drawTree_any HK1.out HB.out) ?_
  rintro e w2 ⟨nv, ns, rfl, own2, hout, k2, g2⟩
  obtain ⟨na, ncap, rfl, _, _, j1⟩ := own2.nodes.slice
  clear j1
  have HO := (show Hid (OutT ns) from hout)
  have gA2 := (g2.block w.heap.size (by have := HB1.out.size; omega) (fun e => by have := HGG.out; simp only [Option.some.injEq] at e; omega)).trans ((HB1.out.block _ hsA).trans HGA.out)
  obtain ⟨w3, hw3⟩ : ∃ w3, w3 = w2.alloc (.cells #[.slice na ns.length ncap] 26) := ⟨_, rfl⟩
  have b3 : Below w2.heap.size w2 w3 := by rw [hw3]; exact (Below.refl _ _).alloc (Nat.le_refl _) _
  have g3 : w3.heap[w2.heap.size]? = some (.cells #[.slice na ns.length ncap] 26 (0, 0)) := by rw [hw3]; exact World.alloc_heap_new _ _
  have bw2 : Below w.heap.size w w2 := (BA.out.trans (HB1.out.mono BA.out.size)).grown g2 (Nat.le_trans BA.out.size HB1.out.size) (fun r e => by have := HGG.out; simp only [Option.some.injEq] at e; omega)
  have HW3 := (show Hid (Below w.heap.size w w3) from bw2.trans (b3.mono bw2.size))
  have HOW := (show Hid (OwnN w1.heap.size w3 (.slice na ns.length ncap) ns) from own2.below b3)
  have HK3 := (show Hid (Cur wA G (.slice a xs.length ca) xs w3) from k2.below b3)
  have gA3 := (b3.block _ (blk_lt gA2)).trans gA2
  have HGA3 := (show Hid _ from gA3)
  have HG3 := (show Hid _ from g3)
  have hs12 : w1.heap.size ≤ w2.heap.size := g2.size
  obtain ⟨T, hT⟩ : ∃ T, T = w2.heap.size := ⟨_, rfl⟩
  have hGT : G < T := by have h1 := HK1.out.lt; omega
  have hAG : w.heap.size < G := by have := HGG.out; omega
  have hG1 : G < w1.heap.size := HK1.out.lt
  rw [← hT] at HG3
  have cT := (six_one HG3.out).1
  clear own2 hout k2 g2 gA2 b3 g3 bw2 gA3 HB1 HGA
  have HDd := (show Hid (Cur wA G (.slice a xs.length ca) xs w3.drew) from HK3.out.below (below_drewN 1))
  have HNd := (show Hid (NodesAt w3.drew (.slice na ns.length ncap) ns) from HOW.out.nodes.below (below_drewN 1))
  go_upto_region 3 with fail
  rw [← hw3, ← hT]
  clear hw3 hT
  go_region_with (first
    | (go_at_call 11
       refine Calls.mono (drawAt_any HDd.out HB.out HNd.out HO.out.len) ?_
       rintro e w4 ⟨z, rfl, z0, z1, k4, g4⟩
       have hg4 : w3.grownBy w4 (some G) := grown_trans (below_by G (below_drewN 1)) g4
       have gT4 := (hg4.block T (blk_lt HG3.out) (fun e => by simp only [Option.some.injEq] at e; omega)).trans HG3.out
       have gA4 := (hg4.block w.heap.size (blk_lt HGA3.out) (fun e => by simp only [Option.some.injEq] at e; omega)).trans HGA3.out
       have HGA4 := (show Hid _ from gA4)
       have cT4 := (six_one gT4).1
       have cA4 := (six_one gA4).1
       have zA4 := (six_one gA4).2
       have HO4 := (show Hid (OwnN w1.heap.size w4 (.slice na ns.length ncap) ns) from ownN_low' HOW.out hg4 (fun r e => by cases e; exact hG1))
       have HW4 := (show Hid (Below w.heap.size w w4) from HW3.out.grown hg4 HW3.out.size (fun r e => by simp only [Option.some.injEq] at e; omega))
       clear k4 g4 hg4 gT4 gA4)
    | fail)
  all_goals
    go_wp2
    have gs := setCell_at (k := 0) (u := .slice na ns.length ncap) HGA4.out
    have gr := grown_setCell w4 w.heap.size 0 (.slice na ns.length ncap)
    refine bodyPost_ret (text_res (f := Try.f5) (p := 2) (q := 3) rfl rfl rfl gs) rfl ?_
    exact ⟨_, ns, z, rfl, (HO4.out.kept gr (fun k e => by cases e; exact ⟨_, _, _, HGA4.out, by decide, by decide, by decide⟩)).base (by have := BA.out.size; omega), HO.out, z0, z1, HW4.out.setCell (p := ⟨w.heap.size, 0, none⟩) (Nat.le_refl _) _⟩
end Go.Proofs.Ytckhmolmnlcabaa
