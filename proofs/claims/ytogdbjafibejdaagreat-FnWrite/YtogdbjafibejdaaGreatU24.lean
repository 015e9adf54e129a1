/- The draw of a tree: l6DrawTree. No condition. -/
import Derived.Test.YtogdbjafibejdaaGreatU23
import Derived.Deep.CutBlock
import Derived.Test.YtogdbjafibejdaaGreatU9
import Derived.Test.YtogdbjafibejdaaGreatU21
namespace Go.Proofs.YtogdbjafibejdaaGreat
open Go.RowKit
set_option maxRecDepth 100000
set_option linter.unusedVariables false

theorem wrap_tree {x : Int} (h0 : -9223372036854775808 ≤ x) (h1 : x ≤ 9223372036854775807) : IntKind.i64.wrap x = x := by
  simp [IntKind.wrap, IntKind.bits, IntKind.signed]; omega

set_option maxHeartbeats 40000000 in
set_option maxRecDepth 100000 in
theorem drawTree_any {w0 : World} {g : Nat} {cv : Value} {xs : List Int} {w : World} (hc : Cur w0 g cv xs w) (hb : ∀ x ∈ xs, 0 ≤ x ∧ x ≤ 255) :
    Calls Tryz.prog 45 #[.pointer (some ⟨g, 0, none⟩)] w fun e w' => ∃ nv ns, e = .returned (.agg #[nv]) ∧ OwnN w.heap.size w' nv ns ∧ OutT ns ∧ Cur w0 g cv xs w' ∧ w.grownBy w' (some g) := by
  have HB := (show Hid (∀ x ∈ xs, 0 ≤ x ∧ x ≤ 255) from hb)
  have hgl := hc.lt
  have H0 := (show Hid (w0.heap.size ≤ w.heap.size) from hc.2.2.1.size)
  have HC := (show Hid (Cur w0 g cv xs w) from hc)
  clear hb hc
  obtain ⟨W0, hW0⟩ : ∃ q, q = w.alloc (.cells #[.slice none 0 0] 26) := ⟨_, rfl⟩
  have b0 : Below w.heap.size w W0 := by rw [hW0]; exact (Below.refl _ _).alloc (Nat.le_refl _) _
  have hs0 : W0.heap.size = w.heap.size + 1 := by rw [hW0, World.size_alloc]
  have hr0 : W0.heap[w.heap.size]? = some (.cells #[.slice none 0 0] 26 (0, 0)) := by rw [hW0]; exact World.alloc_heap_new _ _
  go_enter Tryz.func45, Tryz.ntmps45
  go_wp2_with fail
  go_at_call 93
  rw [← hW0]
  refine Calls.mono (drawRight_any (HC.out.below b0) HB.out) ?_
  rintro e w1 ⟨nv, ns, rfl, own1, ⟨k, hdr, hk⟩, k1, g1⟩
  have hcnt := hdr.cnt
  obtain ⟨q, cap, rfl, hq1, hq2⟩ : ∃ q cap, nv = .slice (some ⟨q, 0, none⟩) ns.length cap ∧ W0.heap.size ≤ q ∧ q < w1.heap.size := by obtain ⟨_, _, h2, _⟩ := own1; exact one_form h2 (by omega)
  obtain ⟨w2, hw2⟩ : ∃ x, x = w1.alloc (.cells #[.slice (some ⟨q, 0, none⟩) ns.length cap] 26) := ⟨_, rfl⟩
  have b12 : Below w1.heap.size w1 w2 := by rw [hw2]; exact (Below.refl _ _).alloc (Nat.le_refl _) _
  have hr1 := (g1.block _ (blk_lt hr0) (fun e => by simp only [Option.some.injEq] at e; omega)).trans hr0
  have HD : Hid (RtW w0 w g cv xs w1.heap.size (.slice (some ⟨q, 0, none⟩) ns.length cap) ns w2) := by
    refine ⟨k1.below b12, (b12.block _ (blk_lt hr1)).trans hr1, by rw [hw2]; exact World.alloc_heap_new _ _, (own1.base (by omega)).below b12, ?_⟩
    exact grown_below (grown_trans (below_by g b0) g1) b12
  have hT : w.heap.size < w1.heap.size := by have := g1.size; omega
  obtain ⟨T, hTT⟩ : ∃ T, T = w1.heap.size := ⟨_, rfl⟩
  rw [← hTT] at HD hT
  have HDR := (show Hid (DrT ns k) from hdr)
  have HCNT := (show Hid (ns.length = k + 1) from hcnt)
  have hqw : w.heap.size < q := by omega
  clear own1 k1 g1 hdr hcnt hr0 hr1 b0 hs0 hq1 hq2 hW0 b12
  go_wp2_with fail
  go_at_call 68
  rw [← hw2, ← hTT]
  refine Calls.mono (below_any (ns.length : Int) (by have := HCNT.out; omega) HD.out.cur HB.out) ?_
  rintro e w3 ⟨x, rfl, x0, x1, _, k3, g3⟩
  replace x1 := x1 (by have := HCNT.out; omega)
  have HD3 := (show Hid (RtW w0 w g cv xs T (.slice (some ⟨q, 0, none⟩) ns.length cap) ns w3) from HD.out.cursor k3 g3 hgl hT)
  obtain ⟨c, rfl⟩ : ∃ c : Nat, x = c := ⟨x.toNat, by omega⟩
  have hcl : c < ns.length := by omega
  clear HD k3 g3 hw2 hTT x0
  go_wp2_with fail
  go_at_call 68
  refine Calls.mono (below_any 25 (by decide) HD3.out.cur HB.out) ?_
  rintro e w4 ⟨y, rfl, y0, y1, _, k4, g4⟩
  have HD4 := (show Hid (RtW w0 w g cv xs T (.slice (some ⟨q, 0, none⟩) ns.length cap) ns w4) from HD3.out.cursor k4 g4 hgl hT)
  clear HD3 k4 g4
  have cT := (six_one HD4.out.bT).1
  go_upto_block 0 with fail
  go_cut [] from 14 (fun wx => EndT w0 w g cv xs T wx)
  case first =>
    by_cases h0 : y = 0
    · subst h0
      have HDd := (show Hid (RtW w0 w g cv xs T (.slice (some ⟨q, 0, none⟩) ns.length cap) ns w4.drew) from HD4.out.below (below_drewN 1))
      have cTd := (six_one HDd.out.bT).1
      go_upto_region 5 with fail
      go_region_with (first
        | (go_at_call 68
           refine Calls.mono (below_any 4 (by decide) HDd.out.cur HB.out) ?_
           rintro e w5 ⟨z, rfl, z0, z1, _, k5, g5⟩
           replace z1 := z1 (by decide)
           have HD5 := (show Hid (RtW w0 w g cv xs T (.slice (some ⟨q, 0, none⟩) ns.length cap) ns w5) from HDd.out.cursor k5 g5 hgl hT)
           have cT5 := (six_one HD5.out.bT).1
           obtain ⟨⟨yy, c5⟩, z5⟩ := HD5.out.cellIn rfl hcl (j := 4) (by omega)
           have HR := (show Hid _ from HD5.out.field rfl hcl (j := 4) (by omega) (.int .i64 (IntKind.i64.wrap (z - 1))) (fun n => ⟨n.kind, n.name, n.attrs, n.text, IntKind.i64.wrap (z - 1), n.kids⟩) (fun m vv => rfl) (fun m => rfl) (fun m => rfl) hgl H0.out)
           clear k5 g5)
        | fail)
      all_goals
        go_wp2_with fail
        go_meet
        exact ⟨_, _, out_par HDR.out hk, HR.out⟩
    · by_cases h1 : y = 1
      · subst h1
        obtain ⟨ii, hii, hzi0, hzi1, hzi2⟩ := info_parts Tryz.infoIntRow
        obtain ⟨kv, k5, hkv⟩ := HD4.out.kidsIn rfl hcl
        obtain ⟨ka, kn, kc, rfl⟩ := own_slice hkv
        have hkl : ns[c].kids.length ≤ 499 := by have := (HDR.out.mild ns[c] (List.getElem_mem hcl)).kl; omega
        have HKV := (show Hid (Own w.heap.size 3 .i64 w4 (.slice ka kn kc) ns[c].kids) from hkv)
        have HDd := (show Hid (RtW w0 w g cv xs T (.slice (some ⟨q, 0, none⟩) ns.length cap) ns w4.drew) from HD4.out.below (below_drewN 1))
        have hlT : T < w4.heap.size := blk_lt HD4.out.bT
        have hlq : q < w4.heap.size := by obtain ⟨_, cs, fr, h⟩ := HD4.out.rowAt; exact blk_lt h
        have hqg : q ≠ g := by omega
        clear hkv
        have hw8 : IntKind.i64.wrap ((ns.length : Int) + 1) = (ns.length : Int) + 1 := wrap_tree (by omega) (by have := HCNT.out; omega)
        go_upto_region 7 with fail
        go_region_law (first
          | (with_reducible refine step_appK (w := (x1.alloc (Obj.cells #[.int .i64 z] 3))) ?_ (.tmp 34) (.tmp 41) 34 ?_ w.heap.size 3 ii (.int .i64 0) 8 ?_ hii hzi0 hzi1 hzi2 ?_ .i64 (.slice ka kn kc) ns[c].kids ?_ ?_ ⟨x1.heap.size, 0, none⟩ 1 [z] ?_ ?_ ?_ ?_ ?_ ?_
             · rfl
             · rfl
             · exact Tryz.underlying34
             · rfl
             · simp [Act.eval]
             · exact ownsRow_below HO1.out ((Below.refl _ _).alloc (Nat.le_refl _) _)
             · simp [Act.eval]
             · exact sl_one _ _ x1 _
             · (simp; omega)
             · (unfold maxLen; simp; omega)
             · exact (HDa.out _).gr.size
             intro v2 x2 o2 g2 hkeep
             obtain ⟨va, vn, vc, rfl⟩ := own_slice o2
             obtain ⟨ns', hR', hl', hlike⟩ := (HDa.out _).app (ownsRow_below HO1.out ((Below.refl _ _).alloc (Nat.le_refl _) _)) g2 hkeep hgl H0.out
             have l0 := (six_one hR'.bT).1
             obtain ⟨⟨yy, l5⟩, z5⟩ := hR'.cellIn hl'.symm (hl' ▸ hcl) (j := 5) (by omega)
             have HF := (show Hid (EndT w0 w g cv xs T (x2.setCell ⟨q, c * 6 + 5, none⟩ (.slice va vn vc))) from ⟨_, _, out_kids HDR.out hk hl' hlike (by simp; omega), hR'.kids hl'.symm (hl' ▸ hcl) o2 hgl H0.out⟩)
             clear o2 g2 hkeep hR' hl' hlike)
          | (go_simp
             go_at_call 68
             with_reducible refine Calls.mono (below_any ((ns.length : Int) + 1) (by have := HCNT.out; omega) HDd.out.cur HB.out) ?_
             rintro e x1 ⟨z, rfl, z0, z1, _, k6, g6⟩
             have HD5 := (show Hid (RtW w0 w g cv xs T (.slice (some ⟨q, 0, none⟩) ns.length cap) ns x1) from HDd.out.cursor k6 g6 hgl hT)
             have HO1 := (show Hid (Own w.heap.size 3 .i64 x1 (.slice ka kn kc) ns[c].kids) from row_past (ownsRow_below HKV.out (below_drewN 1)) g6 hgl)
             have HDa := (show Hid (∀ X, RtW w0 w g cv xs T (.slice (some ⟨q, 0, none⟩) ns.length cap) ns (x1.alloc X)) from fun X => HD5.out.below ((Below.refl _ _).alloc (Nat.le_refl _) X))
             have j0 := (six_one HD5.out.bT).1
             have j0a : ∀ X, (x1.alloc X).cell? ⟨T, 0, none⟩ = some (.slice (some ⟨q, 0, none⟩) ns.length cap) := fun X => (six_one (HDa.out X).bT).1
             have hbq : x1.heap[q]? = w4.heap[q]? := g6.block q hlq (fun e => hqg (by simp only [Option.some.injEq] at e; exact e))
             have j5 : x1.cell? ⟨q, c * 6 + 5, none⟩ = some (.slice ka kn kc) := by rw [← k5]; simp only [World.cell?, hbq]
             have j5a : ∀ X, (x1.alloc X).cell? ⟨q, c * 6 + 5, none⟩ = some (.slice ka kn kc) := fun X => (((Below.refl _ x1).alloc (Nat.le_refl _) X).cell (p := ⟨q, c * 6 + 5, none⟩) (lt_of_cell6 j5)).trans j5
             clear k6 g6 hbq))
        all_goals
          go_wp2_with fail
          go_meet
          exact HF.out
      · by_cases h2 : y = 2
        · subst h2
          have HDd := (show Hid (RtW w0 w g cv xs T (.slice (some ⟨q, 0, none⟩) ns.length cap) ns w4.drew) from HD4.out.below (below_drewN 1))
          have cTd := (six_one HDd.out.bT).1
          go_upto_region 9 with fail
          go_region_with (first
            | (go_at_call 68
               refine Calls.mono (below_any 7 (by decide) HDd.out.cur HB.out) ?_
               rintro e w5 ⟨z, rfl, z0, z1, _, k5, g5⟩
               replace z1 := z1 (by decide)
               have HD5 := (show Hid (RtW w0 w g cv xs T (.slice (some ⟨q, 0, none⟩) ns.length cap) ns w5) from HDd.out.cursor k5 g5 hgl hT)
               have cT5 := (six_one HD5.out.bT).1
               obtain ⟨⟨yy, c5⟩, z5⟩ := HD5.out.cellIn rfl hcl (j := 0) (by omega)
               replace c5 : w5.cell? ⟨q, c * 6, none⟩ = some yy := c5
               replace z5 : w5.frozen? ⟨q, c * 6, none⟩ = false := z5
               have HR := (show Hid _ from HD5.out.field rfl hcl (j := 0) (by omega) (.int .i64 z) (fun n => ⟨z, n.name, n.attrs, n.text, n.parent, n.kids⟩) (fun m vv => rfl) (fun m => rfl) (fun m => rfl) hgl H0.out)
               clear k5 g5)
            | fail)
          all_goals
            go_wp2_with fail
            go_meet
            exact ⟨_, _, out_same HDR.out hk fit_kind (fun _ => rfl), HR.out⟩
        · by_cases h3 : y = 3
          · subst h3
            have HR := (show Hid _ from HD4.out.field rfl hcl (j := 3) (by omega) (.string ⟨#[255]⟩) (fun n => ⟨n.kind, n.name, n.attrs, ⟨#[255]⟩, n.parent, n.kids⟩) (fun m vv => rfl) (fun m => rfl) (fun m => rfl) hgl H0.out)
            obtain ⟨⟨yy, c5⟩, z5⟩ := HD4.out.cellIn rfl hcl (j := 3) (by omega)
            go_wp2
            go_meet
            case rel => exact ⟨_, _, out_same HDR.out hk (fit_text (x := ⟨#[255]⟩) (by decide)) (fun _ => rfl), HR.out⟩
          · by_cases h4 : y = 4
            · subst h4
              have HR := (show Hid _ from HD4.out.field rfl hcl (j := 1) (by omega) (.string ⟨#[80]⟩) (fun n => ⟨n.kind, ⟨#[80]⟩, n.attrs, n.text, n.parent, n.kids⟩) (fun m vv => rfl) (fun m => rfl) (fun m => rfl) hgl H0.out)
              obtain ⟨⟨yy, c5⟩, z5⟩ := HD4.out.cellIn rfl hcl (j := 1) (by omega)
              go_wp2
              go_meet
              case rel => exact ⟨_, _, out_same HDR.out hk (fit_name (x := ⟨#[80]⟩) (by decide)) (fun _ => rfl), HR.out⟩
            · by_cases h5 : y = 5
              · subst h5
                have zT := (six_one HD4.out.bT).2
                have HR := (show Hid (RtW w0 w g cv xs T (.slice none 0 0) [] (w4.setCell ⟨T, 0, none⟩ (.slice none 0 0))) from HD4.out.tree ⟨[], rfl, World.ownsRow_nil _ _ _ _, fun q hq => (by cases hq)⟩ hgl hT)
                go_wp2
                go_meet
                case rel => exact ⟨_, _, out_nil, HR.out⟩
              · go_wp2
                go_meet
                case rel => exact ⟨_, _, out_plain HDR.out hk, HD4.out⟩
  case rest =>
    obtain ⟨nv, ns2, hout, hR⟩ := hcut
    obtain ⟨na, nn, nc, rfl⟩ : ∃ a n c, nv = .slice a n c := by obtain ⟨_, _, h, _⟩ := hR.own; exact own_slice h
    have k0 := (six_one hR.bT).1
    have k1 := (six_one hR.bR).1
    have z1 := (six_one hR.bR).2
    have HR := (show Hid _ from hR)
    have HO := (show Hid _ from hout)
    clear hR hout HD4
    go_wp2
    have gs := setCell_at (k := 0) (u := .slice na nn nc) HR.out.bR
    refine bodyPost_ret (results_cell_row rfl _ _ w.heap.size 26 _ (0, 0) _ rfl gs Tryz.underlying26 rfl rfl) rfl ?_
    obtain ⟨f1, f2, f3⟩ := HR.out.fin hgl (.slice na nn nc)
    exact ⟨_, ns2, rfl, f1, HO.out, f2, f3⟩
end Go.Proofs.YtogdbjafibejdaaGreat

/- The draw of a place in a tree: l6DrawAt. No condition. -/
namespace Go.Proofs.YtogdbjafibejdaaGreat
open Go.RowKit
set_option maxRecDepth 100000
set_option linter.unusedVariables false

set_option maxHeartbeats 1000000 in
set_option maxRecDepth 100000 in
theorem drawAt_any {w0 : World} {g : Nat} {cv : Value} {xs : List Int} {w : World} (hc : Cur w0 g cv xs w) (hb : ∀ x ∈ xs, 0 ≤ x ∧ x ≤ 255) {v : Value} {ns : List PNode} (hn : NodesAt w v ns) (hlen : ns.length ≤ 500) :
    Calls Tryz.prog 46 #[.pointer (some ⟨g, 0, none⟩), .agg #[v]] w fun e w' => ∃ z : Int, e = .returned (.int .i64 z) ∧ -1 ≤ z ∧ z ≤ 500 ∧ Cur w0 g cv xs w' ∧ w.grownBy w' (some g) := by
  have HB := (show Hid (∀ x ∈ xs, 0 ≤ x ∧ x ≤ 255) from hb)
  have hgl := hc.lt
  obtain ⟨a, cap, rfl, _, _, _⟩ := hn.slice
  have HC := (show Hid (Cur w0 g cv xs w) from hc)
  clear hb hc hn
  obtain ⟨W0, hW0⟩ : ∃ q, q = w.alloc (.cells #[.slice a ns.length cap] 26) := ⟨_, rfl⟩
  have b0 : Below w.heap.size w W0 := by rw [hW0]; exact (Below.refl _ _).alloc (Nat.le_refl _) _
  have HB0 := (show Hid _ from b0)
  clear b0
  go_enter Tryz.func46, Tryz.ntmps46
  go_wp2_with fail
  go_at_call 68
  rw [← hW0]
  refine Calls.mono (below_any ((ns.length : Int) + 1) (by omega) (HC.out.below HB0.out) HB.out) ?_
  rintro e w1 ⟨x, rfl, x0, x1, _, k1, g1⟩
  replace x1 := x1 (by omega)
  have HK1 := (show Hid _ from k1)
  have HG1 := (show Hid (w.grownBy w1 (some g)) from grown_trans (below_by g HB0.out) g1)
  clear k1 g1 HB0 hW0
  go_wp2_with fail
  go_at_call 68
  refine Calls.mono (below_any 20 (by decide) HK1.out HB.out) ?_
  rintro e w2 ⟨y, rfl, y0, y1, _, k2, g2⟩
  replace y1 := y1 (by decide)
  have HK2 := (show Hid _ from k2)
  have HG2 := (show Hid (w.grownBy w2 (some g)) from grown_trans HG1.out g2)
  clear k2 g2
  go_wp2
  go_ret
  refine ⟨_, rfl, ?_, ?_, HK2.out, HG2.out⟩
  · omega
  · omega
end Go.Proofs.YtogdbjafibejdaaGreat

/- The draw DrawTreeHang (written by mk/drawhang.py). No condition. -/
namespace Go.Proofs.YtogdbjafibejdaaGreat
open Go.RowKit
set_option maxRecDepth 100000
set_option linter.unusedVariables false

theorem results_cell_tmp2h {fn : Func} {p u v : Tmp} {ty : TypeId} (h : fn.results = #[.cell p ty, .tmp u, .tmp v]) (tmps : Array Value) (P : Program) (w : World) :
    (results fn tmps).run P w = ((asAddr (tmps.getD p undef)).run P w).andThen fun a w₁ => ((loadVar ty a).run P w₁).andThen fun x w₂ => .ok (.tuple #[x, tmps.getD u undef, tmps.getD v undef]) w₂ := by
  simp only [results, h]
  simp [Sem.run_bind, Result.andThen]
theorem hang_res3 {tmps : Array Value} {w : World} {g : Nat} {a : Option Addr} {n c : Nat} {z y : Int} (h4 : tmps.getD 2 undef = .pointer (some ⟨g, 0, none⟩)) (h5 : tmps.getD 3 undef = .int .i64 z) (h6 : tmps.getD 4 undef = .int .i64 y) (hb : w.heap[g]? = some (.cells #[.slice a n c] 26 (0, 0))) :
    (results Tryz.f11 tmps).run Tryz.prog w = .ok (.tuple #[.agg #[.slice a n c], .int .i64 z, .int .i64 y]) w := by
  rw [results_cell_tmp2h (p := 2) (u := 3) (v := 4) (ty := 26) rfl, h4, h5, h6]
  simp [asAddr, run_loadVar_row w g 26 26 #[.slice a n c] (0, 0) _ hb Tryz.underlying26 rfl rfl, Result.andThen]

set_option maxHeartbeats 2000000 in
set_option maxRecDepth 100000 in
theorem drawTreeHang_any {v : Value} {xs : List Int} {w : World} (h : Sl .u8 w v xs) (hb : ∀ x ∈ xs, 0 ≤ x ∧ x ≤ 255) (hn : xs.length ≤ 1099511627776) :
    Calls Tryz.prog 11 #[v] w fun e w' => ∃ nv ns z y, e = .returned (.tuple #[.agg #[nv], .int .i64 z, .int .i64 y]) ∧ OwnN w.heap.size w' nv ns ∧ OutT ns ∧ (-1 ≤ z ∧ z ≤ 500) ∧ (-1 ≤ y ∧ y ≤ 500) ∧ Below w.heap.size w w' := by
  have HB := (show Hid (∀ x ∈ xs, 0 ≤ x ∧ x ≤ 255) from hb)
  have HS := (show Hid (Sl .u8 w v xs) from h)
  obtain ⟨a, ca, rfl, _, _, _, ha⟩ := h
  clear hb ha
  obtain ⟨wA, hwA⟩ : ∃ wA, wA = w.alloc (.cells #[.slice none 0 0] 26) := ⟨_, rfl⟩
  have bA : Below w.heap.size w wA := by rw [hwA]; exact (Below.refl _ _).alloc (Nat.le_refl _) _
  have gA : wA.heap[w.heap.size]? = some (.cells #[.slice none 0 0] 26 (0, 0)) := by rw [hwA]; exact World.alloc_heap_new _ _
  have HGA := (show Hid _ from gA)
  have BA := (show Hid (Below w.heap.size w wA) from bA)
  have hsA : w.heap.size < wA.heap.size := blk_lt gA
  clear gA bA
  go_enter Tryz.func11, Tryz.ntmps11
  go_wp2_with fail
  go_at_call 44
  rw [← hwA]
  clear hwA
  refine Calls.mono (new_any (HS.out.below BA.out) HB.out hn) ?_
  rintro e w1 ⟨rfl, k1, b1⟩
  obtain ⟨G, hG⟩ : ∃ G, G = wA.heap.size := ⟨_, rfl⟩
  rw [← hG] at k1
  rw [← hG]
  have HK1 := (show Hid (Cur wA G (.slice a xs.length ca) xs w1) from k1)
  have HB1 := (show Hid (Below wA.heap.size wA w1) from b1)
  have HGG := (show Hid (G = wA.heap.size) from hG)
  clear k1 b1 hG HS
  go_wp2_with fail
  go_at_call 45
  refine Calls.mono (drawTree_any HK1.out HB.out) ?_
  rintro e w2 ⟨nv, ns, rfl, own2, hout, k2, g2⟩
  obtain ⟨na, ncap, rfl, _, _, j1⟩ := own2.nodes.slice
  clear j1
  have HO := (show Hid (OutT ns) from hout)
  have gA2 := (g2.block w.heap.size (by have := HB1.out.size; omega) (fun e => by have := HGG.out; simp only [Option.some.injEq] at e; omega)).trans ((HB1.out.block _ hsA).trans HGA.out)
  obtain ⟨w3, hw3⟩ : ∃ w3, w3 = w2.alloc (.cells #[.slice na ns.length ncap] 26) := ⟨_, rfl⟩
  have b3 : Below w2.heap.size w2 w3 := by rw [hw3]; exact (Below.refl _ _).alloc (Nat.le_refl _) _
  have g3 : w3.heap[w2.heap.size]? = some (.cells #[.slice na ns.length ncap] 26 (0, 0)) := by rw [hw3]; exact World.alloc_heap_new _ _
  have bw2 : Below w.heap.size w w2 := (BA.out.trans (HB1.out.mono BA.out.size)).grown g2 (Nat.le_trans BA.out.size HB1.out.size) (fun r e => by have := HGG.out; simp only [Option.some.injEq] at e; omega)
  have HW3 := (show Hid (Below w.heap.size w w3) from bw2.trans (b3.mono bw2.size))
  have HOW := (show Hid (OwnN w1.heap.size w3 (.slice na ns.length ncap) ns) from own2.below b3)
  have HK3 := (show Hid (Cur wA G (.slice a xs.length ca) xs w3) from k2.below b3)
  have gA3 := (b3.block _ (blk_lt gA2)).trans gA2
  have HGA3 := (show Hid _ from gA3)
  have HG3 := (show Hid _ from g3)
  have hs12 : w1.heap.size ≤ w2.heap.size := g2.size
  obtain ⟨T, hT⟩ : ∃ T, T = w2.heap.size := ⟨_, rfl⟩
  have hGT : G < T := by have h1 := HK1.out.lt; omega
  have hAG : w.heap.size < G := by have := HGG.out; omega
  have hG1 : G < w1.heap.size := HK1.out.lt
  rw [← hT] at HG3
  have cT := (six_one HG3.out).1
  clear own2 hout k2 g2 gA2 b3 g3 bw2 gA3 HB1 HGA
  go_wp2_with fail
  go_at_call 46
  rw [← hw3, ← hT]
  clear hw3 hT
  refine Calls.mono (drawAt_any HK3.out HB.out HOW.out.nodes HO.out.len) ?_
  rintro e v3 ⟨y, rfl, y0, y1, k3, g3⟩
  have gT3 := (g3.block T (blk_lt HG3.out) (fun e => by simp only [Option.some.injEq] at e; omega)).trans HG3.out
  have gA3 := (g3.block w.heap.size (blk_lt HGA3.out) (fun e => by simp only [Option.some.injEq] at e; omega)).trans HGA3.out
  have HO3 := (show Hid (OwnN w1.heap.size v3 (.slice na ns.length ncap) ns) from ownN_low' HOW.out g3 (fun r e => by cases e; exact hG1))
  have HV3 := (show Hid (Below w.heap.size w v3) from HW3.out.grown g3 HW3.out.size (fun r e => by simp only [Option.some.injEq] at e; omega))
  have cT3 := (six_one gT3).1
  have GT3 := (show Hid _ from gT3)
  have GA3 := (show Hid _ from gA3)
  have HDd := (show Hid (Cur wA G (.slice a xs.length ca) xs v3.drew) from k3.below (below_drewN 1))
  have HNd := (show Hid (NodesAt v3.drew (.slice na ns.length ncap) ns) from HO3.out.nodes.below (below_drewN 1))
  clear cT HG3 HGA3 HOW HW3 HK3 k3 g3 gT3 gA3
  go_upto_region 4 with fail
  go_region_with (first
    | (go_at_call 46
       refine Calls.mono (drawAt_any HDd.out HB.out HNd.out HO.out.len) ?_
       rintro e w4 ⟨z, rfl, z0, z1, k4, g4⟩
       have hg4 : v3.grownBy w4 (some G) := grown_trans (below_by G (below_drewN 1)) g4
       have gT4 := (hg4.block T (blk_lt GT3.out) (fun e => by simp only [Option.some.injEq] at e; omega)).trans GT3.out
       have gA4 := (hg4.block w.heap.size (blk_lt GA3.out) (fun e => by simp only [Option.some.injEq] at e; omega)).trans GA3.out
       have HGA4 := (show Hid _ from gA4)
       have cT4 := (six_one gT4).1
       have cA4 := (six_one gA4).1
       have zA4 := (six_one gA4).2
       have HO4 := (show Hid (OwnN w1.heap.size w4 (.slice na ns.length ncap) ns) from ownN_low' HO3.out hg4 (fun r e => by cases e; exact hG1))
       have HW4 := (show Hid (Below w.heap.size w w4) from HV3.out.grown hg4 HV3.out.size (fun r e => by simp only [Option.some.injEq] at e; omega))
       clear k4 g4 hg4 gT4 gA4)
    | fail)
  all_goals
    go_wp2
    have gs := setCell_at (k := 0) (u := .slice na ns.length ncap) HGA4.out
    have gr := grown_setCell w4 w.heap.size 0 (.slice na ns.length ncap)
    refine bodyPost_ret (hang_res3 rfl rfl rfl gs) rfl ?_
    exact ⟨_, ns, y, z, rfl, (HO4.out.kept gr (fun k e => by cases e; exact ⟨_, _, _, HGA4.out, by decide, by decide, by decide⟩)).base (by have := BA.out.size; omega), HO.out, ⟨y0, y1⟩, ⟨z0, z1⟩, HW4.out.setCell (p := ⟨w.heap.size, 0, none⟩) (Nat.le_refl _) _⟩
end Go.Proofs.YtogdbjafibejdaaGreat

/- The draw DrawTreeWrite (written by mk/drawwrite.py). No condition. -/
namespace Go.Proofs.YtogdbjafibejdaaGreat
open Go.RowKit
set_option maxRecDepth 100000
set_option linter.unusedVariables false

def writeTexts : List ByteArray := [⟨#[97]⟩, ⟨#[98, 32, 99]⟩, ⟨#[]⟩, ⟨#[255]⟩, ⟨#[195, 169]⟩]
theorem writeTexts_small : ∀ t ∈ writeTexts, t.size ≤ 100 := by decide
theorem write_res3 {tmps : Array Value} {w : World} {g : Nat} {a : Option Addr} {n c : Nat} {z : Int} {s : ByteArray} (h4 : tmps.getD 2 undef = .pointer (some ⟨g, 0, none⟩)) (h5 : tmps.getD 3 undef = .int .i64 z) (h6 : tmps.getD 4 undef = .string s) (hb : w.heap[g]? = some (.cells #[.slice a n c] 26 (0, 0))) :
    (results Tryz.f18 tmps).run Tryz.prog w = .ok (.tuple #[.agg #[.slice a n c], .int .i64 z, .string s]) w := by
  rw [results_cell_tmp2h (p := 2) (u := 3) (v := 4) (ty := 26) rfl, h4, h5, h6]
  simp [asAddr, run_loadVar_row w g 26 26 #[.slice a n c] (0, 0) _ hb Tryz.underlying26 rfl rfl, Result.andThen]

set_option maxHeartbeats 2000000 in
set_option maxRecDepth 100000 in
theorem drawTreeWrite_any {v : Value} {xs : List Int} {w : World} (h : Sl .u8 w v xs) (hb : ∀ x ∈ xs, 0 ≤ x ∧ x ≤ 255) (hn : xs.length ≤ 1099511627776) :
    Calls Tryz.prog 18 #[v] w fun e w' => ∃ nv ns z s, e = .returned (.tuple #[.agg #[nv], .int .i64 z, .string s]) ∧ OwnN w.heap.size w' nv ns ∧ OutT ns ∧ (-1 ≤ z ∧ z ≤ 500) ∧ s.size ≤ 3001 ∧ Below w.heap.size w w' := by
  have HB := (show Hid (∀ x ∈ xs, 0 ≤ x ∧ x ≤ 255) from hb)
  have HS := (show Hid (Sl .u8 w v xs) from h)
  obtain ⟨a, ca, rfl, _, _, _, ha⟩ := h
  clear hb ha
  obtain ⟨wA, hwA⟩ : ∃ wA, wA = w.alloc (.cells #[.slice none 0 0] 26) := ⟨_, rfl⟩
  have bA : Below w.heap.size w wA := by rw [hwA]; exact (Below.refl _ _).alloc (Nat.le_refl _) _
  have gA : wA.heap[w.heap.size]? = some (.cells #[.slice none 0 0] 26 (0, 0)) := by rw [hwA]; exact World.alloc_heap_new _ _
  have HGA := (show Hid _ from gA)
  have BA := (show Hid (Below w.heap.size w wA) from bA)
  have hsA : w.heap.size < wA.heap.size := blk_lt gA
  clear gA bA
  go_enter Tryz.func18, Tryz.ntmps18
  go_wp2_with fail
  go_at_call 44
  rw [← hwA]
  clear hwA
  refine Calls.mono (new_any (HS.out.below BA.out) HB.out hn) ?_
  rintro e w1 ⟨rfl, k1, b1⟩
  obtain ⟨G, hG⟩ : ∃ G, G = wA.heap.size := ⟨_, rfl⟩
  rw [← hG] at k1
  rw [← hG]
  have HK1 := (show Hid (Cur wA G (.slice a xs.length ca) xs w1) from k1)
  have HB1 := (show Hid (Below wA.heap.size wA w1) from b1)
  have HGG := (show Hid (G = wA.heap.size) from hG)
  clear k1 b1 hG HS
  go_wp2_with fail
  go_at_call 45
  refine Calls.mono (drawTree_any HK1.out HB.out) ?_
  rintro e w2 ⟨nv, ns, rfl, own2, hout, k2, g2⟩
  obtain ⟨na, ncap, rfl, _, _, j1⟩ := own2.nodes.slice
  clear j1
  have HO := (show Hid (OutT ns) from hout)
  have gA2 := (g2.block w.heap.size (by have := HB1.out.size; omega) (fun e => by have := HGG.out; simp only [Option.some.injEq] at e; omega)).trans ((HB1.out.block _ hsA).trans HGA.out)
  obtain ⟨w3, hw3⟩ : ∃ w3, w3 = w2.alloc (.cells #[.slice na ns.length ncap] 26) := ⟨_, rfl⟩
  have b3 : Below w2.heap.size w2 w3 := by rw [hw3]; exact (Below.refl _ _).alloc (Nat.le_refl _) _
  have g3 : w3.heap[w2.heap.size]? = some (.cells #[.slice na ns.length ncap] 26 (0, 0)) := by rw [hw3]; exact World.alloc_heap_new _ _
  have bw2 : Below w.heap.size w w2 := (BA.out.trans (HB1.out.mono BA.out.size)).grown g2 (Nat.le_trans BA.out.size HB1.out.size) (fun r e => by have := HGG.out; simp only [Option.some.injEq] at e; omega)
  have HW3 := (show Hid (Below w.heap.size w w3) from bw2.trans (b3.mono bw2.size))
  have HOW3 := (show Hid (OwnN w1.heap.size w3 (.slice na ns.length ncap) ns) from own2.below b3)
  have HK3 := (show Hid (Cur wA G (.slice a xs.length ca) xs w3) from k2.below b3)
  have gA3 := (b3.block _ (blk_lt gA2)).trans gA2
  have HGA3 := (show Hid _ from gA3)
  have HG3 := (show Hid _ from g3)
  have hs12 : w1.heap.size ≤ w2.heap.size := g2.size
  obtain ⟨T, hT⟩ : ∃ T, T = w2.heap.size := ⟨_, rfl⟩
  have hGT : G < T := by have h1 := HK1.out.lt; omega
  have hAG : w.heap.size < G := by have := HGG.out; omega
  have hG1 : G < w1.heap.size := HK1.out.lt
  rw [← hT] at HG3
  have cT := (six_one HG3.out).1
  clear own2 hout k2 g2 gA2 b3 g3 bw2 gA3 HB1 HGA
  have hs3 : w3.heap.size = w2.heap.size + 1 := by rw [hw3, World.size_alloc]
  go_wp2_with fail
  go_at_call 66
  rw [← hw3, ← hs3, ← hT]
  clear hw3 hT
  refine Calls.mono (pickS_any HK3.out HB.out writeTexts (by decide) (by decide) _ rfl 5 rfl) ?_
  rintro e w4 ⟨s0, rfl, hts, k4, g4⟩
  have hs0 := writeTexts_small s0 hts
  clear hts hs3
  clear cT
  have gT4 := (g4.block T (blk_lt HG3.out) (fun e => by simp only [Option.some.injEq] at e; omega)).trans HG3.out
  have gA4 := (g4.block w.heap.size (blk_lt HGA3.out) (fun e => by simp only [Option.some.injEq] at e; omega)).trans HGA3.out
  have HG4 := (show Hid _ from gT4)
  have HGA4 := (show Hid _ from gA4)
  have cT := (six_one gT4).1
  have HOW4 := (show Hid (OwnN w1.heap.size w4 (.slice na ns.length ncap) ns) from ownN_low' HOW3.out g4 (fun r e => by cases e; exact hG1))
  have HW4 := (show Hid (Below w.heap.size w w4) from HW3.out.grown g4 HW3.out.size (fun r e => by simp only [Option.some.injEq] at e; omega))
  have HK4 := (show Hid (Cur wA G (.slice a xs.length ca) xs w4) from k4)
  clear k4 g4 gT4 gA4 HG3 HGA3 HOW3 HW3 HK3
  go_wp2_with fail
  go_at_call 67
  refine Calls.mono (once_any 20 (by decide) HK4.out HB.out) ?_
  rintro e w5 ⟨b, rfl, k5, g5⟩
  clear cT
  have gT5 := (g5.block T (blk_lt HG4.out) (fun e => by simp only [Option.some.injEq] at e; omega)).trans HG4.out
  have gA5 := (g5.block w.heap.size (blk_lt HGA4.out) (fun e => by simp only [Option.some.injEq] at e; omega)).trans HGA4.out
  have HG5 := (show Hid _ from gT5)
  have HGA5 := (show Hid _ from gA5)
  have cT := (six_one gT5).1
  have HOW5 := (show Hid (OwnN w1.heap.size w5 (.slice na ns.length ncap) ns) from ownN_low' HOW4.out g5 (fun r e => by cases e; exact hG1))
  have HW5 := (show Hid (Below w.heap.size w w5) from HW4.out.grown g5 HW4.out.size (fun r e => by simp only [Option.some.injEq] at e; omega))
  have HK5 := (show Hid (Cur wA G (.slice a xs.length ca) xs w5) from k5)
  clear k5 g5 gT5 gA5 HG4 HGA4 HOW4 HW4 HK4
  obtain ⟨ib, hib, hb0, hb1, hb2⟩ := info_parts Tryz.infoB
  cases b
  · have cTF := cT
    clear cT
    have HDd := (show Hid (Cur wA G (.slice a xs.length ca) xs w5.drew) from HK5.out.below (below_drewN 1))
    have HNd := (show Hid (NodesAt w5.drew (.slice na ns.length ncap) ns) from HOW5.out.nodes.below (below_drewN 1))
    go_upto_region 6 with fail
    go_region_with (first
      | (go_at_call 46
         refine Calls.mono (drawAt_any HDd.out HB.out HNd.out HO.out.len) ?_
         rintro e w9 ⟨z, rfl, z0, z1, k9, g9⟩
         have hg9 : w5.grownBy w9 (some G) := grown_trans (below_by G (below_drewN 1)) g9
         have gT9 := (hg9.block T (blk_lt HG5.out) (fun e => by simp only [Option.some.injEq] at e; omega)).trans HG5.out
         have gA9 := (hg9.block w.heap.size (blk_lt HGA5.out) (fun e => by simp only [Option.some.injEq] at e; omega)).trans HGA5.out
         have HGA9 := (show Hid _ from gA9)
         have cT9 := (six_one gT9).1
         have cA9 := (six_one gA9).1
         have zA9 := (six_one gA9).2
         have HO9 := (show Hid (OwnN w1.heap.size w9 (.slice na ns.length ncap) ns) from ownN_low' HOW5.out hg9 (fun r e => by cases e; exact hG1))
         have HW9 := (show Hid (Below w.heap.size w w9) from HW5.out.grown hg9 HW5.out.size (fun r e => by simp only [Option.some.injEq] at e; omega))
         clear k9 g9 hg9 gT9 gA9)
      | fail)
    all_goals
      go_wp2
      have gs := setCell_at (k := 0) (u := .slice na ns.length ncap) HGA9.out
      have gr := grown_setCell w9 w.heap.size 0 (.slice na ns.length ncap)
      refine bodyPost_ret (write_res3 rfl rfl rfl gs) rfl ?_
      exact ⟨_, ns, z, s0, rfl, (HO9.out.kept gr (fun k e => by cases e; exact ⟨_, _, _, HGA9.out, by decide, by decide, by decide⟩)).base (by have := BA.out.size; omega), HO.out, ⟨z0, z1⟩, by omega, HW9.out.setCell (p := ⟨w.heap.size, 0, none⟩) (Nat.le_refl _) _⟩
  · go_wp2_with fail
    go_at_call 68
    refine Calls.mono (below_any 3 (by decide) HK5.out HB.out) ?_
    rintro e w6 ⟨d, rfl, hd0, hd1, _, k6, g6⟩
    replace hd1 := hd1 (by decide)
    clear cT
    have gT6 := (g6.block T (blk_lt HG5.out) (fun e => by simp only [Option.some.injEq] at e; omega)).trans HG5.out
    have gA6 := (g6.block w.heap.size (blk_lt HGA5.out) (fun e => by simp only [Option.some.injEq] at e; omega)).trans HGA5.out
    have HG6 := (show Hid _ from gT6)
    have HGA6 := (show Hid _ from gA6)
    have cT := (six_one gT6).1
    have HOW6 := (show Hid (OwnN w1.heap.size w6 (.slice na ns.length ncap) ns) from ownN_low' HOW5.out g6 (fun r e => by cases e; exact hG1))
    have HW6 := (show Hid (Below w.heap.size w w6) from HW5.out.grown g6 HW5.out.size (fun r e => by simp only [Option.some.injEq] at e; omega))
    have HK6 := (show Hid (Cur wA G (.slice a xs.length ca) xs w6) from k6)
    clear k6 g6 gT6 gA6 HG5 HGA5 HOW5 HW5 HK5
    obtain ⟨N, hN⟩ : ∃ N : Nat, (2999 : Int) + d = N := ⟨(2999 + d).toNat, by omega⟩
    have hNb : N ≤ 3001 := by omega
    obtain ⟨zz, hzz⟩ : ∃ z, z = strOf (List.replicate N 0) := ⟨_, rfl⟩
    have hzs : zz.size ≤ 3001 := by rw [hzz, strOf_size, List.length_replicate]; exact hNb
    go_wp2_with (at_make; refine wpList_mkn _ rfl _ _ 22 rfl 5 ib .u8 Tryz.underlying22 hib hb0 hb1 _ _ N rfl rfl rfl rfl (by rw [hb2]; omega) (by unfold maxLen; omega) ?_; intro w7 om bm; have hcv := conv_sl om.sl; rw [← hzz] at hcv)
    have HG7 := (show Hid _ from (bm.block _ (blk_lt HG6.out)).trans HG6.out)
    have HGA7 := (show Hid _ from (bm.block _ (blk_lt HGA6.out)).trans HGA6.out)
    have HOW7 := (show Hid (OwnN w1.heap.size w7 (.slice na ns.length ncap) ns) from HOW6.out.below bm)
    have HW7 := (show Hid (Below w.heap.size w w7) from HW6.out.trans (bm.mono HW6.out.size))
    have HK7 := (show Hid (Cur wA G (.slice a xs.length ca) xs w7) from HK6.out.below bm)
    have cT := (six_one HG7.out).1
    have HZZ := (show Hid (zz = strOf (List.replicate N 0)) from hzz)
    clear om bm hcv HG6 HGA6 HOW6 HW6 HK6 hzz
    have cTF := cT
    clear cT
    have HDd := (show Hid (Cur wA G (.slice a xs.length ca) xs w7.drew) from HK7.out.below (below_drewN 1))
    have HNd := (show Hid (NodesAt w7.drew (.slice na ns.length ncap) ns) from HOW7.out.nodes.below (below_drewN 1))
    go_upto_region 6 with fail
    go_region_with (first
      | (go_at_call 46
         refine Calls.mono (drawAt_any HDd.out HB.out HNd.out HO.out.len) ?_
         rintro e w9 ⟨z, rfl, z0, z1, k9, g9⟩
         have hg9 : w7.grownBy w9 (some G) := grown_trans (below_by G (below_drewN 1)) g9
         have gT9 := (hg9.block T (blk_lt HG7.out) (fun e => by simp only [Option.some.injEq] at e; omega)).trans HG7.out
         have gA9 := (hg9.block w.heap.size (blk_lt HGA7.out) (fun e => by simp only [Option.some.injEq] at e; omega)).trans HGA7.out
         have HGA9 := (show Hid _ from gA9)
         have cT9 := (six_one gT9).1
         have cA9 := (six_one gA9).1
         have zA9 := (six_one gA9).2
         have HO9 := (show Hid (OwnN w1.heap.size w9 (.slice na ns.length ncap) ns) from ownN_low' HOW7.out hg9 (fun r e => by cases e; exact hG1))
         have HW9 := (show Hid (Below w.heap.size w w9) from HW7.out.grown hg9 HW7.out.size (fun r e => by simp only [Option.some.injEq] at e; omega))
         clear k9 g9 hg9 gT9 gA9)
      | fail)
    all_goals
      go_wp2
      have gs := setCell_at (k := 0) (u := .slice na ns.length ncap) HGA9.out
      have gr := grown_setCell w9 w.heap.size 0 (.slice na ns.length ncap)
      refine bodyPost_ret (write_res3 rfl rfl rfl gs) rfl ?_
      exact ⟨_, ns, z, zz, by rw [HZZ.out], (HO9.out.kept gr (fun k e => by cases e; exact ⟨_, _, _, HGA9.out, by decide, by decide, by decide⟩)).base (by have := BA.out.size; omega), HO.out, ⟨z0, z1⟩, hzs, HW9.out.setCell (p := ⟨w.heap.size, 0, none⟩) (Nat.le_refl _) _⟩
end Go.Proofs.YtogdbjafibejdaaGreat

/- The specification's l6Take of a node that hangs below another one (written by mk/stake.py). No condition. -/
namespace Go.Proofs.YtogdbjafibejdaaGreat
open Go.RowKit
set_option maxRecDepth 100000
set_option linter.unusedVariables false

/-- A node less among the Kids of node p. -/
def lessN (ns : List PNode) (c p : Nat) : List PNode := ns.modify p fun n => ⟨n.kind, n.name, n.attrs, n.text, n.parent, lessL (c : Int) n.kids⟩

theorem take_fin {B N : Nat} {w W2 x2 : World} {ns : List PNode} {g cap c p : Nat} {u : Value} (hp : p < ns.length)
    (h0 : W2.heap[N]? = some (.cells #[.slice (some ⟨g, 0, none⟩) ns.length cap] 26 (0, 0))) (h1 : W2.heap[N + 1]? = some (.cells #[.slice none 0 0] 26 (0, 0))) (hO : OwnN B W2 (.slice (some ⟨g, 0, none⟩) ns.length cap) ns) (hg : w.grownBy W2 (some g)) (hgN : g < N) (hBS : B ≤ W2.heap.size)
    (o2 : Own W2.heap.size 3 .i64 x2 u (lessL (c : Int) ns[p].kids)) (b2 : Below W2.heap.size W2 x2) : HangW B w N g (.slice (some ⟨g, 0, none⟩) ns.length cap) (lessN ns c p) (x2.setCell ⟨g, p * 6 + 5, none⟩ u) := by
  have hne : ∀ r, N ≤ r → r ≠ g := fun r hr e => by omega
  have e0 := (b2.block _ (blk_lt h0)).trans h0
  have e1 := (b2.block _ (blk_lt h1)).trans h1
  refine ⟨(Below.heap_setCell _ _ _ _ (hne N (Nat.le_refl _))).trans e0, (Below.heap_setCell _ _ _ _ (hne (N + 1) (by omega))).trans e1, ?_, ?_⟩
  · have := own_kids (hO.below b2) rfl hp (o2.base hBS)
    have e : (ns.modify p fun n => (⟨n.kind, n.name, n.attrs, n.text, n.parent, lessL (c : Int) ns[p].kids⟩ : PNode)) = lessN ns c p := by
      unfold lessN
      apply List.ext_getElem
      · simp
      · intro i h1 h2
        rw [List.getElem_modify, List.getElem_modify]
        by_cases e : p = i
        · subst e; simp
        · simp [e]
    rw [e] at this
    exact this
  · have hgb : W2.grownBy (x2.setCell ⟨g, p * 6 + 5, none⟩ u) (some g) := grown_trans (below_by g b2) (grown_setCell _ _ _ _)
    exact ⟨hgb.os.trans hg.os, hgb.tape.trans hg.tape, hgb.output.trans hg.output, Nat.le_trans hg.size hgb.size, fun r hr hne' => (hgb.block r (Nat.lt_of_lt_of_le hr hg.size) hne').trans (hg.block r hr hne')⟩

set_option maxHeartbeats 2000000 in
set_option maxRecDepth 100000 in
theorem stake_all {B : Nat} {w : World} {v : Value} {ns : List PNode} (hO : OwnN B w v ns) (hB : B ≤ w.heap.size) (hlen : ns.length ≤ 100000) {c p : Nat} (hc : c < ns.length) (hp : p < ns.length) (hpar : ns[c].parent = (p : Int)) (hkl : ns[p].kids.length ≤ 100000) :
    Calls Tryz.prog 105 #[.agg #[v], .int .i64 c] w fun e w' => e = .returned (.agg #[v]) ∧ OwnN B w' v (parN (lessN ns c p) c (-1)) ∧ w.grownBy w' v.ownBlock := by
  obtain ⟨g, cap, rfl, hgB, hgl⟩ : ∃ g cap, v = (.slice (some ⟨g, 0, none⟩) ns.length cap) ∧ B ≤ g ∧ g < w.heap.size := by obtain ⟨_, _, h2, _⟩ := hO; exact one_form h2 (by omega)
  have HO := (show Hid (OwnN B w (.slice (some ⟨g, 0, none⟩) ns.length cap) ns) from hO)
  clear hO
  obtain ⟨W2, hW2⟩ : ∃ W2, W2 = (w.alloc (.cells #[.slice (some ⟨g, 0, none⟩) ns.length cap] 26)).alloc (.cells #[.slice none 0 0] 26) := ⟨_, rfl⟩
  have b2 : Below w.heap.size w W2 := by rw [hW2]; exact ((Below.refl _ w).alloc (Nat.le_refl _) _).alloc (by simp) _
  have h20 : W2.heap[w.heap.size]? = some (.cells #[.slice (some ⟨g, 0, none⟩) ns.length cap] 26 (0, 0)) := by
    rw [hW2, Below.heap_alloc _ _ _ (by simp)]; exact World.alloc_heap_new _ _
  have h21 : W2.heap[w.heap.size + 1]? = some (.cells #[.slice none 0 0] 26 (0, 0)) := by
    rw [hW2]
    have := World.alloc_heap_new (w.alloc (.cells #[.slice (some ⟨g, 0, none⟩) ns.length cap] 26)) (.cells #[.slice none 0 0] 26)
    rwa [World.size_alloc] at this
  have O2 := HO.out.below b2
  obtain ⟨_, _, e2, _, _, hcs⟩ := O2.nodes.slice
  cases e2
  obtain ⟨_, _, _, _, e4, _, _, _, _, _, d4, _, _, _⟩ := hcs c hc
  cases e4
  rw [hpar, Nat.zero_add] at d4
  obtain ⟨_, _, av, kv, e3, _, _, _, _, _, _, k5, _, hkv⟩ := hcs p hp
  cases e3
  rw [Nat.zero_add] at k5
  have k0 : W2.cell? ⟨w.heap.size, 0, none⟩ = some (.slice (some ⟨g, 0, none⟩) ns.length cap) := by simp only [World.cell?, h20]; rfl
  have HKV := (show Hid (Sl .i64 W2 kv ns[p].kids) from hkv)
  obtain ⟨kv1, kv3, rfl, _, _, _, _⟩ := hkv
  have HO2 := (show Hid (OwnN B W2 (.slice (some ⟨g, 0, none⟩) ns.length cap) ns) from O2)
  obtain ⟨qs2, _, hq2, _⟩ := HO2.out
  have HRW := (show Hid (W2.ownsRow B 36 6 (.slice (some ⟨g, 0, none⟩) ns.length cap) ns.length (nodeCells qs2)) from hq2)
  clear hq2
  have HQ := (show Hid (_ ∧ _ ∧ _) from ⟨h20, h21, b2⟩)
  have CL := (show Hid (∀ w', Below W2.heap.size W2 w' → Calls Tryz.prog 106 #[.slice kv1 ns[p].kids.length kv3, .int .i64 (c : Int)] w' fun e w'' => ∃ v', e = .returned v' ∧ Own w'.heap.size 3 .i64 w'' v' (lessL (c : Int) ns[p].kids) ∧ Below w'.heap.size w' w'') from fun w' hb => sless_any (c : Int) (HKV.out.below hb) (by omega))
  have hcl : (c : Int) < ns.length := by omega
  have hpl : (p : Int) < ns.length := by omega
  have hp0 : (0 : Int) ≤ (p : Int) := by omega
  clear O2 hcs h20 h21 b2
  go_enter Tryz.func105, Tryz.ntmps105
  go_upto_region 1 with fail
  rw [← hW2]
  clear hW2
  go_upto_region 3 with fail
  go_cut [] from 14 (fun wx => HangW B w w.heap.size g (.slice (some ⟨g, 0, none⟩) ns.length cap) (lessN ns c p) wx)
  case first =>
    go_region_law (first
      | (go_simp
         go_at_call 106
         with_reducible refine Calls.mono (CL.out (W2.drew) (show Below W2.heap.size W2 W2.drew from below_drewN 1)) ?_
         rintro e x1 ⟨u1, rfl, o1, b1⟩
         have b1' : Below W2.heap.size W2 x1 := ((show Below W2.heap.size W2 W2.drew from below_drewN 1)).trans (b1.mono ((show Below W2.heap.size W2 W2.drew from below_drewN 1)).size)
         have o1' : Own W2.heap.size 3 .i64 x1 u1 (lessL (c : Int) ns[p].kids) := o1.base ((show Below W2.heap.size W2 W2.drew from below_drewN 1)).size
         obtain ⟨ua, un, uc, rfl⟩ := own_slice o1'
         have j0 : x1.cell? ⟨w.heap.size, 0, none⟩ = some (.slice (some ⟨g, 0, none⟩) ns.length cap) := (b1'.cell (p := ⟨w.heap.size, 0, none⟩) (lt_of_cell6 k0)).trans k0
         have l5 : x1.cell? ⟨g, p * 6 + 5, none⟩ = some (.slice kv1 ns[p].kids.length kv3) := (b1'.cell (p := ⟨g, p * 6 + 5, none⟩) (lt_of_cell6 k5)).trans k5
         have fz : x1.frozen? ⟨g, p * 6 + 5, none⟩ = false := (ownsRow_below HRW.out b1').frozenAt _
         have HF := (show Hid (_ ∧ _) from ⟨o1', b1'⟩)
         clear o1 o1' b1 b1'))
    all_goals
      go_wp2_with fail
      go_meet
      have t1 := HF.out.1
      have t2 := HF.out.2
      have t3 := HQ.out.1
      have t4 := HQ.out.2.1
      have t5 := below_by g HQ.out.2.2
      have t6 := Nat.le_trans hB HQ.out.2.2.size
      with_reducible exact take_fin hp t3 t4 HO2.out t5 hgl t6 t1 t2
  case rest =>
    obtain ⟨hx0, hx1, hxo, hxg⟩ := hcut
    have hc' : c < (lessN ns c p).length := by simpa [lessN] using hc
    have hop := own_parent hxo (by simp [lessN]) hc' (-1)
    have hln : (lessN ns c p).length = ns.length := by simp [lessN]
    obtain ⟨qs3, _, hq3, _⟩ := hxo
    rw [hln] at hq3
    have hcell := hq3.cellAt (c * 6 + 4) (by omega)
    have hfz := hq3.frozenAt (c * 6 + 4)
    obtain ⟨y, hy⟩ : ∃ y, wc.cell? ⟨g, c * 6 + 4, none⟩ = some y := by
      rw [hcell, List.getElem?_eq_getElem (by rw [hq3.1]; omega)]; exact ⟨_, rfl⟩
    have m0 : wc.cell? ⟨w.heap.size, 0, none⟩ = some (.slice (some ⟨g, 0, none⟩) ns.length cap) := by simp only [World.cell?, hx0]; rfl
    have m1 : wc.cell? ⟨w.heap.size + 1, 0, none⟩ = some (.slice none 0 0) := by simp only [World.cell?, hx1]; rfl
    have z1 : wc.frozen? ⟨w.heap.size + 1, 0, none⟩ = false := by simp [World.frozen?, hx1]
    have hgn : g ≠ w.heap.size := by omega
    have hgn1 : g ≠ w.heap.size + 1 := by omega
    obtain ⟨W4, hW4⟩ : ∃ W4, W4 = wc.setCell ⟨g, c * 6 + 4, none⟩ (.int .i64 (-1)) := ⟨_, rfl⟩
    have gr4 : wc.grownBy W4 (some g) := by rw [hW4]; exact grown_setCell _ _ _ _
    have x40 : W4.heap[w.heap.size]? = some (.cells #[.slice (some ⟨g, 0, none⟩) ns.length cap] 26 (0, 0)) := (gr4.block _ (blk_lt hx0) (fun e => by simp only [Option.some.injEq] at e; omega)).trans hx0
    have x41 : W4.heap[w.heap.size + 1]? = some (.cells #[.slice none 0 0] 26 (0, 0)) := (gr4.block _ (blk_lt hx1) (fun e => by simp only [Option.some.injEq] at e; omega)).trans hx1
    have n0 : W4.cell? ⟨w.heap.size, 0, none⟩ = some (.slice (some ⟨g, 0, none⟩) ns.length cap) := by simp only [World.cell?, x40]; rfl
    have n1 : W4.cell? ⟨w.heap.size + 1, 0, none⟩ = some (.slice none 0 0) := by simp only [World.cell?, x41]; rfl
    have q1 : W4.frozen? ⟨w.heap.size + 1, 0, none⟩ = false := by simp [World.frozen?, x41]
    have HX := (show Hid (W4.heap[w.heap.size + 1]? = some (.cells #[.slice none 0 0] 26 (0, 0)) ∧ OwnN B W4 (.slice (some ⟨g, 0, none⟩) ns.length cap) (parN (lessN ns c p) c (-1)) ∧ w.grownBy W4 (some g)) from ⟨x41, by rw [hW4]; exact hop, ⟨gr4.os.trans hxg.os, gr4.tape.trans hxg.tape, gr4.output.trans hxg.output, Nat.le_trans hxg.size gr4.size, fun r hr hne => (gr4.block r (Nat.lt_of_lt_of_le hr hxg.size) hne).trans (hxg.block r hr hne)⟩⟩)
    clear hx0 hx1 hop hq3 hcell hxg gr4 x40 x41
    go_upto_region 5 with fail
    rw [← hW4]
    clear hW4
    go_wp2
    have gs := setCell_at (k := 0) (u := .slice (some ⟨g, 0, none⟩) ns.length cap) HX.out.1
    have gr5 := grown_setCell W4 (w.heap.size + 1) 0 (.slice (some ⟨g, 0, none⟩) ns.length cap)
    refine bodyPost_ret (results_cell_row rfl _ _ (w.heap.size + 1) 26 _ (0, 0) _ rfl gs Tryz.underlying26 rfl rfl) rfl ?_
    refine ⟨rfl, OwnN.kept HX.out.2.1 gr5 (fun r e => by cases e; exact ⟨_, _, _, HX.out.1, by decide, by decide, by decide⟩), ?_⟩
    have hg4 := HX.out.2.2
    exact ⟨gr5.os.trans hg4.os, gr5.tape.trans hg4.tape, gr5.output.trans hg4.output, Nat.le_trans hg4.size gr5.size, fun r hr hne => (gr5.block r (Nat.lt_of_lt_of_le hr hg4.size) (fun e => by simp only [Option.some.injEq] at e; omega)).trans (hg4.block r hr hne)⟩
end Go.Proofs.YtogdbjafibejdaaGreat

/- The specification's l6Hang of any node, from l6Take's contract (written by mk/shang3.py). No condition. -/
namespace Go.Proofs.YtogdbjafibejdaaGreat
open Go.RowKit
set_option maxRecDepth 100000
set_option linter.unusedVariables false

set_option maxHeartbeats 2000000 in
set_option maxRecDepth 100000 in
theorem shang_all {B : Nat} {w : World} {v : Value} {ms ns : List PNode} (hO : OwnN B w v ms) (hmn : ms.length = ns.length) (hB : B ≤ w.heap.size) (hlen : ns.length ≤ 100000) {c p : Nat} (hc : c < ns.length) (hp : p < ns.length) (hkl : ns[p].kids.length ≤ 100000)
    (hT : ∀ W, Below w.heap.size w W → Calls Tryz.prog 105 #[.agg #[v], .int .i64 c] W fun e w' => e = .returned (.agg #[v]) ∧ OwnN B w' v ns ∧ W.grownBy w' v.ownBlock) :
    Calls Tryz.prog 56 #[.agg #[v], .int .i64 c, .int .i64 p] w fun e w' => e = .returned (.agg #[v]) ∧ OwnN B w' v (parN (kidsN ns c p) c p) ∧ w.grownBy w' v.ownBlock := by
  obtain ⟨ii, hii, hzi0, hzi1, hzi2⟩ := info_parts Tryz.infoIntRow
  obtain ⟨g, cap, rfl, hgB, hgl⟩ : ∃ g cap, v = (.slice (some ⟨g, 0, none⟩) ns.length cap) ∧ B ≤ g ∧ g < w.heap.size := by obtain ⟨_, _, h2, _⟩ := hO; rw [hmn] at h2; exact one_form h2 (by omega)
  have HT := (show Hid _ from hT)
  clear hO hT hmn
  obtain ⟨W0, hW0⟩ : ∃ W0, W0 = (w.alloc (.cells #[.slice (some ⟨g, 0, none⟩) ns.length cap] 26)).alloc (.cells #[.slice none 0 0] 26) := ⟨_, rfl⟩
  have b0 : Below w.heap.size w W0 := by rw [hW0]; exact ((Below.refl _ w).alloc (Nat.le_refl _) _).alloc (by simp) _
  have g0 : W0.heap[w.heap.size]? = some (.cells #[.slice (some ⟨g, 0, none⟩) ns.length cap] 26 (0, 0)) := by
    rw [hW0, Below.heap_alloc _ _ _ (by simp)]; exact World.alloc_heap_new _ _
  have g1 : W0.heap[w.heap.size + 1]? = some (.cells #[.slice none 0 0] 26 (0, 0)) := by
    rw [hW0]
    have := World.alloc_heap_new (w.alloc (.cells #[.slice (some ⟨g, 0, none⟩) ns.length cap] 26)) (.cells #[.slice none 0 0] 26)
    rwa [World.size_alloc] at this
  have k00 : W0.cell? ⟨w.heap.size, 0, none⟩ = some (.slice (some ⟨g, 0, none⟩) ns.length cap) := by simp only [World.cell?, g0]; rfl
  have HG0 := (show Hid _ from g0)
  have HG1 := (show Hid _ from g1)
  clear g0 g1
  go_enter Tryz.func56, Tryz.ntmps56
  go_upto_region 1 with fail
  rw [← hW0]
  clear hW0
  go_upto_region 2 with (first
    | (go_at_call 105
       refine Calls.mono (HT.out _ b0) ?_
       rintro e w1 ⟨rfl, o1, b1⟩
       have h10 := (b1.block _ (blk_lt HG0.out) (fun e => by simp only [Value.ownBlock, Option.some.injEq] at e; omega)).trans HG0.out
       have h11 := (b1.block _ (blk_lt HG1.out) (fun e => by simp only [Value.ownBlock, Option.some.injEq] at e; omega)).trans HG1.out
       have m0 : w1.cell? ⟨w.heap.size, 0, none⟩ = some (.slice (some ⟨g, 0, none⟩) ns.length cap) := by simp only [World.cell?, h10]; rfl
       have z0 : w1.frozen? ⟨w.heap.size, 0, none⟩ = false := by simp [World.frozen?, h10]
       have H10 := (show Hid _ from h10)
       have H11 := (show Hid _ from h11)
       have HB01 := (show Hid (w.grownBy w1 (some g)) from grown_trans (below_by g b0) b1)
       have HO := (show Hid (OwnN B w1 (.slice (some ⟨g, 0, none⟩) ns.length cap) ns) from o1)
       clear h10 h11 b1 o1)
    | fail)
  obtain ⟨W2, hW2⟩ : ∃ W2, W2 = w1.setCell ⟨w.heap.size, 0, none⟩ (.slice (some ⟨g, 0, none⟩) ns.length cap) := ⟨_, rfl⟩
  have gr1 : w1.grownBy W2 (some w.heap.size) := by rw [hW2]; exact grown_setCell _ _ _ _
  have b2 : w.grownBy W2 (some g) := by
    have hh := HB01.out
    exact ⟨gr1.os.trans hh.os, gr1.tape.trans hh.tape, gr1.output.trans hh.output, Nat.le_trans hh.size gr1.size, fun r hr hne => (gr1.block r (Nat.lt_of_lt_of_le hr hh.size) (fun e => by simp only [Option.some.injEq] at e; omega)).trans (hh.block r hr hne)⟩
  have O2 := OwnN.kept HO.out gr1 (fun r e => by cases e; exact ⟨_, _, _, H10.out, by decide, by decide, by decide⟩)
  have h20 : W2.heap[w.heap.size]? = some (.cells #[.slice (some ⟨g, 0, none⟩) ns.length cap] 26 (0, 0)) := by rw [hW2]; exact setCell_at H10.out
  have h21 : W2.heap[w.heap.size + 1]? = some (.cells #[.slice none 0 0] 26 (0, 0)) := by rw [hW2, Below.heap_setCell _ _ _ _ (by show w.heap.size + 1 ≠ w.heap.size; omega)]; exact H11.out
  rw [← hW2]
  clear hW2 gr1 H10 H11 m0 z0 HB01 HG0 HG1 b0 k00
  obtain ⟨_, _, e2, _, _, hcs⟩ := O2.nodes.slice
  cases e2
  obtain ⟨_, _, av, kv, e3, _, _, _, _, _, _, k5, _, hkv⟩ := hcs p hp
  cases e3
  rw [Nat.zero_add] at k5
  have k0 : W2.cell? ⟨w.heap.size, 0, none⟩ = some (.slice (some ⟨g, 0, none⟩) ns.length cap) := by simp only [World.cell?, h20]; rfl
  have HKV := (show Hid (Sl .i64 W2 kv ns[p].kids) from hkv)
  obtain ⟨kv1, kv3, rfl, _, _, _, _⟩ := hkv
  have k0a : ∀ X, (W2.alloc X).cell? ⟨w.heap.size, 0, none⟩ = some (.slice (some ⟨g, 0, none⟩) ns.length cap) := fun X => (((Below.refl _ W2).alloc (Nat.le_refl _) X).cell (p := ⟨w.heap.size, 0, none⟩) (lt_of_cell6 k0)).trans k0
  have k5a : ∀ X, (W2.alloc X).cell? ⟨g, p * 6 + 5, none⟩ = some (.slice kv1 ns[p].kids.length kv3) := fun X => (((Below.refl _ W2).alloc (Nat.le_refl _) X).cell (p := ⟨g, p * 6 + 5, none⟩) (lt_of_cell6 k5)).trans k5
  have HO2 := (show Hid (OwnN B W2 (.slice (some ⟨g, 0, none⟩) ns.length cap) ns) from O2)
  obtain ⟨qs2, _, hq2, _⟩ := HO2.out
  have HRW := (show Hid (W2.ownsRow B 36 6 (.slice (some ⟨g, 0, none⟩) ns.length cap) ns.length (nodeCells qs2)) from hq2)
  clear hq2
  have HQ := (show Hid (_ ∧ _ ∧ _) from ⟨h20, h21, b2⟩)
  have hll := lessL_len (c : Int) ns[p].kids
  have CL := (show Hid (∀ w', Below W2.heap.size W2 w' → Calls Tryz.prog 106 #[.slice kv1 ns[p].kids.length kv3, .int .i64 (c : Int)] w' fun e w'' => ∃ v', e = .returned v' ∧ Own w'.heap.size 3 .i64 w'' v' (lessL (c : Int) ns[p].kids) ∧ Below w'.heap.size w' w'') from fun w' hb => sless_any (c : Int) (HKV.out.below hb) (by omega))
  have hcl : (c : Int) < ns.length := by omega
  have hpl : (p : Int) < ns.length := by omega
  clear O2 hcs h20 h21 b2
  go_cut [] from 10 (fun wx => HangW B w w.heap.size g (.slice (some ⟨g, 0, none⟩) ns.length cap) (kidsN ns c p) wx)
  case first =>
    go_region_law (first
      | (with_reducible refine step_appI (w := x1) ?_ (.tmp 20) (.tmp 22) 34 ?_ W2.heap.size 3 ii (.int .i64 0) 8 ?_ hii hzi0 hzi1 hzi2 ?_ .i64 (.slice ua un uc) (lessL (c : Int) ns[p].kids) ?_ ?_ ⟨W2.heap.size, 0, none⟩ 1 [(c : Int)] ?_ ?_ ?_ ?_ ?_ ?_
         · rfl
         · rfl
         · exact Tryz.underlying34
         · rfl
         · simp [Act.eval]
         · exact HO1.out
         · simp [Act.eval]
         · exact sl_at HND.out
         · (simp; omega)
         · (unfold maxLen; simp; omega)
         · exact (HB1.out).size
         intro v2 x2 o2 g2
         obtain ⟨va, vn, vc, rfl⟩ := own_slice o2
         have b2' : Below W2.heap.size W2 x2 := (HB1.out).grown g2 (HB1.out).size (fun r e => (World.ownsRow.lt HO1.out r e).1)
         have l0 : x2.cell? ⟨w.heap.size, 0, none⟩ = some (.slice (some ⟨g, 0, none⟩) ns.length cap) := (b2'.cell (p := ⟨w.heap.size, 0, none⟩) (lt_of_cell6 k0)).trans k0
         have l5 : x2.cell? ⟨g, p * 6 + 5, none⟩ = some (.slice kv1 ns[p].kids.length kv3) := (b2'.cell (p := ⟨g, p * 6 + 5, none⟩) (lt_of_cell6 k5)).trans k5
         have fz : x2.frozen? ⟨g, p * 6 + 5, none⟩ = false := (ownsRow_below HRW.out b2').frozenAt _
         have HF := (show Hid (_ ∧ _) from ⟨o2, b2'⟩)
         clear o2 b2' g2)
      | (with_reducible refine step_appI (w := (x1.alloc (Obj.cells #[.int .i64 (c : Int)] 3))) ?_ (.tmp 20) (.tmp 22) 34 ?_ W2.heap.size 3 ii (.int .i64 0) 8 ?_ hii hzi0 hzi1 hzi2 ?_ .i64 (.slice ua un uc) (lessL (c : Int) ns[p].kids) ?_ ?_ ⟨x1.heap.size, 0, none⟩ 1 [(c : Int)] ?_ ?_ ?_ ?_ ?_ ?_
         · rfl
         · rfl
         · exact Tryz.underlying34
         · rfl
         · simp [Act.eval]
         · exact ownsRow_below HO1.out ((Below.refl _ _).alloc (Nat.le_refl _) _)
         · simp [Act.eval]
         · exact sl_one _ _ x1 _
         · (simp; omega)
         · (unfold maxLen; simp; omega)
         · exact (HB1.out.alloc HB1.out.size _).size
         intro v2 x2 o2 g2
         obtain ⟨va, vn, vc, rfl⟩ := own_slice o2
         have b2' : Below W2.heap.size W2 x2 := (HB1.out.alloc HB1.out.size _).grown g2 (HB1.out.alloc HB1.out.size _).size (fun r e => (World.ownsRow.lt HO1.out r e).1)
         have l0 : x2.cell? ⟨w.heap.size, 0, none⟩ = some (.slice (some ⟨g, 0, none⟩) ns.length cap) := (b2'.cell (p := ⟨w.heap.size, 0, none⟩) (lt_of_cell6 k0)).trans k0
         have l5 : x2.cell? ⟨g, p * 6 + 5, none⟩ = some (.slice kv1 ns[p].kids.length kv3) := (b2'.cell (p := ⟨g, p * 6 + 5, none⟩) (lt_of_cell6 k5)).trans k5
         have fz : x2.frozen? ⟨g, p * 6 + 5, none⟩ = false := (ownsRow_below HRW.out b2').frozenAt _
         have HF := (show Hid (_ ∧ _) from ⟨o2, b2'⟩)
         clear o2 b2' g2)
      | (go_simp
         go_at_call 106
         with_reducible refine Calls.mono (CL.out ((W2.alloc (Obj.cells #[.int .i64 (c : Int)] 3)).drew) (show Below W2.heap.size W2 (W2.alloc (Obj.cells #[.int .i64 (c : Int)] 3)).drew from ((Below.refl _ W2).alloc (Nat.le_refl _) _).trans (below_drewN 1))) ?_
         rintro e x1 ⟨u1, rfl, o1, b1⟩
         have b1' : Below W2.heap.size W2 x1 := ((show Below W2.heap.size W2 (W2.alloc (Obj.cells #[.int .i64 (c : Int)] 3)).drew from ((Below.refl _ W2).alloc (Nat.le_refl _) _).trans (below_drewN 1))).trans (b1.mono ((show Below W2.heap.size W2 (W2.alloc (Obj.cells #[.int .i64 (c : Int)] 3)).drew from ((Below.refl _ W2).alloc (Nat.le_refl _) _).trans (below_drewN 1))).size)
         have o1' : Own W2.heap.size 3 .i64 x1 u1 (lessL (c : Int) ns[p].kids) := o1.base ((show Below W2.heap.size W2 (W2.alloc (Obj.cells #[.int .i64 (c : Int)] 3)).drew from ((Below.refl _ W2).alloc (Nat.le_refl _) _).trans (below_drewN 1))).size
         obtain ⟨ua, un, uc, rfl⟩ := own_slice o1'
         have j0 : x1.cell? ⟨w.heap.size, 0, none⟩ = some (.slice (some ⟨g, 0, none⟩) ns.length cap) := (b1'.cell (p := ⟨w.heap.size, 0, none⟩) (lt_of_cell6 k0)).trans k0
         have j0a : ∀ X, (x1.alloc X).cell? ⟨w.heap.size, 0, none⟩ = some (.slice (some ⟨g, 0, none⟩) ns.length cap) := fun X => ((b1'.alloc b1'.size X).cell (p := ⟨w.heap.size, 0, none⟩) (lt_of_cell6 k0)).trans k0
         have HO1 := (show Hid (Own W2.heap.size 3 .i64 x1 (.slice ua un uc) (lessL (c : Int) ns[p].kids)) from o1')
         have HB1 := (show Hid (Below W2.heap.size W2 x1) from b1')
         have hnd : x1.heap[W2.heap.size]? = some (.cells #[.int .i64 (c : Int)] 3 (0, 0)) := (b1.block _ (by simp [World.drew])).trans (World.alloc_heap_new W2 _)
         have HND := (show Hid _ from hnd)
         clear o1 o1' b1 b1')
      | (go_simp
         go_at_call 106
         with_reducible refine Calls.mono (CL.out (W2.drew) (show Below W2.heap.size W2 W2.drew from below_drewN 1)) ?_
         rintro e x1 ⟨u1, rfl, o1, b1⟩
         have b1' : Below W2.heap.size W2 x1 := ((show Below W2.heap.size W2 W2.drew from below_drewN 1)).trans (b1.mono ((show Below W2.heap.size W2 W2.drew from below_drewN 1)).size)
         have o1' : Own W2.heap.size 3 .i64 x1 u1 (lessL (c : Int) ns[p].kids) := o1.base ((show Below W2.heap.size W2 W2.drew from below_drewN 1)).size
         obtain ⟨ua, un, uc, rfl⟩ := own_slice o1'
         have j0 : x1.cell? ⟨w.heap.size, 0, none⟩ = some (.slice (some ⟨g, 0, none⟩) ns.length cap) := (b1'.cell (p := ⟨w.heap.size, 0, none⟩) (lt_of_cell6 k0)).trans k0
         have j0a : ∀ X, (x1.alloc X).cell? ⟨w.heap.size, 0, none⟩ = some (.slice (some ⟨g, 0, none⟩) ns.length cap) := fun X => ((b1'.alloc b1'.size X).cell (p := ⟨w.heap.size, 0, none⟩) (lt_of_cell6 k0)).trans k0
         have HO1 := (show Hid (Own W2.heap.size 3 .i64 x1 (.slice ua un uc) (lessL (c : Int) ns[p].kids)) from o1')
         have HB1 := (show Hid (Below W2.heap.size W2 x1) from b1')

         clear o1 o1' b1 b1'))
    all_goals
      go_wp2_with fail
      go_meet
      have t1 := HF.out.1
      have t2 := HF.out.2
      have t3 := HQ.out.1
      have t4 := HQ.out.2.1
      have t5 := HQ.out.2.2
      have t6 := Nat.le_trans hB HQ.out.2.2.size
      with_reducible exact hang_fin hp t3 t4 HO2.out t5 hgl t6 t1 t2
  case rest =>
    obtain ⟨hx0, hx1, hxo, hxg⟩ := hcut
    have hc' : c < (kidsN ns c p).length := by simpa [kidsN] using hc
    have hop := own_parent hxo (by simp [kidsN]) hc' (p : Int)
    have hln : (kidsN ns c p).length = ns.length := by simp [kidsN]
    obtain ⟨qs3, _, hq3, _⟩ := hxo
    rw [hln] at hq3
    have hcell := hq3.cellAt (c * 6 + 4) (by omega)
    have hfz := hq3.frozenAt (c * 6 + 4)
    obtain ⟨y, hy⟩ : ∃ y, wc.cell? ⟨g, c * 6 + 4, none⟩ = some y := by
      rw [hcell, List.getElem?_eq_getElem (by rw [hq3.1]; omega)]; exact ⟨_, rfl⟩
    have m0 : wc.cell? ⟨w.heap.size, 0, none⟩ = some (.slice (some ⟨g, 0, none⟩) ns.length cap) := by simp only [World.cell?, hx0]; rfl
    have m1 : wc.cell? ⟨w.heap.size + 1, 0, none⟩ = some (.slice none 0 0) := by simp only [World.cell?, hx1]; rfl
    have z1 : wc.frozen? ⟨w.heap.size + 1, 0, none⟩ = false := by simp [World.frozen?, hx1]
    have hgn : g ≠ w.heap.size := by omega
    have hgn1 : g ≠ w.heap.size + 1 := by omega
    obtain ⟨W4, hW4⟩ : ∃ W4, W4 = wc.setCell ⟨g, c * 6 + 4, none⟩ (.int .i64 (p : Int)) := ⟨_, rfl⟩
    have gr4 : wc.grownBy W4 (some g) := by rw [hW4]; exact grown_setCell _ _ _ _
    have x40 : W4.heap[w.heap.size]? = some (.cells #[.slice (some ⟨g, 0, none⟩) ns.length cap] 26 (0, 0)) := (gr4.block _ (blk_lt hx0) (fun e => by simp only [Option.some.injEq] at e; omega)).trans hx0
    have x41 : W4.heap[w.heap.size + 1]? = some (.cells #[.slice none 0 0] 26 (0, 0)) := (gr4.block _ (blk_lt hx1) (fun e => by simp only [Option.some.injEq] at e; omega)).trans hx1
    have n0 : W4.cell? ⟨w.heap.size, 0, none⟩ = some (.slice (some ⟨g, 0, none⟩) ns.length cap) := by simp only [World.cell?, x40]; rfl
    have n1 : W4.cell? ⟨w.heap.size + 1, 0, none⟩ = some (.slice none 0 0) := by simp only [World.cell?, x41]; rfl
    have q1 : W4.frozen? ⟨w.heap.size + 1, 0, none⟩ = false := by simp [World.frozen?, x41]
    have HX := (show Hid (W4.heap[w.heap.size + 1]? = some (.cells #[.slice none 0 0] 26 (0, 0)) ∧ OwnN B W4 (.slice (some ⟨g, 0, none⟩) ns.length cap) (parN (kidsN ns c p) c p) ∧ w.grownBy W4 (some g)) from ⟨x41, by rw [hW4]; exact hop, ⟨gr4.os.trans hxg.os, gr4.tape.trans hxg.tape, gr4.output.trans hxg.output, Nat.le_trans hxg.size gr4.size, fun r hr hne => (gr4.block r (Nat.lt_of_lt_of_le hr hxg.size) hne).trans (hxg.block r hr hne)⟩⟩)
    clear hx0 hx1 hop hq3 hcell hxg gr4 x40 x41
    go_upto_region 4 with fail
    rw [← hW4]
    clear hW4
    go_wp2
    have gs := setCell_at (k := 0) (u := .slice (some ⟨g, 0, none⟩) ns.length cap) HX.out.1
    have gr5 := grown_setCell W4 (w.heap.size + 1) 0 (.slice (some ⟨g, 0, none⟩) ns.length cap)
    refine bodyPost_ret (results_cell_row rfl _ _ (w.heap.size + 1) 26 _ (0, 0) _ rfl gs Tryz.underlying26 rfl rfl) rfl ?_
    refine ⟨rfl, OwnN.kept HX.out.2.1 gr5 (fun r e => by cases e; exact ⟨_, _, _, HX.out.1, by decide, by decide, by decide⟩), ?_⟩
    have hg4 := HX.out.2.2
    exact ⟨gr5.os.trans hg4.os, gr5.tape.trans hg4.tape, gr5.output.trans hg4.output, Nat.le_trans hg4.size gr5.size, fun r hr hne => (gr5.block r (Nat.lt_of_lt_of_le hr hg4.size) (fun e => by simp only [Option.some.injEq] at e; omega)).trans (hg4.block r hr hne)⟩
end Go.Proofs.YtogdbjafibejdaaGreat
