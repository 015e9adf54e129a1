/- The draw of a tree: l6Opens, l6DrawRight. No condition. -/
import Derived.Test.YtogdbjafibejdaaGreatX32
import Derived.Test.YtogdbjafibejdaaGreatX4
import Derived.Deep.CutRange
namespace Go.Proofs.YtogdbjafibejdaaGreat
open Go.RowKit
set_option maxRecDepth 100000
set_option linter.unusedVariables false

theorem ownN_one' {B : Nat} {w : World} {u : Value} (h : OneTree B w u 1 (-1) ⟨#[]⟩ ⟨#[]⟩) : ∃ v, u = .agg #[v] ∧ OwnN B w v [⟨1, ⟨#[]⟩, [], ⟨#[]⟩, -1, []⟩] := by
  obtain ⟨v, rfl, ho⟩ := h
  exact ⟨v, rfl, [(⟨1, ⟨#[]⟩, [], ⟨#[]⟩, -1, []⟩, (.slice none 0 0, .slice none 0 0))], rfl, ho, fun q hq => by simp at hq; subst hq; exact ⟨World.ownsRow_nil _ _ _ _, World.ownsRow_nil _ _ _ _⟩⟩

set_option maxHeartbeats 800000 in
set_option maxRecDepth 100000 in
theorem sopens_any {w : World} {v : Value} {ns : List PNode} (hn : NodesAt w v ns) (hlen : ns.length ≤ 1048576) {p : Nat} (hp : p < ns.length) :
    Calls Tryz.prog 53 #[.agg #[v], .int .i64 (p : Int)] w fun e w' => ∃ b : Bool, e = .returned (.bool b) ∧ Below w.heap.size w w' := by
  obtain ⟨a, cap, rfl, hc1, hc2, hcs⟩ := hn.slice
  obtain ⟨b, off, av, kv, rfl, hblt, c0, _⟩ := hcs p hp
  obtain ⟨kk, hkk⟩ : ∃ kk, kk = ns[p].kind := ⟨_, rfl⟩
  rw [← hkk] at c0
  clear hcs hn hkk
  by_cases h1 : kk = 1
  · subst h1
    go_enter Tryz.func53, Tryz.ntmps53
    go_wp2
    go_ret
    exact ⟨_, rfl, (Below.refl _ _).alloc (Nat.le_refl _) _⟩
  · by_cases h3 : kk = 3
    · subst h3
      go_enter Tryz.func53, Tryz.ntmps53
      go_wp2
      go_ret
      exact ⟨_, rfl, (Below.refl _ _).alloc (Nat.le_refl _) _⟩
    · go_enter Tryz.func53, Tryz.ntmps53
      go_wp2
      go_ret
      exact ⟨_, rfl, (Below.refl _ _).alloc (Nat.le_refl _) _⟩

def NodeX (w : World) (X : Nat) (nd : PNode) (W : World) : Prop := ∃ (a : Option Addr) (n c : Nat) (p : Int), W.heap[X]? = some (.cells #[.int .i64 nd.kind, .string nd.name, .slice a n c, .string nd.text, .int .i64 p, .slice none 0 0] 36 (0, 0)) ∧ W.ownsRow w.heap.size 115 2 (.slice a n c) nd.attrs.length (pairCells nd.attrs)
theorem NodeX.next {w W W' : World} {X g : Nat} {nd : PNode} (h : NodeX w X nd W) (hg : W.grownBy W' (some g)) (hX : g ≠ X) (hgl : g < w.heap.size) : NodeX w X nd W' := by
  obtain ⟨a, n, c, p, h1, h2⟩ := h
  exact ⟨a, n, c, p, (hg.block _ (blk_lt h1) (fun e => by simp only [Option.some.injEq] at e; omega)).trans h1, row_past h2 hg hgl⟩
def MidX (w0 w : World) (g : Nat) (cv : Value) (xs : List Int) (W1 : World) (X : Nat) (W : World) : Prop := Cur w0 g cv xs W ∧ W1.grownBy W (some g) ∧ ∃ nd : PNode, MildT 0 nd ∧ nd.parent = -1 ∧ nd.kids = [] ∧ NodeX w X nd W

theorem par_last {ns : List PNode} {k : Nat} {n : PNode} (h : ns.length = k + 1) {hl : k + 1 < (ns ++ [n]).length} (hn : n.parent = -1 := by rfl) : (ns ++ [n])[k + 1].parent = -1 := by
  rw [List.getElem_append_right (by omega)]
  simp [h, hn]
theorem OwnN.row {B : Nat} {w : World} {v : Value} {ns : List PNode} (h : OwnN B w v ns) : w.ownsRow B 36 6 v ns.length (nodeCells h.choose) := h.choose_spec.2.1
structure PutW (w0 : World) (g : Nat) (cv : Value) (xs : List Int) (W1 : World) (ns2 : List PNode) (T2 : Nat) (v2 : Value) (W : World) : Prop where
  cur : Cur w0 g cv xs W
  gr : W1.grownBy W (some g)
  bT : W.heap[T2]? = some (.cells #[v2] 26 (0, 0))
  own : OwnN W1.heap.size W v2 ns2
  le : W1.heap.size ≤ T2
theorem six_one {w : World} {b : Nat} {u : Value} {t : TypeId} (h : w.heap[b]? = some (.cells #[u] t (0, 0))) : w.cell? ⟨b, 0, none⟩ = some u ∧ w.frozen? ⟨b, 0, none⟩ = false := ⟨by simp only [World.cell?, h]; rfl, by simp only [World.frozen?, h]; rfl⟩
theorem put_set {w0 : World} {g : Nat} {cv : Value} {xs : List Int} {W1 : World} {ns2 : List PNode} {T2 : Nat} {v0 v2 : Value} {W : World} (hc : Cur w0 g cv xs W) (gr : W1.grownBy W (some g)) (hz : W.heap[T2]? = some (.cells #[v0] 26 (0, 0))) (own : OwnN W1.heap.size W v2 ns2) (hle : W1.heap.size ≤ T2) (hg : g < W1.heap.size) (h0 : w0.heap.size ≤ W1.heap.size) : PutW w0 g cv xs W1 ns2 T2 v2 (W.setCell ⟨T2, 0, none⟩ v2) := by
  have hs := grown_setCell W T2 0 v2
  refine ⟨hc.kept hs (fun e => by simp only [Option.some.injEq] at e; omega) (fun r e => by cases e; omega), ⟨hs.os.trans gr.os, hs.tape.trans gr.tape, hs.output.trans gr.output, Nat.le_trans gr.size hs.size, fun r hr hne => (hs.block r (Nat.lt_of_lt_of_le hr gr.size) (fun e => by simp only [Option.some.injEq] at e; omega)).trans (gr.block r hr hne)⟩, setCell_at hz, own.kept hs (fun r e => by cases e; exact ⟨_, _, _, hz, by decide, by decide, by decide⟩), hle⟩
theorem put_new {w0 : World} {g : Nat} {cv : Value} {xs : List Int} {W1 : World} {ns2 : List PNode} {v2 : Value} {W : World} (hc : Cur w0 g cv xs W) (gr : W1.grownBy W (some g)) (own : OwnN W1.heap.size W v2 ns2) : PutW w0 g cv xs W1 ns2 W.heap.size v2 (W.alloc (.cells #[v2] 26)) := by
  have hb : Below W.heap.size W (W.alloc (.cells #[v2] 26)) := (Below.refl _ _).alloc (Nat.le_refl _) _
  exact ⟨hc.below hb, grown_below gr hb, World.alloc_heap_new _ _, own.below hb, gr.size⟩

theorem PutW.next {w0 : World} {g : Nat} {cv : Value} {xs : List Int} {W1 : World} {ns2 : List PNode} {T2 : Nat} {v2 : Value} {W W' : World} (h : PutW w0 g cv xs W1 ns2 T2 v2 W) (hc : Cur w0 g cv xs W') (hg : W.grownBy W' (some g)) (hgl : g < W1.heap.size) : PutW w0 g cv xs W1 ns2 T2 v2 W' :=
  ⟨hc, grown_trans h.gr hg, (hg.block _ (blk_lt h.bT) (fun e => by have := h.le; simp only [Option.some.injEq] at e; omega)).trans h.bT, ownN_low' h.own hg (fun r e => by cases e; exact hgl), h.le⟩
theorem PutW.below {w0 : World} {g : Nat} {cv : Value} {xs : List Int} {W1 : World} {ns2 : List PNode} {T2 : Nat} {v2 : Value} {W W' : World} (h : PutW w0 g cv xs W1 ns2 T2 v2 W) (hb : Below W.heap.size W W') : PutW w0 g cv xs W1 ns2 T2 v2 W' :=
  ⟨h.cur.below hb, grown_below h.gr hb, (hb.block _ (blk_lt h.bT)).trans h.bT, h.own.below hb, h.le⟩
theorem PutW.hung {w0 : World} {g : Nat} {cv : Value} {xs : List Int} {W1 : World} {ns2 ns3 : List PNode} {T2 q n c : Nat} {W W' : World} (h : PutW w0 g cv xs W1 ns2 T2 (.slice (some ⟨q, 0, none⟩) n c) W) (hg : W.grownBy W' (some q)) (ho : OwnN W1.heap.size W' (.slice (some ⟨q, 0, none⟩) n c) ns3) (hgl : g < W1.heap.size) (h0 : w0.heap.size ≤ W1.heap.size) : PutW w0 g cv xs W1 ns3 T2 (.slice (some ⟨q, 0, none⟩) n c) (W'.setCell ⟨T2, 0, none⟩ (.slice (some ⟨q, 0, none⟩) n c)) := by
  have hq : W1.heap.size ≤ q ∧ ∃ cs fr, W.heap[q]? = some (.cells cs 36 fr) := by
    obtain ⟨qs, _, ⟨_, ⟨e, _⟩ | ⟨g', cap, cur, e, hB, hh, _⟩⟩, _⟩ := h.own
    · cases e
    · cases e; exact ⟨hB, _, _, hh⟩
  obtain ⟨hq1, cs, fr, hq2⟩ := hq
  have bT' := blk_type h.bT hg (fun r e => by cases e; exact ⟨_, _, _, hq2, by decide⟩)
  exact put_set (h.cur.kept hg (fun e => by simp only [Option.some.injEq] at e; omega) (fun r e => by cases e; omega)) ⟨hg.os.trans h.gr.os, hg.tape.trans h.gr.tape, hg.output.trans h.gr.output, Nat.le_trans h.gr.size hg.size, fun r hr hne => (hg.block r (Nat.lt_of_lt_of_le hr h.gr.size) (fun e => by simp only [Option.some.injEq] at e; omega)).trans (h.gr.block r hr hne)⟩ bT' ho h.le hgl h0

set_option maxHeartbeats 2000000 in
set_option maxRecDepth 100000 in
theorem drawRight_any {w0 : World} {g : Nat} {cv : Value} {xs : List Int} {w : World} (hc : Cur w0 g cv xs w) (hb : ∀ x ∈ xs, 0 ≤ x ∧ x ≤ 255) :
    Calls Tryz.prog 93 #[.pointer (some ⟨g, 0, none⟩)] w fun e w' => ∃ nv ns, e = .returned (.agg #[nv]) ∧ OwnN w.heap.size w' nv ns ∧ (∃ k, DrT ns k ∧ k ≤ 499) ∧ Cur w0 g cv xs w' ∧ w.grownBy w' (some g) := by
  have HB := (show Hid (∀ x ∈ xs, 0 ≤ x ∧ x ≤ 255) from hb)
  have hgl := hc.lt
  have HC := (show Hid (Cur w0 g cv xs w) from hc)
  clear hb hc
  go_enter Tryz.func93, Tryz.ntmps93
  go_wp2_with fail
  go_at_call 140
  refine Calls.mono (streeNew_any _) ?_
  rintro e w1 ⟨u1, rfl, one1, b1⟩
  obtain ⟨v1, rfl, own1⟩ := ownN_one' one1
  obtain ⟨a1, n1, c1, rfl⟩ : ∃ a n c, v1 = .slice a n c := by obtain ⟨_, _, h, _⟩ := own1; exact own_slice h
  rw [World.size_alloc] at own1 b1
  have hb0 : Below w.heap.size w (w.alloc (.cells #[.slice none 0 0] 26)) := (Below.refl _ _).alloc (Nat.le_refl _) _
  have hsz1 := b1.size
  rw [World.size_alloc] at hsz1
  have bw1 : Below w.heap.size w w1 := hb0.trans (b1.mono (by omega))
  obtain ⟨w2, hw2⟩ : ∃ x, x = w1.alloc (.cells #[.slice a1 n1 c1] 26) := ⟨_, rfl⟩
  have b12 : Below w1.heap.size w1 w2 := by rw [hw2]; exact (Below.refl _ _).alloc (Nat.le_refl _) _
  have HD : Hid (RtW w0 w g cv xs w1.heap.size (.slice a1 n1 c1) [⟨1, ⟨#[]⟩, [], ⟨#[]⟩, -1, []⟩] w2) := by
    refine ⟨HC.out.below (bw1.trans (b12.mono bw1.size)), (b12.block _ (by omega)).trans ((b1.block _ (by omega)).trans (World.alloc_heap_new _ _)), by rw [hw2]; exact World.alloc_heap_new _ _, (own1.base (by omega)).below b12, below_by g (bw1.trans (b12.mono bw1.size))⟩
  have hT : w.heap.size < w1.heap.size := by omega
  obtain ⟨T, hTT⟩ : ∃ T, T = w1.heap.size := ⟨_, rfl⟩
  rw [← hTT] at HD hT
  clear one1 own1 b1 hb0 bw1 b12 HC hsz1
  go_wp2_with fail
  go_at_call 68
  rw [← hw2, ← hTT]
  refine Calls.mono (below_any 9 (by decide) HD.out.cur HB.out) ?_
  rintro e w3 ⟨x, rfl, x0, x1, _, k3, g3⟩
  replace x1 := x1 (by decide)
  have HD3 := (show Hid (RtW w0 w g cv xs T (.slice a1 n1 c1) [⟨1, ⟨#[]⟩, [], ⟨#[]⟩, -1, []⟩] w3) from HD.out.cursor k3 g3 hgl hT)
  clear HD k3 g3 hw2 hTT
  go_wp2_with fail
  go_at_call 67
  refine Calls.mono (once_any 40 (by decide) HD3.out.cur HB.out) ?_
  rintro e w4 ⟨bb, rfl, k4, g4⟩
  have HD4 := (show Hid (RtW w0 w g cv xs T (.slice a1 n1 c1) [⟨1, ⟨#[]⟩, [], ⟨#[]⟩, -1, []⟩] w4) from HD3.out.cursor k4 g4 hgl hT)
  clear HD3 k4 g4
  go_upto_if 14 with fail
  go_cut [4] from 10 (fun s4 wx => ∃ n : Int, s4 = .int .i64 n ∧ 0 ≤ n ∧ n ≤ 500 ∧ wx = w4)
  case first =>
    cases bb
    · go_wp2
      go_meet
      case rel => exact ⟨x, rfl, by omega, by omega, rfl⟩
    · go_wp2
      go_meet
      case rel => exact ⟨500, rfl, by omega, by omega, rfl⟩
  case rest =>
    obtain ⟨n, rfl, hn0, hn1, rfl⟩ := hcut
    go_wp2
    go_loopw [5] (fun i wr => ∃ (k : Nat) (nv : Value) (ns : List PNode), i = .int .i64 k ∧ k ≤ 499 ∧ DrT ns k ∧ RtW w0 w g cv xs T nv ns wr) (fun i _ => 501 - (intOf i).toNat)
    case atStart => exact ⟨0, _, _, rfl, by omega, drT_zero, HD4.out⟩
    case round =>
      clear HD4
      obtain ⟨k, nv, ns, rfl, hk, hdr, hD⟩ := hrel
      have HDR := (show Hid (DrT ns k) from hdr)
      have HD := (show Hid (RtW w0 w g cv xs T nv ns wr) from hD)
      have HCNT := (show Hid (ns.length = k + 1) from hdr.cnt)
      have HFT : Hid (∀ n ∈ ns, NodeFit n) := fun n hn => (HDR.out.mild n hn).fit (by omega)
      clear hdr hD
      obtain ⟨na, nn, nc, rfl⟩ : ∃ a n c, nv = .slice a n c := by obtain ⟨_, _, h, _⟩ := HD.out.own; exact own_slice h
      by_cases hkn : (k : Int) < n
      · go_wp2_with fail
        go_at_call 141
        refine Calls.mono (drawNode_any HD.out.cur HB.out) ?_
        rintro e W1 ⟨kk, nm, av, rs, tx, rfl, hnm, htx, o1, hrs, hz, k1, g1, hkk⟩
        have HD1 := (show Hid (RtW w0 w g cv xs T (.slice na nn nc) ns W1) from HD.out.cursor k1 g1 hgl hT)
        obtain ⟨a1', c1', rfl, _, _, _⟩ := (sv_of_own o1).pair
        obtain ⟨W2, hW2⟩ : ∃ q, q = W1.alloc (.cells #[.int .i64 kk, .string nm, .slice a1' rs.length c1', .string tx, .int .i64 (-1), .slice none 0 0] 36) := ⟨_, rfl⟩
        have b2 : Below W1.heap.size W1 W2 := by rw [hW2]; exact (Below.refl _ _).alloc (Nat.le_refl _) _
        have hW1s := HD1.out.gr.size
        have hTl := blk_lt HD1.out.bT
        have HD2 := (show Hid (RtW w0 w g cv xs T (.slice na nn nc) ns W2) from HD1.out.below b2)
        have hND : MildT 0 ⟨kk, nm, rs, tx, -1, []⟩ := ⟨hnm, htx, hrs, hz, by simp, by simp⟩
        have hox := ownsRow_base o1 HD.out.gr.size
        have HX2 := (show Hid (MidX w0 w g cv xs W1 W1.heap.size W2) from ⟨HD2.out.cur, below_by g b2, ⟨kk, nm, rs, tx, -1, []⟩, hND, rfl, rfl, a1', rs.length, c1', -1, by rw [hW2]; exact World.alloc_heap_new _ _, ownsRow_below hox b2⟩)
        obtain ⟨X, hX⟩ : ∃ X, X = W1.heap.size := ⟨_, rfl⟩
        have hgX : g < X := by omega
        have hTX : T < X := by omega
        rw [← hX] at HX2
        have HXX := (show Hid (X = W1.heap.size) from hX)
        clear HD o1 k1 g1 hz b2 hND hnm htx hrs hox HD2
        go_upto_region 9 with fail
        rw [← hW2, ← hX]
        clear hW2 hX
        go_cut [27] from 15 to 56 (fun s27 wx => ∃ b : Bool, s27 = .bool b ∧ MidX w0 w g cv xs W1 X wx)
        case first =>
          by_cases h0 : (0 : Int) < (k : Int)
          · go_wp2_with fail
            go_at_call 67
            refine Calls.mono (once_any 2 (by decide) HX2.out.1 HB.out) ?_
            rintro e W3 ⟨b, rfl, k3, g3⟩
            have HM := (show Hid (MidX w0 w g cv xs W1 X W3) from ⟨k3, grown_trans HX2.out.2.1 g3, (by obtain ⟨nd, n1, n2, n3, n4⟩ := HX2.out.2.2; exact ⟨nd, n1, n2, n3, n4.next g3 (by omega) hgl⟩)⟩)
            clear k3 g3
            go_wp2
            go_meet
            case rel => exact ⟨_, rfl, HM.out⟩
          · go_wp2
            go_meet
            case rel => exact ⟨_, rfl, HX2.out⟩
        case rest =>
          obtain ⟨b, rfl, hM⟩ := hcut
          have HM := (show Hid (MidX w0 w g cv xs W1 X wc) from hM)
          clear hM HX2
          go_upto_if 27 with fail
          go_cut [] from 15 to 56 (fun wx => MidX w0 w g cv xs W1 X wx)
          case first =>
            cases b
            · go_wp2
              go_meet
              case rel => exact HM.out
            · obtain ⟨hcu, hgr, nd, n1, n2, n3, a, n', c, p, hbx, hox⟩ := HM.out
              obtain ⟨⟨m0, m1, m2, m3, m4, m5⟩, z0, z1, z2, z3, z4, z5⟩ := six_at hbx
              have HBX := (show Hid _ from hbx)
              have HCU := (show Hid (Cur w0 g cv xs wc) from hcu)
              have HGR := (show Hid (W1.grownBy wc (some g)) from hgr)
              have hlX := blk_lt hbx
              clear hbx hcu hgr hox
              go_wp2
              go_meet
              case rel =>
                have hx1 := HXX.out
                have hsx := six_by wc X (.int .i64 3) (.string ⟨#[112]⟩) (.slice none 0 0) (.string ⟨#[]⟩) (.int .i64 0) (.slice none 0 0)
                refine ⟨HCU.out.kept hsx (fun e => by simp only [Option.some.injEq] at e; omega) (fun r e => by cases e; have := HCU.out.1; omega), ⟨hsx.os.trans HGR.out.os, hsx.tape.trans HGR.out.tape, hsx.output.trans HGR.out.output, Nat.le_trans HGR.out.size hsx.size, fun r hr hne => (hsx.block r (Nat.lt_of_lt_of_le hr HGR.out.size) (fun e => by simp only [Option.some.injEq] at e; omega)).trans (HGR.out.block r hr hne)⟩, ⟨3, ⟨#[112]⟩, [], ⟨#[]⟩, -1, []⟩, ⟨by decide, by decide, by simp, by simp, by simp, by simp⟩, rfl, rfl, none, 0, 0, 0, six_put HBX.out _ _ _ _ _ _, World.ownsRow_nil _ _ _ _⟩
          case rest =>
            clear HM
            obtain ⟨hcu, hgr, nd, n1, n2, n3, a, n', c, p, hbx, hox⟩ := hcut
            obtain ⟨dk, dn, da, dt, dp, dks⟩ := nd
            simp only at n2 n3 hbx hox
            subst n2 n3
            have HBX := (show Hid _ from hbx)
            have HCU := (show Hid (Cur w0 g cv xs wc) from hcu)
            have HGR := (show Hid (W1.grownBy wc (some g)) from hgr)
            have HND := (show Hid (MildT 0 ⟨dk, dn, da, dt, -1, []⟩) from n1)
            have HDB := (show Hid (RtW w0 w g cv xs T (.slice na nn nc) ns wc) from HD1.out.cursor hcu hgr hgl hT)
            have HOX := (show Hid (Sv 2 wc (.slice a n' c) (pairCells da)) from sv_of_own hox)
            obtain ⟨⟨m0, m1, m2, m3, m4, m5⟩, j1⟩ := six_at hbx
            have cT : wc.cell? ⟨T, 0, none⟩ = some (.slice na nn nc) := by have h := HDB.out.bT; simp only [World.cell?, h]; rfl
            have hlX := blk_lt hbx
            have hlT := blk_lt HDB.out.bT
            clear hbx hcu hgr hox j1 n1
            have bd : Below wc.heap.size wc wc.drew := below_drewN 1
            have bdz : Below wc.heap.size wc (wc.alloc (.cells #[.slice none 0 0] 26)).drew := ((Below.refl _ _).alloc (Nat.le_refl _) _).trans (below_drewN 1)
            have hzz : (wc.alloc (.cells #[.slice none 0 0] 26)).drew.heap[wc.heap.size]? = some (.cells #[.slice none 0 0] 26 (0, 0)) := World.alloc_heap_new _ _
            have HZZ := (show Hid _ from hzz)
            have BD := (show Hid _ from bd)
            have BDZ := (show Hid _ from bdz)
            have hcw := HGR.out.size
            have COPY := (show Hid (∀ W, Below wc.heap.size wc W → Calls Tryz.prog 55 #[.agg #[.slice na nn nc]] W fun e W' => ∃ v3, e = .returned (.agg #[v3]) ∧ OwnN W.heap.size W' v3 ns ∧ Below W.heap.size W W') from fun W hb => scopy_any ((HDB.out.below hb).own.nodes) HFT.out (by have := HCNT.out; omega))
            have ADD := (show Hid (∀ (B : Nat) (W : World) (v3 : Value), OwnN B W v3 ns → B ≤ W.heap.size → Below wc.heap.size wc W → Calls Tryz.prog 120 #[.agg #[v3], .agg #[.int .i64 dk, .string dn, .slice a n' c, .string dt, .int .i64 p, .slice none 0 0]] W fun e W' => ∃ v', e = .returned (.tuple #[.agg #[v'], .int .i64 ns.length]) ∧ OwnN B W' v' (ns ++ [⟨dk, dn, da, dt, -1, []⟩]) ∧ Below W.heap.size W W') from fun B W v3 hO hB hb => sadd_any hO hB (by have := HCNT.out; omega) (by have := HCNT.out; omega) dk p dn dt (HOX.out.below hb) (by have := HND.out.rs; simp only at this; omega))
            have HW0 := (show Hid (w0.heap.size ≤ W1.heap.size) from HD1.out.cur.2.2.1.size)
            have hs8 : (Value.int .i64 (ns.length : Int)) = .int .i64 ((k : Int) + 1) := by rw [HCNT.out]; simp
            have HS8 := (show Hid _ from hs8)
            clear bd bdz hzz hs8
            go_upto_region 11 with fail
            go_cut [7, 8] from 15 to 56 (fun s7 s8 wx => ∃ (T2 : Nat) (v2 : Value), s7 = .pointer (some ⟨T2, 0, none⟩) ∧ s8 = .int .i64 ((k : Int) + 1) ∧ PutW w0 g cv xs W1 (ns ++ [⟨dk, dn, da, dt, -1, []⟩]) T2 v2 wx)
            case first =>
              go_region_with (first
                | (go_at_call 55
                   first
                     | refine Calls.mono (COPY.out wc.drew BD.out) ?_
                     | refine Calls.mono (COPY.out (wc.alloc (.cells #[.slice none 0 0] 26)).drew BDZ.out) ?_
                   rintro e W3 ⟨v3, rfl, o3, b3⟩
                   obtain ⟨a3, n3, c3, rfl⟩ : ∃ a n c, v3 = .slice a n c := by obtain ⟨_, _, h, _⟩ := o3; exact own_slice h
                   have bW3 : Below wc.heap.size wc W3 := by first | exact BD.out.trans (b3.mono BD.out.size) | exact BDZ.out.trans (b3.mono BDZ.out.size)
                   have hbx3 := (bW3.block _ hlX).trans HBX.out
                   obtain ⟨⟨x0, x1', x2, x3, x4, x5⟩, jj⟩ := six_at hbx3
                   have hlX3 := blk_lt hbx3
                   have O3 := (show Hid (OwnN wc.heap.size W3 (.slice a3 n3 c3) ns) from o3.base (by first | exact BD.out.size | exact BDZ.out.size))
                   have BW3 := (show Hid (Below wc.heap.size wc W3) from bW3)
                   (try have gz3 : W3.heap[wc.heap.size]? = some (.cells #[.slice none 0 0] 26 (0, 0)) := (b3.block wc.heap.size (by simp)).trans HZZ.out)
                   (try have GZ3 := (show Hid _ from gz3))
                   (try clear gz3)
                   clear o3 b3 bW3 hbx3 jj)
                | (go_at_call 120
                   first
                     | refine Calls.mono (ADD.out _ W3 _ O3.out BW3.out.size BW3.out) ?_
                     | refine Calls.mono (ADD.out _ (W3.alloc (.cells #[.slice none 0 0] 26)) _ (O3.out.below ((Below.refl _ W3).alloc (Nat.le_refl _) _)) (Nat.le_trans BW3.out.size ((Below.refl W3.heap.size W3).alloc (Nat.le_refl _) (.cells #[.slice none 0 0] 26)).size) (BW3.out.trans (((Below.refl W3.heap.size W3).alloc (Nat.le_refl _) (.cells #[.slice none 0 0] 26)).mono BW3.out.size))) ?_
                   rintro e W4 ⟨v4, rfl, o4, b4⟩
                   obtain ⟨a4, n4, c4, rfl⟩ : ∃ a n c, v4 = .slice a n c := by obtain ⟨_, _, h, _⟩ := o4; exact own_slice h
                   have bW4 : Below wc.heap.size wc W4 := by first | exact BW3.out.trans (b4.mono BW3.out.size) | exact (BW3.out.trans (((Below.refl W3.heap.size W3).alloc (Nat.le_refl _) (.cells #[.slice none 0 0] 26)).mono BW3.out.size)).trans (b4.mono (Nat.le_trans BW3.out.size ((Below.refl W3.heap.size W3).alloc (Nat.le_refl _) (.cells #[.slice none 0 0] 26)).size))
                   (try have gz4 : W4.heap[wc.heap.size]? = some (.cells #[.slice none 0 0] 26 (0, 0)) := (b4.block wc.heap.size (blk_lt GZ3.out)).trans GZ3.out)
                   (try have gz4 : W4.heap[W3.heap.size]? = some (.cells #[.slice none 0 0] 26 (0, 0)) := (b4.block W3.heap.size (by simp)).trans (World.alloc_heap_new _ _))
                   (try have cz4 := (six_one gz4).1)
                   (try have fz4 := (six_one gz4).2)
                   (try have GZ4 := (show Hid _ from gz4))
                   (try clear gz4)
                   have HO4 := (show Hid (OwnN W1.heap.size W4 (.slice a4 n4 c4) (ns ++ [⟨dk, dn, da, dt, -1, []⟩])) from o4.base hcw)
                   have HC4 := (show Hid (Cur w0 g cv xs W4) from HCU.out.below bW4)
                   have HG4 := (show Hid (W1.grownBy W4 (some g)) from grown_below HGR.out bW4)
                   have hw34 := BW3.out.size
                   have PN := (show Hid (PutW w0 g cv xs W1 (ns ++ [⟨dk, dn, da, dt, -1, []⟩]) W4.heap.size (.slice a4 n4 c4) (W4.alloc (.cells #[.slice a4 n4 c4] 26))) from put_new HC4.out HG4.out HO4.out)
                   (try have PS := (show Hid (PutW w0 g cv xs W1 (ns ++ [⟨dk, dn, da, dt, -1, []⟩]) wc.heap.size (.slice a4 n4 c4) (W4.setCell ⟨wc.heap.size, 0, none⟩ (.slice a4 n4 c4))) from put_set HC4.out HG4.out GZ4.out HO4.out hcw (by have := HXX.out; omega) HW0.out))
                   (try have PS := (show Hid (PutW w0 g cv xs W1 (ns ++ [⟨dk, dn, da, dt, -1, []⟩]) W3.heap.size (.slice a4 n4 c4) (W4.setCell ⟨W3.heap.size, 0, none⟩ (.slice a4 n4 c4))) from put_set HC4.out HG4.out GZ4.out HO4.out (by omega) (by have := HXX.out; omega) HW0.out))
                   clear o4 b4 bW4 hw34))
              all_goals go_wp2
              all_goals go_meet
              all_goals
                case rel =>
                  with_reducible first
                    | exact ⟨_, _, rfl, HS8.out, PS.out⟩
                    | exact ⟨_, _, rfl, HS8.out, PN.out⟩
            case rest =>
              obtain ⟨T2, v2, rfl, rfl, hP⟩ := hcut
              have hLL : (ns ++ [(⟨dk, dn, da, dt, -1, []⟩ : PNode)]).length = k + 2 := by simp [HCNT.out]
              obtain ⟨q, c2, rfl, hq1, hq2⟩ : ∃ g' cap, v2 = .slice (some ⟨g', 0, none⟩) (k + 2) cap ∧ W1.heap.size ≤ g' ∧ g' < wc.heap.size := by
                obtain ⟨_, _, h2, _⟩ := hP.own
                obtain ⟨g', cap', e, h3⟩ := one_form h2 (by omega)
                exact ⟨g', cap', by rw [e, hLL], h3⟩
              have HP := (show Hid (PutW w0 g cv xs W1 (ns ++ [⟨dk, dn, da, dt, -1, []⟩]) T2 (.slice (some ⟨q, 0, none⟩) (k + 2) c2) wc) from hP)
              have HW0 := (show Hid (w0.heap.size ≤ W1.heap.size) from HD1.out.cur.2.2.1.size)
              have HDA := (show Hid (DrT (ns ++ [⟨dk, dn, da, dt, -1, []⟩]) (k + 1)) from drT_add HDR.out HND.out)
              have HMK := (show Hid (∀ n ∈ ns ++ [(⟨dk, dn, da, dt, -1, []⟩ : PNode)], MildT k n) from fun n hn => by
                rcases List.mem_append.mp hn with hn | hn
                · exact HDR.out.mild n hn
                · simp at hn; subst hn; exact HND.out.more (by omega))
              have hgW : g < W1.heap.size := by have := HXX.out; omega
              have HLL := (show Hid _ from hLL)
              have HDW := (show Hid (RtW w0 w g cv xs T (.slice na nn nc) ns wc) from HD1.out.cursor hP.cur hP.gr hgl hT)
              have cT2 := (six_one hP.bT).1
              clear hP hLL COPY ADD HZZ BD BDZ HDB HOX m0 m1 m2 m3 m4 m5 cT HBX HCU HGR hlX hlT hcw HS8 HND
              by_cases h500 : k = 499
              · have hd : (500 : Int) < ((k + 2 : Nat) : Int) := by omega
                have k0 := (six_one HDW.out.bT).1
                have k1 := (six_one HDW.out.bR).1
                have z1 := (six_one HDW.out.bR).2
                go_wp2
                have gs := setCell_at (k := 0) (u := .slice na nn nc) HDW.out.bR
                refine bodyPost_ret (results_cell_row rfl _ _ w.heap.size 26 _ (0, 0) _ rfl gs Tryz.underlying26 rfl rfl) rfl ?_
                obtain ⟨f1, f2, f3⟩ := HDW.out.fin hgl (.slice na nn nc)
                exact ⟨_, ns, rfl, f1, ⟨k, HDR.out, by omega⟩, f2, f3⟩
              have hd : ¬ (500 : Int) < ((k + 2 : Nat) : Int) := by omega
              clear HDW
              go_wp2_with fail
              go_at_call 68
              refine Calls.mono (below_any ((k : Int) + 1) (by omega) HP.out.cur HB.out) ?_
              rintro e W5 ⟨y, rfl, y0, y1, _, k5, g5⟩
              replace y1 := y1 (by omega)
              obtain ⟨pp, rfl⟩ : ∃ pp : Nat, y = (pp : Int) := ⟨y.toNat, by omega⟩
              have HP5 := (show Hid (PutW w0 g cv xs W1 (ns ++ [⟨dk, dn, da, dt, -1, []⟩]) T2 (.slice (some ⟨q, 0, none⟩) (k + 2) c2) W5) from HP.out.next k5 g5 hgW)
              have cT5 := (six_one HP5.out.bT).1
              clear HP k5 g5 cT2
              go_upto_region 15 with fail
              go_cut [51] from 15 to 56 (fun s51 wx => ∃ b : Bool, s51 = .bool b ∧ PutW w0 g cv xs W1 (ns ++ [⟨dk, dn, da, dt, -1, []⟩]) T2 (.slice (some ⟨q, 0, none⟩) (k + 2) c2) wx)
              case first =>
                go_wp2_with fail
                go_at_call 53
                refine Calls.mono (sopens_any HP5.out.own.nodes (by have := HLL.out; omega) (p := pp) (by have := HLL.out; omega)) ?_
                rintro e W6 ⟨b6, rfl, b56⟩
                have HP6 := (show Hid (PutW w0 g cv xs W1 (ns ++ [⟨dk, dn, da, dt, -1, []⟩]) T2 (.slice (some ⟨q, 0, none⟩) (k + 2) c2) W6) from HP5.out.below b56)
                clear b56
                cases b6
                · go_wp2
                  go_meet
                  case rel => exact ⟨_, rfl, HP6.out⟩
                · go_wp2_with fail
                  go_at_call 67
                  refine Calls.mono (once_any 9 (by decide) HP6.out.cur HB.out) ?_
                  rintro e W7 ⟨b7, rfl, k7, g7⟩
                  have HP7 := (show Hid (PutW w0 g cv xs W1 (ns ++ [⟨dk, dn, da, dt, -1, []⟩]) T2 (.slice (some ⟨q, 0, none⟩) (k + 2) c2) W7) from HP6.out.next k7 g7 hgW)
                  clear k7 g7
                  go_wp2
                  go_meet
                  case rel => exact ⟨_, rfl, HP7.out⟩
              case rest =>
                obtain ⟨b, rfl, hP⟩ := hcut
                have HP := (show Hid (PutW w0 g cv xs W1 (ns ++ [⟨dk, dn, da, dt, -1, []⟩]) T2 (.slice (some ⟨q, 0, none⟩) (k + 2) c2) wc) from hP)
                clear hP HP5 cT5
                go_upto_if 51 with fail
                go_cut [] from 15 to 56 (fun wx => ∃ ns3, DrT ns3 (k + 1) ∧ PutW w0 g cv xs W1 ns3 T2 (.slice (some ⟨q, 0, none⟩) (k + 2) c2) wx)
                case first =>
                  cases b
                  · go_wp2
                    go_meet
                    case rel => exact ⟨_, HDA.out, HP.out⟩
                  · have cT6 := (six_one HP.out.bT).1
                    have CH := (show Hid _ from shang_any (c := k + 1) (p := pp) HP.out.own HP.out.gr.size (by have := HLL.out; omega) (by have := HLL.out; omega) (by have := HLL.out; omega) (par_last HCNT.out) (by have := (HMK.out _ (List.getElem_mem (show pp < (ns ++ [(⟨dk, dn, da, dt, -1, []⟩ : PNode)]).length by have := HLL.out; omega))).kl; omega))
                    rw [show ((k + 1 : Nat) : Int) = (k : Int) + 1 by omega] at CH
                    go_wp2_with fail
                    go_at_call 56
                    refine Calls.mono CH.out ?_
                    rintro e W8 ⟨rfl, o8, g8⟩
                    have HP8 := (show Hid (PutW w0 g cv xs W1 _ T2 (.slice (some ⟨q, 0, none⟩) (k + 2) c2) (W8.setCell ⟨T2, 0, none⟩ (.slice (some ⟨q, 0, none⟩) (k + 2) c2))) from HP.out.hung g8 o8 hgW HW0.out)
                    have hz8 := blk_type HP.out.bT g8 (row_type HP.out.own.row (by decide))
                    have cT8 := (six_one hz8).1
                    have zT8 := (six_one hz8).2
                    clear CH o8 g8 hz8
                    go_wp2
                    go_meet
                    case rel => exact ⟨_, drT_hang HDA.out HMK.out (by have := HLL.out; omega), HP8.out⟩
                case rest =>
                  obtain ⟨ns3, hd3, hP3⟩ := hcut
                  have cT9 := (six_one hP3.bT).1
                  have HD9 := (show Hid (RtW w0 w g cv xs T (.slice na nn nc) ns wc) from HD1.out.cursor hP3.cur hP3.gr hgl hT)
                  have x9 := (six_one HD9.out.bT).1
                  have z9 := (six_one HD9.out.bT).2
                  have HDX := (show Hid (RtW w0 w g cv xs T (.slice (some ⟨q, 0, none⟩) (k + 2) c2) ns3 (wc.setCell ⟨T, 0, none⟩ (.slice (some ⟨q, 0, none⟩) (k + 2) c2))) from HD9.out.tree (hP3.own.base (by have := HD1.out.gr.size; omega)) hgl hT)
                  have HD3 := (show Hid (DrT ns3 (k + 1)) from hd3)
                  clear hd3 hP3 HD9
                  go_wp2
                  go_roundw
                  case rel => exact ⟨k + 1, _, ns3, by go_num, by omega, HD3.out, HDX.out⟩
                  case measure => simp [intOf]; omega
      · have k0 := (six_one HD.out.bT).1
        have k1 := (six_one HD.out.bR).1
        have z1 := (six_one HD.out.bR).2
        go_wp2
        have gs := setCell_at (k := 0) (u := .slice na nn nc) HD.out.bR
        refine bodyPost_ret (results_cell_row rfl _ _ w.heap.size 26 _ (0, 0) _ rfl gs Tryz.underlying26 rfl rfl) rfl ?_
        obtain ⟨f1, f2, f3⟩ := HD.out.fin hgl (.slice na nn nc)
        exact ⟨_, rfl, ns, f1, ⟨k, HDR.out, hk⟩, f2, f3⟩
end Go.Proofs.YtogdbjafibejdaaGreat
