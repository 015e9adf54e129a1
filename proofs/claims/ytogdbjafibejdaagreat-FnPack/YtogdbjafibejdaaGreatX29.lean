/- The draw of a node: l6DrawNode (written by mk/drawnode.py). No condition. -/
import Derived.Test.YtogdbjafibejdaaGreatX27
import Derived.Test.YtogdbjafibejdaaGreatX20
import Derived.Test.YtogdbjafibejdaaGreatX28
import Derived.Deep.Cut
namespace Go.Proofs.YtogdbjafibejdaaGreat
open Go.RowKit
set_option maxRecDepth 100000
set_option linter.unusedVariables false

theorem six_put {w : World} {b : Nat} {a0 a1 a2 a3 a4 a5 : Value} {t : TypeId} (h : w.heap[b]? = some (.cells #[a0, a1, a2, a3, a4, a5] t (0, 0))) (u0 u1 u2 u3 u4 u5 : Value) :
    ((((((w.setCell ⟨b, 0, none⟩ u0).setCell ⟨b, 1, none⟩ u1).setCell ⟨b, 2, none⟩ u2).setCell ⟨b, 3, none⟩ u3).setCell ⟨b, 4, none⟩ u4).setCell ⟨b, 5, none⟩ u5).heap[b]? = some (.cells #[u0, u1, u2, u3, u4, u5] t (0, 0)) := by
  have h0 : (w.setCell ⟨b, 0, none⟩ u0).heap[b]? = some (.cells #[u0, a1, a2, a3, a4, a5] t (0, 0)) := by simpa using setCell_at (k := 0) (u := u0) h
  have h1 : ((w.setCell ⟨b, 0, none⟩ u0).setCell ⟨b, 1, none⟩ u1).heap[b]? = some (.cells #[u0, u1, a2, a3, a4, a5] t (0, 0)) := by simpa using setCell_at (k := 1) (u := u1) h0
  have h2 : (((w.setCell ⟨b, 0, none⟩ u0).setCell ⟨b, 1, none⟩ u1).setCell ⟨b, 2, none⟩ u2).heap[b]? = some (.cells #[u0, u1, u2, a3, a4, a5] t (0, 0)) := by simpa using setCell_at (k := 2) (u := u2) h1
  have h3 : ((((w.setCell ⟨b, 0, none⟩ u0).setCell ⟨b, 1, none⟩ u1).setCell ⟨b, 2, none⟩ u2).setCell ⟨b, 3, none⟩ u3).heap[b]? = some (.cells #[u0, u1, u2, u3, a4, a5] t (0, 0)) := by simpa using setCell_at (k := 3) (u := u3) h2
  have h4 : (((((w.setCell ⟨b, 0, none⟩ u0).setCell ⟨b, 1, none⟩ u1).setCell ⟨b, 2, none⟩ u2).setCell ⟨b, 3, none⟩ u3).setCell ⟨b, 4, none⟩ u4).heap[b]? = some (.cells #[u0, u1, u2, u3, u4, a5] t (0, 0)) := by simpa using setCell_at (k := 4) (u := u4) h3
  simpa using setCell_at (k := 5) (u := u5) h4
theorem six_by (w : World) (b : Nat) (u0 u1 u2 u3 u4 u5 : Value) : w.grownBy ((((((w.setCell ⟨b, 0, none⟩ u0).setCell ⟨b, 1, none⟩ u1).setCell ⟨b, 2, none⟩ u2).setCell ⟨b, 3, none⟩ u3).setCell ⟨b, 4, none⟩ u4).setCell ⟨b, 5, none⟩ u5) (some b) :=
  grown_trans (grown_trans (grown_trans (grown_trans (grown_trans (grown_setCell _ _ _ _) (grown_setCell _ _ _ _)) (grown_setCell _ _ _ _)) (grown_setCell _ _ _ _)) (grown_setCell _ _ _ _)) (grown_setCell _ _ _ _)
theorem six_at {w : World} {b : Nat} {a0 a1 a2 a3 a4 a5 : Value} {t : TypeId} (h : w.heap[b]? = some (.cells #[a0, a1, a2, a3, a4, a5] t (0, 0))) :
    (w.cell? ⟨b, 0, none⟩ = some a0 ∧ w.cell? ⟨b, 1, none⟩ = some a1 ∧ w.cell? ⟨b, 2, none⟩ = some a2 ∧ w.cell? ⟨b, 3, none⟩ = some a3 ∧ w.cell? ⟨b, 4, none⟩ = some a4 ∧ w.cell? ⟨b, 5, none⟩ = some a5) ∧
    (w.frozen? ⟨b, 0, none⟩ = false ∧ w.frozen? ⟨b, 1, none⟩ = false ∧ w.frozen? ⟨b, 2, none⟩ = false ∧ w.frozen? ⟨b, 3, none⟩ = false ∧ w.frozen? ⟨b, 4, none⟩ = false ∧ w.frozen? ⟨b, 5, none⟩ = false) := by
  refine ⟨⟨?_, ?_, ?_, ?_, ?_, ?_⟩, ?_, ?_, ?_, ?_, ?_, ?_⟩
  all_goals first
    | (simp only [World.cell?, h]; rfl)
    | (simp only [World.frozen?, h]; rfl)

structure DnW (w0 w : World) (g : Nat) (v : Value) (xs : List Int) (N : Nat) (k : Int) (nm : ByteArray) (av : Value) (tx : ByteArray) (W : World) : Prop where
  cur : Cur w0 g v xs W
  bR : W.heap[w.heap.size]? = some (.cells #[.int .i64 0, .string ⟨#[]⟩, .slice none 0 0, .string ⟨#[]⟩, .int .i64 0, .slice none 0 0] 36 (0, 0))
  bN : W.heap[N]? = some (.cells #[.int .i64 k, .string nm, av, .string tx, .int .i64 (-1), .slice none 0 0] 36 (0, 0))
  gr : w.grownBy W (some g)
  nN : w.heap.size < N
theorem DnW.next {w0 w W W' : World} {g : Nat} {v : Value} {xs : List Int} {N : Nat} {k : Int} {nm : ByteArray} {av : Value} {tx : ByteArray} (h : DnW w0 w g v xs N k nm av tx W) (hg : g < w.heap.size) (hc : Cur w0 g v xs W') (hgr : W.grownBy W' (some g)) : DnW w0 w g v xs N k nm av tx W' :=
  ⟨hc, (hgr.block _ (blk_lt h.bR) (fun e => by simp only [Option.some.injEq] at e; omega)).trans h.bR, (hgr.block _ (blk_lt h.bN) (fun e => by have := h.nN; simp only [Option.some.injEq] at e; omega)).trans h.bN, grown_trans h.gr hgr, h.nN⟩
theorem DnW.set {w0 w W : World} {g : Nat} {v : Value} {xs : List Int} {N : Nat} {k : Int} {nm : ByteArray} {av : Value} {tx : ByteArray} (h : DnW w0 w g v xs N k nm av tx W) (hg : g < w.heap.size) {j : Nat} {u : Value} {nm' : ByteArray} {av' : Value} {tx' : ByteArray}
    (e : (#[.int .i64 k, .string nm, av, .string tx, .int .i64 (-1), .slice none 0 0] : Array Value).setIfInBounds j u = #[.int .i64 k, .string nm', av', .string tx', .int .i64 (-1), .slice none 0 0]) : DnW w0 w g v xs N k nm' av' tx' (W.setCell ⟨N, j, none⟩ u) := by
  have hs := grown_setCell W N j u
  have hn := h.nN
  have hw := h.gr.size
  refine ⟨h.cur.kept hs (fun e => by simp only [Option.some.injEq] at e; omega) (fun r e => by cases e; have := h.cur.1; omega), (hs.block _ (blk_lt h.bR) (fun e => by simp only [Option.some.injEq] at e; omega)).trans h.bR, ?_, ⟨hs.os.trans h.gr.os, hs.tape.trans h.gr.tape, hs.output.trans h.gr.output, Nat.le_trans h.gr.size hs.size, fun r hr hne => (hs.block r (by omega) (fun e => by simp only [Option.some.injEq] at e; omega)).trans (h.gr.block r hr hne)⟩, hn⟩
  have := setCell_at (k := j) (u := u) h.bN
  rw [e] at this
  exact this
theorem DnW.past {w0 w W W' : World} {g : Nat} {v : Value} {xs : List Int} {N : Nat} {k : Int} {nm : ByteArray} {av : Value} {tx : ByteArray} (h : DnW w0 w g v xs N k nm av tx W) (hg : g < w.heap.size) (hb : Below W.heap.size W W') : DnW w0 w g v xs N k nm av tx W' :=
  ⟨h.cur.below hb, (hb.block _ (blk_lt h.bR)).trans h.bR, (hb.block _ (blk_lt h.bN)).trans h.bN, grown_below h.gr hb, h.nN⟩
theorem DnW.fin {w0 w W W' : World} {g : Nat} {v : Value} {xs : List Int} {N : Nat} {k : Int} {nm : ByteArray} {av : Value} {tx : ByteArray} (h : DnW w0 w g v xs N k nm av tx W) (hg : g < w.heap.size) (hs : W.grownBy W' (some w.heap.size)) : Cur w0 g v xs W' ∧ w.grownBy W' (some g) := by
  have hw := h.gr.size
  exact ⟨h.cur.kept hs (fun e => by simp only [Option.some.injEq] at e; omega) (fun r e => by cases e; have := h.cur.1; omega), ⟨hs.os.trans h.gr.os, hs.tape.trans h.gr.tape, hs.output.trans h.gr.output, Nat.le_trans h.gr.size hs.size, fun r hr hne => (hs.block r (by omega) (fun e => by simp only [Option.some.injEq] at e; omega)).trans (h.gr.block r hr hne)⟩⟩

def nodeNames2 : List ByteArray := [⟨#[104, 116, 109, 108]⟩, ⟨#[]⟩, ⟨#[120]⟩]
def nodeNames3 : List ByteArray := [⟨#[112]⟩, ⟨#[98]⟩, ⟨#[100, 105, 118]⟩, ⟨#[98, 114]⟩, ⟨#[115, 99, 114, 105, 112, 116]⟩, ⟨#[120]⟩]
def nodeTexts4 : List ByteArray := [⟨#[97]⟩, ⟨#[120, 60, 121]⟩, ⟨#[38]⟩, ⟨#[194, 160]⟩]
theorem nodeNames2_small : ∀ t ∈ nodeNames2, t.size ≤ 100 := by decide
theorem nodeNames3_small : ∀ t ∈ nodeNames3, t.size ≤ 100 := by decide
theorem nodeTexts4_small : ∀ t ∈ nodeTexts4, t.size ≤ 100 := by decide

set_option maxHeartbeats 800000 in
set_option maxRecDepth 100000 in
theorem drawNode_any {w0 : World} {g : Nat} {v : Value} {xs : List Int} {w : World} (h : Cur w0 g v xs w) (hb : ∀ x ∈ xs, 0 ≤ x ∧ x ≤ 255) :
    Calls Tryz.prog 141 #[.pointer (some ⟨g, 0, none⟩)] w fun e w' => ∃ (k : Int) (nm : ByteArray) (av : Value) (rs : List (ByteArray × ByteArray)) (tx : ByteArray), e = .returned (.agg #[.int .i64 k, .string nm, av, .string tx, .int .i64 (-1), .slice none 0 0]) ∧ nm.size ≤ 100 ∧ tx.size ≤ 100 ∧ w'.ownsRow w.heap.size 115 2 av rs.length (pairCells rs) ∧ rs.length ≤ 40 ∧ (∀ p ∈ rs, p.1.size ≤ 3001 ∧ p.2.size ≤ 3001) ∧ Cur w0 g v xs w' ∧ w.grownBy w' (some g) ∧ (2 ≤ k ∧ k ≤ 5) := by
  have HB : Hid (∀ x ∈ xs, 0 ≤ x ∧ x ≤ 255) := hb
  have hgl := h.lt
  obtain ⟨w1, hw1⟩ : ∃ x, x = w.alloc (.cells #[.int .i64 0, .string ⟨#[]⟩, .slice none 0 0, .string ⟨#[]⟩, .int .i64 0, .slice none 0 0] 36) := ⟨_, rfl⟩
  have b1 : Below w.heap.size w w1 := by rw [hw1]; exact (Below.refl _ _).alloc (Nat.le_refl _) _
  have g1 : w1.heap[w.heap.size]? = some (.cells #[.int .i64 0, .string ⟨#[]⟩, .slice none 0 0, .string ⟨#[]⟩, .int .i64 0, .slice none 0 0] 36 (0, 0)) := by rw [hw1]; exact World.alloc_heap_new _ _
  have HC1 := (show Hid (Cur w0 g v xs w1) from h.below b1)
  have HG1 := (show Hid _ from g1)
  have HB1 := (show Hid (Below w.heap.size w w1) from b1)
  have HW := (show Hid (Cur w0 g v xs w) from h)
  clear hb b1 g1 h
  go_enter Tryz.func141, Tryz.ntmps141
  go_wp2_with fail
  go_at_call 68
  rw [← hw1]
  refine (below_any 4 (by decide) HC1.out HB.out).mono ?_
  rintro e w2 ⟨x, rfl, hx0, hx1, hx2, k2, g2⟩
  clear hw1 hx2
  have hx3 := hx1 (by decide)
  clear hx1
  have l1 := blk_lt HG1.out
  have l2 := g2.size
  have G2 := (show Hid _ from g2)
  have K2 := (show Hid (Cur w0 g v xs w2) from k2)
  clear k2 g2
  have base : ∀ (kk : Int) (w3 : World), w3 = w2.alloc (.cells #[.int .i64 kk, .string ⟨#[]⟩, .slice none 0 0, .string ⟨#[]⟩, .int .i64 (-1), .slice none 0 0] 36) → DnW w0 w g v xs w2.heap.size kk ⟨#[]⟩ (.slice none 0 0) ⟨#[]⟩ w3 := fun kk w3 hw3 => by
    have b3 : Below w2.heap.size w2 w3 := by rw [hw3]; exact (Below.refl _ _).alloc (Nat.le_refl _) _
    refine ⟨K2.out.below b3, ?_, by rw [hw3]; exact World.alloc_heap_new _ _, ?_, by omega⟩
    · exact (b3.block _ (by omega)).trans ((G2.out.block _ l1 (fun e => by simp only [Option.some.injEq] at e; omega)).trans HG1.out)
    · have := HB1.out.size
      exact grown_below ⟨G2.out.os.trans HB1.out.os, G2.out.tape.trans HB1.out.tape, G2.out.output.trans HB1.out.output, by omega, fun r hr hne => (G2.out.block r (by omega) hne).trans (HB1.out.block r hr)⟩ b3
  have BASE := (show Hid _ from base)
  have hN3 : w.heap.size < w2.heap.size := by omega
  clear base l1 l2 G2 K2 HG1 HB1 HC1
  rcases (show x = 0 ∨ x = 1 ∨ x = 2 ∨ x = 3 by omega) with rfl | rfl | rfl | rfl
  · obtain ⟨w3, hw3⟩ : ∃ x', x' = w2.alloc (.cells #[.int .i64 2, .string ⟨#[]⟩, (.slice none 0 0), .string ⟨#[]⟩, .int .i64 (-1), .slice none 0 0] 36) := ⟨_, rfl⟩
    have D0 := (show Hid (DnW w0 w g v xs w2.heap.size 2 ⟨#[]⟩ (.slice none 0 0) ⟨#[]⟩ w3) from BASE.out 2 w3 hw3)
    have hs3 : w3.heap.size = w2.heap.size + 1 := by rw [hw3, World.size_alloc]
    have HS3 := (show Hid _ from hs3)
    clear hs3
    obtain ⟨⟨n00, n01, n02, n03, n04, n05⟩, zz0, zz1, zz2, zz3, zz4, zz5⟩ := six_at D0.out.bN
    have hl0 := blk_lt D0.out.bN
    go_wp2_with fail
    go_at_call 66
    rw [← hw3, ← HS3.out]
    refine (pickS_any D0.out.cur HB.out nodeNames2 (by decide) (by decide) _ rfl 3 rfl).mono ?_
    rintro e w4 ⟨t, rfl, ht, k4, g4⟩
    have hts := nodeNames2_small t ht
    have D1 := (show Hid (DnW w0 w g v xs w2.heap.size 2 ⟨#[]⟩ (.slice none 0 0) ⟨#[]⟩ w4) from D0.out.next hgl k4 g4)
    obtain ⟨⟨n10, n11, n12, n13, n14, n15⟩, y0, y1, y2, y3, y4, y5⟩ := six_at D1.out.bN
    have hl1 := blk_lt D1.out.bN
    have D2 := (show Hid (DnW w0 w g v xs w2.heap.size 2 t (.slice none 0 0) ⟨#[]⟩ (w4.setCell ⟨w2.heap.size, 1, none⟩ (.string t))) from D1.out.set hgl rfl)
    clear k4 g4 ht hw3 n00 n01 n02 n03 n04 n05 zz0 zz1 zz2 zz3 zz4 zz5
    obtain ⟨w8, hw8⟩ : ∃ x', x' = (w4.setCell ⟨w2.heap.size, 1, none⟩ (.string t)) := ⟨_, rfl⟩
    have D8 := (show Hid (DnW w0 w g v xs w2.heap.size 2 t (.slice none 0 0) ⟨#[]⟩ w8) from (by have := D2.out; rwa [← hw8] at this))
    obtain ⟨⟨m0, m1, m2, m3, m4, m5⟩, j1⟩ := six_at D8.out.bN
    obtain ⟨⟨r0, r1, r2, r3, r4, r5⟩, z0, z1, z2, z3, z4, z5⟩ := six_at D8.out.bR
    have ltN := blk_lt D8.out.bN
    have ltR := blk_lt D8.out.bR
    have hown8 : w8.ownsRow w.heap.size 115 2 (.slice none 0 0) ([] : List (ByteArray × ByteArray)).length (pairCells []) := World.ownsRow_nil _ _ _ _
    have HOWN := (show Hid (w8.ownsRow w.heap.size 115 2 (.slice none 0 0) ([] : List (ByteArray × ByteArray)).length (pairCells [])) from hown8)
    clear j1 hown8 
    have hne8 : w2.heap.size ≠ w.heap.size := by omega
    go_upto_region 14 with fail
    rw [← hw8]
    clear hw8
    go_wp2
    have hput := six_put D8.out.bR (.int .i64 2) (.string t) (.slice none 0 0) (.string ⟨#[]⟩) (.int .i64 (-1)) (.slice none 0 0)
    refine bodyPost_ret (results_cell_row rfl _ _ w.heap.size 36 _ (0, 0) _ rfl hput Tryz.underlying36 rfl rfl) rfl ?_
    have hsx := six_by w8 w.heap.size (.int .i64 2) (.string t) (.slice none 0 0) (.string ⟨#[]⟩) (.int .i64 (-1)) (.slice none 0 0)
    obtain ⟨cur8, gr8⟩ := D8.out.fin hgl hsx
    exact ⟨2, t, (.slice none 0 0), [], ⟨#[]⟩, rfl, hts, by decide, kept_of_type HOWN.out hsx (fun r e => by cases e; exact ⟨_, _, _, D8.out.bR, by decide⟩), by decide, (fun p hp => by cases hp), cur8, gr8, by decide, by decide⟩
  · obtain ⟨w3, hw3⟩ : ∃ x', x' = w2.alloc (.cells #[.int .i64 3, .string ⟨#[]⟩, (.slice none 0 0), .string ⟨#[]⟩, .int .i64 (-1), .slice none 0 0] 36) := ⟨_, rfl⟩
    have D0 := (show Hid (DnW w0 w g v xs w2.heap.size 3 ⟨#[]⟩ (.slice none 0 0) ⟨#[]⟩ w3) from BASE.out 3 w3 hw3)
    have hs3 : w3.heap.size = w2.heap.size + 1 := by rw [hw3, World.size_alloc]
    have HS3 := (show Hid _ from hs3)
    clear hs3
    obtain ⟨⟨n00, n01, n02, n03, n04, n05⟩, zz0, zz1, zz2, zz3, zz4, zz5⟩ := six_at D0.out.bN
    have hl0 := blk_lt D0.out.bN
    go_wp2_with fail
    go_at_call 66
    rw [← hw3, ← HS3.out]
    refine (pickS_any D0.out.cur HB.out nodeNames3 (by decide) (by decide) _ rfl 6 rfl).mono ?_
    rintro e w4 ⟨t, rfl, ht, k4, g4⟩
    have hts := nodeNames3_small t ht
    have D1 := (show Hid (DnW w0 w g v xs w2.heap.size 3 ⟨#[]⟩ (.slice none 0 0) ⟨#[]⟩ w4) from D0.out.next hgl k4 g4)
    obtain ⟨⟨n10, n11, n12, n13, n14, n15⟩, y0, y1, y2, y3, y4, y5⟩ := six_at D1.out.bN
    have hl1 := blk_lt D1.out.bN
    have D2 := (show Hid (DnW w0 w g v xs w2.heap.size 3 t (.slice none 0 0) ⟨#[]⟩ (w4.setCell ⟨w2.heap.size, 1, none⟩ (.string t))) from D1.out.set hgl rfl)
    clear k4 g4 ht hw3 n00 n01 n02 n03 n04 n05 zz0 zz1 zz2 zz3 zz4 zz5
    obtain ⟨w5, hw5⟩ : ∃ x', x' = w4.setCell ⟨w2.heap.size, 1, none⟩ (.string t) := ⟨_, rfl⟩
    have D5 := (show Hid (DnW w0 w g v xs w2.heap.size 3 t (.slice none 0 0) ⟨#[]⟩ w5) from (by have := D2.out; rwa [← hw5] at this))
    have hw5s := D5.out.gr.size
    go_wp2_with fail
    go_at_call 171
    rw [← hw5]
    refine (drawAttrs_any D5.out.cur HB.out).mono ?_
    rintro e w6 ⟨v6, rs, rfl, o6, hl6, hz6, k6, g6⟩
    have HZ6 := (show Hid _ from hz6)
    have D6 := (show Hid (DnW w0 w g v xs w2.heap.size 3 t (.slice none 0 0) ⟨#[]⟩ w6) from D5.out.next hgl k6 g6)
    have hown6 := ownsRow_base o6 hw5s
    obtain ⟨a6, c6, rfl, _, _, _⟩ := (sv_of_own o6).pair
    obtain ⟨⟨n60, n61, n62, n63, n64, n65⟩, x0, x1, x2, x3, x4, x5⟩ := six_at D6.out.bN
    have hl6' := blk_lt D6.out.bN
    obtain ⟨w7, hw7⟩ : ∃ x', x' = w6.setCell ⟨w2.heap.size, 2, none⟩ (.slice a6 rs.length c6) := ⟨_, rfl⟩
    have D7 := (show Hid (DnW w0 w g v xs w2.heap.size 3 t (.slice a6 rs.length c6) ⟨#[]⟩ w7) from (by rw [hw7]; exact D6.out.set hgl rfl))
    have hown7 : w7.ownsRow w.heap.size 115 2 (.slice a6 rs.length c6) rs.length (pairCells rs) := by rw [hw7]; exact kept_of_type hown6 (grown_setCell _ _ _ _) (fun r e => by cases e; exact ⟨_, _, _, D6.out.bN, by decide⟩)
    have HO7 := (show Hid _ from hown7)
    have c72 : w7.cell? ⟨w2.heap.size, 2, none⟩ = some (.slice a6 rs.length c6) := (six_at D7.out.bN).1.2.2.1
    have CA := (show Hid _ from sattrsOk_any (sv_of_own hown7) (by omega) (fun p hp => by have := HZ6.out p hp; omega))
    clear hz6 k6 g6 o6 hown6 hown7 hw5 n10 n11 n12 n13 n14 n15 y0 y1 y2 y3 y4 y5 hl1
    go_wp2_with fail
    go_at_call 108
    rw [← hw7]
    refine Calls.mono CA.out ?_
    rintro e w9 ⟨rfl, b9⟩
    have D9 := (show Hid (DnW w0 w g v xs w2.heap.size 3 t (.slice a6 rs.length c6) ⟨#[]⟩ w9) from D7.out.past hgl b9)
    have HO9 := (show Hid _ from ownsRow_below HO7.out b9)
    have x92 : w9.cell? ⟨w2.heap.size, 2, none⟩ = some (.slice a6 rs.length c6) := (six_at D9.out.bN).1.2.2.1
    have z92 : w9.frozen? ⟨w2.heap.size, 2, none⟩ = false := (six_at D9.out.bN).2.2.2.1
    have l92 := blk_lt D9.out.bN
    obtain ⟨q, hq⟩ : ∃ q, q = attrsOk rs := ⟨_, rfl⟩
    rw [← hq]
    clear b9 hq CA HO7 hw7 n60 n61 n62 n63 n64 n65 x0 x1 x2 x3 x4 x5 c72
    cases q
    · have D10 := (show Hid (DnW w0 w g v xs w2.heap.size 3 t (.slice none 0 0) ⟨#[]⟩ (w9.setCell ⟨w2.heap.size, 2, none⟩ (.slice none 0 0))) from D9.out.set hgl rfl)
      obtain ⟨w8, hw8⟩ : ∃ x', x' = (w9.setCell ⟨w2.heap.size, 2, none⟩ (.slice none 0 0)) := ⟨_, rfl⟩
      have D8 := (show Hid (DnW w0 w g v xs w2.heap.size 3 t (.slice none 0 0) ⟨#[]⟩ w8) from (by have := D10.out; rwa [← hw8] at this))
      obtain ⟨⟨m0, m1, m2, m3, m4, m5⟩, j1⟩ := six_at D8.out.bN
      obtain ⟨⟨r0, r1, r2, r3, r4, r5⟩, z0, z1, z2, z3, z4, z5⟩ := six_at D8.out.bR
      have ltN := blk_lt D8.out.bN
      have ltR := blk_lt D8.out.bR
      have hown8 : w8.ownsRow w.heap.size 115 2 (.slice none 0 0) ([] : List (ByteArray × ByteArray)).length (pairCells []) := World.ownsRow_nil _ _ _ _
      have HOWN := (show Hid (w8.ownsRow w.heap.size 115 2 (.slice none 0 0) ([] : List (ByteArray × ByteArray)).length (pairCells [])) from hown8)
      clear j1 hown8 
      have hne8 : w2.heap.size ≠ w.heap.size := by omega
      go_upto_region 14 with fail
      rw [← hw8]
      clear hw8
      go_wp2
      have hput := six_put D8.out.bR (.int .i64 3) (.string t) (.slice none 0 0) (.string ⟨#[]⟩) (.int .i64 (-1)) (.slice none 0 0)
      refine bodyPost_ret (results_cell_row rfl _ _ w.heap.size 36 _ (0, 0) _ rfl hput Tryz.underlying36 rfl rfl) rfl ?_
      have hsx := six_by w8 w.heap.size (.int .i64 3) (.string t) (.slice none 0 0) (.string ⟨#[]⟩) (.int .i64 (-1)) (.slice none 0 0)
      obtain ⟨cur8, gr8⟩ := D8.out.fin hgl hsx
      exact ⟨3, t, (.slice none 0 0), [], ⟨#[]⟩, rfl, hts, by decide, kept_of_type HOWN.out hsx (fun r e => by cases e; exact ⟨_, _, _, D8.out.bR, by decide⟩), by decide, (fun p hp => by cases hp), cur8, gr8, by decide, by decide⟩
    · obtain ⟨w8, hw8⟩ : ∃ x', x' = w9 := ⟨_, rfl⟩
      have D8 := (show Hid (DnW w0 w g v xs w2.heap.size 3 t (.slice a6 rs.length c6) ⟨#[]⟩ w8) from (by have := D9.out; rwa [← hw8] at this))
      obtain ⟨⟨m0, m1, m2, m3, m4, m5⟩, j1⟩ := six_at D8.out.bN
      obtain ⟨⟨r0, r1, r2, r3, r4, r5⟩, z0, z1, z2, z3, z4, z5⟩ := six_at D8.out.bR
      have ltN := blk_lt D8.out.bN
      have ltR := blk_lt D8.out.bR
      have hown8 : w8.ownsRow w.heap.size 115 2 (.slice a6 rs.length c6) (rs : List (ByteArray × ByteArray)).length (pairCells rs) := (by rw [hw8]; exact HO9.out)
      have HOWN := (show Hid (w8.ownsRow w.heap.size 115 2 (.slice a6 rs.length c6) (rs : List (ByteArray × ByteArray)).length (pairCells rs)) from hown8)
      clear j1 hown8 
      have hne8 : w2.heap.size ≠ w.heap.size := by omega
      go_upto_region 14 with fail
      rw [← hw8]
      clear hw8
      go_wp2
      have hput := six_put D8.out.bR (.int .i64 3) (.string t) (.slice a6 rs.length c6) (.string ⟨#[]⟩) (.int .i64 (-1)) (.slice none 0 0)
      refine bodyPost_ret (results_cell_row rfl _ _ w.heap.size 36 _ (0, 0) _ rfl hput Tryz.underlying36 rfl rfl) rfl ?_
      have hsx := six_by w8 w.heap.size (.int .i64 3) (.string t) (.slice a6 rs.length c6) (.string ⟨#[]⟩) (.int .i64 (-1)) (.slice none 0 0)
      obtain ⟨cur8, gr8⟩ := D8.out.fin hgl hsx
      exact ⟨3, t, (.slice a6 rs.length c6), rs, ⟨#[]⟩, rfl, hts, by decide, kept_of_type HOWN.out hsx (fun r e => by cases e; exact ⟨_, _, _, D8.out.bR, by decide⟩), hl6, HZ6.out, cur8, gr8, by decide, by decide⟩
  · obtain ⟨w3, hw3⟩ : ∃ x', x' = w2.alloc (.cells #[.int .i64 4, .string ⟨#[]⟩, (.slice none 0 0), .string ⟨#[]⟩, .int .i64 (-1), .slice none 0 0] 36) := ⟨_, rfl⟩
    have D0 := (show Hid (DnW w0 w g v xs w2.heap.size 4 ⟨#[]⟩ (.slice none 0 0) ⟨#[]⟩ w3) from BASE.out 4 w3 hw3)
    have hs3 : w3.heap.size = w2.heap.size + 1 := by rw [hw3, World.size_alloc]
    have HS3 := (show Hid _ from hs3)
    clear hs3
    obtain ⟨⟨n00, n01, n02, n03, n04, n05⟩, zz0, zz1, zz2, zz3, zz4, zz5⟩ := six_at D0.out.bN
    have hl0 := blk_lt D0.out.bN
    go_wp2_with fail
    go_at_call 66
    rw [← hw3, ← HS3.out]
    refine (pickS_any D0.out.cur HB.out nodeTexts4 (by decide) (by decide) _ rfl 4 rfl).mono ?_
    rintro e w4 ⟨t, rfl, ht, k4, g4⟩
    have hts := nodeTexts4_small t ht
    have D1 := (show Hid (DnW w0 w g v xs w2.heap.size 4 ⟨#[]⟩ (.slice none 0 0) ⟨#[]⟩ w4) from D0.out.next hgl k4 g4)
    obtain ⟨⟨n10, n11, n12, n13, n14, n15⟩, y0, y1, y2, y3, y4, y5⟩ := six_at D1.out.bN
    have hl1 := blk_lt D1.out.bN
    have D2 := (show Hid (DnW w0 w g v xs w2.heap.size 4 ⟨#[]⟩ (.slice none 0 0) t (w4.setCell ⟨w2.heap.size, 3, none⟩ (.string t))) from D1.out.set hgl rfl)
    clear k4 g4 ht hw3 n00 n01 n02 n03 n04 n05 zz0 zz1 zz2 zz3 zz4 zz5
    obtain ⟨w8, hw8⟩ : ∃ x', x' = (w4.setCell ⟨w2.heap.size, 3, none⟩ (.string t)) := ⟨_, rfl⟩
    have D8 := (show Hid (DnW w0 w g v xs w2.heap.size 4 ⟨#[]⟩ (.slice none 0 0) t w8) from (by have := D2.out; rwa [← hw8] at this))
    obtain ⟨⟨m0, m1, m2, m3, m4, m5⟩, j1⟩ := six_at D8.out.bN
    obtain ⟨⟨r0, r1, r2, r3, r4, r5⟩, z0, z1, z2, z3, z4, z5⟩ := six_at D8.out.bR
    have ltN := blk_lt D8.out.bN
    have ltR := blk_lt D8.out.bR
    have hown8 : w8.ownsRow w.heap.size 115 2 (.slice none 0 0) ([] : List (ByteArray × ByteArray)).length (pairCells []) := World.ownsRow_nil _ _ _ _
    have HOWN := (show Hid (w8.ownsRow w.heap.size 115 2 (.slice none 0 0) ([] : List (ByteArray × ByteArray)).length (pairCells [])) from hown8)
    clear j1 hown8 
    have hne8 : w2.heap.size ≠ w.heap.size := by omega
    go_upto_region 14 with fail
    rw [← hw8]
    clear hw8
    go_wp2
    have hput := six_put D8.out.bR (.int .i64 4) (.string ⟨#[]⟩) (.slice none 0 0) (.string t) (.int .i64 (-1)) (.slice none 0 0)
    refine bodyPost_ret (results_cell_row rfl _ _ w.heap.size 36 _ (0, 0) _ rfl hput Tryz.underlying36 rfl rfl) rfl ?_
    have hsx := six_by w8 w.heap.size (.int .i64 4) (.string ⟨#[]⟩) (.slice none 0 0) (.string t) (.int .i64 (-1)) (.slice none 0 0)
    obtain ⟨cur8, gr8⟩ := D8.out.fin hgl hsx
    exact ⟨4, ⟨#[]⟩, (.slice none 0 0), [], t, rfl, by decide, hts, kept_of_type HOWN.out hsx (fun r e => by cases e; exact ⟨_, _, _, D8.out.bR, by decide⟩), by decide, (fun p hp => by cases hp), cur8, gr8, by decide, by decide⟩
  · obtain ⟨w3, hw3⟩ : ∃ x', x' = w2.alloc (.cells #[.int .i64 5, .string ⟨#[]⟩, (.slice none 0 0), .string ⟨#[]⟩, .int .i64 (-1), .slice none 0 0] 36) := ⟨_, rfl⟩
    have D0 := (show Hid (DnW w0 w g v xs w2.heap.size 5 ⟨#[]⟩ (.slice none 0 0) ⟨#[]⟩ w3) from BASE.out 5 w3 hw3)
    have hs3 : w3.heap.size = w2.heap.size + 1 := by rw [hw3, World.size_alloc]
    have HS3 := (show Hid _ from hs3)
    clear hs3
    obtain ⟨⟨n00, n01, n02, n03, n04, n05⟩, zz0, zz1, zz2, zz3, zz4, zz5⟩ := six_at D0.out.bN
    have hl0 := blk_lt D0.out.bN
    go_wp2_with fail
    go_at_call 172
    rw [← hw3]
    refine (drawText_any D0.out.cur HB.out).mono ?_
    rintro e w4 ⟨t, rfl, hts0, k4, g4⟩
    have hts : t.size ≤ 100 := by omega
    have D1 := (show Hid (DnW w0 w g v xs w2.heap.size 5 ⟨#[]⟩ (.slice none 0 0) ⟨#[]⟩ w4) from D0.out.next hgl k4 g4)
    obtain ⟨⟨n10, n11, n12, n13, n14, n15⟩, y0, y1, y2, y3, y4, y5⟩ := six_at D1.out.bN
    have hl1 := blk_lt D1.out.bN
    have D2 := (show Hid (DnW w0 w g v xs w2.heap.size 5 ⟨#[]⟩ (.slice none 0 0) t (w4.setCell ⟨w2.heap.size, 3, none⟩ (.string t))) from D1.out.set hgl rfl)
    clear k4 g4 hw3 hts0 n00 n01 n02 n03 n04 n05 zz0 zz1 zz2 zz3 zz4 zz5
    obtain ⟨w8, hw8⟩ : ∃ x', x' = (w4.setCell ⟨w2.heap.size, 3, none⟩ (.string t)) := ⟨_, rfl⟩
    have D8 := (show Hid (DnW w0 w g v xs w2.heap.size 5 ⟨#[]⟩ (.slice none 0 0) t w8) from (by have := D2.out; rwa [← hw8] at this))
    obtain ⟨⟨m0, m1, m2, m3, m4, m5⟩, j1⟩ := six_at D8.out.bN
    obtain ⟨⟨r0, r1, r2, r3, r4, r5⟩, z0, z1, z2, z3, z4, z5⟩ := six_at D8.out.bR
    have ltN := blk_lt D8.out.bN
    have ltR := blk_lt D8.out.bR
    have hown8 : w8.ownsRow w.heap.size 115 2 (.slice none 0 0) ([] : List (ByteArray × ByteArray)).length (pairCells []) := World.ownsRow_nil _ _ _ _
    have HOWN := (show Hid (w8.ownsRow w.heap.size 115 2 (.slice none 0 0) ([] : List (ByteArray × ByteArray)).length (pairCells [])) from hown8)
    clear j1 hown8 
    have hne8 : w2.heap.size ≠ w.heap.size := by omega
    go_upto_region 14 with fail
    rw [← hw8]
    clear hw8
    go_wp2
    have hput := six_put D8.out.bR (.int .i64 5) (.string ⟨#[]⟩) (.slice none 0 0) (.string t) (.int .i64 (-1)) (.slice none 0 0)
    refine bodyPost_ret (results_cell_row rfl _ _ w.heap.size 36 _ (0, 0) _ rfl hput Tryz.underlying36 rfl rfl) rfl ?_
    have hsx := six_by w8 w.heap.size (.int .i64 5) (.string ⟨#[]⟩) (.slice none 0 0) (.string t) (.int .i64 (-1)) (.slice none 0 0)
    obtain ⟨cur8, gr8⟩ := D8.out.fin hgl hsx
    exact ⟨5, ⟨#[]⟩, (.slice none 0 0), [], t, rfl, by decide, hts, kept_of_type HOWN.out hsx (fun r e => by cases e; exact ⟨_, _, _, D8.out.bR, by decide⟩), by decide, (fun p hp => by cases hp), cur8, gr8, by decide, by decide⟩
end Go.Proofs.YtogdbjafibejdaaGreat
