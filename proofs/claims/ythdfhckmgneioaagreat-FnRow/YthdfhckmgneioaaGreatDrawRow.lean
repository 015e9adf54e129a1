/- The draw of a row: l10DrawRow. No condition. -/
import Derived.Test.YthdfhckmgneioaaGreatDrawW
namespace Go.Proofs.YthdfhckmgneioaaGreat
open Go.RowKit
set_option maxRecDepth 100000
set_option linter.unusedVariables false

structure DrW (w0 w : World) (g : Nat) (cv : Value) (xs : List Int) (T M : Nat) (nv : Value) (ns : List PNode) (r rc : Nat) (row : List Int) (W : World) : Prop where
  cur : Cur w0 g cv xs W
  bR : W.heap[w.heap.size]? = some (.cells #[.slice none 0 0] 26 (0, 0))
  bT : W.heap[T]? = some (.cells #[nv] 26 (0, 0))
  bM : W.heap[M]? = some (.cells namesArr 9 (0, 0))
  own : OwnR w.heap.size W nv ns r
  rw : Own w.heap.size 3 .i64 W (.slice (some ⟨r, 0, none⟩) row.length rc) row
  gr : w.grownBy W (some g)
theorem grown_both {w w1 w2 : World} {g : Nat} (h : w.grownBy w1 (some g)) (k : w1.grownBy w2 (some g)) : w.grownBy w2 (some g) :=
  ⟨k.os.trans h.os, k.tape.trans h.tape, k.output.trans h.output, Nat.le_trans h.size k.size, fun j hj hne => (k.block j (Nat.lt_of_lt_of_le hj h.size) hne).trans (h.block j hj hne)⟩
section
variable {w0 w W W' : World} {g : Nat} {cv : Value} {xs : List Int} {T M : Nat} {nv : Value} {ns : List PNode} {r rc : Nat} {row : List Int}
theorem DrW.cursor (h : DrW w0 w g cv xs T M nv ns r rc row W) (hc : Cur w0 g cv xs W') (hg : W.grownBy W' (some g)) (hgl : g < w.heap.size) (hT : w.heap.size < T) (hM : w.heap.size ≤ M) : DrW w0 w g cv xs T M nv ns r rc row W' :=
  ⟨hc, (hg.block _ (blk_lt h.bR) (fun e => by simp only [Option.some.injEq] at e; omega)).trans h.bR, (hg.block _ (blk_lt h.bT) (fun e => by simp only [Option.some.injEq] at e; omega)).trans h.bT,
    (hg.block _ (blk_lt h.bM) (fun e => by simp only [Option.some.injEq] at e; omega)).trans h.bM, h.own.low hg (fun k e => by cases e; exact hgl), own_low h.rw hg (fun k e => by cases e; exact hgl), grown_both h.gr hg⟩
theorem DrW.below (h : DrW w0 w g cv xs T M nv ns r rc row W) (hb : Below W.heap.size W W') : DrW w0 w g cv xs T M nv ns r rc row W' :=
  ⟨h.cur.below hb, (hb.block _ (blk_lt h.bR)).trans h.bR, (hb.block _ (blk_lt h.bT)).trans h.bT, (hb.block _ (blk_lt h.bM)).trans h.bM, h.own.below hb, h.rw.below hb, grown_below h.gr hb⟩
theorem DrW.rlt (h : DrW w0 w g cv xs T M nv ns r rc row W) : w.heap.size ≤ r ∧ r < W.heap.size := World.ownsRow.lt h.rw r rfl
/-- A new tree in the tree's block. -/
theorem DrW.tree (h : DrW w0 w g cv xs T M nv ns r rc row W) {W5 W6 : World} (b5 : Below W.heap.size W W5) {p : Nat} (hg6 : W5.grownBy W6 (some p)) (hp : W.heap.size ≤ p) {v2 : Value} {ns3 : List PNode} (o6 : OwnN W.heap.size W6 v2 ns3)
    (hgl : g < w.heap.size) (hT : w.heap.size < T) (hM : w.heap.size ≤ M) : DrW w0 w g cv xs T M v2 ns3 r rc row (W6.setCell ⟨T, 0, none⟩ v2) := by
  have h5 := h.below b5
  have hs := b5.size
  have hsw := h.gr.size
  have ltR := blk_lt h.bR
  have ltT := blk_lt h.bT
  have ltM := blk_lt h.bM
  have ltr := h.rlt
  have e6 : ∀ j, j < W.heap.size → W6.heap[j]? = W5.heap[j]? := fun j hj => hg6.block j (by omega) (fun e => by simp only [Option.some.injEq] at e; omega)
  have gT := (e6 T ltT).trans h5.bT
  have hg7 : W6.grownBy (W6.setCell ⟨T, 0, none⟩ v2) (some T) := grown_setCell _ _ _ _
  have hMT : M ≠ T := fun e => by have := h.bM; rw [e, h.bT] at this; simp at this
  have c6 : Cur w0 g cv xs W6 := h5.cur.kept hg6 (fun e => by simp only [Option.some.injEq] at e; have := h.cur.lt; omega) (fun k e => by cases e; have := h.cur.2.2.1.size; omega)
  have rw6 : Own w.heap.size 3 .i64 W6 (.slice (some ⟨r, 0, none⟩) row.length rc) row := World.ownsRow.kept h5.rw hg6 (.inr (fun e => by simp only [Value.ownBlock, Option.some.injEq] at e; omega))
  refine ⟨c6.kept hg7 (fun e => by simp only [Option.some.injEq] at e; omega) (fun k e => by cases e; have := h.cur.1; omega), ?_, setCell_at gT, ?_, ?_, ?_, ?_⟩
  · exact (hg7.block _ (by have := hg6.size; omega) (fun e => by simp only [Option.some.injEq] at e; omega)).trans ((e6 _ ltR).trans h5.bR)
  · exact (hg7.block _ (by have := hg6.size; omega) (fun e => by simp only [Option.some.injEq] at e; exact hMT e)).trans ((e6 _ ltM).trans h5.bM)
  · exact ((o6.toR ltr.2).base hsw).typ hg7 (fun k e => by cases e; exact ⟨_, _, _, gT, by decide, by decide, by decide⟩)
  · exact kept_of_type rw6 hg7 (fun k e => by cases e; exact ⟨_, _, _, gT, by decide⟩)
  · have g5 := h5.gr
    refine ⟨(hg7.os.trans hg6.os).trans g5.os, (hg7.tape.trans hg6.tape).trans g5.tape, (hg7.output.trans hg6.output).trans g5.output, Nat.le_trans g5.size (Nat.le_trans hg6.size hg7.size), fun j hj hne => ?_⟩
    rw [hg7.block j (by have := hg6.size; have := g5.size; omega) (fun e => by simp only [Option.some.injEq] at e; omega), hg6.block j (by have := g5.size; omega) (fun e => by simp only [Option.some.injEq] at e; omega)]
    exact g5.block j hj hne
/-- The row grown. -/
theorem DrW.push (h : DrW w0 w g cv xs T M nv ns r rc row W) (hg : W.grownBy W' (some r)) {r' c' : Nat} {ys : List Int} (o' : Own w.heap.size 3 .i64 W' (.slice (some ⟨r', 0, none⟩) (row.length + ys.length) c') (row ++ ys)) (hr : r' = r ∨ r' = W.heap.size)
    (hgl : g < w.heap.size) (hT : w.heap.size < T) (hM : w.heap.size ≤ M) : DrW w0 w g cv xs T M nv ns r' c' (row ++ ys) W' := by
  obtain ⟨cs, hcs⟩ := own_blk h.rw
  have ltr := h.rlt
  have neT : r ≠ T := fun e => by have := h.bT; rw [← e, hcs] at this; simp at this
  have neR : r ≠ w.heap.size := fun e => by have := h.bR; rw [← e, hcs] at this; simp at this
  have neM : r ≠ M := fun e => by have := h.bM; rw [← e, hcs] at this; simp at this
  have c' := h.cur.kept hg (fun e => by simp only [Option.some.injEq] at e; omega) (fun k e => by cases e; have := h.cur.1; omega)
  refine ⟨c', (hg.block _ (blk_lt h.bR) (fun e => by simp only [Option.some.injEq] at e; exact neR e.symm)).trans h.bR, (hg.block _ (blk_lt h.bT) (fun e => by simp only [Option.some.injEq] at e; exact neT e.symm)).trans h.bT,
    (hg.block _ (blk_lt h.bM) (fun e => by simp only [Option.some.injEq] at e; exact neM e.symm)).trans h.bM, h.own.app hg hcs (hr.imp id (fun e => by omega)), by rw [List.length_append]; exact o', ?_⟩
  have g5 := h.gr
  exact ⟨hg.os.trans g5.os, hg.tape.trans g5.tape, hg.output.trans g5.output, Nat.le_trans g5.size hg.size, fun j hj hne => (hg.block j (by have := g5.size; omega) (fun e => by simp only [Option.some.injEq] at e; omega)).trans (g5.block j hj hne)⟩
/-- The answer's block written. -/
theorem DrW.fin (h : DrW w0 w g cv xs T M nv ns r rc row W) (hgl : g < w.heap.size) (u : Value) : OwnN w.heap.size (W.setCell ⟨w.heap.size, 0, none⟩ u) nv ns ∧ Own w.heap.size 3 .i64 (W.setCell ⟨w.heap.size, 0, none⟩ u) (.slice (some ⟨r, 0, none⟩) row.length rc) row ∧ Cur w0 g cv xs (W.setCell ⟨w.heap.size, 0, none⟩ u) ∧ w.grownBy (W.setCell ⟨w.heap.size, 0, none⟩ u) (some g) := by
  have hg : W.grownBy (W.setCell ⟨w.heap.size, 0, none⟩ u) (some w.heap.size) := grown_setCell _ _ _ _
  refine ⟨h.own.toN.kept hg (fun k e => by cases e; exact ⟨_, _, _, h.bR, by decide, by decide, by decide⟩), kept_of_type h.rw hg (fun k e => by cases e; exact ⟨_, _, _, h.bR, by decide⟩), h.cur.kept hg (fun e => by simp only [Option.some.injEq] at e; omega) (fun k e => by cases e; have := h.cur.1; omega), ?_⟩
  have g5 := h.gr
  exact ⟨hg.os.trans g5.os, hg.tape.trans g5.tape, hg.output.trans g5.output, Nat.le_trans g5.size hg.size, fun j hj hne => (hg.block j (by have := g5.size; omega) (fun e => by simp only [Option.some.injEq] at e; omega)).trans (g5.block j hj hne)⟩
end
theorem draw_res {tmps : Array Value} {w : World} {g : Nat} {a : Option Addr} {n c : Nat} {b : Option Addr} {m d : Nat} (h4 : tmps.getD 2 undef = .pointer (some ⟨g, 0, none⟩)) (h5 : tmps.getD 3 undef = .slice b m d) (hb : w.heap[g]? = some (.cells #[.slice a n c] 26 (0, 0))) :
    (results Tryz.f30 tmps).run Tryz.prog w = .ok (.tuple #[.agg #[.slice a n c], .slice b m d]) w := by
  rw [results_cell_tmp (p := 2) (u := 3) (ty := 26) rfl, h4, h5]
  simp [asAddr, run_loadVar_row w g 26 26 #[.slice a n c] (0, 0) _ hb Tryz.underlying26 rfl rfl, Result.andThen]
theorem par_new {ns : List PNode} {k : Nat} {n : PNode} (h : ns.length = k + 1) {hl : k + 1 < (ns ++ [n]).length} (hn : n.parent = -1 := by rfl) : (ns ++ [n])[k + 1].parent = -1 := by
  rw [List.getElem_append_right (by omega)]
  simp [h, hn]
theorem kids_few {ns : List PNode} {row : List Int} {k : Nat} (h : Drawn ns row k) (hk : k ≤ 1000) {n : PNode} {p : Nat} (hp : p < ns.length) {hl : p < (ns ++ [n]).length} : (ns ++ [n])[p].kids.length ≤ 100000 := by
  rw [List.getElem_append_left hp]
  have := (h.mild _ (List.getElem_mem hp)).2.2.2
  omega
theorem cell_new (w : World) (u : Value) (t : TypeId) : (w.alloc (.cells #[u] t)).cell? ⟨w.heap.size, 0, none⟩ = some u := by
  have := World.alloc_heap_new w (.cells #[u] t)
  simp only [World.cell?, this]; rfl
theorem sv_nil (w : World) : Sv 2 w (.slice none 0 0) (pairCells []) := ⟨none, 0, 0, rfl, rfl, Nat.le_refl _, by decide, fun _ => rfl, fun i hi => absurd hi (Nat.not_lt_zero i)⟩
theorem row_cell {B r n c : Nat} {w : World} {xs : List Int} (h : Own B 3 .i64 w (.slice (some ⟨r, 0, none⟩) n c) xs) (k : Nat) (hk : k < xs.length) : w.cell? ⟨r, k, none⟩ = some (.int .i64 xs[k]) := by
  obtain ⟨a, c', e, _, _, _, hc⟩ := h.sl
  cases e
  obtain ⟨b, off, e2, hcc⟩ := hc k hk
  cases e2
  rw [Nat.zero_add] at hcc
  rw [hcc]
  simp [List.getD_eq_getElem?_getD, hk]
end Go.Proofs.YthdfhckmgneioaaGreat
