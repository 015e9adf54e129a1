/- The specification's l7Node, by the plain reader. No condition. -/
import Derived.Test.YtogdbjafibejdaaGreatY42
import Derived.Test.YtogdbjafibejdaaGreatY38
import Derived.Deep.CutRange
namespace Go.Proofs.YtogdbjafibejdaaGreat
open Go.RowKit
set_option maxRecDepth 100000
set_option linter.unusedVariables false

theorem results_cell_tmp3 {fn : Func} {p u v x : Tmp} {ty : TypeId} (h : fn.results = #[.cell p ty, .tmp u, .tmp v, .tmp x]) (tmps : Array Value) (P : Program) (w : World) :
    (results fn tmps).run P w = ((asAddr (tmps.getD p undef)).run P w).andThen fun a w₁ => ((loadVar ty a).run P w₁).andThen fun y w₂ => .ok (.tuple #[y, tmps.getD u undef, tmps.getD v undef, tmps.getD x undef]) w₂ := by
  simp only [results, h]
  simp [Sem.run_bind, Result.andThen]
theorem node_res {fn : Func} {p u v x : Tmp} (hr : fn.results = #[.cell p 36, .tmp u, .tmp v, .tmp x]) {tmps : Array Value} {w : World} {g : Nat} {a b c d e f r q s : Value} (h4 : tmps.getD p undef = .pointer (some ⟨g, 0, none⟩)) (h5 : tmps.getD u undef = r) (h6 : tmps.getD v undef = q) (h7 : tmps.getD x undef = s) (hb : w.heap[g]? = some (.cells #[a, b, c, d, e, f] 36 (0, 0))) :
    (results fn tmps).run Tryz.prog w = .ok (.tuple #[.agg #[a, b, c, d, e, f], r, q, s]) w := by
  rw [results_cell_tmp3 (p := p) (u := u) (v := v) (x := x) (ty := 36) hr, h4, h5, h6, h7]
  simp [asAddr, run_loadVar_row w g 36 36 #[a, b, c, d, e, f] (0, 0) _ hb Tryz.underlying36 rfl rfl, Result.andThen]
structure NdS (w : World) (row : Array Value) (W : World) : Prop where
  bel : Below w.heap.size w W
  c0 : ∃ z, W.heap[w.heap.size]? = some (.cells z 36 (0, 0)) ∧ z.size = 6
  c1 : W.heap[w.heap.size + 1]? = some (.cells row 36 (0, 0))
theorem NdS.set {w W : World} {row : Array Value} (h : NdS w row W) (j : Nat) (u : Value) : NdS w (row.setIfInBounds j u) (W.setCell ⟨w.heap.size + 1, j, none⟩ u) := by
  obtain ⟨z, hz, hs⟩ := h.c0
  exact ⟨h.bel.setCell (p := ⟨w.heap.size + 1, j, none⟩) (by show w.heap.size ≤ w.heap.size + 1; omega) _, ⟨z, ((grown_setCell W (w.heap.size + 1) j u).block _ (blk_lt hz) (fun e => by injection e with e; omega)).trans hz, hs⟩, setAt h.c1⟩
theorem NdS.below {w W W' : World} {row : Array Value} (h : NdS w row W) (b : Below W.heap.size W W') : NdS w row W' := by
  obtain ⟨z, hz, hs⟩ := h.c0
  exact ⟨h.bel.trans (b.mono h.bel.size), ⟨z, (b.block _ (blk_lt hz)).trans hz, hs⟩, (b.block _ (blk_lt h.c1)).trans h.c1⟩
theorem six_list {z : Array Value} (h : z.size = 6) : ∃ a b c d e f, z = #[a, b, c, d, e, f] := by
  obtain ⟨l⟩ := z
  match l, h with
  | [a, b, c, d, e, f], _ => exact ⟨a, b, c, d, e, f, rfl⟩
def six (W : World) (g : Nat) (a b c d e f : Value) : World := (((((W.setCell ⟨g, 0, none⟩ a).setCell ⟨g, 1, none⟩ b).setCell ⟨g, 2, none⟩ c).setCell ⟨g, 3, none⟩ d).setCell ⟨g, 4, none⟩ e).setCell ⟨g, 5, none⟩ f
theorem six_put2 {W : World} {g : Nat} {z : Array Value} (h : W.heap[g]? = some (.cells z 36 (0, 0))) (hz : z.size = 6) (a b c d e f : Value) : (six W g a b c d e f).heap[g]? = some (.cells #[a, b, c, d, e, f] 36 (0, 0)) ∧ W.grownBy (six W g a b c d e f) (some g) := by
  obtain ⟨z0, z1, z2, z3, z4, z5, rfl⟩ := six_list hz
  have h1 := setAt (k := 0) (u := a) h
  have h2 := setAt (k := 1) (u := b) h1
  have h3 := setAt (k := 2) (u := c) h2
  have h4 := setAt (k := 3) (u := d) h3
  have h5 := setAt (k := 4) (u := e) h4
  have h6 := setAt (k := 5) (u := f) h5
  exact ⟨h6, grown_trans (grown_trans (grown_trans (grown_trans (grown_trans (grown_setCell _ _ _ _) (grown_setCell _ _ _ _)) (grown_setCell _ _ _ _)) (grown_setCell _ _ _ _)) (grown_setCell _ _ _ _)) (grown_setCell _ _ _ _)⟩
def NodE (xs : List Int) (nm : List ByteArray) (i : Nat) (w : World) (e : Ending) (w' : World) : Prop :=
  ((∃ n kd j av, rdOne xs nm false i = some (n, kd, j) ∧ e = .returned (.tuple #[.agg #[.int .i64 n.kind, .string n.name, av, .string n.text, .int .i64 (-1), .slice none 0 0], .int .i64 (kd : Nat), .int .i64 (j : Nat), .bool true]) ∧ w'.ownsRow w.heap.size 115 2 av n.attrs.length (pairCells n.attrs)) ∨
    (∃ k s a b c t p k1 j1, rdOne xs nm false i = none ∧ e = .returned (.tuple #[.agg #[.int .i64 k, .string s, .slice a b c, .string t, .int .i64 p, .slice none 0 0], .int .i64 k1, .int .i64 j1, .bool false]))) ∧ Below w.heap.size w w'
theorem node_end {w W : World} {a b c d e f : Value} (S : NdS w #[a, b, c, d, e, f] W) : (six W w.heap.size a b c d e f).heap[w.heap.size]? = some (.cells #[a, b, c, d, e, f] 36 (0, 0)) ∧ Below w.heap.size w (six W w.heap.size a b c d e f) ∧ W.grownBy (six W w.heap.size a b c d e f) (some w.heap.size) := by
  obtain ⟨z, hz, hs⟩ := S.c0
  obtain ⟨h1, h2⟩ := six_put2 hz hs a b c d e f
  exact ⟨h1, S.bel.grown h2 S.bel.size (fun r er => by cases er; exact Nat.le_refl _), h2⟩
theorem rdOne_no1 {xs : List Int} {nm : List ByteArray} {st : Bool} {i : Nat} (h : rdP xs i = none) : rdOne xs nm st i = none := by unfold rdOne; rw [h]
theorem rdOne_no2 {xs : List Int} {nm : List ByteArray} {st : Bool} {i k j : Nat} (h : rdP xs i = some (k, j)) (h2 : rdP xs j = none) : rdOne xs nm st i = none := by unfold rdOne; rw [h]; simp only; rw [h2]
theorem rdOne_is {xs : List Int} {nm : List ByteArray} {st : Bool} {i k j kd l : Nat} (h : rdP xs i = some (k, j)) (h2 : rdP xs j = some (kd, l)) : rdOne xs nm st i = (rdFill xs nm st k l).map (fun p => (p.1, kd, p.2)) := by
  unfold rdOne; rw [h]; simp only; rw [h2]; simp only
  rcases rdFill xs nm st k l with _ | ⟨n, q⟩ <;> rfl
theorem one_pairR (w : World) (n v : ByteArray) : Sv 2 (w.alloc (.cells #[.string n, .string v] 115)) (.slice (some ⟨w.heap.size, 0, none⟩) 1 1) (pairCells [(n, v)]) := by
  refine ⟨some ⟨w.heap.size, 0, none⟩, 1, 1, rfl, rfl, Nat.le_refl _, by unfold maxLen; omega, (fun e => by cases e), fun i hi => ⟨w.heap.size, 0, rfl, ?_⟩⟩
  have hi2 : i < 2 := hi
  have hb := World.alloc_heap_new w (.cells #[.string n, .string v] 115)
  rcases (show i = 0 ∨ i = 1 by omega) with rfl | rfl
  · simp only [World.cell?, hb]; rfl
  · simp only [World.cell?, hb]; rfl
def NdA (w : World) (k : Int) (s : ByteArray) (acc : List (ByteArray × ByteArray)) (av : Value) (W : World) : Prop :=
  NdS w #[.int .i64 k, .string s, av, .string ⟨#[]⟩, .int .i64 (-1), .slice none 0 0] W ∧ W.ownsRow w.heap.size 115 2 av acc.length (pairCells acc)
theorem NdA.below {w W W' : World} {k : Int} {s : ByteArray} {acc : List (ByteArray × ByteArray)} {av : Value} (h : NdA w k s acc av W) (b : Below W.heap.size W W') : NdA w k s acc av W' := ⟨h.1.below b, ownsRow_below h.2 b⟩
theorem NdA.kept {w W : World} {k : Int} {s : ByteArray} {acc : List (ByteArray × ByteArray)} {av : Value} {A j : Nat} {u : Value} {cs : Array Value} (h : NdA w k s acc av W) (hA : W.heap[A]? = some (.cells cs 115 (0, 0))) (hlt : ∀ r, av.ownBlock = some r → r ≠ A) (hwA : w.heap.size + 1 < A) : NdA w k s acc av (W.setCell ⟨A, j, none⟩ u) := by
  have g := grown_setCell W A j u
  obtain ⟨z, hz, hs⟩ := h.1.c0
  refine ⟨⟨h.1.bel.setCell (p := ⟨A, j, none⟩) (by show w.heap.size ≤ A; omega) _, ⟨z, (g.block _ (blk_lt hz) (fun e => by injection e with e; omega)).trans hz, hs⟩, (g.block _ (blk_lt h.1.c1) (fun e => by injection e with e; omega)).trans h.1.c1⟩, ?_⟩
  refine h.2.kept g ?_
  rcases h.2.2 with ⟨rfl, _⟩ | ⟨q, cap, cur, rfl, _⟩
  · exact .inl rfl
  · exact .inr (fun e => by cases e; exact hlt _ rfl rfl)
theorem ownsRow_not {B e size n : Nat} {w : World} {v : Value} {xs : List Value} (h : w.ownsRow B e size v n xs) {j : Nat} {cs : Array Value} {t : TypeId} (hj : w.heap[j]? = some (.cells cs t (0, 0))) (ht : t ≠ e) : v.ownBlock ≠ some j := by
  rcases h.2 with ⟨e, _⟩ | ⟨g', cap', cur, e, _, hh, _⟩
  · rw [e]; intro h; cases h
  · rw [e]; intro h
    cases h
    rw [hj] at hh
    cases hh
    exact ht rfl
theorem rk_two2 {w : World} {b : Nat} {u v : Value} {t : TypeId} (h : w.heap[b]? = some (.cells #[u, v] t (0, 0))) : w.cell? ⟨b, 0, none⟩ = some u ∧ w.cell? ⟨b, 1, none⟩ = some v ∧ w.frozen? ⟨b, 0, none⟩ = false ∧ w.frozen? ⟨b, 1, none⟩ = false :=
  ⟨by simp only [World.cell?, h]; rfl, by simp only [World.cell?, h]; rfl, by simp only [World.frozen?, h]; rfl, by simp only [World.frozen?, h]; rfl⟩
theorem ownsRow_attr_kept {w W W' : World} {k : Int} {s : ByteArray} {acc : List (ByteArray × ByteArray)} {av : Value} (h : NdA w k s acc av W) (g : W.grownBy W' (some w.heap.size)) : W'.ownsRow w.heap.size 115 2 av acc.length (pairCells acc) := by
  obtain ⟨z, hz, _⟩ := h.1.c0
  exact kept_of_type h.2 g (fun r e => by cases e; exact ⟨_, _, _, hz, by decide⟩)
theorem NdA.add {w W W1 W9 : World} {k : Int} {s : ByteArray} {acc : List (ByteArray × ByteArray)} {av v9 : Value} {p : ByteArray × ByteArray} (h : NdA w k s acc av W) (b : Below W.heap.size W W1) (o9 : W9.ownsRow w.heap.size 115 2 v9 (acc.length + 1) (pairCells acc ++ pairCells [p])) (g9 : W1.grownBy W9 av.ownBlock) : NdA w k s (acc ++ [p]) v9 (W9.setCell ⟨w.heap.size + 1, 2, none⟩ v9) := by
  have h1 := h.below b
  have kind : ∀ r, av.ownBlock = some r → w.heap.size ≤ r ∧ ∃ cs fr, W1.heap[r]? = some (.cells cs 115 fr) := fun r hr => by
    refine ⟨(World.ownsRow.lt h1.2 r hr).1, ?_⟩
    rcases h1.2.2 with ⟨e, _⟩ | ⟨g', cap', cur, e, _, hh, _⟩
    · rw [e] at hr; cases hr
    · rw [e] at hr; cases hr; exact ⟨_, _, hh⟩
  obtain ⟨z, hz, hs⟩ := h1.1.c0
  have z9 := (g9.block _ (blk_lt hz) (fun e => by obtain ⟨_, c, f, hh⟩ := kind _ e.symm; rw [hz] at hh; cases hh)).trans hz
  have c9 := (g9.block _ (blk_lt h1.1.c1) (fun e => by obtain ⟨_, c, f, hh⟩ := kind _ e.symm; rw [h1.1.c1] at hh; cases hh)).trans h1.1.c1
  have N9 : NdS w #[.int .i64 k, .string s, av, .string ⟨#[]⟩, .int .i64 (-1), .slice none 0 0] W9 := ⟨h1.1.bel.grown g9 h1.1.bel.size (fun r er => (kind r er).1), ⟨z, z9, hs⟩, c9⟩
  refine ⟨N9.set 2 v9, ?_⟩
  rw [pairCells_app] at o9
  rw [List.length_append, List.length_singleton]
  exact kept_of_type o9 (grown_setCell W9 (w.heap.size + 1) 2 v9) (fun r e => by cases e; exact ⟨_, _, _, c9, by decide⟩)
set_option maxHeartbeats 8000000 in
set_option maxRecDepth 100000 in
theorem sl7Node_any {v nv : Value} {xs : List Int} {nm : List ByteArray} {i : Nat} {w : World} (h : Sl .u8 w v xs) (hb : ∀ x ∈ xs, 0 ≤ x ∧ x ≤ 255) (hn : xs.length ≤ 20000) (hs : Sv 1 w nv (nm.map Value.string)) (hnl : nm.length ≤ 1000000000000) (hfs : FitS xs.length nm) :
    Calls Tryz.prog 142 #[v, .int .i64 (i : Int), nv] w fun e w' => NodE xs nm i w e w' := by
  have CG := (show Hid (∀ W (i : Nat), Below w.heap.size w W → Calls Tryz.prog 95 #[v, .int .i64 (i : Int)] W fun e w' => e = .returned (pVal (rdP xs i)) ∧ w' = W) from fun W i b => sgetNum_p (h.below b) hb (by omega))
  have CT := (show Hid (∀ W (i : Nat), Below w.heap.size w W → Calls Tryz.prog 96 #[v, .int .i64 (i : Int)] W fun e w' => e = .returned (xVal (rdX xs i)) ∧ w' = W) from fun W i b => sgetText_x (h.below b) hb (by omega))
  have CM := (show Hid (∀ W (i : Nat), Below w.heap.size w W → Calls Tryz.prog 173 #[v, .int .i64 (i : Int), nv] W fun e w' => e = .returned (xVal (rdM xs nm i)) ∧ w' = W) from fun W i b => sl7Name_any (h.below b) hb (by omega) (hs.below b) hnl)
  have HB := (show Hid _ from hb)
  have HFS := (show Hid _ from hfs)
  obtain ⟨a, ca, rfl, _, _, _, _⟩ := h
  obtain ⟨sa, sn, sc, rfl⟩ : ∃ a n c, nv = .slice a n c := by obtain ⟨a, n, c, e, _⟩ := hs; exact ⟨a, n, c, e⟩
  obtain ⟨ia, hia, hza0, hza1, hza2⟩ := info_parts Tryz.infoAttrRow
  obtain ⟨w2, hw2⟩ : ∃ y, y = (w.alloc (.cells #[.int .i64 0, .string ⟨#[]⟩, .slice none 0 0, .string ⟨#[]⟩, .int .i64 0, .slice none 0 0] 36)).alloc (.cells #[.int .i64 0, .string ⟨#[]⟩, .slice none 0 0, .string ⟨#[]⟩, .int .i64 (-1), .slice none 0 0] 36) := ⟨_, rfl⟩
  have s2 : NdS w #[.int .i64 0, .string ⟨#[]⟩, .slice none 0 0, .string ⟨#[]⟩, .int .i64 (-1), .slice none 0 0] w2 := by
    refine ⟨by rw [hw2]; exact ((Below.refl _ w).alloc (Nat.le_refl _) _).alloc (by simp) _, ⟨_, by rw [hw2, Below.heap_alloc _ _ _ (by simp)]; exact World.alloc_heap_new _ _, rfl⟩, ?_⟩
    rw [hw2]
    have := World.alloc_heap_new (w.alloc (.cells #[.int .i64 0, .string ⟨#[]⟩, .slice none 0 0, .string ⟨#[]⟩, .int .i64 0, .slice none 0 0] 36)) (.cells #[.int .i64 0, .string ⟨#[]⟩, .slice none 0 0, .string ⟨#[]⟩, .int .i64 (-1), .slice none 0 0] 36)
    rwa [World.size_alloc] at this
  have S2 := (show Hid (NdS w _ w2) from s2)
  have BD := (show Hid (Below w.heap.size w w2) from s2.bel)
  clear hb hs hfs s2
  go_enter Tryz.func142, Tryz.ntmps142
  go_upto_region 2 with fail
  rw [← hw2]
  clear hw2
  cases h1 : rdP xs i with
  | none =>
    have HR := (show Hid (rdOne xs nm false i = none) from rdOne_no1 h1)
    obtain ⟨z0, hz0', hzs'⟩ := S2.out.c0
    obtain ⟨z1, z2, z3, z4, z5, z6, rfl⟩ := six_list hzs'
    obtain ⟨⟨q0, q1, q2, q3, q4, q5⟩, ⟨y0, y1, y2, y3, y4, y5⟩⟩ := six_at hz0'
    obtain ⟨⟨n0, n1, n2, n3, n4, n5⟩, ⟨x0, x1, x2, x3, x4, x5⟩⟩ := six_at S2.out.c1
    have lq := blk_lt hz0'
    have ln := blk_lt S2.out.c1
    clear hz0' hzs'
    go_wp2_with fail
    go_at_call 95
    refine Calls.mono (CG.out w2 i BD.out) ?_
    rintro e wf ⟨rfl, ew⟩
    replace ew := ew.symm
    subst ew
    rw [h1]
    simp only [pVal]
    clear h1
    go_wp2_with fail
    go_at_call 95
    refine Calls.mono (CG.out w2 0 BD.out) ?_
    rintro e wf ⟨rfl, ew⟩
    replace ew := ew.symm
    subst ew
    cases h2 : rdP xs 0 with
    | none =>
      simp only [pVal]
      clear h2
      have S3 := (show Hid (NdS w #[.int .i64 0, .string ⟨#[]⟩, .slice none 0 0, .string ⟨#[]⟩, .int .i64 (-1), .slice none 0 0] (w2.setCell ⟨w.heap.size + 1, 0, none⟩ (.int .i64 0))) from S2.out.set 0 (.int .i64 0))
      have H9 := (show Hid _ from node_end S3.out)
      go_wp2
      refine bodyPost_ret (node_res rfl rfl rfl rfl rfl H9.out.1) rfl ?_
      exact ⟨.inr ⟨_, _, _, _, _, _, _, _, _, HR.out, rfl⟩, H9.out.2.1⟩
    | some p =>
      obtain ⟨kk, jj⟩ := p
      simp only [pVal]
      clear h2
      have S3 := (show Hid (NdS w #[.int .i64 0, .string ⟨#[]⟩, .slice none 0 0, .string ⟨#[]⟩, .int .i64 (-1), .slice none 0 0] (w2.setCell ⟨w.heap.size + 1, 0, none⟩ (.int .i64 0))) from S2.out.set 0 (.int .i64 0))
      have H9 := (show Hid _ from node_end S3.out)
      go_wp2
      refine bodyPost_ret (node_res rfl rfl rfl rfl rfl H9.out.1) rfl ?_
      exact ⟨.inr ⟨_, _, _, _, _, _, _, _, _, HR.out, rfl⟩, H9.out.2.1⟩
  | some p =>
    obtain ⟨k, j⟩ := p
    have HP1 := (show Hid (rdP xs i = some (k, j)) from h1)
    have hk1 := rdP_some h1 HB.out
    obtain ⟨z0, hz0', hzs'⟩ := S2.out.c0
    obtain ⟨z1, z2, z3, z4, z5, z6, rfl⟩ := six_list hzs'
    obtain ⟨⟨q0, q1, q2, q3, q4, q5⟩, ⟨y0, y1, y2, y3, y4, y5⟩⟩ := six_at hz0'
    obtain ⟨⟨n0, n1, n2, n3, n4, n5⟩, ⟨x0, x1, x2, x3, x4, x5⟩⟩ := six_at S2.out.c1
    have lq := blk_lt hz0'
    have ln := blk_lt S2.out.c1
    clear hz0' hzs'
    go_wp2_with fail
    go_at_call 95
    refine Calls.mono (CG.out w2 i BD.out) ?_
    rintro e wf ⟨rfl, ew⟩
    replace ew := ew.symm
    subst ew
    rw [h1]
    simp only [pVal]
    clear h1
    go_wp2_with fail
    go_at_call 95
    refine Calls.mono (CG.out w2 j BD.out) ?_
    rintro e wf ⟨rfl, ew⟩
    replace ew := ew.symm
    subst ew
    obtain ⟨w3, hw3⟩ : ∃ z, z = w2.setCell ⟨w.heap.size + 1, 0, none⟩ (.int .i64 (k : Int)) := ⟨_, rfl⟩
    have S3 := (show Hid (NdS w #[.int .i64 (k : Int), .string ⟨#[]⟩, .slice none 0 0, .string ⟨#[]⟩, .int .i64 (-1), .slice none 0 0] w3) from (by rw [hw3]; exact S2.out.set 0 (.int .i64 (k : Int)) : NdS w #[.int .i64 (k : Int), .string ⟨#[]⟩, .slice none 0 0, .string ⟨#[]⟩, .int .i64 (-1), .slice none 0 0] w3))
    have B3 := (show Hid (Below w.heap.size w w3) from S3.out.bel)
    cases h2 : rdP xs j with
    | none =>
      have HR := (show Hid (rdOne xs nm false i = none) from rdOne_no2 HP1.out h2)
      simp only [pVal]
      clear h2
      go_upto_region 5 with fail
      rw [← hw3]
      clear hw3 q0 q1 q2 q3 q4 q5 y0 y1 y2 y3 y4 y5 n0 n1 n2 n3 n4 n5 x0 x1 x2 x3 x4 x5 lq ln z1 z2 z3 z4 z5 z6
      obtain ⟨z0, hz0', hzs'⟩ := S3.out.c0
      obtain ⟨z1, z2, z3, z4, z5, z6, rfl⟩ := six_list hzs'
      obtain ⟨⟨q0, q1, q2, q3, q4, q5⟩, ⟨y0, y1, y2, y3, y4, y5⟩⟩ := six_at hz0'
      obtain ⟨⟨n0, n1, n2, n3, n4, n5⟩, ⟨x0, x1, x2, x3, x4, x5⟩⟩ := six_at S3.out.c1
      have lq := blk_lt hz0'
      have ln := blk_lt S3.out.c1
      clear hz0' hzs'
      have H9 := (show Hid _ from node_end S3.out)
      go_wp2
      refine bodyPost_ret (node_res rfl rfl rfl rfl rfl H9.out.1) rfl ?_
      exact ⟨.inr ⟨_, _, _, _, _, _, _, _, _, HR.out, rfl⟩, H9.out.2.1⟩
    | some p =>
      obtain ⟨kd, l⟩ := p
      have HR := (show Hid (rdOne xs nm false i = (rdFill xs nm false k l).map (fun p => (p.1, kd, p.2))) from rdOne_is HP1.out h2)
      have hk2 := rdP_some h2 HB.out
      simp only [pVal]
      clear h2
      go_upto_region 5 with fail
      rw [← hw3]
      clear hw3 q0 q1 q2 q3 q4 q5 y0 y1 y2 y3 y4 y5 n0 n1 n2 n3 n4 n5 x0 x1 x2 x3 x4 x5 lq ln z1 z2 z3 z4 z5 z6
      obtain ⟨z0, hz0', hzs'⟩ := S3.out.c0
      obtain ⟨z1, z2, z3, z4, z5, z6, rfl⟩ := six_list hzs'
      obtain ⟨⟨q0, q1, q2, q3, q4, q5⟩, ⟨y0, y1, y2, y3, y4, y5⟩⟩ := six_at hz0'
      obtain ⟨⟨n0, n1, n2, n3, n4, n5⟩, ⟨x0, x1, x2, x3, x4, x5⟩⟩ := six_at S3.out.c1
      have lq := blk_lt hz0'
      have ln := blk_lt S3.out.c1
      clear hz0' hzs'
      by_cases e2 : k = 2
      · subst e2
        have HR2 := (show Hid (rdOne xs nm false i = (rdFill xs nm false 2 l).map (fun p => (p.1, kd, p.2))) from HR.out)
        go_wp2_with fail
        go_at_call 173
        refine Calls.mono (CM.out w3 l B3.out) ?_
        rintro e wf ⟨rfl, ew⟩
        replace ew := ew.symm
        subst ew
        cases h3 : rdM xs nm l with
        | none =>
          have HF := (show Hid (rdOne xs nm false i = none) from (by rw [HR2.out]; simp [rdFill, h3] : rdOne xs nm false i = none))
          simp only [xVal]
          clear h3
          have S4 := (show Hid (NdS w #[.int .i64 2, .string ⟨#[]⟩, .slice none 0 0, .string ⟨#[]⟩, .int .i64 (-1), .slice none 0 0] (w3.setCell ⟨w.heap.size + 1, 1, none⟩ (.string ⟨#[]⟩))) from S3.out.set 1 (.string ⟨#[]⟩))
          go_upto_region 12 with fail
          obtain ⟨w5, hw5⟩ : ∃ z, z = w3.setCell ⟨w.heap.size + 1, 1, none⟩ (.string ⟨#[]⟩) := ⟨_, rfl⟩
          rw [← hw5] at S4
          rw [← hw5]
          clear hw5 q0 q1 q2 q3 q4 q5 y0 y1 y2 y3 y4 y5 n0 n1 n2 n3 n4 n5 x0 x1 x2 x3 x4 x5 lq ln z1 z2 z3 z4 z5 z6
          go_wp2_with fail
          go_loopw [1, 12, 16] (fun a o i wr => a = .int .i64 0 ∧ o = .bool false ∧ i = .int .i64 0 ∧ Hid (wr = w5)) (fun _ _ _ _ => 0)
          case atStart => exact ⟨rfl, rfl, rfl, rfl⟩
          case round =>
            obtain ⟨rfl, rfl, rfl, hw⟩ := hrel
            have ew := hw.out
            clear hw
            subst ew
            obtain ⟨z0, hz0', hzs'⟩ := S4.out.c0
            obtain ⟨z1, z2, z3, z4, z5, z6, rfl⟩ := six_list hzs'
            obtain ⟨⟨q0, q1, q2, q3, q4, q5⟩, ⟨y0, y1, y2, y3, y4, y5⟩⟩ := six_at hz0'
            obtain ⟨⟨n0, n1, n2, n3, n4, n5⟩, ⟨x0, x1, x2, x3, x4, x5⟩⟩ := six_at S4.out.c1
            have lq := blk_lt hz0'
            have ln := blk_lt S4.out.c1
            clear hz0' hzs'
            have H9 := (show Hid _ from node_end S4.out)
            go_wp2
            refine bodyPost_ret (node_res rfl rfl rfl rfl rfl H9.out.1) rfl ?_
            exact ⟨.inr ⟨_, _, _, _, _, _, _, _, _, HF.out, rfl⟩, H9.out.2.1⟩
        | some p =>
          obtain ⟨s, j3⟩ := p
          have HF := (show Hid (rdOne xs nm false i = some (⟨2, s, [], ⟨#[]⟩, -1, []⟩, kd, j3)) from (by rw [HR2.out]; simp [rdFill, h3] : rdOne xs nm false i = some (⟨2, s, [], ⟨#[]⟩, -1, []⟩, kd, j3)))
          simp only [xVal]
          clear h3
          have S4 := (show Hid (NdS w #[.int .i64 2, .string s, .slice none 0 0, .string ⟨#[]⟩, .int .i64 (-1), .slice none 0 0] (w3.setCell ⟨w.heap.size + 1, 1, none⟩ (.string s))) from S3.out.set 1 (.string s))
          go_upto_region 12 with fail
          obtain ⟨w5, hw5⟩ : ∃ z, z = w3.setCell ⟨w.heap.size + 1, 1, none⟩ (.string s) := ⟨_, rfl⟩
          rw [← hw5] at S4
          rw [← hw5]
          clear hw5 q0 q1 q2 q3 q4 q5 y0 y1 y2 y3 y4 y5 n0 n1 n2 n3 n4 n5 x0 x1 x2 x3 x4 x5 lq ln z1 z2 z3 z4 z5 z6
          go_wp2_with fail
          go_loopw [1, 12, 16] (fun a o i wr => a = .int .i64 (j3 : Int) ∧ o = .bool true ∧ i = .int .i64 0 ∧ Hid (wr = w5)) (fun _ _ _ _ => 0)
          case atStart => exact ⟨rfl, rfl, rfl, rfl⟩
          case round =>
            obtain ⟨rfl, rfl, rfl, hw⟩ := hrel
            have ew := hw.out
            clear hw
            subst ew
            obtain ⟨z0, hz0', hzs'⟩ := S4.out.c0
            obtain ⟨z1, z2, z3, z4, z5, z6, rfl⟩ := six_list hzs'
            obtain ⟨⟨q0, q1, q2, q3, q4, q5⟩, ⟨y0, y1, y2, y3, y4, y5⟩⟩ := six_at hz0'
            obtain ⟨⟨n0, n1, n2, n3, n4, n5⟩, ⟨x0, x1, x2, x3, x4, x5⟩⟩ := six_at S4.out.c1
            have lq := blk_lt hz0'
            have ln := blk_lt S4.out.c1
            clear hz0' hzs'
            have H9 := (show Hid _ from node_end S4.out)
            go_wp2
            refine bodyPost_ret (node_res rfl rfl rfl rfl rfl H9.out.1) rfl ?_
            exact ⟨.inl ⟨_, _, _, _, HF.out, rfl, World.ownsRow_nil _ _ _ _⟩, H9.out.2.1⟩
      by_cases e4 : k = 4
      · subst e4
        have HR2 := (show Hid (rdOne xs nm false i = (rdFill xs nm false 4 l).map (fun p => (p.1, kd, p.2))) from HR.out)
        go_wp2_with fail
        go_at_call 96
        refine Calls.mono (CT.out w3 l B3.out) ?_
        rintro e wf ⟨rfl, ew⟩
        replace ew := ew.symm
        subst ew
        cases h3 : rdX xs l with
        | none =>
          have HF := (show Hid (rdOne xs nm false i = none) from (by rw [HR2.out]; simp [rdFill, h3] : rdOne xs nm false i = none))
          simp only [xVal]
          clear h3
          have S4 := (show Hid (NdS w #[.int .i64 4, .string ⟨#[]⟩, .slice none 0 0, .string ⟨#[]⟩, .int .i64 (-1), .slice none 0 0] (w3.setCell ⟨w.heap.size + 1, 3, none⟩ (.string ⟨#[]⟩))) from S3.out.set 3 (.string ⟨#[]⟩))
          go_upto_region 25 with fail
          obtain ⟨w5, hw5⟩ : ∃ z, z = w3.setCell ⟨w.heap.size + 1, 3, none⟩ (.string ⟨#[]⟩) := ⟨_, rfl⟩
          rw [← hw5] at S4
          rw [← hw5]
          clear hw5 q0 q1 q2 q3 q4 q5 y0 y1 y2 y3 y4 y5 n0 n1 n2 n3 n4 n5 x0 x1 x2 x3 x4 x5 lq ln z1 z2 z3 z4 z5 z6
          obtain ⟨z0, hz0', hzs'⟩ := S4.out.c0
          obtain ⟨z1, z2, z3, z4, z5, z6, rfl⟩ := six_list hzs'
          obtain ⟨⟨q0, q1, q2, q3, q4, q5⟩, ⟨y0, y1, y2, y3, y4, y5⟩⟩ := six_at hz0'
          obtain ⟨⟨n0, n1, n2, n3, n4, n5⟩, ⟨x0, x1, x2, x3, x4, x5⟩⟩ := six_at S4.out.c1
          have lq := blk_lt hz0'
          have ln := blk_lt S4.out.c1
          clear hz0' hzs'
          have H9 := (show Hid _ from node_end S4.out)
          go_wp2
          refine bodyPost_ret (node_res rfl rfl rfl rfl rfl H9.out.1) rfl ?_
          exact ⟨.inr ⟨_, _, _, _, _, _, _, _, _, HF.out, rfl⟩, H9.out.2.1⟩
        | some p =>
          obtain ⟨s, j3⟩ := p
          have HF := (show Hid (rdOne xs nm false i = some (⟨4, ⟨#[]⟩, [], s, -1, []⟩, kd, j3)) from (by rw [HR2.out]; simp [rdFill, h3] : rdOne xs nm false i = some (⟨4, ⟨#[]⟩, [], s, -1, []⟩, kd, j3)))
          simp only [xVal]
          clear h3
          have S4 := (show Hid (NdS w #[.int .i64 4, .string ⟨#[]⟩, .slice none 0 0, .string s, .int .i64 (-1), .slice none 0 0] (w3.setCell ⟨w.heap.size + 1, 3, none⟩ (.string s))) from S3.out.set 3 (.string s))
          go_upto_region 25 with fail
          obtain ⟨w5, hw5⟩ : ∃ z, z = w3.setCell ⟨w.heap.size + 1, 3, none⟩ (.string s) := ⟨_, rfl⟩
          rw [← hw5] at S4
          rw [← hw5]
          clear hw5 q0 q1 q2 q3 q4 q5 y0 y1 y2 y3 y4 y5 n0 n1 n2 n3 n4 n5 x0 x1 x2 x3 x4 x5 lq ln z1 z2 z3 z4 z5 z6
          obtain ⟨z0, hz0', hzs'⟩ := S4.out.c0
          obtain ⟨z1, z2, z3, z4, z5, z6, rfl⟩ := six_list hzs'
          obtain ⟨⟨q0, q1, q2, q3, q4, q5⟩, ⟨y0, y1, y2, y3, y4, y5⟩⟩ := six_at hz0'
          obtain ⟨⟨n0, n1, n2, n3, n4, n5⟩, ⟨x0, x1, x2, x3, x4, x5⟩⟩ := six_at S4.out.c1
          have lq := blk_lt hz0'
          have ln := blk_lt S4.out.c1
          clear hz0' hzs'
          have H9 := (show Hid _ from node_end S4.out)
          go_wp2
          refine bodyPost_ret (node_res rfl rfl rfl rfl rfl H9.out.1) rfl ?_
          exact ⟨.inl ⟨_, _, _, _, HF.out, rfl, World.ownsRow_nil _ _ _ _⟩, H9.out.2.1⟩
      by_cases e5 : k = 5
      · subst e5
        have HR2 := (show Hid (rdOne xs nm false i = (rdFill xs nm false 5 l).map (fun p => (p.1, kd, p.2))) from HR.out)
        go_wp2_with fail
        go_at_call 96
        refine Calls.mono (CT.out w3 l B3.out) ?_
        rintro e wf ⟨rfl, ew⟩
        replace ew := ew.symm
        subst ew
        cases h3 : rdX xs l with
        | none =>
          have HF := (show Hid (rdOne xs nm false i = none) from (by rw [HR2.out]; simp [rdFill, h3] : rdOne xs nm false i = none))
          simp only [xVal]
          clear h3
          have S4 := (show Hid (NdS w #[.int .i64 5, .string ⟨#[]⟩, .slice none 0 0, .string ⟨#[]⟩, .int .i64 (-1), .slice none 0 0] (w3.setCell ⟨w.heap.size + 1, 3, none⟩ (.string ⟨#[]⟩))) from S3.out.set 3 (.string ⟨#[]⟩))
          go_upto_region 25 with fail
          obtain ⟨w5, hw5⟩ : ∃ z, z = w3.setCell ⟨w.heap.size + 1, 3, none⟩ (.string ⟨#[]⟩) := ⟨_, rfl⟩
          rw [← hw5] at S4
          rw [← hw5]
          clear hw5 q0 q1 q2 q3 q4 q5 y0 y1 y2 y3 y4 y5 n0 n1 n2 n3 n4 n5 x0 x1 x2 x3 x4 x5 lq ln z1 z2 z3 z4 z5 z6
          obtain ⟨z0, hz0', hzs'⟩ := S4.out.c0
          obtain ⟨z1, z2, z3, z4, z5, z6, rfl⟩ := six_list hzs'
          obtain ⟨⟨q0, q1, q2, q3, q4, q5⟩, ⟨y0, y1, y2, y3, y4, y5⟩⟩ := six_at hz0'
          obtain ⟨⟨n0, n1, n2, n3, n4, n5⟩, ⟨x0, x1, x2, x3, x4, x5⟩⟩ := six_at S4.out.c1
          have lq := blk_lt hz0'
          have ln := blk_lt S4.out.c1
          clear hz0' hzs'
          have H9 := (show Hid _ from node_end S4.out)
          go_wp2
          refine bodyPost_ret (node_res rfl rfl rfl rfl rfl H9.out.1) rfl ?_
          exact ⟨.inr ⟨_, _, _, _, _, _, _, _, _, HF.out, rfl⟩, H9.out.2.1⟩
        | some p =>
          obtain ⟨s, j3⟩ := p
          have HF := (show Hid (rdOne xs nm false i = some (⟨5, ⟨#[]⟩, [], s, -1, []⟩, kd, j3)) from (by rw [HR2.out]; simp [rdFill, h3] : rdOne xs nm false i = some (⟨5, ⟨#[]⟩, [], s, -1, []⟩, kd, j3)))
          simp only [xVal]
          clear h3
          have S4 := (show Hid (NdS w #[.int .i64 5, .string ⟨#[]⟩, .slice none 0 0, .string s, .int .i64 (-1), .slice none 0 0] (w3.setCell ⟨w.heap.size + 1, 3, none⟩ (.string s))) from S3.out.set 3 (.string s))
          go_upto_region 25 with fail
          obtain ⟨w5, hw5⟩ : ∃ z, z = w3.setCell ⟨w.heap.size + 1, 3, none⟩ (.string s) := ⟨_, rfl⟩
          rw [← hw5] at S4
          rw [← hw5]
          clear hw5 q0 q1 q2 q3 q4 q5 y0 y1 y2 y3 y4 y5 n0 n1 n2 n3 n4 n5 x0 x1 x2 x3 x4 x5 lq ln z1 z2 z3 z4 z5 z6
          obtain ⟨z0, hz0', hzs'⟩ := S4.out.c0
          obtain ⟨z1, z2, z3, z4, z5, z6, rfl⟩ := six_list hzs'
          obtain ⟨⟨q0, q1, q2, q3, q4, q5⟩, ⟨y0, y1, y2, y3, y4, y5⟩⟩ := six_at hz0'
          obtain ⟨⟨n0, n1, n2, n3, n4, n5⟩, ⟨x0, x1, x2, x3, x4, x5⟩⟩ := six_at S4.out.c1
          have lq := blk_lt hz0'
          have ln := blk_lt S4.out.c1
          clear hz0' hzs'
          have H9 := (show Hid _ from node_end S4.out)
          go_wp2
          refine bodyPost_ret (node_res rfl rfl rfl rfl rfl H9.out.1) rfl ?_
          exact ⟨.inl ⟨_, _, _, _, HF.out, rfl, World.ownsRow_nil _ _ _ _⟩, H9.out.2.1⟩
      by_cases e3 : k = 3
      rotate_left
      · have HF := (show Hid (rdOne xs nm false i = some (⟨k, ⟨#[]⟩, [], ⟨#[]⟩, -1, []⟩, kd, l)) from (by rw [HR.out]; unfold rdFill; rw [if_neg e2, if_neg e3, if_neg (by omega), if_neg (by simp)]; rfl : rdOne xs nm false i = some (⟨k, ⟨#[]⟩, [], ⟨#[]⟩, -1, []⟩, kd, l)))
        have f2 : ((k : Int) == 2) = false := by simp; omega
        have f3 : ((k : Int) == 3) = false := by simp; omega
        have f4 : ((k : Int) == 4) = false := by simp; omega
        have f5 : ((k : Int) == 5) = false := by simp; omega
        clear e2 e3 e4 e5
        have H9 := (show Hid _ from node_end S3.out)
        go_wp2
        refine bodyPost_ret (node_res rfl rfl rfl rfl rfl H9.out.1) rfl ?_
        exact ⟨.inl ⟨_, _, _, _, HF.out, rfl, World.ownsRow_nil _ _ _ _⟩, H9.out.2.1⟩
      subst e3
      have e33 : ((3 : Nat) : Int) = 3 := rfl
      rw [e33] at S3 n0
      simp only [e33]
      clear e33
      have HR2 := (show Hid (rdOne xs nm false i = (rdFill xs nm false 3 l).map (fun p => (p.1, kd, p.2))) from HR.out)
      go_wp2_with fail
      go_at_call 173
      refine Calls.mono (CM.out w3 l B3.out) ?_
      rintro e wf ⟨rfl, ew⟩
      replace ew := ew.symm
      subst ew
      cases h3 : rdM xs nm l with
      | none =>
        have HF := (show Hid (rdOne xs nm false i = none) from (by rw [HR2.out]; simp [rdFill, h3] : rdOne xs nm false i = none))
        simp only [xVal]
        clear h3
        have S4 := (show Hid (NdS w #[.int .i64 3, .string ⟨#[]⟩, .slice none 0 0, .string ⟨#[]⟩, .int .i64 (-1), .slice none 0 0] (w3.setCell ⟨w.heap.size + 1, 1, none⟩ (.string ⟨#[]⟩))) from S3.out.set 1 (.string ⟨#[]⟩))
        go_upto_region 12 with fail
        obtain ⟨w5, hw5⟩ : ∃ z, z = w3.setCell ⟨w.heap.size + 1, 1, none⟩ (.string ⟨#[]⟩) := ⟨_, rfl⟩
        rw [← hw5] at S4
        rw [← hw5]
        clear hw5 q0 q1 q2 q3 q4 q5 y0 y1 y2 y3 y4 y5 n0 n1 n2 n3 n4 n5 x0 x1 x2 x3 x4 x5 lq ln z1 z2 z3 z4 z5 z6
        go_wp2_with fail
        go_loopw [1, 12, 16] (fun a o i wr => a = .int .i64 0 ∧ o = .bool false ∧ i = .int .i64 0 ∧ Hid (wr = w5)) (fun _ _ _ _ => 0)
        case atStart => exact ⟨rfl, rfl, rfl, rfl⟩
        case round =>
          obtain ⟨rfl, rfl, rfl, hw⟩ := hrel
          have ew := hw.out
          clear hw
          subst ew
          obtain ⟨z0, hz0', hzs'⟩ := S4.out.c0
          obtain ⟨z1, z2, z3, z4, z5, z6, rfl⟩ := six_list hzs'
          obtain ⟨⟨q0, q1, q2, q3, q4, q5⟩, ⟨y0, y1, y2, y3, y4, y5⟩⟩ := six_at hz0'
          obtain ⟨⟨n0, n1, n2, n3, n4, n5⟩, ⟨x0, x1, x2, x3, x4, x5⟩⟩ := six_at S4.out.c1
          have lq := blk_lt hz0'
          have ln := blk_lt S4.out.c1
          clear hz0' hzs'
          have H9 := (show Hid _ from node_end S4.out)
          go_wp2
          refine bodyPost_ret (node_res rfl rfl rfl rfl rfl H9.out.1) rfl ?_
          exact ⟨.inr ⟨_, _, _, _, _, _, _, _, _, HF.out, rfl⟩, H9.out.2.1⟩
      | some p =>
        obtain ⟨s, j3⟩ := p
        have HM3 := (show Hid (rdM xs nm l = some (s, j3)) from h3)
        have hk3 := rdM_some h3 HB.out
        simp only [xVal]
        clear h3
        have S4 := (show Hid (NdS w #[.int .i64 3, .string s, .slice none 0 0, .string ⟨#[]⟩, .int .i64 (-1), .slice none 0 0] (w3.setCell ⟨w.heap.size + 1, 1, none⟩ (.string s))) from S3.out.set 1 (.string s))
        go_upto_region 12 with fail
        obtain ⟨w5, hw5⟩ : ∃ z, z = w3.setCell ⟨w.heap.size + 1, 1, none⟩ (.string s) := ⟨_, rfl⟩
        rw [← hw5] at S4
        rw [← hw5]
        clear hw5 q0 q1 q2 q3 q4 q5 y0 y1 y2 y3 y4 y5 n0 n1 n2 n3 n4 n5 x0 x1 x2 x3 x4 x5 lq ln z1 z2 z3 z4 z5 z6
        have B5 := (show Hid (Below w.heap.size w w5) from S4.out.bel)
        go_wp2_with fail
        go_at_call 95
        refine Calls.mono (CG.out w5 j3 B5.out) ?_
        rintro e wf ⟨rfl, ew⟩
        replace ew := ew.symm
        subst ew
        cases h4 : rdP xs j3 with
        | none =>
          have HF := (show Hid (rdOne xs nm false i = none) from (by rw [HR2.out]; simp [rdFill, HM3.out, h4] : rdOne xs nm false i = none))
          simp only [pVal]
          clear h4
          go_wp2_with fail
          go_loopw [1, 12, 16] (fun a o i wr => a = .int .i64 0 ∧ o = .bool false ∧ i = .int .i64 0 ∧ Hid (wr = w5)) (fun _ _ _ _ => 0)
          case atStart => exact ⟨rfl, rfl, rfl, rfl⟩
          case round =>
            obtain ⟨rfl, rfl, rfl, hw⟩ := hrel
            have ew := hw.out
            clear hw
            subst ew
            obtain ⟨z0, hz0', hzs'⟩ := S4.out.c0
            obtain ⟨z1, z2, z3, z4, z5, z6, rfl⟩ := six_list hzs'
            obtain ⟨⟨q0, q1, q2, q3, q4, q5⟩, ⟨y0, y1, y2, y3, y4, y5⟩⟩ := six_at hz0'
            obtain ⟨⟨n0, n1, n2, n3, n4, n5⟩, ⟨x0, x1, x2, x3, x4, x5⟩⟩ := six_at S4.out.c1
            have lq := blk_lt hz0'
            have ln := blk_lt S4.out.c1
            clear hz0' hzs'
            have H9 := (show Hid _ from node_end S4.out)
            go_wp2
            refine bodyPost_ret (node_res rfl rfl rfl rfl rfl H9.out.1) rfl ?_
            exact ⟨.inr ⟨_, _, _, _, _, _, _, _, _, HF.out, rfl⟩, H9.out.2.1⟩
        | some p =>
          obtain ⟨m, l4⟩ := p
          have hk4 := rdP_some h4 HB.out
          have HF := (show Hid (rdOne xs nm false i = (rdAs xs nm (xs.length + 1 - l4) m l4 []).map (fun q => (⟨3, s, q.1, ⟨#[]⟩, -1, []⟩, kd, q.2))) from (by rw [HR2.out]; simp only [rdFill, HM3.out, h4]; rcases rdAs xs nm (xs.length + 1 - l4) m l4 [] with _ | ⟨rs, q⟩ <;> rfl : rdOne xs nm false i = (rdAs xs nm (xs.length + 1 - l4) m l4 []).map (fun q => (⟨3, s, q.1, ⟨#[]⟩, -1, []⟩, kd, q.2))))
          simp only [pVal]
          clear h4
          go_wp2_with fail
          go_loopw [1, 12, 16] (fun a o i wr => ∃ (j c b : Nat) (acc : List (ByteArray × ByteArray)) (u1 : Option Addr) (u2 u3 : Nat), a = .int .i64 (j : Int) ∧ o = .bool (b == 0) ∧ i = .int .i64 (c : Int) ∧ c ≤ m ∧ Hid (NdA w 3 s acc (.slice u1 u2 u3) wr ∧ acc.length ≤ xs.length + 1 ∧ ((b = 0 ∧ ∃ f, rdAs xs nm f (m - c) j acc = rdAs xs nm (xs.length + 1 - l4) m l4 [] ∧ xs.length < f + j ∧ j ≤ xs.length ∧ acc.length ≤ j) ∨ (b = 1 ∧ rdAs xs nm (xs.length + 1 - l4) m l4 [] = none)))) (fun _ _ i _ => m - (intOf i).toNat)
          case atStart => exact ⟨l4, 0, 0, [], none, 0, 0, rfl, rfl, rfl, Nat.zero_le _, ⟨S4.out, World.ownsRow_nil _ _ _ _⟩, Nat.zero_le _, .inl ⟨rfl, _, rfl, by omega, hk4.2.1, Nat.zero_le _⟩⟩
          case round =>
            obtain ⟨j, c, b, acc, u1, u2, u3, rfl, rfl, rfl, hc, J⟩ := hrel
            by_cases hb1 : b = 1
            · subst hb1
              have HN := (show Hid (rdOne xs nm false i = none) from (by rcases J.out.2.2 with h | h; exact absurd h.1 (by decide); rw [HF.out, h.2]; rfl : rdOne xs nm false i = none))
              have SJ := (show Hid _ from J.out.1.1)
              obtain ⟨z0, hz0', hzs'⟩ := SJ.out.c0
              obtain ⟨z1, z2, z3, z4, z5, z6, rfl⟩ := six_list hzs'
              obtain ⟨⟨q0, q1, q2, q3, q4, q5⟩, ⟨y0, y1, y2, y3, y4, y5⟩⟩ := six_at hz0'
              obtain ⟨⟨n0, n1, n2, n3, n4, n5⟩, ⟨x0, x1, x2, x3, x4, x5⟩⟩ := six_at SJ.out.c1
              have lq := blk_lt hz0'
              have ln := blk_lt SJ.out.c1
              clear hz0' hzs'
              by_cases hcm : c < m
              · have H9 := (show Hid _ from node_end SJ.out)
                have hcm' : (c : Int) < (m : Int) := by omega
                go_wp2
                refine bodyPost_ret (node_res rfl rfl rfl rfl rfl H9.out.1) rfl ?_
                exact ⟨.inr ⟨_, _, _, _, _, _, _, _, _, HN.out, rfl⟩, H9.out.2.1⟩
              · have H9 := (show Hid _ from node_end SJ.out)
                have hcm' : ¬ (c : Int) < (m : Int) := by omega
                go_wp2
                refine bodyPost_ret (node_res rfl rfl rfl rfl rfl H9.out.1) rfl ?_
                exact ⟨.inr ⟨_, _, _, _, _, _, _, _, _, HN.out, rfl⟩, H9.out.2.1⟩
            · obtain rfl : b = 0 := by rcases J.out.2.2 with h | h; exact h.1; exact absurd h.1 hb1
              have HJ := (show Hid (∃ f, rdAs xs nm f (m - c) j acc = rdAs xs nm (xs.length + 1 - l4) m l4 [] ∧ xs.length < f + j ∧ j ≤ xs.length ∧ acc.length ≤ j) from (by rcases J.out.2.2 with h | h; exact h.2; exact absurd h.1 (by decide) : ∃ f, rdAs xs nm f (m - c) j acc = rdAs xs nm (xs.length + 1 - l4) m l4 [] ∧ xs.length < f + j ∧ j ≤ xs.length ∧ acc.length ≤ j))
              have NJ := (show Hid (NdA w 3 s acc (.slice u1 u2 u3) wr) from J.out.1)
              have SJ := (show Hid _ from J.out.1.1)
              have hal : acc.length ≤ xs.length := by obtain ⟨f, _, _, h1, h2⟩ := HJ.out; omega
              by_cases hcm : c < m
              rotate_left
              · obtain rfl : c = m := by omega
                have HN := (show Hid (rdOne xs nm false i = some (⟨3, s, acc, ⟨#[]⟩, -1, []⟩, kd, j)) from (by
                  obtain ⟨f, h, _⟩ := HJ.out
                  rw [HF.out, ← h, Nat.sub_self]
                  cases f <;> rfl : rdOne xs nm false i = some (⟨3, s, acc, ⟨#[]⟩, -1, []⟩, kd, j)))
                have hcm' : ¬ (c : Int) < (c : Int) := by omega
                obtain ⟨z0, hz0', hzs'⟩ := SJ.out.c0
                obtain ⟨z1, z2, z3, z4, z5, z6, rfl⟩ := six_list hzs'
                obtain ⟨⟨q0, q1, q2, q3, q4, q5⟩, ⟨y0, y1, y2, y3, y4, y5⟩⟩ := six_at hz0'
                obtain ⟨⟨n0, n1, n2, n3, n4, n5⟩, ⟨x0, x1, x2, x3, x4, x5⟩⟩ := six_at SJ.out.c1
                have lq := blk_lt hz0'
                have ln := blk_lt SJ.out.c1
                clear hz0' hzs'
                have H9 := (show Hid _ from node_end SJ.out)
                go_wp2
                refine bodyPost_ret (node_res rfl rfl rfl rfl rfl H9.out.1) rfl ?_
                exact ⟨.inl ⟨_, _, _, _, HN.out, rfl, ownsRow_attr_kept NJ.out H9.out.2.2⟩, H9.out.2.1⟩
              have hcm' : (c : Int) < (m : Int) := by omega
              have hwr := NJ.out.1.bel.size
              go_upto_region 18 with fail
              obtain ⟨wA, hwA⟩ : ∃ z, z = wr.alloc (.cells #[.string ⟨#[]⟩, .string ⟨#[]⟩] 115) := ⟨_, rfl⟩
              have bA : Below wr.heap.size wr wA := by rw [hwA]; exact (Below.refl _ _).alloc (Nat.le_refl _) _
              have gA : wA.heap[wr.heap.size]? = some (.cells #[.string ⟨#[]⟩, .string ⟨#[]⟩] 115 (0, 0)) := by rw [hwA]; exact World.alloc_heap_new _ _
              have NA := (show Hid (NdA w 3 s acc (.slice u1 u2 u3) wA) from NdA.below NJ.out bA)
              have BA := (show Hid (Below wr.heap.size wr wA) from bA)
              have BwA := (show Hid (Below w.heap.size w wA) from NA.out.1.bel)
              have hA1 : w.heap.size + 1 < wr.heap.size := blk_lt NJ.out.1.c1
              have HOB := (show Hid (∀ r, (Value.slice u1 u2 u3).ownBlock = some r → r ≠ wr.heap.size) from fun r hr e => by have := (World.ownsRow.lt NJ.out.2 r hr).2; omega)
              obtain ⟨A, hA⟩ : ∃ A, A = wr.heap.size := ⟨_, rfl⟩
              have GA := (show Hid (wA.heap[A]? = some (.cells #[.string ⟨#[]⟩, .string ⟨#[]⟩] 115 (0, 0))) from (by rw [hA]; exact gA : wA.heap[A]? = some (.cells #[.string ⟨#[]⟩, .string ⟨#[]⟩] 115 (0, 0))))
              rw [← hwA, ← hA]
              rw [← hA] at hA1 HOB
              have HA := (show Hid (A = wr.heap.size) from hA)
              clear hwA bA gA hA J SJ
              obtain ⟨t0, t1, f0, f1⟩ := rk_two2 GA.out
              have lA := blk_lt GA.out
              go_wp2_with fail
              go_at_call 173
              refine Calls.mono (CM.out wA j BwA.out) ?_
              rintro e wf ⟨rfl, ew⟩
              replace ew := ew.symm
              subst ew
              cases h5 : rdM xs nm j with
              | none =>
                have HN := (show Hid (rdAs xs nm (xs.length + 1 - l4) m l4 [] = none) from (by
                  obtain ⟨f, h, hf, hj, _⟩ := HJ.out
                  obtain ⟨f', rfl⟩ : ∃ f', f = f' + 1 := ⟨f - 1, by omega⟩
                  obtain ⟨q, hq⟩ : ∃ q, m - c = q + 1 := ⟨m - c - 1, by omega⟩
                  rw [← h, hq]
                  simp [rdAs, h5] : rdAs xs nm (xs.length + 1 - l4) m l4 [] = none))
                simp only [xVal]
                clear h5
                go_upto_region 21 with fail
                obtain ⟨w1, hw1⟩ : ∃ z, z = wA.setCell ⟨A, 0, none⟩ (.string ⟨#[]⟩) := ⟨_, rfl⟩
                have G1 := (show Hid (w1.heap[A]? = some (.cells #[.string ⟨#[]⟩, .string ⟨#[]⟩] 115 (0, 0))) from (by rw [hw1]; exact setCell_at (k := 0) (u := .string ⟨#[]⟩) GA.out : w1.heap[A]? = some (.cells #[.string ⟨#[]⟩, .string ⟨#[]⟩] 115 (0, 0))))
                have N1 := (show Hid (NdA w 3 s acc (.slice u1 u2 u3) w1) from (by rw [hw1]; exact NdA.kept NA.out GA.out HOB.out hA1 : NdA w 3 s acc (.slice u1 u2 u3) w1))
                rw [← hw1]
                clear hw1 t0 t1 f0 f1 lA
                have hN1 := (show Hid _ from N1.out.1)
                obtain ⟨t0, t1, f0, f1⟩ := rk_two2 G1.out
                have lA1 := blk_lt G1.out
                obtain ⟨z0, hz0', hzs'⟩ := hN1.out.c0
                obtain ⟨z1, z2, z3, z4, z5, z6, rfl⟩ := six_list hzs'
                obtain ⟨⟨q0, q1, q2, q3, q4, q5⟩, ⟨y0, y1, y2, y3, y4, y5⟩⟩ := six_at hz0'
                obtain ⟨⟨n0, n1, n2, n3, n4, n5⟩, ⟨x0, x1, x2, x3, x4, x5⟩⟩ := six_at hN1.out.c1
                have lq := blk_lt hz0'
                have ln := blk_lt hN1.out.c1
                clear hz0' hzs'
                have hown1 := N1.out.2
                have hs1 : w.heap.size ≤ w1.heap.size := hN1.out.bel.size
                have hown2 := ownsRow_below hown1 ((Below.refl w1.heap.size w1).alloc (Nat.le_refl _) (.cells #[.string ⟨#[]⟩, .string ⟨#[]⟩] 115))
                have hone := one_pairR w1 ⟨#[]⟩ ⟨#[]⟩
                clear hown1
                go_wp2_with (first
                  | (at_builtin
                     refine wpList_appV _ rfl (.tmp 95) (.tmp 97) 33 rfl w.heap.size 115 ia _ 2 32 Tryz.underlying33 hia hza0 hza1 hza2 rfl (by decide) (.slice u1 u2 u3) _ acc.length 1 (pairCells acc) (pairCells [(⟨#[]⟩, ⟨#[]⟩)]) rfl rfl hown2 hone (pairCells_len _) (pair_oneCell _) (by omega) (by unfold maxLen; omega) (by rw [World.size_alloc]; omega) ?_
                     intro v9 w9 o9 g9
                     have N9 := (show Hid (NdA w 3 s (acc ++ [(⟨#[]⟩, ⟨#[]⟩)]) v9 (w9.setCell ⟨w.heap.size + 1, 2, none⟩ v9)) from NdA.add N1.out ((Below.refl _ _).alloc (Nat.le_refl _) _) o9 g9)
                     obtain ⟨e1, e2, e3, rfl⟩ := own_slice o9
                     have c9 := (g9.block (w.heap.size + 1) (by rw [World.size_alloc]; omega) (fun e => ownsRow_not hown2 (Below.heap_alloc _ _ _ (by omega) |>.trans hN1.out.c1) (by decide) e.symm)).trans (Below.heap_alloc _ _ _ (by omega) |>.trans hN1.out.c1)
                     clear n0 n1 n2 n3 n4 n5 x0 x1 x2 x3 x4 x5
                     obtain ⟨⟨n0, n1, n2, n3, n4, n5⟩, ⟨x0, x1, x2, x3, x4, x5⟩⟩ := six_at c9
                     clear o9 g9 c9)
                  | fail)
                go_roundw
                case rel => exact ⟨0, c + 1, 1, _, _, _, _, rfl, rfl, by go_num, by omega, N9.out, by rw [List.length_append, List.length_singleton]; omega, .inr ⟨rfl, HN.out⟩⟩
                case measure => simp [intOf]; omega
              | some p5 =>
                obtain ⟨sa, j5⟩ := p5
                have hk5 := rdM_some h5 HB.out
                have HM5 := (show Hid (rdM xs nm j = some (sa, j5)) from h5)
                simp only [xVal]
                clear h5
                go_upto_region 20 with fail
                obtain ⟨w1, hw1⟩ : ∃ z, z = wA.setCell ⟨A, 0, none⟩ (.string sa) := ⟨_, rfl⟩
                have G0 := (show Hid (w1.heap[A]? = some (.cells #[.string sa, .string ⟨#[]⟩] 115 (0, 0))) from (by rw [hw1]; exact setCell_at (k := 0) (u := .string sa) GA.out : w1.heap[A]? = some (.cells #[.string sa, .string ⟨#[]⟩] 115 (0, 0))))
                have N0 := (show Hid (NdA w 3 s acc (.slice u1 u2 u3) w1) from (by rw [hw1]; exact NdA.kept NA.out GA.out HOB.out hA1 : NdA w 3 s acc (.slice u1 u2 u3) w1))
                have B1 := (show Hid (Below w.heap.size w w1) from N0.out.1.bel)
                rw [← hw1]
                clear hw1 t0 t1 f0 f1 lA
                obtain ⟨t0, t1, f0, f1⟩ := rk_two2 G0.out
                have lA := blk_lt G0.out
                go_wp2_with fail
                go_at_call 96
                refine Calls.mono (CT.out w1 j5 B1.out) ?_
                rintro e wf ⟨rfl, ew⟩
                replace ew := ew.symm
                subst ew
                cases h6 : rdX xs j5 with
                | none =>
                  have HN := (show Hid (rdAs xs nm (xs.length + 1 - l4) m l4 [] = none) from (by
                    obtain ⟨f, h, hf, hj, _⟩ := HJ.out
                    obtain ⟨f', rfl⟩ : ∃ f', f = f' + 1 := ⟨f - 1, by omega⟩
                    obtain ⟨q, hq⟩ : ∃ q, m - c = q + 1 := ⟨m - c - 1, by omega⟩
                    rw [← h, hq]
                    simp [rdAs, HM5.out, h6] : rdAs xs nm (xs.length + 1 - l4) m l4 [] = none))
                  simp only [xVal]
                  clear h6
                  go_upto_region 21 with fail
                  obtain ⟨w3', hw1⟩ : ∃ z, z = w1.setCell ⟨A, 1, none⟩ (.string ⟨#[]⟩) := ⟨_, rfl⟩
                  have G1 := (show Hid (w3'.heap[A]? = some (.cells #[.string sa, .string ⟨#[]⟩] 115 (0, 0))) from (by rw [hw1]; exact setCell_at (k := 1) (u := .string ⟨#[]⟩) G0.out : w3'.heap[A]? = some (.cells #[.string sa, .string ⟨#[]⟩] 115 (0, 0))))
                  have N1 := (show Hid (NdA w 3 s acc (.slice u1 u2 u3) w3') from (by rw [hw1]; exact NdA.kept N0.out G0.out HOB.out hA1 : NdA w 3 s acc (.slice u1 u2 u3) w3'))
                  rw [← hw1]
                  clear hw1 t0 t1 f0 f1 lA
                  have hN1 := (show Hid _ from N1.out.1)
                  obtain ⟨t0, t1, f0, f1⟩ := rk_two2 G1.out
                  have lA1 := blk_lt G1.out
                  obtain ⟨z0, hz0', hzs'⟩ := hN1.out.c0
                  obtain ⟨z1, z2, z3, z4, z5, z6, rfl⟩ := six_list hzs'
                  obtain ⟨⟨q0, q1, q2, q3, q4, q5⟩, ⟨y0, y1, y2, y3, y4, y5⟩⟩ := six_at hz0'
                  obtain ⟨⟨n0, n1, n2, n3, n4, n5⟩, ⟨x0, x1, x2, x3, x4, x5⟩⟩ := six_at hN1.out.c1
                  have lq := blk_lt hz0'
                  have ln := blk_lt hN1.out.c1
                  clear hz0' hzs'
                  have hown1 := N1.out.2
                  have hs1 : w.heap.size ≤ w3'.heap.size := hN1.out.bel.size
                  have hown2 := ownsRow_below hown1 ((Below.refl w3'.heap.size w3').alloc (Nat.le_refl _) (.cells #[.string sa, .string ⟨#[]⟩] 115))
                  have hone := one_pairR w3' sa ⟨#[]⟩
                  clear hown1
                  go_wp2_with (first
                    | (at_builtin
                       refine wpList_appV _ rfl (.tmp 95) (.tmp 97) 33 rfl w.heap.size 115 ia _ 2 32 Tryz.underlying33 hia hza0 hza1 hza2 rfl (by decide) (.slice u1 u2 u3) _ acc.length 1 (pairCells acc) (pairCells [(sa, ⟨#[]⟩)]) rfl rfl hown2 hone (pairCells_len _) (pair_oneCell _) (by omega) (by unfold maxLen; omega) (by rw [World.size_alloc]; omega) ?_
                       intro v9 w9 o9 g9
                       have N9 := (show Hid (NdA w 3 s (acc ++ [(sa, ⟨#[]⟩)]) v9 (w9.setCell ⟨w.heap.size + 1, 2, none⟩ v9)) from NdA.add N1.out ((Below.refl _ _).alloc (Nat.le_refl _) _) o9 g9)
                       obtain ⟨e1, e2, e3, rfl⟩ := own_slice o9
                       have c9 := (g9.block (w.heap.size + 1) (by rw [World.size_alloc]; omega) (fun e => ownsRow_not hown2 (Below.heap_alloc _ _ _ (by omega) |>.trans hN1.out.c1) (by decide) e.symm)).trans (Below.heap_alloc _ _ _ (by omega) |>.trans hN1.out.c1)
                       clear n0 n1 n2 n3 n4 n5 x0 x1 x2 x3 x4 x5
                       obtain ⟨⟨n0, n1, n2, n3, n4, n5⟩, ⟨x0, x1, x2, x3, x4, x5⟩⟩ := six_at c9
                       clear o9 g9 c9)
                    | fail)
                  go_roundw
                  case rel => exact ⟨0, c + 1, 1, _, _, _, _, rfl, rfl, by go_num, by omega, N9.out, by rw [List.length_append, List.length_singleton]; omega, .inr ⟨rfl, HN.out⟩⟩
                  case measure => simp [intOf]; omega
                | some p6 =>
                  obtain ⟨sb, j6⟩ := p6
                  have hk6 := rdX_some h6 HB.out
                  have HN := (show Hid (∃ f, rdAs xs nm f (m - (c + 1)) j6 (acc ++ [(sa, sb)]) = rdAs xs nm (xs.length + 1 - l4) m l4 [] ∧ xs.length < f + j6 ∧ j6 ≤ xs.length ∧ (acc ++ [(sa, sb)]).length ≤ j6) from (by
                    obtain ⟨f, h, hf, hj, hl⟩ := HJ.out
                    obtain ⟨f', rfl⟩ : ∃ f', f = f' + 1 := ⟨f - 1, by omega⟩
                    obtain ⟨q, hq⟩ : ∃ q, m - c = q + 1 := ⟨m - c - 1, by omega⟩
                    have hq2 : m - (c + 1) = q := by omega
                    rw [hq, rdAs, HM5.out] at h
                    simp only at h
                    rw [h6] at h
                    simp only at h
                    refine ⟨f', by rw [hq2]; exact h, by omega, by omega, by rw [List.length_append, List.length_singleton]; omega⟩ : ∃ f, rdAs xs nm f (m - (c + 1)) j6 (acc ++ [(sa, sb)]) = rdAs xs nm (xs.length + 1 - l4) m l4 [] ∧ xs.length < f + j6 ∧ j6 ≤ xs.length ∧ (acc ++ [(sa, sb)]).length ≤ j6))
                  have hal2 : acc.length + 1 ≤ xs.length := by obtain ⟨f, h, hf, hj, hl⟩ := HN.out; rw [List.length_append, List.length_singleton] at hl; omega
                  simp only [xVal]
                  clear h6
                  go_upto_region 21 with fail
                  obtain ⟨w3', hw1⟩ : ∃ z, z = w1.setCell ⟨A, 1, none⟩ (.string sb) := ⟨_, rfl⟩
                  have G1 := (show Hid (w3'.heap[A]? = some (.cells #[.string sa, .string sb] 115 (0, 0))) from (by rw [hw1]; exact setCell_at (k := 1) (u := .string sb) G0.out : w3'.heap[A]? = some (.cells #[.string sa, .string sb] 115 (0, 0))))
                  have N1 := (show Hid (NdA w 3 s acc (.slice u1 u2 u3) w3') from (by rw [hw1]; exact NdA.kept N0.out G0.out HOB.out hA1 : NdA w 3 s acc (.slice u1 u2 u3) w3'))
                  rw [← hw1]
                  clear hw1 t0 t1 f0 f1 lA
                  have hN1 := (show Hid _ from N1.out.1)
                  obtain ⟨t0, t1, f0, f1⟩ := rk_two2 G1.out
                  have lA1 := blk_lt G1.out
                  obtain ⟨z0, hz0', hzs'⟩ := hN1.out.c0
                  obtain ⟨z1, z2, z3, z4, z5, z6, rfl⟩ := six_list hzs'
                  obtain ⟨⟨q0, q1, q2, q3, q4, q5⟩, ⟨y0, y1, y2, y3, y4, y5⟩⟩ := six_at hz0'
                  obtain ⟨⟨n0, n1, n2, n3, n4, n5⟩, ⟨x0, x1, x2, x3, x4, x5⟩⟩ := six_at hN1.out.c1
                  have lq := blk_lt hz0'
                  have ln := blk_lt hN1.out.c1
                  clear hz0' hzs'
                  have hown1 := N1.out.2
                  have hs1 : w.heap.size ≤ w3'.heap.size := hN1.out.bel.size
                  have hown2 := ownsRow_below hown1 ((Below.refl w3'.heap.size w3').alloc (Nat.le_refl _) (.cells #[.string sa, .string sb] 115))
                  have hone := one_pairR w3' sa sb
                  clear hown1
                  go_wp2_with (first
                    | (at_builtin
                       refine wpList_appV _ rfl (.tmp 95) (.tmp 97) 33 rfl w.heap.size 115 ia _ 2 32 Tryz.underlying33 hia hza0 hza1 hza2 rfl (by decide) (.slice u1 u2 u3) _ acc.length 1 (pairCells acc) (pairCells [(sa, sb)]) rfl rfl hown2 hone (pairCells_len _) (pair_oneCell _) (by omega) (by unfold maxLen; omega) (by rw [World.size_alloc]; omega) ?_
                       intro v9 w9 o9 g9
                       have N9 := (show Hid (NdA w 3 s (acc ++ [(sa, sb)]) v9 (w9.setCell ⟨w.heap.size + 1, 2, none⟩ v9)) from NdA.add N1.out ((Below.refl _ _).alloc (Nat.le_refl _) _) o9 g9)
                       obtain ⟨e1, e2, e3, rfl⟩ := own_slice o9
                       have c9 := (g9.block (w.heap.size + 1) (by rw [World.size_alloc]; omega) (fun e => ownsRow_not hown2 (Below.heap_alloc _ _ _ (by omega) |>.trans hN1.out.c1) (by decide) e.symm)).trans (Below.heap_alloc _ _ _ (by omega) |>.trans hN1.out.c1)
                       clear n0 n1 n2 n3 n4 n5 x0 x1 x2 x3 x4 x5
                       obtain ⟨⟨n0, n1, n2, n3, n4, n5⟩, ⟨x0, x1, x2, x3, x4, x5⟩⟩ := six_at c9
                       clear o9 g9 c9)
                    | fail)
                  go_roundw
                  case rel => exact ⟨j6, c + 1, 0, _, _, _, _, rfl, rfl, by go_num, by omega, N9.out, by rw [List.length_append, List.length_singleton]; omega, .inl ⟨rfl, HN.out⟩⟩
                  case measure => simp [intOf]; omega
end Go.Proofs.YtogdbjafibejdaaGreat
