/- The specification's l6Hang of a node below none (written by mk/shang.py). No condition. -/
import Derived.Test.YtogdbjafibejdaaGreatX20
namespace Go.Proofs.YtogdbjafibejdaaGreat
open Go.RowKit
set_option maxRecDepth 100000
set_option linter.unusedVariables false

theorem step_appI {P : Program} {ops : Array Oper} {o : Oper} {a : Act} {w : World} {K : Act → World → Prop} {Q : Exit → Act → World → Prop} {E : Prop}
    (hg : o.guard = none) (s x : Operand) (t : TypeId) (hop : o.op = Op.call { callee := Callee.builtin Builtin.append, args := #[s, x], argTypes := #[t, t] })
    (B : Nat) (e : TypeId) (i : TypeInfo) (z : Value) (bytes : Nat) (h1 : P.underlying t = some (.slice e)) (h2 : P.info? e = some i) (h3 : i.zero = some z) (h4 : i.size = 1) (h5 : i.bytes = bytes) (h6 : z.cells.size = 1)
    (k : IntKind) (v : Value) (xs : List Int) (hs : a.eval s = v) (hown : Own B e k w v xs)
    (ad : Addr) (c : Nat) (ys : List Int) (hx : a.eval x = .slice (some ad) ys.length c) (hu : Sl k w (.slice (some ad) ys.length c) ys)
    (b2 : (xs.length + ys.length) * bytes ≤ 140737488355328) (b1 : xs.length + ys.length ≤ maxLen) (hB : B ≤ w.heap.size)
    (hK : ∀ v' w', Own B e k w' v' (xs ++ ys) → w.grownBy w' v.ownBlock → K (a.put o.dst v') w') :
    if Region.wanted o (yielded ops a.tmps) = true then Oper.wp P o a w K Q else E := by
  obtain ⟨ao, cap, e1, hlc, hcm, hnone, hc⟩ := hu
  cases e1
  refine step_app_own hg s x t hop B e i z 1 bytes h1 h2 h3 h4 h5 h6 (by decide) v xs.length (xs.map (Value.int k)) hs hown ad ys.length c (ys.map (Value.int k)) hx (by simp) (Sl.news hc) (ints_oneCell k ys) b1 b2 hB ?_
  intro v' w' ho hg'
  refine hK v' w' ?_ hg'
  unfold Own
  rw [List.length_append, List.map_append]; exact ho

theorem sl_at {w : World} {g : Nat} {c : Int} {t : TypeId} (h : w.heap[g]? = some (.cells #[.int .i64 c] t (0, 0))) : Sl .i64 w (.slice (some ⟨g, 0, none⟩) 1 1) [c] := by
  refine ⟨_, 1, rfl, Nat.le_refl _, by decide, (fun e => by cases e), fun j hj => ⟨g, 0, rfl, ?_⟩⟩
  simp only [List.length_singleton] at hj
  obtain rfl : j = 0 := by omega
  simp only [World.cell?, h]; rfl

/-- A node more among the Kids of node p. -/
def kidsN (ns : List PNode) (c p : Nat) : List PNode := ns.modify p fun n => ⟨n.kind, n.name, n.attrs, n.text, n.parent, lessL (c : Int) n.kids ++ [(c : Int)]⟩
def parN (ns : List PNode) (c : Nat) (x : Int) : List PNode := ns.modify c fun n => ⟨n.kind, n.name, n.attrs, n.text, x, n.kids⟩

theorem map_modify {qs : List (PNode × (Value × Value))} {k : Nat} (hk : k < qs.length) {q : PNode × (Value × Value)} {f : PNode → PNode} (h : q.1 = f qs[k].1) : (qs.set k q).map (fun q => q.1) = (qs.map (fun q => q.1)).modify k f := by
  rw [List.map_set, h]
  apply List.ext_getElem
  · simp
  · intro i h1 h2
    simp only [List.length_set, List.length_map] at h1
    rw [List.getElem_set, List.getElem_modify]
    by_cases e : k = i
    · subst e; simp
    · simp [e]

/-- Behind the new Kids: the row has them. -/
def HangW (B : Nat) (w : World) (N g : Nat) (v : Value) (ns : List PNode) (wx : World) : Prop :=
  wx.heap[N]? = some (.cells #[v] 26 (0, 0)) ∧ wx.heap[N + 1]? = some (.cells #[.slice none 0 0] 26 (0, 0)) ∧ OwnN B wx v ns ∧ w.grownBy wx (some g)

theorem own_kids {B : Nat} {w : World} {g n cap : Nat} {ns : List PNode} (h : OwnN B w (.slice (some ⟨g, 0, none⟩) n cap) ns) (hn : n = ns.length) {p : Nat} (hp : p < ns.length) {ks : List Int} {u : Value} (hu : Own B 3 .i64 w u ks) :
    OwnN B (w.setCell ⟨g, p * 6 + 5, none⟩ u) (.slice (some ⟨g, 0, none⟩) n cap) (ns.modify p fun n => ⟨n.kind, n.name, n.attrs, n.text, n.parent, ks⟩) := by
  subst hn
  obtain ⟨qs, rfl, h2, h3⟩ := h
  have hq : p < qs.length := by simpa using hp
  have hst := h2.stored (p * 6 + 5) u
  have hset := nodeCells_set qs p hq (kidQ qs[p] ks u) 5 (by omega) u (by simp [kidQ, nodeRow])
  rw [← hset] at hst
  refine ⟨qs.set p (kidQ qs[p] ks u), map_modify hq rfl, ?_, fun q hqm => ?_⟩
  · simpa using hst.1
  · rcases List.mem_or_eq_of_mem_set hqm with hqm | rfl
    · exact lists_kept h2 hst.2 (h3 q hqm)
    · have hold := lists_kept h2 hst.2 (h3 qs[p] (List.getElem_mem hq))
      have hnew := lists_kept (q := (⟨0, ⟨#[]⟩, qs[p].1.attrs, ⟨#[]⟩, 0, ks⟩, (qs[p].2.1, u))) h2 hst.2 ⟨(h3 qs[p] (List.getElem_mem hq)).1, hu⟩
      exact ⟨hold.1, hnew.2⟩
theorem own_parent {B : Nat} {w : World} {g n cap : Nat} {ns : List PNode} (h : OwnN B w (.slice (some ⟨g, 0, none⟩) n cap) ns) (hn : n = ns.length) {c : Nat} (hc : c < ns.length) (x : Int) :
    OwnN B (w.setCell ⟨g, c * 6 + 4, none⟩ (.int .i64 x)) (.slice (some ⟨g, 0, none⟩) n cap) (parN ns c x) := by
  subst hn
  obtain ⟨qs, rfl, h2, h3⟩ := h
  have hq : c < qs.length := by simpa using hc
  have hst := h2.stored (c * 6 + 4) (.int .i64 x)
  have hset := nodeCells_set qs c hq (parQ qs[c] x) 4 (by omega) (.int .i64 x) (by simp [parQ, nodeRow])
  rw [← hset] at hst
  refine ⟨qs.set c (parQ qs[c] x), map_modify hq rfl, ?_, fun q hqm => ?_⟩
  · simpa [parN] using hst.1
  · rcases List.mem_or_eq_of_mem_set hqm with hqm | rfl
    · exact lists_kept h2 hst.2 (h3 q hqm)
    · exact lists_kept (q := parQ qs[c] x) h2 hst.2 (h3 qs[c] (List.getElem_mem hq))

theorem hang_fin {B N : Nat} {w W2 x2 : World} {ns : List PNode} {g cap c p : Nat} {u : Value} (hp : p < ns.length)
    (h0 : W2.heap[N]? = some (.cells #[.slice (some ⟨g, 0, none⟩) ns.length cap] 26 (0, 0))) (h1 : W2.heap[N + 1]? = some (.cells #[.slice none 0 0] 26 (0, 0))) (hO : OwnN B W2 (.slice (some ⟨g, 0, none⟩) ns.length cap) ns) (hg : w.grownBy W2 (some g)) (hgN : g < N) (hBS : B ≤ W2.heap.size)
    (o2 : Own W2.heap.size 3 .i64 x2 u (lessL (c : Int) ns[p].kids ++ [(c : Int)])) (b2 : Below W2.heap.size W2 x2) : HangW B w N g (.slice (some ⟨g, 0, none⟩) ns.length cap) (kidsN ns c p) (x2.setCell ⟨g, p * 6 + 5, none⟩ u) := by
  have hne : ∀ r, N ≤ r → r ≠ g := fun r hr e => by omega
  have e0 := (b2.block _ (blk_lt h0)).trans h0
  have e1 := (b2.block _ (blk_lt h1)).trans h1
  refine ⟨(Below.heap_setCell _ _ _ _ (hne N (Nat.le_refl _))).trans e0, (Below.heap_setCell _ _ _ _ (hne (N + 1) (by omega))).trans e1, ?_, ?_⟩
  · have := own_kids (hO.below b2) rfl hp (o2.base hBS)
    have e : (ns.modify p fun n => (⟨n.kind, n.name, n.attrs, n.text, n.parent, lessL (c : Int) ns[p].kids ++ [(c : Int)]⟩ : PNode)) = kidsN ns c p := by
      unfold kidsN
      apply List.ext_getElem
      · simp
      · intro i h1 h2
        rw [List.getElem_modify, List.getElem_modify]
        by_cases e : p = i
        · subst e; simp
        · simp [e]
    rw [e] at this
    exact this
  · have hgb : W2.grownBy (x2.setCell ⟨g, p * 6 + 5, none⟩ u) (some g) := grown_trans (below_by g b2) (grown_setCell _ _ _ _)
    exact ⟨hgb.os.trans hg.os, hgb.tape.trans hg.tape, hgb.output.trans hg.output, Nat.le_trans hg.size hgb.size, fun r hr hne' => (hgb.block r (Nat.lt_of_lt_of_le hr hg.size) hne').trans (hg.block r hr hne')⟩

set_option maxHeartbeats 2000000 in
set_option maxRecDepth 100000 in
theorem shang_any {B : Nat} {w : World} {v : Value} {ns : List PNode} (hO : OwnN B w v ns) (hB : B ≤ w.heap.size) (hlen : ns.length ≤ 100000) {c p : Nat} (hc : c < ns.length) (hp : p < ns.length) (hpar : ns[c].parent = -1) (hkl : ns[p].kids.length ≤ 100000) :
    Calls Tryz.prog 56 #[.agg #[v], .int .i64 c, .int .i64 p] w fun e w' => e = .returned (.agg #[v]) ∧ OwnN B w' v (parN (kidsN ns c p) c p) ∧ w.grownBy w' v.ownBlock := by
  obtain ⟨ii, hii, hzi0, hzi1, hzi2⟩ := info_parts Tryz.infoIntRow
  obtain ⟨g, cap, rfl, hgB, hgl⟩ : ∃ g cap, v = (.slice (some ⟨g, 0, none⟩) ns.length cap) ∧ B ≤ g ∧ g < w.heap.size := by obtain ⟨_, _, h2, _⟩ := hO; exact one_form h2 (by omega)
  have HO := (show Hid (OwnN B w (.slice (some ⟨g, 0, none⟩) ns.length cap) ns) from hO)
  clear hO
  obtain ⟨W0, hW0⟩ : ∃ W0, W0 = (w.alloc (.cells #[.slice (some ⟨g, 0, none⟩) ns.length cap] 26)).alloc (.cells #[.slice none 0 0] 26) := ⟨_, rfl⟩
  have b0 : Below w.heap.size w W0 := by rw [hW0]; exact ((Below.refl _ w).alloc (Nat.le_refl _) _).alloc (by simp) _
  have g0 : W0.heap[w.heap.size]? = some (.cells #[.slice (some ⟨g, 0, none⟩) ns.length cap] 26 (0, 0)) := by
    rw [hW0, Below.heap_alloc _ _ _ (by simp)]; exact World.alloc_heap_new _ _
  have g1 : W0.heap[w.heap.size + 1]? = some (.cells #[.slice none 0 0] 26 (0, 0)) := by
    rw [hW0]
    have := World.alloc_heap_new (w.alloc (.cells #[.slice (some ⟨g, 0, none⟩) ns.length cap] 26)) (.cells #[.slice none 0 0] 26)
    rwa [World.size_alloc] at this
  have k00 : W0.cell? ⟨w.heap.size, 0, none⟩ = some (.slice (some ⟨g, 0, none⟩) ns.length cap) := by simp only [World.cell?, g0]; rfl
  have HG0 := (show Hid _ from g0)
  have HG1 := (show Hid _ from g1)
  clear g0 g1
  go_enter Tryz.func56, Tryz.ntmps56
  go_upto_region 1 with fail
  rw [← hW0]
  clear hW0
  go_upto_region 2 with (first
    | (go_at_call 105
       refine Calls.mono (stake_none (HO.out.nodes.below b0) (by omega) hc hpar) ?_
       rintro e w1 ⟨rfl, b1⟩
       have h10 := (b1.block _ (blk_lt HG0.out)).trans HG0.out
       have h11 := (b1.block _ (blk_lt HG1.out)).trans HG1.out
       have m0 : w1.cell? ⟨w.heap.size, 0, none⟩ = some (.slice (some ⟨g, 0, none⟩) ns.length cap) := by simp only [World.cell?, h10]; rfl
       have z0 : w1.frozen? ⟨w.heap.size, 0, none⟩ = false := by simp [World.frozen?, h10]
       have H10 := (show Hid _ from h10)
       have H11 := (show Hid _ from h11)
       have HB01 := (show Hid (Below w.heap.size w w1) from b0.trans (b1.mono b0.size))
       clear h10 h11 b1)
    | fail)
  obtain ⟨W2, hW2⟩ : ∃ W2, W2 = w1.setCell ⟨w.heap.size, 0, none⟩ (.slice (some ⟨g, 0, none⟩) ns.length cap) := ⟨_, rfl⟩
  have gr1 : w1.grownBy W2 (some w.heap.size) := by rw [hW2]; exact grown_setCell _ _ _ _
  have b2 : Below w.heap.size w W2 := HB01.out.grown gr1 HB01.out.size (fun r e => by cases e; exact Nat.le_refl _)
  have h20 : W2.heap[w.heap.size]? = some (.cells #[.slice (some ⟨g, 0, none⟩) ns.length cap] 26 (0, 0)) := by rw [hW2]; exact setCell_at H10.out
  have h21 : W2.heap[w.heap.size + 1]? = some (.cells #[.slice none 0 0] 26 (0, 0)) := by rw [hW2, Below.heap_setCell _ _ _ _ (by show w.heap.size + 1 ≠ w.heap.size; omega)]; exact H11.out
  rw [← hW2]
  clear hW2 gr1 H10 H11 m0 z0 HB01 HG0 HG1 b0 k00
  have O2 := HO.out.below b2
  obtain ⟨_, _, e2, _, _, hcs⟩ := O2.nodes.slice
  cases e2
  obtain ⟨_, _, av, kv, e3, _, _, _, _, _, _, k5, _, hkv⟩ := hcs p hp
  cases e3
  rw [Nat.zero_add] at k5
  have k0 : W2.cell? ⟨w.heap.size, 0, none⟩ = some (.slice (some ⟨g, 0, none⟩) ns.length cap) := by simp only [World.cell?, h20]; rfl
  have HKV := (show Hid (Sl .i64 W2 kv ns[p].kids) from hkv)
  obtain ⟨kv1, kv3, rfl, _, _, _, _⟩ := hkv
  have k0a : ∀ X, (W2.alloc X).cell? ⟨w.heap.size, 0, none⟩ = some (.slice (some ⟨g, 0, none⟩) ns.length cap) := fun X => (((Below.refl _ W2).alloc (Nat.le_refl _) X).cell (p := ⟨w.heap.size, 0, none⟩) (lt_of_cell6 k0)).trans k0
  have k5a : ∀ X, (W2.alloc X).cell? ⟨g, p * 6 + 5, none⟩ = some (.slice kv1 ns[p].kids.length kv3) := fun X => (((Below.refl _ W2).alloc (Nat.le_refl _) X).cell (p := ⟨g, p * 6 + 5, none⟩) (lt_of_cell6 k5)).trans k5
  have HO2 := (show Hid (OwnN B W2 (.slice (some ⟨g, 0, none⟩) ns.length cap) ns) from O2)
  obtain ⟨qs2, _, hq2, _⟩ := HO2.out
  have HRW := (show Hid (W2.ownsRow B 36 6 (.slice (some ⟨g, 0, none⟩) ns.length cap) ns.length (nodeCells qs2)) from hq2)
  clear hq2
  have HQ := (show Hid (_ ∧ _ ∧ _) from ⟨h20, h21, b2⟩)
  have hll := lessL_len (c : Int) ns[p].kids
  have CL := (show Hid (∀ w', Below W2.heap.size W2 w' → Calls Tryz.prog 106 #[.slice kv1 ns[p].kids.length kv3, .int .i64 (c : Int)] w' fun e w'' => ∃ v', e = .returned v' ∧ Own w'.heap.size 3 .i64 w'' v' (lessL (c : Int) ns[p].kids) ∧ Below w'.heap.size w' w'') from fun w' hb => sless_any (c : Int) (HKV.out.below hb) (by omega))
  have hcl : (c : Int) < ns.length := by omega
  have hpl : (p : Int) < ns.length := by omega
  clear O2 hcs h20 h21 b2
  go_cut [] from 10 (fun wx => HangW B w w.heap.size g (.slice (some ⟨g, 0, none⟩) ns.length cap) (kidsN ns c p) wx)
  case first =>
    go_region_law (first
      | (with_reducible refine step_appI (w := x1) ?_ (.tmp 20) (.tmp 22) 34 ?_ W2.heap.size 3 ii (.int .i64 0) 8 ?_ hii hzi0 hzi1 hzi2 ?_ .i64 (.slice ua un uc) (lessL (c : Int) ns[p].kids) ?_ ?_ ⟨W2.heap.size, 0, none⟩ 1 [(c : Int)] ?_ ?_ ?_ ?_ ?_ ?_
         · rfl
         · rfl
         · exact Tryz.underlying34
         · rfl
         · simp [Act.eval]
         · exact HO1.out
         · simp [Act.eval]
         · exact sl_at HND.out
         · (simp; omega)
         · (unfold maxLen; simp; omega)
         · exact (HB1.out).size
         intro v2 x2 o2 g2
         obtain ⟨va, vn, vc, rfl⟩ := own_slice o2
         have b2' : Below W2.heap.size W2 x2 := (HB1.out).grown g2 (HB1.out).size (fun r e => (World.ownsRow.lt HO1.out r e).1)
         have l0 : x2.cell? ⟨w.heap.size, 0, none⟩ = some (.slice (some ⟨g, 0, none⟩) ns.length cap) := (b2'.cell (p := ⟨w.heap.size, 0, none⟩) (lt_of_cell6 k0)).trans k0
         have l5 : x2.cell? ⟨g, p * 6 + 5, none⟩ = some (.slice kv1 ns[p].kids.length kv3) := (b2'.cell (p := ⟨g, p * 6 + 5, none⟩) (lt_of_cell6 k5)).trans k5
         have fz : x2.frozen? ⟨g, p * 6 + 5, none⟩ = false := (ownsRow_below HRW.out b2').frozenAt _
         have HF := (show Hid (_ ∧ _) from ⟨o2, b2'⟩)
         clear o2 b2' g2)
      | (with_reducible refine step_appI (w := (x1.alloc (Obj.cells #[.int .i64 (c : Int)] 3))) ?_ (.tmp 20) (.tmp 22) 34 ?_ W2.heap.size 3 ii (.int .i64 0) 8 ?_ hii hzi0 hzi1 hzi2 ?_ .i64 (.slice ua un uc) (lessL (c : Int) ns[p].kids) ?_ ?_ ⟨x1.heap.size, 0, none⟩ 1 [(c : Int)] ?_ ?_ ?_ ?_ ?_ ?_
         · rfl
         · rfl
         · exact Tryz.underlying34
         · rfl
         · simp [Act.eval]
         · exact ownsRow_below HO1.out ((Below.refl _ _).alloc (Nat.le_refl _) _)
         · simp [Act.eval]
         · exact sl_one _ _ x1 _
         · (simp; omega)
         · (unfold maxLen; simp; omega)
         · exact (HB1.out.alloc HB1.out.size _).size
         intro v2 x2 o2 g2
         obtain ⟨va, vn, vc, rfl⟩ := own_slice o2
         have b2' : Below W2.heap.size W2 x2 := (HB1.out.alloc HB1.out.size _).grown g2 (HB1.out.alloc HB1.out.size _).size (fun r e => (World.ownsRow.lt HO1.out r e).1)
         have l0 : x2.cell? ⟨w.heap.size, 0, none⟩ = some (.slice (some ⟨g, 0, none⟩) ns.length cap) := (b2'.cell (p := ⟨w.heap.size, 0, none⟩) (lt_of_cell6 k0)).trans k0
         have l5 : x2.cell? ⟨g, p * 6 + 5, none⟩ = some (.slice kv1 ns[p].kids.length kv3) := (b2'.cell (p := ⟨g, p * 6 + 5, none⟩) (lt_of_cell6 k5)).trans k5
         have fz : x2.frozen? ⟨g, p * 6 + 5, none⟩ = false := (ownsRow_below HRW.out b2').frozenAt _
         have HF := (show Hid (_ ∧ _) from ⟨o2, b2'⟩)
         clear o2 b2' g2)
      | (go_simp
         go_at_call 106
         with_reducible refine Calls.mono (CL.out ((W2.alloc (Obj.cells #[.int .i64 (c : Int)] 3)).drew) (show Below W2.heap.size W2 (W2.alloc (Obj.cells #[.int .i64 (c : Int)] 3)).drew from ((Below.refl _ W2).alloc (Nat.le_refl _) _).trans (below_drewN 1))) ?_
         rintro e x1 ⟨u1, rfl, o1, b1⟩
         have b1' : Below W2.heap.size W2 x1 := ((show Below W2.heap.size W2 (W2.alloc (Obj.cells #[.int .i64 (c : Int)] 3)).drew from ((Below.refl _ W2).alloc (Nat.le_refl _) _).trans (below_drewN 1))).trans (b1.mono ((show Below W2.heap.size W2 (W2.alloc (Obj.cells #[.int .i64 (c : Int)] 3)).drew from ((Below.refl _ W2).alloc (Nat.le_refl _) _).trans (below_drewN 1))).size)
         have o1' : Own W2.heap.size 3 .i64 x1 u1 (lessL (c : Int) ns[p].kids) := o1.base ((show Below W2.heap.size W2 (W2.alloc (Obj.cells #[.int .i64 (c : Int)] 3)).drew from ((Below.refl _ W2).alloc (Nat.le_refl _) _).trans (below_drewN 1))).size
         obtain ⟨ua, un, uc, rfl⟩ := own_slice o1'
         have j0 : x1.cell? ⟨w.heap.size, 0, none⟩ = some (.slice (some ⟨g, 0, none⟩) ns.length cap) := (b1'.cell (p := ⟨w.heap.size, 0, none⟩) (lt_of_cell6 k0)).trans k0
         have j0a : ∀ X, (x1.alloc X).cell? ⟨w.heap.size, 0, none⟩ = some (.slice (some ⟨g, 0, none⟩) ns.length cap) := fun X => ((b1'.alloc b1'.size X).cell (p := ⟨w.heap.size, 0, none⟩) (lt_of_cell6 k0)).trans k0
         have HO1 := (show Hid (Own W2.heap.size 3 .i64 x1 (.slice ua un uc) (lessL (c : Int) ns[p].kids)) from o1')
         have HB1 := (show Hid (Below W2.heap.size W2 x1) from b1')
         have hnd : x1.heap[W2.heap.size]? = some (.cells #[.int .i64 (c : Int)] 3 (0, 0)) := (b1.block _ (by simp [World.drew])).trans (World.alloc_heap_new W2 _)
         have HND := (show Hid _ from hnd)
         clear o1 o1' b1 b1')
      | (go_simp
         go_at_call 106
         with_reducible refine Calls.mono (CL.out (W2.drew) (show Below W2.heap.size W2 W2.drew from below_drewN 1)) ?_
         rintro e x1 ⟨u1, rfl, o1, b1⟩
         have b1' : Below W2.heap.size W2 x1 := ((show Below W2.heap.size W2 W2.drew from below_drewN 1)).trans (b1.mono ((show Below W2.heap.size W2 W2.drew from below_drewN 1)).size)
         have o1' : Own W2.heap.size 3 .i64 x1 u1 (lessL (c : Int) ns[p].kids) := o1.base ((show Below W2.heap.size W2 W2.drew from below_drewN 1)).size
         obtain ⟨ua, un, uc, rfl⟩ := own_slice o1'
         have j0 : x1.cell? ⟨w.heap.size, 0, none⟩ = some (.slice (some ⟨g, 0, none⟩) ns.length cap) := (b1'.cell (p := ⟨w.heap.size, 0, none⟩) (lt_of_cell6 k0)).trans k0
         have j0a : ∀ X, (x1.alloc X).cell? ⟨w.heap.size, 0, none⟩ = some (.slice (some ⟨g, 0, none⟩) ns.length cap) := fun X => ((b1'.alloc b1'.size X).cell (p := ⟨w.heap.size, 0, none⟩) (lt_of_cell6 k0)).trans k0
         have HO1 := (show Hid (Own W2.heap.size 3 .i64 x1 (.slice ua un uc) (lessL (c : Int) ns[p].kids)) from o1')
         have HB1 := (show Hid (Below W2.heap.size W2 x1) from b1')

         clear o1 o1' b1 b1'))
    all_goals
      go_wp2_with fail
      go_meet
      have t1 := HF.out.1
      have t2 := HF.out.2
      have t3 := HQ.out.1
      have t4 := HQ.out.2.1
      have t5 := below_by g HQ.out.2.2
      have t6 := Nat.le_trans hB HQ.out.2.2.size
      with_reducible exact hang_fin hp t3 t4 HO2.out t5 hgl t6 t1 t2
  case rest =>
    obtain ⟨hx0, hx1, hxo, hxg⟩ := hcut
    have hc' : c < (kidsN ns c p).length := by simpa [kidsN] using hc
    have hop := own_parent hxo (by simp [kidsN]) hc' (p : Int)
    have hln : (kidsN ns c p).length = ns.length := by simp [kidsN]
    obtain ⟨qs3, _, hq3, _⟩ := hxo
    rw [hln] at hq3
    have hcell := hq3.cellAt (c * 6 + 4) (by omega)
    have hfz := hq3.frozenAt (c * 6 + 4)
    obtain ⟨y, hy⟩ : ∃ y, wc.cell? ⟨g, c * 6 + 4, none⟩ = some y := by
      rw [hcell, List.getElem?_eq_getElem (by rw [hq3.1]; omega)]; exact ⟨_, rfl⟩
    have m0 : wc.cell? ⟨w.heap.size, 0, none⟩ = some (.slice (some ⟨g, 0, none⟩) ns.length cap) := by simp only [World.cell?, hx0]; rfl
    have m1 : wc.cell? ⟨w.heap.size + 1, 0, none⟩ = some (.slice none 0 0) := by simp only [World.cell?, hx1]; rfl
    have z1 : wc.frozen? ⟨w.heap.size + 1, 0, none⟩ = false := by simp [World.frozen?, hx1]
    have hgn : g ≠ w.heap.size := by omega
    have hgn1 : g ≠ w.heap.size + 1 := by omega
    obtain ⟨W4, hW4⟩ : ∃ W4, W4 = wc.setCell ⟨g, c * 6 + 4, none⟩ (.int .i64 (p : Int)) := ⟨_, rfl⟩
    have gr4 : wc.grownBy W4 (some g) := by rw [hW4]; exact grown_setCell _ _ _ _
    have x40 : W4.heap[w.heap.size]? = some (.cells #[.slice (some ⟨g, 0, none⟩) ns.length cap] 26 (0, 0)) := (gr4.block _ (blk_lt hx0) (fun e => by simp only [Option.some.injEq] at e; omega)).trans hx0
    have x41 : W4.heap[w.heap.size + 1]? = some (.cells #[.slice none 0 0] 26 (0, 0)) := (gr4.block _ (blk_lt hx1) (fun e => by simp only [Option.some.injEq] at e; omega)).trans hx1
    have n0 : W4.cell? ⟨w.heap.size, 0, none⟩ = some (.slice (some ⟨g, 0, none⟩) ns.length cap) := by simp only [World.cell?, x40]; rfl
    have n1 : W4.cell? ⟨w.heap.size + 1, 0, none⟩ = some (.slice none 0 0) := by simp only [World.cell?, x41]; rfl
    have q1 : W4.frozen? ⟨w.heap.size + 1, 0, none⟩ = false := by simp [World.frozen?, x41]
    have HX := (show Hid (W4.heap[w.heap.size + 1]? = some (.cells #[.slice none 0 0] 26 (0, 0)) ∧ OwnN B W4 (.slice (some ⟨g, 0, none⟩) ns.length cap) (parN (kidsN ns c p) c p) ∧ w.grownBy W4 (some g)) from ⟨x41, by rw [hW4]; exact hop, ⟨gr4.os.trans hxg.os, gr4.tape.trans hxg.tape, gr4.output.trans hxg.output, Nat.le_trans hxg.size gr4.size, fun r hr hne => (gr4.block r (Nat.lt_of_lt_of_le hr hxg.size) hne).trans (hxg.block r hr hne)⟩⟩)
    clear hx0 hx1 hop hq3 hcell hxg gr4 x40 x41
    go_upto_region 4 with fail
    rw [← hW4]
    clear hW4
    go_wp2
    have gs := setCell_at (k := 0) (u := .slice (some ⟨g, 0, none⟩) ns.length cap) HX.out.1
    have gr5 := grown_setCell W4 (w.heap.size + 1) 0 (.slice (some ⟨g, 0, none⟩) ns.length cap)
    refine bodyPost_ret (results_cell_row rfl _ _ (w.heap.size + 1) 26 _ (0, 0) _ rfl gs Tryz.underlying26 rfl rfl) rfl ?_
    refine ⟨rfl, OwnN.kept HX.out.2.1 gr5 (fun r e => by cases e; exact ⟨_, _, _, HX.out.1, by decide, by decide, by decide⟩), ?_⟩
    have hg4 := HX.out.2.2
    exact ⟨gr5.os.trans hg4.os, gr5.tape.trans hg4.tape, gr5.output.trans hg4.output, Nat.le_trans hg4.size gr5.size, fun r hr hne => (gr5.block r (Nat.lt_of_lt_of_le hr hg4.size) (fun e => by simp only [Option.some.injEq] at e; omega)).trans (hg4.block r hr hne)⟩
end Go.Proofs.YtogdbjafibejdaaGreat
