import Derived.Test.YtkljadaggnbjkaaGreatB23
import Derived.Test.YtkljadaggnbjkaaGreatTree1
import Derived.Deep.RegionLaw
import Derived.Deep.Cut
/- The specification's l6Add. No condition. -/
namespace Go.Proofs.YtkljadaggnbjkaaGreat
open Go.RowKit
set_option maxRecDepth 100000
set_option linter.unusedVariables false

/-- append in a region that draws its order, onto the call's own row. -/
theorem step_appV {P : Program} {ops : Array Oper} {o : Oper} {a : Act} {w : World} {K : Act → World → Prop} {Q : Exit → Act → World → Prop} {E : Prop}
    (hg : o.guard = none) (s x : Operand) (t : TypeId) (hop : o.op = Op.call { callee := Callee.builtin Builtin.append, args := #[s, x], argTypes := #[t, t] })
    (B : Nat) (e : TypeId) (i : TypeInfo) (z : Value) (size bytes : Nat) (h1 : P.underlying t = some (.slice e)) (h2 : P.info? e = some i) (h3 : i.zero = some z) (h4 : i.size = size) (h5 : i.bytes = bytes) (h6 : z.cells.size = size) (h7 : 0 < size)
    (v : Value) (n : Nat) (xs : List Value) (hs : a.eval s = v) (hown : w.ownsRow B e size v n xs)
    (ad : Addr) (m c : Nat) (news : List Value) (hx : a.eval x = .slice (some ad) m c) (hu : Sv size w (.slice (some ad) m c) news) (h1c : ∀ u ∈ news, u.oneCell' = true)
    (b1 : n + m ≤ maxLen) (b2 : (n + m) * bytes ≤ 140737488355328) (hB : B ≤ w.heap.size)
    (hK : ∀ v' w', w'.ownsRow B e size v' (n + m) (xs ++ news) → w.grownBy w' v.ownBlock → K (a.put o.dst v') w') :
    if Region.wanted o (yielded ops a.tmps) = true then Oper.wp P o a w K Q else E := by
  obtain ⟨ao, len, cap, e1, hl, hlc, hcm, hnone, hc⟩ := hu
  cases e1
  refine step_app_own hg s x t hop B e i z size bytes h1 h2 h3 h4 h5 h6 h7 v n xs hs hown ad m c news hx hl ?_ h1c b1 b2 hB hK
  intro j y hy
  have hj : j < news.length := by
    by_cases hj : j < news.length
    · exact hj
    · rw [List.getElem?_eq_none (Nat.le_of_not_lt hj)] at hy; cases hy
  obtain ⟨b, off, e, c⟩ := hc j hj
  cases e
  have e2 : news.getD j undef = y := by rw [List.getD_eq_getElem?_getD, hy]; rfl
  rw [e2] at c
  rw [← c]
  by_cases h0 : j = 0
  · subst h0; simp [Addr.add]
  · simp [Addr.add, h0]

theorem ownsRow_nil_int (B : Nat) (w : World) : Own B 3 .i64 w (.slice none 0 0) [] := World.ownsRow_nil _ _ _ _
theorem lt_of_cell6 {w : World} {g o : Nat} {u : Value} (h : w.cell? ⟨g, o, none⟩ = some u) : g < w.heap.size := by
  by_cases hlt : g < w.heap.size
  · exact hlt
  · exfalso; simp [World.cell?, Array.getElem?_eq_none (Nat.le_of_not_lt hlt)] at h
/-- Behind the appends: the tree's block has the new nodes. -/
def AddW (B : Nat) (w : World) (N : Nat) (ns : List PNode) (k : Int) (nm : ByteArray) (rs : List (ByteArray × ByteArray)) (tx : ByteArray) (wx : World) : Prop :=
  ∃ a n c, wx.heap[N]? = some (.cells #[.slice a n c] 26 (0, 0)) ∧ wx.heap[N + 1 + 1]? = some (.cells #[.slice none 0 0] 26 (0, 0)) ∧ OwnN B wx (.slice a n c) (ns ++ [⟨k, nm, rs, tx, -1, []⟩]) ∧ Below N w wx

theorem add_fin {B N : Nat} {w W8 w10 : World} {ns : List PNode} {qs : List (PNode × (Value × Value))} {k : Int} {nm tx : ByteArray} {rs : List (ByteArray × ByteArray)} {va av : Value} {a2 : Option Addr} {n2 c2 : Nat}
    (hN : W8.heap[N]? = some (.cells #[va] 26 (0, 0))) (hN2 : W8.heap[N + 1 + 1]? = some (.cells #[.slice none 0 0] 26 (0, 0))) (b8 : Below N w W8) (hNw : N = w.heap.size) (hBN : B ≤ N)
    (o8 : W8.ownsRow N 110 2 av rs.length (pairCells rs)) (hq1 : qs.map (fun q => q.1) = ns) (hq3 : ∀ q ∈ qs, w.ownsRow B 110 2 q.2.1 q.1.attrs.length (pairCells q.1.attrs) ∧ Own B 3 .i64 w q.2.2 q.1.kids)
    (o10 : w10.ownsRow W8.heap.size 37 6 (.slice a2 n2 c2) (ns.length + 1) (nodeCells qs ++ nodeRow ⟨k, nm, rs, tx, -1, []⟩ (av, .slice none 0 0))) (b10 : Below W8.heap.size W8 w10) :
    AddW B w N ns k nm rs tx (w10.setCell ⟨N, 0, none⟩ (.slice a2 n2 c2)) := by
  subst hNw
  have g10 := (b10.block _ (blk_lt hN)).trans hN
  have hg : w10.grownBy (w10.setCell ⟨w.heap.size, 0, none⟩ (.slice a2 n2 c2)) (some w.heap.size) := grown_setCell _ _ _ _
  have b8s := b8.size
  have key : ∀ {e size n : Nat} {v : Value} {xs : List Value}, w10.ownsRow B e size v n xs → 26 ≠ e → (w10.setCell ⟨w.heap.size, 0, none⟩ (.slice a2 n2 c2)).ownsRow B e size v n xs := fun h hne =>
    kept_of_type h hg (fun r e => by cases e; exact ⟨_, _, _, g10, hne⟩)
  refine ⟨a2, n2, c2, setCell_at g10, ?_, ?_, ?_⟩
  · rw [Below.heap_setCell _ _ _ _ (by show w.heap.size + 1 + 1 ≠ w.heap.size; omega)]
    exact (b10.block _ (blk_lt hN2)).trans hN2
  · refine ⟨qs ++ [(⟨k, nm, rs, tx, -1, []⟩, (av, .slice none 0 0))], by simp [hq1], ?_, fun q hq => ?_⟩
    · rw [nodeCells_app, List.length_append]
      have := key (ownsRow_base o10 (show B ≤ W8.heap.size by omega)) (by decide)
      simpa [nodeCells] using this
    · rcases List.mem_append.mp hq with hq | hq
      · have h3 := hq3 q hq
        exact ⟨key (ownsRow_below (ownsRow_below h3.1 b8) b10) (by decide), key ((h3.2.below b8).below b10) (by decide)⟩
      · simp at hq; subst hq
        exact ⟨key (ownsRow_base (ownsRow_below o8 b10) hBN) (by decide), World.ownsRow_nil _ _ _ _⟩
  · exact (b8.trans (b10.mono b8s)).setCell (p := ⟨w.heap.size, 0, none⟩) (by simp) _

theorem add_res {tmps : Array Value} {w : World} {g : Nat} {a : Option Addr} {n c : Nat} {i : Int} (h4 : tmps.getD 4 undef = .pointer (some ⟨g, 0, none⟩)) (h5 : tmps.getD 5 undef = .int .i64 i) (hb : w.heap[g]? = some (.cells #[.slice a n c] 26 (0, 0))) :
    (results Tryz.f56 tmps).run Tryz.prog w = .ok (.tuple #[.agg #[.slice a n c], .int .i64 i]) w := by
  rw [results_cell_tmp (p := 4) (u := 5) (ty := 26) rfl, h4, h5]
  simp [asAddr, run_loadVar_row w g 26 26 #[.slice a n c] (0, 0) _ hb Tryz.underlying26 rfl rfl, Result.andThen]

set_option maxHeartbeats 2000000 in
set_option maxRecDepth 100000 in
theorem sadd_any {B : Nat} {w : World} {v : Value} {ns : List PNode} (hO : OwnN B w v ns) (hB : B ≤ w.heap.size) (h0 : 0 < ns.length) (hlen : ns.length ≤ 100000) (k p : Int) (nm tx : ByteArray)
    {av1 : Option Addr} {av2 av3 : Nat} {kv1 : Option Addr} {kv2 kv3 : Nat} {rs : List (ByteArray × ByteArray)} (hav : Sv 2 w (.slice av1 av2 av3) (pairCells rs)) (hrs : rs.length ≤ 1048576) :
    Calls Tryz.prog 56 #[.agg #[v], .agg #[.int .i64 k, .string nm, .slice av1 av2 av3, .string tx, .int .i64 p, .slice kv1 kv2 kv3]] w fun e w' => ∃ v', e = .returned (.tuple #[.agg #[v'], .int .i64 ns.length]) ∧ OwnN B w' v' (ns ++ [⟨k, nm, rs, tx, -1, []⟩]) ∧ Below w.heap.size w w' := by
  obtain ⟨ia, hia, hza0, hza1, hza2⟩ := info_parts Tryz.infoAttrRow
  obtain ⟨iN, hiN, hzN0, hzN1, hzN2⟩ := info_parts Tryz.infoNodeRow
  have HO := (show Hid (OwnN B w v ns) from hO)
  have HAV := (show Hid (Sv 2 w (.slice av1 av2 av3) (pairCells rs)) from hav)
  obtain ⟨a, cap, rfl, hc1, hc2, hcs⟩ := hO.nodes.slice
  obtain ⟨b, off, _, _, rfl, hblt, _⟩ := hcs 0 h0
  clear hO hav hcs
  obtain ⟨W3, hW3⟩ : ∃ W3, W3 = (((w.alloc (.cells #[.slice (some ⟨b, off, none⟩) ns.length cap] 26)).alloc (.cells #[.int .i64 k, .string nm, .slice av1 av2 av3, .string tx, .int .i64 p, .slice kv1 kv2 kv3] 37)).alloc (.cells #[.slice none 0 0] 26)) := ⟨_, rfl⟩
  have hs3 : W3.heap.size = w.heap.size + 1 + 1 + 1 := by rw [hW3]; simp only [World.size_alloc]
  have b3 : Below w.heap.size w W3 := by rw [hW3]; exact (((Below.refl _ w).alloc (Nat.le_refl _) _).alloc (by simp) _).alloc (by simp; omega) _
  have g0 : W3.heap[w.heap.size]? = some (.cells #[.slice (some ⟨b, off, none⟩) ns.length cap] 26 (0, 0)) := by
    rw [hW3, Below.heap_alloc _ _ _ (by simp only [World.size_alloc]; omega), Below.heap_alloc _ _ _ (by simp only [World.size_alloc]; omega)]
    exact World.alloc_heap_new _ _
  have g1 : W3.heap[w.heap.size + 1]? = some (.cells #[.int .i64 k, .string nm, .slice av1 av2 av3, .string tx, .int .i64 p, .slice kv1 kv2 kv3] 37 (0, 0)) := by
    rw [hW3, Below.heap_alloc _ _ _ (by simp only [World.size_alloc]; omega)]
    have := World.alloc_heap_new (w.alloc (.cells #[.slice (some ⟨b, off, none⟩) ns.length cap] 26)) (.cells #[.int .i64 k, .string nm, .slice av1 av2 av3, .string tx, .int .i64 p, .slice kv1 kv2 kv3] 37)
    rwa [World.size_alloc] at this
  have g2 : W3.heap[w.heap.size + 1 + 1]? = some (.cells #[.slice none 0 0] 26 (0, 0)) := by
    rw [hW3]
    have := World.alloc_heap_new ((w.alloc (.cells #[.slice (some ⟨b, off, none⟩) ns.length cap] 26)).alloc (.cells #[.int .i64 k, .string nm, .slice av1 av2 av3, .string tx, .int .i64 p, .slice kv1 kv2 kv3] 37)) (.cells #[.slice none 0 0] 26)
    rwa [World.size_alloc, World.size_alloc] at this
  have hs5 : ((W3.setCell ⟨w.heap.size + 1, 4, none⟩ (.int .i64 (-1))).setCell ⟨w.heap.size + 1, 5, none⟩ (.slice none 0 0)).heap.size = w.heap.size + 1 + 1 + 1 := by simp [World.setCell, hs3]
  have gr5 : W3.grownBy ((W3.setCell ⟨w.heap.size + 1, 4, none⟩ (.int .i64 (-1))).setCell ⟨w.heap.size + 1, 5, none⟩ (.slice none 0 0)) (some (w.heap.size + 1)) := grown_trans (grown_setCell _ _ _ _) (grown_setCell _ _ _ _)
  have g51 := setCell_at (k := 5) (u := .slice none 0 0) (setCell_at (k := 4) (u := .int .i64 (-1)) g1)
  have b5 : Below w.heap.size w ((W3.setCell ⟨w.heap.size + 1, 4, none⟩ (.int .i64 (-1))).setCell ⟨w.heap.size + 1, 5, none⟩ (.slice none 0 0)) := b3.grown gr5 b3.size (fun r e => by cases e; omega)
  have o1 : (((W3.setCell ⟨w.heap.size + 1, 4, none⟩ (.int .i64 (-1))).setCell ⟨w.heap.size + 1, 5, none⟩ (.slice none 0 0)).alloc (.cells #[] 110)).ownsRow w.heap.size 110 2 (.slice (some ⟨w.heap.size + 1 + 1 + 1, 0, none⟩) 0 0) 0 [] := by
    have := empty_row ((W3.setCell ⟨w.heap.size + 1, 4, none⟩ (.int .i64 (-1))).setCell ⟨w.heap.size + 1, 5, none⟩ (.slice none 0 0)) w.heap.size 110 2 (by rw [hs5]; omega)
    rwa [hs5] at this
  have b6 : Below w.heap.size w (((W3.setCell ⟨w.heap.size + 1, 4, none⟩ (.int .i64 (-1))).setCell ⟨w.heap.size + 1, 5, none⟩ (.slice none 0 0)).alloc (.cells #[] 110)) := b5.alloc b5.size _
  have hav1 := HAV.out.below b6
  have c2 : W3.cell? ⟨w.heap.size + 1, 2, none⟩ = some (.slice av1 av2 av3) := by simp only [World.cell?, g1]; rfl
  have c4 : W3.cell? ⟨w.heap.size + 1, 4, none⟩ = some (.int .i64 p) := by simp only [World.cell?, g1]; rfl
  have c5 : W3.cell? ⟨w.heap.size + 1, 5, none⟩ = some (.slice kv1 kv2 kv3) := by simp only [World.cell?, g1]; rfl
  have z4 : W3.frozen? ⟨w.heap.size + 1, 4, none⟩ = false := by simp [World.frozen?, g1]
  have z5 : W3.frozen? ⟨w.heap.size + 1, 5, none⟩ = false := by simp [World.frozen?, g1]
  have z2 : W3.frozen? ⟨w.heap.size + 1, 2, none⟩ = false := by simp [World.frozen?, g1]
  have HG0 := (show Hid _ from g0)
  have HG1 := (show Hid _ from g1)
  have HG2 := (show Hid _ from g2)
  have HG51 := (show Hid _ from g51)
  have HR5 := (show Hid _ from gr5)
  have HB6 := (show Hid _ from b6)
  have HS3 := (show Hid _ from hs3)
  have HS5 := (show Hid _ from hs5)
  clear g0 g1 g2 b3 b5 gr5 g51 b6
  go_enter Tryz.func56, Tryz.ntmps56
  go_upto_region 1 with fail
  rw [← hW3]
  clear hW3
  go_upto_region 4 with (first
    | (at_builtin
       refine wpList_appV _ rfl (.tmp 8) (.tmp 10) 35 rfl w.heap.size 110 ia _ 2 32 Tryz.underlying35 hia hza0 hza1 hza2 rfl (by decide) (.slice (some ⟨w.heap.size + 1 + 1 + 1, 0, none⟩) 0 0) (.slice av1 av2 av3) 0 rs.length _ (pairCells rs) rfl rfl o1 hav1 (pairCells_len _) (pair_oneCell _) (by omega) (by unfold maxLen; omega) (by rw [World.size_alloc, HS5.out]; omega) ?_
       intro v7 w7 o7 g7
       rw [List.nil_append, Nat.zero_add] at o7
       obtain ⟨a7, n7, c7, rfl⟩ := own_slice o7
       have k71 := (g7.block (w.heap.size + 1) (by rw [World.size_alloc, HS5.out]; omega) (fun e => by simp only [Value.ownBlock, Option.some.injEq] at e; omega)).trans ((Below.heap_alloc _ _ _ (by rw [HS5.out]; omega)).trans HG51.out)
       have y2 : w7.cell? ⟨w.heap.size + 1, 2, none⟩ = some (.slice av1 av2 av3) := by simp only [World.cell?, k71]; rfl
       have q2 : w7.frozen? ⟨w.heap.size + 1, 2, none⟩ = false := by simp [World.frozen?, k71]
       have hl7 := blk_lt k71
       have HK7 := (show Hid _ from k71)
       have HO7 := (show Hid _ from o7)
       have HG7 := (show Hid _ from g7)
       clear k71 o7 g7 o1 hav1 c2 c4 c5 z4 z5 z2)
    | fail)
  obtain ⟨W8, hW8⟩ : ∃ W8, W8 = w7.setCell ⟨w.heap.size + 1, 2, none⟩ (.slice a7 n7 c7) := ⟨_, rfl⟩
  have hs7 : w.heap.size + 1 + 1 + 1 < w7.heap.size := by have := HG7.out.size; rw [World.size_alloc, HS5.out] at this; omega
  have hs8 : W8.heap.size = w7.heap.size := by rw [hW8]; simp [World.setCell]
  have b7 : Below w.heap.size w w7 := HB6.out.grown HG7.out (by rw [World.size_alloc, HS5.out]; omega) (fun r e => by simp only [Value.ownBlock, Option.some.injEq] at e; omega)
  have b8 : Below w.heap.size w W8 := by rw [hW8]; exact b7.setCell (p := ⟨w.heap.size + 1, 2, none⟩) (by show w.heap.size ≤ w.heap.size + 1; omega) _
  have old7 : ∀ r, r ≠ w.heap.size + 1 → r < w.heap.size + 1 + 1 + 1 → W8.heap[r]? = W3.heap[r]? := fun r h1 h2 => by
    rw [hW8, Below.heap_setCell _ _ _ r (by show r ≠ w.heap.size + 1; exact h1), HG7.out.block r (by rw [World.size_alloc, HS5.out]; omega) (fun e => by simp only [Value.ownBlock, Option.some.injEq] at e; omega), Below.heap_alloc _ _ _ (by rw [HS5.out]; omega)]
    exact HR5.out.block r (by rw [HS3.out]; omega) (fun e => by simp only [Option.some.injEq] at e; omega)
  have g80 := (old7 w.heap.size (by omega) (by omega)).trans HG0.out
  have g82 := (old7 (w.heap.size + 1 + 1) (by omega) (by omega)).trans HG2.out
  have g81 : W8.heap[w.heap.size + 1]? = some (.cells #[.int .i64 k, .string nm, .slice a7 n7 c7, .string tx, .int .i64 (-1), .slice none 0 0] 37 (0, 0)) := by rw [hW8]; exact setCell_at HK7.out
  have o8 : W8.ownsRow w.heap.size 110 2 (.slice a7 n7 c7) rs.length (pairCells rs) := by rw [hW8]; exact kept_of_type HO7.out (grown_setCell _ _ _ _) (fun r e => by cases e; exact ⟨_, _, _, HK7.out, by decide⟩)
  rw [← hW8]
  have HQ8 := (show Hid (_ ∧ _ ∧ _ ∧ _ ∧ _) from ⟨g80, g81, g82, b8, o8⟩)
  clear HO7 HG7 HK7 hW8 b7 old7 HG0 HG1 HG2 HG51 HR5 HB6 HS3 HS5 y2 q2 hl7 g80 g81 g82 b8 o8 HAV
  obtain ⟨g80, g81, g82, b8, o8⟩ := HQ8.out
  obtain ⟨qs, hq1, hq2, hq3⟩ := HO.out
  have hql : qs.length = ns.length := by have := congrArg List.length hq1; simpa using this
  have HQ1 := (show Hid (qs.map (fun q => q.1) = ns) from hq1)
  have HQ3 := (show Hid (∀ q ∈ qs, w.ownsRow B 110 2 q.2.1 q.1.attrs.length (pairCells q.1.attrs) ∧ Own B 3 .i64 w q.2.2 q.1.kids) from hq3)
  have hsv8 : Sv 6 W8 (.slice (some ⟨b, off, none⟩) ns.length cap) (nodeCells qs) := (sv_of_own hq2).below b8
  have hone : ∀ y ∈ nodeCells qs, y.oneCell' = true := fun y hy => by
    obtain ⟨q, hq, hyq⟩ := List.mem_flatMap.mp hy
    exact node_oneCell (hq3 q hq) y hyq
  have k80 : W8.cell? ⟨w.heap.size, 0, none⟩ = some (.slice (some ⟨b, off, none⟩) ns.length cap) := by simp only [World.cell?, g80]; rfl
  have k810 : W8.cell? ⟨w.heap.size + 1, 0, none⟩ = some (.int .i64 k) := by simp only [World.cell?, g81]; rfl
  have k811 : W8.cell? ⟨w.heap.size + 1, 1, none⟩ = some (.string nm) := by simp only [World.cell?, g81]; rfl
  have k812 : W8.cell? ⟨w.heap.size + 1, 2, none⟩ = some (.slice a7 n7 c7) := by simp only [World.cell?, g81]; rfl
  have k813 : W8.cell? ⟨w.heap.size + 1, 3, none⟩ = some (.string tx) := by simp only [World.cell?, g81]; rfl
  have k814 : W8.cell? ⟨w.heap.size + 1, 4, none⟩ = some (.int .i64 (-1)) := by simp only [World.cell?, g81]; rfl
  have k815 : W8.cell? ⟨w.heap.size + 1, 5, none⟩ = some (.slice none 0 0) := by simp only [World.cell?, g81]; rfl
  have k80a : ∀ X, (W8.alloc X).cell? ⟨w.heap.size, 0, none⟩ = some (.slice (some ⟨b, off, none⟩) ns.length cap) := fun X => (((Below.refl _ W8).alloc (Nat.le_refl _) X).cell (p := ⟨w.heap.size, 0, none⟩) (lt_of_cell6 k80)).trans k80
  have k80b : ∀ X Y, ((W8.alloc X).alloc Y).cell? ⟨w.heap.size, 0, none⟩ = some (.slice (some ⟨b, off, none⟩) ns.length cap) := fun X Y => ((((Below.refl _ W8).alloc (Nat.le_refl _) X).alloc (by simp) Y).cell (p := ⟨w.heap.size, 0, none⟩) (lt_of_cell6 k80)).trans k80
  have k810a : ∀ X, (W8.alloc X).cell? ⟨w.heap.size + 1, 0, none⟩ = some (.int .i64 k) := fun X => (((Below.refl _ W8).alloc (Nat.le_refl _) X).cell (p := ⟨w.heap.size + 1, 0, none⟩) (lt_of_cell6 k810)).trans k810
  have k810b : ∀ X Y, ((W8.alloc X).alloc Y).cell? ⟨w.heap.size + 1, 0, none⟩ = some (.int .i64 k) := fun X Y => ((((Below.refl _ W8).alloc (Nat.le_refl _) X).alloc (by simp) Y).cell (p := ⟨w.heap.size + 1, 0, none⟩) (lt_of_cell6 k810)).trans k810
  have k811a : ∀ X, (W8.alloc X).cell? ⟨w.heap.size + 1, 1, none⟩ = some (.string nm) := fun X => (((Below.refl _ W8).alloc (Nat.le_refl _) X).cell (p := ⟨w.heap.size + 1, 1, none⟩) (lt_of_cell6 k811)).trans k811
  have k811b : ∀ X Y, ((W8.alloc X).alloc Y).cell? ⟨w.heap.size + 1, 1, none⟩ = some (.string nm) := fun X Y => ((((Below.refl _ W8).alloc (Nat.le_refl _) X).alloc (by simp) Y).cell (p := ⟨w.heap.size + 1, 1, none⟩) (lt_of_cell6 k811)).trans k811
  have k812a : ∀ X, (W8.alloc X).cell? ⟨w.heap.size + 1, 2, none⟩ = some (.slice a7 n7 c7) := fun X => (((Below.refl _ W8).alloc (Nat.le_refl _) X).cell (p := ⟨w.heap.size + 1, 2, none⟩) (lt_of_cell6 k812)).trans k812
  have k812b : ∀ X Y, ((W8.alloc X).alloc Y).cell? ⟨w.heap.size + 1, 2, none⟩ = some (.slice a7 n7 c7) := fun X Y => ((((Below.refl _ W8).alloc (Nat.le_refl _) X).alloc (by simp) Y).cell (p := ⟨w.heap.size + 1, 2, none⟩) (lt_of_cell6 k812)).trans k812
  have k813a : ∀ X, (W8.alloc X).cell? ⟨w.heap.size + 1, 3, none⟩ = some (.string tx) := fun X => (((Below.refl _ W8).alloc (Nat.le_refl _) X).cell (p := ⟨w.heap.size + 1, 3, none⟩) (lt_of_cell6 k813)).trans k813
  have k813b : ∀ X Y, ((W8.alloc X).alloc Y).cell? ⟨w.heap.size + 1, 3, none⟩ = some (.string tx) := fun X Y => ((((Below.refl _ W8).alloc (Nat.le_refl _) X).alloc (by simp) Y).cell (p := ⟨w.heap.size + 1, 3, none⟩) (lt_of_cell6 k813)).trans k813
  have k814a : ∀ X, (W8.alloc X).cell? ⟨w.heap.size + 1, 4, none⟩ = some (.int .i64 (-1)) := fun X => (((Below.refl _ W8).alloc (Nat.le_refl _) X).cell (p := ⟨w.heap.size + 1, 4, none⟩) (lt_of_cell6 k814)).trans k814
  have k814b : ∀ X Y, ((W8.alloc X).alloc Y).cell? ⟨w.heap.size + 1, 4, none⟩ = some (.int .i64 (-1)) := fun X Y => ((((Below.refl _ W8).alloc (Nat.le_refl _) X).alloc (by simp) Y).cell (p := ⟨w.heap.size + 1, 4, none⟩) (lt_of_cell6 k814)).trans k814
  have k815a : ∀ X, (W8.alloc X).cell? ⟨w.heap.size + 1, 5, none⟩ = some (.slice none 0 0) := fun X => (((Below.refl _ W8).alloc (Nat.le_refl _) X).cell (p := ⟨w.heap.size + 1, 5, none⟩) (lt_of_cell6 k815)).trans k815
  have k815b : ∀ X Y, ((W8.alloc X).alloc Y).cell? ⟨w.heap.size + 1, 5, none⟩ = some (.slice none 0 0) := fun X Y => ((((Below.refl _ W8).alloc (Nat.le_refl _) X).alloc (by simp) Y).cell (p := ⟨w.heap.size + 1, 5, none⟩) (lt_of_cell6 k815)).trans k815
  have HS8 := (show Hid (W8.heap.size = w7.heap.size) from hs8)
  have hS8 : w.heap.size + 1 + 1 + 1 < W8.heap.size := by omega
  clear hs8 hs7
  have HSV := (show Hid (Sv 6 W8 (.slice (some ⟨b, off, none⟩) ns.length cap) (nodeCells qs)) from hsv8)
  have HONE := (show Hid (∀ y ∈ nodeCells qs, y.oneCell' = true) from hone)
  have HQ2 := (show Hid (w.ownsRow B 37 6 (.slice (some ⟨b, off, none⟩) ns.length cap) ns.length (nodeCells qs)) from hq2)
  clear hq1 hq2 hq3 hsv8 hone g80 g81 g82 b8 o8 HO
  go_cut [] from 13 (fun wx => AddW B w (w.heap.size) ns k nm rs tx wx)
  case first =>
    go_region_law (first
      | (with_reducible refine step_appV (w := (W8.alloc (Obj.cells #[] 37)).drew) ?_ (.tmp 13) (.tmp 15) 24 ?_ W8.heap.size 37 iN _ 6 96 ?_ hiN hzN0 hzN1 hzN2 ?_ ?_ (.slice (some ⟨W8.heap.size, 0, none⟩) 0 0) 0 [] ?_ ?_ ⟨b, off, none⟩ ns.length cap (nodeCells qs) ?_ ?_ ?_ ?_ ?_ ?_ ?_
         · rfl
         · rfl
         · exact Tryz.underlying24
         · rfl
         · decide
         · simp [Act.eval]
         · exact ownsRow_below (empty_row W8 W8.heap.size 37 6 (Nat.le_refl _)) (below_drewN 1)
         · simp [Act.eval]
         · exact (HSV.out.below (((Below.refl _ W8).alloc (Nat.le_refl _) _).trans (below_drewN 1)))
         · exact HONE.out
         · (unfold maxLen; omega)
         · omega
         · exact (((Below.refl _ W8).alloc (Nat.le_refl _) _).trans (below_drewN 1)).size
         intro v9 w9 o9 g9
         rw [List.nil_append, Nat.zero_add] at o9
         obtain ⟨g1, cap1, rfl, hg1, hl1⟩ := one_form o9 h0
         have b9 : Below W8.heap.size W8 w9 := (((Below.refl _ W8).alloc (Nat.le_refl _) _).trans (below_drewN 1)).grown g9 ((((Below.refl _ W8).alloc (Nat.le_refl _) _).trans (below_drewN 1))).size (fun r e => by simp only [Value.ownBlock, Option.some.injEq] at e; omega)
         have HO9 := (show Hid _ from o9)
         have HB9 := (show Hid (Below W8.heap.size W8 w9) from b9)

         have k80c : w9.cell? ⟨w.heap.size, 0, none⟩ = some (.slice (some ⟨b, off, none⟩) ns.length cap) := (b9.cell (p := ⟨w.heap.size, 0, none⟩) (lt_of_cell6 k80)).trans k80
         have k810c : w9.cell? ⟨w.heap.size + 1, 0, none⟩ = some (.int .i64 k) := (b9.cell (p := ⟨w.heap.size + 1, 0, none⟩) (lt_of_cell6 k810)).trans k810
         have k811c : w9.cell? ⟨w.heap.size + 1, 1, none⟩ = some (.string nm) := (b9.cell (p := ⟨w.heap.size + 1, 1, none⟩) (lt_of_cell6 k811)).trans k811
         have k812c : w9.cell? ⟨w.heap.size + 1, 2, none⟩ = some (.slice a7 n7 c7) := (b9.cell (p := ⟨w.heap.size + 1, 2, none⟩) (lt_of_cell6 k812)).trans k812
         have k813c : w9.cell? ⟨w.heap.size + 1, 3, none⟩ = some (.string tx) := (b9.cell (p := ⟨w.heap.size + 1, 3, none⟩) (lt_of_cell6 k813)).trans k813
         have k814c : w9.cell? ⟨w.heap.size + 1, 4, none⟩ = some (.int .i64 (-1)) := (b9.cell (p := ⟨w.heap.size + 1, 4, none⟩) (lt_of_cell6 k814)).trans k814
         have k815c : w9.cell? ⟨w.heap.size + 1, 5, none⟩ = some (.slice none 0 0) := (b9.cell (p := ⟨w.heap.size + 1, 5, none⟩) (lt_of_cell6 k815)).trans k815
         clear o9 b9 g9)
      | (with_reducible refine step_appV (w := ((W8.alloc (Obj.cells #[] 37)).alloc (Obj.cells #[.int .i64 k, .string nm, .slice a7 n7 c7, .string tx, .int .i64 (-1), .slice none 0 0] 37)).drew) ?_ (.tmp 13) (.tmp 15) 24 ?_ W8.heap.size 37 iN _ 6 96 ?_ hiN hzN0 hzN1 hzN2 ?_ ?_ (.slice (some ⟨W8.heap.size, 0, none⟩) 0 0) 0 [] ?_ ?_ ⟨b, off, none⟩ ns.length cap (nodeCells qs) ?_ ?_ ?_ ?_ ?_ ?_ ?_
         · rfl
         · rfl
         · exact Tryz.underlying24
         · rfl
         · decide
         · simp [Act.eval]
         · exact ownsRow_below (ownsRow_below (empty_row W8 W8.heap.size 37 6 (Nat.le_refl _)) ((Below.refl _ _).alloc (Nat.le_refl _) _)) (below_drewN 1)
         · simp [Act.eval]
         · exact (HSV.out.below ((((Below.refl _ W8).alloc (Nat.le_refl _) _).alloc (by simp) _).trans (below_drewN 1)))
         · exact HONE.out
         · (unfold maxLen; omega)
         · omega
         · exact ((((Below.refl _ W8).alloc (Nat.le_refl _) _).alloc (by simp) _).trans (below_drewN 1)).size
         intro v9 w9 o9 g9
         rw [List.nil_append, Nat.zero_add] at o9
         obtain ⟨g1, cap1, rfl, hg1, hl1⟩ := one_form o9 h0
         have b9 : Below W8.heap.size W8 w9 := ((((Below.refl _ W8).alloc (Nat.le_refl _) _).alloc (by simp) _).trans (below_drewN 1)).grown g9 (((((Below.refl _ W8).alloc (Nat.le_refl _) _).alloc (by simp) _).trans (below_drewN 1))).size (fun r e => by simp only [Value.ownBlock, Option.some.injEq] at e; omega)
         have HO9 := (show Hid _ from o9)
         have HB9 := (show Hid (Below W8.heap.size W8 w9) from b9)
         have hnode : w9.heap[W8.heap.size + 1]? = some (.cells #[.int .i64 k, .string nm, .slice a7 n7 c7, .string tx, .int .i64 (-1), .slice none 0 0] 37 (0, 0)) := (g9.block _ (by simp [World.drew]) (fun e => by simp only [Value.ownBlock, Option.some.injEq] at e; omega)).trans (two_new W8 _ _)
         have HND := (show Hid _ from hnode)
         have k80c : w9.cell? ⟨w.heap.size, 0, none⟩ = some (.slice (some ⟨b, off, none⟩) ns.length cap) := (b9.cell (p := ⟨w.heap.size, 0, none⟩) (lt_of_cell6 k80)).trans k80
         have k810c : w9.cell? ⟨w.heap.size + 1, 0, none⟩ = some (.int .i64 k) := (b9.cell (p := ⟨w.heap.size + 1, 0, none⟩) (lt_of_cell6 k810)).trans k810
         have k811c : w9.cell? ⟨w.heap.size + 1, 1, none⟩ = some (.string nm) := (b9.cell (p := ⟨w.heap.size + 1, 1, none⟩) (lt_of_cell6 k811)).trans k811
         have k812c : w9.cell? ⟨w.heap.size + 1, 2, none⟩ = some (.slice a7 n7 c7) := (b9.cell (p := ⟨w.heap.size + 1, 2, none⟩) (lt_of_cell6 k812)).trans k812
         have k813c : w9.cell? ⟨w.heap.size + 1, 3, none⟩ = some (.string tx) := (b9.cell (p := ⟨w.heap.size + 1, 3, none⟩) (lt_of_cell6 k813)).trans k813
         have k814c : w9.cell? ⟨w.heap.size + 1, 4, none⟩ = some (.int .i64 (-1)) := (b9.cell (p := ⟨w.heap.size + 1, 4, none⟩) (lt_of_cell6 k814)).trans k814
         have k815c : w9.cell? ⟨w.heap.size + 1, 5, none⟩ = some (.slice none 0 0) := (b9.cell (p := ⟨w.heap.size + 1, 5, none⟩) (lt_of_cell6 k815)).trans k815
         clear o9 b9 g9)
      | (with_reducible refine step_appV (w := ((W8.alloc (Obj.cells #[.int .i64 k, .string nm, .slice a7 n7 c7, .string tx, .int .i64 (-1), .slice none 0 0] 37)).alloc (Obj.cells #[] 37)).drew) ?_ (.tmp 13) (.tmp 15) 24 ?_ W8.heap.size 37 iN _ 6 96 ?_ hiN hzN0 hzN1 hzN2 ?_ ?_ (.slice (some ⟨W8.heap.size + 1, 0, none⟩) 0 0) 0 [] ?_ ?_ ⟨b, off, none⟩ ns.length cap (nodeCells qs) ?_ ?_ ?_ ?_ ?_ ?_ ?_
         · rfl
         · rfl
         · exact Tryz.underlying24
         · rfl
         · decide
         · simp [Act.eval]
         · exact (by have := ownsRow_below (empty_row (W8.alloc (Obj.cells #[.int .i64 k, .string nm, .slice a7 n7 c7, .string tx, .int .i64 (-1), .slice none 0 0] 37)) W8.heap.size 37 6 (by simp)) (below_drewN 1); rwa [World.size_alloc] at this)
         · simp [Act.eval]
         · exact (HSV.out.below ((((Below.refl _ W8).alloc (Nat.le_refl _) _).alloc (by simp) _).trans (below_drewN 1)))
         · exact HONE.out
         · (unfold maxLen; omega)
         · omega
         · exact ((((Below.refl _ W8).alloc (Nat.le_refl _) _).alloc (by simp) _).trans (below_drewN 1)).size
         intro v9 w9 o9 g9
         rw [List.nil_append, Nat.zero_add] at o9
         obtain ⟨g1, cap1, rfl, hg1, hl1⟩ := one_form o9 h0
         have b9 : Below W8.heap.size W8 w9 := ((((Below.refl _ W8).alloc (Nat.le_refl _) _).alloc (by simp) _).trans (below_drewN 1)).grown g9 (((((Below.refl _ W8).alloc (Nat.le_refl _) _).alloc (by simp) _).trans (below_drewN 1))).size (fun r e => by simp only [Value.ownBlock, Option.some.injEq] at e; omega)
         have HO9 := (show Hid _ from o9)
         have HB9 := (show Hid (Below W8.heap.size W8 w9) from b9)
         have hnode : w9.heap[W8.heap.size]? = some (.cells #[.int .i64 k, .string nm, .slice a7 n7 c7, .string tx, .int .i64 (-1), .slice none 0 0] 37 (0, 0)) := (g9.block _ (by simp [World.drew]; omega) (fun e => by simp only [Value.ownBlock, Option.some.injEq] at e; omega)).trans ((Below.heap_alloc _ _ _ (by simp)).trans (World.alloc_heap_new W8 _))
         have HND := (show Hid _ from hnode)
         have k80c : w9.cell? ⟨w.heap.size, 0, none⟩ = some (.slice (some ⟨b, off, none⟩) ns.length cap) := (b9.cell (p := ⟨w.heap.size, 0, none⟩) (lt_of_cell6 k80)).trans k80
         have k810c : w9.cell? ⟨w.heap.size + 1, 0, none⟩ = some (.int .i64 k) := (b9.cell (p := ⟨w.heap.size + 1, 0, none⟩) (lt_of_cell6 k810)).trans k810
         have k811c : w9.cell? ⟨w.heap.size + 1, 1, none⟩ = some (.string nm) := (b9.cell (p := ⟨w.heap.size + 1, 1, none⟩) (lt_of_cell6 k811)).trans k811
         have k812c : w9.cell? ⟨w.heap.size + 1, 2, none⟩ = some (.slice a7 n7 c7) := (b9.cell (p := ⟨w.heap.size + 1, 2, none⟩) (lt_of_cell6 k812)).trans k812
         have k813c : w9.cell? ⟨w.heap.size + 1, 3, none⟩ = some (.string tx) := (b9.cell (p := ⟨w.heap.size + 1, 3, none⟩) (lt_of_cell6 k813)).trans k813
         have k814c : w9.cell? ⟨w.heap.size + 1, 4, none⟩ = some (.int .i64 (-1)) := (b9.cell (p := ⟨w.heap.size + 1, 4, none⟩) (lt_of_cell6 k814)).trans k814
         have k815c : w9.cell? ⟨w.heap.size + 1, 5, none⟩ = some (.slice none 0 0) := (b9.cell (p := ⟨w.heap.size + 1, 5, none⟩) (lt_of_cell6 k815)).trans k815
         clear o9 b9 g9)
      | (with_reducible refine step_appV (w := (w9.alloc (Obj.cells #[.int .i64 k, .string nm, .slice a7 n7 c7, .string tx, .int .i64 (-1), .slice none 0 0] 37))) ?_ (.tmp 16) (.tmp 18) 24 ?_ W8.heap.size 37 iN _ 6 96 ?_ hiN hzN0 hzN1 hzN2 ?_ ?_ (.slice (some ⟨g1, 0, none⟩) ns.length cap1) ns.length (nodeCells qs) ?_ ?_ ⟨w9.heap.size, 0, none⟩ 1 1 (nodeRow ((⟨k, nm, rs, tx, -1, []⟩, (.slice a7 n7 c7, .slice none 0 0)) : PNode × (Value × Value)).1 ((⟨k, nm, rs, tx, -1, []⟩, (.slice a7 n7 c7, .slice none 0 0)) : PNode × (Value × Value)).2) ?_ ?_ ?_ ?_ ?_ ?_ ?_
         · rfl
         · rfl
         · exact Tryz.underlying24
         · rfl
         · decide
         · simp [Act.eval]
         · exact ownsRow_below HO9.out ((Below.refl _ _).alloc (Nat.le_refl _) _)
         · simp [Act.eval]
         · exact sv_oneNode (q := ((⟨k, nm, rs, tx, -1, []⟩, (.slice a7 n7 c7, .slice none 0 0)) : PNode × (Value × Value))) (World.alloc_heap_new w9 _)
         · exact node_oneCell (B := w.heap.size) (w := W8) (q := ((⟨k, nm, rs, tx, -1, []⟩, (.slice a7 n7 c7, .slice none 0 0)) : PNode × (Value × Value))) ⟨HQ8.out.2.2.2.2, ownsRow_nil_int _ _⟩
         · (unfold maxLen; omega)
         · omega
         · (have := HB9.out.size; rw [World.size_alloc]; omega)
         intro v10 w10 o10 g10
         obtain ⟨g2, cap2, rfl, hg2, hl2⟩ := one_form o10 (by omega)
         have b10 : Below W8.heap.size W8 w10 := (HB9.out.alloc HB9.out.size _).grown g10 (HB9.out.alloc HB9.out.size _).size (fun r e => (World.ownsRow.lt HO9.out r e).1)
         have g10N := (b10.block _ (blk_lt HQ8.out.1)).trans HQ8.out.1
         have y10 : w10.cell? ⟨w.heap.size, 0, none⟩ = some (.slice (some ⟨b, off, none⟩) ns.length cap) := (b10.cell (p := ⟨w.heap.size, 0, none⟩) (lt_of_cell6 k80)).trans k80
         have q10 : w10.frozen? ⟨w.heap.size, 0, none⟩ = false := by simp [World.frozen?, g10N]
         have HF := (show Hid (_ ∧ _) from ⟨o10, b10⟩)
         clear o10 b10 g10 g10N)
      | (with_reducible refine step_appV (w := w9) ?_ (.tmp 16) (.tmp 18) 24 ?_ W8.heap.size 37 iN _ 6 96 ?_ hiN hzN0 hzN1 hzN2 ?_ ?_ (.slice (some ⟨g1, 0, none⟩) ns.length cap1) ns.length (nodeCells qs) ?_ ?_ ⟨W8.heap.size + 1, 0, none⟩ 1 1 (nodeRow ((⟨k, nm, rs, tx, -1, []⟩, (.slice a7 n7 c7, .slice none 0 0)) : PNode × (Value × Value)).1 ((⟨k, nm, rs, tx, -1, []⟩, (.slice a7 n7 c7, .slice none 0 0)) : PNode × (Value × Value)).2) ?_ ?_ ?_ ?_ ?_ ?_ ?_
         · rfl
         · rfl
         · exact Tryz.underlying24
         · rfl
         · decide
         · simp [Act.eval]
         · exact HO9.out
         · simp [Act.eval]
         · exact sv_oneNode (q := ((⟨k, nm, rs, tx, -1, []⟩, (.slice a7 n7 c7, .slice none 0 0)) : PNode × (Value × Value))) HND.out
         · exact node_oneCell (B := w.heap.size) (w := W8) (q := ((⟨k, nm, rs, tx, -1, []⟩, (.slice a7 n7 c7, .slice none 0 0)) : PNode × (Value × Value))) ⟨HQ8.out.2.2.2.2, ownsRow_nil_int _ _⟩
         · (unfold maxLen; omega)
         · omega
         · exact HB9.out.size
         intro v10 w10 o10 g10
         obtain ⟨g2, cap2, rfl, hg2, hl2⟩ := one_form o10 (by omega)
         have b10 : Below W8.heap.size W8 w10 := (HB9.out).grown g10 (HB9.out).size (fun r e => (World.ownsRow.lt HO9.out r e).1)
         have g10N := (b10.block _ (blk_lt HQ8.out.1)).trans HQ8.out.1
         have y10 : w10.cell? ⟨w.heap.size, 0, none⟩ = some (.slice (some ⟨b, off, none⟩) ns.length cap) := (b10.cell (p := ⟨w.heap.size, 0, none⟩) (lt_of_cell6 k80)).trans k80
         have q10 : w10.frozen? ⟨w.heap.size, 0, none⟩ = false := by simp [World.frozen?, g10N]
         have HF := (show Hid (_ ∧ _) from ⟨o10, b10⟩)
         clear o10 b10 g10 g10N)
      | (with_reducible refine step_appV (w := w9) ?_ (.tmp 16) (.tmp 18) 24 ?_ W8.heap.size 37 iN _ 6 96 ?_ hiN hzN0 hzN1 hzN2 ?_ ?_ (.slice (some ⟨g1, 0, none⟩) ns.length cap1) ns.length (nodeCells qs) ?_ ?_ ⟨W8.heap.size, 0, none⟩ 1 1 (nodeRow ((⟨k, nm, rs, tx, -1, []⟩, (.slice a7 n7 c7, .slice none 0 0)) : PNode × (Value × Value)).1 ((⟨k, nm, rs, tx, -1, []⟩, (.slice a7 n7 c7, .slice none 0 0)) : PNode × (Value × Value)).2) ?_ ?_ ?_ ?_ ?_ ?_ ?_
         · rfl
         · rfl
         · exact Tryz.underlying24
         · rfl
         · decide
         · simp [Act.eval]
         · exact HO9.out
         · simp [Act.eval]
         · exact sv_oneNode (q := ((⟨k, nm, rs, tx, -1, []⟩, (.slice a7 n7 c7, .slice none 0 0)) : PNode × (Value × Value))) HND.out
         · exact node_oneCell (B := w.heap.size) (w := W8) (q := ((⟨k, nm, rs, tx, -1, []⟩, (.slice a7 n7 c7, .slice none 0 0)) : PNode × (Value × Value))) ⟨HQ8.out.2.2.2.2, ownsRow_nil_int _ _⟩
         · (unfold maxLen; omega)
         · omega
         · exact HB9.out.size
         intro v10 w10 o10 g10
         obtain ⟨g2, cap2, rfl, hg2, hl2⟩ := one_form o10 (by omega)
         have b10 : Below W8.heap.size W8 w10 := (HB9.out).grown g10 (HB9.out).size (fun r e => (World.ownsRow.lt HO9.out r e).1)
         have g10N := (b10.block _ (blk_lt HQ8.out.1)).trans HQ8.out.1
         have y10 : w10.cell? ⟨w.heap.size, 0, none⟩ = some (.slice (some ⟨b, off, none⟩) ns.length cap) := (b10.cell (p := ⟨w.heap.size, 0, none⟩) (lt_of_cell6 k80)).trans k80
         have q10 : w10.frozen? ⟨w.heap.size, 0, none⟩ = false := by simp [World.frozen?, g10N]
         have HF := (show Hid (_ ∧ _) from ⟨o10, b10⟩)
         clear o10 b10 g10 g10N))
    all_goals
      go_wp2_with fail
      go_meet
      have t1 := HF.out.1
      have t2 := HF.out.2
      have t3 := HQ8.out.1
      have t4 := HQ8.out.2.2.1
      have t5 := HQ8.out.2.2.2.1
      have t6 := HQ8.out.2.2.2.2
      with_reducible exact add_fin t3 t4 t5 rfl hB t6 HQ1.out HQ3.out t1 t2
  case rest =>
    obtain ⟨ax, nx, cx, hx0, hx2, hxo, hxb⟩ := hcut
    obtain ⟨ay, cy, ey, _, _, _⟩ := hxo.nodes.slice
    cases ey
    have hx0' : wc.heap[w.heap.size]? = some (.cells #[.slice ax (ns.length + 1) cx] 26 (0, 0)) := by simpa using hx0
    have hxo' : OwnN B wc (.slice ax (ns.length + 1) cx) (ns ++ [⟨k, nm, rs, tx, -1, []⟩]) := by simpa using hxo
    have l0 : wc.cell? ⟨w.heap.size, 0, none⟩ = some (.slice ax (ns.length + 1) cx) := by simp only [World.cell?, hx0']; rfl
    have l2 : wc.cell? ⟨w.heap.size + 1 + 1, 0, none⟩ = some (.slice none 0 0) := by simp only [World.cell?, hx2]; rfl
    have f2 : wc.frozen? ⟨w.heap.size + 1 + 1, 0, none⟩ = false := by simp [World.frozen?, hx2]
    have HX2 := (show Hid _ from hx2)
    have HXO := (show Hid _ from hxo')
    have HXB := (show Hid _ from hxb)
    clear hx0 hx2 hxo hxb hx0' hxo'
    have hsub : ((ns.length + 1 : Nat) : Int) - 1 = (ns.length : Int) := by omega
    go_wp2
    go_region
    go_wp2
    have gs := setCell_at (k := 0) (u := .slice ax (ns.length + 1) cx) HX2.out
    have gr := grown_setCell wc (w.heap.size + 1 + 1) 0 (.slice ax (ns.length + 1) cx)
    have ob := (OwnN.kept HXO.out gr (fun r e => by cases e; exact ⟨_, _, _, HX2.out, by decide, by decide, by decide⟩)).below (below_drewN 1)
    have bb := (HXB.out.setCell (p := ⟨w.heap.size + 1 + 1, 0, none⟩) (by show w.heap.size ≤ w.heap.size + 1 + 1; omega) (.slice ax (ns.length + 1) cx)).trans (below_drewN 1)
    refine bodyPost_ret (add_res rfl rfl gs) rfl ?_
    exact ⟨_, rfl, ob, bb⟩
end Go.Proofs.YtkljadaggnbjkaaGreat

/- The program's add onto a tree of its own. No condition. -/
namespace Go.Proofs.YtkljadaggnbjkaaGreat
open Go.RowKit
set_option maxRecDepth 100000
set_option linter.unusedVariables false

/-- Nothing is turned but the block a, and rows of nodes from block B on. -/
structure AddFr (B a : Nat) (w w' : World) : Prop where
  os : w'.os = w.os
  tape : w'.tape = w.tape
  output : w'.output = w.output
  size : w.heap.size ≤ w'.heap.size
  block : ∀ j, j < w.heap.size → j ≠ a → (j < B ∨ ∃ cs t fr, w.heap[j]? = some (.cells cs t fr) ∧ t ≠ 37) → w'.heap[j]? = w.heap[j]?
theorem AddFr.below {B a : Nat} {w w' : World} (h : AddFr B a w w') (ha : B ≤ a) (hB : B ≤ w.heap.size) : Below B w w' := ⟨h.os, h.tape, h.output, h.size, fun j hj => h.block j (by omega) (by omega) (.inl hj)⟩
theorem AddFr.box {B a : Nat} {w w' : World} (h : AddFr B a w w') {j : Nat} {cs : Array Value} {t : TypeId} {fr : Nat × Nat} (hj : w.heap[j]? = some (.cells cs t fr)) (ht : t ≠ 37) (hne : j ≠ a) : w'.heap[j]? = some (.cells cs t fr) := (h.block j (lt_of_block hj) hne (.inr ⟨_, _, _, hj, ht⟩)).trans hj

/-- The slice value v has the nodes of qs, whose lists are the slices that qs tells; all of them are the call's own. -/
def OwnQ (B : Nat) (w : World) (v : Value) (qs : List (PNode × (Value × Value))) : Prop :=
  w.ownsRow B 37 6 v qs.length (nodeCells qs) ∧ ∀ q ∈ qs, w.ownsRow B 110 2 q.2.1 q.1.attrs.length (pairCells q.1.attrs) ∧ Own B 3 .i64 w q.2.2 q.1.kids
theorem OwnN.q {B : Nat} {w : World} {v : Value} {ns : List PNode} (h : OwnN B w v ns) : ∃ qs, qs.map (fun q => q.1) = ns ∧ OwnQ B w v qs := by
  obtain ⟨qs, h1, h2, h3⟩ := h
  have : qs.length = ns.length := by have := congrArg List.length h1; simpa using this
  exact ⟨qs, h1, by rw [this]; exact h2, h3⟩
theorem OwnQ.n {B : Nat} {w : World} {v : Value} {qs : List (PNode × (Value × Value))} (h : OwnQ B w v qs) : OwnN B w v (qs.map (fun q => q.1)) := ⟨qs, rfl, by rw [List.length_map]; exact h.1, h.2⟩
theorem OwnQ.below {B : Nat} {w w' : World} {v : Value} {qs : List (PNode × (Value × Value))} (h : OwnQ B w v qs) (hb : Below w.heap.size w w') : OwnQ B w' v qs := ⟨ownsRow_below h.1 hb, fun q hq => ⟨ownsRow_below (h.2 q hq).1 hb, (h.2 q hq).2.below hb⟩⟩
theorem OwnQ.base {B B' : Nat} {w : World} {v : Value} {qs : List (PNode × (Value × Value))} (h : OwnQ B w v qs) (hB : B' ≤ B) : OwnQ B' w v qs := ⟨ownsRow_base h.1 hB, fun q hq => ⟨ownsRow_base (h.2 q hq).1 hB, (h.2 q hq).2.base hB⟩⟩
/-- Kept where a block of another kind is turned. -/
theorem OwnQ.kept {B : Nat} {w w' : World} {v : Value} {qs : List (PNode × (Value × Value))} {row : Option Nat} (h : OwnQ B w v qs) (hg : w.grownBy w' row)
    (hr : ∀ r, row = some r → ∃ cs t fr, w.heap[r]? = some (.cells cs t fr) ∧ t ≠ 37 ∧ t ≠ 110 ∧ t ≠ 3) : OwnQ B w' v qs :=
  ⟨kept_of_type h.1 hg (fun r e => by obtain ⟨a, b, c, d, e1, e2, e3⟩ := hr r e; exact ⟨a, b, c, d, e1⟩),
    fun q hq => ⟨kept_of_type (h.2 q hq).1 hg (fun r e => by obtain ⟨a, b, c, d, e1, e2, e3⟩ := hr r e; exact ⟨a, b, c, d, e2⟩), kept_of_type (h.2 q hq).2 hg (fun r e => by obtain ⟨a, b, c, d, e1, e2, e3⟩ := hr r e; exact ⟨a, b, c, d, e3⟩)⟩⟩
/-- Kept where a variable is turned that is no list of kids. -/
theorem OwnQ.keptInt {B K : Nat} {w w' : World} {v : Value} {qs : List (PNode × (Value × Value))} (h : OwnQ B w v qs) (hg : w.grownBy w' (some K)) {cs : Array Value} {fr : Nat × Nat} (hK : w.heap[K]? = some (.cells cs 3 fr))
    (hne : ∀ q ∈ qs, q.2.2.ownBlock ≠ some K) : OwnQ B w' v qs :=
  ⟨kept_of_type h.1 hg (fun r e => by cases e; exact ⟨_, _, _, hK, by decide⟩),
    fun q hq => ⟨kept_of_type (h.2 q hq).1 hg (fun r e => by cases e; exact ⟨_, _, _, hK, by decide⟩), World.ownsRow.kept (h.2 q hq).2 hg (.inr (hne q hq))⟩⟩
theorem OwnQ.snoc {B : Nat} {w w' : World} {v v' : Value} {qs : List (PNode × (Value × Value))} {q : PNode × (Value × Value)} (h : OwnQ B w v qs) (hq : w.ownsRow B 110 2 q.2.1 q.1.attrs.length (pairCells q.1.attrs) ∧ Own B 3 .i64 w q.2.2 q.1.kids)
    (ho : w'.ownsRow B 37 6 v' (qs.length + 1) (nodeCells qs ++ nodeRow q.1 q.2)) (hg : w.grownBy w' v.ownBlock) : OwnQ B w' v' (qs ++ [q]) := by
  refine ⟨?_, fun p hp => ?_⟩
  · rw [nodeCells_app, List.length_append]; simpa [nodeCells] using ho
  · rcases List.mem_append.mp hp with hp | hp
    · exact lists_kept h.1 hg (h.2 p hp)
    · simp at hp; subst hp; exact lists_kept h.1 hg hq

theorem add_fr {B a : Nat} {w w5 w6 w9 w' : World} {v : Value} {n : Nat} {xs : List Value} (b5 : Below w.heap.size w w5) (b6 : Below w5.heap.size w5 w6) (o : w6.ownsRow B 37 6 v n xs) (g9 : w6.grownBy w9 v.ownBlock) (g : w9.grownBy w' (some a)) : AddFr B a w w' := by
  have b := b5.trans (b6.mono b5.size)
  refine ⟨g.os.trans (g9.os.trans b.os), g.tape.trans (g9.tape.trans b.tape), g.output.trans (g9.output.trans b.output), Nat.le_trans b.size (Nat.le_trans g9.size g.size), fun j hj hja ht => ?_⟩
  have h6 := b.block j hj
  have l6 := Nat.lt_of_lt_of_le hj b.size
  rw [g.block j (Nat.lt_of_lt_of_le l6 g9.size) (fun e => by injection e with e; exact hja e), g9.block j l6 ?_, h6]
  intro e
  have hlt := o.lt j e.symm
  rcases ht with ht | ⟨cs, t, fr, h1, h2⟩
  · omega
  · rcases o.2 with ⟨rfl, _⟩ | ⟨g', cap, cur, rfl, _, hh, _⟩
    · cases e
    · cases e
      rw [h6, h1] at hh
      cases hh
      exact h2 rfl

set_option maxHeartbeats 2000000 in
set_option maxRecDepth 100000 in
theorem iadd_any {B a : Nat} {w : World} {v : Value} {qs : List (PNode × (Value × Value))} (ha : w.heap[a]? = some (.cells #[v] 69 (0, 0))) (hO : OwnQ B w v qs) (hB : B ≤ w.heap.size) (h0 : 0 < qs.length) (hlen : qs.length ≤ 100000) (k p : Int) (nm tx : ByteArray)
    {av1 : Option Addr} {av2 av3 : Nat} {kv1 : Option Addr} {kv2 kv3 : Nat} {rs : List (ByteArray × ByteArray)} (hav : Sv 2 w (.slice av1 av2 av3) (pairCells rs)) (hrs : rs.length ≤ 1048576) :
    Calls Tryz.prog 40 #[.pointer (some ⟨a, 0, none⟩), .agg #[.int .i64 k, .string nm, .slice av1 av2 av3, .string tx, .int .i64 p, .slice kv1 kv2 kv3]] w fun e w' =>
      e = .returned (.int .i64 qs.length) ∧ (∃ v', w'.heap[a]? = some (.cells #[v'] 69 (0, 0)) ∧ ∃ av', OwnQ B w' v' (qs ++ [(⟨k, nm, rs, tx, -1, []⟩, (av', .slice none 0 0))])) ∧ AddFr B a w w' := by
  obtain ⟨ia, hia, hza0, hza1, hza2⟩ := info_parts Tryz.infoAttrRow
  obtain ⟨iN, hiN, hzN0, hzN1, hzN2⟩ := info_parts Tryz.infoNodeRow
  have HO := (show Hid (OwnQ B w v qs) from hO)
  have HAV := (show Hid (Sv 2 w (.slice av1 av2 av3) (pairCells rs)) from hav)
  have HA := (show Hid _ from ha)
  obtain ⟨vs, cap, rfl, hc1, hc2, hcs⟩ := hO.n.nodes.slice
  rw [List.length_map] at hc1
  have hlt := lt_of_block ha
  rw [List.length_map] at *
  clear hO hav hcs ha
  obtain ⟨w1, hw1⟩ : ∃ x, x = w.alloc (.cells #[.int .i64 k, .string nm, .slice av1 av2 av3, .string tx, .int .i64 (-1), .slice none 0 0] 37) := ⟨_, rfl⟩
  have b1 : Below w.heap.size w w1 := by rw [hw1]; exact (Below.refl _ _).alloc (Nat.le_refl _) _
  have x1 : w1.heap[w.heap.size]? = some (.cells #[.int .i64 k, .string nm, .slice av1 av2 av3, .string tx, .int .i64 (-1), .slice none 0 0] 37 (0, 0)) := by rw [hw1]; exact World.alloc_heap_new _ _
  have hav1 := HAV.out.below b1
  have hs1 := blk_lt x1
  have HB1 := (show Hid _ from b1)
  have HX1 := (show Hid _ from x1)
  clear b1 x1
  go_enter Tryz.func40, Tryz.ntmps40
  go_upto_region 3 with (first
        | (at_builtin
           rw [← hw1]
           refine wpList_appV _ rfl (.const (.slice none 0 0)) (.tmp 8) 35 rfl w.heap.size 110 ia _ 2 32 Tryz.underlying35 hia hza0 hza1 hza2 rfl (by decide) (.slice none 0 0) (.slice av1 av2 av3) 0 rs.length [] (pairCells rs) rfl rfl (World.ownsRow_nil _ _ _ _) hav1 (pairCells_len _) (pair_oneCell _) (by omega) (by unfold maxLen; omega) (by omega) ?_
           intro v4 w4 o4 g4
           clear hw1
           rw [List.nil_append, Nat.zero_add] at o4
           have b4 : Below w.heap.size w w4 := HB1.out.grown g4 (by omega) (fun r e => by cases e)
           have x4 : w4.heap[w.heap.size]? = some (.cells #[.int .i64 k, .string nm, .slice av1 av2 av3, .string tx, .int .i64 (-1), .slice none 0 0] 37 (0, 0)) := (g4.block _ (by omega) (by simp [Value.ownBlock])).trans HX1.out
           have y2 : w4.cell? ⟨w.heap.size, 2, none⟩ = some (.slice av1 av2 av3) := by simp only [World.cell?, x4]; rfl
           have z2 : w4.frozen? ⟨w.heap.size, 2, none⟩ = false := by simp [World.frozen?, x4]
           have hlt4 := blk_lt x4
           obtain ⟨a4, n4, d4, rfl⟩ := own_slice o4
           obtain ⟨w5, hw5⟩ : ∃ x, x = w4.setCell ⟨w.heap.size, 2, none⟩ (.slice a4 n4 d4) := ⟨_, rfl⟩
           have g5 : w4.grownBy w5 (some w.heap.size) := by rw [hw5]; exact grown_setCell _ _ _ _
           have x5 : w5.heap[w.heap.size]? = some (.cells #[.int .i64 k, .string nm, .slice a4 n4 d4, .string tx, .int .i64 (-1), .slice none 0 0] 37 (0, 0)) := by rw [hw5]; exact setCell_at x4
           have b5 : Below w.heap.size w w5 := b4.grown g5 b4.size (fun r e => by cases e; exact Nat.le_refl _)
           have o5 := kept_of_type o4 g5 (fun r e => by cases e; exact ⟨_, _, _, x4, by decide⟩)
           have hs5 := blk_lt x5
           have HX5 := (show Hid _ from x5)
           have HB5 := (show Hid (Below w.heap.size w w5) from b5)
           have HO5 := (show Hid _ from o5)
           clear x4 x5 b4 b5 o4 g4 g5 o5 hav1 HX1 HB1 hs1))
  rw [← hw5]
  clear hw5
  have hA5 := (HB5.out.block a hlt).trans HA.out
  have cA5 : w5.cell? ⟨a, 0, none⟩ = some (.slice vs qs.length cap) := by simp only [World.cell?, hA5]; rfl
  have hlt5 := lt_of_block hA5
  have c50 : w5.cell? ⟨w.heap.size, 0, none⟩ = some (.int .i64 k) := by simp only [World.cell?, HX5.out]; rfl
  have c51 : w5.cell? ⟨w.heap.size, 1, none⟩ = some (.string nm) := by simp only [World.cell?, HX5.out]; rfl
  have c52 : w5.cell? ⟨w.heap.size, 2, none⟩ = some (.slice a4 n4 d4) := by simp only [World.cell?, HX5.out]; rfl
  have c53 : w5.cell? ⟨w.heap.size, 3, none⟩ = some (.string tx) := by simp only [World.cell?, HX5.out]; rfl
  have c54 : w5.cell? ⟨w.heap.size, 4, none⟩ = some (.int .i64 (-1)) := by simp only [World.cell?, HX5.out]; rfl
  have c55 : w5.cell? ⟨w.heap.size, 5, none⟩ = some (.slice none 0 0) := by simp only [World.cell?, HX5.out]; rfl
  have hq5 := OwnQ.below HO.out HB5.out
  have b6 : Below w5.heap.size w5 (w5.alloc (.cells #[.int .i64 k, .string nm, .slice a4 n4 d4, .string tx, .int .i64 (-1), .slice none 0 0] 37)).drew := ((Below.refl _ _).alloc (Nat.le_refl _) _).trans (below_drewN 1)
  have x6 : (w5.alloc (.cells #[.int .i64 k, .string nm, .slice a4 n4 d4, .string tx, .int .i64 (-1), .slice none 0 0] 37)).drew.heap[w5.heap.size]? = some (.cells (nodeRow ⟨k, nm, rs, tx, -1, []⟩ (.slice a4 n4 d4, .slice none 0 0)).toArray 37 (0, 0)) := heap_alloc_new w5 _
  have HR6 := (show Hid (OwnQ B _ _ _) from hq5.below b6)
  have HQ6 := (show Hid (_ ∧ _) from ⟨ownsRow_below (ownsRow_base HO5.out hB) b6, ownsRow_nil_int B (w5.alloc (.cells #[.int .i64 k, .string nm, .slice a4 n4 d4, .string tx, .int .i64 (-1), .slice none 0 0] 37)).drew⟩)
  have HONE := (show Hid _ from node_oneCell (q := ((⟨k, nm, rs, tx, -1, []⟩, (.slice a4 n4 d4, .slice none 0 0)) : PNode × (Value × Value))) HQ6.out)
  have HSV := (show Hid _ from sv_oneNode (q := ((⟨k, nm, rs, tx, -1, []⟩, (.slice a4 n4 d4, .slice none 0 0)) : PNode × (Value × Value))) x6)
  have hbs5 := HB5.out.size
  have hB5 : B ≤ w5.heap.size := Nat.le_trans hB hbs5
  have HB6 := (show Hid _ from b6)
  have HA5 := (show Hid _ from hA5)
  have hsz6 : (w5.alloc (.cells #[.int .i64 k, .string nm, .slice a4 n4 d4, .string tx, .int .i64 (-1), .slice none 0 0] 37)).drew.heap.size = w5.heap.size + 1 := by simp
  have HSZ := (show Hid ((w5.alloc (.cells #[.int .i64 k, .string nm, .slice a4 n4 d4, .string tx, .int .i64 (-1), .slice none 0 0] 37)).drew.heap.size = w5.heap.size + 1) from hsz6)
  clear b6 x6 hq5 hA5 HO5 HO HX5 hsz6
  go_region_law (first
    | (with_reducible refine step_appV (w := (w5.alloc (.cells #[.int .i64 k, .string nm, .slice a4 n4 d4, .string tx, .int .i64 (-1), .slice none 0 0] 37)).drew) ?_ (.tmp 15) (.tmp 17) 24 ?_ B 37 iN _ 6 96 ?_ hiN hzN0 hzN1 hzN2 ?_ ?_ (.slice vs qs.length cap) qs.length (nodeCells qs) ?_ ?_ ⟨w5.heap.size, 0, none⟩ 1 1 (nodeRow ⟨k, nm, rs, tx, -1, []⟩ (.slice a4 n4 d4, .slice none 0 0)) ?_ ?_ ?_ ?_ ?_ ?_ ?_
       · rfl
       · rfl
       · exact Tryz.underlying24
       · rfl
       · decide
       · simp [Act.eval]
       · exact HR6.out.1
       · simp [Act.eval]
       · exact HSV.out
       · exact HONE.out
       · (unfold maxLen; omega)
       · omega
       · (have := HSZ.out; omega)
       intro v9 w9 o9 g9
       obtain ⟨g1, cap1, rfl, hg1, hl1⟩ := one_form o9 (Nat.succ_pos _)
       have own9 := OwnQ.snoc (q := ((⟨k, nm, rs, tx, -1, []⟩, (.slice a4 n4 d4, .slice none 0 0)) : PNode × (Value × Value))) HR6.out HQ6.out o9 g9
       have hA9 := blk_type ((HB6.out.block a hlt5).trans HA5.out) g9 (row_type HR6.out.1 (by decide))
       have cA9 : w9.cell? ⟨a, 0, none⟩ = some (.slice vs qs.length cap) := by simp only [World.cell?, hA9]; rfl
       have fA9 : w9.frozen? ⟨a, 0, none⟩ = false := by simp only [World.frozen?, hA9]; rfl
       have HO9 := (show Hid _ from own9)
       have HG9 := (show Hid _ from g9)
       have HA9 := (show Hid _ from hA9)
       clear o9 g9 own9 hA9))
  all_goals go_wp2
  all_goals go_ret
  all_goals
    refine ⟨by go_num, ⟨_, setCell_at HA9.out, _, OwnQ.kept HO9.out (grown_setCell _ _ _ _) (fun r e => by cases e; exact ⟨_, _, _, HA9.out, by decide, by decide, by decide⟩)⟩, ?_⟩
    exact add_fr HB5.out HB6.out HR6.out.1 HG9.out (grown_setCell _ _ _ _)
end Go.Proofs.YtkljadaggnbjkaaGreat
