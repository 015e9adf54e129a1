/- The specification's l6Add. No condition. -/
import Derived.Test.YtogdbjafibejdaaGreatX28
import Derived.Test.YtogdbjafibejdaaGreatX22
import Derived.Deep.RegionLaw
import Derived.Deep.Cut
namespace Go.Proofs.YtogdbjafibejdaaGreat
open Go.RowKit
set_option maxRecDepth 100000
set_option linter.unusedVariables false

theorem step_appV {P : Program} {ops : Array Oper} {o : Oper} {a : Act} {w : World} {K : Act → World → Prop} {Q : Exit → Act → World → Prop} {E : Prop}
    (hg : o.guard = none) (s x : Operand) (t : TypeId) (hop : o.op = Op.call { callee := Callee.builtin Builtin.append, args := #[s, x], argTypes := #[t, t] })
    (B : Nat) (e : TypeId) (i : TypeInfo) (z : Value) (size bytes : Nat) (h1 : P.underlying t = some (.slice e)) (h2 : P.info? e = some i) (h3 : i.zero = some z) (h4 : i.size = size) (h5 : i.bytes = bytes) (h6 : z.cells.size = size) (h7 : 0 < size)
    (v : Value) (n : Nat) (xs : List Value) (hs : a.eval s = v) (hown : w.ownsRow B e size v n xs)
    (ad : Addr) (m c : Nat) (news : List Value) (hx : a.eval x = .slice (some ad) m c) (hu : Sv size w (.slice (some ad) m c) news) (h1c : ∀ u ∈ news, u.oneCell' = true)
    (b1 : n + m ≤ maxLen) (b2 : (n + m) * bytes ≤ 140737488355328) (hB : B ≤ w.heap.size)
    (hK : ∀ v' w', w'.ownsRow B e size v' (n + m) (xs ++ news) → w.grownBy w' v.ownBlock → K (a.put o.dst v') w') :
    if Region.wanted o (yielded ops a.tmps) = true then Oper.wp P o a w K Q else E := by
  obtain ⟨ao, len, cap, e1, hl, hlc, hcm, hnone, hc⟩ := hu
  cases e1
  refine step_app_own hg s x t hop B e i z size bytes h1 h2 h3 h4 h5 h6 h7 v n xs hs hown ad m c news hx hl ?_ h1c b1 b2 hB hK
  intro j y hy
  have hj : j < news.length := by
    by_cases hj : j < news.length
    · exact hj
    · rw [List.getElem?_eq_none (Nat.le_of_not_lt hj)] at hy; cases hy
  obtain ⟨b, off, e, c⟩ := hc j hj
  cases e
  have e2 : news.getD j undef = y := by rw [List.getD_eq_getElem?_getD, hy]; rfl
  rw [e2] at c
  rw [← c]
  by_cases h0 : j = 0
  · subst h0; simp [Addr.add]
  · simp [Addr.add, h0]

theorem ownsRow_nil_int (B : Nat) (w : World) : Own B 3 .i64 w (.slice none 0 0) [] := World.ownsRow_nil _ _ _ _
theorem lt_of_cell6 {w : World} {g o : Nat} {u : Value} (h : w.cell? ⟨g, o, none⟩ = some u) : g < w.heap.size := by
  by_cases hlt : g < w.heap.size
  · exact hlt
  · exfalso; simp [World.cell?, Array.getElem?_eq_none (Nat.le_of_not_lt hlt)] at h
def AddW (B : Nat) (w : World) (N : Nat) (ns : List PNode) (k : Int) (nm : ByteArray) (rs : List (ByteArray × ByteArray)) (tx : ByteArray) (wx : World) : Prop :=
  ∃ a n c, wx.heap[N]? = some (.cells #[.slice a n c] 26 (0, 0)) ∧ wx.heap[N + 1 + 1]? = some (.cells #[.slice none 0 0] 26 (0, 0)) ∧ OwnN B wx (.slice a n c) (ns ++ [⟨k, nm, rs, tx, -1, []⟩]) ∧ Below N w wx

theorem add_fin {B N : Nat} {w W8 w10 : World} {ns : List PNode} {qs : List (PNode × (Value × Value))} {k : Int} {nm tx : ByteArray} {rs : List (ByteArray × ByteArray)} {va av : Value} {a2 : Option Addr} {n2 c2 : Nat}
    (hN : W8.heap[N]? = some (.cells #[va] 26 (0, 0))) (hN2 : W8.heap[N + 1 + 1]? = some (.cells #[.slice none 0 0] 26 (0, 0))) (b8 : Below N w W8) (hNw : N = w.heap.size) (hBN : B ≤ N)
    (o8 : W8.ownsRow N 115 2 av rs.length (pairCells rs)) (hq1 : qs.map (fun q => q.1) = ns) (hq3 : ∀ q ∈ qs, w.ownsRow B 115 2 q.2.1 q.1.attrs.length (pairCells q.1.attrs) ∧ Own B 3 .i64 w q.2.2 q.1.kids)
    (o10 : w10.ownsRow W8.heap.size 36 6 (.slice a2 n2 c2) (ns.length + 1) (nodeCells qs ++ nodeRow ⟨k, nm, rs, tx, -1, []⟩ (av, .slice none 0 0))) (b10 : Below W8.heap.size W8 w10) :
    AddW B w N ns k nm rs tx (w10.setCell ⟨N, 0, none⟩ (.slice a2 n2 c2)) := by
  subst hNw
  have g10 := (b10.block _ (blk_lt hN)).trans hN
  have hg : w10.grownBy (w10.setCell ⟨w.heap.size, 0, none⟩ (.slice a2 n2 c2)) (some w.heap.size) := grown_setCell _ _ _ _
  have b8s := b8.size
  have key : ∀ {e size n : Nat} {v : Value} {xs : List Value}, w10.ownsRow B e size v n xs → 26 ≠ e → (w10.setCell ⟨w.heap.size, 0, none⟩ (.slice a2 n2 c2)).ownsRow B e size v n xs := fun h hne =>
    kept_of_type h hg (fun r e => by cases e; exact ⟨_, _, _, g10, hne⟩)
  refine ⟨a2, n2, c2, setCell_at g10, ?_, ?_, ?_⟩
  · rw [Below.heap_setCell _ _ _ _ (by show w.heap.size + 1 + 1 ≠ w.heap.size; omega)]
    exact (b10.block _ (blk_lt hN2)).trans hN2
  · refine ⟨qs ++ [(⟨k, nm, rs, tx, -1, []⟩, (av, .slice none 0 0))], by simp [hq1], ?_, fun q hq => ?_⟩
    · rw [nodeCells_app, List.length_append]
      have := key (ownsRow_base o10 (show B ≤ W8.heap.size by omega)) (by decide)
      simpa [nodeCells] using this
    · rcases List.mem_append.mp hq with hq | hq
      · have h3 := hq3 q hq
        exact ⟨key (ownsRow_below (ownsRow_below h3.1 b8) b10) (by decide), key ((h3.2.below b8).below b10) (by decide)⟩
      · simp at hq; subst hq
        exact ⟨key (ownsRow_base (ownsRow_below o8 b10) hBN) (by decide), World.ownsRow_nil _ _ _ _⟩
  · exact (b8.trans (b10.mono b8s)).setCell (p := ⟨w.heap.size, 0, none⟩) (by simp) _

theorem add_res {tmps : Array Value} {w : World} {g : Nat} {a : Option Addr} {n c : Nat} {i : Int} (h4 : tmps.getD 4 undef = .pointer (some ⟨g, 0, none⟩)) (h5 : tmps.getD 5 undef = .int .i64 i) (hb : w.heap[g]? = some (.cells #[.slice a n c] 26 (0, 0))) :
    (results Tryz.f120 tmps).run Tryz.prog w = .ok (.tuple #[.agg #[.slice a n c], .int .i64 i]) w := by
  rw [results_cell_tmp (p := 4) (u := 5) (ty := 26) rfl, h4, h5]
  simp [asAddr, run_loadVar_row w g 26 26 #[.slice a n c] (0, 0) _ hb Tryz.underlying26 rfl rfl, Result.andThen]

set_option maxHeartbeats 2000000 in
set_option maxRecDepth 100000 in
theorem sadd_any {B : Nat} {w : World} {v : Value} {ns : List PNode} (hO : OwnN B w v ns) (hB : B ≤ w.heap.size) (h0 : 0 < ns.length) (hlen : ns.length ≤ 100000) (k p : Int) (nm tx : ByteArray)
    {av1 : Option Addr} {av2 av3 : Nat} {kv1 : Option Addr} {kv2 kv3 : Nat} {rs : List (ByteArray × ByteArray)} (hav : Sv 2 w (.slice av1 av2 av3) (pairCells rs)) (hrs : rs.length ≤ 1048576) :
    Calls Tryz.prog 120 #[.agg #[v], .agg #[.int .i64 k, .string nm, .slice av1 av2 av3, .string tx, .int .i64 p, .slice kv1 kv2 kv3]] w fun e w' => ∃ v', e = .returned (.tuple #[.agg #[v'], .int .i64 ns.length]) ∧ OwnN B w' v' (ns ++ [⟨k, nm, rs, tx, -1, []⟩]) ∧ Below w.heap.size w w' := by
  obtain ⟨ia, hia, hza0, hza1, hza2⟩ := info_parts Tryz.infoAttrRow
  obtain ⟨iN, hiN, hzN0, hzN1, hzN2⟩ := info_parts Tryz.infoNodeRow
  have HO := (show Hid (OwnN B w v ns) from hO)
  have HAV := (show Hid (Sv 2 w (.slice av1 av2 av3) (pairCells rs)) from hav)
  obtain ⟨a, cap, rfl, hc1, hc2, hcs⟩ := hO.nodes.slice
  obtain ⟨b, off, _, _, rfl, hblt, _⟩ := hcs 0 h0
  clear hO hav hcs
  obtain ⟨W3, hW3⟩ : ∃ W3, W3 = (((w.alloc (.cells #[.slice (some ⟨b, off, none⟩) ns.length cap] 26)).alloc (.cells #[.int .i64 k, .string nm, .slice av1 av2 av3, .string tx, .int .i64 p, .slice kv1 kv2 kv3] 36)).alloc (.cells #[.slice none 0 0] 26)) := ⟨_, rfl⟩
  have hs3 : W3.heap.size = w.heap.size + 1 + 1 + 1 := by rw [hW3]; simp only [World.size_alloc]
  have b3 : Below w.heap.size w W3 := by rw [hW3]; exact (((Below.refl _ w).alloc (Nat.le_refl _) _).alloc (by simp) _).alloc (by simp; omega) _
  have g0 : W3.heap[w.heap.size]? = some (.cells #[.slice (some ⟨b, off, none⟩) ns.length cap] 26 (0, 0)) := by
    rw [hW3, Below.heap_alloc _ _ _ (by simp only [World.size_alloc]; omega), Below.heap_alloc _ _ _ (by simp only [World.size_alloc]; omega)]
    exact World.alloc_heap_new _ _
  have g1 : W3.heap[w.heap.size + 1]? = some (.cells #[.int .i64 k, .string nm, .slice av1 av2 av3, .string tx, .int .i64 p, .slice kv1 kv2 kv3] 36 (0, 0)) := by
    rw [hW3, Below.heap_alloc _ _ _ (by simp only [World.size_alloc]; omega)]
    have := World.alloc_heap_new (w.alloc (.cells #[.slice (some ⟨b, off, none⟩) ns.length cap] 26)) (.cells #[.int .i64 k, .string nm, .slice av1 av2 av3, .string tx, .int .i64 p, .slice kv1 kv2 kv3] 36)
    rwa [World.size_alloc] at this
  have g2 : W3.heap[w.heap.size + 1 + 1]? = some (.cells #[.slice none 0 0] 26 (0, 0)) := by
    rw [hW3]
    have := World.alloc_heap_new ((w.alloc (.cells #[.slice (some ⟨b, off, none⟩) ns.length cap] 26)).alloc (.cells #[.int .i64 k, .string nm, .slice av1 av2 av3, .string tx, .int .i64 p, .slice kv1 kv2 kv3] 36)) (.cells #[.slice none 0 0] 26)
    rwa [World.size_alloc, World.size_alloc] at this
  have hs5 : ((W3.setCell ⟨w.heap.size + 1, 4, none⟩ (.int .i64 (-1))).setCell ⟨w.heap.size + 1, 5, none⟩ (.slice none 0 0)).heap.size = w.heap.size + 1 + 1 + 1 := by simp [World.setCell, hs3]
  have gr5 : W3.grownBy ((W3.setCell ⟨w.heap.size + 1, 4, none⟩ (.int .i64 (-1))).setCell ⟨w.heap.size + 1, 5, none⟩ (.slice none 0 0)) (some (w.heap.size + 1)) := grown_trans (grown_setCell _ _ _ _) (grown_setCell _ _ _ _)
  have g51 := setCell_at (k := 5) (u := .slice none 0 0) (setCell_at (k := 4) (u := .int .i64 (-1)) g1)
  have b5 : Below w.heap.size w ((W3.setCell ⟨w.heap.size + 1, 4, none⟩ (.int .i64 (-1))).setCell ⟨w.heap.size + 1, 5, none⟩ (.slice none 0 0)) := b3.grown gr5 b3.size (fun r e => by cases e; omega)
  have o1 : (((W3.setCell ⟨w.heap.size + 1, 4, none⟩ (.int .i64 (-1))).setCell ⟨w.heap.size + 1, 5, none⟩ (.slice none 0 0)).alloc (.cells #[] 115)).ownsRow w.heap.size 115 2 (.slice (some ⟨w.heap.size + 1 + 1 + 1, 0, none⟩) 0 0) 0 [] := by
    have := empty_row ((W3.setCell ⟨w.heap.size + 1, 4, none⟩ (.int .i64 (-1))).setCell ⟨w.heap.size + 1, 5, none⟩ (.slice none 0 0)) w.heap.size 115 2 (by rw [hs5]; omega)
    rwa [hs5] at this
  have b6 : Below w.heap.size w (((W3.setCell ⟨w.heap.size + 1, 4, none⟩ (.int .i64 (-1))).setCell ⟨w.heap.size + 1, 5, none⟩ (.slice none 0 0)).alloc (.cells #[] 115)) := b5.alloc b5.size _
  have hav1 := HAV.out.below b6
  have c2 : W3.cell? ⟨w.heap.size + 1, 2, none⟩ = some (.slice av1 av2 av3) := by simp only [World.cell?, g1]; rfl
  have c4 : W3.cell? ⟨w.heap.size + 1, 4, none⟩ = some (.int .i64 p) := by simp only [World.cell?, g1]; rfl
  have c5 : W3.cell? ⟨w.heap.size + 1, 5, none⟩ = some (.slice kv1 kv2 kv3) := by simp only [World.cell?, g1]; rfl
  have z4 : W3.frozen? ⟨w.heap.size + 1, 4, none⟩ = false := by simp [World.frozen?, g1]
  have z5 : W3.frozen? ⟨w.heap.size + 1, 5, none⟩ = false := by simp [World.frozen?, g1]
  have z2 : W3.frozen? ⟨w.heap.size + 1, 2, none⟩ = false := by simp [World.frozen?, g1]
  have HG0 := (show Hid _ from g0)
  have HG1 := (show Hid _ from g1)
  have HG2 := (show Hid _ from g2)
  have HG51 := (show Hid _ from g51)
  have HR5 := (show Hid _ from gr5)
  have HB6 := (show Hid _ from b6)
  have HS3 := (show Hid _ from hs3)
  have HS5 := (show Hid _ from hs5)
  clear g0 g1 g2 b3 b5 gr5 g51 b6
  go_enter Tryz.func120, Tryz.ntmps120
  go_upto_region 1 with fail
  rw [← hW3]
  clear hW3
  go_upto_region 4 with (first
    | (at_builtin
       refine wpList_appV _ rfl (.tmp 8) (.tmp 10) 33 rfl w.heap.size 115 ia _ 2 32 Tryz.underlying33 hia hza0 hza1 hza2 rfl (by decide) (.slice (some ⟨w.heap.size + 1 + 1 + 1, 0, none⟩) 0 0) (.slice av1 av2 av3) 0 rs.length _ (pairCells rs) rfl rfl o1 hav1 (pairCells_len _) (pair_oneCell _) (by omega) (by unfold maxLen; omega) (by rw [World.size_alloc, HS5.out]; omega) ?_
       intro v7 w7 o7 g7
       rw [List.nil_append, Nat.zero_add] at o7
       obtain ⟨a7, n7, c7, rfl⟩ := own_slice o7
       have k71 := (g7.block (w.heap.size + 1) (by rw [World.size_alloc, HS5.out]; omega) (fun e => by simp only [Value.ownBlock, Option.some.injEq] at e; omega)).trans ((Below.heap_alloc _ _ _ (by rw [HS5.out]; omega)).trans HG51.out)
       have y2 : w7.cell? ⟨w.heap.size + 1, 2, none⟩ = some (.slice av1 av2 av3) := by simp only [World.cell?, k71]; rfl
       have q2 : w7.frozen? ⟨w.heap.size + 1, 2, none⟩ = false := by simp [World.frozen?, k71]
       have hl7 := blk_lt k71
       have HK7 := (show Hid _ from k71)
       have HO7 := (show Hid _ from o7)
       have HG7 := (show Hid _ from g7)
       clear k71 o7 g7 o1 hav1 c2 c4 c5 z4 z5 z2)
    | fail)
  obtain ⟨W8, hW8⟩ : ∃ W8, W8 = w7.setCell ⟨w.heap.size + 1, 2, none⟩ (.slice a7 n7 c7) := ⟨_, rfl⟩
  have hs7 : w.heap.size + 1 + 1 + 1 < w7.heap.size := by have := HG7.out.size; rw [World.size_alloc, HS5.out] at this; omega
  have hs8 : W8.heap.size = w7.heap.size := by rw [hW8]; simp [World.setCell]
  have b7 : Below w.heap.size w w7 := HB6.out.grown HG7.out (by rw [World.size_alloc, HS5.out]; omega) (fun r e => by simp only [Value.ownBlock, Option.some.injEq] at e; omega)
  have b8 : Below w.heap.size w W8 := by rw [hW8]; exact b7.setCell (p := ⟨w.heap.size + 1, 2, none⟩) (by show w.heap.size ≤ w.heap.size + 1; omega) _
  have old7 : ∀ r, r ≠ w.heap.size + 1 → r < w.heap.size + 1 + 1 + 1 → W8.heap[r]? = W3.heap[r]? := fun r h1 h2 => by
    rw [hW8, Below.heap_setCell _ _ _ r (by show r ≠ w.heap.size + 1; exact h1), HG7.out.block r (by rw [World.size_alloc, HS5.out]; omega) (fun e => by simp only [Value.ownBlock, Option.some.injEq] at e; omega), Below.heap_alloc _ _ _ (by rw [HS5.out]; omega)]
    exact HR5.out.block r (by rw [HS3.out]; omega) (fun e => by simp only [Option.some.injEq] at e; omega)
  have g80 := (old7 w.heap.size (by omega) (by omega)).trans HG0.out
  have g82 := (old7 (w.heap.size + 1 + 1) (by omega) (by omega)).trans HG2.out
  have g81 : W8.heap[w.heap.size + 1]? = some (.cells #[.int .i64 k, .string nm, .slice a7 n7 c7, .string tx, .int .i64 (-1), .slice none 0 0] 36 (0, 0)) := by rw [hW8]; exact setCell_at HK7.out
  have o8 : W8.ownsRow w.heap.size 115 2 (.slice a7 n7 c7) rs.length (pairCells rs) := by rw [hW8]; exact kept_of_type HO7.out (grown_setCell _ _ _ _) (fun r e => by cases e; exact ⟨_, _, _, HK7.out, by decide⟩)
  rw [← hW8]
  have HQ8 := (show Hid (_ ∧ _ ∧ _ ∧ _ ∧ _) from ⟨g80, g81, g82, b8, o8⟩)
  clear HO7 HG7 HK7 hW8 b7 old7 HG0 HG1 HG2 HG51 HR5 HB6 HS3 HS5 y2 q2 hl7 g80 g81 g82 b8 o8 HAV
  obtain ⟨g80, g81, g82, b8, o8⟩ := HQ8.out
  obtain ⟨qs, hq1, hq2, hq3⟩ := HO.out
  have hql : qs.length = ns.length := by have := congrArg List.length hq1; simpa using this
  have HQ1 := (show Hid (qs.map (fun q => q.1) = ns) from hq1)
  have HQ3 := (show Hid (∀ q ∈ qs, w.ownsRow B 115 2 q.2.1 q.1.attrs.length (pairCells q.1.attrs) ∧ Own B 3 .i64 w q.2.2 q.1.kids) from hq3)
  have hsv8 : Sv 6 W8 (.slice (some ⟨b, off, none⟩) ns.length cap) (nodeCells qs) := (sv_of_own hq2).below b8
  have hone : ∀ y ∈ nodeCells qs, y.oneCell' = true := fun y hy => by
    obtain ⟨q, hq, hyq⟩ := List.mem_flatMap.mp hy
    exact node_oneCell (hq3 q hq) y hyq
  have k80 : W8.cell? ⟨w.heap.size, 0, none⟩ = some (.slice (some ⟨b, off, none⟩) ns.length cap) := by simp only [World.cell?, g80]; rfl
  have k810 : W8.cell? ⟨w.heap.size + 1, 0, none⟩ = some (.int .i64 k) := by simp only [World.cell?, g81]; rfl
  have k811 : W8.cell? ⟨w.heap.size + 1, 1, none⟩ = some (.string nm) := by simp only [World.cell?, g81]; rfl
  have k812 : W8.cell? ⟨w.heap.size + 1, 2, none⟩ = some (.slice a7 n7 c7) := by simp only [World.cell?, g81]; rfl
  have k813 : W8.cell? ⟨w.heap.size + 1, 3, none⟩ = some (.string tx) := by simp only [World.cell?, g81]; rfl
  have k814 : W8.cell? ⟨w.heap.size + 1, 4, none⟩ = some (.int .i64 (-1)) := by simp only [World.cell?, g81]; rfl
  have k815 : W8.cell? ⟨w.heap.size + 1, 5, none⟩ = some (.slice none 0 0) := by simp only [World.cell?, g81]; rfl
  have k80a : ∀ X, (W8.alloc X).cell? ⟨w.heap.size, 0, none⟩ = some (.slice (some ⟨b, off, none⟩) ns.length cap) := fun X => (((Below.refl _ W8).alloc (Nat.le_refl _) X).cell (p := ⟨w.heap.size, 0, none⟩) (lt_of_cell6 k80)).trans k80
  have k80b : ∀ X Y, ((W8.alloc X).alloc Y).cell? ⟨w.heap.size, 0, none⟩ = some (.slice (some ⟨b, off, none⟩) ns.length cap) := fun X Y => ((((Below.refl _ W8).alloc (Nat.le_refl _) X).alloc (by simp) Y).cell (p := ⟨w.heap.size, 0, none⟩) (lt_of_cell6 k80)).trans k80
  have k810a : ∀ X, (W8.alloc X).cell? ⟨w.heap.size + 1, 0, none⟩ = some (.int .i64 k) := fun X => (((Below.refl _ W8).alloc (Nat.le_refl _) X).cell (p := ⟨w.heap.size + 1, 0, none⟩) (lt_of_cell6 k810)).trans k810
  have k810b : ∀ X Y, ((W8.alloc X).alloc Y).cell? ⟨w.heap.size + 1, 0, none⟩ = some (.int .i64 k) := fun X Y => ((((Below.refl _ W8).alloc (Nat.le_refl _) X).alloc (by simp) Y).cell (p := ⟨w.heap.size + 1, 0, none⟩) (lt_of_cell6 k810)).trans k810
  have k811a : ∀ X, (W8.alloc X).cell? ⟨w.heap.size + 1, 1, none⟩ = some (.string nm) := fun X => (((Below.refl _ W8).alloc (Nat.le_refl _) X).cell (p := ⟨w.heap.size + 1, 1, none⟩) (lt_of_cell6 k811)).trans k811
  have k811b : ∀ X Y, ((W8.alloc X).alloc Y).cell? ⟨w.heap.size + 1, 1, none⟩ = some (.string nm) := fun X Y => ((((Below.refl _ W8).alloc (Nat.le_refl _) X).alloc (by simp) Y).cell (p := ⟨w.heap.size + 1, 1, none⟩) (lt_of_cell6 k811)).trans k811
  have k812a : ∀ X, (W8.alloc X).cell? ⟨w.heap.size + 1, 2, none⟩ = some (.slice a7 n7 c7) := fun X => (((Below.refl _ W8).alloc (Nat.le_refl _) X).cell (p := ⟨w.heap.size + 1, 2, none⟩) (lt_of_cell6 k812)).trans k812
  have k812b : ∀ X Y, ((W8.alloc X).alloc Y).cell? ⟨w.heap.size + 1, 2, none⟩ = some (.slice a7 n7 c7) := fun X Y => ((((Below.refl _ W8).alloc (Nat.le_refl _) X).alloc (by simp) Y).cell (p := ⟨w.heap.size + 1, 2, none⟩) (lt_of_cell6 k812)).trans k812
  have k813a : ∀ X, (W8.alloc X).cell? ⟨w.heap.size + 1, 3, none⟩ = some (.string tx) := fun X => (((Below.refl _ W8).alloc (Nat.le_refl _) X).cell (p := ⟨w.heap.size + 1, 3, none⟩) (lt_of_cell6 k813)).trans k813
  have k813b : ∀ X Y, ((W8.alloc X).alloc Y).cell? ⟨w.heap.size + 1, 3, none⟩ = some (.string tx) := fun X Y => ((((Below.refl _ W8).alloc (Nat.le_refl _) X).alloc (by simp) Y).cell (p := ⟨w.heap.size + 1, 3, none⟩) (lt_of_cell6 k813)).trans k813
  have k814a : ∀ X, (W8.alloc X).cell? ⟨w.heap.size + 1, 4, none⟩ = some (.int .i64 (-1)) := fun X => (((Below.refl _ W8).alloc (Nat.le_refl _) X).cell (p := ⟨w.heap.size + 1, 4, none⟩) (lt_of_cell6 k814)).trans k814
  have k814b : ∀ X Y, ((W8.alloc X).alloc Y).cell? ⟨w.heap.size + 1, 4, none⟩ = some (.int .i64 (-1)) := fun X Y => ((((Below.refl _ W8).alloc (Nat.le_refl _) X).alloc (by simp) Y).cell (p := ⟨w.heap.size + 1, 4, none⟩) (lt_of_cell6 k814)).trans k814
  have k815a : ∀ X, (W8.alloc X).cell? ⟨w.heap.size + 1, 5, none⟩ = some (.slice none 0 0) := fun X => (((Below.refl _ W8).alloc (Nat.le_refl _) X).cell (p := ⟨w.heap.size + 1, 5, none⟩) (lt_of_cell6 k815)).trans k815
  have k815b : ∀ X Y, ((W8.alloc X).alloc Y).cell? ⟨w.heap.size + 1, 5, none⟩ = some (.slice none 0 0) := fun X Y => ((((Below.refl _ W8).alloc (Nat.le_refl _) X).alloc (by simp) Y).cell (p := ⟨w.heap.size + 1, 5, none⟩) (lt_of_cell6 k815)).trans k815
  have HS8 := (show Hid (W8.heap.size = w7.heap.size) from hs8)
  have hS8 : w.heap.size + 1 + 1 + 1 < W8.heap.size := by omega
  clear hs8 hs7
  have HSV := (show Hid (Sv 6 W8 (.slice (some ⟨b, off, none⟩) ns.length cap) (nodeCells qs)) from hsv8)
  have HONE := (show Hid (∀ y ∈ nodeCells qs, y.oneCell' = true) from hone)
  have HQ2 := (show Hid (w.ownsRow B 36 6 (.slice (some ⟨b, off, none⟩) ns.length cap) ns.length (nodeCells qs)) from hq2)
  clear hq1 hq2 hq3 hsv8 hone g80 g81 g82 b8 o8 HO
  go_cut [] from 13 (fun wx => AddW B w (w.heap.size) ns k nm rs tx wx)
  case first =>
    go_region_law (first
      | (with_reducible refine step_appV (w := (W8.alloc (Obj.cells #[] 36)).drew) ?_ (.tmp 13) (.tmp 15) 24 ?_ W8.heap.size 36 iN _ 6 96 ?_ hiN hzN0 hzN1 hzN2 ?_ ?_ (.slice (some ⟨W8.heap.size, 0, none⟩) 0 0) 0 [] ?_ ?_ ⟨b, off, none⟩ ns.length cap (nodeCells qs) ?_ ?_ ?_ ?_ ?_ ?_ ?_
         · rfl
         · rfl
         · exact Tryz.underlying24
         · rfl
         · decide
         · simp [Act.eval]
         · exact ownsRow_below (empty_row W8 W8.heap.size 36 6 (Nat.le_refl _)) (below_drewN 1)
         · simp [Act.eval]
         · exact (HSV.out.below (((Below.refl _ W8).alloc (Nat.le_refl _) _).trans (below_drewN 1)))
         · exact HONE.out
         · (unfold maxLen; omega)
         · omega
         · exact (((Below.refl _ W8).alloc (Nat.le_refl _) _).trans (below_drewN 1)).size
         intro v9 w9 o9 g9
         rw [List.nil_append, Nat.zero_add] at o9
         obtain ⟨g1, cap1, rfl, hg1, hl1⟩ := one_form o9 h0
         have b9 : Below W8.heap.size W8 w9 := (((Below.refl _ W8).alloc (Nat.le_refl _) _).trans (below_drewN 1)).grown g9 ((((Below.refl _ W8).alloc (Nat.le_refl _) _).trans (below_drewN 1))).size (fun r e => by simp only [Value.ownBlock, Option.some.injEq] at e; omega)
         have HO9 := (show Hid _ from o9)
         have HB9 := (show Hid (Below W8.heap.size W8 w9) from b9)

         have k80c : w9.cell? ⟨w.heap.size, 0, none⟩ = some (.slice (some ⟨b, off, none⟩) ns.length cap) := (b9.cell (p := ⟨w.heap.size, 0, none⟩) (lt_of_cell6 k80)).trans k80
         have k810c : w9.cell? ⟨w.heap.size + 1, 0, none⟩ = some (.int .i64 k) := (b9.cell (p := ⟨w.heap.size + 1, 0, none⟩) (lt_of_cell6 k810)).trans k810
         have k811c : w9.cell? ⟨w.heap.size + 1, 1, none⟩ = some (.string nm) := (b9.cell (p := ⟨w.heap.size + 1, 1, none⟩) (lt_of_cell6 k811)).trans k811
         have k812c : w9.cell? ⟨w.heap.size + 1, 2, none⟩ = some (.slice a7 n7 c7) := (b9.cell (p := ⟨w.heap.size + 1, 2, none⟩) (lt_of_cell6 k812)).trans k812
         have k813c : w9.cell? ⟨w.heap.size + 1, 3, none⟩ = some (.string tx) := (b9.cell (p := ⟨w.heap.size + 1, 3, none⟩) (lt_of_cell6 k813)).trans k813
         have k814c : w9.cell? ⟨w.heap.size + 1, 4, none⟩ = some (.int .i64 (-1)) := (b9.cell (p := ⟨w.heap.size + 1, 4, none⟩) (lt_of_cell6 k814)).trans k814
         have k815c : w9.cell? ⟨w.heap.size + 1, 5, none⟩ = some (.slice none 0 0) := (b9.cell (p := ⟨w.heap.size + 1, 5, none⟩) (lt_of_cell6 k815)).trans k815
         clear o9 b9 g9)
      | (with_reducible refine step_appV (w := ((W8.alloc (Obj.cells #[] 36)).alloc (Obj.cells #[.int .i64 k, .string nm, .slice a7 n7 c7, .string tx, .int .i64 (-1), .slice none 0 0] 36)).drew) ?_ (.tmp 13) (.tmp 15) 24 ?_ W8.heap.size 36 iN _ 6 96 ?_ hiN hzN0 hzN1 hzN2 ?_ ?_ (.slice (some ⟨W8.heap.size, 0, none⟩) 0 0) 0 [] ?_ ?_ ⟨b, off, none⟩ ns.length cap (nodeCells qs) ?_ ?_ ?_ ?_ ?_ ?_ ?_
         · rfl
         · rfl
         · exact Tryz.underlying24
         · rfl
         · decide
         · simp [Act.eval]
         · exact ownsRow_below (ownsRow_below (empty_row W8 W8.heap.size 36 6 (Nat.le_refl _)) ((Below.refl _ _).alloc (Nat.le_refl _) _)) (below_drewN 1)
         · simp [Act.eval]
         · exact (HSV.out.below ((((Below.refl _ W8).alloc (Nat.le_refl _) _).alloc (by simp) _).trans (below_drewN 1)))
         · exact HONE.out
         · (unfold maxLen; omega)
         · omega
         · exact ((((Below.refl _ W8).alloc (Nat.le_refl _) _).alloc (by simp) _).trans (below_drewN 1)).size
         intro v9 w9 o9 g9
         rw [List.nil_append, Nat.zero_add] at o9
         obtain ⟨g1, cap1, rfl, hg1, hl1⟩ := one_form o9 h0
         have b9 : Below W8.heap.size W8 w9 := ((((Below.refl _ W8).alloc (Nat.le_refl _) _).alloc (by simp) _).trans (below_drewN 1)).grown g9 (((((Below.refl _ W8).alloc (Nat.le_refl _) _).alloc (by simp) _).trans (below_drewN 1))).size (fun r e => by simp only [Value.ownBlock, Option.some.injEq] at e; omega)
         have HO9 := (show Hid _ from o9)
         have HB9 := (show Hid (Below W8.heap.size W8 w9) from b9)
         have hnode : w9.heap[W8.heap.size + 1]? = some (.cells #[.int .i64 k, .string nm, .slice a7 n7 c7, .string tx, .int .i64 (-1), .slice none 0 0] 36 (0, 0)) := (g9.block _ (by simp [World.drew]) (fun e => by simp only [Value.ownBlock, Option.some.injEq] at e; omega)).trans (two_new W8 _ _)
         have HND := (show Hid _ from hnode)
         have k80c : w9.cell? ⟨w.heap.size, 0, none⟩ = some (.slice (some ⟨b, off, none⟩) ns.length cap) := (b9.cell (p := ⟨w.heap.size, 0, none⟩) (lt_of_cell6 k80)).trans k80
         have k810c : w9.cell? ⟨w.heap.size + 1, 0, none⟩ = some (.int .i64 k) := (b9.cell (p := ⟨w.heap.size + 1, 0, none⟩) (lt_of_cell6 k810)).trans k810
         have k811c : w9.cell? ⟨w.heap.size + 1, 1, none⟩ = some (.string nm) := (b9.cell (p := ⟨w.heap.size + 1, 1, none⟩) (lt_of_cell6 k811)).trans k811
         have k812c : w9.cell? ⟨w.heap.size + 1, 2, none⟩ = some (.slice a7 n7 c7) := (b9.cell (p := ⟨w.heap.size + 1, 2, none⟩) (lt_of_cell6 k812)).trans k812
         have k813c : w9.cell? ⟨w.heap.size + 1, 3, none⟩ = some (.string tx) := (b9.cell (p := ⟨w.heap.size + 1, 3, none⟩) (lt_of_cell6 k813)).trans k813
         have k814c : w9.cell? ⟨w.heap.size + 1, 4, none⟩ = some (.int .i64 (-1)) := (b9.cell (p := ⟨w.heap.size + 1, 4, none⟩) (lt_of_cell6 k814)).trans k814
         have k815c : w9.cell? ⟨w.heap.size + 1, 5, none⟩ = some (.slice none 0 0) := (b9.cell (p := ⟨w.heap.size + 1, 5, none⟩) (lt_of_cell6 k815)).trans k815
         clear o9 b9 g9)
      | (with_reducible refine step_appV (w := ((W8.alloc (Obj.cells #[.int .i64 k, .string nm, .slice a7 n7 c7, .string tx, .int .i64 (-1), .slice none 0 0] 36)).alloc (Obj.cells #[] 36)).drew) ?_ (.tmp 13) (.tmp 15) 24 ?_ W8.heap.size 36 iN _ 6 96 ?_ hiN hzN0 hzN1 hzN2 ?_ ?_ (.slice (some ⟨W8.heap.size + 1, 0, none⟩) 0 0) 0 [] ?_ ?_ ⟨b, off, none⟩ ns.length cap (nodeCells qs) ?_ ?_ ?_ ?_ ?_ ?_ ?_
         · rfl
         · rfl
         · exact Tryz.underlying24
         · rfl
         · decide
         · simp [Act.eval]
         · exact (by have := ownsRow_below (empty_row (W8.alloc (Obj.cells #[.int .i64 k, .string nm, .slice a7 n7 c7, .string tx, .int .i64 (-1), .slice none 0 0] 36)) W8.heap.size 36 6 (by simp)) (below_drewN 1); rwa [World.size_alloc] at this)
         · simp [Act.eval]
         · exact (HSV.out.below ((((Below.refl _ W8).alloc (Nat.le_refl _) _).alloc (by simp) _).trans (below_drewN 1)))
         · exact HONE.out
         · (unfold maxLen; omega)
         · omega
         · exact ((((Below.refl _ W8).alloc (Nat.le_refl _) _).alloc (by simp) _).trans (below_drewN 1)).size
         intro v9 w9 o9 g9
         rw [List.nil_append, Nat.zero_add] at o9
         obtain ⟨g1, cap1, rfl, hg1, hl1⟩ := one_form o9 h0
         have b9 : Below W8.heap.size W8 w9 := ((((Below.refl _ W8).alloc (Nat.le_refl _) _).alloc (by simp) _).trans (below_drewN 1)).grown g9 (((((Below.refl _ W8).alloc (Nat.le_refl _) _).alloc (by simp) _).trans (below_drewN 1))).size (fun r e => by simp only [Value.ownBlock, Option.some.injEq] at e; omega)
         have HO9 := (show Hid _ from o9)
         have HB9 := (show Hid (Below W8.heap.size W8 w9) from b9)
         have hnode : w9.heap[W8.heap.size]? = some (.cells #[.int .i64 k, .string nm, .slice a7 n7 c7, .string tx, .int .i64 (-1), .slice none 0 0] 36 (0, 0)) := (g9.block _ (by simp [World.drew]; omega) (fun e => by simp only [Value.ownBlock, Option.some.injEq] at e; omega)).trans ((Below.heap_alloc _ _ _ (by simp)).trans (World.alloc_heap_new W8 _))
         have HND := (show Hid _ from hnode)
         have k80c : w9.cell? ⟨w.heap.size, 0, none⟩ = some (.slice (some ⟨b, off, none⟩) ns.length cap) := (b9.cell (p := ⟨w.heap.size, 0, none⟩) (lt_of_cell6 k80)).trans k80
         have k810c : w9.cell? ⟨w.heap.size + 1, 0, none⟩ = some (.int .i64 k) := (b9.cell (p := ⟨w.heap.size + 1, 0, none⟩) (lt_of_cell6 k810)).trans k810
         have k811c : w9.cell? ⟨w.heap.size + 1, 1, none⟩ = some (.string nm) := (b9.cell (p := ⟨w.heap.size + 1, 1, none⟩) (lt_of_cell6 k811)).trans k811
         have k812c : w9.cell? ⟨w.heap.size + 1, 2, none⟩ = some (.slice a7 n7 c7) := (b9.cell (p := ⟨w.heap.size + 1, 2, none⟩) (lt_of_cell6 k812)).trans k812
         have k813c : w9.cell? ⟨w.heap.size + 1, 3, none⟩ = some (.string tx) := (b9.cell (p := ⟨w.heap.size + 1, 3, none⟩) (lt_of_cell6 k813)).trans k813
         have k814c : w9.cell? ⟨w.heap.size + 1, 4, none⟩ = some (.int .i64 (-1)) := (b9.cell (p := ⟨w.heap.size + 1, 4, none⟩) (lt_of_cell6 k814)).trans k814
         have k815c : w9.cell? ⟨w.heap.size + 1, 5, none⟩ = some (.slice none 0 0) := (b9.cell (p := ⟨w.heap.size + 1, 5, none⟩) (lt_of_cell6 k815)).trans k815
         clear o9 b9 g9)
      | (with_reducible refine step_appV (w := (w9.alloc (Obj.cells #[.int .i64 k, .string nm, .slice a7 n7 c7, .string tx, .int .i64 (-1), .slice none 0 0] 36))) ?_ (.tmp 16) (.tmp 18) 24 ?_ W8.heap.size 36 iN _ 6 96 ?_ hiN hzN0 hzN1 hzN2 ?_ ?_ (.slice (some ⟨g1, 0, none⟩) ns.length cap1) ns.length (nodeCells qs) ?_ ?_ ⟨w9.heap.size, 0, none⟩ 1 1 (nodeRow ((⟨k, nm, rs, tx, -1, []⟩, (.slice a7 n7 c7, .slice none 0 0)) : PNode × (Value × Value)).1 ((⟨k, nm, rs, tx, -1, []⟩, (.slice a7 n7 c7, .slice none 0 0)) : PNode × (Value × Value)).2) ?_ ?_ ?_ ?_ ?_ ?_ ?_
         · rfl
         · rfl
         · exact Tryz.underlying24
         · rfl
         · decide
         · simp [Act.eval]
         · exact ownsRow_below HO9.out ((Below.refl _ _).alloc (Nat.le_refl _) _)
         · simp [Act.eval]
         · exact sv_oneNode (q := ((⟨k, nm, rs, tx, -1, []⟩, (.slice a7 n7 c7, .slice none 0 0)) : PNode × (Value × Value))) (World.alloc_heap_new w9 _)
         · exact node_oneCell (B := w.heap.size) (w := W8) (q := ((⟨k, nm, rs, tx, -1, []⟩, (.slice a7 n7 c7, .slice none 0 0)) : PNode × (Value × Value))) ⟨HQ8.out.2.2.2.2, ownsRow_nil_int _ _⟩
         · (unfold maxLen; omega)
         · omega
         · (have := HB9.out.size; rw [World.size_alloc]; omega)
         intro v10 w10 o10 g10
         obtain ⟨g2, cap2, rfl, hg2, hl2⟩ := one_form o10 (by omega)
         have b10 : Below W8.heap.size W8 w10 := (HB9.out.alloc HB9.out.size _).grown g10 (HB9.out.alloc HB9.out.size _).size (fun r e => (World.ownsRow.lt HO9.out r e).1)
         have g10N := (b10.block _ (blk_lt HQ8.out.1)).trans HQ8.out.1
         have y10 : w10.cell? ⟨w.heap.size, 0, none⟩ = some (.slice (some ⟨b, off, none⟩) ns.length cap) := (b10.cell (p := ⟨w.heap.size, 0, none⟩) (lt_of_cell6 k80)).trans k80
         have q10 : w10.frozen? ⟨w.heap.size, 0, none⟩ = false := by simp [World.frozen?, g10N]
         have HF := (show Hid (_ ∧ _) from ⟨o10, b10⟩)
         clear o10 b10 g10 g10N)
      | (with_reducible refine step_appV (w := w9) ?_ (.tmp 16) (.tmp 18) 24 ?_ W8.heap.size 36 iN _ 6 96 ?_ hiN hzN0 hzN1 hzN2 ?_ ?_ (.slice (some ⟨g1, 0, none⟩) ns.length cap1) ns.length (nodeCells qs) ?_ ?_ ⟨W8.heap.size + 1, 0, none⟩ 1 1 (nodeRow ((⟨k, nm, rs, tx, -1, []⟩, (.slice a7 n7 c7, .slice none 0 0)) : PNode × (Value × Value)).1 ((⟨k, nm, rs, tx, -1, []⟩, (.slice a7 n7 c7, .slice none 0 0)) : PNode × (Value × Value)).2) ?_ ?_ ?_ ?_ ?_ ?_ ?_
         · rfl
         · rfl
         · exact Tryz.underlying24
         · rfl
         · decide
         · simp [Act.eval]
         · exact HO9.out
         · simp [Act.eval]
         · exact sv_oneNode (q := ((⟨k, nm, rs, tx, -1, []⟩, (.slice a7 n7 c7, .slice none 0 0)) : PNode × (Value × Value))) HND.out
         · exact node_oneCell (B := w.heap.size) (w := W8) (q := ((⟨k, nm, rs, tx, -1, []⟩, (.slice a7 n7 c7, .slice none 0 0)) : PNode × (Value × Value))) ⟨HQ8.out.2.2.2.2, ownsRow_nil_int _ _⟩
         · (unfold maxLen; omega)
         · omega
         · exact HB9.out.size
         intro v10 w10 o10 g10
         obtain ⟨g2, cap2, rfl, hg2, hl2⟩ := one_form o10 (by omega)
         have b10 : Below W8.heap.size W8 w10 := (HB9.out).grown g10 (HB9.out).size (fun r e => (World.ownsRow.lt HO9.out r e).1)
         have g10N := (b10.block _ (blk_lt HQ8.out.1)).trans HQ8.out.1
         have y10 : w10.cell? ⟨w.heap.size, 0, none⟩ = some (.slice (some ⟨b, off, none⟩) ns.length cap) := (b10.cell (p := ⟨w.heap.size, 0, none⟩) (lt_of_cell6 k80)).trans k80
         have q10 : w10.frozen? ⟨w.heap.size, 0, none⟩ = false := by simp [World.frozen?, g10N]
         have HF := (show Hid (_ ∧ _) from ⟨o10, b10⟩)
         clear o10 b10 g10 g10N)
      | (with_reducible refine step_appV (w := w9) ?_ (.tmp 16) (.tmp 18) 24 ?_ W8.heap.size 36 iN _ 6 96 ?_ hiN hzN0 hzN1 hzN2 ?_ ?_ (.slice (some ⟨g1, 0, none⟩) ns.length cap1) ns.length (nodeCells qs) ?_ ?_ ⟨W8.heap.size, 0, none⟩ 1 1 (nodeRow ((⟨k, nm, rs, tx, -1, []⟩, (.slice a7 n7 c7, .slice none 0 0)) : PNode × (Value × Value)).1 ((⟨k, nm, rs, tx, -1, []⟩, (.slice a7 n7 c7, .slice none 0 0)) : PNode × (Value × Value)).2) ?_ ?_ ?_ ?_ ?_ ?_ ?_
         · rfl
         · rfl
         · exact Tryz.underlying24
         · rfl
         · decide
         · simp [Act.eval]
         · exact HO9.out
         · simp [Act.eval]
         · exact sv_oneNode (q := ((⟨k, nm, rs, tx, -1, []⟩, (.slice a7 n7 c7, .slice none 0 0)) : PNode × (Value × Value))) HND.out
         · exact node_oneCell (B := w.heap.size) (w := W8) (q := ((⟨k, nm, rs, tx, -1, []⟩, (.slice a7 n7 c7, .slice none 0 0)) : PNode × (Value × Value))) ⟨HQ8.out.2.2.2.2, ownsRow_nil_int _ _⟩
         · (unfold maxLen; omega)
         · omega
         · exact HB9.out.size
         intro v10 w10 o10 g10
         obtain ⟨g2, cap2, rfl, hg2, hl2⟩ := one_form o10 (by omega)
         have b10 : Below W8.heap.size W8 w10 := (HB9.out).grown g10 (HB9.out).size (fun r e => (World.ownsRow.lt HO9.out r e).1)
         have g10N := (b10.block _ (blk_lt HQ8.out.1)).trans HQ8.out.1
         have y10 : w10.cell? ⟨w.heap.size, 0, none⟩ = some (.slice (some ⟨b, off, none⟩) ns.length cap) := (b10.cell (p := ⟨w.heap.size, 0, none⟩) (lt_of_cell6 k80)).trans k80
         have q10 : w10.frozen? ⟨w.heap.size, 0, none⟩ = false := by simp [World.frozen?, g10N]
         have HF := (show Hid (_ ∧ _) from ⟨o10, b10⟩)
         clear o10 b10 g10 g10N))
    all_goals
      go_wp2_with fail
      go_meet
      have t1 := HF.out.1
      have t2 := HF.out.2
      have t3 := HQ8.out.1
      have t4 := HQ8.out.2.2.1
      have t5 := HQ8.out.2.2.2.1
      have t6 := HQ8.out.2.2.2.2
      with_reducible exact add_fin t3 t4 t5 rfl hB t6 HQ1.out HQ3.out t1 t2
  case rest =>
    obtain ⟨ax, nx, cx, hx0, hx2, hxo, hxb⟩ := hcut
    obtain ⟨ay, cy, ey, _, _, _⟩ := hxo.nodes.slice
    cases ey
    have hx0' : wc.heap[w.heap.size]? = some (.cells #[.slice ax (ns.length + 1) cx] 26 (0, 0)) := by simpa using hx0
    have hxo' : OwnN B wc (.slice ax (ns.length + 1) cx) (ns ++ [⟨k, nm, rs, tx, -1, []⟩]) := by simpa using hxo
    have l0 : wc.cell? ⟨w.heap.size, 0, none⟩ = some (.slice ax (ns.length + 1) cx) := by simp only [World.cell?, hx0']; rfl
    have l2 : wc.cell? ⟨w.heap.size + 1 + 1, 0, none⟩ = some (.slice none 0 0) := by simp only [World.cell?, hx2]; rfl
    have f2 : wc.frozen? ⟨w.heap.size + 1 + 1, 0, none⟩ = false := by simp [World.frozen?, hx2]
    have HX2 := (show Hid _ from hx2)
    have HXO := (show Hid _ from hxo')
    have HXB := (show Hid _ from hxb)
    clear hx0 hx2 hxo hxb hx0' hxo'
    have hsub : ((ns.length + 1 : Nat) : Int) - 1 = (ns.length : Int) := by omega
    go_wp2
    go_region
    go_wp2
    have gs := setCell_at (k := 0) (u := .slice ax (ns.length + 1) cx) HX2.out
    have gr := grown_setCell wc (w.heap.size + 1 + 1) 0 (.slice ax (ns.length + 1) cx)
    have ob := (OwnN.kept HXO.out gr (fun r e => by cases e; exact ⟨_, _, _, HX2.out, by decide, by decide, by decide⟩)).below (below_drewN 1)
    have bb := (HXB.out.setCell (p := ⟨w.heap.size + 1 + 1, 0, none⟩) (by show w.heap.size ≤ w.heap.size + 1 + 1; omega) (.slice ax (ns.length + 1) cx)).trans (below_drewN 1)
    refine bodyPost_ret (add_res rfl rfl gs) rfl ?_
    exact ⟨_, rfl, ob, bb⟩
end Go.Proofs.YtogdbjafibejdaaGreat
