import Derived.Test.YtiejfnnokfedkaaDoorB12
import Derived.Test.YtiejfnnokfedkaaDoorB11
import Derived.Deep.RegionLaw
import Derived.Deep.Cut
import Derived.Laws.AppendOwnNone
import Derived.Test.YtiejfnnokfedkaaDoorOk
import Derived.Test.YtiejfnnokfedkaaDoorB2
import Derived.Test.YtiejfnnokfedkaaDoorB4
/- append in a region that draws its order, onto the call's own row, of whatever slice. No condition. -/
namespace Go.Proofs.YtiejfnnokfedkaaDoor
open Go.RowKit
set_option maxRecDepth 100000
set_option linter.unusedVariables false

theorem step_appS {P : Program} {ops : Array Oper} {o : Oper} {a : Act} {w : World} {K : Act → World → Prop} {Q : Exit → Act → World → Prop} {E : Prop}
    (hg : o.guard = none) (s x : Operand) (t : TypeId) (hop : o.op = Op.call { callee := Callee.builtin Builtin.append, args := #[s, x], argTypes := #[t, t] })
    (B : Nat) (e : TypeId) (i : TypeInfo) (z : Value) (size bytes : Nat) (h1 : P.underlying t = some (.slice e)) (h2 : P.info? e = some i) (h3 : i.zero = some z) (h4 : i.size = size) (h5 : i.bytes = bytes) (h6 : z.cells.size = size) (h7 : 0 < size)
    (v : Value) (n : Nat) (xs : List Value) (hs : a.eval s = v) (hown : w.ownsRow B e size v n xs)
    (u : Value) (m : Nat) (news : List Value) (hx : a.eval x = u) (hu : Sv size w u news) (hm : news.length = m * size) (h1c : ∀ u ∈ news, u.oneCell' = true)
    (b1 : n + m ≤ maxLen) (b2 : (n + m) * bytes ≤ 140737488355328) (hB : B ≤ w.heap.size)
    (hK : ∀ v' w', w'.ownsRow B e size v' (n + m) (xs ++ news) → w.grownBy w' v.ownBlock → K (a.put o.dst v') w') :
    if Region.wanted o (yielded ops a.tmps) = true then Oper.wp P o a w K Q else E := by
  have hw : Region.wanted o (yielded ops a.tmps) = true := by simp [Region.wanted, hg]
  rw [if_pos hw]
  obtain ⟨ao, len, cap, rfl, hl, hlc, hcm, hnone, hc⟩ := hu
  have hlm : len = m := Nat.eq_of_mul_eq_mul_right h7 (hl.symm.trans hm)
  subst hlm
  cases ao with
  | none =>
    have hc0 := hnone rfl
    subst hc0
    have hl0 : len = 0 := by omega
    subst hl0
    have hy : news = [] := List.length_eq_zero_iff.mp (by omega)
    subst hy
    have hrun := run_append_owned_none (P := P) (w := w) B t o.type e i size h1 h2 v n xs hown
    unfold Oper.wp
    simp [execOp, hop, resolve, invoke, builtin, hs, hx, hrun, Result.andThen]
    exact hK v w (by rw [List.append_nil]; exact hown) (World.grownBy.refl _ _)
  | some ad =>
    refine wp_append_own w s x t hop B e i z size bytes h1 h2 h3 h4 h5 h6 h7 v n xs hs hown ad len cap news hx hl ?_ h1c b1 b2 hB fun v' w' o1 o2 _ => hK v' w' o1 o2
    intro j y hy
    have hj : j < news.length := by
      by_cases hj : j < news.length
      · exact hj
      · rw [List.getElem?_eq_none (Nat.le_of_not_lt hj)] at hy; cases hy
    obtain ⟨b, off, e, c⟩ := hc j hj
    cases e
    have e2 : news.getD j undef = y := by rw [List.getD_eq_getElem?_getD, hy]; rfl
    rw [e2] at c
    rw [← c]
    by_cases h0 : j = 0
    · subst h0; simp [Addr.add]
    · simp [Addr.add, h0]
end Go.Proofs.YtiejfnnokfedkaaDoor

/- The specification's copy of a disk (written by mk/disks3.py). No condition. -/
namespace Go.Proofs.YtiejfnnokfedkaaDoor
open Go.RowKit
set_option maxRecDepth 100000
set_option linter.unusedVariables false

theorem str_oneCell (ss : List ByteArray) : ∀ y ∈ strCells ss, y.oneCell' = true := by
  intro y hy
  simp only [strCells, List.mem_map] at hy
  obtain ⟨s, _, rfl⟩ := hy
  rfl
theorem put_oneCell (ps : List (Int × ByteArray)) : ∀ y ∈ putCells ps, y.oneCell' = true := by
  intro y hy
  simp only [putCells, List.mem_flatMap, List.mem_cons, List.not_mem_nil, or_false] at hy
  obtain ⟨s, _, rfl | rfl⟩ := hy
  · rfl
  · rfl

set_option maxHeartbeats 2000000 in
set_option maxRecDepth 100000 in
theorem sl15Copy_any {w : World} {v : Value} {d : PDisk} (h : DiskAt w v d) (hf : DiskFit d) :
    Calls Tryd.prog 52 #[v] w fun e w' => ∃ v', e = .returned v' ∧ OwnDk w.heap.size w' v' d ∧ Below w.heap.size w w' := by
  obtain ⟨sa, sn, sc, la, ln, lc, rfl, h1, h2⟩ := h
  have f1 := hf.sl
  have f2 := hf.ll
  obtain ⟨iS, hiS, hs0, hs1, hs2⟩ := info_parts Tryd.infoStr
  obtain ⟨iP, hiP, hp0, hp1, hp2⟩ := info_parts Tryd.infoPut
  obtain ⟨W, hW⟩ : ∃ x, x = (w.alloc (.cells #[.slice sa sn sc, .slice la ln lc] 34)).alloc (.cells #[.slice none 0 0, .slice none 0 0] 34) := ⟨_, rfl⟩
  have b1 : Below w.heap.size w W := by rw [hW]; exact ((Below.refl _ _).alloc (Nat.le_refl _) _).alloc (by simp) _
  have hS : W.heap.size = w.heap.size + 1 + 1 := by rw [hW, World.size_alloc, World.size_alloc]
  have x1 : W.heap[w.heap.size]? = some (.cells #[.slice sa sn sc, .slice la ln lc] 34 (0, 0)) := by rw [hW, Below.heap_alloc _ _ _ (by simp)]; exact World.alloc_heap_new _ _
  have x2 : W.heap[w.heap.size + 1]? = some (.cells #[.slice none 0 0, .slice none 0 0] 34 (0, 0)) := by
    rw [hW]
    have := World.alloc_heap_new (w.alloc (.cells #[.slice sa sn sc, .slice la ln lc] 34)) (.cells #[.slice none 0 0, .slice none 0 0] 34)
    rwa [World.size_alloc] at this
  have H1 := (show Hid (Sv 1 W (.slice sa sn sc) (strCells d.safe)) from h1.below b1)
  have H2 := (show Hid (Sv 2 W (.slice la ln lc) (putCells d.late)) from h2.below b1)
  have HL := (show Hid (w.heap.size < W.heap.size ∧ w.heap.size + 1 < W.heap.size) from ⟨by omega, by omega⟩)
  have HX := (show Hid (W.heap[w.heap.size + 1]? = some (.cells #[.slice none 0 0, .slice none 0 0] 34 (0, 0))) from x2)
  obtain ⟨q1, q2, _, _⟩ := rk_two x1
  have HC := (show Hid (W.cell? ⟨w.heap.size, 0, none⟩ = some (.slice sa sn sc) ∧ W.cell? ⟨w.heap.size, 1, none⟩ = some (.slice la ln lc)) from ⟨q1, q2⟩)
  have HS := (show Hid (W.heap.size = w.heap.size + 1 + 1) from hS)
  have HB := (show Hid (Below w.heap.size w W) from b1)
  have hlt1 : w.heap.size < W.heap.size := by omega
  have hlt2 : w.heap.size + 1 < W.heap.size := by omega
  clear h1 h2 hf x1 x2 b1 hS
  go_enter Tryd.func52, Tryd.ntmps52
  go_wp2_with fail
  rw [← hW]
  clear hW
  go_region_law (first
      | (with_reducible refine step_appS (w := (W.alloc (Obj.cells #[] 9)).drew) ?_ (.tmp 3) (.tmp 5) 31 ?_ W.heap.size 9 iS _ 1 16 ?_ hiS hs0 hs1 hs2 ?_ ?_ (.slice (some ⟨W.heap.size, 0, none⟩) 0 0) 0 [] ?_ ?_ (.slice sa sn sc) d.safe.length (strCells d.safe) ?_ ?_ ?_ ?_ ?_ ?_ ?_ ?_
         · rfl
         · rfl
         · exact Tryd.underlying31
         · rfl
         · decide
         · simp [Act.eval]
         · exact ownsRow_below (empty_row W W.heap.size 9 1 (Nat.le_refl _)) (below_drewN 1)
         · simp [Act.eval]
         · exact (H1.out.below (((Below.refl W.heap.size W).alloc (Nat.le_refl _) _).trans (below_drewN 1)))
         · exact (by rw [strCells_len, Nat.mul_one])
         · exact (str_oneCell _)
         · (unfold maxLen; omega)
         · omega
         · exact (((Below.refl W.heap.size W).alloc (Nat.le_refl _) _).trans (below_drewN 1)).size
         intro v6 w6 o6 g6
         rw [List.nil_append, Nat.zero_add] at o6
         obtain ⟨a6, n6, c6, rfl⟩ := rk_slice o6
         have b6 : Below W.heap.size W w6 := (((Below.refl W.heap.size W).alloc (Nat.le_refl _) _).trans (below_drewN 1)).grown g6 (((Below.refl W.heap.size W).alloc (Nat.le_refl _) _).trans (below_drewN 1)).size (fun r e => by simp only [Value.ownBlock, Option.some.injEq] at e; omega)

         have y1 : w6.cell? ⟨w.heap.size, 1, none⟩ = some (.slice la ln lc) := (b6.cell (p := ⟨w.heap.size, 1, none⟩) HL.out.1).trans HC.out.2
         have hsz6 := b6.size
         have hlt6 : w.heap.size < w6.heap.size := Nat.lt_of_lt_of_le hlt1 hsz6
         have HO6 := (show Hid (w6.ownsRow W.heap.size 9 1 (.slice a6 n6 c6) d.safe.length (strCells d.safe)) from o6)
         have HB6 := (show Hid (Below W.heap.size W w6) from b6)
         clear o6 b6 g6)
      | (with_reducible refine step_appS (w := ((W.alloc (Obj.cells #[] 9)).alloc (Obj.cells #[] 76)).drew) ?_ (.tmp 3) (.tmp 5) 31 ?_ W.heap.size 9 iS _ 1 16 ?_ hiS hs0 hs1 hs2 ?_ ?_ (.slice (some ⟨W.heap.size, 0, none⟩) 0 0) 0 [] ?_ ?_ (.slice sa sn sc) d.safe.length (strCells d.safe) ?_ ?_ ?_ ?_ ?_ ?_ ?_ ?_
         · rfl
         · rfl
         · exact Tryd.underlying31
         · rfl
         · decide
         · simp [Act.eval]
         · exact ownsRow_below (ownsRow_below (empty_row W W.heap.size 9 1 (Nat.le_refl _)) ((Below.refl _ _).alloc (Nat.le_refl _) _)) (below_drewN 1)
         · simp [Act.eval]
         · exact (H1.out.below ((((Below.refl W.heap.size W).alloc (Nat.le_refl _) _).alloc (by simp) _).trans (below_drewN 1)))
         · exact (by rw [strCells_len, Nat.mul_one])
         · exact (str_oneCell _)
         · (unfold maxLen; omega)
         · omega
         · exact ((((Below.refl W.heap.size W).alloc (Nat.le_refl _) _).alloc (by simp) _).trans (below_drewN 1)).size
         intro v6 w6 o6 g6
         rw [List.nil_append, Nat.zero_add] at o6
         obtain ⟨a6, n6, c6, rfl⟩ := rk_slice o6
         have b6 : Below W.heap.size W w6 := ((((Below.refl W.heap.size W).alloc (Nat.le_refl _) _).alloc (by simp) _).trans (below_drewN 1)).grown g6 ((((Below.refl W.heap.size W).alloc (Nat.le_refl _) _).alloc (by simp) _).trans (below_drewN 1)).size (fun r e => by simp only [Value.ownBlock, Option.some.injEq] at e; omega)
         have hp6 : w6.ownsRow W.heap.size 76 2 (.slice (some ⟨W.heap.size + 1, 0, none⟩) 0 0) 0 [] := by
           have h := ownsRow_below (empty_row (W.alloc (Obj.cells #[] 9)) W.heap.size 76 2 (by simp)) (below_drewN 1)
           rw [World.size_alloc] at h
           exact World.ownsRow.kept h g6 (.inr (fun e => by simp only [Value.ownBlock, Option.some.injEq] at e; omega))
         have HP6 := (show Hid _ from hp6)
         clear hp6
         have y1 : w6.cell? ⟨w.heap.size, 1, none⟩ = some (.slice la ln lc) := (b6.cell (p := ⟨w.heap.size, 1, none⟩) HL.out.1).trans HC.out.2
         have hsz6 := b6.size
         have hlt6 : w.heap.size < w6.heap.size := Nat.lt_of_lt_of_le hlt1 hsz6
         have HO6 := (show Hid (w6.ownsRow W.heap.size 9 1 (.slice a6 n6 c6) d.safe.length (strCells d.safe)) from o6)
         have HB6 := (show Hid (Below W.heap.size W w6) from b6)
         clear o6 b6 g6)
      | (with_reducible refine step_appS (w := ((W.alloc (Obj.cells #[] 76)).alloc (Obj.cells #[] 9)).drew) ?_ (.tmp 3) (.tmp 5) 31 ?_ W.heap.size 9 iS _ 1 16 ?_ hiS hs0 hs1 hs2 ?_ ?_ (.slice (some ⟨W.heap.size + 1, 0, none⟩) 0 0) 0 [] ?_ ?_ (.slice sa sn sc) d.safe.length (strCells d.safe) ?_ ?_ ?_ ?_ ?_ ?_ ?_ ?_
         · rfl
         · rfl
         · exact Tryd.underlying31
         · rfl
         · decide
         · simp [Act.eval]
         · exact (by have h := ownsRow_below (empty_row (W.alloc (Obj.cells #[] 76)) W.heap.size 9 1 (by simp)) (below_drewN 1); rwa [World.size_alloc] at h)
         · simp [Act.eval]
         · exact (H1.out.below ((((Below.refl W.heap.size W).alloc (Nat.le_refl _) _).alloc (by simp) _).trans (below_drewN 1)))
         · exact (by rw [strCells_len, Nat.mul_one])
         · exact (str_oneCell _)
         · (unfold maxLen; omega)
         · omega
         · exact ((((Below.refl W.heap.size W).alloc (Nat.le_refl _) _).alloc (by simp) _).trans (below_drewN 1)).size
         intro v6 w6 o6 g6
         rw [List.nil_append, Nat.zero_add] at o6
         obtain ⟨a6, n6, c6, rfl⟩ := rk_slice o6
         have b6 : Below W.heap.size W w6 := ((((Below.refl W.heap.size W).alloc (Nat.le_refl _) _).alloc (by simp) _).trans (below_drewN 1)).grown g6 ((((Below.refl W.heap.size W).alloc (Nat.le_refl _) _).alloc (by simp) _).trans (below_drewN 1)).size (fun r e => by simp only [Value.ownBlock, Option.some.injEq] at e; omega)
         have hp6 : w6.ownsRow W.heap.size 76 2 (.slice (some ⟨W.heap.size, 0, none⟩) 0 0) 0 [] := by
           have h := ownsRow_below (ownsRow_below (empty_row W W.heap.size 76 2 (Nat.le_refl _)) ((Below.refl _ _).alloc (Nat.le_refl _) (Obj.cells #[] 9))) (below_drewN 1)
           exact World.ownsRow.kept h g6 (.inr (fun e => by simp only [Value.ownBlock, Option.some.injEq] at e; omega))
         have HP6 := (show Hid _ from hp6)
         clear hp6
         have y1 : w6.cell? ⟨w.heap.size, 1, none⟩ = some (.slice la ln lc) := (b6.cell (p := ⟨w.heap.size, 1, none⟩) HL.out.1).trans HC.out.2
         have hsz6 := b6.size
         have hlt6 : w.heap.size < w6.heap.size := Nat.lt_of_lt_of_le hlt1 hsz6
         have HO6 := (show Hid (w6.ownsRow W.heap.size 9 1 (.slice a6 n6 c6) d.safe.length (strCells d.safe)) from o6)
         have HB6 := (show Hid (Below W.heap.size W w6) from b6)
         clear o6 b6 g6)
      | (with_reducible refine step_appS (w := (w6.alloc (Obj.cells #[] 76))) ?_ (.tmp 7) (.tmp 9) 32 ?_ W.heap.size 76 iP _ 2 24 ?_ hiP hp0 hp1 hp2 ?_ ?_ (.slice (some ⟨w6.heap.size, 0, none⟩) 0 0) 0 [] ?_ ?_ (.slice la ln lc) d.late.length (putCells d.late) ?_ ?_ ?_ ?_ ?_ ?_ ?_ ?_
         · rfl
         · rfl
         · exact Tryd.underlying32
         · rfl
         · decide
         · simp [Act.eval]
         · exact empty_row w6 W.heap.size 76 2 HB6.out.size
         · simp [Act.eval]
         · exact (H2.out.below (HB6.out.alloc HB6.out.size _))
         · exact (putCells_len _)
         · exact (put_oneCell _)
         · (unfold maxLen; omega)
         · omega
         · exact (HB6.out.alloc HB6.out.size _).size
         intro v10 w10 o10 g10
         rw [List.nil_append, Nat.zero_add] at o10
         obtain ⟨a10, n10, c10, rfl⟩ := rk_slice o10
         have b10 : Below W.heap.size W w10 := (HB6.out.alloc HB6.out.size _).grown g10 (HB6.out.alloc HB6.out.size _).size (fun r e => by simp only [Value.ownBlock, Option.some.injEq] at e; omega)
         have x10 : w10.heap[w.heap.size + 1]? = some (.cells #[.slice none 0 0, .slice none 0 0] 34 (0, 0)) := (b10.block _ HL.out.2).trans HX.out
         obtain ⟨k1, k2, k3, k4⟩ := rk_two x10
         have p10 : w10.ownsRow W.heap.size 9 1 (.slice a6 n6 c6) d.safe.length (strCells d.safe) := rk_type (ownsRow_below HO6.out ((Below.refl _ _).alloc (Nat.le_refl _) _)) g10 (fun r e => by simp only [Value.ownBlock, Option.some.injEq] at e; subst e; exact ⟨_, _, _, World.alloc_heap_new w6 _, by decide⟩)
         have HF := (show Hid (w10.ownsRow W.heap.size 9 1 (.slice a6 n6 c6) d.safe.length (strCells d.safe) ∧ w10.ownsRow W.heap.size 76 2 (.slice a10 n10 c10) d.late.length (putCells d.late) ∧ Below W.heap.size W w10 ∧ w10.heap[w.heap.size + 1]? = some (.cells #[.slice none 0 0, .slice none 0 0] 34 (0, 0))) from ⟨p10, o10, b10, x10⟩)
         clear o10 b10 g10 x10 p10)
      | (with_reducible refine step_appS (w := w6) ?_ (.tmp 7) (.tmp 9) 32 ?_ W.heap.size 76 iP _ 2 24 ?_ hiP hp0 hp1 hp2 ?_ ?_ (.slice (some ⟨W.heap.size + 1, 0, none⟩) 0 0) 0 [] ?_ ?_ (.slice la ln lc) d.late.length (putCells d.late) ?_ ?_ ?_ ?_ ?_ ?_ ?_ ?_
         · rfl
         · rfl
         · exact Tryd.underlying32
         · rfl
         · decide
         · simp [Act.eval]
         · exact HP6.out
         · simp [Act.eval]
         · exact (H2.out.below HB6.out)
         · exact (putCells_len _)
         · exact (put_oneCell _)
         · (unfold maxLen; omega)
         · omega
         · exact HB6.out.size
         intro v10 w10 o10 g10
         rw [List.nil_append, Nat.zero_add] at o10
         obtain ⟨a10, n10, c10, rfl⟩ := rk_slice o10
         have b10 : Below W.heap.size W w10 := HB6.out.grown g10 HB6.out.size (fun r e => by simp only [Value.ownBlock, Option.some.injEq] at e; omega)
         have x10 : w10.heap[w.heap.size + 1]? = some (.cells #[.slice none 0 0, .slice none 0 0] 34 (0, 0)) := (b10.block _ HL.out.2).trans HX.out
         obtain ⟨k1, k2, k3, k4⟩ := rk_two x10
         have p10 : w10.ownsRow W.heap.size 9 1 (.slice a6 n6 c6) d.safe.length (strCells d.safe) := rk_type HO6.out g10 (fun r e => by
           rcases HP6.out.2 with ⟨hv, _⟩ | ⟨g, cap, cur, hv, _, hh, _⟩
           · cases hv
           · cases hv; cases e
             exact ⟨_, _, _, hh, by decide⟩)
         have HF := (show Hid (w10.ownsRow W.heap.size 9 1 (.slice a6 n6 c6) d.safe.length (strCells d.safe) ∧ w10.ownsRow W.heap.size 76 2 (.slice a10 n10 c10) d.late.length (putCells d.late) ∧ Below W.heap.size W w10 ∧ w10.heap[w.heap.size + 1]? = some (.cells #[.slice none 0 0, .slice none 0 0] 34 (0, 0))) from ⟨p10, o10, b10, x10⟩)
         clear o10 b10 g10 x10 p10)
      | (with_reducible refine step_appS (w := w6) ?_ (.tmp 7) (.tmp 9) 32 ?_ W.heap.size 76 iP _ 2 24 ?_ hiP hp0 hp1 hp2 ?_ ?_ (.slice (some ⟨W.heap.size, 0, none⟩) 0 0) 0 [] ?_ ?_ (.slice la ln lc) d.late.length (putCells d.late) ?_ ?_ ?_ ?_ ?_ ?_ ?_ ?_
         · rfl
         · rfl
         · exact Tryd.underlying32
         · rfl
         · decide
         · simp [Act.eval]
         · exact HP6.out
         · simp [Act.eval]
         · exact (H2.out.below HB6.out)
         · exact (putCells_len _)
         · exact (put_oneCell _)
         · (unfold maxLen; omega)
         · omega
         · exact HB6.out.size
         intro v10 w10 o10 g10
         rw [List.nil_append, Nat.zero_add] at o10
         obtain ⟨a10, n10, c10, rfl⟩ := rk_slice o10
         have b10 : Below W.heap.size W w10 := HB6.out.grown g10 HB6.out.size (fun r e => by simp only [Value.ownBlock, Option.some.injEq] at e; omega)
         have x10 : w10.heap[w.heap.size + 1]? = some (.cells #[.slice none 0 0, .slice none 0 0] 34 (0, 0)) := (b10.block _ HL.out.2).trans HX.out
         obtain ⟨k1, k2, k3, k4⟩ := rk_two x10
         have p10 : w10.ownsRow W.heap.size 9 1 (.slice a6 n6 c6) d.safe.length (strCells d.safe) := rk_type HO6.out g10 (fun r e => by
           rcases HP6.out.2 with ⟨hv, _⟩ | ⟨g, cap, cur, hv, _, hh, _⟩
           · cases hv
           · cases hv; cases e
             exact ⟨_, _, _, hh, by decide⟩)
         have HF := (show Hid (w10.ownsRow W.heap.size 9 1 (.slice a6 n6 c6) d.safe.length (strCells d.safe) ∧ w10.ownsRow W.heap.size 76 2 (.slice a10 n10 c10) d.late.length (putCells d.late) ∧ Below W.heap.size W w10 ∧ w10.heap[w.heap.size + 1]? = some (.cells #[.slice none 0 0, .slice none 0 0] 34 (0, 0))) from ⟨p10, o10, b10, x10⟩)
         clear o10 b10 g10 x10 p10))
  all_goals go_wp2
  all_goals
    obtain ⟨p10, o10, b10, x10⟩ := HF.out
    have r1 := rk_at (k := 0) (u := .slice a6 n6 c6) x10
    have r2 := rk_at (k := 1) (u := .slice a10 n10 c10) r1
    refine bodyPost_ret (results_cell_row rfl _ _ (w.heap.size + 1) 34 #[.slice a6 n6 c6, .slice a10 n10 c10] (0, 0) _ rfl r2 Tryd.underlying34 rfl rfl) rfl ?_
    have hs := HS.out
    refine ⟨_, rfl, ⟨_, _, _, _, _, _, rfl, rk_base (rk_set (k := 1) (rk_set (k := 0) p10 x10 (by decide)) r1 (by decide)) HB.out.size, rk_base (rk_set (k := 1) (rk_set (k := 0) o10 x10 (by decide)) r1 (by decide)) HB.out.size⟩, ?_⟩
    exact ((HB.out.trans (b10.mono HB.out.size)).setCell (Nat.le_succ _) _).setCell (Nat.le_succ _) _
end Go.Proofs.YtiejfnnokfedkaaDoor

/- The specification's DiskPut. No condition. -/
namespace Go.Proofs.YtiejfnnokfedkaaDoor
open Go.RowKit
set_option maxRecDepth 100000
set_option linter.unusedVariables false

theorem disk_res {fn : Func} {p u : Tmp} (hr : fn.results = #[.cell p 34, .tmp u]) {tmps : Array Value} {w : World} {g : Nat} {a b : Value} {r : Bool} (h4 : tmps.getD p undef = .pointer (some ⟨g, 0, none⟩)) (h5 : tmps.getD u undef = .bool r) (hb : w.heap[g]? = some (.cells #[a, b] 34 (0, 0))) :
    (results fn tmps).run Tryd.prog w = .ok (.tuple #[.agg #[a, b], .bool r]) w := by
  rw [results_cell_tmp (p := p) (u := u) (ty := 34) hr, h4, h5]
  simp [asAddr, run_loadVar_row w g 34 34 #[a, b] (0, 0) _ hb Tryd.underlying34 rfl rfl, Result.andThen]

theorem ownDk_nil (B : Nat) (w : World) : OwnDk B w (.agg #[.slice none 0 0, .slice none 0 0]) zeroDk := ⟨none, 0, 0, none, 0, 0, rfl, World.ownsRow_nil _ _ _ _, World.ownsRow_nil _ _ _ _⟩

theorem sv_onePut {w : World} {g : Nat} {x : Int} {s : ByteArray} {t : TypeId} (h : w.heap[g]? = some (.cells #[.int .i64 x, .string s] t (0, 0))) : Sv 2 w (.slice (some ⟨g, 0, none⟩) 1 1) (putCells [(x, s)]) := by
  obtain ⟨c0, c1, _, _⟩ := rk_two h
  refine ⟨some ⟨g, 0, none⟩, 1, 1, rfl, rfl, Nat.le_refl _, by unfold maxLen; omega, (fun e => by cases e), fun i hi => ⟨g, 0, rfl, ?_⟩⟩
  have hi' : i < 2 := hi
  match i, hi' with
  | 0, _ => simpa [putCells] using c0
  | 1, _ => simpa [putCells] using c1

set_option maxHeartbeats 1000000 in
set_option maxRecDepth 100000 in
theorem sdiskPut_any {w : World} {v : Value} {d : PDisk} (h : DiskAt w v d) (hf : DiskFit d) (x : Int) (s : ByteArray) (hsz : s.size ≤ 1099511627776) :
    Calls Tryd.prog 55 #[v, .int .i64 x, .string s] w fun e w' => ∃ v', e = .returned (.tuple #[v', .bool (putDk d x s).2]) ∧ OwnDk w.heap.size w' v' (putDk d x s).1 ∧ Below w.heap.size w w' := by
  have HD := (show Hid (DiskAt w v d) from h)
  have HF := (show Hid (DiskFit d) from hf)
  have f2 := hf.ll
  obtain ⟨sa, sn, sc, la, ln, lc, rfl, _, h2⟩ := h
  obtain ⟨_, _, e2, _, _, _⟩ := h2.put
  cases e2
  clear h2 hf
  obtain ⟨w1, hw1⟩ : ∃ x, x = (w.alloc (.cells #[.slice sa sn sc, .slice la d.late.length lc] 34)).alloc (.cells #[.slice none 0 0, .slice none 0 0] 34) := ⟨_, rfl⟩
  have b1 : Below w.heap.size w w1 := by rw [hw1]; exact ((Below.refl _ _).alloc (Nat.le_refl _) _).alloc (by simp) _
  have x1 : w1.heap[w.heap.size]? = some (.cells #[.slice sa sn sc, .slice la d.late.length lc] 34 (0, 0)) := by rw [hw1, Below.heap_alloc _ _ _ (by simp)]; exact World.alloc_heap_new _ _
  have x2 : w1.heap[w.heap.size + 1]? = some (.cells #[.slice none 0 0, .slice none 0 0] 34 (0, 0)) := by
    rw [hw1]
    have := World.alloc_heap_new (w.alloc (.cells #[.slice sa sn sc, .slice la d.late.length lc] 34)) (.cells #[.slice none 0 0, .slice none 0 0] 34)
    rwa [World.size_alloc] at this
  have X1 := (show Hid _ from x1)
  have X2 := (show Hid _ from x2)
  have B1 := (show Hid (Below w.heap.size w w1) from b1)
  clear b1 x1 x2
  go_enter Tryd.func55, Tryd.ntmps55
  go_wp2_with fail
  go_at_call 38
  rw [← hw1]
  refine (sdiskOk_any (HD.out.below B1.out) HF.out).mono ?_
  rintro e w2 ⟨rfl, b2⟩
  clear hw1
  have B2 := (show Hid (Below w.heap.size w w2) from B1.out.trans (b2.mono B1.out.size))
  have y1 := (b2.block _ (lt_of_block X1.out)).trans X1.out
  have y2 := (b2.block _ (lt_of_block X2.out)).trans X2.out
  obtain ⟨q1, q2, _, _⟩ := rk_two y1
  obtain ⟨r1, r2, r3, r4⟩ := rk_two y2
  have Y1 := (show Hid _ from y1)
  have Y2 := (show Hid _ from y2)
  clear b2 y1 y2
  cases hb : diskB d
  · have HR : Hid (putDk d x s = (zeroDk, false)) := (show putDk d x s = (zeroDk, false) by rw [putDk, if_pos hb])
    clear hb
    go_wp2
    have z2 := rk_at (k := 1) (u := .slice none 0 0) (rk_at (k := 0) (u := .slice none 0 0) Y2.out)
    refine bodyPost_ret (disk_res rfl rfl rfl z2) rfl ?_
    rw [HR.out]
    exact ⟨_, rfl, ownDk_nil _ _, ((B2.out.setCell (Nat.le_succ _) _).setCell (Nat.le_succ _) _)⟩
  · have HB := (show Hid (diskB d = true) from hb)
    clear hb
    have CC := (show Hid _ from sl15Copy_any (HD.out.below B2.out) HF.out)
    go_wp2_with fail
    go_at_call 52
    refine Calls.mono CC.out ?_
    rintro e w3 ⟨v3, rfl, o3, b3⟩
    clear CC
    have B3 := (show Hid (Below w.heap.size w w3) from B2.out.trans (b3.mono B2.out.size))
    obtain ⟨ta, tn, tc, ma, mn, mc, rfl, o31, o32⟩ := o3
    obtain ⟨w4, hw4⟩ : ∃ x, x = w3.alloc (.cells #[.slice ta tn tc, .slice ma mn mc] 34) := ⟨_, rfl⟩
    have b34 : Below w3.heap.size w3 w4 := by rw [hw4]; exact (Below.refl _ _).alloc (Nat.le_refl _) _
    have x4 : w4.heap[w3.heap.size]? = some (.cells #[.slice ta tn tc, .slice ma mn mc] 34 (0, 0)) := by rw [hw4]; exact World.alloc_heap_new _ _
    have b24 : Below w2.heap.size w2 w4 := b3.trans (b34.mono b3.size)
    have y1 := (b24.block _ (lt_of_block Y1.out)).trans Y1.out
    have y2 := (b24.block _ (lt_of_block Y2.out)).trans Y2.out
    obtain ⟨q1, q2, _, _⟩ := rk_two y1
    obtain ⟨r1, r2, r3, r4⟩ := rk_two y2
    obtain ⟨t1, t2, t3, t4⟩ := rk_two x4
    have B4 := (show Hid (Below w.heap.size w w4) from B3.out.trans (b34.mono B3.out.size))
    have O1 := (show Hid (w4.ownsRow w.heap.size 9 1 (.slice ta tn tc) d.safe.length (strCells d.safe)) from ownsRow_below (rk_base o31 B2.out.size) b34)
    have O2 := (show Hid (w4.ownsRow w.heap.size 76 2 (.slice ma mn mc) d.late.length (putCells d.late)) from ownsRow_below (rk_base o32 B2.out.size) b34)
    have X4 := (show Hid _ from x4)
    have Z2 := (show Hid _ from y2)
    have hl3 : w.heap.size + 1 < w3.heap.size := Nat.lt_of_lt_of_le (lt_of_block Y2.out) b3.size
    have hne : w3.heap.size ≠ w.heap.size + 1 := by omega
    clear b3 o31 o32 b34 x4 b24 y1 y2 Y1 Y2 X1 X2
    go_wp2_with fail
    go_at_call 74
    rw [← hw4]
    refine (sl15Sector_any x w4).mono ?_
    rintro e w5 ⟨rfl, hw5⟩
    replace hw5 := hw5.symm
    subst hw5
    clear hw4
    have fin : Hid (∀ r, putDk d x s = (d, r) → ∃ v', (Ending.returned (.tuple #[.agg #[.slice ta tn tc, .slice ma mn mc], .bool r])) = Ending.returned (.tuple #[v', .bool (putDk d x s).2]) ∧ OwnDk w.heap.size ((w4.setCell ⟨w.heap.size + 1, 0, none⟩ (.slice ta tn tc)).setCell ⟨w.heap.size + 1, 1, none⟩ (.slice ma mn mc)) v' (putDk d x s).1 ∧ Below w.heap.size w ((w4.setCell ⟨w.heap.size + 1, 0, none⟩ (.slice ta tn tc)).setCell ⟨w.heap.size + 1, 1, none⟩ (.slice ma mn mc))) := fun r e => by
      rw [e]
      have z1 := rk_at (k := 0) (u := .slice ta tn tc) Z2.out
      exact ⟨_, rfl, ⟨_, _, _, _, _, _, rfl, rk_set (rk_set O1.out Z2.out (by decide)) z1 (by decide), rk_set (rk_set O2.out Z2.out (by decide)) z1 (by decide)⟩, (B4.out.setCell (p := ⟨w.heap.size + 1, 0, none⟩) (Nat.le_succ _) _).setCell (p := ⟨w.heap.size + 1, 1, none⟩) (Nat.le_succ _) _⟩
    have RS := (show Hid _ from rk_at (k := 1) (u := .slice ma mn mc) (rk_at (k := 0) (u := .slice ta tn tc) Z2.out))
    cases hi : inB x 0 129
    · have HR : Hid (putDk d x s = (d, false)) := (show putDk d x s = (d, false) by rw [putDk, if_neg (by rw [HB.out]; simp), if_pos (.inl hi)])
      clear hi
      go_wp2
      refine bodyPost_ret (disk_res rfl rfl rfl RS.out) rfl ?_
      exact fin.out false HR.out
    · have HI := (show Hid _ from hi)
      clear hi
      by_cases e1 : s.size = 64
      · have hn1 : ((s.size : Int) != 64) = false := by simp; omega
        by_cases e2 : d.late.length = 200
        · have HR : Hid (putDk d x s = (d, false)) := (show putDk d x s = (d, false) by rw [putDk, if_neg (by rw [HB.out]; simp), if_pos (.inr (.inr e2))])
          have hn2 : ((d.late.length : Int) == 200) = true := by simp; omega
          clear e1 e2
          go_wp2
          refine bodyPost_ret (disk_res rfl rfl rfl RS.out) rfl ?_
          exact fin.out false HR.out
        · have HR : Hid (putDk d x s = (⟨d.safe, d.late ++ [(x, s)]⟩, true)) := (show putDk d x s = (⟨d.safe, d.late ++ [(x, s)]⟩, true) by rw [putDk, if_neg (by rw [HB.out]; simp), if_neg (by rw [HI.out]; simp [e1, e2])])
          have hn2 : ((d.late.length : Int) == 200) = false := by simp; omega
          clear e1 e2 fin RS
          obtain ⟨iP, hiP, hp0, hp1, hp2⟩ := info_parts Tryd.infoPut
          obtain ⟨w6, hw6⟩ : ∃ y, y = w4.alloc (.cells #[.int .i64 x, .string s] 76) := ⟨_, rfl⟩
          have b6 : Below w4.heap.size w4 w6 := by rw [hw6]; exact (Below.refl _ _).alloc (Nat.le_refl _) _
          have x6 : w6.heap[w4.heap.size]? = some (.cells #[.int .i64 x, .string s] 76 (0, 0)) := by rw [hw6]; exact World.alloc_heap_new _ _
          have SV := (show Hid (Sv 2 w6 (.slice (some ⟨w4.heap.size, 0, none⟩) 1 1) (putCells [(x, s)])) from sv_onePut x6)
          have O26 := (show Hid (w6.ownsRow w.heap.size 76 2 (.slice ma mn mc) d.late.length (putCells d.late)) from ownsRow_below O2.out b6)
          have O16 := (show Hid (w6.ownsRow w.heap.size 9 1 (.slice ta tn tc) d.safe.length (strCells d.safe)) from ownsRow_below O1.out b6)
          have B6 := (show Hid (Below w.heap.size w w6) from B4.out.trans (b6.mono B4.out.size))
          have z46 := (b6.block _ (lt_of_block X4.out)).trans X4.out
          have z26 := (b6.block _ (lt_of_block Z2.out)).trans Z2.out
          have HZ := (show Hid (w6.heap[w3.heap.size]? = some (.cells #[.slice ta tn tc, .slice ma mn mc] 34 (0, 0)) ∧ w6.heap[w.heap.size + 1]? = some (.cells #[.slice none 0 0, .slice none 0 0] 34 (0, 0))) from ⟨z46, z26⟩)
          clear b6 x6 z46 z26
          go_wp2_with (at_builtin
                       rw [← hw6]
                       refine wpList_appV _ rfl (.tmp 31) (.tmp 35) 32 rfl w.heap.size 76 iP _ 2 24 Tryd.underlying32 hiP hp0 hp1 hp2 rfl (by decide) (.slice ma mn mc) (.slice (some ⟨w4.heap.size, 0, none⟩) 1 1) d.late.length 1 (putCells d.late) (putCells [(x, s)]) rfl rfl O26.out SV.out (putCells_len _) (put_oneCell _) (by omega) (by unfold maxLen; omega) B6.out.size ?_
                       intro v7 w7 o7 g7
                       clear hw6
                       rw [← putCells_app] at o7
                       have o17 := rk_other O26.out g7 O16.out (by decide)
                       have z47 := rk_keep O26.out g7 HZ.out.1 (by decide)
                       have z27 := rk_keep O26.out g7 HZ.out.2 (by decide)
                       have b7 : Below w.heap.size w w7 := B6.out.grown g7 B6.out.size (fun r e => (World.ownsRow.lt O26.out r e).1)
                       obtain ⟨a7, n7, c7, rfl⟩ := rk_slice o7
                       obtain ⟨t1, t2, t3, t4⟩ := rk_two z47
                       obtain ⟨r1, r2, r3, r4⟩ := rk_two z27
                       have O7 := (show Hid (w7.ownsRow w.heap.size 76 2 (.slice a7 n7 c7) (d.late.length + 1) (putCells (d.late ++ [(x, s)]))) from o7)
                       have O17 := (show Hid (w7.ownsRow w.heap.size 9 1 (.slice ta tn tc) d.safe.length (strCells d.safe)) from o17)
                       have HZ7 := (show Hid (w7.heap[w3.heap.size]? = some (.cells #[.slice ta tn tc, .slice ma mn mc] 34 (0, 0)) ∧ w7.heap[w.heap.size + 1]? = some (.cells #[.slice none 0 0, .slice none 0 0] 34 (0, 0))) from ⟨z47, z27⟩)
                       have B7 := (show Hid (Below w.heap.size w w7) from b7)
                       clear o7 g7 o17 z47 z27 b7)
          obtain ⟨z47, z27⟩ := HZ7.out
          have s1 := rk_at (k := 1) (u := .slice a7 n7 c7) z47
          have s2 := (Below.heap_setCell w7 ⟨w3.heap.size, 1, none⟩ (.slice a7 n7 c7) (w.heap.size + 1) (by show w.heap.size + 1 ≠ w3.heap.size; omega)).trans z27
          have s3 := rk_at (k := 0) (u := .slice ta tn tc) s2
          have s4 := rk_at (k := 1) (u := .slice a7 n7 c7) s3
          refine bodyPost_ret (disk_res rfl rfl rfl s4) rfl ?_
          rw [HR.out]
          refine ⟨_, rfl, ⟨_, _, _, _, _, _, rfl, rk_set (rk_set (rk_set O17.out z47 (by decide)) s2 (by decide)) s3 (by decide), ?_⟩, ((B7.out.setCell (p := ⟨w3.heap.size, 1, none⟩) (by show w.heap.size ≤ w3.heap.size; omega) _).setCell (p := ⟨w.heap.size + 1, 0, none⟩) (Nat.le_succ _) _).setCell (p := ⟨w.heap.size + 1, 1, none⟩) (Nat.le_succ _) _⟩
          rw [List.length_append]
          exact rk_set (rk_set (rk_set O7.out z47 (by decide)) s2 (by decide)) s3 (by decide)
      · have HR : Hid (putDk d x s = (d, false)) := (show putDk d x s = (d, false) by rw [putDk, if_neg (by rw [HB.out]; simp), if_pos (.inr (.inl e1))])
        have hn1 : ((s.size : Int) != 64) = true := by simp; omega
        clear e1
        go_wp2
        refine bodyPost_ret (disk_res rfl rfl rfl RS.out) rfl ?_
        exact fin.out false HR.out
end Go.Proofs.YtiejfnnokfedkaaDoor

/- The specification's DiskSync, DiskCrash, DiskNew. No condition. -/
namespace Go.Proofs.YtiejfnnokfedkaaDoor
open Go.RowKit
set_option maxRecDepth 100000
set_option linter.unusedVariables false

theorem and_i64_nat (a b : Nat) (ha : a < 9223372036854775808) (hb : b < 9223372036854775808) : bits .and .i64 (a : Int) (b : Int) = ((a &&& b : Nat) : Int) := by
  have hx : a &&& b < 2 ^ 63 := Nat.and_lt_two_pow _ (by omega)
  have h1 : (BitVec.ofInt 64 (a : Int)).toNat = a := by
    rw [BitVec.ofInt_natCast, BitVec.toNat_ofNat]; exact Nat.mod_eq_of_lt (by omega)
  have h2 : (BitVec.ofInt 64 (b : Int)).toNat = b := by
    rw [BitVec.ofInt_natCast, BitVec.toNat_ofNat]; exact Nat.mod_eq_of_lt (by omega)
  show IntKind.i64.wrap ((BitVec.ofInt 64 (a : Int) &&& BitVec.ofInt 64 (b : Int)).toNat : Int) = _
  rw [BitVec.toNat_and, h1, h2, IntKind.wrap_i64]
  omega
theorem and_one_i64 (E : Int) (h0 : 0 ≤ E) (h1 : E ≤ 9223372036854775807) : bits BinOp.and IntKind.i64 E 1 = E % 2 := by
  have h := and_i64_nat E.toNat 1 (by omega) (by omega)
  rw [Nat.and_one_is_mod, Int.toNat_of_nonneg h0] at h
  have h2 : ((E.toNat % 2 : Nat) : Int) = E % 2 := by omega
  exact h.trans h2
theorem bit_run {keep : Int} (hk : 0 ≤ keep ∧ keep ≤ 2147483647) (k : Nat) : (bits BinOp.and IntKind.i64 (keep / 2 ^ (k % 31)) 1 == 1) = bitB keep k := by
  have hp : (0 : Int) < 2 ^ (k % 31) := by exact Int.pow_pos (by decide)
  have h0 : 0 ≤ keep / 2 ^ (k % 31) := Int.ediv_nonneg hk.1 (Int.le_of_lt hp)
  have h1 : keep / 2 ^ (k % 31) ≤ keep := Int.ediv_le_self _ hk.1
  rw [and_one_i64 _ h0 (by omega)]
  unfold bitB
  cases h : decide (keep / 2 ^ (k % 31) % 2 = 1)
  · simpa using h
  · simpa using h
/-- While the puts are done: k of them are. -/
structure DoneI (w : World) (d : PDisk) (keep : Int) (g8 c8 u : Nat) (sa : Option Addr) (sn sc : Nat) (la : Option Addr) (lc k : Nat) (W : World) : Prop where
  row : W.ownsRow w.heap.size 9 1 (.slice (some ⟨g8, 0, none⟩) d.safe.length c8) d.safe.length (strCells (doneN keep d.safe d.late k))
  arg : W.heap[w.heap.size]? = some (.cells #[.slice sa sn sc, .slice la d.late.length lc] 34 (0, 0))
  res : W.heap[w.heap.size + 1]? = some (.cells #[.slice none 0 0, .slice none 0 0] 34 (0, 0))
  out : W.heap[u]? = some (.cells #[.slice (some ⟨g8, 0, none⟩) d.safe.length c8, .slice none 0 0] 34 (0, 0))
  bel : Below w.heap.size w W

set_option maxHeartbeats 1000000 in
set_option maxRecDepth 100000 in
theorem sl15Done_any {w : World} {v : Value} {d : PDisk} (h : DiskAt w v d) (hf : DiskFit d) (hb : diskB d = true) (keep : Int) (hk : 0 ≤ keep ∧ keep ≤ 2147483647) :
    Calls Tryd.prog 91 #[v, .int .i64 keep] w fun e w' => ∃ v', e = .returned v' ∧ OwnDk w.heap.size w' v' (doneDk keep d) ∧ Below w.heap.size w w' := by
  obtain ⟨sa, sn, sc, la, ln, lc, rfl, h1, h2⟩ := h
  have f1 := hf.sl
  have f2 := hf.ll
  obtain ⟨iS, hiS, hs0, hs1, hs2⟩ := info_parts Tryd.infoStr
  obtain ⟨a2, c2, e2, _, _, hp⟩ := h2.put
  cases e2
  have H1 := (show Hid (Sv 1 w (.slice sa sn sc) (strCells d.safe)) from h1)
  have HP := (show Hid (∀ k (hk : k < d.late.length), ∃ b off, la = some ⟨b, off, none⟩ ∧ b < w.heap.size ∧ w.cell? ⟨b, off + k * 2, none⟩ = some (.int .i64 d.late[k].1) ∧ w.cell? ⟨b, off + k * 2 + 1, none⟩ = some (.string d.late[k].2)) from hp)
  have HB := (show Hid (diskB d = true) from hb)
  clear h1 h2 hp hb
  obtain ⟨W, hW⟩ : ∃ x, x = ((w.alloc (.cells #[.slice sa sn sc, .slice la d.late.length lc] 34)).alloc (.cells #[.slice none 0 0, .slice none 0 0] 34)) := ⟨_, rfl⟩
  have bW : Below w.heap.size w W := by rw [hW]; exact ((Below.refl _ _).alloc (Nat.le_refl _) _).alloc (by simp) _
  have hS : W.heap.size = w.heap.size + 1 + 1 := by rw [hW, World.size_alloc, World.size_alloc]
  have x1 : W.heap[w.heap.size]? = some (.cells #[.slice sa sn sc, .slice la d.late.length lc] 34 (0, 0)) := by rw [hW, Below.heap_alloc _ _ _ (by simp)]; exact World.alloc_heap_new _ _
  have x2 : W.heap[w.heap.size + 1]? = some (.cells #[.slice none 0 0, .slice none 0 0] 34 (0, 0)) := by
    rw [hW]
    have := World.alloc_heap_new (w.alloc (.cells #[.slice sa sn sc, .slice la d.late.length lc] 34)) (.cells #[.slice none 0 0, .slice none 0 0] 34)
    rwa [World.size_alloc] at this
  obtain ⟨W1, hW1⟩ : ∃ x, x = W.alloc (.cells #[] 9) := ⟨_, rfl⟩
  have b1 : Below W.heap.size W W1 := by rw [hW1]; exact (Below.refl _ _).alloc (Nat.le_refl _) _
  have o1 : W1.ownsRow w.heap.size 9 1 (.slice (some ⟨w.heap.size + 1 + 1, 0, none⟩) 0 0) 0 [] := by
    rw [hW1, ← hS]; exact empty_row W w.heap.size 9 1 bW.size
  have B1 := (show Hid (Below w.heap.size w W1) from bW.trans (b1.mono bW.size))
  have X := (show Hid (W1.heap[w.heap.size]? = some (.cells #[.slice sa sn sc, .slice la d.late.length lc] 34 (0, 0)) ∧ W1.heap[w.heap.size + 1]? = some (.cells #[.slice none 0 0, .slice none 0 0] 34 (0, 0))) from ⟨(b1.block _ (lt_of_block x1)).trans x1, (b1.block _ (lt_of_block x2)).trans x2⟩)
  have O1 := (show Hid (W1.ownsRow w.heap.size 9 1 (.slice (some ⟨w.heap.size + 1 + 1, 0, none⟩) 0 0) 0 []) from o1)
  clear bW hS x1 x2 b1 o1
  go_enter Tryd.func91, Tryd.ntmps91
  go_wp2_with (at_builtin
               rw [← hW, ← hW1]
               refine wpList_appV _ rfl (.tmp 7) (.tmp 9) 31 rfl w.heap.size 9 iS _ 1 16 Tryd.underlying31 hiS hs0 hs1 hs2 rfl (by decide) (.slice (some ⟨w.heap.size + 1 + 1, 0, none⟩) 0 0) (.slice sa sn sc) 0 d.safe.length [] (strCells d.safe) rfl rfl O1.out (H1.out.below B1.out) (by rw [strCells_len, Nat.mul_one]) (str_oneCell _) (by omega) (by unfold maxLen; omega) B1.out.size ?_
               intro v7 w7 o7 g7
               clear hW1
               rw [List.nil_append, Nat.zero_add] at o7
               have z1 := rk_keep O1.out g7 X.out.1 (by decide)
               have z2 := rk_keep O1.out g7 X.out.2 (by decide)
               have b7 : Below w.heap.size w w7 := B1.out.grown g7 B1.out.size (fun r e => (World.ownsRow.lt O1.out r e).1)
               obtain ⟨g8, c8, rfl, hg8, hl8⟩ := rk_form o7 (by have := (diskB_len HB.out).1; omega)
               obtain ⟨r1, r2, r3, r4⟩ := rk_two z2
               obtain ⟨q1, q2, _, _⟩ := rk_two z1
               have O7 := (show Hid (w7.ownsRow w.heap.size 9 1 (.slice (some ⟨g8, 0, none⟩) d.safe.length c8) d.safe.length (strCells d.safe)) from o7)
               have Z := (show Hid (w7.heap[w.heap.size]? = some (.cells #[.slice sa sn sc, .slice la d.late.length lc] 34 (0, 0)) ∧ w7.heap[w.heap.size + 1]? = some (.cells #[.slice none 0 0, .slice none 0 0] 34 (0, 0))) from ⟨z1, z2⟩)
               have B7 := (show Hid (Below w.heap.size w w7) from b7)
               clear o7 g7 z1 z2 b7)
  obtain ⟨w8, hw8⟩ : ∃ x, x = w7.alloc (.cells #[.slice (some ⟨g8, 0, none⟩) d.safe.length c8, .slice none 0 0] 34) := ⟨_, rfl⟩
  have b78 : Below w7.heap.size w7 w8 := by rw [hw8]; exact (Below.refl _ _).alloc (Nat.le_refl _) _
  have x8 : w8.heap[w7.heap.size]? = some (.cells #[.slice (some ⟨g8, 0, none⟩) d.safe.length c8, .slice none 0 0] 34 (0, 0)) := by rw [hw8]; exact World.alloc_heap_new _ _
  have I0 : Hid (DoneI w d keep g8 c8 w7.heap.size sa sn sc la lc 0 w8) := ⟨ownsRow_below O7.out b78, (b78.block _ (lt_of_block Z.out.1)).trans Z.out.1, (b78.block _ (lt_of_block Z.out.2)).trans Z.out.2, x8, B7.out.trans (b78.mono B7.out.size)⟩
  have hlw : w.heap.size + 1 < w7.heap.size := lt_of_block Z.out.2
  rw [← hw8]
  clear hw8 b78 x8 r1 r2 r3 r4 q1 q2
  go_loopw [6] (fun i wr => ∃ k : Nat, k ≤ d.late.length ∧ i = .int .i64 k ∧ DoneI w d keep g8 c8 w7.heap.size sa sn sc la lc k wr) (fun i _ => d.late.length - (intOf i).toNat)
  case atStart => exact ⟨0, Nat.zero_le _, rfl, I0.out⟩
  case round =>
    clear I0
    obtain ⟨k, hk', rfl, hI⟩ := hrel
    have HI := (show Hid (DoneI w d keep g8 c8 w7.heap.size sa sn sc la lc k wr) from hI)
    obtain ⟨q1, q2, _, _⟩ := rk_two hI.arg
    obtain ⟨u1, u2, _, _⟩ := rk_two hI.out
    clear hI
    by_cases hlt : k < d.late.length
    · obtain ⟨b, o, rfl, hb, c3, c4⟩ := HP.out k hlt
      have c3' := (HI.out.bel.cell (p := ⟨b, o + k * 2, none⟩) hb).trans c3
      have c4' := (HI.out.bel.cell (p := ⟨b, o + k * 2 + 1, none⟩) hb).trans c4
      have hr := diskB_late HB.out hlt
      have HN := (show Hid (doneN keep d.safe d.late (k + 1) = if bitB keep k then (doneN keep d.safe d.late k).set d.late[k].1.toNat d.late[k].2 else doneN keep d.safe d.late k) from doneN_succ hlt)
      obtain ⟨z, hz⟩ : ∃ z, z = d.late[k] := ⟨_, rfl⟩
      rw [← hz] at c3' c4' HN hr
      obtain ⟨za, zs⟩ := z
      simp only at c3' c4' HN hr
      clear hz c3 c4
      obtain ⟨m, rfl⟩ := Int.eq_ofNat_of_zero_le hr.1
      have h31 : ((k : Int)).tmod 31 = ((k % 31 : Nat) : Int) := by rw [Int.tmod_eq_emod_of_nonneg (by omega)]; omega
      have hbit := bit_run hk k
      have hl := doneN_len keep d.safe d.late k
      have hm : m < d.safe.length := by have := (diskB_len HB.out).1; omega
      cases hq : bitB keep k
      · rw [hq] at hbit
        have HN' : Hid (doneN keep d.safe d.late (k + 1) = doneN keep d.safe d.late k) := (show _ = _ by rw [HN.out, hq]; rfl)
        clear HN hq
        go_wp2
        go_roundw
        case rel => exact ⟨k + 1, by omega, by go_num, ⟨by rw [HN'.out]; exact HI.out.row, HI.out.arg, HI.out.res, HI.out.out, HI.out.bel⟩⟩
        case measure => simp [intOf]; omega
      · rw [hq] at hbit
        have HN' : Hid (doneN keep d.safe d.late (k + 1) = (doneN keep d.safe d.late k).set m zs) := (show _ = _ by rw [HN.out, hq]; simp)
        clear HN hq
        have hrow := HI.out.row
        obtain ⟨zz, hc1⟩ : ∃ z, wr.cell? ⟨g8, m, none⟩ = some z := by
          rw [hrow.cellAt m (by omega)]; exact ⟨_, List.getElem?_eq_getElem (by rw [strCells_len]; omega)⟩
        have f9 := hrow.frozenAt m
        have S1 := (show Hid _ from hrow.stored m (.string zs))
        clear hrow
        go_wp2
        go_region
        go_wp2
        go_roundw
        case rel =>
          have bd : Below (wr.setCell ⟨g8, m, none⟩ (.string zs)).heap.size (wr.setCell ⟨g8, m, none⟩ (.string zs)) (wr.setCell ⟨g8, m, none⟩ (.string zs)).drew := below_drewN 1
          obtain ⟨s1, s2⟩ := S1.out
          have k1 := rk_keep HI.out.row s2 HI.out.arg (by decide)
          have k2 := rk_keep HI.out.row s2 HI.out.res (by decide)
          have k3 := rk_keep HI.out.row s2 HI.out.out (by decide)
          refine ⟨k + 1, by omega, by go_num, ⟨?_, (bd.block _ (lt_of_block k1)).trans k1, (bd.block _ (lt_of_block k2)).trans k2, (bd.block _ (lt_of_block k3)).trans k3, ?_⟩⟩
          · rw [HN'.out, ← strCells_set]; exact ownsRow_below s1 bd
          · have b9 := HI.out.bel.grown s2 HI.out.bel.size (fun r e => by cases e; exact hg8)
            exact b9.trans (bd.mono b9.size)
        case measure => simp [intOf]; omega
    · have hke : k = d.late.length := by omega
      obtain ⟨r1, r2, r3, r4⟩ := rk_two HI.out.res
      go_wp2
      have z1 := rk_at (k := 0) (u := .slice (some ⟨g8, 0, none⟩) d.safe.length c8) HI.out.res
      have z2 := rk_at (k := 1) (u := .slice none 0 0) z1
      (try simp only [Exit.inBlock, Exit.then])
      refine bodyPost_ret (results_cell_row rfl _ _ (w.heap.size + 1) 34 #[.slice (some ⟨g8, 0, none⟩) d.safe.length c8, .slice none 0 0] (0, 0) _ rfl z2 Tryd.underlying34 rfl rfl) rfl ?_
      have hrow := HI.out.row
      rw [hke] at hrow
      have hrow2 := rk_set (k := 1) (u := .slice none 0 0) (rk_set (k := 0) (u := .slice (some ⟨g8, 0, none⟩) d.safe.length c8) hrow HI.out.res (by decide)) z1 (by decide)
      refine ⟨_, rfl, ⟨_, _, _, _, _, _, rfl, ?_, World.ownsRow_nil _ _ _ _⟩, (HI.out.bel.setCell (p := ⟨w.heap.size + 1, 0, none⟩) (Nat.le_succ _) _).setCell (p := ⟨w.heap.size + 1, 1, none⟩) (Nat.le_succ _) _⟩
      show World.ownsRow _ _ _ _ _ (doneN keep d.safe d.late d.late.length).length (strCells (doneN keep d.safe d.late d.late.length))
      rw [doneN_len]
      exact hrow2

set_option maxHeartbeats 1000000 in
set_option maxRecDepth 100000 in
theorem sdiskSync_any {w : World} {v : Value} {d : PDisk} (h : DiskAt w v d) (hf : DiskFit d) :
    Calls Tryd.prog 90 #[v] w fun e w' => ∃ v', e = .returned (.tuple #[v', .bool (syncDk d).2]) ∧ OwnDk w.heap.size w' v' (syncDk d).1 ∧ Below w.heap.size w w' := by
  have HD := (show Hid (DiskAt w v d) from h)
  have HF := (show Hid (DiskFit d) from hf)
  obtain ⟨sa, sn, sc, la, ln, lc, rfl, _, _⟩ := h
  clear hf
  obtain ⟨w1, hw1⟩ : ∃ x, x = (w.alloc (.cells #[.slice sa sn sc, .slice la ln lc] 34)).alloc (.cells #[.slice none 0 0, .slice none 0 0] 34) := ⟨_, rfl⟩
  have b1 : Below w.heap.size w w1 := by rw [hw1]; exact ((Below.refl _ _).alloc (Nat.le_refl _) _).alloc (by simp) _
  have x1 : w1.heap[w.heap.size]? = some (.cells #[.slice sa sn sc, .slice la ln lc] 34 (0, 0)) := by rw [hw1, Below.heap_alloc _ _ _ (by simp)]; exact World.alloc_heap_new _ _
  have x2 : w1.heap[w.heap.size + 1]? = some (.cells #[.slice none 0 0, .slice none 0 0] 34 (0, 0)) := by
    rw [hw1]
    have := World.alloc_heap_new (w.alloc (.cells #[.slice sa sn sc, .slice la ln lc] 34)) (.cells #[.slice none 0 0, .slice none 0 0] 34)
    rwa [World.size_alloc] at this
  have X1 := (show Hid _ from x1)
  have X2 := (show Hid _ from x2)
  have B1 := (show Hid (Below w.heap.size w w1) from b1)
  clear b1 x1 x2
  go_enter Tryd.func90, Tryd.ntmps90
  go_wp2_with fail
  go_at_call 38
  rw [← hw1]
  refine (sdiskOk_any (HD.out.below B1.out) HF.out).mono ?_
  rintro e w2 ⟨rfl, b2⟩
  clear hw1
  have B2 := (show Hid (Below w.heap.size w w2) from B1.out.trans (b2.mono B1.out.size))
  have y1 := (b2.block _ (lt_of_block X1.out)).trans X1.out
  have y2 := (b2.block _ (lt_of_block X2.out)).trans X2.out
  obtain ⟨q1, q2, _, _⟩ := rk_two y1
  obtain ⟨r1, r2, r3, r4⟩ := rk_two y2
  have Y1 := (show Hid _ from y1)
  have Y2 := (show Hid _ from y2)
  clear b2 y1 y2
  cases hb : diskB d
  · have HR : Hid (syncDk d = (zeroDk, false)) := (show syncDk d = (zeroDk, false) by rw [syncDk, if_pos hb])
    clear hb
    go_wp2
    have z2 := rk_at (k := 1) (u := .slice none 0 0) (rk_at (k := 0) (u := .slice none 0 0) Y2.out)
    refine bodyPost_ret (disk_res rfl rfl rfl z2) rfl ?_
    rw [HR.out]
    exact ⟨_, rfl, ownDk_nil _ _, ((B2.out.setCell (Nat.le_succ _) _).setCell (Nat.le_succ _) _)⟩
  · have HR : Hid (syncDk d = (doneDk 2147483647 d, true)) := (show syncDk d = (doneDk 2147483647 d, true) by rw [syncDk, if_neg (by rw [hb]; simp)])
    have CC := (show Hid _ from sl15Done_any (HD.out.below B2.out) HF.out hb 2147483647 (by decide))
    clear hb
    go_wp2_with fail
    go_at_call 91
    refine Calls.mono CC.out ?_
    rintro e w3 ⟨v3, rfl, o3, b3⟩
    clear CC
    have B3 := (show Hid (Below w.heap.size w w3) from B2.out.trans (b3.mono B2.out.size))
    have y2 := (b3.block _ (lt_of_block Y2.out)).trans Y2.out
    obtain ⟨ta, tn, tc, ma, mn, mc, rfl, o31, o32⟩ := o3
    obtain ⟨r1, r2, r3, r4⟩ := rk_two y2
    have Z2 := (show Hid _ from y2)
    have O1 := (show Hid _ from rk_base o31 B2.out.size)
    have O2 := (show Hid _ from rk_base o32 B2.out.size)
    clear o31 o32 b3 y2
    go_wp2
    have z1 := rk_at (k := 0) (u := .slice ta tn tc) Z2.out
    have z2 := rk_at (k := 1) (u := .slice ma mn mc) z1
    refine bodyPost_ret (disk_res rfl rfl rfl z2) rfl ?_
    rw [HR.out]
    exact ⟨_, rfl, ⟨_, _, _, _, _, _, rfl, rk_set (rk_set O1.out Z2.out (by decide)) z1 (by decide), rk_set (rk_set O2.out Z2.out (by decide)) z1 (by decide)⟩, (B3.out.setCell (p := ⟨w.heap.size + 1, 0, none⟩) (Nat.le_succ _) _).setCell (p := ⟨w.heap.size + 1, 1, none⟩) (Nat.le_succ _) _⟩

end Go.Proofs.YtiejfnnokfedkaaDoor

/- The specification's DiskNew. No condition. -/
namespace Go.Proofs.YtiejfnnokfedkaaDoor
open Go.RowKit
set_option maxRecDepth 100000
set_option linter.unusedVariables false

set_option maxHeartbeats 1000000 in
set_option maxRecDepth 100000 in
theorem sl15Zeros_any (w : World) : Calls Tryd.prog 87 #[] w fun e w' => e = .returned (.string zeros64) ∧ Below w.heap.size w w' := by
  obtain ⟨i0, hi, hz0, hz1, hz2⟩ := info_parts Tryd.infoB
  go_enter Tryd.func87, Tryd.ntmps87
  go_wp2_with (at_make; refine wpList_mkn _ rfl (.const (.int .i64 64)) (.const (.int .i64 64)) 22 rfl 5 i0 .u8 Tryd.underlying22 hi hz0 hz1 64 64 64 rfl rfl rfl rfl (by rw [hz2]; omega) (by unfold maxLen; omega) ?_; intro w1 o1 b1)
  have hcv : (convert 22 9 (.slice (some ⟨w.heap.size, 0, none⟩) 64 64)).run Tryd.prog w1 = .ok (.string zeros64) w1 := conv_sl (o1.sl)
  have B1 := (show Hid (Below w.heap.size w w1) from b1)
  clear o1 b1
  go_wp2
  rw [hcv]
  go_wp2
  go_ret
  exact ⟨rfl, B1.out⟩

theorem sv_oneStr {w : World} {g : Nat} {s : ByteArray} {t : TypeId} (h : w.heap[g]? = some (.cells #[.string s] t (0, 0))) : Sv 1 w (.slice (some ⟨g, 0, none⟩) 1 1) (strCells [s]) := by
  obtain ⟨c0, _⟩ := rk_one h
  refine ⟨some ⟨g, 0, none⟩, 1, 1, rfl, rfl, Nat.le_refl _, by unfold maxLen; omega, (fun e => by cases e), fun i hi => ⟨g, 0, rfl, ?_⟩⟩
  have hi' : i < 1 := hi
  match i, hi' with
  | 0, _ => simpa [strCells] using c0

/-- While the texts of a new disk are laid: k of them are. -/
structure NewI (w : World) (k : Nat) (W : World) : Prop where
  cells : ∃ a n c, W.heap[w.heap.size + 1]? = some (.cells #[.slice a n c, .slice none 0 0] 34 (0, 0)) ∧ W.ownsRow w.heap.size 9 1 (.slice a n c) k (strCells (List.replicate k zeros64))
  res : W.heap[w.heap.size]? = some (.cells #[.slice none 0 0, .slice none 0 0] 34 (0, 0))
  bel : Below w.heap.size w W
set_option maxHeartbeats 1000000 in
set_option maxRecDepth 100000 in
theorem sdiskNew_any (w : World) : Calls Tryd.prog 88 #[] w fun e w' => ∃ v', e = .returned v' ∧ OwnDk w.heap.size w' v' newDk ∧ Below w.heap.size w w' := by
  obtain ⟨iS, hiS, hs0, hs1, hs2⟩ := info_parts Tryd.infoStr
  obtain ⟨W, hW⟩ : ∃ x, x = (w.alloc (.cells #[.slice none 0 0, .slice none 0 0] 34)).alloc (.cells #[.slice none 0 0, .slice none 0 0] 34) := ⟨_, rfl⟩
  have b1 : Below w.heap.size w W := by rw [hW]; exact ((Below.refl _ _).alloc (Nat.le_refl _) _).alloc (by simp) _
  have x1 : W.heap[w.heap.size]? = some (.cells #[.slice none 0 0, .slice none 0 0] 34 (0, 0)) := by rw [hW, Below.heap_alloc _ _ _ (by simp)]; exact World.alloc_heap_new _ _
  have x2 : W.heap[w.heap.size + 1]? = some (.cells #[.slice none 0 0, .slice none 0 0] 34 (0, 0)) := by
    rw [hW]
    have := World.alloc_heap_new (w.alloc (.cells #[.slice none 0 0, .slice none 0 0] 34)) (.cells #[.slice none 0 0, .slice none 0 0] 34)
    rwa [World.size_alloc] at this
  have I0 : Hid (NewI w 0 W) := ⟨⟨_, _, _, x2, World.ownsRow_nil _ _ _ _⟩, x1, b1⟩
  clear x1 x2 b1
  go_enter Tryd.func88, Tryd.ntmps88
  go_wp2
  rw [← hW]
  clear hW
  go_loopw [2] (fun i wr => ∃ k : Nat, k ≤ 130 ∧ i = .int .i64 k ∧ NewI w k wr) (fun i _ => 130 - (intOf i).toNat)
  case atStart => exact ⟨0, Nat.zero_le _, rfl, I0.out⟩
  case round =>
    clear I0
    obtain ⟨k, hk, rfl, hI⟩ := hrel
    have HI := (show Hid (NewI w k wr) from hI)
    obtain ⟨ao, n, c, x2, ow⟩ := hI.cells
    have hbs := hI.bel.size
    have hx1 := hI.res
    have HO := (show Hid (wr.ownsRow w.heap.size 9 1 (.slice ao n c) k (strCells (List.replicate k zeros64))) from ow)
    have HX := (show Hid (wr.heap[w.heap.size + 1]? = some (.cells #[.slice ao n c, .slice none 0 0] 34 (0, 0)) ∧ wr.heap[w.heap.size]? = some (.cells #[.slice none 0 0, .slice none 0 0] 34 (0, 0))) from ⟨x2, hx1⟩)
    obtain ⟨q1, q2, q3, q4⟩ := rk_two x2
    have hlx := lt_of_block x2
    clear hI x2 ow hx1
    by_cases hlt : k < 130
    · have CZ := (show Hid (∀ w, Calls Tryd.prog 87 #[] w fun e w' => e = .returned (.string zeros64) ∧ Below w.heap.size w w') from sl15Zeros_any)
      have bd : Below wr.heap.size wr wr.drew := below_drewN 1
      have BD := (show Hid (Below wr.heap.size wr wr.drew) from bd)
      clear bd
      go_wp2
      go_region_law (first
        | (go_simp
           go_at_call 87
           refine Calls.mono (CZ.out _) ?_
           rintro e w2 ⟨rfl, b2⟩
           have b3 : Below wr.heap.size wr w2 := BD.out.trans (b2.mono BD.out.size)
           have y2 := (b3.block _ (lt_of_block HX.out.1)).trans HX.out.1
           obtain ⟨m1, m2, m3, m4⟩ := rk_two y2
           have hl2 := lt_of_block y2
           have B3 := (show Hid (Below wr.heap.size wr w2) from b3)
           clear b2 b3 y2)
        | (with_reducible refine step_appS (w := w2.alloc (.cells #[.string zeros64] 9)) ?_ (.tmp 9) (.tmp 11) 31 ?_ w.heap.size 9 iS _ 1 16 ?_ hiS hs0 hs1 hs2 ?_ ?_ (.slice ao n c) k (strCells (List.replicate k zeros64)) ?_ ?_ (.slice (some ⟨w2.heap.size, 0, none⟩) 1 1) 1 (strCells [zeros64]) ?_ ?_ ?_ ?_ ?_ ?_ ?_ ?_
           · rfl
           · rfl
           · exact Tryd.underlying31
           · rfl
           · decide
           · simp [Act.eval]
           · exact ownsRow_below (ownsRow_below HO.out B3.out) ((Below.refl _ _).alloc (Nat.le_refl _) _)
           · simp [Act.eval]
           · exact sv_oneStr (World.alloc_heap_new w2 _)
           · rfl
           · exact str_oneCell _
           · (unfold maxLen; omega)
           · omega
           · (have := B3.out.size; rw [World.size_alloc]; omega)
           intro v9 w9 o9 g9
           have hO2 : (w2.alloc (.cells #[.string zeros64] 9)).ownsRow w.heap.size 9 1 (.slice ao n c) k (strCells (List.replicate k zeros64)) := ownsRow_below (ownsRow_below HO.out B3.out) ((Below.refl _ _).alloc (Nat.le_refl _) _)
           have b4 : Below wr.heap.size wr (w2.alloc (.cells #[.string zeros64] 9)) := B3.out.alloc B3.out.size _
           have y9 := rk_keep hO2 g9 ((b4.block _ (lt_of_block HX.out.1)).trans HX.out.1) (by decide)
           have z9 := rk_keep hO2 g9 ((b4.block _ (lt_of_block HX.out.2)).trans HX.out.2) (by decide)
           have b9 : Below w.heap.size w w9 := (HI.out.bel.trans (b4.mono HI.out.bel.size)).grown g9 (HI.out.bel.trans (b4.mono HI.out.bel.size)).size (fun r e => (World.ownsRow.lt hO2 r e).1)
           obtain ⟨a9, n9, c9, rfl⟩ := rk_slice o9
           obtain ⟨m1, m2, m3, m4⟩ := rk_two y9
           have HF := (show Hid (w9.ownsRow w.heap.size 9 1 (.slice a9 n9 c9) (k + 1) (strCells (List.replicate k zeros64) ++ strCells [zeros64]) ∧ w9.heap[w.heap.size + 1]? = some (.cells #[.slice ao n c, .slice none 0 0] 34 (0, 0)) ∧ w9.heap[w.heap.size]? = some (.cells #[.slice none 0 0, .slice none 0 0] 34 (0, 0)) ∧ Below w.heap.size w w9) from ⟨o9, y9, z9, b9⟩)
           clear hO2 b4 y9 z9 b9 o9 g9))
      all_goals go_wp2
      all_goals go_roundw
      all_goals first
        | (simp [intOf]; omega)
        | (obtain ⟨o9, y9, z9, b9⟩ := HF.out
           have x9 := rk_at (k := 0) (u := .slice a9 n9 c9) y9
           refine ⟨k + 1, by omega, by go_num, ⟨⟨_, _, _, x9, ?_⟩, (Below.heap_setCell _ _ _ _ (by simp)).trans z9, b9.setCell (p := ⟨w.heap.size + 1, 0, none⟩) (Nat.le_succ _) _⟩⟩
           rw [List.replicate_succ', strCells_app]
           exact rk_set o9 y9 (by decide))
    · have hke : k = 130 := by omega
      subst hke
      obtain ⟨r1, r2, r3, r4⟩ := rk_two HX.out.2
      go_wp2
      have z1 := rk_at (k := 0) (u := .slice ao n c) HX.out.2
      have z2 := rk_at (k := 1) (u := .slice none 0 0) z1
      (try simp only [Exit.inBlock, Exit.then])
      refine bodyPost_ret (results_cell_row rfl _ _ w.heap.size 34 #[.slice ao n c, .slice none 0 0] (0, 0) _ rfl z2 Tryd.underlying34 rfl rfl) rfl ?_
      refine ⟨_, rfl, ⟨_, _, _, _, _, _, rfl, rk_set (k := 1) (rk_set (k := 0) HO.out HX.out.2 (by decide)) z1 (by decide), World.ownsRow_nil _ _ _ _⟩, (HI.out.bel.setCell (p := ⟨w.heap.size, 0, none⟩) (Nat.le_refl _) _).setCell (p := ⟨w.heap.size, 1, none⟩) (Nat.le_refl _) _⟩
end Go.Proofs.YtiejfnnokfedkaaDoor

/- The contract of the draw of bytes: some bytes, in new memory. -/
namespace Go.Proofs.YtiejfnnokfedkaaDoor
open Go.RowKit
set_option maxRecDepth 100000
set_option linter.unusedVariables false

theorem Sl.take {K : IntKind} {w : World} {a : Addr} {n cap r : Nat} {xs : List Int} (h : Sl K w (.slice (some a) n cap) xs) (hr : r ≤ xs.length) : Sl K w (.slice (some a) r cap) (xs.take r) := by
  obtain ⟨a', c', e, hl, hm, hnn, ha⟩ := h
  cases e
  have hlen : (xs.take r).length = r := by simp; omega
  refine ⟨some a, cap, by rw [hlen], by omega, hm, (fun h => by cases h), fun k hk => ?_⟩
  obtain ⟨b, off, e, c⟩ := ha k (by omega)
  refine ⟨b, off, e, ?_⟩
  have e2 : (xs.take r).getD k 0 = xs.getD k 0 := by simp [List.getD_eq_getElem?_getD, show k < r by omega]
  rw [e2]; exact c

theorem put_byte (x : Int) : ∀ y ∈ put x, 0 ≤ y ∧ y ≤ 255 := by
  have := pt_ok x
  exact enc_byte this.1 this.2.1

/-- One number of a list that is written out. -/
theorem pickL_any {w0 : World} {g : Nat} {v : Value} {xs : List Int} {w : World} (h : Cur w0 g v xs w) (hb : ∀ x ∈ xs, 0 ≤ x ∧ x ≤ 255) (zs : List Int) (hz : 0 < zs.length) (hz2 : zs.length ≤ 1000) (cs : Array Value) (hcs : cs.toList = zs.map (Value.int .i64)) (n : Nat) (hn : n = zs.length) :
    Calls Tryd.prog 47 #[.pointer (some ⟨g, 0, none⟩), .slice (some ⟨w.heap.size, 0, none⟩) n n] (w.alloc (.cells cs 3)) fun e w' => ∃ x : Int, e = .returned (.int .i64 x) ∧ x ∈ zs ∧ Cur w0 g v xs w' ∧ w.grownBy w' (some g) := by
  have hsz : cs.size = zs.length := by have := congrArg List.length hcs; simpa using this
  have hown : Own w.heap.size 3 .i64 (w.alloc (.cells cs 3)) (.slice (some ⟨w.heap.size, 0, none⟩) n n) zs := by
    have h1 := World.ownsRow_lit (base := w.heap.size) (e := 3) (size := 1) w cs n (Nat.le_refl _) (by unfold maxLen; omega) (by omega)
    rw [hcs] at h1
    unfold Own
    rw [← hn]; exact h1
  refine (pick_any (h.below ((Below.refl _ _).alloc (Nat.le_refl _) _)) hb hown.sl hz hz2 (fun w' hg => (own_past hown hg h.lt).sl)).mono ?_
  rintro e w3 ⟨z, rfl, hz, k3, g3⟩
  exact ⟨z, rfl, hz, k3, grown_trans (World.grownBy_alloc _ _ _) g3⟩

end Go.Proofs.YtiejfnnokfedkaaDoor
