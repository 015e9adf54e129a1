/- The program's treeReader: fill. No condition. -/
import Derived.Test.YtogdbjafibejdaaGreatY47
import Derived.Test.YtogdbjafibejdaaGreatY42
import Derived.Test.YtogdbjafibejdaaGreatY38
import Derived.Test.YtogdbjafibejdaaGreatY23
namespace Go.Proofs.YtogdbjafibejdaaGreat
open Go.RowKit
set_option maxRecDepth 100000
set_option linter.unusedVariables false

theorem one_pairT (w : World) (n v : ByteArray) : Sv 2 (w.alloc (.cells #[.string n, .string v] 115)) (.slice (some ⟨w.heap.size, 0, none⟩) 1 1) (pairCells [(n, v)]) := by
  refine ⟨some ⟨w.heap.size, 0, none⟩, 1, 1, rfl, rfl, Nat.le_refl _, by unfold maxLen; omega, (fun e => by cases e), fun i hi => ⟨w.heap.size, 0, rfl, ?_⟩⟩
  have hi2 : i < 2 := hi
  have hb := World.alloc_heap_new w (.cells #[.string n, .string v] 115)
  rcases (show i = 0 ∨ i = 1 by omega) with rfl | rfl
  · simp only [World.cell?, hb]; rfl
  · simp only [World.cell?, hb]; rfl

structure FilFr (g P : Nat) (w w' : World) : Prop where
  os : w'.os = w.os
  tape : w'.tape = w.tape
  output : w'.output = w.output
  size : w.heap.size ≤ w'.heap.size
  block : ∀ j, j < w.heap.size → j ≠ g → j ≠ P → w'.heap[j]? = w.heap[j]?
theorem FilFr.refl {g P : Nat} (w : World) : FilFr g P w w := ⟨rfl, rfl, rfl, Nat.le_refl _, fun _ _ _ _ => rfl⟩
theorem FilFr.put {g P : Nat} {w w1 w2 : World} {row : Option Nat} (h : FilFr g P w w1) (k : w1.grownBy w2 row) (hr : ∀ r, row = some r → r = g ∨ r = P ∨ w.heap.size ≤ r) : FilFr g P w w2 :=
  ⟨k.os.trans h.os, k.tape.trans h.tape, k.output.trans h.output, Nat.le_trans h.size k.size, fun j hj h1 h2 => (k.block j (Nat.lt_of_lt_of_le hj h.size) (fun e => by rcases hr j e.symm with h3 | h3 | h3 <;> omega)).trans (h.block j hj h1 h2)⟩
theorem FilFr.below {g P B : Nat} {w w' : World} (h : FilFr g P w w') (hg : B ≤ g) (hP : B ≤ P) (hB : B ≤ w.heap.size) : Below B w w' := ⟨h.os, h.tape, h.output, h.size, fun j hj => h.block j (by omega) (by omega) (by omega)⟩
def FilE (xs : List Int) (nm : List ByteArray) (k i : Nat) (w0 : World) (g : Nat) (v nv a c : Value) (P : Nat) (w : World) (e : Ending) (w' : World) : Prop :=
  ((∃ n j av, rdFill xs nm true k i = some (n, j) ∧ e = .returned (.tuple #[]) ∧ RdrT w0 g v xs [nv, a, c] (j : Nat) w' ∧ w'.heap[P]? = some (.cells #[.int .i64 n.kind, .string n.name, av, .string n.text, .int .i64 0, .slice none 0 0] 36 (0, 0)) ∧ w'.ownsRow w.heap.size 115 2 av n.attrs.length (pairCells n.attrs)) ∨
    (rdFill xs nm true k i = none ∧ Bad e)) ∧ FilFr g P w w'
theorem RdrT.grew {w0 : World} {g : Nat} {v : Value} {xs : List Int} {tl : List Value} {i : Int} {w w' : World} {row : Option Nat} (h : RdrT w0 g v xs tl i w) (hg : w.grownBy w' row) (hr : ∀ r, row = some r → r ≠ g ∧ w0.heap.size ≤ r) : RdrT w0 g v xs tl i w' := by
  have hlt := h.lt
  obtain ⟨h1, h2, h3, h4, h5⟩ := h
  exact ⟨h1, h2, h3.grown hg h3.size (fun k hk => (hr k hk).2), h4, (hg.block g hlt (fun e => (hr g e.symm).1 rfl)).trans h5⟩
theorem fill_kind {B e size n : Nat} {w : World} {v : Value} {xs : List Value} (h : w.ownsRow B e size v n xs) : ∀ r, v.ownBlock = some r → B ≤ r ∧ r < w.heap.size ∧ ∃ cs fr, w.heap[r]? = some (.cells cs e fr) := fun r hr => by
  refine ⟨(World.ownsRow.lt h r hr).1, (World.ownsRow.lt h r hr).2, ?_⟩
  rcases h.2 with ⟨e, _⟩ | ⟨g', cap', cur, e, _, hh, _⟩
  · rw [e] at hr; cases hr
  · rw [e] at hr; cases hr; exact ⟨_, _, hh⟩
theorem fill_keep {B n : Nat} {w6 w9 : World} {u : Value} {xs : List Value} {o : Obj} {P : Nat} {cs : Array Value} (o6 : w6.ownsRow B 115 2 u n xs) (g9 : (w6.alloc o).grownBy w9 u.ownBlock) (gP : w6.heap[P]? = some (.cells cs 36 (0, 0))) : w9.heap[P]? = some (.cells cs 36 (0, 0)) := by
  have hl := blk_lt gP
  exact (g9.block P (by rw [World.size_alloc]; omega) (fun e => by obtain ⟨_, _, c, f, hh⟩ := fill_kind o6 P e.symm; rw [gP] at hh; cases hh)).trans ((Below.heap_alloc _ _ _ hl).trans gP)
theorem fill_end {w0 w w6 w9 : World} {g P : Nat} {v v9 nv a c u : Value} {xs : List Int} {j6 : Nat} {s sa sb : ByteArray} {acc : List (ByteArray × ByteArray)} (hgP : g ≠ P) (hP0 : w0.heap.size ≤ P) (hw0 : w0.heap.size ≤ w.heap.size) (r6 : RdrT w0 g v xs [nv, a, c] (j6 : Nat) w6) (F6 : FilFr g P w w6)
    (o6 : w6.ownsRow w.heap.size 115 2 u acc.length (pairCells acc)) (gP6 : w6.heap[P]? = some (.cells #[.int .i64 3, .string s, u, .string ⟨#[]⟩, .int .i64 0, .slice none 0 0] 36 (0, 0)))
    (o9 : w9.ownsRow w.heap.size 115 2 v9 (acc.length + 1) (pairCells acc ++ pairCells [(sa, sb)])) (g9 : (w6.alloc (.cells #[.string sa, .string sb] 115)).grownBy w9 u.ownBlock) :
    RdrT w0 g v xs [nv, a, c] (j6 : Nat) (w9.setCell ⟨P, 2, none⟩ v9) ∧ FilFr g P w (w9.setCell ⟨P, 2, none⟩ v9) ∧ (w9.setCell ⟨P, 2, none⟩ v9).heap[P]? = some (.cells #[.int .i64 3, .string s, v9, .string ⟨#[]⟩, .int .i64 0, .slice none 0 0] 36 (0, 0)) ∧ (w9.setCell ⟨P, 2, none⟩ v9).ownsRow w.heap.size 115 2 v9 (acc ++ [(sa, sb)]).length (pairCells (acc ++ [(sa, sb)])) := by
  have hk := fill_kind o6
  have ba : Below w6.heap.size w6 (w6.alloc (.cells #[.string sa, .string sb] 115)) := (Below.refl _ _).alloc (Nat.le_refl _) _
  have gP9 := fill_keep o6 g9 gP6
  have gs := grown_setCell w9 P 2 v9
  have r9 := (r6.below ba).grew g9 (fun r e => by
    obtain ⟨h1, h2, cc, ff, hh⟩ := hk r e
    refine ⟨fun er => ?_, by omega⟩
    subst er
    rw [r6.2.2.2.2] at hh
    cases hh)
  refine ⟨r9.grew gs (fun r e => by cases e; exact ⟨fun e => hgP e.symm, hP0⟩), ?_, setCell_at (k := 2) (u := v9) gP9, ?_⟩
  · exact ((F6.put (World.grownBy_alloc w6 _ none) (fun r e => by cases e)).put g9 (fun r e => .inr (.inr (hk r e).1))).put gs (fun r e => by cases e; exact .inr (.inl rfl))
  · rw [pairCells_app] at o9
    rw [List.length_append, List.length_singleton]
    exact kept_of_type o9 gs (fun r e => by cases e; exact ⟨_, _, _, gP9, by decide⟩)

set_option maxHeartbeats 8000000 in
set_option maxRecDepth 100000 in
theorem fillT_any {w0 w : World} {g B P : Nat} {v nv a c : Value} {xs : List Int} {nm : List ByteArray} {k i : Nat} (h : RdrT w0 g v xs [nv, a, c] (i : Nat) w) (hb : ∀ x ∈ xs, 0 ≤ x ∧ x ≤ 255) (hx : xs.length ≤ 20000) (hi : i ≤ xs.length) (o : OwnS B w nv nm) (hnl : nm.length ≤ 1000000000000) (hfs : FitS xs.length nm)
    (hP : w.heap[P]? = some (.cells #[.int .i64 (k : Int), .string ⟨#[]⟩, .slice none 0 0, .string ⟨#[]⟩, .int .i64 0, .slice none 0 0] 36 (0, 0))) (hP0 : w0.heap.size ≤ P) (hgP : g ≠ P) :
    Calls Tryz.prog 170 #[.pointer (some ⟨g, 0, none⟩), .pointer (some ⟨P, 0, none⟩)] w fun e w' => FilE xs nm k i w0 g v nv a c P w e w' := by
  have HB := (show Hid _ from hb)
  have HFS := (show Hid _ from hfs)
  have HR := (show Hid (RdrT w0 g v xs [nv, a, c] (i : Nat) w) from h)
  have hgl := h.lt
  have hPl := blk_lt hP
  have HP := (show Hid _ from hP)
  have hgh := h.2.2.2.2
  have HO := (show Hid (∀ W, FilFr g P w W → OwnS B W nv nm) from fun W fr => by
    rcases o.2 with ⟨rfl, h0⟩ | ⟨q, cap, cur, rfl, hB, hh, r1, r2, r3, r4⟩
    · exact ⟨o.1, .inl ⟨rfl, h0⟩⟩
    · exact ⟨o.1, .inr ⟨q, cap, cur, rfl, hB, (fr.block q (blk_lt hh) (fun e => by subst e; rw [hgh] at hh; cases hh) (fun e => by subst e; rw [hP] at hh; cases hh)).trans hh, r1, r2, r3, r4⟩⟩)
  have hw0 : w0.heap.size ≤ w.heap.size := h.2.2.1.size
  have h0g : w0.heap.size ≤ g := h.1
  obtain ⟨⟨n0, n1, n2, n3, n4, n5⟩, ⟨z0, z1, z2, z3, z4, z5⟩⟩ := six_at hP
  obtain ⟨c0, c1, c2, c3, c4, _, _, _⟩ := h.five
  obtain ⟨ia, hia, hza0, hza1, hza2⟩ := info_parts Tryz.infoAttrRow
  clear h hb hfs hP o hgh
  by_cases e1 : k = 1
  · subst e1
    have HF := (show Hid (rdFill xs nm true 1 i = some (⟨1, ⟨#[]⟩, [], ⟨#[]⟩, -1, []⟩, i)) from (by simp [rdFill] : rdFill xs nm true 1 i = some (⟨1, ⟨#[]⟩, [], ⟨#[]⟩, -1, []⟩, i)))
    go_enter Tryz.func170, Tryz.ntmps170
    go_wp2
    go_end0
    exact ⟨.inl ⟨_, _, _, HF.out, rfl, HR.out, HP.out, World.ownsRow_nil _ _ _ _⟩, FilFr.refl _⟩
  by_cases e2 : k = 2
  · subst e2
    have C := (show Hid _ from nameT_any HR.out HB.out (HO.out w (FilFr.refl _)) hnl)
    go_enter Tryz.func170, Tryz.ntmps170
    go_wp2_with fail
    go_at_call 197
    refine Calls.mono C.out ?_
    rintro e w2 ⟨⟨s, j, hs, rfl, r2⟩ | ⟨hs, ⟨t, s, rfl⟩, j, r2⟩, g2⟩
    rotate_left
    · have END := (show Hid (_ ∧ _) from And.intro (by simp [rdFill, hs] : rdFill xs nm true 2 i = none) ((FilFr.refl (g := g) (P := P) w).put g2 (fun r e => by cases e; exact .inl rfl)))
      clear hs r2 g2
      go_wp2
      exact ⟨rfl, .inr ⟨END.out.1, ⟨_, _, rfl⟩⟩, END.out.2⟩
    have gP2 := (g2.block P hPl (fun e => by cases e; exact hgP rfl)).trans HP.out
    have GP2 := (show Hid _ from gP2)
    have HF := (show Hid (rdFill xs nm true 2 i = some (⟨2, s, [], ⟨#[]⟩, -1, []⟩, j)) from (by simp [rdFill, hs] : rdFill xs nm true 2 i = some (⟨2, s, [], ⟨#[]⟩, -1, []⟩, j)))
    have gs := grown_setCell w2 P 1 (.string s)
    have END := (show Hid (_ ∧ _ ∧ _) from And.intro (r2.grew gs (fun r e => by cases e; exact ⟨fun e => hgP e.symm, hP0⟩)) (And.intro (setCell_at (k := 1) (u := .string s) gP2) (((FilFr.refl (g := g) (P := P) w).put g2 (fun r e => by cases e; exact .inl rfl)).put gs (fun r e => by cases e; exact .inr (.inl rfl)))))
    clear n0 n1 n2 n3 n4 n5 z0 z1 z2 z3 z4 z5 hs gs
    obtain ⟨⟨n0, n1, n2, n3, n4, n5⟩, ⟨z0, z1, z2, z3, z4, z5⟩⟩ := six_at gP2
    have hPl2 := blk_lt gP2
    clear r2 g2 gP2
    go_wp2
    go_end0
    exact ⟨.inl ⟨_, _, _, HF.out, rfl, END.out.1, END.out.2.1, World.ownsRow_nil _ _ _ _⟩, END.out.2.2⟩
  by_cases e4 : k = 4 ∨ k = 5
  · have C := (show Hid _ from xT_any HR.out HB.out)
    have hk2 : ((k : Int) == 2) = false := by simp; omega
    have hk1 : ((k : Int) == 1) = false := by simp; omega
    have hk3 : ((k : Int) == 3) = false := by simp; omega
    have hne3 : k ≠ 3 := by omega
    have E4 := (show Hid (k = 4 ∨ k = 5) from e4)
    have E2 := (show Hid (k ≠ 2 ∧ k ≠ 3) from ⟨e2, hne3⟩)
    have hk4 : ((k : Int) == 4) = true ∨ ((k : Int) == 4) = false ∧ ((k : Int) == 5) = true := by
      rcases e4 with e | e <;> subst e <;> simp
    clear e1 e2 e4 hne3
    have main : ∀ (b4 b5 : Bool), ((k : Int) == 4) = b4 → ((k : Int) == 5) = b5 → (b4 = true ∨ b5 = true) → Calls Tryz.prog 170 #[.pointer (some ⟨g, 0, none⟩), .pointer (some ⟨P, 0, none⟩)] w fun e w' => FilE xs nm k i w0 g v nv a c P w e w' := by
      intro b4 b5 h4 h5 hor
      clear hk4
      cases b4 <;> cases b5 <;> simp only [Bool.false_eq_true, or_self, or_true, or_false] at hor
      all_goals
        go_enter Tryz.func170, Tryz.ntmps170
        go_wp2_with fail
        go_at_call 137
        refine Calls.mono C.out ?_
        rintro e w2 ⟨⟨s, j, hs, rfl, r2⟩ | ⟨hs, ⟨t, s, rfl⟩, j, r2⟩, g2⟩
        rotate_left
        · have END := (show Hid (_ ∧ _) from And.intro (by unfold rdFill; rw [if_neg E2.out.1, if_neg E2.out.2, if_pos E4.out, hs] : rdFill xs nm true k i = none) ((FilFr.refl (g := g) (P := P) w).put g2 (fun r e => by cases e; exact .inl rfl)))
          clear hs r2 g2
          go_wp2
          exact ⟨rfl, .inr ⟨END.out.1, ⟨_, _, rfl⟩⟩, END.out.2⟩
        have gP2 := (g2.block P hPl (fun e => by cases e; exact hgP rfl)).trans HP.out
        have HF := (show Hid (rdFill xs nm true k i = some (⟨k, ⟨#[]⟩, [], s, -1, []⟩, j)) from (by unfold rdFill; rw [if_neg E2.out.1, if_neg E2.out.2, if_pos E4.out, hs] : rdFill xs nm true k i = some (⟨k, ⟨#[]⟩, [], s, -1, []⟩, j)))
        have gs := grown_setCell w2 P 3 (.string s)
        have END := (show Hid (_ ∧ _ ∧ _) from And.intro (r2.grew gs (fun r e => by cases e; exact ⟨fun e => hgP e.symm, hP0⟩)) (And.intro (setCell_at (k := 3) (u := .string s) gP2) (((FilFr.refl (g := g) (P := P) w).put g2 (fun r e => by cases e; exact .inl rfl)).put gs (fun r e => by cases e; exact .inr (.inl rfl)))))
        clear n0 n1 n2 n3 n4 n5 z0 z1 z2 z3 z4 z5 hs gs
        obtain ⟨⟨n0, n1, n2, n3, n4, n5⟩, ⟨z0, z1, z2, z3, z4, z5⟩⟩ := six_at gP2
        have hPl2 := blk_lt gP2
        clear r2 g2 gP2
        go_wp2
        go_end0
        exact ⟨.inl ⟨_, _, _, HF.out, rfl, END.out.1, END.out.2.1, World.ownsRow_nil _ _ _ _⟩, END.out.2.2⟩
    exact main _ _ rfl rfl (by rcases hk4 with h | h; exact .inl h; exact .inr h.2)
  by_cases e3 : k = 3
  rotate_left
  · have hk1 : ((k : Int) == 1) = false := by simp; omega
    have hk2 : ((k : Int) == 2) = false := by simp; omega
    have hk3 : ((k : Int) == 3) = false := by simp; omega
    have hk4 : ((k : Int) == 4) = false := by simp; omega
    have hk5 : ((k : Int) == 5) = false := by simp; omega
    have HF := (show Hid (rdFill xs nm true k i = none) from (by unfold rdFill; rw [if_neg e2, if_neg e3, if_neg e4, if_pos ⟨rfl, e1⟩] : rdFill xs nm true k i = none))
    clear e1 e2 e3 e4
    go_enter Tryz.func170, Tryz.ntmps170
    go_wp2
    exact ⟨rfl, .inr ⟨HF.out, ⟨_, _, rfl⟩⟩, FilFr.refl _⟩
  subst e3
  clear e1 e2 e4
  have C := (show Hid _ from nameT_any HR.out HB.out (HO.out w (FilFr.refl _)) hnl)
  go_enter Tryz.func170, Tryz.ntmps170
  go_wp2_with fail
  go_at_call 197
  refine Calls.mono C.out ?_
  rintro e w2 ⟨⟨s, j2, hs, rfl, r2⟩ | ⟨hs, ⟨t, s, rfl⟩, j, r2⟩, g2⟩
  rotate_left
  · have END := (show Hid (_ ∧ _) from And.intro (by simp [rdFill, hs] : rdFill xs nm true 3 i = none) ((FilFr.refl (g := g) (P := P) w).put g2 (fun r e => by cases e; exact .inl rfl)))
    clear hs r2 g2
    go_wp2
    exact ⟨rfl, .inr ⟨END.out.1, ⟨_, _, rfl⟩⟩, END.out.2⟩
  have gP2 := (g2.block P hPl (fun e => by cases e; exact hgP rfl)).trans HP.out
  have hs2 := rdM_some hs HB.out
  have HM := (show Hid (rdM xs nm i = some (s, j2)) from hs)
  have gs := grown_setCell w2 P 1 (.string s)
  have f2 := (FilFr.refl (g := g) (P := P) w).put g2 (fun r e => by cases e; exact .inl rfl)
  obtain ⟨w3, hw3⟩ : ∃ z, z = w2.setCell ⟨P, 1, none⟩ (.string s) := ⟨_, rfl⟩
  have R3 := (show Hid (RdrT w0 g v xs [nv, a, c] (j2 : Nat) w3) from (by rw [hw3]; exact r2.grew gs (fun r e => by cases e; exact ⟨fun e => hgP e.symm, hP0⟩) : RdrT w0 g v xs [nv, a, c] (j2 : Nat) w3))
  have P3 := (show Hid (w3.heap[P]? = some (.cells #[.int .i64 3, .string s, .slice none 0 0, .string ⟨#[]⟩, .int .i64 0, .slice none 0 0] 36 (0, 0))) from (by rw [hw3]; exact setCell_at (k := 1) (u := .string s) gP2 : w3.heap[P]? = some (.cells #[.int .i64 3, .string s, .slice none 0 0, .string ⟨#[]⟩, .int .i64 0, .slice none 0 0] 36 (0, 0))))
  have F3 := (show Hid (FilFr g P w w3) from (by rw [hw3]; exact f2.put gs (fun r e => by cases e; exact .inr (.inl rfl)) : FilFr g P w w3))
  clear n0 n1 n2 n3 n4 n5 z0 z1 z2 z3 z4 z5 hs gs f2 c0 c1 c2 c3 c4
  obtain ⟨⟨n0, n1, n2, n3, n4, n5⟩, ⟨z0, z1, z2, z3, z4, z5⟩⟩ := six_at gP2
  have hPl2 := blk_lt gP2
  clear r2 g2 gP2
  go_upto_region 7 with fail
  rw [← hw3]
  clear hw3 n0 n1 n2 n3 n4 n5 z0 z1 z2 z3 z4 z5 hPl2
  have C3 := (show Hid _ from pT_any R3.out HB.out)
  obtain ⟨c0, c1, c2, c3, c4, _, _, _⟩ := R3.out.five
  have hgl3 := R3.out.lt
  go_wp2_with fail
  go_at_call 136
  refine Calls.mono C3.out ?_
  rintro e w4 ⟨⟨m, j4, hm, rfl, r4⟩ | ⟨hm, ⟨t, s, rfl⟩, j, r4⟩, g4⟩
  rotate_left
  · have END := (show Hid (_ ∧ _) from And.intro (by simp [rdFill, HM.out, hm] : rdFill xs nm true 3 i = none) (F3.out.put g4 (fun r e => by cases e; exact .inl rfl)))
    clear hm r4 g4
    go_wp2
    exact ⟨rfl, .inr ⟨END.out.1, ⟨_, _, rfl⟩⟩, END.out.2⟩
  have hk4 := rdP_some hm HB.out
  have HF := (show Hid (rdFill xs nm true 3 i = (rdAs xs nm (xs.length + 1 - j4) m j4 []).map (fun q => (⟨3, s, q.1, ⟨#[]⟩, -1, []⟩, q.2))) from (by simp only [rdFill, HM.out, hm]; rcases rdAs xs nm (xs.length + 1 - j4) m j4 [] with _ | ⟨rs, q⟩ <;> rfl : rdFill xs nm true 3 i = (rdAs xs nm (xs.length + 1 - j4) m j4 []).map (fun q => (⟨3, s, q.1, ⟨#[]⟩, -1, []⟩, q.2))))
  have S4 := (show Hid (RdrT w0 g v xs [nv, a, c] (j4 : Nat) w4 ∧ FilFr g P w w4 ∧ w4.heap[P]? = some (.cells #[.int .i64 3, .string s, .slice none 0 0, .string ⟨#[]⟩, .int .i64 0, .slice none 0 0] 36 (0, 0))) from ⟨r4, F3.out.put g4 (fun r e => by cases e; exact .inl rfl), (g4.block P (blk_lt P3.out) (fun e => by cases e; exact hgP rfl)).trans P3.out⟩)
  clear hm r4 g4 R3 P3 F3 C C3 c0 c1 c2 c3 c4 hgl3
  go_upto_region 8 with fail
  go_loopw [29] (fun o wr => ∃ (q j : Nat) (acc : List (ByteArray × ByteArray)) (u1 : Option Addr) (u2 u3 : Nat), q ≤ m ∧ o = .int .i64 (q : Int) ∧ Hid (RdrT w0 g v xs [nv, a, c] (j : Nat) wr ∧ FilFr g P w wr ∧ wr.heap[P]? = some (.cells #[.int .i64 3, .string s, .slice u1 u2 u3, .string ⟨#[]⟩, .int .i64 0, .slice none 0 0] 36 (0, 0)) ∧ wr.ownsRow w.heap.size 115 2 (.slice u1 u2 u3) acc.length (pairCells acc) ∧ ∃ f, rdAs xs nm f (m - q) j acc = rdAs xs nm (xs.length + 1 - j4) m j4 [] ∧ xs.length < f + j ∧ j ≤ xs.length ∧ acc.length ≤ j)) (fun o _ => m - (intOf o).toNat)
  case atStart => exact ⟨0, j4, [], none, 0, 0, Nat.zero_le _, rfl, S4.out.1, S4.out.2.1, S4.out.2.2, World.ownsRow_nil _ _ _ _, _, rfl, by omega, hk4.2.1, Nat.zero_le _⟩
  case round =>
    clear S4
    obtain ⟨q, j, acc, u1, u2, u3, hq, rfl, J⟩ := hrel
    by_cases hqm : q < m
    rotate_left
    · obtain rfl : q = m := by omega
      have HN := (show Hid (rdFill xs nm true 3 i = some (⟨3, s, acc, ⟨#[]⟩, -1, []⟩, j)) from (by
        obtain ⟨f, h, _⟩ := J.out.2.2.2.2
        rw [HF.out, ← h, Nat.sub_self]
        cases f <;> rfl : rdFill xs nm true 3 i = some (⟨3, s, acc, ⟨#[]⟩, -1, []⟩, j)))
      go_wp2
      go_end0
      exact ⟨.inl ⟨_, _, _, HN.out, rfl, J.out.1, J.out.2.2.1, J.out.2.2.2.1⟩, J.out.2.1⟩
    have hqi : (q : Int) < (m : Int) := by omega
    have HFJ := (show Hid _ from J.out.2.2.2.2)
    have hal : acc.length ≤ xs.length := by obtain ⟨f, _, _, h1, h2⟩ := HFJ.out; omega
    obtain ⟨⟨n0, n1, n2, n3, n4, n5⟩, ⟨z0, z1, z2, z3, z4, z5⟩⟩ := six_at J.out.2.2.1
    have hPr := blk_lt J.out.2.2.1
    obtain ⟨c0, c1, c2, c3, c4, _, _, _⟩ := J.out.1.five
    have hgr := J.out.1.lt
    have hwr : w.heap.size ≤ wr.heap.size := J.out.2.1.size
    have HGH := (show Hid _ from J.out.1.2.2.2.2)
    have FD := (show Hid (FilFr g P w (wr.drewN 1)) from J.out.2.1.put (grown_drewN wr 1 none) (fun r e => by cases e))
    have CN := (show Hid (Calls Tryz.prog 197 #[.pointer (some ⟨g, 0, none⟩)] (wr.drewN 1) _) from nameT_any (J.out.1.drewN 1) HB.out (HO.out _ FD.out) hnl)
    have CT := (show Hid (∀ W (j5 : Nat), RdrT w0 g v xs [nv, a, c] (j5 : Nat) W → Calls Tryz.prog 137 #[.pointer (some ⟨g, 0, none⟩)] W _) from fun W j5 r => xT_any r HB.out)
    have OJ := (show Hid _ from J.out.2.2.2.1)
    have GP := (show Hid _ from J.out.2.2.1)
    clear J
    go_wp2_with fail
    go_region_law (first
      | (with_reducible refine step_appS (w := w6.alloc (Obj.cells #[.string sa, .string sb] 115)) ?_ (.tmp 35) (.tmp 43) 33 ?_ w.heap.size 115 ia _ 2 32 ?_ hia hza0 hza1 hza2 ?_ ?_ (.slice u1 u2 u3) acc.length (pairCells acc) ?_ ?_ (.slice (some ⟨w6.heap.size, 0, none⟩) 1 1) 1 (pairCells [(sa, sb)]) ?_ ?_ ?_ ?_ ?_ ?_ ?_ ?_
         · rfl
         · rfl
         · exact Tryz.underlying33
         · rfl
         · decide
         · simp [Act.eval]
         · exact O6.out
         · simp [Act.eval]
         · exact one_pairT w6 sa sb
         · rfl
         · exact pair_oneCell _
         · (unfold maxLen; omega)
         · omega
         · exact Nat.le_trans F6.out.size (by simp)
         intro v9 w9 o9 g9
         obtain ⟨e1, e2, e3, rfl⟩ := own_slice o9
         have R9 := (show Hid _ from HE.out _ _ o9 g9)
         have gP9 := HEP.out _ g9
         clear n0 n1 n2 n3 n4 n5 z0 z1 z2 z3 z4 z5
         obtain ⟨⟨n0, n1, n2, n3, n4, n5⟩, ⟨z0, z1, z2, z3, z4, z5⟩⟩ := six_at gP9
         clear o9 g9 gP9)
      | (go_simp
         refine Calls.mono CN.out ?_
         rintro e w5 ⟨⟨sa, j5, hs5, rfl, r5⟩ | ⟨hs5, ⟨t5, s5, rfl⟩, jj5, r5⟩, g5⟩
         rotate_left
         · have HN := (show Hid (rdFill xs nm true 3 i = none) from (by
             obtain ⟨f, h, hf, hj, _⟩ := HFJ.out
             obtain ⟨f', rfl⟩ : ∃ f', f = f' + 1 := ⟨f - 1, by omega⟩
             obtain ⟨p, hp⟩ : ∃ p, m - q = p + 1 := ⟨m - q - 1, by omega⟩
             rw [HF.out, ← h, hp]
             simp [rdAs, hs5] : rdFill xs nm true 3 i = none))
           exact ⟨rfl, .inr ⟨HN.out, ⟨_, _, rfl⟩⟩, FD.out.put g5 (fun r e => by cases e; exact .inl rfl)⟩
         have hk5 := rdM_some hs5 HB.out
         have H5 := (show Hid (rdM xs nm j = some (sa, j5)) from hs5)
         have R5 := (show Hid _ from r5)
         have F5 := (show Hid (FilFr g P w w5) from FD.out.put g5 (fun r e => by cases e; exact .inl rfl))
         have gP5 := (g5.block P hPr (fun e => by cases e; exact hgP rfl)).trans GP.out
         have GP5 := (show Hid _ from gP5)
         have O5 := (show Hid (w5.ownsRow w.heap.size 115 2 (.slice u1 u2 u3) acc.length (pairCells acc)) from kept_of_type OJ.out (grown_trans (grown_drewN wr 1 (some g)) g5) (fun r e => by cases e; exact ⟨_, _, _, HGH.out, by decide⟩))
         clear n0 n1 n2 n3 n4 n5 z0 z1 z2 z3 z4 z5 c0 c1 c2 c3 c4
         obtain ⟨⟨n0, n1, n2, n3, n4, n5⟩, ⟨z0, z1, z2, z3, z4, z5⟩⟩ := six_at gP5
         obtain ⟨c0, c1, c2, c3, c4, _, _, _⟩ := r5.five
         clear r5 g5 gP5 hs5)
      | (go_simp
         refine Calls.mono (CT.out _ _ R5.out) ?_
         rintro e w6 ⟨⟨sb, j6, hs6, rfl, r6⟩ | ⟨hs6, ⟨t6, s6, rfl⟩, j6, r6⟩, g6⟩
         rotate_left
         · have HN := (show Hid (rdFill xs nm true 3 i = none) from (by
             obtain ⟨f, h, hf, hj, _⟩ := HFJ.out
             obtain ⟨f', rfl⟩ : ∃ f', f = f' + 1 := ⟨f - 1, by omega⟩
             obtain ⟨p, hp⟩ : ∃ p, m - q = p + 1 := ⟨m - q - 1, by omega⟩
             rw [HF.out, ← h, hp]
             simp [rdAs, H5.out, hs6] : rdFill xs nm true 3 i = none))
           exact ⟨rfl, .inr ⟨HN.out, ⟨_, _, rfl⟩⟩, F5.out.put g6 (fun r e => by cases e; exact .inl rfl)⟩
         have hk6 := rdX_some hs6 HB.out
         have HN := (show Hid (∃ f, rdAs xs nm f (m - (q + 1)) j6 (acc ++ [(sa, sb)]) = rdAs xs nm (xs.length + 1 - j4) m j4 [] ∧ xs.length < f + j6 ∧ j6 ≤ xs.length ∧ (acc ++ [(sa, sb)]).length ≤ j6) from (by
           obtain ⟨f, h, hf, hj, hl⟩ := HFJ.out
           obtain ⟨f', rfl⟩ : ∃ f', f = f' + 1 := ⟨f - 1, by omega⟩
           obtain ⟨p, hp⟩ : ∃ p, m - q = p + 1 := ⟨m - q - 1, by omega⟩
           have hq2 : m - (q + 1) = p := by omega
           rw [hp, rdAs, H5.out] at h
           simp only at h
           rw [hs6] at h
           simp only at h
           refine ⟨f', by rw [hq2]; exact h, by omega, by omega, by rw [List.length_append, List.length_singleton]; omega⟩ : ∃ f, rdAs xs nm f (m - (q + 1)) j6 (acc ++ [(sa, sb)]) = rdAs xs nm (xs.length + 1 - j4) m j4 [] ∧ xs.length < f + j6 ∧ j6 ≤ xs.length ∧ (acc ++ [(sa, sb)]).length ≤ j6))
         have F6 := (show Hid (FilFr g P w w6) from F5.out.put g6 (fun r e => by cases e; exact .inl rfl))
         have gP6 := (g6.block P (blk_lt GP5.out) (fun e => by cases e; exact hgP rfl)).trans GP5.out
         have o6 : w6.ownsRow w.heap.size 115 2 (.slice u1 u2 u3) acc.length (pairCells acc) := kept_of_type O5.out g6 (fun r e => by cases e; exact ⟨_, _, _, R5.out.2.2.2.2, by decide⟩)
         have O6 := (show Hid _ from ownsRow_below o6 ((Below.refl w6.heap.size w6).alloc (Nat.le_refl _) (.cells #[.string sa, .string sb] 115)))
         have HEP := (show Hid (∀ w9, (w6.alloc (.cells #[.string sa, .string sb] 115)).grownBy w9 (Value.slice u1 u2 u3).ownBlock → w9.heap[P]? = some (.cells #[.int .i64 3, .string s, .slice u1 u2 u3, .string ⟨#[]⟩, .int .i64 0, .slice none 0 0] 36 (0, 0))) from fun w9 g9 => fill_keep o6 g9 gP6)
         have HE := (show Hid (∀ w9 v9, w9.ownsRow w.heap.size 115 2 v9 (acc.length + 1) (pairCells acc ++ pairCells [(sa, sb)]) → (w6.alloc (.cells #[.string sa, .string sb] 115)).grownBy w9 (Value.slice u1 u2 u3).ownBlock → RdrT w0 g v xs [nv, a, c] (j6 : Nat) (w9.setCell ⟨P, 2, none⟩ v9) ∧ FilFr g P w (w9.setCell ⟨P, 2, none⟩ v9) ∧ (w9.setCell ⟨P, 2, none⟩ v9).heap[P]? = some (.cells #[.int .i64 3, .string s, v9, .string ⟨#[]⟩, .int .i64 0, .slice none 0 0] 36 (0, 0)) ∧ (w9.setCell ⟨P, 2, none⟩ v9).ownsRow w.heap.size 115 2 v9 (acc ++ [(sa, sb)]).length (pairCells (acc ++ [(sa, sb)]))) from fun w9 v9 o9 g9 => fill_end hgP hP0 hw0 r6 F6.out o6 gP6 o9 g9)
         clear n0 n1 n2 n3 n4 n5 z0 z1 z2 z3 z4 z5 c0 c1 c2 c3 c4
         obtain ⟨⟨n0, n1, n2, n3, n4, n5⟩, ⟨z0, z1, z2, z3, z4, z5⟩⟩ := six_at gP6
         obtain ⟨c0, c1, c2, c3, c4, _, _, _⟩ := r6.five
         have nA2 := fun X => (((Below.refl w6.heap.size w6).alloc (Nat.le_refl _) X).cell (p := ⟨P, 2, none⟩) (blk_lt gP6)).trans n2
         clear r6 g6 gP6 hs6 o6))
    all_goals go_wp2
    all_goals go_roundw
    all_goals first
      | exact ⟨q + 1, j6, acc ++ [(sa, sb)], e1, e2, e3, by omega, by go_num, R9.out.1, R9.out.2.1, R9.out.2.2.1, R9.out.2.2.2, HN.out⟩
      | (simp [intOf]; omega)
end Go.Proofs.YtogdbjafibejdaaGreat
