/- The specification's cutter: an attribute (written by mk/scut3.py). No condition. -/
import Derived.Test.YtggfifchkecnjaaGreatDoorY37
import Derived.Test.YtggfifchkecnjaaGreatDoorY39
import Derived.Test.YtggfifchkecnjaaGreatDoorY5
import Derived.StillTailTactics
import Derived.Test.YtggfifchkecnjaaGreatDoorY33
import Derived.Test.YtggfifchkecnjaaGreatDoorY17
namespace Go.Proofs.YtggfifchkecnjaaGreatDoor
open Go.RowKit
set_option maxRecDepth 100000
set_option linter.unusedVariables false

theorem quiet_w {P : Program} {f : FuncId} {args : Array Value} {w1 : World} {n : One w1} {v : Value} (h : Calls P f args n.w fun e w' => e = .returned v ∧ w' = n.w) : Calls P f args n.w fun e w' => e = .returned v ∧ ∃ n : One w1, w' = n.w :=
  h.mono (fun e w' ⟨he, hw⟩ => ⟨he, n, hw⟩)
structure SPage (w : World) (v : Value) (xs ys : List Int) : Prop where
  sl : Sl .i64 w v xs
  few : xs.length ≤ 3000
  ys : ys = xs.map clean
theorem SPage.below {w w' : World} {v : Value} {xs ys : List Int} (h : SPage w v xs ys) (b : Below w.heap.size w w') : SPage w' v xs ys := ⟨h.sl.below b, h.few, h.ys⟩
theorem SPage.len {w : World} {v : Value} {xs ys : List Int} (h : SPage w v xs ys) : ys.length = xs.length := by rw [h.ys, List.length_map]
theorem SPage.at' {w : World} {v : Value} {xs ys : List Int} (h : SPage w v xs ys) (k : Nat) : Calls Tryz.prog 43 #[v, .int .i64 k] w fun e w' => e = .returned (.int .i64 (atL ys k)) ∧ w' = w := by
  rw [h.ys]; exact l5At_any h.sl k h.few
theorem SPage.skip {w : World} {v : Value} {xs ys : List Int} (h : SPage w v xs ys) (k : Nat) : Calls Tryz.prog 88 #[v, .int .i64 k] w fun e w' => e = .returned (.int .i64 (skipB ys k)) ∧ w' = w := l5Blanks_any h.sl h.ys k h.few
theorem SPage.until' {w : World} {v : Value} {xs ys : List Int} (h : SPage w v xs ys) (k : Nat) (hk : k ≤ 5000) (bl : Bool) (a b d : Int) {p : Int → Bool} (hp : ∀ x, untilP bl a b d x = p x) : Calls Tryz.prog 86 #[v, .int .i64 k, .bool bl, .int .i64 a, .int .i64 b, .int .i64 d] w fun e w' => e = .returned (.int .i64 (upTo p ys k)) ∧ w' = w := by
  rw [← upTo_congr hp]; exact l5Until_any h.sl h.ys k hk bl a b d h.few
theorem SPage.low {w : World} {v : Value} {xs ys : List Int} (h : SPage w v xs ys) (i j : Nat) (hij : i ≤ j) (hj : j ≤ ys.length) : Calls Tryz.prog 94 #[v, .int .i64 i, .int .i64 j, .bool true] w fun e w' => e = .returned (.string (lowOf ys i j)) ∧ Below w.heap.size w w' := l5Text_any h.sl h.ys i j hij hj true h.few
theorem SPage.txt {w : World} {v : Value} {xs ys : List Int} (h : SPage w v xs ys) (i j : Nat) (hij : i ≤ j) (hj : j ≤ ys.length) : Calls Tryz.prog 94 #[v, .int .i64 i, .int .i64 j, .bool false] w fun e w' => e = .returned (.string (txtOf ys i j)) ∧ Below w.heap.size w w' := by
  rw [← part_txt]; exact l5Text_any h.sl h.ys i j hij hj false h.few
theorem SPage.name {w : World} {v : Value} {xs ys : List Int} (h : SPage w v xs ys) (i j : Nat) (hij : i ≤ j) (hj : j ≤ ys.length) : Calls Tryz.prog 87 #[v, .int .i64 i, .int .i64 j] w fun e w' => e = .returned (.string (shortOf ys i j)) ∧ Below w.heap.size w w' := l5Name_any h.sl h.ys i j hij hj h.few
theorem attr_res {f : Func} {p q : Tmp} (hf : f.results = #[.cell p 81, .tmp q]) {tmps : Array Value} {w : World} {b : Nat} {x y : ByteArray} {u : Value} (h4 : tmps.getD p undef = .pointer (some ⟨b, 0, none⟩)) (h5 : tmps.getD q undef = u) (hb : w.heap[b]? = some (.cells #[.string x, .string y] 81 (0, 0))) :
    (results f tmps).run Tryz.prog w = .ok (.tuple #[.agg #[.string x, .string y], u]) w := by
  rw [results_cell_tmp (p := p) (u := q) (ty := 81) hf, h4, h5]
  simp [asAddr, run_loadVar_row w b 81 81 #[.string x, .string y] (0, 0) _ hb Tryz.underlying81 rfl rfl, Result.andThen]
structure TwoA (w : World) (R A : Nat) (nm va : ByteArray) (wr : World) : Prop where
  bel : Below w.heap.size w wr
  r : wr.heap[R]? = some (.cells #[.string ⟨#[]⟩, .string ⟨#[]⟩] 81 (0, 0))
  a : wr.heap[A]? = some (.cells #[.string nm, .string va] 81 (0, 0))
  lt : R < A
  ge : w.heap.size ≤ R
theorem TwoA.below {w wr wr' : World} {R A : Nat} {nm va : ByteArray} (h : TwoA w R A nm va wr) (b : Below wr.heap.size wr wr') : TwoA w R A nm va wr' := ⟨h.bel.trans (b.mono h.bel.size), (b.block _ (lt_of_block h.r)).trans h.r, (b.block _ (lt_of_block h.a)).trans h.a, h.lt, h.ge⟩
theorem TwoA.val {w wr : World} {R A : Nat} {nm va : ByteArray} (h : TwoA w R A nm va wr) (x : ByteArray) : TwoA w R A nm x (wr.setCell ⟨A, 1, none⟩ (.string x)) :=
  ⟨h.bel.setCell (p := ⟨A, 1, none⟩) (Nat.le_of_lt (Nat.lt_of_le_of_lt h.ge h.lt)) _, (Below.heap_setCell _ _ _ R (show R ≠ A by have := h.lt; omega)).trans h.r, setCell_at (k := 1) h.a, h.lt, h.ge⟩
theorem TwoA.out {w wr : World} {R A : Nat} {nm va : ByteArray} (h : TwoA w R A nm va wr) : ((wr.setCell ⟨R, 0, none⟩ (.string nm)).setCell ⟨R, 1, none⟩ (.string va)).heap[R]? = some (.cells #[.string nm, .string va] 81 (0, 0)) ∧ Below w.heap.size w ((wr.setCell ⟨R, 0, none⟩ (.string nm)).setCell ⟨R, 1, none⟩ (.string va)) :=
  ⟨setCell_at (k := 1) (setCell_at (k := 0) h.r), (h.bel.setCell (p := ⟨R, 0, none⟩) h.ge _).setCell (p := ⟨R, 1, none⟩) h.ge _⟩

set_option maxHeartbeats 1000000 in
theorem l5One_any {v : Value} {xs ys : List Int} {w : World} (h : SPage w v xs ys) (i : Nat) (hi : i < ys.length) :
    Calls Tryz.prog 90 #[v, .int .i64 i] w fun e w' => e = .returned (.tuple #[.agg #[.string (attrM ys i).1.1, .string (attrM ys i).1.2], .int .i64 ((attrM ys i).2 : Nat)]) ∧ Below w.heap.size w w' := by
  have hlen := h.len
  have hyl : ys.length ≤ 3000 := by rw [hlen]; exact h.few
  have HP := (show Hid (∀ W, Below w.heap.size w W → SPage W v xs ys) from fun W b => h.below b)
  obtain ⟨va, vc, rfl, _⟩ := h.sl
  obtain ⟨e1, he1⟩ : ∃ z, z = upTo endAttr ys (i + 1) := ⟨_, rfl⟩
  obtain ⟨nm, hnm⟩ : ∃ z, z = lowOf ys i e1 := ⟨_, rfl⟩
  obtain ⟨j, hj⟩ : ∃ z, z = skipB ys e1 := ⟨_, rfl⟩
  have hie : i ≤ e1 := by rw [he1]; have := upTo_ge endAttr ys (i + 1); omega
  have hel : e1 ≤ ys.length := by rw [he1]; exact upTo_le hi
  have hjl : j ≤ ys.length := by rw [hj]; exact (skip_le hel).2
  obtain ⟨aM, haM⟩ : ∃ z, z = attrM ys i := ⟨_, rfl⟩
  rw [← haM]
  have HA := (show Hid (aM = if atL ys j = 61 then ((nm, (valM ys (skipB ys (j + 1))).1), (valM ys (skipB ys (j + 1))).2) else ((nm, ⟨#[]⟩), j)) from (show _ = _ by rw [haM]; unfold attrM; simp only; rw [← he1, ← hj, ← hnm]))
  have HE1 := (show Hid (upTo endAttr ys (i + 1) = e1) from he1.symm)
  have HNM := (show Hid (lowOf ys i e1 = nm) from hnm.symm)
  have HJ := (show Hid (skipB ys e1 = j) from hj.symm)
  have hw1 : IntKind.i64.wrap ((i : Int) + 1) = ((i + 1 : Nat) : Int) := by rw [wrap_fit (by omega) (by omega)]; omega
  obtain ⟨w1, hw1'⟩ : ∃ z, z = w.alloc (.cells #[.string ⟨#[]⟩, .string ⟨#[]⟩] 81) := ⟨_, rfl⟩
  have B1 := (show Hid (Below w.heap.size w w1) from by rw [hw1']; exact (Below.refl _ _).alloc (Nat.le_refl _) _)
  have GR := (show Hid (w1.heap[w.heap.size]? = some (.cells #[.string ⟨#[]⟩, .string ⟨#[]⟩] 81 (0, 0))) from (show w1.heap[w.heap.size]? = _ by rw [hw1']; exact heap_alloc_new _ _))
  clear h haM he1 hnm hj
  go_enter Tryz.func90, Tryz.ntmps90
  go_upto_region 1 with fail
  rw [← hw1']
  clear hw1'
  go_wp2_with fail
  go_at_call 86
  refine ((HP.out w1 B1.out).until' (i + 1) (by omega) true 47 62 61 until_attr).mono ?_
  rintro e w2 ⟨rfl, rfl⟩
  rw [HE1.out]
  go_wp2_with fail
  go_at_call 94
  refine ((HP.out w2 B1.out).low i e1 hie hel).mono ?_
  rintro e w3 ⟨rfl, b3⟩
  rw [HNM.out]
  obtain ⟨w4, hw4⟩ : ∃ z, z = w3.alloc (.cells #[.string nm, .string ⟨#[]⟩] 81) := ⟨_, rfl⟩
  obtain ⟨A, hA⟩ : ∃ z, z = w3.heap.size := ⟨_, rfl⟩
  have b4 : Below w3.heap.size w3 w4 := by rw [hw4]; exact (Below.refl _ _).alloc (Nat.le_refl _) _
  have TA := (show Hid (TwoA w w.heap.size A nm ⟨#[]⟩ w4) from ⟨(B1.out.trans (b3.mono B1.out.size)).trans (b4.mono (B1.out.trans (b3.mono B1.out.size)).size), (b4.block _ (Nat.lt_of_lt_of_le (lt_of_block GR.out) b3.size)).trans ((b3.block _ (lt_of_block GR.out)).trans GR.out), by rw [hw4, hA]; exact heap_alloc_new _ _, by rw [hA]; exact Nat.lt_of_lt_of_le (lt_of_block GR.out) b3.size, Nat.le_refl _⟩)
  have HW4 := (show Hid (w4 = _) from hw4)
  have HHA := (show Hid (A = w3.heap.size) from hA)
  clear b3 b4 hw4 hA GR B1
  go_wp2_with fail
  go_at_call 88
  rw [← HW4.out]
  refine ((HP.out w4 TA.out.bel).skip e1).mono ?_
  rintro e w5 ⟨rfl, rfl⟩
  rw [← HHA.out, HJ.out]
  clear HW4 HHA
  obtain ⟨y, hy⟩ : ∃ y, y = atL ys j := ⟨_, rfl⟩
  have ca := (HP.out w5 TA.out.bel).at' j
  rw [← hy] at ca
  have HY := (show Hid (y = atL ys j) from hy)
  clear hy
  go_wp2_with fail
  go_at_call 43
  refine ca.mono ?_
  rintro e w6 ⟨rfl, rfl⟩
  clear ca
  by_cases h61 : y = 61
  · have hj1 : j < ys.length := by
      by_cases hh : j < ys.length
      · exact hh
      · have := HY.out; rw [atL_out (by omega)] at this; omega
    have hA := HA.out
    rw [if_pos (by rw [← HY.out]; exact h61)] at hA
    obtain ⟨q, hq⟩ : ∃ z, z = skipB ys (j + 1) := ⟨_, rfl⟩
    have hql : q ≤ ys.length := by rw [hq]; exact (skip_le hj1).2
    rw [← hq] at hA
    have HQ := (show Hid (skipB ys (j + 1) = q) from hq.symm)
    have HA2 := (show Hid _ from hA)
    have hw2 : IntKind.i64.wrap ((j : Int) + 1) = ((j + 1 : Nat) : Int) := by rw [wrap_fit (by omega) (by omega)]; omega
    have hn61 : (y != 61) = false := by simp [h61]
    clear hA hq h61 HA
    go_wp2_with fail
    go_at_call 88
    refine ((HP.out w6 TA.out.bel).skip (j + 1)).mono ?_
    rintro e w7 ⟨rfl, rfl⟩
    rw [HQ.out]
    obtain ⟨x, hx⟩ : ∃ x, x = atL ys q := ⟨_, rfl⟩
    have ca := (HP.out w7 TA.out.bel).at' q
    rw [← hx] at ca
    have HX := (show Hid (x = atL ys q) from hx)
    clear hx
    go_wp2_with fail
    go_at_call 43
    refine ca.mono ?_
    rintro e w8 ⟨rfl, rfl⟩
    clear ca
    by_cases hxq : x = 34 ∨ x = 39
    · have hq1 : q < ys.length := by
        by_cases hh : q < ys.length
        · exact hh
        · have := HX.out; rw [atL_out (by omega)] at this; omega
      have hw3 : IntKind.i64.wrap ((q : Int) + 1) = ((q + 1 : Nat) : Int) := by rw [wrap_fit (by omega) (by omega)]; omega
      obtain ⟨e2, he2⟩ : ∃ z, z = upTo (fun z => z == x) ys (q + 1) := ⟨_, rfl⟩
      have he2l : e2 ≤ ys.length := by rw [he2]; exact upTo_le hq1
      have hve := (val_end (ends_quote hxq) hyl ys.length (q + 1) (by omega) hq1).1
      rw [← he2] at hve
      obtain ⟨tx, htx⟩ : ∃ z, z = strOf (puts (valV (fun z => z == x) ys (q + 1)).1) := ⟨_, rfl⟩
      have hvm : valM ys q = (tx, past ys e2) := by
        unfold valM
        rw [← HX.out, if_pos hxq]
        show (strOf (puts (valV (fun z => z == x) ys (q + 1)).1), past ys (valV (fun z => z == x) ys (q + 1)).2) = _
        rw [hve, ← htx]
      have hmin : min (e2 + 1) ys.length = past ys e2 := by unfold past; split <;> omega
      have HA3 := (show Hid (aM = ((nm, tx), min (e2 + 1) ys.length)) from (show _ = _ by rw [HA2.out, hvm, hmin]))
      have HE2 := (show Hid (upTo (fun z => z == x) ys (q + 1) = e2) from he2.symm)
      have CV := (show Hid (∀ W, Below w.heap.size w W → Calls Tryz.prog 125 #[.slice va xs.length vc, .int .i64 ((q + 1 : Nat) : Int), .int .i64 (e2 : Int)] W fun e w' => e = .returned (.string tx) ∧ Below W.heap.size W w') from fun W b => by
        have := l5Value_any (ends_quote hxq) (HP.out W b).sl (HP.out W b).ys (q + 1) e2 hq1 he2 (HP.out W b).few
        rw [← htx] at this
        exact this)
      have hw4 : IntKind.i64.wrap ((e2 : Int) + 1) = ((e2 + 1 : Nat) : Int) := by rw [wrap_fit (by omega) (by omega)]; omega
      clear hve hvm hmin he2 htx HA2
      have QB : Hid ((x == 34) = true ∨ ((x == 34) = false ∧ (x == 39) = true)) := (show _ ∨ _ by rcases hxq with rfl | rfl; exact .inl rfl; exact .inr ⟨rfl, rfl⟩)
      clear hxq
      rcases QB.out with q34 | ⟨q34, q39⟩
      · go_wp2_with fail
        go_at_call 86
        refine ((HP.out w8 TA.out.bel).until' (q + 1) (by omega) false x x x (until_quote x)).mono ?_
        rintro e w9 ⟨rfl, rfl⟩
        rw [HE2.out]
        go_wp2_with fail
        go_at_call 125
        refine (CV.out w9 TA.out.bel).mono ?_
        rintro e w10 ⟨rfl, b10⟩
        have TB := (show Hid _ from TA.out.below b10)
        have TC := (show Hid _ from TB.out.val tx)
        obtain ⟨⟨a0, a1⟩, f0, f1⟩ := two_at TB.out.a
        obtain ⟨w11, hw11⟩ : ∃ z, z = w10.setCell ⟨A, 1, none⟩ (.string tx) := ⟨_, rfl⟩
        rw [← hw11] at TC
        clear TA b10 CV
        go_upto_region 12 with fail
        rw [← hw11]
        clear hw11 a0 a1 f0 f1 TB
        refine region_tail 6 (by kernel_rfl) (by kernel_rfl) ?_
        intro w12 K1 hX1 hK1
        have ne := One.any w12
        have TD := (show Hid (TwoA w w.heap.size A nm tx w12) from by rw [hX1.out]; exact TC.out.below (below_drewN 1))
        obtain ⟨⟨a0, a1⟩, _⟩ := two_at TD.out.a
        have d0 : ∀ n : One w12, n.w.cell? ⟨A, 0, none⟩ = some (.string nm) := fun n => by rw [n.eq]; exact a0
        have d1 : ∀ n : One w12, n.w.cell? ⟨A, 1, none⟩ = some (.string tx) := fun n => by rw [n.eq]; exact a1
        have C1 := (show Hid (∀ n : One w12, Calls Tryz.prog 93 #[.int .i64 ((e2 : Int) + 1), .int .i64 (xs.length : Int)] n.w fun e w' => e = .returned (.int .i64 (min (e2 + 1) ys.length : Nat)) ∧ w' = n.w) from fun n => by rw [hlen]; exact l1Min_any (e2 + 1) xs.length n.w)
        simp only [List.take_succ_cons, List.take_zero, List.drop_succ_cons, List.drop_zero] at hK1 ⊢
        repeat (go_big_quiet_step (first | (go_at_call 93; with_reducible exact quiet_w (C1.out _))))
        refine wpQuiet_nil ?_
        refine hK1.out _ ?_
        clear hK1 d0 d1 ne C1 hX1 TC
        obtain ⟨⟨r0, r1⟩, f0, f1⟩ := two_at TD.out.r
        obtain ⟨o1, o2⟩ := TD.out.out
        have O1 := (show Hid _ from o1)
        have O2 := (show Hid _ from o2)
        clear o1 o2 TD
        go_wp2
        refine bodyPost_ret (attr_res (f := Tryz.f90) (p := 4) (q := 5) rfl rfl rfl O1.out) rfl ?_
        rw [HA3.out]
        exact ⟨rfl, O2.out⟩
      · go_wp2_with fail
        go_at_call 86
        refine ((HP.out w8 TA.out.bel).until' (q + 1) (by omega) false x x x (until_quote x)).mono ?_
        rintro e w9 ⟨rfl, rfl⟩
        rw [HE2.out]
        go_wp2_with fail
        go_at_call 125
        refine (CV.out w9 TA.out.bel).mono ?_
        rintro e w10 ⟨rfl, b10⟩
        have TB := (show Hid _ from TA.out.below b10)
        have TC := (show Hid _ from TB.out.val tx)
        obtain ⟨⟨a0, a1⟩, f0, f1⟩ := two_at TB.out.a
        obtain ⟨w11, hw11⟩ : ∃ z, z = w10.setCell ⟨A, 1, none⟩ (.string tx) := ⟨_, rfl⟩
        rw [← hw11] at TC
        clear TA b10 CV
        go_upto_region 12 with fail
        rw [← hw11]
        clear hw11 a0 a1 f0 f1 TB
        refine region_tail 6 (by kernel_rfl) (by kernel_rfl) ?_
        intro w12 K1 hX1 hK1
        have ne := One.any w12
        have TD := (show Hid (TwoA w w.heap.size A nm tx w12) from by rw [hX1.out]; exact TC.out.below (below_drewN 1))
        obtain ⟨⟨a0, a1⟩, _⟩ := two_at TD.out.a
        have d0 : ∀ n : One w12, n.w.cell? ⟨A, 0, none⟩ = some (.string nm) := fun n => by rw [n.eq]; exact a0
        have d1 : ∀ n : One w12, n.w.cell? ⟨A, 1, none⟩ = some (.string tx) := fun n => by rw [n.eq]; exact a1
        have C1 := (show Hid (∀ n : One w12, Calls Tryz.prog 93 #[.int .i64 ((e2 : Int) + 1), .int .i64 (xs.length : Int)] n.w fun e w' => e = .returned (.int .i64 (min (e2 + 1) ys.length : Nat)) ∧ w' = n.w) from fun n => by rw [hlen]; exact l1Min_any (e2 + 1) xs.length n.w)
        simp only [List.take_succ_cons, List.take_zero, List.drop_succ_cons, List.drop_zero] at hK1 ⊢
        repeat (go_big_quiet_step (first | (go_at_call 93; with_reducible exact quiet_w (C1.out _))))
        refine wpQuiet_nil ?_
        refine hK1.out _ ?_
        clear hK1 d0 d1 ne C1 hX1 TC
        obtain ⟨⟨r0, r1⟩, f0, f1⟩ := two_at TD.out.r
        obtain ⟨o1, o2⟩ := TD.out.out
        have O1 := (show Hid _ from o1)
        have O2 := (show Hid _ from o2)
        clear o1 o2 TD
        go_wp2
        refine bodyPost_ret (attr_res (f := Tryz.f90) (p := 4) (q := 5) rfl rfl rfl O1.out) rfl ?_
        rw [HA3.out]
        exact ⟨rfl, O2.out⟩
    · have hvm : valM ys q = (strOf (puts (valV endWord ys q).1), (valV endWord ys q).2) := by
        unfold valM
        rw [← HX.out, if_neg hxq]; rfl
      have hve := (val_end ends_word hyl ys.length q (by omega) hql).1
      have q34 : (x == 34) = false := by
        cases hh : (x == 34)
        · rfl
        · rw [beq_iff_eq] at hh; exact absurd (.inl hh) hxq
      have q39 : (x == 39) = false := by
        cases hh : (x == 39)
        · rfl
        · rw [beq_iff_eq] at hh; exact absurd (.inr hh) hxq
      by_cases h62 : x = 62
      · have hstop : valV endWord ys q = ([], q) := val_stop (by rw [← HX.out, h62]; simp [endWord])
        rw [hstop] at hvm
        have HA3 := (show Hid (aM = ((nm, ⟨#[]⟩), q)) from (show _ = _ by rw [HA2.out, hvm]; rfl))
        clear hvm hve hstop hxq HA2
        obtain ⟨⟨a0, a1⟩, _⟩ := two_at TA.out.a
        obtain ⟨⟨r0, r1⟩, f0, f1⟩ := two_at TA.out.r
        obtain ⟨o1, o2⟩ := TA.out.out
        have O1 := (show Hid _ from o1)
        have O2 := (show Hid _ from o2)
        subst h62
        clear o1 o2 TA
        go_wp2
        refine bodyPost_ret (attr_res (f := Tryz.f90) (p := 4) (q := 5) rfl rfl rfl O1.out) rfl ?_
        rw [HA3.out]
        exact ⟨rfl, O2.out⟩
      · obtain ⟨e2, he2⟩ : ∃ z, z = upTo endWord ys q := ⟨_, rfl⟩
        obtain ⟨tx, htx⟩ : ∃ z, z = strOf (puts (valV endWord ys q).1) := ⟨_, rfl⟩
        rw [← htx, hve, ← he2] at hvm
        have HA3 := (show Hid (aM = ((nm, tx), e2)) from (show _ = _ by rw [HA2.out, hvm]))
        have HE2 := (show Hid (upTo endWord ys q = e2) from he2.symm)
        have CV := (show Hid (∀ W, Below w.heap.size w W → Calls Tryz.prog 125 #[.slice va xs.length vc, .int .i64 (q : Int), .int .i64 (e2 : Int)] W fun e w' => e = .returned (.string tx) ∧ Below W.heap.size W w') from fun W b => by
          have := l5Value_any ends_word (HP.out W b).sl (HP.out W b).ys q e2 hql he2 (HP.out W b).few
          rw [← htx] at this
          exact this)
        have n62 : (x == 62) = false := by simp [h62]
        clear hvm hve he2 htx hxq HA2 h62
        go_wp2_with fail
        go_at_call 86
        refine ((HP.out w8 TA.out.bel).until' q (by omega) true 62 62 62 until_word).mono ?_
        rintro e w9 ⟨rfl, rfl⟩
        rw [HE2.out]
        go_wp2_with fail
        go_at_call 125
        refine (CV.out w9 TA.out.bel).mono ?_
        rintro e w10 ⟨rfl, b10⟩
        have TB := (show Hid _ from TA.out.below b10)
        have TC := (show Hid _ from TB.out.val tx)
        obtain ⟨⟨a0, a1⟩, f0, f1⟩ := two_at TB.out.a
        obtain ⟨w11, hw11⟩ : ∃ z, z = w10.setCell ⟨A, 1, none⟩ (.string tx) := ⟨_, rfl⟩
        rw [← hw11] at TC
        clear TA b10 CV
        go_upto_region 17 with fail
        rw [← hw11]
        clear hw11 a0 a1 f0 f1 TB
        obtain ⟨⟨a0, a1⟩, _⟩ := two_at TC.out.a
        obtain ⟨⟨r0, r1⟩, f0, f1⟩ := two_at TC.out.r
        obtain ⟨o1, o2⟩ := TC.out.out
        have O1 := (show Hid _ from o1)
        have O2 := (show Hid _ from o2)
        clear o1 o2 TC
        go_wp2
        refine bodyPost_ret (attr_res (f := Tryz.f90) (p := 4) (q := 5) rfl rfl rfl O1.out) rfl ?_
        rw [HA3.out]
        exact ⟨rfl, O2.out⟩
  · have hA := HA.out
    rw [if_neg (by rw [← HY.out]; exact h61)] at hA
    have HA2 := (show Hid _ from hA)
    have hn61 : (y != 61) = true := by simp [h61]
    obtain ⟨⟨a0, a1⟩, _⟩ := two_at TA.out.a
    obtain ⟨⟨r0, r1⟩, f0, f1⟩ := two_at TA.out.r
    obtain ⟨o1, o2⟩ := TA.out.out
    have O1 := (show Hid _ from o1)
    have O2 := (show Hid _ from o2)
    clear hA h61 o1 o2 TA
    go_wp2
    refine bodyPost_ret (attr_res (f := Tryz.f90) (p := 4) (q := 5) rfl rfl rfl O1.out) rfl ?_
    rw [HA2.out]
    exact ⟨rfl, O2.out⟩
end Go.Proofs.YtggfifchkecnjaaGreatDoor

/- Rows of tokens that the call itself made. No condition. -/
namespace Go.Proofs.YtggfifchkecnjaaGreatDoor
open Go.RowKit
set_option maxRecDepth 100000
set_option linter.unusedVariables false

theorem Tryz.infoTok : (Tryz.prog.info? 30).map (fun i => (i.zero, i.size, i.bytes)) = some (some (.agg #[.int .i64 0, .string ⟨#[]⟩, .slice none 0 0, .string ⟨#[]⟩, .bool false]), 5, 72) := by kernel_rfl
def tokRow (t : TokD) (va : Value) : List Value := [.int .i64 t.k, .string t.nm, va, .string t.tx, .bool t.sf]
def tokCells (qs : List (TokD × Value)) : List Value := qs.flatMap fun q => tokRow q.1 q.2
theorem tokCells_len (qs : List (TokD × Value)) : (tokCells qs).length = qs.length * 5 := by
  induction qs with
  | nil => rfl
  | cons q qs ih => simp only [tokCells, tokRow, List.flatMap_cons, List.length_append, List.length_cons, List.length_nil] at ih ⊢; omega
theorem tokCells_app (a b : List (TokD × Value)) : tokCells (a ++ b) = tokCells a ++ tokCells b := by simp [tokCells]
theorem tokCells_at (qs : List (TokD × Value)) (k j : Nat) (h : k < qs.length) (hj : j < 5) : (tokCells qs).getD (k * 5 + j) undef = (tokRow qs[k].1 qs[k].2).getD j undef := by
  induction qs generalizing k with
  | nil => simp at h
  | cons q qs ih =>
    cases k with
    | zero =>
      simp only [tokCells, List.flatMap_cons, List.getD_eq_getElem?_getD, Nat.zero_mul, Nat.zero_add, List.getElem_cons_zero]
      rw [List.getElem?_append_left (by simp [tokRow]; omega)]
    | succ k =>
      have := ih k (by simpa using h)
      simp only [tokCells, List.flatMap_cons, List.getD_eq_getElem?_getD, List.getElem_cons_succ] at this ⊢
      rw [List.getElem?_append_right (by simp [tokRow]; omega), ← this]
      congr 2
      simp [tokRow]; omega
theorem kept_kind {B e size n : Nat} {w w' : World} {v : Value} {xs : List Value} {row : Option Nat} (h : w.ownsRow B e size v n xs) (hg : w.grownBy w' row) (hr : ∀ r, row = some r → ∃ cs t fr, w.heap[r]? = some (.cells cs t fr) ∧ t ≠ e) : w'.ownsRow B e size v n xs := by
  refine h.kept hg ?_
  rcases h.2 with ⟨rfl, _⟩ | ⟨g, cap, cur, rfl, _, hh, _⟩
  · exact .inl rfl
  · refine .inr fun er => ?_
    obtain ⟨cs, t, fr, h1, h2⟩ := hr g er.symm
    rw [hh] at h1
    cases h1
    exact h2 rfl
theorem row_kind {B e size n : Nat} {w : World} {v : Value} {xs : List Value} (h : w.ownsRow B e size v n xs) {r : Nat} (hr : v.ownBlock = some r) : ∃ cs fr, w.heap[r]? = some (.cells cs e fr) := by
  rcases h.2 with ⟨rfl, _⟩ | ⟨g, cap, cur, rfl, _, hh, _⟩
  · cases hr
  · cases hr; exact ⟨_, _, hh⟩
structure OwnK (B : Nat) (w : World) (v : Value) (qs : List (TokD × Value)) : Prop where
  row : w.ownsRow B 30 5 v qs.length (tokCells qs)
  each : ∀ q ∈ qs, w.ownsRow B 81 2 q.2 q.1.rs.length (pairCells q.1.rs)
theorem OwnK.below {B : Nat} {w w' : World} {v : Value} {qs : List (TokD × Value)} (h : OwnK B w v qs) (b : Below w.heap.size w w') : OwnK B w' v qs := ⟨ownsRow_below h.row b, fun q hq => ownsRow_below (h.each q hq) b⟩
theorem OwnK.base {B B' : Nat} {w : World} {v : Value} {qs : List (TokD × Value)} (h : OwnK B w v qs) (hB : B' ≤ B) : OwnK B' w v qs := ⟨row_base h.row hB, fun q hq => row_base (h.each q hq) hB⟩
theorem OwnK.past {B g : Nat} {w w' : World} {v : Value} {qs : List (TokD × Value)} (h : OwnK B w v qs) (hg : w.grownBy w' (some g)) (hlt : g < B) : OwnK B w' v qs := ⟨row_pastg h.row hg hlt, fun q hq => row_pastg (h.each q hq) hg hlt⟩
theorem OwnK.snoc {B : Nat} {w w' : World} {v v' : Value} {qs : List (TokD × Value)} {q : TokD × Value} (h : OwnK B w v qs) (hq : w.ownsRow B 81 2 q.2 q.1.rs.length (pairCells q.1.rs))
    (ho : w'.ownsRow B 30 5 v' (qs.length + 1) (tokCells qs ++ tokRow q.1 q.2)) (hg : w.grownBy w' v.ownBlock) : OwnK B w' v' (qs ++ [q]) := by
  have key : ∀ {va : Value} {n : Nat} {xs : List Value}, w.ownsRow B 81 2 va n xs → w'.ownsRow B 81 2 va n xs := fun h' => kept_kind h' hg (fun r e => by
    obtain ⟨cs, fr, hh⟩ := row_kind h.row e
    exact ⟨cs, _, fr, hh, by decide⟩)
  refine ⟨?_, fun p hp => ?_⟩
  · rw [tokCells_app, List.length_append]; simpa [tokCells] using ho
  · rcases List.mem_append.mp hp with hp | hp
    · exact key (h.each p hp)
    · rw [List.mem_singleton] at hp; subst hp; exact key hq
theorem ownK_nil (B : Nat) (w : World) {v : Value} (h : w.ownsRow B 30 5 v 0 []) : OwnK B w v [] := ⟨h, fun q hq => by cases hq⟩
def ApartK (qs : List (TokD × Value)) : Prop := ∀ i j (hi : i < qs.length) (hj : j < qs.length) r, qs[i].2.ownBlock = some r → qs[j].2.ownBlock = some r → i = j
theorem apartK_nil : ApartK [] := fun i j hi => by simp at hi
theorem apartK_snoc {qs : List (TokD × Value)} {q : TokD × Value} (h : ApartK qs) (hq : ∀ p ∈ qs, ∀ r, q.2.ownBlock = some r → p.2.ownBlock = some r → False) : ApartK (qs ++ [q]) := by
  intro i j hi hj r e1 e2
  rw [List.length_append, List.length_singleton] at hi hj
  by_cases h1 : i < qs.length
  · rw [List.getElem_append_left h1] at e1
    by_cases h2 : j < qs.length
    · rw [List.getElem_append_left h2] at e2; exact h i j h1 h2 r e1 e2
    · rw [List.getElem_append_right (by omega)] at e2
      simp only [show j - qs.length = 0 by omega, List.getElem_cons_zero] at e2
      exact (hq _ (List.getElem_mem h1) r e2 e1).elim
  · rw [List.getElem_append_right (by omega)] at e1
    simp only [show i - qs.length = 0 by omega, List.getElem_cons_zero] at e1
    by_cases h2 : j < qs.length
    · rw [List.getElem_append_left h2] at e2; exact (hq _ (List.getElem_mem h2) r e1 e2).elim
    · omega
theorem sv_tok (w : World) (k : Int) (nm : ByteArray) (va : Value) (tx : ByteArray) (sf : Bool) (rs : List (ByteArray × ByteArray)) : Sv 5 (w.alloc (.cells #[.int .i64 k, .string nm, va, .string tx, .bool sf] 30)) (.slice (some ⟨w.heap.size, 0, none⟩) 1 1) (tokRow ⟨k, nm, rs, tx, sf⟩ va) :=
  sv_of_own (World.ownsRow_lit (base := w.heap.size) (e := 30) (size := 5) w #[.int .i64 k, .string nm, va, .string tx, .bool sf] 1 (Nat.le_refl _) (by unfold maxLen; omega) rfl)
end Go.Proofs.YtggfifchkecnjaaGreatDoor
