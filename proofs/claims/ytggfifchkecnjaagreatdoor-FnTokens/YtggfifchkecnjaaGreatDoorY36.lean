/- The program's cutter: a value up to a point (written by mk/icutd.py). No condition. -/
import Derived.Test.YtggfifchkecnjaaGreatDoorY35
import Derived.Test.YtggfifchkecnjaaGreatDoorY31
import Derived.Test.YtggfifchkecnjaaGreatDoorY27
namespace Go.Proofs.YtggfifchkecnjaaGreatDoor
open Go.RowKit
set_option maxRecDepth 100000
set_option linter.unusedVariables false

theorem older_grown {w0 : World} {g : Nat} {v : Value} {xs : List Int} {i : Nat} {w w' : World} (h : Older w) (hc : Cut w0 g v xs i w) (hg : w.grownBy w' (some g)) : Older w' := by
  have hne : 0 ≠ g := by
    intro e
    have c := h.cell 1 (by decide)
    rw [e] at c
    have hb := hc.2.2.2.2
    simp only [World.cell?, hb] at c
    simp at c
  refine ⟨fun k hk => ?_⟩
  have c := h.cell k hk
  have hlt : 0 < w.heap.size := by
    by_cases hlt : 0 < w.heap.size
    · exact hlt
    · exfalso; simp [World.cell?, Array.getElem?_eq_none (Nat.le_of_not_lt hlt)] at c
  have hb := hg.block _ hlt (fun e => hne (Option.some.inj e))
  rw [← c]
  simp only [World.cell?, hb]
theorem wf_i64c {x : Int} (h0 : -9223372036854775808 ≤ x) (h1 : x ≤ 9223372036854775807) : (Lit.int .i64 x).wf = true := by
  have e1 : IntKind.i64.min = -9223372036854775808 := by decide
  have e2 : IntKind.i64.max = 9223372036854775807 := by decide
  simp only [Lit.wf, e1, e2, Bool.and_eq_true, decide_eq_true_eq]
  exact ⟨h0, h1⟩
theorem CB.past {w0 : World} {g : Nat} {v : Value} {xs : List Int} {s : ByteArray} {w : World} {k : Nat} {wr wr' : World} {row : Option Nat} (h : CB w0 g v xs s w k wr) (hg : wr.grownBy wr' row) (hr : ∀ r, row = some r → w.heap.size < r) (hw : w0.heap.size ≤ w.heap.size) (hgw : g < w.heap.size) : CB w0 g v xs s w k wr' := by
  obtain ⟨h1, h2, h3, h4, h5⟩ := h.cut
  refine ⟨⟨h1, h2, ?_, h4, ?_⟩, ?_, ?_⟩
  · exact grown_past h3 hg (fun r e => by have := hr r e; omega)
  · exact (hg.block g (lt_of_block h5) (fun e => by have := hr g e.symm; omega)).trans h5
  · exact grown_past h.gro hg (fun r e => by have := hr r e; omega)
  · exact (hg.block _ (lt_of_block h.box) (fun e => by have := hr _ e.symm; omega)).trans h.box
theorem CB.set {w0 : World} {g : Nat} {v : Value} {xs : List Int} {s : ByteArray} {w : World} {k : Nat} {wr : World} (h : CB w0 g v xs s w k wr) (j : Nat) (hj : j ≤ xs.length) : CB w0 g v xs s w j (wr.setCell ⟨g, 0, none⟩ (.int .i64 j)) ∧ wr.grownBy (wr.setCell ⟨g, 0, none⟩ (.int .i64 j)) (some g) :=
  ⟨h.move (h.cut.set j hj).1 (h.cut.set j hj).2, (h.cut.set j hj).2⟩

set_option maxHeartbeats 4000000 in
theorem valueWord_any {p : Int → Bool} (hP : EndsP p) {w0 : World} {g : Nat} {v : Value} {xs : List Int} {i : Nat} {w : World} (hf : ∀ x W, w.grownBy W (some g) → Calls Tryz.prog 121 #[.int .i64 x] W fun e w' => e = .returned (.bool (p x)) ∧ Below W.heap.size W w')
    (h : Cut w0 g v xs i w) (ho : Older w) (hy : ∀ y ∈ xs, pointOk y = true) (s : ByteArray) :
    Calls Tryz.prog 152 #[cutVal v g s, .func (.func 121) #[] #[]] w fun e w' => e = .returned (.string (strOf (puts (valV p xs i).1))) ∧ Cut w0 g v xs (valV p xs i).2 w' ∧ w.grownBy w' (some g) := by
  have hil := h.2.2.2.1.2
  have hxl := h.2.2.2.1.1
  have hwl := h.2.2.1.size
  have hgl := h.lt
  obtain ⟨i0, hi, hz0, hz1, hz2⟩ := info_parts Tryz.infoI
  obtain ⟨vR, hvR⟩ : ∃ r, r = valV p xs i := ⟨_, rfl⟩
  have hvl := (val_end hP hxl xs.length i (by omega) hil).2
  rw [← hvR] at hvl ⊢
  obtain ⟨a, ca, rfl, hca, hcm, _, _⟩ := h.sl
  have hcb := cb_new (s := s) h
  obtain ⟨w1, hw1⟩ : ∃ z, z = w.alloc (.cells #[.slice a xs.length ca, .pointer (some ⟨g, 0, none⟩), .string s] 47) := ⟨_, rfl⟩
  rw [← hw1] at hcb
  have hs1 : w1.heap.size = w.heap.size + 1 := by rw [hw1, World.size_alloc]
  have HS1 := (show Hid (w1.heap.size = w.heap.size + 1) from hs1)
  have HCB := (show Hid (CB w0 g (.slice a xs.length ca) xs s w i w1) from hcb)
  have HY := (show Hid (∀ y ∈ xs, pointOk y = true) from hy)
  have HFF := (show Hid _ from hf)
  have HVR := (show Hid (vR = valV p xs i) from hvR)
  have HOLD := (show Hid (∀ W, w.grownBy W (some g) → Older W) from fun W hW => older_grown ho h hW)
  have o1 := own_empty 3 .i64 w1
  have cb1 := (show Hid (CB w0 g (.slice a xs.length ca) xs s w i (w1.alloc (.cells #[] 3))) from hcb.below ((Below.refl _ _).alloc (Nat.le_refl _) _))
  have O1 := (show Hid (Own (w.heap.size + 1) 3 .i64 (w1.alloc (.cells #[] 3)) _ []) from o1.base (by omega))
  clear hcb h hy hf ho hvR o1 hs1
  obtain ⟨w2, hw2⟩ : ∃ z, z = w1.alloc (.cells #[] 3) := ⟨_, rfl⟩
  rw [← hw2] at cb1 O1
  rw [HS1.out] at O1
  rw [hw1] at hw2
  clear HCB HS1 hw1
  unfold cutVal
  go_enter Tryz.func152, Tryz.ntmps152
  go_upto_region 2 with fail
  rw [← hw2]
  clear hw2
  obtain ⟨c0, c1, c2⟩ := cb1.out.cells
  go_wp2_with fail
  go_at_call 108
  refine (ahead_cb cb1.out 0 0 rfl (by omega)).mono ?_
  rintro e w3 ⟨rfl, b3⟩
  rw [Nat.add_zero]
  have cb3 := (show Hid _ from cb1.out.below b3)
  have O3 := (show Hid _ from Own.below O1.out b3)
  clear cb1 O1 b3 c0 c1 c2
  go_wp2
  go_loopw [5, 6] (fun u x wr => ∃ (k : Nat) (pts : List Int), i ≤ k ∧ k ≤ xs.length ∧ x = .int .i64 (atL xs k) ∧ pts.length + (valV p xs k).1.length = vR.1.length ∧ Hid (CB w0 g (.slice a xs.length ca) xs s w k wr ∧ Own (w.heap.size + 1) 3 .i64 wr u pts ∧ (pts ++ (valV p xs k).1, (valV p xs k).2) = vR)) (fun _ _ wr => xs.length - plc wr g)
  case atStart => exact ⟨i, [], Nat.le_refl _, hil, rfl, by rw [← HVR.out]; simp, cb3.out, O3.out, by rw [← HVR.out]; rfl⟩
  case round =>
    clear cb3 O3
    obtain ⟨k, pts, hk0, hk1, rfl, hpl, I⟩ := hrel
    have cb := (show Hid _ from I.out.1)
    have MP := (show Hid (plc wr g = k) from cb.out.plc)
    have hvl3 : vR.1.length ≤ 3000 := by omega
    have hpb : pts.length ≤ 3000 := by omega
    by_cases hkl : k < xs.length
    · obtain ⟨x, hx⟩ : ∃ x, x = atL xs k := ⟨_, rfl⟩
      have hok := at_ok HY.out hkl
      rw [← hx] at hok
      have hx0 := ((pointOk_iff x).mp hok).1
      have hne : (x != -1) = true := by simp; omega
      have cf := HFF.out x wr cb.out.gro
      have HX := (show Hid (x = atL xs k) from hx)
      rw [← hx]
      rcases hp : p x with _ | _
      · rw [hp] at cf
        have hp' : p (atL xs k) = false := by rw [← hx]; exact hp
        by_cases h38 : x = 38
        · obtain ⟨n, y, he, hkn, hnl, hyo, _⟩ := ref_facts true hxl hkl (by rw [← hx]; exact h38)
          have hst := val_ref hxl hkl hp' (by rw [← hx]; exact h38) he hkn
          have hn8 : (x != 38) = false := by simp [h38]
          have HEQ := (show Hid ((pts ++ [y] ++ (valV p xs n).1, (valV p xs n).2) = vR) from (show _ = _ by
            have := I.out.2.2
            rw [hst] at this
            rw [List.append_assoc]; exact this))
          have hpl2 : (pts ++ [y]).length + (valV p xs n).1.length = vR.1.length := by
            rw [hst] at hpl
            simp only [List.length_cons] at hpl
            rw [List.length_append, List.length_singleton]; omega
          have OW := (show Hid _ from I.out.2.1)
          have HE := (show Hid (refRead xs k true = ([y], (n : Int))) from he)
          clear hst hp hp' h38 hx I hpl he
          go_wp2_with fail
          refine cf.mono ?_
          rintro e w4 ⟨rfl, b4⟩
          have cb4 := (show Hid _ from cb.out.below b4)
          have O4 := (show Hid _ from Own.below OW.out b4)
          clear cf cb b4 OW
          have cb5 := (show Hid (CB w0 g (.slice a xs.length ca) xs s w k w4.drew) from cb4.out.below (below_drewN 1))
          have O5 := (show Hid _ from Own.below O4.out (below_drewN (w := w4) 1))
          have CR := irefRead_any (HOLD.out _ cb5.out.gro) cb5.out.cut.sl (k : Int) true (wf_i64c (by omega) (by omega)) (by omega)
          rw [HE.out] at CR
          have CR := (show Hid (Calls Tryz.prog 112 #[.slice a xs.length ca, .int .i64 (k : Int), .bool true] w4.drew fun e w' => ∃ xa xn xc, e = .returned (.tuple #[.slice xa xn xc, .int .i64 (n : Int)]) ∧ Own w4.drew.heap.size 3 .i64 w' (.slice xa xn xc) [y] ∧ Below w4.drew.heap.size w4.drew w') from CR.mono (by
            rintro e w' ⟨vx, rfl, ox, b⟩
            obtain ⟨xa, xc, rfl, _⟩ := ox.sl
            exact ⟨_, _, _, rfl, ox, b⟩))
          have z0 : w4.drew.cell? ⟨w.heap.size, 0, none⟩ = some (.slice a xs.length ca) ∧ w4.drew.cell? ⟨w.heap.size, 1, none⟩ = some (.pointer (some ⟨g, 0, none⟩)) ∧ w4.drew.cell? ⟨g, 0, none⟩ = some (.int .i64 k) := ⟨cb5.out.cells.1, cb5.out.cells.2.1, cb5.out.cut.cell.1⟩
          have Z0 := (show Hid _ from z0)
          clear cb4 O4 z0
          go_upto_region 8 with fail
          go_region_held3 (fun w' => w'.cell? ⟨w.heap.size, 0, none⟩ = some (.slice a xs.length ca) ∧ w'.cell? ⟨w.heap.size, 1, none⟩ = some (.pointer (some ⟨g, 0, none⟩)) ∧ w'.cell? ⟨g, 0, none⟩ = some (.int .i64 k))
            (first | with_reducible exact Z0.out | with_reducible exact Z6.out)
            (first
              | (go_at_call 112
                 with_reducible refine Calls.mono CR.out ?_
                 rintro e w6 ⟨xa, xn, xc, rfl, ox, b6⟩
                 have cb6 := (show Hid _ from cb5.out.below b6)
                 have O6 := (show Hid _ from Own.below O5.out b6)
                 have OX := (show Hid _ from ox)
                 have Z6 := (show Hid (w6.cell? ⟨w.heap.size, 0, none⟩ = some (.slice a xs.length ca) ∧ w6.cell? ⟨w.heap.size, 1, none⟩ = some (.pointer (some ⟨g, 0, none⟩)) ∧ w6.cell? ⟨g, 0, none⟩ = some (.int .i64 k)) from ⟨cb6.out.cells.1, cb6.out.cells.2.1, cb6.out.cut.cell.1⟩)
                 clear b6 ox))
          have ox := OX.out
          clear CR cb5 O5 Z0 Z6
          have hs6 := cb6.out.gro.size
          go_wp2_with (first | (at_builtin
                                refine wpList_app _ rfl (.tmp 40) (.tmp 41) 24 rfl (w.heap.size + 1) 3 i0 (.int .i64 0) 8 Tryz.underlying24 hi hz0 hz1 hz2 rfl .i64 _ _ pts [y] rfl rfl O6.out (Own.sl ox) (by simp; omega) (by unfold maxLen; simp; omega) (by have := lt_of_block cb6.out.box; omega) ?_
                                intro v' w7 o7 g7
                                have cb7 := (show Hid _ from cb6.out.past g7 (fun r e => by have := (O6.out.lt r e).1; omega) hwl hgl)
                                have O7 := (show Hid _ from o7)
                                obtain ⟨t1, t2⟩ := cb7.out.set n hnl
                                have cb8 := (show Hid _ from t1)
                                have O8 := (show Hid _ from own_past O7.out t2 (by omega))
                                obtain ⟨c0, c1, c2⟩ := cb7.out.cells
                                obtain ⟨cg, fg⟩ := cb7.out.cut.cell
                                clear g7 o7 t1 t2
                                obtain ⟨w8, hw8⟩ : ∃ z, z = w7.setCell ⟨g, 0, none⟩ (.int .i64 (n : Nat)) := ⟨_, rfl⟩
                                rw [← hw8] at cb8 O8
                                obtain ⟨d0, d1, d2⟩ := cb8.out.cells))
          rw [← hw8]
          clear hw8 c0 c1 c2 cg fg cb7 O7 d0 d1 d2 cb6 O6 ox
          go_at_call 108
          refine (ahead_cb cb8.out 0 0 rfl (by omega)).mono ?_
          rintro e w9 ⟨rfl, b9⟩
          rw [Nat.add_zero]
          have cb9 := (show Hid _ from cb8.out.below b9)
          have O9 := (show Hid _ from Own.below O8.out b9)
          clear cb8 O8 b9
          go_wp2
          go_roundw
          case rel => exact ⟨n, pts ++ [y], by omega, hnl, rfl, hpl2, cb9.out, O9.out, HEQ.out⟩
          case measure => rw [cb9.out.plc, MP.out]; omega
        · have hst := val_plain hxl hkl hp' (by rw [← hx]; exact h38)
          rw [← hx] at hst
          have hn8 : (x != 38) = true := by simp [h38]
          have HEQ := (show Hid ((pts ++ [x] ++ (valV p xs (k + 1)).1, (valV p xs (k + 1)).2) = vR) from (show _ = _ by
            have := I.out.2.2
            rw [hst] at this
            rw [List.append_assoc]; exact this))
          have hpl2 : (pts ++ [x]).length + (valV p xs (k + 1)).1.length = vR.1.length := by
            rw [hst] at hpl
            simp only [List.length_cons] at hpl
            rw [List.length_append, List.length_singleton]; omega
          have OW := (show Hid _ from I.out.2.1)
          clear hst hp hp' h38 hx I hpl
          go_wp2_with fail
          refine cf.mono ?_
          rintro e w4 ⟨rfl, b4⟩
          have cb4 := (show Hid _ from cb.out.below b4)
          have O4 := (show Hid _ from Own.below OW.out b4)
          clear cf cb b4 OW
          go_wp2_with (first | (at_builtin
                                refine wpList_app _ rfl (.tmp 24) (.tmp 26) 24 rfl (w.heap.size + 1) 3 i0 (.int .i64 0) 8 Tryz.underlying24 hi hz0 hz1 hz2 rfl .i64 _ _ pts [x] rfl rfl (Own.below O4.out ((Below.refl _ _).alloc (Nat.le_refl _) _)) (sl_one _ _ _ _) (by simp; omega) (by unfold maxLen; simp; omega) (by have := lt_of_block cb4.out.box; simp; omega) ?_
                                intro v' w7 o7 g7
                                have cb7 := (show Hid _ from (cb4.out.below ((Below.refl _ _).alloc (Nat.le_refl _) (.cells #[.int .i64 x] 3))).past g7 (fun r e => by have := (O4.out.lt r e).1; omega) hwl hgl)
                                have O7 := (show Hid _ from o7)
                                obtain ⟨c0, c1, c2⟩ := cb7.out.cells
                                clear g7 o7))
          go_at_call 110
          have CM := move_any cb7.out.cut s 1 (by omega)
          refine CM.mono ?_
          rintro e w8 ⟨rfl, hc8, hg8⟩
          have cb8 := (show Hid _ from cb7.out.move hc8 hg8)
          have O8 := (show Hid _ from own_past O7.out hg8 (by omega))
          clear CM hc8 hg8 cb7 O7 c0 c1 c2 cb4 O4
          obtain ⟨c0, c1, c2⟩ := cb8.out.cells
          go_wp2_with fail
          go_at_call 108
          refine (ahead_cb cb8.out 0 0 rfl (by omega)).mono ?_
          rintro e w9 ⟨rfl, b9⟩
          rw [Nat.add_zero]
          have cb9 := (show Hid _ from cb8.out.below b9)
          have O9 := (show Hid _ from Own.below O8.out b9)
          clear cb8 O8 b9 c0 c1 c2
          go_wp2
          go_roundw
          case rel => exact ⟨k + 1, pts ++ [x], by omega, by omega, rfl, hpl2, cb9.out, O9.out, HEQ.out⟩
          case measure => rw [cb9.out.plc, MP.out]; omega
      · rw [hp] at cf
        have hp' : p (atL xs k) = true := by rw [← hx]; exact hp
        have OW := (show Hid _ from I.out.2.1)
        have hpp : ¬ (k < xs.length ∧ p (atL xs k) = false) := by rw [hp']; simp
        clear hp hx
        go_wp2_with fail
        refine cf.mono ?_
        rintro e w4 ⟨rfl, b4⟩
        have cb4 := (show Hid _ from cb.out.below b4)
        have O4 := (show Hid _ from Own.below OW.out b4)
        clear cf cb b4 OW
        have hst : valV p xs k = ([], k) := val_stop (by exact hpp)
        have HI3 := I.out.2.2
        rw [hst] at HI3
        simp only [List.append_nil] at HI3
        have CP := iputs_any (Own.sl O4.out) (by omega)
        have e2 : pointsPut pts = puts vR.1 := by unfold pointsPut; rw [if_pos hpb, ← HI3]
        rw [e2] at CP
        have CP := (show Hid _ from CP)
        have CE := (show Hid (∀ W, Below w4.heap.size w4 W → Cut w0 g (.slice a xs.length ca) xs vR.2 W ∧ w.grownBy W (some g)) from fun W b => by
          rw [← HI3]
          exact ⟨(cb4.out.below b).cut, (cb4.out.below b).gro⟩)
        clear hst HI3 e2 hp' hpp I
        go_wp2_with fail
        go_at_call 96
        refine Calls.mono CP.out ?_
        rintro e w5 ⟨vx, rfl, ox, b5⟩
        have hcv := conv_sl ox.sl
        obtain ⟨xa, xc, rfl, _⟩ := ox.sl
        go_wp2
        go_ret
        exact ⟨rfl, CE.out _ b5⟩
    · have OW := (show Hid _ from I.out.2.1)
      rw [atL_out (show xs.length ≤ k by omega)]
      have hst : valV p xs k = ([], k) := val_stop (by omega)
      have HI3 := I.out.2.2
      rw [hst] at HI3
      simp only [List.append_nil] at HI3
      have CP := iputs_any (Own.sl OW.out) (by omega)
      have e2 : pointsPut pts = puts vR.1 := by unfold pointsPut; rw [if_pos hpb, ← HI3]
      rw [e2] at CP
      have CP := (show Hid _ from CP)
      have CE := (show Hid (∀ W, Below wr.heap.size wr W → Cut w0 g (.slice a xs.length ca) xs vR.2 W ∧ w.grownBy W (some g)) from fun W b => by
        rw [← HI3]
        exact ⟨(cb.out.below b).cut, (cb.out.below b).gro⟩)
      clear hst HI3 e2 I
      go_wp2_with fail
      go_at_call 96
      refine Calls.mono CP.out ?_
      rintro e w5 ⟨vx, rfl, ox, b5⟩
      have hcv := conv_sl ox.sl
      obtain ⟨xa, xc, rfl, _⟩ := ox.sl
      go_wp2
      go_ret
      exact ⟨rfl, CE.out _ b5⟩

set_option maxHeartbeats 4000000 in
theorem valueQuote_any {p : Int → Bool} (hP : EndsP p) {w0 : World} {g Q : Nat} {v : Value} {xs : List Int} {i : Nat} {w : World} (hf : ∀ x W, w.grownBy W (some g) → Calls Tryz.prog 153 #[.int .i64 x, .pointer (some ⟨Q, 0, none⟩)] W fun e w' => e = .returned (.bool (p x)) ∧ Below W.heap.size W w')
    (h : Cut w0 g v xs i w) (ho : Older w) (hy : ∀ y ∈ xs, pointOk y = true) (s : ByteArray) :
    Calls Tryz.prog 152 #[cutVal v g s, .func (.func 153) #[] #[.pointer (some ⟨Q, 0, none⟩)]] w fun e w' => e = .returned (.string (strOf (puts (valV p xs i).1))) ∧ Cut w0 g v xs (valV p xs i).2 w' ∧ w.grownBy w' (some g) := by
  have hil := h.2.2.2.1.2
  have hxl := h.2.2.2.1.1
  have hwl := h.2.2.1.size
  have hgl := h.lt
  obtain ⟨i0, hi, hz0, hz1, hz2⟩ := info_parts Tryz.infoI
  obtain ⟨vR, hvR⟩ : ∃ r, r = valV p xs i := ⟨_, rfl⟩
  have hvl := (val_end hP hxl xs.length i (by omega) hil).2
  rw [← hvR] at hvl ⊢
  obtain ⟨a, ca, rfl, hca, hcm, _, _⟩ := h.sl
  have hcb := cb_new (s := s) h
  obtain ⟨w1, hw1⟩ : ∃ z, z = w.alloc (.cells #[.slice a xs.length ca, .pointer (some ⟨g, 0, none⟩), .string s] 47) := ⟨_, rfl⟩
  rw [← hw1] at hcb
  have hs1 : w1.heap.size = w.heap.size + 1 := by rw [hw1, World.size_alloc]
  have HS1 := (show Hid (w1.heap.size = w.heap.size + 1) from hs1)
  have HCB := (show Hid (CB w0 g (.slice a xs.length ca) xs s w i w1) from hcb)
  have HY := (show Hid (∀ y ∈ xs, pointOk y = true) from hy)
  have HFF := (show Hid _ from hf)
  have HVR := (show Hid (vR = valV p xs i) from hvR)
  have HOLD := (show Hid (∀ W, w.grownBy W (some g) → Older W) from fun W hW => older_grown ho h hW)
  have o1 := own_empty 3 .i64 w1
  have cb1 := (show Hid (CB w0 g (.slice a xs.length ca) xs s w i (w1.alloc (.cells #[] 3))) from hcb.below ((Below.refl _ _).alloc (Nat.le_refl _) _))
  have O1 := (show Hid (Own (w.heap.size + 1) 3 .i64 (w1.alloc (.cells #[] 3)) _ []) from o1.base (by omega))
  clear hcb h hy hf ho hvR o1 hs1
  obtain ⟨w2, hw2⟩ : ∃ z, z = w1.alloc (.cells #[] 3) := ⟨_, rfl⟩
  rw [← hw2] at cb1 O1
  rw [HS1.out] at O1
  rw [hw1] at hw2
  clear HCB HS1 hw1
  unfold cutVal
  go_enter Tryz.func152, Tryz.ntmps152
  go_upto_region 2 with fail
  rw [← hw2]
  clear hw2
  obtain ⟨c0, c1, c2⟩ := cb1.out.cells
  go_wp2_with fail
  go_at_call 108
  refine (ahead_cb cb1.out 0 0 rfl (by omega)).mono ?_
  rintro e w3 ⟨rfl, b3⟩
  rw [Nat.add_zero]
  have cb3 := (show Hid _ from cb1.out.below b3)
  have O3 := (show Hid _ from Own.below O1.out b3)
  clear cb1 O1 b3 c0 c1 c2
  go_wp2
  go_loopw [5, 6] (fun u x wr => ∃ (k : Nat) (pts : List Int), i ≤ k ∧ k ≤ xs.length ∧ x = .int .i64 (atL xs k) ∧ pts.length + (valV p xs k).1.length = vR.1.length ∧ Hid (CB w0 g (.slice a xs.length ca) xs s w k wr ∧ Own (w.heap.size + 1) 3 .i64 wr u pts ∧ (pts ++ (valV p xs k).1, (valV p xs k).2) = vR)) (fun _ _ wr => xs.length - plc wr g)
  case atStart => exact ⟨i, [], Nat.le_refl _, hil, rfl, by rw [← HVR.out]; simp, cb3.out, O3.out, by rw [← HVR.out]; rfl⟩
  case round =>
    clear cb3 O3
    obtain ⟨k, pts, hk0, hk1, rfl, hpl, I⟩ := hrel
    have cb := (show Hid _ from I.out.1)
    have MP := (show Hid (plc wr g = k) from cb.out.plc)
    have hvl3 : vR.1.length ≤ 3000 := by omega
    have hpb : pts.length ≤ 3000 := by omega
    by_cases hkl : k < xs.length
    · obtain ⟨x, hx⟩ : ∃ x, x = atL xs k := ⟨_, rfl⟩
      have hok := at_ok HY.out hkl
      rw [← hx] at hok
      have hx0 := ((pointOk_iff x).mp hok).1
      have hne : (x != -1) = true := by simp; omega
      have cf := HFF.out x wr cb.out.gro
      have HX := (show Hid (x = atL xs k) from hx)
      rw [← hx]
      rcases hp : p x with _ | _
      · rw [hp] at cf
        have hp' : p (atL xs k) = false := by rw [← hx]; exact hp
        by_cases h38 : x = 38
        · obtain ⟨n, y, he, hkn, hnl, hyo, _⟩ := ref_facts true hxl hkl (by rw [← hx]; exact h38)
          have hst := val_ref hxl hkl hp' (by rw [← hx]; exact h38) he hkn
          have hn8 : (x != 38) = false := by simp [h38]
          have HEQ := (show Hid ((pts ++ [y] ++ (valV p xs n).1, (valV p xs n).2) = vR) from (show _ = _ by
            have := I.out.2.2
            rw [hst] at this
            rw [List.append_assoc]; exact this))
          have hpl2 : (pts ++ [y]).length + (valV p xs n).1.length = vR.1.length := by
            rw [hst] at hpl
            simp only [List.length_cons] at hpl
            rw [List.length_append, List.length_singleton]; omega
          have OW := (show Hid _ from I.out.2.1)
          have HE := (show Hid (refRead xs k true = ([y], (n : Int))) from he)
          clear hst hp hp' h38 hx I hpl he
          go_wp2_with fail
          refine cf.mono ?_
          rintro e w4 ⟨rfl, b4⟩
          have cb4 := (show Hid _ from cb.out.below b4)
          have O4 := (show Hid _ from Own.below OW.out b4)
          clear cf cb b4 OW
          have cb5 := (show Hid (CB w0 g (.slice a xs.length ca) xs s w k w4.drew) from cb4.out.below (below_drewN 1))
          have O5 := (show Hid _ from Own.below O4.out (below_drewN (w := w4) 1))
          have CR := irefRead_any (HOLD.out _ cb5.out.gro) cb5.out.cut.sl (k : Int) true (wf_i64c (by omega) (by omega)) (by omega)
          rw [HE.out] at CR
          have CR := (show Hid (Calls Tryz.prog 112 #[.slice a xs.length ca, .int .i64 (k : Int), .bool true] w4.drew fun e w' => ∃ xa xn xc, e = .returned (.tuple #[.slice xa xn xc, .int .i64 (n : Int)]) ∧ Own w4.drew.heap.size 3 .i64 w' (.slice xa xn xc) [y] ∧ Below w4.drew.heap.size w4.drew w') from CR.mono (by
            rintro e w' ⟨vx, rfl, ox, b⟩
            obtain ⟨xa, xc, rfl, _⟩ := ox.sl
            exact ⟨_, _, _, rfl, ox, b⟩))
          have z0 : w4.drew.cell? ⟨w.heap.size, 0, none⟩ = some (.slice a xs.length ca) ∧ w4.drew.cell? ⟨w.heap.size, 1, none⟩ = some (.pointer (some ⟨g, 0, none⟩)) ∧ w4.drew.cell? ⟨g, 0, none⟩ = some (.int .i64 k) := ⟨cb5.out.cells.1, cb5.out.cells.2.1, cb5.out.cut.cell.1⟩
          have Z0 := (show Hid _ from z0)
          clear cb4 O4 z0
          go_upto_region 8 with fail
          go_region_held3 (fun w' => w'.cell? ⟨w.heap.size, 0, none⟩ = some (.slice a xs.length ca) ∧ w'.cell? ⟨w.heap.size, 1, none⟩ = some (.pointer (some ⟨g, 0, none⟩)) ∧ w'.cell? ⟨g, 0, none⟩ = some (.int .i64 k))
            (first | with_reducible exact Z0.out | with_reducible exact Z6.out)
            (first
              | (go_at_call 112
                 with_reducible refine Calls.mono CR.out ?_
                 rintro e w6 ⟨xa, xn, xc, rfl, ox, b6⟩
                 have cb6 := (show Hid _ from cb5.out.below b6)
                 have O6 := (show Hid _ from Own.below O5.out b6)
                 have OX := (show Hid _ from ox)
                 have Z6 := (show Hid (w6.cell? ⟨w.heap.size, 0, none⟩ = some (.slice a xs.length ca) ∧ w6.cell? ⟨w.heap.size, 1, none⟩ = some (.pointer (some ⟨g, 0, none⟩)) ∧ w6.cell? ⟨g, 0, none⟩ = some (.int .i64 k)) from ⟨cb6.out.cells.1, cb6.out.cells.2.1, cb6.out.cut.cell.1⟩)
                 clear b6 ox))
          have ox := OX.out
          clear CR cb5 O5 Z0 Z6
          have hs6 := cb6.out.gro.size
          go_wp2_with (first | (at_builtin
                                refine wpList_app _ rfl (.tmp 40) (.tmp 41) 24 rfl (w.heap.size + 1) 3 i0 (.int .i64 0) 8 Tryz.underlying24 hi hz0 hz1 hz2 rfl .i64 _ _ pts [y] rfl rfl O6.out (Own.sl ox) (by simp; omega) (by unfold maxLen; simp; omega) (by have := lt_of_block cb6.out.box; omega) ?_
                                intro v' w7 o7 g7
                                have cb7 := (show Hid _ from cb6.out.past g7 (fun r e => by have := (O6.out.lt r e).1; omega) hwl hgl)
                                have O7 := (show Hid _ from o7)
                                obtain ⟨t1, t2⟩ := cb7.out.set n hnl
                                have cb8 := (show Hid _ from t1)
                                have O8 := (show Hid _ from own_past O7.out t2 (by omega))
                                obtain ⟨c0, c1, c2⟩ := cb7.out.cells
                                obtain ⟨cg, fg⟩ := cb7.out.cut.cell
                                clear g7 o7 t1 t2
                                obtain ⟨w8, hw8⟩ : ∃ z, z = w7.setCell ⟨g, 0, none⟩ (.int .i64 (n : Nat)) := ⟨_, rfl⟩
                                rw [← hw8] at cb8 O8
                                obtain ⟨d0, d1, d2⟩ := cb8.out.cells))
          rw [← hw8]
          clear hw8 c0 c1 c2 cg fg cb7 O7 d0 d1 d2 cb6 O6 ox
          go_at_call 108
          refine (ahead_cb cb8.out 0 0 rfl (by omega)).mono ?_
          rintro e w9 ⟨rfl, b9⟩
          rw [Nat.add_zero]
          have cb9 := (show Hid _ from cb8.out.below b9)
          have O9 := (show Hid _ from Own.below O8.out b9)
          clear cb8 O8 b9
          go_wp2
          go_roundw
          case rel => exact ⟨n, pts ++ [y], by omega, hnl, rfl, hpl2, cb9.out, O9.out, HEQ.out⟩
          case measure => rw [cb9.out.plc, MP.out]; omega
        · have hst := val_plain hxl hkl hp' (by rw [← hx]; exact h38)
          rw [← hx] at hst
          have hn8 : (x != 38) = true := by simp [h38]
          have HEQ := (show Hid ((pts ++ [x] ++ (valV p xs (k + 1)).1, (valV p xs (k + 1)).2) = vR) from (show _ = _ by
            have := I.out.2.2
            rw [hst] at this
            rw [List.append_assoc]; exact this))
          have hpl2 : (pts ++ [x]).length + (valV p xs (k + 1)).1.length = vR.1.length := by
            rw [hst] at hpl
            simp only [List.length_cons] at hpl
            rw [List.length_append, List.length_singleton]; omega
          have OW := (show Hid _ from I.out.2.1)
          clear hst hp hp' h38 hx I hpl
          go_wp2_with fail
          refine cf.mono ?_
          rintro e w4 ⟨rfl, b4⟩
          have cb4 := (show Hid _ from cb.out.below b4)
          have O4 := (show Hid _ from Own.below OW.out b4)
          clear cf cb b4 OW
          go_wp2_with (first | (at_builtin
                                refine wpList_app _ rfl (.tmp 24) (.tmp 26) 24 rfl (w.heap.size + 1) 3 i0 (.int .i64 0) 8 Tryz.underlying24 hi hz0 hz1 hz2 rfl .i64 _ _ pts [x] rfl rfl (Own.below O4.out ((Below.refl _ _).alloc (Nat.le_refl _) _)) (sl_one _ _ _ _) (by simp; omega) (by unfold maxLen; simp; omega) (by have := lt_of_block cb4.out.box; simp; omega) ?_
                                intro v' w7 o7 g7
                                have cb7 := (show Hid _ from (cb4.out.below ((Below.refl _ _).alloc (Nat.le_refl _) (.cells #[.int .i64 x] 3))).past g7 (fun r e => by have := (O4.out.lt r e).1; omega) hwl hgl)
                                have O7 := (show Hid _ from o7)
                                obtain ⟨c0, c1, c2⟩ := cb7.out.cells
                                clear g7 o7))
          go_at_call 110
          have CM := move_any cb7.out.cut s 1 (by omega)
          refine CM.mono ?_
          rintro e w8 ⟨rfl, hc8, hg8⟩
          have cb8 := (show Hid _ from cb7.out.move hc8 hg8)
          have O8 := (show Hid _ from own_past O7.out hg8 (by omega))
          clear CM hc8 hg8 cb7 O7 c0 c1 c2 cb4 O4
          obtain ⟨c0, c1, c2⟩ := cb8.out.cells
          go_wp2_with fail
          go_at_call 108
          refine (ahead_cb cb8.out 0 0 rfl (by omega)).mono ?_
          rintro e w9 ⟨rfl, b9⟩
          rw [Nat.add_zero]
          have cb9 := (show Hid _ from cb8.out.below b9)
          have O9 := (show Hid _ from Own.below O8.out b9)
          clear cb8 O8 b9 c0 c1 c2
          go_wp2
          go_roundw
          case rel => exact ⟨k + 1, pts ++ [x], by omega, by omega, rfl, hpl2, cb9.out, O9.out, HEQ.out⟩
          case measure => rw [cb9.out.plc, MP.out]; omega
      · rw [hp] at cf
        have hp' : p (atL xs k) = true := by rw [← hx]; exact hp
        have OW := (show Hid _ from I.out.2.1)
        have hpp : ¬ (k < xs.length ∧ p (atL xs k) = false) := by rw [hp']; simp
        clear hp hx
        go_wp2_with fail
        refine cf.mono ?_
        rintro e w4 ⟨rfl, b4⟩
        have cb4 := (show Hid _ from cb.out.below b4)
        have O4 := (show Hid _ from Own.below OW.out b4)
        clear cf cb b4 OW
        have hst : valV p xs k = ([], k) := val_stop (by exact hpp)
        have HI3 := I.out.2.2
        rw [hst] at HI3
        simp only [List.append_nil] at HI3
        have CP := iputs_any (Own.sl O4.out) (by omega)
        have e2 : pointsPut pts = puts vR.1 := by unfold pointsPut; rw [if_pos hpb, ← HI3]
        rw [e2] at CP
        have CP := (show Hid _ from CP)
        have CE := (show Hid (∀ W, Below w4.heap.size w4 W → Cut w0 g (.slice a xs.length ca) xs vR.2 W ∧ w.grownBy W (some g)) from fun W b => by
          rw [← HI3]
          exact ⟨(cb4.out.below b).cut, (cb4.out.below b).gro⟩)
        clear hst HI3 e2 hp' hpp I
        go_wp2_with fail
        go_at_call 96
        refine Calls.mono CP.out ?_
        rintro e w5 ⟨vx, rfl, ox, b5⟩
        have hcv := conv_sl ox.sl
        obtain ⟨xa, xc, rfl, _⟩ := ox.sl
        go_wp2
        go_ret
        exact ⟨rfl, CE.out _ b5⟩
    · have OW := (show Hid _ from I.out.2.1)
      rw [atL_out (show xs.length ≤ k by omega)]
      have hst : valV p xs k = ([], k) := val_stop (by omega)
      have HI3 := I.out.2.2
      rw [hst] at HI3
      simp only [List.append_nil] at HI3
      have CP := iputs_any (Own.sl OW.out) (by omega)
      have e2 : pointsPut pts = puts vR.1 := by unfold pointsPut; rw [if_pos hpb, ← HI3]
      rw [e2] at CP
      have CP := (show Hid _ from CP)
      have CE := (show Hid (∀ W, Below wr.heap.size wr W → Cut w0 g (.slice a xs.length ca) xs vR.2 W ∧ w.grownBy W (some g)) from fun W b => by
        rw [← HI3]
        exact ⟨(cb.out.below b).cut, (cb.out.below b).gro⟩)
      clear hst HI3 e2 I
      go_wp2_with fail
      go_at_call 96
      refine Calls.mono CP.out ?_
      rintro e w5 ⟨vx, rfl, ox, b5⟩
      have hcv := conv_sl ox.sl
      obtain ⟨xa, xc, rfl, _⟩ := ox.sl
      go_wp2
      go_ret
      exact ⟨rfl, CE.out _ b5⟩
end Go.Proofs.YtggfifchkecnjaaGreatDoor
