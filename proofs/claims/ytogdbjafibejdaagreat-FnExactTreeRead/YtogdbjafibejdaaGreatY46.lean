/- The specification's TreePack, of every tree (written by mk/spack.py). No condition. -/
import Derived.Test.YtogdbjafibejdaaGreatY42
import Derived.Test.YtogdbjafibejdaaGreatY40
import Derived.Test.YtogdbjafibejdaaGreatY18
import Derived.Deep.CutRange
namespace Go.Proofs.YtogdbjafibejdaaGreat
open Go.RowKit
set_option maxRecDepth 100000
set_option linter.unusedVariables false

def PkW (w : World) (nv : Value) (nm : List ByteArray) (o : Value) (out : List Int) (W : World) : Prop :=
  Own w.heap.size 5 .u8 W o out ∧ OwnS w.heap.size W nv nm ∧ Below w.heap.size w W
theorem PkW.below {w : World} {nv : Value} {nm : List ByteArray} {o : Value} {out : List Int} {W W' : World} (h : PkW w nv nm o out W) (b : Below W.heap.size W W') : PkW w nv nm o out W' :=
  ⟨h.1.below b, h.2.1.below b, h.2.2.trans (b.mono h.2.2.size)⟩
theorem own_kindB {B : Nat} {W : World} {o : Value} {out : List Int} (h : Own B 5 .u8 W o out) : ∀ r, o.ownBlock = some r → ∃ cs t fr, W.heap[r]? = some (.cells cs t fr) ∧ t = 5 := fun r hr => by
  rcases h.2 with ⟨e, _⟩ | ⟨g', cap', cur, e, _, hh, _⟩
  · rw [e] at hr; cases hr
  · rw [e] at hr; cases hr; exact ⟨_, _, _, hh, rfl⟩
theorem own_keepB {B : Nat} {W W' : World} {o : Value} {out : List Int} (h : Own B 5 .u8 W o out) (g : W.grownBy W' o.ownBlock) {j : Nat} {cs : Array Value} {t : TypeId} (hj : W.heap[j]? = some (.cells cs t (0, 0))) (ht : t ≠ 5) : W'.heap[j]? = some (.cells cs t (0, 0)) :=
  (g.block j (blk_lt hj) (fun e => by obtain ⟨c2, t2, f2, hh, et⟩ := own_kindB h j e.symm; rw [hj] at hh; cases hh; exact ht et)).trans hj
theorem PkW.put {w : World} {nv : Value} {nm : List ByteArray} {o u : Value} {out out2 : List Int} {W W' : World} (h : PkW w nv nm o out W) (o2 : Own w.heap.size 5 .u8 W' u out2) (g : W.grownBy W' o.ownBlock) : PkW w nv nm u out2 W' :=
  ⟨o2, kept_of_type h.2.1 g (fun r hr => by obtain ⟨c, t, f, hh, e⟩ := own_kindB h.1 r hr; exact ⟨c, t, f, hh, by rw [e]; decide⟩), h.2.2.grown g h.2.2.size h.1.grownAt⟩
def PkN (w : World) (nv : Value) (nm : List ByteArray) (o : Value) (out : List Int) (P : Nat) (row : Array Value) (W : World) : Prop :=
  PkW w nv nm o out W ∧ W.heap[P]? = some (.cells row 36 (0, 0))
theorem PkN.below {w : World} {nv : Value} {nm : List ByteArray} {o : Value} {out : List Int} {P : Nat} {row : Array Value} {W W' : World} (h : PkN w nv nm o out P row W) (b : Below W.heap.size W W') : PkN w nv nm o out P row W' :=
  ⟨h.1.below b, (b.block _ (blk_lt h.2)).trans h.2⟩
theorem PkN.put {w : World} {nv : Value} {nm : List ByteArray} {o u : Value} {out out2 : List Int} {P : Nat} {row : Array Value} {W W' : World} (h : PkN w nv nm o out P row W) (o2 : Own w.heap.size 5 .u8 W' u out2) (g : W.grownBy W' o.ownBlock) : PkN w nv nm u out2 P row W' :=
  ⟨h.1.put o2 g, own_keepB h.1.1 g h.2 (by decide)⟩
theorem own_len {B : Nat} {e : TypeId} {K : IntKind} {w : World} {x : Option Addr} {y z : Nat} {xs : List Int} (h : Own B e K w (.slice x y z) xs) : y = xs.length := by
  rcases h.2 with ⟨e, h0⟩ | ⟨g', cap', cur, e, _⟩
  · cases e; exact h0.symm
  · cases e; rfl
def PackA (ns : List PNode) (B : Nat) (u : Value) (r : Bool) (w' : World) : Prop := (r = true ∧ goodT ns ∧ Own B 5 .u8 w' u (packL ns)) ∨ (r = false ∧ ¬ goodT ns ∧ Own B 5 .u8 w' u [])

def PackE (ns : List PNode) (w : World) (e : Ending) (w' : World) : Prop := ∃ u r, e = .returned (.tuple #[u, .bool r]) ∧ PackA ns w.heap.size u r w' ∧ Below w.heap.size w w'

set_option maxHeartbeats 8000000 in
set_option maxRecDepth 100000 in
theorem streePack_any {w : World} {v : Value} {ns : List PNode} (hn : NodesAt w v ns) (hfit : ∀ n ∈ ns, NodeFit n) (hlen : ns.length ≤ 1048576) :
    Calls Tryz.prog 30 #[.agg #[v]] w fun e w' => PackE ns w e w' := by
  obtain ⟨i0, hi, hz0, hz1, hz2⟩ := info_parts Tryz.infoB
  obtain ⟨a, ca, rfl, _, _, _⟩ := hn.slice
  have HF := (show Hid (∀ n ∈ ns, NodeFit n) from hfit)
  have HN := (show Hid (NodesAt w (.slice a ns.length ca) ns) from hn)
  obtain ⟨w2, hw2⟩ : ∃ x, x = (w.alloc (.cells #[.slice a ns.length ca] 26)).alloc (.cells #[] 5) := ⟨_, rfl⟩
  have b2 : Below w.heap.size w w2 := by rw [hw2]; exact ((Below.refl _ w).alloc (Nat.le_refl _) _).alloc (by simp) _
  have gT : w2.heap[w.heap.size]? = some (.cells #[.slice a ns.length ca] 26 (0, 0)) := by rw [hw2, Below.heap_alloc _ _ _ (by simp)]; exact World.alloc_heap_new _ _
  have o2 : Own w.heap.size 5 .u8 w2 (.slice (some ⟨w.heap.size + 1, 0, none⟩) 0 0) [] := by
    have := (own_empty 5 .u8 (w.alloc (.cells #[.slice a ns.length ca] 26))).base (B' := w.heap.size) (by simp)
    rw [World.size_alloc, ← hw2] at this
    exact this
  have O2 := (show Hid _ from o2)
  obtain ⟨_, _, e3, _, _, h3⟩ := (hn.below b2).slice
  cases e3
  have HX := (show Hid _ from h3)
  have GT := (show Hid _ from gT)
  have B2 := (show Hid _ from b2)
  have C := (show Hid (∀ W, Below w2.heap.size w2 W → Calls Tryz.prog 14 #[.agg #[.slice a ns.length ca]] W fun e w' => ∃ r, e = .returned (.bool r) ∧ (r = true ↔ STreeOkP ns) ∧ Below w2.heap.size w2 w') from fun W b => (streeOk_any (hn.below (b2.trans (b.mono b2.size))) hfit hlen).mono (by
    rintro e w' ⟨r, rfl, hr, b'⟩; exact ⟨r, rfl, hr, b.trans (b'.mono b.size)⟩))
  have D := (show Hid (∀ W, Below w2.heap.size w2 W → STreeOkP ns → Calls Tryz.prog 86 #[.agg #[.slice a ns.length ca]] W fun e w' => ∃ u, e = .returned (.agg #[u]) ∧ NodesAt w' u (tidyN ns) ∧ Below w2.heap.size w2 w') from fun W b h => by
    have e1 := h.1.one
    rw [← tdL_tidy h]
    refine (stidyOf_any (hn.below (b2.trans (b.mono b2.size))) hfit hlen (tree_deep h.1 (by omega)) ?_).mono ?_
    · have e2 := down_few h.1 (k := 0) (by omega)
      have e3 := h.1.most
      omega
    · rintro e w' ⟨u, qs, rfl, oq, _, m, b'⟩
      exact ⟨u, rfl, by rw [← m]; exact oq.n.nodes, b.trans (b'.mono b.size)⟩)
  have E := (show Hid (∀ W u, STreeOkP ns → NodesAt W u (tidyN ns) → Below w2.heap.size w2 W → Calls Tryz.prog 85 #[.agg #[.slice a ns.length ca], .agg #[u]] W fun e w' => ∃ r : Bool, e = .returned (.bool r) ∧ Hid ((r = true ↔ ns = tidyN ns) ∧ Below w2.heap.size w2 w')) from fun W u h k b => (salike_any (hn.below (b2.trans (b.mono b2.size))) k hfit (tidyL_fit hfit _ (by have e1 := h.1.one; have e2 := down_few h.1 (k := 0) (by omega); have e3 := h.1.most; omega)) hlen).mono (by
    rintro e w' ⟨r, rfl, hr, b'⟩; exact ⟨r, rfl, hr, b.trans (b'.mono b.size)⟩))
  obtain ⟨c0, _⟩ := one_cell gT
  have l0 := blk_lt gT
  clear h3 hn hfit b2 gT o2
  go_enter Tryz.func30, Tryz.ntmps30
  go_upto_region 2 with fail
  rw [← hw2]
  clear hw2
  go_cut [21] from 12 to 21 (fun s21 wx => ∃ q : Bool, s21 = .bool q ∧ Hid ((q = true ↔ ¬ (STreeOkP ns ∧ ns = tidyN ns)) ∧ Below w2.heap.size w2 wx))
  case first =>
    by_cases hok : STreeOkP ns
    · go_region_with (first
        | (go_at_call 14
           refine Calls.mono (C.out _ (below_drewN 1)) ?_
           rintro e w3 ⟨r, rfl, hr, b3⟩
           obtain rfl : r = true := hr.mpr hok
           have c3 := (b3.cell (p := ⟨w.heap.size, 0, none⟩) l0).trans c0
           have BB3 := (show Hid _ from b3)
           clear b3 hr)
        | (go_at_call 86
           refine Calls.mono (D.out _ BB3.out hok) ?_
           rintro e w4 ⟨u, rfl, nu, b4⟩
           have c4 := (b4.cell (p := ⟨w.heap.size, 0, none⟩) l0).trans c0
           have BB4 := (show Hid _ from b4)
           have NU := (show Hid _ from nu)
           clear b4 nu)
        | (go_at_call 85
           refine Calls.mono (E.out _ _ hok NU.out BB4.out) ?_
           rintro e w5 ⟨r5, rfl, R5⟩)
        | fail)
      all_goals
        go_wp2_with fail
        go_meet
        refine ⟨!r5, rfl, ?_⟩
        refine ⟨?_, R5.out.2⟩
        rw [← R5.out.1]
        simp [hok]
    · go_region_with (first
        | (go_at_call 14
           refine Calls.mono (C.out _ (below_drewN 1)) ?_
           rintro e w3 ⟨r, rfl, hr, b3⟩
           obtain rfl : r = false := by cases r; rfl; exact absurd (hr.mp rfl) hok
           have BB3 := (show Hid _ from b3)
           clear b3 hr)
        | fail)
      all_goals
        go_wp2_with fail
        go_meet
        exact ⟨true, rfl, by simp [hok], BB3.out⟩
  case rest =>
    obtain ⟨q, rfl, Q⟩ := hcut
    have BC := (show Hid (Below w2.heap.size w2 wc) from Q.out.2)
    have BE := (show Hid (∀ W, Below w2.heap.size w2 W → Below w.heap.size w W) from fun W b => B2.out.trans (b.mono B2.out.size))
    have OE := (show Hid (∀ W u xs, Own w2.heap.size 5 .u8 W u xs → Own w.heap.size 5 .u8 W u xs) from fun W u xs o => o.base B2.out.size)
    have OC := (show Hid (∀ W, Below w2.heap.size w2 W → Own w.heap.size 5 .u8 W (.slice (some ⟨w.heap.size + 1, 0, none⟩) 0 0) []) from fun W b => Own.below O2.out b)
    have HNA := (show Hid (∀ W, Below w2.heap.size w2 W → NodesAt W (.slice a ns.length ca) ns) from fun W b => HN.out.below (B2.out.trans (b.mono B2.out.size)))
    have cT := (Q.out.2.cell (p := ⟨w.heap.size, 0, none⟩) l0).trans c0
    have lT : w.heap.size < wc.heap.size := Nat.lt_of_lt_of_le l0 Q.out.2.size
    clear C D E HN O2 B2 GT
    cases q
    rotate_left
    · have HB := (show Hid (¬ goodT ns) from fun h => Q.out.1.mp rfl ⟨h.1, h.2.1.symm⟩)
      go_wp2
      go_ret2
      exact ⟨_, _, rfl, .inr ⟨rfl, HB.out, OC.out _ BC.out⟩, BE.out _ BC.out⟩
    have hgood : STreeOkP ns ∧ ns = tidyN ns := Classical.byContradiction (fun h => by have := Q.out.1.mpr h; cases this)
    have HG := (show Hid _ from hgood)
    have hmost := hgood.1.1.most
    have NMs := names_small hgood.1.1
    have HM := (show Hid _ from NMs)
    have hnl := NMs.2
    have HT5 := (show Hid (TreeOkP ns) from hgood.1.1)
    clear hgood Q NMs
    go_wp2_with fail
    go_at_call 87
    refine Calls.mono (snames_any (HNA.out _ BC.out) HF.out hmost) ?_
    rintro e w4 ⟨nv, rfl, o4, b4⟩
    obtain ⟨na0, nn0, nc0, rfl⟩ := own_slice o4
    have N4 := (show Hid (OwnS w2.heap.size w4 (.slice na0 nn0 nc0) (namesL ns) ∧ Below w2.heap.size w2 w4) from ⟨ownsRow_base o4 BC.out.size, BC.out.trans (b4.mono BC.out.size)⟩)
    obtain ⟨enn, SC⟩ := str_cell (OwnS.sv N4.out.1)
    subst enn
    clear o4 b4 BC cT lT SC
    obtain ⟨nm, hnm⟩ : ∃ nm, nm = namesL ns := ⟨_, rfl⟩
    rw [← hnm] at N4 hnl HM ⊢
    have HNM := (show Hid (nm = namesL ns) from hnm)
    clear hnm
    go_wp2_with fail
    go_at_call 88
    refine Calls.mono (snum_any nm.length _ (by omega)) ?_
    rintro e w5 ⟨v5, rfl, o5, b5⟩
    obtain ⟨x5, y5, z5, rfl⟩ := own_slice o5
    have P5 := (show Hid (PkW w2 (.slice na0 nm.length nc0) nm (.slice x5 y5 z5) (form nm.length ++ (nm.take 0).flatMap textForm) w5) from ⟨by rw [List.take_zero, List.flatMap_nil, List.append_nil]; exact o5.base N4.out.2.size, N4.out.1.below b5, N4.out.2.trans (b5.mono N4.out.2.size)⟩)
    clear o5 b5 N4
    go_upto_region 7 with fail
    go_loopw [6, 7] (fun o i wr => ∃ (j : Nat) (x : Option Addr) (y z : Nat), j ≤ nm.length ∧ i = .int .i64 j ∧ o = .slice x y z ∧ Hid (PkW w2 (.slice na0 nm.length nc0) nm (.slice x y z) (form nm.length ++ (nm.take j).flatMap textForm) wr)) (fun _ i _ => nm.length - (intOf i).toNat)
    case atStart => exact ⟨0, _, _, _, Nat.zero_le _, rfl, rfl, P5.out⟩
    case round =>
      clear P5
      obtain ⟨j, x, y, z, hj, rfl, rfl, J⟩ := hrel
      have hBj : w2.heap.size ≤ wr.heap.size := J.out.2.2.size
      have cT := (J.out.2.2.cell (p := ⟨w.heap.size, 0, none⟩) l0).trans c0
      have lT : w.heap.size < wr.heap.size := Nat.lt_of_lt_of_le l0 hBj
      have hfl := form_len nm.length
      have htl := texts_small HT5.out j
      rw [← HNM.out] at htl
      by_cases hjt : j < nm.length
      · obtain ⟨_, SC⟩ := str_cell (OwnS.sv J.out.2.1)
        obtain ⟨bb, oo, rfl, lbb, csj⟩ := SC j hjt
        have hji : (j : Int) < (nm.length : Int) := by omega
        obtain ⟨s, hs⟩ : ∃ s, s = nm[j] := ⟨_, rfl⟩
        rw [← hs] at csj
        have hss : s.size ≤ 3000 := HM.out.1 s (by rw [hs]; exact List.getElem_mem hjt)
        have HTJ := (show Hid ((nm.take (j + 1)).flatMap textForm = (nm.take j).flatMap textForm ++ textForm s) from (by rw [List.take_succ_eq_append_getElem hjt, ← hs, List.flatMap_append, List.flatMap_singleton] : (nm.take (j + 1)).flatMap textForm = (nm.take j).flatMap textForm ++ textForm s))
        clear SC hs
        go_wp2_with fail
        go_at_call 89
        refine Calls.mono (sputText_any s _ (by omega)) ?_
        rintro e w6 ⟨v6, rfl, o6, b6⟩
        have J6 := (show Hid _ from PkW.below J.out b6)
        obtain ⟨x6, y6, z6, rfl⟩ := own_slice o6
        have hsl6 := o6.sl
        have hB6 : w2.heap.size ≤ w6.heap.size := J6.out.2.2.size
        replace cT := (J6.out.2.2.cell (p := ⟨w.heap.size, 0, none⟩) l0).trans c0
        have lT6 : w.heap.size < w6.heap.size := Nat.lt_of_lt_of_le l0 hB6
        have htf := textForm_len s
        have hb1 : (form nm.length ++ (nm.take j).flatMap textForm).length + (textForm s).length ≤ 140737488 := by rw [List.length_append]; omega
        have hown6 := J6.out.1
        clear o6 b6 htf hfl htl J
        go_wp2_with (first
          | (at_builtin
             refine wpList_app _ rfl _ _ 22 rfl w2.heap.size 5 i0 (.int .u8 0) 1 Tryz.underlying22 hi hz0 hz1 hz2 rfl .u8 _ _ (form nm.length ++ (nm.take j).flatMap textForm) (textForm s) rfl rfl hown6 hsl6 (by omega) (by unfold maxLen; omega) hB6 ?_
             intro v7 w7 o7 g7
             have J7 := (show Hid _ from PkW.put J6.out o7 g7)
             obtain ⟨x7, y7, z7, rfl⟩ := own_slice o7
             replace cT := (J7.out.2.2.cell (p := ⟨w.heap.size, 0, none⟩) l0).trans c0
             have lT7 : w.heap.size < w7.heap.size := Nat.lt_of_lt_of_le l0 J7.out.2.2.size
             clear o7 g7)
          | fail)
        go_roundw
        case rel => exact ⟨j + 1, _, _, _, by omega, by go_num, rfl, by rw [HTJ.out, ← List.append_assoc]; exact J7.out⟩
        case measure => simp [intOf]; omega
      · obtain rfl : j = nm.length := by omega
        go_wp2_with fail
        go_at_call 88
        refine Calls.mono (snum_any ns.length _ (by omega)) ?_
        rintro e w6 ⟨v6, rfl, o6, b6⟩
        have J6 := (show Hid _ from PkW.below J.out b6)
        obtain ⟨x6, y6, z6, rfl⟩ := own_slice o6
        have hsl6 := o6.sl
        have hB6 : w2.heap.size ≤ w6.heap.size := J6.out.2.2.size
        replace cT := (J6.out.2.2.cell (p := ⟨w.heap.size, 0, none⟩) l0).trans c0
        have lT6 : w.heap.size < w6.heap.size := Nat.lt_of_lt_of_le l0 hB6
        have hfs := form_len ns.length
        have hb1 : (form nm.length ++ (nm.take nm.length).flatMap textForm).length + (form ns.length).length ≤ 140737488 := by rw [List.length_append]; omega
        have hown6 := J6.out.1
        have HH := (show Hid (form nm.length ++ (nm.take nm.length).flatMap textForm ++ form ns.length = headL ns) from (by rw [List.take_length, HNM.out]; rfl : form nm.length ++ (nm.take nm.length).flatMap textForm ++ form ns.length = headL ns))
        clear o6 b6 hfs hfl htl J
        go_upto_region 12 with (first
          | (at_builtin
             refine wpList_app _ rfl _ _ 22 rfl w2.heap.size 5 i0 (.int .u8 0) 1 Tryz.underlying22 hi hz0 hz1 hz2 rfl .u8 _ _ (form nm.length ++ (nm.take nm.length).flatMap textForm) (form ns.length) rfl rfl hown6 hsl6 (by omega) (by unfold maxLen; omega) hB6 ?_
             intro v7 w7 o7 g7
             have J7 := (show Hid (PkW w2 (.slice na0 nm.length nc0) nm v7 (headL ns ++ (ns.take 0).flatMap (nodeF nm)) w7) from by rw [List.take_zero, List.flatMap_nil, List.append_nil, ← HH.out]; exact PkW.put J6.out o7 g7)
             obtain ⟨x7, y7, z7, rfl⟩ := own_slice o7
             replace cT := (J7.out.2.2.cell (p := ⟨w.heap.size, 0, none⟩) l0).trans c0
             have lT7 : w.heap.size < w7.heap.size := Nat.lt_of_lt_of_le l0 J7.out.2.2.size
             clear o7 g7)
          | fail)
        clear J6 hsl6 hown6 HH hb1 hB6 hBj hjt hj
        go_loopw [6, 8] (fun o i wr => ∃ (k : Nat) (x : Option Addr) (y z : Nat), k ≤ ns.length ∧ i = .int .i64 k ∧ o = .slice x y z ∧ Hid (PkW w2 (.slice na0 nm.length nc0) nm (.slice x y z) (headL ns ++ (ns.take k).flatMap (nodeF nm)) wr)) (fun _ i _ => ns.length - (intOf i).toNat)
        case atStart => exact ⟨0, _, _, _, Nat.zero_le _, rfl, rfl, J7.out⟩
        case round =>
          clear J7
          obtain ⟨k, x, y, z, hk, rfl, rfl, R⟩ := hrel
          have hBr : w2.heap.size ≤ wr.heap.size := R.out.2.2.size
          replace cT := (R.out.2.2.cell (p := ⟨w.heap.size, 0, none⟩) l0).trans c0
          have lT8 : w.heap.size < wr.heap.size := Nat.lt_of_lt_of_le l0 hBr
          have hhl := headL_small HT5.out
          have hfl := nodesF_small (nm := nm) HT5.out k
          by_cases hlt : k < ns.length
          rotate_left
          · obtain rfl : k = ns.length := by omega
            have HE := (show Hid (Own w2.heap.size 5 .u8 wr (.slice x y z) (packL ns)) from (by have := R.out.1; rwa [List.take_length, HNM.out, ← packL_eq] at this : Own w2.heap.size 5 .u8 wr (.slice x y z) (packL ns)))
            obtain rfl : y = (packL ns).length := own_len HE.out
            have BR := (show Hid _ from R.out.2.2)
            by_cases hbig : (20000 : Int) < ((packL ns).length : Int)
            · have HNG := (show Hid (¬ goodT ns) from fun h => by have := h.2.2; omega)
              go_wp2
              go_ret2
              exact ⟨_, _, rfl, .inr ⟨rfl, HNG.out, OC.out _ BR.out⟩, BE.out _ BR.out⟩
            · have HGD := (show Hid (goodT ns) from ⟨HG.out.1, HG.out.2.symm, by omega⟩)
              go_wp2
              go_ret2
              exact ⟨_, _, rfl, .inl ⟨rfl, HGD.out, OE.out _ _ _ HE.out⟩, BE.out _ BR.out⟩
          obtain ⟨b1, o1, av, kv, rfl, hb1, d0, d1, d2, d3, d4, d5, hav, hkv⟩ := HX.out k hlt
          have BW := R.out.2.2
          replace d0 := (BW.cell (p := ⟨b1, o1 + k * 6, none⟩) hb1).trans d0
          replace d1 := (BW.cell (p := ⟨b1, o1 + k * 6 + 1, none⟩) hb1).trans d1
          replace d2 := (BW.cell (p := ⟨b1, o1 + k * 6 + 2, none⟩) hb1).trans d2
          replace d3 := (BW.cell (p := ⟨b1, o1 + k * 6 + 3, none⟩) hb1).trans d3
          replace d4 := (BW.cell (p := ⟨b1, o1 + k * 6 + 4, none⟩) hb1).trans d4
          replace d5 := (BW.cell (p := ⟨b1, o1 + k * 6 + 5, none⟩) hb1).trans d5
          have hb1' : b1 < wr.heap.size := Nat.lt_of_lt_of_le hb1 BW.size
          have HTK := (show Hid ((ns.take (k + 1)).flatMap (nodeF nm) = (ns.take k).flatMap (nodeF nm) ++ nodeF nm ns[k]) from (by rw [List.take_succ_eq_append_getElem hlt, List.flatMap_append, List.flatMap_singleton] : (ns.take (k + 1)).flatMap (nodeF nm) = (ns.take k).flatMap (nodeF nm) ++ nodeF nm ns[k]))
          have hsm := small_all HT5.out k hlt
          have htl := tells_of HT5.out hlt
          obtain ⟨n, hnd⟩ : ∃ n, n = ns[k] := ⟨_, rfl⟩
          rw [← HNM.out] at htl
          rw [← hnd] at d0 d1 d3 d4 hav hkv hsm HTK htl
          have HSM := (show Hid (SmallN n) from hsm)
          have HTL := (show Hid (Tells nm n) from htl)
          obtain ⟨y1, y3, rfl, ha1, ha2, ha3⟩ := hav.pair
          obtain ⟨p1, p3, rfl, hp1, hp2, _, _⟩ := hkv
          have hkk := htl.kind
          have hkl := htl.kids
          have hal := hsm.rs
          obtain ⟨nk, nn, na, nt, np, nks⟩ := n
          simp only at d0 d1 d2 d3 d4 d5 ha1 hkk hkl hal
          have A3 := (show Hid _ from ha3)
          have hki : (k : Int) < (ns.length : Int) := by omega
          clear ha3 hnd hav BW hsm htl
          go_upto_region 15 with fail
          obtain ⟨w6, hw6⟩ : ∃ q, q = wr.alloc (.cells #[.int .i64 nk, .string nn, .slice y1 na.length y3, .string nt, .int .i64 np, .slice p1 nks.length p3] 36) := ⟨_, rfl⟩
          rw [← hw6]
          have b6 : Below wr.heap.size wr w6 := by rw [hw6]; exact (Below.refl _ _).alloc (Nat.le_refl _) _
          have g6 : w6.heap[wr.heap.size]? = some (.cells #[.int .i64 nk, .string nn, .slice y1 na.length y3, .string nt, .int .i64 np, .slice p1 nks.length p3] 36 (0, 0)) := by rw [hw6]; exact World.alloc_heap_new _ _
          obtain ⟨C0, hC0⟩ : ∃ C0, C0 = headL ns ++ (ns.take k).flatMap (nodeF nm) := ⟨_, rfl⟩
          have hC0l : C0.length ≤ 66600000 := by rw [hC0, List.length_append]; omega
          rw [← hC0] at R
          have N6 := (show Hid (PkN w2 (.slice na0 nm.length nc0) nm (.slice x y z) C0 wr.heap.size #[.int .i64 nk, .string nn, .slice y1 na.length y3, .string nt, .int .i64 np, .slice p1 nks.length p3] w6) from ⟨PkW.below R.out b6, g6⟩)
          obtain ⟨⟨n0, n1, n2, n3, n4, n5⟩, _⟩ := six_at g6
          obtain ⟨P, hP⟩ : ∃ P, P = wr.heap.size := ⟨_, rfl⟩
          rw [← hP] at n0 n1 n2 n3 n4 n5 N6 ⊢
          have hfk := form_len nk
          have hfq := form_len nks.length
          have HC0 := (show Hid _ from hC0)
          clear hw6 b6 g6 hP R cT d0 d1 d2 d3 d4 d5 hb1' hC0 hhl hfl hBr
          go_wp2_with fail
          go_at_call 88
          refine Calls.mono (snum_any nk _ (by omega)) ?_
          rintro e wa1 ⟨va1, rfl, oa1, ba1⟩
          have K1 := (show Hid _ from PkN.below N6.out ba1)
          obtain ⟨xa1, ya1, za1, rfl⟩ := own_slice oa1
          have hsl1 := oa1.sl
          have hB1 : w2.heap.size ≤ wa1.heap.size := K1.out.1.2.2.size
          have hlf1 : (form nk).length ≤ 10000 := by exact Nat.le_trans (form_len _) (by omega)
          have hlb1 : (C0).length + (form nk).length ≤ 140737488 := by omega
          have hown1 := K1.out.1.1
          clear n0 n1 n2 n3 n4 n5
          obtain ⟨⟨n0, n1, n2, n3, n4, n5⟩, _⟩ := six_at K1.out.2
          obtain ⟨X1, hX1⟩ : ∃ X, X = C0 ++ form nk := ⟨_, rfl⟩
          have hXl1 : X1.length ≤ (C0).length + 10000 := by rw [hX1, List.length_append]; omega
          have HXX1 := (show Hid _ from hX1)
          clear oa1 ba1 N6
          go_wp2_with (first
            | (at_builtin
               refine wpList_app _ rfl _ _ 22 rfl w2.heap.size 5 i0 (.int .u8 0) 1 Tryz.underlying22 hi hz0 hz1 hz2 rfl .u8 _ _ (C0) (form nk) rfl rfl hown1 hsl1 (by omega) (by unfold maxLen; omega) hB1 ?_
               intro vb1 wb1 ob1 gb1
               rw [← hX1] at ob1
               have N1 := (show Hid _ from PkN.put K1.out ob1 gb1)
               obtain ⟨xb1, yb1, zb1, rfl⟩ := own_slice ob1
               clear n0 n1 n2 n3 n4 n5
               obtain ⟨⟨n0, n1, n2, n3, n4, n5⟩, _⟩ := six_at N1.out.2
               have lP1 := blk_lt N1.out.2
               clear ob1 gb1)
            | fail)
          clear K1 hsl1 hlb1 hlf1 hown1 hX1
          clear hlt hfk hfq
          by_cases e1 : nk = 1
          · subst e1
            go_wp2_with fail
            go_at_call 88
            refine Calls.mono (snum_any nks.length _ (by omega)) ?_
            rintro e wa2 ⟨va2, rfl, oa2, ba2⟩
            have K2 := (show Hid _ from PkN.below N1.out ba2)
            obtain ⟨xa2, ya2, za2, rfl⟩ := own_slice oa2
            have hsl2 := oa2.sl
            have hB2 : w2.heap.size ≤ wa2.heap.size := K2.out.1.2.2.size
            have hlf2 : (form nks.length).length ≤ 10000 := by exact Nat.le_trans (form_len _) (by omega)
            have hlb2 : (X1).length + (form nks.length).length ≤ 140737488 := by omega
            have hown2 := K2.out.1.1
            clear n0 n1 n2 n3 n4 n5
            obtain ⟨⟨n0, n1, n2, n3, n4, n5⟩, _⟩ := six_at K2.out.2
            obtain ⟨X2, hX2⟩ : ∃ X, X = X1 ++ form nks.length := ⟨_, rfl⟩
            have hXl2 : X2.length ≤ (X1).length + 10000 := by rw [hX2, List.length_append]; omega
            have HXX2 := (show Hid _ from hX2)
            clear oa2 ba2 N1
            go_wp2_with (first
              | (at_builtin
                 refine wpList_app _ rfl _ _ 22 rfl w2.heap.size 5 i0 (.int .u8 0) 1 Tryz.underlying22 hi hz0 hz1 hz2 rfl .u8 _ _ (X1) (form nks.length) rfl rfl hown2 hsl2 (by omega) (by unfold maxLen; omega) hB2 ?_
                 intro vb2 wb2 ob2 gb2
                 rw [← hX2] at ob2
                 have N2 := (show Hid _ from PkN.put K2.out ob2 gb2)
                 obtain ⟨xb2, yb2, zb2, rfl⟩ := own_slice ob2
                 clear n0 n1 n2 n3 n4 n5
                 obtain ⟨⟨n0, n1, n2, n3, n4, n5⟩, _⟩ := six_at N2.out.2
                 have lP2 := blk_lt N2.out.2
                 clear ob2 gb2)
              | fail)
            clear K2 hsl2 hlb2 hlf2 hown2 hX2
            have HE := (show Hid _ from (by rw [HTK.out, ← List.append_assoc, ← HC0.out, HXX2.out, HXX1.out]; simp [nodeF, restF] : headL ns ++ (ns.take (k + 1)).flatMap (nodeF nm) = X2))
            go_roundw
            case rel => exact ⟨k + 1, _, _, _, by omega, by go_num, rfl, by rw [HE.out]; exact N2.out.1⟩
            case measure => simp [intOf]; omega
          by_cases e2 : nk = 2
          · subst e2
            go_wp2_with fail
            go_at_call 88
            refine Calls.mono (snum_any nks.length _ (by omega)) ?_
            rintro e wa2 ⟨va2, rfl, oa2, ba2⟩
            have K2 := (show Hid _ from PkN.below N1.out ba2)
            obtain ⟨xa2, ya2, za2, rfl⟩ := own_slice oa2
            have hsl2 := oa2.sl
            have hB2 : w2.heap.size ≤ wa2.heap.size := K2.out.1.2.2.size
            have hlf2 : (form nks.length).length ≤ 10000 := by exact Nat.le_trans (form_len _) (by omega)
            have hlb2 : (X1).length + (form nks.length).length ≤ 140737488 := by omega
            have hown2 := K2.out.1.1
            clear n0 n1 n2 n3 n4 n5
            obtain ⟨⟨n0, n1, n2, n3, n4, n5⟩, _⟩ := six_at K2.out.2
            obtain ⟨X2, hX2⟩ : ∃ X, X = X1 ++ form nks.length := ⟨_, rfl⟩
            have hXl2 : X2.length ≤ (X1).length + 10000 := by rw [hX2, List.length_append]; omega
            have HXX2 := (show Hid _ from hX2)
            clear oa2 ba2 N1
            go_wp2_with (first
              | (at_builtin
                 refine wpList_app _ rfl _ _ 22 rfl w2.heap.size 5 i0 (.int .u8 0) 1 Tryz.underlying22 hi hz0 hz1 hz2 rfl .u8 _ _ (X1) (form nks.length) rfl rfl hown2 hsl2 (by omega) (by unfold maxLen; omega) hB2 ?_
                 intro vb2 wb2 ob2 gb2
                 rw [← hX2] at ob2
                 have N2 := (show Hid _ from PkN.put K2.out ob2 gb2)
                 obtain ⟨xb2, yb2, zb2, rfl⟩ := own_slice ob2
                 clear n0 n1 n2 n3 n4 n5
                 obtain ⟨⟨n0, n1, n2, n3, n4, n5⟩, _⟩ := six_at N2.out.2
                 have lP2 := blk_lt N2.out.2
                 clear ob2 gb2)
              | fail)
            clear K2 hsl2 hlb2 hlf2 hown2 hX2
            go_wp2_with fail
            go_at_call 90
            refine Calls.mono (sfindS_any (OwnS.sv N2.out.1.2.1) (by omega) nn) ?_
            rintro e wf3 ⟨rfl, ew3⟩
            replace ew3 := ew3.symm
            subst ew3
            go_wp2_with fail
            go_at_call 88
            refine Calls.mono (snum_any (fndS nm nn) _ (by have := HTL.out.name (by simp); have := (fndS_tells _ _ this).1; simp only at this; omega)) ?_
            rintro e wa3 ⟨va3, rfl, oa3, ba3⟩
            have K3 := (show Hid _ from PkN.below N2.out ba3)
            obtain ⟨xa3, ya3, za3, rfl⟩ := own_slice oa3
            have hsl3 := oa3.sl
            have hB3 : w2.heap.size ≤ wa3.heap.size := K3.out.1.2.2.size
            have hlf3 : (form (fndS nm nn)).length ≤ 10000 := by exact Nat.le_trans (form_len _) (by omega)
            have hlb3 : (X2).length + (form (fndS nm nn)).length ≤ 140737488 := by omega
            have hown3 := K3.out.1.1
            clear n0 n1 n2 n3 n4 n5
            obtain ⟨⟨n0, n1, n2, n3, n4, n5⟩, _⟩ := six_at K3.out.2
            obtain ⟨X3, hX3⟩ : ∃ X, X = X2 ++ form (fndS nm nn) := ⟨_, rfl⟩
            have hXl3 : X3.length ≤ (X2).length + 10000 := by rw [hX3, List.length_append]; omega
            have HXX3 := (show Hid _ from hX3)
            clear oa3 ba3 N2
            go_wp2_with (first
              | (at_builtin
                 refine wpList_app _ rfl _ _ 22 rfl w2.heap.size 5 i0 (.int .u8 0) 1 Tryz.underlying22 hi hz0 hz1 hz2 rfl .u8 _ _ (X2) (form (fndS nm nn)) rfl rfl hown3 hsl3 (by omega) (by unfold maxLen; omega) hB3 ?_
                 intro vb3 wb3 ob3 gb3
                 rw [← hX3] at ob3
                 have N3 := (show Hid _ from PkN.put K3.out ob3 gb3)
                 obtain ⟨xb3, yb3, zb3, rfl⟩ := own_slice ob3
                 clear n0 n1 n2 n3 n4 n5
                 obtain ⟨⟨n0, n1, n2, n3, n4, n5⟩, _⟩ := six_at N3.out.2
                 have lP3 := blk_lt N3.out.2
                 clear ob3 gb3)
              | fail)
            clear K3 hsl3 hlb3 hlf3 hown3 hX3
            have HE := (show Hid _ from (by rw [HTK.out, ← List.append_assoc, ← HC0.out, HXX3.out, HXX2.out, HXX1.out]; simp [nodeF, restF] : headL ns ++ (ns.take (k + 1)).flatMap (nodeF nm) = X3))
            go_roundw
            case rel => exact ⟨k + 1, _, _, _, by omega, by go_num, rfl, by rw [HE.out]; exact N3.out.1⟩
            case measure => simp [intOf]; omega
          by_cases e3 : nk = 3
          · subst e3
            go_wp2_with fail
            go_at_call 88
            refine Calls.mono (snum_any nks.length _ (by omega)) ?_
            rintro e wa2 ⟨va2, rfl, oa2, ba2⟩
            have K2 := (show Hid _ from PkN.below N1.out ba2)
            obtain ⟨xa2, ya2, za2, rfl⟩ := own_slice oa2
            have hsl2 := oa2.sl
            have hB2 : w2.heap.size ≤ wa2.heap.size := K2.out.1.2.2.size
            have hlf2 : (form nks.length).length ≤ 10000 := by exact Nat.le_trans (form_len _) (by omega)
            have hlb2 : (X1).length + (form nks.length).length ≤ 140737488 := by omega
            have hown2 := K2.out.1.1
            clear n0 n1 n2 n3 n4 n5
            obtain ⟨⟨n0, n1, n2, n3, n4, n5⟩, _⟩ := six_at K2.out.2
            obtain ⟨X2, hX2⟩ : ∃ X, X = X1 ++ form nks.length := ⟨_, rfl⟩
            have hXl2 : X2.length ≤ (X1).length + 10000 := by rw [hX2, List.length_append]; omega
            have HXX2 := (show Hid _ from hX2)
            clear oa2 ba2 N1
            go_wp2_with (first
              | (at_builtin
                 refine wpList_app _ rfl _ _ 22 rfl w2.heap.size 5 i0 (.int .u8 0) 1 Tryz.underlying22 hi hz0 hz1 hz2 rfl .u8 _ _ (X1) (form nks.length) rfl rfl hown2 hsl2 (by omega) (by unfold maxLen; omega) hB2 ?_
                 intro vb2 wb2 ob2 gb2
                 rw [← hX2] at ob2
                 have N2 := (show Hid _ from PkN.put K2.out ob2 gb2)
                 obtain ⟨xb2, yb2, zb2, rfl⟩ := own_slice ob2
                 clear n0 n1 n2 n3 n4 n5
                 obtain ⟨⟨n0, n1, n2, n3, n4, n5⟩, _⟩ := six_at N2.out.2
                 have lP2 := blk_lt N2.out.2
                 clear ob2 gb2)
              | fail)
            clear K2 hsl2 hlb2 hlf2 hown2 hX2
            go_wp2_with fail
            go_at_call 90
            refine Calls.mono (sfindS_any (OwnS.sv N2.out.1.2.1) (by omega) nn) ?_
            rintro e wf3 ⟨rfl, ew3⟩
            replace ew3 := ew3.symm
            subst ew3
            go_wp2_with fail
            go_at_call 88
            refine Calls.mono (snum_any (fndS nm nn) _ (by have := HTL.out.name (by simp); have := (fndS_tells _ _ this).1; simp only at this; omega)) ?_
            rintro e wa3 ⟨va3, rfl, oa3, ba3⟩
            have K3 := (show Hid _ from PkN.below N2.out ba3)
            obtain ⟨xa3, ya3, za3, rfl⟩ := own_slice oa3
            have hsl3 := oa3.sl
            have hB3 : w2.heap.size ≤ wa3.heap.size := K3.out.1.2.2.size
            have hlf3 : (form (fndS nm nn)).length ≤ 10000 := by exact Nat.le_trans (form_len _) (by omega)
            have hlb3 : (X2).length + (form (fndS nm nn)).length ≤ 140737488 := by omega
            have hown3 := K3.out.1.1
            clear n0 n1 n2 n3 n4 n5
            obtain ⟨⟨n0, n1, n2, n3, n4, n5⟩, _⟩ := six_at K3.out.2
            obtain ⟨X3, hX3⟩ : ∃ X, X = X2 ++ form (fndS nm nn) := ⟨_, rfl⟩
            have hXl3 : X3.length ≤ (X2).length + 10000 := by rw [hX3, List.length_append]; omega
            have HXX3 := (show Hid _ from hX3)
            clear oa3 ba3 N2
            go_wp2_with (first
              | (at_builtin
                 refine wpList_app _ rfl _ _ 22 rfl w2.heap.size 5 i0 (.int .u8 0) 1 Tryz.underlying22 hi hz0 hz1 hz2 rfl .u8 _ _ (X2) (form (fndS nm nn)) rfl rfl hown3 hsl3 (by omega) (by unfold maxLen; omega) hB3 ?_
                 intro vb3 wb3 ob3 gb3
                 rw [← hX3] at ob3
                 have N3 := (show Hid _ from PkN.put K3.out ob3 gb3)
                 obtain ⟨xb3, yb3, zb3, rfl⟩ := own_slice ob3
                 clear n0 n1 n2 n3 n4 n5
                 obtain ⟨⟨n0, n1, n2, n3, n4, n5⟩, _⟩ := six_at N3.out.2
                 have lP3 := blk_lt N3.out.2
                 clear ob3 gb3)
              | fail)
            clear K3 hsl3 hlb3 hlf3 hown3 hX3
            go_wp2_with fail
            go_at_call 88
            refine Calls.mono (snum_any na.length _ (by omega)) ?_
            rintro e wa4 ⟨va4, rfl, oa4, ba4⟩
            have K4 := (show Hid _ from PkN.below N3.out ba4)
            obtain ⟨xa4, ya4, za4, rfl⟩ := own_slice oa4
            have hsl4 := oa4.sl
            have hB4 : w2.heap.size ≤ wa4.heap.size := K4.out.1.2.2.size
            have hlf4 : (form na.length).length ≤ 10000 := by exact Nat.le_trans (form_len _) (by omega)
            have hlb4 : (X3).length + (form na.length).length ≤ 140737488 := by omega
            have hown4 := K4.out.1.1
            clear n0 n1 n2 n3 n4 n5
            obtain ⟨⟨n0, n1, n2, n3, n4, n5⟩, _⟩ := six_at K4.out.2
            obtain ⟨X4, hX4⟩ : ∃ X, X = X3 ++ form na.length := ⟨_, rfl⟩
            have hXl4 : X4.length ≤ (X3).length + 10000 := by rw [hX4, List.length_append]; omega
            have HXX4 := (show Hid _ from hX4)
            clear oa4 ba4 N3
            go_upto_region 24 with (first
              | (at_builtin
                 refine wpList_app _ rfl _ _ 22 rfl w2.heap.size 5 i0 (.int .u8 0) 1 Tryz.underlying22 hi hz0 hz1 hz2 rfl .u8 _ _ (X3) (form na.length) rfl rfl hown4 hsl4 (by omega) (by unfold maxLen; omega) hB4 ?_
                 intro vb4 wb4 ob4 gb4
                 rw [← hX4] at ob4
                 have N4 := (show Hid _ from PkN.put K4.out ob4 gb4)
                 obtain ⟨xb4, yb4, zb4, rfl⟩ := own_slice ob4
                 clear n0 n1 n2 n3 n4 n5
                 obtain ⟨⟨n0, n1, n2, n3, n4, n5⟩, _⟩ := six_at N4.out.2
                 have lP4 := blk_lt N4.out.2
                 clear ob4 gb4)
              | fail)
            clear K4 hsl4 hlb4 hlf4 hown4 hX4
            have M4 := (show Hid (PkN w2 (.slice na0 nm.length nc0) nm (.slice xb4 yb4 zb4) (X4 ++ (na.take 0).flatMap (attrF nm)) P #[.int .i64 3, .string nn, .slice y1 na.length y3, .string nt, .int .i64 np, .slice p1 nks.length p3] wb4) from by rw [List.take_zero, List.flatMap_nil, List.append_nil]; exact N4.out)
            clear n0 n1 n2 n3 n4 n5 N4
            go_loopw [6, 10] (fun o i wx => ∃ (j : Nat) (x : Option Addr) (y z : Nat), j ≤ na.length ∧ i = .int .i64 j ∧ o = .slice x y z ∧ Hid (PkN w2 (.slice na0 nm.length nc0) nm (.slice x y z) (X4 ++ (na.take j).flatMap (attrF nm)) P #[.int .i64 3, .string nn, .slice y1 na.length y3, .string nt, .int .i64 np, .slice p1 nks.length p3] wx)) (fun _ i _ => na.length - (intOf i).toNat)
            case atStart => exact ⟨0, _, _, _, Nat.zero_le _, rfl, rfl, M4.out⟩
            case round =>
              clear M4
              obtain ⟨j, x', y', z', hj, rfl, rfl, J⟩ := hrel
              obtain ⟨⟨m0, m1, m2, m3, m4, m5⟩, _⟩ := six_at J.out.2
              have lPj := blk_lt J.out.2
              have hBj : w2.heap.size ≤ wr.heap.size := J.out.1.2.2.size
              have hla := attrsF_small (nm := nm) HSM.out j
              simp only at hla
              by_cases hjt : j < na.length
              · obtain ⟨bb, oo, rfl, l1, t1, t2⟩ := A3.out j hjt
                have HTJ := (show Hid ((na.take (j + 1)).flatMap (attrF nm) = (na.take j).flatMap (attrF nm) ++ attrF nm na[j]) from (by rw [List.take_succ_eq_append_getElem hjt, List.flatMap_append, List.flatMap_singleton] : (na.take (j + 1)).flatMap (attrF nm) = (na.take j).flatMap (attrF nm) ++ attrF nm na[j]))
                have hpa := HTL.out.attrs (by simp) _ (List.getElem_mem hjt)
                have hsz := HSM.out.each _ (List.getElem_mem hjt)
                obtain ⟨p, hp⟩ : ∃ p, p = na[j] := ⟨_, rfl⟩
                rw [← hp] at t1 t2 HTJ
                have hpa' : na[j].1 ∈ nm := hpa.1
                have hsz' : attrOk na[j] = true := hsz
                clear hpa hsz
                rw [← hp] at hpa' hsz'
                obtain ⟨pa, pv⟩ := p
                unfold attrOk at hsz'
                simp only [Bool.and_eq_true, inB, decide_eq_true_eq] at hsz'
                simp only at hpa' t1 t2
                have hpv : pv.size ≤ 3000 := by omega
                have T1 := (show Hid (∀ W, Below w2.heap.size w2 W → W.cell? ⟨bb, oo + j * 2, none⟩ = some (.string pa)) from fun W b => (b.cell (p := ⟨bb, oo + j * 2, none⟩) l1).trans t1)
                have T2 := (show Hid (∀ W, Below w2.heap.size w2 W → W.cell? ⟨bb, oo + j * 2 + 1, none⟩ = some (.string pv)) from fun W b => (b.cell (p := ⟨bb, oo + j * 2 + 1, none⟩) l1).trans t2)
                replace t1 := T1.out _ J.out.1.2.2
                replace t2 := T2.out _ J.out.1.2.2
                have hfn := (fndS_tells _ _ hpa').1
                have hji : (j : Int) < (na.length : Int) := by omega
                have lbb : bb < wr.heap.size := Nat.lt_of_lt_of_le l1 hBj
                clear hp hsz' hpa'
                obtain ⟨X5, hX5⟩ : ∃ X5, X5 = X4 ++ (na.take j).flatMap (attrF nm) := ⟨_, rfl⟩
                have hXl5 : X5.length ≤ X4.length + 60360 := by rw [hX5, List.length_append]; omega
                rw [← hX5] at J
                have HX5 := (show Hid _ from hX5)
                clear hX5 hla
            -- FIND
                go_wp2_with fail
                go_at_call 90
                refine Calls.mono (sfindS_any (OwnS.sv J.out.1.2.1) (by omega) pa) ?_
                rintro e wf6 ⟨rfl, ew6⟩
                replace ew6 := ew6.symm
                subst ew6
                go_wp2_with fail
                go_at_call 88
                refine Calls.mono (snum_any (fndS nm pa) _ (by omega)) ?_
                rintro e wa6 ⟨va6, rfl, oa6, ba6⟩
                have K6 := (show Hid _ from PkN.below J.out ba6)
                obtain ⟨xa6, ya6, za6, rfl⟩ := own_slice oa6
                have hsl6 := oa6.sl
                have hB6 : w2.heap.size ≤ wa6.heap.size := K6.out.1.2.2.size
                have hlf6 : (form (fndS nm pa)).length ≤ 10000 := by exact Nat.le_trans (form_len _) (by omega)
                have hlb6 : (X5).length + (form (fndS nm pa)).length ≤ 140737488 := by omega
                have hown6 := K6.out.1.1
                clear m0 m1 m2 m3 m4 m5
                obtain ⟨⟨m0, m1, m2, m3, m4, m5⟩, _⟩ := six_at K6.out.2
                replace t1 := T1.out _ K6.out.1.2.2
                replace t2 := T2.out _ K6.out.1.2.2
                replace lbb := Nat.lt_of_lt_of_le l1 K6.out.1.2.2.size
                obtain ⟨X6, hX6⟩ : ∃ X, X = X5 ++ form (fndS nm pa) := ⟨_, rfl⟩
                have hXl6 : X6.length ≤ (X5).length + 10000 := by rw [hX6, List.length_append]; omega
                have HXX6 := (show Hid _ from hX6)
                clear oa6 ba6 J
                go_wp2_with (first
                  | (at_builtin
                     refine wpList_app _ rfl _ _ 22 rfl w2.heap.size 5 i0 (.int .u8 0) 1 Tryz.underlying22 hi hz0 hz1 hz2 rfl .u8 _ _ (X5) (form (fndS nm pa)) rfl rfl hown6 hsl6 (by omega) (by unfold maxLen; omega) hB6 ?_
                     intro vb6 wb6 ob6 gb6
                     rw [← hX6] at ob6
                     have N6 := (show Hid _ from PkN.put K6.out ob6 gb6)
                     obtain ⟨xb6, yb6, zb6, rfl⟩ := own_slice ob6
                     clear m0 m1 m2 m3 m4 m5
                     obtain ⟨⟨m0, m1, m2, m3, m4, m5⟩, _⟩ := six_at N6.out.2
                     replace t1 := T1.out _ N6.out.1.2.2
                     replace t2 := T2.out _ N6.out.1.2.2
                     replace lbb := Nat.lt_of_lt_of_le l1 N6.out.1.2.2.size
                     have lP6 := blk_lt N6.out.2
                     clear ob6 gb6)
                  | fail)
                clear K6 hsl6 hlb6 hlf6 hown6 hX6
                go_wp2_with fail
                go_at_call 89
                refine Calls.mono (sputText_any pv _ (by omega)) ?_
                rintro e wa7 ⟨va7, rfl, oa7, ba7⟩
                have K7 := (show Hid _ from PkN.below N6.out ba7)
                obtain ⟨xa7, ya7, za7, rfl⟩ := own_slice oa7
                have hsl7 := oa7.sl
                have hB7 : w2.heap.size ≤ wa7.heap.size := K7.out.1.2.2.size
                have hlf7 : (textForm pv).length ≤ 10000 := by have h := textForm_len pv; omega
                have hlb7 : (X6).length + (textForm pv).length ≤ 140737488 := by omega
                have hown7 := K7.out.1.1
                clear m0 m1 m2 m3 m4 m5
                obtain ⟨⟨m0, m1, m2, m3, m4, m5⟩, _⟩ := six_at K7.out.2
                replace t1 := T1.out _ K7.out.1.2.2
                replace t2 := T2.out _ K7.out.1.2.2
                replace lbb := Nat.lt_of_lt_of_le l1 K7.out.1.2.2.size
                obtain ⟨X7, hX7⟩ : ∃ X, X = X6 ++ textForm pv := ⟨_, rfl⟩
                have hXl7 : X7.length ≤ (X6).length + 10000 := by rw [hX7, List.length_append]; omega
                have HXX7 := (show Hid _ from hX7)
                clear oa7 ba7 N6
                go_wp2_with (first
                  | (at_builtin
                     refine wpList_app _ rfl _ _ 22 rfl w2.heap.size 5 i0 (.int .u8 0) 1 Tryz.underlying22 hi hz0 hz1 hz2 rfl .u8 _ _ (X6) (textForm pv) rfl rfl hown7 hsl7 (by omega) (by unfold maxLen; omega) hB7 ?_
                     intro vb7 wb7 ob7 gb7
                     rw [← hX7] at ob7
                     have N7 := (show Hid _ from PkN.put K7.out ob7 gb7)
                     obtain ⟨xb7, yb7, zb7, rfl⟩ := own_slice ob7
                     clear m0 m1 m2 m3 m4 m5
                     obtain ⟨⟨m0, m1, m2, m3, m4, m5⟩, _⟩ := six_at N7.out.2
                     replace t1 := T1.out _ N7.out.1.2.2
                     replace t2 := T2.out _ N7.out.1.2.2
                     replace lbb := Nat.lt_of_lt_of_le l1 N7.out.1.2.2.size
                     have lP7 := blk_lt N7.out.2
                     clear ob7 gb7)
                  | fail)
                clear K7 hsl7 hlb7 hlf7 hown7 hX7
                have HE := (show Hid _ from (by rw [HTJ.out, ← List.append_assoc, ← HX5.out, HXX7.out, HXX6.out]; simp [attrF] : X4 ++ (na.take (j + 1)).flatMap (attrF nm) = X7))
                go_roundw
                case rel => exact ⟨j + 1, _, _, _, by omega, by go_num, rfl, by rw [HE.out]; exact N7.out⟩
                case measure => simp [intOf]; omega
              · obtain rfl : j = na.length := by omega
                have HE := (show Hid _ from (by rw [HTK.out, ← List.append_assoc, ← HC0.out, HXX4.out, HXX3.out, HXX2.out, HXX1.out, List.take_length]; simp [nodeF, restF] : headL ns ++ (ns.take (k + 1)).flatMap (nodeF nm) = X4 ++ (na.take na.length).flatMap (attrF nm)))
                go_wp2
                go_roundw
                case rel => exact ⟨k + 1, _, _, _, by omega, by go_num, rfl, by rw [HE.out]; exact J.out.1⟩
                case measure => simp [intOf]; omega
          by_cases e4 : nk = 4
          · subst e4
            go_wp2_with fail
            go_at_call 88
            refine Calls.mono (snum_any nks.length _ (by omega)) ?_
            rintro e wa2 ⟨va2, rfl, oa2, ba2⟩
            have K2 := (show Hid _ from PkN.below N1.out ba2)
            obtain ⟨xa2, ya2, za2, rfl⟩ := own_slice oa2
            have hsl2 := oa2.sl
            have hB2 : w2.heap.size ≤ wa2.heap.size := K2.out.1.2.2.size
            have hlf2 : (form nks.length).length ≤ 10000 := by exact Nat.le_trans (form_len _) (by omega)
            have hlb2 : (X1).length + (form nks.length).length ≤ 140737488 := by omega
            have hown2 := K2.out.1.1
            clear n0 n1 n2 n3 n4 n5
            obtain ⟨⟨n0, n1, n2, n3, n4, n5⟩, _⟩ := six_at K2.out.2
            obtain ⟨X2, hX2⟩ : ∃ X, X = X1 ++ form nks.length := ⟨_, rfl⟩
            have hXl2 : X2.length ≤ (X1).length + 10000 := by rw [hX2, List.length_append]; omega
            have HXX2 := (show Hid _ from hX2)
            clear oa2 ba2 N1
            go_wp2_with (first
              | (at_builtin
                 refine wpList_app _ rfl _ _ 22 rfl w2.heap.size 5 i0 (.int .u8 0) 1 Tryz.underlying22 hi hz0 hz1 hz2 rfl .u8 _ _ (X1) (form nks.length) rfl rfl hown2 hsl2 (by omega) (by unfold maxLen; omega) hB2 ?_
                 intro vb2 wb2 ob2 gb2
                 rw [← hX2] at ob2
                 have N2 := (show Hid _ from PkN.put K2.out ob2 gb2)
                 obtain ⟨xb2, yb2, zb2, rfl⟩ := own_slice ob2
                 clear n0 n1 n2 n3 n4 n5
                 obtain ⟨⟨n0, n1, n2, n3, n4, n5⟩, _⟩ := six_at N2.out.2
                 have lP2 := blk_lt N2.out.2
                 clear ob2 gb2)
              | fail)
            clear K2 hsl2 hlb2 hlf2 hown2 hX2
            go_wp2_with fail
            go_at_call 89
            refine Calls.mono (sputText_any nt _ (by have := HSM.out.tx; simp only at this; omega)) ?_
            rintro e wa3 ⟨va3, rfl, oa3, ba3⟩
            have K3 := (show Hid _ from PkN.below N2.out ba3)
            obtain ⟨xa3, ya3, za3, rfl⟩ := own_slice oa3
            have hsl3 := oa3.sl
            have hB3 : w2.heap.size ≤ wa3.heap.size := K3.out.1.2.2.size
            have hlf3 : (textForm nt).length ≤ 10000 := by have h := textForm_len nt; have h2 := HSM.out.tx; simp only at h2; omega
            have hlb3 : (X2).length + (textForm nt).length ≤ 140737488 := by omega
            have hown3 := K3.out.1.1
            clear n0 n1 n2 n3 n4 n5
            obtain ⟨⟨n0, n1, n2, n3, n4, n5⟩, _⟩ := six_at K3.out.2
            obtain ⟨X3, hX3⟩ : ∃ X, X = X2 ++ textForm nt := ⟨_, rfl⟩
            have hXl3 : X3.length ≤ (X2).length + 10000 := by rw [hX3, List.length_append]; omega
            have HXX3 := (show Hid _ from hX3)
            clear oa3 ba3 N2
            go_wp2_with (first
              | (at_builtin
                 refine wpList_app _ rfl _ _ 22 rfl w2.heap.size 5 i0 (.int .u8 0) 1 Tryz.underlying22 hi hz0 hz1 hz2 rfl .u8 _ _ (X2) (textForm nt) rfl rfl hown3 hsl3 (by omega) (by unfold maxLen; omega) hB3 ?_
                 intro vb3 wb3 ob3 gb3
                 rw [← hX3] at ob3
                 have N3 := (show Hid _ from PkN.put K3.out ob3 gb3)
                 obtain ⟨xb3, yb3, zb3, rfl⟩ := own_slice ob3
                 clear n0 n1 n2 n3 n4 n5
                 obtain ⟨⟨n0, n1, n2, n3, n4, n5⟩, _⟩ := six_at N3.out.2
                 have lP3 := blk_lt N3.out.2
                 clear ob3 gb3)
              | fail)
            clear K3 hsl3 hlb3 hlf3 hown3 hX3
            have HE := (show Hid _ from (by rw [HTK.out, ← List.append_assoc, ← HC0.out, HXX3.out, HXX2.out, HXX1.out]; simp [nodeF, restF] : headL ns ++ (ns.take (k + 1)).flatMap (nodeF nm) = X3))
            go_roundw
            case rel => exact ⟨k + 1, _, _, _, by omega, by go_num, rfl, by rw [HE.out]; exact N3.out.1⟩
            case measure => simp [intOf]; omega
          obtain rfl : nk = 5 := by omega
          go_wp2_with fail
          go_at_call 88
          refine Calls.mono (snum_any nks.length _ (by omega)) ?_
          rintro e wa2 ⟨va2, rfl, oa2, ba2⟩
          have K2 := (show Hid _ from PkN.below N1.out ba2)
          obtain ⟨xa2, ya2, za2, rfl⟩ := own_slice oa2
          have hsl2 := oa2.sl
          have hB2 : w2.heap.size ≤ wa2.heap.size := K2.out.1.2.2.size
          have hlf2 : (form nks.length).length ≤ 10000 := by exact Nat.le_trans (form_len _) (by omega)
          have hlb2 : (X1).length + (form nks.length).length ≤ 140737488 := by omega
          have hown2 := K2.out.1.1
          clear n0 n1 n2 n3 n4 n5
          obtain ⟨⟨n0, n1, n2, n3, n4, n5⟩, _⟩ := six_at K2.out.2
          obtain ⟨X2, hX2⟩ : ∃ X, X = X1 ++ form nks.length := ⟨_, rfl⟩
          have hXl2 : X2.length ≤ (X1).length + 10000 := by rw [hX2, List.length_append]; omega
          have HXX2 := (show Hid _ from hX2)
          clear oa2 ba2 N1
          go_wp2_with (first
            | (at_builtin
               refine wpList_app _ rfl _ _ 22 rfl w2.heap.size 5 i0 (.int .u8 0) 1 Tryz.underlying22 hi hz0 hz1 hz2 rfl .u8 _ _ (X1) (form nks.length) rfl rfl hown2 hsl2 (by omega) (by unfold maxLen; omega) hB2 ?_
               intro vb2 wb2 ob2 gb2
               rw [← hX2] at ob2
               have N2 := (show Hid _ from PkN.put K2.out ob2 gb2)
               obtain ⟨xb2, yb2, zb2, rfl⟩ := own_slice ob2
               clear n0 n1 n2 n3 n4 n5
               obtain ⟨⟨n0, n1, n2, n3, n4, n5⟩, _⟩ := six_at N2.out.2
               have lP2 := blk_lt N2.out.2
               clear ob2 gb2)
            | fail)
          clear K2 hsl2 hlb2 hlf2 hown2 hX2
          go_wp2_with fail
          go_at_call 89
          refine Calls.mono (sputText_any nt _ (by have := HSM.out.tx; simp only at this; omega)) ?_
          rintro e wa3 ⟨va3, rfl, oa3, ba3⟩
          have K3 := (show Hid _ from PkN.below N2.out ba3)
          obtain ⟨xa3, ya3, za3, rfl⟩ := own_slice oa3
          have hsl3 := oa3.sl
          have hB3 : w2.heap.size ≤ wa3.heap.size := K3.out.1.2.2.size
          have hlf3 : (textForm nt).length ≤ 10000 := by have h := textForm_len nt; have h2 := HSM.out.tx; simp only at h2; omega
          have hlb3 : (X2).length + (textForm nt).length ≤ 140737488 := by omega
          have hown3 := K3.out.1.1
          clear n0 n1 n2 n3 n4 n5
          obtain ⟨⟨n0, n1, n2, n3, n4, n5⟩, _⟩ := six_at K3.out.2
          obtain ⟨X3, hX3⟩ : ∃ X, X = X2 ++ textForm nt := ⟨_, rfl⟩
          have hXl3 : X3.length ≤ (X2).length + 10000 := by rw [hX3, List.length_append]; omega
          have HXX3 := (show Hid _ from hX3)
          clear oa3 ba3 N2
          go_wp2_with (first
            | (at_builtin
               refine wpList_app _ rfl _ _ 22 rfl w2.heap.size 5 i0 (.int .u8 0) 1 Tryz.underlying22 hi hz0 hz1 hz2 rfl .u8 _ _ (X2) (textForm nt) rfl rfl hown3 hsl3 (by omega) (by unfold maxLen; omega) hB3 ?_
               intro vb3 wb3 ob3 gb3
               rw [← hX3] at ob3
               have N3 := (show Hid _ from PkN.put K3.out ob3 gb3)
               obtain ⟨xb3, yb3, zb3, rfl⟩ := own_slice ob3
               clear n0 n1 n2 n3 n4 n5
               obtain ⟨⟨n0, n1, n2, n3, n4, n5⟩, _⟩ := six_at N3.out.2
               have lP3 := blk_lt N3.out.2
               clear ob3 gb3)
            | fail)
          clear K3 hsl3 hlb3 hlf3 hown3 hX3
          have HE := (show Hid _ from (by rw [HTK.out, ← List.append_assoc, ← HC0.out, HXX3.out, HXX2.out, HXX1.out]; simp [nodeF, restF] : headL ns ++ (ns.take (k + 1)).flatMap (nodeF nm) = X3))
          go_roundw
          case rel => exact ⟨k + 1, _, _, _, by omega, by go_num, rfl, by rw [HE.out]; exact N3.out.1⟩
          case measure => simp [intOf]; omega
end Go.Proofs.YtogdbjafibejdaaGreat

/- The form of a tree is made of bytes. No condition. -/
namespace Go.Proofs.YtogdbjafibejdaaGreat
open Go.RowKit
set_option maxRecDepth 100000
set_option linter.unusedVariables false

theorem form_byteN {n : Nat} (h : n ≤ 9223372036854775807) : ∀ y ∈ form (n : Int), 0 ≤ y ∧ y ≤ 255 := form_byte (by omega)
theorem textForm_byte {s : ByteArray} (h : s.size ≤ 1099511627776) : ∀ y ∈ textForm s, 0 ≤ y ∧ y ≤ 255 := fun y hy => by
  unfold textForm at hy
  rcases List.mem_append.mp hy with hy | hy
  · exact form_byteN (by omega) y hy
  · exact bs_byte s y hy
theorem nodeF_byte {nm : List ByteArray} {n : PNode} (t : Tells nm n) (hn : nm.length ≤ 1099511627776) : ∀ y ∈ nodeF nm n, 0 ≤ y ∧ y ≤ 255 := fun y hy => by
  have hname : ∀ s ∈ nm, ∀ y ∈ form (fndS nm s), 0 ≤ y ∧ y ≤ 255 := fun s hs => by
    have := (fndS_tells nm s hs).1
    exact form_byte (by omega)
  have hk := t.kind
  have hkl := t.kids
  unfold nodeF at hy
  rcases List.mem_append.mp hy with hy | hy
  · exact form_byte (by omega) y hy
  rcases List.mem_append.mp hy with hy | hy
  · exact form_byteN (by omega) y hy
  unfold restF at hy
  split at hy
  · rename_i e
    exact hname _ (t.name (.inl e)) y hy
  split at hy
  · rename_i e
    rcases List.mem_append.mp hy with hy | hy
    · exact hname _ (t.name (.inr e)) y hy
    rcases List.mem_append.mp hy with hy | hy
    · exact form_byteN (by have := t.many; omega) y hy
    · obtain ⟨p, hp, hy⟩ := List.mem_flatMap.mp hy
      have ha := t.attrs e p hp
      unfold attrF at hy
      rcases List.mem_append.mp hy with hy | hy
      · exact hname _ ha.1 y hy
      · exact textForm_byte ha.2 y hy
  split at hy
  · exact textForm_byte t.text y hy
  · cases hy
theorem packL_byte {ns : List PNode} (h : TreeOkP ns) : ∀ y ∈ packL ns, 0 ≤ y ∧ y ≤ 255 := fun y hy => by
  obtain ⟨s1, s2⟩ := names_small h
  have hm := h.most
  unfold packL at hy
  rcases List.mem_append.mp hy with hy | hy
  · exact form_byteN (by omega) y hy
  rcases List.mem_append.mp hy with hy | hy
  · obtain ⟨s, hs, hy⟩ := List.mem_flatMap.mp hy
    exact textForm_byte (by have := s1 s hs; omega) y hy
  rcases List.mem_append.mp hy with hy | hy
  · exact form_byteN (by omega) y hy
  · obtain ⟨n, hn, hy⟩ := List.mem_flatMap.mp hy
    obtain ⟨k, hk, e⟩ := List.getElem_of_mem hn
    rw [← e] at hy
    exact nodeF_byte (tells_of h hk) (by omega) y hy
end Go.Proofs.YtogdbjafibejdaaGreat
