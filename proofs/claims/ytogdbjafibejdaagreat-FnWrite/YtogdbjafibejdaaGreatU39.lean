/- change with TreeWrite's step (written by mk/ichange3.py). No condition. -/
import Derived.Test.YtogdbjafibejdaaGreatU37
import Derived.Test.YtogdbjafibejdaaGreatU38
import Derived.Test.YtogdbjafibejdaaGreatU36
import Derived.Test.YtogdbjafibejdaaGreatU15
import Derived.Test.YtogdbjafibejdaaGreatU24
import Derived.Test.YtogdbjafibejdaaGreatU20
namespace Go.Proofs.YtogdbjafibejdaaGreat
open Go.RowKit
set_option maxRecDepth 100000
set_option linter.unusedVariables false

set_option maxHeartbeats 2000000 in
set_option maxRecDepth 100000 in
theorem ichangeWrite {B a g cap : Nat} {w : World} {qs : List (PNode × (Value × Value))} {ms : List PNode} {C : Prop} {x0 x1 x2 : Nat} (ha : w.heap[a]? = some (.cells #[.slice (some ⟨g, 0, none⟩) qs.length cap] 77 (0, 0))) (hO : OwnQ B w (.slice (some ⟨g, 0, none⟩) qs.length cap) qs) (hB : B ≤ w.heap.size) (h0 : 0 < qs.length) (hlen : qs.length ≤ 100000)
    (hfit : ∀ n ∈ qs.map (fun q => q.1), NodeFit n) (hfm : ∀ n ∈ ms, NodeFit n) (hml : ms.length ≤ 1048576)
    (hstep : ∀ W, Below w.heap.size w W → Calls Tryz.prog 69 #[.pointer (some ⟨x0, 0, none⟩), .pointer (some ⟨x1, 0, none⟩), .pointer (some ⟨x2, 0, none⟩)] W fun e w' => ∃ r : Bool, e = .returned (.bool r) ∧ (r = true ↔ C) ∧ (∃ g' n' c', w'.heap[a]? = some (.cells #[.slice (some ⟨g', 0, none⟩) n' c'] 77 (0, 0)) ∧ (r = true → ∃ qs', qs'.map (fun q => q.1) = ms ∧ OwnQ B w' (.slice (some ⟨g', 0, none⟩) n' c') qs')) ∧ OpFr B a W w') :
    Calls Tryz.prog 48 #[.pointer (some ⟨a, 0, none⟩), .func (.func 69) #[] #[.pointer (some ⟨x0, 0, none⟩), .pointer (some ⟨x1, 0, none⟩), .pointer (some ⟨x2, 0, none⟩)]] w fun e w' =>
      ∃ r : Bool, e = .returned (.bool r) ∧ (r = true ↔ C ∧ TreeOkP ms) ∧ (∃ g' n' c', w'.heap[a]? = some (.cells #[.slice (some ⟨g', 0, none⟩) n' c'] 77 (0, 0)) ∧ (r = true → OwnN B w' (.slice (some ⟨g', 0, none⟩) n' c') ms) ∧ (r = false → n' = qs.length)) ∧ OpFr B a w w' := by
  have hmf : ∀ (fn : Fn) (first cap : Array Value) (w : World), (Instr.makeFunc fn first cap).run Tryz.prog w = .ok (.func fn first cap) w := fun _ _ _ _ => rfl
  have HA := (show Hid _ from ha)
  have HO := (show Hid (OwnQ B w (.slice (some ⟨g, 0, none⟩) qs.length cap) qs) from hO)
  have HFIT := (show Hid _ from hfit)
  have HFM := (show Hid _ from hfm)
  have HST := (show Hid (∀ W, Below w.heap.size w W → Calls Tryz.prog 69 #[.pointer (some ⟨x0, 0, none⟩), .pointer (some ⟨x1, 0, none⟩), .pointer (some ⟨x2, 0, none⟩)] W fun e w' => ∃ r : Bool, e = .returned (.bool r) ∧ (r = true ↔ C) ∧ (∃ g' n' c', w'.heap[a]? = some (.cells #[.slice (some ⟨g', 0, none⟩) n' c'] 77 (0, 0)) ∧ (r = true → ∃ qs', qs'.map (fun q => q.1) = ms ∧ OwnQ B w' (.slice (some ⟨g', 0, none⟩) n' c') qs')) ∧ OpFr B a W w') from hstep)
  have hal := lt_of_block ha
  have hgl : g < w.heap.size := (World.ownsRow.lt hO.1 g rfl).2
  have hga : a ≠ g := fun e => by
    obtain ⟨cur, hcur⟩ := hO.rowCells
    rw [← e, ha] at hcur; cases hcur
  have HKA := (show Hid (∀ q ∈ qs, ∀ r, q.2.2.ownBlock = some r → r < w.heap.size ∧ r ≠ a) from fun q hq r e => ⟨(Own.lt (hO.2 q hq).2 r e).2, fun e2 => by
    rcases (hO.2 q hq).2.2 with ⟨e1, _⟩ | ⟨g', cap', cur, e1, _, hh, _⟩
    · rw [e1] at e; cases e
    · rw [e1] at e
      simp only [Value.ownBlock, Option.some.injEq] at e
      subst e2
      subst e
      rw [ha] at hh; cases hh⟩)
  clear ha hO hfit hfm hstep
  obtain ⟨w1, hw1⟩ : ∃ x, x = (w.alloc (.cells #[.pointer (some ⟨a, 0, none⟩)] 64)).alloc (.cells #[.bool false] 4) := ⟨_, rfl⟩
  have b1 : Below w.heap.size w w1 := by rw [hw1]; exact ((Below.refl _ w).alloc (Nat.le_refl _) _).alloc (by simp) _
  have hs1 : w1.heap.size = w.heap.size + 1 + 1 := by rw [hw1, World.size_alloc, World.size_alloc]
  have gP : w1.heap[w.heap.size]? = some (.cells #[.pointer (some ⟨a, 0, none⟩)] 64 (0, 0)) := by rw [hw1, Below.heap_alloc _ _ _ (by simp)]; exact World.alloc_heap_new _ _
  have gD : w1.heap[w.heap.size + 1]? = some (.cells #[.bool false] 4 (0, 0)) := by
    rw [hw1]
    have := World.alloc_heap_new (w.alloc (.cells #[.pointer (some ⟨a, 0, none⟩)] 64)) (.cells #[.bool false] 4)
    rwa [World.size_alloc] at this
  obtain ⟨ca, _⟩ := one_cell ((b1.block a hal).trans HA.out)
  obtain ⟨ca0, _⟩ := one_cell HA.out
  have GP := (show Hid _ from gP)
  have GD := (show Hid _ from gD)
  have HS1 := (show Hid _ from hs1)
  clear gP gD hs1
  go_enter_defers Tryz.func48, Tryz.ntmps48
  go_wp2_with fail
  go_at_call 103
  rw [← hw1]
  refine Calls.mono (icopy_any (ns := qs.map (fun q => q.1)) (w := w1) (v := .slice (some ⟨g, 0, none⟩) qs.length cap) ((HO.out.n.nodes).below b1) HFIT.out (by rw [List.length_map]; omega)) ?_
  rintro e w2 ⟨vb, rfl, ob, b2⟩
  clear hw1
  have hform := ob.form (by rw [List.length_map]; exact h0)
  rw [List.length_map] at hform
  obtain ⟨gb, cb, rfl, _, _⟩ := hform
  have hb2 := b1.trans (b2.mono b1.size)
  obtain ⟨w3, hw3⟩ : ∃ x, x = w2.alloc (.cells #[.slice (some ⟨gb, 0, none⟩) qs.length cb] 24) := ⟨_, rfl⟩
  have b23 : Below w2.heap.size w2 w3 := by rw [hw3]; exact (Below.refl _ _).alloc (Nat.le_refl _) _
  have b3 : Below w.heap.size w w3 := hb2.trans (b23.mono hb2.size)
  have b13 : Below w1.heap.size w1 w3 := b2.trans (b23.mono b2.size)
  have hsz1 := HS1.out
  have gP3 := (b13.block w.heap.size (by omega)).trans GP.out
  have gD3 := (b13.block (w.heap.size + 1) (by omega)).trans GD.out
  have gE3 : w3.heap[w2.heap.size]? = some (.cells #[.slice (some ⟨gb, 0, none⟩) qs.length cb] 24 (0, 0)) := by rw [hw3]; exact World.alloc_heap_new _ _
  have hE : w.heap.size + 1 + 1 ≤ w2.heap.size := by have := b2.size; omega
  have OB := (show Hid (OwnN w1.heap.size w3 (.slice (some ⟨gb, 0, none⟩) qs.length cb) (qs.map (fun q => q.1))) from ob.below b23)
  have CC := (show Hid _ from HST.out w3 b3)
  have GA3 := (show Hid _ from (b3.block a hal).trans HA.out)
  have OQ3 := (show Hid (OwnQ B w3 (.slice (some ⟨g, 0, none⟩) qs.length cap) qs) from HO.out.below b3)
  have GP3 := (show Hid _ from gP3)
  have GD3 := (show Hid _ from gD3)
  have GE3 := (show Hid _ from gE3)
  have HE := (show Hid (w.heap.size + 1 + 1 ≤ w2.heap.size) from hE)
  have B3 := (show Hid (Below w.heap.size w w3) from b3)
  have HZ := (show Hid (w1.heap.size = w.heap.size + 1 + 1) from hsz1)
  have hw3s : w2.heap.size < w3.heap.size := lt_of_block gE3
  clear ob gP3 gD3 gE3 hE b3 b13 b23 b2 hb2 b1 hsz1 GP GD HS1 ca ca0
  go_wp2_with fail
  go_at_call 69
  rw [← hw3]
  refine Calls.mono CC.out ?_
  rintro e w4 ⟨rs, rfl, hrs, ⟨g', n', c', ga4, hqs⟩, tq⟩
  clear hw3 CC
  have gP4 := tq.box GP3.out (by decide) (by decide) (by omega)
  have gD4 := tq.box GD3.out (by decide) (by decide) (by omega)
  have gE4 := tq.box GE3.out (by decide) (by decide) (by have := HE.out; omega)
  have gA4 := ga4
  have f4 : OpFr B a w w4 := (OpFr.of_below B3.out).trans tq
  obtain ⟨cP4, _⟩ := one_cell gP4
  have F4 := (show Hid (OpFr B a w w4) from f4)
  have GP4 := (show Hid _ from gP4)
  have GD4 := (show Hid _ from gD4)
  have GE4 := (show Hid _ from gE4)
  have GA4 := (show Hid _ from gA4)
  have HRS := (show Hid (rs = true ↔ C) from hrs)
  have HQS := (show Hid (rs = true → ∃ qs', qs'.map (fun q => q.1) = ms ∧ OwnQ B w4 (.slice (some ⟨g', 0, none⟩) n' c') qs') from hqs)
  have hDl := lt_of_block gD4
  clear gP4 gD4 gE4 gA4 ga4 f4 tq hqs hrs GP3 GD3 GE3 GA3 OQ3 OB B3
  cases rs
  · have HNC : Hid (¬ C) := fun h => by have := HRS.out.mpr h; cases this
    have b44 : Below w4.heap.size w4 w4 := Below.refl _ _
    have gD6 := (b44.block _ (lt_of_block GD4.out)).trans GD4.out
    have g67 : w4.grownBy (w4.setCell ⟨w.heap.size + 1, 0, none⟩ (.bool false)) (some (w.heap.size + 1)) := grown_setCell _ _ _ _
    have b6s := b44.size
    have hE2 := HE.out
    have a7 : (w4.setCell ⟨w.heap.size + 1, 0, none⟩ (.bool false)).heap[a]? = some (.cells #[.slice (some ⟨g', 0, none⟩) n' c'] 77 (0, 0)) := (Below.heap_setCell _ _ _ a (by show a ≠ w.heap.size + 1; omega)).trans ((b44.block a (lt_of_block GA4.out)).trans GA4.out)
    have e7 : (w4.setCell ⟨w.heap.size + 1, 0, none⟩ (.bool false)).heap[w2.heap.size]? = some (.cells #[.slice (some ⟨gb, 0, none⟩) qs.length cb] 24 (0, 0)) := (Below.heap_setCell _ _ _ _ (by show w2.heap.size ≠ w.heap.size + 1; omega)).trans ((b44.block _ (lt_of_block GE4.out)).trans GE4.out)
    have p7 : (w4.setCell ⟨w.heap.size + 1, 0, none⟩ (.bool false)).heap[w.heap.size]? = some (.cells #[.pointer (some ⟨a, 0, none⟩)] 64 (0, 0)) := (Below.heap_setCell _ _ _ _ (by show w.heap.size ≠ w.heap.size + 1; omega)).trans ((b44.block _ (lt_of_block GP4.out)).trans GP4.out)
    have d7 : (w4.setCell ⟨w.heap.size + 1, 0, none⟩ (.bool false)).heap[w.heap.size + 1]? = some (.cells #[.bool false] 4 (0, 0)) := setCell_at gD6
    have f7 : OpFr B a w (w4.setCell ⟨w.heap.size + 1, 0, none⟩ (.bool false)) := (F4.out.trans (OpFr.of_below b44)).put g67 (.inr (by omega))
    have Z7 := (show Hid (_ ∧ _ ∧ _ ∧ _ ∧ OpFr B a w (w4.setCell ⟨w.heap.size + 1, 0, none⟩ (.bool false))) from ⟨a7, e7, p7, d7, f7⟩)
    obtain ⟨cD6, zD6⟩ := one_cell gD6
    clear a7 e7 p7 d7 f7 g67 gD6
    go_wp2
    refine leaves_cons (f := 104) (args := #[.pointer (some ⟨w.heap.size + 1, 0, none⟩), .pointer (some ⟨w2.heap.size, 0, none⟩), .pointer (some ⟨w.heap.size, 0, none⟩)]) (by simp) (by simp [go_sem]) ?_
    obtain ⟨a7, e7, p7, d7, f7⟩ := Z7.out
    refine (idone_any a7 d7 e7 ⟨_, _, _, rfl⟩ p7 _).mono ?_
    rintro e u' w8 ⟨rfl, rfl, rfl⟩
    have d8 := (Below.heap_setCell (w4.setCell ⟨w.heap.size + 1, 0, none⟩ (.bool false)) ⟨a, 0, none⟩ (.slice (some ⟨gb, 0, none⟩) qs.length cb) (w.heap.size + 1) (by show w.heap.size + 1 ≠ a; omega)).trans d7
    have c8 := (one_cell d8).1
    have a8 : ((w4.setCell ⟨w.heap.size + 1, 0, none⟩ (.bool false)).setCell ⟨a, 0, none⟩ (.slice (some ⟨gb, 0, none⟩) qs.length cb)).heap[a]? = some (.cells #[.slice (some ⟨gb, 0, none⟩) qs.length cb] 77 (0, 0)) := setCell_at a7
    have g78 : (w4.setCell ⟨w.heap.size + 1, 0, none⟩ (.bool false)).grownBy ((w4.setCell ⟨w.heap.size + 1, 0, none⟩ (.bool false)).setCell ⟨a, 0, none⟩ (.slice (some ⟨gb, 0, none⟩) qs.length cb)) (some a) := grown_setCell _ _ _ _
    have f8 := f7.put g78 (.inl rfl)
    exact ⟨.bool false, by simp [results, Tryz.results48, go_sem, c8], false, rfl, ⟨(fun h => by cases h), fun h => absurd h.1 HNC.out⟩, ⟨gb, _, _, a8, (fun h => by cases h), fun _ => rfl⟩, f8⟩
  · have HC : Hid C := HRS.out.mp rfl
    obtain ⟨qs', hm', oq'⟩ := HQS.out rfl
    have OQ := (show Hid (OwnQ B w4 (.slice (some ⟨g', 0, none⟩) n' c') qs') from oq')
    have HM := (show Hid (qs'.map (fun q => q.1) = ms) from hm')
    clear hm' oq' HRS HQS
    go_wp2_with fail
    go_at_call 51
    refine Calls.mono (itree_any GA4.out) ?_
    rintro e w5 ⟨rfl, b5⟩
    have B5 := (show Hid (Below w4.heap.size w4 w5) from b5)
    have CT := (show Hid _ from itreeOk_any (w := w5) (v := .slice (some ⟨g', 0, none⟩) n' c') (ns := ms) (by rw [← HM.out]; exact (OQ.out.below b5).n.nodes) HFM.out hml)
    clear b5
    go_wp2_with fail
    go_at_call 15
    refine Calls.mono CT.out ?_
    rintro e w6 ⟨r, rfl, hr, b6⟩
    clear CT
    have b46 : Below w4.heap.size w4 w6 := B5.out.trans (b6.mono B5.out.size)
    have HR := (show Hid (r = true ↔ TreeOkP ms) from hr)
    clear hr b6 B5 cP4
    cases r
    · have HNT : Hid (¬ TreeOkP ms) := fun h => by have := HR.out.mpr h; cases this
      have gD6 := (b46.block _ (lt_of_block GD4.out)).trans GD4.out
      have g67 : w6.grownBy (w6.setCell ⟨w.heap.size + 1, 0, none⟩ (.bool false)) (some (w.heap.size + 1)) := grown_setCell _ _ _ _
      have b6s := b46.size
      have hE2 := HE.out
      have a7 : (w6.setCell ⟨w.heap.size + 1, 0, none⟩ (.bool false)).heap[a]? = some (.cells #[.slice (some ⟨g', 0, none⟩) n' c'] 77 (0, 0)) := (Below.heap_setCell _ _ _ a (by show a ≠ w.heap.size + 1; omega)).trans ((b46.block a (lt_of_block GA4.out)).trans GA4.out)
      have e7 : (w6.setCell ⟨w.heap.size + 1, 0, none⟩ (.bool false)).heap[w2.heap.size]? = some (.cells #[.slice (some ⟨gb, 0, none⟩) qs.length cb] 24 (0, 0)) := (Below.heap_setCell _ _ _ _ (by show w2.heap.size ≠ w.heap.size + 1; omega)).trans ((b46.block _ (lt_of_block GE4.out)).trans GE4.out)
      have p7 : (w6.setCell ⟨w.heap.size + 1, 0, none⟩ (.bool false)).heap[w.heap.size]? = some (.cells #[.pointer (some ⟨a, 0, none⟩)] 64 (0, 0)) := (Below.heap_setCell _ _ _ _ (by show w.heap.size ≠ w.heap.size + 1; omega)).trans ((b46.block _ (lt_of_block GP4.out)).trans GP4.out)
      have d7 : (w6.setCell ⟨w.heap.size + 1, 0, none⟩ (.bool false)).heap[w.heap.size + 1]? = some (.cells #[.bool false] 4 (0, 0)) := setCell_at gD6
      have f7 : OpFr B a w (w6.setCell ⟨w.heap.size + 1, 0, none⟩ (.bool false)) := (F4.out.trans (OpFr.of_below b46)).put g67 (.inr (by omega))
      have Z7 := (show Hid (_ ∧ _ ∧ _ ∧ _ ∧ OpFr B a w (w6.setCell ⟨w.heap.size + 1, 0, none⟩ (.bool false))) from ⟨a7, e7, p7, d7, f7⟩)
      obtain ⟨cD6, zD6⟩ := one_cell gD6
      clear a7 e7 p7 d7 f7 g67 gD6
      go_wp2
      refine leaves_cons (f := 104) (args := #[.pointer (some ⟨w.heap.size + 1, 0, none⟩), .pointer (some ⟨w2.heap.size, 0, none⟩), .pointer (some ⟨w.heap.size, 0, none⟩)]) (by simp) (by simp [go_sem]) ?_
      obtain ⟨a7, e7, p7, d7, f7⟩ := Z7.out
      refine (idone_any a7 d7 e7 ⟨_, _, _, rfl⟩ p7 _).mono ?_
      rintro e u' w8 ⟨rfl, rfl, rfl⟩
      have d8 := (Below.heap_setCell (w6.setCell ⟨w.heap.size + 1, 0, none⟩ (.bool false)) ⟨a, 0, none⟩ (.slice (some ⟨gb, 0, none⟩) qs.length cb) (w.heap.size + 1) (by show w.heap.size + 1 ≠ a; omega)).trans d7
      have c8 := (one_cell d8).1
      have a8 : ((w6.setCell ⟨w.heap.size + 1, 0, none⟩ (.bool false)).setCell ⟨a, 0, none⟩ (.slice (some ⟨gb, 0, none⟩) qs.length cb)).heap[a]? = some (.cells #[.slice (some ⟨gb, 0, none⟩) qs.length cb] 77 (0, 0)) := setCell_at a7
      have g78 : (w6.setCell ⟨w.heap.size + 1, 0, none⟩ (.bool false)).grownBy ((w6.setCell ⟨w.heap.size + 1, 0, none⟩ (.bool false)).setCell ⟨a, 0, none⟩ (.slice (some ⟨gb, 0, none⟩) qs.length cb)) (some a) := grown_setCell _ _ _ _
      have f8 := f7.put g78 (.inl rfl)
      exact ⟨.bool false, by simp [results, Tryz.results48, go_sem, c8], false, rfl, ⟨(fun h => by cases h), fun h => absurd h.2 HNT.out⟩, ⟨gb, _, _, a8, (fun h => by cases h), fun _ => rfl⟩, f8⟩
    · have HT : Hid (TreeOkP ms) := HR.out.mp rfl
      have gD6' := (b46.block _ (lt_of_block GD4.out)).trans GD4.out
      have OM := (show Hid (OwnN B (w6.setCell ⟨w.heap.size + 1, 0, none⟩ (.bool true)) (.slice (some ⟨g', 0, none⟩) n' c') ms) from by
        have := ((OQ.out.below b46).n).kept (grown_setCell w6 (w.heap.size + 1) 0 (.bool true)) (fun q e => by cases e; exact ⟨_, _, _, gD6', by decide, by decide, by decide⟩)
        rwa [HM.out] at this)
      clear gD6'
      have gD6 := (b46.block _ (lt_of_block GD4.out)).trans GD4.out
      have g67 : w6.grownBy (w6.setCell ⟨w.heap.size + 1, 0, none⟩ (.bool true)) (some (w.heap.size + 1)) := grown_setCell _ _ _ _
      have b6s := b46.size
      have hE2 := HE.out
      have a7 : (w6.setCell ⟨w.heap.size + 1, 0, none⟩ (.bool true)).heap[a]? = some (.cells #[.slice (some ⟨g', 0, none⟩) n' c'] 77 (0, 0)) := (Below.heap_setCell _ _ _ a (by show a ≠ w.heap.size + 1; omega)).trans ((b46.block a (lt_of_block GA4.out)).trans GA4.out)
      have e7 : (w6.setCell ⟨w.heap.size + 1, 0, none⟩ (.bool true)).heap[w2.heap.size]? = some (.cells #[.slice (some ⟨gb, 0, none⟩) qs.length cb] 24 (0, 0)) := (Below.heap_setCell _ _ _ _ (by show w2.heap.size ≠ w.heap.size + 1; omega)).trans ((b46.block _ (lt_of_block GE4.out)).trans GE4.out)
      have p7 : (w6.setCell ⟨w.heap.size + 1, 0, none⟩ (.bool true)).heap[w.heap.size]? = some (.cells #[.pointer (some ⟨a, 0, none⟩)] 64 (0, 0)) := (Below.heap_setCell _ _ _ _ (by show w.heap.size ≠ w.heap.size + 1; omega)).trans ((b46.block _ (lt_of_block GP4.out)).trans GP4.out)
      have d7 : (w6.setCell ⟨w.heap.size + 1, 0, none⟩ (.bool true)).heap[w.heap.size + 1]? = some (.cells #[.bool true] 4 (0, 0)) := setCell_at gD6
      have f7 : OpFr B a w (w6.setCell ⟨w.heap.size + 1, 0, none⟩ (.bool true)) := (F4.out.trans (OpFr.of_below b46)).put g67 (.inr (by omega))
      have Z7 := (show Hid (_ ∧ _ ∧ _ ∧ _ ∧ OpFr B a w (w6.setCell ⟨w.heap.size + 1, 0, none⟩ (.bool true))) from ⟨a7, e7, p7, d7, f7⟩)
      obtain ⟨cD6, zD6⟩ := one_cell gD6
      clear a7 e7 p7 d7 f7 g67 gD6
      go_wp2
      refine leaves_cons (f := 104) (args := #[.pointer (some ⟨w.heap.size + 1, 0, none⟩), .pointer (some ⟨w2.heap.size, 0, none⟩), .pointer (some ⟨w.heap.size, 0, none⟩)]) (by simp) (by simp [go_sem]) ?_
      obtain ⟨a7, e7, p7, d7, f7⟩ := Z7.out
      refine (idone_any a7 d7 e7 ⟨_, _, _, rfl⟩ p7 _).mono ?_
      rintro e u' w8 ⟨rfl, rfl, rfl⟩
      have c8 := (one_cell d7).1
      exact ⟨.bool true, by simp [results, Tryz.results48, go_sem, c8], true, rfl, ⟨fun _ => ⟨HC.out, HT.out⟩, fun _ => rfl⟩, ⟨g', _, _, a7, (fun _ => OM.out), fun h => by cases h⟩, f7⟩
end Go.Proofs.YtogdbjafibejdaaGreat

/- The program's write: a text below a node, in an arena of its own. No condition. -/
namespace Go.Proofs.YtogdbjafibejdaaGreat
open Go.RowKit
set_option maxRecDepth 100000
set_option linter.unusedVariables false

theorem OpFr.of_add {B a : Nat} {w w' : World} (h : AddFr B a w w') : OpFr B a w w' := ⟨h.os, h.tape, h.output, h.size, fun j hj hja hb => h.block j hj hja (hb.imp id (fun hh cs t fr e => (hh cs t fr e).1))⟩
/-- The new Text in the row of nodes. -/
def textQ (q : PNode × (Value × Value)) (s : ByteArray) : PNode × (Value × Value) := (setText q.1 s, q.2)
theorem OwnQ.text {B : Nat} {w : World} {g n cap : Nat} {qs : List (PNode × (Value × Value))} (h : OwnQ B w (.slice (some ⟨g, 0, none⟩) n cap) qs) {c : Nat} (hc : c < qs.length) (s : ByteArray) : OwnQ B (w.setCell ⟨g, c * 6 + 3, none⟩ (.string s)) (.slice (some ⟨g, 0, none⟩) n cap) (qs.set c (textQ qs[c] s)) := by
  have hn := h.len
  subst hn
  have hst := h.1.stored (c * 6 + 3) (.string s)
  have hset := nodeCells_set qs c hc (textQ qs[c] s) 3 (by omega) (.string s) (by simp [textQ, setText, nodeRow])
  rw [← hset] at hst
  refine ⟨by simpa using hst.1, fun q hqm => ?_⟩
  rcases List.mem_or_eq_of_mem_set hqm with hqm | rfl
  · exact lists_kept h.1 hst.2 (h.2 q hqm)
  · exact lists_kept (q := textQ qs[c] s) h.1 hst.2 (h.2 qs[c] (List.getElem_mem hc))
theorem more_map {qs : List (PNode × (Value × Value))} {k : Nat} (hk : k < qs.length) (s : ByteArray) : (qs.set k (textQ qs[k] (qs[k].1.text ++ s))).map (fun q => q.1) = moreN (qs.map (fun q => q.1)) k s := map_modify hk rfl

theorem sv_nil0 (w : World) : Sv 2 w (.slice none 0 0) (pairCells []) := ⟨none, 0, 0, rfl, rfl, Nat.le_refl _, by decide, (fun _ => rfl), fun j hj => absurd hj (by simp [pairCells])⟩
/-- What write says. -/
def WriteOut (B a : Nat) (qs : List (PNode × (Value × Value))) (p : Int) (s : ByteArray) (ms : List PNode) (w : World) (e : Ending) (w' : World) : Prop :=
  ∃ r : Bool, e = .returned (.bool r) ∧ (r = true ↔ (0 ≤ p ∧ p < qs.length) ∧ empB s = false ∧ utfOk (bs s) = true) ∧ (∃ g' n' c', w'.heap[a]? = some (.cells #[.slice (some ⟨g', 0, none⟩) n' c'] 77 (0, 0)) ∧ (r = true → ∃ qs', qs'.map (fun q => q.1) = ms ∧ OwnQ B w' (.slice (some ⟨g', 0, none⟩) n' c') qs')) ∧ OpFr B a w w'

set_option maxHeartbeats 2000000 in
set_option maxRecDepth 100000 in
theorem iwrite_any {B a g cap : Nat} {w : World} {qs : List (PNode × (Value × Value))} {ms : List PNode} (ha : w.heap[a]? = some (.cells #[.slice (some ⟨g, 0, none⟩) qs.length cap] 77 (0, 0))) (hO : OwnQ B w (.slice (some ⟨g, 0, none⟩) qs.length cap) qs) (hA : Apart qs) (hB : B ≤ w.heap.size) (h0 : 0 < qs.length) (hlen : qs.length ≤ 500)
    (hkl : ∀ q ∈ qs, q.1.kids.length ≤ 1000000) (hkin : ∀ q ∈ qs, ∀ x ∈ q.1.kids, 0 ≤ x ∧ x < qs.length) (htx : ∀ q ∈ qs, q.1.text.size ≤ 1048576) (p : Int) (s : ByteArray) (hs : s.size ≤ 1048576)
    (hms : (∃ k, LastT (qs.map (fun q => q.1)) p.toNat k ∧ ms = moreN (qs.map (fun q => q.1)) k s) ∨ ((¬ ∃ k, LastT (qs.map (fun q => q.1)) p.toNat k) ∧ ms = newN (qs.map (fun q => q.1)) p.toNat s)) :
    Calls Tryz.prog 70 #[.pointer (some ⟨a, 0, none⟩), .int .i64 p, .string s] w (WriteOut B a qs p s ms w) := by
  have HA := (show Hid _ from ha)
  have HO := (show Hid (OwnQ B w (.slice (some ⟨g, 0, none⟩) qs.length cap) qs) from hO)
  have HAP := (show Hid (Apart qs) from hA)
  have HKL := (show Hid (∀ q ∈ qs, q.1.kids.length ≤ 1000000) from hkl)
  have HKI := (show Hid (∀ q ∈ qs, ∀ x ∈ q.1.kids, 0 ≤ x ∧ x < qs.length) from hkin)
  have HTX := (show Hid (∀ q ∈ qs, q.1.text.size ≤ 1048576) from htx)
  have HMS := (show Hid _ from hms)
  have cA := (one_cell ha).1
  have CT := (show Hid _ from fun W => textOk_any s W (by omega))
  obtain ⟨u, eu⟩ : ∃ u, u = utfOk (bs s) := ⟨_, rfl⟩
  rw [← eu] at CT
  have EU := (show Hid (u = utfOk (bs s)) from eu)
  have NO : Hid (¬ ((0 ≤ p ∧ p < qs.length) ∧ empB s = false ∧ u = true) → ∀ W, Below w.heap.size w W → WriteOut B a qs p s ms w (.returned (.bool false)) W) := fun h W b => ⟨false, rfl, ⟨(fun h' => by cases h'), fun h' => absurd ⟨h'.1, h'.2.1, eu.trans h'.2.2⟩ h⟩, ⟨g, _, _, (b.block a (lt_of_block ha)).trans ha, (fun h' => by cases h')⟩, OpFr.of_below b⟩
  clear ha hO hA hkl hkin htx hms eu
  by_cases hp : 0 ≤ p ∧ p < qs.length
  rotate_left
  · have CH : Hid (Calls Tryz.prog 74 #[.pointer (some ⟨a, 0, none⟩), .int .i64 p] w fun e w' => e = .returned (.bool false) ∧ w' = w) := (ihas_any cA p).mono (by rintro e w' ⟨rfl, rfl⟩; exact ⟨by rw [decide_eq_false hp], rfl⟩)
    have NO' := (show Hid _ from NO.out (fun h => hp h.1))
    go_enter Tryz.func70, Tryz.ntmps70
    go_wp2_with fail
    go_at_call 74
    refine Calls.mono CH.out ?_
    rintro e w' ⟨rfl, rfl⟩
    go_wp2
    go_ret
    exact NO'.out _ (Below.refl _ _)
  have CH : Hid (Calls Tryz.prog 74 #[.pointer (some ⟨a, 0, none⟩), .int .i64 p] w fun e w' => e = .returned (.bool true) ∧ w' = w) := (ihas_any cA p).mono (by rintro e w' ⟨rfl, rfl⟩; exact ⟨by rw [decide_eq_true hp], rfl⟩)
  by_cases hse : s.toList = []
  · have NO' := (show Hid _ from NO.out (fun h => by have := h.2.1; simp [empB, hse] at this))
    go_enter Tryz.func70, Tryz.ntmps70
    go_wp2_with fail
    go_at_call 74
    refine Calls.mono CH.out ?_
    rintro e w' ⟨rfl, rfl⟩
    go_wp2
    go_ret
    exact NO'.out _ (Below.refl _ _)
  cases u
  · have NO' := (show Hid _ from NO.out (fun h => by have := h.2.2; cases this))
    go_enter Tryz.func70, Tryz.ntmps70
    go_wp2_with fail
    go_at_call 74
    refine Calls.mono CH.out ?_
    rintro e w' ⟨rfl, rfl⟩
    go_wp2_with fail
    go_at_call 112
    refine Calls.mono (CT.out _) ?_
    rintro e w2 ⟨rfl, b2⟩
    go_wp2
    go_ret
    exact NO'.out _ b2
  have hie : s.toList.isEmpty = false := by
    cases e : s.toList with
    | nil => exact absurd e hse
    | cons a l => rfl
  obtain ⟨pn, rfl⟩ : ∃ pn : Nat, p = pn := ⟨p.toNat, by omega⟩
  rw [Int.toNat_natCast] at HMS
  have hpn : pn < qs.length := by omega
  have YES : Hid ((0 ≤ (pn : Int) ∧ (pn : Int) < qs.length) ∧ empB s = false ∧ utfOk (bs s) = true) := ⟨hp, by simp [empB, hse], EU.out.symm⟩
  have hpe : (qs.map (fun q => q.1)).length = qs.length := by simp
  have CL := (show Hid (∀ W, Below w.heap.size w W → Calls Tryz.prog 118 #[.pointer (some ⟨a, 0, none⟩), .int .i64 (pn : Int)] W fun e w' => ∃ r : Option Addr, e = .returned (.pointer r) ∧ ((∃ k, LastT (qs.map (fun q => q.1)) pn k ∧ r = some ⟨g, k * 6, none⟩) ∨ (r = none ∧ ¬ ∃ k, LastT (qs.map (fun q => q.1)) pn k)) ∧ Below W.heap.size W w') from fun W b => ilastText_any ((b.block a (lt_of_block HA.out)).trans HA.out) (HO.out.below b) (by omega) hpn (by have := HKL.out _ (List.getElem_mem hpn); omega) (HKI.out _ (List.getElem_mem hpn)))
  clear NO hpe
  go_enter Tryz.func70, Tryz.ntmps70
  go_wp2_with fail
  go_at_call 74
  refine Calls.mono CH.out ?_
  rintro e w' ⟨rfl, rfl⟩
  clear CH
  go_wp2_with fail
  go_at_call 112
  refine Calls.mono (CT.out _) ?_
  rintro e w2 ⟨rfl, b2⟩
  clear CT
  have B2 := (show Hid (Below w'.heap.size w' w2) from b2)
  clear b2
  go_wp2_with fail
  go_at_call 118
  refine Calls.mono (CL.out _ B2.out) ?_
  rintro e w3 ⟨r, rfl, hr, b3⟩
  clear CL
  have B3 := (show Hid (Below w'.heap.size w' w3) from B2.out.trans (b3.mono B2.out.size))
  have HA3 := (show Hid _ from (B3.out.block a (lt_of_block HA.out)).trans HA.out)
  have HO3 := (show Hid (OwnQ B w3 (.slice (some ⟨g, 0, none⟩) qs.length cap) qs) from HO.out.below B3.out)
  clear b3 B2 cA
  have hag : a ≠ g := fun e => by
    obtain ⟨cur, hcur⟩ := HO3.out.rowCells
    rw [← e, HA3.out] at hcur; cases hcur
  rcases hr with ⟨k, hk, rfl⟩ | ⟨rfl, hno⟩
  · obtain ⟨hkl, hk4⟩ := hk.choose_spec.2
    have hkq : k < qs.length := by simpa using hkl
    have HM : Hid (ms = moreN (qs.map (fun q => q.1)) k s) := by
      rcases HMS.out with ⟨j, hj, e⟩ | ⟨h, _⟩
      · rw [hk.one hj]; exact e
      · exact absurd ⟨k, hk⟩ h
    have ct := HO3.out.cellAt hkq (j := 3) (by omega)
    simp only [nodeRow, List.getD_cons_succ, List.getD_cons_zero] at ct
    have zt := HO3.out.frozenAt (k * 6 + 3)
    have htk := HTX.out _ (List.getElem_mem hkq)
    have O4 := (show Hid _ from HO3.out.text hkq (qs[k].1.text ++ s))
    have MM := (show Hid _ from more_map hkq s)
    clear hk hkl hk4 HMS HKL HKI HAP
    have F4 := (show Hid (OpFr B a w' (w3.setCell ⟨g, k * 6 + 3, none⟩ (.string (qs[k].1.text ++ s)))) from (OpFr.of_below B3.out).trans (OpFr.of_turn (TurnQ.of_row (grown_setCell w3 g (k * 6 + 3) (.string (qs[k].1.text ++ s)))) HO3.out))
    have A4 := (show Hid _ from (Below.heap_setCell w3 ⟨g, k * 6 + 3, none⟩ (.string (qs[k].1.text ++ s)) a hag).trans HA3.out)
    go_wp2
    go_ret
    exact ⟨true, rfl, ⟨fun _ => YES.out, fun _ => rfl⟩, ⟨g, _, _, A4.out, fun _ => ⟨_, MM.out.trans HM.out.symm, O4.out⟩⟩, F4.out⟩
  · have HM : Hid (ms = newN (qs.map (fun q => q.1)) pn s) := by
      rcases HMS.out with ⟨j, hj, _⟩ | ⟨_, e⟩
      · exact absurd ⟨j, hj⟩ hno
      · exact e
    have hB3 : B ≤ w3.heap.size := Nat.le_trans hB B3.out.size
    clear hno HMS
    go_wp2_with fail
    go_at_call 79
    refine Calls.mono (iadd_all HA3.out HO3.out hB3 (by omega) 4 0 ⟨#[]⟩ s (rs := []) ?_ (by simp)) ?_
    · exact sv_nil0 _
    rintro e w4 ⟨rfl, ⟨v4, ha4, av4, ho4⟩, fr4⟩
    obtain ⟨g4, c4, rfl, _, _⟩ := ho4.form (by simp)
    have hl4 : (qs ++ [((⟨4, ⟨#[]⟩, [], s, -1, []⟩ : PNode), (av4, Value.slice none 0 0))]).length = qs.length + 1 := by simp
    have hap4 : Apart (qs ++ [((⟨4, ⟨#[]⟩, [], s, -1, []⟩ : PNode), (av4, Value.slice none 0 0))]) := apart_snoc HAP.out (fun g e => by cases e)
    have F4 := (show Hid (OpFr B a w' w4) from (OpFr.of_below B3.out).trans (OpFr.of_add fr4))
    have hB4 : B ≤ w4.heap.size := Nat.le_trans hB3 fr4.size
    have CG := (show Hid _ from ihang_any (c := qs.length) (p := pn) ha4 ho4 hap4 hB4 (by rw [hl4]; omega) (by rw [hl4]; omega) (by omega) (.inl (by simp)) (fun q hq => by
      rcases List.mem_append.mp hq with h | h
      · have := HKL.out q h; omega
      · simp at h; subst h; simp) (by rw [hl4]; omega))
    have OP := (show Hid _ from fun w5 (t : TurnQ g4 _ w4 w5) => OpFr.of_turn (a := a) t ho4)
    have hag4 : a ≠ g4 := fun e => by
      obtain ⟨cur, hcur⟩ := ho4.rowCells
      rw [← e, ha4] at hcur; cases hcur
    have HA4 := (show Hid _ from ha4)
    have HO4 := (show Hid _ from ho4)
    clear ha4 ho4 fr4 hap4
    go_wp2_with fail
    go_at_call 50
    refine Calls.mono CG.out ?_
    rintro e w5 ⟨rfl, ⟨qs5, hq5, ho5, _⟩, t5⟩
    have F5 := (show Hid (OpFr B a w' w5) from F4.out.trans (OP.out w5 t5))
    have A5 := (show Hid _ from (t5.block a (lt_of_block HA4.out) hag4 (fun q hq e => by
      rcases (HO4.out.2 q hq).2.2 with ⟨e1, _⟩ | ⟨g', cap', cur, e1, _, hh, _⟩
      · rw [e1] at e; cases e
      · rw [e1] at e
        simp only [Value.ownBlock, Option.some.injEq] at e
        subst e
        rw [HA4.out] at hh; cases hh)).trans HA4.out)
    have HQ5 : Hid (qs5.map (fun q => q.1) = ms) := by
      rw [HM.out, hq5, newN, List.length_map, List.map_append]
      rfl
    have O5 := (show Hid _ from ho5)
    clear hq5 ho5 t5 CG OP
    go_wp2
    go_ret
    exact ⟨true, rfl, ⟨fun _ => YES.out, fun _ => rfl⟩, ⟨g4, _, _, A5.out, fun _ => ⟨_, HQ5.out, O5.out⟩⟩, F5.out⟩
end Go.Proofs.YtogdbjafibejdaaGreat

/- The specification's l6Write where the text would be too long or wrong. No condition. -/
namespace Go.Proofs.YtogdbjafibejdaaGreat
open Go.RowKit
set_option maxRecDepth 100000
set_option linter.unusedVariables false

theorem SWrite_res {tmps : Array Value} {w : World} {g : Nat} {u : Value} {i : Bool} (h4 : tmps.getD 6 undef = .pointer (some ⟨g, 0, none⟩)) (h5 : tmps.getD 7 undef = .bool i) (hb : w.heap[g]? = some (.cells #[u] 26 (0, 0))) :
    (results Tryz.f72 tmps).run Tryz.prog w = .ok (.tuple #[.agg #[u], .bool i]) w := by
  rw [results_cell_tmp (p := 6) (u := 7) (ty := 26) rfl, h4, h5]
  simp [asAddr, run_loadVar_row w g 26 26 #[u] (0, 0) _ hb Tryz.underlying26 rfl rfl, Result.andThen]

set_option maxHeartbeats 2000000 in
set_option maxRecDepth 100000 in
theorem swrite_bad {B : Nat} {w : World} {v : Value} {ns : List PNode} (hO : OwnN B w v ns) (hB : B ≤ w.heap.size) (hlen : ns.length ≤ 500) {p k : Nat} (hp : p < ns.length) (hkl : ns[p].kids.length ≤ 1048576) (hl : LastT ns p k) (s : ByteArray) (hs : s.size ≤ 1048576) (htx : ∀ n ∈ ns, n.text.size ≤ 1048576) (hk0 : k < ns.length) (hu : utfOk (bs (ns[k].text ++ s)) = false) :
    Calls Tryz.prog 72 #[.agg #[v], .int .i64 (p : Int), .string s] w fun e w' => ∃ (r : Bool), e = .returned (.tuple #[.agg #[v], .bool r]) ∧ (∀ h : k < ns.length, r = utfOk (bs (ns[k].text ++ s))) ∧ Below B w w' := by
  obtain ⟨g, cap, rfl, hgB, hgl⟩ : ∃ g cap, v = (.slice (some ⟨g, 0, none⟩) ns.length cap) ∧ B ≤ g ∧ g < w.heap.size := by obtain ⟨_, _, h2, _⟩ := hO; exact one_form h2 (by omega)
  obtain ⟨pre, hkids, hk, h4⟩ := hl
  rw [kidsOf_at hp] at hkids
  obtain ⟨w2, hw2⟩ : ∃ w2, w2 = (w.alloc (.cells #[.slice (some ⟨g, 0, none⟩) ns.length cap] 26)).alloc (.cells #[.slice none 0 0] 26) := ⟨_, rfl⟩
  have b2 : Below w.heap.size w w2 := by rw [hw2]; exact ((Below.refl _ w).alloc (Nat.le_refl _) _).alloc (by simp) _
  have gT : w2.heap[w.heap.size]? = some (.cells #[.slice (some ⟨g, 0, none⟩) ns.length cap] 26 (0, 0)) := by
    rw [hw2, Below.heap_alloc _ _ _ (by simp)]; exact World.alloc_heap_new _ _
  have gR : w2.heap[w.heap.size + 1]? = some (.cells #[.slice none 0 0] 26 (0, 0)) := by
    rw [hw2]
    have := World.alloc_heap_new (w.alloc (.cells #[.slice (some ⟨g, 0, none⟩) ns.length cap] 26)) (.cells #[.slice none 0 0] 26)
    rwa [World.size_alloc] at this
  have O2 := hO.below b2
  obtain ⟨qs0, _, hq0, _⟩ := id hO
  have HRW := (show Hid (w.ownsRow B 36 6 (.slice (some ⟨g, 0, none⟩) ns.length cap) ns.length (nodeCells qs0)) from hq0)
  clear hq0
  obtain ⟨_, _, e2, _, _, hcs⟩ := O2.nodes.slice
  cases e2
  obtain ⟨_, _, _, kv, e3, _, _, _, _, _, _, k5, _, hkv⟩ := hcs p hp
  cases e3
  obtain ⟨_, _, _, _, e4, _, k0, _, _, k3, _, _, _, _⟩ := hcs k hk
  cases e4
  rw [h4] at k0
  rw [Nat.zero_add] at k5 k0 k3
  obtain ⟨ka, kc, rfl, hk1, hk2, _, hk4⟩ := hkv
  obtain ⟨m, hm⟩ : ∃ m, m = pre.length := ⟨_, rfl⟩
  have hlm : ns[p].kids.length = m + 1 := by rw [hkids, hm]; simp
  obtain ⟨kb, ko, rfl, kz⟩ := hk4 m (by omega)
  have kz' : w2.cell? ⟨kb, ko + m, none⟩ = some (.int .i64 (k : Int)) := by rw [kz]; simp [hkids, hm]
  rw [hlm] at k5 hk1 hkl
  obtain ⟨tx, etx⟩ : ∃ tx, tx = ns[k].text := ⟨_, rfl⟩
  have htk := htx _ (List.getElem_mem hk)
  rw [← etx] at k3 htk
  have ETX := (show Hid (tx = ns[k].text) from etx)
  have CO := (show Hid _ from fun W => l1Ok_any (tx ++ s) W (by rw [ByteArray.size_append]; omega))
  obtain ⟨u, eu⟩ : ∃ u, u = utfOk (bs (tx ++ s)) := ⟨_, rfl⟩
  rw [← eu] at CO
  have EU := (show Hid (u = utfOk (bs (tx ++ s))) from eu)
  have GT := (show Hid _ from gT)
  have GR := (show Hid _ from gR)
  have cT := (one_cell gT).1
  have cR := (one_cell gR).1
  have zR := (one_cell gR).2
  have B2 := (show Hid (Below w.heap.size w w2) from b2)
  have hpl : (p : Int) < ns.length := by omega
  have hki : (k : Int) < ns.length := by omega
  clear O2 hcs gT gR b2 hO htx hkids kz hk4 hlm hm etx eu h4 hk2
  go_enter Tryz.func72, Tryz.ntmps72
  go_upto_region 1 with fail
  rw [← hw2]
  clear hw2
  go_wp2
  go_big_quiet (fail)
  go_wp2
  go_big_quiet (fail)
  go_wp2_with fail
  go_at_call 71
  refine Calls.mono (CO.out _) ?_
  rintro e w4 ⟨rfl, b4⟩
  have b0 : ∀ n, Below w2.heap.size w2 (w2.drewN n) := fun n => ⟨rfl, rfl, rfl, Nat.le_refl _, fun _ _ => rfl⟩
  have b24 : Below w2.heap.size w2 w4 := (b0 _).trans (b4.mono (Nat.le_refl _))
  clear b0
  have gT4 := (b24.block _ (blk_lt GT.out)).trans GT.out
  have gR4 := (b24.block _ (blk_lt GR.out)).trans GR.out
  have GR4 := (show Hid _ from gR4)
  have cT4 := (one_cell gT4).1
  have cR4 := (one_cell gR4).1
  have zR4 := (one_cell gR4).2
  have k34 := (b24.cell (p := ⟨g, k * 6 + 3, none⟩) (lt_of_cell k3)).trans k3
  have kz4 := (b24.cell (p := ⟨kb, ko + m, none⟩) (lt_of_cell kz')).trans kz'
  have zk4 : w4.frozen? ⟨g, k * 6 + 3, none⟩ = false := (ownsRow_below (ownsRow_below HRW.out B2.out) b24).frozenAt _
  have B4 := (show Hid (Below w.heap.size w w4) from B2.out.trans (b24.mono B2.out.size))
  clear b4 b24 gT4 gR4 cT cR zR k3 kz' CO k5 k0
  cases u
  · go_wp2
    refine bodyPost_ret (SWrite_res rfl rfl (setCell_at GR4.out)) rfl ?_
    exact ⟨false, rfl, fun h => by rw [EU.out, ETX.out], (B4.out.setCell (p := ⟨w.heap.size + 1, 0, none⟩) (by simp) _).mono hB⟩
  · exact absurd (EU.out.symm.trans rfl) (by rw [ETX.out, hu]; decide)
end Go.Proofs.YtogdbjafibejdaaGreat

/- The specification's l6Write where the text would be too long or wrong. No condition. -/
namespace Go.Proofs.YtogdbjafibejdaaGreat
open Go.RowKit
set_option maxRecDepth 100000
set_option linter.unusedVariables false

theorem SWrite_res2 {tmps : Array Value} {w : World} {g : Nat} {u : Value} {i : Bool} (h4 : tmps.getD 6 undef = .pointer (some ⟨g, 0, none⟩)) (h5 : tmps.getD 7 undef = .bool i) (hb : w.heap[g]? = some (.cells #[u] 26 (0, 0))) :
    (results Tryz.f72 tmps).run Tryz.prog w = .ok (.tuple #[.agg #[u], .bool i]) w := by
  rw [results_cell_tmp (p := 6) (u := 7) (ty := 26) rfl, h4, h5]
  simp [asAddr, run_loadVar_row w g 26 26 #[u] (0, 0) _ hb Tryz.underlying26 rfl rfl, Result.andThen]

set_option maxHeartbeats 2000000 in
set_option maxRecDepth 100000 in
theorem swrite_more {B : Nat} {w : World} {v : Value} {ns : List PNode} (hO : OwnN B w v ns) (hB : B ≤ w.heap.size) (hlen : ns.length ≤ 500) {p k : Nat} (hp : p < ns.length) (hkl : ns[p].kids.length ≤ 1048576) (hl : LastT ns p k) (s : ByteArray) (hs : s.size ≤ 1048576) (htx : ∀ n ∈ ns, n.text.size ≤ 1048576) (hk0 : k < ns.length) (hu : utfOk (bs (ns[k].text ++ s)) = true) :
    Calls Tryz.prog 72 #[.agg #[v], .int .i64 (p : Int), .string s] w fun e w' => e = .returned (.tuple #[.agg #[v], .bool true]) ∧ Below B w w' := by
  obtain ⟨g, cap, rfl, hgB, hgl⟩ : ∃ g cap, v = (.slice (some ⟨g, 0, none⟩) ns.length cap) ∧ B ≤ g ∧ g < w.heap.size := by obtain ⟨_, _, h2, _⟩ := hO; exact one_form h2 (by omega)
  obtain ⟨pre, hkids, hk, h4⟩ := hl
  rw [kidsOf_at hp] at hkids
  obtain ⟨w2, hw2⟩ : ∃ w2, w2 = (w.alloc (.cells #[.slice (some ⟨g, 0, none⟩) ns.length cap] 26)).alloc (.cells #[.slice none 0 0] 26) := ⟨_, rfl⟩
  have b2 : Below w.heap.size w w2 := by rw [hw2]; exact ((Below.refl _ w).alloc (Nat.le_refl _) _).alloc (by simp) _
  have gT : w2.heap[w.heap.size]? = some (.cells #[.slice (some ⟨g, 0, none⟩) ns.length cap] 26 (0, 0)) := by
    rw [hw2, Below.heap_alloc _ _ _ (by simp)]; exact World.alloc_heap_new _ _
  have gR : w2.heap[w.heap.size + 1]? = some (.cells #[.slice none 0 0] 26 (0, 0)) := by
    rw [hw2]
    have := World.alloc_heap_new (w.alloc (.cells #[.slice (some ⟨g, 0, none⟩) ns.length cap] 26)) (.cells #[.slice none 0 0] 26)
    rwa [World.size_alloc] at this
  have O2 := hO.below b2
  obtain ⟨qs0, _, hq0, _⟩ := id hO
  have HRW := (show Hid (w.ownsRow B 36 6 (.slice (some ⟨g, 0, none⟩) ns.length cap) ns.length (nodeCells qs0)) from hq0)
  clear hq0
  obtain ⟨_, _, e2, _, _, hcs⟩ := O2.nodes.slice
  cases e2
  obtain ⟨_, _, _, kv, e3, _, _, _, _, _, _, k5, _, hkv⟩ := hcs p hp
  cases e3
  obtain ⟨_, _, _, _, e4, _, k0, _, _, k3, _, _, _, _⟩ := hcs k hk
  cases e4
  rw [h4] at k0
  rw [Nat.zero_add] at k5 k0 k3
  obtain ⟨ka, kc, rfl, hk1, hk2, _, hk4⟩ := hkv
  obtain ⟨m, hm⟩ : ∃ m, m = pre.length := ⟨_, rfl⟩
  have hlm : ns[p].kids.length = m + 1 := by rw [hkids, hm]; simp
  obtain ⟨kb, ko, rfl, kz⟩ := hk4 m (by omega)
  have kz' : w2.cell? ⟨kb, ko + m, none⟩ = some (.int .i64 (k : Int)) := by rw [kz]; simp [hkids, hm]
  rw [hlm] at k5 hk1 hkl
  obtain ⟨tx, etx⟩ : ∃ tx, tx = ns[k].text := ⟨_, rfl⟩
  have htk := htx _ (List.getElem_mem hk)
  rw [← etx] at k3 htk
  have ETX := (show Hid (tx = ns[k].text) from etx)
  have CO := (show Hid _ from fun W => l1Ok_any (tx ++ s) W (by rw [ByteArray.size_append]; omega))
  obtain ⟨u, eu⟩ : ∃ u, u = utfOk (bs (tx ++ s)) := ⟨_, rfl⟩
  rw [← eu] at CO
  have EU := (show Hid (u = utfOk (bs (tx ++ s))) from eu)
  have GT := (show Hid _ from gT)
  have GR := (show Hid _ from gR)
  have cT := (one_cell gT).1
  have cR := (one_cell gR).1
  have zR := (one_cell gR).2
  have B2 := (show Hid (Below w.heap.size w w2) from b2)
  have hpl : (p : Int) < ns.length := by omega
  have hki : (k : Int) < ns.length := by omega
  clear O2 hcs gT gR b2 hO htx hkids kz hk4 hlm hm etx eu h4 hk2
  go_enter Tryz.func72, Tryz.ntmps72
  go_upto_region 1 with fail
  rw [← hw2]
  clear hw2
  go_wp2
  go_big_quiet (fail)
  go_wp2
  go_big_quiet (fail)
  go_wp2_with fail
  go_at_call 71
  refine Calls.mono (CO.out _) ?_
  rintro e w4 ⟨rfl, b4⟩
  have b0 : ∀ n, Below w2.heap.size w2 (w2.drewN n) := fun n => ⟨rfl, rfl, rfl, Nat.le_refl _, fun _ _ => rfl⟩
  have b24 : Below w2.heap.size w2 w4 := (b0 _).trans (b4.mono (Nat.le_refl _))
  clear b0
  have gT4 := (b24.block _ (blk_lt GT.out)).trans GT.out
  have gR4 := (b24.block _ (blk_lt GR.out)).trans GR.out
  have GR4 := (show Hid _ from gR4)
  have cT4 := (one_cell gT4).1
  have cR4 := (one_cell gR4).1
  have zR4 := (one_cell gR4).2
  have k34 := (b24.cell (p := ⟨g, k * 6 + 3, none⟩) (lt_of_cell k3)).trans k3
  have kz4 := (b24.cell (p := ⟨kb, ko + m, none⟩) (lt_of_cell kz')).trans kz'
  have zk4 : w4.frozen? ⟨g, k * 6 + 3, none⟩ = false := (ownsRow_below (ownsRow_below HRW.out B2.out) b24).frozenAt _
  have B4 := (show Hid (Below w.heap.size w w4) from B2.out.trans (b24.mono B2.out.size))
  clear b4 b24 gT4 gR4 cT cR zR k3 kz' CO k5 k0
  have hgN : g ≠ w.heap.size := by omega
  have hgN1 : g ≠ w.heap.size + 1 := by omega
  obtain rfl : u = true := by rw [EU.out, ETX.out]; exact hu
  have hm2 : IntKind.i64.wrap (m : Int) = m := wrap_tree (by omega) (by omega)
  have hm3 : (m : Int) < (m : Int) + 1 := by omega
  have hm4 : (0 : Int) ≤ (m : Int) := by omega
  have kd4 : w4.drew.cell? ⟨kb, ko + m, none⟩ = some (.int .i64 (k : Int)) := kz4
  have cd4 : w4.drew.cell? ⟨w.heap.size, 0, none⟩ = some (.slice (some ⟨g, 0, none⟩) ns.length cap) := cT4
  have k3d : w4.drew.cell? ⟨g, k * 6 + 3, none⟩ = some (.string tx) := k34
  have zkd : w4.drew.frozen? ⟨g, k * 6 + 3, none⟩ = false := zk4
  go_upto_region 7 with fail
  go_region_law (fail)
  all_goals
    have gR5 : (w4.drew.setCell ⟨g, k * 6 + 3, none⟩ (.string (tx ++ s))).heap[w.heap.size + 1]? = some (.cells #[.slice none 0 0] 26 (0, 0)) := (Below.heap_setCell _ _ _ _ (by show w.heap.size + 1 ≠ g; omega)).trans GR4.out
    have GR5 := (show Hid _ from gR5)
    have bB : Below B w w4.drew := by have h := B4.out.mono hB; exact ⟨h.os, h.tape, h.output, h.size, h.block⟩
    have B5 := (show Hid (Below B w (w4.drew.setCell ⟨g, k * 6 + 3, none⟩ (.string (tx ++ s)))) from bB.setCell (p := ⟨g, k * 6 + 3, none⟩) hgB _)
    clear gR5 bB
    go_wp2
    refine bodyPost_ret (SWrite_res2 rfl rfl (setCell_at GR5.out)) rfl ?_
    exact ⟨rfl, B5.out.setCell (p := ⟨w.heap.size + 1, 0, none⟩) (by show B ≤ w.heap.size + 1; omega) _⟩
end Go.Proofs.YtogdbjafibejdaaGreat

/- The specification's l6Write: a new text, and all cases (written by mk/swrite3.py). No condition. -/
namespace Go.Proofs.YtogdbjafibejdaaGreat
open Go.RowKit
set_option maxRecDepth 100000
set_option linter.unusedVariables false

theorem txt_good {s : ByteArray} (hs : empB s = false) (hu : utfOk (bs s) = true) : nodeB (txtN s).kind (txtN s).name (txtN s).attrs (txtN s).text (txtN s).kids.length = true := by
  have h0 : empB ⟨#[]⟩ = true := (empB_iff ⟨#[]⟩).mpr rfl
  simp [nodeB, txtN, hs, hu, h0]

set_option maxHeartbeats 2000000 in
set_option maxRecDepth 100000 in
theorem swrite_new {B : Nat} {w : World} {v : Value} {ns : List PNode} (hO : OwnN B w v ns) (hB : B ≤ w.heap.size) (ok : STreeOkP ns) {p : Nat} (hp : p < ns.length) (no : ¬ ∃ k, LastT ns p k) (s : ByteArray) (hs : s.size ≤ 1048576) (htx : ∀ n ∈ ns, n.text.size ≤ 1048576) (hse : empB s = false) (hu : utfOk (bs s) = true) :
    Calls Tryz.prog 72 #[.agg #[v], .int .i64 (p : Int), .string s] w fun e w' => ∃ (za : Option Addr) (zn zc : Nat) (r : Bool), e = .returned (.tuple #[.agg #[.slice za zn zc], .bool r]) ∧ (r = true ↔ ns.length ≠ 500) ∧ Below B w w' := by
  have hlen := ok.1.most
  obtain ⟨g, cap, rfl, hgB, hgl⟩ : ∃ g cap, v = (.slice (some ⟨g, 0, none⟩) ns.length cap) ∧ B ≤ g ∧ g < w.heap.size := by obtain ⟨_, _, h2, _⟩ := hO; exact one_form h2 (by have := ok.1.one; omega)
  have hk500 := kids_few ok.1 _ (List.getElem_mem hp)
  have HKN : Hid (∀ (m : Nat) (h : m < ns[p].kids.length), ∃ k : Nat, ns[p].kids[m] = (k : Int) ∧ k < ns.length) := fun m h => by
    have h2 := ((ok.1.fit p hp).2 ns[p].kids[m] (by rw [kidsOf_at hp]; exact List.getElem_mem h))
    exact ⟨ns[p].kids[m].toNat, by omega, by omega⟩
  have HNO : Hid (∀ (m k : Nat) (h : ns[p].kids.length = m + 1) (hk : k < ns.length), ns[p].kids[m] = (k : Int) → ns[k].kind ≠ 4) := fun m k h hk e h4 => no ⟨k, ns[p].kids.take m, by
    rw [kidsOf_at hp, ← e, List.take_append_getElem (by omega)]
    exact (List.take_of_length_le (by omega)).symm, hk, h4⟩
  obtain ⟨w2, hw2⟩ : ∃ w2, w2 = (w.alloc (.cells #[.slice (some ⟨g, 0, none⟩) ns.length cap] 26)).alloc (.cells #[.slice none 0 0] 26) := ⟨_, rfl⟩
  have b2 : Below w.heap.size w w2 := by rw [hw2]; exact ((Below.refl _ w).alloc (Nat.le_refl _) _).alloc (by simp) _
  have gT : w2.heap[w.heap.size]? = some (.cells #[.slice (some ⟨g, 0, none⟩) ns.length cap] 26 (0, 0)) := by
    rw [hw2, Below.heap_alloc _ _ _ (by simp)]; exact World.alloc_heap_new _ _
  have gR : w2.heap[w.heap.size + 1]? = some (.cells #[.slice none 0 0] 26 (0, 0)) := by
    rw [hw2]
    have := World.alloc_heap_new (w.alloc (.cells #[.slice (some ⟨g, 0, none⟩) ns.length cap] 26)) (.cells #[.slice none 0 0] 26)
    rwa [World.size_alloc] at this
  have O2 := hO.below b2
  have HO2 := (show Hid (OwnN B w2 (.slice (some ⟨g, 0, none⟩) ns.length cap) ns) from O2)
  obtain ⟨_, _, e2, _, _, hcs⟩ := O2.nodes.slice
  cases e2
  obtain ⟨_, _, _, kv, e3, _, _, _, _, _, _, k5, _, hkv⟩ := hcs p hp
  cases e3
  rw [Nat.zero_add] at k5
  obtain ⟨ka, kc, rfl, hk1, hk2, _, hk4⟩ := hkv
  have GT := (show Hid _ from gT)
  have GR := (show Hid _ from gR)
  have cT := (one_cell gT).1
  have cR := (one_cell gR).1
  have zR := (one_cell gR).2
  have B2 := (show Hid (Below w.heap.size w w2) from b2)
  have HOK := (show Hid (STreeOkP ns) from ok)
  have HST : Hid (ns.length < 500 → TreeOkP (ns ++ [txtN s])) := fun h => tree_snoc ok.1 rfl rfl (by simp [txtN]) (txt_good hse hu) h
  have CA : Hid (∀ W, Below w.heap.size w W → Calls Tryz.prog 120 #[.agg #[.slice (some ⟨g, 0, none⟩) ns.length cap], .agg #[.int .i64 4, .string ⟨#[]⟩, .slice none 0 0, .string s, .int .i64 0, .slice none 0 0]] W fun e w' => ∃ v', e = .returned (.tuple #[.agg #[v'], .int .i64 ns.length]) ∧ OwnN B w' v' (ns ++ [txtN s]) ∧ Below W.heap.size W w') := fun W b => sadd_any (hO.below b) (Nat.le_trans hB b.size) (by have := ok.1.one; omega) (by omega) 4 0 ⟨#[]⟩ s (rs := []) (sv_nil0 W) (by simp)
  have hpl : (p : Int) < ns.length := by omega
  clear O2 gT gR b2 hO htx no hse hu
  rcases hkl : ns[p].kids.length with _ | m
  · rw [hkl] at k5 hk1
    clear hkl hk4 hcs HKN HNO
    go_enter Tryz.func72, Tryz.ntmps72
    go_upto_region 1 with fail
    rw [← hw2]
    clear hw2
    go_wp2
    go_big_quiet (fail)
    by_cases h5 : ns.length = 500
    · have h5i : (ns.length : Int) = 500 := by omega
      have HBN : ∀ n, Below w.heap.size w (w2.drewN n) := fun n => B2.out.trans ((⟨rfl, rfl, rfl, Nat.le_refl _, fun _ _ => rfl⟩ : Below w2.heap.size w2 (w2.drewN n)).mono B2.out.size)
      go_wp2
      refine bodyPost_ret (SWrite_res rfl rfl (setCell_at (w := w2.drewN nq) GR.out)) rfl ?_
      exact ⟨_, _, _, false, rfl, ⟨fun h => (by cases h), fun h => absurd h5 h⟩, ((HBN _).setCell (p := ⟨w.heap.size + 1, 0, none⟩) (by simp) _).mono hB⟩
    · have h5i : ¬ (ns.length : Int) = 500 := by omega
      have H5 := (show Hid (ns.length < 500) from (by omega : ns.length < 500))
      have HBN := (show Hid (∀ n, Below w2.heap.size w2 (w2.drewN n)) from fun n => ⟨rfl, rfl, rfl, Nat.le_refl _, fun _ _ => rfl⟩)
      go_wp2_with fail
      go_at_call 120
      refine Calls.mono (CA.out _ (B2.out.trans ((HBN.out nq).mono B2.out.size))) ?_
      rintro e w4 ⟨v', rfl, o4, b4⟩
      have b24 : Below w2.heap.size w2 w4 := (HBN.out nq).trans (b4.mono (Nat.le_refl _))
      have B4 := (show Hid (Below w.heap.size w w4) from B2.out.trans (b24.mono B2.out.size))
      have gR4 := (b24.block _ (blk_lt GR.out)).trans GR.out
      obtain ⟨va, vc, rfl, _, _, _⟩ := o4.nodes.slice
      obtain ⟨L, hL⟩ : ∃ L, L = (ns ++ [txtN s]).length := ⟨_, rfl⟩
      rw [← hL] at o4 ⊢
      obtain ⟨w5, hw5⟩ : ∃ x, x = w4.alloc (.cells #[.slice va L vc] 26) := ⟨_, rfl⟩
      have b5 : Below w4.heap.size w4 w5 := by rw [hw5]; exact (Below.refl _ _).alloc (Nat.le_refl _) _
      have gn5 : w5.heap[w4.heap.size]? = some (.cells #[.slice va L vc] 26 (0, 0)) := by rw [hw5]; exact World.alloc_heap_new _ _
      obtain ⟨N, hN⟩ : ∃ x, x = w4.heap.size := ⟨_, rfl⟩
      rw [← hN] at gn5
      have cN5 := (one_cell gn5).1
      have gR5 := (b5.block _ (blk_lt gR4)).trans gR4
      have GR5 := (show Hid _ from gR5)
      have cR5 := (one_cell gR5).1
      have zR5 := (one_cell gR5).2
      have O5 := (show Hid (OwnN B w5 (.slice va L vc) (ns ++ [txtN s])) from o4.below b5)
      have B5 := (show Hid (Below w.heap.size w w5) from B4.out.trans (b5.mono B4.out.size))
      have HRN := (show Hid (w.heap.size + 1 < w5.heap.size) from blk_lt gR5)
      have hc5 : ns.length < (ns ++ [txtN s]).length := by simp
      have hp5 : p < (ns ++ [txtN s]).length := by simp; omega
      have HCH := (show Hid _ from shang_right O5.out (Nat.le_trans hB B5.out.size) (HST.out H5.out) hc5 hp5)
      have hown : ∀ r, (Value.slice va L vc).ownBlock = some r → B ≤ r ∧ r ≠ w.heap.size + 1 := fun r e => ⟨(World.ownsRow.lt O5.out.row r e).1, fun e2 => by
        rcases O5.out.row.2 with ⟨e', _⟩ | ⟨g', cap', cur, e', _, hg', _⟩
        · rw [e'] at e; cases e
        · rw [e'] at e
          simp only [Value.ownBlock, Option.some.injEq] at e
          rw [e, e2, GR5.out] at hg'
          cases hg'⟩
      have HOWN := (show Hid _ from hown)
      clear b24 gR4 b4 b5 gn5 gR5 o4 hc5 hp5 hown hL cT cR zR k5
      go_upto_region 12 with fail
      rw [← hw5, ← hN]
      clear hw5 hN
      go_wp2_with fail
      go_at_call 56
      refine Calls.mono HCH.out ?_
      rintro e w6 ⟨rfl, g6⟩
      have gR6 := (g6.block _ HRN.out (fun e => (HOWN.out _ e.symm).2 rfl)).trans GR5.out
      have GR6 := (show Hid _ from gR6)
      have cR6 := (one_cell gR6).1
      have zR6 := (one_cell gR6).2
      have B6 := (show Hid (Below B w w6) from (B5.out.mono hB).grown g6 (Nat.le_trans hB B5.out.size) (fun r e => (HOWN.out r e).1))
      clear g6 gR6
      go_wp2
      refine bodyPost_ret (SWrite_res rfl rfl (setCell_at GR6.out)) rfl ?_
      exact ⟨_, _, _, true, rfl, ⟨fun _ => h5, fun _ => rfl⟩, B6.out.setCell (p := ⟨w.heap.size + 1, 0, none⟩) (by show B ≤ w.heap.size + 1; omega) _⟩
  · obtain ⟨k, hxk, hk⟩ := HKN.out m (by omega)
    have hn4 := HNO.out m k hkl hk hxk
    have hmz : m ≤ 500 := by omega
    obtain ⟨_, _, _, _, e4, _, k0, _, _, k3, _, _, _, _⟩ := hcs k hk
    cases e4
    rw [Nat.zero_add] at k0
    obtain ⟨kb, ko, rfl, kz⟩ := hk4 m (by omega)
    have kz' : w2.cell? ⟨kb, ko + m, none⟩ = some (.int .i64 (k : Int)) := by rw [kz]; simp [List.getD_eq_getElem?_getD, List.getElem?_eq_getElem (show m < ns[p].kids.length by omega), hxk]
    rw [hkl] at k5 hk1
    obtain ⟨kk, hkk⟩ : ∃ kk, kk = ns[k].kind := ⟨_, rfl⟩
    rw [← hkk] at k0 hn4
    have hki : (k : Int) < ns.length := by omega
    clear hkl hk4 hcs HKN HNO hkk hxk kz
    go_enter Tryz.func72, Tryz.ntmps72
    go_upto_region 1 with fail
    rw [← hw2]
    clear hw2
    go_wp2
    go_big_quiet (fail)
    by_cases h5 : ns.length = 500
    · have h5i : (ns.length : Int) = 500 := by omega
      have HBN : ∀ n, Below w.heap.size w (w2.drewN n) := fun n => B2.out.trans ((⟨rfl, rfl, rfl, Nat.le_refl _, fun _ _ => rfl⟩ : Below w2.heap.size w2 (w2.drewN n)).mono B2.out.size)
      go_wp2
      refine bodyPost_ret (SWrite_res rfl rfl (setCell_at (w := w2.drewN nq) GR.out)) rfl ?_
      exact ⟨_, _, _, false, rfl, ⟨fun h => (by cases h), fun h => absurd h5 h⟩, ((HBN _).setCell (p := ⟨w.heap.size + 1, 0, none⟩) (by simp) _).mono hB⟩
    · have h5i : ¬ (ns.length : Int) = 500 := by omega
      have H5 := (show Hid (ns.length < 500) from (by omega : ns.length < 500))
      have HBN := (show Hid (∀ n, Below w2.heap.size w2 (w2.drewN n)) from fun n => ⟨rfl, rfl, rfl, Nat.le_refl _, fun _ _ => rfl⟩)
      go_wp2_with fail
      go_at_call 120
      refine Calls.mono (CA.out _ (B2.out.trans ((HBN.out nq).mono B2.out.size))) ?_
      rintro e w4 ⟨v', rfl, o4, b4⟩
      have b24 : Below w2.heap.size w2 w4 := (HBN.out nq).trans (b4.mono (Nat.le_refl _))
      have B4 := (show Hid (Below w.heap.size w w4) from B2.out.trans (b24.mono B2.out.size))
      have gR4 := (b24.block _ (blk_lt GR.out)).trans GR.out
      obtain ⟨va, vc, rfl, _, _, _⟩ := o4.nodes.slice
      obtain ⟨L, hL⟩ : ∃ L, L = (ns ++ [txtN s]).length := ⟨_, rfl⟩
      rw [← hL] at o4 ⊢
      obtain ⟨w5, hw5⟩ : ∃ x, x = w4.alloc (.cells #[.slice va L vc] 26) := ⟨_, rfl⟩
      have b5 : Below w4.heap.size w4 w5 := by rw [hw5]; exact (Below.refl _ _).alloc (Nat.le_refl _) _
      have gn5 : w5.heap[w4.heap.size]? = some (.cells #[.slice va L vc] 26 (0, 0)) := by rw [hw5]; exact World.alloc_heap_new _ _
      obtain ⟨N, hN⟩ : ∃ x, x = w4.heap.size := ⟨_, rfl⟩
      rw [← hN] at gn5
      have cN5 := (one_cell gn5).1
      have gR5 := (b5.block _ (blk_lt gR4)).trans gR4
      have GR5 := (show Hid _ from gR5)
      have cR5 := (one_cell gR5).1
      have zR5 := (one_cell gR5).2
      have O5 := (show Hid (OwnN B w5 (.slice va L vc) (ns ++ [txtN s])) from o4.below b5)
      have B5 := (show Hid (Below w.heap.size w w5) from B4.out.trans (b5.mono B4.out.size))
      have HRN := (show Hid (w.heap.size + 1 < w5.heap.size) from blk_lt gR5)
      have hc5 : ns.length < (ns ++ [txtN s]).length := by simp
      have hp5 : p < (ns ++ [txtN s]).length := by simp; omega
      have HCH := (show Hid _ from shang_right O5.out (Nat.le_trans hB B5.out.size) (HST.out H5.out) hc5 hp5)
      have hown : ∀ r, (Value.slice va L vc).ownBlock = some r → B ≤ r ∧ r ≠ w.heap.size + 1 := fun r e => ⟨(World.ownsRow.lt O5.out.row r e).1, fun e2 => by
        rcases O5.out.row.2 with ⟨e', _⟩ | ⟨g', cap', cur, e', _, hg', _⟩
        · rw [e'] at e; cases e
        · rw [e'] at e
          simp only [Value.ownBlock, Option.some.injEq] at e
          rw [e, e2, GR5.out] at hg'
          cases hg'⟩
      have HOWN := (show Hid _ from hown)
      clear b24 gR4 b4 b5 gn5 gR5 o4 hc5 hp5 hown hL cT cR zR k5
      go_upto_region 12 with fail
      rw [← hw5, ← hN]
      clear hw5 hN
      go_wp2_with fail
      go_at_call 56
      refine Calls.mono HCH.out ?_
      rintro e w6 ⟨rfl, g6⟩
      have gR6 := (g6.block _ HRN.out (fun e => (HOWN.out _ e.symm).2 rfl)).trans GR5.out
      have GR6 := (show Hid _ from gR6)
      have cR6 := (one_cell gR6).1
      have zR6 := (one_cell gR6).2
      have B6 := (show Hid (Below B w w6) from (B5.out.mono hB).grown g6 (Nat.le_trans hB B5.out.size) (fun r e => (HOWN.out r e).1))
      clear g6 gR6
      go_wp2
      refine bodyPost_ret (SWrite_res rfl rfl (setCell_at GR6.out)) rfl ?_
      exact ⟨_, _, _, true, rfl, ⟨fun _ => h5, fun _ => rfl⟩, B6.out.setCell (p := ⟨w.heap.size + 1, 0, none⟩) (by show B ≤ w.heap.size + 1; omega) _⟩

/-- l6Write of any node that may have Kids. -/
theorem swrite_any {B : Nat} {w : World} {v : Value} {ns : List PNode} (hO : OwnN B w v ns) (hB : B ≤ w.heap.size) (ok : STreeOkP ns) {p : Nat} (hp : p < ns.length) (s : ByteArray) (hs : s.size ≤ 1048576) (htx : ∀ n ∈ ns, n.text.size ≤ 1048576) (hse : empB s = false) (hu : utfOk (bs s) = true) :
    Calls Tryz.prog 72 #[.agg #[v], .int .i64 (p : Int), .string s] w fun e w' => ∃ (za : Option Addr) (zn zc : Nat) (r : Bool), e = .returned (.tuple #[.agg #[.slice za zn zc], .bool r]) ∧ (r = true ↔ ((∃ k, LastT ns p k ∧ ∃ h : k < ns.length, utfOk (bs (ns[k].text ++ s)) = true) ∨ ((¬ ∃ k, LastT ns p k) ∧ ns.length ≠ 500))) ∧ Below B w w' := by
  have hlen := ok.1.most
  have hk5 := kids_few ok.1 _ (List.getElem_mem hp)
  by_cases hl : ∃ k, LastT ns p k
  · obtain ⟨k, hk⟩ := hl
    obtain ⟨a, cap, rfl, _⟩ := hO.nodes.slice
    have hk0 : k < ns.length := by obtain ⟨_, _, h, _⟩ := hk; exact h
    cases hut : utfOk (bs (ns[k].text ++ s)) with
    | false =>
      refine Calls.mono (swrite_bad hO hB hlen hp (by omega) hk s hs htx hk0 hut) ?_
      rintro e w' ⟨r, rfl, hr, b⟩
      refine ⟨_, _, _, r, rfl, ⟨fun h => ?_, fun h => ?_⟩, b⟩
      · rw [hr hk0, hut] at h; cases h
      · rcases h with ⟨j, hj, _, hu2⟩ | ⟨hn, _⟩
        · have e := hk.one hj
          subst e
          rw [hut] at hu2; cases hu2
        · exact absurd ⟨k, hk⟩ hn
    | true =>
      refine Calls.mono (swrite_more hO hB hlen hp (by omega) hk s hs htx hk0 hut) ?_
      rintro e w' ⟨rfl, b⟩
      exact ⟨_, _, _, true, rfl, ⟨fun _ => .inl ⟨k, hk, hk0, hut⟩, fun _ => rfl⟩, b⟩
  · refine Calls.mono (swrite_new hO hB ok hp hl s hs htx hse hu) ?_
    rintro e w' ⟨za, zn, zc, r, rfl, hr, b⟩
    refine ⟨_, _, _, r, rfl, ⟨fun h => .inr ⟨hl, hr.mp h⟩, fun h => ?_⟩, b⟩
    rcases h with ⟨j, hj, _⟩ | ⟨_, h⟩
    · exact absurd ⟨j, hj⟩ hl
    · exact hr.mpr h
end Go.Proofs.YtogdbjafibejdaaGreat

/- When a text is written below a node, in plain words. No condition. -/
namespace Go.Proofs.YtogdbjafibejdaaGreat
open Go.RowKit
set_option maxRecDepth 100000
set_option linter.unusedVariables false

/-- When the specification writes a text. -/
def WriteB (ns : List PNode) (p : Int) (s : ByteArray) : Prop :=
  STreeOkP ns ∧ (0 ≤ p ∧ p < ns.length) ∧ (∃ h : p.toNat < ns.length, opensB ns[p.toNat] = true) ∧ empB s = false ∧ utfOk (bs s) = true ∧
    ((∃ k, LastT ns p.toNat k ∧ ∃ h : k < ns.length, utfOk (bs (ns[k].text ++ s)) = true) ∨ ((¬ ∃ k, LastT ns p.toNat k) ∧ ns.length ≠ 500))

theorem write_iff {ns ms : List PNode} (h : STreeOkP ns) (p : Int) (s : ByteArray) (hms : (∃ k, LastT ns p.toNat k ∧ ms = moreN ns k s) ∨ ((¬ ∃ k, LastT ns p.toNat k) ∧ ms = newN ns p.toNat s)) :
    WriteB ns p s ↔ ((0 ≤ p ∧ p < ns.length) ∧ empB s = false ∧ utfOk (bs s) = true) ∧ TreeOkP ms := by
  have hm := h.1.most
  constructor
  · rintro ⟨_, h1, ⟨h2, h3⟩, h4, h5, h6⟩
    refine ⟨⟨h1, h4, h5⟩, ?_⟩
    rcases hms with ⟨k, hl, rfl⟩ | ⟨hn, rfl⟩
    · rcases h6 with ⟨j, hj, hj2, hu⟩ | ⟨hno, _⟩
      · have e := hl.one hj
        subst e
        obtain ⟨pre, hk, hk2, hk4⟩ := hl
        exact (more_ok h.1 hk2 hk4 s).mpr hu
      · exact absurd ⟨k, hl⟩ hno
    · rcases h6 with ⟨j, hj, _⟩ | ⟨_, hne⟩
      · exact absurd ⟨j, hj⟩ hn
      · exact (new_ok h h2 h4 h5).mpr ⟨by omega, h3⟩
  · rintro ⟨⟨h1, h4, h5⟩, ht⟩
    have hp : p.toNat < ns.length := by omega
    rcases hms with ⟨k, hl, rfl⟩ | ⟨hn, rfl⟩
    · refine ⟨h, h1, ⟨hp, last_opens h.1 hp hl⟩, h4, h5, .inl ⟨k, hl, ?_⟩⟩
      obtain ⟨pre, hk, hk2, hk4⟩ := hl
      exact ⟨hk2, (more_ok h.1 hk2 hk4 s).mp ht⟩
    · have hh := (new_ok h hp h4 h5).mp ht
      exact ⟨h, h1, ⟨hp, hh.2⟩, h4, h5, .inr ⟨hn, by omega⟩⟩

theorem utf_size {s : ByteArray} (h : utfOk (bs s) = true) : s.size ≤ 3000 := by
  apply Classical.byContradiction
  intro hn
  rw [utfOk_no (by rw [bs_len]; exact hn)] at h
  cases h
theorem fit_moreN {ns : List PNode} {k : Nat} {s : ByteArray} (h : ∀ n ∈ ns, NodeFit n) (hs : s.size ≤ 10000) (htx : ∀ n ∈ ns, n.kind = 4 → n.text.size ≤ 3000) (hk : ∃ h : k < ns.length, ns[k].kind = 4) : ∀ n ∈ moreN ns k s, NodeFit n := by
  intro n hn
  obtain ⟨i, hi, rfl⟩ := List.mem_iff_getElem.mp hn
  have hi' : i < ns.length := by rw [moreN_len] at hi; exact hi
  have hf := h _ (List.getElem_mem hi')
  obtain ⟨hk1, hk2⟩ := hk
  by_cases e : k = i
  · subst e
    have e : (moreN ns k s)[k] = setText ns[k] (ns[k].text ++ s) := by simp [moreN]
    rw [e]
    have ht := htx _ (List.getElem_mem hi') hk2
    exact ⟨hf.nm, by show (ns[k].text ++ s).size ≤ 1048576; rw [ByteArray.size_append]; omega, hf.rs, hf.each, hf.kl⟩
  · have e : (moreN ns k s)[i] = ns[i] := by simp [moreN, e]
    rw [e]
    exact hf
theorem text_small {ns : List PNode} (h : TreeOkP ns) : ∀ n ∈ ns, n.kind = 4 → n.text.size ≤ 3000 := by
  intro n hn h4
  obtain ⟨k, hk, rfl⟩ := List.mem_iff_getElem.mp hn
  have hg := h.good k hk
  unfold goodB nodeB at hg
  simp only [h4] at hg
  simp at hg
  exact utf_size hg.2.1.1.1.2
theorem fit_newN {ns : List PNode} {p : Nat} {s : ByteArray} (h : ∀ n ∈ ns, NodeFit n ∧ n.kids.length ≤ 1000000) (hs : s.size ≤ 10000) : ∀ n ∈ newN ns p s, NodeFit n := by
  refine hangN_fit (fun n hn => ?_)
  rcases List.mem_append.mp hn with hn | hn
  · exact h n hn
  · rw [List.mem_singleton] at hn
    subst hn
    exact ⟨⟨by show (⟨#[]⟩ : ByteArray).size ≤ 1048576; decide, by show s.size ≤ 1048576; omega, by simp [txtN], fun p hp => by simp [txtN] at hp, by simp [txtN]⟩, by simp [txtN]⟩
theorem fit_write {ns ms : List PNode} (h : TreeOkP ns) (hf : ∀ n ∈ ns, NodeFit n) (p : Nat) (s : ByteArray) (hs : s.size ≤ 10000) (hms : (∃ k, LastT ns p k ∧ ms = moreN ns k s) ∨ ((¬ ∃ k, LastT ns p k) ∧ ms = newN ns p s)) : (∀ n ∈ ms, NodeFit n) ∧ ms.length ≤ 501 := by
  have hm := h.most
  rcases hms with ⟨k, hl, rfl⟩ | ⟨hn, rfl⟩
  · obtain ⟨pre, hk, hk2, hk4⟩ := hl
    exact ⟨fit_moreN hf hs (text_small h) ⟨hk2, hk4⟩, by rw [moreN_len]; omega⟩
  · exact ⟨fit_newN (fun n hn => ⟨hf n hn, by have := kids_few h n hn; omega⟩) hs, by simp [newN, hangN_len]; omega⟩
theorem write_ms (ns : List PNode) (p : Nat) (s : ByteArray) : ∃ ms, (∃ k, LastT ns p k ∧ ms = moreN ns k s) ∨ ((¬ ∃ k, LastT ns p k) ∧ ms = newN ns p s) := by
  by_cases h : ∃ k, LastT ns p k
  · obtain ⟨k, hk⟩ := h
    exact ⟨_, .inl ⟨k, hk, rfl⟩⟩
  · exact ⟨_, .inr ⟨h, rfl⟩⟩
end Go.Proofs.YtogdbjafibejdaaGreat
