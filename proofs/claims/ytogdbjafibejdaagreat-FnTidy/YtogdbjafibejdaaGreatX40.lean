/- The program's change with the steps of TreeHang and TreeTake, from the step's contract (written by mk/ichange2.py). -/
import Derived.Test.YtogdbjafibejdaaGreatX35
import Derived.Test.YtogdbjafibejdaaGreatX39
import Derived.Test.YtogdbjafibejdaaGreatX36
namespace Go.Proofs.YtogdbjafibejdaaGreat
open Go.RowKit
set_option maxRecDepth 100000
set_option linter.unusedVariables false

/-- Nothing is turned but the block a, and rows of nodes and of integers from block B on. -/
structure OpFr (B a : Nat) (w w' : World) : Prop where
  os : w'.os = w.os
  tape : w'.tape = w.tape
  output : w'.output = w.output
  size : w.heap.size ≤ w'.heap.size
  block : ∀ j, j < w.heap.size → j ≠ a → (j < B ∨ ∀ cs t fr, w.heap[j]? = some (.cells cs t fr) → t ≠ 36 ∧ t ≠ 3) → w'.heap[j]? = w.heap[j]?
theorem OpFr.box {B a : Nat} {w w' : World} (h : OpFr B a w w') {j : Nat} {cs : Array Value} {t : TypeId} {fr : Nat × Nat} (hj : w.heap[j]? = some (.cells cs t fr)) (ht : t ≠ 36) (ht2 : t ≠ 3) (hne : j ≠ a) : w'.heap[j]? = some (.cells cs t fr) :=
  (h.block j (lt_of_block hj) hne (.inr (fun cs' t' fr' e => by rw [hj] at e; cases e; exact ⟨ht, ht2⟩))).trans hj
theorem OpFr.below {B a N : Nat} {w w' : World} (h : OpFr B a w w') (hN : N ≤ B) (ha : N ≤ a) (hB : N ≤ w.heap.size) : Below N w w' := ⟨h.os, h.tape, h.output, h.size, fun j hj => h.block j (by omega) (by omega) (.inl (by omega))⟩
theorem OpFr.of_below {B a : Nat} {w w' : World} (h : Below w.heap.size w w') : OpFr B a w w' := ⟨h.os, h.tape, h.output, h.size, fun j hj _ _ => h.block j hj⟩
theorem OpFr.of_turn {B a g n cap : Nat} {qs : List (PNode × (Value × Value))} {w w' : World} (h : TurnQ g qs w w') (ho : OwnQ B w (.slice (some ⟨g, 0, none⟩) n cap) qs) : OpFr B a w w' := ⟨h.os, h.tape, h.output, h.size, fun j hj _ hh => h.other (v := .nilFunc) ho hj hh⟩
theorem OpFr.trans {B a : Nat} {w w1 w2 : World} (h : OpFr B a w w1) (k : OpFr B a w1 w2) : OpFr B a w w2 :=
  ⟨k.os.trans h.os, k.tape.trans h.tape, k.output.trans h.output, Nat.le_trans h.size k.size, fun j hj hja hb => by
    have e := h.block j hj hja hb
    refine (k.block j (Nat.lt_of_lt_of_le hj h.size) hja ?_).trans e
    rcases hb with hb | hb
    · exact .inl hb
    · exact .inr (by rw [e]; exact hb)⟩
theorem OpFr.put {B a r : Nat} {w w1 w2 : World} (h : OpFr B a w w1) (g : w1.grownBy w2 (some r)) (hr : r = a ∨ w.heap.size ≤ r) : OpFr B a w w2 :=
  ⟨g.os.trans h.os, g.tape.trans h.tape, g.output.trans h.output, Nat.le_trans h.size g.size, fun j hj hja hb => (g.block j (Nat.lt_of_lt_of_le hj h.size) (fun e => by injection e with e; omega)).trans (h.block j hj hja hb)⟩
theorem row_turn {B' e size n g : Nat} {v : Value} {xs : List Value} {qs : List (PNode × (Value × Value))} {W W' : World} (h : W.ownsRow B' e size v n xs) (t : TurnQ g qs W W') (hg : g < B') (hq : ∀ q ∈ qs, ∀ r, q.2.2.ownBlock = some r → r < B') : W'.ownsRow B' e size v n xs := by
  refine ⟨h.1, ?_⟩
  rcases h.2 with h2 | ⟨g', cap, cur, e1, e2, e3, e4⟩
  · exact .inl h2
  · exact .inr ⟨g', cap, cur, e1, e2, (t.block g' (lt_of_block e3) (by omega) (fun q hq' e => by have := hq q hq' g' e; omega)).trans e3, e4⟩
theorem OwnN.turn {B' g : Nat} {v : Value} {ms : List PNode} {qs : List (PNode × (Value × Value))} {W W' : World} (h : OwnN B' W v ms) (t : TurnQ g qs W W') (hg : g < B') (hq : ∀ q ∈ qs, ∀ r, q.2.2.ownBlock = some r → r < B') : OwnN B' W' v ms := by
  obtain ⟨ps, h1, h2, h3⟩ := h
  exact ⟨ps, h1, row_turn h2 t hg hq, fun q hqq => ⟨row_turn (h3 q hqq).1 t hg hq, row_turn (h3 q hqq).2 t hg hq⟩⟩

set_option maxHeartbeats 2000000 in
set_option maxRecDepth 100000 in
theorem ichangeHang {B a g cap : Nat} {w : World} {qs : List (PNode × (Value × Value))} {ms : List PNode} {C : Prop} {x0 x1 x2 : Nat} (ha : w.heap[a]? = some (.cells #[.slice (some ⟨g, 0, none⟩) qs.length cap] 77 (0, 0))) (hO : OwnQ B w (.slice (some ⟨g, 0, none⟩) qs.length cap) qs) (hB : B ≤ w.heap.size) (h0 : 0 < qs.length) (hlen : qs.length ≤ 100000)
    (hfit : ∀ n ∈ qs.map (fun q => q.1), NodeFit n) (hfm : ∀ n ∈ ms, NodeFit n) (hml : ms.length = qs.length)
    (hstep : ∀ W, Below w.heap.size w W → Calls Tryz.prog 49 #[.pointer (some ⟨x0, 0, none⟩), .pointer (some ⟨x1, 0, none⟩), .pointer (some ⟨x2, 0, none⟩)] W fun e w' => ∃ r : Bool, e = .returned (.bool r) ∧ (r = true ↔ C) ∧ (r = true → ∃ qs', qs'.map (fun q => q.1) = ms ∧ OwnQ B w' (.slice (some ⟨g, 0, none⟩) qs.length cap) qs') ∧ TurnQ g qs W w') :
    Calls Tryz.prog 48 #[.pointer (some ⟨a, 0, none⟩), .func (.func 49) #[] #[.pointer (some ⟨x0, 0, none⟩), .pointer (some ⟨x1, 0, none⟩), .pointer (some ⟨x2, 0, none⟩)]] w fun e w' =>
      ∃ r : Bool, e = .returned (.bool r) ∧ (r = true ↔ C ∧ TreeOkP ms) ∧ (∃ g' n' c', w'.heap[a]? = some (.cells #[.slice (some ⟨g', 0, none⟩) n' c'] 77 (0, 0)) ∧ OwnN B w' (.slice (some ⟨g', 0, none⟩) n' c') (if r = true then ms else qs.map (fun q => q.1))) ∧ OpFr B a w w' := by
  have hmf : ∀ (fn : Fn) (first cap : Array Value) (w : World), (Instr.makeFunc fn first cap).run Tryz.prog w = .ok (.func fn first cap) w := fun _ _ _ _ => rfl
  have HA := (show Hid _ from ha)
  have HO := (show Hid (OwnQ B w (.slice (some ⟨g, 0, none⟩) qs.length cap) qs) from hO)
  have HFIT := (show Hid _ from hfit)
  have HFM := (show Hid _ from hfm)
  have HST := (show Hid (∀ W, Below w.heap.size w W → Calls Tryz.prog 49 #[.pointer (some ⟨x0, 0, none⟩), .pointer (some ⟨x1, 0, none⟩), .pointer (some ⟨x2, 0, none⟩)] W fun e w' => ∃ r : Bool, e = .returned (.bool r) ∧ (r = true ↔ C) ∧ (r = true → ∃ qs', qs'.map (fun q => q.1) = ms ∧ OwnQ B w' (.slice (some ⟨g, 0, none⟩) qs.length cap) qs') ∧ TurnQ g qs W w') from hstep)
  have hal := lt_of_block ha
  have hgl : g < w.heap.size := (World.ownsRow.lt hO.1 g rfl).2
  have hga : a ≠ g := fun e => by
    obtain ⟨cur, hcur⟩ := hO.rowCells
    rw [← e, ha] at hcur; cases hcur
  have HKA := (show Hid (∀ q ∈ qs, ∀ r, q.2.2.ownBlock = some r → r < w.heap.size ∧ r ≠ a) from fun q hq r e => ⟨(Own.lt (hO.2 q hq).2 r e).2, fun e2 => by
    rcases (hO.2 q hq).2.2 with ⟨e1, _⟩ | ⟨g', cap', cur, e1, _, hh, _⟩
    · rw [e1] at e; cases e
    · rw [e1] at e
      simp only [Value.ownBlock, Option.some.injEq] at e
      subst e2
      subst e
      rw [ha] at hh; cases hh⟩)
  clear ha hO hfit hfm hstep
  obtain ⟨w1, hw1⟩ : ∃ x, x = (w.alloc (.cells #[.pointer (some ⟨a, 0, none⟩)] 64)).alloc (.cells #[.bool false] 4) := ⟨_, rfl⟩
  have b1 : Below w.heap.size w w1 := by rw [hw1]; exact ((Below.refl _ w).alloc (Nat.le_refl _) _).alloc (by simp) _
  have hs1 : w1.heap.size = w.heap.size + 1 + 1 := by rw [hw1, World.size_alloc, World.size_alloc]
  have gP : w1.heap[w.heap.size]? = some (.cells #[.pointer (some ⟨a, 0, none⟩)] 64 (0, 0)) := by rw [hw1, Below.heap_alloc _ _ _ (by simp)]; exact World.alloc_heap_new _ _
  have gD : w1.heap[w.heap.size + 1]? = some (.cells #[.bool false] 4 (0, 0)) := by
    rw [hw1]
    have := World.alloc_heap_new (w.alloc (.cells #[.pointer (some ⟨a, 0, none⟩)] 64)) (.cells #[.bool false] 4)
    rwa [World.size_alloc] at this
  obtain ⟨ca, _⟩ := one_cell ((b1.block a hal).trans HA.out)
  obtain ⟨ca0, _⟩ := one_cell HA.out
  have GP := (show Hid _ from gP)
  have GD := (show Hid _ from gD)
  have HS1 := (show Hid _ from hs1)
  clear gP gD hs1
  go_enter_defers Tryz.func48, Tryz.ntmps48
  go_wp2_with fail
  go_at_call 103
  rw [← hw1]
  refine Calls.mono (icopy_any (ns := qs.map (fun q => q.1)) (w := w1) (v := .slice (some ⟨g, 0, none⟩) qs.length cap) ((HO.out.n.nodes).below b1) HFIT.out (by rw [List.length_map]; omega)) ?_
  rintro e w2 ⟨vb, rfl, ob, b2⟩
  clear hw1
  have hform := ob.form (by rw [List.length_map]; exact h0)
  rw [List.length_map] at hform
  obtain ⟨gb, cb, rfl, _, _⟩ := hform
  have hb2 := b1.trans (b2.mono b1.size)
  obtain ⟨w3, hw3⟩ : ∃ x, x = w2.alloc (.cells #[.slice (some ⟨gb, 0, none⟩) qs.length cb] 24) := ⟨_, rfl⟩
  have b23 : Below w2.heap.size w2 w3 := by rw [hw3]; exact (Below.refl _ _).alloc (Nat.le_refl _) _
  have b3 : Below w.heap.size w w3 := hb2.trans (b23.mono hb2.size)
  have b13 : Below w1.heap.size w1 w3 := b2.trans (b23.mono b2.size)
  have hsz1 := HS1.out
  have gP3 := (b13.block w.heap.size (by omega)).trans GP.out
  have gD3 := (b13.block (w.heap.size + 1) (by omega)).trans GD.out
  have gE3 : w3.heap[w2.heap.size]? = some (.cells #[.slice (some ⟨gb, 0, none⟩) qs.length cb] 24 (0, 0)) := by rw [hw3]; exact World.alloc_heap_new _ _
  have hE : w.heap.size + 1 + 1 ≤ w2.heap.size := by have := b2.size; omega
  have OB := (show Hid (OwnN w1.heap.size w3 (.slice (some ⟨gb, 0, none⟩) qs.length cb) (qs.map (fun q => q.1))) from ob.below b23)
  have CC := (show Hid _ from HST.out w3 b3)
  have GA3 := (show Hid _ from (b3.block a hal).trans HA.out)
  have OQ3 := (show Hid (OwnQ B w3 (.slice (some ⟨g, 0, none⟩) qs.length cap) qs) from HO.out.below b3)
  have GP3 := (show Hid _ from gP3)
  have GD3 := (show Hid _ from gD3)
  have GE3 := (show Hid _ from gE3)
  have HE := (show Hid (w.heap.size + 1 + 1 ≤ w2.heap.size) from hE)
  have B3 := (show Hid (Below w.heap.size w w3) from b3)
  have HZ := (show Hid (w1.heap.size = w.heap.size + 1 + 1) from hsz1)
  have hw3s : w2.heap.size < w3.heap.size := lt_of_block gE3
  clear ob gP3 gD3 gE3 hE b3 b13 b23 b2 hb2 b1 hsz1 GP GD HS1 ca ca0
  go_wp2_with fail
  go_at_call 49
  rw [← hw3]
  refine Calls.mono CC.out ?_
  rintro e w4 ⟨rs, rfl, hrs, hqs, tq⟩
  clear hw3 CC
  have kt : ∀ {j : Nat} {cs : Array Value} {t : TypeId} {fr : Nat × Nat}, w3.heap[j]? = some (.cells cs t fr) → (j = a ∨ w.heap.size ≤ j) → w4.heap[j]? = some (.cells cs t fr) := fun {j} {cs} {t} {fr} hj hh => (tq.block j (lt_of_block hj) (by rcases hh with rfl | hh; exact hga; omega) (fun q hq e => by
    have := HKA.out q hq j e
    omega)).trans hj
  have gP4 := kt GP3.out (.inr (Nat.le_refl _))
  have gD4 := kt GD3.out (.inr (by omega))
  have gE4 := kt GE3.out (.inr (by have := HE.out; omega))
  have gA4 := kt GA3.out (.inl rfl)
  have ob4 := OB.out.turn tq (by have := HZ.out; omega) (fun q hq r e => by have := HKA.out q hq r e; have := HZ.out; omega)
  have f4 : OpFr B a w w4 := (OpFr.of_below B3.out).trans (OpFr.of_turn tq OQ3.out)
  obtain ⟨cP4, _⟩ := one_cell gP4
  have OB4 := (show Hid (OwnN w1.heap.size w4 (.slice (some ⟨gb, 0, none⟩) qs.length cb) (qs.map (fun q => q.1))) from ob4)
  have F4 := (show Hid (OpFr B a w w4) from f4)
  have GP4 := (show Hid _ from gP4)
  have GD4 := (show Hid _ from gD4)
  have GE4 := (show Hid _ from gE4)
  have GA4 := (show Hid _ from gA4)
  have HRS := (show Hid (rs = true ↔ C) from hrs)
  have HQS := (show Hid (rs = true → ∃ qs', qs'.map (fun q => q.1) = ms ∧ OwnQ B w4 (.slice (some ⟨g, 0, none⟩) qs.length cap) qs') from hqs)
  have hDl := lt_of_block gD4
  clear gP4 gD4 gE4 gA4 ob4 f4 kt tq hqs hrs GP3 GD3 GE3 GA3 OQ3 OB B3
  cases rs
  · have HNC : Hid (¬ C) := fun h => by have := HRS.out.mpr h; cases this
    have b44 : Below w4.heap.size w4 w4 := Below.refl _ _
    have gD6 := (b44.block _ (lt_of_block GD4.out)).trans GD4.out
    have g67 : w4.grownBy (w4.setCell ⟨w.heap.size + 1, 0, none⟩ (.bool false)) (some (w.heap.size + 1)) := grown_setCell _ _ _ _
    have b6s := b44.size
    have hE2 := HE.out
    have a7 : (w4.setCell ⟨w.heap.size + 1, 0, none⟩ (.bool false)).heap[a]? = some (.cells #[.slice (some ⟨g, 0, none⟩) qs.length cap] 77 (0, 0)) := (Below.heap_setCell _ _ _ a (by show a ≠ w.heap.size + 1; omega)).trans ((b44.block a (lt_of_block GA4.out)).trans GA4.out)
    have e7 : (w4.setCell ⟨w.heap.size + 1, 0, none⟩ (.bool false)).heap[w2.heap.size]? = some (.cells #[.slice (some ⟨gb, 0, none⟩) qs.length cb] 24 (0, 0)) := (Below.heap_setCell _ _ _ _ (by show w2.heap.size ≠ w.heap.size + 1; omega)).trans ((b44.block _ (lt_of_block GE4.out)).trans GE4.out)
    have p7 : (w4.setCell ⟨w.heap.size + 1, 0, none⟩ (.bool false)).heap[w.heap.size]? = some (.cells #[.pointer (some ⟨a, 0, none⟩)] 64 (0, 0)) := (Below.heap_setCell _ _ _ _ (by show w.heap.size ≠ w.heap.size + 1; omega)).trans ((b44.block _ (lt_of_block GP4.out)).trans GP4.out)
    have d7 : (w4.setCell ⟨w.heap.size + 1, 0, none⟩ (.bool false)).heap[w.heap.size + 1]? = some (.cells #[.bool false] 4 (0, 0)) := setCell_at gD6
    have o7 := (OB4.out.below b44).kept g67 (fun q e => by cases e; exact ⟨_, _, _, gD6, by decide, by decide, by decide⟩)
    have f7 : OpFr B a w (w4.setCell ⟨w.heap.size + 1, 0, none⟩ (.bool false)) := (F4.out.trans (OpFr.of_below b44)).put g67 (.inr (by omega))
    have Z7 := (show Hid (_ ∧ _ ∧ _ ∧ _ ∧ _ ∧ OpFr B a w (w4.setCell ⟨w.heap.size + 1, 0, none⟩ (.bool false))) from ⟨a7, e7, p7, d7, o7, f7⟩)
    obtain ⟨cD6, zD6⟩ := one_cell gD6
    clear a7 e7 p7 d7 o7 f7 g67 gD6
    go_wp2
    refine leaves_cons (f := 104) (args := #[.pointer (some ⟨w.heap.size + 1, 0, none⟩), .pointer (some ⟨w2.heap.size, 0, none⟩), .pointer (some ⟨w.heap.size, 0, none⟩)]) (by simp) (by simp [go_sem]) ?_
    obtain ⟨a7, e7, p7, d7, o7, f7⟩ := Z7.out
    refine (idone_any a7 d7 e7 ⟨_, _, _, rfl⟩ p7 _).mono ?_
    rintro e u' w8 ⟨rfl, rfl, rfl⟩
    have d8 := (Below.heap_setCell (w4.setCell ⟨w.heap.size + 1, 0, none⟩ (.bool false)) ⟨a, 0, none⟩ (.slice (some ⟨gb, 0, none⟩) qs.length cb) (w.heap.size + 1) (by show w.heap.size + 1 ≠ a; omega)).trans d7
    have c8 := (one_cell d8).1
    have a8 : ((w4.setCell ⟨w.heap.size + 1, 0, none⟩ (.bool false)).setCell ⟨a, 0, none⟩ (.slice (some ⟨gb, 0, none⟩) qs.length cb)).heap[a]? = some (.cells #[.slice (some ⟨gb, 0, none⟩) qs.length cb] 77 (0, 0)) := setCell_at a7
    have g78 : (w4.setCell ⟨w.heap.size + 1, 0, none⟩ (.bool false)).grownBy ((w4.setCell ⟨w.heap.size + 1, 0, none⟩ (.bool false)).setCell ⟨a, 0, none⟩ (.slice (some ⟨gb, 0, none⟩) qs.length cb)) (some a) := grown_setCell _ _ _ _
    have o8 := o7.kept g78 (fun q e => by cases e; exact ⟨_, _, _, a7, by decide, by decide, by decide⟩)
    have f8 := f7.put g78 (.inl rfl)
    exact ⟨.bool false, by simp [results, Tryz.results48, go_sem, c8], false, rfl, ⟨(fun h => by cases h), fun h => absurd h.1 HNC.out⟩, ⟨gb, _, _, a8, by rw [if_neg (by decide)]; exact o8.base (by have := HZ.out; omega)⟩, f8⟩
  · have HC : Hid C := HRS.out.mp rfl
    obtain ⟨qs', hm', oq'⟩ := HQS.out rfl
    have OQ := (show Hid (OwnQ B w4 (.slice (some ⟨g, 0, none⟩) qs.length cap) qs') from oq')
    have HM := (show Hid (qs'.map (fun q => q.1) = ms) from hm')
    clear hm' oq' HRS HQS
    go_wp2_with fail
    go_at_call 51
    refine Calls.mono (itree_any GA4.out) ?_
    rintro e w5 ⟨rfl, b5⟩
    have B5 := (show Hid (Below w4.heap.size w4 w5) from b5)
    have CT := (show Hid _ from itreeOk_any (w := w5) (v := .slice (some ⟨g, 0, none⟩) qs.length cap) (ns := ms) (by rw [← HM.out]; exact (OQ.out.below b5).n.nodes) HFM.out (by rw [hml]; omega))
    clear b5
    go_wp2_with fail
    go_at_call 15
    refine Calls.mono CT.out ?_
    rintro e w6 ⟨r, rfl, hr, b6⟩
    clear CT
    have b46 : Below w4.heap.size w4 w6 := B5.out.trans (b6.mono B5.out.size)
    have HR := (show Hid (r = true ↔ TreeOkP ms) from hr)
    clear hr b6 B5 cP4
    cases r
    · have HNT : Hid (¬ TreeOkP ms) := fun h => by have := HR.out.mpr h; cases this
      have gD6 := (b46.block _ (lt_of_block GD4.out)).trans GD4.out
      have g67 : w6.grownBy (w6.setCell ⟨w.heap.size + 1, 0, none⟩ (.bool false)) (some (w.heap.size + 1)) := grown_setCell _ _ _ _
      have b6s := b46.size
      have hE2 := HE.out
      have a7 : (w6.setCell ⟨w.heap.size + 1, 0, none⟩ (.bool false)).heap[a]? = some (.cells #[.slice (some ⟨g, 0, none⟩) qs.length cap] 77 (0, 0)) := (Below.heap_setCell _ _ _ a (by show a ≠ w.heap.size + 1; omega)).trans ((b46.block a (lt_of_block GA4.out)).trans GA4.out)
      have e7 : (w6.setCell ⟨w.heap.size + 1, 0, none⟩ (.bool false)).heap[w2.heap.size]? = some (.cells #[.slice (some ⟨gb, 0, none⟩) qs.length cb] 24 (0, 0)) := (Below.heap_setCell _ _ _ _ (by show w2.heap.size ≠ w.heap.size + 1; omega)).trans ((b46.block _ (lt_of_block GE4.out)).trans GE4.out)
      have p7 : (w6.setCell ⟨w.heap.size + 1, 0, none⟩ (.bool false)).heap[w.heap.size]? = some (.cells #[.pointer (some ⟨a, 0, none⟩)] 64 (0, 0)) := (Below.heap_setCell _ _ _ _ (by show w.heap.size ≠ w.heap.size + 1; omega)).trans ((b46.block _ (lt_of_block GP4.out)).trans GP4.out)
      have d7 : (w6.setCell ⟨w.heap.size + 1, 0, none⟩ (.bool false)).heap[w.heap.size + 1]? = some (.cells #[.bool false] 4 (0, 0)) := setCell_at gD6
      have o7 := (OB4.out.below b46).kept g67 (fun q e => by cases e; exact ⟨_, _, _, gD6, by decide, by decide, by decide⟩)
      have f7 : OpFr B a w (w6.setCell ⟨w.heap.size + 1, 0, none⟩ (.bool false)) := (F4.out.trans (OpFr.of_below b46)).put g67 (.inr (by omega))
      have Z7 := (show Hid (_ ∧ _ ∧ _ ∧ _ ∧ _ ∧ OpFr B a w (w6.setCell ⟨w.heap.size + 1, 0, none⟩ (.bool false))) from ⟨a7, e7, p7, d7, o7, f7⟩)
      obtain ⟨cD6, zD6⟩ := one_cell gD6
      clear a7 e7 p7 d7 o7 f7 g67 gD6
      go_wp2
      refine leaves_cons (f := 104) (args := #[.pointer (some ⟨w.heap.size + 1, 0, none⟩), .pointer (some ⟨w2.heap.size, 0, none⟩), .pointer (some ⟨w.heap.size, 0, none⟩)]) (by simp) (by simp [go_sem]) ?_
      obtain ⟨a7, e7, p7, d7, o7, f7⟩ := Z7.out
      refine (idone_any a7 d7 e7 ⟨_, _, _, rfl⟩ p7 _).mono ?_
      rintro e u' w8 ⟨rfl, rfl, rfl⟩
      have d8 := (Below.heap_setCell (w6.setCell ⟨w.heap.size + 1, 0, none⟩ (.bool false)) ⟨a, 0, none⟩ (.slice (some ⟨gb, 0, none⟩) qs.length cb) (w.heap.size + 1) (by show w.heap.size + 1 ≠ a; omega)).trans d7
      have c8 := (one_cell d8).1
      have a8 : ((w6.setCell ⟨w.heap.size + 1, 0, none⟩ (.bool false)).setCell ⟨a, 0, none⟩ (.slice (some ⟨gb, 0, none⟩) qs.length cb)).heap[a]? = some (.cells #[.slice (some ⟨gb, 0, none⟩) qs.length cb] 77 (0, 0)) := setCell_at a7
      have g78 : (w6.setCell ⟨w.heap.size + 1, 0, none⟩ (.bool false)).grownBy ((w6.setCell ⟨w.heap.size + 1, 0, none⟩ (.bool false)).setCell ⟨a, 0, none⟩ (.slice (some ⟨gb, 0, none⟩) qs.length cb)) (some a) := grown_setCell _ _ _ _
      have o8 := o7.kept g78 (fun q e => by cases e; exact ⟨_, _, _, a7, by decide, by decide, by decide⟩)
      have f8 := f7.put g78 (.inl rfl)
      exact ⟨.bool false, by simp [results, Tryz.results48, go_sem, c8], false, rfl, ⟨(fun h => by cases h), fun h => absurd h.2 HNT.out⟩, ⟨gb, _, _, a8, by rw [if_neg (by decide)]; exact o8.base (by have := HZ.out; omega)⟩, f8⟩
    · have HT : Hid (TreeOkP ms) := HR.out.mp rfl
      have gD6' := (b46.block _ (lt_of_block GD4.out)).trans GD4.out
      have OM := (show Hid (OwnN B (w6.setCell ⟨w.heap.size + 1, 0, none⟩ (.bool true)) (.slice (some ⟨g, 0, none⟩) qs.length cap) ms) from by
        have := ((OQ.out.below b46).n).kept (grown_setCell w6 (w.heap.size + 1) 0 (.bool true)) (fun q e => by cases e; exact ⟨_, _, _, gD6', by decide, by decide, by decide⟩)
        rwa [HM.out] at this)
      clear gD6'
      have gD6 := (b46.block _ (lt_of_block GD4.out)).trans GD4.out
      have g67 : w6.grownBy (w6.setCell ⟨w.heap.size + 1, 0, none⟩ (.bool true)) (some (w.heap.size + 1)) := grown_setCell _ _ _ _
      have b6s := b46.size
      have hE2 := HE.out
      have a7 : (w6.setCell ⟨w.heap.size + 1, 0, none⟩ (.bool true)).heap[a]? = some (.cells #[.slice (some ⟨g, 0, none⟩) qs.length cap] 77 (0, 0)) := (Below.heap_setCell _ _ _ a (by show a ≠ w.heap.size + 1; omega)).trans ((b46.block a (lt_of_block GA4.out)).trans GA4.out)
      have e7 : (w6.setCell ⟨w.heap.size + 1, 0, none⟩ (.bool true)).heap[w2.heap.size]? = some (.cells #[.slice (some ⟨gb, 0, none⟩) qs.length cb] 24 (0, 0)) := (Below.heap_setCell _ _ _ _ (by show w2.heap.size ≠ w.heap.size + 1; omega)).trans ((b46.block _ (lt_of_block GE4.out)).trans GE4.out)
      have p7 : (w6.setCell ⟨w.heap.size + 1, 0, none⟩ (.bool true)).heap[w.heap.size]? = some (.cells #[.pointer (some ⟨a, 0, none⟩)] 64 (0, 0)) := (Below.heap_setCell _ _ _ _ (by show w.heap.size ≠ w.heap.size + 1; omega)).trans ((b46.block _ (lt_of_block GP4.out)).trans GP4.out)
      have d7 : (w6.setCell ⟨w.heap.size + 1, 0, none⟩ (.bool true)).heap[w.heap.size + 1]? = some (.cells #[.bool true] 4 (0, 0)) := setCell_at gD6
      have o7 := (OB4.out.below b46).kept g67 (fun q e => by cases e; exact ⟨_, _, _, gD6, by decide, by decide, by decide⟩)
      have f7 : OpFr B a w (w6.setCell ⟨w.heap.size + 1, 0, none⟩ (.bool true)) := (F4.out.trans (OpFr.of_below b46)).put g67 (.inr (by omega))
      have Z7 := (show Hid (_ ∧ _ ∧ _ ∧ _ ∧ _ ∧ OpFr B a w (w6.setCell ⟨w.heap.size + 1, 0, none⟩ (.bool true))) from ⟨a7, e7, p7, d7, o7, f7⟩)
      obtain ⟨cD6, zD6⟩ := one_cell gD6
      clear a7 e7 p7 d7 o7 f7 g67 gD6
      go_wp2
      refine leaves_cons (f := 104) (args := #[.pointer (some ⟨w.heap.size + 1, 0, none⟩), .pointer (some ⟨w2.heap.size, 0, none⟩), .pointer (some ⟨w.heap.size, 0, none⟩)]) (by simp) (by simp [go_sem]) ?_
      obtain ⟨a7, e7, p7, d7, o7, f7⟩ := Z7.out
      refine (idone_any a7 d7 e7 ⟨_, _, _, rfl⟩ p7 _).mono ?_
      rintro e u' w8 ⟨rfl, rfl, rfl⟩
      have c8 := (one_cell d7).1
      exact ⟨.bool true, by simp [results, Tryz.results48, go_sem, c8], true, rfl, ⟨fun _ => ⟨HC.out, HT.out⟩, fun _ => rfl⟩, ⟨g, _, _, a7, by rw [if_pos rfl]; exact OM.out⟩, f7⟩

set_option maxHeartbeats 2000000 in
set_option maxRecDepth 100000 in
theorem ichangeTake {B a g cap : Nat} {w : World} {qs : List (PNode × (Value × Value))} {ms : List PNode} {C : Prop} {x0 x1 : Nat} (ha : w.heap[a]? = some (.cells #[.slice (some ⟨g, 0, none⟩) qs.length cap] 77 (0, 0))) (hO : OwnQ B w (.slice (some ⟨g, 0, none⟩) qs.length cap) qs) (hB : B ≤ w.heap.size) (h0 : 0 < qs.length) (hlen : qs.length ≤ 100000)
    (hfit : ∀ n ∈ qs.map (fun q => q.1), NodeFit n) (hfm : ∀ n ∈ ms, NodeFit n) (hml : ms.length = qs.length)
    (hstep : ∀ W, Below w.heap.size w W → Calls Tryz.prog 64 #[.pointer (some ⟨x0, 0, none⟩), .pointer (some ⟨x1, 0, none⟩)] W fun e w' => ∃ r : Bool, e = .returned (.bool r) ∧ (r = true ↔ C) ∧ (r = true → ∃ qs', qs'.map (fun q => q.1) = ms ∧ OwnQ B w' (.slice (some ⟨g, 0, none⟩) qs.length cap) qs') ∧ TurnQ g qs W w') :
    Calls Tryz.prog 48 #[.pointer (some ⟨a, 0, none⟩), .func (.func 64) #[] #[.pointer (some ⟨x0, 0, none⟩), .pointer (some ⟨x1, 0, none⟩)]] w fun e w' =>
      ∃ r : Bool, e = .returned (.bool r) ∧ (r = true ↔ C ∧ TreeOkP ms) ∧ (∃ g' n' c', w'.heap[a]? = some (.cells #[.slice (some ⟨g', 0, none⟩) n' c'] 77 (0, 0)) ∧ OwnN B w' (.slice (some ⟨g', 0, none⟩) n' c') (if r = true then ms else qs.map (fun q => q.1))) ∧ OpFr B a w w' := by
  have hmf : ∀ (fn : Fn) (first cap : Array Value) (w : World), (Instr.makeFunc fn first cap).run Tryz.prog w = .ok (.func fn first cap) w := fun _ _ _ _ => rfl
  have HA := (show Hid _ from ha)
  have HO := (show Hid (OwnQ B w (.slice (some ⟨g, 0, none⟩) qs.length cap) qs) from hO)
  have HFIT := (show Hid _ from hfit)
  have HFM := (show Hid _ from hfm)
  have HST := (show Hid (∀ W, Below w.heap.size w W → Calls Tryz.prog 64 #[.pointer (some ⟨x0, 0, none⟩), .pointer (some ⟨x1, 0, none⟩)] W fun e w' => ∃ r : Bool, e = .returned (.bool r) ∧ (r = true ↔ C) ∧ (r = true → ∃ qs', qs'.map (fun q => q.1) = ms ∧ OwnQ B w' (.slice (some ⟨g, 0, none⟩) qs.length cap) qs') ∧ TurnQ g qs W w') from hstep)
  have hal := lt_of_block ha
  have hgl : g < w.heap.size := (World.ownsRow.lt hO.1 g rfl).2
  have hga : a ≠ g := fun e => by
    obtain ⟨cur, hcur⟩ := hO.rowCells
    rw [← e, ha] at hcur; cases hcur
  have HKA := (show Hid (∀ q ∈ qs, ∀ r, q.2.2.ownBlock = some r → r < w.heap.size ∧ r ≠ a) from fun q hq r e => ⟨(Own.lt (hO.2 q hq).2 r e).2, fun e2 => by
    rcases (hO.2 q hq).2.2 with ⟨e1, _⟩ | ⟨g', cap', cur, e1, _, hh, _⟩
    · rw [e1] at e; cases e
    · rw [e1] at e
      simp only [Value.ownBlock, Option.some.injEq] at e
      subst e2
      subst e
      rw [ha] at hh; cases hh⟩)
  clear ha hO hfit hfm hstep
  obtain ⟨w1, hw1⟩ : ∃ x, x = (w.alloc (.cells #[.pointer (some ⟨a, 0, none⟩)] 64)).alloc (.cells #[.bool false] 4) := ⟨_, rfl⟩
  have b1 : Below w.heap.size w w1 := by rw [hw1]; exact ((Below.refl _ w).alloc (Nat.le_refl _) _).alloc (by simp) _
  have hs1 : w1.heap.size = w.heap.size + 1 + 1 := by rw [hw1, World.size_alloc, World.size_alloc]
  have gP : w1.heap[w.heap.size]? = some (.cells #[.pointer (some ⟨a, 0, none⟩)] 64 (0, 0)) := by rw [hw1, Below.heap_alloc _ _ _ (by simp)]; exact World.alloc_heap_new _ _
  have gD : w1.heap[w.heap.size + 1]? = some (.cells #[.bool false] 4 (0, 0)) := by
    rw [hw1]
    have := World.alloc_heap_new (w.alloc (.cells #[.pointer (some ⟨a, 0, none⟩)] 64)) (.cells #[.bool false] 4)
    rwa [World.size_alloc] at this
  obtain ⟨ca, _⟩ := one_cell ((b1.block a hal).trans HA.out)
  obtain ⟨ca0, _⟩ := one_cell HA.out
  have GP := (show Hid _ from gP)
  have GD := (show Hid _ from gD)
  have HS1 := (show Hid _ from hs1)
  clear gP gD hs1
  go_enter_defers Tryz.func48, Tryz.ntmps48
  go_wp2_with fail
  go_at_call 103
  rw [← hw1]
  refine Calls.mono (icopy_any (ns := qs.map (fun q => q.1)) (w := w1) (v := .slice (some ⟨g, 0, none⟩) qs.length cap) ((HO.out.n.nodes).below b1) HFIT.out (by rw [List.length_map]; omega)) ?_
  rintro e w2 ⟨vb, rfl, ob, b2⟩
  clear hw1
  have hform := ob.form (by rw [List.length_map]; exact h0)
  rw [List.length_map] at hform
  obtain ⟨gb, cb, rfl, _, _⟩ := hform
  have hb2 := b1.trans (b2.mono b1.size)
  obtain ⟨w3, hw3⟩ : ∃ x, x = w2.alloc (.cells #[.slice (some ⟨gb, 0, none⟩) qs.length cb] 24) := ⟨_, rfl⟩
  have b23 : Below w2.heap.size w2 w3 := by rw [hw3]; exact (Below.refl _ _).alloc (Nat.le_refl _) _
  have b3 : Below w.heap.size w w3 := hb2.trans (b23.mono hb2.size)
  have b13 : Below w1.heap.size w1 w3 := b2.trans (b23.mono b2.size)
  have hsz1 := HS1.out
  have gP3 := (b13.block w.heap.size (by omega)).trans GP.out
  have gD3 := (b13.block (w.heap.size + 1) (by omega)).trans GD.out
  have gE3 : w3.heap[w2.heap.size]? = some (.cells #[.slice (some ⟨gb, 0, none⟩) qs.length cb] 24 (0, 0)) := by rw [hw3]; exact World.alloc_heap_new _ _
  have hE : w.heap.size + 1 + 1 ≤ w2.heap.size := by have := b2.size; omega
  have OB := (show Hid (OwnN w1.heap.size w3 (.slice (some ⟨gb, 0, none⟩) qs.length cb) (qs.map (fun q => q.1))) from ob.below b23)
  have CC := (show Hid _ from HST.out w3 b3)
  have GA3 := (show Hid _ from (b3.block a hal).trans HA.out)
  have OQ3 := (show Hid (OwnQ B w3 (.slice (some ⟨g, 0, none⟩) qs.length cap) qs) from HO.out.below b3)
  have GP3 := (show Hid _ from gP3)
  have GD3 := (show Hid _ from gD3)
  have GE3 := (show Hid _ from gE3)
  have HE := (show Hid (w.heap.size + 1 + 1 ≤ w2.heap.size) from hE)
  have B3 := (show Hid (Below w.heap.size w w3) from b3)
  have HZ := (show Hid (w1.heap.size = w.heap.size + 1 + 1) from hsz1)
  have hw3s : w2.heap.size < w3.heap.size := lt_of_block gE3
  clear ob gP3 gD3 gE3 hE b3 b13 b23 b2 hb2 b1 hsz1 GP GD HS1 ca ca0
  go_wp2_with fail
  go_at_call 64
  rw [← hw3]
  refine Calls.mono CC.out ?_
  rintro e w4 ⟨rs, rfl, hrs, hqs, tq⟩
  clear hw3 CC
  have kt : ∀ {j : Nat} {cs : Array Value} {t : TypeId} {fr : Nat × Nat}, w3.heap[j]? = some (.cells cs t fr) → (j = a ∨ w.heap.size ≤ j) → w4.heap[j]? = some (.cells cs t fr) := fun {j} {cs} {t} {fr} hj hh => (tq.block j (lt_of_block hj) (by rcases hh with rfl | hh; exact hga; omega) (fun q hq e => by
    have := HKA.out q hq j e
    omega)).trans hj
  have gP4 := kt GP3.out (.inr (Nat.le_refl _))
  have gD4 := kt GD3.out (.inr (by omega))
  have gE4 := kt GE3.out (.inr (by have := HE.out; omega))
  have gA4 := kt GA3.out (.inl rfl)
  have ob4 := OB.out.turn tq (by have := HZ.out; omega) (fun q hq r e => by have := HKA.out q hq r e; have := HZ.out; omega)
  have f4 : OpFr B a w w4 := (OpFr.of_below B3.out).trans (OpFr.of_turn tq OQ3.out)
  obtain ⟨cP4, _⟩ := one_cell gP4
  have OB4 := (show Hid (OwnN w1.heap.size w4 (.slice (some ⟨gb, 0, none⟩) qs.length cb) (qs.map (fun q => q.1))) from ob4)
  have F4 := (show Hid (OpFr B a w w4) from f4)
  have GP4 := (show Hid _ from gP4)
  have GD4 := (show Hid _ from gD4)
  have GE4 := (show Hid _ from gE4)
  have GA4 := (show Hid _ from gA4)
  have HRS := (show Hid (rs = true ↔ C) from hrs)
  have HQS := (show Hid (rs = true → ∃ qs', qs'.map (fun q => q.1) = ms ∧ OwnQ B w4 (.slice (some ⟨g, 0, none⟩) qs.length cap) qs') from hqs)
  have hDl := lt_of_block gD4
  clear gP4 gD4 gE4 gA4 ob4 f4 kt tq hqs hrs GP3 GD3 GE3 GA3 OQ3 OB B3
  cases rs
  · have HNC : Hid (¬ C) := fun h => by have := HRS.out.mpr h; cases this
    have b44 : Below w4.heap.size w4 w4 := Below.refl _ _
    have gD6 := (b44.block _ (lt_of_block GD4.out)).trans GD4.out
    have g67 : w4.grownBy (w4.setCell ⟨w.heap.size + 1, 0, none⟩ (.bool false)) (some (w.heap.size + 1)) := grown_setCell _ _ _ _
    have b6s := b44.size
    have hE2 := HE.out
    have a7 : (w4.setCell ⟨w.heap.size + 1, 0, none⟩ (.bool false)).heap[a]? = some (.cells #[.slice (some ⟨g, 0, none⟩) qs.length cap] 77 (0, 0)) := (Below.heap_setCell _ _ _ a (by show a ≠ w.heap.size + 1; omega)).trans ((b44.block a (lt_of_block GA4.out)).trans GA4.out)
    have e7 : (w4.setCell ⟨w.heap.size + 1, 0, none⟩ (.bool false)).heap[w2.heap.size]? = some (.cells #[.slice (some ⟨gb, 0, none⟩) qs.length cb] 24 (0, 0)) := (Below.heap_setCell _ _ _ _ (by show w2.heap.size ≠ w.heap.size + 1; omega)).trans ((b44.block _ (lt_of_block GE4.out)).trans GE4.out)
    have p7 : (w4.setCell ⟨w.heap.size + 1, 0, none⟩ (.bool false)).heap[w.heap.size]? = some (.cells #[.pointer (some ⟨a, 0, none⟩)] 64 (0, 0)) := (Below.heap_setCell _ _ _ _ (by show w.heap.size ≠ w.heap.size + 1; omega)).trans ((b44.block _ (lt_of_block GP4.out)).trans GP4.out)
    have d7 : (w4.setCell ⟨w.heap.size + 1, 0, none⟩ (.bool false)).heap[w.heap.size + 1]? = some (.cells #[.bool false] 4 (0, 0)) := setCell_at gD6
    have o7 := (OB4.out.below b44).kept g67 (fun q e => by cases e; exact ⟨_, _, _, gD6, by decide, by decide, by decide⟩)
    have f7 : OpFr B a w (w4.setCell ⟨w.heap.size + 1, 0, none⟩ (.bool false)) := (F4.out.trans (OpFr.of_below b44)).put g67 (.inr (by omega))
    have Z7 := (show Hid (_ ∧ _ ∧ _ ∧ _ ∧ _ ∧ OpFr B a w (w4.setCell ⟨w.heap.size + 1, 0, none⟩ (.bool false))) from ⟨a7, e7, p7, d7, o7, f7⟩)
    obtain ⟨cD6, zD6⟩ := one_cell gD6
    clear a7 e7 p7 d7 o7 f7 g67 gD6
    go_wp2
    refine leaves_cons (f := 104) (args := #[.pointer (some ⟨w.heap.size + 1, 0, none⟩), .pointer (some ⟨w2.heap.size, 0, none⟩), .pointer (some ⟨w.heap.size, 0, none⟩)]) (by simp) (by simp [go_sem]) ?_
    obtain ⟨a7, e7, p7, d7, o7, f7⟩ := Z7.out
    refine (idone_any a7 d7 e7 ⟨_, _, _, rfl⟩ p7 _).mono ?_
    rintro e u' w8 ⟨rfl, rfl, rfl⟩
    have d8 := (Below.heap_setCell (w4.setCell ⟨w.heap.size + 1, 0, none⟩ (.bool false)) ⟨a, 0, none⟩ (.slice (some ⟨gb, 0, none⟩) qs.length cb) (w.heap.size + 1) (by show w.heap.size + 1 ≠ a; omega)).trans d7
    have c8 := (one_cell d8).1
    have a8 : ((w4.setCell ⟨w.heap.size + 1, 0, none⟩ (.bool false)).setCell ⟨a, 0, none⟩ (.slice (some ⟨gb, 0, none⟩) qs.length cb)).heap[a]? = some (.cells #[.slice (some ⟨gb, 0, none⟩) qs.length cb] 77 (0, 0)) := setCell_at a7
    have g78 : (w4.setCell ⟨w.heap.size + 1, 0, none⟩ (.bool false)).grownBy ((w4.setCell ⟨w.heap.size + 1, 0, none⟩ (.bool false)).setCell ⟨a, 0, none⟩ (.slice (some ⟨gb, 0, none⟩) qs.length cb)) (some a) := grown_setCell _ _ _ _
    have o8 := o7.kept g78 (fun q e => by cases e; exact ⟨_, _, _, a7, by decide, by decide, by decide⟩)
    have f8 := f7.put g78 (.inl rfl)
    exact ⟨.bool false, by simp [results, Tryz.results48, go_sem, c8], false, rfl, ⟨(fun h => by cases h), fun h => absurd h.1 HNC.out⟩, ⟨gb, _, _, a8, by rw [if_neg (by decide)]; exact o8.base (by have := HZ.out; omega)⟩, f8⟩
  · have HC : Hid C := HRS.out.mp rfl
    obtain ⟨qs', hm', oq'⟩ := HQS.out rfl
    have OQ := (show Hid (OwnQ B w4 (.slice (some ⟨g, 0, none⟩) qs.length cap) qs') from oq')
    have HM := (show Hid (qs'.map (fun q => q.1) = ms) from hm')
    clear hm' oq' HRS HQS
    go_wp2_with fail
    go_at_call 51
    refine Calls.mono (itree_any GA4.out) ?_
    rintro e w5 ⟨rfl, b5⟩
    have B5 := (show Hid (Below w4.heap.size w4 w5) from b5)
    have CT := (show Hid _ from itreeOk_any (w := w5) (v := .slice (some ⟨g, 0, none⟩) qs.length cap) (ns := ms) (by rw [← HM.out]; exact (OQ.out.below b5).n.nodes) HFM.out (by rw [hml]; omega))
    clear b5
    go_wp2_with fail
    go_at_call 15
    refine Calls.mono CT.out ?_
    rintro e w6 ⟨r, rfl, hr, b6⟩
    clear CT
    have b46 : Below w4.heap.size w4 w6 := B5.out.trans (b6.mono B5.out.size)
    have HR := (show Hid (r = true ↔ TreeOkP ms) from hr)
    clear hr b6 B5 cP4
    cases r
    · have HNT : Hid (¬ TreeOkP ms) := fun h => by have := HR.out.mpr h; cases this
      have gD6 := (b46.block _ (lt_of_block GD4.out)).trans GD4.out
      have g67 : w6.grownBy (w6.setCell ⟨w.heap.size + 1, 0, none⟩ (.bool false)) (some (w.heap.size + 1)) := grown_setCell _ _ _ _
      have b6s := b46.size
      have hE2 := HE.out
      have a7 : (w6.setCell ⟨w.heap.size + 1, 0, none⟩ (.bool false)).heap[a]? = some (.cells #[.slice (some ⟨g, 0, none⟩) qs.length cap] 77 (0, 0)) := (Below.heap_setCell _ _ _ a (by show a ≠ w.heap.size + 1; omega)).trans ((b46.block a (lt_of_block GA4.out)).trans GA4.out)
      have e7 : (w6.setCell ⟨w.heap.size + 1, 0, none⟩ (.bool false)).heap[w2.heap.size]? = some (.cells #[.slice (some ⟨gb, 0, none⟩) qs.length cb] 24 (0, 0)) := (Below.heap_setCell _ _ _ _ (by show w2.heap.size ≠ w.heap.size + 1; omega)).trans ((b46.block _ (lt_of_block GE4.out)).trans GE4.out)
      have p7 : (w6.setCell ⟨w.heap.size + 1, 0, none⟩ (.bool false)).heap[w.heap.size]? = some (.cells #[.pointer (some ⟨a, 0, none⟩)] 64 (0, 0)) := (Below.heap_setCell _ _ _ _ (by show w.heap.size ≠ w.heap.size + 1; omega)).trans ((b46.block _ (lt_of_block GP4.out)).trans GP4.out)
      have d7 : (w6.setCell ⟨w.heap.size + 1, 0, none⟩ (.bool false)).heap[w.heap.size + 1]? = some (.cells #[.bool false] 4 (0, 0)) := setCell_at gD6
      have o7 := (OB4.out.below b46).kept g67 (fun q e => by cases e; exact ⟨_, _, _, gD6, by decide, by decide, by decide⟩)
      have f7 : OpFr B a w (w6.setCell ⟨w.heap.size + 1, 0, none⟩ (.bool false)) := (F4.out.trans (OpFr.of_below b46)).put g67 (.inr (by omega))
      have Z7 := (show Hid (_ ∧ _ ∧ _ ∧ _ ∧ _ ∧ OpFr B a w (w6.setCell ⟨w.heap.size + 1, 0, none⟩ (.bool false))) from ⟨a7, e7, p7, d7, o7, f7⟩)
      obtain ⟨cD6, zD6⟩ := one_cell gD6
      clear a7 e7 p7 d7 o7 f7 g67 gD6
      go_wp2
      refine leaves_cons (f := 104) (args := #[.pointer (some ⟨w.heap.size + 1, 0, none⟩), .pointer (some ⟨w2.heap.size, 0, none⟩), .pointer (some ⟨w.heap.size, 0, none⟩)]) (by simp) (by simp [go_sem]) ?_
      obtain ⟨a7, e7, p7, d7, o7, f7⟩ := Z7.out
      refine (idone_any a7 d7 e7 ⟨_, _, _, rfl⟩ p7 _).mono ?_
      rintro e u' w8 ⟨rfl, rfl, rfl⟩
      have d8 := (Below.heap_setCell (w6.setCell ⟨w.heap.size + 1, 0, none⟩ (.bool false)) ⟨a, 0, none⟩ (.slice (some ⟨gb, 0, none⟩) qs.length cb) (w.heap.size + 1) (by show w.heap.size + 1 ≠ a; omega)).trans d7
      have c8 := (one_cell d8).1
      have a8 : ((w6.setCell ⟨w.heap.size + 1, 0, none⟩ (.bool false)).setCell ⟨a, 0, none⟩ (.slice (some ⟨gb, 0, none⟩) qs.length cb)).heap[a]? = some (.cells #[.slice (some ⟨gb, 0, none⟩) qs.length cb] 77 (0, 0)) := setCell_at a7
      have g78 : (w6.setCell ⟨w.heap.size + 1, 0, none⟩ (.bool false)).grownBy ((w6.setCell ⟨w.heap.size + 1, 0, none⟩ (.bool false)).setCell ⟨a, 0, none⟩ (.slice (some ⟨gb, 0, none⟩) qs.length cb)) (some a) := grown_setCell _ _ _ _
      have o8 := o7.kept g78 (fun q e => by cases e; exact ⟨_, _, _, a7, by decide, by decide, by decide⟩)
      have f8 := f7.put g78 (.inl rfl)
      exact ⟨.bool false, by simp [results, Tryz.results48, go_sem, c8], false, rfl, ⟨(fun h => by cases h), fun h => absurd h.2 HNT.out⟩, ⟨gb, _, _, a8, by rw [if_neg (by decide)]; exact o8.base (by have := HZ.out; omega)⟩, f8⟩
    · have HT : Hid (TreeOkP ms) := HR.out.mp rfl
      have gD6' := (b46.block _ (lt_of_block GD4.out)).trans GD4.out
      have OM := (show Hid (OwnN B (w6.setCell ⟨w.heap.size + 1, 0, none⟩ (.bool true)) (.slice (some ⟨g, 0, none⟩) qs.length cap) ms) from by
        have := ((OQ.out.below b46).n).kept (grown_setCell w6 (w.heap.size + 1) 0 (.bool true)) (fun q e => by cases e; exact ⟨_, _, _, gD6', by decide, by decide, by decide⟩)
        rwa [HM.out] at this)
      clear gD6'
      have gD6 := (b46.block _ (lt_of_block GD4.out)).trans GD4.out
      have g67 : w6.grownBy (w6.setCell ⟨w.heap.size + 1, 0, none⟩ (.bool true)) (some (w.heap.size + 1)) := grown_setCell _ _ _ _
      have b6s := b46.size
      have hE2 := HE.out
      have a7 : (w6.setCell ⟨w.heap.size + 1, 0, none⟩ (.bool true)).heap[a]? = some (.cells #[.slice (some ⟨g, 0, none⟩) qs.length cap] 77 (0, 0)) := (Below.heap_setCell _ _ _ a (by show a ≠ w.heap.size + 1; omega)).trans ((b46.block a (lt_of_block GA4.out)).trans GA4.out)
      have e7 : (w6.setCell ⟨w.heap.size + 1, 0, none⟩ (.bool true)).heap[w2.heap.size]? = some (.cells #[.slice (some ⟨gb, 0, none⟩) qs.length cb] 24 (0, 0)) := (Below.heap_setCell _ _ _ _ (by show w2.heap.size ≠ w.heap.size + 1; omega)).trans ((b46.block _ (lt_of_block GE4.out)).trans GE4.out)
      have p7 : (w6.setCell ⟨w.heap.size + 1, 0, none⟩ (.bool true)).heap[w.heap.size]? = some (.cells #[.pointer (some ⟨a, 0, none⟩)] 64 (0, 0)) := (Below.heap_setCell _ _ _ _ (by show w.heap.size ≠ w.heap.size + 1; omega)).trans ((b46.block _ (lt_of_block GP4.out)).trans GP4.out)
      have d7 : (w6.setCell ⟨w.heap.size + 1, 0, none⟩ (.bool true)).heap[w.heap.size + 1]? = some (.cells #[.bool true] 4 (0, 0)) := setCell_at gD6
      have o7 := (OB4.out.below b46).kept g67 (fun q e => by cases e; exact ⟨_, _, _, gD6, by decide, by decide, by decide⟩)
      have f7 : OpFr B a w (w6.setCell ⟨w.heap.size + 1, 0, none⟩ (.bool true)) := (F4.out.trans (OpFr.of_below b46)).put g67 (.inr (by omega))
      have Z7 := (show Hid (_ ∧ _ ∧ _ ∧ _ ∧ _ ∧ OpFr B a w (w6.setCell ⟨w.heap.size + 1, 0, none⟩ (.bool true))) from ⟨a7, e7, p7, d7, o7, f7⟩)
      obtain ⟨cD6, zD6⟩ := one_cell gD6
      clear a7 e7 p7 d7 o7 f7 g67 gD6
      go_wp2
      refine leaves_cons (f := 104) (args := #[.pointer (some ⟨w.heap.size + 1, 0, none⟩), .pointer (some ⟨w2.heap.size, 0, none⟩), .pointer (some ⟨w.heap.size, 0, none⟩)]) (by simp) (by simp [go_sem]) ?_
      obtain ⟨a7, e7, p7, d7, o7, f7⟩ := Z7.out
      refine (idone_any a7 d7 e7 ⟨_, _, _, rfl⟩ p7 _).mono ?_
      rintro e u' w8 ⟨rfl, rfl, rfl⟩
      have c8 := (one_cell d7).1
      exact ⟨.bool true, by simp [results, Tryz.results48, go_sem, c8], true, rfl, ⟨fun _ => ⟨HC.out, HT.out⟩, fun _ => rfl⟩, ⟨g, _, _, a7, by rw [if_pos rfl]; exact OM.out⟩, f7⟩
end Go.Proofs.YtogdbjafibejdaaGreat

/- The program's take and hang where they are refused; the steps of TreeHang and TreeTake; arenaOf. No condition. -/
namespace Go.Proofs.YtogdbjafibejdaaGreat
open Go.RowKit
set_option maxRecDepth 100000
set_option linter.unusedVariables false

set_option maxRecDepth 100000 in
theorem itake_no {a n cap : Nat} {g : Option Addr} {w : World} (ha : w.heap[a]? = some (.cells #[.slice g n cap] 77 (0, 0))) {c : Int} (hc : c = 0 ∨ ¬ (0 ≤ c ∧ c < n)) :
    Calls Tryz.prog 65 #[.pointer (some ⟨a, 0, none⟩), .int .i64 c] w fun e w' => e = .returned (.bool false) ∧ w' = w := by
  obtain ⟨cA, _⟩ := one_cell ha
  by_cases h0 : c = 0
  · subst h0
    go_enter Tryz.func65, Tryz.ntmps65
    go_wp2
    go_ret
    exact ⟨rfl, rfl⟩
  · have hn : ¬ (0 ≤ c ∧ c < n) := by
      rcases hc with h | h
      · exact absurd h h0
      · exact h
    go_enter Tryz.func65, Tryz.ntmps65
    go_wp2_with fail
    go_at_call 74
    refine Calls.mono (ihas_any cA c) ?_
    rintro e wx ⟨rfl, hx⟩
    rw [hx, decide_eq_false hn]
    clear hx wx hc hn
    go_wp2
    go_ret
    exact ⟨rfl, rfl⟩

set_option maxRecDepth 100000 in
theorem ihang_no {a n cap : Nat} {g : Option Addr} {w : World} (ha : w.heap[a]? = some (.cells #[.slice g n cap] 77 (0, 0))) {c p : Int} (hc : c = 0 ∨ ¬ (0 ≤ c ∧ c < n)) :
    Calls Tryz.prog 50 #[.pointer (some ⟨a, 0, none⟩), .int .i64 c, .int .i64 p] w fun e w' => e = .returned (.bool false) ∧ w' = w := by
  go_enter Tryz.func50, Tryz.ntmps50
  go_wp2_with fail
  go_at_call 65
  refine Calls.mono (itake_no ha hc) ?_
  rintro e wx ⟨rfl, hx⟩
  rw [hx]
  clear hx wx
  go_wp2
  go_ret
  exact ⟨rfl, rfl⟩

set_option maxRecDepth 100000 in
theorem ihang_far {B a g cap : Nat} {w : World} {qs : List (PNode × (Value × Value))} (ha : w.heap[a]? = some (.cells #[.slice (some ⟨g, 0, none⟩) qs.length cap] 77 (0, 0))) (hO : OwnQ B w (.slice (some ⟨g, 0, none⟩) qs.length cap) qs) (hA : Apart qs) (hB : B ≤ w.heap.size) (hlen : qs.length ≤ 100000) {c : Nat} (hc : c < qs.length) (hc0 : c ≠ 0)
    (hp : qs[c].1.parent = -1 ∨ ∃ p : Nat, qs[c].1.parent = p ∧ p < qs.length) (hkl : ∀ q ∈ qs, q.1.kids.length ≤ 1048576) {p : Int} (hpl : ¬ (0 ≤ p ∧ p < qs.length)) :
    Calls Tryz.prog 50 #[.pointer (some ⟨a, 0, none⟩), .int .i64 c, .int .i64 p] w fun e w' => e = .returned (.bool false) ∧ TurnQ g qs w w' := by
  have CT := (show Hid _ from itake_any ha hO hA hB hlen hc hc0 hp hkl)
  have hag : a ≠ g := fun e => by
    obtain ⟨cur, hcur⟩ := hO.rowCells
    rw [← e, ha] at hcur; cases hcur
  have hal := lt_of_block ha
  have HAA := (show Hid _ from ha)
  clear ha hO hA hp hkl
  go_enter Tryz.func50, Tryz.ntmps50
  go_wp2_with fail
  go_at_call 65
  refine Calls.mono CT.out ?_
  rintro e w1 ⟨rfl, _, g1⟩
  have ha1 := (g1.block a hal (fun e => by injection e with e; exact hag e)).trans HAA.out
  obtain ⟨cA1, _⟩ := one_cell ha1
  have TQ := (show Hid (TurnQ g qs w w1) from TurnQ.of_row g1)
  clear CT ha1 g1
  go_wp2_with (go_at_call 74; refine Calls.mono (ihas_any cA1 p) ?_; rintro e wx ⟨rfl, hx⟩; rw [hx, decide_eq_false hpl]; clear hx wx)
  go_ret
  exact ⟨rfl, TQ.out⟩

set_option maxRecDepth 100000 in
theorem iarenaA_any {w : World} {v : Value} {ns : List PNode} (hn : NodesAt w v ns) (hfit : ∀ n ∈ ns, NodeFit n) (hlen : ns.length ≤ 1048576) :
    Calls Tryz.prog 47 #[.agg #[v]] w fun e w' => ∃ g v', e = .returned (.pointer (some ⟨g, 0, none⟩)) ∧ w'.heap[g]? = some (.cells #[v'] 77 (0, 0)) ∧ (TreeOkP ns → ∃ qs, qs.map (fun q => q.1) = ns ∧ OwnQ w.heap.size w' v' qs ∧ Apart qs) ∧ (¬ TreeOkP ns → v' = .slice none 0 0) ∧ w.heap.size ≤ g ∧ Below w.heap.size w w' := by
  have HN := (show Hid (NodesAt w v ns) from hn)
  have HFIT := (show Hid _ from hfit)
  obtain ⟨a, cap, rfl, hc1, hc2, _⟩ := hn.slice
  clear hn hfit
  obtain ⟨w1, hw1⟩ : ∃ w1, w1 = w.alloc (.cells #[.slice a ns.length cap] 26) := ⟨_, rfl⟩
  have b1 : Below w.heap.size w w1 := by rw [hw1]; exact (Below.refl _ _).alloc (Nat.le_refl _) _
  have g1 : w1.heap[w.heap.size]? = some (.cells #[.slice a ns.length cap] 26 (0, 0)) := by rw [hw1]; exact World.alloc_heap_new _ _
  have HG1 := (show Hid _ from g1)
  clear g1
  go_enter Tryz.func47, Tryz.ntmps47
  go_wp2_with fail
  go_at_call 15
  rw [← hw1]
  refine Calls.mono (itreeOk_any (HN.out.below b1) HFIT.out hlen) ?_
  rintro e w2 ⟨r, rfl, hr, b2⟩
  clear hw1
  have hb2 := b1.trans (b2.mono b1.size)
  have g2 := (b2.block _ (blk_lt HG1.out)).trans HG1.out
  obtain ⟨k0, _⟩ := one_cell g2
  clear g2 b2
  cases r
  · have HF : Hid (¬ TreeOkP ns) := fun h => by have := hr.mpr h; cases this
    have A3 := (show Hid _ from heap_alloc_new w2 (.cells #[.slice none 0 0] 77))
    have HB2 := (show Hid (Below w.heap.size w w2) from hb2)
    clear hr hb2
    go_wp2
    go_ret
    exact ⟨_, _, rfl, A3.out, fun h => absurd h HF.out, fun _ => rfl, HB2.out.size, HB2.out.alloc HB2.out.size _⟩
  · have HT : Hid (TreeOkP ns) := hr.mp rfl
    clear hr
    go_wp2_with fail
    go_at_call 103
    refine Calls.mono (icopyA_any (HN.out.below hb2) HFIT.out hlen) ?_
    rintro e w3 ⟨v3, rfl, ⟨qs, q1, q2, q3, q4⟩, b3⟩
    have hb3 := hb2.trans (b3.mono hb2.size)
    have hql : qs.length = ns.length := by have := congrArg List.length q1; simpa using this
    have oq : OwnQ w2.heap.size w3 v3 qs := ⟨by rw [hql]; exact q2, q3⟩
    have O3 := (show Hid (OwnQ w.heap.size (w3.alloc (.cells #[v3] 77)) v3 qs) from (oq.base hb2.size).below ((Below.refl _ w3).alloc (Nat.le_refl _) (.cells #[v3] 77)))
    have A3 := (show Hid _ from heap_alloc_new w3 (.cells #[v3] 77))
    have Q1 := (show Hid (qs.map (fun q => q.1) = ns ∧ Apart qs) from ⟨q1, q4⟩)
    obtain ⟨a3, n3, c3, rfl⟩ := own_slice q2
    clear q1 q2 q3 q4 oq hql
    go_wp2
    go_ret
    exact ⟨_, _, rfl, A3.out, fun _ => ⟨qs, Q1.out.1, O3.out, Q1.out.2⟩, fun h => absurd HT.out h, hb3.size, hb3.alloc hb3.size _⟩
end Go.Proofs.YtogdbjafibejdaaGreat

/- The program's TreeHang and TreeTake. No condition. -/
namespace Go.Proofs.YtogdbjafibejdaaGreat
open Go.RowKit
set_option maxRecDepth 100000
set_option linter.unusedVariables false

theorem par_ok {ns : List PNode} (h : TreeOkP ns) {i : Nat} (hi : i < ns.length) : parOf ns i = -1 ∨ ∃ p : Nat, parOf ns i = p ∧ p < ns.length := by
  obtain ⟨d, hd⟩ := h.linked i hi
  cases d with
  | zero => exact .inl hd.2
  | succ d =>
    obtain ⟨p, hp, hk⟩ := hd
    obtain ⟨h1, h2, h3, h4⟩ := fit_kid h.fit hk
    exact .inr ⟨p, by simpa using h4, h1⟩

set_option maxRecDepth 100000 in
theorem ihang_all {B a g cap : Nat} {w : World} {qs : List (PNode × (Value × Value))} (ha : w.heap[a]? = some (.cells #[.slice (some ⟨g, 0, none⟩) qs.length cap] 77 (0, 0))) (hO : OwnQ B w (.slice (some ⟨g, 0, none⟩) qs.length cap) qs) (hA : Apart qs) (hB : B ≤ w.heap.size) (hlen : qs.length ≤ 100000)
    (hp : ∀ i (hi : i < qs.length), qs[i].1.parent = -1 ∨ ∃ p : Nat, qs[i].1.parent = p ∧ p < qs.length) (hkl : ∀ q ∈ qs, q.1.kids.length ≤ 1048576) (c p : Int) :
    Calls Tryz.prog 50 #[.pointer (some ⟨a, 0, none⟩), .int .i64 c, .int .i64 p] w fun e w' => ∃ r : Bool, e = .returned (.bool r) ∧ (r = true ↔ c ≠ 0 ∧ (0 ≤ c ∧ c < qs.length) ∧ (0 ≤ p ∧ p < qs.length)) ∧ (r = true → ∃ qs', qs'.map (fun q => q.1) = hangN (qs.map (fun q => q.1)) c.toNat p.toNat ∧ OwnQ B w' (.slice (some ⟨g, 0, none⟩) qs.length cap) qs') ∧ TurnQ g qs w w' := by
  by_cases h1 : c = 0 ∨ ¬ (0 ≤ c ∧ c < qs.length)
  · refine (ihang_no ha h1).mono ?_
    rintro e w' ⟨rfl, rfl⟩
    exact ⟨false, rfl, ⟨(fun h => by cases h), fun h => by rcases h1 with h1 | h1; exact absurd h1 h.1; exact absurd h.2.1 h1⟩, (fun h => by cases h), ⟨rfl, rfl, rfl, Nat.le_refl _, fun _ _ _ _ => rfl⟩⟩
  · have hc : c ≠ 0 ∧ 0 ≤ c ∧ c < qs.length := by omega
    obtain ⟨k, rfl⟩ : ∃ k : Nat, c = (k : Int) := ⟨c.toNat, by omega⟩
    by_cases h2 : 0 ≤ p ∧ p < qs.length
    · obtain ⟨m, rfl⟩ : ∃ m : Nat, p = (m : Int) := ⟨p.toNat, by omega⟩
      refine (ihang_any ha hO hA hB hlen (c := k) (by omega) (by omega) (hp k (by omega)) hkl (p := m) (by omega)).mono ?_
      rintro e w' ⟨rfl, ⟨qs', m1, o1, _⟩, t⟩
      exact ⟨true, rfl, ⟨fun _ => ⟨hc.1, hc.2, h2⟩, fun _ => rfl⟩, fun _ => ⟨qs', by simpa using m1, o1⟩, t⟩
    · refine (ihang_far ha hO hA hB hlen (c := k) (by omega) (by omega) (hp k (by omega)) hkl h2).mono ?_
      rintro e w' ⟨rfl, t⟩
      exact ⟨false, rfl, ⟨(fun h => by cases h), fun h => absurd h.2.2 h2⟩, (fun h => by cases h), t⟩
theorem itake_all {B a g cap : Nat} {w : World} {qs : List (PNode × (Value × Value))} (ha : w.heap[a]? = some (.cells #[.slice (some ⟨g, 0, none⟩) qs.length cap] 77 (0, 0))) (hO : OwnQ B w (.slice (some ⟨g, 0, none⟩) qs.length cap) qs) (hA : Apart qs) (hB : B ≤ w.heap.size) (hlen : qs.length ≤ 100000)
    (hp : ∀ i (hi : i < qs.length), qs[i].1.parent = -1 ∨ ∃ p : Nat, qs[i].1.parent = p ∧ p < qs.length) (hkl : ∀ q ∈ qs, q.1.kids.length ≤ 1048576) (c : Int) :
    Calls Tryz.prog 65 #[.pointer (some ⟨a, 0, none⟩), .int .i64 c] w fun e w' => ∃ r : Bool, e = .returned (.bool r) ∧ (r = true ↔ c ≠ 0 ∧ (0 ≤ c ∧ c < qs.length)) ∧ (r = true → ∃ qs', qs'.map (fun q => q.1) = takeN (qs.map (fun q => q.1)) c.toNat ∧ OwnQ B w' (.slice (some ⟨g, 0, none⟩) qs.length cap) qs') ∧ TurnQ g qs w w' := by
  by_cases h1 : c = 0 ∨ ¬ (0 ≤ c ∧ c < qs.length)
  · refine (itake_no ha h1).mono ?_
    rintro e w' ⟨rfl, rfl⟩
    exact ⟨false, rfl, ⟨(fun h => by cases h), fun h => by rcases h1 with h1 | h1; exact absurd h1 h.1; exact absurd h.2 h1⟩, (fun h => by cases h), ⟨rfl, rfl, rfl, Nat.le_refl _, fun _ _ _ _ => rfl⟩⟩
  · have hc : c ≠ 0 ∧ 0 ≤ c ∧ c < qs.length := by omega
    obtain ⟨k, rfl⟩ : ∃ k : Nat, c = (k : Int) := ⟨c.toNat, by omega⟩
    refine (itake_any ha hO hA hB hlen (c := k) (by omega) (by omega) (hp k (by omega)) hkl).mono ?_
    rintro e w' ⟨rfl, ⟨qs', m1, o1, _, _⟩, t⟩
    exact ⟨true, rfl, ⟨fun _ => hc, fun _ => rfl⟩, fun _ => ⟨qs', by simpa using m1, o1⟩, TurnQ.of_row t⟩

set_option maxHeartbeats 800000 in
set_option maxRecDepth 100000 in
theorem istepHang {B a g cap A C D : Nat} {w : World} {qs : List (PNode × (Value × Value))} (ha : w.heap[a]? = some (.cells #[.slice (some ⟨g, 0, none⟩) qs.length cap] 77 (0, 0))) (hO : OwnQ B w (.slice (some ⟨g, 0, none⟩) qs.length cap) qs) (hA : Apart qs) (hB : B ≤ w.heap.size) (hlen : qs.length ≤ 100000)
    (hp : ∀ i (hi : i < qs.length), qs[i].1.parent = -1 ∨ ∃ p : Nat, qs[i].1.parent = p ∧ p < qs.length) (hkl : ∀ q ∈ qs, q.1.kids.length ≤ 1048576) (c p : Int)
    (gA : w.heap[A]? = some (.cells #[.pointer (some ⟨a, 0, none⟩)] 64 (0, 0))) (gC : w.heap[C]? = some (.cells #[.int .i64 c] 3 (0, 0))) (gD : w.heap[D]? = some (.cells #[.int .i64 p] 3 (0, 0))) :
    Calls Tryz.prog 49 #[.pointer (some ⟨A, 0, none⟩), .pointer (some ⟨C, 0, none⟩), .pointer (some ⟨D, 0, none⟩)] w fun e w' => ∃ r : Bool, e = .returned (.bool r) ∧ (r = true ↔ c ≠ 0 ∧ (0 ≤ c ∧ c < qs.length) ∧ (0 ≤ p ∧ p < qs.length)) ∧ (r = true → ∃ qs', qs'.map (fun q => q.1) = hangN (qs.map (fun q => q.1)) c.toNat p.toNat ∧ OwnQ B w' (.slice (some ⟨g, 0, none⟩) qs.length cap) qs') ∧ TurnQ g qs w w' := by
  have CC := (show Hid _ from ihang_all ha hO hA hB hlen hp hkl c p)
  obtain ⟨cA, _⟩ := one_cell gA
  obtain ⟨cC, _⟩ := one_cell gC
  obtain ⟨cD, _⟩ := one_cell gD
  clear ha hO hA hp hkl gA gC gD
  go_enter Tryz.func49, Tryz.ntmps49
  go_wp2_with fail
  go_at_call 50
  refine Calls.mono CC.out ?_
  rintro e w' ⟨r, rfl, h1, h2, h3⟩
  have H1 := (show Hid _ from h1)
  have H2 := (show Hid (r = true → ∃ qs', qs'.map (fun q => q.1) = hangN (qs.map (fun q => q.1)) c.toNat p.toNat ∧ OwnQ B w' (.slice (some ⟨g, 0, none⟩) qs.length cap) qs') from h2)
  clear CC h1 h2
  go_wp2
  go_ret
  exact ⟨r, rfl, H1.out, H2.out, h3⟩

set_option maxHeartbeats 800000 in
set_option maxRecDepth 100000 in
theorem istepTake {B a g cap A C : Nat} {w : World} {qs : List (PNode × (Value × Value))} (ha : w.heap[a]? = some (.cells #[.slice (some ⟨g, 0, none⟩) qs.length cap] 77 (0, 0))) (hO : OwnQ B w (.slice (some ⟨g, 0, none⟩) qs.length cap) qs) (hA : Apart qs) (hB : B ≤ w.heap.size) (hlen : qs.length ≤ 100000)
    (hp : ∀ i (hi : i < qs.length), qs[i].1.parent = -1 ∨ ∃ p : Nat, qs[i].1.parent = p ∧ p < qs.length) (hkl : ∀ q ∈ qs, q.1.kids.length ≤ 1048576) (c : Int)
    (gA : w.heap[A]? = some (.cells #[.pointer (some ⟨a, 0, none⟩)] 64 (0, 0))) (gC : w.heap[C]? = some (.cells #[.int .i64 c] 3 (0, 0))) :
    Calls Tryz.prog 64 #[.pointer (some ⟨A, 0, none⟩), .pointer (some ⟨C, 0, none⟩)] w fun e w' => ∃ r : Bool, e = .returned (.bool r) ∧ (r = true ↔ c ≠ 0 ∧ (0 ≤ c ∧ c < qs.length)) ∧ (r = true → ∃ qs', qs'.map (fun q => q.1) = takeN (qs.map (fun q => q.1)) c.toNat ∧ OwnQ B w' (.slice (some ⟨g, 0, none⟩) qs.length cap) qs') ∧ TurnQ g qs w w' := by
  have CC := (show Hid _ from itake_all ha hO hA hB hlen hp hkl c)
  obtain ⟨cA, _⟩ := one_cell gA
  obtain ⟨cC, _⟩ := one_cell gC
  clear ha hO hA hp hkl gA gC
  go_enter Tryz.func64, Tryz.ntmps64
  go_wp2_with fail
  go_at_call 65
  refine Calls.mono CC.out ?_
  rintro e w' ⟨r, rfl, h1, h2, h3⟩
  have H1 := (show Hid _ from h1)
  have H2 := (show Hid (r = true → ∃ qs', qs'.map (fun q => q.1) = takeN (qs.map (fun q => q.1)) c.toNat ∧ OwnQ B w' (.slice (some ⟨g, 0, none⟩) qs.length cap) qs') from h2)
  clear CC h1 h2
  go_wp2
  go_ret
  exact ⟨r, rfl, H1.out, H2.out, h3⟩

theorem hangN_fit {ns : List PNode} {c p : Nat} (h : ∀ n ∈ ns, NodeFit n ∧ n.kids.length ≤ 1000000) : ∀ n ∈ hangN ns c p, NodeFit n :=
  hangN_all (P := fun n => NodeFit n ∧ n.kids.length ≤ 1000000) h (fun n x h => ⟨⟨h.1.nm, h.1.tx, h.1.rs, h.1.each, h.1.kl⟩, h.2⟩) (fun n x h => ⟨⟨h.1.nm, h.1.tx, h.1.rs, h.1.each, Nat.le_trans (lessL_len _ _) h.1.kl⟩, Nat.le_trans (lessL_len _ _) h.2⟩) (fun n h => h.1) (fun n x h => ⟨h.1.nm, h.1.tx, h.1.rs, h.1.each, by simp [setKids]; omega⟩)
theorem takeN_fit {ns : List PNode} {c : Nat} (h : ∀ n ∈ ns, NodeFit n) : ∀ n ∈ takeN ns c, NodeFit n := by
  have hc : ∀ n ∈ cutN ns c, NodeFit n := by
    intro n hn
    unfold cutN at hn
    split at hn
    · exact h n hn
    · rcases mem_modify hn with hn | ⟨m, hm, rfl⟩
      · exact h n hn
      · have := h m hm; exact ⟨this.nm, this.tx, this.rs, this.each, Nat.le_trans (lessL_len _ _) this.kl⟩
  intro n hn
  rcases mem_modify hn with hn | ⟨m, hm, rfl⟩
  · exact hc n hn
  · have := hc m hm; exact ⟨this.nm, this.tx, this.rs, this.each, this.kl⟩
/-- A node of a right tree has no more Kids than there are nodes. -/
theorem kids_few {ns : List PNode} (h : TreeOkP ns) : ∀ n ∈ ns, n.kids.length ≤ ns.length := by
  intro n hn
  obtain ⟨i, hi, rfl⟩ := List.getElem_of_mem hn
  have hf := h.fit i hi
  rw [kidsOf_at hi] at hf
  exact nodup_le _ _ hf.1 (fun x hx => by have := hf.2 x hx; omega)
end Go.Proofs.YtogdbjafibejdaaGreat

/- When a text is written below a node, in plain words. No condition. -/
namespace Go.Proofs.YtogdbjafibejdaaGreat
open Go.RowKit
set_option maxRecDepth 100000
set_option linter.unusedVariables false

/-- When the specification writes a text. -/
def WriteB (ns : List PNode) (p : Int) (s : ByteArray) : Prop :=
  STreeOkP ns ∧ (0 ≤ p ∧ p < ns.length) ∧ (∃ h : p.toNat < ns.length, opensB ns[p.toNat] = true) ∧ empB s = false ∧ utfOk (bs s) = true ∧
    ((∃ k, LastT ns p.toNat k ∧ ∃ h : k < ns.length, utfOk (bs (ns[k].text ++ s)) = true) ∨ ((¬ ∃ k, LastT ns p.toNat k) ∧ ns.length ≠ 500))

theorem write_iff {ns ms : List PNode} (h : STreeOkP ns) (p : Int) (s : ByteArray) (hms : (∃ k, LastT ns p.toNat k ∧ ms = moreN ns k s) ∨ ((¬ ∃ k, LastT ns p.toNat k) ∧ ms = newN ns p.toNat s)) :
    WriteB ns p s ↔ ((0 ≤ p ∧ p < ns.length) ∧ empB s = false ∧ utfOk (bs s) = true) ∧ TreeOkP ms := by
  have hm := h.1.most
  constructor
  · rintro ⟨_, h1, ⟨h2, h3⟩, h4, h5, h6⟩
    refine ⟨⟨h1, h4, h5⟩, ?_⟩
    rcases hms with ⟨k, hl, rfl⟩ | ⟨hn, rfl⟩
    · rcases h6 with ⟨j, hj, hj2, hu⟩ | ⟨hno, _⟩
      · have e := hl.one hj
        subst e
        obtain ⟨pre, hk, hk2, hk4⟩ := hl
        exact (more_ok h.1 hk2 hk4 s).mpr hu
      · exact absurd ⟨k, hl⟩ hno
    · rcases h6 with ⟨j, hj, _⟩ | ⟨_, hne⟩
      · exact absurd ⟨j, hj⟩ hn
      · exact (new_ok h h2 h4 h5).mpr ⟨by omega, h3⟩
  · rintro ⟨⟨h1, h4, h5⟩, ht⟩
    have hp : p.toNat < ns.length := by omega
    rcases hms with ⟨k, hl, rfl⟩ | ⟨hn, rfl⟩
    · refine ⟨h, h1, ⟨hp, last_opens h.1 hp hl⟩, h4, h5, .inl ⟨k, hl, ?_⟩⟩
      obtain ⟨pre, hk, hk2, hk4⟩ := hl
      exact ⟨hk2, (more_ok h.1 hk2 hk4 s).mp ht⟩
    · have hh := (new_ok h hp h4 h5).mp ht
      exact ⟨h, h1, ⟨hp, hh.2⟩, h4, h5, .inr ⟨hn, by omega⟩⟩

theorem utf_size {s : ByteArray} (h : utfOk (bs s) = true) : s.size ≤ 3000 := by
  apply Classical.byContradiction
  intro hn
  rw [utfOk_no (by rw [bs_len]; exact hn)] at h
  cases h
theorem fit_moreN {ns : List PNode} {k : Nat} {s : ByteArray} (h : ∀ n ∈ ns, NodeFit n) (hs : s.size ≤ 10000) (htx : ∀ n ∈ ns, n.kind = 4 → n.text.size ≤ 3000) (hk : ∃ h : k < ns.length, ns[k].kind = 4) : ∀ n ∈ moreN ns k s, NodeFit n := by
  intro n hn
  obtain ⟨i, hi, rfl⟩ := List.mem_iff_getElem.mp hn
  have hi' : i < ns.length := by rw [moreN_len] at hi; exact hi
  have hf := h _ (List.getElem_mem hi')
  obtain ⟨hk1, hk2⟩ := hk
  by_cases e : k = i
  · subst e
    have e : (moreN ns k s)[k] = setText ns[k] (ns[k].text ++ s) := by simp [moreN]
    rw [e]
    have ht := htx _ (List.getElem_mem hi') hk2
    exact ⟨hf.nm, by show (ns[k].text ++ s).size ≤ 1048576; rw [ByteArray.size_append]; omega, hf.rs, hf.each, hf.kl⟩
  · have e : (moreN ns k s)[i] = ns[i] := by simp [moreN, e]
    rw [e]
    exact hf
theorem text_small {ns : List PNode} (h : TreeOkP ns) : ∀ n ∈ ns, n.kind = 4 → n.text.size ≤ 3000 := by
  intro n hn h4
  obtain ⟨k, hk, rfl⟩ := List.mem_iff_getElem.mp hn
  have hg := h.good k hk
  unfold goodB nodeB at hg
  simp only [h4] at hg
  simp at hg
  exact utf_size hg.2.1.1.1.2
theorem fit_newN {ns : List PNode} {p : Nat} {s : ByteArray} (h : ∀ n ∈ ns, NodeFit n ∧ n.kids.length ≤ 1000000) (hs : s.size ≤ 10000) : ∀ n ∈ newN ns p s, NodeFit n := by
  refine hangN_fit (fun n hn => ?_)
  rcases List.mem_append.mp hn with hn | hn
  · exact h n hn
  · rw [List.mem_singleton] at hn
    subst hn
    exact ⟨⟨by show (⟨#[]⟩ : ByteArray).size ≤ 1048576; decide, by show s.size ≤ 1048576; omega, by simp [txtN], fun p hp => by simp [txtN] at hp, by simp [txtN]⟩, by simp [txtN]⟩
theorem fit_write {ns ms : List PNode} (h : TreeOkP ns) (hf : ∀ n ∈ ns, NodeFit n) (p : Nat) (s : ByteArray) (hs : s.size ≤ 10000) (hms : (∃ k, LastT ns p k ∧ ms = moreN ns k s) ∨ ((¬ ∃ k, LastT ns p k) ∧ ms = newN ns p s)) : (∀ n ∈ ms, NodeFit n) ∧ ms.length ≤ 501 := by
  have hm := h.most
  rcases hms with ⟨k, hl, rfl⟩ | ⟨hn, rfl⟩
  · obtain ⟨pre, hk, hk2, hk4⟩ := hl
    exact ⟨fit_moreN hf hs (text_small h) ⟨hk2, hk4⟩, by rw [moreN_len]; omega⟩
  · exact ⟨fit_newN (fun n hn => ⟨hf n hn, by have := kids_few h n hn; omega⟩) hs, by simp [newN, hangN_len]; omega⟩
theorem write_ms (ns : List PNode) (p : Nat) (s : ByteArray) : ∃ ms, (∃ k, LastT ns p k ∧ ms = moreN ns k s) ∨ ((¬ ∃ k, LastT ns p k) ∧ ms = newN ns p s) := by
  by_cases h : ∃ k, LastT ns p k
  · obtain ⟨k, hk⟩ := h
    exact ⟨_, .inl ⟨k, hk, rfl⟩⟩
  · exact ⟨_, .inr ⟨h, rfl⟩⟩
end Go.Proofs.YtogdbjafibejdaaGreat
