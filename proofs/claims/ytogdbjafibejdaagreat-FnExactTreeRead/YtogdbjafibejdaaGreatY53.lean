/- The law FnPack, from its draws. No condition. -/
import Derived.Test.YtogdbjafibejdaaGreatY52
import Derived.Test.YtogdbjafibejdaaGreatY10
import Derived.Test.YtogdbjafibejdaaGreatY34
import Derived.Test.YtogdbjafibejdaaGreatY36
import Derived.Deep.CutRange
import Derived.Test.YtogdbjafibejdaaGreatY50
import Derived.Test.YtogdbjafibejdaaGreatY37
import Derived.Test.YtogdbjafibejdaaGreatY38
namespace Go.Proofs.YtogdbjafibejdaaGreat
open Go.RowKit
set_option maxRecDepth 100000
set_option linter.unusedVariables false

theorem pack_inj {ns ms : List PNode} (h : goodT ns) (k : goodT ms) (e : packL ns = packL ms) : ns = ms := by
  have h1 := rdTop_form (strict := true) (room := roomI) h.1 h.2.1 roomI_ok
  have h2 := rdTop_form (strict := true) (room := roomI) k.1 k.2.1 roomI_ok
  rw [e, h2] at h1
  cases h1
  rfl
theorem fit_tree {ns : List PNode} (h : TreeOkP ns) : ∀ n ∈ ns, NodeFit n := fun n hn => by
  have h1 := kids_few h n hn
  have h2 := h.most
  obtain ⟨k, hk, e⟩ := List.getElem_of_mem hn
  have h3 := small_all h k hk
  rw [e] at h3
  have h4 := h3.rs
  exact ⟨by have := h3.nm; omega, by have := h3.tx; omega, by omega, fun p hp => by have := h3.each p hp; unfold attrOk at this; simp only [Bool.and_eq_true, inB, decide_eq_true_eq] at this; omega, by omega⟩
end Go.Proofs.YtogdbjafibejdaaGreat

/- The law FnExactTreeRead, walked: at every row of bytes it returns true and writes nothing that was there. -/
namespace Go.Proofs.YtogdbjafibejdaaGreat
open Go.RowKit
set_option maxRecDepth 100000
set_option linter.unusedVariables false

theorem wtS_le {m : Nat} : ∀ (ns : List PNode), (∀ n ∈ ns, wtN n ≤ m) → wtS ns ≤ ns.length * m := by
  intro ns
  induction ns with
  | nil => intro _; exact Nat.zero_le _
  | cons n ns ih =>
    intro h
    have h1 := ih (fun x hx => h x (List.mem_cons_of_mem _ hx))
    have h2 := h n (List.mem_cons_self ..)
    unfold wtS at h1 ⊢
    rw [List.map_cons, List.sum_cons, List.length_cons, Nat.succ_mul]
    omega
theorem wt_tree {ns : List PNode} (h : TreeOkP ns) : ns.length + wtS ns ≤ 1048576 := by
  have hm := h.most
  have := wtS_le (m := 1000) ns (fun n hn => by
    have h1 := kids_few h n hn
    obtain ⟨k, hk, e⟩ := List.getElem_of_mem hn
    have h3 := small_all h k hk
    rw [e] at h3
    have h4 := h3.rs
    unfold wtN
    omega)
  have := Nat.mul_le_mul_right 1000 hm
  omega
theorem ownQ_nil (B : Nat) (w : World) : OwnQ B w (.slice none 0 0) [] := ⟨World.ownsRow_nil _ _ _ _, fun q hq => by cases hq⟩
theorem row_marked {A B e size n : Nat} {w w' : World} {v : Value} {xs : List Value} (h : w.ownsRow A e size v n xs) (f : MkFr B w w') (hlt : ∀ r, v.ownBlock = some r → r < B) : w'.ownsRow A e size v n xs := by
  obtain ⟨hl, hz | ⟨g, cap, cur, hv, hB, hh, rest⟩⟩ := h
  · exact ⟨hl, .inl hz⟩
  · have hg : g < w.heap.size := blk_lt hh
    exact ⟨hl, .inr ⟨g, cap, cur, hv, hB, (f.block g hg (.inl (hlt g (by rw [hv]; rfl)))).trans hh, rest⟩⟩
theorem OwnQ.marked {A B : Nat} {w3 w w' : World} {v : Value} {qs : List (PNode × (Value × Value))} (h : OwnQ A w v qs) (h3 : OwnQ A w3 v qs) (hB : w3.heap.size ≤ B) (f : MkFr B w w') : OwnQ A w' v qs :=
  ⟨row_marked h.1 f (fun r e => Nat.lt_of_lt_of_le (World.ownsRow.lt h3.1 r e).2 hB),
    fun q hq => ⟨row_marked (h.2 q hq).1 f (fun r e => Nat.lt_of_lt_of_le (World.ownsRow.lt (h3.2 q hq).1 r e).2 hB), row_marked (h.2 q hq).2 f (fun r e => Nat.lt_of_lt_of_le (World.ownsRow.lt (h3.2 q hq).2 r e).2 hB)⟩⟩

def ReadN2 (ns : List PNode) (ok : Bool) (w : World) (e : Ending) (w' : World) : Prop :=
  ∃ u qs, e = .returned (.tuple #[.agg #[u], .bool ok]) ∧ qs.map (fun q => q.1) = ns ∧ OwnQ w.heap.size w' u qs ∧ Below w.heap.size w w'
def ReadI2 (ns : List PNode) (ok : Bool) (w : World) (e : Ending) (w' : World) : Prop :=
  ∃ u qs, e = .returned (.tuple #[.agg #[u], .bool ok]) ∧ qs.map (fun q => q.1) = ns ∧ OwnQ w.heap.size w' u qs ∧ ApartT qs ∧ Below w.heap.size w w'
theorem read_both {xs : List Int} : ∃ (ns : List PNode) (ok : Bool), (∀ n ∈ ns, NodeFit n) ∧ ns.length + wtS ns ≤ 1048576 ∧ (∀ w e w', ReadE xs w e w' → ReadN2 ns ok w e w') ∧ (∀ w e w', ReadA xs w e w' → ReadI2 ns ok w e w') := by
  by_cases hg : ∃ ns, goodT ns ∧ packL ns = xs
  · obtain ⟨ns, hg, hp⟩ := hg
    refine ⟨ns, true, fit_tree hg.1.1, wt_tree hg.1.1, ?_, ?_⟩
    · rintro w e w' ⟨⟨u, qs, rfl, h1, h2, h3, _⟩ | ⟨hno, _⟩, b⟩
      · exact ⟨u, qs, rfl, pack_inj h1 hg (h2.trans hp.symm), h3, b⟩
      · exact absurd hp (hno ns hg)
    · rintro w e w' ⟨⟨u, qs, rfl, h1, h2, h3, h4⟩ | ⟨hno, _⟩, b⟩
      · exact ⟨u, qs, rfl, pack_inj h1 hg (h2.trans hp.symm), h3, h4, b⟩
      · exact absurd hp (hno ns hg)
  · refine ⟨[], false, (by simp), (by simp [wtS]), ?_, ?_⟩
    · rintro w e w' ⟨⟨u, qs, rfl, h1, h2, _, _⟩ | ⟨_, rfl⟩, b⟩
      · exact absurd ⟨_, h1, h2⟩ hg
      · exact ⟨_, [], rfl, rfl, ownQ_nil _ _, b⟩
    · rintro w e w' ⟨⟨u, qs, rfl, h1, h2, _, _⟩ | ⟨_, rfl⟩, b⟩
      · exact absurd ⟨_, h1, h2⟩ hg
      · exact ⟨_, [], rfl, rfl, ownQ_nil _ _, apartT_nil, b⟩

set_option maxHeartbeats 4000000 in
set_option maxRecDepth 100000 in
theorem fnExactTreeRead_walk {v : Value} {xs : List Int} (w : World) (h : Sl .u8 w v xs) (hwf : ∀ n ∈ xs, (Lit.int .u8 n).wf = true) :
    Calls Tryz.prog 9 #[v] w fun e w' => e = .returned (.bool true) ∧ Below w.heap.size w w' := by
  have h0 := h
  have hw := h
  obtain ⟨a, ca, rfl, _, _, _, ha⟩ := h
  clear ha
  by_cases hbig : 1048576 < xs.length
  · go_enter Tryz.func9, Tryz.ntmps9
    go_wp2
    go_ret
    exact ⟨rfl, Below.refl _ _⟩
  have hn : xs.length ≤ 1048576 := by omega
  obtain ⟨ns, ok, hfit, hsum, hE, hA⟩ := read_both (xs := xs)
  have HS := (show Hid (∀ (v : Value) (w : World), Sl .u8 w v xs → Calls Tryz.prog 33 #[v] w fun e w' => ReadN2 ns ok w e w') from fun v w h => (streeRead_any h (byte_ok hwf) (by omega)).mono (fun e w' => hE w e w'))
  have HI := (show Hid (∀ (v : Value) (w : World), Sl .u8 w v xs → Calls Tryz.prog 31 #[v] w fun e w' => ReadI2 ns ok w e w') from fun v w h => (itreeRead_all h (byte_ok hwf) (by omega)).mono (fun e w' => hA w e w'))
  have HF := (show Hid (∀ n ∈ ns, NodeFit n) from hfit)
  have hl : ns.length ≤ 1048576 := by omega
  have HSUM := (show Hid (ns.length + wtS ns ≤ 1048576) from hsum)
  clear hE hA hfit hsum hwf
  have e1 : (ok != ok) = false := by cases ok <;> rfl
  go_enter Tryz.func9, Tryz.ntmps9
  go_wp2_with fail
  go_at_call 42
  refine (toB_any h0 (by omega)).mono ?_
  rintro e w1 ⟨x1, rfl, ox1, b1⟩
  replace h0 := h0.below b1
  go_wp2_with fail
  go_at_call 33
  refine (HS.out _ _ ox1.sl).mono ?_
  rintro e w2 ⟨v1, q1, rfl, m1, o1, b2⟩
  replace h0 := h0.below b2
  have B := b1.trans (b2.mono b1.size)
  replace o1 := o1.base b1.size
  clear ox1 b1 b2 HS
  obtain ⟨p1, l1, c1, rfl⟩ := own_slice o1.1
  obtain ⟨w2a, hw2a⟩ : ∃ z, z = w2.alloc (.cells #[.slice p1 l1 c1] 26) := ⟨_, rfl⟩
  obtain ⟨P, hP⟩ : ∃ z, z = w2.heap.size := ⟨_, rfl⟩
  have gPn : w2a.heap[P]? = some (.cells #[.slice p1 l1 c1] 26 (0, 0)) := by rw [hw2a, hP]; exact World.alloc_heap_new _ _
  have bA : Below w2.heap.size w2 w2a := by rw [hw2a]; exact (Below.refl _ _).alloc (Nat.le_refl _) _
  replace h0 := h0.below bA
  replace o1 := o1.below bA
  replace B := B.trans (bA.mono B.size)
  clear bA
  have Hw2a := (show Hid (w2a = _) from hw2a)
  have HP := (show Hid (P = w2.heap.size) from hP)
  clear hw2a hP
  go_wp2_with fail
  go_at_call 42
  rw [← Hw2a.out]
  refine (toB_any h0 (by omega)).mono ?_
  rintro e w3 ⟨x0, rfl, ox, b3⟩
  rw [← HP.out]
  have gP := gPn
  clear gPn
  replace h0 := h0.below b3
  replace o1 := o1.below b3
  replace gP := (b3.block _ (blk_lt gP)).trans gP
  replace ox := ox.base B.size
  replace B := B.trans (b3.mono B.size)
  have O3 := (show Hid _ from o1)
  have hs3 := B.size
  obtain ⟨C, hC⟩ : ∃ C, C = w3.heap.size := ⟨_, rfl⟩
  have HC3 := (show Hid (w3.heap.size ≤ C) from Nat.le_of_eq hC.symm)
  have hwC : w.heap.size ≤ C := by omega
  clear b3
  have hCC := (show Hid (C = w3.heap.size) from hC)
  clear hC hs3
  have cgP := (six_one gP).1
  have lgP := blk_lt gP
  go_wp2_with fail
  go_at_call 31
  refine (HI.out _ _ ox.sl).mono ?_
  rintro e w4 ⟨v2, q2, rfl, m2, o2, a2, b4⟩
  clear cgP lgP
  rw [← hCC.out] at o2
  have hC4 : C ≤ w4.heap.size := by rw [hCC.out]; exact b4.size
  clear hCC
  obtain ⟨p2, l2, c2, rfl⟩ := own_slice o2.1
  replace h0 := h0.below b4
  replace o1 := o1.below b4
  replace ox := ox.below b4
  replace gP := (b4.block _ (blk_lt gP)).trans gP
  replace B := B.trans (b4.mono B.size)
  clear b4
  obtain ⟨w4a, hw4a⟩ : ∃ z, z = w4.alloc (.cells #[.slice p2 l2 c2] 26) := ⟨_, rfl⟩
  obtain ⟨Q, hQ⟩ : ∃ z, z = w4.heap.size := ⟨_, rfl⟩
  have gQn : w4a.heap[Q]? = some (.cells #[.slice p2 l2 c2] 26 (0, 0)) := by rw [hw4a, hQ]; exact World.alloc_heap_new _ _
  have bA : Below w4.heap.size w4 w4a := by rw [hw4a]; exact (Below.refl _ _).alloc (Nat.le_refl _) _
  have kgP := (six_one gP).1
  have mgP := blk_lt gP
  replace h0 := h0.below bA
  replace o1 := o1.below bA
  replace o2 := o2.below bA
  replace ox := ox.below bA
  replace gP := (bA.block _ (blk_lt gP)).trans gP
  replace B := B.trans (bA.mono B.size)
  replace hC4 := Nat.le_trans hC4 bA.size
  clear bA
  have Hw4a := (show Hid (w4a = _) from hw4a)
  have HQ := (show Hid (Q = w4.heap.size) from hQ)
  clear hw4a hQ
  have n1 := o1.n.nodes
  rw [m1] at n1
  have n2 := o2.n.nodes
  rw [m2] at n2
  go_wp2_with fail
  go_at_call 38
  rw [← Hw4a.out]
  refine (eqTree_same n2 n1 HF.out hl).mono ?_
  rintro e w5 ⟨rfl, b5⟩
  rw [← HQ.out]
  clear kgP mgP
  have gQ := gQn
  clear gQn
  replace h0 := h0.below b5
  replace o1 := o1.below b5
  replace o2 := o2.below b5
  replace ox := ox.below b5
  replace gP := (b5.block _ (blk_lt gP)).trans gP
  replace gQ := (b5.block _ (blk_lt gQ)).trans gQ
  replace B := B.trans (b5.mono B.size)
  replace hC4 := Nat.le_trans hC4 b5.size
  clear b5 n1 n2
  have cgP := (six_one gP).1
  have lgP := blk_lt gP
  have cgQ := (six_one gQ).1
  have lgQ := blk_lt gQ
  go_wp2_with fail
  go_at_call 42
  refine (toB_any h0 (by omega)).mono ?_
  rintro e w6 ⟨x2, rfl, ox2, b6⟩
  clear cgP lgP cgQ lgQ
  replace h0 := h0.below b6
  replace o1 := o1.below b6
  replace o2 := o2.below b6
  replace ox := ox.below b6
  replace gP := (b6.block _ (blk_lt gP)).trans gP
  replace gQ := (b6.block _ (blk_lt gQ)).trans gQ
  replace B := B.trans (b6.mono B.size)
  replace hC4 := Nat.le_trans hC4 b6.size
  clear b6
  have cgP := (six_one gP).1
  have lgP := blk_lt gP
  have cgQ := (six_one gQ).1
  have lgQ := blk_lt gQ
  go_wp2_with fail
  go_at_call 37
  refine (eqB_any ox.sl ox2.sl (by omega) (by omega)).mono ?_
  rintro e w7 ⟨rfl, b7⟩
  clear cgP lgP cgQ lgQ
  rw [decide_eq_true rfl]
  clear ox2 h0
  replace o1 := o1.below b7
  replace o2 := o2.below b7
  replace ox := ox.below b7
  replace gP := (b7.block _ (blk_lt gP)).trans gP
  replace gQ := (b7.block _ (blk_lt gQ)).trans gQ
  replace B := B.trans (b7.mono B.size)
  replace hC4 := Nat.le_trans hC4 b7.size
  clear b7
  have cgP := (six_one gP).1
  have lgP := blk_lt gP
  have cgQ := (six_one gQ).1
  have lgQ := blk_lt gQ
  go_wp2_with fail
  go_at_call 40
  refine (markB_any ox (by omega) (by omega) (by omega)).mono ?_
  rintro e w8 ⟨rfl, oxm, g8⟩
  clear cgP lgP cgQ lgQ
  replace o1 := o1.kept g8 (fun r e => by obtain ⟨cs, fr, hh⟩ := ownRow_type ox e; exact ⟨cs, _, fr, hh, by decide, by decide, by decide⟩)
  replace o2 := o2.kept g8 (fun r e => by obtain ⟨cs, fr, hh⟩ := ownRow_type ox e; exact ⟨cs, _, fr, hh, by decide, by decide, by decide⟩)
  replace B := B.grown g8 B.size (fun k hk => (Own.lt ox k hk).1)
  replace hC4 := Nat.le_trans hC4 g8.size
  replace gP := (g8.block P (blk_lt gP) (fun e => by obtain ⟨cs, fr, hh⟩ := ownRow_type ox e.symm; rw [gP] at hh; cases hh)).trans gP
  replace gQ := (g8.block Q (blk_lt gQ) (fun e => by obtain ⟨cs, fr, hh⟩ := ownRow_type ox e.symm; rw [gQ] at hh; cases hh)).trans gQ
  clear g8 ox oxm
  have n1 := o1.n.nodes
  rw [m1] at n1
  have n2 := o2.n.nodes
  rw [m2] at n2
  have cgP := (six_one gP).1
  have lgP := blk_lt gP
  have cgQ := (six_one gQ).1
  have lgQ := blk_lt gQ
  go_wp2_with fail
  go_at_call 38
  refine (eqTree_same n2 n1 HF.out hl).mono ?_
  rintro e w9 ⟨rfl, b9⟩
  clear cgP lgP cgQ lgQ
  replace o1 := o1.below b9
  replace o2 := o2.below b9
  replace gP := (b9.block _ (blk_lt gP)).trans gP
  replace gQ := (b9.block _ (blk_lt gQ)).trans gQ
  replace B := B.trans (b9.mono B.size)
  replace hC4 := Nat.le_trans hC4 b9.size
  clear b9 n1 n2
  have hq2 : q2.length + wtS (q2.map fun q => q.1) ≤ 1048576 := by
    have hh : q2.length = ns.length := by rw [← m2, List.length_map]
    rw [m2, hh]; exact HSUM.out
  have cgP := (six_one gP).1
  have lgP := blk_lt gP
  have cgQ := (six_one gQ).1
  have lgQ := blk_lt gQ
  go_wp2_with fail
  go_at_call 39
  refine (markTreeV_any hC4 o2 a2.1 a2.2 1 (by omega) (by omega) hq2).mono ?_
  rintro e w10 ⟨k, ps, rfl, hk, mk, lk, o2m, f10⟩
  clear cgP lgP cgQ lgQ
  replace o1 := o1.marked O3.out HC3.out f10
  replace B := f10.below hwC B (Nat.le_refl _) B.size
  replace gP := (f10.block P (blk_lt gP) (.inr ⟨_, _, _, gP, by decide, by decide, by decide⟩)).trans gP
  replace gQ := (f10.block Q (blk_lt gQ) (.inr ⟨_, _, _, gQ, by decide, by decide, by decide⟩)).trans gQ
  have hps : (ps.map fun q => q.1).length + wtS (ps.map fun q => q.1) ≤ 1048576 := by
    have e : wtS (ps.map fun q => q.1) = wtS (q2.map fun q => q.1) := by
      have := congrArg (List.map (fun t : Nat × Nat × (Value × Value) => t.1 + t.2.1)) lk
      rw [List.map_map, List.map_map] at this
      unfold wtS
      rw [List.map_map, List.map_map]
      exact congrArg List.sum this
    rw [e, List.length_map, lk.len]; exact hq2
  have n2 := o2m.n.nodes
  obtain ⟨ms, hms⟩ : ∃ ms, ms = ps.map fun q => q.1 := ⟨_, rfl⟩
  rw [← hms] at hps mk hk n2
  have hk0 := (advS_le ms).1
  have HK := (show Hid (k = 1 + advS ms) from hk)
  have HN2 := (show Hid (NodesAt w10 (.slice p2 l2 c2) ms) from n2)
  have HMK := (show Hid (Marked 1 ms) from mk)
  have HPS := (show Hid (ms.length + wtS ms ≤ 1048576) from hps)
  have hk1 : 0 ≤ k := by omega
  clear f10 hms o2m lk o2 a2 hq2 hk mk n2 hps hk0 m2 O3 HC3 hC4
  have cgP := (six_one gP).1
  have lgP := blk_lt gP
  have cgQ := (six_one gQ).1
  have lgQ := blk_lt gQ
  go_wp2_with fail
  go_at_call 43
  refine (heldTree_any HN2.out HMK.out (by omega) (by omega) HPS.out).mono ?_
  rintro e w11 ⟨rfl, b11⟩
  clear cgP lgP cgQ lgQ
  rw [← HK.out]
  replace o1 := o1.below b11
  replace gP := (b11.block _ (blk_lt gP)).trans gP
  replace gQ := (b11.block _ (blk_lt gQ)).trans gQ
  replace B := B.trans (b11.mono B.size)
  replace HN2 := (show Hid (NodesAt _ (.slice p2 l2 c2) ms) from HN2.out.below b11)
  clear b11
  have h0 := hw.below B
  have cgP := (six_one gP).1
  have lgP := blk_lt gP
  have cgQ := (six_one gQ).1
  have lgQ := blk_lt gQ
  go_wp2_with fail
  go_at_call 42
  refine (toB_any h0 (by omega)).mono ?_
  rintro e w12 ⟨x3, rfl, ox3, b12⟩
  clear cgP lgP cgQ lgQ
  replace o1 := o1.below b12
  replace gP := (b12.block _ (blk_lt gP)).trans gP
  replace gQ := (b12.block _ (blk_lt gQ)).trans gQ
  replace B := B.trans (b12.mono B.size)
  replace HN2 := (show Hid (NodesAt _ (.slice p2 l2 c2) ms) from HN2.out.below b12)
  clear b12 h0
  have cgP := (six_one gP).1
  have lgP := blk_lt gP
  have cgQ := (six_one gQ).1
  have lgQ := blk_lt gQ
  go_wp2_with fail
  go_at_call 31
  refine (HI.out _ _ ox3.sl).mono ?_
  rintro e w13 ⟨v3, q3, rfl, m3, o3, _, b13⟩
  clear cgP lgP cgQ lgQ
  clear ox3
  obtain ⟨p3, l3, c3, rfl⟩ := own_slice o3.1
  replace o1 := o1.below b13
  replace gP := (b13.block _ (blk_lt gP)).trans gP
  replace gQ := (b13.block _ (blk_lt gQ)).trans gQ
  replace B := B.trans (b13.mono B.size)
  replace HN2 := (show Hid (NodesAt _ (.slice p2 l2 c2) ms) from HN2.out.below b13)
  clear b13
  obtain ⟨w13a, hw13a⟩ : ∃ z, z = w13.alloc (.cells #[.slice p3 l3 c3] 26) := ⟨_, rfl⟩
  obtain ⟨R, hR⟩ : ∃ z, z = w13.heap.size := ⟨_, rfl⟩
  have gRn : w13a.heap[R]? = some (.cells #[.slice p3 l3 c3] 26 (0, 0)) := by rw [hw13a, hR]; exact World.alloc_heap_new _ _
  have bA : Below w13.heap.size w13 w13a := by rw [hw13a]; exact (Below.refl _ _).alloc (Nat.le_refl _) _
  have kgP := (six_one gP).1
  have mgP := blk_lt gP
  have kgQ := (six_one gQ).1
  have mgQ := blk_lt gQ
  replace o1 := o1.below bA
  replace o3 := o3.below bA
  replace gP := (bA.block _ (blk_lt gP)).trans gP
  replace gQ := (bA.block _ (blk_lt gQ)).trans gQ
  replace B := B.trans (bA.mono B.size)
  replace HN2 := (show Hid (NodesAt _ (.slice p2 l2 c2) ms) from HN2.out.below bA)
  clear bA
  have Hw13a := (show Hid (w13a = _) from hw13a)
  have HR := (show Hid (R = w13.heap.size) from hR)
  clear hw13a hR
  have n1 := o1.n.nodes
  rw [m1] at n1
  have n3 := o3.n.nodes
  rw [m3] at n3
  go_wp2_with fail
  go_at_call 38
  rw [← Hw13a.out]
  refine (eqTree_same n3 n1 HF.out hl).mono ?_
  rintro e w14 ⟨rfl, b14⟩
  rw [← HR.out]
  clear kgP mgP kgQ mgQ o3 o1 n1 n3 m1 m3 gRn
  replace gP := (b14.block _ (blk_lt gP)).trans gP
  replace gQ := (b14.block _ (blk_lt gQ)).trans gQ
  replace B := B.trans (b14.mono B.size)
  replace HN2 := (show Hid (NodesAt _ (.slice p2 l2 c2) ms) from HN2.out.below b14)
  clear b14
  have cgP := (six_one gP).1
  have lgP := blk_lt gP
  have cgQ := (six_one gQ).1
  have lgQ := blk_lt gQ
  go_wp2_with fail
  go_at_call 43
  refine (heldTree_any HN2.out HMK.out (by omega) (by omega) HPS.out).mono ?_
  rintro e w15 ⟨rfl, b15⟩
  clear cgP lgP cgQ lgQ
  rw [← HK.out]
  replace B := B.trans (b15.mono B.size)
  clear b15 HN2
  go_wp2
  go_ret
  exact ⟨rfl, B⟩
end Go.Proofs.YtogdbjafibejdaaGreat
