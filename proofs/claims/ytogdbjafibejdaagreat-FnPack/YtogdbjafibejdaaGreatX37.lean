/- The program's arenaOf, change (with the step of TreeAdd) and TreeAdd of a tree that is right. No condition. -/
import Derived.Test.YtogdbjafibejdaaGreatX34
import Derived.Defers
import Derived.Test.YtogdbjafibejdaaGreatX36
import Derived.Test.YtogdbjafibejdaaGreatX10
import Derived.Test.YtogdbjafibejdaaGreatX28
import Derived.Test.YtogdbjafibejdaaGreatX25
import Derived.Test.YtogdbjafibejdaaGreatX5
import Derived.Test.YtogdbjafibejdaaGreatX7
import Derived.Test.YtogdbjafibejdaaGreatX32
import Derived.Test.YtogdbjafibejdaaGreatX31
import Derived.Test.YtogdbjafibejdaaGreatX27
import Derived.Test.YtogdbjafibejdaaGreatX24
namespace Go.Proofs.YtogdbjafibejdaaGreat
open Go.RowKit
set_option maxRecDepth 100000
set_option linter.unusedVariables false

theorem OwnN.form {B : Nat} {w : World} {v : Value} {ns : List PNode} (h : OwnN B w v ns) (h0 : 0 < ns.length) : ∃ g cap, v = .slice (some ⟨g, 0, none⟩) ns.length cap ∧ B ≤ g ∧ g < w.heap.size := by
  obtain ⟨qs, h1, h2, h3⟩ := h
  exact one_form h2 h0
theorem one_cell {w : World} {b : Nat} {u : Value} {t : TypeId} (h : w.heap[b]? = some (.cells #[u] t (0, 0))) : w.cell? ⟨b, 0, none⟩ = some u ∧ w.frozen? ⟨b, 0, none⟩ = false := ⟨by simp only [World.cell?, h]; rfl, by simp only [World.frozen?, h]; rfl⟩

structure AddFrK (B a K : Nat) (w w' : World) : Prop where
  os : w'.os = w.os
  tape : w'.tape = w.tape
  output : w'.output = w.output
  size : w.heap.size ≤ w'.heap.size
  block : ∀ j, j < w.heap.size → j ≠ a → j ≠ K → (j < B ∨ ∃ cs t fr, w.heap[j]? = some (.cells cs t fr) ∧ t ≠ 36) → w'.heap[j]? = w.heap[j]?
theorem AddFrK.box {B a K : Nat} {w w' : World} (h : AddFrK B a K w w') {j : Nat} {cs : Array Value} {t : TypeId} {fr : Nat × Nat} (hj : w.heap[j]? = some (.cells cs t fr)) (ht : t ≠ 36) (hne : j ≠ a) (hnk : j ≠ K) : w'.heap[j]? = some (.cells cs t fr) := (h.block j (lt_of_block hj) hne hnk (.inr ⟨_, _, _, hj, ht⟩)).trans hj
theorem AddFrK.below {B a K N : Nat} {w w' : World} (h : AddFrK B a K w w') (hN : N ≤ B) (ha : N ≤ a) (hK : N ≤ K) (hB : N ≤ w.heap.size) : Below N w w' := ⟨h.os, h.tape, h.output, h.size, fun j hj => h.block j (by omega) (by omega) (by omega) (.inl (by omega))⟩
theorem AddFr.put {B a K : Nat} {w w' w'' : World} (h : AddFr B a w w') (g : w'.grownBy w'' (some K)) : AddFrK B a K w w'' :=
  ⟨g.os.trans h.os, g.tape.trans h.tape, g.output.trans h.output, Nat.le_trans h.size g.size, fun j hj h1 h2 h3 => (g.block j (Nat.lt_of_lt_of_le hj h.size) (fun e => by injection e with e; exact h2 e)).trans (h.block j hj h1 (by
    rcases h3 with h3 | ⟨cs, t, fr, h4, h5⟩
    · exact .inl h3
    · exact .inr (fun cs' t' fr' e => by rw [h4] at e; cases e; exact h5)))⟩

theorem OwnQ.form {B : Nat} {w : World} {v : Value} {qs : List (PNode × (Value × Value))} (h : OwnQ B w v qs) (h0 : 0 < qs.length) : ∃ g cap, v = .slice (some ⟨g, 0, none⟩) qs.length cap ∧ B ≤ g ∧ g < w.heap.size := one_form h.1 h0

end Go.Proofs.YtogdbjafibejdaaGreat

/- The program's take and hang in an arena of its own. No condition. -/
namespace Go.Proofs.YtogdbjafibejdaaGreat
open Go.RowKit
set_option maxRecDepth 100000
set_option linter.unusedVariables false

theorem map_set_par (qs : List (PNode × (Value × Value))) {c : Nat} (hc : c < qs.length) (x : Int) : (qs.set c (parQ qs[c] x)).map (fun q => q.1) = (qs.map (fun q => q.1)).modify c (fun n => setPar n x) := map_modify hc rfl
theorem map_set_kid (qs : List (PNode × (Value × Value))) {c : Nat} (hc : c < qs.length) (f : List Int → List Int) (u : Value) : (qs.set c (kidQ qs[c] (f qs[c].1.kids) u)).map (fun q => q.1) = (qs.map (fun q => q.1)).modify c (fun n => setKids n (f n.kids)) := map_modify hc rfl

def TakeW (w : World) (g p : Nat) (ks : List Int) (wx : World) : Prop := ∃ x1 u, wx = World.setCell x1 ⟨g, p * 6 + 5, none⟩ u ∧ Below w.heap.size w x1 ∧ Own w.heap.size 3 .i64 x1 u ks

theorem takeW_mk {w x1 : World} {g p : Nat} {ks : List Int} {u : Value} (b : Below w.heap.size w x1) (o : Own w.heap.size 3 .i64 x1 u ks) : TakeW w g p ks (x1.setCell ⟨g, p * 6 + 5, none⟩ u) := ⟨x1, u, rfl, b, o⟩

set_option maxHeartbeats 16000000 in
set_option maxRecDepth 100000 in
theorem itake_any {B a g cap : Nat} {w : World} {qs : List (PNode × (Value × Value))} (ha : w.heap[a]? = some (.cells #[.slice (some ⟨g, 0, none⟩) qs.length cap] 77 (0, 0))) (hO : OwnQ B w (.slice (some ⟨g, 0, none⟩) qs.length cap) qs) (hA : Apart qs) (hB : B ≤ w.heap.size) (hlen : qs.length ≤ 100000) {c : Nat} (hc : c < qs.length) (hc0 : c ≠ 0)
    (hp : qs[c].1.parent = -1 ∨ ∃ p : Nat, qs[c].1.parent = p ∧ p < qs.length) (hkl : ∀ q ∈ qs, q.1.kids.length ≤ 1048576) :
    Calls Tryz.prog 65 #[.pointer (some ⟨a, 0, none⟩), .int .i64 c] w fun e w' => e = .returned (.bool true) ∧ (∃ qs', qs'.map (fun q => q.1) = takeN (qs.map (fun q => q.1)) c ∧ OwnQ B w' (.slice (some ⟨g, 0, none⟩) qs.length cap) qs' ∧ Apart qs' ∧ (∀ p ∈ qs', ∀ r, p.2.2.ownBlock = some r → (∃ q ∈ qs, q.2.2.ownBlock = some r) ∨ w.heap.size ≤ r)) ∧ w.grownBy w' (some g) := by
  obtain ⟨cA, _⟩ := one_cell ha
  have hag : a ≠ g := fun e => by
    subst e
    rcases hO.1.2 with ⟨e1, _⟩ | ⟨g', cap', cur, e1, hB', hh, _⟩
    · cases e1
    · cases e1; rw [ha] at hh; cases hh
  have HO := (show Hid (OwnQ B w (.slice (some ⟨g, 0, none⟩) qs.length cap) qs) from hO)
  have HA := (show Hid (Apart qs) from hA)
  have c4 := hO.cellAt (c := c) (j := 4) hc (by omega)
  have f4 := hO.frozenAt (c * 6 + 4)
  have c4' : w.cell? ⟨g, c * 6 + 4, none⟩ = some (.int .i64 qs[c].1.parent) := c4
  clear c4 hO hA
  go_enter Tryz.func65, Tryz.ntmps65
  go_wp2_with fail
  go_at_call 74
  refine Calls.mono (ihas_any cA (c : Int)) ?_
  rintro e wx ⟨rfl, hx⟩
  rw [hx, decide_eq_true ⟨by omega, by omega⟩]
  clear hx wx
  rcases hp with hp | ⟨p, hp, hpl⟩
  · rw [hp] at c4'
    have hP := OwnQ.par HO.out hc (-1)
    have HM := (show Hid _ from map_set_par qs hc (-1))
    have hcut : cutN (qs.map (fun q => q.1)) c = qs.map (fun q => q.1) := by
      rw [cutN, if_pos (by rw [parOf_at (by simpa using hc)]; simpa using hp)]
    have HT := (show Hid ((qs.set c (parQ qs[c] (-1))).map (fun q => q.1) = takeN (qs.map (fun q => q.1)) c) from (show _ = _ by rw [takeN, hcut]; exact HM.out))
    have HP := (show Hid _ from hP)
    have HAP := (show Hid _ from apart_par HA.out hc (-1))
    clear hcut HM hP
    go_wp2
    go_ret
    refine ⟨rfl, ⟨_, HT.out, HP.out, HAP.out, fun q hq r e => .inl ?_⟩, grown_setCell _ _ _ _⟩
    rcases List.mem_or_eq_of_mem_set hq with hq | rfl
    · exact ⟨q, hq, e⟩
    · exact ⟨qs[c], List.getElem_mem hc, e⟩
  · rw [hp] at c4'
    have c5 := OwnQ.cellAt HO.out (c := p) (j := 5) hpl (by omega)
    have c5' : w.cell? ⟨g, p * 6 + 5, none⟩ = some qs[p].2.2 := c5
    have hown := (HO.out.2 qs[p] (List.getElem_mem hpl)).2
    have HKV := (show Hid (Sl .i64 w qs[p].2.2 qs[p].1.kids) from hown.sl)
    obtain ⟨k1, k2, k3, hk⟩ := own_slice hown
    have hkp := hkl qs[p] (List.getElem_mem hpl)
    rw [hk] at c5' HKV
    have HKE := (show Hid (qs[p].2.2 = .slice k1 k2 k3) from hk)
    have CL := (show Hid (∀ w', Below w.heap.size w w' → Calls Tryz.prog 116 #[.slice k1 k2 k3, .int .i64 (c : Int)] w' fun e w'' => ∃ v', e = .returned v' ∧ Own w'.heap.size 3 .i64 w'' v' (lessL (c : Int) qs[p].1.kids) ∧ Below w'.heap.size w' w'') from fun w' hb => iless_any (c : Int) (HKV.out.below hb) hkp)
    have bd : Below w.heap.size w w.drew := below_drewN 1
    have hgl : g < w.heap.size := (World.ownsRow.lt HO.out.1 g rfl).2
    have hal := lt_of_block ha
    have BD := (show Hid (Below w.heap.size w w.drew) from bd)
    have hpi : (p : Int) < (qs.length : Int) := by omega
    have hci : (c : Int) < (qs.length : Int) := by omega
    clear hk hown HKV hkp c5
    go_wp2_with fail
    go_cut [] from 6 (fun wx => TakeW w g p (lessL (c : Int) qs[p].1.kids) wx)
    case first =>
      go_region_law (first
        | (go_simp
           go_at_call 116
           with_reducible refine Calls.mono (CL.out w.drew BD.out) ?_
           rintro e x1 ⟨u1, rfl, o1, b1⟩
           have B1 := (show Hid (Below w.heap.size w x1) from BD.out.trans (b1.mono BD.out.size))
           obtain ⟨u2, u3, u4, rfl⟩ := own_slice o1
           have f5 : x1.frozen? ⟨g, p * 6 + 5, none⟩ = false := OwnQ.frozenAt (HO.out.below B1.out) _
           have d5 : x1.cell? ⟨g, p * 6 + 5, none⟩ = some (.slice k1 k2 k3) := (B1.out.cell (p := ⟨g, p * 6 + 5, none⟩) hgl).trans c5'
           have d4 : x1.cell? ⟨g, c * 6 + 4, none⟩ = some (.int .i64 (p : Int)) := (B1.out.cell (p := ⟨g, c * 6 + 4, none⟩) hgl).trans c4'
           have dA : x1.cell? ⟨a, 0, none⟩ = some (.slice (some ⟨g, 0, none⟩) qs.length cap) := (B1.out.cell (p := ⟨a, 0, none⟩) hal).trans cA
           have O1 := (show Hid (Own w.heap.size 3 .i64 x1 (.slice u2 u3 u4) (lessL (c : Int) qs[p].1.kids)) from o1.base BD.out.size)
           clear o1 b1))
      all_goals
        go_wp2_with fail
        go_meet
        with_reducible exact takeW_mk B1.out O1.out
    case rest =>
      obtain ⟨x1, u, hwc, b1, o1⟩ := hcut
      have O1 := HO.out.below b1
      have OK := O1.kid hpl (o1.base hB)
      rw [← hwc] at OK
      have AK := apart_kid HA.out hpl (ks := lessL (c : Int) qs[p].1.kids) (u := u) (fun r hr => .inr (fun q hq e => by
        have h1 := (Own.lt o1 r hr).1
        have h2 := (Own.lt (HO.out.2 q hq).2 r e).2
        omega))
      obtain ⟨qs1, hqs1⟩ : ∃ z, z = qs.set p (kidQ qs[p] (lessL (c : Int) qs[p].1.kids) u) := ⟨_, rfl⟩
      have hm1 := map_set_kid qs hpl (lessL (c : Int)) u
      rw [← hqs1] at OK AK hm1
      have hc1 : c < qs1.length := by rw [hqs1, List.length_set]; exact hc
      have hl1 : qs1.length = qs.length := by rw [hqs1, List.length_set]
      have OP := OK.par hc1 (-1)
      have AP := apart_par AK hc1 (-1)
      have hm2 := map_set_par qs1 hc1 (-1)
      have hq1 : ∀ q ∈ qs1, ∀ r, q.2.2.ownBlock = some r → (∃ q ∈ qs, q.2.2.ownBlock = some r) ∨ w.heap.size ≤ r := by
        intro q hq r e
        rw [hqs1] at hq
        rcases List.mem_or_eq_of_mem_set hq with hq | rfl
        · exact .inl ⟨q, hq, e⟩
        · exact .inr (Own.lt o1 r e).1
      have hpar : parOf (qs.map (fun q => q.1)) c = (p : Int) := by rw [parOf_at (by simpa using hc)]; simpa using hp
      have HT := (show Hid ((qs1.set c (parQ qs1[c] (-1))).map (fun q => q.1) = takeN (qs.map (fun q => q.1)) c) from (show _ = _ by
        rw [hm2, hm1, takeN, cutN, hpar, if_neg (by omega)]
        simp))
      have HOP := (show Hid (OwnQ B (wc.setCell ⟨g, c * 6 + 4, none⟩ (.int .i64 (-1))) (.slice (some ⟨g, 0, none⟩) qs.length cap) (qs1.set c (parQ qs1[c] (-1)))) from OP)
      have c9 : wc.cell? ⟨g, c * 6 + 4, none⟩ = some (.int .i64 qs1[c].1.parent) := OK.cellAt (j := 4) hc1 (by omega)
      have f9 := OK.frozenAt (c * 6 + 4)
      have HG := (show Hid (w.grownBy (wc.setCell ⟨g, c * 6 + 4, none⟩ (.int .i64 (-1))) (some g)) from (by
        rw [hwc]
        exact grown_trans (grown_trans (below_by g b1) (grown_setCell _ _ _ _)) (grown_setCell _ _ _ _)))
      have HAP := (show Hid (Apart (qs1.set c (parQ qs1[c] (-1)))) from AP)
      have HQ1 := (show Hid (∀ q ∈ qs1, ∀ r, q.2.2.ownBlock = some r → (∃ q ∈ qs, q.2.2.ownBlock = some r) ∨ w.heap.size ≤ r) from hq1)
      clear hm1 hm2 OP AP AK OK O1 o1 b1 hwc hq1 hpar hqs1
      go_wp2
      go_ret
      refine ⟨rfl, ⟨_, HT.out, HOP.out, HAP.out, fun q hq r e => ?_⟩, HG.out⟩
      rcases List.mem_or_eq_of_mem_set hq with hq | rfl
      · exact HQ1.out q hq r e
      · exact HQ1.out qs1[c] (List.getElem_mem hc1) r e
end Go.Proofs.YtogdbjafibejdaaGreat

/- The program's change with the step of TreeAdd, and TreeAdd of a tree that is right. No condition. -/
namespace Go.Proofs.YtogdbjafibejdaaGreat
open Go.RowKit
set_option maxRecDepth 100000
set_option linter.unusedVariables false

theorem AddFrK.from {B a K : Nat} {w w3 w4 : World} (b : Below w.heap.size w w3) (f : AddFrK B a K w3 w4) : AddFrK B a K w w4 :=
  ⟨f.os.trans b.os, f.tape.trans b.tape, f.output.trans b.output, Nat.le_trans b.size f.size, fun j hj h1 h2 h3 => (f.block j (Nat.lt_of_lt_of_le hj b.size) h1 h2 (by rcases h3 with h3 | ⟨cs, t, fr, h4, h5⟩; exact .inl h3; exact .inr ⟨cs, t, fr, (b.block j hj).trans h4, h5⟩)).trans (b.block j hj)⟩
theorem AddFrK.andThen {B a K : Nat} {w w4 w5 : World} (f : AddFrK B a K w w4) {row : Option Nat} (g : w4.grownBy w5 row) (hrow : ∀ r, row = some r → w.heap.size ≤ r ∨ r = a ∨ r = K) : AddFrK B a K w w5 :=
  ⟨g.os.trans f.os, g.tape.trans f.tape, g.output.trans f.output, Nat.le_trans f.size g.size, fun j hj h1 h2 h3 => (g.block j (Nat.lt_of_lt_of_le hj f.size) (fun e => by have := hrow j e.symm; omega)).trans (f.block j hj h1 h2 h3)⟩
end Go.Proofs.YtogdbjafibejdaaGreat

/- The program's TreeSame, from the contract of its TreeTidy. -/
namespace Go.Proofs.YtogdbjafibejdaaGreat
open Go.RowKit
set_option maxRecDepth 100000
set_option linter.unusedVariables false

def TidyOk : Prop := ∀ {w : World} {v : Value} {ns : List PNode}, NodesAt w v ns → (∀ n ∈ ns, NodeFit n) → ns.length ≤ 1048576 →
  Calls Tryz.prog 25 #[.agg #[v]] w fun e w' => ∃ v', e = .returned (.agg #[v']) ∧ (TreeOkP ns → OwnN w.heap.size w' v' (tidyN ns)) ∧ (¬ TreeOkP ns → v' = .slice none 0 0) ∧ Below w.heap.size w w'

set_option maxHeartbeats 800000 in
set_option maxRecDepth 100000 in
theorem itreeSame_of (H : TidyOk) {w : World} {v u : Value} {ns ms : List PNode} (h : NodesAt w v ns) (k : NodesAt w u ms) (hf : ∀ n ∈ ns, NodeFit n) (hg : ∀ n ∈ ms, NodeFit n) (hn : ns.length ≤ 1048576) (hm : ms.length ≤ 1048576) (ok1 : TreeOkP ns) (ok2 : TreeOkP ms) :
    Calls Tryz.prog 16 #[.agg #[v], .agg #[u]] w fun e w' => ∃ r : Bool, e = .returned (.bool r) ∧ (r = true ↔ tidyN ns = tidyN ms) ∧ Below w.heap.size w w' := by
  have C1 := (show Hid (∀ W, Below w.heap.size w W → Calls Tryz.prog 15 #[.agg #[v]] W fun e w' => e = .returned (.bool true) ∧ Below W.heap.size W w') from fun W b => (itreeOk_any (h.below b) hf hn).mono (by rintro e w' ⟨r, rfl, hr, b⟩; exact ⟨by rw [hr.mpr ok1], b⟩))
  have C2 := (show Hid (∀ W, Below w.heap.size w W → Calls Tryz.prog 15 #[.agg #[u]] W fun e w' => e = .returned (.bool true) ∧ Below W.heap.size W w') from fun W b => (itreeOk_any (k.below b) hg hm).mono (by rintro e w' ⟨r, rfl, hr, b⟩; exact ⟨by rw [hr.mpr ok2], b⟩))
  have T1 := (show Hid (∀ W, Below w.heap.size w W → Calls Tryz.prog 25 #[.agg #[v]] W fun e w' => ∃ v', e = .returned (.agg #[v']) ∧ OwnN W.heap.size w' v' (tidyN ns) ∧ Below W.heap.size W w') from fun W b => (H (h.below b) hf hn).mono (by rintro e w' ⟨v', rfl, ho, _, b⟩; exact ⟨v', rfl, ho ok1, b⟩))
  have T2 := (show Hid (∀ W, Below w.heap.size w W → Calls Tryz.prog 25 #[.agg #[u]] W fun e w' => ∃ v', e = .returned (.agg #[v']) ∧ OwnN W.heap.size w' v' (tidyN ms) ∧ Below W.heap.size W w') from fun W b => (H (k.below b) hg hm).mono (by rintro e w' ⟨v', rfl, ho, _, b⟩; exact ⟨v', rfl, ho ok2, b⟩))
  have hdn := down_few ok1 (k := 0) (by have := ok1.one; omega)
  have hdm := down_few ok2 (k := 0) (by have := ok2.one; omega)
  have HFN := (show Hid (∀ n ∈ tidyN ns, NodeFit n) from tidyL_fit hf _ (by have := ok1.most; omega))
  have HFM := (show Hid (∀ n ∈ tidyN ms, NodeFit n) from tidyL_fit hg _ (by have := ok2.most; omega))
  have HLN := (show Hid ((tidyN ns).length ≤ 1048576) from (show (tidyN ns).length ≤ 1048576 by rw [tidyN, (tidyL_len ns _).1]; omega))
  obtain ⟨a, ca, rfl, _⟩ := h.slice
  obtain ⟨b, cb, rfl, _⟩ := k.slice
  clear h k hf hg H hdn hdm
  obtain ⟨w2, hw2⟩ : ∃ x, x = (w.alloc (.cells #[.slice a ns.length ca] 26)).alloc (.cells #[.slice b ms.length cb] 26) := ⟨_, rfl⟩
  have b2 : Below w.heap.size w w2 := by rw [hw2]; exact ((Below.refl _ w).alloc (Nat.le_refl _) _).alloc (by simp) _
  have g1 : w2.heap[w.heap.size]? = some (.cells #[.slice a ns.length ca] 26 (0, 0)) := by rw [hw2, Below.heap_alloc _ _ _ (by simp)]; exact World.alloc_heap_new _ _
  have g2 : w2.heap[w.heap.size + 1]? = some (.cells #[.slice b ms.length cb] 26 (0, 0)) := by
    rw [hw2]
    have := World.alloc_heap_new (w.alloc (.cells #[.slice a ns.length ca] 26)) (.cells #[.slice b ms.length cb] 26)
    rwa [World.size_alloc] at this
  have KC := (show Hid (∀ W, Below w2.heap.size w2 W → W.cell? ⟨w.heap.size, 0, none⟩ = some (.slice a ns.length ca) ∧ W.cell? ⟨w.heap.size + 1, 0, none⟩ = some (.slice b ms.length cb)) from fun W h => ⟨(one_cell ((h.block _ (blk_lt g1)).trans g1)).1, (one_cell ((h.block _ (blk_lt g2)).trans g2)).1⟩)
  have B2 := (show Hid (Below w.heap.size w w2) from b2)
  have BD := (show Hid (Below w2.heap.size w2 w2.drew) from below_drewN 1)
  have KB := (show Hid (∀ W, Below w2.heap.size w2 W → Below w.heap.size w W) from fun W h => B2.out.trans (h.mono B2.out.size))
  obtain ⟨e1, e2⟩ := KC.out w2 (Below.refl _ _)
  clear b2 g1 g2
  have hfld : ∀ (x : Option Addr) (y z : Nat) (W : World), (Instr.field 26 (.agg #[.slice x y z]) 0).run Tryz.prog W = .ok (.slice x y z) W := fun _ _ _ _ => by kernel_rfl
  go_enter Tryz.func16, Tryz.ntmps16
  go_wp2_with fail
  rw [← hw2]
  clear hw2
  go_region_with (first
    | (go_at_call 15
       with_reducible refine Calls.mono (C1.out w2.drew (KB.out _ BD.out)) ?_
       rintro e x1 ⟨rfl, b1⟩
       have X1 := (show Hid (Below w2.heap.size w2 x1) from BD.out.trans (b1.mono BD.out.size))
       obtain ⟨f1, f2⟩ := KC.out x1 X1.out
       clear b1)
    | (go_at_call 15
       with_reducible refine Calls.mono (C2.out x1 (KB.out _ X1.out)) ?_
       rintro e x2 ⟨rfl, b1⟩
       have X2 := (show Hid (Below w2.heap.size w2 x2) from X1.out.trans (b1.mono X1.out.size))
       obtain ⟨f3, f4⟩ := KC.out x2 X2.out
       clear b1)
    | (go_at_call 25
       with_reducible refine Calls.mono (T1.out x2 (KB.out _ X2.out)) ?_
       rintro e x3 ⟨v3, rfl, o3, b1⟩
       have X3 := (show Hid (Below w2.heap.size w2 x3) from X2.out.trans (b1.mono X2.out.size))
       obtain ⟨f5, f6⟩ := KC.out x3 X3.out
       have O3 := (show Hid (NodesAt x3 v3 (tidyN ns)) from o3.nodes)
       obtain ⟨r1, r2, r3, rfl⟩ : ∃ x y z, v3 = .slice x y z := by obtain ⟨_, _, h, _⟩ := o3; exact own_slice h
       clear b1 o3)
    | (go_at_call 25
       with_reducible refine Calls.mono (T2.out x3 (KB.out _ X3.out)) ?_
       rintro e x4 ⟨v4, rfl, o4, b1⟩
       have X4 := (show Hid (Below w2.heap.size w2 x4) from X3.out.trans (b1.mono X3.out.size))
       have O4 := (show Hid (NodesAt x4 v4 (tidyN ms)) from o4.nodes)
       have P4 := (show Hid (NodesAt x4 (.slice r1 r2 r3) (tidyN ns)) from O3.out.below b1)
       obtain ⟨s1, s2, s3, rfl⟩ : ∃ x y z, v4 = .slice x y z := by obtain ⟨_, _, h, _⟩ := o4; exact own_slice h
       clear b1 o4)
    | (go_at_call 62
       with_reducible refine Calls.mono (iequalFunc P4.out O4.out HFN.out HFM.out HLN.out) ?_
       rintro e x5 ⟨r, rfl, hr, b1⟩
       have X5 := (show Hid (Below w2.heap.size w2 x5) from X4.out.trans (b1.mono X4.out.size))
       have HR := (show Hid (r = true ↔ tidyN ns = tidyN ms) from hr)
       clear b1 hr))
  all_goals go_wp2
  all_goals go_ret
  all_goals exact ⟨_, rfl, HR.out, KB.out _ X5.out⟩
end Go.Proofs.YtogdbjafibejdaaGreat

/- The program's hang in an arena of its own. No condition. -/
namespace Go.Proofs.YtogdbjafibejdaaGreat
open Go.RowKit
set_option maxRecDepth 100000
set_option linter.unusedVariables false

theorem OwnQ.more {B : Nat} {w x : World} {g n cap : Nat} {qs : List (PNode × (Value × Value))} (h : OwnQ B w (.slice (some ⟨g, 0, none⟩) n cap) qs) (hA : Apart qs) {p : Nat} (hp : p < qs.length) (hg : w.grownBy x qs[p].2.2.ownBlock) {u : Value} {ks : List Int} (hu : Own B 3 .i64 x u ks) :
    OwnQ B (x.setCell ⟨g, p * 6 + 5, none⟩ u) (.slice (some ⟨g, 0, none⟩) n cap) (qs.set p (kidQ qs[p] ks u)) := by
  have hn := h.len
  subst hn
  have hty : ∀ r, qs[p].2.2.ownBlock = some r → ∃ cs fr, w.heap[r]? = some (.cells cs 3 fr) := fun r hr => by
    rcases (h.2 qs[p] (List.getElem_mem hp)).2.2 with ⟨e, _⟩ | ⟨g', cap', cur, e, _, hh, _⟩
    · rw [e] at hr; cases hr
    · rw [e] at hr; cases hr; exact ⟨_, _, hh⟩
  have hrow := kept_of_type h.1 hg (fun r e => by obtain ⟨cs, fr, hh⟩ := hty r e; exact ⟨cs, _, fr, hh, by decide⟩)
  have hst := World.ownsRow.stored hrow (p * 6 + 5) u
  rw [← nodeCells_set qs p hp (kidQ qs[p] ks u) 5 (by omega) u (by simp [kidQ, nodeRow])] at hst
  have hatt : ∀ q ∈ qs, x.ownsRow B 115 2 q.2.1 q.1.attrs.length (pairCells q.1.attrs) := fun q hq => kept_of_type (h.2 q hq).1 hg (fun r e => by obtain ⟨cs, fr, hh⟩ := hty r e; exact ⟨cs, _, fr, hh, by decide⟩)
  refine ⟨by rw [List.length_set]; exact hst.1, fun q hq => ?_⟩
  obtain ⟨j, hj, rfl⟩ := List.getElem_of_mem hq
  rw [List.length_set] at hj
  by_cases e : p = j
  · subst e
    rw [List.getElem_set_self]
    exact lists_kept (q := kidQ qs[p] ks u) hrow hst.2 ⟨hatt qs[p] (List.getElem_mem hp), hu⟩
  · rw [List.getElem_set_ne e]
    refine lists_kept hrow hst.2 ⟨hatt _ (List.getElem_mem hj), World.ownsRow.kept (h.2 qs[j] (List.getElem_mem hj)).2 hg ?_⟩
    cases hob : qs[j].2.2.ownBlock with
    | none => exact .inl rfl
    | some r => exact .inr (fun e2 => e (hA p j hp hj r e2.symm hob))

theorem OwnQ.rowCells {B : Nat} {w : World} {g n cap : Nat} {qs : List (PNode × (Value × Value))} (h : OwnQ B w (.slice (some ⟨g, 0, none⟩) n cap) qs) : ∃ cur, w.heap[g]? = some (.cells cur 36 (0, 0)) := by
  have hn := h.len
  subst hn
  rcases h.1.2 with ⟨e1, _⟩ | ⟨g', cap', cur, e1, _, hh', _⟩
  · cases e1
  · cases e1; exact ⟨_, hh'⟩
theorem take_kids {ns : List PNode} {c m : Nat} (h : ∀ n ∈ ns, n.kids.length ≤ m) : ∀ n ∈ takeN ns c, n.kids.length ≤ m := by
  have key : ∀ (l : List PNode) (k : Nat) (f : PNode → PNode), (∀ n, (f n).kids.length ≤ n.kids.length) → (∀ n ∈ l, n.kids.length ≤ m) → ∀ n ∈ l.modify k f, n.kids.length ≤ m := by
    intro l k f hf hl n hn
    obtain ⟨i, hi, rfl⟩ := List.getElem_of_mem hn
    rw [List.length_modify] at hi
    rw [List.getElem_modify]
    split
    · exact Nat.le_trans (hf _) (hl _ (List.getElem_mem hi))
    · exact hl _ (List.getElem_mem hi)
  unfold takeN cutN
  refine key _ _ _ (fun n => Nat.le_refl _) ?_
  split
  · exact h
  · exact key _ _ _ (fun n => lessL_len _ _) h
theorem hang_eq {qs qs2 : List (PNode × (Value × Value))} {c p : Nat} (hp : p < qs2.length) (h : qs2.map (fun q => q.1) = (takeN (qs.map (fun q => q.1)) c).modify c (fun n => setPar n (p : Int))) :
    ((takeN (qs.map (fun q => q.1)) c).modify c (fun n => setPar n (p : Int))).modify p (fun n => setKids n (qs2[p].1.kids ++ [(c : Int)])) = hangN (qs.map (fun q => q.1)) c p := by
  rw [← h]
  unfold hangN
  rw [← h]
  apply List.ext_getElem
  · simp
  · intro i h1 h2
    rw [List.getElem_modify, List.getElem_modify]
    by_cases e : p = i
    · subst e; simp
    · simp [e]

def MoreW (B g p : Nat) (v : Value) (qs : List (PNode × (Value × Value))) (ks : List Int) (W : World) (wx : World) : Prop :=
  ∃ qs', qs'.map (fun q => q.1) = (qs.map (fun q => q.1)).modify p (fun n => setKids n ks) ∧ OwnQ B wx v qs' ∧ Apart qs' ∧ TurnQ g qs W wx
theorem moreW_mk {B g n cap p : Nat} {W W1 x : World} {qs : List (PNode × (Value × Value))} (h : OwnQ B W (.slice (some ⟨g, 0, none⟩) n cap) qs) (hA : Apart qs) (hp : p < qs.length) (b1 : Below W.heap.size W W1) (hg : W1.grownBy x qs[p].2.2.ownBlock) {u : Value} {ks : List Int} (hu : Own B 3 .i64 x u ks)
    (hr : ∀ r, u.ownBlock = some r → qs[p].2.2.ownBlock = some r ∨ W1.heap.size ≤ r) : MoreW B g p (.slice (some ⟨g, 0, none⟩) n cap) qs ks W (x.setCell ⟨g, p * 6 + 5, none⟩ u) := by
  refine ⟨qs.set p (kidQ qs[p] ks u), ?_, (h.below b1).more hA hp hg hu, apart_kid hA hp (fun r e => ?_), ?_⟩
  · exact map_modify hp rfl
  · rcases hr r e with h1 | h1
    · exact .inl h1
    · refine .inr (fun q hq e2 => ?_)
      have := (Own.lt (h.2 q hq).2 r e2).2
      have := b1.size
      omega
  · have hs : x.grownBy (x.setCell ⟨g, p * 6 + 5, none⟩ u) (some g) := grown_setCell _ _ _ _
    refine ⟨hs.os.trans (hg.os.trans b1.os), hs.tape.trans (hg.tape.trans b1.tape), hs.output.trans (hg.output.trans b1.output), Nat.le_trans b1.size (Nat.le_trans hg.size hs.size), fun j hj hjg hq => ?_⟩
    have l1 := Nat.lt_of_lt_of_le hj b1.size
    rw [hs.block j (Nat.lt_of_lt_of_le l1 hg.size) (fun e => by injection e with e; exact hjg e), hg.block j l1 (fun e => hq qs[p] (List.getElem_mem hp) e.symm), b1.block j hj]

set_option maxHeartbeats 16000000 in
set_option maxRecDepth 100000 in
theorem ihang_any {B a g cap : Nat} {w : World} {qs : List (PNode × (Value × Value))} (ha : w.heap[a]? = some (.cells #[.slice (some ⟨g, 0, none⟩) qs.length cap] 77 (0, 0))) (hO : OwnQ B w (.slice (some ⟨g, 0, none⟩) qs.length cap) qs) (hA : Apart qs) (hB : B ≤ w.heap.size) (hlen : qs.length ≤ 100000) {c : Nat} (hc : c < qs.length) (hc0 : c ≠ 0)
    (hp : qs[c].1.parent = -1 ∨ ∃ p : Nat, qs[c].1.parent = p ∧ p < qs.length) (hkl : ∀ q ∈ qs, q.1.kids.length ≤ 1048576) {p : Nat} (hpl : p < qs.length) :
    Calls Tryz.prog 50 #[.pointer (some ⟨a, 0, none⟩), .int .i64 c, .int .i64 p] w fun e w' => e = .returned (.bool true) ∧ (∃ qs', qs'.map (fun q => q.1) = hangN (qs.map (fun q => q.1)) c p ∧ OwnQ B w' (.slice (some ⟨g, 0, none⟩) qs.length cap) qs' ∧ Apart qs') ∧ TurnQ g qs w w' := by
  obtain ⟨ii, hii, hzi0, hzi1, hzi2⟩ := info_parts Tryz.infoIntRow
  have hag : a ≠ g := fun e => by
    subst e
    rcases hO.1.2 with ⟨e1, _⟩ | ⟨g', cap', cur, e1, hB', hh, _⟩
    · cases e1
    · cases e1; rw [ha] at hh; cases hh
  have hgB : B ≤ g := (World.ownsRow.lt hO.1 g rfl).1
  have CT := (show Hid _ from itake_any ha hO hA hB hlen hc hc0 hp hkl)
  have HKL := (show Hid (∀ q ∈ qs, q.1.kids.length ≤ 1048576) from hkl)
  have hal := lt_of_block ha
  have HAA := (show Hid _ from ha)
  have HO := (show Hid (OwnQ B w (.slice (some ⟨g, 0, none⟩) qs.length cap) qs) from hO)
  clear ha hO hA hp hkl
  go_enter Tryz.func50, Tryz.ntmps50
  go_wp2_with fail
  go_at_call 65
  refine Calls.mono CT.out ?_
  rintro e w1 ⟨rfl, ⟨qs1, hm1, o1, a1, hq1⟩, g1⟩
  clear CT
  have ha1 : w1.heap[a]? = some (.cells #[.slice (some ⟨g, 0, none⟩) qs.length cap] 77 (0, 0)) := (g1.block a hal (fun e => by injection e with e; exact hag e)).trans HAA.out
  obtain ⟨cA1, _⟩ := one_cell ha1
  have hl1 : qs1.length = qs.length := by have := congrArg List.length hm1; simpa [takeN_len] using this
  have hc1 : c < qs1.length := by omega
  have hp1 : p < qs1.length := by omega
  have o2 := o1.par hc1 (p : Int)
  have a2 := apart_par a1 hc1 (p : Int)
  have hm2 := map_set_par qs1 hc1 (p : Int)
  have c4 : w1.cell? ⟨g, c * 6 + 4, none⟩ = some (.int .i64 qs1[c].1.parent) := o1.cellAt (j := 4) hc1 (by omega)
  have f4 := o1.frozenAt (c * 6 + 4)
  have hci : (c : Int) < (qs.length : Int) := by omega
  have hpi : (p : Int) < (qs.length : Int) := by omega
  have hkl1 : qs1[p].1.kids.length ≤ 1048576 := by
    have hmem : qs1[p].1 ∈ takeN (qs.map (fun q => q.1)) c := by rw [← hm1]; exact List.mem_map.mpr ⟨qs1[p], List.getElem_mem hp1, rfl⟩
    exact take_kids (fun n hn => by obtain ⟨q, hq, rfl⟩ := List.mem_map.mp hn; exact HKL.out q hq) _ hmem
  obtain ⟨qs2, hqs2⟩ : ∃ z, z = qs1.set c (parQ qs1[c] (p : Int)) := ⟨_, rfl⟩
  rw [← hqs2] at o2 a2 hm2
  have hl2 : qs2.length = qs.length := by rw [hqs2, List.length_set]; exact hl1
  have hp2 : p < qs2.length := by omega
  have hk2 : qs2[p].1.kids = qs1[p].1.kids ∧ qs2[p].2.2 = qs1[p].2.2 := by
    have : qs2[p] = if c = p then parQ qs1[c] (p : Int) else qs1[p] := by
      simp only [hqs2, List.getElem_set]
    rw [this]
    split
    · rename_i e; subst e; exact ⟨rfl, rfl⟩
    · exact ⟨rfl, rfl⟩
  rw [← hk2.1] at hkl1
  obtain ⟨W2, hW2⟩ : ∃ z, z = w1.setCell ⟨g, c * 6 + 4, none⟩ (.int .i64 (p : Int)) := ⟨_, rfl⟩
  have gr2 : w1.grownBy W2 (some g) := by rw [hW2]; exact grown_setCell _ _ _ _
  rw [← hW2] at o2
  have TQ := (show Hid (TurnQ g qs w W2) from TurnQ.of_row (grown_trans g1 gr2))
  have HQ2 := (show Hid (∀ q ∈ qs2, ∀ r, q.2.2.ownBlock = some r → (∃ q ∈ qs, q.2.2.ownBlock = some r) ∨ w.heap.size ≤ r) from fun q hq r e => by
    rw [hqs2] at hq
    rcases List.mem_or_eq_of_mem_set hq with hq | rfl
    · exact hq1 q hq r e
    · exact hq1 qs1[c] (List.getElem_mem hc1) r e)
  have HM2 := (show Hid (qs2.map (fun q => q.1) = (takeN (qs.map (fun q => q.1)) c).modify c (fun n => setPar n (p : Int))) from (show _ = _ by rw [hm2, hm1]))
  have ha2 : W2.heap[a]? = some (.cells #[.slice (some ⟨g, 0, none⟩) qs.length cap] 77 (0, 0)) := (gr2.block a (lt_of_block ha1) (fun e => by injection e with e; exact hag e)).trans ha1
  obtain ⟨cA2, _⟩ := one_cell ha2
  have hown := (o2.2 qs2[p] (List.getElem_mem hp2)).2
  have c5 : W2.cell? ⟨g, p * 6 + 5, none⟩ = some qs2[p].2.2 := o2.cellAt (j := 5) hp2 (by omega)
  obtain ⟨k1, k2, k3, hk⟩ := own_slice hown
  have O2 := (show Hid (OwnQ B W2 (.slice (some ⟨g, 0, none⟩) qs.length cap) qs2) from o2)
  have A2 := (show Hid (Apart qs2) from a2)
  have bd : Below W2.heap.size W2 (W2.alloc (.cells #[.int .i64 (c : Int)] 3)).drew := ((Below.refl _ W2).alloc (Nat.le_refl _) _).trans (below_drewN 1)
  have BD := (show Hid (Below W2.heap.size W2 (W2.alloc (.cells #[.int .i64 (c : Int)] 3)).drew) from bd)
  have OD := (show Hid (Own B 3 .i64 (W2.alloc (.cells #[.int .i64 (c : Int)] 3)).drew (.slice k1 k2 k3) qs2[p].1.kids) from by rw [← hk]; exact hown.below bd)
  have SD := (show Hid (Sl .i64 (W2.alloc (.cells #[.int .i64 (c : Int)] 3)).drew (.slice (some ⟨W2.heap.size, 0, none⟩) 1 1) [(c : Int)]) from (sl_one 3 .i64 W2 (c : Int)).below (below_drewN 1))
  rw [hk] at c5
  have HKE := (show Hid (qs2[p].2.2 = .slice k1 k2 k3) from hk)
  have hgl2 : g < W2.heap.size := (World.ownsRow.lt o2.1 g rfl).2
  have hal2 := lt_of_block ha2
  have hBW : B ≤ W2.heap.size := Nat.le_trans hB (Nat.le_trans g1.size gr2.size)
  have cAa : ∀ X, (W2.alloc X).cell? ⟨a, 0, none⟩ = some (.slice (some ⟨g, 0, none⟩) qs.length cap) := fun X => (((Below.refl _ W2).alloc (Nat.le_refl _) X).cell (p := ⟨a, 0, none⟩) hal2).trans cA2
  have c5a : ∀ X, (W2.alloc X).cell? ⟨g, p * 6 + 5, none⟩ = some (.slice k1 k2 k3) := fun X => (((Below.refl _ W2).alloc (Nat.le_refl _) X).cell (p := ⟨g, p * 6 + 5, none⟩) hgl2).trans c5
  obtain ⟨ks, hks⟩ : ∃ z, z = qs2[p].1.kids := ⟨_, rfl⟩
  rw [← hks] at OD hkl1
  have HKS := (show Hid (ks = qs2[p].1.kids) from hks)
  clear o2 hm1 hm2 a1 a2 hq1 g1 gr2 hown hk hks bd hqs2 hk2 o1
  go_wp2_with (go_at_call 74; refine Calls.mono (ihas_any cA1 (p : Int)) ?_; rintro e wx ⟨rfl, hx⟩; rw [hx, decide_eq_true ⟨by omega, by omega⟩]; clear hx wx)
  rw [← hW2]
  clear hW2 c4 f4 cA1 ha1
  go_cut [] from 7 (fun wx => MoreW B g p (.slice (some ⟨g, 0, none⟩) qs.length cap) qs2 (ks ++ [(c : Int)]) W2 wx)
  case first =>
    go_region_law (first
      | (with_reducible refine step_appU (w := (W2.alloc (Obj.cells #[.int .i64 (c : Int)] 3)).drew) ?_ (.tmp 37) (.tmp 39) 34 ?_ B 3 ii (.int .i64 0) 8 ?_ hii hzi0 hzi1 hzi2 ?_ .i64 (.slice k1 k2 k3) ks ⟨W2.heap.size, 0, none⟩ 1 [(c : Int)] ?_ ?_ ?_ ?_ ?_ ?_ ?_ ?_
         · rfl
         · rfl
         · exact Tryz.underlying34
         · rfl
         · simp [Act.eval]
         · simp [Act.eval]
         · exact OD.out
         · exact SD.out
         · (simp; omega)
         · (unfold maxLen; simp; omega)
         · exact Nat.le_trans hBW BD.out.size
         intro v9 w9 o9 g9 r9
         obtain ⟨u2, u3, u4, rfl⟩ := own_slice o9
         have M9 := (show Hid (MoreW B g p (.slice (some ⟨g, 0, none⟩) qs.length cap) qs2 (ks ++ [(c : Int)]) W2 (w9.setCell ⟨g, p * 6 + 5, none⟩ (.slice u2 u3 u4))) from moreW_mk O2.out A2.out hp2 BD.out (by rw [HKE.out]; exact g9) o9 (by rw [HKE.out]; exact r9))
         have t9 : w9.heap[g]? = (W2.alloc (Obj.cells #[.int .i64 (c : Int)] 3)).drew.heap[g]? ∧ w9.heap[a]? = (W2.alloc (Obj.cells #[.int .i64 (c : Int)] 3)).drew.heap[a]? := by
           have key : ∀ j, j < W2.heap.size → (∃ cs t fr, W2.heap[j]? = some (.cells cs t fr) ∧ t ≠ 3) → w9.heap[j]? = (W2.alloc (Obj.cells #[.int .i64 (c : Int)] 3)).drew.heap[j]? := fun j hj ⟨cs, t, fr, hh, ht⟩ => g9.block j (Nat.lt_of_lt_of_le hj BD.out.size) (fun e => by
             have ho := (O2.out.2 qs2[p] (List.getElem_mem hp2)).2
             rw [HKE.out] at ho
             rcases ho.2 with ⟨e1, _⟩ | ⟨g', cap', cur, e1, _, hh', _⟩
             · rw [e1] at e; cases e
             · rw [e1] at e
               simp only [Value.ownBlock, Option.some.injEq] at e
               subst e
               rw [hh] at hh'
               cases hh'
               exact ht rfl)
           obtain ⟨cur, hcur⟩ := OwnQ.rowCells O2.out
           exact ⟨key g hgl2 ⟨_, _, _, hcur, by decide⟩, key a hal2 ⟨_, _, _, ha2, by decide⟩⟩
         have l5 : w9.cell? ⟨g, p * 6 + 5, none⟩ = some (.slice k1 k2 k3) := by
           rw [← (BD.out.cell (p := ⟨g, p * 6 + 5, none⟩) hgl2).trans c5]; simp only [World.cell?, t9.1]
         have lA : w9.cell? ⟨a, 0, none⟩ = some (.slice (some ⟨g, 0, none⟩) qs.length cap) := by
           rw [← (BD.out.cell (p := ⟨a, 0, none⟩) hal2).trans cA2]; simp only [World.cell?, t9.2]
         have f5 : w9.frozen? ⟨g, p * 6 + 5, none⟩ = false := by
           have := OwnQ.frozenAt (O2.out.below BD.out) (p * 6 + 5)
           rw [← this]; simp only [World.frozen?, t9.1]
         clear o9 g9 r9 t9))
    all_goals
      go_wp2_with fail
      go_meet
      with_reducible exact M9.out
  case rest =>
    obtain ⟨qs3, h1, h2, h3, h4⟩ := hcut
    have HE := (show Hid (_ ∧ _) from ⟨(⟨qs3, by rw [h1, HM2.out, HKS.out]; exact hang_eq hp2 HM2.out, h2, h3⟩ : ∃ qs', qs'.map (fun q => q.1) = hangN (qs.map (fun q => q.1)) c p ∧ OwnQ B wc (.slice (some ⟨g, 0, none⟩) qs.length cap) qs' ∧ Apart qs'), TQ.out.trans h4 HQ2.out⟩)
    clear h1 h2 h3 h4
    go_wp2
    go_ret
    exact ⟨rfl, HE.out.1, HE.out.2⟩
end Go.Proofs.YtogdbjafibejdaaGreat

/- The program's change with the steps of TreeHang and TreeTake, from the step's contract (written by mk/ichange2.py). -/
namespace Go.Proofs.YtogdbjafibejdaaGreat
open Go.RowKit
set_option maxRecDepth 100000
set_option linter.unusedVariables false

structure OpFr (B a : Nat) (w w' : World) : Prop where
  os : w'.os = w.os
  tape : w'.tape = w.tape
  output : w'.output = w.output
  size : w.heap.size ≤ w'.heap.size
  block : ∀ j, j < w.heap.size → j ≠ a → (j < B ∨ ∀ cs t fr, w.heap[j]? = some (.cells cs t fr) → t ≠ 36 ∧ t ≠ 3) → w'.heap[j]? = w.heap[j]?
theorem OpFr.box {B a : Nat} {w w' : World} (h : OpFr B a w w') {j : Nat} {cs : Array Value} {t : TypeId} {fr : Nat × Nat} (hj : w.heap[j]? = some (.cells cs t fr)) (ht : t ≠ 36) (ht2 : t ≠ 3) (hne : j ≠ a) : w'.heap[j]? = some (.cells cs t fr) :=
  (h.block j (lt_of_block hj) hne (.inr (fun cs' t' fr' e => by rw [hj] at e; cases e; exact ⟨ht, ht2⟩))).trans hj
theorem OpFr.below {B a N : Nat} {w w' : World} (h : OpFr B a w w') (hN : N ≤ B) (ha : N ≤ a) (hB : N ≤ w.heap.size) : Below N w w' := ⟨h.os, h.tape, h.output, h.size, fun j hj => h.block j (by omega) (by omega) (.inl (by omega))⟩
theorem OpFr.of_below {B a : Nat} {w w' : World} (h : Below w.heap.size w w') : OpFr B a w w' := ⟨h.os, h.tape, h.output, h.size, fun j hj _ _ => h.block j hj⟩
theorem OpFr.of_turn {B a g n cap : Nat} {qs : List (PNode × (Value × Value))} {w w' : World} (h : TurnQ g qs w w') (ho : OwnQ B w (.slice (some ⟨g, 0, none⟩) n cap) qs) : OpFr B a w w' := ⟨h.os, h.tape, h.output, h.size, fun j hj _ hh => h.other (v := .nilFunc) ho hj hh⟩
theorem OpFr.trans {B a : Nat} {w w1 w2 : World} (h : OpFr B a w w1) (k : OpFr B a w1 w2) : OpFr B a w w2 :=
  ⟨k.os.trans h.os, k.tape.trans h.tape, k.output.trans h.output, Nat.le_trans h.size k.size, fun j hj hja hb => by
    have e := h.block j hj hja hb
    refine (k.block j (Nat.lt_of_lt_of_le hj h.size) hja ?_).trans e
    rcases hb with hb | hb
    · exact .inl hb
    · exact .inr (by rw [e]; exact hb)⟩
theorem OpFr.put {B a r : Nat} {w w1 w2 : World} (h : OpFr B a w w1) (g : w1.grownBy w2 (some r)) (hr : r = a ∨ w.heap.size ≤ r) : OpFr B a w w2 :=
  ⟨g.os.trans h.os, g.tape.trans h.tape, g.output.trans h.output, Nat.le_trans h.size g.size, fun j hj hja hb => (g.block j (Nat.lt_of_lt_of_le hj h.size) (fun e => by injection e with e; omega)).trans (h.block j hj hja hb)⟩
end Go.Proofs.YtogdbjafibejdaaGreat
