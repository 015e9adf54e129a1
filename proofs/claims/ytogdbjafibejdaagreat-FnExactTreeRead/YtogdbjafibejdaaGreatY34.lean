/- The program's arenaOf, change (with the step of TreeAdd) and TreeAdd of a tree that is right. No condition. -/
import Derived.Test.YtogdbjafibejdaaGreatY33
import Derived.Defers
import Derived.Test.YtogdbjafibejdaaGreatY10
import Derived.Test.YtogdbjafibejdaaGreatY28
import Derived.Test.YtogdbjafibejdaaGreatY26
import Derived.Test.YtogdbjafibejdaaGreatY4
import Derived.Test.YtogdbjafibejdaaGreatY6
import Derived.Test.YtogdbjafibejdaaGreatY32
import Derived.Test.YtogdbjafibejdaaGreatY30
namespace Go.Proofs.YtogdbjafibejdaaGreat
open Go.RowKit
set_option maxRecDepth 100000
set_option linter.unusedVariables false

theorem OwnN.form {B : Nat} {w : World} {v : Value} {ns : List PNode} (h : OwnN B w v ns) (h0 : 0 < ns.length) : ∃ g cap, v = .slice (some ⟨g, 0, none⟩) ns.length cap ∧ B ≤ g ∧ g < w.heap.size := by
  obtain ⟨qs, h1, h2, h3⟩ := h
  exact one_form h2 h0
theorem one_cell {w : World} {b : Nat} {u : Value} {t : TypeId} (h : w.heap[b]? = some (.cells #[u] t (0, 0))) : w.cell? ⟨b, 0, none⟩ = some u ∧ w.frozen? ⟨b, 0, none⟩ = false := ⟨by simp only [World.cell?, h]; rfl, by simp only [World.frozen?, h]; rfl⟩

structure AddFrK (B a K : Nat) (w w' : World) : Prop where
  os : w'.os = w.os
  tape : w'.tape = w.tape
  output : w'.output = w.output
  size : w.heap.size ≤ w'.heap.size
  block : ∀ j, j < w.heap.size → j ≠ a → j ≠ K → (j < B ∨ ∃ cs t fr, w.heap[j]? = some (.cells cs t fr) ∧ t ≠ 36) → w'.heap[j]? = w.heap[j]?
theorem AddFrK.box {B a K : Nat} {w w' : World} (h : AddFrK B a K w w') {j : Nat} {cs : Array Value} {t : TypeId} {fr : Nat × Nat} (hj : w.heap[j]? = some (.cells cs t fr)) (ht : t ≠ 36) (hne : j ≠ a) (hnk : j ≠ K) : w'.heap[j]? = some (.cells cs t fr) := (h.block j (lt_of_block hj) hne hnk (.inr ⟨_, _, _, hj, ht⟩)).trans hj
theorem AddFrK.below {B a K N : Nat} {w w' : World} (h : AddFrK B a K w w') (hN : N ≤ B) (ha : N ≤ a) (hK : N ≤ K) (hB : N ≤ w.heap.size) : Below N w w' := ⟨h.os, h.tape, h.output, h.size, fun j hj => h.block j (by omega) (by omega) (by omega) (.inl (by omega))⟩
theorem AddFr.put {B a K : Nat} {w w' w'' : World} (h : AddFr B a w w') (g : w'.grownBy w'' (some K)) : AddFrK B a K w w'' :=
  ⟨g.os.trans h.os, g.tape.trans h.tape, g.output.trans h.output, Nat.le_trans h.size g.size, fun j hj h1 h2 h3 => (g.block j (Nat.lt_of_lt_of_le hj h.size) (fun e => by injection e with e; exact h2 e)).trans (h.block j hj h1 (by
    rcases h3 with h3 | ⟨cs, t, fr, h4, h5⟩
    · exact .inl h3
    · exact .inr (fun cs' t' fr' e => by rw [h4] at e; cases e; exact h5)))⟩

theorem OwnQ.form {B : Nat} {w : World} {v : Value} {qs : List (PNode × (Value × Value))} (h : OwnQ B w v qs) (h0 : 0 < qs.length) : ∃ g cap, v = .slice (some ⟨g, 0, none⟩) qs.length cap ∧ B ≤ g ∧ g < w.heap.size := one_form h.1 h0

end Go.Proofs.YtogdbjafibejdaaGreat

/- The laws' helper that weighs a tree: its nodes, the tree. No condition. -/
namespace Go.Proofs.YtogdbjafibejdaaGreat
open Go.RowKit
set_option maxRecDepth 100000
set_option linter.unusedVariables false

def wtS (ns : List PNode) : Nat := (ns.map wtN).sum
theorem wtS_take {ns : List PNode} {k : Nat} (h : k < ns.length) : wtS (ns.take (k + 1)) = wtS (ns.take k) + wtN ns[k] := by
  unfold wtS
  rw [List.take_succ_eq_append_getElem h, List.map_append, List.sum_append]
  simp
theorem SzN.mono {l l' : Int} {n : PNode} (h : SzN l n) (hl : l ≤ l') : SzN l' n := ⟨by have := h.nm; omega, by have := h.tx; omega, by have := h.rs; omega, fun p hp => by have := h.each p hp; omega, by have := h.kl; omega⟩

end Go.Proofs.YtogdbjafibejdaaGreat

/- The program's take and hang in an arena of its own. No condition. -/
namespace Go.Proofs.YtogdbjafibejdaaGreat
open Go.RowKit
set_option maxRecDepth 100000
set_option linter.unusedVariables false

theorem map_set_par (qs : List (PNode × (Value × Value))) {c : Nat} (hc : c < qs.length) (x : Int) : (qs.set c (parQ qs[c] x)).map (fun q => q.1) = (qs.map (fun q => q.1)).modify c (fun n => setPar n x) := map_modify hc rfl
theorem map_set_kid (qs : List (PNode × (Value × Value))) {c : Nat} (hc : c < qs.length) (f : List Int → List Int) (u : Value) : (qs.set c (kidQ qs[c] (f qs[c].1.kids) u)).map (fun q => q.1) = (qs.map (fun q => q.1)).modify c (fun n => setKids n (f n.kids)) := map_modify hc rfl

def TakeW (w : World) (g p : Nat) (ks : List Int) (wx : World) : Prop := ∃ x1 u, wx = World.setCell x1 ⟨g, p * 6 + 5, none⟩ u ∧ Below w.heap.size w x1 ∧ Own w.heap.size 3 .i64 x1 u ks

theorem takeW_mk {w x1 : World} {g p : Nat} {ks : List Int} {u : Value} (b : Below w.heap.size w x1) (o : Own w.heap.size 3 .i64 x1 u ks) : TakeW w g p ks (x1.setCell ⟨g, p * 6 + 5, none⟩ u) := ⟨x1, u, rfl, b, o⟩

set_option maxHeartbeats 16000000 in
set_option maxRecDepth 100000 in
theorem itake_any {B a g cap : Nat} {w : World} {qs : List (PNode × (Value × Value))} (ha : w.heap[a]? = some (.cells #[.slice (some ⟨g, 0, none⟩) qs.length cap] 77 (0, 0))) (hO : OwnQ B w (.slice (some ⟨g, 0, none⟩) qs.length cap) qs) (hA : Apart qs) (hB : B ≤ w.heap.size) (hlen : qs.length ≤ 100000) {c : Nat} (hc : c < qs.length) (hc0 : c ≠ 0)
    (hp : qs[c].1.parent = -1 ∨ ∃ p : Nat, qs[c].1.parent = p ∧ p < qs.length) (hkl : ∀ q ∈ qs, q.1.kids.length ≤ 1048576) :
    Calls Tryz.prog 65 #[.pointer (some ⟨a, 0, none⟩), .int .i64 c] w fun e w' => e = .returned (.bool true) ∧ (∃ qs', qs'.map (fun q => q.1) = takeN (qs.map (fun q => q.1)) c ∧ OwnQ B w' (.slice (some ⟨g, 0, none⟩) qs.length cap) qs' ∧ Apart qs' ∧ (∀ p ∈ qs', ∀ r, p.2.2.ownBlock = some r → (∃ q ∈ qs, q.2.2.ownBlock = some r) ∨ w.heap.size ≤ r)) ∧ w.grownBy w' (some g) := by
  obtain ⟨cA, _⟩ := one_cell ha
  have hag : a ≠ g := fun e => by
    subst e
    rcases hO.1.2 with ⟨e1, _⟩ | ⟨g', cap', cur, e1, hB', hh, _⟩
    · cases e1
    · cases e1; rw [ha] at hh; cases hh
  have HO := (show Hid (OwnQ B w (.slice (some ⟨g, 0, none⟩) qs.length cap) qs) from hO)
  have HA := (show Hid (Apart qs) from hA)
  have c4 := hO.cellAt (c := c) (j := 4) hc (by omega)
  have f4 := hO.frozenAt (c * 6 + 4)
  have c4' : w.cell? ⟨g, c * 6 + 4, none⟩ = some (.int .i64 qs[c].1.parent) := c4
  clear c4 hO hA
  go_enter Tryz.func65, Tryz.ntmps65
  go_wp2_with fail
  go_at_call 74
  refine Calls.mono (ihas_any cA (c : Int)) ?_
  rintro e wx ⟨rfl, hx⟩
  rw [hx, decide_eq_true ⟨by omega, by omega⟩]
  clear hx wx
  rcases hp with hp | ⟨p, hp, hpl⟩
  · rw [hp] at c4'
    have hP := OwnQ.par HO.out hc (-1)
    have HM := (show Hid _ from map_set_par qs hc (-1))
    have hcut : cutN (qs.map (fun q => q.1)) c = qs.map (fun q => q.1) := by
      rw [cutN, if_pos (by rw [parOf_at (by simpa using hc)]; simpa using hp)]
    have HT := (show Hid ((qs.set c (parQ qs[c] (-1))).map (fun q => q.1) = takeN (qs.map (fun q => q.1)) c) from (show _ = _ by rw [takeN, hcut]; exact HM.out))
    have HP := (show Hid _ from hP)
    have HAP := (show Hid _ from apart_par HA.out hc (-1))
    clear hcut HM hP
    go_wp2
    go_ret
    refine ⟨rfl, ⟨_, HT.out, HP.out, HAP.out, fun q hq r e => .inl ?_⟩, grown_setCell _ _ _ _⟩
    rcases List.mem_or_eq_of_mem_set hq with hq | rfl
    · exact ⟨q, hq, e⟩
    · exact ⟨qs[c], List.getElem_mem hc, e⟩
  · rw [hp] at c4'
    have c5 := OwnQ.cellAt HO.out (c := p) (j := 5) hpl (by omega)
    have c5' : w.cell? ⟨g, p * 6 + 5, none⟩ = some qs[p].2.2 := c5
    have hown := (HO.out.2 qs[p] (List.getElem_mem hpl)).2
    have HKV := (show Hid (Sl .i64 w qs[p].2.2 qs[p].1.kids) from hown.sl)
    obtain ⟨k1, k2, k3, hk⟩ := own_slice hown
    have hkp := hkl qs[p] (List.getElem_mem hpl)
    rw [hk] at c5' HKV
    have HKE := (show Hid (qs[p].2.2 = .slice k1 k2 k3) from hk)
    have CL := (show Hid (∀ w', Below w.heap.size w w' → Calls Tryz.prog 116 #[.slice k1 k2 k3, .int .i64 (c : Int)] w' fun e w'' => ∃ v', e = .returned v' ∧ Own w'.heap.size 3 .i64 w'' v' (lessL (c : Int) qs[p].1.kids) ∧ Below w'.heap.size w' w'') from fun w' hb => iless_any (c : Int) (HKV.out.below hb) hkp)
    have bd : Below w.heap.size w w.drew := below_drewN 1
    have hgl : g < w.heap.size := (World.ownsRow.lt HO.out.1 g rfl).2
    have hal := lt_of_block ha
    have BD := (show Hid (Below w.heap.size w w.drew) from bd)
    have hpi : (p : Int) < (qs.length : Int) := by omega
    have hci : (c : Int) < (qs.length : Int) := by omega
    clear hk hown HKV hkp c5
    go_wp2_with fail
    go_cut [] from 6 (fun wx => TakeW w g p (lessL (c : Int) qs[p].1.kids) wx)
    case first =>
      go_region_law (first
        | (go_simp
           go_at_call 116
           with_reducible refine Calls.mono (CL.out w.drew BD.out) ?_
           rintro e x1 ⟨u1, rfl, o1, b1⟩
           have B1 := (show Hid (Below w.heap.size w x1) from BD.out.trans (b1.mono BD.out.size))
           obtain ⟨u2, u3, u4, rfl⟩ := own_slice o1
           have f5 : x1.frozen? ⟨g, p * 6 + 5, none⟩ = false := OwnQ.frozenAt (HO.out.below B1.out) _
           have d5 : x1.cell? ⟨g, p * 6 + 5, none⟩ = some (.slice k1 k2 k3) := (B1.out.cell (p := ⟨g, p * 6 + 5, none⟩) hgl).trans c5'
           have d4 : x1.cell? ⟨g, c * 6 + 4, none⟩ = some (.int .i64 (p : Int)) := (B1.out.cell (p := ⟨g, c * 6 + 4, none⟩) hgl).trans c4'
           have dA : x1.cell? ⟨a, 0, none⟩ = some (.slice (some ⟨g, 0, none⟩) qs.length cap) := (B1.out.cell (p := ⟨a, 0, none⟩) hal).trans cA
           have O1 := (show Hid (Own w.heap.size 3 .i64 x1 (.slice u2 u3 u4) (lessL (c : Int) qs[p].1.kids)) from o1.base BD.out.size)
           clear o1 b1))
      all_goals
        go_wp2_with fail
        go_meet
        with_reducible exact takeW_mk B1.out O1.out
    case rest =>
      obtain ⟨x1, u, hwc, b1, o1⟩ := hcut
      have O1 := HO.out.below b1
      have OK := O1.kid hpl (o1.base hB)
      rw [← hwc] at OK
      have AK := apart_kid HA.out hpl (ks := lessL (c : Int) qs[p].1.kids) (u := u) (fun r hr => .inr (fun q hq e => by
        have h1 := (Own.lt o1 r hr).1
        have h2 := (Own.lt (HO.out.2 q hq).2 r e).2
        omega))
      obtain ⟨qs1, hqs1⟩ : ∃ z, z = qs.set p (kidQ qs[p] (lessL (c : Int) qs[p].1.kids) u) := ⟨_, rfl⟩
      have hm1 := map_set_kid qs hpl (lessL (c : Int)) u
      rw [← hqs1] at OK AK hm1
      have hc1 : c < qs1.length := by rw [hqs1, List.length_set]; exact hc
      have hl1 : qs1.length = qs.length := by rw [hqs1, List.length_set]
      have OP := OK.par hc1 (-1)
      have AP := apart_par AK hc1 (-1)
      have hm2 := map_set_par qs1 hc1 (-1)
      have hq1 : ∀ q ∈ qs1, ∀ r, q.2.2.ownBlock = some r → (∃ q ∈ qs, q.2.2.ownBlock = some r) ∨ w.heap.size ≤ r := by
        intro q hq r e
        rw [hqs1] at hq
        rcases List.mem_or_eq_of_mem_set hq with hq | rfl
        · exact .inl ⟨q, hq, e⟩
        · exact .inr (Own.lt o1 r e).1
      have hpar : parOf (qs.map (fun q => q.1)) c = (p : Int) := by rw [parOf_at (by simpa using hc)]; simpa using hp
      have HT := (show Hid ((qs1.set c (parQ qs1[c] (-1))).map (fun q => q.1) = takeN (qs.map (fun q => q.1)) c) from (show _ = _ by
        rw [hm2, hm1, takeN, cutN, hpar, if_neg (by omega)]
        simp))
      have HOP := (show Hid (OwnQ B (wc.setCell ⟨g, c * 6 + 4, none⟩ (.int .i64 (-1))) (.slice (some ⟨g, 0, none⟩) qs.length cap) (qs1.set c (parQ qs1[c] (-1)))) from OP)
      have c9 : wc.cell? ⟨g, c * 6 + 4, none⟩ = some (.int .i64 qs1[c].1.parent) := OK.cellAt (j := 4) hc1 (by omega)
      have f9 := OK.frozenAt (c * 6 + 4)
      have HG := (show Hid (w.grownBy (wc.setCell ⟨g, c * 6 + 4, none⟩ (.int .i64 (-1))) (some g)) from (by
        rw [hwc]
        exact grown_trans (grown_trans (below_by g b1) (grown_setCell _ _ _ _)) (grown_setCell _ _ _ _)))
      have HAP := (show Hid (Apart (qs1.set c (parQ qs1[c] (-1)))) from AP)
      have HQ1 := (show Hid (∀ q ∈ qs1, ∀ r, q.2.2.ownBlock = some r → (∃ q ∈ qs, q.2.2.ownBlock = some r) ∨ w.heap.size ≤ r) from hq1)
      clear hm1 hm2 OP AP AK OK O1 o1 b1 hwc hq1 hpar hqs1
      go_wp2
      go_ret
      refine ⟨rfl, ⟨_, HT.out, HOP.out, HAP.out, fun q hq r e => ?_⟩, HG.out⟩
      rcases List.mem_or_eq_of_mem_set hq with hq | rfl
      · exact HQ1.out q hq r e
      · exact HQ1.out qs1[c] (List.getElem_mem hc1) r e
end Go.Proofs.YtogdbjafibejdaaGreat

/- The program's change with the step of TreeAdd, and TreeAdd of a tree that is right. No condition. -/
namespace Go.Proofs.YtogdbjafibejdaaGreat
open Go.RowKit
set_option maxRecDepth 100000
set_option linter.unusedVariables false

theorem AddFrK.from {B a K : Nat} {w w3 w4 : World} (b : Below w.heap.size w w3) (f : AddFrK B a K w3 w4) : AddFrK B a K w w4 :=
  ⟨f.os.trans b.os, f.tape.trans b.tape, f.output.trans b.output, Nat.le_trans b.size f.size, fun j hj h1 h2 h3 => (f.block j (Nat.lt_of_lt_of_le hj b.size) h1 h2 (by rcases h3 with h3 | ⟨cs, t, fr, h4, h5⟩; exact .inl h3; exact .inr ⟨cs, t, fr, (b.block j hj).trans h4, h5⟩)).trans (b.block j hj)⟩
theorem AddFrK.andThen {B a K : Nat} {w w4 w5 : World} (f : AddFrK B a K w w4) {row : Option Nat} (g : w4.grownBy w5 row) (hrow : ∀ r, row = some r → w.heap.size ≤ r ∨ r = a ∨ r = K) : AddFrK B a K w w5 :=
  ⟨g.os.trans f.os, g.tape.trans f.tape, g.output.trans f.output, Nat.le_trans f.size g.size, fun j hj h1 h2 h3 => (g.block j (Nat.lt_of_lt_of_le hj f.size) (fun e => by have := hrow j e.symm; omega)).trans (f.block j hj h1 h2 h3)⟩
end Go.Proofs.YtogdbjafibejdaaGreat

/- The program's TreeSame, from the contract of its TreeTidy. -/
namespace Go.Proofs.YtogdbjafibejdaaGreat
open Go.RowKit
set_option maxRecDepth 100000
set_option linter.unusedVariables false
end Go.Proofs.YtogdbjafibejdaaGreat
