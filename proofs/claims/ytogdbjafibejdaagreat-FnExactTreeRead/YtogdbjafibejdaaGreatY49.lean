/- The program's arena where it lies in a treeReader: has, take (written by mk/iart.py, turned by hand: what attributes hang on a node stays). No condition. -/
import Derived.Test.YtogdbjafibejdaaGreatY34
import Derived.Test.YtogdbjafibejdaaGreatY47
namespace Go.Proofs.YtogdbjafibejdaaGreat
open Go.RowKit
set_option maxRecDepth 100000
set_option linter.unusedVariables false

theorem oneT_cell {w : World} {b : Nat} {c0 c1 c2 u c4 : Value} {t : TypeId} (h : w.heap[b]? = some (.cells #[c0, c1, c2, u, c4] t (0, 0))) : w.cell? ⟨b, 3, none⟩ = some u ∧ w.frozen? ⟨b, 3, none⟩ = false :=
  ⟨by simp only [World.cell?, h]; rfl, by simp only [World.frozen?, h]; rfl⟩
def SameA (qs qs' : List (PNode × (Value × Value))) : Prop := qs'.map (fun q => q.2.1) = qs.map (fun q => q.2.1)
theorem SameA.set {qs qs' : List (PNode × (Value × Value))} (h : SameA qs qs') {c : Nat} (hc : c < qs'.length) {q : PNode × (Value × Value)} (hq : q.2.1 = qs'[c].2.1) : SameA qs (qs'.set c q) := by
  unfold SameA at h ⊢
  rw [← h, List.map_set, hq]
  apply List.ext_getElem?
  intro i
  by_cases e : c = i
  · subst e
    rw [List.getElem?_set_self (by simpa using hc)]
    simp [hc]
  · rw [List.getElem?_set_ne e]
theorem SameA.at {qs qs' : List (PNode × (Value × Value))} (h : SameA qs qs') {i : Nat} (hi : i < qs'.length) (hi' : i < qs.length) : qs'[i].2.1 = qs[i].2.1 := by
  have e : (qs'.map (fun q => q.2.1))[i]? = (qs.map (fun q => q.2.1))[i]? := by rw [show qs'.map (fun q => q.2.1) = qs.map (fun q => q.2.1) from h]
  simpa [hi, hi'] using e
theorem ihasT_any {w : World} {A len cap : Nat} {a : Option Addr} (cA : w.cell? ⟨A, 3, none⟩ = some (.slice a len cap)) (x : Int) :
    Calls Tryz.prog 74 #[.pointer (some ⟨A, 3, none⟩), .int .i64 x] w fun e w' => e = .returned (.bool (decide (0 ≤ x ∧ x < len))) ∧ w' = w := by
  by_cases h0 : 0 ≤ x
  · by_cases h1 : x < len
    · rw [decide_eq_true ⟨h0, h1⟩]
      go_enter Tryz.func74, Tryz.ntmps74
      go_wp2
      go_ret
      exact ⟨rfl, rfl⟩
    · rw [decide_eq_false (fun h => h1 h.2)]
      go_enter Tryz.func74, Tryz.ntmps74
      go_wp2
      go_ret
      exact ⟨rfl, rfl⟩
  · rw [decide_eq_false (fun h => h0 h.1)]
    go_enter Tryz.func74, Tryz.ntmps74
    go_wp2
    go_ret
    exact ⟨rfl, rfl⟩

set_option maxHeartbeats 16000000 in
set_option maxRecDepth 100000 in
theorem itakeT_any {B a g cap : Nat} {tr0 tr1 tr2 tr4 : Value} {w : World} {qs : List (PNode × (Value × Value))} (ha : w.heap[a]? = some (.cells #[tr0, tr1, tr2, .slice (some ⟨g, 0, none⟩) qs.length cap, tr4] 120 (0, 0))) (hO : OwnQ B w (.slice (some ⟨g, 0, none⟩) qs.length cap) qs) (hA : Apart qs) (hB : B ≤ w.heap.size) (hlen : qs.length ≤ 100000) {c : Nat} (hc : c < qs.length) (hc0 : c ≠ 0)
    (hp : qs[c].1.parent = -1 ∨ ∃ p : Nat, qs[c].1.parent = p ∧ p < qs.length) (hkl : ∀ q ∈ qs, q.1.kids.length ≤ 1048576) :
    Calls Tryz.prog 65 #[.pointer (some ⟨a, 3, none⟩), .int .i64 c] w fun e w' => e = .returned (.bool true) ∧ (∃ qs', qs'.map (fun q => q.1) = takeN (qs.map (fun q => q.1)) c ∧ OwnQ B w' (.slice (some ⟨g, 0, none⟩) qs.length cap) qs' ∧ Apart qs' ∧ SameA qs qs' ∧ (∀ p ∈ qs', ∀ r, p.2.2.ownBlock = some r → (∃ q ∈ qs, q.2.2.ownBlock = some r) ∨ w.heap.size ≤ r)) ∧ w.grownBy w' (some g) := by
  obtain ⟨cA, _⟩ := oneT_cell ha
  have hag : a ≠ g := fun e => by
    subst e
    rcases hO.1.2 with ⟨e1, _⟩ | ⟨g', cap', cur, e1, hB', hh, _⟩
    · cases e1
    · cases e1; rw [ha] at hh; cases hh
  have HO := (show Hid (OwnQ B w (.slice (some ⟨g, 0, none⟩) qs.length cap) qs) from hO)
  have HA := (show Hid (Apart qs) from hA)
  have c4 := hO.cellAt (c := c) (j := 4) hc (by omega)
  have f4 := hO.frozenAt (c * 6 + 4)
  have c4' : w.cell? ⟨g, c * 6 + 4, none⟩ = some (.int .i64 qs[c].1.parent) := c4
  clear c4 hO hA
  go_enter Tryz.func65, Tryz.ntmps65
  go_wp2_with fail
  go_at_call 74
  refine Calls.mono (ihasT_any cA (c : Int)) ?_
  rintro e wx ⟨rfl, hx⟩
  rw [hx, decide_eq_true ⟨by omega, by omega⟩]
  clear hx wx
  rcases hp with hp | ⟨p, hp, hpl⟩
  · rw [hp] at c4'
    have hP := OwnQ.par HO.out hc (-1)
    have HM := (show Hid _ from map_set_par qs hc (-1))
    have hcut : cutN (qs.map (fun q => q.1)) c = qs.map (fun q => q.1) := by
      rw [cutN, if_pos (by rw [parOf_at (by simpa using hc)]; simpa using hp)]
    have HT := (show Hid ((qs.set c (parQ qs[c] (-1))).map (fun q => q.1) = takeN (qs.map (fun q => q.1)) c) from (show _ = _ by rw [takeN, hcut]; exact HM.out))
    have HP := (show Hid _ from hP)
    have HAP := (show Hid _ from apart_par HA.out hc (-1))
    clear hcut HM hP
    go_wp2
    go_ret
    refine ⟨rfl, ⟨_, HT.out, HP.out, HAP.out, SameA.set (show SameA qs qs from rfl) hc rfl, fun q hq r e => .inl ?_⟩, grown_setCell _ _ _ _⟩
    rcases List.mem_or_eq_of_mem_set hq with hq | rfl
    · exact ⟨q, hq, e⟩
    · exact ⟨qs[c], List.getElem_mem hc, e⟩
  · rw [hp] at c4'
    have c5 := OwnQ.cellAt HO.out (c := p) (j := 5) hpl (by omega)
    have c5' : w.cell? ⟨g, p * 6 + 5, none⟩ = some qs[p].2.2 := c5
    have hown := (HO.out.2 qs[p] (List.getElem_mem hpl)).2
    have HKV := (show Hid (Sl .i64 w qs[p].2.2 qs[p].1.kids) from hown.sl)
    obtain ⟨k1, k2, k3, hk⟩ := own_slice hown
    have hkp := hkl qs[p] (List.getElem_mem hpl)
    rw [hk] at c5' HKV
    have HKE := (show Hid (qs[p].2.2 = .slice k1 k2 k3) from hk)
    have CL := (show Hid (∀ w', Below w.heap.size w w' → Calls Tryz.prog 116 #[.slice k1 k2 k3, .int .i64 (c : Int)] w' fun e w'' => ∃ v', e = .returned v' ∧ Own w'.heap.size 3 .i64 w'' v' (lessL (c : Int) qs[p].1.kids) ∧ Below w'.heap.size w' w'') from fun w' hb => iless_any (c : Int) (HKV.out.below hb) hkp)
    have bd : Below w.heap.size w w.drew := below_drewN 1
    have hgl : g < w.heap.size := (World.ownsRow.lt HO.out.1 g rfl).2
    have hal := lt_of_block ha
    have BD := (show Hid (Below w.heap.size w w.drew) from bd)
    have hpi : (p : Int) < (qs.length : Int) := by omega
    have hci : (c : Int) < (qs.length : Int) := by omega
    clear hk hown HKV hkp c5
    go_wp2_with fail
    go_cut [] from 6 (fun wx => TakeW w g p (lessL (c : Int) qs[p].1.kids) wx)
    case first =>
      go_region_law (first
        | (go_simp
           go_at_call 116
           with_reducible refine Calls.mono (CL.out w.drew BD.out) ?_
           rintro e x1 ⟨u1, rfl, o1, b1⟩
           have B1 := (show Hid (Below w.heap.size w x1) from BD.out.trans (b1.mono BD.out.size))
           obtain ⟨u2, u3, u4, rfl⟩ := own_slice o1
           have f5 : x1.frozen? ⟨g, p * 6 + 5, none⟩ = false := OwnQ.frozenAt (HO.out.below B1.out) _
           have d5 : x1.cell? ⟨g, p * 6 + 5, none⟩ = some (.slice k1 k2 k3) := (B1.out.cell (p := ⟨g, p * 6 + 5, none⟩) hgl).trans c5'
           have d4 : x1.cell? ⟨g, c * 6 + 4, none⟩ = some (.int .i64 (p : Int)) := (B1.out.cell (p := ⟨g, c * 6 + 4, none⟩) hgl).trans c4'
           have dA : x1.cell? ⟨a, 3, none⟩ = some (.slice (some ⟨g, 0, none⟩) qs.length cap) := (B1.out.cell (p := ⟨a, 3, none⟩) hal).trans cA
           have O1 := (show Hid (Own w.heap.size 3 .i64 x1 (.slice u2 u3 u4) (lessL (c : Int) qs[p].1.kids)) from o1.base BD.out.size)
           clear o1 b1))
      all_goals
        go_wp2_with fail
        go_meet
        with_reducible exact takeW_mk B1.out O1.out
    case rest =>
      obtain ⟨x1, u, hwc, b1, o1⟩ := hcut
      have O1 := HO.out.below b1
      have OK := O1.kid hpl (o1.base hB)
      rw [← hwc] at OK
      have AK := apart_kid HA.out hpl (ks := lessL (c : Int) qs[p].1.kids) (u := u) (fun r hr => .inr (fun q hq e => by
        have h1 := (Own.lt o1 r hr).1
        have h2 := (Own.lt (HO.out.2 q hq).2 r e).2
        omega))
      obtain ⟨qs1, hqs1⟩ : ∃ z, z = qs.set p (kidQ qs[p] (lessL (c : Int) qs[p].1.kids) u) := ⟨_, rfl⟩
      have hm1 := map_set_kid qs hpl (lessL (c : Int)) u
      rw [← hqs1] at OK AK hm1
      have hc1 : c < qs1.length := by rw [hqs1, List.length_set]; exact hc
      have hl1 : qs1.length = qs.length := by rw [hqs1, List.length_set]
      have OP := OK.par hc1 (-1)
      have AP := apart_par AK hc1 (-1)
      have hm2 := map_set_par qs1 hc1 (-1)
      have hq1 : ∀ q ∈ qs1, ∀ r, q.2.2.ownBlock = some r → (∃ q ∈ qs, q.2.2.ownBlock = some r) ∨ w.heap.size ≤ r := by
        intro q hq r e
        rw [hqs1] at hq
        rcases List.mem_or_eq_of_mem_set hq with hq | rfl
        · exact .inl ⟨q, hq, e⟩
        · exact .inr (Own.lt o1 r e).1
      have hpar : parOf (qs.map (fun q => q.1)) c = (p : Int) := by rw [parOf_at (by simpa using hc)]; simpa using hp
      have HT := (show Hid ((qs1.set c (parQ qs1[c] (-1))).map (fun q => q.1) = takeN (qs.map (fun q => q.1)) c) from (show _ = _ by
        rw [hm2, hm1, takeN, cutN, hpar, if_neg (by omega)]
        simp))
      have HOP := (show Hid (OwnQ B (wc.setCell ⟨g, c * 6 + 4, none⟩ (.int .i64 (-1))) (.slice (some ⟨g, 0, none⟩) qs.length cap) (qs1.set c (parQ qs1[c] (-1)))) from OP)
      have c9 : wc.cell? ⟨g, c * 6 + 4, none⟩ = some (.int .i64 qs1[c].1.parent) := OK.cellAt (j := 4) hc1 (by omega)
      have f9 := OK.frozenAt (c * 6 + 4)
      have HG := (show Hid (w.grownBy (wc.setCell ⟨g, c * 6 + 4, none⟩ (.int .i64 (-1))) (some g)) from (by
        rw [hwc]
        exact grown_trans (grown_trans (below_by g b1) (grown_setCell _ _ _ _)) (grown_setCell _ _ _ _)))
      have HAP := (show Hid (Apart (qs1.set c (parQ qs1[c] (-1)))) from AP)
      have HQ1 := (show Hid (∀ q ∈ qs1, ∀ r, q.2.2.ownBlock = some r → (∃ q ∈ qs, q.2.2.ownBlock = some r) ∨ w.heap.size ≤ r) from hq1)
      have HSA := (show Hid (SameA qs (qs1.set c (parQ qs1[c] (-1)))) from SameA.set (by rw [hqs1]; exact SameA.set (show SameA qs qs from rfl) hpl rfl) hc1 rfl)
      clear hm1 hm2 OP AP AK OK O1 o1 b1 hwc hq1 hpar hqs1
      go_wp2
      go_ret
      refine ⟨rfl, ⟨_, HT.out, HOP.out, HAP.out, HSA.out, fun q hq r e => ?_⟩, HG.out⟩
      rcases List.mem_or_eq_of_mem_set hq with hq | rfl
      · exact HQ1.out q hq r e
      · exact HQ1.out qs1[c] (List.getElem_mem hc1) r e
end Go.Proofs.YtogdbjafibejdaaGreat
