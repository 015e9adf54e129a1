/- append of integers that tells its block: the old one, or a new one (AppB's, for seats of other chapters). No condition. -/
import Derived.Test.YtogdbjafibejdaaGreatX1
import Derived.Laws.Append
import Derived.Test.YtogdbjafibejdaaGreatX31
import Derived.Test.YtogdbjafibejdaaGreatX20
import Derived.Test.YtogdbjafibejdaaGreatX26
import Derived.Test.YtogdbjafibejdaaGreatX32
import Derived.Test.YtogdbjafibejdaaGreatX33
import Derived.Test.YtogdbjafibejdaaGreatX12
namespace Go.Proofs.YtogdbjafibejdaaGreat
open Go.RowKit
set_option maxRecDepth 100000
set_option linter.unusedVariables false

theorem run_blkT {P : Program} (w : World) (base : Nat) (t ty e : TypeId) (i : TypeInfo) (z : Value) (size bytes : Nat) (ht : P.underlying t = some (.slice e)) (hi : P.info? e = some i) (hz : i.zero = some z)
    (hsize : i.size = size) (hby : i.bytes = bytes) (r n cap : Nat) (xs : List Value) (hown : w.ownsRow base e size (.slice (some ⟨r, 0, none⟩) n cap) n xs)
    (a : Addr) (m c : Nat) (news : List Value) (hl : news.length = m * size) (hnews : ∀ j u, news[j]? = some u → w.cell? (a.add j) = some u) (h1 : ∀ u ∈ news, u.oneCell' = true)
    (h63 : n + m ≤ maxLen) (hbytes : (n + m) * bytes ≤ 140737488355328) {v' : Value} {w' : World} (hr : (Builtin.append_ #[t, t] ty #[.slice (some ⟨r, 0, none⟩) n cap, .slice (some a) m c]).run P w = .ok v' w') :
    ∃ r' cap', v' = .slice (some ⟨r', 0, none⟩) (n + m) cap' ∧ (r' = r ∨ r' = w.heap.size) := by
  subst hsize
  subst hby
  have hsmall : n + m ≤ 9223372036854775807 := by simp only [maxLen] at h63; omega
  rcases hown.2 with ⟨e1, _⟩ | ⟨g, cap', cur, e1, hbg, hg, hnc, hcm, hcs, htake⟩
  · cases e1
  · cases e1
    by_cases hroom : n + m ≤ cap
    · have hfit : n * i.size + news.length ≤ cur.size := by rw [hl, hcs, ← Nat.add_mul]; exact Nat.mul_le_mul_right _ hroom
      have hr2 := run_append_room (P := P) w t ty e i ht hi r n cap cur hg a m c news hl hnews h1 hroom hfit
      rw [hr] at hr2
      cases hr2
      exact ⟨_, _, rfl, .inl rfl⟩
    · have holds : ∀ j u, xs[j]? = some u → w.cell? ((⟨r, 0, none⟩ : Addr).add j) = some u := hown.cells (g := r) rfl
      have hr2 := run_append_grow (P := P) w t ty e i z ht hi hz ⟨r, 0, none⟩ n cap xs hown.1 holds a m c news hl hnews (by omega) (by omega) (growslice_fits (by omega) hbytes)
      rw [hr] at hr2
      cases hr2
      exact ⟨_, _, rfl, .inr rfl⟩

/-- 'v = append(v, u...)' for integers: where the new one lies. -/
theorem wpList_appT {P : Program} (w : World) {ops : Array Oper} {rest : List Oper} {o : Oper} {a : Act} {Q : Exit → Act → World → Prop} (hgd : o.guard = none)
    (s x : Operand) (t : TypeId) (ho : o.op = Op.call { callee := Callee.builtin Builtin.append, args := #[s, x], argTypes := #[t, t] }) (B : Nat) (e : TypeId) (i : TypeInfo)
    (z : Value) (bytes : Nat) (ht : P.underlying t = some (TypeDesc.slice e)) (hi : P.info? e = some i) (hz : i.zero = some z) (hsize : i.size = 1) (hby : i.bytes = bytes)
    (hzs : z.cells.size = 1) (K : IntKind) (r cap : Nat) (xs : List Int) (ad : Addr) (c : Nat) (ys : List Int) (hs : a.eval s = .slice (some ⟨r, 0, none⟩) xs.length cap) (hx : a.eval x = .slice (some ad) ys.length c) (hown : Own B e K w (.slice (some ⟨r, 0, none⟩) xs.length cap) xs) (hu : Sl K w (.slice (some ad) ys.length c) ys)
    (hb : (xs.length + ys.length) * bytes ≤ 140737488355328) (h63 : xs.length + ys.length ≤ maxLen) (hbase : B ≤ w.heap.size)
    (h : ∀ (r' cap' : Nat) (w' : World), Own B e K w' (.slice (some ⟨r', 0, none⟩) (xs.length + ys.length) cap') (xs ++ ys) → w.grownBy w' (some r) → (r' = r ∨ r' = w.heap.size) → wpList P ops Q rest (a.put o.dst (.slice (some ⟨r', 0, none⟩) (xs.length + ys.length) cap')) w') :
    wpList P ops Q (o :: rest) a w := by
  obtain ⟨ao, cap0, e1, hlc, hcm, hnone, hc⟩ := hu
  cases e1
  obtain ⟨v', w', hr, h2, h3, h4⟩ := run_append_own (P := P) w B t o.type e i z 1 bytes ht hi hz hsize hby hzs (by decide) _ xs.length (xs.map (Value.int K)) hown ad ys.length c (ys.map (Value.int K)) (by simp) (Sl.news hc) (ints_oneCell K ys) h63 hb hbase
  obtain ⟨r', cap', rfl, hrr⟩ := run_blkT w B t o.type e i z 1 bytes ht hi hz hsize hby r xs.length cap (xs.map (Value.int K)) hown ad ys.length c (ys.map (Value.int K)) (by simp) (Sl.news hc) (ints_oneCell K ys) h63 hb hr
  refine wpList_plain hgd fun _ hK => ?_
  unfold Oper.wp execOp
  simp only [ho, resolve, invoke, builtin, Sem.run_bind, Sem.run_pure, Result.andThen_ok, List.map_toArray, List.map_cons, List.map_nil, hs, hx, hr]
  refine hK _ _ (h r' cap' w' ?_ h3 hrr)
  unfold Own
  rw [List.length_append, List.map_append]; exact h2

end Go.Proofs.YtogdbjafibejdaaGreat

/- The program's take and hang in an arena of its own. No condition. -/
namespace Go.Proofs.YtogdbjafibejdaaGreat
open Go.RowKit
set_option maxRecDepth 100000
set_option linter.unusedVariables false

theorem map_set_par (qs : List (PNode × (Value × Value))) {c : Nat} (hc : c < qs.length) (x : Int) : (qs.set c (parQ qs[c] x)).map (fun q => q.1) = (qs.map (fun q => q.1)).modify c (fun n => setPar n x) := map_modify hc rfl
theorem map_set_kid (qs : List (PNode × (Value × Value))) {c : Nat} (hc : c < qs.length) (f : List Int → List Int) (u : Value) : (qs.set c (kidQ qs[c] (f qs[c].1.kids) u)).map (fun q => q.1) = (qs.map (fun q => q.1)).modify c (fun n => setKids n (f n.kids)) := map_modify hc rfl

/-- Behind the new Kids of node p: a list of the call's own. -/
def TakeW (w : World) (g p : Nat) (ks : List Int) (wx : World) : Prop := ∃ x1 u, wx = World.setCell x1 ⟨g, p * 6 + 5, none⟩ u ∧ Below w.heap.size w x1 ∧ Own w.heap.size 3 .i64 x1 u ks

theorem takeW_mk {w x1 : World} {g p : Nat} {ks : List Int} {u : Value} (b : Below w.heap.size w x1) (o : Own w.heap.size 3 .i64 x1 u ks) : TakeW w g p ks (x1.setCell ⟨g, p * 6 + 5, none⟩ u) := ⟨x1, u, rfl, b, o⟩

set_option maxHeartbeats 16000000 in
set_option maxRecDepth 100000 in
theorem itake_any {B a g cap : Nat} {w : World} {qs : List (PNode × (Value × Value))} (ha : w.heap[a]? = some (.cells #[.slice (some ⟨g, 0, none⟩) qs.length cap] 77 (0, 0))) (hO : OwnQ B w (.slice (some ⟨g, 0, none⟩) qs.length cap) qs) (hA : Apart qs) (hB : B ≤ w.heap.size) (hlen : qs.length ≤ 100000) {c : Nat} (hc : c < qs.length) (hc0 : c ≠ 0)
    (hp : qs[c].1.parent = -1 ∨ ∃ p : Nat, qs[c].1.parent = p ∧ p < qs.length) (hkl : ∀ q ∈ qs, q.1.kids.length ≤ 1048576) :
    Calls Tryz.prog 65 #[.pointer (some ⟨a, 0, none⟩), .int .i64 c] w fun e w' => e = .returned (.bool true) ∧ (∃ qs', qs'.map (fun q => q.1) = takeN (qs.map (fun q => q.1)) c ∧ OwnQ B w' (.slice (some ⟨g, 0, none⟩) qs.length cap) qs' ∧ Apart qs' ∧ (∀ p ∈ qs', ∀ r, p.2.2.ownBlock = some r → (∃ q ∈ qs, q.2.2.ownBlock = some r) ∨ w.heap.size ≤ r)) ∧ w.grownBy w' (some g) := by
  obtain ⟨cA, _⟩ := one_cell ha
  have hag : a ≠ g := fun e => by
    subst e
    rcases hO.1.2 with ⟨e1, _⟩ | ⟨g', cap', cur, e1, hB', hh, _⟩
    · cases e1
    · cases e1; rw [ha] at hh; cases hh
  have HO := (show Hid (OwnQ B w (.slice (some ⟨g, 0, none⟩) qs.length cap) qs) from hO)
  have HA := (show Hid (Apart qs) from hA)
  have c4 := hO.cellAt (c := c) (j := 4) hc (by omega)
  have f4 := hO.frozenAt (c * 6 + 4)
  have c4' : w.cell? ⟨g, c * 6 + 4, none⟩ = some (.int .i64 qs[c].1.parent) := c4
  clear c4 hO hA
  go_enter Tryz.func65, Tryz.ntmps65
  go_wp2_with fail
  go_at_call 74
  refine Calls.mono (ihas_any cA (c : Int)) ?_
  rintro e wx ⟨rfl, hx⟩
  rw [hx, decide_eq_true ⟨by omega, by omega⟩]
  clear hx wx
  rcases hp with hp | ⟨p, hp, hpl⟩
  · rw [hp] at c4'
    have hP := OwnQ.par HO.out hc (-1)
    have HM := (show Hid _ from map_set_par qs hc (-1))
    have hcut : cutN (qs.map (fun q => q.1)) c = qs.map (fun q => q.1) := by
      rw [cutN, if_pos (by rw [parOf_at (by simpa using hc)]; simpa using hp)]
    have HT := (show Hid ((qs.set c (parQ qs[c] (-1))).map (fun q => q.1) = takeN (qs.map (fun q => q.1)) c) from (show _ = _ by rw [takeN, hcut]; exact HM.out))
    have HP := (show Hid _ from hP)
    have HAP := (show Hid _ from apart_par HA.out hc (-1))
    clear hcut HM hP
    go_wp2
    go_ret
    refine ⟨rfl, ⟨_, HT.out, HP.out, HAP.out, fun q hq r e => .inl ?_⟩, grown_setCell _ _ _ _⟩
    rcases List.mem_or_eq_of_mem_set hq with hq | rfl
    · exact ⟨q, hq, e⟩
    · exact ⟨qs[c], List.getElem_mem hc, e⟩
  · rw [hp] at c4'
    have c5 := OwnQ.cellAt HO.out (c := p) (j := 5) hpl (by omega)
    have c5' : w.cell? ⟨g, p * 6 + 5, none⟩ = some qs[p].2.2 := c5
    have hown := (HO.out.2 qs[p] (List.getElem_mem hpl)).2
    have HKV := (show Hid (Sl .i64 w qs[p].2.2 qs[p].1.kids) from hown.sl)
    obtain ⟨k1, k2, k3, hk⟩ := own_slice hown
    have hkp := hkl qs[p] (List.getElem_mem hpl)
    rw [hk] at c5' HKV
    have HKE := (show Hid (qs[p].2.2 = .slice k1 k2 k3) from hk)
    have CL := (show Hid (∀ w', Below w.heap.size w w' → Calls Tryz.prog 116 #[.slice k1 k2 k3, .int .i64 (c : Int)] w' fun e w'' => ∃ v', e = .returned v' ∧ Own w'.heap.size 3 .i64 w'' v' (lessL (c : Int) qs[p].1.kids) ∧ Below w'.heap.size w' w'') from fun w' hb => iless_any (c : Int) (HKV.out.below hb) hkp)
    have bd : Below w.heap.size w w.drew := below_drewN 1
    have hgl : g < w.heap.size := (World.ownsRow.lt HO.out.1 g rfl).2
    have hal := lt_of_block ha
    have BD := (show Hid (Below w.heap.size w w.drew) from bd)
    have hpi : (p : Int) < (qs.length : Int) := by omega
    have hci : (c : Int) < (qs.length : Int) := by omega
    clear hk hown HKV hkp c5
    go_wp2_with fail
    go_cut [] from 6 (fun wx => TakeW w g p (lessL (c : Int) qs[p].1.kids) wx)
    case first =>
      go_region_law (first
        | (go_simp
           go_at_call 116
           with_reducible refine Calls.mono (CL.out w.drew BD.out) ?_
           rintro e x1 ⟨u1, rfl, o1, b1⟩
           have B1 := (show Hid (Below w.heap.size w x1) from BD.out.trans (b1.mono BD.out.size))
           obtain ⟨u2, u3, u4, rfl⟩ := own_slice o1
           have f5 : x1.frozen? ⟨g, p * 6 + 5, none⟩ = false := OwnQ.frozenAt (HO.out.below B1.out) _
           have d5 : x1.cell? ⟨g, p * 6 + 5, none⟩ = some (.slice k1 k2 k3) := (B1.out.cell (p := ⟨g, p * 6 + 5, none⟩) hgl).trans c5'
           have d4 : x1.cell? ⟨g, c * 6 + 4, none⟩ = some (.int .i64 (p : Int)) := (B1.out.cell (p := ⟨g, c * 6 + 4, none⟩) hgl).trans c4'
           have dA : x1.cell? ⟨a, 0, none⟩ = some (.slice (some ⟨g, 0, none⟩) qs.length cap) := (B1.out.cell (p := ⟨a, 0, none⟩) hal).trans cA
           have O1 := (show Hid (Own w.heap.size 3 .i64 x1 (.slice u2 u3 u4) (lessL (c : Int) qs[p].1.kids)) from o1.base BD.out.size)
           clear o1 b1))
      all_goals
        go_wp2_with fail
        go_meet
        with_reducible exact takeW_mk B1.out O1.out
    case rest =>
      obtain ⟨x1, u, hwc, b1, o1⟩ := hcut
      have O1 := HO.out.below b1
      have OK := O1.kid hpl (o1.base hB)
      rw [← hwc] at OK
      have AK := apart_kid HA.out hpl (ks := lessL (c : Int) qs[p].1.kids) (u := u) (fun r hr => .inr (fun q hq e => by
        have h1 := (Own.lt o1 r hr).1
        have h2 := (Own.lt (HO.out.2 q hq).2 r e).2
        omega))
      obtain ⟨qs1, hqs1⟩ : ∃ z, z = qs.set p (kidQ qs[p] (lessL (c : Int) qs[p].1.kids) u) := ⟨_, rfl⟩
      have hm1 := map_set_kid qs hpl (lessL (c : Int)) u
      rw [← hqs1] at OK AK hm1
      have hc1 : c < qs1.length := by rw [hqs1, List.length_set]; exact hc
      have hl1 : qs1.length = qs.length := by rw [hqs1, List.length_set]
      have OP := OK.par hc1 (-1)
      have AP := apart_par AK hc1 (-1)
      have hm2 := map_set_par qs1 hc1 (-1)
      have hq1 : ∀ q ∈ qs1, ∀ r, q.2.2.ownBlock = some r → (∃ q ∈ qs, q.2.2.ownBlock = some r) ∨ w.heap.size ≤ r := by
        intro q hq r e
        rw [hqs1] at hq
        rcases List.mem_or_eq_of_mem_set hq with hq | rfl
        · exact .inl ⟨q, hq, e⟩
        · exact .inr (Own.lt o1 r e).1
      have hpar : parOf (qs.map (fun q => q.1)) c = (p : Int) := by rw [parOf_at (by simpa using hc)]; simpa using hp
      have HT := (show Hid ((qs1.set c (parQ qs1[c] (-1))).map (fun q => q.1) = takeN (qs.map (fun q => q.1)) c) from (show _ = _ by
        rw [hm2, hm1, takeN, cutN, hpar, if_neg (by omega)]
        simp))
      have HOP := (show Hid (OwnQ B (wc.setCell ⟨g, c * 6 + 4, none⟩ (.int .i64 (-1))) (.slice (some ⟨g, 0, none⟩) qs.length cap) (qs1.set c (parQ qs1[c] (-1)))) from OP)
      have c9 : wc.cell? ⟨g, c * 6 + 4, none⟩ = some (.int .i64 qs1[c].1.parent) := OK.cellAt (j := 4) hc1 (by omega)
      have f9 := OK.frozenAt (c * 6 + 4)
      have HG := (show Hid (w.grownBy (wc.setCell ⟨g, c * 6 + 4, none⟩ (.int .i64 (-1))) (some g)) from (by
        rw [hwc]
        exact grown_trans (grown_trans (below_by g b1) (grown_setCell _ _ _ _)) (grown_setCell _ _ _ _)))
      have HAP := (show Hid (Apart (qs1.set c (parQ qs1[c] (-1)))) from AP)
      have HQ1 := (show Hid (∀ q ∈ qs1, ∀ r, q.2.2.ownBlock = some r → (∃ q ∈ qs, q.2.2.ownBlock = some r) ∨ w.heap.size ≤ r) from hq1)
      clear hm1 hm2 OP AP AK OK O1 o1 b1 hwc hq1 hpar hqs1
      go_wp2
      go_ret
      refine ⟨rfl, ⟨_, HT.out, HOP.out, HAP.out, fun q hq r e => ?_⟩, HG.out⟩
      rcases List.mem_or_eq_of_mem_set hq with hq | rfl
      · exact HQ1.out q hq r e
      · exact HQ1.out qs1[c] (List.getElem_mem hc1) r e
end Go.Proofs.YtogdbjafibejdaaGreat

/- Rows of the call's own that are kept while blocks of other kinds are turned; blocks of one or two cells. No condition. -/
namespace Go.Proofs.YtogdbjafibejdaaGreat
open Go.RowKit
set_option maxRecDepth 100000
set_option linter.unusedVariables false

/-- A row is kept where a block of another type is turned. -/
theorem rk_type {B e size n : Nat} {w w' : World} {v : Value} {xs : List Value} {row : Option Nat} (h : w.ownsRow B e size v n xs) (hg : w.grownBy w' row) (hr : ∀ r, row = some r → ∃ cs t fr, w.heap[r]? = some (.cells cs t fr) ∧ t ≠ e) : w'.ownsRow B e size v n xs := by
  refine h.kept hg ?_
  rcases h.2 with ⟨rfl, _⟩ | ⟨g, cap, cur, rfl, _, hh, _⟩
  · exact .inl rfl
  · refine .inr fun er => ?_
    obtain ⟨cs, t, fr, h1, h2⟩ := hr g er.symm
    rw [hh] at h1
    cases h1
    exact h2 rfl
theorem rk_set {B e size n b k : Nat} {w : World} {v u : Value} {xs : List Value} (h : w.ownsRow B e size v n xs) {cs : Array Value} {t : TypeId} {fr : Nat × Nat} (hb : w.heap[b]? = some (.cells cs t fr)) (ht : t ≠ e) : (w.setCell ⟨b, k, none⟩ u).ownsRow B e size v n xs :=
  rk_type h (grown_setCell w b k u) (fun r er => by cases er; exact ⟨_, _, _, hb, ht⟩)
theorem rk_base {B B' size n : Nat} {e : TypeId} {w : World} {v : Value} {xs : List Value} (h : w.ownsRow B e size v n xs) (hB : B' ≤ B) : w.ownsRow B' e size v n xs := by
  obtain ⟨hl, hv | ⟨g, cap, cur, hv, hb, r⟩⟩ := h
  · exact ⟨hl, .inl hv⟩
  · exact ⟨hl, .inr ⟨g, cap, cur, hv, Nat.le_trans hB hb, r⟩⟩
theorem rk_slice {B e size n : Nat} {w : World} {v : Value} {xs : List Value} (h : w.ownsRow B e size v n xs) : ∃ a m c, v = .slice a m c := by
  obtain ⟨_, ⟨hv, _⟩ | ⟨g, cap, cur, hv, _⟩⟩ := h
  · exact ⟨_, _, _, hv⟩
  · exact ⟨_, _, _, hv⟩
theorem rk_form {B : Nat} {w : World} {e size : Nat} {v : Value} {n : Nat} {xs : List Value} (h : w.ownsRow B e size v n xs) (hn : 0 < n) : ∃ g cap, v = .slice (some ⟨g, 0, none⟩) n cap ∧ B ≤ g ∧ g < w.heap.size := by
  have h' := h
  obtain ⟨_, ⟨hv, h0⟩ | ⟨g, cap, cur, hv, hB, hh, _⟩⟩ := h'
  · omega
  · exact ⟨g, cap, hv, hB, lt_of_block hh⟩
theorem rk_at {w : World} {b k : Nat} {cs : Array Value} {u : Value} {t : TypeId} (h : w.heap[b]? = some (.cells cs t (0, 0))) : (w.setCell ⟨b, k, none⟩ u).heap[b]? = some (.cells (cs.setIfInBounds k u) t (0, 0)) := by
  have hlt := lt_of_block h
  have h' : w.heap[b] = .cells cs t (0, 0) := by simpa [Array.getElem?_eq_getElem hlt] using h
  show (w.heap.modify b _)[b]? = _
  rw [Array.getElem?_eq_getElem (by simpa using hlt), Array.getElem_modify_self, h']
  rfl
/-- The block of a row of the call's own has the row's type. -/
theorem rk_kind {B e size n : Nat} {w : World} {v : Value} {xs : List Value} (h : w.ownsRow B e size v n xs) {r : Nat} (hr : v.ownBlock = some r) : ∃ cs fr, w.heap[r]? = some (.cells cs e fr) := by
  rcases h.2 with ⟨rfl, _⟩ | ⟨g, cap, cur, rfl, _, hh, _⟩
  · cases hr
  · cases hr; exact ⟨_, _, hh⟩
/-- What is of another type is kept where that row is turned. -/
theorem rk_keep {B e size n : Nat} {w w' : World} {v : Value} {xs : List Value} (h : w.ownsRow B e size v n xs) (g : w.grownBy w' v.ownBlock) {j : Nat} {cs : Array Value} {t : TypeId} {fr : Nat × Nat} (hj : w.heap[j]? = some (.cells cs t fr)) (ht : t ≠ e) : w'.heap[j]? = some (.cells cs t fr) := by
  refine (g.block j (lt_of_block hj) (fun er => ?_)).trans hj
  obtain ⟨c2, f2, h2⟩ := rk_kind h er.symm
  rw [hj] at h2
  cases h2
  exact ht rfl
theorem rk_other {B B' e e' size size' n n' : Nat} {w w' : World} {v u : Value} {xs ys : List Value} (h : w.ownsRow B e size v n xs) (g : w.grownBy w' v.ownBlock) (o : w.ownsRow B' e' size' u n' ys) (ht : e ≠ e') : w'.ownsRow B' e' size' u n' ys :=
  rk_type o g (fun r er => by obtain ⟨c, f, hh⟩ := rk_kind h er; exact ⟨c, e, f, hh, ht⟩)
theorem ret_text {a b : ByteArray} (h : a = b) : Ending.returned (.string a) = .returned (.string b) := by rw [h]
/-- Blocks of one and of two cells. -/
theorem rk_one {w : World} {b : Nat} {u : Value} {t : TypeId} (h : w.heap[b]? = some (.cells #[u] t (0, 0))) : w.cell? ⟨b, 0, none⟩ = some u ∧ w.frozen? ⟨b, 0, none⟩ = false := ⟨by simp only [World.cell?, h]; rfl, by simp only [World.frozen?, h]; rfl⟩
theorem rk_two {w : World} {b : Nat} {u v : Value} {t : TypeId} (h : w.heap[b]? = some (.cells #[u, v] t (0, 0))) : w.cell? ⟨b, 0, none⟩ = some u ∧ w.cell? ⟨b, 1, none⟩ = some v ∧ w.frozen? ⟨b, 0, none⟩ = false ∧ w.frozen? ⟨b, 1, none⟩ = false :=
  ⟨by simp only [World.cell?, h]; rfl, by simp only [World.cell?, h]; rfl, by simp only [World.frozen?, h]; rfl, by simp only [World.frozen?, h]; rfl⟩
end Go.Proofs.YtogdbjafibejdaaGreat
