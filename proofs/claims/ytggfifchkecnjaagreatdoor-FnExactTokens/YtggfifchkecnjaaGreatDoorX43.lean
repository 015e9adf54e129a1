/- The laws' helper that marks a row of tokens. No condition. -/
import Derived.Test.YtggfifchkecnjaaGreatDoorX42
namespace Go.Proofs.YtggfifchkecnjaaGreatDoor
open Go.RowKit
set_option maxRecDepth 100000
set_option linter.unusedVariables false

structure MkTk (B : Nat) (w : World) (g n cap : Nat) (A : List (TokD × Value)) (p : TokD × Value) (D : List (TokD × Value)) (W : World) : Prop where
  own : OwnK B W (.slice (some ⟨g, 0, none⟩) n cap) (A ++ p :: D)
  ap : ApartK (A ++ p :: D)
  fr : MkFk B w W
theorem MkTk.below {B g n cap : Nat} {w W W' : World} {A D : List (TokD × Value)} {p : TokD × Value} (h : MkTk B w g n cap A p D W) (b : Below W.heap.size W W') : MkTk B w g n cap A p D W' := ⟨h.own.below b, h.ap, h.fr.trans (.of_below b)⟩
theorem MkTk.cell {B g n cap : Nat} {w W : World} {A D : List (TokD × Value)} {p p' : TokD × Value} (h : MkTk B w g n cap A p D W) {j : Nat} (hj : j < 5) {u : Value} (hp : tokRow p'.1 p'.2 = (tokRow p.1 p.2).set j u) (h1 : p'.1.rs = p.1.rs) (h2 : p'.2 = p.2) :
    MkTk B w g n cap A p' D (W.setCell ⟨g, A.length * 5 + j, none⟩ u) := by
  obtain ⟨o, gr⟩ := h.own.cell hj hp h1 h2
  exact ⟨o, apartK_map (by simp [h2]) h.ap, h.fr.trans (.of_own h.own.row gr)⟩
theorem MkTk.attrs {B g n cap : Nat} {w W W' : World} {A D : List (TokD × Value)} {p : TokD × Value} (h : MkTk B w g n cap A p D W) {rs : List (ByteArray × ByteArray)} (hg : W.grownBy W' p.2.ownBlock)
    (ho : W'.ownsRow B 81 2 p.2 rs.length (pairCells rs)) : MkTk B w g n cap A (⟨p.1.k, p.1.nm, rs, p.1.tx, p.1.sf⟩, p.2) D W' :=
  ⟨h.own.attrs h.ap hg ho, apartK_map (by simp) h.ap, h.fr.trans (.of_own (h.own.each p (by simp)) hg)⟩
theorem MkTk.at {B g n cap : Nat} {w W : World} {A D : List (TokD × Value)} {p : TokD × Value} (h : MkTk B w g n cap A p D W) {k : Nat} (hk : A.length = k) :
    W.cell? ⟨g, k * 5, none⟩ = some (.int .i64 p.1.k) ∧ W.cell? ⟨g, k * 5 + 1, none⟩ = some (.string p.1.nm) ∧ W.cell? ⟨g, k * 5 + 2, none⟩ = some p.2 ∧ W.cell? ⟨g, k * 5 + 3, none⟩ = some (.string p.1.tx) ∧ W.cell? ⟨g, k * 5 + 4, none⟩ = some (.bool p.1.sf) ∧ ∀ j, W.frozen? ⟨g, j, none⟩ = false := by
  subst hk
  have hn : n = (A ++ p :: D).length := by
    obtain ⟨_, ⟨e, _⟩ | ⟨g', c', cu', e, _⟩⟩ := h.own.row
    · cases e
    · injection e
  subst hn
  have hlt : A.length < (A ++ p :: D).length := by simp
  have hat : (A ++ p :: D)[A.length]'hlt = p := by simp
  have key : ∀ j, j < 5 → W.cell? ⟨g, A.length * 5 + j, none⟩ = some ((tokRow p.1 p.2).getD j undef) := by
    intro j hj
    have hl := tokCells_len (A ++ p :: D)
    have hi : A.length * 5 + j < (tokCells (A ++ p :: D)).length := by rw [hl, List.length_append, List.length_cons]; omega
    have c := h.own.row.cellAt (A.length * 5 + j) (by omega)
    rw [c]
    have e := tokCells_at (A ++ p :: D) A.length j hlt hj
    rw [List.getD_eq_getElem?_getD, List.getElem?_eq_getElem hi] at e
    rw [List.getElem?_eq_getElem hi]
    rw [hat] at e
    simpa using e
  exact ⟨key 0 (by decide), key 1 (by decide), key 2 (by decide), key 3 (by decide), key 4 (by decide), fun j => h.own.row.frozenAt j⟩

set_option maxHeartbeats 2000000 in
set_option maxRecDepth 100000 in
theorem markTokenS_row {B : Nat} {g cap : Nat} {qs : List (TokD × Value)} {w : World} (h : OwnK B w (.slice (some ⟨g, 0, none⟩) qs.length cap) qs) (ap : ApartK qs) (hfew : ∀ t ∈ qs.map (fun q => q.1), t.rs.length ≤ 20) (hl : qs.length ≤ 3001) :
    Calls Tryz.prog 14 #[.slice (some ⟨g, 0, none⟩) qs.length cap, .int .i64 1] w fun e w' => e = .returned (.int .i64 (1 + advKs (qs.map fun q => q.1))) ∧ OwnK B w' (.slice (some ⟨g, 0, none⟩) qs.length cap) (mkKs 1 qs) ∧ MkFk B w w' := by
  have HFEW := (show Hid (∀ t ∈ qs.map (fun q => q.1), t.rs.length ≤ 20) from hfew)
  have HAP := (show Hid (ApartK qs) from ap)
  have H := (show Hid (OwnK B w _ (mkKs 1 (qs.take 0) ++ qs.drop 0) ∧ MkFk B w w) from ⟨h, .refl _ _⟩)
  clear h ap hfew
  go_enter Tryz.func14, Tryz.ntmps14
  go_wp2
  go_loopw [1, 5] (fun q i wr => ∃ (k : Nat) (r : Int), k ≤ qs.length ∧ i = .int .i64 k ∧ q = .int .i64 r ∧ Hid (r = 1 + advKs ((qs.map fun q => q.1).take k)) ∧ Hid (OwnK B wr (.slice (some ⟨g, 0, none⟩) qs.length cap) (mkKs 1 (qs.take k) ++ qs.drop k) ∧ MkFk B w wr)) (fun _ i _ => qs.length - (intOf i).toNat)
  case atStart => exact ⟨0, 1, Nat.zero_le _, rfl, rfl, (show (1 : Int) = 1 + advKs ((qs.map fun q => q.1).take 0) by simp [advKs]), H.out⟩
  case round =>
    clear H
    obtain ⟨k, r, hk, rfl, rfl, hr1, hS⟩ := hrel
    by_cases hlt : k < qs.length
    · obtain ⟨A, hA⟩ : ∃ A, A = mkKs 1 (qs.take k) := ⟨_, rfl⟩
      obtain ⟨D, hD⟩ : ∃ D, D = qs.drop (k + 1) := ⟨_, rfl⟩
      obtain ⟨p, hp⟩ : ∃ p, p = qs[k] := ⟨_, rfl⟩
      have hAl : A.length = k := by rw [hA, mkKs_len, List.length_take]; omega
      have hdrop : qs.drop k = p :: D := by rw [hp, hD]; exact List.drop_eq_getElem_cons hlt
      have st : MkTk B w g qs.length cap A p D wr := by
        have := hS.out
        rw [hdrop, ← hA] at this
        refine ⟨this.1, apartK_map ?_ HAP.out, this.2⟩
        rw [← hdrop, hA, List.map_append, mkKs_snd, ← List.map_append, List.take_append_drop]
      have hrs : p.1.rs.length ≤ 20 := by rw [hp]; exact HFEW.out _ (List.mem_map.mpr ⟨_, List.getElem_mem hlt, rfl⟩)
      have hadv : advKs ((qs.map fun q => q.1).take (k + 1)) = advKs ((qs.map fun q => q.1).take k) + (4 + 2 * p.1.rs.length) := by
        rw [advKs_take (by simpa using hlt), List.getElem_map, hp]; rfl
      have hrB : 0 ≤ r ∧ r ≤ 200000 := by
        have e1 := advKs_le (ts := (qs.map fun q => q.1).take k) (fun t ht => HFEW.out t (List.mem_of_mem_take ht))
        have e2 : ((qs.map fun q => q.1).take k).length ≤ qs.length := by simp; omega
        have := hr1.out
        constructor <;> omega
      have hmk : mkKs 1 (qs.take (k + 1)) ++ qs.drop (k + 1) = A ++ (mkK r p.1, p.2) :: D := by
        rw [List.take_succ_eq_append_getElem hlt, mkKs_snoc, ← hA, ← hD, ← hp, List.map_take, ← hr1.out]
        simp
      have HMK := (show Hid _ from hmk)
      have HADV := (show Hid _ from hadv)
      have HAL := (show Hid (A.length = k) from hAl)
      obtain ⟨va1, va2, va3, hva⟩ : ∃ a n c, p.2 = .slice a n c := row_slice (st.own.each p (by simp))
      have HVA := (show Hid (p.2 = .slice va1 va2 va3) from hva)
      clear hA hD hp hdrop hmk hadv hva
      have CM := (show Hid (∀ (x : Int) W, x ≤ 1099511627776 → Calls Tryz.prog 32 #[.int .i64 x] W fun e w' => e = .returned (.string (mt x)) ∧ Below W.heap.size W w') from fun x W hx => markText_any x W hx)
      obtain ⟨hr0, hr2⟩ := hrB
      obtain ⟨c0, _, _, _, _, fz⟩ := st.at hAl
      have f0 := fz (k * 5)
      have st1 := st.cell (j := 0) (by decide) (u := .int .i64 r) (p' := (⟨r, p.1.nm, p.1.rs, p.1.tx, p.1.sf⟩, p.2)) rfl rfl rfl
      rw [hAl, Nat.add_zero] at st1
      obtain ⟨wA, hwA⟩ : ∃ z, z = wr.setCell ⟨g, k * 5, none⟩ (.int .i64 r) := ⟨_, rfl⟩
      rw [← hwA] at st1
      have ST1 := (show Hid _ from st1)
      clear fz st st1 hS
      go_wp2_with fail
      go_at_call 32
      rw [← hwA]
      clear hwA c0 f0
      refine Calls.mono (CM.out _ _ (by omega)) ?_
      rintro e w2 ⟨rfl, b2⟩
      have st2 := ST1.out.below b2
      obtain ⟨_, c1, c2, _, _, fz⟩ := st2.at hAl
      have f1 := fz (k * 5 + 1)
      have st3 := st2.cell (j := 1) (by decide) (u := .string (mt (r + 1))) (p' := (⟨r, mt (r + 1), p.1.rs, p.1.tx, p.1.sf⟩, p.2)) rfl rfl rfl
      rw [hAl] at st3
      obtain ⟨wB, hwB⟩ : ∃ z, z = w2.setCell ⟨g, k * 5 + 1, none⟩ (.string (mt (r + 1))) := ⟨_, rfl⟩
      rw [← hwB] at st3
      have ST3 := (show Hid _ from st3)
      have d2 := (st3.at hAl).2.2.1
      simp only at d2 c2
      have hao := st3.own.each _ (List.mem_append_right _ (List.mem_cons_self ..))
      have CA := (show Hid _ from markAttrS_any hao (r + 1 + 1) (by omega) (by omega) (by show p.1.rs.length ≤ _; omega))
      simp only at CA
      rw [HVA.out] at d2 CA c2
      clear fz st2 st3 ST1 b2 hao
      go_wp2_with fail
      go_at_call 33
      rw [← hwB]
      clear hwB c1 c2 f1 d2
      refine Calls.mono CA.out ?_
      rintro e w4 ⟨rfl, o4, g4⟩
      rw [← HVA.out] at o4 g4
      have st4 := ST3.out.attrs (rs := markPairs (r + 1 + 1) p.1.rs.length) g4 (by rw [markPairs_len]; exact o4)
      obtain ⟨r4, hr4⟩ : ∃ x : Int, x = r + 1 + 1 + 2 * p.1.rs.length := ⟨_, rfl⟩
      rw [← hr4]
      have HR4 := (show Hid (r4 = r + 1 + 1 + 2 * p.1.rs.length) from hr4)
      have hr4a : 0 ≤ r4 := by omega
      have hr4b : r4 ≤ 300000 := by omega
      obtain ⟨_, _, _, c3, _, fz⟩ := st4.at hAl
      have f3 := fz (k * 5 + 3)
      have ST4 := (show Hid _ from st4)
      clear hr4 fz st4 o4 g4 CA ST3
      go_wp2_with fail
      go_at_call 32
      refine Calls.mono (CM.out _ _ (by omega)) ?_
      rintro e w5 ⟨rfl, b5⟩
      have st5 := ST4.out.below b5
      obtain ⟨_, _, _, c5, c6, fz⟩ := st5.at hAl
      have f5 := fz (k * 5 + 3)
      have f6 := fz (k * 5 + 4)
      have st6 := st5.cell (j := 3) (by decide) (u := .string (mt r4)) (p' := (⟨r, mt (r + 1), markPairs (r + 1 + 1) p.1.rs.length, mt r4, p.1.sf⟩, p.2)) rfl rfl rfl
      have st7 := st6.cell (j := 4) (by decide) (u := .bool ((r4 + 1) % 3 == 0)) (p' := (⟨r, mt (r + 1), markPairs (r + 1 + 1) p.1.rs.length, mt r4, (r4 + 1) % 3 == 0⟩, p.2)) rfl rfl rfl
      rw [hAl] at st7
      have ST7 := (show Hid (OwnK B _ (.slice (some ⟨g, 0, none⟩) qs.length cap) (mkKs 1 (qs.take (k + 1)) ++ qs.drop (k + 1)) ∧ MkFk B w _) from ⟨by
        have hm : mkKs 1 (qs.take (k + 1)) ++ qs.drop (k + 1) = A ++ (⟨r, mt (r + 1), markPairs (r + 1 + 1) p.1.rs.length, mt r4, (r4 + 1) % 3 == 0⟩, p.2) :: D := by
          rw [HMK.out, HR4.out]; rfl
        rw [hm]
        exact st7.own, st7.fr⟩)
      clear st5 st6 st7 fz ST4 b5 c3 f3
      go_wp2
      go_roundw
      case rel => exact ⟨k + 1, _, by omega, by go_num, rfl, (show _ = _ by have := HADV.out; have := HR4.out; have := hr1.out; omega), ST7.out⟩
      case measure => simp [intOf]; omega
    · have hke : k = qs.length := by omega
      subst hke
      have h1 := hr1.out
      rw [List.take_of_length_le (by simp)] at h1
      have h2 := hS.out
      rw [List.take_length, List.drop_length, List.append_nil] at h2
      go_wp2
      go_ret
      exact ⟨ret_int h1, h2⟩
theorem markTokenS_any {B : Nat} {v : Value} {qs : List (TokD × Value)} {w : World} (h : OwnK B w v qs) (ap : ApartK qs) (hfew : ∀ t ∈ qs.map (fun q => q.1), t.rs.length ≤ 20) (hl : qs.length ≤ 3001) :
    Calls Tryz.prog 14 #[v, .int .i64 1] w fun e w' => e = .returned (.int .i64 (1 + advKs (qs.map fun q => q.1))) ∧ OwnK B w' v (mkKs 1 qs) ∧ MkFk B w w' := by
  have h' := h
  obtain ⟨⟨hl', ⟨rfl, hz⟩ | ⟨g, cap, cur, rfl, _⟩⟩, _⟩ := h'
  · obtain rfl : qs = [] := List.length_eq_zero_iff.mp hz
    go_enter Tryz.func14, Tryz.ntmps14
    go_wp2
    go_loop [1, 5] (fun q i => i = .int .i64 0 ∧ q = .int .i64 1) (fun _ _ => 0)
    case atStart => exact ⟨rfl, rfl⟩
    case round =>
      obtain ⟨rfl, rfl⟩ := hrel
      go_wp2
      go_ret
      exact ⟨ret_int (by simp [advKs]), h, .refl _ _⟩
  · exact markTokenS_row h ap hfew hl
end Go.Proofs.YtggfifchkecnjaaGreatDoor

/- References and comments of the program's cutter (written by mk/icutk.py). No condition. -/
namespace Go.Proofs.YtggfifchkecnjaaGreatDoor
open Go.RowKit
set_option maxRecDepth 100000
set_option linter.unusedVariables false

theorem lowT_com : LowT ⟨#[45, 45, 62]⟩ := ⟨by decide, by decide⟩
theorem lowT_bang : LowT ⟨#[45, 45, 33, 62]⟩ := ⟨by decide, by decide⟩
theorem lowT_4562 : LowT ⟨#[45, 62]⟩ := ⟨by decide, by decide⟩
theorem standsLow_plain {l : List Int} (h : ∀ c ∈ l, ¬ (97 ≤ c ∧ c ≤ 122) ∧ ¬ (65 ≤ c ∧ c ≤ 90)) (xs : List Int) (k : Nat) : standsLow xs k l = stands xs k l := by
  unfold standsLow stands
  rw [Bool.eq_iff_iff, List.all_eq_true, List.all_eq_true]
  have key : ∀ i ∈ List.range l.length, (lowerOf (atL xs (k + i)) == l.getD i 0) = (atL xs (k + i) == l.getD i 0) := by
    intro i hi
    have hi' := List.mem_range.mp hi
    have e : l.getD i 0 = l[i] := by simp [List.getD_eq_getElem?_getD, hi']
    obtain ⟨h1, h2⟩ := h _ (List.getElem_mem hi')
    rw [e, Bool.eq_iff_iff, beq_iff_eq, beq_iff_eq]
    exact lowerOf_eq h1 h2
  constructor
  · intro H i hi; rw [← key i hi]; exact H i hi
  · intro H i hi; rw [key i hi]; exact H i hi
theorem st_com (xs : List Int) (k : Nat) : standsLow xs k (bs ⟨#[45, 45, 62]⟩) = stands xs k [45, 45, 62] := standsLow_plain (by decide) xs k
theorem st_bang (xs : List Int) (k : Nat) : standsLow xs k (bs ⟨#[45, 45, 33, 62]⟩) = stands xs k [45, 45, 33, 62] := standsLow_plain (by decide) xs k
theorem st_4562 (xs : List Int) (k : Nat) : standsLow xs k (bs ⟨#[45, 62]⟩) = stands xs k [45, 62] := standsLow_plain (by decide) xs k
theorem st_62s (xs : List Int) (k : Nat) : standsLow xs k (bs ⟨#[62]⟩) = stands xs k [62] := standsLow_plain (by decide) xs k

set_option maxHeartbeats 1000000 in
theorem commentText_any {w0 : World} {g : Nat} {v : Value} {xs : List Int} {i : Nat} {w : World} (h : Cut w0 g v xs i w) (hy : ∀ y ∈ xs, pointOk y = true) (s : ByteArray) :
    Calls Tryz.prog 122 #[cutVal v g s] w fun e w' => e = .returned (.string (comV xs i i).1) ∧ Cut w0 g v xs (comV xs i i).2 w' ∧ w.grownBy w' (some g) := by
  have hxl := h.2.2.2.1.1
  have hil := h.2.2.2.1.2
  obtain ⟨a, ca, rfl, hca, hcm, _, _⟩ := h.sl
  have hcb := cb_new (s := s) h
  obtain ⟨w1, hw1⟩ : ∃ z, z = w.alloc (.cells #[.slice a xs.length ca, .pointer (some ⟨g, 0, none⟩), .string s] 47) := ⟨_, rfl⟩
  rw [← hw1] at hcb
  have HCB := (show Hid (CB w0 g (.slice a xs.length ca) xs s w i w1) from hcb)
  have HY := (show Hid (∀ y ∈ xs, pointOk y = true) from hy)
  obtain ⟨cM, hcM⟩ : ∃ z, z = comV xs i i := ⟨_, rfl⟩
  rw [← hcM]
  have HCM := (show Hid (comV xs i i = cM) from hcM.symm)
  clear hcb h hy hcM
  obtain ⟨c0, c1, c2⟩ := HCB.out.cells
  obtain ⟨cg, fg⟩ := HCB.out.cut.cell
  unfold cutVal
  go_enter Tryz.func122, Tryz.ntmps122
  go_upto_region 1 with fail
  rw [← hw1]
  clear hw1
  go_wp2_with fail
  clear c0 c1 c2 cg fg
  go_loopw [] (fun wr => ∃ k : Nat, i ≤ k ∧ k ≤ xs.length ∧ Hid (CB w0 g (.slice a xs.length ca) xs s w k wr ∧ comV xs i k = cM)) (fun wr => xs.length - plc wr g)
  case atStart => exact ⟨i, Nat.le_refl _, hil, HCB.out, HCM.out⟩
  case round =>
    clear HCB
    obtain ⟨k, hk0, hk1, I⟩ := hrel
    have cb := (show Hid _ from I.out.1)
    have HV := (show Hid (comV xs i k = cM) from I.out.2)
    have MP := (show Hid (plc wr g = k) from cb.out.plc)
    clear I
    obtain ⟨c0, c1, c2⟩ := cb.out.cells
    go_wp2_with fail
    go_at_call 108
    refine (ahead_cb cb.out 0 0 rfl (by omega)).mono ?_
    rintro e w2 ⟨rfl, b2⟩
    rw [Nat.add_zero]
    have cb2 := (show Hid _ from cb.out.below b2)
    clear cb b2 c0 c1 c2
    obtain ⟨c0, c1, c2⟩ := cb2.out.cells
    obtain ⟨cg, fg⟩ := cb2.out.cut.cell
    by_cases hkl : k < xs.length
    · have hx0 := ((pointOk_iff _).mp (at_ok HY.out hkl)).1
      obtain ⟨x, hx⟩ : ∃ x, x = atL xs k := ⟨_, rfl⟩
      rw [← hx] at hx0 ⊢
      have hne : (x != -1) = true := by simp; omega
      clear hx
      go_wp2_with fail
      go_at_call 118
      refine (takes_cb cb2.out HY.out _ lowT_com (by decide)).mono ?_
      rintro e w3 ⟨rfl, cb3', _⟩
      have cb3 := (show Hid _ from cb3')
      rw [st_com]
      clear cb2 cb3' c0 c1 c2 cg fg
      rcases h3 : stands xs k [45, 45, 62] with _ | _
      · have hb : behT xs k ⟨#[45, 45, 62]⟩ = k := by unfold behT; rw [st_com, h3]; rfl
        rw [hb] at cb3
        clear hb
        obtain ⟨c0, c1, c2⟩ := cb3.out.cells
        go_wp2_with fail
        go_at_call 118
        refine (takes_cb cb3.out HY.out _ lowT_bang (by decide)).mono ?_
        rintro e w4 ⟨rfl, cb4', _⟩
        have cb4 := (show Hid _ from cb4')
        rw [st_bang]
        clear cb3 cb4' c0 c1 c2
        rcases h4 : stands xs k [45, 45, 33, 62] with _ | _
        · have hb : behT xs k ⟨#[45, 45, 33, 62]⟩ = k := by unfold behT; rw [st_bang, h4]; rfl
          rw [hb] at cb4
          have hst := com_next (st := i) hkl h3 h4
          rw [HV.out] at hst
          have HS := (show Hid _ from hst.symm)
          clear hb h3 h4 hst
          obtain ⟨c0, c1, c2⟩ := cb4.out.cells
          go_wp2_with fail
          go_at_call 110
          refine (move_any cb4.out.cut s 1 (by omega)).mono ?_
          rintro e w5 ⟨rfl, hc5, hg5⟩
          have cb5 := (show Hid _ from cb4.out.move hc5 hg5)
          clear cb4 hc5 hg5 c0 c1 c2
          go_wp2
          go_roundw
          case rel => exact ⟨k + 1, by omega, by omega, cb5.out, HS.out⟩
          case measure => rw [cb5.out.plc, MP.out]; omega
        · have hb : behT xs k ⟨#[45, 45, 33, 62]⟩ = k + 4 := by unfold behT; rw [st_bang, h4]; rfl
          rw [hb] at cb4
          have hst := com_four (st := i) hkl h3 h4
          rw [HV.out] at hst
          have HS := (show Hid _ from hst)
          clear hb h3 h4 hst
          have hb1 : (i : Int) ≤ (k : Int) := by omega
          have hb2 : (k : Int) ≤ (ca : Int) := by omega
          have hck : ¬ ca = i := by omega
          have CP := (show Hid _ from iputs_part (part_sl cb4.out.cut.sl hk0 (show k ≤ xs.length by omega) hck) hxl)
          obtain ⟨c0, c1, c2⟩ := cb4.out.cells
          obtain ⟨tx, htx⟩ : ∃ z, z = txtOf xs i k := ⟨_, rfl⟩
          rw [← htx] at CP HS
          clear htx
          go_wp2_with fail
          go_at_call 96
          refine Calls.mono CP.out ?_
          rintro e w7 ⟨qa, qn, qc, rfl, hcv, b7⟩
          have cb7 := (show Hid _ from cb4.out.below b7)
          clear CP b7 cb4 c0 c1 c2
          go_wp2
          go_ret
          rw [HS.out]
          exact ⟨rfl, cb7.out.cut, cb7.out.gro⟩
      · have hb : behT xs k ⟨#[45, 45, 62]⟩ = k + 3 := by unfold behT; rw [st_com, h3]; rfl
        rw [hb] at cb3
        have hst := com_three (st := i) hkl h3
        rw [HV.out] at hst
        have HS := (show Hid _ from hst)
        clear hb h3 hst
        have hb1 : (i : Int) ≤ (k : Int) := by omega
        have hb2 : (k : Int) ≤ (ca : Int) := by omega
        have hck : ¬ ca = i := by omega
        have CP := (show Hid _ from iputs_part (part_sl cb3.out.cut.sl hk0 (show k ≤ xs.length by omega) hck) hxl)
        obtain ⟨c0, c1, c2⟩ := cb3.out.cells
        obtain ⟨tx, htx⟩ : ∃ z, z = txtOf xs i k := ⟨_, rfl⟩
        rw [← htx] at CP HS
        clear htx
        go_wp2_with fail
        go_at_call 96
        refine Calls.mono CP.out ?_
        rintro e w7 ⟨qa, qn, qc, rfl, hcv, b7⟩
        have cb7 := (show Hid _ from cb3.out.below b7)
        clear CP b7 cb3 c0 c1 c2
        go_wp2
        go_ret
        rw [HS.out]
        exact ⟨rfl, cb7.out.cut, cb7.out.gro⟩
    · have hst := com_out (st := i) (show xs.length ≤ k by omega)
      rw [HV.out] at hst
      have HS := (show Hid _ from hst)
      have hkk : k = xs.length := by omega
      have cbk := (show Hid (CB w0 g (.slice a xs.length ca) xs s w xs.length w2) from (show CB w0 g (.slice a xs.length ca) xs s w xs.length w2 by have c := cb2.out; rw [hkk] at c; exact c))
      have TT := (show Hid _ from torn_txt HY.out (i := i) hil)
      rw [atL_out (show xs.length ≤ k by omega)]
      clear hst cb2 cg fg hkk
      have hb1 : (i : Int) ≤ (xs.length : Int) := by omega
      have hb2 : (xs.length : Int) ≤ (ca : Int) := by omega
      have hb0 : (0 : Int) ≤ (i : Int) := by omega
      obtain ⟨tx, htx⟩ : ∃ z, z = txtOf xs i xs.length := ⟨_, rfl⟩
      have htb : bs tx = puts (sub xs i xs.length) := by
        rw [htx]; exact bs_strOf (fun y hy => by
          obtain ⟨z, _, hz⟩ := List.mem_flatMap.mp hy
          exact put_byte z y hz)
      have hts : tx.size ≤ 12000 := by rw [htx]; exact txtOf_size hxl _ _
      have CW := (show Hid _ from fun W => withoutTornEnd_any tx W (by omega))
      rw [htb, TT.out] at CW
      clear htb
      by_cases hci : ca = i
      · have CP := (show Hid _ from iputs_part (show Sl .i64 w2 (.slice a (xs.length - i) 0) (sub xs i xs.length) from by rw [show xs.length - i = 0 by omega]; exact part_sl0 a ca (by omega)) hxl)
        rw [← htx] at CP
        clear htx
        go_wp2_with fail
        go_at_call 96
        refine Calls.mono CP.out ?_
        rintro e w7 ⟨qa, qn, qc, rfl, hcv, b7⟩
        have cb7 := (show Hid _ from cbk.out.below b7)
        clear CP b7 cbk c0 c1 c2
        go_wp2_with fail
        go_at_call 136
        refine (CW.out _).mono ?_
        rintro e w8 ⟨rfl, rfl⟩
        go_wp2
        go_ret
        rw [HS.out]
        exact ⟨rfl, cb7.out.cut, cb7.out.gro⟩
      · have CP := (show Hid _ from iputs_part (part_sl cbk.out.cut.sl hil (Nat.le_refl _) hci) hxl)
        rw [← htx] at CP
        clear htx
        go_wp2_with fail
        go_at_call 96
        refine Calls.mono CP.out ?_
        rintro e w7 ⟨qa, qn, qc, rfl, hcv, b7⟩
        have cb7 := (show Hid _ from cbk.out.below b7)
        clear CP b7 cbk c0 c1 c2
        go_wp2_with fail
        go_at_call 136
        refine (CW.out _).mono ?_
        rintro e w8 ⟨rfl, rfl⟩
        go_wp2
        go_ret
        rw [HS.out]
        exact ⟨rfl, cb7.out.cut, cb7.out.gro⟩
end Go.Proofs.YtggfifchkecnjaaGreatDoor
