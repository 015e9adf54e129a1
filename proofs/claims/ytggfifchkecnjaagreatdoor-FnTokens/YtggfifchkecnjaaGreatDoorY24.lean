/- The contract of the program's AttrsOk. -/
import Derived.Test.YtggfifchkecnjaaGreatDoorY23
import Derived.Test.YtggfifchkecnjaaGreatDoorY21
import Derived.Test.YtggfifchkecnjaaGreatDoorY4
import Derived.Test.YtggfifchkecnjaaGreatDoorY17
import Derived.Test.YtggfifchkecnjaaGreatDoorY14
namespace Go.Proofs.YtggfifchkecnjaaGreatDoor
open Go.RowKit
set_option maxRecDepth 100000
set_option linter.unusedVariables false

theorem pairCells_take (rs : List (ByteArray × ByteArray)) (k : Nat) (hk : k ≤ rs.length) : pairCells (rs.take k) = (pairCells rs).take (k * 2) := by
  induction rs generalizing k with
  | nil => simp [pairCells]
  | cons r rs ih =>
    cases k with
    | zero => simp [pairCells]
    | succ k =>
      have := ih k (by simpa using hk)
      simp only [pairCells, List.take_succ_cons, List.flatMap_cons] at this ⊢
      rw [this, show (k + 1) * 2 = k * 2 + 1 + 1 by omega]
      rfl
theorem Sv.front {w : World} {a : Option Addr} {n cap k : Nat} {rs : List (ByteArray × ByteArray)} (h : Sv 2 w (.slice a n cap) (pairCells rs)) (hk : k ≤ rs.length) : Sv 2 w (.slice a k cap) (pairCells (rs.take k)) := by
  obtain ⟨a', len, cap', e, h1, h2, h3, h4, hc⟩ := h
  cases e
  have hl := pairCells_len rs
  rw [pairCells_take rs k hk]
  have hl2 : ((pairCells rs).take (k * 2)).length = k * 2 := by simp; omega
  refine ⟨a, k, cap, rfl, hl2, by omega, h3, h4, fun i hi => ?_⟩
  obtain ⟨b, off, e, c⟩ := hc i (by omega)
  refine ⟨b, off, e, ?_⟩
  rw [c]
  congr 1
  simp only [List.getD_eq_getElem?_getD]
  rw [List.getElem?_take_of_lt (by omega)]
theorem attrOf_has (l : List (ByteArray × ByteArray)) (nm : ByteArray) : (attrOf l nm).2 = true ↔ ∃ p ∈ l, p.1 = nm := by
  induction l with
  | nil => simp [attrOf]
  | cons p ps ih =>
    unfold attrOf
    by_cases h : p.1 = nm
    · rw [if_pos h]; simp [h]
    · rw [if_neg h, ih]; simp [h]

set_option maxHeartbeats 2000000 in
set_option maxRecDepth 100000 in
theorem iattrsOk_any {v : Value} {rs : List (ByteArray × ByteArray)} {w : World} (h : Sv 2 w v (pairCells rs)) (hn : rs.length ≤ 1099511627776) (hs : ∀ p ∈ rs, p.1.size ≤ 1099511627776 ∧ p.2.size ≤ 1099511627776) :
    Calls Tryz.prog 29 #[v] w fun e w' => e = .returned (.bool (attrsOk rs)) ∧ Below w.heap.size w w' := by
  have HV := (show Hid (Sv 2 w v (pairCells rs)) from h)
  obtain ⟨a, ca, rfl, _, _, hca⟩ := h.pair
  have HS := (show Hid (∀ p ∈ rs, p.1.size ≤ 1099511627776 ∧ p.2.size ≤ 1099511627776) from hs)
  clear h hs hca
  by_cases h20 : 20 < rs.length
  · have hr : attrsOk rs = false := by unfold attrsOk; rw [decide_eq_false (by omega)]; rfl
    rw [hr]
    go_enter Tryz.func29, Tryz.ntmps29
    go_wp2
    go_ret
    exact ⟨rfl, Below.refl _ _⟩
  · have hr : attrsOk rs = attrsTo rs := by unfold attrsOk; rw [decide_eq_true (by omega)]; rfl
    rw [hr]
    have h21 : rs.length ≤ 20 := by omega
    clear hr h20
    go_enter Tryz.func29, Tryz.ntmps29
    go_wp2
    go_loopw [12] (fun i wr => ∃ k : Nat, k ≤ rs.length ∧ i = .int .i64 k ∧ attrsTo (rs.take k) = true ∧ Below w.heap.size w wr) (fun i _ => rs.length - (intOf i).toNat)
    case atStart => exact ⟨0, Nat.zero_le _, rfl, rfl, Below.refl _ _⟩
    case round =>
      obtain ⟨k, hk, rfl, hto, bel⟩ := hrel
      have HTO := (show Hid (attrsTo (rs.take k) = true) from hto)
      clear hto
      by_cases hlt : k < rs.length
      · have hfr := (HV.out.below bel).front (k := k) (by omega)
        obtain ⟨_, _, ev, _, _, hca⟩ := (HV.out.below bel).pair
        cases ev
        obtain ⟨b1, o1, rfl, l1, c1, c2⟩ := hca k hlt
        have hsz := HS.out rs[k] (List.getElem_mem hlt)
        have HBAD : Hid (attrOk rs[k] = false → attrsTo rs = false) := attrsTo_bad hlt
        have HSUC : Hid (attrOk rs[k] = true → (attrOf (rs.take k) rs[k].1).2 = false → attrsTo (rs.take (k + 1)) = true) := fun h1 h2 => attrsTo_succ hlt HTO.out h1 (fun j hj e => by
          have : (attrOf (rs.take k) rs[k].1).2 = true := (attrOf_has _ _).mpr ⟨rs[j]'(by omega), List.mem_take_iff_getElem.mpr ⟨j, by omega, rfl⟩, e⟩
          rw [this] at h2; cases h2)
        have HTW : Hid ((attrOf (rs.take k) rs[k].1).2 = true → attrsTo rs = false) := fun h => by
          obtain ⟨p, hp, e⟩ := (attrOf_has _ _).mp h
          obtain ⟨j, hj, rfl⟩ := List.mem_take_iff_getElem.mp hp
          exact attrsTo_twice (by omega) hlt (by omega) e
        obtain ⟨x, hx⟩ : ∃ x, x = rs[k] := ⟨_, rfl⟩
        rw [← hx] at c1 c2 HBAD HSUC HTW hsz
        clear hx hca
        obtain ⟨xn, xv⟩ := x
        simp only at c1 c2 HBAD HSUC HTW hsz
        obtain ⟨wx, hwx⟩ : ∃ wx, wx = wr.alloc (.cells #[.string xn, .string xv] 81) := ⟨_, rfl⟩
        have bx : Below wr.heap.size wr wx := by rw [hwx]; exact (Below.refl _ _).alloc (Nat.le_refl _) _
        have belx := bel.trans (bx.mono bel.size)
        have hsx : wx.heap.size = wr.heap.size + 1 := by rw [hwx]; simp
        have hxb : wx.heap[wr.heap.size]? = some (.cells #[.string xn, .string xv] 81 (0, 0)) := by rw [hwx]; exact heap_alloc_new _ _
        have hx0 : ∀ n : Wd wx.heap.size wx, n.w.cell? ⟨wr.heap.size, 0, none⟩ = some (.string xn) := fun n => by rw [n.below.cell (p := ⟨wr.heap.size, 0, none⟩) (by show wr.heap.size < wx.heap.size; omega)]; simp only [World.cell?, hxb]; rfl
        have CA := (show Hid (∀ n : Wd wx.heap.size wx, Calls Tryz.prog 57 #[.slice (some ⟨b1, o1, none⟩) k ca, .string xn] n.w fun e w' => e = .returned (.tuple #[.string (attrOf (rs.take k) xn).1, .bool (attrOf (rs.take k) xn).2]) ∧ Below n.w.heap.size n.w w') from fun n => iattrOf_any ((hfr.below bx).below n.below) xn (by simp; omega))
        have CK := (show Hid (∀ w, Calls Tryz.prog 58 #[.agg #[.string xn, .string xv]] w fun e w' => e = .returned (.bool (attrOk (xn, xv))) ∧ Below w.heap.size w w') from fun w => iattrOk_any xn xv w hsz.1 hsz.2)
        obtain ⟨p, hp⟩ : ∃ p, p = attrOf (rs.take k) xn := ⟨_, rfl⟩
        rw [← hp] at CA HSUC HTW
        obtain ⟨q, hq⟩ : ∃ q, q = attrOk (xn, xv) := ⟨_, rfl⟩
        rw [← hq] at CK HSUC HBAD
        obtain ⟨pv, pb⟩ := p
        simp only at CA HSUC HTW
        have HXB := (show Hid _ from hxb)
        have HSX := (show Hid (wx.heap.size = wr.heap.size + 1) from hsx)
        clear hp hq hfr hxb hsx
        go_wp2
        rw [← hwx]
        clear hwx c1 c2
        have ne := Wd.any wx.heap.size wx
        refine wp_region_below (B := wx.heap.size) (w0 := wx) (by kernel_rfl) (by kernel_rfl) (Below.refl _ _) ?_
        repeat (go_big_quiet_step ((go_at_call 57; exact quiet_below (CA.out _) (Nat.le_refl _))))
        refine wpQuiet_nil ?_
        intro wq hq
        replace hq := Wd.of hq
        have hqb := (hq.block wr.heap.size (by have := HSX.out; omega)).trans HXB.out
        have q0 : wq.cell? ⟨wr.heap.size, 0, none⟩ = some (.string xn) := by simp only [World.cell?, hqb]; rfl
        have q1 : wq.cell? ⟨wr.heap.size, 1, none⟩ = some (.string xv) := by simp only [World.cell?, hqb]; rfl
        have belq := belx.trans (hq.mono (by have := belx.size; omega))
        clear hqb hx0
        cases pb
        · cases q
          · go_wp2_with fail
            go_at_call 58
            refine (CK.out _).mono ?_
            rintro e w2 ⟨rfl, b2⟩
            replace b2 := belq.trans (b2.mono belq.size)
            go_wp2
            go_ret
            exact ⟨ret_bool (by rw [HBAD.out (by simp)]), b2⟩
          · go_wp2_with fail
            go_at_call 58
            refine (CK.out _).mono ?_
            rintro e w2 ⟨rfl, b2⟩
            replace b2 := belq.trans (b2.mono belq.size)
            go_wp2
            go_roundw
            case rel => exact ⟨k + 1, by omega, by go_num, HSUC.out (by simp) (by simp), b2⟩
            case measure => simp [intOf]; omega
        · go_wp2
          go_ret
          exact ⟨ret_bool (by rw [HTW.out (by simp)]), belq⟩
      · have hke : k = rs.length := by omega
        have hto := HTO.out
        rw [hke, List.take_length] at hto
        have HT := (show Hid _ from hto)
        clear hto HTO
        go_wp2
        go_ret
        exact ⟨ret_bool HT.out.symm, bel⟩
end Go.Proofs.YtggfifchkecnjaaGreatDoor

/- The exact laws of AttrsOk, AttrOf and AttrsSame, walked from contracts of the program's functions. -/
namespace Go.Proofs.YtggfifchkecnjaaGreatDoor
open Go.RowKit
set_option maxRecDepth 100000
set_option linter.unusedVariables false

def Short (rs : List (ByteArray × ByteArray)) : Prop := rs.length ≤ 1048576 ∧ ∀ p ∈ rs, p.1.size ≤ 1099511627776 ∧ p.2.size ≤ 1099511627776

end Go.Proofs.YtggfifchkecnjaaGreatDoor

/- What a reference takes is just what it tells: names, and the whole of it. -/
namespace Go.Proofs.YtggfifchkecnjaaGreatDoor
open Go.RowKit
set_option maxRecDepth 100000
set_option linter.unusedVariables false

theorem refNum_cut {xs : List Int} {k n : Nat} {x : Int} (h : refNum xs k = (x, (n : Int))) (h0 : 0 < n) : k < n ∧ n ≤ xs.length ∧ refNum (cut xs n) k = (x, (n : Int)) := by
  unfold refNum at h
  by_cases hx : atL xs k = 120 ∨ atL xs k = 88
  · rw [if_pos hx] at h
    obtain ⟨h1, h2, h3⟩ := refDigits_cut (.inr rfl) h h0
    have hk : k < n := by omega
    refine ⟨hk, h2, ?_⟩
    unfold refNum
    rw [cut_lt h2 hk, if_pos hx]; exact h3
  · rw [if_neg hx] at h
    obtain ⟨h1, h2, h3⟩ := refDigits_cut (.inl rfl) h h0
    refine ⟨h1, h2, ?_⟩
    unfold refNum
    rw [cut_lt h2 h1, if_neg hx]; exact h3
theorem refNum_place (xs : List Int) (k : Nat) : ∃ n : Nat, (refNum xs k).2 = (n : Int) := by
  have key : ∀ b f, ∃ n : Nat, (refDigits xs b f).2 = (n : Int) := fun b f => by
    unfold refDigits
    simp only
    split
    · exact ⟨0, rfl⟩
    · exact ⟨_, rfl⟩
  unfold refNum
  split
  · exact key _ _
  · exact key _ _
theorem refNum_point (xs : List Int) (k : Nat) (h : 0 < (refNum xs k).2) : pointOk (refNum xs k).1 = true := by
  have key : ∀ b f, 0 < (refDigits xs b f).2 → pointOk (refDigits xs b f).1 = true := fun b f h => by
    unfold refDigits at h ⊢
    simp only at h ⊢
    by_cases hd : digs b (xs.drop f) = []
    · rw [if_pos hd] at h; exact absurd h (by decide)
    · rw [if_neg hd]; exact (pointOk_refNumber _).1
  unfold refNum at h ⊢
  by_cases hx : atL xs k = 120 ∨ atL xs k = 88
  · rw [if_pos hx] at h ⊢; exact key _ _ h
  · rw [if_neg hx] at h ⊢; exact key _ _ h

theorem best_spec (xs : List Int) (k : Nat) (rs : List (ByteArray × Int)) (b0 : ByteArray × Int) (f : ByteArray × Int) (hf : f = rs.foldl (fun b r => if stands xs k (bs r.1) && decide (b.1.size < r.1.size) then r else b) b0) :
    (f = b0 ∨ (f ∈ rs ∧ stands xs k (bs f.1) = true)) ∧ b0.1.size ≤ f.1.size ∧ ∀ r ∈ rs, stands xs k (bs r.1) = true → r.1.size ≤ f.1.size := by
  induction rs generalizing b0 with
  | nil => subst hf; exact ⟨.inl rfl, Nat.le_refl _, fun r hr => by cases hr⟩
  | cons r rs ih =>
    rw [List.foldl_cons] at hf
    obtain ⟨h1, h2, h3⟩ := ih _ hf
    by_cases hc : (stands xs k (bs r.1) && decide (b0.1.size < r.1.size)) = true
    · rw [if_pos hc] at h1 h2
      simp only [Bool.and_eq_true, decide_eq_true_eq] at hc
      refine ⟨?_, by omega, ?_⟩
      · rcases h1 with rfl | ⟨h1, h1'⟩
        · exact .inr ⟨List.mem_cons_self .., hc.1⟩
        · exact .inr ⟨List.mem_cons_of_mem _ h1, h1'⟩
      · intro q hq hs
        rcases List.mem_cons.mp hq with rfl | hq
        · exact h2
        · exact h3 q hq hs
    · rw [if_neg hc] at h1 h2
      refine ⟨?_, h2, ?_⟩
      · rcases h1 with rfl | ⟨h1, h1'⟩
        · exact .inl rfl
        · exact .inr ⟨List.mem_cons_of_mem _ h1, h1'⟩
      · intro q hq hs
        rcases List.mem_cons.mp hq with rfl | hq
        · have : ¬ b0.1.size < q.1.size := fun h => hc (by simp [hs, h])
          omega
        · exact h3 q hq hs

theorem stands_iff {xs nm : List Int} {k : Nat} : stands xs k nm = true ↔ ∀ i, i < nm.length → atL xs (k + i) = nm.getD i 0 := by
  unfold stands
  rw [List.all_eq_true]
  constructor
  · intro h i hi; simpa using h i (List.mem_range.mpr hi)
  · intro h i hi; simpa using h i (List.mem_range.mp hi)
theorem refList_plain : ∀ r ∈ refList, (∀ i, i < 7 → (bs r.1).getD i 0 ≠ 32) ∧ pointOk r.2 = true ∧ 0 < r.1.size := by
  have h : ∀ r ∈ refList, (∀ i : Fin 7, (bs r.1).getD i.1 0 ≠ 32) ∧ pointOk r.2 = true ∧ 0 < r.1.size := by decide
  intro r hr
  obtain ⟨h1, h2⟩ := h r hr
  exact ⟨fun i hi => h1 ⟨i, hi⟩, h2⟩
theorem stands_len {xs : List Int} {k : Nat} {s : ByteArray} (h : stands xs k (bs s) = true) (h0 : 0 < s.size) : k + s.size ≤ xs.length := by
  have hl := bs_len s
  have := stands_iff.mp h (s.size - 1) (by omega)
  have hb := (bs_bound s (s.size - 1)).1
  have := atL_lt (xs := xs) (j := k + (s.size - 1)) (by omega)
  omega

theorem best_cut {xs : List Int} {k n : Nat} (h0 : 0 < (best xs k refList).1.size) (hn : n = k + (best xs k refList).1.size) (hnl : n ≤ xs.length) : best (cut xs n) k refList = best xs k refList := by
  obtain ⟨h1, h2, h3⟩ := best_spec xs k refList (⟨#[]⟩, 0) (best xs k refList) rfl
  have hst : ∀ r ∈ refList, stands (cut xs n) k (bs r.1) = stands xs k (bs r.1) := by
    intro r hr
    have hl := bs_len r.1
    by_cases hs : r.1.size ≤ (best xs k refList).1.size
    · rw [Bool.eq_iff_iff, stands_iff, stands_iff]
      constructor
      · intro h i hi
        rw [← cut_lt hnl (by omega)]; exact h i hi
      · intro h i hi
        rw [cut_lt hnl (by omega)]; exact h i hi
    · have e1 : stands xs k (bs r.1) = false := by
        rcases he : stands xs k (bs r.1) with _ | _
        · rfl
        · exact absurd (h3 r hr he) hs
      rw [e1]
      rcases he : stands (cut xs n) k (bs r.1) with _ | _
      · rfl
      · have := stands_iff.mp he (best xs k refList).1.size (by omega)
        rw [← hn, cut_at hnl] at this
        have hsz := refList_size r hr
        exact absurd this.symm ((refList_plain r hr).1 _ (by omega))
  unfold best
  have key : ∀ (rs : List (ByteArray × Int)) (b0 : ByteArray × Int), (∀ r ∈ rs, stands (cut xs n) k (bs r.1) = stands xs k (bs r.1)) →
      rs.foldl (fun b r => if stands (cut xs n) k (bs r.1) && decide (b.1.size < r.1.size) then r else b) b0 = rs.foldl (fun b r => if stands xs k (bs r.1) && decide (b.1.size < r.1.size) then r else b) b0 := by
    intro rs
    induction rs with
    | nil => intro b0 _; rfl
    | cons r rs ih =>
      intro b0 hr
      rw [List.foldl_cons, List.foldl_cons, hr r (List.mem_cons_self ..)]
      exact ih _ (fun q hq => hr q (List.mem_cons_of_mem _ hq))
  exact key refList _ hst

theorem cut_len {xs : List Int} {n : Nat} (h : n ≤ xs.length) : (cut xs n).length = n + 1 := by simp [cut]; omega
theorem cut_get {xs : List Int} {n j : Nat} (hn : n ≤ xs.length) (hj : j < n) : (cut xs n).getD j 0 = xs.getD j 0 := by
  rw [← atL_in (xs := xs) (by omega), ← cut_lt hn hj, atL_in (by rw [cut_len hn]; omega)]

theorem refRead_law {xs : List Int} {i : Int} {b : Bool} (hne : (refRead xs i b).1 ≠ []) : ∃ (k n : Nat) (y : Int), i = k ∧ k < xs.length ∧ refRead xs i b = ([y], (n : Int)) ∧ pointOk y = true ∧ k < n ∧ n ≤ xs.length ∧
    ((n = k + 1 ∧ y = 38) ∨ (n + 1 ≤ 3000 → refRead (cut xs n) k b = ([y], (n : Int)))) := by
  by_cases hi : 3000 < xs.length ∨ inB i 0 (xs.length - 1) = false ∨ xs.getD i.toNat 0 ≠ 38
  · rw [refRead_none hi] at hne; exact absurd rfl hne
  · have h1 : xs.length ≤ 3000 := by omega
    have h2 : inB i 0 (xs.length - 1) = true := by
      rcases h2 : inB i 0 (xs.length - 1) with _ | _
      · exact absurd (.inr (.inl h2)) hi
      · rfl
    have h3 : xs.getD i.toNat 0 = 38 := by
      by_cases h3 : xs.getD i.toNat 0 = 38
      · exact h3
      · exact absurd (.inr (.inr h3)) hi
    have h4 : 0 ≤ i ∧ i ≤ xs.length - 1 := by unfold inB at h2; simpa using h2
    obtain ⟨k, rfl⟩ : ∃ k : Nat, i = k := ⟨i.toNat, by omega⟩
    rw [Int.toNat_natCast] at h3
    have hk : k < xs.length := by omega
    by_cases h5 : atL xs (k + 1) = 35
    · rw [refRead_num h1 hk h3 h5]
      by_cases hp : 0 < (refNum xs (k + 2)).2
      · rw [if_pos hp]
        obtain ⟨n, hn⟩ := refNum_place xs (k + 2)
        have hpt := refNum_point xs (k + 2) hp
        have hn0 : 0 < n := by omega
        obtain ⟨c1, c2, c3⟩ := refNum_cut (xs := xs) (k := k + 2) (n := n) (x := (refNum xs (k + 2)).1) (by rw [← hn]) hn0
        refine ⟨k, n, _, rfl, hk, by rw [hn], hpt, by omega, c2, .inr fun h30 => ?_⟩
        rw [refRead_num (by rw [cut_len c2]; omega) (by rw [cut_len c2]; omega) (by rw [cut_get c2 (by omega)]; exact h3) (by rw [cut_lt c2 (by omega)]; exact h5), c3, if_pos (by simp only; omega)]
      · rw [if_neg hp]
        exact ⟨k, k + 1, 38, rfl, hk, by push_cast; rfl, by decide, by omega, by omega, .inl ⟨rfl, rfl⟩⟩
    · rw [refRead_name h1 hk h3 h5]
      obtain ⟨r, hr⟩ : ∃ r, r = best xs (k + 1) refList := ⟨_, rfl⟩
      by_cases hz : r.1.size = 0
      · rw [refName_zero (by rw [← hr]; exact hz)]
        exact ⟨k, k + 1, 38, rfl, hk, by push_cast; rfl, by decide, by omega, by omega, .inl ⟨rfl, rfl⟩⟩
      · rcases hbar : (b && (((bs r.1).getD (r.1.size - 1) 0) != 59) && (atL xs (k + 1 + r.1.size) == 61 || (inB (atL xs (k + 1 + r.1.size)) 65 90 || inB (atL xs (k + 1 + r.1.size)) 97 122) || decide (0 ≤ digitOf (atL xs (k + 1 + r.1.size)) 10))) with _ | _
        · rw [refName_hit hr hz rfl rfl hbar]
          obtain ⟨s1, s2, s3⟩ := best_spec xs (k + 1) refList (⟨#[]⟩, 0) (best xs (k + 1) refList) rfl
          rw [← hr] at s1
          have hmem : r ∈ refList ∧ stands xs (k + 1) (bs r.1) = true := by
            rcases s1 with s1 | s1
            · rw [s1] at hz; exact absurd rfl hz
            · exact s1
          have hnl := stands_len hmem.2 (by omega)
          have hbc := best_cut (xs := xs) (k := k + 1) (n := k + 1 + r.1.size) (by rw [← hr]; omega) (by rw [← hr]) hnl
          refine ⟨k, k + 1 + r.1.size, r.2, rfl, hk, by push_cast; rfl, (refList_plain r hmem.1).2.1, by omega, hnl, .inr fun h30 => ?_⟩
          rw [refRead_name (by rw [cut_len hnl]; omega) (by rw [cut_len hnl]; omega) (by rw [cut_get hnl (by omega)]; exact h3) (by rw [cut_lt hnl (by omega)]; exact h5)]
          have h32 : (b && (((bs r.1).getD (r.1.size - 1) 0) != 59) && ((32 : Int) == 61 || (inB 32 65 90 || inB 32 97 122) || decide (0 ≤ digitOf 32 10))) = false := by
            have : ((32 : Int) == 61 || (inB 32 65 90 || inB 32 97 122) || decide (0 ≤ digitOf 32 10)) = false := by decide
            rw [this, Bool.and_false]
          rw [refName_hit (r := r) (c := 32) (hr.trans hbc.symm) hz rfl (cut_at hnl).symm h32]
          push_cast; rfl
        · rw [refName_bar hr hz rfl rfl hbar]
          exact ⟨k, k + 1, 38, rfl, hk, by push_cast; rfl, by decide, by omega, by omega, .inl ⟨rfl, rfl⟩⟩
end Go.Proofs.YtggfifchkecnjaaGreatDoor

/- Tokens as plain values: what TokenOk says of one, and the program's helpers. -/
namespace Go.Proofs.YtggfifchkecnjaaGreatDoor
open Go.RowKit
set_option maxRecDepth 100000
set_option linter.unusedVariables false

theorem read_ok {xs : List Int} (h : utfOk xs = true) : utfRead xs = dec xs := by
  unfold utfOk at h
  simp only [Bool.and_eq_true, decide_eq_true_eq] at h
  obtain ⟨hl, hp⟩ := h
  have hr : utfRead xs = dec (unmark xs) := by unfold utfRead; rw [if_pos hl]
  rw [hr]
  unfold unmark
  by_cases h3 : xs.take 3 = [239, 187, 191]
  · exfalso
    have hu : unmark xs = xs.drop 3 := by unfold unmark; rw [if_pos h3]
    have hlen := utfRead_len xs
    rw [hr, hu] at hp hlen
    have hq : puts (dec (xs.drop 3)) = xs := by unfold pointsPut at hp; rw [if_pos hlen] at hp; exact hp
    have e1 : dec xs = (dec (xs.drop 3)).map pt := by rw [← dec_puts, hq]
    have e2 : xs = enc 65279 ++ xs.drop 3 := by
      have e := (List.take_append_drop 3 xs).symm
      rw [h3] at e
      exact e
    have e3 : dec xs = 65279 :: dec (xs.drop 3) := by
      rw [e2, dec_enc (by decide) (by decide) (by decide)]
      simp [enc]
    have := congrArg List.length (e1.symm.trans e3)
    simp at this
  · rw [if_neg h3]

def tokVal (k : Int) (nm : ByteArray) (va : Value) (tx : ByteArray) (sf : Bool) : Value := .agg #[.int .i64 k, .string nm, va, .string tx, .bool sf]

set_option maxHeartbeats 1000000 in
set_option maxRecDepth 100000 in
theorem hasNothing_any (k : Int) (nm : ByteArray) (a : Option Addr) (n ca : Nat) (tx : ByteArray) (sf : Bool) (w : World) (hn : n ≤ 1048576) :
    Calls Tryz.prog 30 #[tokVal k nm (.slice a n ca) tx sf] w fun e w' => e = .returned (.bool (nm.toList.isEmpty && decide (n = 0) && tx.toList.isEmpty && !sf)) ∧ Below w.heap.size w w' := by
  unfold tokVal
  have b1 : Below w.heap.size w (w.alloc (.cells #[.int .i64 k, .string nm, .slice a n ca, .string tx, .bool sf] 30)) := (Below.refl _ _).alloc (Nat.le_refl _) _
  obtain ⟨q1, e1⟩ : ∃ q, q = nm.toList.isEmpty := ⟨_, rfl⟩
  obtain ⟨q2, e2⟩ : ∃ q, q = tx.toList.isEmpty := ⟨_, rfl⟩
  rw [← e1, ← e2]
  replace e1 := e1.symm
  replace e2 := e2.symm
  cases q1
  · go_enter Tryz.func30, Tryz.ntmps30
    go_wp2
    go_ret
    exact ⟨ret_bool (by simp), b1⟩
  · by_cases h0 : n = 0
    · subst h0
      cases q2
      · go_enter Tryz.func30, Tryz.ntmps30
        go_wp2
        go_ret
        exact ⟨ret_bool (by simp), b1⟩
      · cases sf
        all_goals
          go_enter Tryz.func30, Tryz.ntmps30
          go_wp2
          go_ret
          exact ⟨ret_bool (by simp), b1⟩
    · have h0' : ((n : Int) == 0) = false := by simp; omega
      go_enter Tryz.func30, Tryz.ntmps30
      go_wp2
      go_ret
      exact ⟨ret_bool (by simp [h0]), b1⟩

def tokenOk (k : Int) (nm : ByteArray) (rs : List (ByteArray × ByteArray)) (tx : ByteArray) (sf : Bool) : Bool :=
  if k = 1 then decide (rs.length = 0) && !sf && nm.toList.isEmpty && tx.toList.isEmpty
  else if k = 2 then decide (rs.length = 0) && !sf && nm.toList.isEmpty && utfOk (bs tx) && decide ((dec (bs tx)).length = 1)
  else if k = 3 then decide (rs.length = 0) && !sf && nm.toList.isEmpty && utfOk (bs tx)
  else if k = 4 then decide (rs.length = 0) && !sf && tx.toList.isEmpty && decide (nm.size ≤ 60) && utfOk (bs nm)
  else if k = 5 then tx.toList.isEmpty && nameOk (bs nm) && attrsOk rs
  else if k = 6 then decide (rs.length = 0) && !sf && tx.toList.isEmpty && nameOk (bs nm)
  else false

def TokAt (w : World) (g : Nat) (k : Int) (nm : ByteArray) (va : Value) (tx : ByteArray) (sf : Bool) : Prop := w.heap[g]? = some (.cells #[.int .i64 k, .string nm, va, .string tx, .bool sf] 30 (0, 0))
theorem TokAt.below {w w' : World} {g : Nat} {k : Int} {nm : ByteArray} {va : Value} {tx : ByteArray} {sf : Bool} (h : TokAt w g k nm va tx sf) (hb : Below w.heap.size w w') : TokAt w' g k nm va tx sf := by
  unfold TokAt at *
  rw [hb.block g (lt_of_block h)]; exact h
theorem TokAt.cells {w : World} {g : Nat} {k : Int} {nm : ByteArray} {va : Value} {tx : ByteArray} {sf : Bool} (h : TokAt w g k nm va tx sf) : w.cell? ⟨g, 0, none⟩ = some (.int .i64 k) ∧ w.cell? ⟨g, 1, none⟩ = some (.string nm) ∧ w.cell? ⟨g, 2, none⟩ = some va ∧ w.cell? ⟨g, 3, none⟩ = some (.string tx) ∧ w.cell? ⟨g, 4, none⟩ = some (.bool sf) := by
  unfold TokAt at h
  refine ⟨?_, ?_, ?_, ?_, ?_⟩ <;> simp [World.cell?, h]
structure TokFit (nm : ByteArray) (rs : List (ByteArray × ByteArray)) (tx : ByteArray) : Prop where
  hnm : nm.size ≤ 1048576
  htx : tx.size ≤ 1048576
  hrs : rs.length ≤ 1048576
  each : ∀ p ∈ rs, p.1.size ≤ 1099511627776 ∧ p.2.size ≤ 1099511627776
end Go.Proofs.YtggfifchkecnjaaGreatDoor

/- What the exact law of AttrAdd asks of the program's function, and rows of values that are apart. -/
namespace Go.Proofs.YtggfifchkecnjaaGreatDoor
open Go.RowKit
set_option maxRecDepth 100000
set_option linter.unusedVariables false
theorem row_base {B B' size n : Nat} {e : TypeId} {w : World} {v : Value} {xs : List Value} (h : w.ownsRow B e size v n xs) (hB : B' ≤ B) : w.ownsRow B' e size v n xs := by
  obtain ⟨hl, hv | ⟨g, cap, cur, hv, hb, r⟩⟩ := h
  · exact ⟨hl, .inl hv⟩
  · exact ⟨hl, .inr ⟨g, cap, cur, hv, Nat.le_trans hB hb, r⟩⟩

def AttrAddOk : Prop := ∀ (v : Value) (rs : List (ByteArray × ByteArray)) (p : ByteArray × ByteArray) (w : World), Sv 2 w v (pairCells rs) → Short rs → p.1.size ≤ 1099511627776 → p.2.size ≤ 1099511627776 →
  Calls Tryz.prog 134 #[v, .agg #[.string p.1, .string p.2]] w fun e w' => ∃ v', e = .returned v' ∧ w'.ownsRow w.heap.size 81 2 v' (attrAdd rs p).length (pairCells (attrAdd rs p)) ∧ Below w.heap.size w w'

end Go.Proofs.YtggfifchkecnjaaGreatDoor
