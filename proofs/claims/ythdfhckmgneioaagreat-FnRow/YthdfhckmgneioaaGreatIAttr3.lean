/- The contract of the program's AttrsOk. -/
import Derived.Test.YthdfhckmgneioaaGreatIAttr2
import Derived.Test.YthdfhckmgneioaaGreatSAttr2
import Derived.Test.YthdfhckmgneioaaGreatRegB
namespace Go.Proofs.YthdfhckmgneioaaGreat
open Go.RowKit
set_option maxRecDepth 100000
set_option linter.unusedVariables false

theorem pairCells_take (rs : List (ByteArray × ByteArray)) (k : Nat) (hk : k ≤ rs.length) : pairCells (rs.take k) = (pairCells rs).take (k * 2) := by
  induction rs generalizing k with
  | nil => simp [pairCells]
  | cons r rs ih =>
    cases k with
    | zero => simp [pairCells]
    | succ k =>
      have := ih k (by simpa using hk)
      simp only [pairCells, List.take_succ_cons, List.flatMap_cons] at this ⊢
      rw [this, show (k + 1) * 2 = k * 2 + 1 + 1 by omega]
      rfl
theorem Sv.front {w : World} {a : Option Addr} {n cap k : Nat} {rs : List (ByteArray × ByteArray)} (h : Sv 2 w (.slice a n cap) (pairCells rs)) (hk : k ≤ rs.length) : Sv 2 w (.slice a k cap) (pairCells (rs.take k)) := by
  obtain ⟨a', len, cap', e, h1, h2, h3, h4, hc⟩ := h
  cases e
  have hl := pairCells_len rs
  rw [pairCells_take rs k hk]
  have hl2 : ((pairCells rs).take (k * 2)).length = k * 2 := by simp; omega
  refine ⟨a, k, cap, rfl, hl2, by omega, h3, h4, fun i hi => ?_⟩
  obtain ⟨b, off, e, c⟩ := hc i (by omega)
  refine ⟨b, off, e, ?_⟩
  rw [c]
  congr 1
  simp only [List.getD_eq_getElem?_getD]
  rw [List.getElem?_take_of_lt (by omega)]
theorem attrOf_has (l : List (ByteArray × ByteArray)) (nm : ByteArray) : (attrOf l nm).2 = true ↔ ∃ p ∈ l, p.1 = nm := by
  induction l with
  | nil => simp [attrOf]
  | cons p ps ih =>
    unfold attrOf
    by_cases h : p.1 = nm
    · rw [if_pos h]; simp [h]
    · rw [if_neg h, ih]; simp [h]

set_option maxHeartbeats 2000000 in
set_option maxRecDepth 100000 in
theorem iattrsOk_any {v : Value} {rs : List (ByteArray × ByteArray)} {w : World} (h : Sv 2 w v (pairCells rs)) (hn : rs.length ≤ 1099511627776) (hs : ∀ p ∈ rs, p.1.size ≤ 1099511627776 ∧ p.2.size ≤ 1099511627776) :
    Calls Tryz.prog 90 #[v] w fun e w' => e = .returned (.bool (attrsOk rs)) ∧ Below w.heap.size w w' := by
  have HV := (show Hid (Sv 2 w v (pairCells rs)) from h)
  obtain ⟨a, ca, rfl, _, _, hca⟩ := h.pair
  have HS := (show Hid (∀ p ∈ rs, p.1.size ≤ 1099511627776 ∧ p.2.size ≤ 1099511627776) from hs)
  clear h hs hca
  by_cases h20 : 20 < rs.length
  · have hr : attrsOk rs = false := by unfold attrsOk; rw [decide_eq_false (by omega)]; rfl
    rw [hr]
    go_enter Tryz.func90, Tryz.ntmps90
    go_wp2
    go_ret
    exact ⟨rfl, Below.refl _ _⟩
  · have hr : attrsOk rs = attrsTo rs := by unfold attrsOk; rw [decide_eq_true (by omega)]; rfl
    rw [hr]
    have h21 : rs.length ≤ 20 := by omega
    clear hr h20
    go_enter Tryz.func90, Tryz.ntmps90
    go_wp2
    go_loopw [12] (fun i wr => ∃ k : Nat, k ≤ rs.length ∧ i = .int .i64 k ∧ attrsTo (rs.take k) = true ∧ Below w.heap.size w wr) (fun i _ => rs.length - (intOf i).toNat)
    case atStart => exact ⟨0, Nat.zero_le _, rfl, rfl, Below.refl _ _⟩
    case round =>
      obtain ⟨k, hk, rfl, hto, bel⟩ := hrel
      have HTO := (show Hid (attrsTo (rs.take k) = true) from hto)
      clear hto
      by_cases hlt : k < rs.length
      · have hfr := (HV.out.below bel).front (k := k) (by omega)
        obtain ⟨_, _, ev, _, _, hca⟩ := (HV.out.below bel).pair
        cases ev
        obtain ⟨b1, o1, rfl, l1, c1, c2⟩ := hca k hlt
        have hsz := HS.out rs[k] (List.getElem_mem hlt)
        have HBAD : Hid (attrOk rs[k] = false → attrsTo rs = false) := attrsTo_bad hlt
        have HSUC : Hid (attrOk rs[k] = true → (attrOf (rs.take k) rs[k].1).2 = false → attrsTo (rs.take (k + 1)) = true) := fun h1 h2 => attrsTo_succ hlt HTO.out h1 (fun j hj e => by
          have : (attrOf (rs.take k) rs[k].1).2 = true := (attrOf_has _ _).mpr ⟨rs[j]'(by omega), List.mem_take_iff_getElem.mpr ⟨j, by omega, rfl⟩, e⟩
          rw [this] at h2; cases h2)
        have HTW : Hid ((attrOf (rs.take k) rs[k].1).2 = true → attrsTo rs = false) := fun h => by
          obtain ⟨p, hp, e⟩ := (attrOf_has _ _).mp h
          obtain ⟨j, hj, rfl⟩ := List.mem_take_iff_getElem.mp hp
          exact attrsTo_twice (by omega) hlt (by omega) e
        obtain ⟨x, hx⟩ : ∃ x, x = rs[k] := ⟨_, rfl⟩
        rw [← hx] at c1 c2 HBAD HSUC HTW hsz
        clear hx hca
        obtain ⟨xn, xv⟩ := x
        simp only at c1 c2 HBAD HSUC HTW hsz
        obtain ⟨wx, hwx⟩ : ∃ wx, wx = wr.alloc (.cells #[.string xn, .string xv] 110) := ⟨_, rfl⟩
        have bx : Below wr.heap.size wr wx := by rw [hwx]; exact (Below.refl _ _).alloc (Nat.le_refl _) _
        have belx := bel.trans (bx.mono bel.size)
        have hsx : wx.heap.size = wr.heap.size + 1 := by rw [hwx]; simp
        have hxb : wx.heap[wr.heap.size]? = some (.cells #[.string xn, .string xv] 110 (0, 0)) := by rw [hwx]; exact heap_alloc_new _ _
        have hx0 : ∀ n : Wd wx.heap.size wx, n.w.cell? ⟨wr.heap.size, 0, none⟩ = some (.string xn) := fun n => by rw [n.below.cell (p := ⟨wr.heap.size, 0, none⟩) (by show wr.heap.size < wx.heap.size; omega)]; simp only [World.cell?, hxb]; rfl
        have CA := (show Hid (∀ n : Wd wx.heap.size wx, Calls Tryz.prog 102 #[.slice (some ⟨b1, o1, none⟩) k ca, .string xn] n.w fun e w' => e = .returned (.tuple #[.string (attrOf (rs.take k) xn).1, .bool (attrOf (rs.take k) xn).2]) ∧ Below n.w.heap.size n.w w') from fun n => iattrOf_any ((hfr.below bx).below n.below) xn (by simp; omega))
        have CK := (show Hid (∀ w, Calls Tryz.prog 103 #[.agg #[.string xn, .string xv]] w fun e w' => e = .returned (.bool (attrOk (xn, xv))) ∧ Below w.heap.size w w') from fun w => iattrOk_any xn xv w hsz.1 hsz.2)
        obtain ⟨p, hp⟩ : ∃ p, p = attrOf (rs.take k) xn := ⟨_, rfl⟩
        rw [← hp] at CA HSUC HTW
        obtain ⟨q, hq⟩ : ∃ q, q = attrOk (xn, xv) := ⟨_, rfl⟩
        rw [← hq] at CK HSUC HBAD
        obtain ⟨pv, pb⟩ := p
        simp only at CA HSUC HTW
        have HXB := (show Hid _ from hxb)
        have HSX := (show Hid (wx.heap.size = wr.heap.size + 1) from hsx)
        clear hp hq hfr hxb hsx
        go_wp2
        rw [← hwx]
        clear hwx c1 c2
        have ne := Wd.any wx.heap.size wx
        refine wp_region_below (B := wx.heap.size) (w0 := wx) (by kernel_rfl) (by kernel_rfl) (Below.refl _ _) ?_
        repeat (go_big_quiet_step ((go_at_call 102; exact quiet_below (CA.out _) (Nat.le_refl _))))
        refine wpQuiet_nil ?_
        intro wq hq
        replace hq := Wd.of hq
        have hqb := (hq.block wr.heap.size (by have := HSX.out; omega)).trans HXB.out
        have q0 : wq.cell? ⟨wr.heap.size, 0, none⟩ = some (.string xn) := by simp only [World.cell?, hqb]; rfl
        have q1 : wq.cell? ⟨wr.heap.size, 1, none⟩ = some (.string xv) := by simp only [World.cell?, hqb]; rfl
        have belq := belx.trans (hq.mono (by have := belx.size; omega))
        clear hqb hx0
        cases pb
        · cases q
          · go_wp2_with fail
            go_at_call 103
            refine (CK.out _).mono ?_
            rintro e w2 ⟨rfl, b2⟩
            replace b2 := belq.trans (b2.mono belq.size)
            go_wp2
            go_ret
            exact ⟨ret_bool (by rw [HBAD.out (by simp)]), b2⟩
          · go_wp2_with fail
            go_at_call 103
            refine (CK.out _).mono ?_
            rintro e w2 ⟨rfl, b2⟩
            replace b2 := belq.trans (b2.mono belq.size)
            go_wp2
            go_roundw
            case rel => exact ⟨k + 1, by omega, by go_num, HSUC.out (by simp) (by simp), b2⟩
            case measure => simp [intOf]; omega
        · go_wp2
          go_ret
          exact ⟨ret_bool (by rw [HTW.out (by simp)]), belq⟩
      · have hke : k = rs.length := by omega
        have hto := HTO.out
        rw [hke, List.take_length] at hto
        have HT := (show Hid _ from hto)
        clear hto HTO
        go_wp2
        go_ret
        exact ⟨ret_bool HT.out.symm, bel⟩
end Go.Proofs.YthdfhckmgneioaaGreat
