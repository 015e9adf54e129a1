/- Contracts of the program's functions on attributes: the first that fits, and AttrOf. -/
import Derived.Test.YtogdbjafibejdaaGreatX13
import Derived.Laws.ResultCell
import Derived.Test.YtogdbjafibejdaaGreatX12
import Derived.Test.YtogdbjafibejdaaGreatX3
import Derived.Test.YtogdbjafibejdaaGreatX6
import Derived.Test.YtogdbjafibejdaaGreatX7
import Derived.Test.YtogdbjafibejdaaGreatX14
namespace Go.Proofs.YtogdbjafibejdaaGreat
open Go.RowKit
set_option maxRecDepth 100000
set_option linter.unusedVariables false

theorem attrOf1_any (g : Nat) (nm x y : ByteArray) (w : World) (hg : w.cell? ⟨g, 0, none⟩ = some (.string nm)) (hlt : g < w.heap.size) :
    Calls Tryz.prog 191 #[.agg #[.string x, .string y], .pointer (some ⟨g, 0, none⟩)] w fun e w' => e = .returned (.bool (decide (x = nm))) ∧ Below w.heap.size w w' := by
  have hb : Below w.heap.size w (w.alloc (.cells #[.string x, .string y] 115)) := (Below.refl _ _).alloc (Nat.le_refl _) _
  have hg2 := (hb.cell (p := ⟨g, 0, none⟩) hlt).trans hg
  by_cases hm : x = nm
  · rw [decide_eq_true hm]
    subst hm
    go_enter Tryz.func191, Tryz.ntmps191
    go_wp2
    go_ret
    exact ⟨rfl, hb⟩
  · rw [decide_eq_false hm]
    have hd := toList_ne hm
    go_enter Tryz.func191, Tryz.ntmps191
    go_wp2
    go_ret
    exact ⟨rfl, hb⟩

theorem setCell_at {w : World} {b k : Nat} {cs : Array Value} {u : Value} {t : TypeId} (h : w.heap[b]? = some (.cells cs t (0, 0))) : (w.setCell ⟨b, k, none⟩ u).heap[b]? = some (.cells (cs.setIfInBounds k u) t (0, 0)) := by
  have hlt := lt_of_block h
  have h' : w.heap[b] = .cells cs t (0, 0) := by simpa [Array.getElem?_eq_getElem hlt] using h
  show (w.heap.modify b _)[b]? = _
  rw [Array.getElem?_eq_getElem (by simpa using hlt), Array.getElem_modify_self, h']
  rfl
theorem first_res {tmps : Array Value} {w : World} {g : Nat} {x y : ByteArray} {b : Bool} (h4 : tmps.getD 4 undef = .pointer (some ⟨g, 0, none⟩)) (h5 : tmps.getD 5 undef = .bool b) (hb : w.heap[g]? = some (.cells #[.string x, .string y] 115 (0, 0))) :
    (results Tryz.f190 tmps).run Tryz.prog w = .ok (.tuple #[.agg #[.string x, .string y], .bool b]) w := by
  rw [results_cell_tmp (p := 4) (u := 5) (ty := 115) rfl, h4, h5]
  simp [asAddr, run_loadVar_row w g 115 115 #[.string x, .string y] (0, 0) _ hb Tryz.underlying115 rfl rfl, Result.andThen]

/-- The first of that name: its name. -/
def attrNm (rs : List (ByteArray × ByteArray)) (nm : ByteArray) : ByteArray := if (attrOf rs nm).2 then nm else ⟨#[]⟩

set_option maxHeartbeats 2000000 in
set_option maxRecDepth 100000 in
theorem firstName_any {v : Value} {rs : List (ByteArray × ByteArray)} {w : World} (h : Sv 2 w v (pairCells rs)) (g : Nat) (nm : ByteArray) (hg : w.cell? ⟨g, 0, none⟩ = some (.string nm)) (hgl : g < w.heap.size) (hn : rs.length ≤ 1099511627776) :
    Calls Tryz.prog 190 #[v, .func (.func 191) #[] #[.pointer (some ⟨g, 0, none⟩)]] w fun e w' => e = .returned (.tuple #[.agg #[.string (attrNm rs nm), .string (attrOf rs nm).1], .bool (attrOf rs nm).2]) ∧ Below w.heap.size w w' := by
  have HS := (show Hid (Sv 2 w v (pairCells rs)) from h)
  obtain ⟨a, ca, rfl, _, _, hca⟩ := h.pair
  clear h hca
  have HG := (show Hid (w.cell? ⟨g, 0, none⟩ = some (.string nm)) from hg)
  clear hg
  go_enter Tryz.func190, Tryz.ntmps190
  go_wp2
  obtain ⟨w0, hw0⟩ : ∃ w0, w0 = w.alloc (.cells #[.string ⟨#[]⟩, .string ⟨#[]⟩] 115) := ⟨_, rfl⟩
  have hsz0 : w0.heap.size = w.heap.size + 1 := by rw [hw0]; simp
  have bel0 : Below w.heap.size w w0 := by rw [hw0]; exact (Below.refl _ _).alloc (Nat.le_refl _) _
  have hres0 : w0.heap[w.heap.size]? = some (.cells #[.string ⟨#[]⟩, .string ⟨#[]⟩] 115 (0, 0)) := by rw [hw0]; exact heap_alloc_new _ _
  rw [← hw0]
  go_loopw [11] (fun i wr => ∃ k : Nat, k ≤ rs.length ∧ i = .int .i64 k ∧ attrOf (rs.drop k) nm = attrOf rs nm ∧ Below w0.heap.size w0 wr) (fun i _ => rs.length - (intOf i).toNat)
  case atStart => exact ⟨0, Nat.zero_le _, rfl, rfl, Below.refl _ _⟩
  case round =>
    obtain ⟨k, hk, rfl, he, bel⟩ := hrel
    have BW : Hid (Below w.heap.size w wr) := bel0.trans (bel.mono (by omega))
    have hresr : wr.heap[w.heap.size]? = some (.cells #[.string ⟨#[]⟩, .string ⟨#[]⟩] 115 (0, 0)) := by rw [bel.block _ (by omega)]; exact hres0
    have hwl : w.heap.size < wr.heap.size := by have := bel.size; omega
    by_cases hlt : k < rs.length
    · obtain ⟨_, _, ev, _, _, hca⟩ := (HS.out.below BW.out).pair
      cases ev
      obtain ⟨b1, o1, rfl, l1, c1, c2⟩ := hca k hlt
      rw [attrOf_drop hlt] at he
      obtain ⟨x, hx⟩ : ∃ x, x = rs[k] := ⟨_, rfl⟩
      rw [← hx] at c1 c2 he
      have HE := (show Hid _ from he)
      clear he hx hca
      obtain ⟨xn, xv⟩ := x
      simp only at c1 c2 HE
      have bx : Below wr.heap.size wr (wr.alloc (.cells #[.string xn, .string xv] 115)) := (Below.refl _ _).alloc (Nat.le_refl _) _
      have cc := attrOf1_any g nm xn xv (wr.alloc (.cells #[.string xn, .string xv] 115)) ((bx.cell (p := ⟨g, 0, none⟩) (by show g < wr.heap.size; omega)).trans ((BW.out.cell (p := ⟨g, 0, none⟩) hgl).trans HG.out)) (by simp; omega)
      have hxb : (wr.alloc (.cells #[.string xn, .string xv] 115)).heap[wr.heap.size]? = some (.cells #[.string xn, .string xv] 115 (0, 0)) := heap_alloc_new _ _
      have hrb : (wr.alloc (.cells #[.string xn, .string xv] 115)).heap[w.heap.size]? = some (.cells #[.string ⟨#[]⟩, .string ⟨#[]⟩] 115 (0, 0)) := by rw [bx.block _ hwl]; exact hresr
      have hsa : (wr.alloc (.cells #[.string xn, .string xv] 115)).heap.size = wr.heap.size + 1 := by simp
      by_cases hm : xn = nm
      · rw [decide_eq_true hm] at cc
        have HE2 : Hid (attrOf rs nm = (xv, true)) := by have := HE.out; rw [if_pos hm] at this; exact this.symm
        clear HE
        subst hm
        go_wp2_with fail
        go_at_call 191
        refine cc.mono ?_
        rintro e w2 ⟨rfl, b2⟩
        have hx2 := (b2.block wr.heap.size (by omega)).trans hxb
        have hr2 := (b2.block w.heap.size (by omega)).trans hrb
        have x0 : w2.cell? ⟨wr.heap.size, 0, none⟩ = some (.string xn) := by simp [World.cell?, hx2]
        have x1 : w2.cell? ⟨wr.heap.size, 1, none⟩ = some (.string xv) := by simp [World.cell?, hx2]
        have r0 : w2.cell? ⟨w.heap.size, 0, none⟩ = some (.string ⟨#[]⟩) := by simp [World.cell?, hr2]
        have r1 : w2.cell? ⟨w.heap.size, 1, none⟩ = some (.string ⟨#[]⟩) := by simp [World.cell?, hr2]
        have f0 : w2.frozen? ⟨w.heap.size, 0, none⟩ = false := by simp [World.frozen?, hr2]
        have f1 : w2.frozen? ⟨w.heap.size, 1, none⟩ = false := by simp [World.frozen?, hr2]
        have BW2 : Hid (Below w.heap.size w w2) := BW.out.trans ((bx.trans (b2.mono (by omega))).mono (by omega))
        have hr3 := (show Hid _ from setCell_at (k := 1) (u := .string xv) (setCell_at (k := 0) (u := .string xn) hr2))
        clear c1 c2 cc hx2 hr2 hxb hrb hresr
        go_wp2
        (try simp only [Exit.inBlock, Exit.then])
        refine bodyPost_ret (first_res (x := xn) (y := xv) (b := true) rfl rfl hr3.out) rfl ?_
        exact ⟨by unfold attrNm; rw [HE2.out]; rfl, (BW2.out.setCell (Nat.le_refl _) _).setCell (Nat.le_refl _) _⟩
      · rw [decide_eq_false hm] at cc
        have HE2 := HE.out
        rw [if_neg hm] at HE2
        have HE3 := (show Hid _ from HE2)
        clear HE HE2
        go_wp2_with fail
        go_at_call 191
        refine cc.mono ?_
        rintro e w2 ⟨rfl, b2⟩
        go_wp2
        go_roundw
        case rel => exact ⟨k + 1, by omega, by go_num, HE3.out, bel.trans ((bx.trans (b2.mono (by omega))).mono bel.size)⟩
        case measure => simp [intOf]; omega
    · have hke : k = rs.length := by omega
      rw [hke, List.drop_length] at he
      have HE := (show Hid _ from he)
      clear he
      have r0 : wr.cell? ⟨w.heap.size, 0, none⟩ = some (.string ⟨#[]⟩) := by simp only [World.cell?, hresr]; rfl
      have r1 : wr.cell? ⟨w.heap.size, 1, none⟩ = some (.string ⟨#[]⟩) := by simp only [World.cell?, hresr]; rfl
      have f0 : wr.frozen? ⟨w.heap.size, 0, none⟩ = false := by simp only [World.frozen?, hresr]; rfl
      have f1 : wr.frozen? ⟨w.heap.size, 1, none⟩ = false := by simp only [World.frozen?, hresr]; rfl
      have hr3 := (show Hid _ from setCell_at (k := 1) (u := .string ⟨#[]⟩) (setCell_at (k := 0) (u := .string ⟨#[]⟩) hresr))
      have hne : w.heap.size ≠ wr.heap.size := by omega
      clear hresr
      go_wp2
      (try simp only [Exit.inBlock, Exit.then])
      refine bodyPost_ret (first_res (x := ⟨#[]⟩) (y := ⟨#[]⟩) (b := false) rfl rfl ((heap_alloc_old _ _ (by simp; omega)).trans hr3.out)) rfl ?_
      exact ⟨by unfold attrNm; rw [← HE.out]; rfl, ((BW.out.setCell (Nat.le_refl _) _).setCell (Nat.le_refl _) _).alloc (by simp; omega) _⟩

set_option maxHeartbeats 2000000 in
set_option maxRecDepth 100000 in
theorem iattrOf_any {v : Value} {rs : List (ByteArray × ByteArray)} {w : World} (h : Sv 2 w v (pairCells rs)) (nm : ByteArray) (hn : rs.length ≤ 1099511627776) :
    Calls Tryz.prog 156 #[v, .string nm] w fun e w' => e = .returned (.tuple #[.string (attrOf rs nm).1, .bool (attrOf rs nm).2]) ∧ Below w.heap.size w w' := by
  have b1 : Below w.heap.size w (w.alloc (.cells #[.string nm] 9)) := (Below.refl _ _).alloc (Nat.le_refl _) _
  have cc := firstName_any (h.below b1) w.heap.size nm (by simp only [World.cell?, heap_alloc_new]; rfl) (by simp) hn
  obtain ⟨p, hp⟩ : ∃ p, p = attrOf rs nm := ⟨_, rfl⟩
  obtain ⟨q, hq⟩ : ∃ q, q = attrNm rs nm := ⟨_, rfl⟩
  rw [← hp, ← hq] at cc
  rw [← hp]
  clear hp hq h
  obtain ⟨pv, pb⟩ := p
  simp only at cc ⊢
  go_enter Tryz.func156, Tryz.ntmps156
  go_wp2_with fail
  go_at_call 190
  refine cc.mono ?_
  rintro e w2 ⟨rfl, b2⟩
  go_wp2
  go_ret2
  exact ⟨rfl, (b1.trans (b2.mono b1.size)).alloc (b1.trans (b2.mono b1.size)).size _⟩
end Go.Proofs.YtogdbjafibejdaaGreat

/- Contracts of the program's textOk and attrOk. -/
namespace Go.Proofs.YtogdbjafibejdaaGreat
open Go.RowKit
set_option maxRecDepth 100000
set_option linter.unusedVariables false

theorem textOk_any (s : ByteArray) (w : World) (hs : s.size ≤ 1099511627776) : Calls Tryz.prog 112 #[.string s] w fun e w' => e = .returned (.bool (utfOk (bs s))) ∧ Below w.heap.size w w' := by
  obtain ⟨cap, w1, hc, hk, hcap, hm, hb⟩ := conv_str s w (by unfold maxLen; omega)
  have hl := bs_len s
  have hsl := hk.sl (n := s.size) (cap := cap) (by omega) (by omega) hm
  have hu := iutfOk_any hsl (bs_byte s) (by omega)
  clear hk
  go_enter Tryz.func112, Tryz.ntmps112
  go_wp2_with fail
  go_at_call 153
  refine hu.mono ?_
  rintro e w2 ⟨rfl, b2⟩
  go_wp2
  go_ret
  exact ⟨rfl, hb.trans (b2.mono hb.size)⟩

theorem attrOk_eq (n v : ByteArray) : attrOk (n, v) = (inB n.size 1 60 && utfOk (bs n) && utfOk (bs v)) := by
  unfold attrOk
  simp only
  by_cases hv : v.size ≤ 3000
  · rw [decide_eq_true hv, Bool.and_true]
  · rw [decide_eq_false hv, utfOk_no (xs := bs v) (by rw [bs_len]; exact hv)]; simp

set_option maxHeartbeats 1000000 in
set_option maxRecDepth 100000 in
theorem iattrOk_any (n v : ByteArray) (w : World) (h1 : n.size ≤ 1099511627776) (h2 : v.size ≤ 1099511627776) :
    Calls Tryz.prog 157 #[.agg #[.string n, .string v]] w fun e w' => e = .returned (.bool (attrOk (n, v))) ∧ Below w.heap.size w w' := by
  rw [attrOk_eq]
  have c2 := fun w => textOk_any n w h1
  have c3 := fun w => textOk_any v w h2
  have b1 : Below w.heap.size w (w.alloc (.cells #[.string n, .string v] 115)) := (Below.refl _ _).alloc (Nat.le_refl _) _
  obtain ⟨q2, e2⟩ : ∃ q, q = utfOk (bs n) := ⟨_, rfl⟩
  obtain ⟨q3, e3⟩ : ∃ q, q = utfOk (bs v) := ⟨_, rfl⟩
  rw [← e2] at c2 ⊢
  rw [← e3] at c3 ⊢
  have C2 := (show Hid _ from c2)
  have C3 := (show Hid _ from c3)
  clear c2 c3 e2 e3
  by_cases hn : 1 ≤ n.size ∧ n.size ≤ 60
  · rw [inB_yes (by omega) (by omega), Bool.true_and]
    obtain ⟨n1, n2⟩ := hn
    cases q2
    · go_enter Tryz.func157, Tryz.ntmps157
      go_wp2_with fail
      go_at_call 112
      refine (C2.out _).mono ?_
      rintro e w2 ⟨rfl, b2⟩
      replace b2 := b1.trans (b2.mono b1.size)
      go_wp2
      go_ret
      exact ⟨ret_bool (by simp), b2⟩
    · go_enter Tryz.func157, Tryz.ntmps157
      go_wp2_with fail
      go_at_call 112
      refine (C2.out _).mono ?_
      rintro e w2 ⟨rfl, b2⟩
      have d1 : w2.cell? ⟨w.heap.size, 1, none⟩ = some (.string v) := by
        rw [b2.cell (p := ⟨w.heap.size, 1, none⟩) (by simp)]
        simp
      replace b2 := b1.trans (b2.mono b1.size)
      go_wp2_with fail
      go_at_call 112
      refine (C3.out _).mono ?_
      rintro e w3 ⟨rfl, b3⟩
      replace b3 := b2.trans (b3.mono b2.size)
      go_wp2
      go_ret
      exact ⟨ret_bool (by simp), b3⟩
  · rw [inB_no (by omega), Bool.false_and, Bool.false_and]
    by_cases n1 : n.size < 1
    · have n0 : n.size = 0 := by omega
      go_enter Tryz.func157, Tryz.ntmps157
      go_wp2
      go_ret
      exact ⟨ret_bool (by simp), b1⟩
    · have n2 : 60 < n.size := by omega
      go_enter Tryz.func157, Tryz.ntmps157
      go_wp2
      go_ret
      exact ⟨ret_bool (by simp), b1⟩
end Go.Proofs.YtogdbjafibejdaaGreat

/- The contract of the program's AttrsOk. -/
namespace Go.Proofs.YtogdbjafibejdaaGreat
open Go.RowKit
set_option maxRecDepth 100000
set_option linter.unusedVariables false

theorem pairCells_take (rs : List (ByteArray × ByteArray)) (k : Nat) (hk : k ≤ rs.length) : pairCells (rs.take k) = (pairCells rs).take (k * 2) := by
  induction rs generalizing k with
  | nil => simp [pairCells]
  | cons r rs ih =>
    cases k with
    | zero => simp [pairCells]
    | succ k =>
      have := ih k (by simpa using hk)
      simp only [pairCells, List.take_succ_cons, List.flatMap_cons] at this ⊢
      rw [this, show (k + 1) * 2 = k * 2 + 1 + 1 by omega]
      rfl
theorem Sv.front {w : World} {a : Option Addr} {n cap k : Nat} {rs : List (ByteArray × ByteArray)} (h : Sv 2 w (.slice a n cap) (pairCells rs)) (hk : k ≤ rs.length) : Sv 2 w (.slice a k cap) (pairCells (rs.take k)) := by
  obtain ⟨a', len, cap', e, h1, h2, h3, h4, hc⟩ := h
  cases e
  have hl := pairCells_len rs
  rw [pairCells_take rs k hk]
  have hl2 : ((pairCells rs).take (k * 2)).length = k * 2 := by simp; omega
  refine ⟨a, k, cap, rfl, hl2, by omega, h3, h4, fun i hi => ?_⟩
  obtain ⟨b, off, e, c⟩ := hc i (by omega)
  refine ⟨b, off, e, ?_⟩
  rw [c]
  congr 1
  simp only [List.getD_eq_getElem?_getD]
  rw [List.getElem?_take_of_lt (by omega)]
theorem attrOf_has (l : List (ByteArray × ByteArray)) (nm : ByteArray) : (attrOf l nm).2 = true ↔ ∃ p ∈ l, p.1 = nm := by
  induction l with
  | nil => simp [attrOf]
  | cons p ps ih =>
    unfold attrOf
    by_cases h : p.1 = nm
    · rw [if_pos h]; simp [h]
    · rw [if_neg h, ih]; simp [h]

set_option maxHeartbeats 2000000 in
set_option maxRecDepth 100000 in
theorem iattrsOk_any {v : Value} {rs : List (ByteArray × ByteArray)} {w : World} (h : Sv 2 w v (pairCells rs)) (hn : rs.length ≤ 1099511627776) (hs : ∀ p ∈ rs, p.1.size ≤ 1099511627776 ∧ p.2.size ≤ 1099511627776) :
    Calls Tryz.prog 111 #[v] w fun e w' => e = .returned (.bool (attrsOk rs)) ∧ Below w.heap.size w w' := by
  have HV := (show Hid (Sv 2 w v (pairCells rs)) from h)
  obtain ⟨a, ca, rfl, _, _, hca⟩ := h.pair
  have HS := (show Hid (∀ p ∈ rs, p.1.size ≤ 1099511627776 ∧ p.2.size ≤ 1099511627776) from hs)
  clear h hs hca
  by_cases h20 : 20 < rs.length
  · have hr : attrsOk rs = false := by unfold attrsOk; rw [decide_eq_false (by omega)]; rfl
    rw [hr]
    go_enter Tryz.func111, Tryz.ntmps111
    go_wp2
    go_ret
    exact ⟨rfl, Below.refl _ _⟩
  · have hr : attrsOk rs = attrsTo rs := by unfold attrsOk; rw [decide_eq_true (by omega)]; rfl
    rw [hr]
    have h21 : rs.length ≤ 20 := by omega
    clear hr h20
    go_enter Tryz.func111, Tryz.ntmps111
    go_wp2
    go_loopw [12] (fun i wr => ∃ k : Nat, k ≤ rs.length ∧ i = .int .i64 k ∧ attrsTo (rs.take k) = true ∧ Below w.heap.size w wr) (fun i _ => rs.length - (intOf i).toNat)
    case atStart => exact ⟨0, Nat.zero_le _, rfl, rfl, Below.refl _ _⟩
    case round =>
      obtain ⟨k, hk, rfl, hto, bel⟩ := hrel
      have HTO := (show Hid (attrsTo (rs.take k) = true) from hto)
      clear hto
      by_cases hlt : k < rs.length
      · have hfr := (HV.out.below bel).front (k := k) (by omega)
        obtain ⟨_, _, ev, _, _, hca⟩ := (HV.out.below bel).pair
        cases ev
        obtain ⟨b1, o1, rfl, l1, c1, c2⟩ := hca k hlt
        have hsz := HS.out rs[k] (List.getElem_mem hlt)
        have HBAD : Hid (attrOk rs[k] = false → attrsTo rs = false) := attrsTo_bad hlt
        have HSUC : Hid (attrOk rs[k] = true → (attrOf (rs.take k) rs[k].1).2 = false → attrsTo (rs.take (k + 1)) = true) := fun h1 h2 => attrsTo_succ hlt HTO.out h1 (fun j hj e => by
          have : (attrOf (rs.take k) rs[k].1).2 = true := (attrOf_has _ _).mpr ⟨rs[j]'(by omega), List.mem_take_iff_getElem.mpr ⟨j, by omega, rfl⟩, e⟩
          rw [this] at h2; cases h2)
        have HTW : Hid ((attrOf (rs.take k) rs[k].1).2 = true → attrsTo rs = false) := fun h => by
          obtain ⟨p, hp, e⟩ := (attrOf_has _ _).mp h
          obtain ⟨j, hj, rfl⟩ := List.mem_take_iff_getElem.mp hp
          exact attrsTo_twice (by omega) hlt (by omega) e
        obtain ⟨x, hx⟩ : ∃ x, x = rs[k] := ⟨_, rfl⟩
        rw [← hx] at c1 c2 HBAD HSUC HTW hsz
        clear hx hca
        obtain ⟨xn, xv⟩ := x
        simp only at c1 c2 HBAD HSUC HTW hsz
        obtain ⟨wx, hwx⟩ : ∃ wx, wx = wr.alloc (.cells #[.string xn, .string xv] 115) := ⟨_, rfl⟩
        have bx : Below wr.heap.size wr wx := by rw [hwx]; exact (Below.refl _ _).alloc (Nat.le_refl _) _
        have belx := bel.trans (bx.mono bel.size)
        have hsx : wx.heap.size = wr.heap.size + 1 := by rw [hwx]; simp
        have hxb : wx.heap[wr.heap.size]? = some (.cells #[.string xn, .string xv] 115 (0, 0)) := by rw [hwx]; exact heap_alloc_new _ _
        have hx0 : ∀ n : Wd wx.heap.size wx, n.w.cell? ⟨wr.heap.size, 0, none⟩ = some (.string xn) := fun n => by rw [n.below.cell (p := ⟨wr.heap.size, 0, none⟩) (by show wr.heap.size < wx.heap.size; omega)]; simp only [World.cell?, hxb]; rfl
        have CA := (show Hid (∀ n : Wd wx.heap.size wx, Calls Tryz.prog 156 #[.slice (some ⟨b1, o1, none⟩) k ca, .string xn] n.w fun e w' => e = .returned (.tuple #[.string (attrOf (rs.take k) xn).1, .bool (attrOf (rs.take k) xn).2]) ∧ Below n.w.heap.size n.w w') from fun n => iattrOf_any ((hfr.below bx).below n.below) xn (by simp; omega))
        have CK := (show Hid (∀ w, Calls Tryz.prog 157 #[.agg #[.string xn, .string xv]] w fun e w' => e = .returned (.bool (attrOk (xn, xv))) ∧ Below w.heap.size w w') from fun w => iattrOk_any xn xv w hsz.1 hsz.2)
        obtain ⟨p, hp⟩ : ∃ p, p = attrOf (rs.take k) xn := ⟨_, rfl⟩
        rw [← hp] at CA HSUC HTW
        obtain ⟨q, hq⟩ : ∃ q, q = attrOk (xn, xv) := ⟨_, rfl⟩
        rw [← hq] at CK HSUC HBAD
        obtain ⟨pv, pb⟩ := p
        simp only at CA HSUC HTW
        have HXB := (show Hid _ from hxb)
        have HSX := (show Hid (wx.heap.size = wr.heap.size + 1) from hsx)
        clear hp hq hfr hxb hsx
        go_wp2
        rw [← hwx]
        clear hwx c1 c2
        have ne := Wd.any wx.heap.size wx
        refine wp_region_below (B := wx.heap.size) (w0 := wx) (by kernel_rfl) (by kernel_rfl) (Below.refl _ _) ?_
        repeat (go_big_quiet_step ((go_at_call 156; exact quiet_below (CA.out _) (Nat.le_refl _))))
        refine wpQuiet_nil ?_
        intro wq hq
        replace hq := Wd.of hq
        have hqb := (hq.block wr.heap.size (by have := HSX.out; omega)).trans HXB.out
        have q0 : wq.cell? ⟨wr.heap.size, 0, none⟩ = some (.string xn) := by simp only [World.cell?, hqb]; rfl
        have q1 : wq.cell? ⟨wr.heap.size, 1, none⟩ = some (.string xv) := by simp only [World.cell?, hqb]; rfl
        have belq := belx.trans (hq.mono (by have := belx.size; omega))
        clear hqb hx0
        cases pb
        · cases q
          · go_wp2_with fail
            go_at_call 157
            refine (CK.out _).mono ?_
            rintro e w2 ⟨rfl, b2⟩
            replace b2 := belq.trans (b2.mono belq.size)
            go_wp2
            go_ret
            exact ⟨ret_bool (by rw [HBAD.out (by simp)]), b2⟩
          · go_wp2_with fail
            go_at_call 157
            refine (CK.out _).mono ?_
            rintro e w2 ⟨rfl, b2⟩
            replace b2 := belq.trans (b2.mono belq.size)
            go_wp2
            go_roundw
            case rel => exact ⟨k + 1, by omega, by go_num, HSUC.out (by simp) (by simp), b2⟩
            case measure => simp [intOf]; omega
        · go_wp2
          go_ret
          exact ⟨ret_bool (by rw [HTW.out (by simp)]), belq⟩
      · have hke : k = rs.length := by omega
        have hto := HTO.out
        rw [hke, List.take_length] at hto
        have HT := (show Hid _ from hto)
        clear hto HTO
        go_wp2
        go_ret
        exact ⟨ret_bool HT.out.symm, bel⟩
end Go.Proofs.YtogdbjafibejdaaGreat

/- The plain mathematics of putting and reading: points are read from their bytes as they were; what is read has points alone. No condition. -/
namespace Go.Proofs.YtogdbjafibejdaaGreat

theorem loOf_224 : loOf 224 = 160 := rfl
theorem loOf_le {b : Int} (h1 : b ≠ 224) (h2 : b ≠ 240) : loOf b = 128 := by unfold loOf; rw [if_neg h1, if_neg h2]
theorem hiOf_le {b : Int} (h1 : b ≠ 237) (h2 : b ≠ 244) : hiOf b = 191 := by unfold hiOf; rw [if_neg h1, if_neg h2]

theorem dec_enc {p : Int} (h0 : 0 ≤ p) (h1 : p ≤ 1114111) (h2 : p < 55296 ∨ 57343 < p) (r : List Int) : dec (enc p ++ r) = p :: dec r := by
  by_cases a : p < 128
  · rw [enc1 a]; exact dec_ascii r a
  by_cases b : p < 2048
  · rw [enc2 (by omega) b]
    show dec ((192 + p / 64) :: (128 + p % 64) :: r) = _
    rw [dec_two _ (by omega), tail_in _ 0 r (by rw [loOf_le (by omega) (by omega)]; omega) (by rw [hiOf_le (by omega) (by omega)]; omega)]
    simp only [tailOf]
    rw [show (192 + p / 64 - 192) * 64 + (128 + p % 64) - 128 = p by omega]
  by_cases c : p < 65536
  · rw [enc3 (by omega) c]
    show dec ((224 + p / 4096) :: (128 + p / 64 % 64) :: (128 + p % 64) :: r) = _
    have hlo : loOf (224 + p / 4096) ≤ 128 + p / 64 % 64 := by
      by_cases e : p / 4096 = 0
      · rw [e]; simp only [loOf]; simp; omega
      · rw [loOf_le (by omega) (by omega)]; omega
    have hhi : 128 + p / 64 % 64 ≤ hiOf (224 + p / 4096) := by
      by_cases e : p / 4096 = 13
      · rw [e]; simp only [hiOf]; simp; omega
      · rw [hiOf_le (by omega) (by omega)]; omega
    rw [dec_three _ (by omega), tail_in _ 1 _ hlo hhi, tail_in _ 0 r (by omega) (by omega)]
    simp only [tailOf]
    rw [show ((224 + p / 4096 - 224) * 64 + (128 + p / 64 % 64) - 128) * 64 + (128 + p % 64) - 128 = p by omega]
  · rw [enc4 (by omega)]
    show dec ((240 + p / 262144) :: (128 + p / 4096 % 64) :: (128 + p / 64 % 64) :: (128 + p % 64) :: r) = _
    have hlo : loOf (240 + p / 262144) ≤ 128 + p / 4096 % 64 := by
      by_cases e : p / 262144 = 0
      · rw [e]; simp only [loOf]; simp; omega
      · rw [loOf_le (by omega) (by omega)]; omega
    have hhi : 128 + p / 4096 % 64 ≤ hiOf (240 + p / 262144) := by
      by_cases e : p / 262144 = 4
      · rw [e]; simp only [hiOf]; simp; omega
      · rw [hiOf_le (by omega) (by omega)]; omega
    rw [dec_four _ (by omega), tail_in _ 2 _ hlo hhi, tail_in _ 1 _ (by omega) (by omega), tail_in _ 0 r (by omega) (by omega)]
    simp only [tailOf]
    rw [show (((240 + p / 262144 - 240) * 64 + (128 + p / 4096 % 64) - 128) * 64 + (128 + p / 64 % 64) - 128) * 64 + (128 + p % 64) - 128 = p by omega]

theorem dec_put (x : Int) (r : List Int) : dec (put x ++ r) = pt x :: dec r := by
  have h := pt_ok x
  exact dec_enc h.1 h.2.1 h.2.2 r
theorem dec_puts (xs : List Int) : dec (puts xs) = xs.map pt := by
  induction xs with
  | nil => exact dec_nil
  | cons x xs ih =>
    have e : puts (x :: xs) = put x ++ puts xs := by simp [puts]
    rw [e, dec_put, ih]; rfl
theorem put_pt (x : Int) : put (pt x) = put x := by unfold put; rw [pt_of _ (pointOk_pt x)]
theorem puts_pt (xs : List Int) : puts (xs.map pt) = puts xs := by
  unfold puts; rw [List.flatMap_map]; congr 1; funext x; exact put_pt x
theorem map_pt {xs : List Int} (h : ∀ x ∈ xs, pointOk x = true) : xs.map pt = xs := by
  conv => rhs; rw [← List.map_id xs]
  exact List.map_congr_left fun x hx => pt_of x (h x hx)

theorem unmark_first {b : Int} (h : b ≠ 239) (r : List Int) : unmark (b :: r) = b :: r := by
  unfold unmark; rw [if_neg]
  intro e
  match r, e with
  | [], e => simp at e
  | [_], e => simp at e
  | _ :: _ :: _, e => simp at e; exact h e.1

/-- What FnPoint reads and asks. -/
theorem read65 (x : Int) : utfRead ([65] ++ put x) = [65, pt x] := by
  have hl := (put_len x).2
  unfold utfRead
  rw [if_pos (by simp; omega)]
  show dec (unmark (65 :: put x)) = _
  rw [unmark_first (by omega)]
  have e : dec (65 :: put x) = 65 :: dec (put x) := dec_ascii _ (by omega)
  have e2 : dec (put x) = [pt x] := by have h := dec_put x []; rw [List.append_nil, dec_nil] at h; exact h
  rw [e, e2]
theorem put65 : put 65 = [65] := rfl
theorem ok65 (x : Int) : utfOk ([65] ++ put x) = true := by
  have hl := (put_len x).2
  rw [utfOk_yes (by simp; omega), read65]
  have e : pointsPut [65, pt x] = [65] ++ put x := by
    unfold pointsPut
    rw [if_pos (by simp)]
    show put 65 ++ (put (pt x) ++ []) = _
    rw [List.append_nil, put_pt]; rfl
  rw [e]; simp
end Go.Proofs.YtogdbjafibejdaaGreat

/- Tokens as plain values: what TokenOk says of one, and the program's helpers. -/
namespace Go.Proofs.YtogdbjafibejdaaGreat
open Go.RowKit
set_option maxRecDepth 100000
set_option linter.unusedVariables false

/-- A text that is right is read by both readers as the same. -/
theorem read_ok {xs : List Int} (h : utfOk xs = true) : utfRead xs = dec xs := by
  unfold utfOk at h
  simp only [Bool.and_eq_true, decide_eq_true_eq] at h
  obtain ⟨hl, hp⟩ := h
  have hr : utfRead xs = dec (unmark xs) := by unfold utfRead; rw [if_pos hl]
  rw [hr]
  unfold unmark
  by_cases h3 : xs.take 3 = [239, 187, 191]
  · exfalso
    have hu : unmark xs = xs.drop 3 := by unfold unmark; rw [if_pos h3]
    have hlen := utfRead_len xs
    rw [hr, hu] at hp hlen
    have hq : puts (dec (xs.drop 3)) = xs := by unfold pointsPut at hp; rw [if_pos hlen] at hp; exact hp
    have e1 : dec xs = (dec (xs.drop 3)).map pt := by rw [← dec_puts, hq]
    have e2 : xs = enc 65279 ++ xs.drop 3 := by
      have e := (List.take_append_drop 3 xs).symm
      rw [h3] at e
      exact e
    have e3 : dec xs = 65279 :: dec (xs.drop 3) := by
      rw [e2, dec_enc (by decide) (by decide) (by decide)]
      simp [enc]
    have := congrArg List.length (e1.symm.trans e3)
    simp at this
  · rw [if_neg h3]

/-- A token's value. -/
def tokVal (k : Int) (nm : ByteArray) (va : Value) (tx : ByteArray) (sf : Bool) : Value := .agg #[.int .i64 k, .string nm, va, .string tx, .bool sf]

/-- What TokenOk answers. -/
def tokenOk (k : Int) (nm : ByteArray) (rs : List (ByteArray × ByteArray)) (tx : ByteArray) (sf : Bool) : Bool :=
  if k = 1 then decide (rs.length = 0) && !sf && nm.toList.isEmpty && tx.toList.isEmpty
  else if k = 2 then decide (rs.length = 0) && !sf && nm.toList.isEmpty && utfOk (bs tx) && decide ((dec (bs tx)).length = 1)
  else if k = 3 then decide (rs.length = 0) && !sf && nm.toList.isEmpty && utfOk (bs tx)
  else if k = 4 then decide (rs.length = 0) && !sf && tx.toList.isEmpty && decide (nm.size ≤ 60) && utfOk (bs nm)
  else if k = 5 then tx.toList.isEmpty && nameOk (bs nm) && attrsOk rs
  else if k = 6 then decide (rs.length = 0) && !sf && tx.toList.isEmpty && nameOk (bs nm)
  else false

/-- What is asked of a token's parts: nothing is too long. -/
structure TokFit (nm : ByteArray) (rs : List (ByteArray × ByteArray)) (tx : ByteArray) : Prop where
  hnm : nm.size ≤ 1048576
  htx : tx.size ≤ 1048576
  hrs : rs.length ≤ 1048576
  each : ∀ p ∈ rs, p.1.size ≤ 1099511627776 ∧ p.2.size ≤ 1099511627776
end Go.Proofs.YtogdbjafibejdaaGreat

/- The laws' helpers on tokens. -/
namespace Go.Proofs.YtogdbjafibejdaaGreat
open Go.RowKit
set_option maxRecDepth 100000
set_option linter.unusedVariables false

theorem row_set {B size n b k : Nat} {e : TypeId} {w : World} {v u : Value} {xs : List Value} (h : w.ownsRow B e size v n xs) (hne : ∀ j, v.ownBlock = some j → j ≠ b) : (w.setCell ⟨b, k, none⟩ u).ownsRow B e size v n xs := by
  obtain ⟨hl, hv | ⟨g, cap, cur, hv, hB, hh, r⟩⟩ := h
  · exact ⟨hl, .inl hv⟩
  · have hg : g ≠ b := hne g (by rw [hv]; rfl)
    exact ⟨hl, .inr ⟨g, cap, cur, hv, hB, (Below.heap_setCell w ⟨b, k, none⟩ u g hg).trans hh, r⟩⟩

end Go.Proofs.YtogdbjafibejdaaGreat
