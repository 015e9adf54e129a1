import Derived.Test.YtkljadaggnbjkaaGreatB13
import Derived.Laws.ResultCell
import Derived.Test.YtkljadaggnbjkaaGreatB11
import Derived.Test.YtkljadaggnbjkaaGreatB3
import Derived.Test.YtkljadaggnbjkaaGreatPuts
import Derived.Test.YtkljadaggnbjkaaGreatOk
import Derived.Test.YtkljadaggnbjkaaGreatB9
import Derived.Test.YtkljadaggnbjkaaGreatGrow
/- Contracts of the program's functions on attributes: the first that fits, and AttrOf. -/
namespace Go.Proofs.YtkljadaggnbjkaaGreat
open Go.RowKit
set_option maxRecDepth 100000
set_option linter.unusedVariables false

theorem attrOf1_any (g : Nat) (nm x y : ByteArray) (w : World) (hg : w.cell? ⟨g, 0, none⟩ = some (.string nm)) (hlt : g < w.heap.size) :
    Calls Tryz.prog 120 #[.agg #[.string x, .string y], .pointer (some ⟨g, 0, none⟩)] w fun e w' => e = .returned (.bool (decide (x = nm))) ∧ Below w.heap.size w w' := by
  have hb : Below w.heap.size w (w.alloc (.cells #[.string x, .string y] 110)) := (Below.refl _ _).alloc (Nat.le_refl _) _
  have hg2 := (hb.cell (p := ⟨g, 0, none⟩) hlt).trans hg
  by_cases hm : x = nm
  · rw [decide_eq_true hm]
    subst hm
    go_enter Tryz.func120, Tryz.ntmps120
    go_wp2
    go_ret
    exact ⟨rfl, hb⟩
  · rw [decide_eq_false hm]
    have hd := toList_ne hm
    go_enter Tryz.func120, Tryz.ntmps120
    go_wp2
    go_ret
    exact ⟨rfl, hb⟩

theorem setCell_at {w : World} {b k : Nat} {cs : Array Value} {u : Value} {t : TypeId} (h : w.heap[b]? = some (.cells cs t (0, 0))) : (w.setCell ⟨b, k, none⟩ u).heap[b]? = some (.cells (cs.setIfInBounds k u) t (0, 0)) := by
  have hlt := lt_of_block h
  have h' : w.heap[b] = .cells cs t (0, 0) := by simpa [Array.getElem?_eq_getElem hlt] using h
  show (w.heap.modify b _)[b]? = _
  rw [Array.getElem?_eq_getElem (by simpa using hlt), Array.getElem_modify_self, h']
  rfl
theorem first_res {tmps : Array Value} {w : World} {g : Nat} {x y : ByteArray} {b : Bool} (h4 : tmps.getD 4 undef = .pointer (some ⟨g, 0, none⟩)) (h5 : tmps.getD 5 undef = .bool b) (hb : w.heap[g]? = some (.cells #[.string x, .string y] 110 (0, 0))) :
    (results Tryz.f119 tmps).run Tryz.prog w = .ok (.tuple #[.agg #[.string x, .string y], .bool b]) w := by
  rw [results_cell_tmp (p := 4) (u := 5) (ty := 110) rfl, h4, h5]
  simp [asAddr, run_loadVar_row w g 110 110 #[.string x, .string y] (0, 0) _ hb Tryz.underlying110 rfl rfl, Result.andThen]

/-- The first of that name: its name. -/
def attrNm (rs : List (ByteArray × ByteArray)) (nm : ByteArray) : ByteArray := if (attrOf rs nm).2 then nm else ⟨#[]⟩

set_option maxHeartbeats 2000000 in
set_option maxRecDepth 100000 in
theorem firstName_any {v : Value} {rs : List (ByteArray × ByteArray)} {w : World} (h : Sv 2 w v (pairCells rs)) (g : Nat) (nm : ByteArray) (hg : w.cell? ⟨g, 0, none⟩ = some (.string nm)) (hgl : g < w.heap.size) (hn : rs.length ≤ 1099511627776) :
    Calls Tryz.prog 119 #[v, .func (.func 120) #[] #[.pointer (some ⟨g, 0, none⟩)]] w fun e w' => e = .returned (.tuple #[.agg #[.string (attrNm rs nm), .string (attrOf rs nm).1], .bool (attrOf rs nm).2]) ∧ Below w.heap.size w w' := by
  have HS := (show Hid (Sv 2 w v (pairCells rs)) from h)
  obtain ⟨a, ca, rfl, _, _, hca⟩ := h.pair
  clear h hca
  have HG := (show Hid (w.cell? ⟨g, 0, none⟩ = some (.string nm)) from hg)
  clear hg
  go_enter Tryz.func119, Tryz.ntmps119
  go_wp2
  obtain ⟨w0, hw0⟩ : ∃ w0, w0 = w.alloc (.cells #[.string ⟨#[]⟩, .string ⟨#[]⟩] 110) := ⟨_, rfl⟩
  have hsz0 : w0.heap.size = w.heap.size + 1 := by rw [hw0]; simp
  have bel0 : Below w.heap.size w w0 := by rw [hw0]; exact (Below.refl _ _).alloc (Nat.le_refl _) _
  have hres0 : w0.heap[w.heap.size]? = some (.cells #[.string ⟨#[]⟩, .string ⟨#[]⟩] 110 (0, 0)) := by rw [hw0]; exact heap_alloc_new _ _
  rw [← hw0]
  go_loopw [11] (fun i wr => ∃ k : Nat, k ≤ rs.length ∧ i = .int .i64 k ∧ attrOf (rs.drop k) nm = attrOf rs nm ∧ Below w0.heap.size w0 wr) (fun i _ => rs.length - (intOf i).toNat)
  case atStart => exact ⟨0, Nat.zero_le _, rfl, rfl, Below.refl _ _⟩
  case round =>
    obtain ⟨k, hk, rfl, he, bel⟩ := hrel
    have BW : Hid (Below w.heap.size w wr) := bel0.trans (bel.mono (by omega))
    have hresr : wr.heap[w.heap.size]? = some (.cells #[.string ⟨#[]⟩, .string ⟨#[]⟩] 110 (0, 0)) := by rw [bel.block _ (by omega)]; exact hres0
    have hwl : w.heap.size < wr.heap.size := by have := bel.size; omega
    by_cases hlt : k < rs.length
    · obtain ⟨_, _, ev, _, _, hca⟩ := (HS.out.below BW.out).pair
      cases ev
      obtain ⟨b1, o1, rfl, l1, c1, c2⟩ := hca k hlt
      rw [attrOf_drop hlt] at he
      obtain ⟨x, hx⟩ : ∃ x, x = rs[k] := ⟨_, rfl⟩
      rw [← hx] at c1 c2 he
      have HE := (show Hid _ from he)
      clear he hx hca
      obtain ⟨xn, xv⟩ := x
      simp only at c1 c2 HE
      have bx : Below wr.heap.size wr (wr.alloc (.cells #[.string xn, .string xv] 110)) := (Below.refl _ _).alloc (Nat.le_refl _) _
      have cc := attrOf1_any g nm xn xv (wr.alloc (.cells #[.string xn, .string xv] 110)) ((bx.cell (p := ⟨g, 0, none⟩) (by show g < wr.heap.size; omega)).trans ((BW.out.cell (p := ⟨g, 0, none⟩) hgl).trans HG.out)) (by simp; omega)
      have hxb : (wr.alloc (.cells #[.string xn, .string xv] 110)).heap[wr.heap.size]? = some (.cells #[.string xn, .string xv] 110 (0, 0)) := heap_alloc_new _ _
      have hrb : (wr.alloc (.cells #[.string xn, .string xv] 110)).heap[w.heap.size]? = some (.cells #[.string ⟨#[]⟩, .string ⟨#[]⟩] 110 (0, 0)) := by rw [bx.block _ hwl]; exact hresr
      have hsa : (wr.alloc (.cells #[.string xn, .string xv] 110)).heap.size = wr.heap.size + 1 := by simp
      by_cases hm : xn = nm
      · rw [decide_eq_true hm] at cc
        have HE2 : Hid (attrOf rs nm = (xv, true)) := by have := HE.out; rw [if_pos hm] at this; exact this.symm
        clear HE
        subst hm
        go_wp2_with fail
        go_at_call 120
        refine cc.mono ?_
        rintro e w2 ⟨rfl, b2⟩
        have hx2 := (b2.block wr.heap.size (by omega)).trans hxb
        have hr2 := (b2.block w.heap.size (by omega)).trans hrb
        have x0 : w2.cell? ⟨wr.heap.size, 0, none⟩ = some (.string xn) := by simp [World.cell?, hx2]
        have x1 : w2.cell? ⟨wr.heap.size, 1, none⟩ = some (.string xv) := by simp [World.cell?, hx2]
        have r0 : w2.cell? ⟨w.heap.size, 0, none⟩ = some (.string ⟨#[]⟩) := by simp [World.cell?, hr2]
        have r1 : w2.cell? ⟨w.heap.size, 1, none⟩ = some (.string ⟨#[]⟩) := by simp [World.cell?, hr2]
        have f0 : w2.frozen? ⟨w.heap.size, 0, none⟩ = false := by simp [World.frozen?, hr2]
        have f1 : w2.frozen? ⟨w.heap.size, 1, none⟩ = false := by simp [World.frozen?, hr2]
        have BW2 : Hid (Below w.heap.size w w2) := BW.out.trans ((bx.trans (b2.mono (by omega))).mono (by omega))
        have hr3 := (show Hid _ from setCell_at (k := 1) (u := .string xv) (setCell_at (k := 0) (u := .string xn) hr2))
        clear c1 c2 cc hx2 hr2 hxb hrb hresr
        go_wp2
        (try simp only [Exit.inBlock, Exit.then])
        refine bodyPost_ret (first_res (x := xn) (y := xv) (b := true) rfl rfl hr3.out) rfl ?_
        exact ⟨by unfold attrNm; rw [HE2.out]; rfl, (BW2.out.setCell (Nat.le_refl _) _).setCell (Nat.le_refl _) _⟩
      · rw [decide_eq_false hm] at cc
        have HE2 := HE.out
        rw [if_neg hm] at HE2
        have HE3 := (show Hid _ from HE2)
        clear HE HE2
        go_wp2_with fail
        go_at_call 120
        refine cc.mono ?_
        rintro e w2 ⟨rfl, b2⟩
        go_wp2
        go_roundw
        case rel => exact ⟨k + 1, by omega, by go_num, HE3.out, bel.trans ((bx.trans (b2.mono (by omega))).mono bel.size)⟩
        case measure => simp [intOf]; omega
    · have hke : k = rs.length := by omega
      rw [hke, List.drop_length] at he
      have HE := (show Hid _ from he)
      clear he
      have r0 : wr.cell? ⟨w.heap.size, 0, none⟩ = some (.string ⟨#[]⟩) := by simp only [World.cell?, hresr]; rfl
      have r1 : wr.cell? ⟨w.heap.size, 1, none⟩ = some (.string ⟨#[]⟩) := by simp only [World.cell?, hresr]; rfl
      have f0 : wr.frozen? ⟨w.heap.size, 0, none⟩ = false := by simp only [World.frozen?, hresr]; rfl
      have f1 : wr.frozen? ⟨w.heap.size, 1, none⟩ = false := by simp only [World.frozen?, hresr]; rfl
      have hr3 := (show Hid _ from setCell_at (k := 1) (u := .string ⟨#[]⟩) (setCell_at (k := 0) (u := .string ⟨#[]⟩) hresr))
      have hne : w.heap.size ≠ wr.heap.size := by omega
      clear hresr
      go_wp2
      (try simp only [Exit.inBlock, Exit.then])
      refine bodyPost_ret (first_res (x := ⟨#[]⟩) (y := ⟨#[]⟩) (b := false) rfl rfl ((heap_alloc_old _ _ (by simp; omega)).trans hr3.out)) rfl ?_
      exact ⟨by unfold attrNm; rw [← HE.out]; rfl, ((BW.out.setCell (Nat.le_refl _) _).setCell (Nat.le_refl _) _).alloc (by simp; omega) _⟩

set_option maxHeartbeats 2000000 in
set_option maxRecDepth 100000 in
theorem iattrOf_any {v : Value} {rs : List (ByteArray × ByteArray)} {w : World} (h : Sv 2 w v (pairCells rs)) (nm : ByteArray) (hn : rs.length ≤ 1099511627776) :
    Calls Tryz.prog 102 #[v, .string nm] w fun e w' => e = .returned (.tuple #[.string (attrOf rs nm).1, .bool (attrOf rs nm).2]) ∧ Below w.heap.size w w' := by
  have b1 : Below w.heap.size w (w.alloc (.cells #[.string nm] 9)) := (Below.refl _ _).alloc (Nat.le_refl _) _
  have cc := firstName_any (h.below b1) w.heap.size nm (by simp only [World.cell?, heap_alloc_new]; rfl) (by simp) hn
  obtain ⟨p, hp⟩ : ∃ p, p = attrOf rs nm := ⟨_, rfl⟩
  obtain ⟨q, hq⟩ : ∃ q, q = attrNm rs nm := ⟨_, rfl⟩
  rw [← hp, ← hq] at cc
  rw [← hp]
  clear hp hq h
  obtain ⟨pv, pb⟩ := p
  simp only at cc ⊢
  go_enter Tryz.func102, Tryz.ntmps102
  go_wp2_with fail
  go_at_call 119
  refine cc.mono ?_
  rintro e w2 ⟨rfl, b2⟩
  go_wp2
  go_ret2
  exact ⟨rfl, (b1.trans (b2.mono b1.size)).alloc (b1.trans (b2.mono b1.size)).size _⟩
end Go.Proofs.YtkljadaggnbjkaaGreat

/- Contracts of the program's textOk and attrOk. -/
namespace Go.Proofs.YtkljadaggnbjkaaGreat
open Go.RowKit
set_option maxRecDepth 100000
set_option linter.unusedVariables false

theorem textOk_any (s : ByteArray) (w : World) (hs : s.size ≤ 1099511627776) : Calls Tryz.prog 91 #[.string s] w fun e w' => e = .returned (.bool (utfOk (bs s))) ∧ Below w.heap.size w w' := by
  obtain ⟨cap, w1, hc, hk, hcap, hm, hb⟩ := conv_str s w (by unfold maxLen; omega)
  have hl := bs_len s
  have hsl := hk.sl (n := s.size) (cap := cap) (by omega) (by omega) hm
  have hu := iutfOk_any hsl (bs_byte s) (by omega)
  clear hk
  go_enter Tryz.func91, Tryz.ntmps91
  go_wp2_with fail
  go_at_call 99
  refine hu.mono ?_
  rintro e w2 ⟨rfl, b2⟩
  go_wp2
  go_ret
  exact ⟨rfl, hb.trans (b2.mono hb.size)⟩

theorem attrOk_eq (n v : ByteArray) : attrOk (n, v) = (inB n.size 1 60 && utfOk (bs n) && utfOk (bs v)) := by
  unfold attrOk
  simp only
  by_cases hv : v.size ≤ 3000
  · rw [decide_eq_true hv, Bool.and_true]
  · rw [decide_eq_false hv, utfOk_no (xs := bs v) (by rw [bs_len]; exact hv)]; simp

set_option maxHeartbeats 1000000 in
set_option maxRecDepth 100000 in
theorem iattrOk_any (n v : ByteArray) (w : World) (h1 : n.size ≤ 1099511627776) (h2 : v.size ≤ 1099511627776) :
    Calls Tryz.prog 103 #[.agg #[.string n, .string v]] w fun e w' => e = .returned (.bool (attrOk (n, v))) ∧ Below w.heap.size w w' := by
  rw [attrOk_eq]
  have c2 := fun w => textOk_any n w h1
  have c3 := fun w => textOk_any v w h2
  have b1 : Below w.heap.size w (w.alloc (.cells #[.string n, .string v] 110)) := (Below.refl _ _).alloc (Nat.le_refl _) _
  obtain ⟨q2, e2⟩ : ∃ q, q = utfOk (bs n) := ⟨_, rfl⟩
  obtain ⟨q3, e3⟩ : ∃ q, q = utfOk (bs v) := ⟨_, rfl⟩
  rw [← e2] at c2 ⊢
  rw [← e3] at c3 ⊢
  have C2 := (show Hid _ from c2)
  have C3 := (show Hid _ from c3)
  clear c2 c3 e2 e3
  by_cases hn : 1 ≤ n.size ∧ n.size ≤ 60
  · rw [inB_yes (by omega) (by omega), Bool.true_and]
    obtain ⟨n1, n2⟩ := hn
    cases q2
    · go_enter Tryz.func103, Tryz.ntmps103
      go_wp2_with fail
      go_at_call 91
      refine (C2.out _).mono ?_
      rintro e w2 ⟨rfl, b2⟩
      replace b2 := b1.trans (b2.mono b1.size)
      go_wp2
      go_ret
      exact ⟨ret_bool (by simp), b2⟩
    · go_enter Tryz.func103, Tryz.ntmps103
      go_wp2_with fail
      go_at_call 91
      refine (C2.out _).mono ?_
      rintro e w2 ⟨rfl, b2⟩
      have d1 : w2.cell? ⟨w.heap.size, 1, none⟩ = some (.string v) := by
        rw [b2.cell (p := ⟨w.heap.size, 1, none⟩) (by simp)]
        simp
      replace b2 := b1.trans (b2.mono b1.size)
      go_wp2_with fail
      go_at_call 91
      refine (C3.out _).mono ?_
      rintro e w3 ⟨rfl, b3⟩
      replace b3 := b2.trans (b3.mono b2.size)
      go_wp2
      go_ret
      exact ⟨ret_bool (by simp), b3⟩
  · rw [inB_no (by omega), Bool.false_and, Bool.false_and]
    by_cases n1 : n.size < 1
    · have n0 : n.size = 0 := by omega
      go_enter Tryz.func103, Tryz.ntmps103
      go_wp2
      go_ret
      exact ⟨ret_bool (by simp), b1⟩
    · have n2 : 60 < n.size := by omega
      go_enter Tryz.func103, Tryz.ntmps103
      go_wp2
      go_ret
      exact ⟨ret_bool (by simp), b1⟩
end Go.Proofs.YtkljadaggnbjkaaGreat

/- Contracts of the specification's AttrsOk and AttrsSame. -/
namespace Go.Proofs.YtkljadaggnbjkaaGreat
open Go.RowKit
set_option maxRecDepth 100000
set_option linter.unusedVariables false

theorem attrsTo_iff (rs : List (ByteArray × ByteArray)) : attrsTo rs = true ↔ (∀ i (hi : i < rs.length), attrOk rs[i] = true) ∧ ∀ i j (hi : i < rs.length) (hj : j < rs.length), i < j → rs[i].1 ≠ rs[j].1 := by
  unfold attrsTo
  rw [Bool.and_eq_true, List.all_eq_true, decide_eq_true_eq, List.pairwise_iff_getElem]
  constructor
  · rintro ⟨h1, h2⟩
    exact ⟨fun i hi => h1 _ (List.getElem_mem hi), h2⟩
  · rintro ⟨h1, h2⟩
    refine ⟨fun p hp => ?_, h2⟩
    obtain ⟨i, hi, rfl⟩ := List.getElem_of_mem hp
    exact h1 i hi
theorem attrsTo_succ {rs : List (ByteArray × ByteArray)} {k : Nat} (hk : k < rs.length) (h : attrsTo (rs.take k) = true) (ha : attrOk rs[k] = true) (hd : ∀ j (hj : j < k), (rs[j]'(by omega)).1 ≠ rs[k].1) : attrsTo (rs.take (k + 1)) = true := by
  rw [attrsTo_iff] at h ⊢
  have hl : (rs.take (k + 1)).length = k + 1 := by simp; omega
  have hl0 : (rs.take k).length = k := by simp; omega
  refine ⟨fun i hi => ?_, fun i j hi hj hij => ?_⟩
  · rw [List.getElem_take]
    by_cases hik : i < k
    · have := h.1 i (by omega); rw [List.getElem_take] at this; exact this
    · have e : i = k := by omega
      subst e; exact ha
  · rw [List.getElem_take, List.getElem_take]
    by_cases hjk : j < k
    · have := h.2 i j (by omega) (by omega) hij
      rw [List.getElem_take, List.getElem_take] at this; exact this
    · have e : j = k := by omega
      subst e; exact hd i hij
theorem attrsTo_bad {rs : List (ByteArray × ByteArray)} {k : Nat} (hk : k < rs.length) (h : attrOk rs[k] = false) : attrsTo rs = false := by
  rcases he : attrsTo rs with _ | _
  · rfl
  · rw [((attrsTo_iff rs).mp he).1 k hk] at h; cases h
theorem attrsTo_twice {rs : List (ByteArray × ByteArray)} {j k : Nat} (hj : j < rs.length) (hk : k < rs.length) (hjk : j < k) (h : rs[j].1 = rs[k].1) : attrsTo rs = false := by
  rcases he : attrsTo rs with _ | _
  · rfl
  · exact absurd h (((attrsTo_iff rs).mp he).2 j k hj hk hjk)

set_option maxHeartbeats 2000000 in
set_option maxRecDepth 100000 in
theorem sattrsOk_any {v : Value} {rs : List (ByteArray × ByteArray)} {w : World} (h : Sv 2 w v (pairCells rs)) (hn : rs.length ≤ 1099511627776) (hs : ∀ p ∈ rs, p.1.size ≤ 1099511627776 ∧ p.2.size ≤ 1099511627776) :
    Calls Tryz.prog 76 #[v] w fun e w' => e = .returned (.bool (attrsOk rs)) ∧ Below w.heap.size w w' := by
  obtain ⟨a, ca, rfl, _, _, hca⟩ := h.pair
  have HS := (show Hid (∀ p ∈ rs, p.1.size ≤ 1099511627776 ∧ p.2.size ≤ 1099511627776) from hs)
  clear h hs
  by_cases h20 : 20 < rs.length
  · have hr : attrsOk rs = false := by unfold attrsOk; rw [decide_eq_false (by omega)]; rfl
    rw [hr]
    go_enter Tryz.func76, Tryz.ntmps76
    go_wp2
    go_ret
    exact ⟨rfl, Below.refl _ _⟩
  · have hr : attrsOk rs = attrsTo rs := by unfold attrsOk; rw [decide_eq_true (by omega)]; rfl
    rw [hr]
    have h21 : rs.length ≤ 20 := by omega
    clear hr h20
    go_enter Tryz.func76, Tryz.ntmps76
    go_wp2
    go_loopw [3] (fun i wr => ∃ k : Nat, k ≤ rs.length ∧ i = .int .i64 k ∧ attrsTo (rs.take k) = true ∧ Below w.heap.size w wr) (fun i _ => rs.length - (intOf i).toNat)
    case atStart => exact ⟨0, Nat.zero_le _, rfl, rfl, Below.refl _ _⟩
    case round =>
      obtain ⟨k, hk, rfl, hto, bel⟩ := hrel
      have HTO := (show Hid (attrsTo (rs.take k) = true) from hto)
      clear hto
      by_cases hlt : k < rs.length
      · obtain ⟨b1, o1, rfl, l1, c1, c2⟩ := hca k hlt
        have d1 : wr.cell? ⟨b1, o1 + k * 2, none⟩ = some (.string rs[k].1) := (bel.cell (p := ⟨b1, o1 + k * 2, none⟩) l1).trans c1
        have d2 : wr.cell? ⟨b1, o1 + k * 2 + 1, none⟩ = some (.string rs[k].2) := (bel.cell (p := ⟨b1, o1 + k * 2 + 1, none⟩) l1).trans c2
        have hsz := HS.out rs[k] (List.getElem_mem hlt)
        have cc := fun w => l4Attr_any rs[k] w hsz.1 hsz.2
        have HBAD : Hid (attrOk rs[k] = false → attrsTo rs = false) := attrsTo_bad hlt
        have HSUC : Hid (attrOk rs[k] = true → (∀ j (hj : j < k), (rs[j]'(by omega)).1 ≠ rs[k].1) → attrsTo (rs.take (k + 1)) = true) := attrsTo_succ hlt HTO.out
        have HTW : Hid (∀ j (hj : j < rs.length), j < k → rs[j].1 = rs[k].1 → attrsTo rs = false) := fun j hj hjk e => attrsTo_twice hj hlt hjk e
        obtain ⟨x, hx⟩ : ∃ x, x = rs[k] := ⟨_, rfl⟩
        rw [← hx] at c1 d1 d2 cc HBAD HSUC HTW
        clear hx c2 hsz
        obtain ⟨p, hp⟩ : ∃ p, p = attrOk x := ⟨_, rfl⟩
        rw [← hp] at cc HBAD HSUC
        have CC := (show Hid _ from cc)
        clear cc hp
        cases p
        · go_wp2_with fail
          go_at_call 96
          refine (CC.out _).mono ?_
          rintro e w2 ⟨rfl, b2⟩
          replace b2 := bel.trans (b2.mono bel.size)
          clear d1 d2
          go_wp2
          go_ret
          exact ⟨ret_bool (by rw [HBAD.out (by simp)]), b2⟩
        · go_wp2_with fail
          go_at_call 96
          refine (CC.out _).mono ?_
          rintro e w2 ⟨rfl, b2⟩
          replace b2 := bel.trans (b2.mono bel.size)
          clear d1 d2 HBAD CC
          go_wp2
          go_loopw [4] (fun i wr => ∃ j : Nat, j ≤ k ∧ i = .int .i64 j ∧ (∀ t (ht : t < rs.length), t < j → rs[t].1 ≠ x.1) ∧ Below w.heap.size w wr) (fun i _ => k - (intOf i).toNat)
          case atStart => exact ⟨0, Nat.zero_le _, rfl, fun t ht h => absurd h (by omega), b2⟩
          case round =>
            clear b2
            obtain ⟨j, hj, rfl, hall, bel2⟩ := hrel
            have HALL := (show Hid (∀ t (ht : t < rs.length), t < j → rs[t].1 ≠ x.1) from hall)
            clear hall
            by_cases hjk : j < k
            · have hjl : j < rs.length := by omega
              obtain ⟨b3, o3, e3, l3, c3, _⟩ := hca j hjl
              cases e3
              have d3 : wr.cell? ⟨b1, o1 + j * 2, none⟩ = some (.string rs[j].1) := (bel2.cell (p := ⟨b1, o1 + j * 2, none⟩) l1).trans c3
              have dk : wr.cell? ⟨b1, o1 + k * 2, none⟩ = some (.string x.1) := (bel2.cell (p := ⟨b1, o1 + k * 2, none⟩) l1).trans c1
              have HTW2 := (show Hid (rs[j].1 = x.1 → attrsTo rs = false) from HTW.out j hjl hjk)
              have HNX : Hid (rs[j].1 ≠ x.1 → ∀ t (ht : t < rs.length), t < j + 1 → rs[t].1 ≠ x.1) := fun hne t ht htj => by
                by_cases e : t = j
                · subst e; exact hne
                · exact HALL.out t ht (by omega)
              have hjl2 : (j : Int) < (rs.length : Int) := by omega
              have hkl2 : (k : Int) < (rs.length : Int) := by omega
              obtain ⟨y, hy⟩ : ∃ y, y = rs[j] := ⟨_, rfl⟩
              rw [← hy] at d3 HTW2 HNX
              clear hy c3 hca c1 HALL
              by_cases hyx : y.1 = x.1
              · have HF := (show Hid _ from HTW2.out hyx)
                rw [hyx] at d3
                clear HTW HTW2 HNX HSUC
                go_wp2
                go_quiet (fail)
                go_wp2
                go_ret
                exact ⟨ret_bool (by rw [HF.out]), bel2.trans (below_drewN _)⟩
              · have HG := (show Hid _ from HNX.out hyx)
                have hd := toList_ne hyx
                clear HTW HTW2 HNX HSUC
                go_wp2
                go_quiet (fail)
                go_wp2
                go_roundw
                case rel => exact ⟨j + 1, by omega, by go_num, HG.out, bel2.trans (below_drewN _)⟩
                case measure => simp [intOf]; omega
            · have hjk2 : j = k := by omega
              have HG : Hid (attrsTo (rs.take (k + 1)) = true) := HSUC.out (by simp) (fun t ht => HALL.out t (by omega) (by omega))
              clear HTW HSUC HALL hca c1
              go_wp2
              go_roundw
              case rel => exact ⟨k + 1, by omega, by go_num, HG.out, bel2⟩
              case measure => simp [intOf]; omega
      · have hke : k = rs.length := by omega
        have hto := HTO.out
        rw [hke, List.take_length] at hto
        have HT2 := (show Hid _ from hto)
        clear hto
        go_wp2
        go_ret
        exact ⟨ret_bool (by rw [HT2.out]), bel⟩
end Go.Proofs.YtkljadaggnbjkaaGreat

/- The contract of the program's AttrsOk. -/
namespace Go.Proofs.YtkljadaggnbjkaaGreat
open Go.RowKit
set_option maxRecDepth 100000
set_option linter.unusedVariables false

theorem pairCells_take (rs : List (ByteArray × ByteArray)) (k : Nat) (hk : k ≤ rs.length) : pairCells (rs.take k) = (pairCells rs).take (k * 2) := by
  induction rs generalizing k with
  | nil => simp [pairCells]
  | cons r rs ih =>
    cases k with
    | zero => simp [pairCells]
    | succ k =>
      have := ih k (by simpa using hk)
      simp only [pairCells, List.take_succ_cons, List.flatMap_cons] at this ⊢
      rw [this, show (k + 1) * 2 = k * 2 + 1 + 1 by omega]
      rfl
theorem Sv.front {w : World} {a : Option Addr} {n cap k : Nat} {rs : List (ByteArray × ByteArray)} (h : Sv 2 w (.slice a n cap) (pairCells rs)) (hk : k ≤ rs.length) : Sv 2 w (.slice a k cap) (pairCells (rs.take k)) := by
  obtain ⟨a', len, cap', e, h1, h2, h3, h4, hc⟩ := h
  cases e
  have hl := pairCells_len rs
  rw [pairCells_take rs k hk]
  have hl2 : ((pairCells rs).take (k * 2)).length = k * 2 := by simp; omega
  refine ⟨a, k, cap, rfl, hl2, by omega, h3, h4, fun i hi => ?_⟩
  obtain ⟨b, off, e, c⟩ := hc i (by omega)
  refine ⟨b, off, e, ?_⟩
  rw [c]
  congr 1
  simp only [List.getD_eq_getElem?_getD]
  rw [List.getElem?_take_of_lt (by omega)]
theorem attrOf_has (l : List (ByteArray × ByteArray)) (nm : ByteArray) : (attrOf l nm).2 = true ↔ ∃ p ∈ l, p.1 = nm := by
  induction l with
  | nil => simp [attrOf]
  | cons p ps ih =>
    unfold attrOf
    by_cases h : p.1 = nm
    · rw [if_pos h]; simp [h]
    · rw [if_neg h, ih]; simp [h]

set_option maxHeartbeats 2000000 in
set_option maxRecDepth 100000 in
theorem iattrsOk_any {v : Value} {rs : List (ByteArray × ByteArray)} {w : World} (h : Sv 2 w v (pairCells rs)) (hn : rs.length ≤ 1099511627776) (hs : ∀ p ∈ rs, p.1.size ≤ 1099511627776 ∧ p.2.size ≤ 1099511627776) :
    Calls Tryz.prog 90 #[v] w fun e w' => e = .returned (.bool (attrsOk rs)) ∧ Below w.heap.size w w' := by
  have HV := (show Hid (Sv 2 w v (pairCells rs)) from h)
  obtain ⟨a, ca, rfl, _, _, hca⟩ := h.pair
  have HS := (show Hid (∀ p ∈ rs, p.1.size ≤ 1099511627776 ∧ p.2.size ≤ 1099511627776) from hs)
  clear h hs hca
  by_cases h20 : 20 < rs.length
  · have hr : attrsOk rs = false := by unfold attrsOk; rw [decide_eq_false (by omega)]; rfl
    rw [hr]
    go_enter Tryz.func90, Tryz.ntmps90
    go_wp2
    go_ret
    exact ⟨rfl, Below.refl _ _⟩
  · have hr : attrsOk rs = attrsTo rs := by unfold attrsOk; rw [decide_eq_true (by omega)]; rfl
    rw [hr]
    have h21 : rs.length ≤ 20 := by omega
    clear hr h20
    go_enter Tryz.func90, Tryz.ntmps90
    go_wp2
    go_loopw [12] (fun i wr => ∃ k : Nat, k ≤ rs.length ∧ i = .int .i64 k ∧ attrsTo (rs.take k) = true ∧ Below w.heap.size w wr) (fun i _ => rs.length - (intOf i).toNat)
    case atStart => exact ⟨0, Nat.zero_le _, rfl, rfl, Below.refl _ _⟩
    case round =>
      obtain ⟨k, hk, rfl, hto, bel⟩ := hrel
      have HTO := (show Hid (attrsTo (rs.take k) = true) from hto)
      clear hto
      by_cases hlt : k < rs.length
      · have hfr := (HV.out.below bel).front (k := k) (by omega)
        obtain ⟨_, _, ev, _, _, hca⟩ := (HV.out.below bel).pair
        cases ev
        obtain ⟨b1, o1, rfl, l1, c1, c2⟩ := hca k hlt
        have hsz := HS.out rs[k] (List.getElem_mem hlt)
        have HBAD : Hid (attrOk rs[k] = false → attrsTo rs = false) := attrsTo_bad hlt
        have HSUC : Hid (attrOk rs[k] = true → (attrOf (rs.take k) rs[k].1).2 = false → attrsTo (rs.take (k + 1)) = true) := fun h1 h2 => attrsTo_succ hlt HTO.out h1 (fun j hj e => by
          have : (attrOf (rs.take k) rs[k].1).2 = true := (attrOf_has _ _).mpr ⟨rs[j]'(by omega), List.mem_take_iff_getElem.mpr ⟨j, by omega, rfl⟩, e⟩
          rw [this] at h2; cases h2)
        have HTW : Hid ((attrOf (rs.take k) rs[k].1).2 = true → attrsTo rs = false) := fun h => by
          obtain ⟨p, hp, e⟩ := (attrOf_has _ _).mp h
          obtain ⟨j, hj, rfl⟩ := List.mem_take_iff_getElem.mp hp
          exact attrsTo_twice (by omega) hlt (by omega) e
        obtain ⟨x, hx⟩ : ∃ x, x = rs[k] := ⟨_, rfl⟩
        rw [← hx] at c1 c2 HBAD HSUC HTW hsz
        clear hx hca
        obtain ⟨xn, xv⟩ := x
        simp only at c1 c2 HBAD HSUC HTW hsz
        obtain ⟨wx, hwx⟩ : ∃ wx, wx = wr.alloc (.cells #[.string xn, .string xv] 110) := ⟨_, rfl⟩
        have bx : Below wr.heap.size wr wx := by rw [hwx]; exact (Below.refl _ _).alloc (Nat.le_refl _) _
        have belx := bel.trans (bx.mono bel.size)
        have hsx : wx.heap.size = wr.heap.size + 1 := by rw [hwx]; simp
        have hxb : wx.heap[wr.heap.size]? = some (.cells #[.string xn, .string xv] 110 (0, 0)) := by rw [hwx]; exact heap_alloc_new _ _
        have hx0 : ∀ n : Wd wx.heap.size wx, n.w.cell? ⟨wr.heap.size, 0, none⟩ = some (.string xn) := fun n => by rw [n.below.cell (p := ⟨wr.heap.size, 0, none⟩) (by show wr.heap.size < wx.heap.size; omega)]; simp only [World.cell?, hxb]; rfl
        have CA := (show Hid (∀ n : Wd wx.heap.size wx, Calls Tryz.prog 102 #[.slice (some ⟨b1, o1, none⟩) k ca, .string xn] n.w fun e w' => e = .returned (.tuple #[.string (attrOf (rs.take k) xn).1, .bool (attrOf (rs.take k) xn).2]) ∧ Below n.w.heap.size n.w w') from fun n => iattrOf_any ((hfr.below bx).below n.below) xn (by simp; omega))
        have CK := (show Hid (∀ w, Calls Tryz.prog 103 #[.agg #[.string xn, .string xv]] w fun e w' => e = .returned (.bool (attrOk (xn, xv))) ∧ Below w.heap.size w w') from fun w => iattrOk_any xn xv w hsz.1 hsz.2)
        obtain ⟨p, hp⟩ : ∃ p, p = attrOf (rs.take k) xn := ⟨_, rfl⟩
        rw [← hp] at CA HSUC HTW
        obtain ⟨q, hq⟩ : ∃ q, q = attrOk (xn, xv) := ⟨_, rfl⟩
        rw [← hq] at CK HSUC HBAD
        obtain ⟨pv, pb⟩ := p
        simp only at CA HSUC HTW
        have HXB := (show Hid _ from hxb)
        have HSX := (show Hid (wx.heap.size = wr.heap.size + 1) from hsx)
        clear hp hq hfr hxb hsx
        go_wp2
        rw [← hwx]
        clear hwx c1 c2
        have ne := Wd.any wx.heap.size wx
        refine wp_region_below (B := wx.heap.size) (w0 := wx) (by kernel_rfl) (by kernel_rfl) (Below.refl _ _) ?_
        repeat (go_big_quiet_step ((go_at_call 102; exact quiet_below (CA.out _) (Nat.le_refl _))))
        refine wpQuiet_nil ?_
        intro wq hq
        replace hq := Wd.of hq
        have hqb := (hq.block wr.heap.size (by have := HSX.out; omega)).trans HXB.out
        have q0 : wq.cell? ⟨wr.heap.size, 0, none⟩ = some (.string xn) := by simp only [World.cell?, hqb]; rfl
        have q1 : wq.cell? ⟨wr.heap.size, 1, none⟩ = some (.string xv) := by simp only [World.cell?, hqb]; rfl
        have belq := belx.trans (hq.mono (by have := belx.size; omega))
        clear hqb hx0
        cases pb
        · cases q
          · go_wp2_with fail
            go_at_call 103
            refine (CK.out _).mono ?_
            rintro e w2 ⟨rfl, b2⟩
            replace b2 := belq.trans (b2.mono belq.size)
            go_wp2
            go_ret
            exact ⟨ret_bool (by rw [HBAD.out (by simp)]), b2⟩
          · go_wp2_with fail
            go_at_call 103
            refine (CK.out _).mono ?_
            rintro e w2 ⟨rfl, b2⟩
            replace b2 := belq.trans (b2.mono belq.size)
            go_wp2
            go_roundw
            case rel => exact ⟨k + 1, by omega, by go_num, HSUC.out (by simp) (by simp), b2⟩
            case measure => simp [intOf]; omega
        · go_wp2
          go_ret
          exact ⟨ret_bool (by rw [HTW.out (by simp)]), belq⟩
      · have hke : k = rs.length := by omega
        have hto := HTO.out
        rw [hke, List.take_length] at hto
        have HT := (show Hid _ from hto)
        clear hto HTO
        go_wp2
        go_ret
        exact ⟨ret_bool HT.out.symm, bel⟩
end Go.Proofs.YtkljadaggnbjkaaGreat

/- The plain mathematics of putting and reading: points are read from their bytes as they were; what is read has points alone. No condition. -/
namespace Go.Proofs.YtkljadaggnbjkaaGreat

theorem loOf_224 : loOf 224 = 160 := rfl
theorem loOf_le {b : Int} (h1 : b ≠ 224) (h2 : b ≠ 240) : loOf b = 128 := by unfold loOf; rw [if_neg h1, if_neg h2]
theorem hiOf_le {b : Int} (h1 : b ≠ 237) (h2 : b ≠ 244) : hiOf b = 191 := by unfold hiOf; rw [if_neg h1, if_neg h2]

theorem dec_enc {p : Int} (h0 : 0 ≤ p) (h1 : p ≤ 1114111) (h2 : p < 55296 ∨ 57343 < p) (r : List Int) : dec (enc p ++ r) = p :: dec r := by
  by_cases a : p < 128
  · rw [enc1 a]; exact dec_ascii r a
  by_cases b : p < 2048
  · rw [enc2 (by omega) b]
    show dec ((192 + p / 64) :: (128 + p % 64) :: r) = _
    rw [dec_two _ (by omega), tail_in _ 0 r (by rw [loOf_le (by omega) (by omega)]; omega) (by rw [hiOf_le (by omega) (by omega)]; omega)]
    simp only [tailOf]
    rw [show (192 + p / 64 - 192) * 64 + (128 + p % 64) - 128 = p by omega]
  by_cases c : p < 65536
  · rw [enc3 (by omega) c]
    show dec ((224 + p / 4096) :: (128 + p / 64 % 64) :: (128 + p % 64) :: r) = _
    have hlo : loOf (224 + p / 4096) ≤ 128 + p / 64 % 64 := by
      by_cases e : p / 4096 = 0
      · rw [e]; simp only [loOf]; simp; omega
      · rw [loOf_le (by omega) (by omega)]; omega
    have hhi : 128 + p / 64 % 64 ≤ hiOf (224 + p / 4096) := by
      by_cases e : p / 4096 = 13
      · rw [e]; simp only [hiOf]; simp; omega
      · rw [hiOf_le (by omega) (by omega)]; omega
    rw [dec_three _ (by omega), tail_in _ 1 _ hlo hhi, tail_in _ 0 r (by omega) (by omega)]
    simp only [tailOf]
    rw [show ((224 + p / 4096 - 224) * 64 + (128 + p / 64 % 64) - 128) * 64 + (128 + p % 64) - 128 = p by omega]
  · rw [enc4 (by omega)]
    show dec ((240 + p / 262144) :: (128 + p / 4096 % 64) :: (128 + p / 64 % 64) :: (128 + p % 64) :: r) = _
    have hlo : loOf (240 + p / 262144) ≤ 128 + p / 4096 % 64 := by
      by_cases e : p / 262144 = 0
      · rw [e]; simp only [loOf]; simp; omega
      · rw [loOf_le (by omega) (by omega)]; omega
    have hhi : 128 + p / 4096 % 64 ≤ hiOf (240 + p / 262144) := by
      by_cases e : p / 262144 = 4
      · rw [e]; simp only [hiOf]; simp; omega
      · rw [hiOf_le (by omega) (by omega)]; omega
    rw [dec_four _ (by omega), tail_in _ 2 _ hlo hhi, tail_in _ 1 _ (by omega) (by omega), tail_in _ 0 r (by omega) (by omega)]
    simp only [tailOf]
    rw [show (((240 + p / 262144 - 240) * 64 + (128 + p / 4096 % 64) - 128) * 64 + (128 + p / 64 % 64) - 128) * 64 + (128 + p % 64) - 128 = p by omega]

theorem dec_put (x : Int) (r : List Int) : dec (put x ++ r) = pt x :: dec r := by
  have h := pt_ok x
  exact dec_enc h.1 h.2.1 h.2.2 r
theorem dec_puts (xs : List Int) : dec (puts xs) = xs.map pt := by
  induction xs with
  | nil => exact dec_nil
  | cons x xs ih =>
    have e : puts (x :: xs) = put x ++ puts xs := by simp [puts]
    rw [e, dec_put, ih]; rfl
theorem put_pt (x : Int) : put (pt x) = put x := by unfold put; rw [pt_of _ (pointOk_pt x)]
theorem puts_pt (xs : List Int) : puts (xs.map pt) = puts xs := by
  unfold puts; rw [List.flatMap_map]; congr 1; funext x; exact put_pt x
theorem map_pt {xs : List Int} (h : ∀ x ∈ xs, pointOk x = true) : xs.map pt = xs := by
  conv => rhs; rw [← List.map_id xs]
  exact List.map_congr_left fun x hx => pt_of x (h x hx)

theorem unmark_first {b : Int} (h : b ≠ 239) (r : List Int) : unmark (b :: r) = b :: r := by
  unfold unmark; rw [if_neg]
  intro e
  match r, e with
  | [], e => simp at e
  | [_], e => simp at e
  | _ :: _ :: _, e => simp at e; exact h e.1

/-- What FnPoint reads and asks. -/
theorem read65 (x : Int) : utfRead ([65] ++ put x) = [65, pt x] := by
  have hl := (put_len x).2
  unfold utfRead
  rw [if_pos (by simp; omega)]
  show dec (unmark (65 :: put x)) = _
  rw [unmark_first (by omega)]
  have e : dec (65 :: put x) = 65 :: dec (put x) := dec_ascii _ (by omega)
  have e2 : dec (put x) = [pt x] := by have h := dec_put x []; rw [List.append_nil, dec_nil] at h; exact h
  rw [e, e2]
theorem put65 : put 65 = [65] := rfl
theorem ok65 (x : Int) : utfOk ([65] ++ put x) = true := by
  have hl := (put_len x).2
  rw [utfOk_yes (by simp; omega), read65]
  have e : pointsPut [65, pt x] = [65] ++ put x := by
    unfold pointsPut
    rw [if_pos (by simp)]
    show put 65 ++ (put (pt x) ++ []) = _
    rw [List.append_nil, put_pt]; rfl
  rw [e]; simp
end Go.Proofs.YtkljadaggnbjkaaGreat

/- The law on append, said of slices of any values, several cells an element, that the call itself made. No condition. -/
namespace Go.Proofs.YtkljadaggnbjkaaGreat
open Go.RowKit
set_option maxRecDepth 100000
set_option linter.unusedVariables false

/-- 'v = append(v, u...)', v the call's own, u whatever slice, m its length. -/
theorem wpList_appV {P : Program} (w : World) {ops : Array Oper} {rest : List Oper} {o : Oper} {a : Act} {Q : Exit → Act → World → Prop} (hgd : o.guard = none)
    (s x : Operand) (t : TypeId) (ho : o.op = Op.call { callee := Callee.builtin Builtin.append, args := #[s, x], argTypes := #[t, t] }) (B : Nat) (e : TypeId) (i : TypeInfo)
    (z : Value) (size bytes : Nat) (ht : P.underlying t = some (TypeDesc.slice e)) (hi : P.info? e = some i) (hz : i.zero = some z) (hsize : i.size = size) (hby : i.bytes = bytes)
    (hzs : z.cells.size = size) (hpos : 0 < size) (v u : Value) (n m : Nat) (xs ys : List Value) (hs : a.eval s = v) (hx : a.eval x = u) (hown : w.ownsRow B e size v n xs) (hu : Sv size w u ys) (hm : ys.length = m * size)
    (h1 : ∀ y ∈ ys, y.oneCell' = true) (hb : (n + m) * bytes ≤ 140737488355328) (h63 : n + m ≤ maxLen) (hbase : B ≤ w.heap.size)
    (h : ∀ (v' : Value) (w' : World), w'.ownsRow B e size v' (n + m) (xs ++ ys) → w.grownBy w' v.ownBlock → wpList P ops Q rest (a.put o.dst v') w') :
    wpList P ops Q (o :: rest) a w := by
  obtain ⟨ao, len, cap, rfl, hl, hlc, hcm, hnone, hc⟩ := hu
  have hlm : len = m := Nat.eq_of_mul_eq_mul_right hpos (hl.symm.trans hm)
  subst hlm
  cases ao with
  | none =>
    have hc0 := hnone rfl
    subst hc0
    have hl0 : len = 0 := by omega
    subst hl0
    have hy : ys = [] := List.length_eq_zero_iff.mp (by omega)
    subst hy
    refine wpList_append_own_none hgd s x t ho B e i size ht hi v n _ hs hown hx (h v w ?_ (World.grownBy.refl _ _))
    rw [List.append_nil]; exact hown
  | some ad =>
    refine wpList_append_own w hgd s x t ho B e i z size bytes ht hi hz hsize hby hzs hpos v n _ hs hown ad len cap ys hx hl ?_ h1 h63 hb hbase ?_
    · intro j y hy
      have hj : j < ys.length := by
        by_cases hj : j < ys.length
        · exact hj
        · rw [List.getElem?_eq_none (Nat.le_of_not_lt hj)] at hy; cases hy
      obtain ⟨b, off, e, c⟩ := hc j hj
      cases e
      have e2 : ys.getD j undef = y := by rw [List.getD_eq_getElem?_getD, hy]; rfl
      rw [e2] at c
      rw [← c]
      by_cases h0 : j = 0
      · subst h0; simp [Addr.add]
      · simp [Addr.add, h0]
    · intro v' w' ho' hg' _
      exact h v' w' ho' hg'
theorem empty_row (w : World) (B : Nat) (e : TypeId) (size : Nat) (hB : B ≤ w.heap.size) : (w.alloc (.cells #[] e)).ownsRow B e size (.slice (some ⟨w.heap.size, 0, none⟩) 0 0) 0 [] := by
  refine ⟨by simp, .inr ⟨w.heap.size, 0, #[], rfl, hB, heap_alloc_new _ _, Nat.le_refl _, Nat.zero_le _, by simp, by simp⟩⟩
end Go.Proofs.YtkljadaggnbjkaaGreat
