/- Contracts of the program's functions on attributes: the first that fits, and AttrOf. -/
import Derived.Test.YtogdbjafibejdaaGreatY19
import Derived.Laws.ResultCell
namespace Go.Proofs.YtogdbjafibejdaaGreat
open Go.RowKit
set_option maxRecDepth 100000
set_option linter.unusedVariables false

theorem attrOf1_any (g : Nat) (nm x y : ByteArray) (w : World) (hg : w.cell? ⟨g, 0, none⟩ = some (.string nm)) (hlt : g < w.heap.size) :
    Calls Tryz.prog 191 #[.agg #[.string x, .string y], .pointer (some ⟨g, 0, none⟩)] w fun e w' => e = .returned (.bool (decide (x = nm))) ∧ Below w.heap.size w w' := by
  have hb : Below w.heap.size w (w.alloc (.cells #[.string x, .string y] 115)) := (Below.refl _ _).alloc (Nat.le_refl _) _
  have hg2 := (hb.cell (p := ⟨g, 0, none⟩) hlt).trans hg
  by_cases hm : x = nm
  · rw [decide_eq_true hm]
    subst hm
    go_enter Tryz.func191, Tryz.ntmps191
    go_wp2
    go_ret
    exact ⟨rfl, hb⟩
  · rw [decide_eq_false hm]
    have hd := toList_ne hm
    go_enter Tryz.func191, Tryz.ntmps191
    go_wp2
    go_ret
    exact ⟨rfl, hb⟩

theorem setCell_at {w : World} {b k : Nat} {cs : Array Value} {u : Value} {t : TypeId} (h : w.heap[b]? = some (.cells cs t (0, 0))) : (w.setCell ⟨b, k, none⟩ u).heap[b]? = some (.cells (cs.setIfInBounds k u) t (0, 0)) := by
  have hlt := lt_of_block h
  have h' : w.heap[b] = .cells cs t (0, 0) := by simpa [Array.getElem?_eq_getElem hlt] using h
  show (w.heap.modify b _)[b]? = _
  rw [Array.getElem?_eq_getElem (by simpa using hlt), Array.getElem_modify_self, h']
  rfl
theorem first_res {tmps : Array Value} {w : World} {g : Nat} {x y : ByteArray} {b : Bool} (h4 : tmps.getD 4 undef = .pointer (some ⟨g, 0, none⟩)) (h5 : tmps.getD 5 undef = .bool b) (hb : w.heap[g]? = some (.cells #[.string x, .string y] 115 (0, 0))) :
    (results Tryz.f190 tmps).run Tryz.prog w = .ok (.tuple #[.agg #[.string x, .string y], .bool b]) w := by
  rw [results_cell_tmp (p := 4) (u := 5) (ty := 115) rfl, h4, h5]
  simp [asAddr, run_loadVar_row w g 115 115 #[.string x, .string y] (0, 0) _ hb Tryz.underlying115 rfl rfl, Result.andThen]

def attrNm (rs : List (ByteArray × ByteArray)) (nm : ByteArray) : ByteArray := if (attrOf rs nm).2 then nm else ⟨#[]⟩

set_option maxHeartbeats 2000000 in
set_option maxRecDepth 100000 in
theorem firstName_any {v : Value} {rs : List (ByteArray × ByteArray)} {w : World} (h : Sv 2 w v (pairCells rs)) (g : Nat) (nm : ByteArray) (hg : w.cell? ⟨g, 0, none⟩ = some (.string nm)) (hgl : g < w.heap.size) (hn : rs.length ≤ 1099511627776) :
    Calls Tryz.prog 190 #[v, .func (.func 191) #[] #[.pointer (some ⟨g, 0, none⟩)]] w fun e w' => e = .returned (.tuple #[.agg #[.string (attrNm rs nm), .string (attrOf rs nm).1], .bool (attrOf rs nm).2]) ∧ Below w.heap.size w w' := by
  have HS := (show Hid (Sv 2 w v (pairCells rs)) from h)
  obtain ⟨a, ca, rfl, _, _, hca⟩ := h.pair
  clear h hca
  have HG := (show Hid (w.cell? ⟨g, 0, none⟩ = some (.string nm)) from hg)
  clear hg
  go_enter Tryz.func190, Tryz.ntmps190
  go_wp2
  obtain ⟨w0, hw0⟩ : ∃ w0, w0 = w.alloc (.cells #[.string ⟨#[]⟩, .string ⟨#[]⟩] 115) := ⟨_, rfl⟩
  have hsz0 : w0.heap.size = w.heap.size + 1 := by rw [hw0]; simp
  have bel0 : Below w.heap.size w w0 := by rw [hw0]; exact (Below.refl _ _).alloc (Nat.le_refl _) _
  have hres0 : w0.heap[w.heap.size]? = some (.cells #[.string ⟨#[]⟩, .string ⟨#[]⟩] 115 (0, 0)) := by rw [hw0]; exact heap_alloc_new _ _
  rw [← hw0]
  go_loopw [11] (fun i wr => ∃ k : Nat, k ≤ rs.length ∧ i = .int .i64 k ∧ attrOf (rs.drop k) nm = attrOf rs nm ∧ Below w0.heap.size w0 wr) (fun i _ => rs.length - (intOf i).toNat)
  case atStart => exact ⟨0, Nat.zero_le _, rfl, rfl, Below.refl _ _⟩
  case round =>
    obtain ⟨k, hk, rfl, he, bel⟩ := hrel
    have BW : Hid (Below w.heap.size w wr) := bel0.trans (bel.mono (by omega))
    have hresr : wr.heap[w.heap.size]? = some (.cells #[.string ⟨#[]⟩, .string ⟨#[]⟩] 115 (0, 0)) := by rw [bel.block _ (by omega)]; exact hres0
    have hwl : w.heap.size < wr.heap.size := by have := bel.size; omega
    by_cases hlt : k < rs.length
    · obtain ⟨_, _, ev, _, _, hca⟩ := (HS.out.below BW.out).pair
      cases ev
      obtain ⟨b1, o1, rfl, l1, c1, c2⟩ := hca k hlt
      rw [attrOf_drop hlt] at he
      obtain ⟨x, hx⟩ : ∃ x, x = rs[k] := ⟨_, rfl⟩
      rw [← hx] at c1 c2 he
      have HE := (show Hid _ from he)
      clear he hx hca
      obtain ⟨xn, xv⟩ := x
      simp only at c1 c2 HE
      have bx : Below wr.heap.size wr (wr.alloc (.cells #[.string xn, .string xv] 115)) := (Below.refl _ _).alloc (Nat.le_refl _) _
      have cc := attrOf1_any g nm xn xv (wr.alloc (.cells #[.string xn, .string xv] 115)) ((bx.cell (p := ⟨g, 0, none⟩) (by show g < wr.heap.size; omega)).trans ((BW.out.cell (p := ⟨g, 0, none⟩) hgl).trans HG.out)) (by simp; omega)
      have hxb : (wr.alloc (.cells #[.string xn, .string xv] 115)).heap[wr.heap.size]? = some (.cells #[.string xn, .string xv] 115 (0, 0)) := heap_alloc_new _ _
      have hrb : (wr.alloc (.cells #[.string xn, .string xv] 115)).heap[w.heap.size]? = some (.cells #[.string ⟨#[]⟩, .string ⟨#[]⟩] 115 (0, 0)) := by rw [bx.block _ hwl]; exact hresr
      have hsa : (wr.alloc (.cells #[.string xn, .string xv] 115)).heap.size = wr.heap.size + 1 := by simp
      by_cases hm : xn = nm
      · rw [decide_eq_true hm] at cc
        have HE2 : Hid (attrOf rs nm = (xv, true)) := by have := HE.out; rw [if_pos hm] at this; exact this.symm
        clear HE
        subst hm
        go_wp2_with fail
        go_at_call 191
        refine cc.mono ?_
        rintro e w2 ⟨rfl, b2⟩
        have hx2 := (b2.block wr.heap.size (by omega)).trans hxb
        have hr2 := (b2.block w.heap.size (by omega)).trans hrb
        have x0 : w2.cell? ⟨wr.heap.size, 0, none⟩ = some (.string xn) := by simp [World.cell?, hx2]
        have x1 : w2.cell? ⟨wr.heap.size, 1, none⟩ = some (.string xv) := by simp [World.cell?, hx2]
        have r0 : w2.cell? ⟨w.heap.size, 0, none⟩ = some (.string ⟨#[]⟩) := by simp [World.cell?, hr2]
        have r1 : w2.cell? ⟨w.heap.size, 1, none⟩ = some (.string ⟨#[]⟩) := by simp [World.cell?, hr2]
        have f0 : w2.frozen? ⟨w.heap.size, 0, none⟩ = false := by simp [World.frozen?, hr2]
        have f1 : w2.frozen? ⟨w.heap.size, 1, none⟩ = false := by simp [World.frozen?, hr2]
        have BW2 : Hid (Below w.heap.size w w2) := BW.out.trans ((bx.trans (b2.mono (by omega))).mono (by omega))
        have hr3 := (show Hid _ from setCell_at (k := 1) (u := .string xv) (setCell_at (k := 0) (u := .string xn) hr2))
        clear c1 c2 cc hx2 hr2 hxb hrb hresr
        go_wp2
        (try simp only [Exit.inBlock, Exit.then])
        refine bodyPost_ret (first_res (x := xn) (y := xv) (b := true) rfl rfl hr3.out) rfl ?_
        exact ⟨by unfold attrNm; rw [HE2.out]; rfl, (BW2.out.setCell (Nat.le_refl _) _).setCell (Nat.le_refl _) _⟩
      · rw [decide_eq_false hm] at cc
        have HE2 := HE.out
        rw [if_neg hm] at HE2
        have HE3 := (show Hid _ from HE2)
        clear HE HE2
        go_wp2_with fail
        go_at_call 191
        refine cc.mono ?_
        rintro e w2 ⟨rfl, b2⟩
        go_wp2
        go_roundw
        case rel => exact ⟨k + 1, by omega, by go_num, HE3.out, bel.trans ((bx.trans (b2.mono (by omega))).mono bel.size)⟩
        case measure => simp [intOf]; omega
    · have hke : k = rs.length := by omega
      rw [hke, List.drop_length] at he
      have HE := (show Hid _ from he)
      clear he
      have r0 : wr.cell? ⟨w.heap.size, 0, none⟩ = some (.string ⟨#[]⟩) := by simp only [World.cell?, hresr]; rfl
      have r1 : wr.cell? ⟨w.heap.size, 1, none⟩ = some (.string ⟨#[]⟩) := by simp only [World.cell?, hresr]; rfl
      have f0 : wr.frozen? ⟨w.heap.size, 0, none⟩ = false := by simp only [World.frozen?, hresr]; rfl
      have f1 : wr.frozen? ⟨w.heap.size, 1, none⟩ = false := by simp only [World.frozen?, hresr]; rfl
      have hr3 := (show Hid _ from setCell_at (k := 1) (u := .string ⟨#[]⟩) (setCell_at (k := 0) (u := .string ⟨#[]⟩) hresr))
      have hne : w.heap.size ≠ wr.heap.size := by omega
      clear hresr
      go_wp2
      (try simp only [Exit.inBlock, Exit.then])
      refine bodyPost_ret (first_res (x := ⟨#[]⟩) (y := ⟨#[]⟩) (b := false) rfl rfl (Eq.trans (by first | exact heap_alloc_old _ _ (by simp; omega) | exact heap_alloc_old _ _ _ (by simp; omega)) hr3.out)) rfl ?_
      exact ⟨by unfold attrNm; rw [← HE.out]; rfl, ((BW.out.setCell (Nat.le_refl _) _).setCell (Nat.le_refl _) _).alloc (by simp; omega) _⟩

set_option maxHeartbeats 2000000 in
set_option maxRecDepth 100000 in
theorem iattrOf_any {v : Value} {rs : List (ByteArray × ByteArray)} {w : World} (h : Sv 2 w v (pairCells rs)) (nm : ByteArray) (hn : rs.length ≤ 1099511627776) :
    Calls Tryz.prog 156 #[v, .string nm] w fun e w' => e = .returned (.tuple #[.string (attrOf rs nm).1, .bool (attrOf rs nm).2]) ∧ Below w.heap.size w w' := by
  have b1 : Below w.heap.size w (w.alloc (.cells #[.string nm] 9)) := (Below.refl _ _).alloc (Nat.le_refl _) _
  have cc := firstName_any (h.below b1) w.heap.size nm (by simp only [World.cell?, heap_alloc_new]; rfl) (by simp) hn
  obtain ⟨p, hp⟩ : ∃ p, p = attrOf rs nm := ⟨_, rfl⟩
  obtain ⟨q, hq⟩ : ∃ q, q = attrNm rs nm := ⟨_, rfl⟩
  rw [← hp, ← hq] at cc
  rw [← hp]
  clear hp hq h
  obtain ⟨pv, pb⟩ := p
  simp only at cc ⊢
  go_enter Tryz.func156, Tryz.ntmps156
  go_wp2_with fail
  go_at_call 190
  refine cc.mono ?_
  rintro e w2 ⟨rfl, b2⟩
  go_wp2
  go_ret2
  exact ⟨rfl, (b1.trans (b2.mono b1.size)).alloc (b1.trans (b2.mono b1.size)).size _⟩
end Go.Proofs.YtogdbjafibejdaaGreat

/- Contracts of the specification's AttrsOk and AttrsSame. -/
namespace Go.Proofs.YtogdbjafibejdaaGreat
open Go.RowKit
set_option maxRecDepth 100000
set_option linter.unusedVariables false

theorem attrsTo_iff (rs : List (ByteArray × ByteArray)) : attrsTo rs = true ↔ (∀ i (hi : i < rs.length), attrOk rs[i] = true) ∧ ∀ i j (hi : i < rs.length) (hj : j < rs.length), i < j → rs[i].1 ≠ rs[j].1 := by
  unfold attrsTo
  rw [Bool.and_eq_true, List.all_eq_true, decide_eq_true_eq, List.pairwise_iff_getElem]
  constructor
  · rintro ⟨h1, h2⟩
    exact ⟨fun i hi => h1 _ (List.getElem_mem hi), h2⟩
  · rintro ⟨h1, h2⟩
    refine ⟨fun p hp => ?_, h2⟩
    obtain ⟨i, hi, rfl⟩ := List.getElem_of_mem hp
    exact h1 i hi
theorem attrsTo_succ {rs : List (ByteArray × ByteArray)} {k : Nat} (hk : k < rs.length) (h : attrsTo (rs.take k) = true) (ha : attrOk rs[k] = true) (hd : ∀ j (hj : j < k), (rs[j]'(by omega)).1 ≠ rs[k].1) : attrsTo (rs.take (k + 1)) = true := by
  rw [attrsTo_iff] at h ⊢
  have hl : (rs.take (k + 1)).length = k + 1 := by simp; omega
  have hl0 : (rs.take k).length = k := by simp; omega
  refine ⟨fun i hi => ?_, fun i j hi hj hij => ?_⟩
  · rw [List.getElem_take]
    by_cases hik : i < k
    · have := h.1 i (by omega); rw [List.getElem_take] at this; exact this
    · have e : i = k := by omega
      subst e; exact ha
  · rw [List.getElem_take, List.getElem_take]
    by_cases hjk : j < k
    · have := h.2 i j (by omega) (by omega) hij
      rw [List.getElem_take, List.getElem_take] at this; exact this
    · have e : j = k := by omega
      subst e; exact hd i hij
theorem attrsTo_bad {rs : List (ByteArray × ByteArray)} {k : Nat} (hk : k < rs.length) (h : attrOk rs[k] = false) : attrsTo rs = false := by
  rcases he : attrsTo rs with _ | _
  · rfl
  · rw [((attrsTo_iff rs).mp he).1 k hk] at h; cases h
theorem attrsTo_twice {rs : List (ByteArray × ByteArray)} {j k : Nat} (hj : j < rs.length) (hk : k < rs.length) (hjk : j < k) (h : rs[j].1 = rs[k].1) : attrsTo rs = false := by
  rcases he : attrsTo rs with _ | _
  · rfl
  · exact absurd h (((attrsTo_iff rs).mp he).2 j k hj hk hjk)

set_option maxHeartbeats 2000000 in
set_option maxRecDepth 100000 in
theorem sattrsOk_any {v : Value} {rs : List (ByteArray × ByteArray)} {w : World} (h : Sv 2 w v (pairCells rs)) (hn : rs.length ≤ 1099511627776) (hs : ∀ p ∈ rs, p.1.size ≤ 1099511627776 ∧ p.2.size ≤ 1099511627776) :
    Calls Tryz.prog 108 #[v] w fun e w' => e = .returned (.bool (attrsOk rs)) ∧ Below w.heap.size w w' := by
  obtain ⟨a, ca, rfl, _, _, hca⟩ := h.pair
  have HS := (show Hid (∀ p ∈ rs, p.1.size ≤ 1099511627776 ∧ p.2.size ≤ 1099511627776) from hs)
  clear h hs
  by_cases h20 : 20 < rs.length
  · have hr : attrsOk rs = false := by unfold attrsOk; rw [decide_eq_false (by omega)]; rfl
    rw [hr]
    go_enter Tryz.func108, Tryz.ntmps108
    go_wp2
    go_ret
    exact ⟨rfl, Below.refl _ _⟩
  · have hr : attrsOk rs = attrsTo rs := by unfold attrsOk; rw [decide_eq_true (by omega)]; rfl
    rw [hr]
    have h21 : rs.length ≤ 20 := by omega
    clear hr h20
    go_enter Tryz.func108, Tryz.ntmps108
    go_wp2
    go_loopw [3] (fun i wr => ∃ k : Nat, k ≤ rs.length ∧ i = .int .i64 k ∧ attrsTo (rs.take k) = true ∧ Below w.heap.size w wr) (fun i _ => rs.length - (intOf i).toNat)
    case atStart => exact ⟨0, Nat.zero_le _, rfl, rfl, Below.refl _ _⟩
    case round =>
      obtain ⟨k, hk, rfl, hto, bel⟩ := hrel
      have HTO := (show Hid (attrsTo (rs.take k) = true) from hto)
      clear hto
      by_cases hlt : k < rs.length
      · obtain ⟨b1, o1, rfl, l1, c1, c2⟩ := hca k hlt
        have d1 : wr.cell? ⟨b1, o1 + k * 2, none⟩ = some (.string rs[k].1) := (bel.cell (p := ⟨b1, o1 + k * 2, none⟩) l1).trans c1
        have d2 : wr.cell? ⟨b1, o1 + k * 2 + 1, none⟩ = some (.string rs[k].2) := (bel.cell (p := ⟨b1, o1 + k * 2 + 1, none⟩) l1).trans c2
        have hsz := HS.out rs[k] (List.getElem_mem hlt)
        have cc := fun w => l4Attr_any rs[k] w hsz.1 hsz.2
        have HBAD : Hid (attrOk rs[k] = false → attrsTo rs = false) := attrsTo_bad hlt
        have HSUC : Hid (attrOk rs[k] = true → (∀ j (hj : j < k), (rs[j]'(by omega)).1 ≠ rs[k].1) → attrsTo (rs.take (k + 1)) = true) := attrsTo_succ hlt HTO.out
        have HTW : Hid (∀ j (hj : j < rs.length), j < k → rs[j].1 = rs[k].1 → attrsTo rs = false) := fun j hj hjk e => attrsTo_twice hj hlt hjk e
        obtain ⟨x, hx⟩ : ∃ x, x = rs[k] := ⟨_, rfl⟩
        rw [← hx] at c1 d1 d2 cc HBAD HSUC HTW
        clear hx c2 hsz
        obtain ⟨p, hp⟩ : ∃ p, p = attrOk x := ⟨_, rfl⟩
        rw [← hp] at cc HBAD HSUC
        have CC := (show Hid _ from cc)
        clear cc hp
        cases p
        · go_wp2_with fail
          go_at_call 152
          refine (CC.out _).mono ?_
          rintro e w2 ⟨rfl, b2⟩
          replace b2 := bel.trans (b2.mono bel.size)
          clear d1 d2
          go_wp2
          go_ret
          exact ⟨ret_bool (by rw [HBAD.out (by simp)]), b2⟩
        · go_wp2_with fail
          go_at_call 152
          refine (CC.out _).mono ?_
          rintro e w2 ⟨rfl, b2⟩
          replace b2 := bel.trans (b2.mono bel.size)
          clear d1 d2 HBAD CC
          go_wp2
          go_loopw [4] (fun i wr => ∃ j : Nat, j ≤ k ∧ i = .int .i64 j ∧ (∀ t (ht : t < rs.length), t < j → rs[t].1 ≠ x.1) ∧ Below w.heap.size w wr) (fun i _ => k - (intOf i).toNat)
          case atStart => exact ⟨0, Nat.zero_le _, rfl, fun t ht h => absurd h (by omega), b2⟩
          case round =>
            clear b2
            obtain ⟨j, hj, rfl, hall, bel2⟩ := hrel
            have HALL := (show Hid (∀ t (ht : t < rs.length), t < j → rs[t].1 ≠ x.1) from hall)
            clear hall
            by_cases hjk : j < k
            · have hjl : j < rs.length := by omega
              obtain ⟨b3, o3, e3, l3, c3, _⟩ := hca j hjl
              cases e3
              have d3 : wr.cell? ⟨b1, o1 + j * 2, none⟩ = some (.string rs[j].1) := (bel2.cell (p := ⟨b1, o1 + j * 2, none⟩) l1).trans c3
              have dk : wr.cell? ⟨b1, o1 + k * 2, none⟩ = some (.string x.1) := (bel2.cell (p := ⟨b1, o1 + k * 2, none⟩) l1).trans c1
              have HTW2 := (show Hid (rs[j].1 = x.1 → attrsTo rs = false) from HTW.out j hjl hjk)
              have HNX : Hid (rs[j].1 ≠ x.1 → ∀ t (ht : t < rs.length), t < j + 1 → rs[t].1 ≠ x.1) := fun hne t ht htj => by
                by_cases e : t = j
                · subst e; exact hne
                · exact HALL.out t ht (by omega)
              have hjl2 : (j : Int) < (rs.length : Int) := by omega
              have hkl2 : (k : Int) < (rs.length : Int) := by omega
              obtain ⟨y, hy⟩ : ∃ y, y = rs[j] := ⟨_, rfl⟩
              rw [← hy] at d3 HTW2 HNX
              clear hy c3 hca c1 HALL
              by_cases hyx : y.1 = x.1
              · have HF := (show Hid _ from HTW2.out hyx)
                rw [hyx] at d3
                clear HTW HTW2 HNX HSUC
                go_wp2
                go_quiet (fail)
                go_wp2
                go_ret
                exact ⟨ret_bool (by rw [HF.out]), bel2.trans (below_drewN _)⟩
              · have HG := (show Hid _ from HNX.out hyx)
                have hd := toList_ne hyx
                clear HTW HTW2 HNX HSUC
                go_wp2
                go_quiet (fail)
                go_wp2
                go_roundw
                case rel => exact ⟨j + 1, by omega, by go_num, HG.out, bel2.trans (below_drewN _)⟩
                case measure => simp [intOf]; omega
            · have hjk2 : j = k := by omega
              have HG : Hid (attrsTo (rs.take (k + 1)) = true) := HSUC.out (by simp) (fun t ht => HALL.out t (by omega) (by omega))
              clear HTW HSUC HALL hca c1
              go_wp2
              go_roundw
              case rel => exact ⟨k + 1, by omega, by go_num, HG.out, bel2⟩
              case measure => simp [intOf]; omega
      · have hke : k = rs.length := by omega
        have hto := HTO.out
        rw [hke, List.take_length] at hto
        have HT2 := (show Hid _ from hto)
        clear hto
        go_wp2
        go_ret
        exact ⟨ret_bool (by rw [HT2.out]), bel⟩
end Go.Proofs.YtogdbjafibejdaaGreat
