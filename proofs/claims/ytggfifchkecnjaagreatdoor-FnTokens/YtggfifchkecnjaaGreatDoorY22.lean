/- Contracts of the program's functions on attributes: the first that fits, and AttrOf. -/
import Derived.Test.YtggfifchkecnjaaGreatDoorY21
import Derived.Laws.ResultCell
namespace Go.Proofs.YtggfifchkecnjaaGreatDoor
open Go.RowKit
set_option maxRecDepth 100000
set_option linter.unusedVariables false

theorem attrOf1_any (g : Nat) (nm x y : ByteArray) (w : World) (hg : w.cell? ⟨g, 0, none⟩ = some (.string nm)) (hlt : g < w.heap.size) :
    Calls Tryz.prog 106 #[.agg #[.string x, .string y], .pointer (some ⟨g, 0, none⟩)] w fun e w' => e = .returned (.bool (decide (x = nm))) ∧ Below w.heap.size w w' := by
  have hb : Below w.heap.size w (w.alloc (.cells #[.string x, .string y] 81)) := (Below.refl _ _).alloc (Nat.le_refl _) _
  have hg2 := (hb.cell (p := ⟨g, 0, none⟩) hlt).trans hg
  by_cases hm : x = nm
  · rw [decide_eq_true hm]
    subst hm
    go_enter Tryz.func106, Tryz.ntmps106
    go_wp2
    go_ret
    exact ⟨rfl, hb⟩
  · rw [decide_eq_false hm]
    have hd := toList_ne hm
    go_enter Tryz.func106, Tryz.ntmps106
    go_wp2
    go_ret
    exact ⟨rfl, hb⟩

theorem setCell_at {w : World} {b k : Nat} {cs : Array Value} {u : Value} {t : TypeId} (h : w.heap[b]? = some (.cells cs t (0, 0))) : (w.setCell ⟨b, k, none⟩ u).heap[b]? = some (.cells (cs.setIfInBounds k u) t (0, 0)) := by
  have hlt := lt_of_block h
  have h' : w.heap[b] = .cells cs t (0, 0) := by simpa [Array.getElem?_eq_getElem hlt] using h
  show (w.heap.modify b _)[b]? = _
  rw [Array.getElem?_eq_getElem (by simpa using hlt), Array.getElem_modify_self, h']
  rfl
theorem first_res {tmps : Array Value} {w : World} {g : Nat} {x y : ByteArray} {b : Bool} (h4 : tmps.getD 4 undef = .pointer (some ⟨g, 0, none⟩)) (h5 : tmps.getD 5 undef = .bool b) (hb : w.heap[g]? = some (.cells #[.string x, .string y] 81 (0, 0))) :
    (results Tryz.f105 tmps).run Tryz.prog w = .ok (.tuple #[.agg #[.string x, .string y], .bool b]) w := by
  rw [results_cell_tmp (p := 4) (u := 5) (ty := 81) rfl, h4, h5]
  simp [asAddr, run_loadVar_row w g 81 81 #[.string x, .string y] (0, 0) _ hb Tryz.underlying81 rfl rfl, Result.andThen]

def attrNm (rs : List (ByteArray × ByteArray)) (nm : ByteArray) : ByteArray := if (attrOf rs nm).2 then nm else ⟨#[]⟩

set_option maxHeartbeats 2000000 in
set_option maxRecDepth 100000 in
theorem firstName_any {v : Value} {rs : List (ByteArray × ByteArray)} {w : World} (h : Sv 2 w v (pairCells rs)) (g : Nat) (nm : ByteArray) (hg : w.cell? ⟨g, 0, none⟩ = some (.string nm)) (hgl : g < w.heap.size) (hn : rs.length ≤ 1099511627776) :
    Calls Tryz.prog 105 #[v, .func (.func 106) #[] #[.pointer (some ⟨g, 0, none⟩)]] w fun e w' => e = .returned (.tuple #[.agg #[.string (attrNm rs nm), .string (attrOf rs nm).1], .bool (attrOf rs nm).2]) ∧ Below w.heap.size w w' := by
  have HS := (show Hid (Sv 2 w v (pairCells rs)) from h)
  obtain ⟨a, ca, rfl, _, _, hca⟩ := h.pair
  clear h hca
  have HG := (show Hid (w.cell? ⟨g, 0, none⟩ = some (.string nm)) from hg)
  clear hg
  go_enter Tryz.func105, Tryz.ntmps105
  go_wp2
  obtain ⟨w0, hw0⟩ : ∃ w0, w0 = w.alloc (.cells #[.string ⟨#[]⟩, .string ⟨#[]⟩] 81) := ⟨_, rfl⟩
  have hsz0 : w0.heap.size = w.heap.size + 1 := by rw [hw0]; simp
  have bel0 : Below w.heap.size w w0 := by rw [hw0]; exact (Below.refl _ _).alloc (Nat.le_refl _) _
  have hres0 : w0.heap[w.heap.size]? = some (.cells #[.string ⟨#[]⟩, .string ⟨#[]⟩] 81 (0, 0)) := by rw [hw0]; exact heap_alloc_new _ _
  rw [← hw0]
  go_loopw [11] (fun i wr => ∃ k : Nat, k ≤ rs.length ∧ i = .int .i64 k ∧ attrOf (rs.drop k) nm = attrOf rs nm ∧ Below w0.heap.size w0 wr) (fun i _ => rs.length - (intOf i).toNat)
  case atStart => exact ⟨0, Nat.zero_le _, rfl, rfl, Below.refl _ _⟩
  case round =>
    obtain ⟨k, hk, rfl, he, bel⟩ := hrel
    have BW : Hid (Below w.heap.size w wr) := bel0.trans (bel.mono (by omega))
    have hresr : wr.heap[w.heap.size]? = some (.cells #[.string ⟨#[]⟩, .string ⟨#[]⟩] 81 (0, 0)) := by rw [bel.block _ (by omega)]; exact hres0
    have hwl : w.heap.size < wr.heap.size := by have := bel.size; omega
    by_cases hlt : k < rs.length
    · obtain ⟨_, _, ev, _, _, hca⟩ := (HS.out.below BW.out).pair
      cases ev
      obtain ⟨b1, o1, rfl, l1, c1, c2⟩ := hca k hlt
      rw [attrOf_drop hlt] at he
      obtain ⟨x, hx⟩ : ∃ x, x = rs[k] := ⟨_, rfl⟩
      rw [← hx] at c1 c2 he
      have HE := (show Hid _ from he)
      clear he hx hca
      obtain ⟨xn, xv⟩ := x
      simp only at c1 c2 HE
      have bx : Below wr.heap.size wr (wr.alloc (.cells #[.string xn, .string xv] 81)) := (Below.refl _ _).alloc (Nat.le_refl _) _
      have cc := attrOf1_any g nm xn xv (wr.alloc (.cells #[.string xn, .string xv] 81)) ((bx.cell (p := ⟨g, 0, none⟩) (by show g < wr.heap.size; omega)).trans ((BW.out.cell (p := ⟨g, 0, none⟩) hgl).trans HG.out)) (by simp; omega)
      have hxb : (wr.alloc (.cells #[.string xn, .string xv] 81)).heap[wr.heap.size]? = some (.cells #[.string xn, .string xv] 81 (0, 0)) := heap_alloc_new _ _
      have hrb : (wr.alloc (.cells #[.string xn, .string xv] 81)).heap[w.heap.size]? = some (.cells #[.string ⟨#[]⟩, .string ⟨#[]⟩] 81 (0, 0)) := by rw [bx.block _ hwl]; exact hresr
      have hsa : (wr.alloc (.cells #[.string xn, .string xv] 81)).heap.size = wr.heap.size + 1 := by simp
      by_cases hm : xn = nm
      · rw [decide_eq_true hm] at cc
        have HE2 : Hid (attrOf rs nm = (xv, true)) := by have := HE.out; rw [if_pos hm] at this; exact this.symm
        clear HE
        subst hm
        go_wp2_with fail
        go_at_call 106
        refine cc.mono ?_
        rintro e w2 ⟨rfl, b2⟩
        have hx2 := (b2.block wr.heap.size (by omega)).trans hxb
        have hr2 := (b2.block w.heap.size (by omega)).trans hrb
        have x0 : w2.cell? ⟨wr.heap.size, 0, none⟩ = some (.string xn) := by simp [World.cell?, hx2]
        have x1 : w2.cell? ⟨wr.heap.size, 1, none⟩ = some (.string xv) := by simp [World.cell?, hx2]
        have r0 : w2.cell? ⟨w.heap.size, 0, none⟩ = some (.string ⟨#[]⟩) := by simp [World.cell?, hr2]
        have r1 : w2.cell? ⟨w.heap.size, 1, none⟩ = some (.string ⟨#[]⟩) := by simp [World.cell?, hr2]
        have f0 : w2.frozen? ⟨w.heap.size, 0, none⟩ = false := by simp [World.frozen?, hr2]
        have f1 : w2.frozen? ⟨w.heap.size, 1, none⟩ = false := by simp [World.frozen?, hr2]
        have BW2 : Hid (Below w.heap.size w w2) := BW.out.trans ((bx.trans (b2.mono (by omega))).mono (by omega))
        have hr3 := (show Hid _ from setCell_at (k := 1) (u := .string xv) (setCell_at (k := 0) (u := .string xn) hr2))
        clear c1 c2 cc hx2 hr2 hxb hrb hresr
        go_wp2
        (try simp only [Exit.inBlock, Exit.then])
        refine bodyPost_ret (first_res (x := xn) (y := xv) (b := true) rfl rfl hr3.out) rfl ?_
        exact ⟨by unfold attrNm; rw [HE2.out]; rfl, (BW2.out.setCell (Nat.le_refl _) _).setCell (Nat.le_refl _) _⟩
      · rw [decide_eq_false hm] at cc
        have HE2 := HE.out
        rw [if_neg hm] at HE2
        have HE3 := (show Hid _ from HE2)
        clear HE HE2
        go_wp2_with fail
        go_at_call 106
        refine cc.mono ?_
        rintro e w2 ⟨rfl, b2⟩
        go_wp2
        go_roundw
        case rel => exact ⟨k + 1, by omega, by go_num, HE3.out, bel.trans ((bx.trans (b2.mono (by omega))).mono bel.size)⟩
        case measure => simp [intOf]; omega
    · have hke : k = rs.length := by omega
      rw [hke, List.drop_length] at he
      have HE := (show Hid _ from he)
      clear he
      have r0 : wr.cell? ⟨w.heap.size, 0, none⟩ = some (.string ⟨#[]⟩) := by simp only [World.cell?, hresr]; rfl
      have r1 : wr.cell? ⟨w.heap.size, 1, none⟩ = some (.string ⟨#[]⟩) := by simp only [World.cell?, hresr]; rfl
      have f0 : wr.frozen? ⟨w.heap.size, 0, none⟩ = false := by simp only [World.frozen?, hresr]; rfl
      have f1 : wr.frozen? ⟨w.heap.size, 1, none⟩ = false := by simp only [World.frozen?, hresr]; rfl
      have hr3 := (show Hid _ from setCell_at (k := 1) (u := .string ⟨#[]⟩) (setCell_at (k := 0) (u := .string ⟨#[]⟩) hresr))
      have hne : w.heap.size ≠ wr.heap.size := by omega
      clear hresr
      go_wp2
      (try simp only [Exit.inBlock, Exit.then])
      refine bodyPost_ret (first_res (x := ⟨#[]⟩) (y := ⟨#[]⟩) (b := false) rfl rfl (Eq.trans (by first | exact heap_alloc_old _ _ (by simp; omega) | exact heap_alloc_old _ _ _ (by simp; omega)) hr3.out)) rfl ?_
      exact ⟨by unfold attrNm; rw [← HE.out]; rfl, ((BW.out.setCell (Nat.le_refl _) _).setCell (Nat.le_refl _) _).alloc (by simp; omega) _⟩

set_option maxHeartbeats 2000000 in
set_option maxRecDepth 100000 in
theorem iattrOf_any {v : Value} {rs : List (ByteArray × ByteArray)} {w : World} (h : Sv 2 w v (pairCells rs)) (nm : ByteArray) (hn : rs.length ≤ 1099511627776) :
    Calls Tryz.prog 57 #[v, .string nm] w fun e w' => e = .returned (.tuple #[.string (attrOf rs nm).1, .bool (attrOf rs nm).2]) ∧ Below w.heap.size w w' := by
  have b1 : Below w.heap.size w (w.alloc (.cells #[.string nm] 9)) := (Below.refl _ _).alloc (Nat.le_refl _) _
  have cc := firstName_any (h.below b1) w.heap.size nm (by simp only [World.cell?, heap_alloc_new]; rfl) (by simp) hn
  obtain ⟨p, hp⟩ : ∃ p, p = attrOf rs nm := ⟨_, rfl⟩
  obtain ⟨q, hq⟩ : ∃ q, q = attrNm rs nm := ⟨_, rfl⟩
  rw [← hp, ← hq] at cc
  rw [← hp]
  clear hp hq h
  obtain ⟨pv, pb⟩ := p
  simp only at cc ⊢
  go_enter Tryz.func57, Tryz.ntmps57
  go_wp2_with fail
  go_at_call 105
  refine cc.mono ?_
  rintro e w2 ⟨rfl, b2⟩
  go_wp2
  go_ret2
  exact ⟨rfl, (b1.trans (b2.mono b1.size)).alloc (b1.trans (b2.mono b1.size)).size _⟩
end Go.Proofs.YtggfifchkecnjaaGreatDoor

/- The contract of the specification's RefRead, where a name may stand. -/
namespace Go.Proofs.YtggfifchkecnjaaGreatDoor
open Go.RowKit
set_option maxRecDepth 100000
set_option linter.unusedVariables false

def BestAt (w : World) (g : Nat) (r : ByteArray × Int) : Prop := w.heap[g]? = some (.cells #[.string r.1, .int .i64 r.2] 92 (0, 0))
theorem BestAt.lt {w : World} {g : Nat} {r : ByteArray × Int} (h : BestAt w g r) : g < w.heap.size := lt_of_block h
theorem BestAt.below {w w' : World} {g : Nat} {r : ByteArray × Int} (h : BestAt w g r) (hb : Below w.heap.size w w') : BestAt w' g r := by
  unfold BestAt at *
  rw [hb.block g (lt_of_block h)]; exact h
theorem BestAt.cells {w : World} {g : Nat} {r : ByteArray × Int} (h : BestAt w g r) : w.cell? ⟨g, 0, none⟩ = some (.string r.1) ∧ w.cell? ⟨g, 1, none⟩ = some (.int .i64 r.2) ∧ w.frozen? ⟨g, 0, none⟩ = false ∧ w.frozen? ⟨g, 1, none⟩ = false := by
  unfold BestAt at h
  refine ⟨?_, ?_, ?_, ?_⟩
  · simp [World.cell?, h]
  · simp [World.cell?, h]
  · simp [World.frozen?, h]
  · simp [World.frozen?, h]

theorem block_set {w : World} {b k : Nat} {cs : Array Value} {u : Value} {t : TypeId} (h : w.heap[b]? = some (.cells cs t (0, 0))) : (w.setCell ⟨b, k, none⟩ u).heap[b]? = some (.cells (cs.setIfInBounds k u) t (0, 0)) := by
  have hlt := lt_of_block h
  have h' : w.heap[b] = .cells cs t (0, 0) := by simpa [Array.getElem?_eq_getElem hlt] using h
  show (w.heap.modify b _)[b]? = _
  rw [Array.getElem?_eq_getElem (by simpa using hlt), Array.getElem_modify_self, h']
  rfl
theorem BestAt.set {w : World} {g : Nat} {r : ByteArray × Int} (h : BestAt w g r) (n : ByteArray) (p : Int) : BestAt ((w.setCell ⟨g, 0, none⟩ (.string n)).setCell ⟨g, 1, none⟩ (.int .i64 p)) g (n, p) := by
  unfold BestAt at *
  exact block_set (block_set h)

theorem refName_zero {xs : List Int} {k : Nat} {b : Bool} (h : (best xs (k + 1) refList).1.size = 0) : refName xs k b = ([38], (k : Int) + 1) := by
  unfold refName; simp only; rw [if_pos h]
theorem refName_bar {xs : List Int} {k : Nat} {b : Bool} {r : ByteArray × Int} {c y : Int} (hr : r = best xs (k + 1) refList) (h : r.1.size ≠ 0) (hy : y = (bs r.1).getD (r.1.size - 1) 0) (hc : c = atL xs (k + 1 + r.1.size))
    (hb : (b && (y != 59) && (c == 61 || (inB c 65 90 || inB c 97 122) || decide (0 ≤ digitOf c 10))) = true) : refName xs k b = ([38], (k : Int) + 1) := by
  unfold refName; simp only; rw [← hr, ← hy, ← hc, if_neg h, if_pos hb]
theorem refName_hit {xs : List Int} {k : Nat} {b : Bool} {r : ByteArray × Int} {c y : Int} (hr : r = best xs (k + 1) refList) (h : r.1.size ≠ 0) (hy : y = (bs r.1).getD (r.1.size - 1) 0) (hc : c = atL xs (k + 1 + r.1.size))
    (hb : (b && (y != 59) && (c == 61 || (inB c 65 90 || inB c 97 122) || decide (0 ≤ digitOf c 10))) = false) : refName xs k b = ([r.2], (k : Int) + 1 + r.1.size) := by
  unfold refName; simp only; rw [← hr, ← hy, ← hc, if_neg h, if_neg (by rw [hb]; decide)]

set_option maxHeartbeats 8000000 in
set_option maxRecDepth 100000 in
theorem srefRead_name {v : Value} {xs : List Int} {w : World} (h : Sl .i64 w v xs) (k : Nat) (b : Bool) (h1 : xs.length ≤ 3000) (hk : k < xs.length) (h3 : xs.getD k 0 = 38) (h4 : atL xs (k + 1) ≠ 35) :
    Calls Tryz.prog 44 #[v, .int .i64 k, .bool b] w (Reads w (refRead xs k b)) := by
  rw [refRead_name h1 hk h3 h4]
  have c1 := fun w => l1In_any k 0 (xs.length - 1) w
  rw [inB_yes (by omega) (by omega)] at c1
  have c2 := fun w (h : Sl .i64 w v xs) => l3At_any h (k + 1) (by omega)
  have e1 : ((k + 1 : Nat) : Int) = (k : Int) + 1 := by omega
  rw [e1] at c2
  have e4 : (atL xs (k + 1) == 35) = false := by simpa using h4
  obtain ⟨c, hc⟩ : ∃ c, c = atL xs (k + 1) := ⟨_, rfl⟩
  rw [← hc] at c2 e4
  have C2 := (show Hid _ from c2)
  have h0 := h
  have HS := (show Hid (Sl .i64 w v xs) from h)
  obtain ⟨a, ca, rfl, _, _, _, ha⟩ := h
  obtain ⟨b1, o1, rfl, k1⟩ := ha k hk
  rw [h3] at k1
  clear ha h3 h4 c2 hc h0
  go_enter Tryz.func44, Tryz.ntmps44
  go_wp2_with fail
  go_at_call 42
  refine (c1 _).mono ?_
  rintro e w1 ⟨rfl, rfl⟩
  go_wp2_with fail
  go_at_call 78
  refine (C2.out _ HS.out).mono ?_
  rintro e w1 ⟨rfl, rfl⟩
  clear c1 k1
  go_wp2_with fail
  go_at_call 80
  refine (srefs_any _).mono ?_
  rintro e w2 ⟨rfl, hr, b2⟩
  have hbest : BestAt (w1.alloc (.cells #[.string ⟨#[]⟩, .int .i64 0] 92)) w1.heap.size (best xs (k + 1) (refList.take 0)) := heap_alloc_new _ _
  replace hbest := hbest.below b2
  have bel : Below w1.heap.size w1 w2 := ((Below.refl _ w1).alloc (Nat.le_refl _) _).trans (b2.mono (by simp))
  have hs2 := HS.out.below bel
  obtain ⟨gr, hgr⟩ : ∃ gr, gr = (w1.alloc (.cells #[.string ⟨#[]⟩, .int .i64 0] 92)).heap.size := ⟨_, rfl⟩
  have hgg : w1.heap.size < gr := by rw [hgr]; simp
  rw [← hgr] at hr ⊢
  clear hgr b2
  go_wp2
  go_loopw [12] (fun i wr => ∃ j : Nat, j ≤ 24 ∧ i = .int .i64 j ∧ BestAt wr w1.heap.size (best xs (k + 1) (refList.take j)) ∧ RefsAt wr gr ∧ Sl .i64 wr (.slice (some ⟨b1, o1, none⟩) xs.length ca) xs ∧ Below w1.heap.size w1 wr) (fun i _ => 24 - (intOf i).toNat)
  case atStart => exact ⟨0, Nat.zero_le _, rfl, hbest, hr, hs2, bel⟩
  case round =>
    clear hbest hr hs2 bel
    obtain ⟨j, hj, rfl, hbest, hr, hsl, bel⟩ := hrel
    by_cases hlt : j < 24
    · have hjl : j < refList.length := hlt
      obtain ⟨q0, q1⟩ := hr j hjl
      have hsucc := best_succ xs (k + 1) refList j hjl
      have hrs := refList_size refList[j] (List.getElem_mem hjl)
      have hbz := best_size xs (k + 1) (refList.take j) (fun r hr => refList_size r (List.mem_of_mem_take hr))
      obtain ⟨d0, d1, f0, f1⟩ := hbest.cells
      obtain ⟨r, er⟩ : ∃ r, r = refList[j] := ⟨_, rfl⟩
      obtain ⟨q, eq⟩ : ∃ q, q = best xs (k + 1) (refList.take j) := ⟨_, rfl⟩
      rw [← er] at q0 q1 hsucc hrs
      rw [← eq] at d0 d1 hbz hsucc hbest
      clear er eq
      have c3 := fun n => l3Stands_any (hsl.below (below_drewN n)) (k + 1) r.1 (by omega) (by omega) (by omega)
      rw [e1] at c3
      obtain ⟨p, hp⟩ : ∃ p, p = stands xs (k + 1) (bs r.1) := ⟨_, rfl⟩
      rw [← hp] at c3 hsucc
      have C3 := (show Hid _ from c3)
      have HSU := (show Hid _ from hsucc)
      have HR := (show Hid (RefsAt wr gr) from hr)
      have HB := (show Hid (BestAt wr w1.heap.size q) from hbest)
      have HL := (show Hid (Sl .i64 wr (.slice (some ⟨b1, o1, none⟩) xs.length ca) xs) from hsl)
      clear c3 hp hsucc hr hbest hsl
      obtain ⟨rn, rp⟩ := r
      obtain ⟨qn, qp⟩ := q
      simp only at q0 q1 hrs d0 d1 hbz C3
      cases p
      · have HSU2 : Hid (best xs (k + 1) (refList.take (j + 1)) = (qn, qp)) := HSU.out
        clear HSU
        go_wp2
        go_quiet ((go_at_call 81; refine Calls.quiet_of (C3.out _)))
        go_wp2
        go_roundw
        case rel => exact ⟨j + 1, by omega, by go_num, by rw [HSU2.out]; exact HB.out.below (below_drewN _), HR.out.below (below_drewN _), HL.out.below (below_drewN _), bel.trans (below_drewN _)⟩
        case measure => simp [intOf]; omega
      · by_cases hsz : qn.size < rn.size
        · have HSU2 : Hid (best xs (k + 1) (refList.take (j + 1)) = (rn, rp)) := by have := HSU.out; simp only [decide_eq_true hsz] at this; exact this
          clear HSU
          go_wp2
          go_quiet ((go_at_call 81; refine Calls.quiet_of (C3.out _)))
          go_wp2
          have bel2 : Below w1.heap.size w1 (((wr.drewN nq).setCell ⟨w1.heap.size, 0, none⟩ (.string rn)).setCell ⟨w1.heap.size, 1, none⟩ (.int .i64 rp)) := ((bel.trans (below_drewN nq)).setCell (Nat.le_refl _) _).setCell (Nat.le_refl _) _
          go_roundw
          case rel => exact ⟨j + 1, by omega, by go_num, by rw [HSU2.out]; exact (HB.out.below (below_drewN nq)).set _ _, ((HR.out.below (below_drewN nq)).set (by omega)).set (by omega), HS.out.below bel2, bel2⟩
          case measure => simp [intOf]; omega
        · have HSU2 : Hid (best xs (k + 1) (refList.take (j + 1)) = (qn, qp)) := by have := HSU.out; simp only [decide_eq_false hsz] at this; exact this
          clear HSU
          go_wp2
          go_quiet ((go_at_call 81; refine Calls.quiet_of (C3.out _)))
          go_wp2
          go_roundw
          case rel => exact ⟨j + 1, by omega, by go_num, by rw [HSU2.out]; exact HB.out.below (below_drewN _), HR.out.below (below_drewN _), HL.out.below (below_drewN _), bel.trans (below_drewN _)⟩
          case measure => simp [intOf]; omega
    · have hjj : j = 24 := by omega
      subst hjj
      have e24 : refList.take 24 = refList := rfl
      rw [e24] at hbest
      obtain ⟨d0, d1, f0, f1⟩ := hbest.cells
      have hbz := best_size xs (k + 1) refList refList_size
      obtain ⟨q, hq⟩ : ∃ q, q = best xs (k + 1) refList := ⟨_, rfl⟩
      have HZ : Hid (q.1.size = 0 → refName xs k b = ([38], (k : Int) + 1)) := fun h => refName_zero (by rw [← hq]; exact h)
      have HBR := fun c y h hy hc hb => @refName_bar xs k b q c y hq h hy hc hb
      have HHT := fun c y h hy hc hb => @refName_hit xs k b q c y hq h hy hc hb
      rw [← hq] at d0 d1 hbz hbest
      clear hq hbest hr e24
      obtain ⟨qn, qp⟩ := q
      simp only at HZ HBR HHT d0 d1 hbz
      by_cases hz : qn.size = 0
      · have HZ2 := (show Hid _ from HZ.out hz)
        clear HBR HHT HZ
        go_wp2
        go_ret2
        exact ⟨_, by rw [HZ2.out]; rfl, by rw [HZ2.out]; exact (own1 _ _).base bel.size, bel.alloc bel.size _⟩
      · obtain ⟨m, hm⟩ : ∃ m : Nat, qn.size = m + 1 := ⟨qn.size - 1, by omega⟩
        have hat := bs_at qn m (by omega)
        have c4 := fun w (h : Sl .i64 w (.slice (some ⟨b1, o1, none⟩) xs.length ca) xs) => l3At_any h (k + 1 + (m + 1)) (by omega)
        have e5 : ((k + 1 + (m + 1) : Nat) : Int) = (k : Int) + 1 + ((m : Int) + 1) := by omega
        rw [e5] at c4
        obtain ⟨y, hy⟩ : ∃ y, y = (bs qn).getD m 0 := ⟨_, rfl⟩
        obtain ⟨c', hc'⟩ : ∃ c, c = atL xs (k + 1 + (m + 1)) := ⟨_, rfl⟩
        have hy' : y = (bs qn).getD (qn.size - 1) 0 := by rw [hm]; exact hy
        have hc2 : c' = atL xs (k + 1 + qn.size) := by rw [hm]; exact hc'
        have HB1 := (show Hid _ from HBR c' y (by omega) hy' hc2)
        have hh : (b && (y != 59) && (c' == 61 || (inB c' 65 90 || inB c' 97 122) || decide (0 ≤ digitOf c' 10))) = false → refName xs k b = ([qp], (k : Int) + 1 + ((m : Int) + 1)) := fun hb => by
          have := HHT c' y (by omega) hy' hc2 hb
          rw [hm] at this
          push_cast at this
          exact this
        have HH1 := (show Hid _ from hh)
        clear hh
        rw [← hy] at hat
        rw [← hc'] at c4
        have C4 := (show Hid _ from c4)
        have ca1 := fun w => salpha_any c' w
        have cd1 := fun w => sdigit_any c' 10 w
        obtain ⟨al, hal⟩ : ∃ al, al = (inB c' 65 90 || inB c' 97 122) := ⟨_, rfl⟩
        obtain ⟨dg, hdg⟩ : ∃ dg, dg = digitOf c' 10 := ⟨_, rfl⟩
        rw [← hal] at ca1 HB1 HH1
        rw [← hdg] at cd1 HB1 HH1
        have CA := (show Hid _ from ca1)
        have CD := (show Hid _ from cd1)
        clear c4 hy hc' hy' hc2 HBR HHT HZ ca1 cd1 hal hdg hz e5
        cases b
        · have HH := (show Hid _ from HH1.out (by simp))
          go_wp2_with fail
          go_at_call 78
          refine (C4.out _ hsl).mono ?_
          rintro e w3 ⟨rfl, rfl⟩
          go_wp2
          go_ret2
          exact ⟨_, by rw [HH.out]; rfl, by rw [HH.out]; exact (own1 _ _).base bel.size, bel.alloc bel.size _⟩
        · by_cases h59 : y = 59
          · have HH := (show Hid _ from HH1.out (by simp [h59]))
            subst h59
            go_wp2_with fail
            go_at_call 78
            refine (C4.out _ hsl).mono ?_
            rintro e w3 ⟨rfl, rfl⟩
            go_wp2
            go_ret2
            exact ⟨_, by rw [HH.out]; rfl, by rw [HH.out]; exact (own1 _ _).base bel.size, bel.alloc bel.size _⟩
          · have e59 : (y != 59) = true := by simpa using h59
            by_cases h61 : c' = 61
            · have HH := (show Hid _ from HB1.out (by simp [h61, h59]))
              subst h61
              go_wp2_with fail
              go_at_call 78
              refine (C4.out _ hsl).mono ?_
              rintro e w3 ⟨rfl, rfl⟩
              go_wp2
              go_ret2
              exact ⟨_, by rw [HH.out]; rfl, by rw [HH.out]; exact (own1 _ _).base bel.size, bel.alloc bel.size _⟩
            · have e61 : (c' == 61) = false := by simpa using h61
              cases al
              · by_cases hd : 0 ≤ dg
                · have HH := (show Hid _ from HB1.out (by simp [h59, hd]))
                  go_wp2_with fail
                  go_at_call 78
                  refine (C4.out _ hsl).mono ?_
                  rintro e w3 ⟨rfl, rfl⟩
                  go_wp2_with fail
                  go_at_call 50
                  refine (CA.out _).mono ?_
                  rintro e w4 ⟨rfl, rfl⟩
                  go_wp2_with fail
                  go_at_call 82
                  refine (CD.out _).mono ?_
                  rintro e w5 ⟨rfl, rfl⟩
                  go_wp2
                  go_ret2
                  exact ⟨_, by rw [HH.out]; rfl, by rw [HH.out]; exact (own1 _ _).base bel.size, bel.alloc bel.size _⟩
                · have HH := (show Hid _ from HH1.out (by simp [h61, hd]))
                  go_wp2_with fail
                  go_at_call 78
                  refine (C4.out _ hsl).mono ?_
                  rintro e w3 ⟨rfl, rfl⟩
                  go_wp2_with fail
                  go_at_call 50
                  refine (CA.out _).mono ?_
                  rintro e w4 ⟨rfl, rfl⟩
                  go_wp2_with fail
                  go_at_call 82
                  refine (CD.out _).mono ?_
                  rintro e w5 ⟨rfl, rfl⟩
                  go_wp2
                  go_ret2
                  exact ⟨_, by rw [HH.out]; rfl, by rw [HH.out]; exact (own1 _ _).base bel.size, bel.alloc bel.size _⟩
              · have HH := (show Hid _ from HB1.out (by simp [h59]))
                go_wp2_with fail
                go_at_call 78
                refine (C4.out _ hsl).mono ?_
                rintro e w3 ⟨rfl, rfl⟩
                go_wp2_with fail
                go_at_call 50
                refine (CA.out _).mono ?_
                rintro e w4 ⟨rfl, rfl⟩
                go_wp2
                go_ret2
                exact ⟨_, by rw [HH.out]; rfl, by rw [HH.out]; exact (own1 _ _).base bel.size, bel.alloc bel.size _⟩

theorem srefRead_any {v : Value} {xs : List Int} {w : World} (h : Sl .i64 w v xs) (i : Int) (b : Bool) (hn : xs.length ≤ 1099511627776) :
    Calls Tryz.prog 44 #[v, .int .i64 i, .bool b] w (Reads w (refRead xs i b)) := by
  by_cases hi : 3000 < xs.length ∨ inB i 0 (xs.length - 1) = false ∨ xs.getD i.toNat 0 ≠ 38
  · exact srefRead_none h i b hn hi
  · have h1 : xs.length ≤ 3000 := by omega
    have h2 : inB i 0 (xs.length - 1) = true := by
      rcases h2 : inB i 0 (xs.length - 1) with _ | _
      · exact absurd (.inr (.inl h2)) hi
      · rfl
    have h3 : xs.getD i.toNat 0 = 38 := by
      by_cases h3 : xs.getD i.toNat 0 = 38
      · exact h3
      · exact absurd (.inr (.inr h3)) hi
    have h4 : 0 ≤ i ∧ i ≤ xs.length - 1 := by unfold inB at h2; simpa using h2
    obtain ⟨k, rfl⟩ : ∃ k : Nat, i = k := ⟨i.toNat, by omega⟩
    rw [Int.toNat_natCast] at h3
    by_cases h5 : atL xs (k + 1) = 35
    · exact srefRead_num h k b h1 (by omega) h3 h5
    · exact srefRead_name h k b h1 (by omega) h3 h5
end Go.Proofs.YtggfifchkecnjaaGreatDoor

/- The draw of a page's points: few and none of them a mark, or noughts alone. -/
namespace Go.Proofs.YtggfifchkecnjaaGreatDoor
open Go.RowKit
set_option maxRecDepth 100000
set_option linter.unusedVariables false

theorem l3PointsOf_any (s : ByteArray) (w : World) (hs : s.size ≤ 1000000) : Calls Tryz.prog 17 #[.string s] w fun e w' => ∃ v, e = .returned v ∧ Own w.heap.size 3 .i64 w' v (dec (bs s)) ∧ Below w.heap.size w w' := by
  obtain ⟨cap, w1, hc, hk, hcap, hm, hb⟩ := conv_str s w (by unfold maxLen; omega)
  have hl := bs_len s
  have hsl := hk.sl (n := s.size) (cap := cap) (by omega) (by omega) hm
  have hu := l1Read_any hsl (bs_byte s) (by omega)
  clear hk
  go_enter Tryz.func17, Tryz.ntmps17
  go_wp2_with fail
  go_at_call 35
  refine hu.mono ?_
  rintro e w2 ⟨v2, rfl, o2, b2⟩
  go_wp2
  go_ret
  exact ⟨_, rfl, o2.base hb.size, hb.trans (b2.mono hb.size)⟩

end Go.Proofs.YtggfifchkecnjaaGreatDoor
