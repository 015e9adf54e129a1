/- The program's openRowOf. No condition. -/
import Derived.Test.YthdfhckmgneioaaGreatIRow
namespace Go.Proofs.YthdfhckmgneioaaGreat
open Go.RowKit
set_option maxRecDepth 100000
set_option linter.unusedVariables false

theorem row_res {tmps : Array Value} {w : World} {g : Nat} {a : Option Addr} {n c : Nat} {p : Option Addr} {b : Bool} (h4 : tmps.getD 4 undef = .pointer (some ⟨g, 0, none⟩)) (h5 : tmps.getD 5 undef = .bool b) (hb : w.heap[g]? = some (.cells #[.slice a n c, .pointer p] 46 (0, 0))) :
    (results Tryz.f19 tmps).run Tryz.prog w = .ok (.tuple #[.agg #[.slice a n c, .pointer p], .bool b]) w := by
  rw [results_cell_tmp (p := 4) (u := 5) (ty := 46) rfl, h4, h5]
  simp [asAddr, run_loadVar_row w g 46 46 #[.slice a n c, .pointer p] (0, 0) _ hb Tryz.underlying46 rfl rfl, Result.andThen]

set_option maxHeartbeats 1000000 in
set_option maxRecDepth 100000 in
theorem iopenRow_any {w : World} {v rv : Value} {ns : List PNode} {row : List Int} (hn : NodesAt w v ns) (hfit : ∀ n ∈ ns, NodeFit n) (hlen : ns.length ≤ 1048576) (hr : Sl .i64 w rv row) (hrl : row.length ≤ 1048576) :
    Calls Tryz.prog 19 #[.agg #[v], rv] w fun e w' => ∃ A r, e = .returned (.tuple #[.agg #[rv, .pointer (some ⟨A, 0, none⟩)], .bool r]) ∧ w'.cell? ⟨A, 0, none⟩ = some v ∧ (r = true ↔ TreeOkP ns ∧ RowP ns row) ∧ Below w.heap.size w w' := by
  have HN := (show Hid (NodesAt w v ns) from hn)
  have HR := (show Hid (Sl .i64 w rv row) from hr)
  have HFIT := (show Hid _ from hfit)
  obtain ⟨a, cap, rfl, hc1, hc2, _⟩ := hn.slice
  obtain ⟨ra, rc, rfl, _, _, _, hra⟩ := hr
  clear hn hra hfit
  obtain ⟨w4, hw4⟩ : ∃ w4, w4 = (((w.alloc (.cells #[.slice a ns.length cap] 26)).alloc (.cells #[.slice none 0 0, .pointer none] 46)).alloc (.cells #[.slice a ns.length cap] 69)).alloc (.cells #[.slice ra row.length rc, .pointer (some ⟨w.heap.size + 1 + 1, 0, none⟩)] 46) := ⟨_, rfl⟩
  have hs4 : w4.heap.size = w.heap.size + 1 + 1 + 1 + 1 := by rw [hw4]; simp only [World.size_alloc]
  have b4 : Below w.heap.size w w4 := by rw [hw4]; exact ((((Below.refl _ w).alloc (Nat.le_refl _) _).alloc (by simp) _).alloc (by simp; omega) _).alloc (by simp; omega) _
  have g0 : w4.heap[w.heap.size]? = some (.cells #[.slice a ns.length cap] 26 (0, 0)) := by
    rw [hw4, Below.heap_alloc _ _ _ (by simp only [World.size_alloc]; omega), Below.heap_alloc _ _ _ (by simp only [World.size_alloc]; omega), Below.heap_alloc _ _ _ (by simp only [World.size_alloc]; omega)]
    exact World.alloc_heap_new _ _
  have g1 : w4.heap[w.heap.size + 1]? = some (.cells #[.slice none 0 0, .pointer none] 46 (0, 0)) := by
    rw [hw4, Below.heap_alloc _ _ _ (by simp only [World.size_alloc]; omega), Below.heap_alloc _ _ _ (by simp only [World.size_alloc]; omega)]
    have := World.alloc_heap_new (w.alloc (.cells #[.slice a ns.length cap] 26)) (.cells #[.slice none 0 0, .pointer none] 46)
    rwa [World.size_alloc] at this
  have g2 : w4.heap[w.heap.size + 1 + 1]? = some (.cells #[.slice a ns.length cap] 69 (0, 0)) := by
    rw [hw4, Below.heap_alloc _ _ _ (by simp)]
    have := World.alloc_heap_new ((w.alloc (.cells #[.slice a ns.length cap] 26)).alloc (.cells #[.slice none 0 0, .pointer none] 46)) (.cells #[.slice a ns.length cap] 69)
    rwa [World.size_alloc, World.size_alloc] at this
  have g3 : w4.heap[w.heap.size + 1 + 1 + 1]? = some (.cells #[.slice ra row.length rc, .pointer (some ⟨w.heap.size + 1 + 1, 0, none⟩)] 46 (0, 0)) := by
    rw [hw4]
    have := World.alloc_heap_new (((w.alloc (.cells #[.slice a ns.length cap] 26)).alloc (.cells #[.slice none 0 0, .pointer none] 46)).alloc (.cells #[.slice a ns.length cap] 69)) (.cells #[.slice ra row.length rc, .pointer (some ⟨w.heap.size + 1 + 1, 0, none⟩)] 46)
    rwa [World.size_alloc, World.size_alloc, World.size_alloc] at this
  obtain ⟨r1, hr1⟩ : ∃ r1 : Bool, (r1 = true ↔ RowP ns row) := by
    by_cases h : RowP ns row
    · exact ⟨true, by simpa using h⟩
    · exact ⟨false, by simpa using h⟩
  obtain ⟨r2, hr2⟩ : ∃ r2 : Bool, (r2 = true ↔ TreeOkP ns) := by
    by_cases h : TreeOkP ns
    · exact ⟨true, by simpa using h⟩
    · exact ⟨false, by simpa using h⟩
  have bd : Below w4.heap.size w4 w4.drew := below_drewN 1
  have G1 := (show Hid _ from g1)
  have G2 := (show Hid _ from g2)
  have G3 := (show Hid _ from g3)
  have G0 := (show Hid _ from g0)
  have CF := (show Hid (∀ w', Below w4.heap.size w4 w' → Calls Tryz.prog 42 #[.agg #[.slice ra row.length rc, .pointer (some ⟨w.heap.size + 1 + 1, 0, none⟩)]] w' fun e w'' => e = .returned (.bool r1) ∧ Below w'.heap.size w' w'') from fun w' hb => by
    have hbw := b4.trans (hb.mono b4.size)
    have cA : w'.cell? ⟨w.heap.size + 1 + 1, 0, none⟩ = some (.slice a ns.length cap) := by
      have := (hb.block _ (blk_lt G2.out)).trans G2.out
      simp only [World.cell?, this]; rfl
    refine Calls.mono (ifits_any (HN.out.below hbw) hlen cA (HR.out.below hbw) hrl) ?_
    rintro e w'' ⟨r, rfl, hr, b⟩
    exact ⟨by rw [Bool.eq_iff_iff.mpr (hr.trans hr1.symm)], b⟩)
  have CT := (show Hid (∀ w', Below w4.heap.size w4 w' → Calls Tryz.prog 43 #[.agg #[.slice a ns.length cap]] w' fun e w'' => e = .returned (.bool r2) ∧ Below w'.heap.size w' w'') from fun w' hb => by
    have hbw := b4.trans (hb.mono b4.size)
    refine Calls.mono (itreeOk_any (HN.out.below hbw) HFIT.out hlen) ?_
    rintro e w'' ⟨r, rfl, hr, b⟩
    exact ⟨by rw [Bool.eq_iff_iff.mpr (hr.trans hr2.symm)], b⟩)
  have c30 : w4.cell? ⟨w.heap.size + 1 + 1 + 1, 0, none⟩ = some (.slice ra row.length rc) := by simp only [World.cell?, g3]; rfl
  have c31 : w4.cell? ⟨w.heap.size + 1 + 1 + 1, 1, none⟩ = some (.pointer (some ⟨w.heap.size + 1 + 1, 0, none⟩)) := by simp only [World.cell?, g3]; rfl
  clear g0 g1 g2 g3
  have HR1 := (show Hid _ from hr1)
  have HR2 := (show Hid _ from hr2)
  have HS4 := (show Hid _ from hs4)
  clear hr1 hr2 hs4
  go_enter Tryz.func19, Tryz.ntmps19
  go_wp2
  rw [← hw4]
  clear hw4
  cases r1
  · go_region_with (first
      | (go_at_call 42; refine Calls.mono (CF.out _ bd) ?_; rintro e w5 ⟨rfl, b5⟩
         have c50 : w5.cell? ⟨w.heap.size + 1 + 1 + 1, 0, none⟩ = some (.slice ra row.length rc) := (b5.cell (p := ⟨w.heap.size + 1 + 1 + 1, 0, none⟩) (blk_lt G3.out)).trans c30
         have c51 : w5.cell? ⟨w.heap.size + 1 + 1 + 1, 1, none⟩ = some (.pointer (some ⟨w.heap.size + 1 + 1, 0, none⟩)) := (b5.cell (p := ⟨w.heap.size + 1 + 1 + 1, 1, none⟩) (blk_lt G3.out)).trans c31
         have g51 := (b5.block _ (blk_lt G1.out)).trans G1.out
         have k0 : w5.cell? ⟨w.heap.size + 1, 0, none⟩ = some (.slice none 0 0) := by simp only [World.cell?, g51]; rfl
         have k1 : w5.cell? ⟨w.heap.size + 1, 1, none⟩ = some (.pointer none) := by simp only [World.cell?, g51]; rfl
         have z0 : w5.frozen? ⟨w.heap.size + 1, 0, none⟩ = false := by simp [World.frozen?, g51]
         have z1 : w5.frozen? ⟨w.heap.size + 1, 1, none⟩ = false := by simp [World.frozen?, g51]
         have hg5 := (show Hid _ from g51)
         clear g51))
    all_goals
      go_wp2
      have ga := setCell_at (k := 0) (u := .slice ra row.length rc) hg5.out
      have gb := setCell_at (k := 1) (u := .pointer (some ⟨w.heap.size + 1 + 1, 0, none⟩)) ga
      have hgl := blk_lt hg5.out
      have b6 : Below w.heap.size w ((w5.setCell ⟨w.heap.size + 1, 0, none⟩ (.slice ra row.length rc)).setCell ⟨w.heap.size + 1, 1, none⟩ (.pointer (some ⟨w.heap.size + 1 + 1, 0, none⟩))) := ((b4.trans ((bd.trans (b5.mono bd.size)).mono b4.size)).setCell (p := ⟨w.heap.size + 1, 0, none⟩) (by simp) _).setCell (p := ⟨w.heap.size + 1, 1, none⟩) (by simp) _
      refine bodyPost_ret (row_res rfl rfl gb) rfl ?_
      refine ⟨w.heap.size + 1 + 1, _, rfl, ?_, ?_, b6⟩
      · have g2' := (b5.block _ (blk_lt G2.out)).trans G2.out
        have e1 := Below.heap_setCell w5 ⟨w.heap.size + 1, 0, none⟩ (.slice ra row.length rc) (w.heap.size + 1 + 1) (by show w.heap.size + 1 + 1 ≠ w.heap.size + 1; omega)
        have e2 := Below.heap_setCell (w5.setCell ⟨w.heap.size + 1, 0, none⟩ (.slice ra row.length rc)) ⟨w.heap.size + 1, 1, none⟩ (.pointer (some ⟨w.heap.size + 1 + 1, 0, none⟩)) (w.heap.size + 1 + 1) (by show w.heap.size + 1 + 1 ≠ w.heap.size + 1; omega)
        have e3 := e2.trans (e1.trans g2')
        simp only [World.cell?, e3]; rfl
      · exact ⟨fun h => (by cases h), fun h => (by have := HR1.out.mpr h.2; cases this)⟩
  · have HT : Hid (RowP ns row) := HR1.out.mp rfl
    clear HR1
    go_region_with (first
      | (go_at_call 42; refine Calls.mono (CF.out _ bd) ?_; rintro e w6 ⟨rfl, b6'⟩
         have b6 : Below w4.heap.size w4 w6 := bd.trans (b6'.mono bd.size)
         have c60 : w6.cell? ⟨w.heap.size + 1 + 1 + 1, 0, none⟩ = some (.slice ra row.length rc) := (b6.cell (p := ⟨w.heap.size + 1 + 1 + 1, 0, none⟩) (blk_lt G3.out)).trans c30
         have c61 : w6.cell? ⟨w.heap.size + 1 + 1 + 1, 1, none⟩ = some (.pointer (some ⟨w.heap.size + 1 + 1, 0, none⟩)) := (b6.cell (p := ⟨w.heap.size + 1 + 1 + 1, 1, none⟩) (blk_lt G3.out)).trans c31
         have g6 := (b6.block _ (blk_lt G0.out)).trans G0.out
         have k6 : w6.cell? ⟨w.heap.size, 0, none⟩ = some (.slice a ns.length cap) := by simp only [World.cell?, g6]; rfl
         clear b6' g6)
      | (go_at_call 43; refine Calls.mono (CT.out _ b6) ?_; rintro e w5 ⟨rfl, b5'⟩
         have b5 : Below w4.heap.size w4 w5 := b6.trans (b5'.mono b6.size)
         have c50 : w5.cell? ⟨w.heap.size + 1 + 1 + 1, 0, none⟩ = some (.slice ra row.length rc) := (b5.cell (p := ⟨w.heap.size + 1 + 1 + 1, 0, none⟩) (blk_lt G3.out)).trans c30
         have c51 : w5.cell? ⟨w.heap.size + 1 + 1 + 1, 1, none⟩ = some (.pointer (some ⟨w.heap.size + 1 + 1, 0, none⟩)) := (b5.cell (p := ⟨w.heap.size + 1 + 1 + 1, 1, none⟩) (blk_lt G3.out)).trans c31
         have g51 := (b5.block _ (blk_lt G1.out)).trans G1.out
         have k0 : w5.cell? ⟨w.heap.size + 1, 0, none⟩ = some (.slice none 0 0) := by simp only [World.cell?, g51]; rfl
         have k1 : w5.cell? ⟨w.heap.size + 1, 1, none⟩ = some (.pointer none) := by simp only [World.cell?, g51]; rfl
         have z0 : w5.frozen? ⟨w.heap.size + 1, 0, none⟩ = false := by simp [World.frozen?, g51]
         have z1 : w5.frozen? ⟨w.heap.size + 1, 1, none⟩ = false := by simp [World.frozen?, g51]
         have hg5 := (show Hid _ from g51)
         clear g51 b5'))
    all_goals
      go_wp2
      have ga := setCell_at (k := 0) (u := .slice ra row.length rc) hg5.out
      have gb := setCell_at (k := 1) (u := .pointer (some ⟨w.heap.size + 1 + 1, 0, none⟩)) ga
      have hgl := blk_lt hg5.out
      have b7 : Below w.heap.size w ((w5.setCell ⟨w.heap.size + 1, 0, none⟩ (.slice ra row.length rc)).setCell ⟨w.heap.size + 1, 1, none⟩ (.pointer (some ⟨w.heap.size + 1 + 1, 0, none⟩))) := ((b4.trans (b5.mono b4.size)).setCell (p := ⟨w.heap.size + 1, 0, none⟩) (by simp) _).setCell (p := ⟨w.heap.size + 1, 1, none⟩) (by simp) _
      refine bodyPost_ret (row_res rfl rfl gb) rfl ?_
      refine ⟨w.heap.size + 1 + 1, _, rfl, ?_, ?_, b7⟩
      · have g2' := (b5.block _ (blk_lt G2.out)).trans G2.out
        have e1 := Below.heap_setCell w5 ⟨w.heap.size + 1, 0, none⟩ (.slice ra row.length rc) (w.heap.size + 1 + 1) (by show w.heap.size + 1 + 1 ≠ w.heap.size + 1; omega)
        have e2 := Below.heap_setCell (w5.setCell ⟨w.heap.size + 1, 0, none⟩ (.slice ra row.length rc)) ⟨w.heap.size + 1, 1, none⟩ (.pointer (some ⟨w.heap.size + 1 + 1, 0, none⟩)) (w.heap.size + 1 + 1) (by show w.heap.size + 1 + 1 ≠ w.heap.size + 1; omega)
        have e3 := e2.trans (e1.trans g2')
        simp only [World.cell?, e3]; rfl
      · exact ⟨fun h => ⟨HR2.out.mp h, HT.out⟩, fun h => HR2.out.mpr h.1⟩
end Go.Proofs.YthdfhckmgneioaaGreat
