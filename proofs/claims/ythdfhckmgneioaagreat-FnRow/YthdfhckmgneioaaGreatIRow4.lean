/- The program's OpenAt, PopTo and PopImplied (written by mk/irow4.py). No condition. -/
import Derived.Test.YthdfhckmgneioaaGreatIRow3
namespace Go.Proofs.YthdfhckmgneioaaGreat
open Go.RowKit
set_option maxRecDepth 100000
set_option linter.unusedVariables false

/-- A row beside its nodes, as the program keeps it. -/
structure RowAt (w : World) (A : Nat) (v rv : Value) (ns : List PNode) (row : List Int) : Prop where
  nodes : NodesAt w v ns
  fit : ∀ n ∈ ns, NodeFit n
  len : ns.length ≤ 1048576
  a0 : w.cell? ⟨A, 0, none⟩ = some v
  sl : Sl .i64 w rv row
  row : RowP ns row
theorem RowAt.below {w w' : World} {A : Nat} {v rv : Value} {ns : List PNode} {row : List Int} (h : RowAt w A v rv ns row) (hb : Below w.heap.size w w') : RowAt w' A v rv ns row :=
  ⟨h.nodes.below hb, h.fit, h.len, (hb.cell (p := ⟨A, 0, none⟩) (lt_of_cell h.a0)).trans h.a0, h.sl.below hb, h.row⟩
theorem RowAt.el {w : World} {A : Nat} {v rv : Value} {ns : List PNode} {row : List Int} (h : RowAt w A v rv ns row) : ∀ x ∈ row, elB ns x = true := fun x hx => by
  obtain ⟨i, hi, rfl⟩ := List.mem_iff_getElem.mp hx
  exact h.row.el i hi

theorem two_boxes {w : World} {A : Nat} {v rv : Value} {nm : ByteArray} (ha : w.cell? ⟨A, 0, none⟩ = some v) :
    Boxes ((w.alloc (.cells #[rv, .pointer (some ⟨A, 0, none⟩)] 46)).alloc (.cells #[.string nm] 9)) w.heap.size (w.heap.size + 1) A v nm := by
  have h1 : ((w.alloc (.cells #[rv, .pointer (some ⟨A, 0, none⟩)] 46)).alloc (.cells #[.string nm] 9)).heap[w.heap.size]? = some (.cells #[rv, .pointer (some ⟨A, 0, none⟩)] 46 (0, 0)) := by
    rw [Below.heap_alloc _ _ _ (by simp)]; exact World.alloc_heap_new _ _
  have h2 : ((w.alloc (.cells #[rv, .pointer (some ⟨A, 0, none⟩)] 46)).alloc (.cells #[.string nm] 9)).heap[w.heap.size + 1]? = some (.cells #[.string nm] 9 (0, 0)) := by
    have := World.alloc_heap_new (w.alloc (.cells #[rv, .pointer (some ⟨A, 0, none⟩)] 46)) (.cells #[.string nm] 9)
    rwa [World.size_alloc] at this
  have bb : Below w.heap.size w ((w.alloc (.cells #[rv, .pointer (some ⟨A, 0, none⟩)] 46)).alloc (.cells #[.string nm] 9)) := ((Below.refl _ w).alloc (Nat.le_refl _) _).alloc (by simp) _
  exact ⟨by simp only [World.cell?, h1]; rfl, (bb.cell (p := ⟨A, 0, none⟩) (lt_of_cell ha)).trans ha, by simp only [World.cell?, h2]; rfl⟩

set_option maxRecDepth 100000 in
theorem ilastNamed_any {w : World} {A : Nat} {v rv : Value} {ns : List PNode} {row : List Int} (h : RowAt w A v rv ns row) (nm : ByteArray) :
    Calls Tryz.prog 24 #[.agg #[rv, .pointer (some ⟨A, 0, none⟩)], .string nm] w fun e w' => e = .returned (.int .i64 ((lastAt (named ns nm) row row.length : Int) - 1)) ∧ Below w.heap.size w w' := by
  have H := (show Hid (RowAt w A v rv ns row) from h)
  obtain ⟨ra, rc, rfl, _, _, _, _⟩ := h.sl
  have hrl := h.row.len
  have BX := (show Hid _ from two_boxes (rv := .slice ra row.length rc) (nm := nm) h.a0)
  obtain ⟨w2, hw2⟩ : ∃ w2, w2 = ((w.alloc (.cells #[.slice ra row.length rc, .pointer (some ⟨A, 0, none⟩)] 46)).alloc (.cells #[.string nm] 9)) := ⟨_, rfl⟩
  have b2 : Below w.heap.size w w2 := by rw [hw2]; exact ((Below.refl _ w).alloc (Nat.le_refl _) _).alloc (by simp) _
  rw [← hw2] at BX
  have CC := (show Hid _ from ilastThat_named (R := w.heap.size) (M := w.heap.size + 1) (p := named ns nm) (H.out.below b2).sl (by omega) (fun x hx w' hb => inamed1_any (BX.out.below hb) ((H.out.below b2).below hb).nodes H.out.len (H.out.el x hx)))
  clear h
  go_enter Tryz.func24, Tryz.ntmps24
  go_wp2_with fail
  go_at_call 47
  rw [← hw2]
  refine Calls.mono CC.out ?_
  rintro e w3 ⟨rfl, b3⟩
  clear hw2
  go_wp2
  go_ret
  exact ⟨rfl, b2.trans (b3.mono b2.size)⟩

set_option maxRecDepth 100000 in
theorem ikeep_any {w : World} {p : Value} {ra : Option Addr} {rc : Nat} {row : List Int} (h : Sl .i64 w (.slice ra row.length rc) row) (hn : row.length ≤ 1048576) (A : Nat) (n : Nat) (hl : n ≤ row.length) :
    Calls Tryz.prog 44 #[.agg #[.slice ra row.length rc, .pointer (some ⟨A, 0, none⟩)], .int .i64 n] w fun e w' => ∃ v', e = .returned v' ∧ Own w.heap.size 3 .i64 w' v' (row.take (max n 1)) ∧ Below w.heap.size w w' := by
  have HS := (show Hid (Sl .i64 w (.slice ra row.length rc) row) from h)
  clear h
  obtain ⟨w1, hw1⟩ : ∃ w1, w1 = w.alloc (.cells #[.slice ra row.length rc, .pointer (some ⟨A, 0, none⟩)] 46) := ⟨_, rfl⟩
  have b1 : Below w.heap.size w w1 := by rw [hw1]; exact (Below.refl _ _).alloc (Nat.le_refl _) _
  by_cases h0 : row.length = 0
  · obtain rfl : row = [] := List.length_eq_zero_iff.mp h0
    obtain rfl : n = 0 := by simpa using hl
    have CF := (show Hid _ from ifirst_one (HS.out.below b1))
    go_enter Tryz.func44, Tryz.ntmps44
    go_wp2_with fail
    go_at_call 73
    have hw2 : w1 = w.alloc (.cells #[.slice ra 0 rc, .pointer (some ⟨A, 0, none⟩)] 46) := hw1
    rw [← hw2]
    refine Calls.mono CF.out ?_
    rintro e w2 ⟨v2, rfl, o2, b2⟩
    clear hw1 hw2
    go_wp2
    go_ret
    exact ⟨_, rfl, by simpa using o2.base b1.size, b1.trans (b2.mono b1.size)⟩
  · by_cases h1 : n ≤ 1
    · have CF := (show Hid _ from ifirst_any (HS.out.below b1) hn 1 (by omega))
      rw [show ((1 : Nat) : Int) = 1 from rfl] at CF
      rcases (show n = 0 ∨ n = 1 by omega) with rfl | rfl
      · go_enter Tryz.func44, Tryz.ntmps44
        go_wp2_with fail
        go_at_call 73
        rw [← hw1]
        refine Calls.mono CF.out ?_
        rintro e w2 ⟨v2, rfl, o2, b2⟩
        clear hw1
        go_wp2
        go_ret
        exact ⟨_, rfl, o2.base b1.size, b1.trans (b2.mono b1.size)⟩
      · go_enter Tryz.func44, Tryz.ntmps44
        go_wp2_with fail
        go_at_call 73
        rw [← hw1]
        refine Calls.mono CF.out ?_
        rintro e w2 ⟨v2, rfl, o2, b2⟩
        clear hw1
        go_wp2
        go_ret
        exact ⟨_, rfl, o2.base b1.size, b1.trans (b2.mono b1.size)⟩
    · have CF := (show Hid _ from ifirst_any (HS.out.below b1) hn n (by omega))
      have hm : max n 1 = n := by omega
      have hlt : (1 : Int) < n := by omega
      rw [hm]
      go_enter Tryz.func44, Tryz.ntmps44
      go_wp2_with fail
      go_at_call 73
      rw [← hw1]
      refine Calls.mono CF.out ?_
      rintro e w2 ⟨v2, rfl, o2, b2⟩
      clear hw1
      go_wp2
      go_ret
      exact ⟨_, rfl, o2.base b1.size, b1.trans (b2.mono b1.size)⟩

set_option maxRecDepth 100000 in
theorem ipopTo_m {w : World} {A : Nat} {v rv : Value} {ns : List PNode} {row : List Int} (h : RowAt w A v rv ns row) (nm : ByteArray) :
    Calls Tryz.prog 21 #[.agg #[rv, .pointer (some ⟨A, 0, none⟩)], .string nm] w fun e w' => ∃ v', e = .returned v' ∧ Own w.heap.size 3 .i64 w' v' (popL ns nm row) ∧ Below w.heap.size w w' := by
  have H := (show Hid (RowAt w A v rv ns row) from h)
  obtain ⟨ra, rc, rfl, _, _, _, _⟩ := h.sl
  have hrl := h.row.len
  have hla := lastAt_le (named ns nm) row row.length
  clear h
  obtain ⟨w1, hw1⟩ : ∃ w1, w1 = w.alloc (.cells #[.slice ra row.length rc, .pointer (some ⟨A, 0, none⟩)] 46) := ⟨_, rfl⟩
  have b1 : Below w.heap.size w w1 := by rw [hw1]; exact (Below.refl _ _).alloc (Nat.le_refl _) _
  have g1 : w1.heap[w.heap.size]? = some (.cells #[.slice ra row.length rc, .pointer (some ⟨A, 0, none⟩)] 46 (0, 0)) := by rw [hw1]; exact World.alloc_heap_new _ _
  have HG1 := (show Hid _ from g1)
  have CC := (show Hid _ from ilastNamed_any (H.out.below b1) nm)
  clear g1
  go_enter Tryz.func21, Tryz.ntmps21
  go_wp2_with fail
  go_at_call 24
  rw [← hw1]
  refine Calls.mono CC.out ?_
  rintro e w2 ⟨rfl, b2⟩
  clear hw1 CC
  have hb := b1.trans (b2.mono b1.size)
  have g2 := (b2.block _ (blk_lt HG1.out)).trans HG1.out
  have k0 : w2.cell? ⟨w.heap.size, 0, none⟩ = some (.slice ra row.length rc) := by simp only [World.cell?, g2]; rfl
  have k1 : w2.cell? ⟨w.heap.size, 1, none⟩ = some (.pointer (some ⟨A, 0, none⟩)) := by simp only [World.cell?, g2]; rfl
  obtain ⟨p, hp⟩ : ∃ p, p = lastAt (named ns nm) row row.length := ⟨_, rfl⟩
  have HP := (show Hid _ from hp)
  rw [← hp] at hla ⊢
  clear hp g2 b2
  by_cases h0 : p = 0
  · have HL : Hid (popL ns nm row = row) := (show popL ns nm row = row by rw [popL, if_pos (by rw [← HP.out]; exact h0)])
    subst h0
    go_wp2_with fail
    go_at_call 20
    refine Calls.mono (iwith_none (H.out.sl.below hb) (by omega)) ?_
    rintro e w3 ⟨v3, rfl, o3, b3⟩
    go_wp2
    go_ret
    exact ⟨_, rfl, by rw [HL.out]; exact o3.base hb.size, hb.trans (b3.mono hb.size)⟩
  · have HL : Hid (popL ns nm row = row.take (max (p - 1) 1)) := (show popL ns nm row = row.take (max (p - 1) 1) by rw [popL, if_neg (by rw [← HP.out]; exact h0), ← HP.out])
    obtain ⟨q, hq⟩ : ∃ q, q = p - 1 := ⟨_, rfl⟩
    rw [← hq] at HL
    rw [show (p : Int) - 1 = (q : Int) by omega]
    have hql : q ≤ row.length := by omega
    clear hq h0
    go_wp2_with fail
    go_at_call 44
    refine Calls.mono (ikeep_any (p := .bool true) (H.out.sl.below hb) (by omega) A q hql) ?_
    rintro e w3 ⟨v3, rfl, o3, b3⟩
    go_wp2
    go_ret
    exact ⟨_, rfl, by rw [HL.out]; exact o3.base hb.size, hb.trans (b3.mono hb.size)⟩

/-- What is left of the row without the implied ones at its end. -/
def impL (ns : List PNode) (nm : ByteArray) (row : List Int) : List Int := row.take (max (lastAt (stays ns nm) row row.length) 1)

set_option maxRecDepth 100000 in
theorem ipopImplied_m {w : World} {A : Nat} {v rv : Value} {ns : List PNode} {row : List Int} (h : RowAt w A v rv ns row) (nm : ByteArray) :
    Calls Tryz.prog 27 #[.agg #[rv, .pointer (some ⟨A, 0, none⟩)], .string nm] w fun e w' => ∃ v', e = .returned v' ∧ Own w.heap.size 3 .i64 w' v' (impL ns nm row) ∧ Below w.heap.size w w' := by
  have H := (show Hid (RowAt w A v rv ns row) from h)
  obtain ⟨ra, rc, rfl, _, _, _, _⟩ := h.sl
  have hrl := h.row.len
  have hla := lastAt_le (stays ns nm) row row.length
  have BX := (show Hid _ from two_boxes (rv := .slice ra row.length rc) (nm := nm) h.a0)
  obtain ⟨w2, hw2⟩ : ∃ w2, w2 = ((w.alloc (.cells #[.slice ra row.length rc, .pointer (some ⟨A, 0, none⟩)] 46)).alloc (.cells #[.string nm] 9)) := ⟨_, rfl⟩
  have b2 : Below w.heap.size w w2 := by rw [hw2]; exact ((Below.refl _ w).alloc (Nat.le_refl _) _).alloc (by simp) _
  have g2 : w2.heap[w.heap.size]? = some (.cells #[.slice ra row.length rc, .pointer (some ⟨A, 0, none⟩)] 46 (0, 0)) := by
    rw [hw2, Below.heap_alloc _ _ _ (by simp)]; exact World.alloc_heap_new _ _
  rw [← hw2] at BX
  have HG2 := (show Hid _ from g2)
  have CC := (show Hid _ from ilastThat_implied (R := w.heap.size) (M := w.heap.size + 1) (p := stays ns nm) (H.out.below b2).sl (by omega) (fun x hx w' hb => iimplied1_any (BX.out.below hb) ((H.out.below b2).below hb).nodes H.out.fit H.out.len (H.out.el x hx)))
  clear h g2
  go_enter Tryz.func27, Tryz.ntmps27
  go_wp2_with fail
  go_at_call 47
  rw [← hw2]
  refine Calls.mono CC.out ?_
  rintro e w3 ⟨rfl, b3⟩
  clear hw2 CC BX
  have hb := b2.trans (b3.mono b2.size)
  have g3 := (b3.block _ (blk_lt HG2.out)).trans HG2.out
  have k0 : w3.cell? ⟨w.heap.size, 0, none⟩ = some (.slice ra row.length rc) := by simp only [World.cell?, g3]; rfl
  have k1 : w3.cell? ⟨w.heap.size, 1, none⟩ = some (.pointer (some ⟨A, 0, none⟩)) := by simp only [World.cell?, g3]; rfl
  have HL : Hid (impL ns nm row = row.take (max (lastAt (stays ns nm) row row.length) 1)) := rfl
  obtain ⟨p, hp⟩ : ∃ p, p = lastAt (stays ns nm) row row.length := ⟨_, rfl⟩
  rw [← hp] at hla HL ⊢
  have hs : (p : Int) - 1 + 1 = (p : Int) := by omega
  clear hp g3 b3
  go_wp2_with fail
  go_at_call 44
  refine Calls.mono (ikeep_any (p := .bool true) (H.out.sl.below hb) (by omega) A p hla) ?_
  rintro e w4 ⟨v4, rfl, o4, b4⟩
  go_wp2
  go_ret
  exact ⟨_, rfl, by rw [HL.out]; exact o4.base hb.size, hb.trans (b4.mono hb.size)⟩

set_option maxRecDepth 100000 in
theorem ipopTo_any {w : World} {v rv : Value} {ns : List PNode} {row : List Int} (hn : NodesAt w v ns) (hfit : ∀ n ∈ ns, NodeFit n) (hlen : ns.length ≤ 1048576) (hr : Sl .i64 w rv row) (hrl : row.length ≤ 1048576) (nm : ByteArray) :
    Calls Tryz.prog 7 #[.agg #[v], rv, .string nm] w fun e w' => ∃ v' ys, e = .returned v' ∧ Own w.heap.size 3 .i64 w' v' ys ∧ ((TreeOkP ns ∧ RowP ns row → ys = popL ns nm row) ∧ (¬ (TreeOkP ns ∧ RowP ns row) → ys = row)) ∧ Below w.heap.size w w' := by
  have HN := (show Hid (NodesAt w v ns) from hn)
  have HR := (show Hid (Sl .i64 w rv row) from hr)
  have HFIT := (show Hid _ from hfit)
  obtain ⟨a, cap, rfl, hc1, hc2, _⟩ := hn.slice
  obtain ⟨ra, rc, rfl, _, _, _, hra⟩ := hr
  clear hn hra hfit
  obtain ⟨w1, hw1⟩ : ∃ w1, w1 = w.alloc (.cells #[.slice a ns.length cap] 26) := ⟨_, rfl⟩
  have b1 : Below w.heap.size w w1 := by rw [hw1]; exact (Below.refl _ _).alloc (Nat.le_refl _) _
  go_enter Tryz.func7, Tryz.ntmps7
  go_wp2_with fail
  go_at_call 19
  rw [← hw1]
  refine Calls.mono (iopenRow_any (HN.out.below b1) HFIT.out hlen (HR.out.below b1) hrl) ?_
  rintro e w2 ⟨A, r, rfl, cA, hr, b2⟩
  clear hw1
  have hb2 := b1.trans (b2.mono b1.size)
  obtain ⟨w3, hw3⟩ : ∃ w3, w3 = w2.alloc (.cells #[.slice ra row.length rc, .pointer (some ⟨A, 0, none⟩)] 46) := ⟨_, rfl⟩
  have b3 : Below w2.heap.size w2 w3 := by rw [hw3]; exact (Below.refl _ _).alloc (Nat.le_refl _) _
  have g3 : w3.heap[w2.heap.size]? = some (.cells #[.slice ra row.length rc, .pointer (some ⟨A, 0, none⟩)] 46 (0, 0)) := by rw [hw3]; exact World.alloc_heap_new _ _
  have k0 : w3.cell? ⟨w2.heap.size, 0, none⟩ = some (.slice ra row.length rc) := by simp only [World.cell?, g3]; rfl
  have k1 : w3.cell? ⟨w2.heap.size, 1, none⟩ = some (.pointer (some ⟨A, 0, none⟩)) := by simp only [World.cell?, g3]; rfl
  have HCA := (show Hid _ from (b3.cell (p := ⟨A, 0, none⟩) (lt_of_cell cA)).trans cA)
  have hb := hb2.trans (b3.mono hb2.size)
  clear cA g3 b2 b3
  cases r
  · have HF : Hid (¬ (TreeOkP ns ∧ RowP ns row)) := fun h => by have := hr.mpr h; cases this
    clear hr
    go_wp2_with fail
    rw [← hw3]
    go_at_call 20
    refine Calls.mono (iwith_none (HR.out.below hb) hrl) ?_
    rintro e w4 ⟨v4, rfl, o4, b4⟩
    clear hw3
    go_wp2
    go_ret
    exact ⟨_, _, rfl, o4.base hb.size, ⟨fun h => absurd h HF.out, fun _ => rfl⟩, hb.trans (b4.mono hb.size)⟩
  · have HT : Hid (TreeOkP ns ∧ RowP ns row) := hr.mp rfl
    clear hr
    have RA := (show Hid _ from RowAt.mk (HN.out.below hb) HFIT.out hlen HCA.out (HR.out.below hb) HT.out.2)
    go_wp2_with fail
    rw [← hw3]
    go_at_call 21
    refine Calls.mono (ipopTo_m RA.out nm) ?_
    rintro e w4 ⟨v4, rfl, o4, b4⟩
    clear hw3
    go_wp2
    go_ret
    exact ⟨_, _, rfl, o4.base hb.size, ⟨fun _ => rfl, fun h => absurd HT.out h⟩, hb.trans (b4.mono hb.size)⟩

set_option maxRecDepth 100000 in
theorem ipopImplied_any {w : World} {v rv : Value} {ns : List PNode} {row : List Int} (hn : NodesAt w v ns) (hfit : ∀ n ∈ ns, NodeFit n) (hlen : ns.length ≤ 1048576) (hr : Sl .i64 w rv row) (hrl : row.length ≤ 1048576) (nm : ByteArray) :
    Calls Tryz.prog 12 #[.agg #[v], rv, .string nm] w fun e w' => ∃ v' ys, e = .returned v' ∧ Own w.heap.size 3 .i64 w' v' ys ∧ ((TreeOkP ns ∧ RowP ns row → ys = impL ns nm row) ∧ (¬ (TreeOkP ns ∧ RowP ns row) → ys = row)) ∧ Below w.heap.size w w' := by
  have HN := (show Hid (NodesAt w v ns) from hn)
  have HR := (show Hid (Sl .i64 w rv row) from hr)
  have HFIT := (show Hid _ from hfit)
  obtain ⟨a, cap, rfl, hc1, hc2, _⟩ := hn.slice
  obtain ⟨ra, rc, rfl, _, _, _, hra⟩ := hr
  clear hn hra hfit
  obtain ⟨w1, hw1⟩ : ∃ w1, w1 = w.alloc (.cells #[.slice a ns.length cap] 26) := ⟨_, rfl⟩
  have b1 : Below w.heap.size w w1 := by rw [hw1]; exact (Below.refl _ _).alloc (Nat.le_refl _) _
  go_enter Tryz.func12, Tryz.ntmps12
  go_wp2_with fail
  go_at_call 19
  rw [← hw1]
  refine Calls.mono (iopenRow_any (HN.out.below b1) HFIT.out hlen (HR.out.below b1) hrl) ?_
  rintro e w2 ⟨A, r, rfl, cA, hr, b2⟩
  clear hw1
  have hb2 := b1.trans (b2.mono b1.size)
  obtain ⟨w3, hw3⟩ : ∃ w3, w3 = w2.alloc (.cells #[.slice ra row.length rc, .pointer (some ⟨A, 0, none⟩)] 46) := ⟨_, rfl⟩
  have b3 : Below w2.heap.size w2 w3 := by rw [hw3]; exact (Below.refl _ _).alloc (Nat.le_refl _) _
  have g3 : w3.heap[w2.heap.size]? = some (.cells #[.slice ra row.length rc, .pointer (some ⟨A, 0, none⟩)] 46 (0, 0)) := by rw [hw3]; exact World.alloc_heap_new _ _
  have k0 : w3.cell? ⟨w2.heap.size, 0, none⟩ = some (.slice ra row.length rc) := by simp only [World.cell?, g3]; rfl
  have k1 : w3.cell? ⟨w2.heap.size, 1, none⟩ = some (.pointer (some ⟨A, 0, none⟩)) := by simp only [World.cell?, g3]; rfl
  have HCA := (show Hid _ from (b3.cell (p := ⟨A, 0, none⟩) (lt_of_cell cA)).trans cA)
  have hb := hb2.trans (b3.mono hb2.size)
  clear cA g3 b2 b3
  cases r
  · have HF : Hid (¬ (TreeOkP ns ∧ RowP ns row)) := fun h => by have := hr.mpr h; cases this
    clear hr
    go_wp2_with fail
    rw [← hw3]
    go_at_call 20
    refine Calls.mono (iwith_none (HR.out.below hb) hrl) ?_
    rintro e w4 ⟨v4, rfl, o4, b4⟩
    clear hw3
    go_wp2
    go_ret
    exact ⟨_, _, rfl, o4.base hb.size, ⟨fun h => absurd h HF.out, fun _ => rfl⟩, hb.trans (b4.mono hb.size)⟩
  · have HT : Hid (TreeOkP ns ∧ RowP ns row) := hr.mp rfl
    clear hr
    have RA := (show Hid _ from RowAt.mk (HN.out.below hb) HFIT.out hlen HCA.out (HR.out.below hb) HT.out.2)
    go_wp2_with fail
    rw [← hw3]
    go_at_call 27
    refine Calls.mono (ipopImplied_m RA.out nm) ?_
    rintro e w4 ⟨v4, rfl, o4, b4⟩
    clear hw3
    go_wp2
    go_ret
    exact ⟨_, _, rfl, o4.base hb.size, ⟨fun _ => rfl, fun h => absurd HT.out h⟩, hb.trans (b4.mono hb.size)⟩

set_option maxRecDepth 100000 in
theorem iopenAt_any {w : World} {v rv : Value} {ns : List PNode} {row : List Int} (hn : NodesAt w v ns) (hfit : ∀ n ∈ ns, NodeFit n) (hlen : ns.length ≤ 1048576) (hr : Sl .i64 w rv row) (hrl : row.length ≤ 1048576) (nm : ByteArray) :
    Calls Tryz.prog 10 #[.agg #[v], rv, .string nm] w fun e w' => ∃ r : Int, e = .returned (.int .i64 r) ∧ ((TreeOkP ns ∧ RowP ns row → r = (lastAt (named ns nm) row row.length : Int) - 1) ∧ (¬ (TreeOkP ns ∧ RowP ns row) → r = -1)) ∧ Below w.heap.size w w' := by
  have HN := (show Hid (NodesAt w v ns) from hn)
  have HR := (show Hid (Sl .i64 w rv row) from hr)
  have HFIT := (show Hid _ from hfit)
  obtain ⟨a, cap, rfl, hc1, hc2, _⟩ := hn.slice
  obtain ⟨ra, rc, rfl, _, _, _, hra⟩ := hr
  clear hn hra hfit
  obtain ⟨w1, hw1⟩ : ∃ w1, w1 = w.alloc (.cells #[.slice a ns.length cap] 26) := ⟨_, rfl⟩
  have b1 : Below w.heap.size w w1 := by rw [hw1]; exact (Below.refl _ _).alloc (Nat.le_refl _) _
  go_enter Tryz.func10, Tryz.ntmps10
  go_wp2_with fail
  go_at_call 19
  rw [← hw1]
  refine Calls.mono (iopenRow_any (HN.out.below b1) HFIT.out hlen (HR.out.below b1) hrl) ?_
  rintro e w2 ⟨A, r, rfl, cA, hr, b2⟩
  clear hw1
  have hb2 := b1.trans (b2.mono b1.size)
  obtain ⟨w3, hw3⟩ : ∃ w3, w3 = w2.alloc (.cells #[.slice ra row.length rc, .pointer (some ⟨A, 0, none⟩)] 46) := ⟨_, rfl⟩
  have b3 : Below w2.heap.size w2 w3 := by rw [hw3]; exact (Below.refl _ _).alloc (Nat.le_refl _) _
  have g3 : w3.heap[w2.heap.size]? = some (.cells #[.slice ra row.length rc, .pointer (some ⟨A, 0, none⟩)] 46 (0, 0)) := by rw [hw3]; exact World.alloc_heap_new _ _
  have k0 : w3.cell? ⟨w2.heap.size, 0, none⟩ = some (.slice ra row.length rc) := by simp only [World.cell?, g3]; rfl
  have k1 : w3.cell? ⟨w2.heap.size, 1, none⟩ = some (.pointer (some ⟨A, 0, none⟩)) := by simp only [World.cell?, g3]; rfl
  have HCA := (show Hid _ from (b3.cell (p := ⟨A, 0, none⟩) (lt_of_cell cA)).trans cA)
  have hb := hb2.trans (b3.mono hb2.size)
  clear cA g3 b2 b3
  cases r
  · have HF : Hid (¬ (TreeOkP ns ∧ RowP ns row)) := fun h => by have := hr.mpr h; cases this
    clear hr
    go_wp2
    rw [← hw3]
    go_ret
    exact ⟨-1, rfl, ⟨fun h => absurd h HF.out, fun _ => rfl⟩, hb⟩
  · have HT : Hid (TreeOkP ns ∧ RowP ns row) := hr.mp rfl
    clear hr
    have RA := (show Hid _ from RowAt.mk (HN.out.below hb) HFIT.out hlen HCA.out (HR.out.below hb) HT.out.2)
    go_wp2_with fail
    rw [← hw3]
    go_at_call 24
    refine Calls.mono (ilastNamed_any RA.out nm) ?_
    rintro e w4 ⟨rfl, b4⟩
    clear hw3
    go_wp2
    go_ret
    exact ⟨_, rfl, ⟨fun _ => rfl, fun h => absurd HT.out h⟩, hb.trans (b4.mono hb.size)⟩
end Go.Proofs.YthdfhckmgneioaaGreat
