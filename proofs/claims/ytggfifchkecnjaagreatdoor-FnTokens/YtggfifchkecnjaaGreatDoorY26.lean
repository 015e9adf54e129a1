/- The program's cutter: its place, and the states that plain text passes. -/
import Derived.Test.YtggfifchkecnjaaGreatDoorY14
import Derived.Test.YtggfifchkecnjaaGreatDoorY22
import Derived.Test.YtggfifchkecnjaaGreatDoorY24
import Derived.Deep.RegionHeld
import Derived.Test.YtggfifchkecnjaaGreatDoorY4
import Derived.Test.YtggfifchkecnjaaGreatDoorY20
import Derived.Test.YtggfifchkecnjaaGreatDoorY21
namespace Go.Proofs.YtggfifchkecnjaaGreatDoor
open Go.RowKit
set_option maxRecDepth 100000
set_option linter.unusedVariables false

def cutVal (v : Value) (g : Nat) (s : ByteArray) : Value := .agg #[v, .pointer (some ⟨g, 0, none⟩), .string s]

def apart (v : Value) (g : Nat) : Prop := ∀ a n c, v = .slice (some a) n c → a.block ≠ g
theorem Sl.grown {K : IntKind} {w w' : World} {v : Value} {xs : List Int} {g : Nat} (h : Sl K w v xs) (ha : apart v g) (hg : w.grownBy w' (some g)) : Sl K w' v xs := by
  obtain ⟨a, cap, e, hl, hm, hnn, hc⟩ := h
  refine ⟨a, cap, e, hl, hm, hnn, fun k hk => ?_⟩
  obtain ⟨b, off, ea, c⟩ := hc k hk
  refine ⟨b, off, ea, ?_⟩
  have hne : b ≠ g := ha ⟨b, off, none⟩ _ _ (by rw [e, ea])
  have hlt : b < w.heap.size := by
    by_cases hlt : b < w.heap.size
    · exact hlt
    · simp [World.cell?, Array.getElem?_eq_none (Nat.le_of_not_lt hlt)] at c
  have hb := hg.block b hlt (fun e => by injection e with e; exact hne e)
  rw [← c]
  simp only [World.cell?, hb]

def Cut (w0 : World) (g : Nat) (v : Value) (xs : List Int) (i : Nat) (w : World) : Prop :=
  apart v g ∧ Sl .i64 w0 v xs ∧ w0.grownBy w (some g) ∧ (xs.length ≤ 3000 ∧ i ≤ xs.length) ∧ w.heap[g]? = some (.cells #[.int .i64 i] 3 (0, 0))
theorem Cut.lt {w0 : World} {g : Nat} {v : Value} {xs : List Int} {i : Nat} {w : World} (h : Cut w0 g v xs i w) : g < w.heap.size := lt_of_block h.2.2.2.2
theorem Cut.below {w0 : World} {g : Nat} {v : Value} {xs : List Int} {i : Nat} {w w' : World} (h : Cut w0 g v xs i w) (hb : Below w.heap.size w w') : Cut w0 g v xs i w' := by
  have hlt := h.lt
  obtain ⟨h1, h2, h3, h4, h5⟩ := h
  exact ⟨h1, h2, grown_below h3 hb, h4, (hb.block g hlt).trans h5⟩
theorem Cut.sl {w0 : World} {g : Nat} {v : Value} {xs : List Int} {i : Nat} {w : World} (h : Cut w0 g v xs i w) : Sl .i64 w v xs := h.2.1.grown h.1 h.2.2.1
theorem Cut.cell {w0 : World} {g : Nat} {v : Value} {xs : List Int} {i : Nat} {w : World} (h : Cut w0 g v xs i w) : w.cell? ⟨g, 0, none⟩ = some (.int .i64 i) ∧ w.frozen? ⟨g, 0, none⟩ = false := by
  have hh := h.2.2.2.2
  constructor
  · simp only [World.cell?, hh]; rfl
  · simp only [World.frozen?, hh]; rfl
theorem set_grown (w : World) (b k : Nat) (u : Value) : w.grownBy (w.setCell ⟨b, k, none⟩ u) (some b) :=
  ⟨rfl, rfl, rfl, by simp [World.setCell], fun j _ hj => Below.heap_setCell _ _ _ j (fun e => hj (by rw [e]))⟩
theorem Cut.set {w0 : World} {g : Nat} {v : Value} {xs : List Int} {i : Nat} {w : World} (h : Cut w0 g v xs i w) (j : Nat) (hj : j ≤ xs.length) : Cut w0 g v xs j (w.setCell ⟨g, 0, none⟩ (.int .i64 j)) ∧ w.grownBy (w.setCell ⟨g, 0, none⟩ (.int .i64 j)) (some g) := by
  obtain ⟨h1, h2, h3, h4, h5⟩ := h
  refine ⟨⟨h1, h2, grown_trans h3 (set_grown w g 0 _), ⟨h4.1, hj⟩, ?_⟩, set_grown w g 0 _⟩
  have := setCell_at (k := 0) (u := .int .i64 j) h5
  simpa using this

theorem wrap_fit {x : Int} (h0 : -9223372036854775808 ≤ x) (h1 : x ≤ 9223372036854775807) : IntKind.i64.wrap x = x := by
  simp [IntKind.wrap, IntKind.bits, IntKind.signed]; omega

theorem below_grown {w w' : World} (g : Nat) (h : Below w.heap.size w w') : w.grownBy w' (some g) := ⟨h.os, h.tape, h.output, h.size, fun j hj _ => h.block j hj⟩

theorem cut_entry {w0 : World} {g : Nat} {v : Value} {xs : List Int} {i : Nat} {w : World} (h : Cut w0 g v xs i w) (s : ByteArray) :
    ∃ w1, w1 = w.alloc (.cells #[v, .pointer (some ⟨g, 0, none⟩), .string s] 47) ∧ w1.cell? ⟨w.heap.size, 0, none⟩ = some v ∧ w1.cell? ⟨w.heap.size, 1, none⟩ = some (.pointer (some ⟨g, 0, none⟩)) ∧ w1.cell? ⟨w.heap.size, 2, none⟩ = some (.string s) ∧
      w1.cell? ⟨g, 0, none⟩ = some (.int .i64 i) ∧ w1.frozen? ⟨g, 0, none⟩ = false ∧ Cut w0 g v xs i w1 ∧ Below w.heap.size w w1 := by
  refine ⟨_, rfl, ?_⟩
  have hal : Below w.heap.size w (w.alloc (.cells #[v, .pointer (some ⟨g, 0, none⟩), .string s] 47)) := (Below.refl _ _).alloc (Nat.le_refl _) _
  have hb := heap_alloc_new w (.cells #[v, .pointer (some ⟨g, 0, none⟩), .string s] 47)
  have hc := h.below hal
  refine ⟨?_, ?_, ?_, hc.cell.1, hc.cell.2, hc, hal⟩
  all_goals simp only [World.cell?, hb]; rfl

set_option maxHeartbeats 1000000 in
theorem ahead_any {w0 : World} {g : Nat} {v : Value} {xs : List Int} {i : Nat} {w : World} (h : Cut w0 g v xs i w) (s : ByteArray) (k : Nat) (hk : k ≤ 5000) :
    Calls Tryz.prog 108 #[cutVal v g s, .int .i64 k] w fun e w' => e = .returned (.int .i64 (atL xs (i + k))) ∧ Below w.heap.size w w' := by
  have hi := h.2.2.2.1
  obtain ⟨w1, hw1, c0, c1, c2, cg, fg, hcut, bel⟩ := cut_entry h s
  obtain ⟨a, ca, rfl, _, _, _, ha⟩ := hcut.sl
  have hwr : IntKind.i64.wrap ((i : Int) + (k : Int)) = (i : Int) + (k : Int) := wrap_fit (by omega) (by omega)
  have htn : ((i : Int) + (k : Int)).toNat = i + k := by omega
  have BEL := (show Hid _ from bel)
  clear bel hcut h c2 fg
  unfold cutVal
  by_cases hin : i + k < xs.length
  · obtain ⟨b1, o1, rfl, cx⟩ := ha (i + k) hin
    rw [atL_in hin]
    clear ha
    go_enter Tryz.func108, Tryz.ntmps108
    go_wp2
    rw [← hw1]
    clear hw1
    go_region_held (fun w' => w'.cell? ⟨w.heap.size, 0, none⟩ = some (.slice (some ⟨b1, o1, none⟩) xs.length ca) ∧ w'.cell? ⟨w.heap.size, 1, none⟩ = some (.pointer (some ⟨g, 0, none⟩)) ∧ w'.cell? ⟨g, 0, none⟩ = some (.int .i64 i) ∧ w'.cell? ⟨b1, o1 + (i + k), none⟩ = some (.int .i64 (xs.getD (i + k) 0)) ∧ Below w.heap.size w w') (exact ⟨c0, c1, cg, cx, BEL.out.trans (below_drewN 1)⟩) (fail)
    go_wp2
    go_region_held (fun w' => w'.cell? ⟨w.heap.size, 0, none⟩ = some (.slice (some ⟨b1, o1, none⟩) xs.length ca) ∧ w'.cell? ⟨w.heap.size, 1, none⟩ = some (.pointer (some ⟨g, 0, none⟩)) ∧ w'.cell? ⟨g, 0, none⟩ = some (.int .i64 i) ∧ w'.cell? ⟨b1, o1 + (i + k), none⟩ = some (.int .i64 (xs.getD (i + k) 0)) ∧ Below w.heap.size w w') (exact ⟨c0, c1, cg, cx, BEL.out.trans (below_drewN 2)⟩) (fail)
    go_wp2
    go_ret
    exact ⟨by simp [List.getD_eq_getElem?_getD, hin], BEL.out.trans (below_drewN 2)⟩
  · rw [atL_out (by omega)]
    clear ha
    go_enter Tryz.func108, Tryz.ntmps108
    go_wp2
    rw [← hw1]
    clear hw1
    go_region_held (fun w' => w'.cell? ⟨w.heap.size, 0, none⟩ = some (.slice a xs.length ca) ∧ w'.cell? ⟨w.heap.size, 1, none⟩ = some (.pointer (some ⟨g, 0, none⟩)) ∧ w'.cell? ⟨g, 0, none⟩ = some (.int .i64 i) ∧ Below w.heap.size w w') (exact ⟨c0, c1, cg, BEL.out.trans (below_drewN 1)⟩) (fail)
    go_wp2
    go_ret
    exact ⟨rfl, BEL.out.trans (below_drewN 1)⟩

theorem move_any {w0 : World} {g : Nat} {v : Value} {xs : List Int} {i : Nat} {w : World} (h : Cut w0 g v xs i w) (s : ByteArray) (k : Nat) (hk : i + k ≤ xs.length) :
    Calls Tryz.prog 110 #[cutVal v g s, .int .i64 k] w fun e w' => e = .returned (.tuple #[]) ∧ Cut w0 g v xs (i + k) w' ∧ w.grownBy w' (some g) := by
  have hi := h.2.2.2.1
  obtain ⟨w1, hw1, c0, c1, c2, cg, fg, hcut, bel⟩ := cut_entry h s
  obtain ⟨k2, g2⟩ := hcut.set (i + k) hk
  have hwr : IntKind.i64.wrap ((i : Int) + (k : Int)) = (i : Int) + (k : Int) := wrap_fit (by omega) (by omega)
  have e1 : ((i + k : Nat) : Int) = (i : Int) + (k : Int) := by omega
  rw [e1] at k2 g2
  have K2 : Hid (Cut w0 g v xs (i + k) (w1.setCell ⟨g, 0, none⟩ (.int .i64 ((i : Int) + (k : Int))))) := k2
  have G2 : Hid (w.grownBy (w1.setCell ⟨g, 0, none⟩ (.int .i64 ((i : Int) + (k : Int)))) (some g)) := grown_trans (below_grown g bel) g2
  clear k2 g2 hcut h c2 bel e1
  subst hw1
  unfold cutVal
  go_enter Tryz.func110, Tryz.ntmps110
  go_wp2
  go_end0
  exact ⟨rfl, K2.out, G2.out⟩

theorem tok_res {f : Func} {p q : Tmp} (hf : f.results = #[.cell p 30, .tmp q]) {tmps : Array Value} {w : World} {b : Nat} {k : Int} {nm : ByteArray} {va : Value} {tx : ByteArray} {sf : Bool} {u : Value} (h4 : tmps.getD p undef = .pointer (some ⟨b, 0, none⟩)) (h5 : tmps.getD q undef = u) (hb : w.heap[b]? = some (.cells #[.int .i64 k, .string nm, va, .string tx, .bool sf] 30 (0, 0))) :
    (results f tmps).run Tryz.prog w = .ok (.tuple #[tokVal k nm va tx sf, u]) w := by
  rw [results_cell_tmp (p := p) (u := q) (ty := 30) hf, h4, h5]
  simp [asAddr, run_loadVar_row w b 30 30 #[.int .i64 k, .string nm, va, .string tx, .bool sf] (0, 0) _ hb Tryz.underlying30 rfl rfl, Result.andThen, tokVal]

def tokSet (w : World) (b : Nat) (k : Int) (nm : ByteArray) (va : Value) (tx : ByteArray) (sf : Bool) : World :=
  ((((w.setCell ⟨b, 0, none⟩ (.int .i64 k)).setCell ⟨b, 1, none⟩ (.string nm)).setCell ⟨b, 2, none⟩ va).setCell ⟨b, 3, none⟩ (.string tx)).setCell ⟨b, 4, none⟩ (.bool sf)
theorem tokSet_block {w : World} {b : Nat} {t : TypeId} {x0 x1 x2 x3 x4 : Value} (h : w.heap[b]? = some (.cells #[x0, x1, x2, x3, x4] t (0, 0))) (k : Int) (nm : ByteArray) (va : Value) (tx : ByteArray) (sf : Bool) :
    (tokSet w b k nm va tx sf).heap[b]? = some (.cells #[.int .i64 k, .string nm, va, .string tx, .bool sf] t (0, 0)) :=
  setCell_at (k := 4) (setCell_at (k := 3) (setCell_at (k := 2) (setCell_at (k := 1) (setCell_at (k := 0) h))))
theorem tokSet_other {w : World} {b j : Nat} (h : j ≠ b) (k : Int) (nm : ByteArray) (va : Value) (tx : ByteArray) (sf : Bool) : (tokSet w b k nm va tx sf).heap[j]? = w.heap[j]? := by
  unfold tokSet
  rw [Below.heap_setCell _ _ _ j h, Below.heap_setCell _ _ _ j h, Below.heap_setCell _ _ _ j h, Below.heap_setCell _ _ _ j h, Below.heap_setCell _ _ _ j h]
theorem tokSet_below {B : Nat} {w w' : World} (h : Below B w w') {b : Nat} (hb : B ≤ b) (k : Int) (nm : ByteArray) (va : Value) (tx : ByteArray) (sf : Bool) : Below B w (tokSet w' b k nm va tx sf) :=
  ((((h.setCell hb _).setCell hb _).setCell hb _).setCell hb _).setCell hb _
theorem tokSet_grown {w w' : World} {g : Nat} (h : w.grownBy w' (some g)) {b : Nat} (hb : w.heap.size ≤ b) (k : Int) (nm : ByteArray) (va : Value) (tx : ByteArray) (sf : Bool) : w.grownBy (tokSet w' b k nm va tx sf) (some g) := by
  have hr : ∀ j, some b = some j → w.heap.size ≤ j := fun j e => by cases e; exact hb
  unfold tokSet
  exact grown_past (grown_past (grown_past (grown_past (grown_past h (set_grown ..) hr) (set_grown ..) hr) (set_grown ..) hr) (set_grown ..) hr) (set_grown ..) hr
theorem tokSet_cut {w0 : World} {g : Nat} {v : Value} {xs : List Int} {i : Nat} {w : World} (h : Cut w0 g v xs i w) {b : Nat} (hb : w0.heap.size ≤ b) (hg : g ≠ b) (k : Int) (nm : ByteArray) (va : Value) (tx : ByteArray) (sf : Bool) : Cut w0 g v xs i (tokSet w b k nm va tx sf) := by
  obtain ⟨h1, h2, h3, h4, h5⟩ := h
  exact ⟨h1, h2, tokSet_grown h3 hb .., h4, (tokSet_other hg ..).trans h5⟩
theorem tok_cells {w : World} {b : Nat} {t : TypeId} {x0 x1 x2 x3 x4 : Value} (h : w.heap[b]? = some (.cells #[x0, x1, x2, x3, x4] t (0, 0))) :
    (w.cell? ⟨b, 0, none⟩ = some x0 ∧ w.cell? ⟨b, 1, none⟩ = some x1 ∧ w.cell? ⟨b, 2, none⟩ = some x2 ∧ w.cell? ⟨b, 3, none⟩ = some x3 ∧ w.cell? ⟨b, 4, none⟩ = some x4) ∧
      (w.frozen? ⟨b, 0, none⟩ = false ∧ w.frozen? ⟨b, 1, none⟩ = false ∧ w.frozen? ⟨b, 2, none⟩ = false ∧ w.frozen? ⟨b, 3, none⟩ = false ∧ w.frozen? ⟨b, 4, none⟩ = false) := by
  refine ⟨⟨?_, ?_, ?_, ?_, ?_⟩, ?_, ?_, ?_, ?_, ?_⟩
  all_goals first | (simp only [World.cell?, h]; rfl) | (simp only [World.frozen?, h]; rfl)

theorem put_str (x : Int) : bs (strOf (put x)) = put x := bs_strOf (put_byte x)

set_option maxHeartbeats 1000000 in
theorem char_any {w0 : World} {g : Nat} {v : Value} {xs : List Int} {i : Nat} {w : World} (h : Cut w0 g v xs i w) (s : ByteArray) (hi : i < xs.length) :
    Calls Tryz.prog 67 #[cutVal v g s] w fun e w' => e = .returned (.tuple #[tokVal 2 ⟨#[]⟩ (.slice none 0 0) (strOf (put (xs.getD i 0))) false, .int .i64 0]) ∧ Cut w0 g v xs (i + 1) w' ∧ w.grownBy w' (some g) := by
  have hlt := h.lt
  have hle := h.2.2.1.size
  obtain ⟨wx, hwx⟩ : ∃ wx, wx = (w.alloc (.cells #[v, .pointer (some ⟨g, 0, none⟩), .string s] 47)).alloc (.cells #[.int .i64 0, .string ⟨#[]⟩, .slice none 0 0, .string ⟨#[]⟩, .bool false] 30) := ⟨_, rfl⟩
  have bx : Below w.heap.size w wx := by rw [hwx]; exact ((Below.refl _ _).alloc (Nat.le_refl _) _).alloc (by simp) _
  have hc : wx.heap[w.heap.size]? = some (.cells #[v, .pointer (some ⟨g, 0, none⟩), .string s] 47) := by
    rw [hwx]; exact (heap_alloc_old _ _ (by simp)).trans (heap_alloc_new _ _)
  have hr : wx.heap[w.heap.size + 1]? = some (.cells #[.int .i64 0, .string ⟨#[]⟩, .slice none 0 0, .string ⟨#[]⟩, .bool false] 30) := by
    rw [hwx]
    have := heap_alloc_new (w.alloc (.cells #[v, .pointer (some ⟨g, 0, none⟩), .string s] 47)) (.cells #[.int .i64 0, .string ⟨#[]⟩, .slice none 0 0, .string ⟨#[]⟩, .bool false] 30)
    simpa using this
  have cx := h.below bx
  have HC := (show Hid _ from hc)
  have HR := (show Hid _ from hr)
  have hal := atL_in hi
  obtain ⟨x, hx⟩ : ∃ x, x = xs.getD i 0 := ⟨_, rfl⟩
  rw [← hx] at hal ⊢
  clear hx
  clear hc hr h
  have e0 : ((0 : Nat) : Int) = 0 := rfl
  have e1 : ((1 : Nat) : Int) = 1 := rfl
  have ca := ahead_any cx s 0 (by omega)
  rw [Nat.add_zero, hal, e0] at ca
  unfold cutVal at ca ⊢
  clear e0
  go_enter Tryz.func67, Tryz.ntmps67
  go_wp2_with fail
  rw [← hwx]
  go_at_call 108
  refine ca.mono ?_
  rintro e w2 ⟨rfl, b2⟩
  have k2 := cx.below b2
  have HC2 := (show Hid _ from (b2.block w.heap.size (lt_of_block HC.out)).trans HC.out)
  have HR2 := (show Hid _ from (b2.block (w.heap.size + 1) (lt_of_block HR.out)).trans HR.out)
  replace b2 := bx.trans (b2.mono bx.size)
  clear ca cx HC HR hwx bx
  go_wp2_with fail
  go_at_call 111
  refine (iput_any _ _).mono ?_
  rintro e w3 ⟨u, rfl, o3, b3⟩
  have hsz2 := b2.size
  replace o3 := o3.base (B' := w.heap.size) (by omega)
  have k3 := k2.below b3
  have HC3 := (show Hid _ from (b3.block w.heap.size (lt_of_block HC2.out)).trans HC2.out)
  have HR3 := (show Hid _ from (b3.block (w.heap.size + 1) (lt_of_block HR2.out)).trans HR2.out)
  replace b3 := b2.trans (b3.mono b2.size)
  clear k2 HC2 HR2 b2 hsz2
  have hx := HC3.out
  have c0 : w3.cell? ⟨w.heap.size, 0, none⟩ = some v := by simp only [World.cell?, hx]; rfl
  have c1 : w3.cell? ⟨w.heap.size, 1, none⟩ = some (.pointer (some ⟨g, 0, none⟩)) := by simp only [World.cell?, hx]; rfl
  have c2 : w3.cell? ⟨w.heap.size, 2, none⟩ = some (.string s) := by simp only [World.cell?, hx]; rfl
  clear hx
  have cm := move_any k3 s 1 (by omega)
  rw [e1] at cm
  unfold cutVal at cm
  go_wp2_with fail
  go_at_call 110
  refine cm.mono ?_
  rintro e w4 ⟨rfl, k4, g4⟩
  have o4 := own_past o3 g4 hlt
  have hconv := conv_sl o4.sl
  obtain ⟨t, ht⟩ : ∃ t, t = strOf (put x) := ⟨_, rfl⟩
  rw [← ht] at hconv
  have HT := (show Hid _ from ht)
  clear ht
  have hr4 := (g4.block (w.heap.size + 1) (lt_of_block HR3.out) (fun e => by injection e with e; omega)).trans HR3.out
  have K4 := (show Hid (w.grownBy w4 (some g)) from grown_trans (below_grown g b3) g4)
  obtain ⟨⟨r0, r1, r2, r3, r4⟩, q0, q1, q2, q3, q4⟩ := tok_cells hr4
  have res := tokSet_block hr4 2 ⟨#[]⟩ (.slice none 0 0) t false
  have cut : Cut w0 g v xs (i + 1) (tokSet w4 (w.heap.size + 1) 2 ⟨#[]⟩ (.slice none 0 0) t false) := tokSet_cut k4 (by omega) (by omega) ..
  have gro : w.grownBy (tokSet w4 (w.heap.size + 1) 2 ⟨#[]⟩ (.slice none 0 0) t false) (some g) := tokSet_grown K4.out (by omega) ..
  unfold tokSet at res cut gro
  have RES := (show Hid _ from res)
  have CUT := (show Hid _ from cut)
  have GRO := (show Hid _ from gro)
  clear res cut gro
  clear hr4 k4 g4 K4 o3 o4 HR3 HC3 k3 b3 cm c0 c1 c2
  go_wp2
  (try simp only [Exit.inBlock, Exit.then])
  refine bodyPost_ret (tok_res (f := Tryz.f67) (p := 2) (q := 3) rfl (k := 2) (nm := ⟨#[]⟩) (va := .slice none 0 0) (tx := t) (sf := false) rfl rfl RES.out) rfl ?_
  exact ⟨by rw [HT.out]; rfl, CUT.out, GRO.out⟩
end Go.Proofs.YtggfifchkecnjaaGreatDoor

/- Contracts of the program's list with more behind it, and of AttrAdd. -/
namespace Go.Proofs.YtggfifchkecnjaaGreatDoor
open Go.RowKit
set_option maxRecDepth 100000
set_option linter.unusedVariables false

theorem Tryz.sizeA : (Tryz.prog.info? 81).map (·.size) = some 2 := by kernel_rfl
theorem made_len (c : Array Value) (n : Nat) (h : c.size = 2) : (madeCells c (n * 2)).toList.length = n * 2 := by simp [madeCells]

set_option maxHeartbeats 2000000 in
set_option maxRecDepth 100000 in
theorem with_none {l m : Value} {rs : List (ByteArray × ByteArray)} {w : World} (h : Sv 2 w l (pairCells rs)) (hm : Sv 2 w m []) (hn : rs.length ≤ 1048576) :
    Calls Tryz.prog 145 #[l, m] w fun e w' => ∃ v', e = .returned v' ∧ w'.ownsRow w.heap.size 81 2 v' rs.length (pairCells rs) ∧ Below w.heap.size w w' := by
  have HL := (show Hid (Sv 2 w l (pairCells rs)) from h)
  have HM := (show Hid (Sv 2 w m []) from hm)
  obtain ⟨a, ca, rfl, _, _, _⟩ := h.pair
  obtain ⟨b, len, cb, rfl, hlen, _, _, _, _⟩ := hm
  obtain rfl : len = 0 := by have h2' : (0 : Nat) = len * 2 := hlen; omega
  obtain ⟨i0, hi, hz0, hz1, hz2⟩ := info_parts Tryz.infoA
  clear h hlen
  go_enter Tryz.func145, Tryz.ntmps145
  go_wp2_with (first
    | (at_make; refine wpList_make_full _ rfl (.tmp 10) (.tmp 10) 109 rfl w.heap.size 81 i0 _ 2 Tryz.underlying109 hi hz0 hz1 .i64 .i64 _ _ rs.length rfl rfl rfl rfl (by rw [hz2]; omega) (by unfold maxLen; omega) (Nat.le_refl _) ?_; intro w1 o1 g1; have b1 : Below w.heap.size w w1 := (Below.refl _ _).grown g1 (Nat.le_refl _) (fun k hk => by cases hk))
    | (refine wpList_cpV rfl (.tmp 12) (.tmp 13) 109 109 rfl 81 Tryz.underlying109 Tryz.sizeA w.heap.size w.heap.size rs.length rs.length 0 rs.length _ _ (pairCells rs) rfl rfl o1 (by omega) (HL.out.below b1) (pairCells_len rs) (pairs_oneCell _) ?_; intro w2 o2 g2; have b2 := b1.grown g2 b1.size (fun k hk => by cases hk; exact Nat.le_refl _))
    | (refine wpList_cpZ rfl (.tmp 18) (.tmp 19) 109 28 rfl 81 Tryz.underlying109 Tryz.sizeA w.heap.size w.heap.size rs.length rs.length _ _ rfl rfl o2 (HM.out.below b2) ?_))
  go_ret
  refine ⟨_, rfl, ?_, b2⟩
  have e : (madeCells (Value.agg #[Value.string ⟨#[]⟩, Value.string ⟨#[]⟩]).cells (rs.length * 2)).toList.length = rs.length * 2 := by rw [made_len _ _ rfl]
  rw [Nat.zero_mul, Nat.zero_add, List.take_zero, List.nil_append, List.drop_eq_nil_of_le (by omega), List.append_nil] at o2
  exact o2

set_option maxHeartbeats 2000000 in
set_option maxRecDepth 100000 in
theorem with_some {l m : Value} {rs qs : List (ByteArray × ByteArray)} {w : World} (h : Sv 2 w l (pairCells rs)) (hm : Sv 2 w m (pairCells qs)) (hn : rs.length ≤ 1048576) (hq : qs.length ≤ 1048576) (hq0 : 0 < qs.length) :
    Calls Tryz.prog 145 #[l, m] w fun e w' => ∃ v', e = .returned v' ∧ w'.ownsRow w.heap.size 81 2 v' (rs ++ qs).length (pairCells (rs ++ qs)) ∧ Below w.heap.size w w' := by
  have HL := (show Hid (Sv 2 w l (pairCells rs)) from h)
  have HM := (show Hid (Sv 2 w m (pairCells qs)) from hm)
  obtain ⟨a, ca, rfl, _, _, _⟩ := h.pair
  obtain ⟨b, cb, rfl, _, _, _⟩ := hm.pair
  obtain ⟨i0, hi, hz0, hz1, hz2⟩ := info_parts Tryz.infoA
  obtain ⟨N, hN⟩ : ∃ N, N = rs.length + qs.length := ⟨_, rfl⟩
  have hNi : (rs.length : Int) + (qs.length : Int) = (N : Int) := by omega
  have hNb : N ≤ 2097152 := by omega
  have hNr : ¬ N = rs.length := by omega
  have hNl : rs.length ≤ N := by omega
  have HN := (show Hid (N = rs.length + qs.length) from hN)
  clear h hm hN
  go_enter Tryz.func145, Tryz.ntmps145
  go_wp2_with (first
    | (at_make; refine wpList_make_full _ rfl (.tmp 10) (.tmp 10) 109 rfl w.heap.size 81 i0 _ 2 Tryz.underlying109 hi hz0 hz1 .i64 .i64 _ _ N rfl rfl rfl rfl (by rw [hz2]; omega) (by unfold maxLen; omega) (Nat.le_refl _) ?_; intro w1 o1 g1; have b1 : Below w.heap.size w w1 := (Below.refl _ _).grown g1 (Nat.le_refl _) (fun k hk => by cases hk))
    | (refine wpList_cpV rfl (.tmp 12) (.tmp 13) 109 109 rfl 81 Tryz.underlying109 Tryz.sizeA w.heap.size w.heap.size N N 0 rs.length _ _ (pairCells rs) rfl rfl o1 (by have := HN.out; omega) (HL.out.below b1) (pairCells_len rs) (pairs_oneCell _) ?_; intro w2 o2 g2; have b2 := b1.grown g2 b1.size (fun k hk => by cases hk; exact Nat.le_refl _))
    | (refine wpList_cpV rfl (.tmp 18) (.tmp 19) 109 28 rfl 81 Tryz.underlying109 Tryz.sizeA w.heap.size w.heap.size N N rs.length qs.length _ _ (pairCells qs) rfl rfl o2 (by have := HN.out; omega) (HM.out.below b2) (pairCells_len qs) (pairs_oneCell _) ?_; intro w3 o3 g3; have b3 := b2.grown g3 b2.size (fun k hk => by cases hk; exact Nat.le_refl _)))
  go_ret
  refine ⟨_, rfl, ?_, b3⟩
  have e : (madeCells (Value.agg #[Value.string ⟨#[]⟩, Value.string ⟨#[]⟩]).cells (N * 2)).toList.length = N * 2 := by rw [made_len _ _ rfl]
  have lr := pairCells_len rs
  have lq := pairCells_len qs
  have hN := HN.out
  generalize (madeCells (Value.agg #[Value.string ⟨#[]⟩, Value.string ⟨#[]⟩]).cells (N * 2)).toList = Z at o3 e
  have e3 : ((Z.take (0 * 2) ++ pairCells rs ++ Z.drop (0 * 2 + rs.length * 2)).take (rs.length * 2) ++ pairCells qs ++ (Z.take (0 * 2) ++ pairCells rs ++ Z.drop (0 * 2 + rs.length * 2)).drop (rs.length * 2 + qs.length * 2)) = pairCells (rs ++ qs) := by
    rw [Nat.zero_mul, Nat.zero_add, List.take_zero, List.nil_append, List.take_append_of_le_length (by omega), List.take_of_length_le (by omega), List.drop_eq_nil_of_le (by simp; omega), List.append_nil]
    simp [pairCells]
  rw [e3] at o3
  rw [List.length_append, ← hN]
  exact o3
end Go.Proofs.YtggfifchkecnjaaGreatDoor

/- The laws' helpers on tokens. -/
namespace Go.Proofs.YtggfifchkecnjaaGreatDoor
open Go.RowKit
set_option maxRecDepth 100000
set_option linter.unusedVariables false

theorem row_set {B size n b k : Nat} {e : TypeId} {w : World} {v u : Value} {xs : List Value} (h : w.ownsRow B e size v n xs) (hne : ∀ j, v.ownBlock = some j → j ≠ b) : (w.setCell ⟨b, k, none⟩ u).ownsRow B e size v n xs := by
  obtain ⟨hl, hv | ⟨g, cap, cur, hv, hB, hh, r⟩⟩ := h
  · exact ⟨hl, .inl hv⟩
  · have hg : g ≠ b := hne g (by rw [hv]; rfl)
    exact ⟨hl, .inr ⟨g, cap, cur, hv, hB, (Below.heap_setCell w ⟨b, k, none⟩ u g hg).trans hh, r⟩⟩

end Go.Proofs.YtggfifchkecnjaaGreatDoor
