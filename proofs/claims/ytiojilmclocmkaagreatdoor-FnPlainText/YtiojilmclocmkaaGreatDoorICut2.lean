/- The program's cutter: its place, and the states that plain text passes. -/
import Derived.Test.YtiojilmclocmkaaGreatDoorICut1
import Derived.Test.YtiojilmclocmkaaGreatDoorB13
import Derived.Test.YtiojilmclocmkaaGreatDoorB14
import Derived.Deep.RegionHeld
import Derived.Test.YtiojilmclocmkaaGreatDoorB11
namespace Go.Proofs.YtiojilmclocmkaaGreatDoor
open Go.RowKit
set_option maxRecDepth 100000
set_option linter.unusedVariables false

/-- A cutter: the page, the block of its place, the name of the element that is open. -/
def cutVal (v : Value) (g : Nat) (s : ByteArray) : Value := .agg #[v, .pointer (some ⟨g, 0, none⟩), .string s]

/-- A slice is not in a block. -/
def apart (v : Value) (g : Nat) : Prop := ∀ a n c, v = .slice (some a) n c → a.block ≠ g
theorem Sl.grown {K : IntKind} {w w' : World} {v : Value} {xs : List Int} {g : Nat} (h : Sl K w v xs) (ha : apart v g) (hg : w.grownBy w' (some g)) : Sl K w' v xs := by
  obtain ⟨a, cap, e, hl, hm, hnn, hc⟩ := h
  refine ⟨a, cap, e, hl, hm, hnn, fun k hk => ?_⟩
  obtain ⟨b, off, ea, c⟩ := hc k hk
  refine ⟨b, off, ea, ?_⟩
  have hne : b ≠ g := ha ⟨b, off, none⟩ _ _ (by rw [e, ea])
  have hlt : b < w.heap.size := by
    by_cases hlt : b < w.heap.size
    · exact hlt
    · simp [World.cell?, Array.getElem?_eq_none (Nat.le_of_not_lt hlt)] at c
  have hb := hg.block b hlt (fun e => by injection e with e; exact hne e)
  rw [← c]
  simp only [World.cell?, hb]

/-- The page lies in w0; the place is i, in block g; nothing else of w0 is turned. -/
def Cut (w0 : World) (g : Nat) (v : Value) (xs : List Int) (i : Nat) (w : World) : Prop :=
  apart v g ∧ Sl .i64 w0 v xs ∧ w0.grownBy w (some g) ∧ (xs.length ≤ 3000 ∧ i ≤ xs.length) ∧ w.heap[g]? = some (.cells #[.int .i64 i] 3 (0, 0))
theorem Cut.lt {w0 : World} {g : Nat} {v : Value} {xs : List Int} {i : Nat} {w : World} (h : Cut w0 g v xs i w) : g < w.heap.size := lt_of_block h.2.2.2.2
theorem Cut.below {w0 : World} {g : Nat} {v : Value} {xs : List Int} {i : Nat} {w w' : World} (h : Cut w0 g v xs i w) (hb : Below w.heap.size w w') : Cut w0 g v xs i w' := by
  have hlt := h.lt
  obtain ⟨h1, h2, h3, h4, h5⟩ := h
  exact ⟨h1, h2, grown_below h3 hb, h4, (hb.block g hlt).trans h5⟩
theorem Cut.sl {w0 : World} {g : Nat} {v : Value} {xs : List Int} {i : Nat} {w : World} (h : Cut w0 g v xs i w) : Sl .i64 w v xs := h.2.1.grown h.1 h.2.2.1
theorem Cut.cell {w0 : World} {g : Nat} {v : Value} {xs : List Int} {i : Nat} {w : World} (h : Cut w0 g v xs i w) : w.cell? ⟨g, 0, none⟩ = some (.int .i64 i) ∧ w.frozen? ⟨g, 0, none⟩ = false := by
  have hh := h.2.2.2.2
  constructor
  · simp only [World.cell?, hh]; rfl
  · simp only [World.frozen?, hh]; rfl
theorem set_grown (w : World) (b k : Nat) (u : Value) : w.grownBy (w.setCell ⟨b, k, none⟩ u) (some b) :=
  ⟨rfl, rfl, rfl, by simp [World.setCell], fun j _ hj => Below.heap_setCell _ _ _ j (fun e => hj (by rw [e]))⟩
theorem Cut.set {w0 : World} {g : Nat} {v : Value} {xs : List Int} {i : Nat} {w : World} (h : Cut w0 g v xs i w) (j : Nat) (hj : j ≤ xs.length) : Cut w0 g v xs j (w.setCell ⟨g, 0, none⟩ (.int .i64 j)) ∧ w.grownBy (w.setCell ⟨g, 0, none⟩ (.int .i64 j)) (some g) := by
  obtain ⟨h1, h2, h3, h4, h5⟩ := h
  refine ⟨⟨h1, h2, grown_trans h3 (set_grown w g 0 _), ⟨h4.1, hj⟩, ?_⟩, set_grown w g 0 _⟩
  have := setCell_at (k := 0) (u := .int .i64 j) h5
  simpa using this

theorem wrap_fit {x : Int} (h0 : -9223372036854775808 ≤ x) (h1 : x ≤ 9223372036854775807) : IntKind.i64.wrap x = x := by
  simp [IntKind.wrap, IntKind.bits, IntKind.signed]; omega

theorem below_grown {w w' : World} (g : Nat) (h : Below w.heap.size w w') : w.grownBy w' (some g) := ⟨h.os, h.tape, h.output, h.size, fun j hj _ => h.block j hj⟩

/-- The cutter as it is laid at a method's entry. -/
theorem cut_entry {w0 : World} {g : Nat} {v : Value} {xs : List Int} {i : Nat} {w : World} (h : Cut w0 g v xs i w) (s : ByteArray) :
    ∃ w1, w1 = w.alloc (.cells #[v, .pointer (some ⟨g, 0, none⟩), .string s] 43) ∧ w1.cell? ⟨w.heap.size, 0, none⟩ = some v ∧ w1.cell? ⟨w.heap.size, 1, none⟩ = some (.pointer (some ⟨g, 0, none⟩)) ∧ w1.cell? ⟨w.heap.size, 2, none⟩ = some (.string s) ∧
      w1.cell? ⟨g, 0, none⟩ = some (.int .i64 i) ∧ w1.frozen? ⟨g, 0, none⟩ = false ∧ Cut w0 g v xs i w1 ∧ Below w.heap.size w w1 := by
  refine ⟨_, rfl, ?_⟩
  have hal : Below w.heap.size w (w.alloc (.cells #[v, .pointer (some ⟨g, 0, none⟩), .string s] 43)) := (Below.refl _ _).alloc (Nat.le_refl _) _
  have hb := heap_alloc_new w (.cells #[v, .pointer (some ⟨g, 0, none⟩), .string s] 43)
  have hc := h.below hal
  refine ⟨?_, ?_, ?_, hc.cell.1, hc.cell.2, hc, hal⟩
  all_goals simp only [World.cell?, hb]; rfl

set_option maxHeartbeats 1000000 in
theorem ahead_any {w0 : World} {g : Nat} {v : Value} {xs : List Int} {i : Nat} {w : World} (h : Cut w0 g v xs i w) (s : ByteArray) (k : Nat) (hk : k ≤ 5000) :
    Calls Tryz.prog 70 #[cutVal v g s, .int .i64 k] w fun e w' => e = .returned (.int .i64 (atL xs (i + k))) ∧ Below w.heap.size w w' := by
  have hi := h.2.2.2.1
  obtain ⟨w1, hw1, c0, c1, c2, cg, fg, hcut, bel⟩ := cut_entry h s
  obtain ⟨a, ca, rfl, _, _, _, ha⟩ := hcut.sl
  have hwr : IntKind.i64.wrap ((i : Int) + (k : Int)) = (i : Int) + (k : Int) := wrap_fit (by omega) (by omega)
  have htn : ((i : Int) + (k : Int)).toNat = i + k := by omega
  have BEL := (show Hid _ from bel)
  clear bel hcut h c2 fg
  unfold cutVal
  by_cases hin : i + k < xs.length
  · obtain ⟨b1, o1, rfl, cx⟩ := ha (i + k) hin
    rw [atL_in hin]
    clear ha
    go_enter Tryz.func70, Tryz.ntmps70
    go_wp2
    rw [← hw1]
    clear hw1
    go_region_held (fun w' => w'.cell? ⟨w.heap.size, 0, none⟩ = some (.slice (some ⟨b1, o1, none⟩) xs.length ca) ∧ w'.cell? ⟨w.heap.size, 1, none⟩ = some (.pointer (some ⟨g, 0, none⟩)) ∧ w'.cell? ⟨g, 0, none⟩ = some (.int .i64 i) ∧ w'.cell? ⟨b1, o1 + (i + k), none⟩ = some (.int .i64 (xs.getD (i + k) 0)) ∧ Below w.heap.size w w') (exact ⟨c0, c1, cg, cx, BEL.out.trans (below_drewN 1)⟩) (fail)
    go_wp2
    go_region_held (fun w' => w'.cell? ⟨w.heap.size, 0, none⟩ = some (.slice (some ⟨b1, o1, none⟩) xs.length ca) ∧ w'.cell? ⟨w.heap.size, 1, none⟩ = some (.pointer (some ⟨g, 0, none⟩)) ∧ w'.cell? ⟨g, 0, none⟩ = some (.int .i64 i) ∧ w'.cell? ⟨b1, o1 + (i + k), none⟩ = some (.int .i64 (xs.getD (i + k) 0)) ∧ Below w.heap.size w w') (exact ⟨c0, c1, cg, cx, BEL.out.trans (below_drewN 2)⟩) (fail)
    go_wp2
    go_ret
    exact ⟨by simp [List.getD_eq_getElem?_getD, hin], BEL.out.trans (below_drewN 2)⟩
  · rw [atL_out (by omega)]
    clear ha
    go_enter Tryz.func70, Tryz.ntmps70
    go_wp2
    rw [← hw1]
    clear hw1
    go_region_held (fun w' => w'.cell? ⟨w.heap.size, 0, none⟩ = some (.slice a xs.length ca) ∧ w'.cell? ⟨w.heap.size, 1, none⟩ = some (.pointer (some ⟨g, 0, none⟩)) ∧ w'.cell? ⟨g, 0, none⟩ = some (.int .i64 i) ∧ Below w.heap.size w w') (exact ⟨c0, c1, cg, BEL.out.trans (below_drewN 1)⟩) (fail)
    go_wp2
    go_ret
    exact ⟨rfl, BEL.out.trans (below_drewN 1)⟩

theorem move_any {w0 : World} {g : Nat} {v : Value} {xs : List Int} {i : Nat} {w : World} (h : Cut w0 g v xs i w) (s : ByteArray) (k : Nat) (hk : i + k ≤ xs.length) :
    Calls Tryz.prog 72 #[cutVal v g s, .int .i64 k] w fun e w' => e = .returned (.tuple #[]) ∧ Cut w0 g v xs (i + k) w' ∧ w.grownBy w' (some g) := by
  have hi := h.2.2.2.1
  obtain ⟨w1, hw1, c0, c1, c2, cg, fg, hcut, bel⟩ := cut_entry h s
  obtain ⟨k2, g2⟩ := hcut.set (i + k) hk
  have hwr : IntKind.i64.wrap ((i : Int) + (k : Int)) = (i : Int) + (k : Int) := wrap_fit (by omega) (by omega)
  have e1 : ((i + k : Nat) : Int) = (i : Int) + (k : Int) := by omega
  rw [e1] at k2 g2
  have K2 : Hid (Cut w0 g v xs (i + k) (w1.setCell ⟨g, 0, none⟩ (.int .i64 ((i : Int) + (k : Int))))) := k2
  have G2 : Hid (w.grownBy (w1.setCell ⟨g, 0, none⟩ (.int .i64 ((i : Int) + (k : Int)))) (some g)) := grown_trans (below_grown g bel) g2
  clear k2 g2 hcut h c2 bel e1
  subst hw1
  unfold cutVal
  go_enter Tryz.func72, Tryz.ntmps72
  go_wp2
  go_end0
  exact ⟨rfl, K2.out, G2.out⟩

/-- A token and a number as results. -/
theorem tok_res {f : Func} {p q : Tmp} (hf : f.results = #[.cell p 28, .tmp q]) {tmps : Array Value} {w : World} {b : Nat} {k : Int} {nm : ByteArray} {va : Value} {tx : ByteArray} {sf : Bool} {u : Value} (h4 : tmps.getD p undef = .pointer (some ⟨b, 0, none⟩)) (h5 : tmps.getD q undef = u) (hb : w.heap[b]? = some (.cells #[.int .i64 k, .string nm, va, .string tx, .bool sf] 28 (0, 0))) :
    (results f tmps).run Tryz.prog w = .ok (.tuple #[tokVal k nm va tx sf, u]) w := by
  rw [results_cell_tmp (p := p) (u := q) (ty := 28) hf, h4, h5]
  simp [asAddr, run_loadVar_row w b 28 28 #[.int .i64 k, .string nm, va, .string tx, .bool sf] (0, 0) _ hb Tryz.underlying28 rfl rfl, Result.andThen, tokVal]

theorem plain_any (w : World) (v : Value) (g : Nat) (s : ByteArray) :
    Calls Tryz.prog 44 #[cutVal v g s] w fun e w' => e = .returned (.tuple #[tokVal 0 ⟨#[]⟩ (.slice none 0 0) ⟨#[]⟩ false, .int .i64 6]) ∧ Below w.heap.size w w' := by
  have hb : ((w.alloc (.cells #[v, .pointer (some ⟨g, 0, none⟩), .string s] 43)).alloc (.cells #[.int .i64 0, .string ⟨#[]⟩, .slice none 0 0, .string ⟨#[]⟩, .bool false] 28)).heap[w.heap.size + 1]? = some (.cells #[.int .i64 0, .string ⟨#[]⟩, .slice none 0 0, .string ⟨#[]⟩, .bool false] 28 (0, 0)) := by
    have := heap_alloc_new (w.alloc (.cells #[v, .pointer (some ⟨g, 0, none⟩), .string s] 43)) (.cells #[.int .i64 0, .string ⟨#[]⟩, .slice none 0 0, .string ⟨#[]⟩, .bool false] 28)
    simpa using this
  unfold cutVal
  go_enter Tryz.func44, Tryz.ntmps44
  go_wp2
  (try simp only [Exit.inBlock, Exit.then])
  refine bodyPost_ret (tok_res (f := Tryz.f44) (p := 2) (q := 3) rfl rfl rfl hb) rfl ?_
  exact ⟨rfl, ((Below.refl _ _).alloc (Nat.le_refl _) _).alloc (by simp) _⟩

/-- A token that is stored in the cells of a block. -/
def tokSet (w : World) (b : Nat) (k : Int) (nm : ByteArray) (va : Value) (tx : ByteArray) (sf : Bool) : World :=
  ((((w.setCell ⟨b, 0, none⟩ (.int .i64 k)).setCell ⟨b, 1, none⟩ (.string nm)).setCell ⟨b, 2, none⟩ va).setCell ⟨b, 3, none⟩ (.string tx)).setCell ⟨b, 4, none⟩ (.bool sf)
theorem tokSet_block {w : World} {b : Nat} {t : TypeId} {x0 x1 x2 x3 x4 : Value} (h : w.heap[b]? = some (.cells #[x0, x1, x2, x3, x4] t (0, 0))) (k : Int) (nm : ByteArray) (va : Value) (tx : ByteArray) (sf : Bool) :
    (tokSet w b k nm va tx sf).heap[b]? = some (.cells #[.int .i64 k, .string nm, va, .string tx, .bool sf] t (0, 0)) :=
  setCell_at (k := 4) (setCell_at (k := 3) (setCell_at (k := 2) (setCell_at (k := 1) (setCell_at (k := 0) h))))
theorem tokSet_other {w : World} {b j : Nat} (h : j ≠ b) (k : Int) (nm : ByteArray) (va : Value) (tx : ByteArray) (sf : Bool) : (tokSet w b k nm va tx sf).heap[j]? = w.heap[j]? := by
  unfold tokSet
  rw [Below.heap_setCell _ _ _ j h, Below.heap_setCell _ _ _ j h, Below.heap_setCell _ _ _ j h, Below.heap_setCell _ _ _ j h, Below.heap_setCell _ _ _ j h]
theorem tokSet_below {B : Nat} {w w' : World} (h : Below B w w') {b : Nat} (hb : B ≤ b) (k : Int) (nm : ByteArray) (va : Value) (tx : ByteArray) (sf : Bool) : Below B w (tokSet w' b k nm va tx sf) :=
  ((((h.setCell hb _).setCell hb _).setCell hb _).setCell hb _).setCell hb _
theorem tokSet_size (w : World) (b : Nat) (k : Int) (nm : ByteArray) (va : Value) (tx : ByteArray) (sf : Bool) : (tokSet w b k nm va tx sf).heap.size = w.heap.size := by simp [tokSet, World.setCell]
theorem tokSet_grown {w w' : World} {g : Nat} (h : w.grownBy w' (some g)) {b : Nat} (hb : w.heap.size ≤ b) (k : Int) (nm : ByteArray) (va : Value) (tx : ByteArray) (sf : Bool) : w.grownBy (tokSet w' b k nm va tx sf) (some g) := by
  have hr : ∀ j, some b = some j → w.heap.size ≤ j := fun j e => by cases e; exact hb
  unfold tokSet
  exact grown_past (grown_past (grown_past (grown_past (grown_past h (set_grown ..) hr) (set_grown ..) hr) (set_grown ..) hr) (set_grown ..) hr) (set_grown ..) hr
theorem tokSet_cut {w0 : World} {g : Nat} {v : Value} {xs : List Int} {i : Nat} {w : World} (h : Cut w0 g v xs i w) {b : Nat} (hb : w0.heap.size ≤ b) (hg : g ≠ b) (k : Int) (nm : ByteArray) (va : Value) (tx : ByteArray) (sf : Bool) : Cut w0 g v xs i (tokSet w b k nm va tx sf) := by
  obtain ⟨h1, h2, h3, h4, h5⟩ := h
  exact ⟨h1, h2, tokSet_grown h3 hb .., h4, (tokSet_other hg ..).trans h5⟩
/-- The cells of a block of a token. -/
theorem tok_cells {w : World} {b : Nat} {t : TypeId} {x0 x1 x2 x3 x4 : Value} (h : w.heap[b]? = some (.cells #[x0, x1, x2, x3, x4] t (0, 0))) :
    (w.cell? ⟨b, 0, none⟩ = some x0 ∧ w.cell? ⟨b, 1, none⟩ = some x1 ∧ w.cell? ⟨b, 2, none⟩ = some x2 ∧ w.cell? ⟨b, 3, none⟩ = some x3 ∧ w.cell? ⟨b, 4, none⟩ = some x4) ∧
      (w.frozen? ⟨b, 0, none⟩ = false ∧ w.frozen? ⟨b, 1, none⟩ = false ∧ w.frozen? ⟨b, 2, none⟩ = false ∧ w.frozen? ⟨b, 3, none⟩ = false ∧ w.frozen? ⟨b, 4, none⟩ = false) := by
  refine ⟨⟨?_, ?_, ?_, ?_, ?_⟩, ?_, ?_, ?_, ?_, ?_⟩
  all_goals first | (simp only [World.cell?, h]; rfl) | (simp only [World.frozen?, h]; rfl)

theorem put_str (x : Int) : bs (strOf (put x)) = put x := bs_strOf (put_byte x)

set_option maxHeartbeats 1000000 in
theorem char_any {w0 : World} {g : Nat} {v : Value} {xs : List Int} {i : Nat} {w : World} (h : Cut w0 g v xs i w) (s : ByteArray) (hi : i < xs.length) :
    Calls Tryz.prog 46 #[cutVal v g s] w fun e w' => e = .returned (.tuple #[tokVal 2 ⟨#[]⟩ (.slice none 0 0) (strOf (put (xs.getD i 0))) false, .int .i64 0]) ∧ Cut w0 g v xs (i + 1) w' ∧ w.grownBy w' (some g) := by
  have hlt := h.lt
  have hle := h.2.2.1.size
  obtain ⟨wx, hwx⟩ : ∃ wx, wx = (w.alloc (.cells #[v, .pointer (some ⟨g, 0, none⟩), .string s] 43)).alloc (.cells #[.int .i64 0, .string ⟨#[]⟩, .slice none 0 0, .string ⟨#[]⟩, .bool false] 28) := ⟨_, rfl⟩
  have bx : Below w.heap.size w wx := by rw [hwx]; exact ((Below.refl _ _).alloc (Nat.le_refl _) _).alloc (by simp) _
  have hc : wx.heap[w.heap.size]? = some (.cells #[v, .pointer (some ⟨g, 0, none⟩), .string s] 43) := by
    rw [hwx]; exact (heap_alloc_old _ _ (by simp)).trans (heap_alloc_new _ _)
  have hr : wx.heap[w.heap.size + 1]? = some (.cells #[.int .i64 0, .string ⟨#[]⟩, .slice none 0 0, .string ⟨#[]⟩, .bool false] 28) := by
    rw [hwx]
    have := heap_alloc_new (w.alloc (.cells #[v, .pointer (some ⟨g, 0, none⟩), .string s] 43)) (.cells #[.int .i64 0, .string ⟨#[]⟩, .slice none 0 0, .string ⟨#[]⟩, .bool false] 28)
    simpa using this
  have cx := h.below bx
  have HC := (show Hid _ from hc)
  have HR := (show Hid _ from hr)
  have hal := atL_in hi
  obtain ⟨x, hx⟩ : ∃ x, x = xs.getD i 0 := ⟨_, rfl⟩
  rw [← hx] at hal ⊢
  clear hx
  clear hc hr h
  have e0 : ((0 : Nat) : Int) = 0 := rfl
  have e1 : ((1 : Nat) : Int) = 1 := rfl
  have ca := ahead_any cx s 0 (by omega)
  rw [Nat.add_zero, hal, e0] at ca
  unfold cutVal at ca ⊢
  clear e0
  go_enter Tryz.func46, Tryz.ntmps46
  go_wp2_with fail
  rw [← hwx]
  go_at_call 70
  refine ca.mono ?_
  rintro e w2 ⟨rfl, b2⟩
  have k2 := cx.below b2
  have HC2 := (show Hid _ from (b2.block w.heap.size (lt_of_block HC.out)).trans HC.out)
  have HR2 := (show Hid _ from (b2.block (w.heap.size + 1) (lt_of_block HR.out)).trans HR.out)
  replace b2 := bx.trans (b2.mono bx.size)
  clear ca cx HC HR hwx bx
  go_wp2_with fail
  go_at_call 73
  refine (iput_any _ _).mono ?_
  rintro e w3 ⟨u, rfl, o3, b3⟩
  have hsz2 := b2.size
  replace o3 := o3.base (B' := w.heap.size) (by omega)
  have k3 := k2.below b3
  have HC3 := (show Hid _ from (b3.block w.heap.size (lt_of_block HC2.out)).trans HC2.out)
  have HR3 := (show Hid _ from (b3.block (w.heap.size + 1) (lt_of_block HR2.out)).trans HR2.out)
  replace b3 := b2.trans (b3.mono b2.size)
  clear k2 HC2 HR2 b2 hsz2
  have hx := HC3.out
  have c0 : w3.cell? ⟨w.heap.size, 0, none⟩ = some v := by simp only [World.cell?, hx]; rfl
  have c1 : w3.cell? ⟨w.heap.size, 1, none⟩ = some (.pointer (some ⟨g, 0, none⟩)) := by simp only [World.cell?, hx]; rfl
  have c2 : w3.cell? ⟨w.heap.size, 2, none⟩ = some (.string s) := by simp only [World.cell?, hx]; rfl
  clear hx
  have cm := move_any k3 s 1 (by omega)
  rw [e1] at cm
  unfold cutVal at cm
  go_wp2_with fail
  go_at_call 72
  refine cm.mono ?_
  rintro e w4 ⟨rfl, k4, g4⟩
  have o4 := own_past o3 g4 hlt
  have hconv := conv_sl o4.sl
  obtain ⟨t, ht⟩ : ∃ t, t = strOf (put x) := ⟨_, rfl⟩
  rw [← ht] at hconv
  have HT := (show Hid _ from ht)
  clear ht
  have hr4 := (g4.block (w.heap.size + 1) (lt_of_block HR3.out) (fun e => by injection e with e; omega)).trans HR3.out
  have K4 := (show Hid (w.grownBy w4 (some g)) from grown_trans (below_grown g b3) g4)
  obtain ⟨⟨r0, r1, r2, r3, r4⟩, q0, q1, q2, q3, q4⟩ := tok_cells hr4
  have res := tokSet_block hr4 2 ⟨#[]⟩ (.slice none 0 0) t false
  have cut : Cut w0 g v xs (i + 1) (tokSet w4 (w.heap.size + 1) 2 ⟨#[]⟩ (.slice none 0 0) t false) := tokSet_cut k4 (by omega) (by omega) ..
  have gro : w.grownBy (tokSet w4 (w.heap.size + 1) 2 ⟨#[]⟩ (.slice none 0 0) t false) (some g) := tokSet_grown K4.out (by omega) ..
  unfold tokSet at res cut gro
  have RES := (show Hid _ from res)
  have CUT := (show Hid _ from cut)
  have GRO := (show Hid _ from gro)
  clear res cut gro
  clear hr4 k4 g4 K4 o3 o4 HR3 HC3 k3 b3 cm c0 c1 c2
  go_wp2
  (try simp only [Exit.inBlock, Exit.then])
  refine bodyPost_ret (tok_res (f := Tryz.f46) (p := 2) (q := 3) rfl (k := 2) (nm := ⟨#[]⟩) (va := .slice none 0 0) (tx := t) (sf := false) rfl rfl RES.out) rfl ?_
  exact ⟨by rw [HT.out]; rfl, CUT.out, GRO.out⟩
end Go.Proofs.YtiojilmclocmkaaGreatDoor
