/- The draws of a tree, a row and a name: l10DrawName, l10DrawBoth, DrawPopTo. No condition. -/
import Derived.Test.YthdfhckmgneioaaGreatDrawRow2
namespace Go.Proofs.YthdfhckmgneioaaGreat
open Go.RowKit
set_option maxRecDepth 100000
set_option linter.unusedVariables false

def tenNames : List ByteArray := [⟨#[112]⟩, ⟨#[108, 105]⟩, ⟨#[98]⟩, ⟨#[100, 105, 118]⟩, ⟨#[98, 117, 116, 116, 111, 110]⟩, ⟨#[104, 116, 109, 108]⟩, ⟨#[120]⟩, ⟨#[100, 100]⟩, ⟨#[98, 111, 100, 121]⟩, ⟨#[105]⟩, ⟨#[]⟩]
theorem tenNames_small : ∀ t ∈ tenNames, t.size ≤ 100 := by decide
set_option maxRecDepth 100000 in
theorem drawName10_any {w0 : World} {g : Nat} {v : Value} {xs : List Int} {w : World} (h : Cur w0 g v xs w) (hb : ∀ x ∈ xs, 0 ≤ x ∧ x ≤ 255) :
    Calls Tryz.prog 31 #[.pointer (some ⟨g, 0, none⟩)] w fun e w' => ∃ t, e = .returned (.string t) ∧ t.size ≤ 100 ∧ Cur w0 g v xs w' ∧ w.grownBy w' (some g) := by
  go_enter Tryz.func31, Tryz.ntmps31
  go_wp2_with fail
  go_at_call 55
  refine (pickS_any h hb tenNames (by decide) (by decide) _ rfl 11 rfl).mono ?_
  rintro e w1 ⟨t, rfl, ht, k1, g1⟩
  have hs := tenNames_small t ht
  go_wp2
  go_ret
  exact ⟨_, rfl, hs, k1, g1⟩

theorem three_res {f : Func} {p q u : Tmp} (hf : f.results = #[.cell p 26, .tmp q, .tmp u]) {tmps : Array Value} {w : World} {g : Nat} {a : Option Addr} {n c : Nat} (h4 : tmps.getD p undef = .pointer (some ⟨g, 0, none⟩)) (hb : w.heap[g]? = some (.cells #[.slice a n c] 26 (0, 0))) :
    (results f tmps).run Tryz.prog w = .ok (.tuple #[.agg #[.slice a n c], tmps.getD q undef, tmps.getD u undef]) w := by
  have h4' : tmps[p]?.getD undef = .pointer (some ⟨g, 0, none⟩) := by simpa using h4
  simp [results, hf, h4', asAddr, run_loadVar_row w g 26 26 #[.slice a n c] (0, 0) _ hb Tryz.underlying26 rfl rfl]

/-- What is drawn. -/
structure Both (w w' : World) (nv rv : Value) (ns : List PNode) (row : List Int) (nm : ByteArray) : Prop where
  own : OwnN w.heap.size w' nv ns
  rw : Own w.heap.size 3 .i64 w' rv row
  fit : ∀ n ∈ ns, NodeFit n
  len : ns.length ≤ 100
  rl : row.length ≤ 100
  par0 : parOf ns 0 = -1
  nm : nm.size ≤ 100
  bel : Below w.heap.size w w'

theorem ownN_low {B : Nat} {w w' : World} {v : Value} {ns : List PNode} {row : Option Nat} (h : OwnN B w v ns) (hg : w.grownBy w' row) (hr : ∀ k, row = some k → k < B) : OwnN B w' v ns := by
  have : OwnR B w v ns w.heap.size := ownN_high h (Nat.le_refl _)
  exact (this.low hg hr).toN

set_option maxHeartbeats 2000000 in
set_option maxRecDepth 100000 in
theorem drawBoth_any {v : Value} {xs : List Int} {w : World} (h : Sl .u8 w v xs) (hb : ∀ x ∈ xs, 0 ≤ x ∧ x ≤ 255) (hn : xs.length ≤ 1099511627776) :
    Calls Tryz.prog 18 #[v] w fun e w' => ∃ nv rv ns row nm, e = .returned (.tuple #[.agg #[nv], rv, .string nm]) ∧ Both w w' nv rv ns row nm := by
  have HB := (show Hid (∀ x ∈ xs, 0 ≤ x ∧ x ≤ 255) from hb)
  have HS := (show Hid (Sl .u8 w v xs) from h)
  obtain ⟨a, ca, rfl, _, _, _, ha⟩ := h
  clear hb ha
  obtain ⟨wA, hwA⟩ : ∃ wA, wA = w.alloc (.cells #[.slice none 0 0] 26) := ⟨_, rfl⟩
  have bA : Below w.heap.size w wA := by rw [hwA]; exact (Below.refl _ _).alloc (Nat.le_refl _) _
  have gA : wA.heap[w.heap.size]? = some (.cells #[.slice none 0 0] 26 (0, 0)) := by rw [hwA]; exact World.alloc_heap_new _ _
  have hsA : w.heap.size < wA.heap.size := blk_lt gA
  have HGA := (show Hid _ from gA)
  clear gA
  go_enter Tryz.func18, Tryz.ntmps18
  go_wp2_with fail
  go_at_call 29
  rw [← hwA]
  clear hwA
  refine Calls.mono (new_any (HS.out.below bA) HB.out hn) ?_
  rintro e w1 ⟨rfl, k1, b1⟩
  obtain ⟨g, hg⟩ : ∃ g, g = wA.heap.size := ⟨_, rfl⟩
  rw [← hg] at k1 hsA ⊢
  have hgl := k1.lt
  have HG1 := (show Hid (w1.heap[w.heap.size]? = some (.cells #[.slice none 0 0] 26 (0, 0))) from (b1.block _ (blk_lt HGA.out)).trans HGA.out)
  have HB1 := (show Hid (Below w.heap.size w w1) from bA.trans (b1.mono bA.size))
  have HK1 := (show Hid (Cur wA g (.slice a xs.length ca) xs w1) from k1)
  clear k1 b1 hg HGA bA HS
  go_wp2_with fail
  go_at_call 30
  refine Calls.mono (sdrawRow_any HK1.out HB.out) ?_
  rintro e w2 ⟨nv, rv, ns, row, rfl, own2, rw2, hfit, hlen, hrl, hpar, k2, g2⟩
  obtain ⟨na, nn, nc, rfl⟩ : ∃ a n c, nv = .slice a n c := by obtain ⟨_, _, h, _⟩ := own2; exact own_slice h
  obtain ⟨ra, rn, rc, rfl⟩ := own_slice rw2
  obtain ⟨w3, hw3⟩ : ∃ w3, w3 = w2.alloc (.cells #[.slice na nn nc] 26) := ⟨_, rfl⟩
  have b3 : Below w2.heap.size w2 w3 := by rw [hw3]; exact (Below.refl _ _).alloc (Nat.le_refl _) _
  have g3 : w3.heap[w2.heap.size]? = some (.cells #[.slice na nn nc] 26 (0, 0)) := by rw [hw3]; exact World.alloc_heap_new _ _
  have hN3 : w3.heap[w.heap.size]? = some (.cells #[.slice none 0 0] 26 (0, 0)) := (b3.block _ (Nat.lt_of_lt_of_le (blk_lt HG1.out) g2.size)).trans ((g2.block _ (blk_lt HG1.out) (fun e => by simp only [Option.some.injEq] at e; omega)).trans HG1.out)
  have y3 : w3.cell? ⟨w2.heap.size, 0, none⟩ = some (.slice na nn nc) := by simp only [World.cell?, g3]; rfl
  have hs1 := HB1.out.size
  have hs2 := g2.size
  have hgs : g ≠ w2.heap.size := by omega
  have HF := (show Hid (∀ n ∈ ns, NodeFit n) from hfit)
  have HPAR := (show Hid (parOf ns 0 = -1) from hpar)
  have HO3 := (show Hid (OwnN w1.heap.size w3 (.slice na nn nc) ns) from own2.below b3)
  have HR3 := (show Hid (Own w1.heap.size 3 .i64 w3 (.slice ra rn rc) row) from rw2.below b3)
  have HK3 := (show Hid (Cur wA g (.slice a xs.length ca) xs w3) from k2.below b3)
  have HB3 := (show Hid (Below w.heap.size w w3) from (HB1.out.grown g2 HB1.out.size (fun r e => by cases e; omega)).trans (b3.mono (by have := g2.size; omega)))
  have HG3 := (show Hid _ from g3)
  have HN3 := (show Hid _ from hN3)
  clear own2 rw2 hfit hpar k2 g2 b3 g3 hN3 HG1 HB1 HK1
  have bd : Below w3.heap.size w3 w3.drew := below_drewN 1
  go_wp2
  rw [← hw3]
  clear hw3
  go_region_with (first
    | (go_at_call 31; refine Calls.mono (drawName10_any (HK3.out.below bd) HB.out) ?_; rintro e w4 ⟨nm, rfl, hnm, k4, g4⟩
       have e4 := (g4.block _ (blk_lt HG3.out) (fun e => by simp only [Option.some.injEq] at e; exact hgs e.symm)).trans HG3.out
       have y4 : w4.cell? ⟨w2.heap.size, 0, none⟩ = some (.slice na nn nc) := by simp only [World.cell?, e4]; rfl
       have e5 := (g4.block _ (blk_lt HN3.out) (fun e => by simp only [Option.some.injEq] at e; omega)).trans HN3.out
       have y5 : w4.cell? ⟨w.heap.size, 0, none⟩ = some (.slice none 0 0) := by simp only [World.cell?, e5]; rfl
       have z5 : w4.frozen? ⟨w.heap.size, 0, none⟩ = false := by simp [World.frozen?, e5]
       have H5 := (show Hid _ from e5)
       have HG4 := (show Hid (w3.drew.grownBy w4 (some g)) from g4)
       clear e4 e5 g4 k4))
  all_goals
    go_wp2
    have gs := setCell_at (k := 0) (u := .slice na nn nc) H5.out
    have gr := grown_setCell w4 w.heap.size 0 (.slice na nn nc)
    have o4 := ownN_low (HO3.out.below bd) HG4.out (fun k e => by cases e; exact hgl)
    have r4 := own_low (HR3.out.below bd) HG4.out (fun k e => by cases e; exact hgl)
    have b4 : Below w.heap.size w w4 := (HB3.out.trans (bd.mono HB3.out.size)).grown HG4.out (Nat.le_trans HB3.out.size bd.size) (fun r e => by cases e; omega)
    refine bodyPost_ret (three_res (f := Tryz.f18) (p := 2) (q := 3) (u := 4) rfl rfl gs) rfl ?_
    refine ⟨_, _, ns, row, nm, rfl, ⟨(o4.kept gr (fun k e => by cases e; exact ⟨_, _, _, H5.out, by decide, by decide, by decide⟩)).base hs1, (show Own _ 3 .i64 _ _ row from kept_of_type r4 gr (fun k e => by cases e; exact ⟨_, _, _, H5.out, by decide⟩)).base hs1, HF.out, hlen, hrl, HPAR.out, hnm, b4.setCell (p := ⟨w.heap.size, 0, none⟩) (Nat.le_refl _) _⟩⟩
end Go.Proofs.YthdfhckmgneioaaGreat
