import Derived.Test.YthdfhckmgneioaaGreatB19
import Derived.Test.YthdfhckmgneioaaGreatB16
import Derived.Test.YthdfhckmgneioaaGreatB14
import Derived.Test.YthdfhckmgneioaaGreatB13
/- The draws of a tree, a row and a name: l10DrawName, l10DrawBoth, DrawPopTo. No condition. -/
namespace Go.Proofs.YthdfhckmgneioaaGreat
open Go.RowKit
set_option maxRecDepth 100000
set_option linter.unusedVariables false

def tenNames : List ByteArray := [⟨#[112]⟩, ⟨#[108, 105]⟩, ⟨#[98]⟩, ⟨#[100, 105, 118]⟩, ⟨#[98, 117, 116, 116, 111, 110]⟩, ⟨#[104, 116, 109, 108]⟩, ⟨#[120]⟩, ⟨#[100, 100]⟩, ⟨#[98, 111, 100, 121]⟩, ⟨#[105]⟩, ⟨#[]⟩]
theorem tenNames_small : ∀ t ∈ tenNames, t.size ≤ 100 := by decide
set_option maxRecDepth 100000 in
theorem drawName10_any {w0 : World} {g : Nat} {v : Value} {xs : List Int} {w : World} (h : Cur w0 g v xs w) (hb : ∀ x ∈ xs, 0 ≤ x ∧ x ≤ 255) :
    Calls Tryz.prog 31 #[.pointer (some ⟨g, 0, none⟩)] w fun e w' => ∃ t, e = .returned (.string t) ∧ t.size ≤ 100 ∧ Cur w0 g v xs w' ∧ w.grownBy w' (some g) := by
  go_enter Tryz.func31, Tryz.ntmps31
  go_wp2_with fail
  go_at_call 55
  refine (pickS_any h hb tenNames (by decide) (by decide) _ rfl 11 rfl).mono ?_
  rintro e w1 ⟨t, rfl, ht, k1, g1⟩
  have hs := tenNames_small t ht
  go_wp2
  go_ret
  exact ⟨_, rfl, hs, k1, g1⟩

theorem three_res {f : Func} {p q u : Tmp} (hf : f.results = #[.cell p 26, .tmp q, .tmp u]) {tmps : Array Value} {w : World} {g : Nat} {a : Option Addr} {n c : Nat} (h4 : tmps.getD p undef = .pointer (some ⟨g, 0, none⟩)) (hb : w.heap[g]? = some (.cells #[.slice a n c] 26 (0, 0))) :
    (results f tmps).run Tryz.prog w = .ok (.tuple #[.agg #[.slice a n c], tmps.getD q undef, tmps.getD u undef]) w := by
  have h4' : tmps[p]?.getD undef = .pointer (some ⟨g, 0, none⟩) := by simpa using h4
  simp [results, hf, h4', asAddr, run_loadVar_row w g 26 26 #[.slice a n c] (0, 0) _ hb Tryz.underlying26 rfl rfl]

/-- What is drawn. -/
structure Both (w w' : World) (nv rv : Value) (ns : List PNode) (row : List Int) (nm : ByteArray) : Prop where
  own : OwnN w.heap.size w' nv ns
  rw : Own w.heap.size 3 .i64 w' rv row
  fit : ∀ n ∈ ns, NodeFit n
  len : ns.length ≤ 100
  rl : row.length ≤ 100
  par0 : parOf ns 0 = -1
  nm : nm.size ≤ 100
  bel : Below w.heap.size w w'

theorem ownN_low {B : Nat} {w w' : World} {v : Value} {ns : List PNode} {row : Option Nat} (h : OwnN B w v ns) (hg : w.grownBy w' row) (hr : ∀ k, row = some k → k < B) : OwnN B w' v ns := by
  have : OwnR B w v ns w.heap.size := ownN_high h (Nat.le_refl _)
  exact (this.low hg hr).toN

set_option maxHeartbeats 2000000 in
set_option maxRecDepth 100000 in
theorem drawBoth_any {v : Value} {xs : List Int} {w : World} (h : Sl .u8 w v xs) (hb : ∀ x ∈ xs, 0 ≤ x ∧ x ≤ 255) (hn : xs.length ≤ 1099511627776) :
    Calls Tryz.prog 18 #[v] w fun e w' => ∃ nv rv ns row nm, e = .returned (.tuple #[.agg #[nv], rv, .string nm]) ∧ Both w w' nv rv ns row nm := by
  have HB := (show Hid (∀ x ∈ xs, 0 ≤ x ∧ x ≤ 255) from hb)
  have HS := (show Hid (Sl .u8 w v xs) from h)
  obtain ⟨a, ca, rfl, _, _, _, ha⟩ := h
  clear hb ha
  obtain ⟨wA, hwA⟩ : ∃ wA, wA = w.alloc (.cells #[.slice none 0 0] 26) := ⟨_, rfl⟩
  have bA : Below w.heap.size w wA := by rw [hwA]; exact (Below.refl _ _).alloc (Nat.le_refl _) _
  have gA : wA.heap[w.heap.size]? = some (.cells #[.slice none 0 0] 26 (0, 0)) := by rw [hwA]; exact World.alloc_heap_new _ _
  have hsA : w.heap.size < wA.heap.size := blk_lt gA
  have HGA := (show Hid _ from gA)
  clear gA
  go_enter Tryz.func18, Tryz.ntmps18
  go_wp2_with fail
  go_at_call 29
  rw [← hwA]
  clear hwA
  refine Calls.mono (new_any (HS.out.below bA) HB.out hn) ?_
  rintro e w1 ⟨rfl, k1, b1⟩
  obtain ⟨g, hg⟩ : ∃ g, g = wA.heap.size := ⟨_, rfl⟩
  rw [← hg] at k1 hsA ⊢
  have hgl := k1.lt
  have HG1 := (show Hid (w1.heap[w.heap.size]? = some (.cells #[.slice none 0 0] 26 (0, 0))) from (b1.block _ (blk_lt HGA.out)).trans HGA.out)
  have HB1 := (show Hid (Below w.heap.size w w1) from bA.trans (b1.mono bA.size))
  have HK1 := (show Hid (Cur wA g (.slice a xs.length ca) xs w1) from k1)
  clear k1 b1 hg HGA bA HS
  go_wp2_with fail
  go_at_call 30
  refine Calls.mono (sdrawRow_any HK1.out HB.out) ?_
  rintro e w2 ⟨nv, rv, ns, row, rfl, own2, rw2, hfit, hlen, hrl, hpar, k2, g2⟩
  obtain ⟨na, nn, nc, rfl⟩ : ∃ a n c, nv = .slice a n c := by obtain ⟨_, _, h, _⟩ := own2; exact own_slice h
  obtain ⟨ra, rn, rc, rfl⟩ := own_slice rw2
  obtain ⟨w3, hw3⟩ : ∃ w3, w3 = w2.alloc (.cells #[.slice na nn nc] 26) := ⟨_, rfl⟩
  have b3 : Below w2.heap.size w2 w3 := by rw [hw3]; exact (Below.refl _ _).alloc (Nat.le_refl _) _
  have g3 : w3.heap[w2.heap.size]? = some (.cells #[.slice na nn nc] 26 (0, 0)) := by rw [hw3]; exact World.alloc_heap_new _ _
  have hN3 : w3.heap[w.heap.size]? = some (.cells #[.slice none 0 0] 26 (0, 0)) := (b3.block _ (Nat.lt_of_lt_of_le (blk_lt HG1.out) g2.size)).trans ((g2.block _ (blk_lt HG1.out) (fun e => by simp only [Option.some.injEq] at e; omega)).trans HG1.out)
  have y3 : w3.cell? ⟨w2.heap.size, 0, none⟩ = some (.slice na nn nc) := by simp only [World.cell?, g3]; rfl
  have hs1 := HB1.out.size
  have hs2 := g2.size
  have hgs : g ≠ w2.heap.size := by omega
  have HF := (show Hid (∀ n ∈ ns, NodeFit n) from hfit)
  have HPAR := (show Hid (parOf ns 0 = -1) from hpar)
  have HO3 := (show Hid (OwnN w1.heap.size w3 (.slice na nn nc) ns) from own2.below b3)
  have HR3 := (show Hid (Own w1.heap.size 3 .i64 w3 (.slice ra rn rc) row) from rw2.below b3)
  have HK3 := (show Hid (Cur wA g (.slice a xs.length ca) xs w3) from k2.below b3)
  have HB3 := (show Hid (Below w.heap.size w w3) from (HB1.out.grown g2 HB1.out.size (fun r e => by cases e; omega)).trans (b3.mono (by have := g2.size; omega)))
  have HG3 := (show Hid _ from g3)
  have HN3 := (show Hid _ from hN3)
  clear own2 rw2 hfit hpar k2 g2 b3 g3 hN3 HG1 HB1 HK1
  have bd : Below w3.heap.size w3 w3.drew := below_drewN 1
  go_wp2
  rw [← hw3]
  clear hw3
  go_region_with (first
    | (go_at_call 31; refine Calls.mono (drawName10_any (HK3.out.below bd) HB.out) ?_; rintro e w4 ⟨nm, rfl, hnm, k4, g4⟩
       have e4 := (g4.block _ (blk_lt HG3.out) (fun e => by simp only [Option.some.injEq] at e; exact hgs e.symm)).trans HG3.out
       have y4 : w4.cell? ⟨w2.heap.size, 0, none⟩ = some (.slice na nn nc) := by simp only [World.cell?, e4]; rfl
       have e5 := (g4.block _ (blk_lt HN3.out) (fun e => by simp only [Option.some.injEq] at e; omega)).trans HN3.out
       have y5 : w4.cell? ⟨w.heap.size, 0, none⟩ = some (.slice none 0 0) := by simp only [World.cell?, e5]; rfl
       have z5 : w4.frozen? ⟨w.heap.size, 0, none⟩ = false := by simp [World.frozen?, e5]
       have H5 := (show Hid _ from e5)
       have HG4 := (show Hid (w3.drew.grownBy w4 (some g)) from g4)
       clear e4 e5 g4 k4))
  all_goals
    go_wp2
    have gs := setCell_at (k := 0) (u := .slice na nn nc) H5.out
    have gr := grown_setCell w4 w.heap.size 0 (.slice na nn nc)
    have o4 := ownN_low (HO3.out.below bd) HG4.out (fun k e => by cases e; exact hgl)
    have r4 := own_low (HR3.out.below bd) HG4.out (fun k e => by cases e; exact hgl)
    have b4 : Below w.heap.size w w4 := (HB3.out.trans (bd.mono HB3.out.size)).grown HG4.out (Nat.le_trans HB3.out.size bd.size) (fun r e => by cases e; omega)
    refine bodyPost_ret (three_res (f := Tryz.f18) (p := 2) (q := 3) (u := 4) rfl rfl gs) rfl ?_
    refine ⟨_, _, ns, row, nm, rfl, ⟨(o4.kept gr (fun k e => by cases e; exact ⟨_, _, _, H5.out, by decide, by decide, by decide⟩)).base hs1, (show Own _ 3 .i64 _ _ row from kept_of_type r4 gr (fun k e => by cases e; exact ⟨_, _, _, H5.out, by decide⟩)).base hs1, HF.out, hlen, hrl, HPAR.out, hnm, b4.setCell (p := ⟨w.heap.size, 0, none⟩) (Nat.le_refl _) _⟩⟩
end Go.Proofs.YthdfhckmgneioaaGreat

/- The draw DrawPopTo (written by mk/drawpop.py). No condition. -/
namespace Go.Proofs.YthdfhckmgneioaaGreat
open Go.RowKit
set_option maxRecDepth 100000
set_option linter.unusedVariables false

set_option maxHeartbeats 1000000 in
set_option maxRecDepth 100000 in
theorem drawPopTo_any {v : Value} {xs : List Int} {w : World} (h : Sl .u8 w v xs) (hb : ∀ x ∈ xs, 0 ≤ x ∧ x ≤ 255) (hn : xs.length ≤ 1099511627776) :
    Calls Tryz.prog 6 #[v] w fun e w' => ∃ nv rv ns row nm, e = .returned (.tuple #[.agg #[nv], rv, .string nm]) ∧ Both w w' nv rv ns row nm := by
  have HB := (show Hid (∀ x ∈ xs, 0 ≤ x ∧ x ≤ 255) from hb)
  have HS := (show Hid (Sl .u8 w v xs) from h)
  obtain ⟨a, ca, rfl, _, _, _, ha⟩ := h
  clear hb ha
  obtain ⟨wA, hwA⟩ : ∃ wA, wA = w.alloc (.cells #[.slice none 0 0] 26) := ⟨_, rfl⟩
  have bA : Below w.heap.size w wA := by rw [hwA]; exact (Below.refl _ _).alloc (Nat.le_refl _) _
  have gA : wA.heap[w.heap.size]? = some (.cells #[.slice none 0 0] 26 (0, 0)) := by rw [hwA]; exact World.alloc_heap_new _ _
  have HGA := (show Hid _ from gA)
  clear gA
  go_enter Tryz.func6, Tryz.ntmps6
  go_wp2_with fail
  go_at_call 18
  rw [← hwA]
  clear hwA
  refine Calls.mono (drawBoth_any (HS.out.below bA) HB.out hn) ?_
  rintro e w2 ⟨nv, rv, ns, row, nm, rfl, B2⟩
  obtain ⟨na, nn, nc, rfl⟩ : ∃ a n c, nv = .slice a n c := by obtain ⟨_, _, h, _⟩ := B2.own; exact own_slice h
  obtain ⟨ra, rn, rc, rfl⟩ := own_slice B2.rw
  have H2 := (show Hid (Both wA w2 (.slice na nn nc) (.slice ra rn rc) ns row nm) from B2)
  clear B2
  obtain ⟨w3, hw3⟩ : ∃ w3, w3 = w2.alloc (.cells #[.slice na nn nc] 26) := ⟨_, rfl⟩
  have b3 : Below w2.heap.size w2 w3 := by rw [hw3]; exact (Below.refl _ _).alloc (Nat.le_refl _) _
  have g3 : w3.heap[w2.heap.size]? = some (.cells #[.slice na nn nc] 26 (0, 0)) := by rw [hw3]; exact World.alloc_heap_new _ _
  have hN3 : w3.heap[w.heap.size]? = some (.cells #[.slice none 0 0] 26 (0, 0)) := (b3.block _ (Nat.lt_of_lt_of_le (blk_lt HGA.out) H2.out.bel.size)).trans ((H2.out.bel.block _ (blk_lt HGA.out)).trans HGA.out)
  have y3 : w3.cell? ⟨w2.heap.size, 0, none⟩ = some (.slice na nn nc) := by simp only [World.cell?, g3]; rfl
  have y1 : w3.cell? ⟨w.heap.size, 0, none⟩ = some (.slice none 0 0) := by simp only [World.cell?, hN3]; rfl
  have z1 : w3.frozen? ⟨w.heap.size, 0, none⟩ = false := by simp [World.frozen?, hN3]
  have HN3 := (show Hid _ from hN3)
  have HB3 := (show Hid _ from b3)
  have BA := (show Hid (Below w.heap.size w wA) from bA)
  clear g3 hN3 b3 HGA HS bA
  go_upto_region 2 with fail
  rw [← hw3]
  clear hw3
  go_wp2
  have gs := setCell_at (k := 0) (u := .slice na nn nc) HN3.out
  have gr := grown_setCell w3 w.heap.size 0 (.slice na nn nc)
  have hbb := BA.out.trans ((H2.out.bel.trans (HB3.out.mono H2.out.bel.size)).mono BA.out.size)
  refine bodyPost_ret (three_res (f := Tryz.f6) (p := 2) (q := 3) (u := 4) rfl rfl gs) rfl ?_
  exact ⟨_, _, ns, row, nm, rfl, ⟨(((H2.out.own.below HB3.out).kept gr (fun k e => by cases e; exact ⟨_, _, _, HN3.out, by decide, by decide, by decide⟩))).base BA.out.size,
    (show Own _ 3 .i64 _ _ row from kept_of_type (H2.out.rw.below HB3.out) gr (fun k e => by cases e; exact ⟨_, _, _, HN3.out, by decide⟩)).base BA.out.size, H2.out.fit, H2.out.len, H2.out.rl, H2.out.par0, H2.out.nm, hbb.setCell (p := ⟨w.heap.size, 0, none⟩) (Nat.le_refl _) _⟩⟩
end Go.Proofs.YthdfhckmgneioaaGreat

/- The specification's l6Node. No condition. -/
namespace Go.Proofs.YthdfhckmgneioaaGreat
open Go.RowKit
set_option maxRecDepth 100000
set_option linter.unusedVariables false

set_option maxHeartbeats 1000000 in
theorem snode_page {w : World} (nm tx : ByteArray) (p : Int) {a ka : Option Addr} {na ca nk kc : Nat} :
    Calls Tryz.prog 49 #[.agg #[.int .i64 1, .string nm, .slice a na ca, .string tx, .int .i64 p, .slice ka nk kc]] w fun e w' => e = .returned (.bool (empB nm && decide (na = 0) && empB tx)) ∧ Below w.heap.size w w' := by
  unfold empB
  by_cases hnm : nm.toList = [] <;> by_cases htx : tx.toList = [] <;> by_cases hna : na = 0
  all_goals (go_enter Tryz.func49, Tryz.ntmps49; go_wp2)
  all_goals (go_ret; exact ⟨ret_bool (by simp [*]), (Below.refl _ _).alloc (Nat.le_refl _) _⟩)

set_option maxHeartbeats 1000000 in
theorem snode_other {w : World} (nm tx : ByteArray) (p : Int) {a ka : Option Addr} {na ca nk kc : Nat} (k : Int) (h1 : k ≠ 1) (h2 : k ≠ 2) (h3 : k ≠ 3) (h4 : k ≠ 4) (h5 : k ≠ 5) :
    Calls Tryz.prog 49 #[.agg #[.int .i64 (k), .string nm, .slice a na ca, .string tx, .int .i64 p, .slice ka nk kc]] w fun e w' => e = .returned (.bool (false)) ∧ Below w.heap.size w w' := by
  by_cases hnm : nm.toList = [] <;> by_cases htx : tx.toList = []
  all_goals (go_enter Tryz.func49, Tryz.ntmps49; go_wp2)
  all_goals (go_ret; exact ⟨ret_bool (by simp), (Below.refl _ _).alloc (Nat.le_refl _) _⟩)

set_option maxHeartbeats 1000000 in
theorem snode_doc {w : World} (nm tx : ByteArray) (p : Int) {a ka : Option Addr} {na ca nk kc : Nat} (hnm : nm.size ≤ 1048576) (htx : tx.size ≤ 1048576) :
    Calls Tryz.prog 49 #[.agg #[.int .i64 2, .string nm, .slice a na ca, .string tx, .int .i64 p, .slice ka nk kc]] w fun e w' => e = .returned (.bool ((decide (nm.size ≤ 60) && utfOk (bs nm)) && decide (na = 0) && empB tx && decide (nk = 0))) ∧ Below w.heap.size w w' := by
  have hy0 : (w.alloc (.cells #[.int .i64 2, .string nm, .slice a na ca, .string tx, .int .i64 p, .slice ka nk kc] 37)).heap[w.heap.size]? = some (.cells #[.int .i64 2, .string nm, .slice a na ca, .string tx, .int .i64 p, .slice ka nk kc] 37 (0, 0)) := World.alloc_heap_new _ _
  have HY0 := (show Hid _ from hy0)
  have c1 := fun w => l1Ok_any nm w (by omega)
  obtain ⟨u, eu⟩ : ∃ u, u = utfOk (bs nm) := ⟨_, rfl⟩
  rw [← eu] at c1 ⊢
  have C1 := (show Hid _ from c1)
  clear c1 eu hy0
  unfold empB
  by_cases hn0 : nm.toList = [] <;> by_cases ht0 : tx.toList = [] <;> by_cases hna : na = 0 <;> by_cases h60 : nm.size ≤ 60
  all_goals (go_enter Tryz.func49, Tryz.ntmps49; go_wp2_with fail)
  all_goals first
    | (go_ret; exact ⟨ret_bool (by simp [*]), (Below.refl _ _).alloc (Nat.le_refl _) _⟩)
    | (go_at_call 74
       refine (C1.out _).mono ?_
       rintro e w3 ⟨rfl, b3⟩
       have hy := (b3.block w.heap.size (by simp)).trans (World.alloc_heap_new _ _)
       have y5 : w3.cell? ⟨w.heap.size, 5, none⟩ = some (.slice ka nk kc) := by simp only [World.cell?, hy]; rfl
       replace b3 := ((Below.refl w.heap.size w).alloc (Nat.le_refl _) _).trans (b3.mono (by simp))
       clear hy HY0
       cases u <;> go_wp2
       all_goals (go_ret; exact ⟨ret_bool (by first | (simp [*]; done) | simp [*, natb0]), b3⟩))

set_option maxHeartbeats 1000000 in
theorem snode_text {w : World} (nm tx : ByteArray) (p : Int) {a ka : Option Addr} {na ca nk kc : Nat} (hnm : nm.size ≤ 1048576) (htx : tx.size ≤ 1048576) :
    Calls Tryz.prog 49 #[.agg #[.int .i64 4, .string nm, .slice a na ca, .string tx, .int .i64 p, .slice ka nk kc]] w fun e w' => e = .returned (.bool (!empB tx && utfOk (bs tx) && empB nm && decide (na = 0) && decide (nk = 0))) ∧ Below w.heap.size w w' := by
  have hy0 : (w.alloc (.cells #[.int .i64 4, .string nm, .slice a na ca, .string tx, .int .i64 p, .slice ka nk kc] 37)).heap[w.heap.size]? = some (.cells #[.int .i64 4, .string nm, .slice a na ca, .string tx, .int .i64 p, .slice ka nk kc] 37 (0, 0)) := World.alloc_heap_new _ _
  have HY0 := (show Hid _ from hy0)
  have c1 := fun w => l1Ok_any tx w (by omega)
  obtain ⟨u, eu⟩ : ∃ u, u = utfOk (bs tx) := ⟨_, rfl⟩
  rw [← eu] at c1 ⊢
  have C1 := (show Hid _ from c1)
  clear c1 eu hy0
  unfold empB
  by_cases hn0 : nm.toList = [] <;> by_cases ht0 : tx.toList = [] <;> by_cases hna : na = 0
  all_goals (go_enter Tryz.func49, Tryz.ntmps49; go_wp2_with fail)
  all_goals first
    | (go_ret; exact ⟨ret_bool (by simp [*]), (Below.refl _ _).alloc (Nat.le_refl _) _⟩)
    | (go_at_call 74
       refine (C1.out _).mono ?_
       rintro e w3 ⟨rfl, b3⟩
       have hy := (b3.block w.heap.size (by simp)).trans (World.alloc_heap_new _ _)
       have y5 : w3.cell? ⟨w.heap.size, 5, none⟩ = some (.slice ka nk kc) := by simp only [World.cell?, hy]; rfl
       replace b3 := ((Below.refl w.heap.size w).alloc (Nat.le_refl _) _).trans (b3.mono (by simp))
       clear hy HY0
       cases u <;> go_wp2
       all_goals (go_ret; exact ⟨ret_bool (by first | (simp [*]; done) | simp [*, natb0]), b3⟩))

set_option maxHeartbeats 1000000 in
theorem snode_com {w : World} (nm tx : ByteArray) (p : Int) {a ka : Option Addr} {na ca nk kc : Nat} (hnm : nm.size ≤ 1048576) (htx : tx.size ≤ 1048576) :
    Calls Tryz.prog 49 #[.agg #[.int .i64 5, .string nm, .slice a na ca, .string tx, .int .i64 p, .slice ka nk kc]] w fun e w' => e = .returned (.bool (utfOk (bs tx) && empB nm && decide (na = 0) && decide (nk = 0))) ∧ Below w.heap.size w w' := by
  have hy0 : (w.alloc (.cells #[.int .i64 5, .string nm, .slice a na ca, .string tx, .int .i64 p, .slice ka nk kc] 37)).heap[w.heap.size]? = some (.cells #[.int .i64 5, .string nm, .slice a na ca, .string tx, .int .i64 p, .slice ka nk kc] 37 (0, 0)) := World.alloc_heap_new _ _
  have HY0 := (show Hid _ from hy0)
  have c1 := fun w => l1Ok_any tx w (by omega)
  obtain ⟨u, eu⟩ : ∃ u, u = utfOk (bs tx) := ⟨_, rfl⟩
  rw [← eu] at c1 ⊢
  have C1 := (show Hid _ from c1)
  clear c1 eu hy0
  unfold empB
  by_cases hn0 : nm.toList = [] <;> by_cases ht0 : tx.toList = [] <;> by_cases hna : na = 0
  all_goals (go_enter Tryz.func49, Tryz.ntmps49; go_wp2_with fail)
  all_goals first
    | (go_ret; exact ⟨ret_bool (by simp [*]), (Below.refl _ _).alloc (Nat.le_refl _) _⟩)
    | (go_at_call 74
       refine (C1.out _).mono ?_
       rintro e w3 ⟨rfl, b3⟩
       have hy := (b3.block w.heap.size (by simp)).trans (World.alloc_heap_new _ _)
       have y5 : w3.cell? ⟨w.heap.size, 5, none⟩ = some (.slice ka nk kc) := by simp only [World.cell?, hy]; rfl
       replace b3 := ((Below.refl w.heap.size w).alloc (Nat.le_refl _) _).trans (b3.mono (by simp))
       clear hy HY0
       cases u <;> go_wp2
       all_goals (go_ret; exact ⟨ret_bool (by first | (simp [*]; done) | simp [*, natb0]), b3⟩))

set_option maxHeartbeats 1000000 in
theorem snode_elem {w : World} (nm tx : ByteArray) (p : Int) {a ka : Option Addr} {na ca nk kc : Nat} {rs : List (ByteArray × ByteArray)} (hav : Sv 2 w (.slice a na ca) (pairCells rs)) (hnm : nm.size ≤ 1048576) (htx : tx.size ≤ 1048576) (hrs : rs.length ≤ 1048576) (hrr : ∀ p ∈ rs, p.1.size ≤ 1099511627776 ∧ p.2.size ≤ 1099511627776) :
    Calls Tryz.prog 49 #[.agg #[.int .i64 3, .string nm, .slice a na ca, .string tx, .int .i64 p, .slice ka nk kc]] w fun e w' => e = .returned (.bool (nameOk (bs nm) && attrsOk rs && empB tx)) ∧ Below w.heap.size w w' := by
  have b1 : Below w.heap.size w (w.alloc (.cells #[.int .i64 3, .string nm, .slice a na ca, .string tx, .int .i64 p, .slice ka nk kc] 37)) := (Below.refl _ _).alloc (Nat.le_refl _) _
  have hy0 : (w.alloc (.cells #[.int .i64 3, .string nm, .slice a na ca, .string tx, .int .i64 p, .slice ka nk kc] 37)).heap[w.heap.size]? = some (.cells #[.int .i64 3, .string nm, .slice a na ca, .string tx, .int .i64 p, .slice ka nk kc] 37 (0, 0)) := World.alloc_heap_new _ _
  have HY0 := (show Hid _ from hy0)
  have c1 := fun w => snameOk_any nm w (by omega)
  have c2 : ∀ w', Below w.heap.size w w' → Calls Tryz.prog 76 #[.slice a na ca] w' fun e w'' => e = .returned (.bool (attrsOk rs)) ∧ Below w'.heap.size w' w'' := fun w' hb => sattrsOk_any (hav.below hb) (by omega) hrr
  obtain ⟨u, eu⟩ : ∃ u, u = nameOk (bs nm) := ⟨_, rfl⟩
  obtain ⟨u2, eu2⟩ : ∃ u2, u2 = attrsOk rs := ⟨_, rfl⟩
  rw [← eu] at c1 ⊢
  rw [← eu2] at c2 ⊢
  have C1 := (show Hid _ from c1)
  have C2 := (show Hid _ from c2)
  clear c1 c2 eu eu2 hy0 hav hrr
  unfold empB
  by_cases hn0 : nm.toList = [] <;> by_cases ht0 : tx.toList = []
  all_goals (go_enter Tryz.func49, Tryz.ntmps49; go_wp2_with fail)
  all_goals first
    | (go_ret; exact ⟨ret_bool (by simp [*]), b1⟩)
    | (go_at_call 75
       refine (C1.out _).mono ?_
       rintro e w3 ⟨rfl, b3⟩
       have hy := (b3.block w.heap.size (by simp)).trans HY0.out
       have y2 : w3.cell? ⟨w.heap.size, 2, none⟩ = some (.slice a na ca) := by simp only [World.cell?, hy]; rfl
       replace b3 := b1.trans (b3.mono b1.size)
       clear hy HY0
       cases u
       · go_wp2
         go_ret
         exact ⟨ret_bool (by simp), b3⟩
       · go_wp2_with fail
         go_at_call 76
         refine (C2.out _ b3).mono ?_
         rintro e w4 ⟨rfl, b4⟩
         replace b4 := b3.trans (b4.mono b3.size)
         go_wp2
         go_ret
         exact ⟨ret_bool (by simp [*]), b4⟩)

/-- l6Node, of every node. -/
theorem snodeOk_any {w : World} (k : Int) (nm tx : ByteArray) (p : Int) {a ka : Option Addr} {na ca nk kc : Nat} {rs : List (ByteArray × ByteArray)} (hav : Sv 2 w (.slice a na ca) (pairCells rs)) (hnm : nm.size ≤ 1048576) (htx : tx.size ≤ 1048576) (hrs : rs.length ≤ 1048576) (hrr : ∀ p ∈ rs, p.1.size ≤ 1099511627776 ∧ p.2.size ≤ 1099511627776) :
    Calls Tryz.prog 49 #[.agg #[.int .i64 k, .string nm, .slice a na ca, .string tx, .int .i64 p, .slice ka nk kc]] w fun e w' => e = .returned (.bool (nodeB k nm rs tx nk)) ∧ Below w.heap.size w w' := by
  obtain ⟨_, _, ev, _⟩ := hav.pair
  have hna : na = rs.length := by cases ev; rfl
  unfold nodeB
  by_cases h1 : k = 1
  · subst h1
    rw [if_pos rfl, ← hna]
    exact snode_page nm tx p
  rw [if_neg h1]
  by_cases h2 : k = 2
  · subst h2
    rw [if_pos rfl, ← hna]
    exact snode_doc nm tx p hnm htx
  rw [if_neg h2]
  by_cases h3 : k = 3
  · subst h3
    rw [if_pos rfl]
    exact snode_elem nm tx p hav hnm htx hrs hrr
  rw [if_neg h3]
  by_cases h4 : k = 4
  · subst h4
    rw [if_pos rfl, ← hna]
    exact snode_text nm tx p hnm htx
  rw [if_neg h4]
  by_cases h5 : k = 5
  · subst h5
    rw [if_pos rfl, ← hna]
    exact snode_com nm tx p hnm htx
  rw [if_neg h5]
  exact snode_other nm tx p k h1 h2 h3 h4 h5
end Go.Proofs.YthdfhckmgneioaaGreat
