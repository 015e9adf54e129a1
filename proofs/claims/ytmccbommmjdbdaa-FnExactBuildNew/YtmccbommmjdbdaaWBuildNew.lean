/- The exact law of BuildNew, walked (written by mk/wbuildnew.py). No condition. -/
import Derived.Test.YtmccbommmjdbdaaWTreeNew
namespace Go.Proofs.Ytmccbommmjdbdaa
open Go.RowKit
set_option maxRecDepth 100000
set_option linter.unusedVariables false

/-- A build of which all but the tree is as BuildNew has it: its cells, its value. -/
def newRow (u : Value) : Array Value := #[u, .slice none 0 0, .slice none 0 0, .int .i64 1, .int .i64 1, .int .i64 (-1), .int .i64 1, .string ⟨#[]⟩, .bool false, .int .i64 0]
def newVal (u : Value) : Value := .agg #[u, .slice none 0 0, .slice none 0 0, .int .i64 1, .int .i64 1, .int .i64 (-1), .int .i64 1, .string ⟨#[]⟩, .bool false, .int .i64 0]
/-- The block g holds it. -/
def NewAt (w : World) (g : Nat) (u : Value) : Prop := w.heap[g]? = some (.cells #[u, .slice none 0 0, .slice none 0 0, .int .i64 1, .int .i64 1, .int .i64 (-1), .int .i64 1, .string ⟨#[]⟩, .bool false, .int .i64 0] 34 (0, 0))
theorem NewAt.below {w w' : World} {g : Nat} {u : Value} (h : NewAt w g u) (b : Below w.heap.size w w') : NewAt w' g u := (b.block g (lt_of_block h)).trans h
theorem NewAt.lt {w : World} {g : Nat} {u : Value} (h : NewAt w g u) : g < w.heap.size := lt_of_block h
theorem NewAt.by {w w' : World} {g r : Nat} {u : Value} (h : NewAt w g u) (b : w.grownBy w' (some r)) (hne : g ≠ r) : NewAt w' g u := (b.block g (lt_of_block h) (fun e => by injection e with e; exact hne e)).trans h
theorem newAt_alloc (w : World) (u : Value) : NewAt (w.alloc (.cells #[u, .slice none 0 0, .slice none 0 0, .int .i64 1, .int .i64 1, .int .i64 (-1), .int .i64 1, .string ⟨#[]⟩, .bool false, .int .i64 0] 34)) w.heap.size u := heap_alloc_new w _
theorem setCell_at' {w : World} {b k : Nat} {cs : Array Value} {u : Value} {t : TypeId} (h : w.heap[b]? = some (.cells cs t (0, 0))) : (w.setCell ⟨b, k, none⟩ u).heap[b]? = some (.cells (cs.setIfInBounds k u) t (0, 0)) := setAt h
theorem NewAt.c0 {w : World} {g : Nat} {u : Value} (h : NewAt w g u) : w.cell? ⟨g, 0, none⟩ = some (u) := by simp only [World.cell?, show w.heap[g]? = _ from h]; rfl
theorem NewAt.c1 {w : World} {g : Nat} {u : Value} (h : NewAt w g u) : w.cell? ⟨g, 1, none⟩ = some (.slice none 0 0) := by simp only [World.cell?, show w.heap[g]? = _ from h]; rfl
theorem NewAt.c2 {w : World} {g : Nat} {u : Value} (h : NewAt w g u) : w.cell? ⟨g, 2, none⟩ = some (.slice none 0 0) := by simp only [World.cell?, show w.heap[g]? = _ from h]; rfl
theorem NewAt.c3 {w : World} {g : Nat} {u : Value} (h : NewAt w g u) : w.cell? ⟨g, 3, none⟩ = some (.int .i64 1) := by simp only [World.cell?, show w.heap[g]? = _ from h]; rfl
theorem NewAt.c4 {w : World} {g : Nat} {u : Value} (h : NewAt w g u) : w.cell? ⟨g, 4, none⟩ = some (.int .i64 1) := by simp only [World.cell?, show w.heap[g]? = _ from h]; rfl
theorem NewAt.c5 {w : World} {g : Nat} {u : Value} (h : NewAt w g u) : w.cell? ⟨g, 5, none⟩ = some (.int .i64 (-1)) := by simp only [World.cell?, show w.heap[g]? = _ from h]; rfl
theorem NewAt.c6 {w : World} {g : Nat} {u : Value} (h : NewAt w g u) : w.cell? ⟨g, 6, none⟩ = some (.int .i64 1) := by simp only [World.cell?, show w.heap[g]? = _ from h]; rfl
theorem NewAt.c7 {w : World} {g : Nat} {u : Value} (h : NewAt w g u) : w.cell? ⟨g, 7, none⟩ = some (.string ⟨#[]⟩) := by simp only [World.cell?, show w.heap[g]? = _ from h]; rfl
theorem NewAt.c8 {w : World} {g : Nat} {u : Value} (h : NewAt w g u) : w.cell? ⟨g, 8, none⟩ = some (.bool false) := by simp only [World.cell?, show w.heap[g]? = _ from h]; rfl
theorem NewAt.c9 {w : World} {g : Nat} {u : Value} (h : NewAt w g u) : w.cell? ⟨g, 9, none⟩ = some (.int .i64 0) := by simp only [World.cell?, show w.heap[g]? = _ from h]; rfl

theorem ownsRow_base1 {B B' : Nat} {e : TypeId} {size n : Nat} {w : World} {v : Value} {xs : List Value} (h : w.ownsRow B e size v n xs) (hB : B' ≤ B) : w.ownsRow B' e size v n xs := by
  obtain ⟨hl, hv | ⟨g, cap, cur, hv, hb, r⟩⟩ := h
  · exact ⟨hl, .inl hv⟩
  · exact ⟨hl, .inr ⟨g, cap, cur, hv, Nat.le_trans hB hb, r⟩⟩
theorem ten_sets (w : World) (b : Nat) (u0 u1 u2 u3 u4 u5 u6 u7 u8 u9 : Value) : w.grownBy ((((((((((w.setCell ⟨b, 0, none⟩ u0).setCell ⟨b, 1, none⟩ u1).setCell ⟨b, 2, none⟩ u2).setCell ⟨b, 3, none⟩ u3).setCell ⟨b, 4, none⟩ u4).setCell ⟨b, 5, none⟩ u5).setCell ⟨b, 6, none⟩ u6).setCell ⟨b, 7, none⟩ u7).setCell ⟨b, 8, none⟩ u8).setCell ⟨b, 9, none⟩ u9) (some b) := by
  have s0 := set_by w b 0 u0
  have s1 := grown_trans s0 (set_by (w.setCell ⟨b, 0, none⟩ u0) b 1 u1)
  have s2 := grown_trans s1 (set_by ((w.setCell ⟨b, 0, none⟩ u0).setCell ⟨b, 1, none⟩ u1) b 2 u2)
  have s3 := grown_trans s2 (set_by (((w.setCell ⟨b, 0, none⟩ u0).setCell ⟨b, 1, none⟩ u1).setCell ⟨b, 2, none⟩ u2) b 3 u3)
  have s4 := grown_trans s3 (set_by ((((w.setCell ⟨b, 0, none⟩ u0).setCell ⟨b, 1, none⟩ u1).setCell ⟨b, 2, none⟩ u2).setCell ⟨b, 3, none⟩ u3) b 4 u4)
  have s5 := grown_trans s4 (set_by (((((w.setCell ⟨b, 0, none⟩ u0).setCell ⟨b, 1, none⟩ u1).setCell ⟨b, 2, none⟩ u2).setCell ⟨b, 3, none⟩ u3).setCell ⟨b, 4, none⟩ u4) b 5 u5)
  have s6 := grown_trans s5 (set_by ((((((w.setCell ⟨b, 0, none⟩ u0).setCell ⟨b, 1, none⟩ u1).setCell ⟨b, 2, none⟩ u2).setCell ⟨b, 3, none⟩ u3).setCell ⟨b, 4, none⟩ u4).setCell ⟨b, 5, none⟩ u5) b 6 u6)
  have s7 := grown_trans s6 (set_by (((((((w.setCell ⟨b, 0, none⟩ u0).setCell ⟨b, 1, none⟩ u1).setCell ⟨b, 2, none⟩ u2).setCell ⟨b, 3, none⟩ u3).setCell ⟨b, 4, none⟩ u4).setCell ⟨b, 5, none⟩ u5).setCell ⟨b, 6, none⟩ u6) b 7 u7)
  have s8 := grown_trans s7 (set_by ((((((((w.setCell ⟨b, 0, none⟩ u0).setCell ⟨b, 1, none⟩ u1).setCell ⟨b, 2, none⟩ u2).setCell ⟨b, 3, none⟩ u3).setCell ⟨b, 4, none⟩ u4).setCell ⟨b, 5, none⟩ u5).setCell ⟨b, 6, none⟩ u6).setCell ⟨b, 7, none⟩ u7) b 8 u8)
  have s9 := grown_trans s8 (set_by (((((((((w.setCell ⟨b, 0, none⟩ u0).setCell ⟨b, 1, none⟩ u1).setCell ⟨b, 2, none⟩ u2).setCell ⟨b, 3, none⟩ u3).setCell ⟨b, 4, none⟩ u4).setCell ⟨b, 5, none⟩ u5).setCell ⟨b, 6, none⟩ u6).setCell ⟨b, 7, none⟩ u7).setCell ⟨b, 8, none⟩ u8) b 9 u9)
  exact s9
theorem new_sets {w : World} {b : Nat} (h : w.heap[b]? = some (.cells #[.slice none 0 0, .slice none 0 0, .slice none 0 0, .int .i64 0, .int .i64 0, .int .i64 0, .int .i64 0, .string ⟨#[]⟩, .bool false, .int .i64 0] 34 (0, 0))) (u : Value) : NewAt ((((((((((w.setCell ⟨b, 0, none⟩ (u)).setCell ⟨b, 1, none⟩ (.slice none 0 0)).setCell ⟨b, 2, none⟩ (.slice none 0 0)).setCell ⟨b, 3, none⟩ (.int .i64 1)).setCell ⟨b, 4, none⟩ (.int .i64 1)).setCell ⟨b, 5, none⟩ (.int .i64 (-1))).setCell ⟨b, 6, none⟩ (.int .i64 1)).setCell ⟨b, 7, none⟩ (.string ⟨#[]⟩)).setCell ⟨b, 8, none⟩ (.bool false)).setCell ⟨b, 9, none⟩ (.int .i64 0)) b u := by
  have h0 : (w.setCell ⟨b, 0, none⟩ (u)).heap[b]? = some (.cells #[u, .slice none 0 0, .slice none 0 0, .int .i64 0, .int .i64 0, .int .i64 0, .int .i64 0, .string ⟨#[]⟩, .bool false, .int .i64 0] 34 (0, 0)) := by simpa using setAt (k := 0) (u := u) h
  have h1 : ((w.setCell ⟨b, 0, none⟩ (u)).setCell ⟨b, 1, none⟩ (.slice none 0 0)).heap[b]? = some (.cells #[u, .slice none 0 0, .slice none 0 0, .int .i64 0, .int .i64 0, .int .i64 0, .int .i64 0, .string ⟨#[]⟩, .bool false, .int .i64 0] 34 (0, 0)) := by simpa using setAt (k := 1) (u := .slice none 0 0) h0
  have h2 : (((w.setCell ⟨b, 0, none⟩ (u)).setCell ⟨b, 1, none⟩ (.slice none 0 0)).setCell ⟨b, 2, none⟩ (.slice none 0 0)).heap[b]? = some (.cells #[u, .slice none 0 0, .slice none 0 0, .int .i64 0, .int .i64 0, .int .i64 0, .int .i64 0, .string ⟨#[]⟩, .bool false, .int .i64 0] 34 (0, 0)) := by simpa using setAt (k := 2) (u := .slice none 0 0) h1
  have h3 : ((((w.setCell ⟨b, 0, none⟩ (u)).setCell ⟨b, 1, none⟩ (.slice none 0 0)).setCell ⟨b, 2, none⟩ (.slice none 0 0)).setCell ⟨b, 3, none⟩ (.int .i64 1)).heap[b]? = some (.cells #[u, .slice none 0 0, .slice none 0 0, .int .i64 1, .int .i64 0, .int .i64 0, .int .i64 0, .string ⟨#[]⟩, .bool false, .int .i64 0] 34 (0, 0)) := by simpa using setAt (k := 3) (u := .int .i64 1) h2
  have h4 : (((((w.setCell ⟨b, 0, none⟩ (u)).setCell ⟨b, 1, none⟩ (.slice none 0 0)).setCell ⟨b, 2, none⟩ (.slice none 0 0)).setCell ⟨b, 3, none⟩ (.int .i64 1)).setCell ⟨b, 4, none⟩ (.int .i64 1)).heap[b]? = some (.cells #[u, .slice none 0 0, .slice none 0 0, .int .i64 1, .int .i64 1, .int .i64 0, .int .i64 0, .string ⟨#[]⟩, .bool false, .int .i64 0] 34 (0, 0)) := by simpa using setAt (k := 4) (u := .int .i64 1) h3
  have h5 : ((((((w.setCell ⟨b, 0, none⟩ (u)).setCell ⟨b, 1, none⟩ (.slice none 0 0)).setCell ⟨b, 2, none⟩ (.slice none 0 0)).setCell ⟨b, 3, none⟩ (.int .i64 1)).setCell ⟨b, 4, none⟩ (.int .i64 1)).setCell ⟨b, 5, none⟩ (.int .i64 (-1))).heap[b]? = some (.cells #[u, .slice none 0 0, .slice none 0 0, .int .i64 1, .int .i64 1, .int .i64 (-1), .int .i64 0, .string ⟨#[]⟩, .bool false, .int .i64 0] 34 (0, 0)) := by simpa using setAt (k := 5) (u := .int .i64 (-1)) h4
  have h6 : (((((((w.setCell ⟨b, 0, none⟩ (u)).setCell ⟨b, 1, none⟩ (.slice none 0 0)).setCell ⟨b, 2, none⟩ (.slice none 0 0)).setCell ⟨b, 3, none⟩ (.int .i64 1)).setCell ⟨b, 4, none⟩ (.int .i64 1)).setCell ⟨b, 5, none⟩ (.int .i64 (-1))).setCell ⟨b, 6, none⟩ (.int .i64 1)).heap[b]? = some (.cells #[u, .slice none 0 0, .slice none 0 0, .int .i64 1, .int .i64 1, .int .i64 (-1), .int .i64 1, .string ⟨#[]⟩, .bool false, .int .i64 0] 34 (0, 0)) := by simpa using setAt (k := 6) (u := .int .i64 1) h5
  have h7 : ((((((((w.setCell ⟨b, 0, none⟩ (u)).setCell ⟨b, 1, none⟩ (.slice none 0 0)).setCell ⟨b, 2, none⟩ (.slice none 0 0)).setCell ⟨b, 3, none⟩ (.int .i64 1)).setCell ⟨b, 4, none⟩ (.int .i64 1)).setCell ⟨b, 5, none⟩ (.int .i64 (-1))).setCell ⟨b, 6, none⟩ (.int .i64 1)).setCell ⟨b, 7, none⟩ (.string ⟨#[]⟩)).heap[b]? = some (.cells #[u, .slice none 0 0, .slice none 0 0, .int .i64 1, .int .i64 1, .int .i64 (-1), .int .i64 1, .string ⟨#[]⟩, .bool false, .int .i64 0] 34 (0, 0)) := by simpa using setAt (k := 7) (u := .string ⟨#[]⟩) h6
  have h8 : (((((((((w.setCell ⟨b, 0, none⟩ (u)).setCell ⟨b, 1, none⟩ (.slice none 0 0)).setCell ⟨b, 2, none⟩ (.slice none 0 0)).setCell ⟨b, 3, none⟩ (.int .i64 1)).setCell ⟨b, 4, none⟩ (.int .i64 1)).setCell ⟨b, 5, none⟩ (.int .i64 (-1))).setCell ⟨b, 6, none⟩ (.int .i64 1)).setCell ⟨b, 7, none⟩ (.string ⟨#[]⟩)).setCell ⟨b, 8, none⟩ (.bool false)).heap[b]? = some (.cells #[u, .slice none 0 0, .slice none 0 0, .int .i64 1, .int .i64 1, .int .i64 (-1), .int .i64 1, .string ⟨#[]⟩, .bool false, .int .i64 0] 34 (0, 0)) := by simpa using setAt (k := 8) (u := .bool false) h7
  have h9 : ((((((((((w.setCell ⟨b, 0, none⟩ (u)).setCell ⟨b, 1, none⟩ (.slice none 0 0)).setCell ⟨b, 2, none⟩ (.slice none 0 0)).setCell ⟨b, 3, none⟩ (.int .i64 1)).setCell ⟨b, 4, none⟩ (.int .i64 1)).setCell ⟨b, 5, none⟩ (.int .i64 (-1))).setCell ⟨b, 6, none⟩ (.int .i64 1)).setCell ⟨b, 7, none⟩ (.string ⟨#[]⟩)).setCell ⟨b, 8, none⟩ (.bool false)).setCell ⟨b, 9, none⟩ (.int .i64 0)).heap[b]? = some (.cells #[u, .slice none 0 0, .slice none 0 0, .int .i64 1, .int .i64 1, .int .i64 (-1), .int .i64 1, .string ⟨#[]⟩, .bool false, .int .i64 0] 34 (0, 0)) := by simpa using setAt (k := 9) (u := .int .i64 0) h8
  exact h9

set_option maxHeartbeats 2000000 in
set_option maxRecDepth 100000 in
theorem sbuildNew_any (w : World) : Calls Try.prog 10 #[] w fun e w' => ∃ u, e = .returned (newVal u) ∧ OneTree w.heap.size w' (.agg #[u]) 1 (-1) ⟨#[]⟩ ⟨#[]⟩ ∧ Below w.heap.size w w' := by
  have b0 : Below w.heap.size w (w.alloc (.cells #[.slice none 0 0, .slice none 0 0, .slice none 0 0, .int .i64 0, .int .i64 0, .int .i64 0, .int .i64 0, .string ⟨#[]⟩, .bool false, .int .i64 0] 34)) := (Below.refl _ _).alloc (Nat.le_refl _) _
  have g0 := heap_alloc_new w (.cells #[.slice none 0 0, .slice none 0 0, .slice none 0 0, .int .i64 0, .int .i64 0, .int .i64 0, .int .i64 0, .string ⟨#[]⟩, .bool false, .int .i64 0] 34)
  have z0 : w.heap.size < (w.alloc (.cells #[.slice none 0 0, .slice none 0 0, .slice none 0 0, .int .i64 0, .int .i64 0, .int .i64 0, .int .i64 0, .string ⟨#[]⟩, .bool false, .int .i64 0] 34)).heap.size := by simp
  have hs0 : (w.alloc (.cells #[.slice none 0 0, .slice none 0 0, .slice none 0 0, .int .i64 0, .int .i64 0, .int .i64 0, .int .i64 0, .string ⟨#[]⟩, .bool false, .int .i64 0] 34)).heap.size = w.heap.size + 1 := by simp
  have B0 := (show Hid _ from b0)
  have G0 := (show Hid _ from g0)
  have Z0 := (show Hid _ from z0)
  have HS0 := (show Hid _ from hs0)
  clear b0 g0 z0 hs0
  go_enter Try.func10, Try.ntmps10
  go_wp2_with fail
  go_at_call 31
  refine (streeNew_any _).mono ?_
  rintro e w2 ⟨u, rfl, t2, b2⟩
  obtain ⟨g, c, rfl, hg, lg, o2⟩ := t2.slice
  have g2 := (b2.block w.heap.size Z0.out).trans G0.out
  have B2 := (show Hid (Below w.heap.size w w2) from B0.out.trans (b2.mono B0.out.size))
  have HG : Hid (w.heap.size < g ∧ w.heap.size < w2.heap.size) := ⟨(by have := HS0.out; omega), Nat.lt_of_lt_of_le Z0.out b2.size⟩
  have O2 := (show Hid _ from ownsRow_base1 o2 (Nat.le_of_lt Z0.out))
  have G2 := (show Hid _ from g2)
  have x0 : w2.cell? ⟨w.heap.size, 0, none⟩ = some (.slice none 0 0) := by simp only [World.cell?, g2]; rfl
  have y0 : w2.frozen? ⟨w.heap.size, 0, none⟩ = false := by simp only [World.frozen?, g2]; rfl
  have x1 : w2.cell? ⟨w.heap.size, 1, none⟩ = some (.slice none 0 0) := by simp only [World.cell?, g2]; rfl
  have y1 : w2.frozen? ⟨w.heap.size, 1, none⟩ = false := by simp only [World.frozen?, g2]; rfl
  have x2 : w2.cell? ⟨w.heap.size, 2, none⟩ = some (.slice none 0 0) := by simp only [World.cell?, g2]; rfl
  have y2 : w2.frozen? ⟨w.heap.size, 2, none⟩ = false := by simp only [World.frozen?, g2]; rfl
  have x3 : w2.cell? ⟨w.heap.size, 3, none⟩ = some (.int .i64 0) := by simp only [World.cell?, g2]; rfl
  have y3 : w2.frozen? ⟨w.heap.size, 3, none⟩ = false := by simp only [World.frozen?, g2]; rfl
  have x4 : w2.cell? ⟨w.heap.size, 4, none⟩ = some (.int .i64 0) := by simp only [World.cell?, g2]; rfl
  have y4 : w2.frozen? ⟨w.heap.size, 4, none⟩ = false := by simp only [World.frozen?, g2]; rfl
  have x5 : w2.cell? ⟨w.heap.size, 5, none⟩ = some (.int .i64 0) := by simp only [World.cell?, g2]; rfl
  have y5 : w2.frozen? ⟨w.heap.size, 5, none⟩ = false := by simp only [World.frozen?, g2]; rfl
  have x6 : w2.cell? ⟨w.heap.size, 6, none⟩ = some (.int .i64 0) := by simp only [World.cell?, g2]; rfl
  have y6 : w2.frozen? ⟨w.heap.size, 6, none⟩ = false := by simp only [World.frozen?, g2]; rfl
  have x7 : w2.cell? ⟨w.heap.size, 7, none⟩ = some (.string ⟨#[]⟩) := by simp only [World.cell?, g2]; rfl
  have y7 : w2.frozen? ⟨w.heap.size, 7, none⟩ = false := by simp only [World.frozen?, g2]; rfl
  have x8 : w2.cell? ⟨w.heap.size, 8, none⟩ = some (.bool false) := by simp only [World.cell?, g2]; rfl
  have y8 : w2.frozen? ⟨w.heap.size, 8, none⟩ = false := by simp only [World.frozen?, g2]; rfl
  have x9 : w2.cell? ⟨w.heap.size, 9, none⟩ = some (.int .i64 0) := by simp only [World.cell?, g2]; rfl
  have y9 : w2.frozen? ⟨w.heap.size, 9, none⟩ = false := by simp only [World.frozen?, g2]; rfl
  clear g2 b2 t2 o2
  go_wp2
  have gb : w2.grownBy ((((((((((w2.setCell ⟨w.heap.size, 0, none⟩ (.slice (some ⟨g, 0, none⟩) 1 c)).setCell ⟨w.heap.size, 1, none⟩ (.slice none 0 0)).setCell ⟨w.heap.size, 2, none⟩ (.slice none 0 0)).setCell ⟨w.heap.size, 3, none⟩ (.int .i64 1)).setCell ⟨w.heap.size, 4, none⟩ (.int .i64 1)).setCell ⟨w.heap.size, 5, none⟩ (.int .i64 (-1))).setCell ⟨w.heap.size, 6, none⟩ (.int .i64 1)).setCell ⟨w.heap.size, 7, none⟩ (.string ⟨#[]⟩)).setCell ⟨w.heap.size, 8, none⟩ (.bool false)).setCell ⟨w.heap.size, 9, none⟩ (.int .i64 0)) (some w.heap.size) := ten_sets _ _ _ _ _ _ _ _ _ _ _ _
  refine bodyPost_ret (results_cell_row rfl _ _ w.heap.size 34 _ (0, 0) _ rfl (new_sets G2.out _) Try.underlying34 rfl rfl) rfl ?_
  refine ⟨_, rfl, ⟨_, rfl, ?_⟩, ?_⟩
  · exact row_grown O2.out gb (by have := HG.out; omega)
  · exact B2.out.grown gb B2.out.size (fun k hk => by cases hk; exact Nat.le_refl _)

set_option maxHeartbeats 2000000 in
set_option maxRecDepth 100000 in
theorem ibuildNew_any (w : World) : Calls Try.prog 11 #[] w fun e w' => ∃ u, e = .returned (newVal u) ∧ OneTree w.heap.size w' (.agg #[u]) 1 (-1) ⟨#[]⟩ ⟨#[]⟩ ∧ Below w.heap.size w w' := by
  have b0 : Below w.heap.size w (w.alloc (.cells #[.slice none 0 0, .slice none 0 0, .slice none 0 0, .int .i64 0, .int .i64 0, .int .i64 0, .int .i64 0, .string ⟨#[]⟩, .bool false, .int .i64 0] 34)) := (Below.refl _ _).alloc (Nat.le_refl _) _
  have g0 := heap_alloc_new w (.cells #[.slice none 0 0, .slice none 0 0, .slice none 0 0, .int .i64 0, .int .i64 0, .int .i64 0, .int .i64 0, .string ⟨#[]⟩, .bool false, .int .i64 0] 34)
  have z0 : w.heap.size < (w.alloc (.cells #[.slice none 0 0, .slice none 0 0, .slice none 0 0, .int .i64 0, .int .i64 0, .int .i64 0, .int .i64 0, .string ⟨#[]⟩, .bool false, .int .i64 0] 34)).heap.size := by simp
  have hs0 : (w.alloc (.cells #[.slice none 0 0, .slice none 0 0, .slice none 0 0, .int .i64 0, .int .i64 0, .int .i64 0, .int .i64 0, .string ⟨#[]⟩, .bool false, .int .i64 0] 34)).heap.size = w.heap.size + 1 := by simp
  have B0 := (show Hid _ from b0)
  have G0 := (show Hid _ from g0)
  have Z0 := (show Hid _ from z0)
  have HS0 := (show Hid _ from hs0)
  clear b0 g0 z0 hs0
  go_enter Try.func11, Try.ntmps11
  go_wp2_with fail
  go_at_call 32
  refine (itreeNew_any _).mono ?_
  rintro e w2 ⟨u, rfl, t2, b2⟩
  obtain ⟨g, c, rfl, hg, lg, o2⟩ := t2.slice
  have g2 := (b2.block w.heap.size Z0.out).trans G0.out
  have B2 := (show Hid (Below w.heap.size w w2) from B0.out.trans (b2.mono B0.out.size))
  have HG : Hid (w.heap.size < g ∧ w.heap.size < w2.heap.size) := ⟨(by have := HS0.out; omega), Nat.lt_of_lt_of_le Z0.out b2.size⟩
  have O2 := (show Hid _ from ownsRow_base1 o2 (Nat.le_of_lt Z0.out))
  have G2 := (show Hid _ from g2)
  have x0 : w2.cell? ⟨w.heap.size, 0, none⟩ = some (.slice none 0 0) := by simp only [World.cell?, g2]; rfl
  have y0 : w2.frozen? ⟨w.heap.size, 0, none⟩ = false := by simp only [World.frozen?, g2]; rfl
  have x1 : w2.cell? ⟨w.heap.size, 1, none⟩ = some (.slice none 0 0) := by simp only [World.cell?, g2]; rfl
  have y1 : w2.frozen? ⟨w.heap.size, 1, none⟩ = false := by simp only [World.frozen?, g2]; rfl
  have x2 : w2.cell? ⟨w.heap.size, 2, none⟩ = some (.slice none 0 0) := by simp only [World.cell?, g2]; rfl
  have y2 : w2.frozen? ⟨w.heap.size, 2, none⟩ = false := by simp only [World.frozen?, g2]; rfl
  have x3 : w2.cell? ⟨w.heap.size, 3, none⟩ = some (.int .i64 0) := by simp only [World.cell?, g2]; rfl
  have y3 : w2.frozen? ⟨w.heap.size, 3, none⟩ = false := by simp only [World.frozen?, g2]; rfl
  have x4 : w2.cell? ⟨w.heap.size, 4, none⟩ = some (.int .i64 0) := by simp only [World.cell?, g2]; rfl
  have y4 : w2.frozen? ⟨w.heap.size, 4, none⟩ = false := by simp only [World.frozen?, g2]; rfl
  have x5 : w2.cell? ⟨w.heap.size, 5, none⟩ = some (.int .i64 0) := by simp only [World.cell?, g2]; rfl
  have y5 : w2.frozen? ⟨w.heap.size, 5, none⟩ = false := by simp only [World.frozen?, g2]; rfl
  have x6 : w2.cell? ⟨w.heap.size, 6, none⟩ = some (.int .i64 0) := by simp only [World.cell?, g2]; rfl
  have y6 : w2.frozen? ⟨w.heap.size, 6, none⟩ = false := by simp only [World.frozen?, g2]; rfl
  have x7 : w2.cell? ⟨w.heap.size, 7, none⟩ = some (.string ⟨#[]⟩) := by simp only [World.cell?, g2]; rfl
  have y7 : w2.frozen? ⟨w.heap.size, 7, none⟩ = false := by simp only [World.frozen?, g2]; rfl
  have x8 : w2.cell? ⟨w.heap.size, 8, none⟩ = some (.bool false) := by simp only [World.cell?, g2]; rfl
  have y8 : w2.frozen? ⟨w.heap.size, 8, none⟩ = false := by simp only [World.frozen?, g2]; rfl
  have x9 : w2.cell? ⟨w.heap.size, 9, none⟩ = some (.int .i64 0) := by simp only [World.cell?, g2]; rfl
  have y9 : w2.frozen? ⟨w.heap.size, 9, none⟩ = false := by simp only [World.frozen?, g2]; rfl
  clear g2 b2 t2 o2
  go_wp2
  have gb : w2.grownBy ((((((((((w2.setCell ⟨w.heap.size, 0, none⟩ (.slice (some ⟨g, 0, none⟩) 1 c)).setCell ⟨w.heap.size, 1, none⟩ (.slice none 0 0)).setCell ⟨w.heap.size, 2, none⟩ (.slice none 0 0)).setCell ⟨w.heap.size, 3, none⟩ (.int .i64 1)).setCell ⟨w.heap.size, 4, none⟩ (.int .i64 1)).setCell ⟨w.heap.size, 5, none⟩ (.int .i64 (-1))).setCell ⟨w.heap.size, 6, none⟩ (.int .i64 1)).setCell ⟨w.heap.size, 7, none⟩ (.string ⟨#[]⟩)).setCell ⟨w.heap.size, 8, none⟩ (.bool false)).setCell ⟨w.heap.size, 9, none⟩ (.int .i64 0)) (some w.heap.size) := ten_sets _ _ _ _ _ _ _ _ _ _ _ _
  refine bodyPost_ret (results_cell_row rfl _ _ w.heap.size 34 _ (0, 0) _ rfl (new_sets G2.out _) Try.underlying34 rfl rfl) rfl ?_
  refine ⟨_, rfl, ⟨_, rfl, ?_⟩, ?_⟩
  · exact row_grown O2.out gb (by have := HG.out; omega)
  · exact B2.out.grown gb B2.out.size (fun k hk => by cases hk; exact Nat.le_refl _)

set_option maxHeartbeats 2000000 in
set_option maxRecDepth 100000 in
theorem eqBuild_new {B C : Nat} {u v : Value} {k p : Int} {n t : ByteArray} {w : World} (hu : OneTree B w (.agg #[u]) k p n t) (hv : OneTree C w (.agg #[v]) k p n t) : Calls Try.prog 9 #[newVal u, newVal v] w fun e w' => e = .returned (.bool true) ∧ Below w.heap.size w w' := by
  have HU : Hid (OneTree B w (.agg #[u]) k p n t) := hu
  have HV : Hid (OneTree C w (.agg #[v]) k p n t) := hv
  obtain ⟨g, cg, e, _, _, _, lg, _⟩ := hu.cells
  cases e
  obtain ⟨h, ch, e, _, _, _, lh, _⟩ := hv.cells
  cases e
  clear hu hv
  unfold newVal
  obtain ⟨w1, hw1⟩ : ∃ w1, w1 = ((w.alloc (.cells #[.slice (some ⟨g, 0, none⟩) 1 cg, .slice none 0 0, .slice none 0 0, .int .i64 1, .int .i64 1, .int .i64 (-1), .int .i64 1, .string ⟨#[]⟩, .bool false, .int .i64 0] 34)).alloc (.cells #[.slice (some ⟨h, 0, none⟩) 1 ch, .slice none 0 0, .slice none 0 0, .int .i64 1, .int .i64 1, .int .i64 (-1), .int .i64 1, .string ⟨#[]⟩, .bool false, .int .i64 0] 34)) := ⟨_, rfl⟩
  have b1 : Below w.heap.size w w1 := by rw [hw1]; exact ((Below.refl _ _).alloc (Nat.le_refl _) _).alloc (by simp) _
  have n1 : NewAt w1 w.heap.size (.slice (some ⟨g, 0, none⟩) 1 cg) := by
    rw [hw1]
    exact (newAt_alloc w _).below ((Below.refl _ _).alloc (Nat.le_refl _) _)
  have n2 : NewAt w1 (w.heap.size + 1) (.slice (some ⟨h, 0, none⟩) 1 ch) := by
    rw [hw1]
    have := newAt_alloc (w.alloc (.cells #[.slice (some ⟨g, 0, none⟩) 1 cg, .slice none 0 0, .slice none 0 0, .int .i64 1, .int .i64 1, .int .i64 (-1), .int .i64 1, .string ⟨#[]⟩, .bool false, .int .i64 0] 34)) (.slice (some ⟨h, 0, none⟩) 1 ch)
    rwa [World.size_alloc] at this
  have HB1 := (show Hid _ from b1)
  have N1 := (show Hid _ from n1)
  have N2 := (show Hid _ from n2)
  clear b1 n1 n2
  go_enter Try.func9, Try.ntmps9
  go_wp2_with fail
  go_at_call 29
  rw [← hw1]
  clear hw1
  refine (eqTree_one (HU.out.below HB1.out) (HV.out.below HB1.out)).mono ?_
  rintro e w2 ⟨rfl, b2⟩
  have n1 := NewAt.below N1.out b2
  have n2 := NewAt.below N2.out b2
  have HB := (show Hid _ from HB1.out.trans (b2.mono HB1.out.size))
  have x0 := n1.c0
  have x1 := n1.c1
  have x2 := n1.c2
  have x3 := n1.c3
  have x4 := n1.c4
  have x5 := n1.c5
  have x6 := n1.c6
  have x7 := n1.c7
  have x8 := n1.c8
  have x9 := n1.c9
  have y0 := n2.c0
  have y1 := n2.c1
  have y2 := n2.c2
  have y3 := n2.c3
  have y4 := n2.c4
  have y5 := n2.c5
  have y6 := n2.c6
  have y7 := n2.c7
  have y8 := n2.c8
  have y9 := n2.c9
  clear b2 n1 n2
  go_wp2_with ((go_at_call 30; refine (eqIntS_nil _).mono ?_; rintro e w' ⟨rfl, rfl⟩))
  go_ret
  exact ⟨rfl, HB.out⟩

set_option maxHeartbeats 2000000 in
set_option maxRecDepth 100000 in
theorem heldBuild_new {B : Nat} {u : Value} {w : World} (hu : OneTree B w (.agg #[u]) 1 4 (mt 2) (mt 3)) : Calls Try.prog 13 #[newVal u, .int .i64 1] w fun e w' => e = .returned (.int .i64 5) ∧ Below w.heap.size w w' := by
  have HU : Hid (OneTree B w (.agg #[u]) 1 4 (mt 2) (mt 3)) := hu
  obtain ⟨g, cg, e, _, _, _, lg, _⟩ := hu.cells
  cases e
  clear hu
  unfold newVal
  obtain ⟨w1, hw1⟩ : ∃ w1, w1 = (w.alloc (.cells #[.slice (some ⟨g, 0, none⟩) 1 cg, .slice none 0 0, .slice none 0 0, .int .i64 1, .int .i64 1, .int .i64 (-1), .int .i64 1, .string ⟨#[]⟩, .bool false, .int .i64 0] 34)) := ⟨_, rfl⟩
  have b1 : Below w.heap.size w w1 := by rw [hw1]; exact (Below.refl _ _).alloc (Nat.le_refl _) _
  have n1 : NewAt w1 w.heap.size (.slice (some ⟨g, 0, none⟩) 1 cg) := by rw [hw1]; exact newAt_alloc w _
  have HB1 := (show Hid _ from b1)
  have N1 := (show Hid _ from n1)
  clear b1 n1
  go_enter Try.func13, Try.ntmps13
  go_wp2_with fail
  go_at_call 35
  rw [← hw1]
  clear hw1
  refine (heldTree_one (HU.out.below HB1.out)).mono ?_
  rintro e w2 ⟨rfl, b2⟩
  have n1 := NewAt.below N1.out b2
  have HB := (show Hid _ from HB1.out.trans (b2.mono HB1.out.size))
  have x0 := n1.c0
  have x1 := n1.c1
  have x2 := n1.c2
  have x3 := n1.c3
  have x4 := n1.c4
  have x5 := n1.c5
  have x6 := n1.c6
  have x7 := n1.c7
  have x8 := n1.c8
  have x9 := n1.c9
  clear b2 n1
  go_wp2_with ((go_at_call 36; refine (heldIntS_nil _ _).mono ?_; rintro e w' ⟨rfl, rfl⟩))
  go_ret
  exact ⟨rfl, HB.out⟩

set_option maxHeartbeats 2000000 in
set_option maxRecDepth 100000 in
theorem markBuild_new {B : Nat} {g cap : Nat} {k p : Int} {n t : ByteArray} {w : World} (hu : w.ownsRow B 49 6 (.slice (some ⟨g, 0, none⟩) 1 cap) 1 (bareNode k p n t)) (hg : g < w.heap.size) :
    Calls Try.prog 12 #[newVal (.slice (some ⟨g, 0, none⟩) 1 cap), .int .i64 1] w fun e w' => e = .returned (.int .i64 5) ∧ w'.ownsRow B 49 6 (.slice (some ⟨g, 0, none⟩) 1 cap) 1 (bareNode 1 4 (mt 2) (mt 3)) ∧ w.grownBy w' (some g) := by
  unfold newVal
  obtain ⟨w1, hw1⟩ : ∃ w1, w1 = (w.alloc (.cells #[.slice (some ⟨g, 0, none⟩) 1 cap, .slice none 0 0, .slice none 0 0, .int .i64 1, .int .i64 1, .int .i64 (-1), .int .i64 1, .string ⟨#[]⟩, .bool false, .int .i64 0] 34)) := ⟨_, rfl⟩
  have b1 : Below w.heap.size w w1 := by rw [hw1]; exact (Below.refl _ _).alloc (Nat.le_refl _) _
  have n1 : NewAt w1 w.heap.size (.slice (some ⟨g, 0, none⟩) 1 cap) := by rw [hw1]; exact newAt_alloc w _
  have HB1 := (show Hid _ from b1)
  have N1 := (show Hid _ from n1)
  have HO := (show Hid _ from row_below hu b1)
  have hne : w.heap.size ≠ g := by omega
  have HNE := (show Hid (w.heap.size ≠ g) from hne)
  clear hne
  clear b1 n1 hu
  go_enter Try.func12, Try.ntmps12
  go_wp2_with fail
  go_at_call 33
  rw [← hw1]
  clear hw1
  refine (markTree_one HO.out).mono ?_
  rintro e w2 ⟨rfl, o2, g2⟩
  have n1 := NewAt.by N1.out g2 HNE.out
  have HG := (show Hid (w.grownBy w2 (some g)) from grown_trans (below_by g HB1.out) g2)
  have O2 := (show Hid _ from o2)
  have x0 := n1.c0
  have x1 := n1.c1
  have x2 := n1.c2
  have x3 := n1.c3
  have x4 := n1.c4
  have x5 := n1.c5
  have x6 := n1.c6
  have x7 := n1.c7
  have x8 := n1.c8
  have x9 := n1.c9
  clear g2 n1 o2
  go_wp2_with ((go_at_call 34; refine (markIntS_nil _ _).mono ?_; rintro e w' ⟨rfl, rfl⟩))
  go_ret
  exact ⟨rfl, O2.out, HG.out⟩

set_option maxHeartbeats 4000000 in
set_option maxRecDepth 100000 in
theorem fnExactBuildNew_walk (w : World) : Calls Try.prog 4 #[] w fun e w' => e = .returned (.bool true) ∧ Below w.heap.size w w' := by
  go_enter Try.func4, Try.ntmps4
  go_wp2_with fail
  go_at_call 10
  refine (sbuildNew_any _).mono ?_
  rintro e w1 ⟨u, rfl, t1, b1⟩
  obtain ⟨g1, c1, e, _, lg1, o1⟩ := t1.slice
  cases e
  unfold newVal
  obtain ⟨w1', hw1⟩ : ∃ x, x = w1.alloc (.cells #[.slice (some ⟨g1, 0, none⟩) 1 c1, .slice none 0 0, .slice none 0 0, .int .i64 1, .int .i64 1, .int .i64 (-1), .int .i64 1, .string ⟨#[]⟩, .bool false, .int .i64 0] 34) := ⟨_, rfl⟩
  have x1 : Below w1.heap.size w1 w1' := by rw [hw1]; exact (Below.refl _ _).alloc (Nat.le_refl _) _
  have l1 : NewAt w1' w1.heap.size (.slice (some ⟨g1, 0, none⟩) 1 c1) := by rw [hw1]; exact newAt_alloc w1 _
  have O1 := (show Hid _ from row_below o1 x1)
  have B1 := (show Hid (Below w.heap.size w w1') from b1.trans (x1.mono b1.size))
  have L1 := (show Hid _ from l1)
  have Z1 := (show Hid (w1.heap.size < w1'.heap.size) from l1.lt)
  clear t1 o1 x1 b1 l1
  go_wp2_with fail
  go_at_call 11
  rw [← hw1]
  clear hw1
  refine (ibuildNew_any _).mono ?_
  rintro e w2 ⟨u, rfl, t2, b2⟩
  obtain ⟨g2, c2, e, hg2, lg2, o2⟩ := t2.slice
  cases e
  unfold newVal
  have n12 : g1 ≠ g2 := by have := Z1.out; omega
  have nl1 : w1.heap.size ≠ g2 := by have := Z1.out; omega
  have nl2 : w2.heap.size ≠ g2 := by omega
  have l1 := NewAt.below L1.out b2
  obtain ⟨w2', hw2⟩ : ∃ x, x = w2.alloc (.cells #[.slice (some ⟨g2, 0, none⟩) 1 c2, .slice none 0 0, .slice none 0 0, .int .i64 1, .int .i64 1, .int .i64 (-1), .int .i64 1, .string ⟨#[]⟩, .bool false, .int .i64 0] 34) := ⟨_, rfl⟩
  have x2 : Below w2.heap.size w2 w2' := by rw [hw2]; exact (Below.refl _ _).alloc (Nat.le_refl _) _
  have l2 : NewAt w2' w2.heap.size (.slice (some ⟨g2, 0, none⟩) 1 c2) := by rw [hw2]; exact newAt_alloc w2 _
  have O1b := (show Hid _ from row_below (row_below O1.out b2) x2)
  have O2 := (show Hid _ from row_below o2 x2)
  have B2 := (show Hid (Below w.heap.size w w2') from (B1.out.trans (b2.mono B1.out.size)).trans (x2.mono (Nat.le_trans B1.out.size b2.size)))
  have L1b := (show Hid _ from l1.below x2)
  have L2 := (show Hid _ from l2)
  have N := (show Hid (g1 ≠ g2 ∧ w1.heap.size ≠ g2 ∧ w2.heap.size ≠ g2) from ⟨n12, nl1, nl2⟩)
  have HG2 := (show Hid (w.heap.size ≤ g2 ∧ g2 < w2'.heap.size) from ⟨Nat.le_trans B1.out.size hg2, Nat.lt_of_lt_of_le lg2 x2.size⟩)
  have p0 := l1.c0
  have p1 := l1.c1
  have p2 := l1.c2
  have p3 := l1.c3
  have p4 := l1.c4
  have p5 := l1.c5
  have p6 := l1.c6
  have p7 := l1.c7
  have p8 := l1.c8
  have p9 := l1.c9
  have y1 := l1.lt
  clear t2 o2 x2 b2 l1 l2 O1 B1 L1 hg2 n12 nl1 nl2 Z1
  go_wp2_with fail
  go_at_call 9
  rw [← hw2]
  clear hw2 p0 p1 p2 p3 p4 p5 p6 p7 p8 p9 y1
  refine (eqBuild_new ⟨_, rfl, O2.out⟩ ⟨_, rfl, O1b.out⟩).mono ?_
  rintro e w3 ⟨rfl, b3⟩
  have l1 := NewAt.below L1b.out b3
  have l2 := NewAt.below L2.out b3
  have q0 := l2.c0
  have q1 := l2.c1
  have q2 := l2.c2
  have q3 := l2.c3
  have q4 := l2.c4
  have q5 := l2.c5
  have q6 := l2.c6
  have q7 := l2.c7
  have q8 := l2.c8
  have q9 := l2.c9
  have O1c := (show Hid _ from row_below O1b.out b3)
  have O2c := (show Hid _ from row_below O2.out b3)
  have B3 := (show Hid _ from B2.out.trans (b3.mono B2.out.size))
  have L1c := (show Hid _ from l1)
  have L2c := (show Hid _ from l2)
  have HG3 := (show Hid (w.heap.size ≤ g2 ∧ g2 < w3.heap.size) from ⟨HG2.out.1, Nat.lt_of_lt_of_le HG2.out.2 b3.size⟩)
  clear b3 l1 l2 O1b O2 B2 L1b L2 HG2
  go_wp2_with fail
  go_at_call 12
  refine (markBuild_new O2c.out HG3.out.2).mono ?_
  clear q0 q1 q2 q3 q4 q5 q6 q7 q8 q9
  rintro e w4 ⟨rfl, o4, g4⟩
  have l1 := NewAt.by L1c.out g4 N.out.2.1
  have l2 := NewAt.by L2c.out g4 N.out.2.2
  have q0 := l2.c0
  have q1 := l2.c1
  have q2 := l2.c2
  have q3 := l2.c3
  have q4 := l2.c4
  have q5 := l2.c5
  have q6 := l2.c6
  have q7 := l2.c7
  have q8 := l2.c8
  have q9 := l2.c9
  have O1d := (show Hid _ from row_grown O1c.out g4 N.out.1)
  have O4 := (show Hid _ from o4)
  have B4 := (show Hid _ from B3.out.grown g4 B3.out.size (fun k hk => by cases hk; exact HG3.out.1))
  have L1d := (show Hid _ from l1)
  have L2d := (show Hid _ from l2)
  clear g4 o4 l1 l2 O1c O2c B3 L1c L2c
  go_wp2_with fail
  go_at_call 13
  refine (heldBuild_new ⟨_, rfl, O4.out⟩).mono ?_
  clear q0 q1 q2 q3 q4 q5 q6 q7 q8 q9
  rintro e w5 ⟨rfl, b5⟩
  have O1e := (show Hid _ from row_below O1d.out b5)
  have O5 := (show Hid _ from row_below O4.out b5)
  have B5 := (show Hid _ from B4.out.trans (b5.mono B4.out.size))
  have L1e := (show Hid _ from NewAt.below L1d.out b5)
  have L2e := (show Hid _ from NewAt.below L2d.out b5)
  clear b5 O1d O4 B4 L1d L2d
  go_wp2_with fail
  go_at_call 11
  refine (ibuildNew_any _).mono ?_
  rintro e w6 ⟨u, rfl, t6, b6⟩
  obtain ⟨g6, c6, e, hg6, lg6, o6⟩ := t6.slice
  cases e
  unfold newVal
  have l1 := NewAt.below L1e.out b6
  have l2 := NewAt.below L2e.out b6
  obtain ⟨w6', hw6⟩ : ∃ x, x = w6.alloc (.cells #[.slice (some ⟨g6, 0, none⟩) 1 c6, .slice none 0 0, .slice none 0 0, .int .i64 1, .int .i64 1, .int .i64 (-1), .int .i64 1, .string ⟨#[]⟩, .bool false, .int .i64 0] 34) := ⟨_, rfl⟩
  have x6 : Below w6.heap.size w6 w6' := by rw [hw6]; exact (Below.refl _ _).alloc (Nat.le_refl _) _
  have O1f := (show Hid _ from row_below (row_below O1e.out b6) x6)
  have O6 := (show Hid _ from row_below o6 x6)
  have O5f := (show Hid _ from row_below (row_below O5.out b6) x6)
  have B6 := (show Hid (Below w.heap.size w w6') from (B5.out.trans (b6.mono B5.out.size)).trans (x6.mono (Nat.le_trans B5.out.size b6.size)))
  have L2f := (show Hid _ from l2.below x6)
  have p0 := l1.c0
  have p1 := l1.c1
  have p2 := l1.c2
  have p3 := l1.c3
  have p4 := l1.c4
  have p5 := l1.c5
  have p6 := l1.c6
  have p7 := l1.c7
  have p8 := l1.c8
  have p9 := l1.c9
  have y1 := l1.lt
  clear t6 o6 x6 b6 l1 l2 O1e O5 B5 L1e L2e hg6
  go_wp2_with fail
  go_at_call 9
  rw [← hw6]
  clear hw6 p0 p1 p2 p3 p4 p5 p6 p7 p8 p9 y1
  refine (eqBuild_new ⟨_, rfl, O6.out⟩ ⟨_, rfl, O1f.out⟩).mono ?_
  rintro e w7 ⟨rfl, b7⟩
  have l2 := NewAt.below L2f.out b7
  have q0 := l2.c0
  have q1 := l2.c1
  have q2 := l2.c2
  have q3 := l2.c3
  have q4 := l2.c4
  have q5 := l2.c5
  have q6 := l2.c6
  have q7 := l2.c7
  have q8 := l2.c8
  have q9 := l2.c9
  have O7 := (show Hid _ from row_below O5f.out b7)
  have B7 := (show Hid _ from B6.out.trans (b7.mono B6.out.size))
  clear b7 l2 O1f O6 O5f B6 L2f
  go_wp2_with fail
  go_at_call 13
  refine (heldBuild_new ⟨_, rfl, O7.out⟩).mono ?_
  clear q0 q1 q2 q3 q4 q5 q6 q7 q8 q9
  rintro e w8 ⟨rfl, b8⟩
  have B8 := (show Hid _ from B7.out.trans (b8.mono B7.out.size))
  clear b8
  go_wp2
  go_ret
  exact ⟨rfl, B8.out⟩
end Go.Proofs.Ytmccbommmjdbdaa
