/- The program's nameSetOf: a set of names, made of lists of names. -/
import Derived.Test.YtogdbjafibejdaaGreatX29
import Derived.Maps.OwnSet
import Derived.Maps.Views
import Derived.Test.YtogdbjafibejdaaGreatX28
import Derived.Test.YtogdbjafibejdaaGreatX17
namespace Go.Proofs.YtogdbjafibejdaaGreat
open Go.RowKit Go.Maps
set_option maxRecDepth 100000
set_option linter.unusedVariables false

theorem lawSet : Keyed Tryz.prog 9 := string_keyed Tryz.underlying9
theorem keyOf_set {s : ByteArray} (h : s.size ≤ maxLen) : keyOf Tryz.prog 9 (.string s) = some (.string s.data.toList) := by
  simp [keyOf, Tryz.underlying9, mapKey, h]
/-- The datum D is a set of the names xs. -/
def SetOf (D : DataW Unit) (xs : List ByteArray) : Prop := IsMap D ∧ ∀ s : ByteArray, has D (.string s.data.toList) = hasB xs s

theorem hasB_append (xs ys : List ByteArray) (s : ByteArray) : hasB (xs ++ ys) s = (hasB xs s || hasB ys s) := by
  simp [hasB]
theorem hasB_one (t s : ByteArray) : hasB [t] s = (s.toList == t.toList) := by simp [hasB]
theorem setOf_nil : SetOf (.map []) [] := ⟨isMap_empty, fun s => rfl⟩

theorem data_ne {s t : ByteArray} (h : s ≠ t) : (Lit.string s.data.toList) ≠ Lit.string t.data.toList := by
  intro e
  injection e with e
  apply h
  cases s; cases t
  congr 1
  exact Array.toList_inj.mp e

theorem SetOf.put {D : DataW Unit} {xs : List ByteArray} (h : SetOf D xs) {D' : DataW Unit} (t : ByteArray) (hi : IsMap D') (e : D' = D.put (.string t.data.toList) (.agg [])) : SetOf D' (xs ++ [t]) := by
  refine ⟨hi, fun s => ?_⟩
  rw [e, hasB_append, hasB_one]
  by_cases hst : s = t
  · subst hst
    rw [has_put_same h.1 (show WideAt.IsKeyLit (.string _) from trivial)]
    simp
  · rw [has_put_other (data_ne hst), h.2 s, toList_no hst]
    simp

/-- The block g holds slices, each of a block of names. -/
def Rows (w : World) (g : Nat) (ps : List (Nat × List ByteArray)) : Prop :=
  g < w.heap.size ∧ ∀ k (hk : k < ps.length), w.cell? ⟨g, k, none⟩ = some (.slice (some ⟨ps[k].1, 0, none⟩) ps[k].2.length ps[k].2.length) ∧ ps[k].1 < w.heap.size ∧ Txt w ps[k].1 ps[k].2 ∧ ps[k].2.length ≤ 100 ∧ ∀ s ∈ ps[k].2, s.size ≤ 100

def allOf (ps : List (Nat × List ByteArray)) : List ByteArray := ps.flatMap (·.2)
theorem allOf_succ {ps : List (Nat × List ByteArray)} {k : Nat} (h : k < ps.length) : allOf (ps.take (k + 1)) = allOf (ps.take k) ++ ps[k].2 := by
  unfold allOf
  rw [List.take_succ_eq_append_getElem h, List.flatMap_append]
  simp
theorem take_one {α : Type} {l : List α} {k : Nat} (h : k < l.length) : l.take (k + 1) = l.take k ++ [l[k]] := List.take_succ_eq_append_getElem h

end Go.Proofs.YtogdbjafibejdaaGreat

/- The lists of names of chapter 9, and the program's functions that answer them (written by mk/ikind.py). -/
namespace Go.Proofs.YtogdbjafibejdaaGreat
open Go.RowKit Go.Maps
set_option maxRecDepth 100000
set_option linter.unusedVariables false

def formats : List ByteArray := [⟨#[97]⟩, ⟨#[98]⟩, ⟨#[98, 105, 103]⟩, ⟨#[99, 111, 100, 101]⟩, ⟨#[101, 109]⟩, ⟨#[102, 111, 110, 116]⟩, ⟨#[105]⟩, ⟨#[110, 111, 98, 114]⟩, ⟨#[115]⟩, ⟨#[115, 109, 97, 108, 108]⟩, ⟨#[115, 116, 114, 105, 107, 101]⟩, ⟨#[115, 116, 114, 111, 110, 103]⟩, ⟨#[116, 116]⟩, ⟨#[117]⟩]
def blocks : List ByteArray := [⟨#[97, 100, 100, 114, 101, 115, 115]⟩, ⟨#[97, 114, 116, 105, 99, 108, 101]⟩, ⟨#[97, 115, 105, 100, 101]⟩, ⟨#[98, 108, 111, 99, 107, 113, 117, 111, 116, 101]⟩, ⟨#[99, 101, 110, 116, 101, 114]⟩, ⟨#[100, 101, 116, 97, 105, 108, 115]⟩, ⟨#[100, 105, 97, 108, 111, 103]⟩, ⟨#[100, 105, 114]⟩, ⟨#[100, 105, 118]⟩, ⟨#[100, 108]⟩, ⟨#[102, 105, 101, 108, 100, 115, 101, 116]⟩, ⟨#[102, 105, 103, 99, 97, 112, 116, 105, 111, 110]⟩, ⟨#[102, 105, 103, 117, 114, 101]⟩, ⟨#[102, 111, 111, 116, 101, 114]⟩, ⟨#[104, 101, 97, 100, 101, 114]⟩, ⟨#[104, 103, 114, 111, 117, 112]⟩, ⟨#[109, 97, 105, 110]⟩, ⟨#[109, 101, 110, 117]⟩, ⟨#[110, 97, 118]⟩, ⟨#[111, 108]⟩, ⟨#[112]⟩, ⟨#[115, 101, 97, 114, 99, 104]⟩, ⟨#[115, 101, 99, 116, 105, 111, 110]⟩, ⟨#[115, 117, 109, 109, 97, 114, 121]⟩, ⟨#[117, 108]⟩]
def headings : List ByteArray := [⟨#[104, 49]⟩, ⟨#[104, 50]⟩, ⟨#[104, 51]⟩, ⟨#[104, 52]⟩, ⟨#[104, 53]⟩, ⟨#[104, 54]⟩]
def heads : List ByteArray := [⟨#[98, 97, 115, 101]⟩, ⟨#[108, 105, 110, 107]⟩, ⟨#[109, 101, 116, 97]⟩, ⟨#[110, 111, 102, 114, 97, 109, 101, 115]⟩, ⟨#[115, 99, 114, 105, 112, 116]⟩, ⟨#[115, 116, 121, 108, 101]⟩, ⟨#[116, 105, 116, 108, 101]⟩]
def otherSpecials : List ByteArray := [⟨#[97, 112, 112, 108, 101, 116]⟩, ⟨#[97, 114, 101, 97]⟩, ⟨#[98, 111, 100, 121]⟩, ⟨#[98, 114]⟩, ⟨#[98, 117, 116, 116, 111, 110]⟩, ⟨#[100, 100]⟩, ⟨#[100, 116]⟩, ⟨#[101, 109, 98, 101, 100]⟩, ⟨#[104, 101, 97, 100]⟩, ⟨#[104, 114]⟩, ⟨#[104, 116, 109, 108]⟩, ⟨#[105, 102, 114, 97, 109, 101]⟩, ⟨#[105, 109, 103]⟩, ⟨#[105, 110, 112, 117, 116]⟩, ⟨#[108, 105]⟩, ⟨#[108, 105, 115, 116, 105, 110, 103]⟩, ⟨#[109, 97, 114, 113, 117, 101, 101]⟩, ⟨#[110, 111, 101, 109, 98, 101, 100]⟩, ⟨#[111, 98, 106, 101, 99, 116]⟩, ⟨#[112, 97, 114, 97, 109]⟩, ⟨#[112, 108, 97, 105, 110, 116, 101, 120, 116]⟩, ⟨#[112, 114, 101]⟩, ⟨#[115, 111, 117, 114, 99, 101]⟩, ⟨#[116, 97, 98, 108, 101]⟩, ⟨#[116, 100]⟩, ⟨#[116, 101, 120, 116, 97, 114, 101, 97]⟩, ⟨#[116, 104]⟩, ⟨#[116, 114]⟩, ⟨#[116, 114, 97, 99, 107]⟩, ⟨#[119, 98, 114]⟩, ⟨#[120, 109, 112]⟩]
def implieds : List ByteArray := [⟨#[100, 100]⟩, ⟨#[100, 116]⟩, ⟨#[108, 105]⟩, ⟨#[111, 112, 116, 103, 114, 111, 117, 112]⟩, ⟨#[111, 112, 116, 105, 111, 110]⟩, ⟨#[112]⟩]
def bounds : List ByteArray := [⟨#[97, 112, 112, 108, 101, 116]⟩, ⟨#[104, 116, 109, 108]⟩, ⟨#[109, 97, 114, 113, 117, 101, 101]⟩, ⟨#[111, 98, 106, 101, 99, 116]⟩, ⟨#[116, 97, 98, 108, 101]⟩, ⟨#[116, 100]⟩, ⟨#[116, 104]⟩]

def dialogB : ByteArray := ⟨#[100, 105, 97, 108, 111, 103]⟩
def searchB : ByteArray := ⟨#[115, 101, 97, 114, 99, 104]⟩

end Go.Proofs.YtogdbjafibejdaaGreat

/- The program's elementKind, specialSet, isOfKind and the seven kinds (written by mk/ikind2.py). -/
namespace Go.Proofs.YtogdbjafibejdaaGreat
open Go.RowKit Go.Maps
set_option maxRecDepth 100000
set_option linter.unusedVariables false

/-- The datum D is a set of the names that f tells. -/
def SetF (D : DataW Unit) (f : ByteArray → Bool) : Prop := IsMap D ∧ ∀ s : ByteArray, has D (.string s.data.toList) = f s
/-- A set of the names that f tells, in a block of the call's own. -/
def Kept (w : World) (f : ByteArray → Bool) (b : Nat) (w' : World) : Prop := ∃ m D, m ≤ 1000 ∧ w.heap.size ≤ b ∧ w'.ownsMap Tryz.prog 9 unitElem b m D ∧ SetF D f ∧ Below w.heap.size w w'

def RowOk (w : World) (p : Nat × List ByteArray) : Prop := p.1 < w.heap.size ∧ Txt w p.1 p.2 ∧ p.2.length ≤ 100 ∧ ∀ s ∈ p.2, s.size ≤ 100
theorem Txt.below {w w' : World} {B g : Nat} {xs : List ByteArray} (h : Txt w g xs) (hb : Below B w w') (hg : g < B) : Txt w' g xs :=
  fun j hj => (hb.cell hg).trans (h j hj)
theorem RowOk.below {w w' : World} {p : Nat × List ByteArray} (h : RowOk w p) (hb : Below w.heap.size w w') : RowOk w' p :=
  ⟨Nat.lt_of_lt_of_le h.1 hb.size, h.2.1.below hb h.1, h.2.2⟩

theorem small_formats : formats.length ≤ 100 ∧ ∀ s ∈ formats, s.size ≤ 100 := by decide
theorem small_blocks : blocks.length ≤ 100 ∧ ∀ s ∈ blocks, s.size ≤ 100 := by decide
theorem small_headings : headings.length ≤ 100 ∧ ∀ s ∈ headings, s.size ≤ 100 := by decide
theorem small_heads : heads.length ≤ 100 ∧ ∀ s ∈ heads, s.size ≤ 100 := by decide
theorem small_otherSpecials : otherSpecials.length ≤ 100 ∧ ∀ s ∈ otherSpecials, s.size ≤ 100 := by decide
theorem small_implieds : implieds.length ≤ 100 ∧ ∀ s ∈ implieds, s.size ≤ 100 := by decide
theorem small_bounds : bounds.length ≤ 100 ∧ ∀ s ∈ bounds, s.size ≤ 100 := by decide

theorem alloc_size9 (w : World) (o : Obj) : (w.alloc o).heap.size = w.heap.size + 1 := by simp

theorem rows_alloc {w : World} (ps : List (Nat × List ByteArray)) (h : ∀ p ∈ ps, RowOk w p) (cs : Array Value) (t : TypeId)
    (hcs : cs.toList = ps.map fun p => Value.slice (some ⟨p.1, 0, none⟩) p.2.length p.2.length) : Rows (w.alloc (.cells cs t)) w.heap.size ps := by
  refine ⟨by simp, fun k hk => ?_⟩
  obtain ⟨r1, r2, r3, r4⟩ := (h ps[k] (List.getElem_mem hk)).below ((Below.refl w.heap.size w).alloc (Nat.le_refl _) (.cells cs t))
  refine ⟨?_, r1, r2, r3, r4⟩
  have e2 : cs[k]? = some (.slice (some ⟨ps[k].1, 0, none⟩) ps[k].2.length ps[k].2.length) := by
    have : cs.toList[k]? = some (.slice (some ⟨ps[k].1, 0, none⟩) ps[k].2.length ps[k].2.length) := by rw [hcs]; simp [hk]
    simpa using this
  simp only [World.cell?, heap_alloc_new]
  simpa using e2

theorem SetOf.setF {D : DataW Unit} {ps : List (Nat × List ByteArray)} (h : SetOf D (allOf ps)) {xs : List ByteArray} (e : allOf ps = xs) : SetF D (hasB xs) := ⟨h.1, by rw [← e]; exact h.2⟩

def specialF (s : ByteArray) : Bool := hasB (blocks ++ (headings ++ (heads ++ otherSpecials))) s && (!(s.toList == dialogB.toList) && !(s.toList == searchB.toList))

theorem SetF.del {D : DataW Unit} {f : ByteArray → Bool} (h : SetF D f) {D' : DataW Unit} (t : ByteArray) (hi : IsMap D') (e : D' = D.del (.string t.data.toList)) : SetF D' (fun s => f s && !(s.toList == t.toList)) := by
  refine ⟨hi, fun s => ?_⟩
  rw [e]
  show _ = (f s && !(s.toList == t.toList))
  by_cases hst : s = t
  · subst hst
    rw [has_del_same]
    simp
  · rw [has_del_other (data_ne hst), h.2 s, toList_no hst]
    simp

end Go.Proofs.YtogdbjafibejdaaGreat

/- The program's lastThat with the closures of a row (written by mk/irow3.py). No condition. -/
namespace Go.Proofs.YtogdbjafibejdaaGreat
open Go.RowKit
set_option maxRecDepth 100000
set_option linter.unusedVariables false

/-- The receiver's box and the name's box of a closure over a row. -/
structure Boxes (w : World) (R M A : Nat) (v : Value) (nm : ByteArray) : Prop where
  r1 : w.cell? ⟨R, 1, none⟩ = some (.pointer (some ⟨A, 0, none⟩))
  a0 : w.cell? ⟨A, 0, none⟩ = some v
  m0 : w.cell? ⟨M, 0, none⟩ = some (.string nm)
theorem Boxes.below {w w' : World} {R M A : Nat} {v : Value} {nm : ByteArray} (h : Boxes w R M A v nm) (hb : Below w.heap.size w w') : Boxes w' R M A v nm :=
  ⟨(hb.cell (p := ⟨R, 1, none⟩) (lt_of_cell h.r1)).trans h.r1, (hb.cell (p := ⟨A, 0, none⟩) (lt_of_cell h.a0)).trans h.a0, (hb.cell (p := ⟨M, 0, none⟩) (lt_of_cell h.m0)).trans h.m0⟩

/-- Of that name, or not implied. -/
def stays (ns : List PNode) (nm : ByteArray) (x : Int) : Bool := decide (nmOf ns x = nm) || !(hasB implieds (nmOf ns x))

end Go.Proofs.YtogdbjafibejdaaGreat

/- The program's OpenAt, PopTo and PopImplied (written by mk/irow4.py). No condition. -/
namespace Go.Proofs.YtogdbjafibejdaaGreat
open Go.RowKit
set_option maxRecDepth 100000
set_option linter.unusedVariables false

/-- A row beside its nodes, as the program keeps it. -/
structure RowAt (w : World) (A : Nat) (v rv : Value) (ns : List PNode) (row : List Int) : Prop where
  nodes : NodesAt w v ns
  fit : ∀ n ∈ ns, NodeFit n
  len : ns.length ≤ 1048576
  a0 : w.cell? ⟨A, 0, none⟩ = some v
  sl : Sl .i64 w rv row
  row : RowP ns row
theorem RowAt.below {w w' : World} {A : Nat} {v rv : Value} {ns : List PNode} {row : List Int} (h : RowAt w A v rv ns row) (hb : Below w.heap.size w w') : RowAt w' A v rv ns row :=
  ⟨h.nodes.below hb, h.fit, h.len, (hb.cell (p := ⟨A, 0, none⟩) (lt_of_cell h.a0)).trans h.a0, h.sl.below hb, h.row⟩
theorem RowAt.el {w : World} {A : Nat} {v rv : Value} {ns : List PNode} {row : List Int} (h : RowAt w A v rv ns row) : ∀ x ∈ row, elB ns x = true := fun x hx => by
  obtain ⟨i, hi, rfl⟩ := List.mem_iff_getElem.mp hx
  exact h.row.el i hi

/-- What is left of the row without the implied ones at its end. -/
def impL (ns : List PNode) (nm : ByteArray) (row : List Int) : List Int := row.take (max (lastAt (stays ns nm) row row.length) 1)

end Go.Proofs.YtogdbjafibejdaaGreat

/- The program's copyOfNodes. No condition. -/
namespace Go.Proofs.YtogdbjafibejdaaGreat
open Go.RowKit
set_option maxRecDepth 100000
set_option linter.unusedVariables false

theorem six_of {zs : List Value} {m : Nat} (h : zs.length = (m + 1) * 6) : ∃ a0 a1 a2 a3 a4 a5 rest, zs = a0 :: a1 :: a2 :: a3 :: a4 :: a5 :: rest ∧ rest.length = m * 6 := by
  match zs, h with
  | a0 :: a1 :: a2 :: a3 :: a4 :: a5 :: rest, h => exact ⟨a0, a1, a2, a3, a4, a5, rest, rfl, by simp only [List.length_cons] at h; omega⟩
  | [], h => simp only [List.length_nil] at h; omega
  | [_], h => simp only [List.length_cons, List.length_nil] at h; omega
  | [_, _], h => simp only [List.length_cons, List.length_nil] at h; omega
  | [_, _, _], h => simp only [List.length_cons, List.length_nil] at h; omega
  | [_, _, _, _], h => simp only [List.length_cons, List.length_nil] at h; omega
  | [_, _, _, _, _], h => simp only [List.length_cons, List.length_nil] at h; omega
theorem set_at_len {L : List Value} {a u : Value} {R : List Value} {n : Nat} (h : n = L.length) : (L ++ a :: R).set n u = (L ++ [u]) ++ R := by
  subst h
  rw [List.set_append_right _ _ (Nat.le_refl _)]
  simp

theorem six_cells {W : World} {B g n c k : Nat} {L : List Value} {a0 a1 a2 a3 a4 a5 : Value} {rest : List Value} (h : W.ownsRow B 36 6 (.slice (some ⟨g, 0, none⟩) n c) n (L ++ a0 :: a1 :: a2 :: a3 :: a4 :: a5 :: rest)) (hl : L.length = k * 6) (hk : k < n) :
    (W.cell? ⟨g, k * 6, none⟩ = some a0 ∧ W.cell? ⟨g, k * 6 + 1, none⟩ = some a1 ∧ W.cell? ⟨g, k * 6 + 2, none⟩ = some a2 ∧ W.cell? ⟨g, k * 6 + 3, none⟩ = some a3 ∧ W.cell? ⟨g, k * 6 + 4, none⟩ = some a4 ∧ W.cell? ⟨g, k * 6 + 5, none⟩ = some a5) ∧ ∀ j, W.frozen? ⟨g, j, none⟩ = false := by
  refine ⟨⟨?_, ?_, ?_, ?_, ?_, ?_⟩, fun j => h.frozenAt j⟩
  · rw [h.cellAt (k * 6) (by omega), List.getElem?_append_right (by omega), hl, Nat.sub_self]; rfl
  · rw [h.cellAt (k * 6 + 1) (by omega), List.getElem?_append_right (by omega), hl, Nat.add_sub_cancel_left]; rfl
  · rw [h.cellAt (k * 6 + 2) (by omega), List.getElem?_append_right (by omega), hl, Nat.add_sub_cancel_left]; rfl
  · rw [h.cellAt (k * 6 + 3) (by omega), List.getElem?_append_right (by omega), hl, Nat.add_sub_cancel_left]; rfl
  · rw [h.cellAt (k * 6 + 4) (by omega), List.getElem?_append_right (by omega), hl, Nat.add_sub_cancel_left]; rfl
  · rw [h.cellAt (k * 6 + 5) (by omega), List.getElem?_append_right (by omega), hl, Nat.add_sub_cancel_left]; rfl

theorem six_sets {W : World} {B g n c k : Nat} {L : List Value} {a0 a1 a2 a3 a4 a5 : Value} {rest : List Value} (h : W.ownsRow B 36 6 (.slice (some ⟨g, 0, none⟩) n c) n (L ++ a0 :: a1 :: a2 :: a3 :: a4 :: a5 :: rest)) (hl : L.length = k * 6) (u0 u1 u2 u3 u4 u5 : Value) :
    ((((((W.setCell ⟨g, k * 6, none⟩ u0).setCell ⟨g, k * 6 + 1, none⟩ u1).setCell ⟨g, k * 6 + 2, none⟩ u2).setCell ⟨g, k * 6 + 3, none⟩ u3).setCell ⟨g, k * 6 + 4, none⟩ u4).setCell ⟨g, k * 6 + 5, none⟩ u5).ownsRow B 36 6 (.slice (some ⟨g, 0, none⟩) n c) n ((L ++ [u0, u1, u2, u3, u4, u5]) ++ rest) ∧ W.grownBy ((((((W.setCell ⟨g, k * 6, none⟩ u0).setCell ⟨g, k * 6 + 1, none⟩ u1).setCell ⟨g, k * 6 + 2, none⟩ u2).setCell ⟨g, k * 6 + 3, none⟩ u3).setCell ⟨g, k * 6 + 4, none⟩ u4).setCell ⟨g, k * 6 + 5, none⟩ u5) (some g) := by
  obtain ⟨h0, g0⟩ := World.ownsRow.stored h (k * 6) u0
  rw [set_at_len (by omega)] at h0
  obtain ⟨h1, g1⟩ := World.ownsRow.stored h0 (k * 6 + 1) u1
  rw [set_at_len (by simp only [List.length_append, List.length_singleton]; omega)] at h1
  obtain ⟨h2, g2⟩ := World.ownsRow.stored h1 (k * 6 + 2) u2
  rw [set_at_len (by simp only [List.length_append, List.length_singleton]; omega)] at h2
  obtain ⟨h3, g3⟩ := World.ownsRow.stored h2 (k * 6 + 3) u3
  rw [set_at_len (by simp only [List.length_append, List.length_singleton]; omega)] at h3
  obtain ⟨h4, g4⟩ := World.ownsRow.stored h3 (k * 6 + 4) u4
  rw [set_at_len (by simp only [List.length_append, List.length_singleton]; omega)] at h4
  obtain ⟨h5, g5⟩ := World.ownsRow.stored h4 (k * 6 + 5) u5
  rw [set_at_len (by simp only [List.length_append, List.length_singleton]; omega)] at h5
  refine ⟨by simpa using h5, grown_trans (grown_trans (grown_trans (grown_trans (grown_trans g0 g1) g2) g3) g4) g5⟩

/-- No two lists of Kids lie in one block. -/
def Apart (qs : List (PNode × (Value × Value))) : Prop := ∀ i j (hi : i < qs.length) (hj : j < qs.length) (g : Nat), qs[i].2.2.ownBlock = some g → qs[j].2.2.ownBlock = some g → i = j
theorem apart_nil : Apart [] := fun i j hi => absurd hi (by simp)
theorem apart_snoc {qs : List (PNode × (Value × Value))} {q : PNode × (Value × Value)} (h : Apart qs) (hq : ∀ g, q.2.2.ownBlock = some g → ∀ p ∈ qs, p.2.2.ownBlock ≠ some g) : Apart (qs ++ [q]) := by
  intro i j hi hj g e1 e2
  rw [List.getElem_append] at e1 e2
  simp only [List.length_append, List.length_singleton] at hi hj
  split at e1 <;> split at e2
  · exact h i j _ _ g e1 e2
  · rename_i h1 h2
    simp only [List.getElem_singleton] at e2
    exact absurd e1 (hq g e2 _ (List.getElem_mem h1))
  · rename_i h1 h2
    simp only [List.getElem_singleton] at e1
    exact absurd e2 (hq g e1 _ (List.getElem_mem h2))
  · omega

/-- While the nodes are copied: k of them are. -/
structure CopyI (w : World) (ns : List PNode) (k : Nat) (qs : List (PNode × (Value × Value))) (zs : List Value) (W : World) : Prop where
  qm : qs.map (fun q => q.1) = ns.take k
  row : W.ownsRow w.heap.size 36 6 (.slice (some ⟨w.heap.size, 0, none⟩) ns.length ns.length) ns.length (nodeCells qs ++ zs)
  zl : zs.length = (ns.length - k) * 6
  lists : ∀ q ∈ qs, W.ownsRow w.heap.size 115 2 q.2.1 q.1.attrs.length (pairCells q.1.attrs) ∧ Own w.heap.size 3 .i64 W q.2.2 q.1.kids
  bel : Below w.heap.size w W
  apart : Apart qs

set_option maxHeartbeats 2000000 in
set_option maxRecDepth 100000 in
theorem icopyA_any {w : World} {v : Value} {ns : List PNode} (hn : NodesAt w v ns) (hfit : ∀ n ∈ ns, NodeFit n) (hlen : ns.length ≤ 1048576) :
    Calls Tryz.prog 103 #[v] w fun e w' => ∃ v', e = .returned v' ∧ (∃ qs, qs.map (fun q => q.1) = ns ∧ w'.ownsRow w.heap.size 36 6 v' ns.length (nodeCells qs) ∧ (∀ q ∈ qs, w'.ownsRow w.heap.size 115 2 q.2.1 q.1.attrs.length (pairCells q.1.attrs) ∧ Own w.heap.size 3 .i64 w' q.2.2 q.1.kids) ∧ Apart qs) ∧ Below w.heap.size w w' := by
  have HFIT := (show Hid (∀ n ∈ ns, NodeFit n) from hfit)
  obtain ⟨a, cap, rfl, hc1, hc2, hcs⟩ := hn.slice
  have HCS := (show Hid _ from hcs)
  clear hcs hn hfit
  obtain ⟨ia, hia, hza0, hza1, hza2⟩ := info_parts Tryz.infoAttrRow
  obtain ⟨ii, hii, hzi0, hzi1, hzi2⟩ := info_parts Tryz.infoIntRow
  obtain ⟨iN, hiN, hzN0, hzN1, hzN2⟩ := info_parts Tryz.infoNodeRow
  go_enter Tryz.func103, Tryz.ntmps103
  go_wp2_with (at_make; refine wpList_make_full _ rfl (.tmp 7) (.tmp 7) 24 rfl w.heap.size 36 iN _ 6 Tryz.underlying24 hiN hzN0 hzN1 .i64 .i64 ns.length ns.length ns.length rfl rfl rfl rfl (by rw [hzN2]; omega) (by unfold maxLen; omega) (Nat.le_refl _) ?_; intro w1 o1 g1)
  have HI : Hid (CopyI w ns 0 [] (madeCells (Value.agg #[.int .i64 0, .string ⟨#[]⟩, .slice none 0 0, .string ⟨#[]⟩, .int .i64 0, .slice none 0 0]).cells (ns.length * 6)).toList w1) :=
    ⟨by simp, by simpa [nodeCells] using o1, by simp [madeCells], (fun q hq => by cases hq), (Below.refl _ _).grown g1 (Nat.le_refl _) (fun k hk => by cases hk), apart_nil⟩
  clear o1 g1
  go_loopw [11] (fun i wr => ∃ (k : Nat) (qs : List (PNode × (Value × Value))) (zs : List Value), k ≤ ns.length ∧ i = .int .i64 k ∧ CopyI w ns k qs zs wr) (fun i _ => ns.length - (intOf i).toNat)
  case atStart => exact ⟨0, _, _, Nat.zero_le _, rfl, HI.out⟩
  case round =>
    clear HI
    obtain ⟨k, qs, zs, hk, rfl, hW⟩ := hrel
    have HW := (show Hid (CopyI w ns k qs zs wr) from hW)
    have hb := hW.bel
    have hql : qs.length = k := by have := congrArg List.length hW.qm; simp at this; omega
    clear hW
    by_cases hlt : k < ns.length
    · obtain ⟨b, off, av, kv, rfl, hblt, c0, c1, c2, c3, c4, c5, hav, hkv⟩ := HCS.out k hlt
      replace c0 := (hb.cell (p := ⟨b, off + k * 6, none⟩) hblt).trans c0
      replace c1 := (hb.cell (p := ⟨b, off + k * 6 + 1, none⟩) hblt).trans c1
      replace c2 := (hb.cell (p := ⟨b, off + k * 6 + 2, none⟩) hblt).trans c2
      replace c3 := (hb.cell (p := ⟨b, off + k * 6 + 3, none⟩) hblt).trans c3
      replace c4 := (hb.cell (p := ⟨b, off + k * 6 + 4, none⟩) hblt).trans c4
      replace c5 := (hb.cell (p := ⟨b, off + k * 6 + 5, none⟩) hblt).trans c5
      have hnf := HFIT.out ns[k] (List.getElem_mem hlt)
      have HAV := (show Hid (Sv 2 wr av (pairCells ns[k].attrs)) from hav.below hb)
      have HKV := (show Hid (Sl .i64 wr kv ns[k].kids) from hkv.below hb)
      obtain ⟨av1, av2, av3, rfl, _⟩ := hav
      obtain ⟨kv1, kv3, rfl, _⟩ := hkv
      have HTK : Hid (ns.take (k + 1) = ns.take k ++ [ns[k]]) := take_snoc ns hlt
      obtain ⟨nd, hnd⟩ : ∃ nd, nd = ns[k] := ⟨_, rfl⟩
      rw [← hnd] at c0 c1 c3 c4 c5 hnf HAV HKV HTK
      obtain ⟨k0, k1, rs, k3, k4, ks⟩ := nd
      have hrs := hnf.rs
      have hkl := hnf.kl
      simp only at c0 c1 c3 c4 c5 HAV HKV hrs hkl
      clear hnd hnf
      obtain ⟨wa, hwa⟩ : ∃ x, x = wr.alloc (.cells #[.int .i64 k0, .string k1, .slice av1 av2 av3, .string k3, .int .i64 k4, .slice kv1 ks.length kv3] 36) := ⟨_, rfl⟩
      have b1 : Below wr.heap.size wr wa := by rw [hwa]; exact (Below.refl _ _).alloc (Nat.le_refl _) _
      have x1 : wa.heap[wr.heap.size]? = some (.cells #[.int .i64 k0, .string k1, .slice av1 av2 av3, .string k3, .int .i64 k4, .slice kv1 ks.length kv3] 36 (0, 0)) := by rw [hwa]; exact World.alloc_heap_new _ _
      have hav1 := HAV.out.below b1
      have hs1 := blk_lt x1
      have y2 : wa.cell? ⟨wr.heap.size, 2, none⟩ = some (.slice av1 av2 av3) := by simp only [World.cell?, x1]; rfl
      have hbs := hb.size
      have HB1 := (show Hid _ from b1)
      have HX1 := (show Hid _ from x1)
      clear b1 x1
      have hg6 : (nodeCells qs).length = k * 6 := by rw [nodeCells_len, hql]
      have hzl := HW.out.zl
      obtain ⟨m, hm⟩ : ∃ m, ns.length - k = m + 1 := ⟨ns.length - k - 1, by omega⟩
      rw [hm] at hzl
      obtain ⟨e0, e1, e2, e3, e4, e5, rest, hzs, hrest⟩ := six_of hzl
      have hrow := HW.out.row
      rw [hzs] at hrow
      have HROW := (show Hid _ from hrow)
      have HLI := (show Hid _ from HW.out.lists)
      have HG6 := (show Hid ((nodeCells qs).length = k * 6) from hg6)
      have HRE := (show Hid (rest.length = (ns.length - (k + 1)) * 6) from (by rw [hrest]; congr 1; omega))
      clear hzl hzs hrow hg6 hrest hm
      go_wp2_with (first
        | (at_builtin
           rw [← hwa]
           refine wpList_appV _ rfl (.const (.slice none 0 0)) (.tmp 17) 33 rfl w.heap.size 115 ia _ 2 32 Tryz.underlying33 hia hza0 hza1 hza2 rfl (by decide) (.slice none 0 0) (.slice av1 av2 av3) 0 rs.length [] (pairCells rs) rfl rfl (World.ownsRow_nil _ _ _ _) hav1 (pairCells_len _) (pair_oneCell _) (by omega) (by unfold maxLen; omega) (by omega) ?_
           intro v4 w4 o4 g4
           clear hwa
           rw [List.nil_append, Nat.zero_add] at o4
           have b4 : Below wr.heap.size wr w4 := HB1.out.grown g4 (by omega) (fun r e => by cases e)
           have x4 : w4.heap[wr.heap.size]? = some (.cells #[.int .i64 k0, .string k1, .slice av1 av2 av3, .string k3, .int .i64 k4, .slice kv1 ks.length kv3] 36 (0, 0)) := (g4.block _ (by omega) (by simp [Value.ownBlock])).trans HX1.out
           have y2' : w4.cell? ⟨wr.heap.size, 2, none⟩ = some (.slice av1 av2 av3) := by simp only [World.cell?, x4]; rfl
           have y5' : w4.cell? ⟨wr.heap.size, 5, none⟩ = some (.slice kv1 ks.length kv3) := by simp only [World.cell?, x4]; rfl
           have z2 : w4.frozen? ⟨wr.heap.size, 2, none⟩ = false := by simp [World.frozen?, x4]
           have hlt4 := blk_lt x4
           obtain ⟨a4, n4, d4, rfl⟩ := own_slice o4
           have gs4 : w4.grownBy (w4.setCell ⟨wr.heap.size, 2, none⟩ (.slice a4 n4 d4)) (some wr.heap.size) := grown_setCell _ _ _ _
           have x5 : (w4.setCell ⟨wr.heap.size, 2, none⟩ (.slice a4 n4 d4)).heap[wr.heap.size]? = some (.cells #[.int .i64 k0, .string k1, .slice a4 n4 d4, .string k3, .int .i64 k4, .slice kv1 ks.length kv3] 36 (0, 0)) := setCell_at x4
           have b5 : Below wr.heap.size wr (w4.setCell ⟨wr.heap.size, 2, none⟩ (.slice a4 n4 d4)) := b4.grown gs4 b4.size (fun r e => by cases e; exact Nat.le_refl _)
           have o5 := kept_of_type o4 gs4 (fun r e => by cases e; exact ⟨_, _, _, x4, by decide⟩)
           have hkv5 := HKV.out.below b5
           have hs5 := blk_lt x5
           have HX5 := (show Hid _ from x5)
           have HB5 := (show Hid _ from b5)
           have HO5 := (show Hid _ from o5)
           clear x4 x5 b4 b5 gs4 o4 g4 o5 hav1 c0 c1 c2 c3 c4 c5 HX1 HB1 y2 hs1)
        | (at_builtin
           refine wpList_app _ rfl (.const (.slice none 0 0)) (.tmp 21) 34 rfl wr.heap.size 3 ii (.int .i64 0) 8 Tryz.underlying34 hii hzi0 hzi1 hzi2 rfl .i64 (.slice none 0 0) (.slice kv1 ks.length kv3) [] ks rfl rfl (World.ownsRow_nil _ _ _ _) hkv5 (by simp; omega) (by unfold maxLen; simp; omega) (by simp [World.setCell]; omega) ?_
           intro v6 w6 o6 g6
           rw [List.nil_append] at o6
           have HFR := (show Hid (∀ g, v6.ownBlock = some g → wr.heap.size ≤ g) from fun g hg => (Own.lt o6 g hg).1)
           replace o6 := Own.base o6 hbs
           obtain ⟨a6, n6, d6, rfl⟩ := own_slice o6
           have b6 : Below wr.heap.size wr w6 := HB5.out.grown g6 (by have := HB5.out.size; omega) (fun r e => by cases e)
           have x6 : w6.heap[wr.heap.size]? = some (.cells #[.int .i64 k0, .string k1, .slice a4 n4 d4, .string k3, .int .i64 k4, .slice kv1 ks.length kv3] 36 (0, 0)) := (g6.block _ hs5 (by simp [Value.ownBlock])).trans HX5.out
           have o46 := kept_of_type HO5.out g6 (fun r e => by cases e)
           have z5 : w6.frozen? ⟨wr.heap.size, 5, none⟩ = false := by simp [World.frozen?, x6]
           have y00 : w6.cell? ⟨wr.heap.size, 0, none⟩ = some (.int .i64 k0) := by simp only [World.cell?, x6]; rfl
           have y10 : w6.cell? ⟨wr.heap.size, 1, none⟩ = some (.string k1) := by simp only [World.cell?, x6]; rfl
           have y20 : w6.cell? ⟨wr.heap.size, 2, none⟩ = some (.slice a4 n4 d4) := by simp only [World.cell?, x6]; rfl
           have y30 : w6.cell? ⟨wr.heap.size, 3, none⟩ = some (.string k3) := by simp only [World.cell?, x6]; rfl
           have y40 : w6.cell? ⟨wr.heap.size, 4, none⟩ = some (.int .i64 k4) := by simp only [World.cell?, x6]; rfl
           have y50 : w6.cell? ⟨wr.heap.size, 5, none⟩ = some (.slice kv1 ks.length kv3) := by simp only [World.cell?, x6]; rfl
           have hlt6 := blk_lt x6
           obtain ⟨w7, hw7⟩ : ∃ x, x = w6.setCell ⟨wr.heap.size, 5, none⟩ (.slice a6 n6 d6) := ⟨_, rfl⟩
           have g7 : w6.grownBy w7 (some wr.heap.size) := by rw [hw7]; exact grown_setCell _ _ _ _
           have x7 : w7.heap[wr.heap.size]? = some (.cells #[.int .i64 k0, .string k1, .slice a4 n4 d4, .string k3, .int .i64 k4, .slice a6 n6 d6] 36 (0, 0)) := by rw [hw7]; exact setCell_at x6
           have b7 : Below wr.heap.size wr w7 := b6.grown g7 b6.size (fun r e => by cases e; exact Nat.le_refl _)
           have o47 := kept_of_type o46 g7 (fun r e => by cases e; exact ⟨_, _, _, x6, by decide⟩)
           have o67 : Own w.heap.size 3 .i64 _ _ ks := kept_of_type o6 g7 (fun r e => by cases e; exact ⟨_, _, _, x6, by decide⟩)
           have HQ := (show Hid (_ ∧ _) from ⟨o47, o67⟩)
           have HB7 := (show Hid _ from b7)
           have HX7 := (show Hid _ from x7)
           have hrow6 := ownsRow_below HROW.out b6
           obtain ⟨⟨r0, r1, r2, r3, r4, r5⟩, hfz⟩ := six_cells hrow6 HG6.out hlt
           have f0 := hfz (k * 6)
           have f1 := hfz (k * 6 + 1)
           have f2 := hfz (k * 6 + 2)
           have f3 := hfz (k * 6 + 3)
           have f4 := hfz (k * 6 + 4)
           have f5 := hfz (k * 6 + 5)
           clear hfz
           have HROW7 := (show Hid _ from ownsRow_below HROW.out b7)
           have hne6 : wr.heap.size ≠ w.heap.size := by
             have := (hrow6.lt w.heap.size rfl).2
             have h2 := (World.ownsRow.lt HROW.out w.heap.size rfl).2
             omega
           clear hrow6 o6 g6 b6 x6 o46 g7 b7 x7 o47 o67 HX5 HB5 HO5 hkv5))
      go_roundw
      case rel =>
        have hrow7 := HROW7.out
        rw [hw7] at hrow7
        obtain ⟨o8, g8⟩ := six_sets (k := k) hrow7 HG6.out (.int .i64 k0) (.string k1) (.slice a4 n4 d4) (.string k3) (.int .i64 k4) (.slice a6 n6 d6)
        have b8 := (hb.trans (HB7.out.mono hb.size)).grown (by rw [hw7]; exact g8) (hb.trans (HB7.out.mono hb.size)).size (fun r e => by cases e; exact Nat.le_refl _)
        refine ⟨k + 1, qs ++ [((⟨k0, k1, rs, k3, k4, ks⟩, (.slice a4 n4 d4, .slice a6 n6 d6)) : PNode × (Value × Value))], rest, by omega, by go_num, ?_⟩
        refine ⟨by rw [List.map_append, HW.out.qm, HTK.out]; rfl, ?_, HRE.out, ?_, b8, apart_snoc HW.out.apart (fun g hg p hp e => by
          have h1 := HFR.out g hg
          have h2 := (Own.lt (HLI.out p hp).2 g e).2
          omega)⟩
        · rw [nodeCells_app]
          simpa [nodeCells, nodeRow] using o8
        · have key : ∀ q : PNode × (Value × Value), (w7.ownsRow w.heap.size 115 2 q.2.1 q.1.attrs.length (pairCells q.1.attrs) ∧ Own w.heap.size 3 .i64 w7 q.2.2 q.1.kids) → _ := fun q h => lists_kept (q := q) (by rw [hw7]; exact hrow7) (by rw [hw7]; exact g8) h
          intro q hq
          rcases List.mem_append.mp hq with hq | hq
          · have := HLI.out q hq
            exact key q ⟨ownsRow_below this.1 HB7.out, this.2.below HB7.out⟩
          · simp only [List.mem_cons, List.not_mem_nil, or_false] at hq
            subst hq
            exact key _ HQ.out
      case measure => simp [intOf]; omega
    · have hke : k = ns.length := by omega
      have hz : zs = [] := List.length_eq_zero_iff.mp (by rw [HW.out.zl, hke]; simp)
      have HO : Hid (∃ qs, qs.map (fun q => q.1) = ns ∧ wr.ownsRow w.heap.size 36 6 (.slice (some ⟨w.heap.size, 0, none⟩) ns.length ns.length) ns.length (nodeCells qs) ∧ (∀ q ∈ qs, wr.ownsRow w.heap.size 115 2 q.2.1 q.1.attrs.length (pairCells q.1.attrs) ∧ Own w.heap.size 3 .i64 wr q.2.2 q.1.kids) ∧ Apart qs) := ⟨qs, by rw [HW.out.qm, hke, List.take_length], by have := HW.out.row; rwa [hz, List.append_nil] at this, HW.out.lists, HW.out.apart⟩
      clear hz
      go_wp2
      go_ret
      exact ⟨_, rfl, HO.out, hb⟩
theorem icopy_any {w : World} {v : Value} {ns : List PNode} (hn : NodesAt w v ns) (hfit : ∀ n ∈ ns, NodeFit n) (hlen : ns.length ≤ 1048576) :
    Calls Tryz.prog 103 #[v] w fun e w' => ∃ v', e = .returned v' ∧ OwnN w.heap.size w' v' ns ∧ Below w.heap.size w w' := by
  refine (icopyA_any hn hfit hlen).mono ?_
  rintro e w' ⟨v', rfl, ⟨qs, h1, h2, h3, _⟩, b⟩
  exact ⟨v', rfl, ⟨qs, h1, h2, h3⟩, b⟩
end Go.Proofs.YtogdbjafibejdaaGreat
