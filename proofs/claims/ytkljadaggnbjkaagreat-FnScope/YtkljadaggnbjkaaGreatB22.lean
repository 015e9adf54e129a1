import Derived.Test.YtkljadaggnbjkaaGreatFind
import Derived.Maps.OwnSet
import Derived.Maps.Views
import Derived.Test.YtkljadaggnbjkaaGreatB20
/- The program's nameSetOf: a set of names, made of lists of names. -/
namespace Go.Proofs.YtkljadaggnbjkaaGreat
open Go.RowKit Go.Maps
set_option maxRecDepth 100000
set_option linter.unusedVariables false

theorem lawSet : Keyed Tryz.prog 9 := string_keyed Tryz.underlying9
theorem keyOf_set {s : ByteArray} (h : s.size ≤ maxLen) : keyOf Tryz.prog 9 (.string s) = some (.string s.data.toList) := by
  simp [keyOf, Tryz.underlying9, mapKey, h]
theorem zeroSet (w : World) : (zeroValue 96).run Tryz.prog w = .ok (.agg #[]) w := by kernel_rfl

/-- The datum D is a set of the names xs. -/
def SetOf (D : DataW Unit) (xs : List ByteArray) : Prop := IsMap D ∧ ∀ s : ByteArray, has D (.string s.data.toList) = hasB xs s

theorem hasB_append (xs ys : List ByteArray) (s : ByteArray) : hasB (xs ++ ys) s = (hasB xs s || hasB ys s) := by
  simp [hasB]
theorem hasB_one (t s : ByteArray) : hasB [t] s = (s.toList == t.toList) := by simp [hasB]
theorem setOf_nil : SetOf (.map []) [] := ⟨isMap_empty, fun s => rfl⟩

theorem data_ne {s t : ByteArray} (h : s ≠ t) : (Lit.string s.data.toList) ≠ Lit.string t.data.toList := by
  intro e
  injection e with e
  apply h
  cases s; cases t
  congr 1
  exact Array.toList_inj.mp e

theorem SetOf.put {D : DataW Unit} {xs : List ByteArray} (h : SetOf D xs) {D' : DataW Unit} (t : ByteArray) (hi : IsMap D') (e : D' = D.put (.string t.data.toList) (.agg [])) : SetOf D' (xs ++ [t]) := by
  refine ⟨hi, fun s => ?_⟩
  rw [e, hasB_append, hasB_one]
  by_cases hst : s = t
  · subst hst
    rw [has_put_same h.1 (show WideAt.IsKeyLit (.string _) from trivial)]
    simp
  · rw [has_put_other (data_ne hst), h.2 s, toList_no hst]
    simp

/-- The block g holds slices, each of a block of names. -/
def Rows (w : World) (g : Nat) (ps : List (Nat × List ByteArray)) : Prop :=
  g < w.heap.size ∧ ∀ k (hk : k < ps.length), w.cell? ⟨g, k, none⟩ = some (.slice (some ⟨ps[k].1, 0, none⟩) ps[k].2.length ps[k].2.length) ∧ ps[k].1 < w.heap.size ∧ Txt w ps[k].1 ps[k].2 ∧ ps[k].2.length ≤ 100 ∧ ∀ s ∈ ps[k].2, s.size ≤ 100

def allOf (ps : List (Nat × List ByteArray)) : List ByteArray := ps.flatMap (·.2)
theorem allOf_succ {ps : List (Nat × List ByteArray)} {k : Nat} (h : k < ps.length) : allOf (ps.take (k + 1)) = allOf (ps.take k) ++ ps[k].2 := by
  unfold allOf
  rw [List.take_succ_eq_append_getElem h, List.flatMap_append]
  simp
theorem take_one {α : Type} {l : List α} {k : Nat} (h : k < l.length) : l.take (k + 1) = l.take k ++ [l[k]] := List.take_succ_eq_append_getElem h

theorem run_makeMapHint (n : Int) (w : World) : (Instr.makeMap 78 (some (.int .i64 n))).run Tryz.prog w = .ok (.map (some w.heap.size)) (w.alloc (.map #[] 0)) := by
  simp [Instr.makeMap, run_underlying Tryz.underlying78, asInt, newObj, Result.andThen]
  rfl

set_option maxHeartbeats 1000000 in
theorem nameSetOf_any {w : World} {g : Nat} {ps : List (Nat × List ByteArray)} (h : Rows w g ps) (hn : ps.length ≤ 10) {n : Nat} (hnn : n = ps.length) :
    Calls Tryz.prog 61 #[.slice (some ⟨g, 0, none⟩) n n] w fun e w' => ∃ m D, m ≤ 1000 ∧ e = .returned (.map (some w.heap.size)) ∧ w'.ownsMap Tryz.prog 9 unitElem w.heap.size m D ∧ SetOf D (allOf ps) ∧ Below w.heap.size w w' := by
  subst hnn
  have H : Hid (Rows w g ps) := h
  clear h
  have hmm := run_makeMapHint
  go_enter Tryz.func61, Tryz.ntmps61
  go_wp2
  go_loop [3, 13] (fun r i => ∃ (k m : Nat), k ≤ ps.length ∧ i = .int .i64 k ∧ r = .int .i64 m ∧ m ≤ 100 * k) (fun _ i => ps.length - (intOf i).toNat)
  case atStart => exact ⟨0, 0, Nat.zero_le _, rfl, rfl, by omega⟩
  case round =>
    obtain ⟨k, m, hk, rfl, rfl, hm⟩ := hrel
    by_cases hlt : k < ps.length
    · obtain ⟨c1, c2, c3, c4, c5⟩ := H.out.2 k hlt
      obtain ⟨p, hp⟩ : ∃ p, p = ps[k] := ⟨_, rfl⟩
      rw [← hp] at c1 c2 c3 c4 c5
      have HP := (show Hid _ from hp)
      clear hp c2 c3 c5
      go_wp2
      go_round
      case rel => exact ⟨k + 1, m + p.2.length, by omega, by go_num, by go_num, by omega⟩
      case measure => simp [intOf]; omega
    · go_wp2
      go_loopw [26] (fun i wr => ∃ (k m : Nat) (D : DataW Unit), k ≤ ps.length ∧ i = .int .i64 k ∧ m ≤ 100 * k ∧ wr.ownsMap Tryz.prog 9 unitElem w.heap.size m D ∧ SetOf D (allOf (ps.take k)) ∧ Below w.heap.size w wr) (fun i _ => ps.length - (intOf i).toNat)
      case atStart => exact ⟨0, 0, .map [], Nat.zero_le _, rfl, by omega, World.ownsMap_made _ _ _ _, setOf_nil, (Below.refl _ _).alloc (Nat.le_refl _) _⟩
      case round =>
        obtain ⟨k2, m2, D2, hk2, rfl, hm2, own2, set2, bel2⟩ := hrel
        have S2 := (show Hid _ from set2)
        clear set2
        by_cases hlt2 : k2 < ps.length
        · obtain ⟨c1, c2, c3, c4, c5⟩ := H.out.2 k2 hlt2
          obtain ⟨p, hp⟩ : ∃ p, p = ps[k2] := ⟨_, rfl⟩
          rw [← hp] at c1 c2 c3 c4 c5
          have HP := (show Hid _ from hp)
          have C3 := (show Hid _ from c3)
          have C5 := (show Hid _ from c5)
          have c1' := (bel2.cell H.out.1).trans c1
          clear hp c1 c3 c5
          go_wp2
          go_loopw [32] (fun j wr => ∃ (q m : Nat) (D : DataW Unit), q ≤ p.2.length ∧ j = .int .i64 q ∧ m ≤ 100 * k2 + q ∧ wr.ownsMap Tryz.prog 9 unitElem w.heap.size m D ∧ SetOf D (allOf (ps.take k2) ++ p.2.take q) ∧ Below w.heap.size w wr) (fun j _ => p.2.length - (intOf j).toNat)
          case atStart => exact ⟨0, m2, D2, Nat.zero_le _, rfl, by omega, own2, by rw [List.take_zero, List.append_nil]; exact S2.out, bel2⟩
          case round =>
            clear own2 bel2 S2 c1'
            obtain ⟨q, m3, D3, hq, rfl, hm3, own3, set3, bel3⟩ := hrel
            have S3 := (show Hid _ from set3)
            clear set3
            by_cases hlt3 : q < p.2.length
            · obtain ⟨x, hx⟩ : ∃ x, x = p.2[q] := ⟨_, rfl⟩
              have c6 := (bel3.cell c2).trans (C3.out q hlt3)
              have hsz : x.size ≤ 100 := hx ▸ C5.out _ (List.getElem_mem hlt3)
              have hkey := keyOf_set (s := x) (by unfold maxLen; omega)
              rw [← hx] at c6
              have HX := (show Hid _ from hx)
              clear hx
              go_wp2_with (at_mapUpdate; refine wpList_mapUpdate_own _ rfl _ _ _ 78 rfl 9 96 lawSet Tryz.underlying78 (unitElem (H := Unit)) w.heap.size m3 _ rfl own3 (by unfold maxLen; omega) _ _ _ rfl rfl hkey _ [] unitElem_mk ?_; intro w1 own1 grow1)
              go_roundw
              case rel => exact ⟨q + 1, m3 + 1, _, by omega, by go_num, by omega, own1, (by
                rw [take_one hlt3, ← List.append_assoc, ← HX.out]
                exact SetOf.put S3.out x own1.isMap rfl), bel3.grown grow1 bel3.size (fun j hj => by cases hj; exact Nat.le_refl _)⟩
              case measure => simp [intOf]; omega
            · go_wp2
              go_roundw
              case rel => exact ⟨k2 + 1, m3, D3, by omega, by go_num, by omega, own3, (by
                rw [allOf_succ hlt2, ← HP.out]
                have := S3.out
                rwa [show q = p.2.length by omega, List.take_length] at this), bel3⟩
              case measure => simp [intOf]; omega
        · go_wp2
          go_ret
          exact ⟨m2, D2, by omega, rfl, own2, by have := S2.out; rwa [show k2 = ps.length by omega, List.take_length] at this, bel2⟩
end Go.Proofs.YtkljadaggnbjkaaGreat

/- The lists of names of chapter 9, and the program's functions that answer them (written by mk/ikind.py). -/
namespace Go.Proofs.YtkljadaggnbjkaaGreat
open Go.RowKit Go.Maps
set_option maxRecDepth 100000
set_option linter.unusedVariables false

def formats : List ByteArray := [⟨#[97]⟩, ⟨#[98]⟩, ⟨#[98, 105, 103]⟩, ⟨#[99, 111, 100, 101]⟩, ⟨#[101, 109]⟩, ⟨#[102, 111, 110, 116]⟩, ⟨#[105]⟩, ⟨#[110, 111, 98, 114]⟩, ⟨#[115]⟩, ⟨#[115, 109, 97, 108, 108]⟩, ⟨#[115, 116, 114, 105, 107, 101]⟩, ⟨#[115, 116, 114, 111, 110, 103]⟩, ⟨#[116, 116]⟩, ⟨#[117]⟩]
def blocks : List ByteArray := [⟨#[97, 100, 100, 114, 101, 115, 115]⟩, ⟨#[97, 114, 116, 105, 99, 108, 101]⟩, ⟨#[97, 115, 105, 100, 101]⟩, ⟨#[98, 108, 111, 99, 107, 113, 117, 111, 116, 101]⟩, ⟨#[99, 101, 110, 116, 101, 114]⟩, ⟨#[100, 101, 116, 97, 105, 108, 115]⟩, ⟨#[100, 105, 97, 108, 111, 103]⟩, ⟨#[100, 105, 114]⟩, ⟨#[100, 105, 118]⟩, ⟨#[100, 108]⟩, ⟨#[102, 105, 101, 108, 100, 115, 101, 116]⟩, ⟨#[102, 105, 103, 99, 97, 112, 116, 105, 111, 110]⟩, ⟨#[102, 105, 103, 117, 114, 101]⟩, ⟨#[102, 111, 111, 116, 101, 114]⟩, ⟨#[104, 101, 97, 100, 101, 114]⟩, ⟨#[104, 103, 114, 111, 117, 112]⟩, ⟨#[109, 97, 105, 110]⟩, ⟨#[109, 101, 110, 117]⟩, ⟨#[110, 97, 118]⟩, ⟨#[111, 108]⟩, ⟨#[112]⟩, ⟨#[115, 101, 97, 114, 99, 104]⟩, ⟨#[115, 101, 99, 116, 105, 111, 110]⟩, ⟨#[115, 117, 109, 109, 97, 114, 121]⟩, ⟨#[117, 108]⟩]
def headings : List ByteArray := [⟨#[104, 49]⟩, ⟨#[104, 50]⟩, ⟨#[104, 51]⟩, ⟨#[104, 52]⟩, ⟨#[104, 53]⟩, ⟨#[104, 54]⟩]
def heads : List ByteArray := [⟨#[98, 97, 115, 101]⟩, ⟨#[108, 105, 110, 107]⟩, ⟨#[109, 101, 116, 97]⟩, ⟨#[110, 111, 102, 114, 97, 109, 101, 115]⟩, ⟨#[115, 99, 114, 105, 112, 116]⟩, ⟨#[115, 116, 121, 108, 101]⟩, ⟨#[116, 105, 116, 108, 101]⟩]
def otherSpecials : List ByteArray := [⟨#[97, 112, 112, 108, 101, 116]⟩, ⟨#[97, 114, 101, 97]⟩, ⟨#[98, 111, 100, 121]⟩, ⟨#[98, 114]⟩, ⟨#[98, 117, 116, 116, 111, 110]⟩, ⟨#[100, 100]⟩, ⟨#[100, 116]⟩, ⟨#[101, 109, 98, 101, 100]⟩, ⟨#[104, 101, 97, 100]⟩, ⟨#[104, 114]⟩, ⟨#[104, 116, 109, 108]⟩, ⟨#[105, 102, 114, 97, 109, 101]⟩, ⟨#[105, 109, 103]⟩, ⟨#[105, 110, 112, 117, 116]⟩, ⟨#[108, 105]⟩, ⟨#[108, 105, 115, 116, 105, 110, 103]⟩, ⟨#[109, 97, 114, 113, 117, 101, 101]⟩, ⟨#[110, 111, 101, 109, 98, 101, 100]⟩, ⟨#[111, 98, 106, 101, 99, 116]⟩, ⟨#[112, 97, 114, 97, 109]⟩, ⟨#[112, 108, 97, 105, 110, 116, 101, 120, 116]⟩, ⟨#[112, 114, 101]⟩, ⟨#[115, 111, 117, 114, 99, 101]⟩, ⟨#[116, 97, 98, 108, 101]⟩, ⟨#[116, 100]⟩, ⟨#[116, 101, 120, 116, 97, 114, 101, 97]⟩, ⟨#[116, 104]⟩, ⟨#[116, 114]⟩, ⟨#[116, 114, 97, 99, 107]⟩, ⟨#[119, 98, 114]⟩, ⟨#[120, 109, 112]⟩]
def implieds : List ByteArray := [⟨#[100, 100]⟩, ⟨#[100, 116]⟩, ⟨#[108, 105]⟩, ⟨#[111, 112, 116, 103, 114, 111, 117, 112]⟩, ⟨#[111, 112, 116, 105, 111, 110]⟩, ⟨#[112]⟩]
def bounds : List ByteArray := [⟨#[97, 112, 112, 108, 101, 116]⟩, ⟨#[104, 116, 109, 108]⟩, ⟨#[109, 97, 114, 113, 117, 101, 101]⟩, ⟨#[111, 98, 106, 101, 99, 116]⟩, ⟨#[116, 97, 98, 108, 101]⟩, ⟨#[116, 100]⟩, ⟨#[116, 104]⟩]

def dialogB : ByteArray := ⟨#[100, 105, 97, 108, 111, 103]⟩
def searchB : ByteArray := ⟨#[115, 101, 97, 114, 99, 104]⟩

theorem formatsNames_any (w : World) : Calls Tryz.prog 78 #[] w fun e w' => e = .returned (.slice (some ⟨w.heap.size, 0, none⟩) 14 14) ∧ Txt w' w.heap.size formats ∧ w.heap.size < w'.heap.size ∧ Below w.heap.size w w' := by
  go_enter Tryz.func78, Tryz.ntmps78
  go_wp2
  go_ret
  exact ⟨rfl, txt_alloc w _ formats _ rfl, by simp, (Below.refl _ _).alloc (Nat.le_refl _) _⟩

theorem blocksNames_any (w : World) : Calls Tryz.prog 79 #[] w fun e w' => e = .returned (.slice (some ⟨w.heap.size, 0, none⟩) 25 25) ∧ Txt w' w.heap.size blocks ∧ w.heap.size < w'.heap.size ∧ Below w.heap.size w w' := by
  go_enter Tryz.func79, Tryz.ntmps79
  go_wp2
  go_ret
  exact ⟨rfl, txt_alloc w _ blocks _ rfl, by simp, (Below.refl _ _).alloc (Nat.le_refl _) _⟩

theorem headingsNames_any (w : World) : Calls Tryz.prog 80 #[] w fun e w' => e = .returned (.slice (some ⟨w.heap.size, 0, none⟩) 6 6) ∧ Txt w' w.heap.size headings ∧ w.heap.size < w'.heap.size ∧ Below w.heap.size w w' := by
  go_enter Tryz.func80, Tryz.ntmps80
  go_wp2
  go_ret
  exact ⟨rfl, txt_alloc w _ headings _ rfl, by simp, (Below.refl _ _).alloc (Nat.le_refl _) _⟩

theorem headsNames_any (w : World) : Calls Tryz.prog 81 #[] w fun e w' => e = .returned (.slice (some ⟨w.heap.size, 0, none⟩) 7 7) ∧ Txt w' w.heap.size heads ∧ w.heap.size < w'.heap.size ∧ Below w.heap.size w w' := by
  go_enter Tryz.func81, Tryz.ntmps81
  go_wp2
  go_ret
  exact ⟨rfl, txt_alloc w _ heads _ rfl, by simp, (Below.refl _ _).alloc (Nat.le_refl _) _⟩

theorem otherSpecialsNames_any (w : World) : Calls Tryz.prog 97 #[] w fun e w' => e = .returned (.slice (some ⟨w.heap.size, 0, none⟩) 31 31) ∧ Txt w' w.heap.size otherSpecials ∧ w.heap.size < w'.heap.size ∧ Below w.heap.size w w' := by
  go_enter Tryz.func97, Tryz.ntmps97
  go_wp2
  go_ret
  exact ⟨rfl, txt_alloc w _ otherSpecials _ rfl, by simp, (Below.refl _ _).alloc (Nat.le_refl _) _⟩

theorem impliedsNames_any (w : World) : Calls Tryz.prog 83 #[] w fun e w' => e = .returned (.slice (some ⟨w.heap.size, 0, none⟩) 6 6) ∧ Txt w' w.heap.size implieds ∧ w.heap.size < w'.heap.size ∧ Below w.heap.size w w' := by
  go_enter Tryz.func83, Tryz.ntmps83
  go_wp2
  go_ret
  exact ⟨rfl, txt_alloc w _ implieds _ rfl, by simp, (Below.refl _ _).alloc (Nat.le_refl _) _⟩

theorem boundsNames_any (w : World) : Calls Tryz.prog 62 #[] w fun e w' => e = .returned (.slice (some ⟨w.heap.size, 0, none⟩) 7 7) ∧ Txt w' w.heap.size bounds ∧ w.heap.size < w'.heap.size ∧ Below w.heap.size w w' := by
  go_enter Tryz.func62, Tryz.ntmps62
  go_wp2
  go_ret
  exact ⟨rfl, txt_alloc w _ bounds _ rfl, by simp, (Below.refl _ _).alloc (Nat.le_refl _) _⟩
end Go.Proofs.YtkljadaggnbjkaaGreat

/- The program's elementKind, specialSet, isOfKind and the seven kinds (written by mk/ikind2.py). -/
namespace Go.Proofs.YtkljadaggnbjkaaGreat
open Go.RowKit Go.Maps
set_option maxRecDepth 100000
set_option linter.unusedVariables false

/-- The datum D is a set of the names that f tells. -/
def SetF (D : DataW Unit) (f : ByteArray → Bool) : Prop := IsMap D ∧ ∀ s : ByteArray, has D (.string s.data.toList) = f s
/-- A set of the names that f tells, in a block of the call's own. -/
def Kept (w : World) (f : ByteArray → Bool) (b : Nat) (w' : World) : Prop := ∃ m D, m ≤ 1000 ∧ w.heap.size ≤ b ∧ w'.ownsMap Tryz.prog 9 unitElem b m D ∧ SetF D f ∧ Below w.heap.size w w'

def RowOk (w : World) (p : Nat × List ByteArray) : Prop := p.1 < w.heap.size ∧ Txt w p.1 p.2 ∧ p.2.length ≤ 100 ∧ ∀ s ∈ p.2, s.size ≤ 100
theorem Txt.below {w w' : World} {B g : Nat} {xs : List ByteArray} (h : Txt w g xs) (hb : Below B w w') (hg : g < B) : Txt w' g xs :=
  fun j hj => (hb.cell hg).trans (h j hj)
theorem RowOk.below {w w' : World} {p : Nat × List ByteArray} (h : RowOk w p) (hb : Below w.heap.size w w') : RowOk w' p :=
  ⟨Nat.lt_of_lt_of_le h.1 hb.size, h.2.1.below hb h.1, h.2.2⟩

theorem small_formats : formats.length ≤ 100 ∧ ∀ s ∈ formats, s.size ≤ 100 := by decide
theorem small_blocks : blocks.length ≤ 100 ∧ ∀ s ∈ blocks, s.size ≤ 100 := by decide
theorem small_headings : headings.length ≤ 100 ∧ ∀ s ∈ headings, s.size ≤ 100 := by decide
theorem small_heads : heads.length ≤ 100 ∧ ∀ s ∈ heads, s.size ≤ 100 := by decide
theorem small_otherSpecials : otherSpecials.length ≤ 100 ∧ ∀ s ∈ otherSpecials, s.size ≤ 100 := by decide
theorem small_implieds : implieds.length ≤ 100 ∧ ∀ s ∈ implieds, s.size ≤ 100 := by decide
theorem small_bounds : bounds.length ≤ 100 ∧ ∀ s ∈ bounds, s.size ≤ 100 := by decide

theorem alloc_size9 (w : World) (o : Obj) : (w.alloc o).heap.size = w.heap.size + 1 := by simp

theorem rows_alloc {w : World} (ps : List (Nat × List ByteArray)) (h : ∀ p ∈ ps, RowOk w p) (cs : Array Value) (t : TypeId)
    (hcs : cs.toList = ps.map fun p => Value.slice (some ⟨p.1, 0, none⟩) p.2.length p.2.length) : Rows (w.alloc (.cells cs t)) w.heap.size ps := by
  refine ⟨by simp, fun k hk => ?_⟩
  obtain ⟨r1, r2, r3, r4⟩ := (h ps[k] (List.getElem_mem hk)).below ((Below.refl w.heap.size w).alloc (Nat.le_refl _) (.cells cs t))
  refine ⟨?_, r1, r2, r3, r4⟩
  have e2 : cs[k]? = some (.slice (some ⟨ps[k].1, 0, none⟩) ps[k].2.length ps[k].2.length) := by
    have : cs.toList[k]? = some (.slice (some ⟨ps[k].1, 0, none⟩) ps[k].2.length ps[k].2.length) := by rw [hcs]; simp [hk]
    simpa using this
  simp only [World.cell?, heap_alloc_new]
  simpa using e2

theorem SetOf.setF {D : DataW Unit} {ps : List (Nat × List ByteArray)} (h : SetOf D (allOf ps)) {xs : List ByteArray} (e : allOf ps = xs) : SetF D (hasB xs) := ⟨h.1, by rw [← e]; exact h.2⟩

def specialF (s : ByteArray) : Bool := hasB (blocks ++ (headings ++ (heads ++ otherSpecials))) s && (!(s.toList == dialogB.toList) && !(s.toList == searchB.toList))

theorem SetF.del {D : DataW Unit} {f : ByteArray → Bool} (h : SetF D f) {D' : DataW Unit} (t : ByteArray) (hi : IsMap D') (e : D' = D.del (.string t.data.toList)) : SetF D' (fun s => f s && !(s.toList == t.toList)) := by
  refine ⟨hi, fun s => ?_⟩
  rw [e]
  show _ = (f s && !(s.toList == t.toList))
  by_cases hst : s = t
  · subst hst
    rw [has_del_same]
    simp
  · rw [has_del_other (data_ne hst), h.2 s, toList_no hst]
    simp

theorem specialSet_any (w : World) : Calls Tryz.prog 82 #[] w fun e w' => ∃ b, e = .returned (.map (some b)) ∧ Kept w specialF b w' := by
  go_enter Tryz.func82, Tryz.ntmps82
  go_wp2_with fail
  go_at_call 79
  refine (blocksNames_any w).mono ?_
  rintro e w1 ⟨rfl, t1, s1, b1⟩
  have R1 : Hid (RowOk w1 (w.heap.size, blocks)) := ⟨s1, t1, small_blocks⟩
  clear t1
  go_wp2_with fail
  go_at_call 80
  refine (headingsNames_any w1).mono ?_
  rintro e w2 ⟨rfl, t2, s2, b2⟩
  have R2 : Hid (RowOk w2 (w1.heap.size, headings)) := ⟨s2, t2, small_headings⟩
  replace R1 : Hid (RowOk w2 (w.heap.size, blocks)) := R1.out.below b2
  clear t2
  go_wp2_with fail
  go_at_call 81
  refine (headsNames_any w2).mono ?_
  rintro e w3 ⟨rfl, t3, s3, b3⟩
  have R3 : Hid (RowOk w3 (w2.heap.size, heads)) := ⟨s3, t3, small_heads⟩
  replace R1 : Hid (RowOk w3 (w.heap.size, blocks)) := R1.out.below b3
  replace R2 : Hid (RowOk w3 (w1.heap.size, headings)) := R2.out.below b3
  clear t3
  go_wp2_with fail
  go_at_call 97
  refine (otherSpecialsNames_any w3).mono ?_
  rintro e w4 ⟨rfl, t4, s4, b4⟩
  have R4 : Hid (RowOk w4 (w3.heap.size, otherSpecials)) := ⟨s4, t4, small_otherSpecials⟩
  replace R1 : Hid (RowOk w4 (w.heap.size, blocks)) := R1.out.below b4
  replace R2 : Hid (RowOk w4 (w1.heap.size, headings)) := R2.out.below b4
  replace R3 : Hid (RowOk w4 (w2.heap.size, heads)) := R3.out.below b4
  clear t4
  go_wp2_with fail
  go_at_call 61
  refine (nameSetOf_any (rows_alloc [(w.heap.size, blocks), (w1.heap.size, headings), (w2.heap.size, heads), (w3.heap.size, otherSpecials)] (by
    intro p hp
    simp only [List.mem_cons, List.not_mem_nil, or_false] at hp
    rcases hp with rfl | rfl | rfl | rfl
    · exact R1.out
    · exact R2.out
    · exact R3.out
    · exact R4.out) _ _ rfl) (by simp) rfl).mono ?_
  clear R1 R2 R3 R4
  rintro e w5 ⟨m, D, hm, rfl, own, set, b5⟩
  rw [alloc_size9] at own b5
  have B5 : Hid (Below w.heap.size w w5 ∧ w.heap.size ≤ w4.heap.size + 1) := by
    refine ⟨(((((b1.trans (b2.mono (by omega))).trans (b3.mono (by omega))).trans (b4.mono (by omega))).alloc (by omega) _).trans (b5.mono (by omega))), by omega⟩
  have S5 : Hid (SetF D (hasB (blocks ++ (headings ++ (heads ++ otherSpecials))))) := set.setF (by simp [allOf])
  clear set b1 b2 b3 b4 b5
  go_wp2_with (first
    | (at_delete; refine wpList_delete_own _ rfl _ _ 78 9 rfl 96 lawSet Tryz.underlying78 _ _ m D rfl own _ _ rfl (keyOf_set (s := dialogB) (by decide)) ?_; intro w6 own6 turn6)
    | (at_delete; refine wpList_delete_own _ rfl _ _ 78 9 rfl 96 lawSet Tryz.underlying78 _ _ m _ rfl own6 _ _ rfl (keyOf_set (s := searchB) (by decide)) ?_; intro w7 own7 turn7))
  have S7 := (S5.out.del dialogB own6.isMap rfl).del searchB own7.isMap rfl
  have B7 := (B5.out.1.grown turn6.grown B5.out.1.size (fun j hj => by cases hj; exact B5.out.2))
  have B8 := B7.grown turn7.grown B7.size (fun j hj => by cases hj; exact B5.out.2)
  go_ret
  exact ⟨_, rfl, m, _, hm, B5.out.2, own7, ⟨S7.1, fun s => (S7.2 s).trans (Bool.and_assoc _ _ _)⟩, B8⟩

theorem element_format (w : World) : Calls Tryz.prog 52 #[.int .i64 0] w fun e w' => ∃ b, e = .returned (.iface 78 (.map (some b))) ∧ Kept w (hasB formats) b w' := by
  go_enter Tryz.func52, Tryz.ntmps52
  go_wp2_with fail
  go_at_call 78
  refine (formatsNames_any w).mono ?_
  rintro e w1 ⟨rfl, t1, s1, b1⟩
  have R1 : Hid (RowOk w1 (w.heap.size, formats)) := ⟨s1, t1, small_formats⟩
  clear t1
  go_wp2_with fail
  go_at_call 61
  refine (nameSetOf_any (rows_alloc [(w.heap.size, formats)] (by
    intro p hp
    simp only [List.mem_cons, List.not_mem_nil, or_false] at hp
    subst hp
    exact R1.out) _ _ rfl) (by simp) rfl).mono ?_
  clear R1
  rintro e w2 ⟨m, D, hm, rfl, own, set, b2⟩
  rw [alloc_size9] at own b2
  have HK : Hid (Kept w (hasB formats) (w1.heap.size + 1) w2) := ⟨m, D, hm, by omega, own, set.setF (by simp [allOf]), (b1.alloc (by omega) _).trans (b2.mono (by omega))⟩
  clear own set b1 b2
  go_wp2
  go_ret
  exact ⟨_, rfl, HK.out⟩

theorem element_block (w : World) : Calls Tryz.prog 52 #[.int .i64 1] w fun e w' => ∃ b, e = .returned (.iface 78 (.map (some b))) ∧ Kept w (hasB blocks) b w' := by
  go_enter Tryz.func52, Tryz.ntmps52
  go_wp2_with fail
  go_at_call 79
  refine (blocksNames_any w).mono ?_
  rintro e w1 ⟨rfl, t1, s1, b1⟩
  have R1 : Hid (RowOk w1 (w.heap.size, blocks)) := ⟨s1, t1, small_blocks⟩
  clear t1
  go_wp2_with fail
  go_at_call 61
  refine (nameSetOf_any (rows_alloc [(w.heap.size, blocks)] (by
    intro p hp
    simp only [List.mem_cons, List.not_mem_nil, or_false] at hp
    subst hp
    exact R1.out) _ _ rfl) (by simp) rfl).mono ?_
  clear R1
  rintro e w2 ⟨m, D, hm, rfl, own, set, b2⟩
  rw [alloc_size9] at own b2
  have HK : Hid (Kept w (hasB blocks) (w1.heap.size + 1) w2) := ⟨m, D, hm, by omega, own, set.setF (by simp [allOf]), (b1.alloc (by omega) _).trans (b2.mono (by omega))⟩
  clear own set b1 b2
  go_wp2
  go_ret
  exact ⟨_, rfl, HK.out⟩

theorem element_heading (w : World) : Calls Tryz.prog 52 #[.int .i64 2] w fun e w' => ∃ b, e = .returned (.iface 78 (.map (some b))) ∧ Kept w (hasB headings) b w' := by
  go_enter Tryz.func52, Tryz.ntmps52
  go_wp2_with fail
  go_at_call 80
  refine (headingsNames_any w).mono ?_
  rintro e w1 ⟨rfl, t1, s1, b1⟩
  have R1 : Hid (RowOk w1 (w.heap.size, headings)) := ⟨s1, t1, small_headings⟩
  clear t1
  go_wp2_with fail
  go_at_call 61
  refine (nameSetOf_any (rows_alloc [(w.heap.size, headings)] (by
    intro p hp
    simp only [List.mem_cons, List.not_mem_nil, or_false] at hp
    subst hp
    exact R1.out) _ _ rfl) (by simp) rfl).mono ?_
  clear R1
  rintro e w2 ⟨m, D, hm, rfl, own, set, b2⟩
  rw [alloc_size9] at own b2
  have HK : Hid (Kept w (hasB headings) (w1.heap.size + 1) w2) := ⟨m, D, hm, by omega, own, set.setF (by simp [allOf]), (b1.alloc (by omega) _).trans (b2.mono (by omega))⟩
  clear own set b1 b2
  go_wp2
  go_ret
  exact ⟨_, rfl, HK.out⟩

theorem element_head (w : World) : Calls Tryz.prog 52 #[.int .i64 3] w fun e w' => ∃ b, e = .returned (.iface 78 (.map (some b))) ∧ Kept w (hasB heads) b w' := by
  go_enter Tryz.func52, Tryz.ntmps52
  go_wp2_with fail
  go_at_call 81
  refine (headsNames_any w).mono ?_
  rintro e w1 ⟨rfl, t1, s1, b1⟩
  have R1 : Hid (RowOk w1 (w.heap.size, heads)) := ⟨s1, t1, small_heads⟩
  clear t1
  go_wp2_with fail
  go_at_call 61
  refine (nameSetOf_any (rows_alloc [(w.heap.size, heads)] (by
    intro p hp
    simp only [List.mem_cons, List.not_mem_nil, or_false] at hp
    subst hp
    exact R1.out) _ _ rfl) (by simp) rfl).mono ?_
  clear R1
  rintro e w2 ⟨m, D, hm, rfl, own, set, b2⟩
  rw [alloc_size9] at own b2
  have HK : Hid (Kept w (hasB heads) (w1.heap.size + 1) w2) := ⟨m, D, hm, by omega, own, set.setF (by simp [allOf]), (b1.alloc (by omega) _).trans (b2.mono (by omega))⟩
  clear own set b1 b2
  go_wp2
  go_ret
  exact ⟨_, rfl, HK.out⟩

theorem element_special (w : World) : Calls Tryz.prog 52 #[.int .i64 4] w fun e w' => ∃ b, e = .returned (.iface 78 (.map (some b))) ∧ Kept w specialF b w' := by
  go_enter Tryz.func52, Tryz.ntmps52
  go_wp2_with fail
  go_at_call 82
  refine (specialSet_any w).mono ?_
  rintro e w1 ⟨b, rfl, hb⟩
  have HB := (show Hid _ from hb)
  clear hb
  go_wp2
  go_ret
  exact ⟨b, rfl, HB.out⟩

theorem element_implied (w : World) : Calls Tryz.prog 52 #[.int .i64 5] w fun e w' => ∃ b, e = .returned (.iface 78 (.map (some b))) ∧ Kept w (hasB implieds) b w' := by
  go_enter Tryz.func52, Tryz.ntmps52
  go_wp2_with fail
  go_at_call 83
  refine (impliedsNames_any w).mono ?_
  rintro e w1 ⟨rfl, t1, s1, b1⟩
  have R1 : Hid (RowOk w1 (w.heap.size, implieds)) := ⟨s1, t1, small_implieds⟩
  clear t1
  go_wp2_with fail
  go_at_call 61
  refine (nameSetOf_any (rows_alloc [(w.heap.size, implieds)] (by
    intro p hp
    simp only [List.mem_cons, List.not_mem_nil, or_false] at hp
    subst hp
    exact R1.out) _ _ rfl) (by simp) rfl).mono ?_
  clear R1
  rintro e w2 ⟨m, D, hm, rfl, own, set, b2⟩
  rw [alloc_size9] at own b2
  have HK : Hid (Kept w (hasB implieds) (w1.heap.size + 1) w2) := ⟨m, D, hm, by omega, own, set.setF (by simp [allOf]), (b1.alloc (by omega) _).trans (b2.mono (by omega))⟩
  clear own set b1 b2
  go_wp2
  go_ret
  exact ⟨_, rfl, HK.out⟩

theorem element_bound (w : World) : Calls Tryz.prog 52 #[.int .i64 6] w fun e w' => ∃ b, e = .returned (.iface 78 (.map (some b))) ∧ Kept w (hasB bounds) b w' := by
  go_enter Tryz.func52, Tryz.ntmps52
  go_wp2_with fail
  go_at_call 62
  refine (boundsNames_any w).mono ?_
  rintro e w1 ⟨rfl, t1, s1, b1⟩
  have R1 : Hid (RowOk w1 (w.heap.size, bounds)) := ⟨s1, t1, small_bounds⟩
  clear t1
  go_wp2_with fail
  go_at_call 61
  refine (nameSetOf_any (rows_alloc [(w.heap.size, bounds)] (by
    intro p hp
    simp only [List.mem_cons, List.not_mem_nil, or_false] at hp
    subst hp
    exact R1.out) _ _ rfl) (by simp) rfl).mono ?_
  clear R1
  rintro e w2 ⟨m, D, hm, rfl, own, set, b2⟩
  rw [alloc_size9] at own b2
  have HK : Hid (Kept w (hasB bounds) (w1.heap.size + 1) w2) := ⟨m, D, hm, by omega, own, set.setF (by simp [allOf]), (b1.alloc (by omega) _).trans (b2.mono (by omega))⟩
  clear own set b1 b2
  go_wp2
  go_ret
  exact ⟨_, rfl, HK.out⟩

theorem assertSet (W : World) (v : Value) : (Instr.typeAssert (.iface 78 v) 20 78 true).run Tryz.prog W = .ok (.tuple #[v, .bool true]) W := by kernel_rfl

theorem isetHas_any {b : Nat} {f : ByteArray → Bool} {w0 w : World} (hk : Kept w0 f b w) (s : ByteArray) (hs : s.size ≤ maxLen) :
    Calls Tryz.prog 53 #[.map (some b), .string s] w fun e w' => e = .returned (.bool (f s)) ∧ Below w.heap.size w w' := by
  obtain ⟨m, D, hm, hb, own, set, bel⟩ := hk
  have HF : Hid (has D (.string s.data.toList) = f s) := set.2 s
  clear set
  have hkey := keyOf_set (s := s) hs
  go_enter Tryz.func53, Tryz.ntmps53
  go_wp2_with (at_lookup; refine wpList_lookup_own_unit _ rfl _ _ 78 rfl 9 96 lawSet Tryz.underlying78 (zeroSet _) b m D rfl own _ _ rfl hkey ?_)
  go_ret
  refine ⟨ret_bool HF.out, ?_⟩
  exact (Below.refl _ _).alloc (Nat.le_refl _) _

theorem isOfKind_of {k : Int} {f : ByteArray → Bool} (hk : ∀ w, Calls Tryz.prog 52 #[.int .i64 k] w fun e w' => ∃ b, e = .returned (.iface 78 (.map (some b))) ∧ Kept w f b w') (s : ByteArray) (hs : s.size ≤ maxLen) (w : World) :
    Calls Tryz.prog 28 #[.string s, .int .i64 k] w fun e w' => e = .returned (.bool (f s)) ∧ Below w.heap.size w w' := by
  have HK := (show Hid _ from hk)
  clear hk
  have hass := assertSet
  go_enter Tryz.func28, Tryz.ntmps28
  go_wp2_with fail
  go_at_call 52
  refine Calls.mono (HK.out w) ?_
  rintro e w1 ⟨b, rfl, kept⟩
  have HP := (show Hid _ from kept)
  have bel : Below w.heap.size w w1 := by obtain ⟨_, _, _, _, _, _, h⟩ := kept; exact h
  clear kept HK
  go_wp2_with fail
  go_at_call 53
  refine Calls.mono (isetHas_any HP.out s hs) ?_
  rintro e w2 ⟨rfl, b2⟩
  go_wp2
  go_ret
  exact ⟨rfl, bel.trans (b2.mono bel.size)⟩

theorem iisImplied_any (s : ByteArray) (hs : s.size ≤ maxLen) (w : World) : Calls Tryz.prog 13 #[.string s] w fun e w' => e = .returned (.bool (hasB implieds s)) ∧ Below w.heap.size w w' := by
  go_enter Tryz.func13, Tryz.ntmps13
  go_wp2_with fail
  go_at_call 28
  refine (isOfKind_of element_implied s hs w).mono ?_
  rintro e w1 ⟨rfl, b1⟩
  go_wp2
  go_ret
  exact ⟨rfl, b1⟩

end Go.Proofs.YtkljadaggnbjkaaGreat

/- The program's lastThat with the closures of a row (written by mk/irow3.py). No condition. -/
namespace Go.Proofs.YtkljadaggnbjkaaGreat
open Go.RowKit
set_option maxRecDepth 100000
set_option linter.unusedVariables false

/-- The receiver's box and the name's box of a closure over a row. -/
structure Boxes (w : World) (R M A : Nat) (v : Value) (nm : ByteArray) : Prop where
  r1 : w.cell? ⟨R, 1, none⟩ = some (.pointer (some ⟨A, 0, none⟩))
  a0 : w.cell? ⟨A, 0, none⟩ = some v
  m0 : w.cell? ⟨M, 0, none⟩ = some (.string nm)
theorem Boxes.below {w w' : World} {R M A : Nat} {v : Value} {nm : ByteArray} (h : Boxes w R M A v nm) (hb : Below w.heap.size w w') : Boxes w' R M A v nm :=
  ⟨(hb.cell (p := ⟨R, 1, none⟩) (lt_of_cell h.r1)).trans h.r1, (hb.cell (p := ⟨A, 0, none⟩) (lt_of_cell h.a0)).trans h.a0, (hb.cell (p := ⟨M, 0, none⟩) (lt_of_cell h.m0)).trans h.m0⟩

set_option maxHeartbeats 1000000 in
set_option maxRecDepth 100000 in
theorem inamed1_any {w : World} {R M A : Nat} {v : Value} {nm : ByteArray} {ns : List PNode} (hx : Boxes w R M A v nm) (hn : NodesAt w v ns) (hlen : ns.length ≤ 1048576) {x : Int} (he : elB ns x = true) :
    Calls Tryz.prog 48 #[.int .i64 x, .pointer (some ⟨R, 0, none⟩), .pointer (some ⟨M, 0, none⟩)] w fun e w' => e = .returned (.bool (named ns nm x)) ∧ Below w.heap.size w w' := by
  obtain ⟨a, cap, rfl, hc1, hc2, hcs⟩ := hn.slice
  obtain ⟨m, rfl, hm⟩ := elB_at he
  obtain ⟨b, off, av, kv, rfl, hblt, _, d1, _⟩ := hcs m hm
  have HNM : Hid (named ns nm (m : Int) = decide (ns[m].name = nm)) := (show named ns nm (m : Int) = decide (ns[m].name = nm) by rw [named, nmOf_at hm])
  obtain ⟨y, hy⟩ : ∃ y, y = ns[m].name := ⟨_, rfl⟩
  rw [← hy] at d1 HNM
  have f0 : ∀ n : Wd w.heap.size w, n.w.cell? ⟨R, 1, none⟩ = some (.pointer (some ⟨A, 0, none⟩)) := fun n => (hx.below n.below).r1
  have f1 : ∀ n : Wd w.heap.size w, n.w.cell? ⟨A, 0, none⟩ = some (.slice (some ⟨b, off, none⟩) ns.length cap) := fun n => (hx.below n.below).a0
  have f2 : ∀ n : Wd w.heap.size w, n.w.cell? ⟨M, 0, none⟩ = some (.string nm) := fun n => (hx.below n.below).m0
  have f3 : ∀ n : Wd w.heap.size w, n.w.cell? ⟨b, off + m * 6 + 1, none⟩ = some (.string y) := fun n => (n.below.cell (p := ⟨b, off + m * 6 + 1, none⟩) hblt).trans d1
  have ne := Wd.any w.heap.size w
  rw [HNM.out]
  clear hcs hn hx he d1 hy HNM
  by_cases hq : y = nm
  · rw [decide_eq_true hq]
    subst hq
    go_enter Tryz.func48, Tryz.ntmps48
    go_wp2
    refine wp_region_below (B := w.heap.size) (w0 := w) (by kernel_rfl) (by kernel_rfl) (Below.refl _ _) ?_
    repeat (go_big_quiet_step (fail))
    refine wpQuiet_nil ?_
    intro wq hq
    replace hq := Wd.of hq
    go_wp2
    go_ret
    exact ⟨rfl, hq⟩
  · rw [decide_eq_false hq]
    have hd := toList_ne hq
    go_enter Tryz.func48, Tryz.ntmps48
    go_wp2
    refine wp_region_below (B := w.heap.size) (w0 := w) (by kernel_rfl) (by kernel_rfl) (Below.refl _ _) ?_
    repeat (go_big_quiet_step (fail))
    refine wpQuiet_nil ?_
    intro wq hq
    replace hq := Wd.of hq
    go_wp2
    go_ret
    exact ⟨rfl, hq⟩

/-- Of that name, or not implied. -/
def stays (ns : List PNode) (nm : ByteArray) (x : Int) : Bool := decide (nmOf ns x = nm) || !(hasB implieds (nmOf ns x))

set_option maxHeartbeats 1000000 in
set_option maxRecDepth 100000 in
theorem iimplied1_any {w : World} {R M A : Nat} {v : Value} {nm : ByteArray} {ns : List PNode} (hx : Boxes w R M A v nm) (hn : NodesAt w v ns) (hfit : ∀ n ∈ ns, NodeFit n) (hlen : ns.length ≤ 1048576) {x : Int} (he : elB ns x = true) :
    Calls Tryz.prog 51 #[.int .i64 x, .pointer (some ⟨R, 0, none⟩), .pointer (some ⟨M, 0, none⟩)] w fun e w' => e = .returned (.bool (stays ns nm x)) ∧ Below w.heap.size w w' := by
  obtain ⟨a, cap, rfl, hc1, hc2, hcs⟩ := hn.slice
  obtain ⟨m, rfl, hm⟩ := elB_at he
  obtain ⟨b, off, av, kv, rfl, hblt, _, d1, _⟩ := hcs m hm
  have hsz : ns[m].name.size ≤ maxLen := by have := (hfit ns[m] (List.getElem_mem hm)).nm; unfold maxLen; omega
  have HNM : Hid (stays ns nm (m : Int) = (decide (ns[m].name = nm) || !(hasB implieds ns[m].name))) := (show stays ns nm (m : Int) = _ by rw [stays, nmOf_at hm])
  obtain ⟨y, hy⟩ : ∃ y, y = ns[m].name := ⟨_, rfl⟩
  rw [← hy] at d1 HNM hsz
  have CI := (show Hid (∀ w, Calls Tryz.prog 13 #[.string y] w fun e w' => e = .returned (.bool (hasB implieds y)) ∧ Below w.heap.size w w') from fun w => iisImplied_any y hsz w)
  have f0 : ∀ n : Wd w.heap.size w, n.w.cell? ⟨R, 1, none⟩ = some (.pointer (some ⟨A, 0, none⟩)) := fun n => (hx.below n.below).r1
  have f1 : ∀ n : Wd w.heap.size w, n.w.cell? ⟨A, 0, none⟩ = some (.slice (some ⟨b, off, none⟩) ns.length cap) := fun n => (hx.below n.below).a0
  have f2 : ∀ n : Wd w.heap.size w, n.w.cell? ⟨M, 0, none⟩ = some (.string nm) := fun n => (hx.below n.below).m0
  have f3 : ∀ n : Wd w.heap.size w, n.w.cell? ⟨b, off + m * 6 + 1, none⟩ = some (.string y) := fun n => (n.below.cell (p := ⟨b, off + m * 6 + 1, none⟩) hblt).trans d1
  have ne := Wd.any w.heap.size w
  rw [HNM.out]
  obtain ⟨q, hq'⟩ : ∃ q, q = hasB implieds y := ⟨_, rfl⟩
  rw [← hq'] at CI ⊢
  clear hcs hn hx he d1 hy HNM hfit hq'
  by_cases hq : y = nm
  · rw [decide_eq_true hq, Bool.true_or]
    subst hq
    go_enter Tryz.func51, Tryz.ntmps51
    go_wp2
    refine wp_region_below (B := w.heap.size) (w0 := w) (by kernel_rfl) (by kernel_rfl) (Below.refl _ _) ?_
    repeat (go_big_quiet_step (fail))
    refine wpQuiet_nil ?_
    intro wq hq
    replace hq := Wd.of hq
    go_wp2
    go_ret
    exact ⟨rfl, hq⟩
  · rw [decide_eq_false hq, Bool.false_or]
    have hd := toList_ne hq
    go_enter Tryz.func51, Tryz.ntmps51
    go_wp2
    refine wp_region_below (B := w.heap.size) (w0 := w) (by kernel_rfl) (by kernel_rfl) (Below.refl _ _) ?_
    repeat (go_big_quiet_step ((go_at_call 13; exact quiet_below (CI.out _) (Nat.le_refl _))))
    refine wpQuiet_nil ?_
    intro wq hq
    replace hq := Wd.of hq
    go_wp2
    go_ret
    exact ⟨rfl, hq⟩

set_option maxRecDepth 100000 in
theorem ilastThat_named {rv : Value} {row : List Int} {w : World} {R M : Nat} {p : Int → Bool} (h : Sl .i64 w rv row) (hn : row.length ≤ 1048576)
    (hf : ∀ x ∈ row, ∀ w', Below w.heap.size w w' → Calls Tryz.prog 48 #[.int .i64 x, .pointer (some ⟨R, 0, none⟩), .pointer (some ⟨M, 0, none⟩)] w' fun e w'' => e = .returned (.bool (p x)) ∧ Below w'.heap.size w' w'') :
    Calls Tryz.prog 47 #[rv, .func (.func 48) #[] #[.pointer (some ⟨R, 0, none⟩), .pointer (some ⟨M, 0, none⟩)]] w fun e w' => e = .returned (.int .i64 ((lastAt p row row.length : Int) - 1)) ∧ Below w.heap.size w w' := by
  have HF := (show Hid _ from hf)
  obtain ⟨a, ca, rfl, _, _, _, ha⟩ := h
  clear hf
  go_enter Tryz.func47, Tryz.ntmps47
  go_wp2
  go_loopw [5] (fun i wr => ∃ k : Nat, k ≤ row.length ∧ i = .int .i64 ((k : Int) - 1) ∧ lastAt p row row.length = lastAt p row k ∧ Below w.heap.size w wr) (fun i _ => (intOf i + 1).toNat)
  case atStart => exact ⟨row.length, Nat.le_refl _, by go_num, rfl, Below.refl _ _⟩
  case round =>
    obtain ⟨k, hk, rfl, he, bel⟩ := hrel
    have HE := (show Hid (lastAt p row row.length = lastAt p row k) from he)
    clear he
    cases k with
    | zero =>
      clear ha
      go_wp2
      go_ret
      exact ⟨by rw [HE.out]; rfl, bel⟩
    | succ k =>
      have hs : ((k + 1 : Nat) : Int) - 1 = (k : Int) := by omega
      obtain ⟨b1, o1, rfl, c1⟩ := ha k (by omega)
      replace c1 := (bel.cell (p := ⟨b1, o1 + k, none⟩) (lt_of_cell c1)).trans c1
      have hmem : row.getD k 0 ∈ row := by rw [List.getD_eq_getElem?_getD, List.getElem?_eq_getElem (by omega : k < row.length)]; exact List.getElem_mem _
      have CC := (show Hid _ from HF.out _ hmem wr bel)
      obtain ⟨y, hy⟩ : ∃ y, y = row.getD k 0 := ⟨_, rfl⟩
      rw [← hy] at c1 CC
      rw [hs]
      have HY := (show Hid (y = row.getD k 0) from hy)
      obtain ⟨q, hq⟩ : ∃ q, q = p y := ⟨_, rfl⟩
      rw [← hq] at CC
      have HQ := (show Hid (q = p y) from hq)
      clear ha hy hs hmem hq
      go_wp2_with fail
      go_at_call 48
      refine Calls.mono CC.out ?_
      rintro e w2 ⟨rfl, b2⟩
      have bel2 := bel.trans (b2.mono bel.size)
      cases q
      · go_wp2
        go_roundw
        case rel => exact ⟨k, by omega, by go_num, by rw [HE.out, lastAt_no (by rw [← HY.out]; exact HQ.out.symm)], bel2⟩
        case measure => simp [intOf]
      · go_wp2
        go_ret
        exact ⟨by rw [HE.out, lastAt_yes (by rw [← HY.out]; exact HQ.out.symm)]; simp, bel2⟩

set_option maxRecDepth 100000 in
theorem ilastThat_implied {rv : Value} {row : List Int} {w : World} {R M : Nat} {p : Int → Bool} (h : Sl .i64 w rv row) (hn : row.length ≤ 1048576)
    (hf : ∀ x ∈ row, ∀ w', Below w.heap.size w w' → Calls Tryz.prog 51 #[.int .i64 x, .pointer (some ⟨R, 0, none⟩), .pointer (some ⟨M, 0, none⟩)] w' fun e w'' => e = .returned (.bool (p x)) ∧ Below w'.heap.size w' w'') :
    Calls Tryz.prog 47 #[rv, .func (.func 51) #[] #[.pointer (some ⟨R, 0, none⟩), .pointer (some ⟨M, 0, none⟩)]] w fun e w' => e = .returned (.int .i64 ((lastAt p row row.length : Int) - 1)) ∧ Below w.heap.size w w' := by
  have HF := (show Hid _ from hf)
  obtain ⟨a, ca, rfl, _, _, _, ha⟩ := h
  clear hf
  go_enter Tryz.func47, Tryz.ntmps47
  go_wp2
  go_loopw [5] (fun i wr => ∃ k : Nat, k ≤ row.length ∧ i = .int .i64 ((k : Int) - 1) ∧ lastAt p row row.length = lastAt p row k ∧ Below w.heap.size w wr) (fun i _ => (intOf i + 1).toNat)
  case atStart => exact ⟨row.length, Nat.le_refl _, by go_num, rfl, Below.refl _ _⟩
  case round =>
    obtain ⟨k, hk, rfl, he, bel⟩ := hrel
    have HE := (show Hid (lastAt p row row.length = lastAt p row k) from he)
    clear he
    cases k with
    | zero =>
      clear ha
      go_wp2
      go_ret
      exact ⟨by rw [HE.out]; rfl, bel⟩
    | succ k =>
      have hs : ((k + 1 : Nat) : Int) - 1 = (k : Int) := by omega
      obtain ⟨b1, o1, rfl, c1⟩ := ha k (by omega)
      replace c1 := (bel.cell (p := ⟨b1, o1 + k, none⟩) (lt_of_cell c1)).trans c1
      have hmem : row.getD k 0 ∈ row := by rw [List.getD_eq_getElem?_getD, List.getElem?_eq_getElem (by omega : k < row.length)]; exact List.getElem_mem _
      have CC := (show Hid _ from HF.out _ hmem wr bel)
      obtain ⟨y, hy⟩ : ∃ y, y = row.getD k 0 := ⟨_, rfl⟩
      rw [← hy] at c1 CC
      rw [hs]
      have HY := (show Hid (y = row.getD k 0) from hy)
      obtain ⟨q, hq⟩ : ∃ q, q = p y := ⟨_, rfl⟩
      rw [← hq] at CC
      have HQ := (show Hid (q = p y) from hq)
      clear ha hy hs hmem hq
      go_wp2_with fail
      go_at_call 51
      refine Calls.mono CC.out ?_
      rintro e w2 ⟨rfl, b2⟩
      have bel2 := bel.trans (b2.mono bel.size)
      cases q
      · go_wp2
        go_roundw
        case rel => exact ⟨k, by omega, by go_num, by rw [HE.out, lastAt_no (by rw [← HY.out]; exact HQ.out.symm)], bel2⟩
        case measure => simp [intOf]
      · go_wp2
        go_ret
        exact ⟨by rw [HE.out, lastAt_yes (by rw [← HY.out]; exact HQ.out.symm)]; simp, bel2⟩
end Go.Proofs.YtkljadaggnbjkaaGreat

/- The program's OpenAt, PopTo and PopImplied (written by mk/irow4.py). No condition. -/
namespace Go.Proofs.YtkljadaggnbjkaaGreat
open Go.RowKit
set_option maxRecDepth 100000
set_option linter.unusedVariables false

/-- A row beside its nodes, as the program keeps it. -/
structure RowAt (w : World) (A : Nat) (v rv : Value) (ns : List PNode) (row : List Int) : Prop where
  nodes : NodesAt w v ns
  fit : ∀ n ∈ ns, NodeFit n
  len : ns.length ≤ 1048576
  a0 : w.cell? ⟨A, 0, none⟩ = some v
  sl : Sl .i64 w rv row
  row : RowP ns row
theorem RowAt.below {w w' : World} {A : Nat} {v rv : Value} {ns : List PNode} {row : List Int} (h : RowAt w A v rv ns row) (hb : Below w.heap.size w w') : RowAt w' A v rv ns row :=
  ⟨h.nodes.below hb, h.fit, h.len, (hb.cell (p := ⟨A, 0, none⟩) (lt_of_cell h.a0)).trans h.a0, h.sl.below hb, h.row⟩
theorem RowAt.el {w : World} {A : Nat} {v rv : Value} {ns : List PNode} {row : List Int} (h : RowAt w A v rv ns row) : ∀ x ∈ row, elB ns x = true := fun x hx => by
  obtain ⟨i, hi, rfl⟩ := List.mem_iff_getElem.mp hx
  exact h.row.el i hi

theorem two_boxes {w : World} {A : Nat} {v rv : Value} {nm : ByteArray} (ha : w.cell? ⟨A, 0, none⟩ = some v) :
    Boxes ((w.alloc (.cells #[rv, .pointer (some ⟨A, 0, none⟩)] 46)).alloc (.cells #[.string nm] 9)) w.heap.size (w.heap.size + 1) A v nm := by
  have h1 : ((w.alloc (.cells #[rv, .pointer (some ⟨A, 0, none⟩)] 46)).alloc (.cells #[.string nm] 9)).heap[w.heap.size]? = some (.cells #[rv, .pointer (some ⟨A, 0, none⟩)] 46 (0, 0)) := by
    rw [Below.heap_alloc _ _ _ (by simp)]; exact World.alloc_heap_new _ _
  have h2 : ((w.alloc (.cells #[rv, .pointer (some ⟨A, 0, none⟩)] 46)).alloc (.cells #[.string nm] 9)).heap[w.heap.size + 1]? = some (.cells #[.string nm] 9 (0, 0)) := by
    have := World.alloc_heap_new (w.alloc (.cells #[rv, .pointer (some ⟨A, 0, none⟩)] 46)) (.cells #[.string nm] 9)
    rwa [World.size_alloc] at this
  have bb : Below w.heap.size w ((w.alloc (.cells #[rv, .pointer (some ⟨A, 0, none⟩)] 46)).alloc (.cells #[.string nm] 9)) := ((Below.refl _ w).alloc (Nat.le_refl _) _).alloc (by simp) _
  exact ⟨by simp only [World.cell?, h1]; rfl, (bb.cell (p := ⟨A, 0, none⟩) (lt_of_cell ha)).trans ha, by simp only [World.cell?, h2]; rfl⟩

set_option maxRecDepth 100000 in
theorem ilastNamed_any {w : World} {A : Nat} {v rv : Value} {ns : List PNode} {row : List Int} (h : RowAt w A v rv ns row) (nm : ByteArray) :
    Calls Tryz.prog 24 #[.agg #[rv, .pointer (some ⟨A, 0, none⟩)], .string nm] w fun e w' => e = .returned (.int .i64 ((lastAt (named ns nm) row row.length : Int) - 1)) ∧ Below w.heap.size w w' := by
  have H := (show Hid (RowAt w A v rv ns row) from h)
  obtain ⟨ra, rc, rfl, _, _, _, _⟩ := h.sl
  have hrl := h.row.len
  have BX := (show Hid _ from two_boxes (rv := .slice ra row.length rc) (nm := nm) h.a0)
  obtain ⟨w2, hw2⟩ : ∃ w2, w2 = ((w.alloc (.cells #[.slice ra row.length rc, .pointer (some ⟨A, 0, none⟩)] 46)).alloc (.cells #[.string nm] 9)) := ⟨_, rfl⟩
  have b2 : Below w.heap.size w w2 := by rw [hw2]; exact ((Below.refl _ w).alloc (Nat.le_refl _) _).alloc (by simp) _
  rw [← hw2] at BX
  have CC := (show Hid _ from ilastThat_named (R := w.heap.size) (M := w.heap.size + 1) (p := named ns nm) (H.out.below b2).sl (by omega) (fun x hx w' hb => inamed1_any (BX.out.below hb) ((H.out.below b2).below hb).nodes H.out.len (H.out.el x hx)))
  clear h
  go_enter Tryz.func24, Tryz.ntmps24
  go_wp2_with fail
  go_at_call 47
  rw [← hw2]
  refine Calls.mono CC.out ?_
  rintro e w3 ⟨rfl, b3⟩
  clear hw2
  go_wp2
  go_ret
  exact ⟨rfl, b2.trans (b3.mono b2.size)⟩

set_option maxRecDepth 100000 in
theorem ikeep_any {w : World} {p : Value} {ra : Option Addr} {rc : Nat} {row : List Int} (h : Sl .i64 w (.slice ra row.length rc) row) (hn : row.length ≤ 1048576) (A : Nat) (n : Nat) (hl : n ≤ row.length) :
    Calls Tryz.prog 44 #[.agg #[.slice ra row.length rc, .pointer (some ⟨A, 0, none⟩)], .int .i64 n] w fun e w' => ∃ v', e = .returned v' ∧ Own w.heap.size 3 .i64 w' v' (row.take (max n 1)) ∧ Below w.heap.size w w' := by
  have HS := (show Hid (Sl .i64 w (.slice ra row.length rc) row) from h)
  clear h
  obtain ⟨w1, hw1⟩ : ∃ w1, w1 = w.alloc (.cells #[.slice ra row.length rc, .pointer (some ⟨A, 0, none⟩)] 46) := ⟨_, rfl⟩
  have b1 : Below w.heap.size w w1 := by rw [hw1]; exact (Below.refl _ _).alloc (Nat.le_refl _) _
  by_cases h0 : row.length = 0
  · obtain rfl : row = [] := List.length_eq_zero_iff.mp h0
    obtain rfl : n = 0 := by simpa using hl
    have CF := (show Hid _ from ifirst_one (HS.out.below b1))
    go_enter Tryz.func44, Tryz.ntmps44
    go_wp2_with fail
    go_at_call 73
    have hw2 : w1 = w.alloc (.cells #[.slice ra 0 rc, .pointer (some ⟨A, 0, none⟩)] 46) := hw1
    rw [← hw2]
    refine Calls.mono CF.out ?_
    rintro e w2 ⟨v2, rfl, o2, b2⟩
    clear hw1 hw2
    go_wp2
    go_ret
    exact ⟨_, rfl, by simpa using o2.base b1.size, b1.trans (b2.mono b1.size)⟩
  · by_cases h1 : n ≤ 1
    · have CF := (show Hid _ from ifirst_any (HS.out.below b1) hn 1 (by omega))
      rw [show ((1 : Nat) : Int) = 1 from rfl] at CF
      rcases (show n = 0 ∨ n = 1 by omega) with rfl | rfl
      · go_enter Tryz.func44, Tryz.ntmps44
        go_wp2_with fail
        go_at_call 73
        rw [← hw1]
        refine Calls.mono CF.out ?_
        rintro e w2 ⟨v2, rfl, o2, b2⟩
        clear hw1
        go_wp2
        go_ret
        exact ⟨_, rfl, o2.base b1.size, b1.trans (b2.mono b1.size)⟩
      · go_enter Tryz.func44, Tryz.ntmps44
        go_wp2_with fail
        go_at_call 73
        rw [← hw1]
        refine Calls.mono CF.out ?_
        rintro e w2 ⟨v2, rfl, o2, b2⟩
        clear hw1
        go_wp2
        go_ret
        exact ⟨_, rfl, o2.base b1.size, b1.trans (b2.mono b1.size)⟩
    · have CF := (show Hid _ from ifirst_any (HS.out.below b1) hn n (by omega))
      have hm : max n 1 = n := by omega
      have hlt : (1 : Int) < n := by omega
      rw [hm]
      go_enter Tryz.func44, Tryz.ntmps44
      go_wp2_with fail
      go_at_call 73
      rw [← hw1]
      refine Calls.mono CF.out ?_
      rintro e w2 ⟨v2, rfl, o2, b2⟩
      clear hw1
      go_wp2
      go_ret
      exact ⟨_, rfl, o2.base b1.size, b1.trans (b2.mono b1.size)⟩

set_option maxRecDepth 100000 in
theorem ipopTo_m {w : World} {A : Nat} {v rv : Value} {ns : List PNode} {row : List Int} (h : RowAt w A v rv ns row) (nm : ByteArray) :
    Calls Tryz.prog 21 #[.agg #[rv, .pointer (some ⟨A, 0, none⟩)], .string nm] w fun e w' => ∃ v', e = .returned v' ∧ Own w.heap.size 3 .i64 w' v' (popL ns nm row) ∧ Below w.heap.size w w' := by
  have H := (show Hid (RowAt w A v rv ns row) from h)
  obtain ⟨ra, rc, rfl, _, _, _, _⟩ := h.sl
  have hrl := h.row.len
  have hla := lastAt_le (named ns nm) row row.length
  clear h
  obtain ⟨w1, hw1⟩ : ∃ w1, w1 = w.alloc (.cells #[.slice ra row.length rc, .pointer (some ⟨A, 0, none⟩)] 46) := ⟨_, rfl⟩
  have b1 : Below w.heap.size w w1 := by rw [hw1]; exact (Below.refl _ _).alloc (Nat.le_refl _) _
  have g1 : w1.heap[w.heap.size]? = some (.cells #[.slice ra row.length rc, .pointer (some ⟨A, 0, none⟩)] 46 (0, 0)) := by rw [hw1]; exact World.alloc_heap_new _ _
  have HG1 := (show Hid _ from g1)
  have CC := (show Hid _ from ilastNamed_any (H.out.below b1) nm)
  clear g1
  go_enter Tryz.func21, Tryz.ntmps21
  go_wp2_with fail
  go_at_call 24
  rw [← hw1]
  refine Calls.mono CC.out ?_
  rintro e w2 ⟨rfl, b2⟩
  clear hw1 CC
  have hb := b1.trans (b2.mono b1.size)
  have g2 := (b2.block _ (blk_lt HG1.out)).trans HG1.out
  have k0 : w2.cell? ⟨w.heap.size, 0, none⟩ = some (.slice ra row.length rc) := by simp only [World.cell?, g2]; rfl
  have k1 : w2.cell? ⟨w.heap.size, 1, none⟩ = some (.pointer (some ⟨A, 0, none⟩)) := by simp only [World.cell?, g2]; rfl
  obtain ⟨p, hp⟩ : ∃ p, p = lastAt (named ns nm) row row.length := ⟨_, rfl⟩
  have HP := (show Hid _ from hp)
  rw [← hp] at hla ⊢
  clear hp g2 b2
  by_cases h0 : p = 0
  · have HL : Hid (popL ns nm row = row) := (show popL ns nm row = row by rw [popL, if_pos (by rw [← HP.out]; exact h0)])
    subst h0
    go_wp2_with fail
    go_at_call 20
    refine Calls.mono (iwith_none (H.out.sl.below hb) (by omega)) ?_
    rintro e w3 ⟨v3, rfl, o3, b3⟩
    go_wp2
    go_ret
    exact ⟨_, rfl, by rw [HL.out]; exact o3.base hb.size, hb.trans (b3.mono hb.size)⟩
  · have HL : Hid (popL ns nm row = row.take (max (p - 1) 1)) := (show popL ns nm row = row.take (max (p - 1) 1) by rw [popL, if_neg (by rw [← HP.out]; exact h0), ← HP.out])
    obtain ⟨q, hq⟩ : ∃ q, q = p - 1 := ⟨_, rfl⟩
    rw [← hq] at HL
    rw [show (p : Int) - 1 = (q : Int) by omega]
    have hql : q ≤ row.length := by omega
    clear hq h0
    go_wp2_with fail
    go_at_call 44
    refine Calls.mono (ikeep_any (p := .bool true) (H.out.sl.below hb) (by omega) A q hql) ?_
    rintro e w3 ⟨v3, rfl, o3, b3⟩
    go_wp2
    go_ret
    exact ⟨_, rfl, by rw [HL.out]; exact o3.base hb.size, hb.trans (b3.mono hb.size)⟩

/-- What is left of the row without the implied ones at its end. -/
def impL (ns : List PNode) (nm : ByteArray) (row : List Int) : List Int := row.take (max (lastAt (stays ns nm) row row.length) 1)

set_option maxRecDepth 100000 in
theorem ipopImplied_m {w : World} {A : Nat} {v rv : Value} {ns : List PNode} {row : List Int} (h : RowAt w A v rv ns row) (nm : ByteArray) :
    Calls Tryz.prog 27 #[.agg #[rv, .pointer (some ⟨A, 0, none⟩)], .string nm] w fun e w' => ∃ v', e = .returned v' ∧ Own w.heap.size 3 .i64 w' v' (impL ns nm row) ∧ Below w.heap.size w w' := by
  have H := (show Hid (RowAt w A v rv ns row) from h)
  obtain ⟨ra, rc, rfl, _, _, _, _⟩ := h.sl
  have hrl := h.row.len
  have hla := lastAt_le (stays ns nm) row row.length
  have BX := (show Hid _ from two_boxes (rv := .slice ra row.length rc) (nm := nm) h.a0)
  obtain ⟨w2, hw2⟩ : ∃ w2, w2 = ((w.alloc (.cells #[.slice ra row.length rc, .pointer (some ⟨A, 0, none⟩)] 46)).alloc (.cells #[.string nm] 9)) := ⟨_, rfl⟩
  have b2 : Below w.heap.size w w2 := by rw [hw2]; exact ((Below.refl _ w).alloc (Nat.le_refl _) _).alloc (by simp) _
  have g2 : w2.heap[w.heap.size]? = some (.cells #[.slice ra row.length rc, .pointer (some ⟨A, 0, none⟩)] 46 (0, 0)) := by
    rw [hw2, Below.heap_alloc _ _ _ (by simp)]; exact World.alloc_heap_new _ _
  rw [← hw2] at BX
  have HG2 := (show Hid _ from g2)
  have CC := (show Hid _ from ilastThat_implied (R := w.heap.size) (M := w.heap.size + 1) (p := stays ns nm) (H.out.below b2).sl (by omega) (fun x hx w' hb => iimplied1_any (BX.out.below hb) ((H.out.below b2).below hb).nodes H.out.fit H.out.len (H.out.el x hx)))
  clear h g2
  go_enter Tryz.func27, Tryz.ntmps27
  go_wp2_with fail
  go_at_call 47
  rw [← hw2]
  refine Calls.mono CC.out ?_
  rintro e w3 ⟨rfl, b3⟩
  clear hw2 CC BX
  have hb := b2.trans (b3.mono b2.size)
  have g3 := (b3.block _ (blk_lt HG2.out)).trans HG2.out
  have k0 : w3.cell? ⟨w.heap.size, 0, none⟩ = some (.slice ra row.length rc) := by simp only [World.cell?, g3]; rfl
  have k1 : w3.cell? ⟨w.heap.size, 1, none⟩ = some (.pointer (some ⟨A, 0, none⟩)) := by simp only [World.cell?, g3]; rfl
  have HL : Hid (impL ns nm row = row.take (max (lastAt (stays ns nm) row row.length) 1)) := rfl
  obtain ⟨p, hp⟩ : ∃ p, p = lastAt (stays ns nm) row row.length := ⟨_, rfl⟩
  rw [← hp] at hla HL ⊢
  have hs : (p : Int) - 1 + 1 = (p : Int) := by omega
  clear hp g3 b3
  go_wp2_with fail
  go_at_call 44
  refine Calls.mono (ikeep_any (p := .bool true) (H.out.sl.below hb) (by omega) A p hla) ?_
  rintro e w4 ⟨v4, rfl, o4, b4⟩
  go_wp2
  go_ret
  exact ⟨_, rfl, by rw [HL.out]; exact o4.base hb.size, hb.trans (b4.mono hb.size)⟩

set_option maxRecDepth 100000 in
theorem ipopTo_any {w : World} {v rv : Value} {ns : List PNode} {row : List Int} (hn : NodesAt w v ns) (hfit : ∀ n ∈ ns, NodeFit n) (hlen : ns.length ≤ 1048576) (hr : Sl .i64 w rv row) (hrl : row.length ≤ 1048576) (nm : ByteArray) :
    Calls Tryz.prog 7 #[.agg #[v], rv, .string nm] w fun e w' => ∃ v' ys, e = .returned v' ∧ Own w.heap.size 3 .i64 w' v' ys ∧ ((TreeOkP ns ∧ RowP ns row → ys = popL ns nm row) ∧ (¬ (TreeOkP ns ∧ RowP ns row) → ys = row)) ∧ Below w.heap.size w w' := by
  have HN := (show Hid (NodesAt w v ns) from hn)
  have HR := (show Hid (Sl .i64 w rv row) from hr)
  have HFIT := (show Hid _ from hfit)
  obtain ⟨a, cap, rfl, hc1, hc2, _⟩ := hn.slice
  obtain ⟨ra, rc, rfl, _, _, _, hra⟩ := hr
  clear hn hra hfit
  obtain ⟨w1, hw1⟩ : ∃ w1, w1 = w.alloc (.cells #[.slice a ns.length cap] 26) := ⟨_, rfl⟩
  have b1 : Below w.heap.size w w1 := by rw [hw1]; exact (Below.refl _ _).alloc (Nat.le_refl _) _
  go_enter Tryz.func7, Tryz.ntmps7
  go_wp2_with fail
  go_at_call 19
  rw [← hw1]
  refine Calls.mono (iopenRow_any (HN.out.below b1) HFIT.out hlen (HR.out.below b1) hrl) ?_
  rintro e w2 ⟨A, r, rfl, cA, hr, b2⟩
  clear hw1
  have hb2 := b1.trans (b2.mono b1.size)
  obtain ⟨w3, hw3⟩ : ∃ w3, w3 = w2.alloc (.cells #[.slice ra row.length rc, .pointer (some ⟨A, 0, none⟩)] 46) := ⟨_, rfl⟩
  have b3 : Below w2.heap.size w2 w3 := by rw [hw3]; exact (Below.refl _ _).alloc (Nat.le_refl _) _
  have g3 : w3.heap[w2.heap.size]? = some (.cells #[.slice ra row.length rc, .pointer (some ⟨A, 0, none⟩)] 46 (0, 0)) := by rw [hw3]; exact World.alloc_heap_new _ _
  have k0 : w3.cell? ⟨w2.heap.size, 0, none⟩ = some (.slice ra row.length rc) := by simp only [World.cell?, g3]; rfl
  have k1 : w3.cell? ⟨w2.heap.size, 1, none⟩ = some (.pointer (some ⟨A, 0, none⟩)) := by simp only [World.cell?, g3]; rfl
  have HCA := (show Hid _ from (b3.cell (p := ⟨A, 0, none⟩) (lt_of_cell cA)).trans cA)
  have hb := hb2.trans (b3.mono hb2.size)
  clear cA g3 b2 b3
  cases r
  · have HF : Hid (¬ (TreeOkP ns ∧ RowP ns row)) := fun h => by have := hr.mpr h; cases this
    clear hr
    go_wp2_with fail
    rw [← hw3]
    go_at_call 20
    refine Calls.mono (iwith_none (HR.out.below hb) hrl) ?_
    rintro e w4 ⟨v4, rfl, o4, b4⟩
    clear hw3
    go_wp2
    go_ret
    exact ⟨_, _, rfl, o4.base hb.size, ⟨fun h => absurd h HF.out, fun _ => rfl⟩, hb.trans (b4.mono hb.size)⟩
  · have HT : Hid (TreeOkP ns ∧ RowP ns row) := hr.mp rfl
    clear hr
    have RA := (show Hid _ from RowAt.mk (HN.out.below hb) HFIT.out hlen HCA.out (HR.out.below hb) HT.out.2)
    go_wp2_with fail
    rw [← hw3]
    go_at_call 21
    refine Calls.mono (ipopTo_m RA.out nm) ?_
    rintro e w4 ⟨v4, rfl, o4, b4⟩
    clear hw3
    go_wp2
    go_ret
    exact ⟨_, _, rfl, o4.base hb.size, ⟨fun _ => rfl, fun h => absurd HT.out h⟩, hb.trans (b4.mono hb.size)⟩

set_option maxRecDepth 100000 in
theorem ipopImplied_any {w : World} {v rv : Value} {ns : List PNode} {row : List Int} (hn : NodesAt w v ns) (hfit : ∀ n ∈ ns, NodeFit n) (hlen : ns.length ≤ 1048576) (hr : Sl .i64 w rv row) (hrl : row.length ≤ 1048576) (nm : ByteArray) :
    Calls Tryz.prog 12 #[.agg #[v], rv, .string nm] w fun e w' => ∃ v' ys, e = .returned v' ∧ Own w.heap.size 3 .i64 w' v' ys ∧ ((TreeOkP ns ∧ RowP ns row → ys = impL ns nm row) ∧ (¬ (TreeOkP ns ∧ RowP ns row) → ys = row)) ∧ Below w.heap.size w w' := by
  have HN := (show Hid (NodesAt w v ns) from hn)
  have HR := (show Hid (Sl .i64 w rv row) from hr)
  have HFIT := (show Hid _ from hfit)
  obtain ⟨a, cap, rfl, hc1, hc2, _⟩ := hn.slice
  obtain ⟨ra, rc, rfl, _, _, _, hra⟩ := hr
  clear hn hra hfit
  obtain ⟨w1, hw1⟩ : ∃ w1, w1 = w.alloc (.cells #[.slice a ns.length cap] 26) := ⟨_, rfl⟩
  have b1 : Below w.heap.size w w1 := by rw [hw1]; exact (Below.refl _ _).alloc (Nat.le_refl _) _
  go_enter Tryz.func12, Tryz.ntmps12
  go_wp2_with fail
  go_at_call 19
  rw [← hw1]
  refine Calls.mono (iopenRow_any (HN.out.below b1) HFIT.out hlen (HR.out.below b1) hrl) ?_
  rintro e w2 ⟨A, r, rfl, cA, hr, b2⟩
  clear hw1
  have hb2 := b1.trans (b2.mono b1.size)
  obtain ⟨w3, hw3⟩ : ∃ w3, w3 = w2.alloc (.cells #[.slice ra row.length rc, .pointer (some ⟨A, 0, none⟩)] 46) := ⟨_, rfl⟩
  have b3 : Below w2.heap.size w2 w3 := by rw [hw3]; exact (Below.refl _ _).alloc (Nat.le_refl _) _
  have g3 : w3.heap[w2.heap.size]? = some (.cells #[.slice ra row.length rc, .pointer (some ⟨A, 0, none⟩)] 46 (0, 0)) := by rw [hw3]; exact World.alloc_heap_new _ _
  have k0 : w3.cell? ⟨w2.heap.size, 0, none⟩ = some (.slice ra row.length rc) := by simp only [World.cell?, g3]; rfl
  have k1 : w3.cell? ⟨w2.heap.size, 1, none⟩ = some (.pointer (some ⟨A, 0, none⟩)) := by simp only [World.cell?, g3]; rfl
  have HCA := (show Hid _ from (b3.cell (p := ⟨A, 0, none⟩) (lt_of_cell cA)).trans cA)
  have hb := hb2.trans (b3.mono hb2.size)
  clear cA g3 b2 b3
  cases r
  · have HF : Hid (¬ (TreeOkP ns ∧ RowP ns row)) := fun h => by have := hr.mpr h; cases this
    clear hr
    go_wp2_with fail
    rw [← hw3]
    go_at_call 20
    refine Calls.mono (iwith_none (HR.out.below hb) hrl) ?_
    rintro e w4 ⟨v4, rfl, o4, b4⟩
    clear hw3
    go_wp2
    go_ret
    exact ⟨_, _, rfl, o4.base hb.size, ⟨fun h => absurd h HF.out, fun _ => rfl⟩, hb.trans (b4.mono hb.size)⟩
  · have HT : Hid (TreeOkP ns ∧ RowP ns row) := hr.mp rfl
    clear hr
    have RA := (show Hid _ from RowAt.mk (HN.out.below hb) HFIT.out hlen HCA.out (HR.out.below hb) HT.out.2)
    go_wp2_with fail
    rw [← hw3]
    go_at_call 27
    refine Calls.mono (ipopImplied_m RA.out nm) ?_
    rintro e w4 ⟨v4, rfl, o4, b4⟩
    clear hw3
    go_wp2
    go_ret
    exact ⟨_, _, rfl, o4.base hb.size, ⟨fun _ => rfl, fun h => absurd HT.out h⟩, hb.trans (b4.mono hb.size)⟩

set_option maxRecDepth 100000 in
theorem iopenAt_any {w : World} {v rv : Value} {ns : List PNode} {row : List Int} (hn : NodesAt w v ns) (hfit : ∀ n ∈ ns, NodeFit n) (hlen : ns.length ≤ 1048576) (hr : Sl .i64 w rv row) (hrl : row.length ≤ 1048576) (nm : ByteArray) :
    Calls Tryz.prog 10 #[.agg #[v], rv, .string nm] w fun e w' => ∃ r : Int, e = .returned (.int .i64 r) ∧ ((TreeOkP ns ∧ RowP ns row → r = (lastAt (named ns nm) row row.length : Int) - 1) ∧ (¬ (TreeOkP ns ∧ RowP ns row) → r = -1)) ∧ Below w.heap.size w w' := by
  have HN := (show Hid (NodesAt w v ns) from hn)
  have HR := (show Hid (Sl .i64 w rv row) from hr)
  have HFIT := (show Hid _ from hfit)
  obtain ⟨a, cap, rfl, hc1, hc2, _⟩ := hn.slice
  obtain ⟨ra, rc, rfl, _, _, _, hra⟩ := hr
  clear hn hra hfit
  obtain ⟨w1, hw1⟩ : ∃ w1, w1 = w.alloc (.cells #[.slice a ns.length cap] 26) := ⟨_, rfl⟩
  have b1 : Below w.heap.size w w1 := by rw [hw1]; exact (Below.refl _ _).alloc (Nat.le_refl _) _
  go_enter Tryz.func10, Tryz.ntmps10
  go_wp2_with fail
  go_at_call 19
  rw [← hw1]
  refine Calls.mono (iopenRow_any (HN.out.below b1) HFIT.out hlen (HR.out.below b1) hrl) ?_
  rintro e w2 ⟨A, r, rfl, cA, hr, b2⟩
  clear hw1
  have hb2 := b1.trans (b2.mono b1.size)
  obtain ⟨w3, hw3⟩ : ∃ w3, w3 = w2.alloc (.cells #[.slice ra row.length rc, .pointer (some ⟨A, 0, none⟩)] 46) := ⟨_, rfl⟩
  have b3 : Below w2.heap.size w2 w3 := by rw [hw3]; exact (Below.refl _ _).alloc (Nat.le_refl _) _
  have g3 : w3.heap[w2.heap.size]? = some (.cells #[.slice ra row.length rc, .pointer (some ⟨A, 0, none⟩)] 46 (0, 0)) := by rw [hw3]; exact World.alloc_heap_new _ _
  have k0 : w3.cell? ⟨w2.heap.size, 0, none⟩ = some (.slice ra row.length rc) := by simp only [World.cell?, g3]; rfl
  have k1 : w3.cell? ⟨w2.heap.size, 1, none⟩ = some (.pointer (some ⟨A, 0, none⟩)) := by simp only [World.cell?, g3]; rfl
  have HCA := (show Hid _ from (b3.cell (p := ⟨A, 0, none⟩) (lt_of_cell cA)).trans cA)
  have hb := hb2.trans (b3.mono hb2.size)
  clear cA g3 b2 b3
  cases r
  · have HF : Hid (¬ (TreeOkP ns ∧ RowP ns row)) := fun h => by have := hr.mpr h; cases this
    clear hr
    go_wp2
    rw [← hw3]
    go_ret
    exact ⟨-1, rfl, ⟨fun h => absurd h HF.out, fun _ => rfl⟩, hb⟩
  · have HT : Hid (TreeOkP ns ∧ RowP ns row) := hr.mp rfl
    clear hr
    have RA := (show Hid _ from RowAt.mk (HN.out.below hb) HFIT.out hlen HCA.out (HR.out.below hb) HT.out.2)
    go_wp2_with fail
    rw [← hw3]
    go_at_call 24
    refine Calls.mono (ilastNamed_any RA.out nm) ?_
    rintro e w4 ⟨rfl, b4⟩
    clear hw3
    go_wp2
    go_ret
    exact ⟨_, rfl, ⟨fun _ => rfl, fun h => absurd HT.out h⟩, hb.trans (b4.mono hb.size)⟩
end Go.Proofs.YtkljadaggnbjkaaGreat

/- The specification's kinds of elements (written by mk/skind.py). -/
namespace Go.Proofs.YtkljadaggnbjkaaGreat
open Go.RowKit
set_option maxRecDepth 100000
set_option linter.unusedVariables false

theorem sisBound_any (s : ByteArray) (w : World) :
    Calls Tryz.prog 65 #[.string s] w fun e w' => e = .returned (.bool (hasB bounds s)) ∧ Below w.heap.size w w' := by
  go_enter Tryz.func65, Tryz.ntmps65
  go_wp2_with fail
  go_at_call 86
  refine (sin_any (ts := bounds) (txt_alloc w _ bounds _ rfl) s (by decide) rfl).mono ?_
  rintro e w1 ⟨rfl, rfl⟩
  go_wp2
  go_ret
  exact ⟨rfl, (Below.refl _ _).alloc (Nat.le_refl _) _⟩

def special4 (s : ByteArray) : Bool := hasB blocks s || (hasB headings s || (hasB heads s || hasB otherSpecials s))

end Go.Proofs.YtkljadaggnbjkaaGreat
