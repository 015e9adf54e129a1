/- The program's nameSetOf: a set of names, made of lists of names. -/
import Derived.Test.YthdfhckmgneioaaGreatFind
import Derived.Maps.OwnSet
import Derived.Maps.Views
namespace Go.Proofs.YthdfhckmgneioaaGreat
open Go.RowKit Go.Maps
set_option maxRecDepth 100000
set_option linter.unusedVariables false

theorem lawSet : Keyed Tryz.prog 9 := string_keyed Tryz.underlying9
theorem keyOf_set {s : ByteArray} (h : s.size ≤ maxLen) : keyOf Tryz.prog 9 (.string s) = some (.string s.data.toList) := by
  simp [keyOf, Tryz.underlying9, mapKey, h]
theorem zeroSet (w : World) : (zeroValue 96).run Tryz.prog w = .ok (.agg #[]) w := by kernel_rfl

/-- The datum D is a set of the names xs. -/
def SetOf (D : DataW Unit) (xs : List ByteArray) : Prop := IsMap D ∧ ∀ s : ByteArray, has D (.string s.data.toList) = hasB xs s

theorem hasB_append (xs ys : List ByteArray) (s : ByteArray) : hasB (xs ++ ys) s = (hasB xs s || hasB ys s) := by
  simp [hasB]
theorem hasB_one (t s : ByteArray) : hasB [t] s = (s.toList == t.toList) := by simp [hasB]
theorem setOf_nil : SetOf (.map []) [] := ⟨isMap_empty, fun s => rfl⟩

theorem data_ne {s t : ByteArray} (h : s ≠ t) : (Lit.string s.data.toList) ≠ Lit.string t.data.toList := by
  intro e
  injection e with e
  apply h
  cases s; cases t
  congr 1
  exact Array.toList_inj.mp e

theorem SetOf.put {D : DataW Unit} {xs : List ByteArray} (h : SetOf D xs) {D' : DataW Unit} (t : ByteArray) (hi : IsMap D') (e : D' = D.put (.string t.data.toList) (.agg [])) : SetOf D' (xs ++ [t]) := by
  refine ⟨hi, fun s => ?_⟩
  rw [e, hasB_append, hasB_one]
  by_cases hst : s = t
  · subst hst
    rw [has_put_same h.1 (show WideAt.IsKeyLit (.string _) from trivial)]
    simp
  · rw [has_put_other (data_ne hst), h.2 s, toList_no hst]
    simp

/-- The block g holds slices, each of a block of names. -/
def Rows (w : World) (g : Nat) (ps : List (Nat × List ByteArray)) : Prop :=
  g < w.heap.size ∧ ∀ k (hk : k < ps.length), w.cell? ⟨g, k, none⟩ = some (.slice (some ⟨ps[k].1, 0, none⟩) ps[k].2.length ps[k].2.length) ∧ ps[k].1 < w.heap.size ∧ Txt w ps[k].1 ps[k].2 ∧ ps[k].2.length ≤ 100 ∧ ∀ s ∈ ps[k].2, s.size ≤ 100

def allOf (ps : List (Nat × List ByteArray)) : List ByteArray := ps.flatMap (·.2)
theorem allOf_succ {ps : List (Nat × List ByteArray)} {k : Nat} (h : k < ps.length) : allOf (ps.take (k + 1)) = allOf (ps.take k) ++ ps[k].2 := by
  unfold allOf
  rw [List.take_succ_eq_append_getElem h, List.flatMap_append]
  simp
theorem take_one {α : Type} {l : List α} {k : Nat} (h : k < l.length) : l.take (k + 1) = l.take k ++ [l[k]] := List.take_succ_eq_append_getElem h

theorem run_makeMapHint (n : Int) (w : World) : (Instr.makeMap 78 (some (.int .i64 n))).run Tryz.prog w = .ok (.map (some w.heap.size)) (w.alloc (.map #[] 0)) := by
  simp [Instr.makeMap, run_underlying Tryz.underlying78, asInt, newObj, Result.andThen]
  rfl

set_option maxHeartbeats 1000000 in
theorem nameSetOf_any {w : World} {g : Nat} {ps : List (Nat × List ByteArray)} (h : Rows w g ps) (hn : ps.length ≤ 10) {n : Nat} (hnn : n = ps.length) :
    Calls Tryz.prog 61 #[.slice (some ⟨g, 0, none⟩) n n] w fun e w' => ∃ m D, m ≤ 1000 ∧ e = .returned (.map (some w.heap.size)) ∧ w'.ownsMap Tryz.prog 9 unitElem w.heap.size m D ∧ SetOf D (allOf ps) ∧ Below w.heap.size w w' := by
  subst hnn
  have H : Hid (Rows w g ps) := h
  clear h
  have hmm := run_makeMapHint
  go_enter Tryz.func61, Tryz.ntmps61
  go_wp2
  go_loop [3, 13] (fun r i => ∃ (k m : Nat), k ≤ ps.length ∧ i = .int .i64 k ∧ r = .int .i64 m ∧ m ≤ 100 * k) (fun _ i => ps.length - (intOf i).toNat)
  case atStart => exact ⟨0, 0, Nat.zero_le _, rfl, rfl, by omega⟩
  case round =>
    obtain ⟨k, m, hk, rfl, rfl, hm⟩ := hrel
    by_cases hlt : k < ps.length
    · obtain ⟨c1, c2, c3, c4, c5⟩ := H.out.2 k hlt
      obtain ⟨p, hp⟩ : ∃ p, p = ps[k] := ⟨_, rfl⟩
      rw [← hp] at c1 c2 c3 c4 c5
      have HP := (show Hid _ from hp)
      clear hp c2 c3 c5
      go_wp2
      go_round
      case rel => exact ⟨k + 1, m + p.2.length, by omega, by go_num, by go_num, by omega⟩
      case measure => simp [intOf]; omega
    · go_wp2
      go_loopw [26] (fun i wr => ∃ (k m : Nat) (D : DataW Unit), k ≤ ps.length ∧ i = .int .i64 k ∧ m ≤ 100 * k ∧ wr.ownsMap Tryz.prog 9 unitElem w.heap.size m D ∧ SetOf D (allOf (ps.take k)) ∧ Below w.heap.size w wr) (fun i _ => ps.length - (intOf i).toNat)
      case atStart => exact ⟨0, 0, .map [], Nat.zero_le _, rfl, by omega, World.ownsMap_made _ _ _ _, setOf_nil, (Below.refl _ _).alloc (Nat.le_refl _) _⟩
      case round =>
        obtain ⟨k2, m2, D2, hk2, rfl, hm2, own2, set2, bel2⟩ := hrel
        have S2 := (show Hid _ from set2)
        clear set2
        by_cases hlt2 : k2 < ps.length
        · obtain ⟨c1, c2, c3, c4, c5⟩ := H.out.2 k2 hlt2
          obtain ⟨p, hp⟩ : ∃ p, p = ps[k2] := ⟨_, rfl⟩
          rw [← hp] at c1 c2 c3 c4 c5
          have HP := (show Hid _ from hp)
          have C3 := (show Hid _ from c3)
          have C5 := (show Hid _ from c5)
          have c1' := (bel2.cell H.out.1).trans c1
          clear hp c1 c3 c5
          go_wp2
          go_loopw [32] (fun j wr => ∃ (q m : Nat) (D : DataW Unit), q ≤ p.2.length ∧ j = .int .i64 q ∧ m ≤ 100 * k2 + q ∧ wr.ownsMap Tryz.prog 9 unitElem w.heap.size m D ∧ SetOf D (allOf (ps.take k2) ++ p.2.take q) ∧ Below w.heap.size w wr) (fun j _ => p.2.length - (intOf j).toNat)
          case atStart => exact ⟨0, m2, D2, Nat.zero_le _, rfl, by omega, own2, by rw [List.take_zero, List.append_nil]; exact S2.out, bel2⟩
          case round =>
            clear own2 bel2 S2 c1'
            obtain ⟨q, m3, D3, hq, rfl, hm3, own3, set3, bel3⟩ := hrel
            have S3 := (show Hid _ from set3)
            clear set3
            by_cases hlt3 : q < p.2.length
            · obtain ⟨x, hx⟩ : ∃ x, x = p.2[q] := ⟨_, rfl⟩
              have c6 := (bel3.cell c2).trans (C3.out q hlt3)
              have hsz : x.size ≤ 100 := hx ▸ C5.out _ (List.getElem_mem hlt3)
              have hkey := keyOf_set (s := x) (by unfold maxLen; omega)
              rw [← hx] at c6
              have HX := (show Hid _ from hx)
              clear hx
              go_wp2_with (at_mapUpdate; refine wpList_mapUpdate_own _ rfl _ _ _ 78 rfl 9 96 lawSet Tryz.underlying78 (unitElem (H := Unit)) w.heap.size m3 _ rfl own3 (by unfold maxLen; omega) _ _ _ rfl rfl hkey _ [] unitElem_mk ?_; intro w1 own1 grow1)
              go_roundw
              case rel => exact ⟨q + 1, m3 + 1, _, by omega, by go_num, by omega, own1, (by
                rw [take_one hlt3, ← List.append_assoc, ← HX.out]
                exact SetOf.put S3.out x own1.isMap rfl), bel3.grown grow1 bel3.size (fun j hj => by cases hj; exact Nat.le_refl _)⟩
              case measure => simp [intOf]; omega
            · go_wp2
              go_roundw
              case rel => exact ⟨k2 + 1, m3, D3, by omega, by go_num, by omega, own3, (by
                rw [allOf_succ hlt2, ← HP.out]
                have := S3.out
                rwa [show q = p.2.length by omega, List.take_length] at this), bel3⟩
              case measure => simp [intOf]; omega
        · go_wp2
          go_ret
          exact ⟨m2, D2, by omega, rfl, own2, by have := S2.out; rwa [show k2 = ps.length by omega, List.take_length] at this, bel2⟩
end Go.Proofs.YthdfhckmgneioaaGreat
