/- The contracts of the draws: a cursor over any bytes gives some number below a bound, and turns nothing but itself. -/
import Derived.Test.YtjokajblihaphaaGreatDoorU3
import Derived.Test.YtjokajblihaphaaGreatDoorU4
import Derived.OneCell
namespace Go.Proofs.YtjokajblihaphaaGreatDoor
open Go.RowKit
set_option maxRecDepth 100000
set_option linter.unusedVariables false

theorem grown_drewN (w : World) (n : Nat) (row : Option Nat) : w.grownBy (w.drewN n) row := ⟨rfl, rfl, rfl, Nat.le_refl _, fun _ _ _ => rfl⟩
theorem grown_setCell (w : World) (g k : Nat) (u : Value) : w.grownBy (w.setCell ⟨g, k, none⟩ u) (some g) :=
  ⟨rfl, rfl, rfl, by simp [World.setCell], fun j _ hne => Below.heap_setCell w _ u j (fun e => hne (by rw [e]))⟩
theorem three_setCell {w : World} {b k : Nat} {cs : Array Value} {u : Value} {t : TypeId} (h : w.heap[b]? = some (.cells cs t (0, 0))) : (w.setCell ⟨b, k, none⟩ u).heap[b]? = some (.cells (cs.setIfInBounds k u) t (0, 0)) := by
  have hlt := lt_of_block h
  have h' : w.heap[b] = .cells cs t (0, 0) := by simpa [Array.getElem?_eq_getElem hlt] using h
  show (w.heap.modify b _)[b]? = _
  rw [Array.getElem?_eq_getElem (by simpa using hlt), Array.getElem_modify_self, h']
  rfl
theorem mask255 (x : Int) : 0 ≤ bits .and .i64 x 255 ∧ bits .and .i64 x 255 ≤ 255 := by
  have h : ((BitVec.ofInt 64 x) &&& (BitVec.ofInt 64 255)).toNat ≤ 255 := by
    rw [BitVec.toNat_and]; exact Nat.le_trans Nat.and_le_right (by decide)
  have e : bits .and .i64 x 255 = IntKind.i64.wrap (((BitVec.ofInt 64 x) &&& (BitVec.ofInt 64 255)).toNat : Int) := rfl
  rw [e]
  generalize ((BitVec.ofInt 64 x) &&& (BitVec.ofInt 64 255)).toNat = n at h
  have e2 : IntKind.i64.wrap (n : Int) = n := by
    have h1 : (n : Int) % 2 ^ 64 = n := by omega
    simp only [IntKind.wrap, IntKind.bits, h1]
    rw [if_neg]
    simp; omega
  rw [e2]; omega

end Go.Proofs.YtjokajblihaphaaGreatDoor

/- Contracts of LinesOf, the program's and the specification's, and of copyOf, at every list of integers. -/
namespace Go.Proofs.YtjokajblihaphaaGreatDoor
open Go.RowKit
set_option maxRecDepth 100000
set_option linter.unusedVariables false

/-- What LinesOf tells of the number at place i. -/
def lineAt (xs : List Int) (i : Nat) : List Int :=
  if xs.getD i 0 ≠ 13 then [xs.getD i 0] else if i + 1 = xs.length ∨ xs.getD (i + 1) 0 ≠ 10 then [10] else []
/-- .. of the first k. -/
def linesTo (xs : List Int) (k : Nat) : List Int := (List.range k).flatMap (lineAt xs)
/-- What LinesOf answers. -/
def linesOf (xs : List Int) : List Int := if xs.length ≤ 3000 then linesTo xs xs.length else []

theorem linesTo_succ (xs : List Int) (k : Nat) : linesTo xs (k + 1) = linesTo xs k ++ lineAt xs k := by simp [linesTo, List.range_succ]
theorem lineAt_len (xs : List Int) (i : Nat) : (lineAt xs i).length ≤ 1 := by unfold lineAt; repeat (split <;> try simp)
theorem linesTo_len (xs : List Int) (k : Nat) : (linesTo xs k).length ≤ k := by
  induction k with
  | zero => simp [linesTo]
  | succ k ih => have := lineAt_len xs k; rw [linesTo_succ, List.length_append]; omega
theorem linesOf_len (xs : List Int) : (linesOf xs).length ≤ 3000 := by
  unfold linesOf; split
  · have := linesTo_len xs xs.length; omega
  · simp
theorem lineAt_char {xs : List Int} {i : Nat} (h : xs.getD i 0 ≠ 13) : lineAt xs i = [xs.getD i 0] := by simp only [lineAt, if_pos h]
theorem lineAt_end {xs : List Int} {i : Nat} (h : xs.getD i 0 = 13) (h' : i + 1 = xs.length ∨ xs.getD (i + 1) 0 ≠ 10) : lineAt xs i = [10] := by
  simp only [lineAt, h, ne_eq, not_true_eq_false, if_false]; rw [if_pos h']
theorem lineAt_none {xs : List Int} {i : Nat} (h : xs.getD i 0 = 13) (h1 : i + 1 ≠ xs.length) (h' : xs.getD (i + 1) 0 = 10) : lineAt xs i = [] := by
  simp only [lineAt, h, ne_eq, not_true_eq_false, if_false]; rw [if_neg (by rintro (h2 | h2); exact h1 h2; exact h2 h')]

theorem lineC {xs : List Int} {k : Nat} (h : k < xs.length) (h' : xs[k] ≠ 13) : lineAt xs k = [xs[k]] := by
  have e : xs.getD k 0 = xs[k] := by simp [List.getD_eq_getElem?_getD, h]
  rw [lineAt_char (by rw [e]; exact h'), e]
theorem lineE {xs : List Int} {k : Nat} (h : k < xs.length) (h' : xs[k] = 13) (h2 : k + 1 = xs.length) : lineAt xs k = [10] :=
  lineAt_end (by simp [List.getD_eq_getElem?_getD, h, h']) (.inl h2)
theorem lineX {xs : List Int} {k : Nat} (h : k < xs.length) (h' : xs[k] = 13) (h2 : k + 1 < xs.length) (h3 : xs[k + 1] ≠ 10) : lineAt xs k = [10] :=
  lineAt_end (by simp [List.getD_eq_getElem?_getD, h, h']) (.inr (by simpa [List.getD_eq_getElem?_getD, h2] using h3))
theorem lineN {xs : List Int} {k : Nat} (h : k < xs.length) (h' : xs[k] = 13) (h2 : k + 1 < xs.length) (h3 : xs[k + 1] = 10) : lineAt xs k = [] :=
  lineAt_none (by simp [List.getD_eq_getElem?_getD, h, h']) (by omega) (by simp [List.getD_eq_getElem?_getD, h2, h3])

theorem Tryz.sizeI : Option.map (fun x => x.size) (Tryz.prog.info? 3) = some 1 := by kernel_rfl

theorem sl_one (e : TypeId) (K : IntKind) (w : World) (x : Int) : Sl K (w.alloc (.cells #[.int K x] e)) (.slice (some ⟨w.heap.size, 0, none⟩) 1 1) [x] :=
  Own.sl (World.ownsRow_lit w #[Value.int K x] 1 (Nat.le_refl _) (by unfold maxLen; omega) rfl : Own w.heap.size e K _ _ [x])

theorem slines_any {v : Value} {xs : List Int} {w : World} (h : Sl .i64 w v xs) (hn : xs.length ≤ 1099511627776) :
    Calls Tryz.prog 135 #[v] w fun e w' => ∃ v', e = .returned v' ∧ Own w.heap.size 3 .i64 w' v' (linesOf xs) ∧ Below w.heap.size w w' := by
  obtain ⟨a, ca, rfl, _, _, _, ha⟩ := h
  have hown0 := own_empty 3 .i64 w
  have hbel0 : Below w.heap.size w (w.alloc (.cells #[] 3)) := (Below.refl _ _).alloc (Nat.le_refl _) _
  unfold linesOf
  by_cases hlen : xs.length ≤ 3000
  · rw [if_pos hlen]
    obtain ⟨i0, hi, hz0, hz1, hz2⟩ := info_parts Tryz.infoI
    go_enter Tryz.func135, Tryz.ntmps135
    go_wp2
    go_loopw [3, 4] (fun v i wr => ∃ k : Nat, k ≤ xs.length ∧ i = .int .i64 k ∧ Own w.heap.size 3 .i64 wr v (linesTo xs k) ∧ Below w.heap.size w wr) (fun _ i _ => xs.length - (intOf i).toNat)
    case atStart => exact ⟨0, Nat.zero_le _, rfl, hown0, hbel0⟩
    case round =>
      clear hown0 hbel0
      obtain ⟨k, hk, rfl, hown, hbel⟩ := hrel
      have hbs := hbel.size
      have hpl := linesTo_len xs k
      by_cases hlt : k < xs.length
      · have ha' := ha.below hbel
        obtain ⟨b1, o1, rfl, c1⟩ := ha' k hlt
        by_cases h13 : xs[k] = 13
        · have e1 : (xs[k] != 13) = false := by simp [h13]
          by_cases hend : k + 1 = xs.length
          · have L1 : Hid (lineAt xs k = [10]) := (lineE hlt h13 hend : lineAt xs k = [10])
            clear ha ha' h13
            go_wp2_with (at_builtin; refine wpList_app _ rfl (.tmp 44) (.tmp 45) 154 rfl w.heap.size 3 i0 (.int .i64 0) 8 Tryz.underlying154 hi hz0 hz1 hz2 rfl .i64 _ _ (linesTo xs k) [10] rfl rfl (hown.alloc _) (sl_one _ _ _ _) (by simp; omega) (by unfold maxLen; simp; omega) (by simp; omega) ?_; intro v' w3 o3 g3)
            go_roundw
            case rel => exact ⟨k + 1, by omega, by go_num, by rw [linesTo_succ, L1.out]; exact o3, (hbel.alloc hbs _).grown g3 (by simp; omega) hown.grownAt⟩
            case measure => simp [intOf]; omega
          · have hlt2 : k + 1 < xs.length := by omega
            obtain ⟨b2, o2, eb, c2⟩ := ha' (k + 1) hlt2
            cases eb
            have e2 : ((k : Int) + 1 == (xs.length : Int)) = false := by simp; omega
            by_cases h10 : xs[k + 1] = 10
            · have e3 : (xs[k + 1] != 10) = false := by simp [h10]
              have L1 : Hid (lineAt xs k = []) := (lineN hlt h13 hlt2 h10 : lineAt xs k = [])
              clear ha ha' h13 h10
              go_wp2
              go_roundw
              case rel => exact ⟨k + 1, by omega, by go_num, by rw [linesTo_succ, L1.out, List.append_nil]; exact hown, hbel⟩
              case measure => simp [intOf]; omega
            · have e3 : (xs[k + 1] != 10) = true := by simp [h10]
              have L1 : Hid (lineAt xs k = [10]) := (lineX hlt h13 hlt2 h10 : lineAt xs k = [10])
              clear ha ha' h13 h10
              go_wp2_with (at_builtin; refine wpList_app _ rfl (.tmp 44) (.tmp 45) 154 rfl w.heap.size 3 i0 (.int .i64 0) 8 Tryz.underlying154 hi hz0 hz1 hz2 rfl .i64 _ _ (linesTo xs k) [10] rfl rfl (hown.alloc _) (sl_one _ _ _ _) (by simp; omega) (by unfold maxLen; simp; omega) (by simp; omega) ?_; intro v' w3 o3 g3)
              go_roundw
              case rel => exact ⟨k + 1, by omega, by go_num, by rw [linesTo_succ, L1.out]; exact o3, (hbel.alloc hbs _).grown g3 (by simp; omega) hown.grownAt⟩
              case measure => simp [intOf]; omega
        · have e1 : (xs[k] != 13) = true := by simp [h13]
          have L1 : Hid (lineAt xs k = [xs[k]]) := (lineC hlt h13 : lineAt xs k = [xs[k]])
          clear ha ha' h13
          go_wp2_with (at_builtin; refine wpList_app _ rfl (.tmp 23) (.tmp 28) 154 rfl w.heap.size 3 i0 (.int .i64 0) 8 Tryz.underlying154 hi hz0 hz1 hz2 rfl .i64 _ _ (linesTo xs k) [xs[k]] rfl rfl (hown.alloc _) (sl_one _ _ _ _) (by simp; omega) (by unfold maxLen; simp; omega) (by simp; omega) ?_; intro v' w3 o3 g3)
          go_roundw
          case rel => exact ⟨k + 1, by omega, by go_num, by rw [linesTo_succ, L1.out]; exact o3, (hbel.alloc hbs _).grown g3 (by simp; omega) hown.grownAt⟩
          case measure => simp [intOf]; omega
      · go_wp2
        go_ret
        have hke : k = xs.length := by omega
        rw [hke] at hown
        exact ⟨_, rfl, hown, hbel⟩
  · rw [if_neg hlen]
    go_enter Tryz.func135, Tryz.ntmps135
    go_wp2
    refine wp_loop_rounds 1 ?_
    rw [rounds_succ]
    go_wp2
    go_ret
    exact ⟨_, rfl, hown0, hbel0⟩

end Go.Proofs.YtjokajblihaphaaGreatDoor

/- The contracts of the draws of points and of lines: some integers, in new memory. -/
namespace Go.Proofs.YtjokajblihaphaaGreatDoor
open Go.RowKit
set_option maxRecDepth 100000
set_option linter.unusedVariables false

theorem own_past {B g : Nat} {e : TypeId} {K : IntKind} {w w' : World} {v : Value} {xs : List Int} (h : Own B e K w v xs) (hg : w.grownBy w' (some g)) (hlt : g < B) : Own B e K w' v xs := by
  refine World.ownsRow.kept h hg ?_
  by_cases h0 : v.ownBlock = none
  · exact .inl h0
  · obtain ⟨k, hk⟩ := Option.ne_none_iff_exists'.mp h0
    refine .inr ?_
    have := (h.lt k hk).1
    rw [hk]; intro e; cases e; omega

theorem Own.kept1 {B g : Nat} {e : TypeId} {K : IntKind} {w w' : World} {v : Value} {xs : List Int} (h : Own B e K w v xs) (hg : w.grownBy w' (some g)) (hne : ∀ k, v.ownBlock = some k → k ≠ g) : Own B e K w' v xs := by
  refine World.ownsRow.kept h hg ?_
  by_cases h0 : v.ownBlock = none
  · exact .inl h0
  · obtain ⟨k, hk⟩ := Option.ne_none_iff_exists'.mp h0
    refine .inr ?_
    rw [hk]; intro e; cases e; exact hne _ hk rfl

theorem bytes_app {xs ys : List Int} (h : ∀ y ∈ xs, 0 ≤ y ∧ y ≤ 255) (h' : ∀ y ∈ ys, 0 ≤ y ∧ y ≤ 255) : ∀ y ∈ xs ++ ys, 0 ≤ y ∧ y ≤ 255 := fun y hy => by
  rcases List.mem_append.mp hy with a | a
  · exact h y a
  · exact h' y a

end Go.Proofs.YtjokajblihaphaaGreatDoor
