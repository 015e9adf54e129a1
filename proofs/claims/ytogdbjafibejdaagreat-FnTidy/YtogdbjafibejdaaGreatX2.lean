/- The contracts of the draws: a cursor over any bytes gives some number below a bound, and turns nothing but itself. -/
import Derived.Test.YtogdbjafibejdaaGreatX0
import Derived.Test.YtogdbjafibejdaaGreatX1
import Derived.OneCell
namespace Go.Proofs.YtogdbjafibejdaaGreat
open Go.RowKit
set_option maxRecDepth 100000
set_option linter.unusedVariables false

/-- The cursor in block g, over the slice v of the bytes xs, which lay in the world w0 before it. -/
def Cur (w0 : World) (g : Nat) (v : Value) (xs : List Int) (w : World) : Prop :=
  w0.heap.size ≤ g ∧ Sl .u8 w0 v xs ∧ Below w0.heap.size w0 w ∧ xs.length ≤ 1099511627776 ∧ ∃ (i : Nat) (h : Int), i ≤ xs.length ∧ w.heap[g]? = some (.cells #[v, .int .i64 i, .int .i64 h] 134 (0, 0))

theorem Cur.lt {w0 : World} {g : Nat} {v : Value} {xs : List Int} {w : World} (h : Cur w0 g v xs w) : g < w.heap.size := by
  obtain ⟨_, _, _, _, i, k, _, hh⟩ := h
  exact lt_of_block hh
theorem Cur.below {w0 : World} {g : Nat} {v : Value} {xs : List Int} {w w' : World} (h : Cur w0 g v xs w) (hb : Below w.heap.size w w') : Cur w0 g v xs w' := by
  have hlt := h.lt
  obtain ⟨h1, h2, h3, h4, i, k, hi, hh⟩ := h
  exact ⟨h1, h2, h3.trans (hb.mono h3.size), h4, i, k, hi, by rw [hb.block g hlt]; exact hh⟩
/-- It stays where another row alone is written. -/
theorem Cur.kept {w0 : World} {g : Nat} {v : Value} {xs : List Int} {w w' : World} {row : Option Nat} (h : Cur w0 g v xs w) (hg : w.grownBy w' row) (hne : row ≠ some g) (hr : ∀ k, row = some k → w0.heap.size ≤ k) : Cur w0 g v xs w' := by
  have hlt := h.lt
  obtain ⟨h1, h2, h3, h4, i, k, hi, hh⟩ := h
  exact ⟨h1, h2, h3.grown hg h3.size hr, h4, i, k, hi, by rw [hg.block g hlt (fun e => hne e.symm)]; exact hh⟩

theorem Cur.drewN {w0 : World} {g : Nat} {v : Value} {xs : List Int} {w : World} (h : Cur w0 g v xs w) (n : Nat) : Cur w0 g v xs (w.drewN n) := h.below (below_drewN n)
theorem grown_drewN (w : World) (n : Nat) (row : Option Nat) : w.grownBy (w.drewN n) row := ⟨rfl, rfl, rfl, Nat.le_refl _, fun _ _ _ => rfl⟩
theorem grown_setCell (w : World) (g k : Nat) (u : Value) : w.grownBy (w.setCell ⟨g, k, none⟩ u) (some g) :=
  ⟨rfl, rfl, rfl, by simp [World.setCell], fun j _ hne => Below.heap_setCell w _ u j (fun e => hne (by rw [e]))⟩
theorem three_setCell {w : World} {b k : Nat} {cs : Array Value} {u : Value} {t : TypeId} (h : w.heap[b]? = some (.cells cs t (0, 0))) : (w.setCell ⟨b, k, none⟩ u).heap[b]? = some (.cells (cs.setIfInBounds k u) t (0, 0)) := by
  have hlt := lt_of_block h
  have h' : w.heap[b] = .cells cs t (0, 0) := by simpa [Array.getElem?_eq_getElem hlt] using h
  show (w.heap.modify b _)[b]? = _
  rw [Array.getElem?_eq_getElem (by simpa using hlt), Array.getElem_modify_self, h']
  rfl
theorem Cur.set2 {w0 : World} {g : Nat} {v : Value} {xs : List Int} {w : World} (h : Cur w0 g v xs w) (q : Int) : Cur w0 g v xs (w.setCell ⟨g, 2, none⟩ (.int .i64 q)) := by
  obtain ⟨h1, h2, h3, h4, i, k, hi, hh⟩ := h
  exact ⟨h1, h2, h3.setCell h1 _, h4, i, q, hi, three_setCell hh⟩
theorem Cur.set1 {w0 : World} {g : Nat} {v : Value} {xs : List Int} {w : World} (h : Cur w0 g v xs w) (j : Nat) (hj : j ≤ xs.length) : Cur w0 g v xs (w.setCell ⟨g, 1, none⟩ (.int .i64 j)) := by
  obtain ⟨h1, h2, h3, h4, i, k, hi, hh⟩ := h
  exact ⟨h1, h2, h3.setCell h1 _, h4, j, k, hj, three_setCell hh⟩

theorem mask255 (x : Int) : 0 ≤ bits .and .i64 x 255 ∧ bits .and .i64 x 255 ≤ 255 := by
  have h : ((BitVec.ofInt 64 x) &&& (BitVec.ofInt 64 255)).toNat ≤ 255 := by
    rw [BitVec.toNat_and]; exact Nat.le_trans Nat.and_le_right (by decide)
  have e : bits .and .i64 x 255 = IntKind.i64.wrap (((BitVec.ofInt 64 x) &&& (BitVec.ofInt 64 255)).toNat : Int) := rfl
  rw [e]
  generalize ((BitVec.ofInt 64 x) &&& (BitVec.ofInt 64 255)).toNat = n at h
  have e2 : IntKind.i64.wrap (n : Int) = n := by
    have h1 : (n : Int) % 2 ^ 64 = n := by omega
    simp only [IntKind.wrap, IntKind.bits, h1]
    rw [if_neg]
    simp; omega
  rw [e2]; omega

set_option maxRecDepth 100000 in
theorem new_any {v : Value} {xs : List Int} {w : World} (h : Sl .u8 w v xs) (hb : ∀ x ∈ xs, 0 ≤ x ∧ x ≤ 255) (hn : xs.length ≤ 1099511627776) :
    Calls Tryz.prog 44 #[v] w fun e w' => e = .returned (.pointer (some ⟨w.heap.size, 0, none⟩)) ∧ Cur w w.heap.size v xs w' ∧ Below w.heap.size w w' := by
  have h0 := h
  obtain ⟨a, ca, rfl, _, _, _, ha⟩ := h
  have HB : Hid (∀ x ∈ xs, 0 ≤ x ∧ x ≤ 255) := hb
  clear hb
  have hcur : ∀ q : Int, Cur w w.heap.size (.slice a xs.length ca) xs (w.alloc (.cells #[.slice a xs.length ca, .int .i64 0, .int .i64 q] 134)) := fun q =>
    ⟨Nat.le_refl _, h0, (Below.refl _ _).alloc (Nat.le_refl _) _, hn, 0, q, Nat.zero_le _, heap_alloc_new _ _⟩
  have HCU : Hid (∀ q : Int, Cur w w.heap.size (.slice a xs.length ca) xs (w.alloc (.cells #[.slice a xs.length ca, .int .i64 0, .int .i64 q] 134))) := hcur
  clear hcur
  go_enter Tryz.func44, Tryz.ntmps44
  go_wp2
  go_loop [3, 4] (fun q i => ∃ (k : Nat) (hh : Int), k ≤ xs.length ∧ i = .int .i64 k ∧ q = .int .i64 hh) (fun _ i => xs.length - (intOf i).toNat)
  case atStart => exact ⟨0, _, Nat.zero_le _, rfl, rfl⟩
  case round =>
    obtain ⟨k, hh, hk, rfl, rfl⟩ := hrel
    by_cases hlt : k < xs.length
    · by_cases h4 : k < 4000
      · obtain ⟨b1, o1, rfl, c1⟩ := ha k hlt
        have hx : 0 ≤ xs[k] ∧ xs[k] ≤ 255 := HB.out _ (List.getElem_mem hlt)
        clear ha
        go_wp2
        go_round
        case rel => exact ⟨k + 1, _, by omega, by go_num, rfl⟩
        case measure => simp [intOf]; omega
      · go_wp2
        go_ret
        exact ⟨rfl, HCU.out _, (Below.refl _ _).alloc (Nat.le_refl _) _⟩
    · go_wp2
      go_ret
      exact ⟨rfl, HCU.out _, (Below.refl _ _).alloc (Nat.le_refl _) _⟩

theorem byte_any {w0 : World} {g : Nat} {v : Value} {xs : List Int} {w : World} (h : Cur w0 g v xs w) (hb : ∀ x ∈ xs, 0 ≤ x ∧ x ≤ 255) :
    Calls Tryz.prog 117 #[.pointer (some ⟨g, 0, none⟩)] w fun e w' => ∃ x : Int, e = .returned (.int .i64 x) ∧ 0 ≤ x ∧ x ≤ 255 ∧ Cur w0 g v xs w' ∧ w.grownBy w' (some g) := by
  have h0 := h
  obtain ⟨h1, h2, h3, h4, i, hh, hi, hg⟩ := h
  obtain ⟨a, ca, rfl, hca, hcm, hnn, ha⟩ := h2
  have c0 : w.cell? ⟨g, 0, none⟩ = some (.slice a xs.length ca) := by simp [World.cell?, hg]
  have c1 : w.cell? ⟨g, 1, none⟩ = some (.int .i64 i) := by simp [World.cell?, hg]
  have c2 : w.cell? ⟨g, 2, none⟩ = some (.int .i64 hh) := by simp [World.cell?, hg]
  have f1 : w.frozen? ⟨g, 1, none⟩ = false := by simp [World.frozen?, hg]
  have f2 : w.frozen? ⟨g, 2, none⟩ = false := by simp [World.frozen?, hg]
  have HG : Hid (w.heap[g]? = some (.cells #[.slice a xs.length ca, .int .i64 i, .int .i64 hh] 134 (0, 0))) := hg
  have HB : Hid (∀ x ∈ xs, 0 ≤ x ∧ x ≤ 255) := hb
  have HN : Hid (a = none → ca = 0) := hnn
  clear hg hb hnn
  by_cases hlt : i < xs.length
  · obtain ⟨b1, o1, rfl, e0⟩ := ha i hlt
    have hbl : b1 < w0.heap.size := by
      by_cases hl : b1 < w0.heap.size
      · exact hl
      · exfalso; simp [World.cell?, Array.getElem?_eq_none (Nat.le_of_not_lt hl)] at e0
    have e1 : w.cell? ⟨b1, o1 + i, none⟩ = some (.int .u8 (xs.getD i 0)) := (h3.cell (p := ⟨b1, o1 + i, none⟩) hbl).trans e0
    have hne : b1 ≠ g := by omega
    clear ha e0
    go_enter Tryz.func117, Tryz.ntmps117
    go_wp2
    go_quiet (fail)
    go_wp2
    go_quiet (fail)
    go_wp2
    go_quiet (fail)
    go_wp2
    go_ret
    exact ⟨_, rfl, (mask255 _).1, (mask255 _).2, ((h0.set2 _).drewN _).set1 (i + 1) (by omega), grown_trans (grown_trans (grown_setCell _ _ _ _) (grown_drewN _ _ _)) (grown_setCell _ _ _ _)⟩
  · have hd : decide ((i : Int) < (xs.length : Int)) = false := by simp; omega
    clear ha
    go_enter Tryz.func117, Tryz.ntmps117
    go_wp2
    go_quiet (fail)
    go_wp2
    go_quiet (fail)
    go_wp2
    go_ret
    exact ⟨_, rfl, (mask255 _).1, (mask255 _).2, ((h0.set2 _).drewN _).drewN _, grown_trans (grown_trans (grown_setCell _ _ _ _) (grown_drewN _ _ _)) (grown_drewN _ _ _)⟩

theorem below_any {w0 : World} {g : Nat} {v : Value} {xs : List Int} {w : World} (n : Int) (hn : n ≤ 1099511627776) (h : Cur w0 g v xs w) (hb : ∀ x ∈ xs, 0 ≤ x ∧ x ≤ 255) :
    Calls Tryz.prog 68 #[.pointer (some ⟨g, 0, none⟩), .int .i64 n] w fun e w' => ∃ x : Int, e = .returned (.int .i64 x) ∧ 0 ≤ x ∧ (0 < n → x < n) ∧ (n ≤ 0 → x = 0) ∧ Cur w0 g v xs w' ∧ w.grownBy w' (some g) := by
  have HB : Hid (∀ x ∈ xs, 0 ≤ x ∧ x ≤ 255) := hb
  clear hb
  by_cases h0 : n ≤ 0
  · go_enter Tryz.func68, Tryz.ntmps68
    go_wp2
    go_ret
    exact ⟨_, rfl, by omega, by omega, fun _ => rfl, h, World.grownBy.refl _ _⟩
  · have hp : 0 < n := by omega
    by_cases h2 : n ≤ 256
    · go_enter Tryz.func68, Tryz.ntmps68
      go_wp2_with fail
      go_at_call 117
      refine (byte_any h HB.out).mono ?_
      rintro e w1 ⟨x, rfl, x0, x1, k1, g1⟩
      go_wp2
      go_ret
      exact ⟨_, rfl, Int.emod_nonneg _ (by omega), fun _ => Int.emod_lt_of_pos _ hp, fun h => absurd h (by omega), k1, g1⟩
    · go_enter Tryz.func68, Tryz.ntmps68
      go_wp2_with fail
      go_at_call 117
      refine (byte_any h HB.out).mono ?_
      rintro e w1 ⟨x, rfl, x0, x1, k1, g1⟩
      go_wp2_with fail
      go_at_call 117
      refine (byte_any k1 HB.out).mono ?_
      rintro e w2 ⟨y, rfl, y0, y1, k2, g2⟩
      go_wp2_with fail
      go_at_call 117
      refine (byte_any k2 HB.out).mono ?_
      rintro e w3 ⟨z, rfl, z0, z1, k3, g3⟩
      go_wp2_with fail
      go_at_call 117
      refine (byte_any k3 HB.out).mono ?_
      rintro e w4 ⟨u, rfl, u0, u1, k4, g4⟩
      go_wp2
      go_ret
      exact ⟨_, rfl, Int.emod_nonneg _ (by omega), fun _ => Int.emod_lt_of_pos _ hp, fun h => absurd h (by omega), k4, grown_trans (grown_trans (grown_trans g1 g2) g3) g4⟩

theorem once_any {w0 : World} {g : Nat} {v : Value} {xs : List Int} {w : World} (n : Int) (hn : n ≤ 1099511627776) (h : Cur w0 g v xs w) (hb : ∀ x ∈ xs, 0 ≤ x ∧ x ≤ 255) :
    Calls Tryz.prog 67 #[.pointer (some ⟨g, 0, none⟩), .int .i64 n] w fun e w' => ∃ b : Bool, e = .returned (.bool b) ∧ Cur w0 g v xs w' ∧ w.grownBy w' (some g) := by
  go_enter Tryz.func67, Tryz.ntmps67
  go_wp2_with fail
  go_at_call 68
  refine (below_any n hn h hb).mono ?_
  rintro e w1 ⟨x, rfl, x0, x1, x2, k1, g1⟩
  clear x1 x2
  go_wp2
  go_ret
  exact ⟨_, rfl, k1, g1⟩

/-- One of a list that is not empty. -/
theorem pick_any {w0 : World} {g : Nat} {v vl : Value} {xs zs : List Int} {w : World} (h : Cur w0 g v xs w) (hb : ∀ x ∈ xs, 0 ≤ x ∧ x ≤ 255) (hl : Sl .i64 w vl zs) (hz : 0 < zs.length) (hz2 : zs.length ≤ 1000)
    (hk : ∀ w', w.grownBy w' (some g) → Sl .i64 w' vl zs) :
    Calls Tryz.prog 94 #[.pointer (some ⟨g, 0, none⟩), vl] w fun e w' => ∃ x : Int, e = .returned (.int .i64 x) ∧ x ∈ zs ∧ Cur w0 g v xs w' ∧ w.grownBy w' (some g) := by
  have HK : Hid (∀ w', w.grownBy w' (some g) → Sl .i64 w' vl zs) := hk
  have HB : Hid (∀ x ∈ xs, 0 ≤ x ∧ x ≤ 255) := hb
  clear hk hb
  obtain ⟨a, ca, rfl, hca, hcm, hnn, ha⟩ := hl
  clear ha hnn
  go_enter Tryz.func94, Tryz.ntmps94
  go_wp2_with fail
  go_at_call 68
  refine (below_any _ (by omega) h HB.out).mono ?_
  rintro e w1 ⟨x, rfl, x0, x1, x2, k1, g1⟩
  have hx := x1 (by omega)
  clear x1 x2
  obtain ⟨k, rfl⟩ : ∃ k : Nat, x = k := ⟨x.toNat, by omega⟩
  have hkl : k < zs.length := by omega
  obtain ⟨a', ca', ev, _, _, _, ha⟩ := HK.out w1 g1
  cases ev
  obtain ⟨b1, o1, rfl, c1⟩ := ha k hkl
  clear ha
  go_wp2
  go_ret
  exact ⟨_, rfl, List.getElem_mem hkl, k1, g1⟩
end Go.Proofs.YtogdbjafibejdaaGreat

/- Contracts of LinesOf, the program's and the specification's, and of copyOf, at every list of integers. -/
namespace Go.Proofs.YtogdbjafibejdaaGreat
open Go.RowKit
set_option maxRecDepth 100000
set_option linter.unusedVariables false

/-- What LinesOf tells of the number at place i. -/
def lineAt (xs : List Int) (i : Nat) : List Int :=
  if xs.getD i 0 ≠ 13 then [xs.getD i 0] else if i + 1 = xs.length ∨ xs.getD (i + 1) 0 ≠ 10 then [10] else []
/-- .. of the first k. -/
def linesTo (xs : List Int) (k : Nat) : List Int := (List.range k).flatMap (lineAt xs)
/-- What LinesOf answers. -/
def linesOf (xs : List Int) : List Int := if xs.length ≤ 3000 then linesTo xs xs.length else []

theorem linesTo_succ (xs : List Int) (k : Nat) : linesTo xs (k + 1) = linesTo xs k ++ lineAt xs k := by simp [linesTo, List.range_succ]
theorem lineAt_len (xs : List Int) (i : Nat) : (lineAt xs i).length ≤ 1 := by unfold lineAt; repeat (split <;> try simp)
theorem linesTo_len (xs : List Int) (k : Nat) : (linesTo xs k).length ≤ k := by
  induction k with
  | zero => simp [linesTo]
  | succ k ih => have := lineAt_len xs k; rw [linesTo_succ, List.length_append]; omega
theorem linesOf_len (xs : List Int) : (linesOf xs).length ≤ 3000 := by
  unfold linesOf; split
  · have := linesTo_len xs xs.length; omega
  · simp
theorem lineAt_char {xs : List Int} {i : Nat} (h : xs.getD i 0 ≠ 13) : lineAt xs i = [xs.getD i 0] := by simp only [lineAt, if_pos h]
theorem lineAt_end {xs : List Int} {i : Nat} (h : xs.getD i 0 = 13) (h' : i + 1 = xs.length ∨ xs.getD (i + 1) 0 ≠ 10) : lineAt xs i = [10] := by
  simp only [lineAt, h, ne_eq, not_true_eq_false, if_false]; rw [if_pos h']
theorem lineAt_none {xs : List Int} {i : Nat} (h : xs.getD i 0 = 13) (h1 : i + 1 ≠ xs.length) (h' : xs.getD (i + 1) 0 = 10) : lineAt xs i = [] := by
  simp only [lineAt, h, ne_eq, not_true_eq_false, if_false]; rw [if_neg (by rintro (h2 | h2); exact h1 h2; exact h2 h')]

theorem lineC {xs : List Int} {k : Nat} (h : k < xs.length) (h' : xs[k] ≠ 13) : lineAt xs k = [xs[k]] := by
  have e : xs.getD k 0 = xs[k] := by simp [List.getD_eq_getElem?_getD, h]
  rw [lineAt_char (by rw [e]; exact h'), e]
theorem lineE {xs : List Int} {k : Nat} (h : k < xs.length) (h' : xs[k] = 13) (h2 : k + 1 = xs.length) : lineAt xs k = [10] :=
  lineAt_end (by simp [List.getD_eq_getElem?_getD, h, h']) (.inl h2)
theorem lineX {xs : List Int} {k : Nat} (h : k < xs.length) (h' : xs[k] = 13) (h2 : k + 1 < xs.length) (h3 : xs[k + 1] ≠ 10) : lineAt xs k = [10] :=
  lineAt_end (by simp [List.getD_eq_getElem?_getD, h, h']) (.inr (by simpa [List.getD_eq_getElem?_getD, h2] using h3))
theorem lineN {xs : List Int} {k : Nat} (h : k < xs.length) (h' : xs[k] = 13) (h2 : k + 1 < xs.length) (h3 : xs[k + 1] = 10) : lineAt xs k = [] :=
  lineAt_none (by simp [List.getD_eq_getElem?_getD, h, h']) (by omega) (by simp [List.getD_eq_getElem?_getD, h2, h3])

theorem Tryz.sizeI : Option.map (fun x => x.size) (Tryz.prog.info? 3) = some 1 := by kernel_rfl

theorem copyOf_any {v : Value} {xs : List Int} {w : World} (h : Sl .i64 w v xs) (hn : xs.length ≤ 1099511627776) :
    Calls Tryz.prog 203 #[v] w fun e w' => ∃ v', e = .returned v' ∧ Own w.heap.size 3 .i64 w' v' xs ∧ Below w.heap.size w w' := by
  have h0 := h
  obtain ⟨a, ca, rfl, _, _, _, ha⟩ := h
  clear ha
  obtain ⟨i0, hi, hz0, hz1, hz2⟩ := info_parts Tryz.infoI
  go_enter Tryz.func203, Tryz.ntmps203
  go_wp2_with (first
    | (at_make; refine wpList_mkn _ rfl (.tmp 5) (.tmp 5) 34 rfl 3 i0 .i64 Tryz.underlying34 hi hz0 hz1 xs.length xs.length xs.length rfl rfl rfl rfl (by rw [hz2]; omega) (by unfold maxLen; omega) ?_; intro w1 hown hbel; have h1 := h0.below hbel)
    | (refine wpList_cp rfl (.tmp 7) (.tmp 8) 34 rfl 3 Tryz.underlying34 Tryz.sizeI w.heap.size .i64 _ _ _ xs rfl rfl hown h1 (by simp) ?_; intro w2 hown2 hgr2))
  go_ret
  exact ⟨_, rfl, hown2, hbel.grown hgr2 hbel.size hown.grownAt⟩

theorem sl_one (e : TypeId) (K : IntKind) (w : World) (x : Int) : Sl K (w.alloc (.cells #[.int K x] e)) (.slice (some ⟨w.heap.size, 0, none⟩) 1 1) [x] :=
  Own.sl (World.ownsRow_lit w #[Value.int K x] 1 (Nat.le_refl _) (by unfold maxLen; omega) rfl : Own w.heap.size e K _ _ [x])

end Go.Proofs.YtogdbjafibejdaaGreat

/- The contracts of the draws of points and of lines: some integers, in new memory. -/
namespace Go.Proofs.YtogdbjafibejdaaGreat
open Go.RowKit
set_option maxRecDepth 100000
set_option linter.unusedVariables false

theorem own_past {B g : Nat} {e : TypeId} {K : IntKind} {w w' : World} {v : Value} {xs : List Int} (h : Own B e K w v xs) (hg : w.grownBy w' (some g)) (hlt : g < B) : Own B e K w' v xs := by
  refine World.ownsRow.kept h hg ?_
  by_cases h0 : v.ownBlock = none
  · exact .inl h0
  · obtain ⟨k, hk⟩ := Option.ne_none_iff_exists'.mp h0
    refine .inr ?_
    have := (h.lt k hk).1
    rw [hk]; intro e; cases e; omega

theorem Own.kept1 {B g : Nat} {e : TypeId} {K : IntKind} {w w' : World} {v : Value} {xs : List Int} (h : Own B e K w v xs) (hg : w.grownBy w' (some g)) (hne : ∀ k, v.ownBlock = some k → k ≠ g) : Own B e K w' v xs := by
  refine World.ownsRow.kept h hg ?_
  by_cases h0 : v.ownBlock = none
  · exact .inl h0
  · obtain ⟨k, hk⟩ := Option.ne_none_iff_exists'.mp h0
    refine .inr ?_
    rw [hk]; intro e; cases e; exact hne _ hk rfl

theorem bytes_app {xs ys : List Int} (h : ∀ y ∈ xs, 0 ≤ y ∧ y ≤ 255) (h' : ∀ y ∈ ys, 0 ≤ y ∧ y ≤ 255) : ∀ y ∈ xs ++ ys, 0 ≤ y ∧ y ≤ 255 := fun y hy => by
  rcases List.mem_append.mp hy with a | a
  · exact h y a
  · exact h' y a

theorem big_any {v : Value} {xs : List Int} {w : World} (h : Sl .u8 w v xs) : Calls Tryz.prog 10 #[v] w fun e w' => e = .returned (.bool (decide (1048576 < xs.length))) ∧ w' = w := by
  obtain ⟨a, ca, rfl, _, _, _, ha⟩ := h
  clear ha
  by_cases hl : 1048576 < xs.length
  · rw [decide_eq_true hl]
    go_enter Tryz.func10, Tryz.ntmps10
    go_wp2
    go_ret
    exact ⟨ret_bool (by first | rfl | (simp; omega)), rfl⟩
  · rw [decide_eq_false hl]
    go_enter Tryz.func10, Tryz.ntmps10
    go_wp2
    go_ret
    exact ⟨ret_bool (by first | rfl | (simp; omega)), rfl⟩
end Go.Proofs.YtogdbjafibejdaaGreat
