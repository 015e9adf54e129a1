/- The contracts of the draws: a cursor over any bytes gives some number below a bound, and turns nothing but itself. -/
import Derived.Test.YtggfifchkecnjaaDoorU0
import Derived.Test.YtggfifchkecnjaaDoorU1
import Derived.OneCell
import Derived.Test.YtggfifchkecnjaaDoorU3
import Derived.Test.YtggfifchkecnjaaDoorU4
import Derived.Test.YtggfifchkecnjaaDoorU5
namespace Go.Proofs.YtggfifchkecnjaaDoor
open Go.RowKit
set_option maxRecDepth 100000
set_option linter.unusedVariables false

/-- The cursor in block g, over the slice v of the bytes xs, which lay in the world w0 before it. -/
def Cur (w0 : World) (g : Nat) (v : Value) (xs : List Int) (w : World) : Prop :=
  w0.heap.size ≤ g ∧ Sl .u8 w0 v xs ∧ Below w0.heap.size w0 w ∧ xs.length ≤ 1099511627776 ∧ ∃ (i : Nat) (h : Int), i ≤ xs.length ∧ w.heap[g]? = some (.cells #[v, .int .i64 i, .int .i64 h] 53 (0, 0))

theorem Cur.lt {w0 : World} {g : Nat} {v : Value} {xs : List Int} {w : World} (h : Cur w0 g v xs w) : g < w.heap.size := by
  obtain ⟨_, _, _, _, i, k, _, hh⟩ := h
  exact lt_of_block hh
theorem Cur.below {w0 : World} {g : Nat} {v : Value} {xs : List Int} {w w' : World} (h : Cur w0 g v xs w) (hb : Below w.heap.size w w') : Cur w0 g v xs w' := by
  have hlt := h.lt
  obtain ⟨h1, h2, h3, h4, i, k, hi, hh⟩ := h
  exact ⟨h1, h2, h3.trans (hb.mono h3.size), h4, i, k, hi, by rw [hb.block g hlt]; exact hh⟩
/-- It stays where another row alone is written. -/
theorem Cur.kept {w0 : World} {g : Nat} {v : Value} {xs : List Int} {w w' : World} {row : Option Nat} (h : Cur w0 g v xs w) (hg : w.grownBy w' row) (hne : row ≠ some g) (hr : ∀ k, row = some k → w0.heap.size ≤ k) : Cur w0 g v xs w' := by
  have hlt := h.lt
  obtain ⟨h1, h2, h3, h4, i, k, hi, hh⟩ := h
  exact ⟨h1, h2, h3.grown hg h3.size hr, h4, i, k, hi, by rw [hg.block g hlt (fun e => hne e.symm)]; exact hh⟩

theorem Cur.drewN {w0 : World} {g : Nat} {v : Value} {xs : List Int} {w : World} (h : Cur w0 g v xs w) (n : Nat) : Cur w0 g v xs (w.drewN n) := h.below (below_drewN n)
theorem grown_drewN (w : World) (n : Nat) (row : Option Nat) : w.grownBy (w.drewN n) row := ⟨rfl, rfl, rfl, Nat.le_refl _, fun _ _ _ => rfl⟩
theorem grown_setCell (w : World) (g k : Nat) (u : Value) : w.grownBy (w.setCell ⟨g, k, none⟩ u) (some g) :=
  ⟨rfl, rfl, rfl, by simp [World.setCell], fun j _ hne => Below.heap_setCell w _ u j (fun e => hne (by rw [e]))⟩
theorem three_setCell {w : World} {b k : Nat} {cs : Array Value} {u : Value} {t : TypeId} (h : w.heap[b]? = some (.cells cs t (0, 0))) : (w.setCell ⟨b, k, none⟩ u).heap[b]? = some (.cells (cs.setIfInBounds k u) t (0, 0)) := by
  have hlt := lt_of_block h
  have h' : w.heap[b] = .cells cs t (0, 0) := by simpa [Array.getElem?_eq_getElem hlt] using h
  show (w.heap.modify b _)[b]? = _
  rw [Array.getElem?_eq_getElem (by simpa using hlt), Array.getElem_modify_self, h']
  rfl
theorem Cur.set2 {w0 : World} {g : Nat} {v : Value} {xs : List Int} {w : World} (h : Cur w0 g v xs w) (q : Int) : Cur w0 g v xs (w.setCell ⟨g, 2, none⟩ (.int .i64 q)) := by
  obtain ⟨h1, h2, h3, h4, i, k, hi, hh⟩ := h
  exact ⟨h1, h2, h3.setCell h1 _, h4, i, q, hi, three_setCell hh⟩
theorem Cur.set1 {w0 : World} {g : Nat} {v : Value} {xs : List Int} {w : World} (h : Cur w0 g v xs w) (j : Nat) (hj : j ≤ xs.length) : Cur w0 g v xs (w.setCell ⟨g, 1, none⟩ (.int .i64 j)) := by
  obtain ⟨h1, h2, h3, h4, i, k, hi, hh⟩ := h
  exact ⟨h1, h2, h3.setCell h1 _, h4, j, k, hj, three_setCell hh⟩

theorem mask255 (x : Int) : 0 ≤ bits .and .i64 x 255 ∧ bits .and .i64 x 255 ≤ 255 := by
  have h : ((BitVec.ofInt 64 x) &&& (BitVec.ofInt 64 255)).toNat ≤ 255 := by
    rw [BitVec.toNat_and]; exact Nat.le_trans Nat.and_le_right (by decide)
  have e : bits .and .i64 x 255 = IntKind.i64.wrap (((BitVec.ofInt 64 x) &&& (BitVec.ofInt 64 255)).toNat : Int) := rfl
  rw [e]
  generalize ((BitVec.ofInt 64 x) &&& (BitVec.ofInt 64 255)).toNat = n at h
  have e2 : IntKind.i64.wrap (n : Int) = n := by
    have h1 : (n : Int) % 2 ^ 64 = n := by omega
    simp only [IntKind.wrap, IntKind.bits, h1]
    rw [if_neg]
    simp; omega
  rw [e2]; omega

set_option maxRecDepth 100000 in
theorem new_any {v : Value} {xs : List Int} {w : World} (h : Sl .u8 w v xs) (hb : ∀ x ∈ xs, 0 ≤ x ∧ x ≤ 255) (hn : xs.length ≤ 1099511627776) :
    Calls Tryd.prog 12 #[v] w fun e w' => e = .returned (.pointer (some ⟨w.heap.size, 0, none⟩)) ∧ Cur w w.heap.size v xs w' ∧ Below w.heap.size w w' := by
  have h0 := h
  obtain ⟨a, ca, rfl, _, _, _, ha⟩ := h
  have HB : Hid (∀ x ∈ xs, 0 ≤ x ∧ x ≤ 255) := hb
  clear hb
  have hcur : ∀ q : Int, Cur w w.heap.size (.slice a xs.length ca) xs (w.alloc (.cells #[.slice a xs.length ca, .int .i64 0, .int .i64 q] 53)) := fun q =>
    ⟨Nat.le_refl _, h0, (Below.refl _ _).alloc (Nat.le_refl _) _, hn, 0, q, Nat.zero_le _, heap_alloc_new _ _⟩
  have HCU : Hid (∀ q : Int, Cur w w.heap.size (.slice a xs.length ca) xs (w.alloc (.cells #[.slice a xs.length ca, .int .i64 0, .int .i64 q] 53))) := hcur
  clear hcur
  go_enter Tryd.func12, Tryd.ntmps12
  go_wp2
  go_loop [3, 4] (fun q i => ∃ (k : Nat) (hh : Int), k ≤ xs.length ∧ i = .int .i64 k ∧ q = .int .i64 hh) (fun _ i => xs.length - (intOf i).toNat)
  case atStart => exact ⟨0, _, Nat.zero_le _, rfl, rfl⟩
  case round =>
    obtain ⟨k, hh, hk, rfl, rfl⟩ := hrel
    by_cases hlt : k < xs.length
    · by_cases h4 : k < 4000
      · obtain ⟨b1, o1, rfl, c1⟩ := ha k hlt
        have hx : 0 ≤ xs[k] ∧ xs[k] ≤ 255 := HB.out _ (List.getElem_mem hlt)
        clear ha
        go_wp2
        go_round
        case rel => exact ⟨k + 1, _, by omega, by go_num, rfl⟩
        case measure => simp [intOf]; omega
      · go_wp2
        go_ret
        exact ⟨rfl, HCU.out _, (Below.refl _ _).alloc (Nat.le_refl _) _⟩
    · go_wp2
      go_ret
      exact ⟨rfl, HCU.out _, (Below.refl _ _).alloc (Nat.le_refl _) _⟩

theorem byte_any {w0 : World} {g : Nat} {v : Value} {xs : List Int} {w : World} (h : Cur w0 g v xs w) (hb : ∀ x ∈ xs, 0 ≤ x ∧ x ≤ 255) :
    Calls Tryd.prog 25 #[.pointer (some ⟨g, 0, none⟩)] w fun e w' => ∃ x : Int, e = .returned (.int .i64 x) ∧ 0 ≤ x ∧ x ≤ 255 ∧ Cur w0 g v xs w' ∧ w.grownBy w' (some g) := by
  have h0 := h
  obtain ⟨h1, h2, h3, h4, i, hh, hi, hg⟩ := h
  obtain ⟨a, ca, rfl, hca, hcm, hnn, ha⟩ := h2
  have c0 : w.cell? ⟨g, 0, none⟩ = some (.slice a xs.length ca) := by simp [World.cell?, hg]
  have c1 : w.cell? ⟨g, 1, none⟩ = some (.int .i64 i) := by simp [World.cell?, hg]
  have c2 : w.cell? ⟨g, 2, none⟩ = some (.int .i64 hh) := by simp [World.cell?, hg]
  have f1 : w.frozen? ⟨g, 1, none⟩ = false := by simp [World.frozen?, hg]
  have f2 : w.frozen? ⟨g, 2, none⟩ = false := by simp [World.frozen?, hg]
  have HG : Hid (w.heap[g]? = some (.cells #[.slice a xs.length ca, .int .i64 i, .int .i64 hh] 53 (0, 0))) := hg
  have HB : Hid (∀ x ∈ xs, 0 ≤ x ∧ x ≤ 255) := hb
  have HN : Hid (a = none → ca = 0) := hnn
  clear hg hb hnn
  by_cases hlt : i < xs.length
  · obtain ⟨b1, o1, rfl, e0⟩ := ha i hlt
    have hbl : b1 < w0.heap.size := by
      by_cases hl : b1 < w0.heap.size
      · exact hl
      · exfalso; simp [World.cell?, Array.getElem?_eq_none (Nat.le_of_not_lt hl)] at e0
    have e1 : w.cell? ⟨b1, o1 + i, none⟩ = some (.int .u8 (xs.getD i 0)) := (h3.cell (p := ⟨b1, o1 + i, none⟩) hbl).trans e0
    have hne : b1 ≠ g := by omega
    clear ha e0
    go_enter Tryd.func25, Tryd.ntmps25
    go_wp2
    go_quiet (fail)
    go_wp2
    go_quiet (fail)
    go_wp2
    go_quiet (fail)
    go_wp2
    go_ret
    exact ⟨_, rfl, (mask255 _).1, (mask255 _).2, ((h0.set2 _).drewN _).set1 (i + 1) (by omega), grown_trans (grown_trans (grown_setCell _ _ _ _) (grown_drewN _ _ _)) (grown_setCell _ _ _ _)⟩
  · have hd : decide ((i : Int) < (xs.length : Int)) = false := by simp; omega
    clear ha
    go_enter Tryd.func25, Tryd.ntmps25
    go_wp2
    go_quiet (fail)
    go_wp2
    go_quiet (fail)
    go_wp2
    go_ret
    exact ⟨_, rfl, (mask255 _).1, (mask255 _).2, ((h0.set2 _).drewN _).drewN _, grown_trans (grown_trans (grown_setCell _ _ _ _) (grown_drewN _ _ _)) (grown_drewN _ _ _)⟩

theorem below_any {w0 : World} {g : Nat} {v : Value} {xs : List Int} {w : World} (n : Int) (hn : n ≤ 1099511627776) (h : Cur w0 g v xs w) (hb : ∀ x ∈ xs, 0 ≤ x ∧ x ≤ 255) :
    Calls Tryd.prog 13 #[.pointer (some ⟨g, 0, none⟩), .int .i64 n] w fun e w' => ∃ x : Int, e = .returned (.int .i64 x) ∧ 0 ≤ x ∧ (0 < n → x < n) ∧ (n ≤ 0 → x = 0) ∧ Cur w0 g v xs w' ∧ w.grownBy w' (some g) := by
  have HB : Hid (∀ x ∈ xs, 0 ≤ x ∧ x ≤ 255) := hb
  clear hb
  by_cases h0 : n ≤ 0
  · go_enter Tryd.func13, Tryd.ntmps13
    go_wp2
    go_ret
    exact ⟨_, rfl, by omega, by omega, fun _ => rfl, h, World.grownBy.refl _ _⟩
  · have hp : 0 < n := by omega
    by_cases h2 : n ≤ 256
    · go_enter Tryd.func13, Tryd.ntmps13
      go_wp2_with fail
      go_at_call 25
      refine (byte_any h HB.out).mono ?_
      rintro e w1 ⟨x, rfl, x0, x1, k1, g1⟩
      go_wp2
      go_ret
      exact ⟨_, rfl, Int.emod_nonneg _ (by omega), fun _ => Int.emod_lt_of_pos _ hp, fun h => absurd h (by omega), k1, g1⟩
    · go_enter Tryd.func13, Tryd.ntmps13
      go_wp2_with fail
      go_at_call 25
      refine (byte_any h HB.out).mono ?_
      rintro e w1 ⟨x, rfl, x0, x1, k1, g1⟩
      go_wp2_with fail
      go_at_call 25
      refine (byte_any k1 HB.out).mono ?_
      rintro e w2 ⟨y, rfl, y0, y1, k2, g2⟩
      go_wp2_with fail
      go_at_call 25
      refine (byte_any k2 HB.out).mono ?_
      rintro e w3 ⟨z, rfl, z0, z1, k3, g3⟩
      go_wp2_with fail
      go_at_call 25
      refine (byte_any k3 HB.out).mono ?_
      rintro e w4 ⟨u, rfl, u0, u1, k4, g4⟩
      go_wp2
      go_ret
      exact ⟨_, rfl, Int.emod_nonneg _ (by omega), fun _ => Int.emod_lt_of_pos _ hp, fun h => absurd h (by omega), k4, grown_trans (grown_trans (grown_trans g1 g2) g3) g4⟩

theorem once_any {w0 : World} {g : Nat} {v : Value} {xs : List Int} {w : World} (n : Int) (hn : n ≤ 1099511627776) (h : Cur w0 g v xs w) (hb : ∀ x ∈ xs, 0 ≤ x ∧ x ≤ 255) :
    Calls Tryd.prog 15 #[.pointer (some ⟨g, 0, none⟩), .int .i64 n] w fun e w' => ∃ b : Bool, e = .returned (.bool b) ∧ Cur w0 g v xs w' ∧ w.grownBy w' (some g) := by
  go_enter Tryd.func15, Tryd.ntmps15
  go_wp2_with fail
  go_at_call 13
  refine (below_any n hn h hb).mono ?_
  rintro e w1 ⟨x, rfl, x0, x1, x2, k1, g1⟩
  clear x1 x2
  go_wp2
  go_ret
  exact ⟨_, rfl, k1, g1⟩

end Go.Proofs.YtggfifchkecnjaaDoor

/- The contracts of the draws of points and of lines: some integers, in new memory. -/
namespace Go.Proofs.YtggfifchkecnjaaDoor
open Go.RowKit
set_option maxRecDepth 100000
set_option linter.unusedVariables false

theorem own_past {B g : Nat} {e : TypeId} {K : IntKind} {w w' : World} {v : Value} {xs : List Int} (h : Own B e K w v xs) (hg : w.grownBy w' (some g)) (hlt : g < B) : Own B e K w' v xs := by
  refine World.ownsRow.kept h hg ?_
  by_cases h0 : v.ownBlock = none
  · exact .inl h0
  · obtain ⟨k, hk⟩ := Option.ne_none_iff_exists'.mp h0
    refine .inr ?_
    have := (h.lt k hk).1
    rw [hk]; intro e; cases e; omega

theorem Own.kept1 {B g : Nat} {e : TypeId} {K : IntKind} {w w' : World} {v : Value} {xs : List Int} (h : Own B e K w v xs) (hg : w.grownBy w' (some g)) (hne : ∀ k, v.ownBlock = some k → k ≠ g) : Own B e K w' v xs := by
  refine World.ownsRow.kept h hg ?_
  by_cases h0 : v.ownBlock = none
  · exact .inl h0
  · obtain ⟨k, hk⟩ := Option.ne_none_iff_exists'.mp h0
    refine .inr ?_
    rw [hk]; intro e; cases e; exact hne _ hk rfl

theorem bytes_app {xs ys : List Int} (h : ∀ y ∈ xs, 0 ≤ y ∧ y ≤ 255) (h' : ∀ y ∈ ys, 0 ≤ y ∧ y ≤ 255) : ∀ y ∈ xs ++ ys, 0 ≤ y ∧ y ≤ 255 := fun y hy => by
  rcases List.mem_append.mp hy with a | a
  · exact h y a
  · exact h' y a

theorem big_any {v : Value} {xs : List Int} {w : World} (h : Sl .u8 w v xs) : Calls Tryd.prog 4 #[v] w fun e w' => e = .returned (.bool (decide (1048576 < xs.length))) ∧ w' = w := by
  obtain ⟨a, ca, rfl, _, _, _, ha⟩ := h
  clear ha
  by_cases hl : 1048576 < xs.length
  · rw [decide_eq_true hl]
    go_enter Tryd.func4, Tryd.ntmps4
    go_wp2
    go_ret
    exact ⟨ret_bool (by first | rfl | (simp; omega)), rfl⟩
  · rw [decide_eq_false hl]
    go_enter Tryd.func4, Tryd.ntmps4
    go_wp2
    go_ret
    exact ⟨ret_bool (by first | rfl | (simp; omega)), rfl⟩
end Go.Proofs.YtggfifchkecnjaaDoor

/- The contract of the draw of bytes: some bytes, in new memory. -/
namespace Go.Proofs.YtggfifchkecnjaaDoor
open Go.RowKit
set_option maxRecDepth 100000
set_option linter.unusedVariables false

theorem Sl.take {K : IntKind} {w : World} {a : Addr} {n cap r : Nat} {xs : List Int} (h : Sl K w (.slice (some a) n cap) xs) (hr : r ≤ xs.length) : Sl K w (.slice (some a) r cap) (xs.take r) := by
  obtain ⟨a', c', e, hl, hm, hnn, ha⟩ := h
  cases e
  have hlen : (xs.take r).length = r := by simp; omega
  refine ⟨some a, cap, by rw [hlen], by omega, hm, (fun h => by cases h), fun k hk => ?_⟩
  obtain ⟨b, off, e, c⟩ := ha k (by omega)
  refine ⟨b, off, e, ?_⟩
  have e2 : (xs.take r).getD k 0 = xs.getD k 0 := by simp [List.getD_eq_getElem?_getD, show k < r by omega]
  rw [e2]; exact c

theorem put_byte (x : Int) : ∀ y ∈ put x, 0 ≤ y ∧ y ≤ 255 := by
  have := pt_ok x
  exact enc_byte this.1 this.2.1

end Go.Proofs.YtggfifchkecnjaaDoor
