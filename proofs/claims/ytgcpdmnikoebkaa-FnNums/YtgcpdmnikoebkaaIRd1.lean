/- The program's byteReader: need, oneByte. -/
import Derived.Test.YtgcpdmnikoebkaaDraw
import Derived.Test.YtgcpdmnikoebkaaNf
import Derived.Defers
import Derived.Recover
import Derived.WalkLawsBesides
import Derived.Deep.RegionHeld
import Derived.Test.YtgcpdmnikoebkaaTail
import Derived.Test.YtgcpdmnikoebkaaRegB
namespace Go.Proofs.Ytgcpdmnikoebkaa
open Go.RowKit
set_option maxRecDepth 100000
set_option linter.unusedVariables false

theorem wrap_b7 {x : Int} (h0 : 0 ≤ x) (h1 : x ≤ 255) : IntKind.i64.wrap x = x := by
  simp [IntKind.wrap, IntKind.bits, IntKind.signed]; omega
/-- One panic with a text. -/
def Bad (e : Ending) : Prop := ∃ (t : TypeId) (s : ByteArray), e = .panicked [{ v := .iface t (.string s), recovered := false }]

theorem need_yes (w : World) : Calls Try.prog 37 #[.bool true] w fun e w' => e = .returned (.tuple #[]) ∧ w' = w := by
  go_enter Try.func37, Try.ntmps37
  go_wp2
  go_end0
  exact ⟨rfl, rfl⟩
theorem need_no (w : World) : Calls Try.prog 37 #[.bool false] w fun e w' => Bad e ∧ w' = w := by
  go_enter Try.func37, Try.ntmps37
  go_wp2
  exact ⟨rfl, ⟨_, _, rfl⟩, rfl⟩

/-- The reader in block g, at the place i of the bytes xs, which lay in the world w0 before it. -/
def Rdr (w0 : World) (g : Nat) (v : Value) (xs : List Int) (i : Int) (w : World) : Prop :=
  w0.heap.size ≤ g ∧ Sl .u8 w0 v xs ∧ Below w0.heap.size w0 w ∧ xs.length ≤ 1099511627776 ∧ w.heap[g]? = some (.cells #[v, .int .i64 i] 45 (0, 0))
theorem Rdr.lt {w0 : World} {g : Nat} {v : Value} {xs : List Int} {i : Int} {w : World} (h : Rdr w0 g v xs i w) : g < w.heap.size := lt_of_block h.2.2.2.2
theorem Rdr.below {w0 : World} {g : Nat} {v : Value} {xs : List Int} {i : Int} {w w' : World} (h : Rdr w0 g v xs i w) (hb : Below w.heap.size w w') : Rdr w0 g v xs i w' := by
  have hlt := h.lt
  obtain ⟨h1, h2, h3, h4, h5⟩ := h
  exact ⟨h1, h2, h3.trans (hb.mono h3.size), h4, (hb.block g hlt).trans h5⟩
theorem Rdr.kept {w0 : World} {g : Nat} {v : Value} {xs : List Int} {i : Int} {w w' : World} {row : Option Nat} (h : Rdr w0 g v xs i w) (hg : w.grownBy w' row) (hne : row ≠ some g) (hr : ∀ k, row = some k → w0.heap.size ≤ k) : Rdr w0 g v xs i w' := by
  have hlt := h.lt
  obtain ⟨h1, h2, h3, h4, h5⟩ := h
  exact ⟨h1, h2, h3.grown hg h3.size hr, h4, by rw [hg.block g hlt (fun e => hne e.symm)]; exact h5⟩
theorem Rdr.sl {w0 : World} {g : Nat} {v : Value} {xs : List Int} {i : Int} {w : World} (h : Rdr w0 g v xs i w) : Sl .u8 w v xs := h.2.1.below h.2.2.1
theorem Rdr.drewN {w0 : World} {g : Nat} {v : Value} {xs : List Int} {i : Int} {w : World} (h : Rdr w0 g v xs i w) (n : Nat) : Rdr w0 g v xs i (w.drewN n) := h.below (below_drewN n)
theorem Rdr.set {w0 : World} {g : Nat} {v : Value} {xs : List Int} {i : Int} {w : World} (h : Rdr w0 g v xs i w) (j : Int) : Rdr w0 g v xs j (w.setCell ⟨g, 1, none⟩ (.int .i64 j)) := by
  obtain ⟨h1, h2, h3, h4, h5⟩ := h
  exact ⟨h1, h2, h3.setCell h1 _, h4, three_setCell h5⟩
theorem Rdr.cells {w0 : World} {g : Nat} {v : Value} {xs : List Int} {i : Int} {w : World} (h : Rdr w0 g v xs i w) :
    w.cell? ⟨g, 0, none⟩ = some v ∧ w.cell? ⟨g, 1, none⟩ = some (.int .i64 i) ∧ w.frozen? ⟨g, 1, none⟩ = false := by
  have hh := h.2.2.2.2
  refine ⟨?_, ?_, ?_⟩
  · simp only [World.cell?, hh]; rfl
  · simp only [World.cell?, hh]; rfl
  · simp only [World.frozen?, hh]; rfl

theorem oneByte_yes {w0 : World} {g : Nat} {v : Value} {xs : List Int} {k : Nat} {w : World} (h : Rdr w0 g v xs k w) (hb : ∀ x ∈ xs, 0 ≤ x ∧ x ≤ 255) (hk : k < xs.length) :
    Calls Try.prog 36 #[.pointer (some ⟨g, 0, none⟩)] w fun e w' => e = .returned (.int .i64 (xs.getD k 0)) ∧ Rdr w0 g v xs (k + 1 : Nat) w' ∧ w.grownBy w' (some g) := by
  obtain ⟨c0, c1, f1⟩ := h.cells
  have h4 := h.2.2.2.1
  have h0 := h
  obtain ⟨a, ca, rfl, _, _, _, ha⟩ := h.sl
  obtain ⟨b1, o1, rfl, cx⟩ := ha k hk
  clear ha h
  go_enter Try.func36, Try.ntmps36
  have hk0 : (0 : Int) ≤ k := by omega
  have hk1 : (k : Int) < xs.length := by omega
  go_wp2
  go_region_held (fun w' => w'.cell? ⟨g, 0, none⟩ = some (.slice (some ⟨b1, o1, none⟩) xs.length ca) ∧ w'.cell? ⟨g, 1, none⟩ = some (.int .i64 k)) (go_keep)
    ((go_at_call 37; refine (need_yes _).mono ?_; rintro e w4 ⟨rfl, rfl⟩))
  go_wp2
  go_region_held (fun w' => w'.cell? ⟨g, 0, none⟩ = some (.slice (some ⟨b1, o1, none⟩) xs.length ca) ∧ w'.cell? ⟨g, 1, none⟩ = some (.int .i64 k) ∧ w'.cell? ⟨b1, o1 + k, none⟩ = some (.int .u8 (xs.getD k 0))) (go_keep) (fail)
  have hwx : IntKind.i64.wrap xs[k] = xs.getD k 0 := by
    have := hb _ (List.getElem_mem hk)
    have e : xs.getD k 0 = xs[k] := by simp [List.getD_eq_getElem?_getD, hk]
    rw [e]
    exact wrap_b7 this.1 this.2
  have r2 := (h0.drewN 2).set (k + 1 : Nat)
  have g2 := grown_trans (grown_drewN w 2 (some g)) (grown_setCell (w.drewN 2) g 1 (.int .i64 (k + 1 : Nat)))
  have R2 := (show Hid (_ ∧ _) from ⟨r2, g2⟩)
  clear r2 g2 hb
  go_wp2
  go_ret
  exact ⟨ret_int hwx, R2.out⟩

set_option maxHeartbeats 400000 in
theorem oneByte_no {w0 : World} {g : Nat} {v : Value} {xs : List Int} {i : Int} {w : World} (h : Rdr w0 g v xs i w) (hk : i < 0 ∨ (xs.length : Int) ≤ i) :
    Calls Try.prog 36 #[.pointer (some ⟨g, 0, none⟩)] w fun e w' => Bad e ∧ Rdr w0 g v xs i w' ∧ w.grownBy w' (some g) := by
  obtain ⟨c0, c1, f1⟩ := h.cells
  have h0 := h
  obtain ⟨a, ca, rfl, _, _, _, ha⟩ := h.sl
  have R2 := (show Hid (_ ∧ _) from ⟨h0.drewN 1, grown_drewN w 1 (some g)⟩)
  clear ha h h0
  rcases hk with hk | hk
  · have hn : ¬ (0 ≤ i) := by omega
    have hn' : decide (0 ≤ i) = false := by simp; omega
    go_enter Try.func36, Try.ntmps36
    go_wp2
    refine region_tail 17 (by kernel_rfl) (by kernel_rfl) ?_
    intro w1 K1 hW1 hK1
    have ne := One.any w1
    have d1 : ∀ n : One w1, n.w.cell? ⟨g, 1, none⟩ = some (.int .i64 i) := fun n => by rw [n.eq, hW1.out]; exact c1
    simp only [List.take_succ_cons, List.take_zero, List.drop_succ_cons, List.drop_zero] at hK1 ⊢
    repeat (go_big_quiet_step (fail))
    refine wpQuiet_nil ?_
    refine hK1.out _ ?_
    clear hK1
    go_wp2_with fail
    go_at_call 37
    refine (need_no _).mono ?_
    rintro e w4 ⟨⟨t, s, rfl⟩, rfl⟩
    go_wp2
    rw [hW1.out]
    exact ⟨rfl, ⟨_, _, rfl⟩, R2.out⟩
  · by_cases h0 : 0 ≤ i
    · have hn : ¬ (i < xs.length) := by omega
      have hn' : decide (i < (xs.length : Int)) = false := by simp; omega
      go_enter Try.func36, Try.ntmps36
      go_wp2
      refine region_tail 17 (by kernel_rfl) (by kernel_rfl) ?_
      intro w1 K1 hW1 hK1
      have ne := One.any w1
      have d1 : ∀ n : One w1, n.w.cell? ⟨g, 1, none⟩ = some (.int .i64 i) := fun n => by rw [n.eq, hW1.out]; exact c1
      have d0 : ∀ n : One w1, n.w.cell? ⟨g, 0, none⟩ = some (.slice a xs.length ca) := fun n => by rw [n.eq, hW1.out]; exact c0
      simp only [List.take_succ_cons, List.take_zero, List.drop_succ_cons, List.drop_zero] at hK1 ⊢
      repeat (go_big_quiet_step (fail))
      refine wpQuiet_nil ?_
      refine hK1.out _ ?_
      clear hK1
      go_wp2_with fail
      go_at_call 37
      refine (need_no _).mono ?_
      rintro e w4 ⟨⟨t, s, rfl⟩, rfl⟩
      go_wp2
      rw [hW1.out]
      exact ⟨rfl, ⟨_, _, rfl⟩, R2.out⟩
    · omega
end Go.Proofs.Ytgcpdmnikoebkaa
