/- The program's readWell: what is recovered at the face. -/
import Derived.Test.YtgcpdmnikoebkaaIRd2
namespace Go.Proofs.Ytgcpdmnikoebkaa
open Go.RowKit
set_option maxRecDepth 100000
set_option linter.unusedVariables false

theorem catch_bad (p : Addr) (x : Bool) (t : TypeId) (s : ByteArray) (older : List PanicEntry) (w : World) (hc : w.cell? p = some (.bool x)) (hz : w.frozen? p = false) :
    CallsD Try.prog 35 #[.pointer (some p)] (.panicking ({ v := .iface t (.string s), recovered := false } :: older)) w fun e u' w' =>
      e = .returned (.tuple #[]) ∧ u' = .panicking ({ v := .iface t (.string s), recovered := true } :: older) ∧ w' = w.setCell p (.bool false) := by
  refine callsD_of_wpS Try.func35 rfl fun c₀ cs hu => ?_
  apply wpS_region
  simp [wpOpsS, go_sem, recoverD, hu, hc, hz, Try.ntmps35, bodyPostS, results, Try.results35]

theorem catch_idle (p : Addr) (x : Bool) (w : World) (hc : w.cell? p = some (.bool x)) (hz : w.frozen? p = false) :
    CallsD Try.prog 35 #[.pointer (some p)] .returning w fun e u' w' => e = .returned (.tuple #[]) ∧ u' = .returning ∧ w' = w.setCell p (.bool true) := by
  refine callsD_of_wpS Try.func35 rfl fun c₀ cs hu => ?_
  apply wpS_region
  simp [wpOpsS, go_sem, recoverD, hu, hc, hz, Try.ntmps35, bodyPostS, results, Try.results35]
  all_goals (cases c₀; simp_all)

/-- A variable of the call's own that a closure has caught: one cell. -/
def Box (w : World) (b : Nat) (t : TypeId) (u : Value) : Prop := w.heap[b]? = some (.cells #[u] t (0, 0))
theorem Box.lt {w : World} {b : Nat} {t : TypeId} {u : Value} (h : Box w b t u) : b < w.heap.size := lt_of_block h
theorem Box.cell {w : World} {b : Nat} {t : TypeId} {u : Value} (h : Box w b t u) : w.cell? ⟨b, 0, none⟩ = some u ∧ w.frozen? ⟨b, 0, none⟩ = false := by
  unfold Box at h
  constructor
  · simp only [World.cell?, h]; rfl
  · simp only [World.frozen?, h]; rfl
theorem Box.grown {w w' : World} {b : Nat} {t : TypeId} {u : Value} {row : Option Nat} (h : Box w b t u) (hg : w.grownBy w' row) (hne : row ≠ some b) : Box w' b t u :=
  (hg.block b h.lt (fun e => hne e.symm)).trans h
theorem Box.set {w : World} {b : Nat} {t : TypeId} {u : Value} (h : Box w b t u) (u' : Value) : Box (w.setCell ⟨b, 0, none⟩ u') b t u' := three_setCell h
/-- Nothing but the blocks g and x is turned. -/
def Only (g x : Nat) (w w' : World) : Prop := w.heap.size ≤ w'.heap.size ∧ ∀ j, j < w.heap.size → j ≠ g → j ≠ x → w'.heap[j]? = w.heap[j]?
theorem only_grown {g x : Nat} {w w' : World} (h : w.grownBy w' (some g)) : Only g x w w' := ⟨h.size, fun j hj h1 _ => h.block j hj (fun e => h1 (by injection e))⟩
theorem Only.set {g x : Nat} {w w' : World} (h : Only g x w w') (u : Value) : Only g x w (w'.setCell ⟨x, 0, none⟩ u) :=
  ⟨by simp [World.setCell]; exact h.1, fun j hj h1 h2 => (Below.heap_setCell _ _ _ j (fun e => h2 (by rw [e]))).trans (h.2 j hj h1 h2)⟩
theorem Only.box {g x : Nat} {w w' : World} (h : Only g x w w') {b : Nat} {t : TypeId} {u : Value} (hb : Box w b t u) (h1 : b ≠ g) (h2 : b ≠ x) : Box w' b t u := (h.2 b hb.lt h1 h2).trans hb
end Go.Proofs.Ytgcpdmnikoebkaa
