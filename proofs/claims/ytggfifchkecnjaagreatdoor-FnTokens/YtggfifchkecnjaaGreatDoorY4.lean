/- A region that draws its order, and whose calls may make memory but write nothing that was there: one walk, in the order of the text. -/
import Derived.Test.YtggfifchkecnjaaGreatDoorY1
import Derived.BigQuiet
namespace Go.Proofs.YtggfifchkecnjaaGreatDoor
open Go.RowKit
set_option maxRecDepth 100000
set_option linter.unusedVariables false

def Wd (B : Nat) (w0 : World) : Type := { w : World // Below B w0 w }
def Wd.w {B : Nat} {w0 : World} (n : Wd B w0) : World := n.1
theorem Wd.below {B : Nat} {w0 : World} (n : Wd B w0) : Below B w0 n.w := n.2
theorem Wd.of {B : Nat} {w0 w : World} (h : ∃ n : Wd B w0, w = n.w) : Below B w0 w := by
  obtain ⟨n, rfl⟩ := h
  exact n.below
theorem Wd.any (B : Nat) (w0 : World) : Nonempty (Wd B w0) := ⟨⟨w0, Below.refl _ _⟩⟩

theorem wp_region_below {P : Program} {id : Nat} {Q : Exit → Act → World → Prop} {a : Act} {w w0 : World} {B : Nat} {l : List Oper} (hm : P.follows .mixedOrders = true) (hB : Region.lexB .any l.toArray = true)
    (hb : Below B w0 w) (h : wpQuiet P l.toArray (fun w' => ∃ n : Wd B w0, w' = n.w) (fun a' => ∀ w', (∃ n : Wd B w0, w' = n.w) → Q .normal a' w') l a) : (Code.region id l.toArray true).wp P Q a w :=
  wp_region_quiet (C := fun w' => ∃ n : Wd B w0, w' = n.w) hm hB ⟨⟨_, hb.trans (below_drewN 1)⟩, rfl⟩ (by simpa using h)

theorem quiet_below {P : Program} {f : FuncId} {args : Array Value} {B : Nat} {w0 : World} {n : Wd B w0} {v : Value}
    (h : Calls P f args n.w fun e w' => e = .returned v ∧ Below n.w.heap.size n.w w') (hB : B ≤ w0.heap.size) : Calls P f args n.w fun e w'' => e = .returned v ∧ ∃ m : Wd B w0, w'' = m.w :=
  h.mono fun _ _ ⟨he, hb⟩ => ⟨he, ⟨_, n.below.trans (hb.mono (Nat.le_trans hB n.below.size))⟩, rfl⟩
end Go.Proofs.YtggfifchkecnjaaGreatDoor
