/- A region that draws its order, in which all but the last operations only read: one walk, and the last ones in their order, whatever they do. No condition. -/
import Derived.Test.YtggfifchkecnjaaGreatDoorY1
import Derived.StillTail
import Derived.BigQuiet
namespace Go.Proofs.YtggfifchkecnjaaGreatDoor
open Go.RowKit
set_option maxRecDepth 100000
set_option linter.unusedVariables false

def One (w1 : World) : Type := { w : World // w = w1 }
def One.w {w1 : World} (n : One w1) : World := n.1
theorem One.eq {w1 : World} (n : One w1) : n.w = w1 := n.2
theorem One.any (w1 : World) : Nonempty (One w1) := ⟨⟨w1, rfl⟩⟩

theorem still_of_quiet {P : Program} {ops : Array Oper} {w1 : World} {Q : Act → Prop} : ∀ (l : List Oper) (a : Act),
    wpQuiet P ops (fun w' => ∃ n : One w1, w' = n.w) Q l a → wpStill P ops w1 Q l a := by
  intro l
  induction l with
  | nil => exact fun a h => h
  | cons o rest ih =>
    intro a h
    unfold wpQuiet at h
    unfold wpStill
    by_cases hw : Region.wanted o (yielded ops a.tmps) = true
    · rw [if_pos hw] at h ⊢
      obtain ⟨v, h1, h2⟩ := h
      have h3 := h1 w1 ⟨⟨w1, rfl⟩, rfl⟩
      have h4 := ih _ h2
      unfold Oper.quietAt at h3
      unfold Oper.still
      generalize (execOp a.eval o).run P w1 = r at *
      cases r with
      | ok n w' =>
        cases n <;> simp only [Oper.quietUpon] at h3 <;> simp only [Oper.stillUpon]
        case value u =>
          obtain ⟨e1, e2⟩ := h3
          exact ⟨e1, by rw [e2]; exact h4⟩
        case skip =>
          obtain ⟨e1, e2⟩ := h3
          exact ⟨e1, by rw [← e2]; exact h4⟩
        case enter f args =>
          obtain ⟨e1, hc⟩ := h3
          exact ⟨e1, v, hc.mono (fun e w'' ⟨he, n, hn⟩ => ⟨he, hn.trans n.eq⟩), h4⟩
      | halt x w' => simp only [Oper.quietUpon] at h3
    · rw [if_neg hw] at h ⊢
      exact ih _ h

theorem region_tail {P : Program} {id : Nat} {Q : Exit → Act → World → Prop} {a : Act} {w : World} {l : List Oper} (n : Nat) (hm : P.follows .mixedOrders = true) (hB : Region.lexTailB .any l.toArray n = true)
    (h : ∀ (w1 : World) (K : Act → Prop), Hid (w1 = w.drew) → Hid (∀ a', wpList P l.toArray Q (l.drop n) a' w1 → K a') → wpQuiet P l.toArray (fun w' => ∃ n : One w1, w' = n.w) K (l.take n) a) : (Code.region id l.toArray true).wp P Q a w :=
  wp_region_still_tail n hm hB (still_of_quiet _ _ (h w.drew _ rfl (fun _ h => h)))
end Go.Proofs.YtggfifchkecnjaaGreatDoor
