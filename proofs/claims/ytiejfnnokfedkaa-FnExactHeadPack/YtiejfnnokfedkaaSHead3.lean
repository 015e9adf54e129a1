/- The specification's HeadNow. No condition. -/
import Derived.Test.YtiejfnnokfedkaaSHead2
import Derived.Test.YtiejfnnokfedkaaAreaM
import Derived.Test.YtiejfnnokfedkaaHoldK
namespace Go.Proofs.Ytiejfnnokfedkaa
open Go.RowKit
set_option maxRecDepth 100000
set_option linter.unusedVariables false

/-- Which head counts. -/
def nowDk (d : PDisk) : PHead := if diskB d = false then zeroH else if (readDk (sectorD d 0)).1.no < (readDk (sectorD d 1)).1.no then (readDk (sectorD d 1)).1 else (readDk (sectorD d 0)).1
theorem sector_size {d : PDisk} (h : diskB d = true) {x : Int} (hx : 0 ≤ x ∧ x ≤ 129) : (sectorD d x).size = 64 := by
  have hl := diskB_len h
  have hp : ∀ ps : List (Int × ByteArray), (∀ p ∈ ps, p.2.size = 64) → ∀ s, putAt x ps = some s → s.size = 64 := by
    intro ps
    induction ps with
    | nil => intro _ s e; simp [putAt] at e
    | cons q ps ih =>
      intro hq s e
      rw [putAt] at e
      split at e
      · rename_i s' e'
        simp only [Option.some.injEq] at e
        subst e
        exact ih (fun p hp => hq p (List.mem_cons_of_mem _ hp)) _ e'
      · split at e
        · simp only [Option.some.injEq] at e
          subst e
          exact hq q (List.mem_cons_self ..)
        · cases e
  unfold sectorD
  cases e : putAt x d.late with
  | some s => exact hp d.late (fun p hpm => by obtain ⟨k, hk, rfl⟩ := List.getElem_of_mem hpm; exact (diskB_late h hk).2.2) s e
  | none =>
    have hk : x.toNat < d.safe.length := by omega
    simp only [Option.getD_none, List.getD_eq_getElem?_getD, List.getElem?_eq_getElem hk, Option.getD_some]
    exact diskB_safe h hk

end Go.Proofs.Ytiejfnnokfedkaa
