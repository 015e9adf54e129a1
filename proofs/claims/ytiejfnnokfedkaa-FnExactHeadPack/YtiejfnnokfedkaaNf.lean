/- The number form as a list, and its plain laws. No condition. -/
import Derived.Test.YtiejfnnokfedkaaBase
namespace Go.Proofs.Ytiejfnnokfedkaa
open Go.RowKit
set_option maxRecDepth 100000
set_option linter.unusedVariables false

/-- The number form, with how many bytes may stand behind the first. -/
def nf : Nat → Int → List Int
  | 0, x => [x]
  | m + 1, x => if x < 128 then [x] else (128 + x % 128) :: nf m (x / 128)

/-- The number form of any number. -/
def form (x : Int) : List Int := if x < 0 then [] else nf 8 x

/-- The number has a form of at most m + 1 bytes. -/
def Bd (m : Nat) (x : Int) : Prop := 0 ≤ x ∧ x < 128 ^ (m + 1)

theorem Bd.next {m : Nat} {x : Int} (h : Bd m x) (hx : 128 ≤ x) : ∃ n, m = n + 1 ∧ Bd n (x / 128) := by
  obtain ⟨h0, h1⟩ := h
  cases m with
  | zero => simp at h1; omega
  | succ n =>
    refine ⟨n, rfl, by omega, ?_⟩
    rw [Int.pow_succ] at h1
    exact Int.ediv_lt_of_lt_mul (by omega) h1
theorem bd_of {x : Int} (h0 : 0 ≤ x) (h1 : x ≤ 9223372036854775807) : Bd 8 x := ⟨h0, by
  have : (128 : Int) ^ (8 + 1) = 9223372036854775808 := by decide
  omega⟩

theorem nf_lt {m : Nat} {x : Int} (h : x < 128) : nf m x = [x] := by
  cases m with
  | zero => rfl
  | succ m => simp [nf, h]
theorem nf_ge {m : Nat} {x : Int} (h : 128 ≤ x) : nf (m + 1) x = (128 + x % 128) :: nf m (x / 128) := by
  have : ¬ x < 128 := by omega
  simp [nf, this]
theorem nf_len (m : Nat) (x : Int) : 1 ≤ (nf m x).length ∧ (nf m x).length ≤ m + 1 := by
  induction m generalizing x with
  | zero => simp [nf]
  | succ m ih =>
    unfold nf
    split
    · simp
    · have := ih (x / 128); simp; omega
theorem nf_byte {m : Nat} {x : Int} (h : Bd m x) : ∀ y ∈ nf m x, 0 ≤ y ∧ y ≤ 255 := by
  induction m generalizing x with
  | zero =>
    intro y hy
    have h0 := h.1
    have h1 := h.2
    simp [nf] at hy h1
    omega
  | succ m ih =>
    intro y hy
    have h0 := h.1
    by_cases hx : x < 128
    · rw [nf_lt hx] at hy; simp at hy; omega
    · obtain ⟨n, e, hb⟩ := h.next (by omega)
      cases e
      rw [nf_ge (by omega)] at hy
      rcases List.mem_cons.mp hy with e | hy
      · omega
      · exact ih hb y hy
theorem form_len (x : Int) : (form x).length ≤ 9 := by
  unfold form; split
  · simp
  · exact (nf_len 8 x).2
theorem form_byte {x : Int} (h : x ≤ 9223372036854775807) : ∀ y ∈ form x, 0 ≤ y ∧ y ≤ 255 := by
  unfold form; split
  · simp
  · exact nf_byte (bd_of (by omega) h)
end Go.Proofs.Ytiejfnnokfedkaa
