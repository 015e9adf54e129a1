/- The contracts of UtfRead, the program's and the specification's, at every slice of bytes. -/
import Derived.Test.YtiejfnnokfedkaaRead
import Derived.Test.YtiejfnnokfedkaaSRead
namespace Go.Proofs.Ytiejfnnokfedkaa
open Go.RowKit
set_option maxRecDepth 100000
set_option linter.unusedVariables false

theorem take3 {xs : List Int} (h : 3 ≤ xs.length) : xs.take 3 = [xs[0], xs[1], xs[2]] := by
  match xs, h with
  | a :: b :: c :: r, _ => rfl
theorem unmark_short {xs : List Int} (h : ¬ 3 ≤ xs.length) : unmark xs = xs := by
  unfold unmark; rw [if_neg]
  intro e
  have := congrArg List.length e
  simp at this; omega
theorem unmark_yes {xs : List Int} (h : 3 ≤ xs.length) (h0 : xs[0] = 239) (h1 : xs[1] = 187) (h2 : xs[2] = 191) : unmark xs = xs.drop 3 := by
  unfold unmark; rw [if_pos]; rw [take3 h, h0, h1, h2]
theorem unmark_no {xs : List Int} (h : 3 ≤ xs.length) (hn : xs[0] ≠ 239 ∨ xs[1] ≠ 187 ∨ xs[2] ≠ 191) : unmark xs = xs := by
  unfold unmark; rw [if_neg]; rw [take3 h]; simp; omega

/-- What is cut off at the front of a slice. -/
theorem Sl.drop3 {K : IntKind} {w : World} {b off cap : Nat} {xs : List Int} (h : Sl K w (.slice (some ⟨b, off, none⟩) xs.length cap) xs) (h3 : 3 ≤ xs.length) (hc : 3 < cap) :
    Sl K w (.slice (some ⟨b, off + 3, none⟩) (xs.length - 3) (cap - 3)) (xs.drop 3) := by
  obtain ⟨a', c', e, hl, hm, hnn, ha⟩ := h
  cases e
  refine ⟨some ⟨b, off + 3, none⟩, cap - 3, by simp, by simp; omega, by omega, (fun h => by cases h), fun k hk => ⟨b, off + 3, rfl, ?_⟩⟩
  simp at hk
  obtain ⟨b2, o2, e2, c2⟩ := ha (3 + k) (by omega)
  cases e2
  have e3 : (xs.drop 3).getD k 0 = xs.getD (3 + k) 0 := by simp [List.getD_eq_getElem?_getD]
  rw [e3, Nat.add_assoc]; exact c2

theorem Sl.drop3_end {K : IntKind} {w : World} {a : Addr} {xs : List Int} (h : xs.length = 3) : Sl K w (.slice (some a) (xs.length - 3) 0) (xs.drop 3) := by
  have e : xs.drop 3 = [] := List.drop_eq_nil_of_le (by omega)
  rw [e, h]
  exact ⟨some a, 0, rfl, Nat.le_refl _, Nat.zero_le _, fun _ => rfl, fun k hk => absurd hk (Nat.not_lt_zero _)⟩

theorem byte_ok {xs : List Int} (h : ∀ n ∈ xs, (Lit.int .u8 n).wf = true) : ∀ x ∈ xs, 0 ≤ x ∧ x ≤ 255 := fun x hx => by
  have h1 := h x hx
  have e1 : IntKind.u8.min = 0 := rfl
  have e2 : IntKind.u8.max = 255 := rfl
  simp [Lit.wf, e1, e2] at h1
  omega

theorem unmark_mem {xs : List Int} (h : ∀ x ∈ xs, 0 ≤ x ∧ x ≤ 255) : ∀ x ∈ unmark xs, 0 ≤ x ∧ x ≤ 255 := fun x hx => by
  unfold unmark at hx; split at hx
  · exact h x (List.mem_of_mem_drop hx)
  · exact h x hx

/-- Of a room whose first places hold 'out', the slice of those. -/
theorem RdRoom.cut {B g n : Nat} {w w' : World} {out : List Int} (h : RdRoom B g n w w' out) (hl : out.length ≤ n) : Sl .i64 w' (.slice (some ⟨g, 0, none⟩) out.length n) out := by
  obtain ⟨zs, ho, hz, ht, hg⟩ := h
  subst hz
  obtain ⟨a, cap, e, h1, h2, h3, hc⟩ := ho.sl
  cases e
  refine ⟨some ⟨g, 0, none⟩, _, rfl, by omega, h2, (fun h => by cases h), fun k hk => ?_⟩
  obtain ⟨b, off, e, c⟩ := hc k (by omega)
  refine ⟨b, off, e, ?_⟩
  have e2 : out.getD k 0 = zs.getD k 0 := by
    conv => lhs; rw [← ht]
    simp [List.getD_eq_getElem?_getD, hk]
  rw [e2]; exact c

end Go.Proofs.Ytiejfnnokfedkaa
