/- The specification's GetText, at every list of bytes. -/
import Derived.Test.YtiejfnnokfedkaaSGetNum
import Derived.Test.YtiejfnnokfedkaaOk
namespace Go.Proofs.Ytiejfnnokfedkaa
open Go.RowKit
set_option maxRecDepth 100000
set_option linter.unusedVariables false

/-- What GetText finds at a place: the bytes of the text, and the place behind it. -/
def rdT (xs : List Int) (i : Int) : Option (List Int × Int) :=
  match rdI xs i with
  | some (y, n) => if y ≤ xs.length - (i + n) then some ((xs.drop (i + n).toNat).take y.toNat, i + n + y) else none
  | none => none

/-- What GetText answers. -/
def textVal : Option (List Int × Int) → Value
  | some (t, j) => .tuple #[.string (strOf t), .int .i64 j, .bool true]
  | none => .tuple #[.string ByteArray.empty, .int .i64 0, .bool false]

theorem rdT_none {xs : List Int} {i : Int} (h : rdI xs i = none) : rdT xs i = none := by simp only [rdT, h]
theorem rdT_fit {xs : List Int} {i : Int} {k n p : Nat} (h : rdI xs i = some ((k : Int), n)) (hp : i + n = p) (hk : (k : Int) ≤ xs.length - (p : Int)) : rdT xs i = some ((xs.drop p).take k, (p : Int) + (k : Int)) := by
  simp only [rdT, h, hp, if_pos hk, Int.toNat_natCast]
theorem rdT_over {xs : List Int} {i : Int} {k n p : Nat} (h : rdI xs i = some ((k : Int), n)) (hp : i + n = p) (hk : ¬ (k : Int) ≤ xs.length - (p : Int)) : rdT xs i = none := by
  simp only [rdT, h, hp, if_neg hk]
/-- What is read of a number, in natural numbers. -/
theorem rdI_nats {xs : List Int} {i y : Int} {n : Nat} (h : rdI xs i = some (y, n)) (hb : ∀ x ∈ xs, 0 ≤ x ∧ x ≤ 255) :
    ∃ k p : Nat, y = k ∧ i + n = p ∧ p ≤ xs.length ∧ k ≤ 9223372036854775807 ∧ numVal i (rdI xs i) = .tuple #[.int .i64 k, .int .i64 p, .bool true] := by
  have hs := rdI_some h hb
  refine ⟨y.toNat, (i + n).toNat, by omega, by omega, by omega, by omega, ?_⟩
  have e1 : (y.toNat : Int) = y := by omega
  have e2 : ((i + n).toNat : Int) = i + n := by omega
  rw [h, e1, e2]
  rfl

/-- A part of a slice. -/
theorem sub_sl {K : IntKind} {w : World} {a : Option Addr} {xs : List Int} {ca p k : Nat} (h : Sl K w (.slice a xs.length ca) xs) (hk : p + k ≤ xs.length) (hc : ¬ ca = p) : Sl K w (.slice (Option.map (fun x => x.add p) a) k (ca - p)) ((xs.drop p).take k) := by
  obtain ⟨a', ca', e, h1, h2, h3, hcell⟩ := h
  cases e
  have hl : ((xs.drop p).take k).length = k := by simp; omega
  refine ⟨_, ca - p, by rw [hl], by rw [hl]; omega, by omega, ?_, fun j hj => ?_⟩
  · intro e
    have : a = none := by cases a <;> simp_all
    have := h3 this
    omega
  · rw [hl] at hj
    obtain ⟨b, off, rfl, c⟩ := hcell (p + j) (by omega)
    have ead : (⟨b, off, none⟩ : Addr).add p = ⟨b, off + p, none⟩ := by
      by_cases h0 : p = 0
      · subst h0; simp [Addr.add]
      · simp [Addr.add, h0]
    refine ⟨b, off + p, by simp [ead], ?_⟩
    have e1 : ((xs.drop p).take k).getD j 0 = xs.getD (p + j) 0 := by
      simp [List.getD_eq_getElem?_getD, List.getElem?_drop, hj]
    rw [e1, Nat.add_assoc]
    exact c
theorem sub_sl0 {K : IntKind} {w : World} (a : Option Addr) : Sl K w (.slice a 0 0) [] := ⟨a, 0, rfl, Nat.le_refl _, by unfold maxLen; omega, fun _ => rfl, fun j hj => absurd hj (Nat.not_lt_zero _)⟩

end Go.Proofs.Ytiejfnnokfedkaa
