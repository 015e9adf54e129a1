/- A number and a text are read from their forms as they were. No condition. -/
import Derived.Test.YtiejfnnokfedkaaSGetText
import Derived.Test.YtiejfnnokfedkaaIPutText
namespace Go.Proofs.Ytiejfnnokfedkaa
open Go.RowKit
set_option maxRecDepth 100000
set_option linter.unusedVariables false

theorem parts128 (x p : Int) : x % 128 * p + x / 128 * (p * 128) = x * p := by
  have e : x = x % 128 + 128 * (x / 128) := by omega
  have e2 : x * p = (x % 128 + 128 * (x / 128)) * p := by rw [← e]
  rw [e2, Int.add_mul, Int.mul_comm p 128, ← Int.mul_assoc, Int.mul_comm (x / 128) 128]

theorem rdA_nf {m k : Nat} {x acc : Int} {rest : List Int} (h : Bd m x) (h0 : ¬ (x = 0 ∧ 0 < k)) : rdA (m + 1) k acc (nf m x ++ rest) = some (acc + x * 128 ^ k, k + (nf m x).length) := by
  induction m generalizing k x acc with
  | zero =>
    have h1 := h.2
    simp at h1
    have e : nf 0 x = [x] := rfl
    rw [e, List.singleton_append, rdA_end h1 h0]
    rfl
  | succ m ih =>
    by_cases hx : x < 128
    · rw [nf_lt hx, List.singleton_append, rdA_end hx h0]
      rfl
    · obtain ⟨n, e, hb⟩ := h.next (by omega)
      cases e
      have hx0 := h.1
      rw [nf_ge (by omega), List.cons_append, rdA_on (by omega), ih hb (by omega)]
      have e1 : (128 + x % 128) % 128 = x % 128 := by omega
      rw [e1, Int.pow_succ, Int.add_assoc, parts128, List.length_cons]
      congr 2
      omega

theorem rdI_form {x : Int} (h0 : 0 ≤ x) (h1 : x ≤ 9223372036854775807) (pre rest : List Int) : rdI (pre ++ form x ++ rest) (pre.length : Nat) = some (x, (form x).length) := by
  rw [rdI_nat, List.append_assoc, List.drop_left]
  unfold form
  rw [if_neg (by omega), rdA_nf (bd_of h0 h1) (by omega)]
  simp

theorem rdT_form (s : ByteArray) (hs : s.size ≤ 1099511627776) (rest : List Int) : rdT (textForm s ++ rest) 0 = some (bs s, ((textForm s).length : Int)) := by
  have hr := rdI_form (x := s.size) (by omega) (by omega) [] (bs s ++ rest)
  rw [List.nil_append, List.length_nil] at hr
  have e : textForm s ++ rest = form s.size ++ (bs s ++ rest) := by unfold textForm; rw [List.append_assoc]
  have hbl := bs_len s
  rw [e]
  have hlen : (form s.size ++ (bs s ++ rest)).length = (form s.size).length + s.size + rest.length := by simp [hbl]; omega
  have hf := rdT_fit (k := s.size) (n := (form s.size).length) (p := (form s.size).length) hr (by omega) (by rw [hlen]; omega)
  rw [show ((0 : Nat) : Int) = 0 from rfl] at hf
  have et : (bs s ++ rest).take s.size = bs s := by rw [← hbl, List.take_left]
  have el : ((textForm s).length : Int) = (form s.size).length + s.size := by
    unfold textForm
    rw [List.length_append, hbl]
    omega
  rw [hf, List.drop_left, et, el]
end Go.Proofs.Ytiejfnnokfedkaa
