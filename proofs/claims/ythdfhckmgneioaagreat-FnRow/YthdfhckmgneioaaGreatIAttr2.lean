/- Contracts of the program's textOk and attrOk. -/
import Derived.Test.YthdfhckmgneioaaGreatIAttr
namespace Go.Proofs.YthdfhckmgneioaaGreat
open Go.RowKit
set_option maxRecDepth 100000
set_option linter.unusedVariables false

theorem textOk_any (s : ByteArray) (w : World) (hs : s.size ≤ 1099511627776) : Calls Tryz.prog 91 #[.string s] w fun e w' => e = .returned (.bool (utfOk (bs s))) ∧ Below w.heap.size w w' := by
  obtain ⟨cap, w1, hc, hk, hcap, hm, hb⟩ := conv_str s w (by unfold maxLen; omega)
  have hl := bs_len s
  have hsl := hk.sl (n := s.size) (cap := cap) (by omega) (by omega) hm
  have hu := iutfOk_any hsl (bs_byte s) (by omega)
  clear hk
  go_enter Tryz.func91, Tryz.ntmps91
  go_wp2_with fail
  go_at_call 99
  refine hu.mono ?_
  rintro e w2 ⟨rfl, b2⟩
  go_wp2
  go_ret
  exact ⟨rfl, hb.trans (b2.mono hb.size)⟩

theorem attrOk_eq (n v : ByteArray) : attrOk (n, v) = (inB n.size 1 60 && utfOk (bs n) && utfOk (bs v)) := by
  unfold attrOk
  simp only
  by_cases hv : v.size ≤ 3000
  · rw [decide_eq_true hv, Bool.and_true]
  · rw [decide_eq_false hv, utfOk_no (xs := bs v) (by rw [bs_len]; exact hv)]; simp

set_option maxHeartbeats 1000000 in
set_option maxRecDepth 100000 in
theorem iattrOk_any (n v : ByteArray) (w : World) (h1 : n.size ≤ 1099511627776) (h2 : v.size ≤ 1099511627776) :
    Calls Tryz.prog 103 #[.agg #[.string n, .string v]] w fun e w' => e = .returned (.bool (attrOk (n, v))) ∧ Below w.heap.size w w' := by
  rw [attrOk_eq]
  have c2 := fun w => textOk_any n w h1
  have c3 := fun w => textOk_any v w h2
  have b1 : Below w.heap.size w (w.alloc (.cells #[.string n, .string v] 110)) := (Below.refl _ _).alloc (Nat.le_refl _) _
  obtain ⟨q2, e2⟩ : ∃ q, q = utfOk (bs n) := ⟨_, rfl⟩
  obtain ⟨q3, e3⟩ : ∃ q, q = utfOk (bs v) := ⟨_, rfl⟩
  rw [← e2] at c2 ⊢
  rw [← e3] at c3 ⊢
  have C2 := (show Hid _ from c2)
  have C3 := (show Hid _ from c3)
  clear c2 c3 e2 e3
  by_cases hn : 1 ≤ n.size ∧ n.size ≤ 60
  · rw [inB_yes (by omega) (by omega), Bool.true_and]
    obtain ⟨n1, n2⟩ := hn
    cases q2
    · go_enter Tryz.func103, Tryz.ntmps103
      go_wp2_with fail
      go_at_call 91
      refine (C2.out _).mono ?_
      rintro e w2 ⟨rfl, b2⟩
      replace b2 := b1.trans (b2.mono b1.size)
      go_wp2
      go_ret
      exact ⟨ret_bool (by simp), b2⟩
    · go_enter Tryz.func103, Tryz.ntmps103
      go_wp2_with fail
      go_at_call 91
      refine (C2.out _).mono ?_
      rintro e w2 ⟨rfl, b2⟩
      have d1 : w2.cell? ⟨w.heap.size, 1, none⟩ = some (.string v) := by
        rw [b2.cell (p := ⟨w.heap.size, 1, none⟩) (by simp)]
        simp
      replace b2 := b1.trans (b2.mono b1.size)
      go_wp2_with fail
      go_at_call 91
      refine (C3.out _).mono ?_
      rintro e w3 ⟨rfl, b3⟩
      replace b3 := b2.trans (b3.mono b2.size)
      go_wp2
      go_ret
      exact ⟨ret_bool (by simp), b3⟩
  · rw [inB_no (by omega), Bool.false_and, Bool.false_and]
    by_cases n1 : n.size < 1
    · have n0 : n.size = 0 := by omega
      go_enter Tryz.func103, Tryz.ntmps103
      go_wp2
      go_ret
      exact ⟨ret_bool (by simp), b1⟩
    · have n2 : 60 < n.size := by omega
      go_enter Tryz.func103, Tryz.ntmps103
      go_wp2
      go_ret
      exact ⟨ret_bool (by simp), b1⟩
end Go.Proofs.YthdfhckmgneioaaGreat
