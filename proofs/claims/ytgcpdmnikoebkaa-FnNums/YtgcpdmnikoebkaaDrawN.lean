/- The draws of chapter 7: a number, a text; and a byte of the code. -/
import Derived.Test.YtgcpdmnikoebkaaDraw3
import Derived.Test.YtgcpdmnikoebkaaDrawS
namespace Go.Proofs.Ytgcpdmnikoebkaa
open Go.RowKit
set_option maxRecDepth 100000
set_option linter.unusedVariables false

set_option maxHeartbeats 1000000 in
theorem drawNum_any {v : Value} {xs : List Int} {w : World} (h : Sl .u8 w v xs) (hb : ∀ x ∈ xs, 0 ≤ x ∧ x ≤ 255) (hn : xs.length ≤ 1099511627776) :
    Calls Try.prog 9 #[v] w fun e w' => ∃ x : Int, e = .returned (.int .i64 x) ∧ -1 ≤ x ∧ x ≤ 9223372036854775807 ∧ Below w.heap.size w w' := by
  have HB : Hid (∀ x ∈ xs, 0 ≤ x ∧ x ≤ 255) := hb
  clear hb
  go_enter Try.func9, Try.ntmps9
  go_wp2_with fail
  go_at_call 24
  refine (new_any h HB.out hn).mono ?_
  rintro e w1 ⟨rfl, k1, b1⟩
  go_wp2_with fail
  go_at_call 26
  refine (below_any _ (by omega) k1 HB.out).mono ?_
  rintro e w2 ⟨x, rfl, x0, x1, x2, k2, g2⟩
  replace x1 := x1 (by omega)
  clear x2
  go_wp2_with fail
  go_at_call 25
  refine (pickL_any k2 HB.out [0, 1, 127, 128, 16383, 16384, -1, 9223372036854775807, x] (by simp) (by simp) _ rfl 9 rfl).mono ?_
  rintro e w3 ⟨z, rfl, hz, k3, g3⟩
  have hzb : -1 ≤ z ∧ z ≤ 9223372036854775807 := by
    simp only [List.mem_cons, List.not_mem_nil, or_false] at hz
    omega
  clear hz
  have g4 := grown_trans g2 g3
  go_wp2
  go_ret
  exact ⟨_, rfl, hzb.1, hzb.2, b1.grown g4 b1.size (fun k hk => by cases hk; exact Nat.le_refl _)⟩

set_option maxHeartbeats 1000000 in
theorem drawText_any {v : Value} {xs : List Int} {w : World} (h : Sl .u8 w v xs) (hb : ∀ x ∈ xs, 0 ≤ x ∧ x ≤ 255) (hn : xs.length ≤ 1099511627776) :
    Calls Try.prog 13 #[v] w fun e w' => ∃ s : ByteArray, e = .returned (.string s) ∧ s.size ≤ 1000 ∧ Below w.heap.size w w' := by
  have HB : Hid (∀ x ∈ xs, 0 ≤ x ∧ x ≤ 255) := hb
  clear hb
  go_enter Try.func13, Try.ntmps13
  go_wp2_with fail
  go_at_call 24
  refine (new_any h HB.out hn).mono ?_
  rintro e w1 ⟨rfl, k1, b1⟩
  have h1 := h.below b1
  go_wp2_with fail
  go_at_call 31
  refine (size_any h1 hn 40 (by omega)).mono ?_
  rintro e w2 ⟨⟨x, rfl, x0, x1⟩, rfl⟩
  obtain ⟨m, rfl⟩ : ∃ m : Nat, x = m := ⟨x.toNat, by omega⟩
  go_wp2_with fail
  go_at_call 30
  refine (drawBytes_any k1 HB.out m (by omega)).mono ?_
  rintro e w4 ⟨u, zs, rfl, o4, hzl, hzb, k4, g4⟩
  have b4 := b1.grown g4 b1.size (fun k hk => by cases hk; exact Nat.le_refl _)
  have cv := conv_sl o4.sl
  have hss := strOf_size zs
  obtain ⟨t, ht⟩ : ∃ t, t = strOf zs := ⟨_, rfl⟩
  rw [← ht] at cv hss
  clear ht o4 k4 g4 hzb k1 h1 b1
  go_wp2
  go_ret
  exact ⟨_, rfl, by omega, b4⟩

theorem at_any {v : Value} {xs : List Int} {w : World} (h : Sl .u8 w v xs) (hb : ∀ x ∈ xs, 0 ≤ x ∧ x ≤ 255) (hn : xs.length ≤ 1099511627776) (k : Int) (hk0 : 0 ≤ k) (hk : k ≤ 1000) :
    Calls Try.prog 12 #[v, .int .i64 k] w fun e w' => (∃ x : Int, e = .returned (.int .i64 x) ∧ 0 ≤ x ∧ x ≤ 255) ∧ w' = w := by
  obtain ⟨a, ca, rfl, _, _, _, ha⟩ := h
  obtain ⟨k, rfl⟩ : ∃ n : Nat, k = n := ⟨k.toNat, by omega⟩
  by_cases hl : k < xs.length
  · obtain ⟨b1, o1, rfl, c1⟩ := ha k hl
    obtain ⟨d, hd⟩ : ∃ d, d = xs.getD k 0 := ⟨_, rfl⟩
    rw [← hd] at c1
    have hdb : 0 ≤ d ∧ d ≤ 255 := by
      rw [hd, List.getD_eq_getElem?_getD, List.getElem?_eq_getElem hl]
      exact hb _ (List.getElem_mem hl)
    clear ha hb hd
    go_enter Try.func12, Try.ntmps12
    go_wp2
    go_ret
    exact ⟨⟨_, rfl, hdb.1, hdb.2⟩, rfl⟩
  · clear ha hb
    go_enter Try.func12, Try.ntmps12
    go_wp2
    go_ret
    exact ⟨⟨_, rfl, by omega, by omega⟩, rfl⟩
end Go.Proofs.Ytgcpdmnikoebkaa
