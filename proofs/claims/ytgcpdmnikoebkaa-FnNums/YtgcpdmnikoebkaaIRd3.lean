/- The program's byteReader: text. -/
import Derived.Test.YtgcpdmnikoebkaaIWell
import Derived.Test.YtgcpdmnikoebkaaSGetText
namespace Go.Proofs.Ytgcpdmnikoebkaa
open Go.RowKit
set_option maxRecDepth 100000
set_option linter.unusedVariables false

theorem wrap_fit7 {x : Int} (h0 : -9223372036854775808 ≤ x) (h1 : x ≤ 9223372036854775807) : IntKind.i64.wrap x = x := by
  simp [IntKind.wrap, IntKind.bits, IntKind.signed]; omega

set_option maxHeartbeats 1000000 in
theorem text_any {w0 : World} {g : Nat} {v : Value} {xs : List Int} {i : Int} {w : World} (h : Rdr w0 g v xs i w) (hb : ∀ x ∈ xs, 0 ≤ x ∧ x ≤ 255) :
    Calls Try.prog 33 #[.pointer (some ⟨g, 0, none⟩)] w fun e w' => ((∃ t j, rdT xs i = some (t, j) ∧ e = .returned (.string (strOf t)) ∧ Rdr w0 g v xs j w') ∨ (rdT xs i = none ∧ Bad e ∧ ∃ j, Rdr w0 g v xs j w')) ∧ w.grownBy w' (some g) := by
  have CALL := (show Hid (Calls Try.prog 29 #[.pointer (some ⟨g, 0, none⟩)] w _) from num_any h hb)
  go_enter Try.func33, Try.ntmps33
  go_wp2_with fail
  go_at_call 29
  refine CALL.out.mono ?_
  rintro e w2 ⟨hor, g2⟩
  clear CALL
  rcases hor with ⟨y, n, hy, rfl, r2⟩ | ⟨hy, ⟨t, s, rfl⟩, j, r2⟩
  · obtain ⟨k, p, rfl, hp, hpl, hkm, -⟩ := rdI_nats hy hb
    rw [hp] at r2
    obtain ⟨c0, c1, f1⟩ := r2.cells
    have h4 := r2.2.2.2.1
    have hsl := r2.sl
    have R2 := (show Hid (_ ∧ _) from ⟨r2, g2⟩)
    by_cases hk : (k : Int) ≤ xs.length - (p : Int)
    · have HT := (show Hid (_ = _) from rdT_fit hy hp hk)
      clear hy hp r2 g2 h
      obtain ⟨a, ca, rfl, hl1, hl2, hl3, ha⟩ := hsl
      clear ha
      have hwr : IntKind.i64.wrap ((xs.length : Int) - (p : Int)) = (xs.length : Int) - (p : Int) := wrap_fit7 (by omega) (by omega)
      go_wp2
      go_region_held (fun w' => w'.cell? ⟨g, 0, none⟩ = some (.slice a xs.length ca) ∧ w'.cell? ⟨g, 1, none⟩ = some (.int .i64 p)) (go_keep)
        ((go_at_call 37; refine (need_yes _).mono ?_; rintro e w4 ⟨rfl, rfl⟩))
      go_wp2
      refine region_tail 9 (by kernel_rfl) (by kernel_rfl) ?_
      intro w1 K1 hW1 hK1
      have ne := One.any w1
      have r3 : Rdr w0 g (.slice a xs.length ca) xs ((p : Int) + (k : Int)) w1 := by rw [hW1.out]; exact ((R2.out.1.set _).drewN 1).drewN 1
      have g3 : w.grownBy w1 (some g) := by rw [hW1.out]; exact grown_trans (grown_trans R2.out.2 (grown_setCell w2 g 1 (.int .i64 ((p : Int) + (k : Int))))) (grown_drewN _ 2 _)
      have hs1 := r3.sl
      obtain ⟨e0, e1, _⟩ := r3.cells
      have d1 : ∀ n : One w1, n.w.cell? ⟨g, 1, none⟩ = some (.int .i64 ((p : Int) + (k : Int))) := fun n => by rw [n.eq]; exact e1
      have d0 : ∀ n : One w1, n.w.cell? ⟨g, 0, none⟩ = some (.slice a xs.length ca) := fun n => by rw [n.eq]; exact e0
      have END := (show Hid (_ ∧ _ ∧ _) from ⟨HT.out, r3, g3⟩)
      clear HT R2 hW1 r3 g3 c0 c1 f1 hwr
      simp only [List.take_succ_cons, List.take_zero, List.drop_succ_cons, List.drop_zero] at hK1 ⊢
      repeat (go_big_quiet_step (fail))
      refine wpQuiet_nil ?_
      refine hK1.out _ ?_
      clear hK1
      by_cases hca : ca = p
      · subst hca
        obtain rfl : k = 0 := by omega
        have cv := conv_sl (sub_sl0 (K := .u8) (w := w1) a)
        go_wp2
        go_ret
        obtain ⟨t1, t2, t3⟩ := END.out
        exact ⟨.inl ⟨_, _, t1, by simp, t2⟩, t3⟩
      · have cv := conv_sl (sub_sl hs1 (p := p) (k := k) (by omega) hca)
        go_wp2
        go_ret
        obtain ⟨t1, t2, t3⟩ := END.out
        exact ⟨.inl ⟨_, _, t1, rfl, t2⟩, t3⟩
    · have HT := (show Hid (_ = _) from rdT_over hy hp hk)
      clear hy hp r2 g2 h
      obtain ⟨a, ca, rfl, hl1, hl2, hl3, ha⟩ := hsl
      clear ha
      have hk' : decide ((k : Int) ≤ xs.length - (p : Int)) = false := by simp; omega
      go_wp2
      refine region_tail 12 (by kernel_rfl) (by kernel_rfl) ?_
      intro w1 K1 hW1 hK1
      have ne := One.any w1
      have d1 : ∀ n : One w1, n.w.cell? ⟨g, 1, none⟩ = some (.int .i64 p) := fun n => by rw [n.eq, hW1.out]; exact c1
      have d0 : ∀ n : One w1, n.w.cell? ⟨g, 0, none⟩ = some (.slice a xs.length ca) := fun n => by rw [n.eq, hW1.out]; exact c0
      simp only [List.take_succ_cons, List.take_zero, List.drop_succ_cons, List.drop_zero] at hK1 ⊢
      repeat (go_big_quiet_step (fail))
      refine wpQuiet_nil ?_
      refine hK1.out _ ?_
      clear hK1
      go_wp2_with fail
      go_at_call 37
      refine (need_no _).mono ?_
      rintro e w4 ⟨⟨t, s, rfl⟩, rfl⟩
      go_wp2
      rw [hW1.out]
      exact ⟨rfl, .inr ⟨HT.out, ⟨_, _, rfl⟩, _, R2.out.1.drewN 1⟩, grown_trans R2.out.2 (grown_drewN w2 1 _)⟩
  · have END := (show Hid (_ ∧ _ ∧ _) from ⟨rdT_none hy, r2, g2⟩)
    clear hy r2 g2
    go_wp2
    exact ⟨rfl, .inr ⟨END.out.1, ⟨_, _, rfl⟩, _, END.out.2.1⟩, END.out.2.2⟩
end Go.Proofs.Ytgcpdmnikoebkaa
