/- The laws' helpers on heads. No condition. -/
import Derived.Test.YtiejfnnokfedkaaSHead3
namespace Go.Proofs.Ytiejfnnokfedkaa
open Go.RowKit
set_option maxRecDepth 100000
set_option linter.unusedVariables false

set_option maxRecDepth 100000 in
theorem toHead_any (h : PHead) (w : World) : Calls Try.prog 8 #[headV h] w fun e w' => e = .returned (headV h) ∧ Below w.heap.size w w' := by
  obtain ⟨no, ar, en⟩ := h
  show Calls Try.prog 8 #[.agg #[.int .i64 no, .int .i64 ar, .int .i64 en]] w _
  have h1 := (((Hl.refl w).new #[.int .i64 no, .int .i64 ar, .int .i64 en] 23).new #[.int .i64 no, .int .i64 ar, .int .i64 en] 26).new #[.int .i64 no, .int .i64 ar, .int .i64 en] 26
  rw [World.size_alloc, World.size_alloc] at h1
  have H1 := (show Hid _ from h1)
  clear h1
  go_enter Try.func8, Try.ntmps8
  go_wp2
  refine bodyPost_ret (results_cell_row rfl _ _ (w.heap.size + 1) 26 #[.int .i64 no, .int .i64 ar, .int .i64 en] (0, 0) _ rfl H1.out.at1 Try.underlying26 rfl rfl) rfl ?_
  exact ⟨rfl, H1.out.1⟩
/-- What the program must keep. -/
def HeadPackOk : Prop := ∀ (h : PHead) (w : World), (Lit.int .i64 h.no).wf = true → (Lit.int .i64 h.area).wf = true → (Lit.int .i64 h.en).wf = true → Calls Try.prog 9 #[headV h] w fun e w' => e = .returned (.tuple #[.string (packDk h).1, .bool (packDk h).2]) ∧ Below w.heap.size w w'
set_option maxRecDepth 100000 in
theorem fnExactHeadPack_of (H : HeadPackOk) (h : PHead) (w : World) (x1 : (Lit.int .i64 h.no).wf = true) (x2 : (Lit.int .i64 h.area).wf = true) (x3 : (Lit.int .i64 h.en).wf = true) :
    Calls Try.prog 3 #[headV h] w fun e w' => e = .returned (.bool true) ∧ Below w.heap.size w w' := by
  have CI := (show Hid (∀ W, Calls Try.prog 9 #[headV h] W fun e w' => e = .returned (.tuple #[.string (packDk h).1, .bool (packDk h).2]) ∧ Below W.heap.size W w') from fun W => H h W x1 x2 x3)
  have CS := (show Hid (∀ W, Calls Try.prog 7 #[headV h] W fun e w' => e = .returned (.tuple #[.string (packDk h).1, .bool (packDk h).2]) ∧ Below W.heap.size W w') from fun W => sheadPack_any h W)
  have CT := (show Hid _ from toHead_any h)
  obtain ⟨⟨ps, pb⟩, hp⟩ : ∃ p, p = packDk h := ⟨_, rfl⟩
  rw [← hp] at CI CS
  simp only at CI CS
  have e1 : (pb != pb) = false := by cases pb <;> rfl
  obtain ⟨a, b, c⟩ := h
  have h1 := (show Hid _ from (Hl.refl w).new #[.int .i64 a, .int .i64 b, .int .i64 c] 23)
  obtain ⟨w1, hw1⟩ : ∃ y, y = w.alloc (.cells #[.int .i64 a, .int .i64 b, .int .i64 c] 23) := ⟨_, rfl⟩
  rw [← hw1] at h1
  clear hp H x1 x2 x3
  show Calls Try.prog 3 #[.agg #[.int .i64 a, .int .i64 b, .int .i64 c]] w _
  unfold headV at CI CS CT
  simp only at CI CS CT
  go_enter Try.func3, Try.ntmps3
  go_wp2_with fail
  go_at_call 8
  rw [← hw1]
  refine Calls.mono (CT.out w1) ?_
  rintro e w2 ⟨rfl, b2⟩
  have h2 := (show Hid _ from h1.out.below b2)
  clear hw1 h1 b2
  go_wp2_with fail
  go_at_call 7
  refine Calls.mono (CS.out w2) ?_
  rintro e w3 ⟨rfl, b3⟩
  have h3 := (show Hid _ from h2.out.below b3)
  clear h2 b3 CS
  obtain ⟨c1, c2, c3, _⟩ := rk_three h3.out.at0
  go_wp2_with fail
  go_at_call 8
  refine Calls.mono (CT.out w3) ?_
  rintro e w4 ⟨rfl, b4⟩
  have h4 := (show Hid _ from h3.out.below b4)
  clear h3 b4 c1 c2 c3
  go_wp2_with fail
  go_at_call 9
  refine Calls.mono (CI.out w4) ?_
  rintro e w5 ⟨rfl, b5⟩
  have h5 := (show Hid _ from h4.out.below b5)
  clear h4 b5 CI CT
  go_wp2
  go_ret
  exact ⟨rfl, h5.out.1⟩

end Go.Proofs.Ytiejfnnokfedkaa
