/- The exact law of RecordRead from its contract. -/
import Derived.Test.YtmpgbonolmmcpaaU17
import Derived.Test.YtmpgbonolmmcpaaU18
import Derived.Test.YtmpgbonolmmcpaaU4
namespace Go.Proofs.Ytmpgbonolmmcpaa
open Go.RowKit
set_option maxRecDepth 100000
set_option linter.unusedVariables false

def RecordReadOk : Prop := ∀ (v : Value) (xs : List Int) (i : Int) (w : World), Sl .u8 w v xs → (∀ x ∈ xs, 0 ≤ x ∧ x ≤ 255) → xs.length ≤ 1048576 → (Lit.int .i64 i).wf = true → Calls Try.prog 16 #[v, .int .i64 i] w fun e w' => e = .returned (.tuple #[recV (readR xs i).1, .int .i64 (readR xs i).2.1, .bool (readR xs i).2.2]) ∧ Below w.heap.size w w'

set_option maxRecDepth 100000 in
theorem eqRecord_same (r : PRec) (w : World) : Calls Try.prog 35 #[recV r, recV r] w fun e w' => e = .returned (.bool true) ∧ Below w.heap.size w w' := by
  obtain ⟨a, b, c⟩ := r
  show Calls Try.prog 35 #[.agg #[.int .i64 a, .string b, .string c], .agg #[.int .i64 a, .string b, .string c]] w _
  have e1 : (a != a) = false := by simp
  have h1 := ((Hl.refl w).new #[.int .i64 a, .string b, .string c] 25).new #[.int .i64 a, .string b, .string c] 25
  have H1 := (show Hid _ from h1)
  clear h1
  go_enter Try.func35, Try.ntmps35
  go_wp2
  go_ret
  exact ⟨rfl, H1.out.1⟩

set_option maxHeartbeats 1000000 in
set_option maxRecDepth 100000 in
theorem fnExactRecordRead_of (H : RecordReadOk) {v : Value} {xs : List Int} {i : Int} (w : World) (h : Sl .u8 w v xs) (hwf : ∀ n ∈ xs, (Lit.int .u8 n).wf = true) (hi : (Lit.int .i64 i).wf = true) :
    Calls Try.prog 7 #[v, .int .i64 i] w fun e w' => e = .returned (.bool true) ∧ Below w.heap.size w w' := by
  have h0 := h
  obtain ⟨a, ca, rfl, _, _, _, ha⟩ := h
  clear ha
  by_cases hbig : 1048576 < xs.length
  · go_enter Try.func7, Try.ntmps7
    go_wp2
    go_ret
    exact ⟨rfl, Below.refl _ _⟩
  have hn : xs.length ≤ 1048576 := by omega
  have HS := (show Hid (∀ (v : Value) (w : World), Sl .u8 w v xs → Calls Try.prog 33 #[v, .int .i64 i] w fun e w' => e = .returned (.tuple #[recV (readR xs i).1, .int .i64 (readR xs i).2.1, .bool (readR xs i).2.2]) ∧ Below w.heap.size w w') from fun v w h => srecRead_any h (byte_ok hwf) (by omega))
  have HI := (show Hid (∀ (v : Value) (w : World), Sl .u8 w v xs → Calls Try.prog 16 #[v, .int .i64 i] w fun e w' => e = .returned (.tuple #[recV (readR xs i).1, .int .i64 (readR xs i).2.1, .bool (readR xs i).2.2]) ∧ Below w.heap.size w w') from fun v w h => H v xs i w h (byte_ok hwf) hn hi)
  obtain ⟨⟨q, j, ok⟩, hq⟩ : ∃ q, q = readR xs i := ⟨_, rfl⟩
  rw [← hq] at HS HI
  simp only at HS HI
  have CE := (show Hid _ from eqRecord_same q)
  obtain ⟨q0, q1, q2⟩ := q
  unfold recV at HS HI CE
  simp only at HS HI CE
  have e1 : (ok != ok) = false := by cases ok <;> rfl
  have e2 : (j != j) = false := by simp
  have H0 := (show Hid (Sl .u8 w (.slice a xs.length ca) xs) from h0)
  clear hq H hi hwf h0
  go_enter Try.func7, Try.ntmps7
  go_wp2_with fail
  go_at_call 34
  refine (toB_any H0.out (by omega)).mono ?_
  rintro e w1 ⟨x1, rfl, ox1, b1⟩
  have O1 := (show Hid _ from ox1)
  have B1 := (show Hid (Below w.heap.size w w1) from b1)
  clear ox1 b1
  go_wp2_with fail
  go_at_call 33
  refine Calls.mono (HS.out _ _ (Own.sl O1.out)) ?_
  rintro e w2 ⟨rfl, b2⟩
  have h2 := (show Hid _ from (((Hl.refl w).below B1.out).below b2).new #[.int .i64 q0, .string q1, .string q2] 25)
  obtain ⟨w3, hw3⟩ : ∃ y, y = w2.alloc (.cells #[.int .i64 q0, .string q1, .string q2] 25) := ⟨_, rfl⟩
  rw [← hw3] at h2
  clear b2 HS O1 B1
  go_wp2_with fail
  go_at_call 34
  rw [← hw3]
  refine (toB_any (H0.out.below h2.out.1) (by omega)).mono ?_
  rintro e w4 ⟨x4, rfl, o4, b4⟩
  have h4 := (show Hid _ from h2.out.below b4)
  have O4 := (show Hid (Own w3.heap.size 5 .u8 w4 x4 xs) from o4)
  clear hw3 h2 b4 o4
  go_wp2_with fail
  go_at_call 16
  refine Calls.mono (HI.out _ _ (Own.sl O4.out)) ?_
  rintro e w5 ⟨rfl, b5⟩
  have O5 := (show Hid (Own w3.heap.size 5 .u8 w5 x4 xs) from O4.out.below b5)
  have h5 := (show Hid _ from (h4.out.below b5).new #[.int .i64 q0, .string q1, .string q2] 25)
  have O6 := (show Hid (Own w3.heap.size 5 .u8 (w5.alloc (.cells #[.int .i64 q0, .string q1, .string q2] 25)) x4 xs) from O5.out.below ((Below.refl _ _).alloc (Nat.le_refl _) _))
  obtain ⟨w6, hw6⟩ : ∃ y, y = w5.alloc (.cells #[.int .i64 q0, .string q1, .string q2] 25) := ⟨_, rfl⟩
  rw [← hw6] at h5 O6
  obtain ⟨m1, m2, m3, _⟩ := rk_three (h4.out.below b5).at0
  have ml := lt_of_block (h4.out.below b5).at0
  clear h4 b5 O4 O5 HI
  obtain ⟨c1, c2, c3, _⟩ := rk_three h5.out.at0
  obtain ⟨d1, d2, d3, _⟩ := rk_three h5.out.at1
  go_wp2_with fail
  go_at_call 35
  rw [← hw6]
  refine Calls.mono (CE.out w6) ?_
  rintro e w7 ⟨rfl, b7⟩
  have h7 := (show Hid _ from h5.out.below b7)
  have O7 := (show Hid (Own w3.heap.size 5 .u8 w7 x4 xs) from O6.out.below b7)
  clear hw6 h5 b7 c1 c2 c3 d1 d2 d3 m1 m2 m3 ml CE O6
  go_wp2_with fail
  go_at_call 34
  refine (toB_any (H0.out.below h7.out.1) (by omega)).mono ?_
  rintro e w8 ⟨x8, rfl, o8, b8⟩
  have h8 := (show Hid _ from h7.out.below b8)
  have O8 := (show Hid (Own w3.heap.size 5 .u8 w8 x4 xs) from O7.out.below b8)
  clear h7 b8 O7
  go_wp2_with fail
  go_at_call 30
  refine (eqB_any O8.out.sl o8.sl (by omega) (by omega)).mono ?_
  rintro e w9 ⟨rfl, b9⟩
  have h9 := (show Hid _ from h8.out.below b9)
  clear h8 b9
  go_wp2
  go_ret
  exact ⟨rfl, h9.out.1⟩
end Go.Proofs.Ytmpgbonolmmcpaa
