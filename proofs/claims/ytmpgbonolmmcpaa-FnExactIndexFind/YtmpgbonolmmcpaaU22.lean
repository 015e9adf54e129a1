/- The exact law of RecordRead: the program keeps its contract. -/
import Derived.Test.YtmpgbonolmmcpaaU19
import Derived.Test.YtmpgbonolmmcpaaU21
import Derived.Test.YtmpgbonolmmcpaaU18
import Derived.Test.YtmpgbonolmmcpaaU9
namespace Go.Proofs.Ytmpgbonolmmcpaa
open Go.RowKit
set_option maxRecDepth 100000
set_option linter.unusedVariables false

theorem fnExactRecordRead_walk {v : Value} {xs : List Int} {i : Int} (w : World) (h : Sl .u8 w v xs) (hwf : ∀ n ∈ xs, (Lit.int .u8 n).wf = true) (hi : (Lit.int .i64 i).wf = true) :
    Calls Try.prog 7 #[v, .int .i64 i] w fun e w' => e = .returned (.bool true) ∧ Below w.heap.size w w' :=
  fnExactRecordRead_of (fun v xs i w h1 h2 h3 _ => irecRead_any h1 h2 (by omega)) w h hwf hi
end Go.Proofs.Ytmpgbonolmmcpaa

/- The specification's Records. No condition. -/
namespace Go.Proofs.Ytmpgbonolmmcpaa
open Go.RowKit
set_option maxRecDepth 100000
set_option linter.unusedVariables false

theorem sv_oneRec {w : World} {g : Nat} {r : PRec} {t : TypeId} (h : w.heap[g]? = some (.cells #[.int .i64 r.kind, .string r.url, .string r.body] t (0, 0))) : Sv 3 w (.slice (some ⟨g, 0, none⟩) 1 1) (recCells [r]) := by
  obtain ⟨c0, c1, c2, _⟩ := rk_three h
  refine ⟨some ⟨g, 0, none⟩, 1, 1, rfl, rfl, Nat.le_refl _, by unfold maxLen; omega, (fun e => by cases e), fun i hi => ⟨g, 0, rfl, ?_⟩⟩
  have hi' : i < 3 := hi
  match i, hi' with
  | 0, _ => simpa [recCells] using c0
  | 1, _ => simpa [recCells] using c1
  | 2, _ => simpa [recCells] using c2
theorem recsF_on {xs : List Int} {f i : Nat} (hi : i < xs.length) (h : (readR xs i).2.2 = true) : recsF xs (f + 1) i = (recsF xs f (readR xs i).2.1.toNat).map ((readR xs i).1 :: ·) := by
  rw [recsF, if_pos hi, if_pos h]
theorem recsF_bad {xs : List Int} {f i : Nat} (hi : i < xs.length) (h : (readR xs i).2.2 = false) : recsF xs (f + 1) i = none := by
  rw [recsF, if_pos hi, if_neg (by rw [h]; decide)]
theorem recsF_end {xs : List Int} {f i : Nat} (hi : ¬ i < xs.length) : recsF xs (f + 1) i = some [] := by
  rw [recsF, if_neg hi]

set_option maxHeartbeats 400000 in
set_option maxRecDepth 100000 in
theorem srecords_any {v : Value} {xs : List Int} {w : World} (h : Sl .u8 w v xs) (hb : ∀ x ∈ xs, 0 ≤ x ∧ x ≤ 255) (hn : xs.length ≤ 1048576) :
    Calls Try.prog 19 #[v] w fun e w' => ∃ v', e = .returned (.tuple #[v', .bool (recsR xs).2]) ∧ OwnRs w.heap.size w' v' (recsR xs).1 ∧ Below w.heap.size w w' := by
  have CR := (show Hid (∀ (W : World) (i : Int), Below w.heap.size w W → Calls Try.prog 33 #[v, .int .i64 i] W fun e w' => e = .returned (.tuple #[recV (readR xs i).1, .int .i64 (readR xs i).2.1, .bool (readR xs i).2.2]) ∧ Below W.heap.size W w') from fun W i b => srecRead_any (h.below b) hb (by omega))
  have HB := (show Hid _ from hb)
  obtain ⟨a, ca, rfl, _, _, _, _⟩ := h
  obtain ⟨i0, hi, hz0, hz1, hz2⟩ := info_parts Try.infoRec
  clear hb
  go_enter Try.func19, Try.ntmps19
  go_wp2_with fail
  have b1 : Below w.heap.size w (w.alloc (.cells #[] 25)) := (Below.refl _ _).alloc (Nat.le_refl _) _
  have o1 : OwnRs w.heap.size (w.alloc (.cells #[] 25)) (.slice (some ⟨w.heap.size, 0, none⟩) 0 0) [] := World.ownsRow_lit w #[] 0 (Nat.le_refl _) (Nat.zero_le _) rfl
  go_loopw [4, 5] (fun z s wr => ∃ (i f : Nat) (pre : List PRec), i ≤ xs.length ∧ s = .int .i64 (i : Int) ∧ OwnRs w.heap.size wr z pre ∧ Hid ((recsF xs f i).map (pre ++ ·) = recsF xs (xs.length + 1) 0) ∧ xs.length < f + i ∧ pre.length ≤ i ∧ Below w.heap.size w wr) (fun _ s _ => xs.length - (intOf s).toNat)
  case atStart => exact ⟨0, xs.length + 1, [], Nat.zero_le _, rfl, o1, (show _ = _ by cases recsF xs (xs.length + 1) 0 <;> rfl), by omega, by simp, b1⟩
  case round =>
    clear b1 o1
    obtain ⟨i, f, pre, hi1, rfl, o2, hF, hf, hp, b2⟩ := hrel
    obtain ⟨fa, fn, fc, ez⟩ : ∃ a n c, u4 = .slice a n c := by
      rcases o2.2 with ⟨e, _⟩ | ⟨g, cap, cur, e, _⟩ <;> exact ⟨_, _, _, e⟩
    subst ez
    have O2 := (show Hid (OwnRs w.heap.size wr (.slice fa fn fc) pre) from o2)
    have B2 := (show Hid (Below w.heap.size w wr) from b2)
    clear o2 b2
    by_cases hlt : i < xs.length
    · have hlt' : (i : Int) < (xs.length : Int) := by omega
      have CC := (show Hid _ from CR.out wr (i : Int) B2.out)
      have HX := (show Hid (∀ r j, readR xs (i : Int) = (r, j, true) → 0 ≤ (i : Int) ∧ (i : Int) < j ∧ j ≤ xs.length ∧ recB r = true ∧ r.url.size ≤ xs.length ∧ r.body.size ≤ xs.length) from fun r j e => readR_next e HB.out)
      obtain ⟨f', rfl⟩ : ∃ f', f = f' + 1 := ⟨f - 1, by omega⟩
      have HG := (show Hid ((readR xs (i : Int)).2.2 = true → recsF xs (f' + 1) i = (recsF xs f' (readR xs (i : Int)).2.1.toNat).map ((readR xs (i : Int)).1 :: ·)) from fun e => recsF_on hlt e)
      have HN := (show Hid ((readR xs (i : Int)).2.2 = false → recsF xs (f' + 1) i = none) from fun e => recsF_bad hlt e)
      obtain ⟨⟨⟨r0, r1, r2⟩, j, ok⟩, hr⟩ : ∃ q, q = readR xs (i : Int) := ⟨_, rfl⟩
      rw [← hr] at CC HX HG HN
      unfold recV at CC
      simp only at CC HG HN
      clear hr
      go_wp2_with fail
      go_at_call 33
      refine Calls.mono CC.out ?_
      rintro e w3 ⟨rfl, b3⟩
      have B3 := (show Hid (Below w.heap.size w w3) from B2.out.trans (b3.mono B2.out.size))
      have O3 := (show Hid (OwnRs w.heap.size w3 (.slice fa fn fc) pre) from ownsRow_below O2.out b3)
      clear b3 CC O2 B2
      cases ok
      · have HZ : Hid (recsR xs = ([], false)) := (show recsR xs = ([], false) by
          have := hF.out
          rw [HN.out rfl] at this
          rw [recsR, ← this]; rfl)
        clear HN HG HX hF
        go_wp2
        go_ret2
        have o4 : OwnRs w.heap.size ((w3.alloc (.cells #[.int .i64 r0, .string r1, .string r2] 25)).alloc (.cells #[] 25)) (.slice (some ⟨w3.heap.size + 1, 0, none⟩) 0 0) [] := by
          have := World.ownsRow_lit (base := w.heap.size) (e := 25) (size := 3) (w3.alloc (.cells #[.int .i64 r0, .string r1, .string r2] 25)) #[] 0 (by rw [World.size_alloc]; have := B3.out.size; omega) (Nat.zero_le _) rfl
          rw [World.size_alloc] at this
          exact this
        exact ⟨_, by rw [HZ.out]; rfl, by rw [HZ.out]; exact o4, (B3.out.alloc B3.out.size _).alloc (B3.out.alloc B3.out.size _).size _⟩
      · obtain ⟨j0, j1, j2, j3, j4, j5⟩ := HX.out _ _ rfl
        obtain ⟨jn, rfl⟩ := Int.eq_ofNat_of_zero_le (show 0 ≤ j by omega)
        obtain ⟨w4, hw4⟩ : ∃ y, y = (w3.alloc (.cells #[.int .i64 r0, .string r1, .string r2] 25)).alloc (.cells #[.int .i64 r0, .string r1, .string r2] 25) := ⟨_, rfl⟩
        have b34 : Below w3.heap.size w3 w4 := by rw [hw4]; exact ((Below.refl _ _).alloc (Nat.le_refl _) _).alloc (by rw [World.size_alloc]; exact Nat.le_succ _) _
        have x4 : w4.heap[w3.heap.size + 1]? = some (.cells #[.int .i64 r0, .string r1, .string r2] 25 (0, 0)) := by
          rw [hw4]
          have := World.alloc_heap_new (w3.alloc (.cells #[.int .i64 r0, .string r1, .string r2] 25)) (.cells #[.int .i64 r0, .string r1, .string r2] 25)
          rwa [World.size_alloc] at this
        have SV := (show Hid (Sv 3 w4 (.slice (some ⟨w3.heap.size + 1, 0, none⟩) 1 1) (recCells [⟨r0, r1, r2⟩])) from sv_oneRec (r := ⟨r0, r1, r2⟩) x4)
        have B4 := (show Hid (Below w.heap.size w w4) from B3.out.trans (b34.mono B3.out.size))
        have O4 := (show Hid (OwnRs w.heap.size w4 (.slice fa fn fc) pre) from ownsRow_below O3.out b34)
        have HH : Hid ((recsF xs f' jn).map ((pre ++ [⟨r0, r1, r2⟩]) ++ ·) = recsF xs (xs.length + 1) 0) := (show _ = _ by
          rw [← hF.out, HG.out rfl, Int.toNat_natCast]
          cases recsF xs f' jn <;> simp)
        clear b34 x4 HG HN HX hF
        go_wp2_with (at_builtin
                     rw [← hw4]
                     refine wpList_appV _ rfl (.tmp 24) (.tmp 26) 32 rfl w.heap.size 25 i0 _ 3 40 Try.underlying32 hi hz0 hz1 hz2 rfl (by decide) (.slice fa fn fc) (.slice (some ⟨w3.heap.size + 1, 0, none⟩) 1 1) pre.length 1 (recCells pre) (recCells [⟨r0, r1, r2⟩]) rfl rfl O4.out SV.out rfl (rec_oneCell _) (by omega) (by unfold maxLen; omega) B4.out.size ?_
                     intro v5 w5 o5 g5
                     clear hw4
                     have O5 := (show Hid (OwnRs w.heap.size w5 v5 (pre ++ [⟨r0, r1, r2⟩])) from by show World.ownsRow _ _ _ _ _ _ _; rw [List.length_append, recCells_app]; exact o5)
                     have B5 := (show Hid (Below w.heap.size w w5) from B4.out.grown g5 B4.out.size (fun r e => (World.ownsRow.lt O4.out r e).1))
                     clear o5 g5)
        go_roundw
        case rel => exact ⟨jn, f', pre ++ [⟨r0, r1, r2⟩], by omega, rfl, O5.out, HH, by omega, by rw [List.length_append, List.length_singleton]; omega, B5.out⟩
        case measure => simp [intOf]; omega
    · have hn' : ¬ ((i : Int) < (xs.length : Int)) := by omega
      have HZ : Hid (recsR xs = (pre, true)) := (show recsR xs = (pre, true) by
        have := hF.out
        obtain ⟨f', rfl⟩ : ∃ f', f = f' + 1 := ⟨f - 1, by omega⟩
        rw [recsF_end hlt] at this
        rw [recsR, ← this]; simp)
      clear hF
      go_wp2
      go_ret2
      exact ⟨_, by rw [HZ.out]; rfl, by rw [HZ.out]; exact O2.out, B2.out⟩
end Go.Proofs.Ytmpgbonolmmcpaa

/- Contracts of the specification's functions of chapter 2 on one number. No condition. -/
namespace Go.Proofs.Ytmpgbonolmmcpaa
open Go.RowKit
set_option maxRecDepth 100000
set_option linter.unusedVariables false

end Go.Proofs.Ytmpgbonolmmcpaa
