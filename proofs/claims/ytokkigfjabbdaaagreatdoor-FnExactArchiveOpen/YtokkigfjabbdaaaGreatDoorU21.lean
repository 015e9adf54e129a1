/- Records, plainly: what is read is what its own form stands for, byte by byte. No condition. -/
import Derived.Test.YtokkigfjabbdaaaGreatDoorU20
import Derived.Test.YtokkigfjabbdaaaGreatDoorU9
namespace Go.Proofs.YtokkigfjabbdaaaGreatDoor
open Go.RowKit
set_option maxRecDepth 100000
set_option linter.unusedVariables false

theorem rdA_back : ∀ (m k : Nat) (acc : Int) (ds : List Int) (y : Int) (n : Nat), (∀ d ∈ ds, 0 ≤ d ∧ d ≤ 255) → rdA (m + 1) k acc ds = some (y, n) →
    ∃ (x : Int) (rest : List Int), ds = nf m x ++ rest ∧ 0 ≤ x ∧ ¬ (x = 0 ∧ 0 < k) ∧ y = acc + x * 128 ^ k ∧ n = k + (nf m x).length := by
  intro m
  induction m with
  | zero =>
    intro k acc ds y n hb h
    cases ds with
    | nil => simp [rdA_nil] at h
    | cons d ds =>
      by_cases hd : d < 128
      · by_cases h0 : d = 0 ∧ 0 < k
        · rw [rdA_bad hd h0] at h; cases h
        · rw [rdA_end hd h0] at h
          simp only [Option.some.injEq, Prod.mk.injEq] at h
          exact ⟨d, ds, rfl, (hb d (List.mem_cons_self ..)).1, h0, h.1.symm, h.2.symm⟩
      · rw [rdA_on hd, rdA_zero] at h; cases h
  | succ m ih =>
    intro k acc ds y n hb h
    cases ds with
    | nil => simp [rdA_nil] at h
    | cons d ds =>
      have hd0 := hb d (List.mem_cons_self ..)
      by_cases hd : d < 128
      · by_cases h0 : d = 0 ∧ 0 < k
        · rw [rdA_bad hd h0] at h; cases h
        · rw [rdA_end hd h0] at h
          simp only [Option.some.injEq, Prod.mk.injEq] at h
          exact ⟨d, ds, by rw [nf_lt hd]; rfl, hd0.1, h0, h.1.symm, by rw [nf_lt hd]; exact h.2.symm⟩
      · rw [rdA_on hd] at h
        obtain ⟨x, rest, h1, h2, h3, h4, h5⟩ := ih _ _ _ _ _ (fun q hq => hb q (List.mem_cons_of_mem _ hq)) h
        have hx : 1 ≤ x := by omega
        have e1 : (d % 128 + 128 * x) % 128 = d % 128 := by omega
        have e2 : (d % 128 + 128 * x) / 128 = x := by omega
        have hg : nf (m + 1) (d % 128 + 128 * x) = d :: nf m x := by
          rw [nf_ge (by omega), e1, e2]
          congr 1
          omega
        refine ⟨d % 128 + 128 * x, rest, by rw [hg, h1]; rfl, by omega, by omega, ?_, ?_⟩
        · have e3 := parts128 (d % 128 + 128 * x) (128 ^ k)
          rw [e1, e2] at e3
          rw [h4, Int.pow_succ, Int.add_assoc, e3]
        · rw [h5, hg, List.length_cons]; omega

theorem rdI_back {xs : List Int} {i y : Int} {n : Nat} (hb : ∀ x ∈ xs, 0 ≤ x ∧ x ≤ 255) (h : rdI xs i = some (y, n)) : xs.drop i.toNat = form y ++ xs.drop (i.toNat + n) ∧ n = (form y).length := by
  have hi := rdI_some h hb
  unfold rdI at h
  rw [if_neg (by omega)] at h
  obtain ⟨x, rest, h1, h2, h3, h4, h5⟩ := rdA_back 8 0 0 _ _ _ (fun d hd => hb d (List.mem_of_mem_drop hd)) h
  have hy : y = x := by rw [h4]; simp
  subst hy
  have hf : form y = nf 8 y := by unfold form; rw [if_neg (by omega)]
  rw [← hf] at h1 h5
  have hn : n = (form y).length := by omega
  refine ⟨?_, hn⟩
  rw [← List.drop_drop, h1, hn, List.drop_left]
theorem rdT_back {xs t : List Int} {i j : Int} (hb : ∀ x ∈ xs, 0 ≤ x ∧ x ≤ 255) (h : rdT xs i = some (t, j)) : xs.drop i.toNat = textForm (strOf t) ++ xs.drop j.toNat := by
  unfold rdT at h
  split at h
  · rename_i y n e
    obtain ⟨h1, h2, h3, h4, h5, h6, h7⟩ := rdI_some e hb
    obtain ⟨g1, g2⟩ := rdI_back hb e
    split at h
    · rename_i hy
      simp only [Option.some.injEq, Prod.mk.injEq] at h
      obtain ⟨rfl, rfl⟩ := h
      have hl : ((xs.drop (i + n).toNat).take y.toNat).length = y.toNat := by rw [List.length_take, List.length_drop]; omega
      have hbt : ∀ x ∈ (xs.drop (i + n).toNat).take y.toNat, 0 ≤ x ∧ x ≤ 255 := fun x hx => hb x (List.mem_of_mem_drop (List.mem_of_mem_take hx))
      have e1 : textForm (strOf ((xs.drop (i + n).toNat).take y.toNat)) = form y ++ (xs.drop (i + n).toNat).take y.toNat := by
        unfold textForm
        rw [strOf_size, hl, bs_strOf hbt, Int.toNat_of_nonneg h6]
      have e2 : (i + (n : Int)).toNat = i.toNat + n := by omega
      have e3 : (i + (n : Int) + y).toNat = i.toNat + n + y.toNat := by omega
      rw [e1, g1, e2, e3, List.append_assoc, ← List.drop_drop (i := y.toNat), List.take_append_drop]
    · cases h
  · cases h
/-- What is read as a record is what the record packs to. -/
theorem readR_back {xs : List Int} {i j : Int} {r : PRec} (hb : ∀ x ∈ xs, 0 ≤ x ∧ x ≤ 255) (h : readR xs i = (r, j, true)) : xs.drop i.toNat = recL r ++ xs.drop j.toNat := by
  unfold readR at h
  split at h
  · simp at h
  · rename_i k n e
    obtain ⟨h1, h2, h3, h4, h5, h6, h7⟩ := rdI_some e hb
    obtain ⟨g1, g2⟩ := rdI_back hb e
    have en : (i + (n : Int)).toNat = i.toNat + n := by omega
    split at h
    · simp at h
    · rename_i u l e2
      have b2 := rdT_back hb e2
      rw [en] at b2
      split at h
      · rename_i hk
        subst hk
        split at h
        · simp at h
        · rename_i t m e3
          have b3 := rdT_back hb e3
          split at h
          · rename_i hr
            simp only [Prod.mk.injEq, and_true] at h
            obtain ⟨rfl, rfl⟩ := h
            rw [g1, b2, b3]
            simp [recL]
          · simp at h
      · rename_i hk
        split at h
        · rename_i hr
          simp only [Prod.mk.injEq, and_true] at h
          obtain ⟨rfl, rfl⟩ := h
          rw [g1, b2]
          simp [recL, hk]
        · simp at h
theorem recsF_back {xs : List Int} (hb : ∀ x ∈ xs, 0 ≤ x ∧ x ≤ 255) : ∀ (f i : Nat) (l : List PRec), recsF xs f i = some l → xs.drop i = l.flatMap recL ∧ ∀ r ∈ l, recB r = true := by
  intro f
  induction f with
  | zero => intro i l h; cases h
  | succ f ih =>
    intro i l h
    unfold recsF at h
    split at h
    · rename_i hi
      split at h
      · rename_i hok
        have he : readR xs i = ((readR xs i).1, (readR xs i).2.1, true) := by rw [← hok]
        have hn := readR_next he hb
        have hk := readR_back hb he
        cases hq : recsF xs f (readR xs i).2.1.toNat with
        | none => rw [hq] at h; cases h
        | some l' =>
          rw [hq] at h
          simp only [Option.map_some, Option.some.injEq] at h
          obtain ⟨a1, a2⟩ := ih _ _ hq
          rw [← h]
          refine ⟨?_, fun r hr => ?_⟩
          · rw [List.flatMap_cons, ← a1, ← hk, Int.toNat_natCast]
          · rcases List.mem_cons.mp hr with rfl | hr
            · exact hn.2.2.2.1
            · exact a2 r hr
      · cases h
    · simp only [Option.some.injEq] at h
      rw [← h, List.drop_eq_nil_of_le (by omega)]
      exact ⟨rfl, fun r hr => by cases hr⟩
/-- Records that are read pack to the bytes that they were read from, and each is right. -/
theorem recsR_back {xs : List Int} (hb : ∀ x ∈ xs, 0 ≤ x ∧ x ≤ 255) (h : (recsR xs).2 = true) : xs = (recsR xs).1.flatMap recL ∧ ∀ r ∈ (recsR xs).1, recB r = true := by
  unfold recsR at h ⊢
  cases hq : recsF xs (xs.length + 1) 0 with
  | none => rw [hq] at h; cases h
  | some l =>
    have := recsF_back hb _ _ _ hq
    rw [List.drop_zero] at this
    exact this
end Go.Proofs.YtokkigfjabbdaaaGreatDoor

/- The specification's Records. No condition. -/
namespace Go.Proofs.YtokkigfjabbdaaaGreatDoor
open Go.RowKit
set_option maxRecDepth 100000
set_option linter.unusedVariables false

theorem sv_oneRec {w : World} {g : Nat} {r : PRec} {t : TypeId} (h : w.heap[g]? = some (.cells #[.int .i64 r.kind, .string r.url, .string r.body] t (0, 0))) : Sv 3 w (.slice (some ⟨g, 0, none⟩) 1 1) (recCells [r]) := by
  obtain ⟨c0, c1, c2, _⟩ := rk_three h
  refine ⟨some ⟨g, 0, none⟩, 1, 1, rfl, rfl, Nat.le_refl _, by unfold maxLen; omega, (fun e => by cases e), fun i hi => ⟨g, 0, rfl, ?_⟩⟩
  have hi' : i < 3 := hi
  match i, hi' with
  | 0, _ => simpa [recCells] using c0
  | 1, _ => simpa [recCells] using c1
  | 2, _ => simpa [recCells] using c2
theorem recsF_on {xs : List Int} {f i : Nat} (hi : i < xs.length) (h : (readR xs i).2.2 = true) : recsF xs (f + 1) i = (recsF xs f (readR xs i).2.1.toNat).map ((readR xs i).1 :: ·) := by
  rw [recsF, if_pos hi, if_pos h]
theorem recsF_bad {xs : List Int} {f i : Nat} (hi : i < xs.length) (h : (readR xs i).2.2 = false) : recsF xs (f + 1) i = none := by
  rw [recsF, if_pos hi, if_neg (by rw [h]; decide)]
theorem recsF_end {xs : List Int} {f i : Nat} (hi : ¬ i < xs.length) : recsF xs (f + 1) i = some [] := by
  rw [recsF, if_neg hi]

set_option maxHeartbeats 400000 in
set_option maxRecDepth 100000 in
theorem srecords_any {v : Value} {xs : List Int} {w : World} (h : Sl .u8 w v xs) (hb : ∀ x ∈ xs, 0 ≤ x ∧ x ≤ 255) (hn : xs.length ≤ 1048576) :
    Calls Tryz.prog 28 #[v] w fun e w' => ∃ v', e = .returned (.tuple #[v', .bool (recsR xs).2]) ∧ OwnRs w.heap.size w' v' (recsR xs).1 ∧ Below w.heap.size w w' := by
  have CR := (show Hid (∀ (W : World) (i : Int), Below w.heap.size w W → Calls Tryz.prog 59 #[v, .int .i64 i] W fun e w' => e = .returned (.tuple #[recV (readR xs i).1, .int .i64 (readR xs i).2.1, .bool (readR xs i).2.2]) ∧ Below W.heap.size W w') from fun W i b => srecRead_any (h.below b) hb (by omega))
  have HB := (show Hid _ from hb)
  obtain ⟨a, ca, rfl, _, _, _, _⟩ := h
  obtain ⟨i0, hi, hz0, hz1, hz2⟩ := info_parts Tryz.infoRec
  clear hb
  go_enter Tryz.func28, Tryz.ntmps28
  go_wp2_with fail
  have b1 : Below w.heap.size w (w.alloc (.cells #[] 94)) := (Below.refl _ _).alloc (Nat.le_refl _) _
  have o1 : OwnRs w.heap.size (w.alloc (.cells #[] 94)) (.slice (some ⟨w.heap.size, 0, none⟩) 0 0) [] := World.ownsRow_lit w #[] 0 (Nat.le_refl _) (Nat.zero_le _) rfl
  go_loopw [4, 5] (fun z s wr => ∃ (i f : Nat) (pre : List PRec), i ≤ xs.length ∧ s = .int .i64 (i : Int) ∧ OwnRs w.heap.size wr z pre ∧ Hid ((recsF xs f i).map (pre ++ ·) = recsF xs (xs.length + 1) 0) ∧ xs.length < f + i ∧ pre.length ≤ i ∧ Below w.heap.size w wr) (fun _ s _ => xs.length - (intOf s).toNat)
  case atStart => exact ⟨0, xs.length + 1, [], Nat.zero_le _, rfl, o1, (show _ = _ by cases recsF xs (xs.length + 1) 0 <;> rfl), by omega, by simp, b1⟩
  case round =>
    clear b1 o1
    obtain ⟨i, f, pre, hi1, rfl, o2, hF, hf, hp, b2⟩ := hrel
    obtain ⟨fa, fn, fc, ez⟩ : ∃ a n c, u4 = .slice a n c := by
      rcases o2.2 with ⟨e, _⟩ | ⟨g, cap, cur, e, _⟩ <;> exact ⟨_, _, _, e⟩
    subst ez
    have O2 := (show Hid (OwnRs w.heap.size wr (.slice fa fn fc) pre) from o2)
    have B2 := (show Hid (Below w.heap.size w wr) from b2)
    clear o2 b2
    by_cases hlt : i < xs.length
    · have hlt' : (i : Int) < (xs.length : Int) := by omega
      have CC := (show Hid _ from CR.out wr (i : Int) B2.out)
      have HX := (show Hid (∀ r j, readR xs (i : Int) = (r, j, true) → 0 ≤ (i : Int) ∧ (i : Int) < j ∧ j ≤ xs.length ∧ recB r = true ∧ r.url.size ≤ xs.length ∧ r.body.size ≤ xs.length) from fun r j e => readR_next e HB.out)
      obtain ⟨f', rfl⟩ : ∃ f', f = f' + 1 := ⟨f - 1, by omega⟩
      have HG := (show Hid ((readR xs (i : Int)).2.2 = true → recsF xs (f' + 1) i = (recsF xs f' (readR xs (i : Int)).2.1.toNat).map ((readR xs (i : Int)).1 :: ·)) from fun e => recsF_on hlt e)
      have HN := (show Hid ((readR xs (i : Int)).2.2 = false → recsF xs (f' + 1) i = none) from fun e => recsF_bad hlt e)
      obtain ⟨⟨⟨r0, r1, r2⟩, j, ok⟩, hr⟩ : ∃ q, q = readR xs (i : Int) := ⟨_, rfl⟩
      rw [← hr] at CC HX HG HN
      unfold recV at CC
      simp only at CC HG HN
      clear hr
      go_wp2_with fail
      go_at_call 59
      refine Calls.mono CC.out ?_
      rintro e w3 ⟨rfl, b3⟩
      have B3 := (show Hid (Below w.heap.size w w3) from B2.out.trans (b3.mono B2.out.size))
      have O3 := (show Hid (OwnRs w.heap.size w3 (.slice fa fn fc) pre) from ownsRow_below O2.out b3)
      clear b3 CC O2 B2
      cases ok
      · have HZ : Hid (recsR xs = ([], false)) := (show recsR xs = ([], false) by
          have := hF.out
          rw [HN.out rfl] at this
          rw [recsR, ← this]; rfl)
        clear HN HG HX hF
        go_wp2
        go_ret2
        have o4 : OwnRs w.heap.size ((w3.alloc (.cells #[.int .i64 r0, .string r1, .string r2] 94)).alloc (.cells #[] 94)) (.slice (some ⟨w3.heap.size + 1, 0, none⟩) 0 0) [] := by
          have := World.ownsRow_lit (base := w.heap.size) (e := 94) (size := 3) (w3.alloc (.cells #[.int .i64 r0, .string r1, .string r2] 94)) #[] 0 (by rw [World.size_alloc]; have := B3.out.size; omega) (Nat.zero_le _) rfl
          rw [World.size_alloc] at this
          exact this
        exact ⟨_, by rw [HZ.out]; rfl, by rw [HZ.out]; exact o4, (B3.out.alloc B3.out.size _).alloc (B3.out.alloc B3.out.size _).size _⟩
      · obtain ⟨j0, j1, j2, j3, j4, j5⟩ := HX.out _ _ rfl
        obtain ⟨jn, rfl⟩ := Int.eq_ofNat_of_zero_le (show 0 ≤ j by omega)
        obtain ⟨w4, hw4⟩ : ∃ y, y = (w3.alloc (.cells #[.int .i64 r0, .string r1, .string r2] 94)).alloc (.cells #[.int .i64 r0, .string r1, .string r2] 94) := ⟨_, rfl⟩
        have b34 : Below w3.heap.size w3 w4 := by rw [hw4]; exact ((Below.refl _ _).alloc (Nat.le_refl _) _).alloc (by rw [World.size_alloc]; exact Nat.le_succ _) _
        have x4 : w4.heap[w3.heap.size + 1]? = some (.cells #[.int .i64 r0, .string r1, .string r2] 94 (0, 0)) := by
          rw [hw4]
          have := World.alloc_heap_new (w3.alloc (.cells #[.int .i64 r0, .string r1, .string r2] 94)) (.cells #[.int .i64 r0, .string r1, .string r2] 94)
          rwa [World.size_alloc] at this
        have SV := (show Hid (Sv 3 w4 (.slice (some ⟨w3.heap.size + 1, 0, none⟩) 1 1) (recCells [⟨r0, r1, r2⟩])) from sv_oneRec (r := ⟨r0, r1, r2⟩) x4)
        have B4 := (show Hid (Below w.heap.size w w4) from B3.out.trans (b34.mono B3.out.size))
        have O4 := (show Hid (OwnRs w.heap.size w4 (.slice fa fn fc) pre) from ownsRow_below O3.out b34)
        have HH : Hid ((recsF xs f' jn).map ((pre ++ [⟨r0, r1, r2⟩]) ++ ·) = recsF xs (xs.length + 1) 0) := (show _ = _ by
          rw [← hF.out, HG.out rfl, Int.toNat_natCast]
          cases recsF xs f' jn <;> simp)
        clear b34 x4 HG HN HX hF
        go_wp2_with (at_builtin
                     rw [← hw4]
                     refine wpList_appV _ rfl (.tmp 24) (.tmp 26) 55 rfl w.heap.size 94 i0 _ 3 40 Tryz.underlying55 hi hz0 hz1 hz2 rfl (by decide) (.slice fa fn fc) (.slice (some ⟨w3.heap.size + 1, 0, none⟩) 1 1) pre.length 1 (recCells pre) (recCells [⟨r0, r1, r2⟩]) rfl rfl O4.out SV.out rfl (rec_oneCell _) (by omega) (by unfold maxLen; omega) B4.out.size ?_
                     intro v5 w5 o5 g5
                     clear hw4
                     have O5 := (show Hid (OwnRs w.heap.size w5 v5 (pre ++ [⟨r0, r1, r2⟩])) from by show World.ownsRow _ _ _ _ _ _ _; rw [List.length_append, recCells_app]; exact o5)
                     have B5 := (show Hid (Below w.heap.size w w5) from B4.out.grown g5 B4.out.size (fun r e => (World.ownsRow.lt O4.out r e).1))
                     clear o5 g5)
        go_roundw
        case rel => exact ⟨jn, f', pre ++ [⟨r0, r1, r2⟩], by omega, rfl, O5.out, HH, by omega, by rw [List.length_append, List.length_singleton]; omega, B5.out⟩
        case measure => simp [intOf]; omega
    · have hn' : ¬ ((i : Int) < (xs.length : Int)) := by omega
      have HZ : Hid (recsR xs = (pre, true)) := (show recsR xs = (pre, true) by
        have := hF.out
        obtain ⟨f', rfl⟩ : ∃ f', f = f' + 1 := ⟨f - 1, by omega⟩
        rw [recsF_end hlt] at this
        rw [recsR, ← this]; simp)
      clear hF
      go_wp2
      go_ret2
      exact ⟨_, by rw [HZ.out]; rfl, by rw [HZ.out]; exact O2.out, B2.out⟩
end Go.Proofs.YtokkigfjabbdaaaGreatDoor

/- Contracts of the specification's functions of chapter 2 on one number. No condition. -/
namespace Go.Proofs.YtokkigfjabbdaaaGreatDoor
open Go.RowKit
set_option maxRecDepth 100000
set_option linter.unusedVariables false

end Go.Proofs.YtokkigfjabbdaaaGreatDoor
