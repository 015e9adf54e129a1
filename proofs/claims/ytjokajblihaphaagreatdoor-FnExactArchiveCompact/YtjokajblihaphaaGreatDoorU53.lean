/- The specification's ArchiveDrop and ArchiveCompact (written by mk/sstep4.py). No condition. -/
import Derived.Test.YtjokajblihaphaaGreatDoorU41
import Derived.Test.YtjokajblihaphaaGreatDoorU52
namespace Go.Proofs.YtjokajblihaphaaGreatDoor
open Go.RowKit
set_option maxRecDepth 100000
set_option linter.unusedVariables false

theorem done_compact (a : PArch) : doneA a (compactQ a) ⟨a.head.no + 1, 1 - a.head.area, (packX a.list).1.length⟩ (step4 a.disk (1 - a.head.area) 0 (packX a.list).1 ⟨a.head.no + 1, 1 - a.head.area, (packX a.list).1.length⟩) = compactA a := by
  unfold doneA compactA
  split
  · rfl
  · rename_i hA
    have hA : archB a = true := by simpa using hA
    cases hu : a.up
    · simp [compactQ, compactS, hu]
    · cases hp : (packX a.list).2
      · simp [compactQ, compactS, hu, hp]
      · cases hs : stepsOk a.disk (1 - a.head.area) 0 (packX a.list).1 ⟨a.head.no + 1, 1 - a.head.area, (packX a.list).1.length⟩
        · simp [compactQ, compactS, writeA, hu, hp, hs]
        · obtain ⟨h1, h2, h3, h4⟩ := archB_up hA hu
          have hn : nowDk (step4 a.disk (1 - a.head.area) 0 (packX a.list).1 ⟨a.head.no + 1, 1 - a.head.area, (packX a.list).1.length⟩) = ⟨a.head.no + 1, 1 - a.head.area, (packX a.list).1.length⟩ := steps_now hs (by rw [h2]; show a.head.no < a.head.no + 1; omega)
          simp [compactQ, compactS, writeA, hu, hp, hs, hn]
theorem done_drop (u : ByteArray) (a : PArch) : doneA a (dropQ u a) ⟨a.head.no + 1, a.head.area, a.head.en + (recL (dropR u)).length⟩ (step4 a.disk a.head.area a.head.en (recL (dropR u)) ⟨a.head.no + 1, a.head.area, a.head.en + (recL (dropR u)).length⟩) = dropA u a := by
  unfold doneA dropA
  split
  · rfl
  · rename_i hA
    have hA : archB a = true := by simpa using hA
    cases hu : a.up
    · simp [dropQ, dropS, hu]
    · cases hp : urlB u
      · simp [dropQ, dropS, hu, hp]
      · cases hf : (attrOf a.list u).2
        · simp [dropQ, dropS, hu, hp, hf]
        · cases hs : stepsOk a.disk a.head.area a.head.en (recL (dropR u)) ⟨a.head.no + 1, a.head.area, a.head.en + (recL (dropR u)).length⟩
          · simp [dropQ, dropS, writeA, hu, hp, hf, hs]
          · obtain ⟨h1, h2, h3, h4⟩ := archB_up hA hu
            have hn : nowDk (step4 a.disk a.head.area a.head.en (recL (dropR u)) ⟨a.head.no + 1, a.head.area, a.head.en + (recL (dropR u)).length⟩) = ⟨a.head.no + 1, a.head.area, a.head.en + (recL (dropR u)).length⟩ := steps_now hs (by rw [h2]; show a.head.no < a.head.no + 1; omega)
            simp [dropQ, dropS, writeA, hu, hp, hf, hs, hn]
theorem compact_right {a : PArch} (hq : compactQ a = 0) : diskB (step4 a.disk (1 - a.head.area) 0 (packX a.list).1 ⟨a.head.no + 1, 1 - a.head.area, (packX a.list).1.length⟩) = true ∧ headB ⟨a.head.no + 1, 1 - a.head.area, (packX a.list).1.length⟩ = true := by
  unfold compactQ at hq
  split at hq
  · cases hq
  · split at hq
    · cases hq
    · split at hq
      · cases hq
      · rename_i h
        have h := steps_right (by simpa using h)
        exact ⟨h.2.2.2.1, h.2.2.2.2.2⟩
theorem drop_right {u : ByteArray} {a : PArch} (hq : dropQ u a = 0) : diskB (step4 a.disk a.head.area a.head.en (recL (dropR u)) ⟨a.head.no + 1, a.head.area, a.head.en + (recL (dropR u)).length⟩) = true ∧ headB ⟨a.head.no + 1, a.head.area, a.head.en + (recL (dropR u)).length⟩ = true := by
  unfold dropQ at hq
  split at hq
  · cases hq
  · split at hq
    · cases hq
    · split at hq
      · cases hq
      · split at hq
        · cases hq
        · rename_i h
          have h := steps_right (by simpa using h)
          exact ⟨h.2.2.2.1, h.2.2.2.2.2⟩

set_option maxHeartbeats 2000000 in
set_option maxRecDepth 100000 in
theorem sarCompact_any {w : World} {v : Value} {a : PArch} (h : ArAt w v a) (hf : ArFit a) :
    Calls Tryz.prog 12 #[v] w fun e w' => ∃ v', e = .returned (.tuple #[v', .int .i64 (compactA a).2]) ∧ OwnAy w.heap.size w' v' (compactA a).1 ∧ Below w.heap.size w w' := by
  have HA := (show Hid (ArAt w v a) from h)
  have HF := (show Hid (ArFit a) from hf)
  obtain ⟨⟨ra, rc⟩, hra⟩ : ∃ x, x = compactA a := ⟨_, rfl⟩
  rw [← hra]
  simp only
  obtain ⟨sa, sn, sc, la, ln, lc, ea, en', ec, rfl, h1, h2⟩ := h
  have hl := ((Hl.refl w).new #[.bool a.up, .slice sa sn sc, .slice la ln lc, .int .i64 a.head.no, .int .i64 a.head.area, .int .i64 a.head.en, .slice ea en' ec] 38).new #[.bool false, .slice none 0 0, .slice none 0 0, .int .i64 0, .int .i64 0, .int .i64 0, .slice none 0 0] 38
  obtain ⟨w1, hw1⟩ : ∃ x, x = (w.alloc (.cells #[.bool a.up, .slice sa sn sc, .slice la ln lc, .int .i64 a.head.no, .int .i64 a.head.area, .int .i64 a.head.en, .slice ea en' ec] 38)).alloc (.cells #[.bool false, .slice none 0 0, .slice none 0 0, .int .i64 0, .int .i64 0, .int .i64 0, .slice none 0 0] 38) := ⟨_, rfl⟩
  rw [← hw1, World.size_alloc] at hl
  have HL := (show Hid (Hl w [(w.heap.size + 1, #[.bool false, .slice none 0 0, .slice none 0 0, .int .i64 0, .int .i64 0, .int .i64 0, .slice none 0 0], 38), (w.heap.size, #[.bool a.up, .slice sa sn sc, .slice la ln lc, .int .i64 a.head.no, .int .i64 a.head.area, .int .i64 a.head.en, .slice ea en' ec], 38)] w1) from hl)
  have CW := sl18Done_any (kd := 3) (u2 := .string ⟨#[]⟩) (u3 := .slice none 0 0) (HA.out.below hl.1) hf (fun _ h => compact_right h) (fun hA W b => sl18WorkC_any ((HA.out.below hl.1).below b) hA)
  rw [done_compact, ← hra] at CW
  have CW := (show Hid _ from CW)
  clear hl h1 h2 hf hra
  go_enter Tryz.func12, Tryz.ntmps12
  go_wp2_with fail
  go_at_call 16
  rw [← hw1]
  refine Calls.mono CW.out ?_
  rintro e w5 ⟨v5, rfl, o5, b5⟩
  have S5 := (show Hid (Hl w [(w.heap.size + 1, #[.bool false, .slice none 0 0, .slice none 0 0, .int .i64 0, .int .i64 0, .int .i64 0, .slice none 0 0], 38), (w.heap.size, #[.bool a.up, .slice sa sn sc, .slice la ln lc, .int .i64 a.head.no, .int .i64 a.head.area, .int .i64 a.head.en, .slice ea en' ec], 38)] w5) from HL.out.below b5)
  have O5 := (show Hid (OwnAy w.heap.size w5 v5 ra) from OwnAy.base o5 HL.out.1.size)
  clear b5 o5 HL hw1 CW
  obtain ⟨ya, yn, yc, za, zn, zc, fa, fn, fc, e5, _⟩ := O5.out
  subst e5
  obtain ⟨d0, d1, d2, d3, d4, d5, d6, _⟩ := rk_seven S5.out.at0
  have j0 := rk_thaw (k := 0) S5.out.at0
  have j1 := rk_thaw (k := 1) S5.out.at0
  have j2 := rk_thaw (k := 2) S5.out.at0
  have j3 := rk_thaw (k := 3) S5.out.at0
  have j4 := rk_thaw (k := 4) S5.out.at0
  have j5 := rk_thaw (k := 5) S5.out.at0
  have j6 := rk_thaw (k := 6) S5.out.at0
  have S9 := (show Hid _ from S5.out.set7 (Nat.le_succ _) (by simp) (.bool ra.up) (.slice ya yn yc) (.slice za zn zc) (.int .i64 ra.head.no) (.int .i64 ra.head.area) (.int .i64 ra.head.en) (.slice fa fn fc))
  have g9 := grown_set7 w5 (w.heap.size + 1) (.bool ra.up) (.slice ya yn yc) (.slice za zn zc) (.int .i64 ra.head.no) (.int .i64 ra.head.area) (.int .i64 ra.head.en) (.slice fa fn fc)
  have O9 := (show Hid _ from OwnAy.turned O5.out g9 (fun j e => by cases e; exact ⟨_, _, _, S5.out.at0, by decide, by decide, by decide⟩))
  clear g9 O5
  go_wp2
  refine bodyPost_ret (arch_res rfl rfl rfl S9.out.at0) rfl ?_
  exact ⟨_, rfl, O9.out, S9.out.1⟩

set_option maxHeartbeats 2000000 in
set_option maxRecDepth 100000 in
theorem sarDrop_any {w : World} {v : Value} {a : PArch} {u : ByteArray} (h : ArAt w v a) (hf : ArFit a) (hul : u.size ≤ 1099511627776) :
    Calls Tryz.prog 6 #[v, .string u] w fun e w' => ∃ v', e = .returned (.tuple #[v', .int .i64 (dropA u a).2]) ∧ OwnAy w.heap.size w' v' (dropA u a).1 ∧ Below w.heap.size w w' := by
  have HA := (show Hid (ArAt w v a) from h)
  have HF := (show Hid (ArFit a) from hf)
  obtain ⟨⟨ra, rc⟩, hra⟩ : ∃ x, x = dropA u a := ⟨_, rfl⟩
  rw [← hra]
  simp only
  obtain ⟨sa, sn, sc, la, ln, lc, ea, en', ec, rfl, h1, h2⟩ := h
  have hl := ((Hl.refl w).new #[.bool a.up, .slice sa sn sc, .slice la ln lc, .int .i64 a.head.no, .int .i64 a.head.area, .int .i64 a.head.en, .slice ea en' ec] 38).new #[.bool false, .slice none 0 0, .slice none 0 0, .int .i64 0, .int .i64 0, .int .i64 0, .slice none 0 0] 38
  obtain ⟨w1, hw1⟩ : ∃ x, x = (w.alloc (.cells #[.bool a.up, .slice sa sn sc, .slice la ln lc, .int .i64 a.head.no, .int .i64 a.head.area, .int .i64 a.head.en, .slice ea en' ec] 38)).alloc (.cells #[.bool false, .slice none 0 0, .slice none 0 0, .int .i64 0, .int .i64 0, .int .i64 0, .slice none 0 0] 38) := ⟨_, rfl⟩
  rw [← hw1, World.size_alloc] at hl
  have HL := (show Hid (Hl w [(w.heap.size + 1, #[.bool false, .slice none 0 0, .slice none 0 0, .int .i64 0, .int .i64 0, .int .i64 0, .slice none 0 0], 38), (w.heap.size, #[.bool a.up, .slice sa sn sc, .slice la ln lc, .int .i64 a.head.no, .int .i64 a.head.area, .int .i64 a.head.en, .slice ea en' ec], 38)] w1) from hl)
  have CW := sl18Done_any (kd := 2) (u2 := .string u) (u3 := .slice none 0 0) (HA.out.below hl.1) hf (fun _ h => drop_right h) (fun hA W b => sl18WorkD_any ((HA.out.below hl.1).below b) hA hul)
  rw [done_drop, ← hra] at CW
  have CW := (show Hid _ from CW)
  clear hl h1 h2 hf hra
  go_enter Tryz.func6, Tryz.ntmps6
  go_wp2_with fail
  go_at_call 16
  rw [← hw1]
  refine Calls.mono CW.out ?_
  rintro e w5 ⟨v5, rfl, o5, b5⟩
  have S5 := (show Hid (Hl w [(w.heap.size + 1, #[.bool false, .slice none 0 0, .slice none 0 0, .int .i64 0, .int .i64 0, .int .i64 0, .slice none 0 0], 38), (w.heap.size, #[.bool a.up, .slice sa sn sc, .slice la ln lc, .int .i64 a.head.no, .int .i64 a.head.area, .int .i64 a.head.en, .slice ea en' ec], 38)] w5) from HL.out.below b5)
  have O5 := (show Hid (OwnAy w.heap.size w5 v5 ra) from OwnAy.base o5 HL.out.1.size)
  clear b5 o5 HL hw1 CW
  obtain ⟨ya, yn, yc, za, zn, zc, fa, fn, fc, e5, _⟩ := O5.out
  subst e5
  obtain ⟨d0, d1, d2, d3, d4, d5, d6, _⟩ := rk_seven S5.out.at0
  have j0 := rk_thaw (k := 0) S5.out.at0
  have j1 := rk_thaw (k := 1) S5.out.at0
  have j2 := rk_thaw (k := 2) S5.out.at0
  have j3 := rk_thaw (k := 3) S5.out.at0
  have j4 := rk_thaw (k := 4) S5.out.at0
  have j5 := rk_thaw (k := 5) S5.out.at0
  have j6 := rk_thaw (k := 6) S5.out.at0
  have S9 := (show Hid _ from S5.out.set7 (Nat.le_succ _) (by simp) (.bool ra.up) (.slice ya yn yc) (.slice za zn zc) (.int .i64 ra.head.no) (.int .i64 ra.head.area) (.int .i64 ra.head.en) (.slice fa fn fc))
  have g9 := grown_set7 w5 (w.heap.size + 1) (.bool ra.up) (.slice ya yn yc) (.slice za zn zc) (.int .i64 ra.head.no) (.int .i64 ra.head.area) (.int .i64 ra.head.en) (.slice fa fn fc)
  have O9 := (show Hid _ from OwnAy.turned O5.out g9 (fun j e => by cases e; exact ⟨_, _, _, S5.out.at0, by decide, by decide, by decide⟩))
  clear g9 O5
  go_wp2
  refine bodyPost_ret (arch_res rfl rfl rfl S9.out.at0) rfl ?_
  exact ⟨_, rfl, O9.out, S9.out.1⟩
end Go.Proofs.YtjokajblihaphaaGreatDoor
