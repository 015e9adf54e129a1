/- The specification's DiskPut. No condition. -/
import Derived.Test.YtiejfnnokfedkaaDiskS3
namespace Go.Proofs.Ytiejfnnokfedkaa
open Go.RowKit
set_option maxRecDepth 100000
set_option linter.unusedVariables false

theorem disk_res {fn : Func} {p u : Tmp} (hr : fn.results = #[.cell p 36, .tmp u]) {tmps : Array Value} {w : World} {g : Nat} {a b : Value} {r : Bool} (h4 : tmps.getD p undef = .pointer (some ⟨g, 0, none⟩)) (h5 : tmps.getD u undef = .bool r) (hb : w.heap[g]? = some (.cells #[a, b] 36 (0, 0))) :
    (results fn tmps).run Try.prog w = .ok (.tuple #[.agg #[a, b], .bool r]) w := by
  rw [results_cell_tmp (p := p) (u := u) (ty := 36) hr, h4, h5]
  simp [asAddr, run_loadVar_row w g 36 36 #[a, b] (0, 0) _ hb Try.underlying36 rfl rfl, Result.andThen]

theorem ownDk_nil (B : Nat) (w : World) : OwnDk B w (.agg #[.slice none 0 0, .slice none 0 0]) zeroDk := ⟨none, 0, 0, none, 0, 0, rfl, World.ownsRow_nil _ _ _ _, World.ownsRow_nil _ _ _ _⟩

theorem sv_onePut {w : World} {g : Nat} {x : Int} {s : ByteArray} {t : TypeId} (h : w.heap[g]? = some (.cells #[.int .i64 x, .string s] t (0, 0))) : Sv 2 w (.slice (some ⟨g, 0, none⟩) 1 1) (putCells [(x, s)]) := by
  obtain ⟨c0, c1, _, _⟩ := rk_two h
  refine ⟨some ⟨g, 0, none⟩, 1, 1, rfl, rfl, Nat.le_refl _, by unfold maxLen; omega, (fun e => by cases e), fun i hi => ⟨g, 0, rfl, ?_⟩⟩
  have hi' : i < 2 := hi
  match i, hi' with
  | 0, _ => simpa [putCells] using c0
  | 1, _ => simpa [putCells] using c1

set_option maxHeartbeats 1000000 in
set_option maxRecDepth 100000 in
theorem sdiskPut_any {w : World} {v : Value} {d : PDisk} (h : DiskAt w v d) (hf : DiskFit d) (x : Int) (s : ByteArray) (hsz : s.size ≤ 1099511627776) :
    Calls Try.prog 35 #[v, .int .i64 x, .string s] w fun e w' => ∃ v', e = .returned (.tuple #[v', .bool (putDk d x s).2]) ∧ OwnDk w.heap.size w' v' (putDk d x s).1 ∧ Below w.heap.size w w' := by
  have HD := (show Hid (DiskAt w v d) from h)
  have HF := (show Hid (DiskFit d) from hf)
  have f2 := hf.ll
  obtain ⟨sa, sn, sc, la, ln, lc, rfl, _, h2⟩ := h
  obtain ⟨_, _, e2, _, _, _⟩ := h2.put
  cases e2
  clear h2 hf
  obtain ⟨w1, hw1⟩ : ∃ x, x = (w.alloc (.cells #[.slice sa sn sc, .slice la d.late.length lc] 36)).alloc (.cells #[.slice none 0 0, .slice none 0 0] 36) := ⟨_, rfl⟩
  have b1 : Below w.heap.size w w1 := by rw [hw1]; exact ((Below.refl _ _).alloc (Nat.le_refl _) _).alloc (by simp) _
  have x1 : w1.heap[w.heap.size]? = some (.cells #[.slice sa sn sc, .slice la d.late.length lc] 36 (0, 0)) := by rw [hw1, Below.heap_alloc _ _ _ (by simp)]; exact World.alloc_heap_new _ _
  have x2 : w1.heap[w.heap.size + 1]? = some (.cells #[.slice none 0 0, .slice none 0 0] 36 (0, 0)) := by
    rw [hw1]
    have := World.alloc_heap_new (w.alloc (.cells #[.slice sa sn sc, .slice la d.late.length lc] 36)) (.cells #[.slice none 0 0, .slice none 0 0] 36)
    rwa [World.size_alloc] at this
  have X1 := (show Hid _ from x1)
  have X2 := (show Hid _ from x2)
  have B1 := (show Hid (Below w.heap.size w w1) from b1)
  clear b1 x1 x2
  go_enter Try.func35, Try.ntmps35
  go_wp2_with fail
  go_at_call 33
  rw [← hw1]
  refine (sdiskOk_any (HD.out.below B1.out) HF.out).mono ?_
  rintro e w2 ⟨rfl, b2⟩
  clear hw1
  have B2 := (show Hid (Below w.heap.size w w2) from B1.out.trans (b2.mono B1.out.size))
  have y1 := (b2.block _ (lt_of_block X1.out)).trans X1.out
  have y2 := (b2.block _ (lt_of_block X2.out)).trans X2.out
  obtain ⟨q1, q2, _, _⟩ := rk_two y1
  obtain ⟨r1, r2, r3, r4⟩ := rk_two y2
  have Y1 := (show Hid _ from y1)
  have Y2 := (show Hid _ from y2)
  clear b2 y1 y2
  cases hb : diskB d
  · have HR : Hid (putDk d x s = (zeroDk, false)) := (show putDk d x s = (zeroDk, false) by rw [putDk, if_pos hb])
    clear hb
    go_wp2
    have z2 := rk_at (k := 1) (u := .slice none 0 0) (rk_at (k := 0) (u := .slice none 0 0) Y2.out)
    refine bodyPost_ret (disk_res rfl rfl rfl z2) rfl ?_
    rw [HR.out]
    exact ⟨_, rfl, ownDk_nil _ _, ((B2.out.setCell (Nat.le_succ _) _).setCell (Nat.le_succ _) _)⟩
  · have HB := (show Hid (diskB d = true) from hb)
    clear hb
    have CC := (show Hid _ from sl15Copy_any (HD.out.below B2.out) HF.out)
    go_wp2_with fail
    go_at_call 34
    refine Calls.mono CC.out ?_
    rintro e w3 ⟨v3, rfl, o3, b3⟩
    clear CC
    have B3 := (show Hid (Below w.heap.size w w3) from B2.out.trans (b3.mono B2.out.size))
    obtain ⟨ta, tn, tc, ma, mn, mc, rfl, o31, o32⟩ := o3
    obtain ⟨w4, hw4⟩ : ∃ x, x = w3.alloc (.cells #[.slice ta tn tc, .slice ma mn mc] 36) := ⟨_, rfl⟩
    have b34 : Below w3.heap.size w3 w4 := by rw [hw4]; exact (Below.refl _ _).alloc (Nat.le_refl _) _
    have x4 : w4.heap[w3.heap.size]? = some (.cells #[.slice ta tn tc, .slice ma mn mc] 36 (0, 0)) := by rw [hw4]; exact World.alloc_heap_new _ _
    have b24 : Below w2.heap.size w2 w4 := b3.trans (b34.mono b3.size)
    have y1 := (b24.block _ (lt_of_block Y1.out)).trans Y1.out
    have y2 := (b24.block _ (lt_of_block Y2.out)).trans Y2.out
    obtain ⟨q1, q2, _, _⟩ := rk_two y1
    obtain ⟨r1, r2, r3, r4⟩ := rk_two y2
    obtain ⟨t1, t2, t3, t4⟩ := rk_two x4
    have B4 := (show Hid (Below w.heap.size w w4) from B3.out.trans (b34.mono B3.out.size))
    have O1 := (show Hid (w4.ownsRow w.heap.size 9 1 (.slice ta tn tc) d.safe.length (strCells d.safe)) from ownsRow_below (rk_base o31 B2.out.size) b34)
    have O2 := (show Hid (w4.ownsRow w.heap.size 80 2 (.slice ma mn mc) d.late.length (putCells d.late)) from ownsRow_below (rk_base o32 B2.out.size) b34)
    have X4 := (show Hid _ from x4)
    have Z2 := (show Hid _ from y2)
    have hl3 : w.heap.size + 1 < w3.heap.size := Nat.lt_of_lt_of_le (lt_of_block Y2.out) b3.size
    have hne : w3.heap.size ≠ w.heap.size + 1 := by omega
    clear b3 o31 o32 b34 x4 b24 y1 y2 Y1 Y2 X1 X2
    go_wp2_with fail
    go_at_call 58
    rw [← hw4]
    refine (sl15Sector_any x w4).mono ?_
    rintro e w5 ⟨rfl, hw5⟩
    replace hw5 := hw5.symm
    subst hw5
    clear hw4
    have fin : Hid (∀ r, putDk d x s = (d, r) → ∃ v', (Ending.returned (.tuple #[.agg #[.slice ta tn tc, .slice ma mn mc], .bool r])) = Ending.returned (.tuple #[v', .bool (putDk d x s).2]) ∧ OwnDk w.heap.size ((w4.setCell ⟨w.heap.size + 1, 0, none⟩ (.slice ta tn tc)).setCell ⟨w.heap.size + 1, 1, none⟩ (.slice ma mn mc)) v' (putDk d x s).1 ∧ Below w.heap.size w ((w4.setCell ⟨w.heap.size + 1, 0, none⟩ (.slice ta tn tc)).setCell ⟨w.heap.size + 1, 1, none⟩ (.slice ma mn mc))) := fun r e => by
      rw [e]
      have z1 := rk_at (k := 0) (u := .slice ta tn tc) Z2.out
      exact ⟨_, rfl, ⟨_, _, _, _, _, _, rfl, rk_set (rk_set O1.out Z2.out (by decide)) z1 (by decide), rk_set (rk_set O2.out Z2.out (by decide)) z1 (by decide)⟩, (B4.out.setCell (p := ⟨w.heap.size + 1, 0, none⟩) (Nat.le_succ _) _).setCell (p := ⟨w.heap.size + 1, 1, none⟩) (Nat.le_succ _) _⟩
    have RS := (show Hid _ from rk_at (k := 1) (u := .slice ma mn mc) (rk_at (k := 0) (u := .slice ta tn tc) Z2.out))
    cases hi : inB x 0 129
    · have HR : Hid (putDk d x s = (d, false)) := (show putDk d x s = (d, false) by rw [putDk, if_neg (by rw [HB.out]; simp), if_pos (.inl hi)])
      clear hi
      go_wp2
      refine bodyPost_ret (disk_res rfl rfl rfl RS.out) rfl ?_
      exact fin.out false HR.out
    · have HI := (show Hid _ from hi)
      clear hi
      by_cases e1 : s.size = 64
      · have hn1 : ((s.size : Int) != 64) = false := by simp; omega
        by_cases e2 : d.late.length = 200
        · have HR : Hid (putDk d x s = (d, false)) := (show putDk d x s = (d, false) by rw [putDk, if_neg (by rw [HB.out]; simp), if_pos (.inr (.inr e2))])
          have hn2 : ((d.late.length : Int) == 200) = true := by simp; omega
          clear e1 e2
          go_wp2
          refine bodyPost_ret (disk_res rfl rfl rfl RS.out) rfl ?_
          exact fin.out false HR.out
        · have HR : Hid (putDk d x s = (⟨d.safe, d.late ++ [(x, s)]⟩, true)) := (show putDk d x s = (⟨d.safe, d.late ++ [(x, s)]⟩, true) by rw [putDk, if_neg (by rw [HB.out]; simp), if_neg (by rw [HI.out]; simp [e1, e2])])
          have hn2 : ((d.late.length : Int) == 200) = false := by simp; omega
          clear e1 e2 fin RS
          obtain ⟨iP, hiP, hp0, hp1, hp2⟩ := info_parts Try.infoPut
          obtain ⟨w6, hw6⟩ : ∃ y, y = w4.alloc (.cells #[.int .i64 x, .string s] 80) := ⟨_, rfl⟩
          have b6 : Below w4.heap.size w4 w6 := by rw [hw6]; exact (Below.refl _ _).alloc (Nat.le_refl _) _
          have x6 : w6.heap[w4.heap.size]? = some (.cells #[.int .i64 x, .string s] 80 (0, 0)) := by rw [hw6]; exact World.alloc_heap_new _ _
          have SV := (show Hid (Sv 2 w6 (.slice (some ⟨w4.heap.size, 0, none⟩) 1 1) (putCells [(x, s)])) from sv_onePut x6)
          have O26 := (show Hid (w6.ownsRow w.heap.size 80 2 (.slice ma mn mc) d.late.length (putCells d.late)) from ownsRow_below O2.out b6)
          have O16 := (show Hid (w6.ownsRow w.heap.size 9 1 (.slice ta tn tc) d.safe.length (strCells d.safe)) from ownsRow_below O1.out b6)
          have B6 := (show Hid (Below w.heap.size w w6) from B4.out.trans (b6.mono B4.out.size))
          have z46 := (b6.block _ (lt_of_block X4.out)).trans X4.out
          have z26 := (b6.block _ (lt_of_block Z2.out)).trans Z2.out
          have HZ := (show Hid (w6.heap[w3.heap.size]? = some (.cells #[.slice ta tn tc, .slice ma mn mc] 36 (0, 0)) ∧ w6.heap[w.heap.size + 1]? = some (.cells #[.slice none 0 0, .slice none 0 0] 36 (0, 0))) from ⟨z46, z26⟩)
          clear b6 x6 z46 z26
          go_wp2_with (at_builtin
                       rw [← hw6]
                       refine wpList_appV _ rfl (.tmp 31) (.tmp 35) 34 rfl w.heap.size 80 iP _ 2 24 Try.underlying34 hiP hp0 hp1 hp2 rfl (by decide) (.slice ma mn mc) (.slice (some ⟨w4.heap.size, 0, none⟩) 1 1) d.late.length 1 (putCells d.late) (putCells [(x, s)]) rfl rfl O26.out SV.out (putCells_len _) (put_oneCell _) (by omega) (by unfold maxLen; omega) B6.out.size ?_
                       intro v7 w7 o7 g7
                       clear hw6
                       rw [← putCells_app] at o7
                       have o17 := rk_other O26.out g7 O16.out (by decide)
                       have z47 := rk_keep O26.out g7 HZ.out.1 (by decide)
                       have z27 := rk_keep O26.out g7 HZ.out.2 (by decide)
                       have b7 : Below w.heap.size w w7 := B6.out.grown g7 B6.out.size (fun r e => (World.ownsRow.lt O26.out r e).1)
                       obtain ⟨a7, n7, c7, rfl⟩ := rk_slice o7
                       obtain ⟨t1, t2, t3, t4⟩ := rk_two z47
                       obtain ⟨r1, r2, r3, r4⟩ := rk_two z27
                       have O7 := (show Hid (w7.ownsRow w.heap.size 80 2 (.slice a7 n7 c7) (d.late.length + 1) (putCells (d.late ++ [(x, s)]))) from o7)
                       have O17 := (show Hid (w7.ownsRow w.heap.size 9 1 (.slice ta tn tc) d.safe.length (strCells d.safe)) from o17)
                       have HZ7 := (show Hid (w7.heap[w3.heap.size]? = some (.cells #[.slice ta tn tc, .slice ma mn mc] 36 (0, 0)) ∧ w7.heap[w.heap.size + 1]? = some (.cells #[.slice none 0 0, .slice none 0 0] 36 (0, 0))) from ⟨z47, z27⟩)
                       have B7 := (show Hid (Below w.heap.size w w7) from b7)
                       clear o7 g7 o17 z47 z27 b7)
          obtain ⟨z47, z27⟩ := HZ7.out
          have s1 := rk_at (k := 1) (u := .slice a7 n7 c7) z47
          have s2 := (Below.heap_setCell w7 ⟨w3.heap.size, 1, none⟩ (.slice a7 n7 c7) (w.heap.size + 1) (by show w.heap.size + 1 ≠ w3.heap.size; omega)).trans z27
          have s3 := rk_at (k := 0) (u := .slice ta tn tc) s2
          have s4 := rk_at (k := 1) (u := .slice a7 n7 c7) s3
          refine bodyPost_ret (disk_res rfl rfl rfl s4) rfl ?_
          rw [HR.out]
          refine ⟨_, rfl, ⟨_, _, _, _, _, _, rfl, rk_set (rk_set (rk_set O17.out z47 (by decide)) s2 (by decide)) s3 (by decide), ?_⟩, ((B7.out.setCell (p := ⟨w3.heap.size, 1, none⟩) (by show w.heap.size ≤ w3.heap.size; omega) _).setCell (p := ⟨w.heap.size + 1, 0, none⟩) (Nat.le_succ _) _).setCell (p := ⟨w.heap.size + 1, 1, none⟩) (Nat.le_succ _) _⟩
          rw [List.length_append]
          exact rk_set (rk_set (rk_set O7.out z47 (by decide)) s2 (by decide)) s3 (by decide)
      · have HR : Hid (putDk d x s = (d, false)) := (show putDk d x s = (d, false) by rw [putDk, if_neg (by rw [HB.out]; simp), if_pos (.inr (.inl e1))])
        have hn1 : ((s.size : Int) != 64) = true := by simp; omega
        clear e1
        go_wp2
        refine bodyPost_ret (disk_res rfl rfl rfl RS.out) rfl ?_
        exact fin.out false HR.out
end Go.Proofs.Ytiejfnnokfedkaa
