/- The program's copy of a disk, and DiskPut. No condition. -/
import Derived.Test.YtdhnoaajdjkddaaICopyR
namespace Go.Proofs.Ytdhnoaajdjkddaa
open Go.RowKit
set_option maxRecDepth 100000
set_option linter.unusedVariables false

/-- A disk in memory of the call's own, but that what is empty may have no room at all. -/
def OwnDz (B : Nat) (w : World) (v : Value) (d : PDisk) : Prop := ∃ sa sn sc la ln lc, v = .agg #[.slice sa sn sc, .slice la ln lc] ∧ OwnZ B 9 1 w (.slice sa sn sc) d.safe.length (strCells d.safe) ∧ OwnZ B 37 2 w (.slice la ln lc) d.late.length (putCells d.late)
theorem OwnZ.below {B e size n : Nat} {w w' : World} {v : Value} {xs : List Value} (h : OwnZ B e size w v n xs) (b : Below w.heap.size w w') : OwnZ B e size w' v n xs := by
  rcases h with h | h
  · exact .inl (ownsRow_below h b)
  · exact .inr h
theorem OwnZ.base {B B' e size n : Nat} {w : World} {v : Value} {xs : List Value} (h : OwnZ B e size w v n xs) (b : B' ≤ B) : OwnZ B' e size w v n xs := by
  rcases h with h | h
  · exact .inl (rk_base h b)
  · exact .inr h
theorem OwnZ.slice {B e size n : Nat} {w : World} {v : Value} {xs : List Value} (h : OwnZ B e size w v n xs) : ∃ a m c, v = .slice a m c := by
  rcases h with h | ⟨_, _, a, h⟩
  · exact rk_slice h
  · exact ⟨_, _, _, h⟩
theorem OwnZ.sv {B e size n : Nat} {w : World} {v : Value} {xs : List Value} (h : OwnZ B e size w v n xs) : Sv size w v xs := by
  rcases h with h | ⟨rfl, rfl, a, rfl⟩
  · exact sv_of_own h
  · exact ⟨some a, 0, 0, rfl, by simp, Nat.le_refl _, Nat.zero_le _, (fun e => by cases e), fun i hi => by simp at hi⟩
theorem OwnZ.set {B e size n b k : Nat} {w : World} {v u : Value} {xs : List Value} (h : OwnZ B e size w v n xs) {cs : Array Value} {t : TypeId} {fr : Nat × Nat} (hb : w.heap[b]? = some (.cells cs t fr)) (ht : t ≠ e) : OwnZ B e size (w.setCell ⟨b, k, none⟩ u) v n xs := by
  rcases h with h | h
  · exact .inl (rk_set h hb ht)
  · exact .inr h

set_option maxHeartbeats 1000000 in
set_option maxRecDepth 100000 in
theorem icopyOfDisk_any {w : World} {v : Value} {d : PDisk} (h : DiskAt w v d) (hf : DiskFit d) :
    Calls Try.prog 49 #[v] w fun e w' => ∃ v', e = .returned v' ∧ OwnDz w.heap.size w' v' d ∧ Below w.heap.size w w' := by
  obtain ⟨sa, sn, sc, la, ln, lc, rfl, h1, h2⟩ := h
  have f1 := hf.sl
  have f2 := hf.ll
  have H1 := (show Hid (Sv 1 w (.slice sa sn sc) (strCells d.safe)) from h1)
  have H2 := (show Hid (Sv 2 w (.slice la ln lc) (putCells d.late)) from h2)
  clear h1 h2 hf
  obtain ⟨w1, hw1⟩ : ∃ x, x = (w.alloc (.cells #[.slice sa sn sc, .slice la ln lc] 27)).alloc (.cells #[.slice none 0 0, .slice none 0 0] 27) := ⟨_, rfl⟩
  have b1 : Below w.heap.size w w1 := by rw [hw1]; exact ((Below.refl _ _).alloc (Nat.le_refl _) _).alloc (by simp) _
  have x1 : w1.heap[w.heap.size]? = some (.cells #[.slice sa sn sc, .slice la ln lc] 27 (0, 0)) := by rw [hw1, Below.heap_alloc _ _ _ (by simp)]; exact World.alloc_heap_new _ _
  have x2 : w1.heap[w.heap.size + 1]? = some (.cells #[.slice none 0 0, .slice none 0 0] 27 (0, 0)) := by
    rw [hw1]
    have := World.alloc_heap_new (w.alloc (.cells #[.slice sa sn sc, .slice la ln lc] 27)) (.cells #[.slice none 0 0, .slice none 0 0] 27)
    rwa [World.size_alloc] at this
  have X1 := (show Hid _ from x1)
  have X2 := (show Hid _ from x2)
  have B1 := (show Hid (Below w.heap.size w w1) from b1)
  obtain ⟨q1, q2, _, _⟩ := rk_two x1
  clear b1 x1 x2
  go_enter Try.func49, Try.ntmps49
  go_wp2_with fail
  rw [← hw1]
  clear hw1
  have BD := (show Hid (Below w1.heap.size w1 w1.drew) from below_drewN 1)
  go_region_with (first
    | (go_at_call 70
       refine (icopyS_any (H1.out.below (B1.out.trans (BD.out.mono B1.out.size))) (m := d.safe.length) (by rw [strCells_len]; omega) f1).mono ?_
       rintro e w2 ⟨v2, rfl, o2, b2⟩
       have B2 := (show Hid (Below w1.heap.size w1 w2) from BD.out.trans (b2.mono BD.out.size))
       obtain ⟨ta, tn, tc, rfl⟩ := o2.slice
       have y1 := (B2.out.block _ (lt_of_block X1.out)).trans X1.out
       obtain ⟨q1, q2, _, _⟩ := rk_two y1
       have O2 := (show Hid (OwnZ w.heap.size 9 1 w2 (.slice ta tn tc) d.safe.length (strCells d.safe)) from o2.base (Nat.le_trans B1.out.size BD.out.size))
       clear y1 o2 b2)
    | (go_at_call 71
       refine (icopyP_any (H2.out.below (B1.out.trans (B2.out.mono B1.out.size))) (m := d.late.length) (by rw [putCells_len]) f2).mono ?_
       rintro e w3 ⟨v3, rfl, o3, b3⟩
       have B3 := (show Hid (Below w1.heap.size w1 w3) from B2.out.trans (b3.mono B2.out.size))
       obtain ⟨ma, mn, mc, rfl⟩ := o3.slice
       have y2 := (B3.out.block _ (lt_of_block X2.out)).trans X2.out
       obtain ⟨r1, r2, r3, r4⟩ := rk_two y2
       have O3 := (show Hid (OwnZ w.heap.size 37 2 w3 (.slice ma mn mc) d.late.length (putCells d.late)) from o3.base (Nat.le_trans B1.out.size B2.out.size))
       have O23 := (show Hid (OwnZ w.heap.size 9 1 w3 (.slice ta tn tc) d.safe.length (strCells d.safe)) from O2.out.below b3)
       have Y2 := (show Hid _ from y2)
       clear y2 o3 b3 O2))
  all_goals go_wp2
  all_goals
    have s1 := rk_at (k := 0) (u := .slice ta tn tc) Y2.out
    have s2 := rk_at (k := 1) (u := .slice ma mn mc) s1
    refine bodyPost_ret (results_cell_row rfl _ _ (w.heap.size + 1) 27 #[.slice ta tn tc, .slice ma mn mc] (0, 0) _ rfl s2 Try.underlying27 rfl rfl) rfl ?_
    exact ⟨_, rfl, ⟨_, _, _, _, _, _, rfl, (O23.out.set (k := 0) Y2.out (by decide)).set (k := 1) s1 (by decide), (O3.out.set (k := 0) Y2.out (by decide)).set (k := 1) s1 (by decide)⟩, ((B1.out.trans (B3.out.mono B1.out.size)).setCell (Nat.le_succ _) _).setCell (Nat.le_succ _) _⟩

/-- What DiskPut answers, where what is empty may have no room. -/
def DiskPutOz : Prop := ∀ (w : World) (v : Value) (d : PDisk) (x : Int) (s : ByteArray), DiskAt w v d → DiskFit d → s.size ≤ 1099511627776 → Calls Try.prog 20 #[v, .int .i64 x, .string s] w fun e w' => ∃ v', e = .returned (.tuple #[v', .bool (putDk d x s).2]) ∧ OwnDz w.heap.size w' v' (putDk d x s).1 ∧ Below w.heap.size w w'

set_option maxHeartbeats 1000000 in
set_option maxRecDepth 100000 in
theorem idiskPut_any : DiskPutOz := by
  intro w v d x s h hf hsz
  have HD := (show Hid (DiskAt w v d) from h)
  have HF := (show Hid (DiskFit d) from hf)
  have f2 := hf.ll
  obtain ⟨sa, sn, sc, la, ln, lc, rfl, _, h2⟩ := h
  obtain ⟨_, _, e2, _, _, _⟩ := h2.put
  cases e2
  clear h2 hf
  obtain ⟨w1, hw1⟩ : ∃ x, x = (w.alloc (.cells #[.slice sa sn sc, .slice la d.late.length lc] 27)).alloc (.cells #[.slice none 0 0, .slice none 0 0] 27) := ⟨_, rfl⟩
  have b1 : Below w.heap.size w w1 := by rw [hw1]; exact ((Below.refl _ _).alloc (Nat.le_refl _) _).alloc (by simp) _
  have x1 : w1.heap[w.heap.size]? = some (.cells #[.slice sa sn sc, .slice la d.late.length lc] 27 (0, 0)) := by rw [hw1, Below.heap_alloc _ _ _ (by simp)]; exact World.alloc_heap_new _ _
  have x2 : w1.heap[w.heap.size + 1]? = some (.cells #[.slice none 0 0, .slice none 0 0] 27 (0, 0)) := by
    rw [hw1]
    have := World.alloc_heap_new (w.alloc (.cells #[.slice sa sn sc, .slice la d.late.length lc] 27)) (.cells #[.slice none 0 0, .slice none 0 0] 27)
    rwa [World.size_alloc] at this
  have X1 := (show Hid _ from x1)
  have X2 := (show Hid _ from x2)
  have B1 := (show Hid (Below w.heap.size w w1) from b1)
  clear b1 x1 x2
  go_enter Try.func20, Try.ntmps20
  go_wp2_with fail
  go_at_call 16
  rw [← hw1]
  refine (idiskOk_any (HD.out.below B1.out) HF.out).mono ?_
  rintro e w2 ⟨rfl, b2⟩
  clear hw1
  have B2 := (show Hid (Below w.heap.size w w2) from B1.out.trans (b2.mono B1.out.size))
  have y1 := (b2.block _ (lt_of_block X1.out)).trans X1.out
  have y2 := (b2.block _ (lt_of_block X2.out)).trans X2.out
  obtain ⟨q1, q2, _, _⟩ := rk_two y1
  obtain ⟨r1, r2, r3, r4⟩ := rk_two y2
  have Y1 := (show Hid _ from y1)
  have Y2 := (show Hid _ from y2)
  clear b2 y1 y2
  cases hb : diskB d
  · have HR : Hid (putDk d x s = (zeroDk, false)) := (show putDk d x s = (zeroDk, false) by rw [putDk, if_pos hb])
    clear hb
    go_wp2
    have z2 := rk_at (k := 1) (u := .slice none 0 0) (rk_at (k := 0) (u := .slice none 0 0) Y2.out)
    refine bodyPost_ret (disk_res rfl rfl rfl z2) rfl ?_
    rw [HR.out]
    exact ⟨_, rfl, ⟨_, _, _, _, _, _, rfl, .inl (World.ownsRow_nil _ _ _ _), .inl (World.ownsRow_nil _ _ _ _)⟩, ((B2.out.setCell (Nat.le_succ _) _).setCell (Nat.le_succ _) _)⟩
  · have HB := (show Hid (diskB d = true) from hb)
    clear hb
    have CC := (show Hid _ from icopyOfDisk_any (HD.out.below B2.out) HF.out)
    go_wp2_with fail
    go_at_call 49
    refine Calls.mono CC.out ?_
    rintro e w3 ⟨v3, rfl, o3, b3⟩
    clear CC
    have B3 := (show Hid (Below w.heap.size w w3) from B2.out.trans (b3.mono B2.out.size))
    obtain ⟨ta, tn, tc, ma, mn, mc, rfl, o31, o32⟩ := o3
    obtain ⟨w4, hw4⟩ : ∃ y, y = (w3.alloc (.cells #[.slice ta tn tc, .slice ma mn mc] 27)).alloc (.cells #[.int .i64 x, .string s] 37) := ⟨_, rfl⟩
    have b34 : Below w3.heap.size w3 w4 := by rw [hw4]; exact ((Below.refl _ _).alloc (Nat.le_refl _) _).alloc (by simp) _
    have x4 : w4.heap[w3.heap.size]? = some (.cells #[.slice ta tn tc, .slice ma mn mc] 27 (0, 0)) := by rw [hw4, Below.heap_alloc _ _ _ (by simp)]; exact World.alloc_heap_new _ _
    have x5 : w4.heap[w3.heap.size + 1]? = some (.cells #[.int .i64 x, .string s] 37 (0, 0)) := by
      rw [hw4]
      have := World.alloc_heap_new (w3.alloc (.cells #[.slice ta tn tc, .slice ma mn mc] 27)) (.cells #[.int .i64 x, .string s] 37)
      rwa [World.size_alloc] at this
    have b24 : Below w2.heap.size w2 w4 := b3.trans (b34.mono b3.size)
    have Y14 := (show Hid (w4.heap[w.heap.size]? = some (.cells #[.slice sa sn sc, .slice la d.late.length lc] 27 (0, 0))) from (b24.block _ (lt_of_block Y1.out)).trans Y1.out)
    have Y24 := (show Hid (w4.heap[w.heap.size + 1]? = some (.cells #[.slice none 0 0, .slice none 0 0] 27 (0, 0))) from (b24.block _ (lt_of_block Y2.out)).trans Y2.out)
    have B4 := (show Hid (Below w.heap.size w w4) from B3.out.trans (b34.mono B3.out.size))
    have O1 := (show Hid (OwnZ w.heap.size 9 1 w4 (.slice ta tn tc) d.safe.length (strCells d.safe)) from (o31.base B2.out.size).below b34)
    have O2 := (show Hid (OwnZ w.heap.size 37 2 w4 (.slice ma mn mc) d.late.length (putCells d.late)) from (o32.base B2.out.size).below b34)
    have X4 := (show Hid _ from x4)
    have X5 := (show Hid _ from x5)
    have hl3 : w.heap.size + 1 < w3.heap.size := Nat.lt_of_lt_of_le (lt_of_block Y2.out) b3.size
    have HNE := (show Hid (w3.heap.size ≠ w.heap.size + 1 ∧ w.heap.size + 1 < w3.heap.size) from ⟨by omega, hl3⟩)
    clear b3 o31 o32 b34 x4 x5 b24 Y1 Y2 X1 X2 hl3
    have CP := iputOk_any x s w4 hsz
    obtain ⟨r, hr⟩ : ∃ r, r = putB (x, s) := ⟨_, rfl⟩
    rw [← hr] at CP
    have CP' := (show Hid _ from CP)
    clear CP
    go_wp2_with fail
    go_at_call 41
    rw [← hw4]
    refine Calls.mono CP'.out ?_
    rintro e w5 ⟨rfl, b5⟩
    clear hw4 CP'
    have Y15 := (show Hid (w5.heap[w.heap.size]? = some (.cells #[.slice sa sn sc, .slice la d.late.length lc] 27 (0, 0))) from (b5.block _ (lt_of_block Y14.out)).trans Y14.out)
    have Y25 := (show Hid (w5.heap[w.heap.size + 1]? = some (.cells #[.slice none 0 0, .slice none 0 0] 27 (0, 0))) from (b5.block _ (lt_of_block Y24.out)).trans Y24.out)
    have X45 := (show Hid (w5.heap[w3.heap.size]? = some (.cells #[.slice ta tn tc, .slice ma mn mc] 27 (0, 0))) from (b5.block _ (lt_of_block X4.out)).trans X4.out)
    have X55 := (show Hid (w5.heap[w3.heap.size + 1]? = some (.cells #[.int .i64 x, .string s] 37 (0, 0))) from (b5.block _ (lt_of_block X5.out)).trans X5.out)
    have B5 := (show Hid (Below w.heap.size w w5) from B4.out.trans (b5.mono B4.out.size))
    have O15 := (show Hid (OwnZ w.heap.size 9 1 w5 (.slice ta tn tc) d.safe.length (strCells d.safe)) from O1.out.below b5)
    have O25 := (show Hid (OwnZ w.heap.size 37 2 w5 (.slice ma mn mc) d.late.length (putCells d.late)) from O2.out.below b5)
    obtain ⟨q1, q2, _, _⟩ := rk_two Y15.out
    obtain ⟨r1, r2, r3, r4⟩ := rk_two Y25.out
    obtain ⟨t1, t2, t3, t4⟩ := rk_two X45.out
    obtain ⟨u1, u2, u3, u4⟩ := rk_two X55.out
    have hne := HNE.out.1
    clear b5 Y14 Y24 X4 X5 B4 O1 O2
    have fin : Hid (∀ r, putDk d x s = (d, r) → ∃ v', (Ending.returned (.tuple #[.agg #[.slice ta tn tc, .slice ma mn mc], .bool r])) = Ending.returned (.tuple #[v', .bool (putDk d x s).2]) ∧ OwnDz w.heap.size ((w5.setCell ⟨w.heap.size + 1, 0, none⟩ (.slice ta tn tc)).setCell ⟨w.heap.size + 1, 1, none⟩ (.slice ma mn mc)) v' (putDk d x s).1 ∧ Below w.heap.size w ((w5.setCell ⟨w.heap.size + 1, 0, none⟩ (.slice ta tn tc)).setCell ⟨w.heap.size + 1, 1, none⟩ (.slice ma mn mc))) := fun r e => by
      rw [e]
      have z1 := rk_at (k := 0) (u := .slice ta tn tc) Y25.out
      exact ⟨_, rfl, ⟨_, _, _, _, _, _, rfl, (O15.out.set Y25.out (by decide)).set z1 (by decide), (O25.out.set Y25.out (by decide)).set z1 (by decide)⟩, (B5.out.setCell (p := ⟨w.heap.size + 1, 0, none⟩) (Nat.le_succ _) _).setCell (p := ⟨w.heap.size + 1, 1, none⟩) (Nat.le_succ _) _⟩
    have RS := (show Hid _ from rk_at (k := 1) (u := .slice ma mn mc) (rk_at (k := 0) (u := .slice ta tn tc) Y25.out))
    cases r
    · have HR : Hid (putDk d x s = (d, false)) := (show putDk d x s = (d, false) by
        rw [putDk, if_neg (by rw [HB.out]; simp), if_pos]
        have := hr.symm
        simp only [putB, Bool.and_eq_false_iff, decide_eq_false_iff_not] at this
        rcases this with h | h
        · exact .inl h
        · exact .inr (.inl h))
      clear hr
      go_wp2
      refine bodyPost_ret (disk_res rfl rfl rfl RS.out) rfl ?_
      exact fin.out false HR.out
    · obtain ⟨hi, e1⟩ := putB_yes hr.symm
      simp only at hi e1
      by_cases e2 : d.late.length = 200
      · have HR : Hid (putDk d x s = (d, false)) := (show putDk d x s = (d, false) by rw [putDk, if_neg (by rw [HB.out]; simp), if_pos (.inr (.inr e2))])
        have hn2 : 200 ≤ (d.late.length : Int) := by omega
        clear e1 e2 hr hi
        go_wp2
        refine bodyPost_ret (disk_res rfl rfl rfl RS.out) rfl ?_
        exact fin.out false HR.out
      · have HR : Hid (putDk d x s = (⟨d.safe, d.late ++ [(x, s)]⟩, true)) := (show putDk d x s = (⟨d.safe, d.late ++ [(x, s)]⟩, true) by rw [putDk, if_neg (by rw [HB.out]; simp), if_neg (by rw [hi]; simp [e1, e2])])
        have hl2 := (diskB_len HB.out).2
        have hn2 : ¬ (200 ≤ (d.late.length : Int)) := by omega
        clear e1 e2 fin RS hr hi hl2
        obtain ⟨iP, hiP, hp0, hp1, hp2⟩ := info_parts Try.infoPut
        obtain ⟨w6, hw6⟩ : ∃ y, y = w5.alloc (.cells #[.int .i64 x, .string s] 37) := ⟨_, rfl⟩
        have b6 : Below w5.heap.size w5 w6 := by rw [hw6]; exact (Below.refl _ _).alloc (Nat.le_refl _) _
        have x6 : w6.heap[w5.heap.size]? = some (.cells #[.int .i64 x, .string s] 37 (0, 0)) := by rw [hw6]; exact World.alloc_heap_new _ _
        have SV := (show Hid (Sv 2 w6 (.slice (some ⟨w5.heap.size, 0, none⟩) 1 1) (putCells [(x, s)])) from sv_onePut x6)
        have O26 := (show Hid (OwnZ w.heap.size 37 2 w6 (.slice ma mn mc) d.late.length (putCells d.late)) from O25.out.below b6)
        have O16 := (show Hid (OwnZ w.heap.size 9 1 w6 (.slice ta tn tc) d.safe.length (strCells d.safe)) from O15.out.below b6)
        have B6 := (show Hid (Below w.heap.size w w6) from B5.out.trans (b6.mono B5.out.size))
        have HZ := (show Hid (w6.heap[w3.heap.size]? = some (.cells #[.slice ta tn tc, .slice ma mn mc] 27 (0, 0)) ∧ w6.heap[w.heap.size + 1]? = some (.cells #[.slice none 0 0, .slice none 0 0] 27 (0, 0))) from ⟨(b6.block _ (lt_of_block X45.out)).trans X45.out, (b6.block _ (lt_of_block Y25.out)).trans Y25.out⟩)
        clear b6 x6
        go_wp2_with (at_builtin
                     rw [← hw6]
                     refine wpList_appZ _ rfl (.tmp 30) (.tmp 32) 25 rfl w.heap.size 37 iP _ 2 24 Try.underlying25 hiP hp0 hp1 hp2 rfl (by decide) (.slice ma mn mc) d.late.length (putCells d.late) ⟨w5.heap.size, 0, none⟩ 1 1 (putCells [(x, s)]) rfl rfl O26.out SV.out (by decide) (put_oneCell _) (by omega) (by unfold maxLen; omega) B6.out.size ?_
                     intro v7 w7 row o7 g7
                     clear hw6
                     rw [← putCells_app] at o7
                     have o17 := g7.rowZ O16.out (by decide)
                     have z47 := g7.keep HZ.out.1 (by decide)
                     have z27 := g7.keep HZ.out.2 (by decide)
                     have b7 : Below w.heap.size w w7 := g7.below B6.out B6.out.size
                     obtain ⟨a7, n7, c7, rfl⟩ := rk_slice o7
                     obtain ⟨t1, t2, t3, t4⟩ := rk_two z47
                     obtain ⟨r1, r2, r3, r4⟩ := rk_two z27
                     have O7 := (show Hid (w7.ownsRow w.heap.size 37 2 (.slice a7 n7 c7) (d.late.length + 1) (putCells (d.late ++ [(x, s)]))) from o7)
                     have O17 := (show Hid (OwnZ w.heap.size 9 1 w7 (.slice ta tn tc) d.safe.length (strCells d.safe)) from o17)
                     have HZ7 := (show Hid (w7.heap[w3.heap.size]? = some (.cells #[.slice ta tn tc, .slice ma mn mc] 27 (0, 0)) ∧ w7.heap[w.heap.size + 1]? = some (.cells #[.slice none 0 0, .slice none 0 0] 27 (0, 0))) from ⟨z47, z27⟩)
                     have B7 := (show Hid (Below w.heap.size w w7) from b7)
                     clear o7 g7 o17 z47 z27 b7)
        obtain ⟨z47, z27⟩ := HZ7.out
        have hl3 := HNE.out.2
        have s1 := rk_at (k := 1) (u := .slice a7 n7 c7) z47
        have s2 := (Below.heap_setCell w7 ⟨w3.heap.size, 1, none⟩ (.slice a7 n7 c7) (w.heap.size + 1) (by show w.heap.size + 1 ≠ w3.heap.size; omega)).trans z27
        have s3 := rk_at (k := 0) (u := .slice ta tn tc) s2
        have s4 := rk_at (k := 1) (u := .slice a7 n7 c7) s3
        refine bodyPost_ret (disk_res rfl rfl rfl s4) rfl ?_
        rw [HR.out]
        refine ⟨_, rfl, ⟨_, _, _, _, _, _, rfl, ((O17.out.set z47 (by decide)).set s2 (by decide)).set s3 (by decide), .inl ?_⟩, ((B7.out.setCell (p := ⟨w3.heap.size, 1, none⟩) (by show w.heap.size ≤ w3.heap.size; omega) _).setCell (p := ⟨w.heap.size + 1, 0, none⟩) (Nat.le_succ _) _).setCell (p := ⟨w.heap.size + 1, 1, none⟩) (Nat.le_succ _) _⟩
        rw [List.length_append]
        exact rk_set (rk_set (rk_set O7.out z47 (by decide)) s2 (by decide)) s3 (by decide)
end Go.Proofs.Ytdhnoaajdjkddaa
