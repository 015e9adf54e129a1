/- The exact laws of chapter 15, from the program's contracts (written by mk/wdisk.py). -/
import Derived.Test.YtjokajblihaphaaGreatDoorU20
import Derived.Test.YtjokajblihaphaaGreatDoorU29
import Derived.Test.YtjokajblihaphaaGreatDoorU27
import Derived.Test.YtjokajblihaphaaGreatDoorU22
import Derived.Test.YtjokajblihaphaaGreatDoorU3
namespace Go.Proofs.YtjokajblihaphaaGreatDoor
open Go.RowKit
set_option maxRecDepth 100000
set_option linter.unusedVariables false

/-- What the program must keep. -/
def DiskOkOk : Prop := ∀ (w : World) (v : Value) (d : PDisk), DiskAt w v d → DiskFit d → Calls Tryz.prog 75 #[v] w fun e w' => e = .returned (.bool (diskB d)) ∧ Below w.heap.size w w'
def SectorOfOk : Prop := ∀ (w : World) (v : Value) (d : PDisk) (x : Int), DiskAt w v d → DiskFit d → Calls Tryz.prog 145 #[v, .int .i64 x] w fun e w' => e = .returned (.tuple #[.string (sectorDk d x).1, .bool (sectorDk d x).2]) ∧ Below w.heap.size w w'
def DiskPutOk : Prop := ∀ (w : World) (v : Value) (d : PDisk) (x : Int) (s : ByteArray), DiskAt w v d → DiskFit d → s.size ≤ 1099511627776 → Calls Tryz.prog 168 #[v, .int .i64 x, .string s] w fun e w' => ∃ v', e = .returned (.tuple #[v', .bool (putDk d x s).2]) ∧ OwnDk w.heap.size w' v' (putDk d x s).1 ∧ Below w.heap.size w w'
def DiskSyncOk : Prop := ∀ (w : World) (v : Value) (d : PDisk), DiskAt w v d → DiskFit d → Calls Tryz.prog 126 #[v] w fun e w' => ∃ v', e = .returned (.tuple #[v', .bool (syncDk d).2]) ∧ OwnDk w.heap.size w' v' (syncDk d).1 ∧ Below w.heap.size w w'
theorem fit_zero : DiskFit zeroDk := ⟨by decide, by decide, (fun s hs => by cases hs), (fun p hp => by cases hp)⟩
theorem fit_new : DiskFit newDk := ⟨by decide, by decide, (fun s hs => by
  have : s = zeros64 := List.eq_of_mem_replicate hs
  rw [this, zeros64_size]; decide), (fun p hp => by cases hp)⟩
theorem fit_done {d : PDisk} (h : DiskFit d) (keep : Int) : DiskFit (doneDk keep d) := ⟨by show (doneN keep d.safe d.late d.late.length).length ≤ _; rw [doneN_len]; exact h.sl, Nat.zero_le _, doneN_size h.st h.lt _, (fun p hp => by cases hp)⟩
theorem fit_sync {d : PDisk} (h : DiskFit d) : DiskFit (syncDk d).1 := by
  unfold syncDk
  split
  · exact fit_zero
  · exact fit_done h _
theorem fit_crash {d : PDisk} (h : DiskFit d) (x : Int) : DiskFit (crashDk d x).1 := by
  unfold crashDk
  split
  · exact fit_zero
  · exact fit_done h _
theorem fit_put {d : PDisk} (h : DiskFit d) (x : Int) {s : ByteArray} (hs : s.size ≤ 1099511627776) : DiskFit (putDk d x s).1 := by
  unfold putDk
  split
  · exact fit_zero
  · rename_i hb
    split
    · exact h
    · have hl := diskB_len (d := d) (by simpa using hb)
      refine ⟨h.sl, ?_, h.st, fun p hp => ?_⟩
      · show (d.late ++ [(x, s)]).length ≤ _
        rw [List.length_append, List.length_singleton]; omega
      · rcases List.mem_append.mp hp with hp | hp
        · exact h.lt p hp
        · simp at hp; subst hp; exact hs
theorem same_dk (d : PDisk) : decide (d.safe = d.safe ∧ d.late = d.late) = true := by simp


theorem TwoFr.var {r s : Option Nat} {B size n B' size' n' e e' : Nat} {w w' : World} {v u : Value} {xs ys : List Value} (h : TwoFr r s w w') (o1 : w.ownsRow B e size v n xs) (o2 : w.ownsRow B' e' size' u n' ys) (h1 : v.ownBlock = r) (h2 : u.ownBlock = s)
    {j : Nat} {cs : Array Value} {t : TypeId} {fr : Nat × Nat} (hj : w.heap[j]? = some (.cells cs t fr)) (t1 : t ≠ e) (t2 : t ≠ e') : w'.heap[j]? = some (.cells cs t fr) := by
  refine (h.block j (lt_of_block hj) (fun er => ?_) (fun er => ?_)).trans hj
  · obtain ⟨c2, f2, k2⟩ := rk_kind o1 (h1.trans er.symm)
    rw [hj] at k2; cases k2; exact t1 rfl
  · obtain ⟨c2, f2, k2⟩ := rk_kind o2 (h2.trans er.symm)
    rw [hj] at k2; cases k2; exact t2 rfl

end Go.Proofs.YtjokajblihaphaaGreatDoor

/- The program's copy of a disk, and DiskPut. No condition. -/
namespace Go.Proofs.YtjokajblihaphaaGreatDoor
open Go.RowKit
set_option maxRecDepth 100000
set_option linter.unusedVariables false

/-- A disk in memory of the call's own, but that what is empty may have no room at all. -/
def OwnDz (B : Nat) (w : World) (v : Value) (d : PDisk) : Prop := ∃ sa sn sc la ln lc, v = .agg #[.slice sa sn sc, .slice la ln lc] ∧ OwnZ B 9 1 w (.slice sa sn sc) d.safe.length (strCells d.safe) ∧ OwnZ B 130 2 w (.slice la ln lc) d.late.length (putCells d.late)
theorem OwnZ.below {B e size n : Nat} {w w' : World} {v : Value} {xs : List Value} (h : OwnZ B e size w v n xs) (b : Below w.heap.size w w') : OwnZ B e size w' v n xs := by
  rcases h with h | h
  · exact .inl (ownsRow_below h b)
  · exact .inr h
theorem OwnZ.base {B B' e size n : Nat} {w : World} {v : Value} {xs : List Value} (h : OwnZ B e size w v n xs) (b : B' ≤ B) : OwnZ B' e size w v n xs := by
  rcases h with h | h
  · exact .inl (rk_base h b)
  · exact .inr h
theorem OwnZ.slice {B e size n : Nat} {w : World} {v : Value} {xs : List Value} (h : OwnZ B e size w v n xs) : ∃ a m c, v = .slice a m c := by
  rcases h with h | ⟨_, _, a, h⟩
  · exact rk_slice h
  · exact ⟨_, _, _, h⟩
theorem OwnZ.sv {B e size n : Nat} {w : World} {v : Value} {xs : List Value} (h : OwnZ B e size w v n xs) : Sv size w v xs := by
  rcases h with h | ⟨rfl, rfl, a, rfl⟩
  · exact sv_of_own h
  · exact ⟨some a, 0, 0, rfl, by simp, Nat.le_refl _, Nat.zero_le _, (fun e => by cases e), fun i hi => by simp at hi⟩
theorem OwnZ.set {B e size n b k : Nat} {w : World} {v u : Value} {xs : List Value} (h : OwnZ B e size w v n xs) {cs : Array Value} {t : TypeId} {fr : Nat × Nat} (hb : w.heap[b]? = some (.cells cs t fr)) (ht : t ≠ e) : OwnZ B e size (w.setCell ⟨b, k, none⟩ u) v n xs := by
  rcases h with h | h
  · exact .inl (rk_set h hb ht)
  · exact .inr h

set_option maxHeartbeats 1000000 in
set_option maxRecDepth 100000 in
theorem icopyOfDisk_any {w : World} {v : Value} {d : PDisk} (h : DiskAt w v d) (hf : DiskFit d) :
    Calls Tryz.prog 76 #[v] w fun e w' => ∃ v', e = .returned v' ∧ OwnDz w.heap.size w' v' d ∧ Below w.heap.size w w' := by
  obtain ⟨sa, sn, sc, la, ln, lc, rfl, h1, h2⟩ := h
  have f1 := hf.sl
  have f2 := hf.ll
  have H1 := (show Hid (Sv 1 w (.slice sa sn sc) (strCells d.safe)) from h1)
  have H2 := (show Hid (Sv 2 w (.slice la ln lc) (putCells d.late)) from h2)
  clear h1 h2 hf
  obtain ⟨w1, hw1⟩ : ∃ x, x = (w.alloc (.cells #[.slice sa sn sc, .slice la ln lc] 34)).alloc (.cells #[.slice none 0 0, .slice none 0 0] 34) := ⟨_, rfl⟩
  have b1 : Below w.heap.size w w1 := by rw [hw1]; exact ((Below.refl _ _).alloc (Nat.le_refl _) _).alloc (by simp) _
  have x1 : w1.heap[w.heap.size]? = some (.cells #[.slice sa sn sc, .slice la ln lc] 34 (0, 0)) := by rw [hw1, Below.heap_alloc _ _ _ (by simp)]; exact World.alloc_heap_new _ _
  have x2 : w1.heap[w.heap.size + 1]? = some (.cells #[.slice none 0 0, .slice none 0 0] 34 (0, 0)) := by
    rw [hw1]
    have := World.alloc_heap_new (w.alloc (.cells #[.slice sa sn sc, .slice la ln lc] 34)) (.cells #[.slice none 0 0, .slice none 0 0] 34)
    rwa [World.size_alloc] at this
  have X1 := (show Hid _ from x1)
  have X2 := (show Hid _ from x2)
  have B1 := (show Hid (Below w.heap.size w w1) from b1)
  obtain ⟨q1, q2, _, _⟩ := rk_two x1
  clear b1 x1 x2
  go_enter Tryz.func76, Tryz.ntmps76
  go_wp2_with fail
  rw [← hw1]
  clear hw1
  have BD := (show Hid (Below w1.heap.size w1 w1.drew) from below_drewN 1)
  go_region_with (first
    | (go_at_call 106
       refine (icopyS_any (H1.out.below (B1.out.trans (BD.out.mono B1.out.size))) (m := d.safe.length) (by rw [strCells_len]; omega) f1).mono ?_
       rintro e w2 ⟨v2, rfl, o2, b2⟩
       have B2 := (show Hid (Below w1.heap.size w1 w2) from BD.out.trans (b2.mono BD.out.size))
       obtain ⟨ta, tn, tc, rfl⟩ := o2.slice
       have y1 := (B2.out.block _ (lt_of_block X1.out)).trans X1.out
       obtain ⟨q1, q2, _, _⟩ := rk_two y1
       have O2 := (show Hid (OwnZ w.heap.size 9 1 w2 (.slice ta tn tc) d.safe.length (strCells d.safe)) from o2.base (Nat.le_trans B1.out.size BD.out.size))
       clear y1 o2 b2)
    | (go_at_call 107
       refine (icopyP_any (H2.out.below (B1.out.trans (B2.out.mono B1.out.size))) (m := d.late.length) (by rw [putCells_len]) f2).mono ?_
       rintro e w3 ⟨v3, rfl, o3, b3⟩
       have B3 := (show Hid (Below w1.heap.size w1 w3) from B2.out.trans (b3.mono B2.out.size))
       obtain ⟨ma, mn, mc, rfl⟩ := o3.slice
       have y2 := (B3.out.block _ (lt_of_block X2.out)).trans X2.out
       obtain ⟨r1, r2, r3, r4⟩ := rk_two y2
       have O3 := (show Hid (OwnZ w.heap.size 130 2 w3 (.slice ma mn mc) d.late.length (putCells d.late)) from o3.base (Nat.le_trans B1.out.size B2.out.size))
       have O23 := (show Hid (OwnZ w.heap.size 9 1 w3 (.slice ta tn tc) d.safe.length (strCells d.safe)) from O2.out.below b3)
       have Y2 := (show Hid _ from y2)
       clear y2 o3 b3 O2))
  all_goals go_wp2
  all_goals
    have s1 := rk_at (k := 0) (u := .slice ta tn tc) Y2.out
    have s2 := rk_at (k := 1) (u := .slice ma mn mc) s1
    refine bodyPost_ret (results_cell_row rfl _ _ (w.heap.size + 1) 34 #[.slice ta tn tc, .slice ma mn mc] (0, 0) _ rfl s2 Tryz.underlying34 rfl rfl) rfl ?_
    exact ⟨_, rfl, ⟨_, _, _, _, _, _, rfl, (O23.out.set (k := 0) Y2.out (by decide)).set (k := 1) s1 (by decide), (O3.out.set (k := 0) Y2.out (by decide)).set (k := 1) s1 (by decide)⟩, ((B1.out.trans (B3.out.mono B1.out.size)).setCell (Nat.le_succ _) _).setCell (Nat.le_succ _) _⟩

/-- What DiskPut answers, where what is empty may have no room. -/
def DiskPutOz : Prop := ∀ (w : World) (v : Value) (d : PDisk) (x : Int) (s : ByteArray), DiskAt w v d → DiskFit d → s.size ≤ 1099511627776 → Calls Tryz.prog 168 #[v, .int .i64 x, .string s] w fun e w' => ∃ v', e = .returned (.tuple #[v', .bool (putDk d x s).2]) ∧ OwnDz w.heap.size w' v' (putDk d x s).1 ∧ Below w.heap.size w w'

set_option maxHeartbeats 1000000 in
set_option maxRecDepth 100000 in
theorem idiskPut_any : DiskPutOz := by
  intro w v d x s h hf hsz
  have HD := (show Hid (DiskAt w v d) from h)
  have HF := (show Hid (DiskFit d) from hf)
  have f2 := hf.ll
  obtain ⟨sa, sn, sc, la, ln, lc, rfl, _, h2⟩ := h
  obtain ⟨_, _, e2, _, _, _⟩ := h2.put
  cases e2
  clear h2 hf
  obtain ⟨w1, hw1⟩ : ∃ x, x = (w.alloc (.cells #[.slice sa sn sc, .slice la d.late.length lc] 34)).alloc (.cells #[.slice none 0 0, .slice none 0 0] 34) := ⟨_, rfl⟩
  have b1 : Below w.heap.size w w1 := by rw [hw1]; exact ((Below.refl _ _).alloc (Nat.le_refl _) _).alloc (by simp) _
  have x1 : w1.heap[w.heap.size]? = some (.cells #[.slice sa sn sc, .slice la d.late.length lc] 34 (0, 0)) := by rw [hw1, Below.heap_alloc _ _ _ (by simp)]; exact World.alloc_heap_new _ _
  have x2 : w1.heap[w.heap.size + 1]? = some (.cells #[.slice none 0 0, .slice none 0 0] 34 (0, 0)) := by
    rw [hw1]
    have := World.alloc_heap_new (w.alloc (.cells #[.slice sa sn sc, .slice la d.late.length lc] 34)) (.cells #[.slice none 0 0, .slice none 0 0] 34)
    rwa [World.size_alloc] at this
  have X1 := (show Hid _ from x1)
  have X2 := (show Hid _ from x2)
  have B1 := (show Hid (Below w.heap.size w w1) from b1)
  clear b1 x1 x2
  go_enter Tryz.func168, Tryz.ntmps168
  go_wp2_with fail
  go_at_call 75
  rw [← hw1]
  refine (idiskOk_any (HD.out.below B1.out) HF.out).mono ?_
  rintro e w2 ⟨rfl, b2⟩
  clear hw1
  have B2 := (show Hid (Below w.heap.size w w2) from B1.out.trans (b2.mono B1.out.size))
  have y1 := (b2.block _ (lt_of_block X1.out)).trans X1.out
  have y2 := (b2.block _ (lt_of_block X2.out)).trans X2.out
  obtain ⟨q1, q2, _, _⟩ := rk_two y1
  obtain ⟨r1, r2, r3, r4⟩ := rk_two y2
  have Y1 := (show Hid _ from y1)
  have Y2 := (show Hid _ from y2)
  clear b2 y1 y2
  cases hb : diskB d
  · have HR : Hid (putDk d x s = (zeroDk, false)) := (show putDk d x s = (zeroDk, false) by rw [putDk, if_pos hb])
    clear hb
    go_wp2
    have z2 := rk_at (k := 1) (u := .slice none 0 0) (rk_at (k := 0) (u := .slice none 0 0) Y2.out)
    refine bodyPost_ret (disk_res rfl rfl rfl z2) rfl ?_
    rw [HR.out]
    exact ⟨_, rfl, ⟨_, _, _, _, _, _, rfl, .inl (World.ownsRow_nil _ _ _ _), .inl (World.ownsRow_nil _ _ _ _)⟩, ((B2.out.setCell (Nat.le_succ _) _).setCell (Nat.le_succ _) _)⟩
  · have HB := (show Hid (diskB d = true) from hb)
    clear hb
    have CC := (show Hid _ from icopyOfDisk_any (HD.out.below B2.out) HF.out)
    go_wp2_with fail
    go_at_call 76
    refine Calls.mono CC.out ?_
    rintro e w3 ⟨v3, rfl, o3, b3⟩
    clear CC
    have B3 := (show Hid (Below w.heap.size w w3) from B2.out.trans (b3.mono B2.out.size))
    obtain ⟨ta, tn, tc, ma, mn, mc, rfl, o31, o32⟩ := o3
    obtain ⟨w4, hw4⟩ : ∃ y, y = (w3.alloc (.cells #[.slice ta tn tc, .slice ma mn mc] 34)).alloc (.cells #[.int .i64 x, .string s] 130) := ⟨_, rfl⟩
    have b34 : Below w3.heap.size w3 w4 := by rw [hw4]; exact ((Below.refl _ _).alloc (Nat.le_refl _) _).alloc (by simp) _
    have x4 : w4.heap[w3.heap.size]? = some (.cells #[.slice ta tn tc, .slice ma mn mc] 34 (0, 0)) := by rw [hw4, Below.heap_alloc _ _ _ (by simp)]; exact World.alloc_heap_new _ _
    have x5 : w4.heap[w3.heap.size + 1]? = some (.cells #[.int .i64 x, .string s] 130 (0, 0)) := by
      rw [hw4]
      have := World.alloc_heap_new (w3.alloc (.cells #[.slice ta tn tc, .slice ma mn mc] 34)) (.cells #[.int .i64 x, .string s] 130)
      rwa [World.size_alloc] at this
    have b24 : Below w2.heap.size w2 w4 := b3.trans (b34.mono b3.size)
    have Y14 := (show Hid (w4.heap[w.heap.size]? = some (.cells #[.slice sa sn sc, .slice la d.late.length lc] 34 (0, 0))) from (b24.block _ (lt_of_block Y1.out)).trans Y1.out)
    have Y24 := (show Hid (w4.heap[w.heap.size + 1]? = some (.cells #[.slice none 0 0, .slice none 0 0] 34 (0, 0))) from (b24.block _ (lt_of_block Y2.out)).trans Y2.out)
    have B4 := (show Hid (Below w.heap.size w w4) from B3.out.trans (b34.mono B3.out.size))
    have O1 := (show Hid (OwnZ w.heap.size 9 1 w4 (.slice ta tn tc) d.safe.length (strCells d.safe)) from (o31.base B2.out.size).below b34)
    have O2 := (show Hid (OwnZ w.heap.size 130 2 w4 (.slice ma mn mc) d.late.length (putCells d.late)) from (o32.base B2.out.size).below b34)
    have X4 := (show Hid _ from x4)
    have X5 := (show Hid _ from x5)
    have hl3 : w.heap.size + 1 < w3.heap.size := Nat.lt_of_lt_of_le (lt_of_block Y2.out) b3.size
    have HNE := (show Hid (w3.heap.size ≠ w.heap.size + 1 ∧ w.heap.size + 1 < w3.heap.size) from ⟨by omega, hl3⟩)
    clear b3 o31 o32 b34 x4 x5 b24 Y1 Y2 X1 X2 hl3
    have CP := iputOk_any x s w4 hsz
    obtain ⟨r, hr⟩ : ∃ r, r = putB (x, s) := ⟨_, rfl⟩
    rw [← hr] at CP
    have CP' := (show Hid _ from CP)
    clear CP
    go_wp2_with fail
    go_at_call 105
    rw [← hw4]
    refine Calls.mono CP'.out ?_
    rintro e w5 ⟨rfl, b5⟩
    clear hw4 CP'
    have Y15 := (show Hid (w5.heap[w.heap.size]? = some (.cells #[.slice sa sn sc, .slice la d.late.length lc] 34 (0, 0))) from (b5.block _ (lt_of_block Y14.out)).trans Y14.out)
    have Y25 := (show Hid (w5.heap[w.heap.size + 1]? = some (.cells #[.slice none 0 0, .slice none 0 0] 34 (0, 0))) from (b5.block _ (lt_of_block Y24.out)).trans Y24.out)
    have X45 := (show Hid (w5.heap[w3.heap.size]? = some (.cells #[.slice ta tn tc, .slice ma mn mc] 34 (0, 0))) from (b5.block _ (lt_of_block X4.out)).trans X4.out)
    have X55 := (show Hid (w5.heap[w3.heap.size + 1]? = some (.cells #[.int .i64 x, .string s] 130 (0, 0))) from (b5.block _ (lt_of_block X5.out)).trans X5.out)
    have B5 := (show Hid (Below w.heap.size w w5) from B4.out.trans (b5.mono B4.out.size))
    have O15 := (show Hid (OwnZ w.heap.size 9 1 w5 (.slice ta tn tc) d.safe.length (strCells d.safe)) from O1.out.below b5)
    have O25 := (show Hid (OwnZ w.heap.size 130 2 w5 (.slice ma mn mc) d.late.length (putCells d.late)) from O2.out.below b5)
    obtain ⟨q1, q2, _, _⟩ := rk_two Y15.out
    obtain ⟨r1, r2, r3, r4⟩ := rk_two Y25.out
    obtain ⟨t1, t2, t3, t4⟩ := rk_two X45.out
    obtain ⟨u1, u2, u3, u4⟩ := rk_two X55.out
    have hne := HNE.out.1
    clear b5 Y14 Y24 X4 X5 B4 O1 O2
    have fin : Hid (∀ r, putDk d x s = (d, r) → ∃ v', (Ending.returned (.tuple #[.agg #[.slice ta tn tc, .slice ma mn mc], .bool r])) = Ending.returned (.tuple #[v', .bool (putDk d x s).2]) ∧ OwnDz w.heap.size ((w5.setCell ⟨w.heap.size + 1, 0, none⟩ (.slice ta tn tc)).setCell ⟨w.heap.size + 1, 1, none⟩ (.slice ma mn mc)) v' (putDk d x s).1 ∧ Below w.heap.size w ((w5.setCell ⟨w.heap.size + 1, 0, none⟩ (.slice ta tn tc)).setCell ⟨w.heap.size + 1, 1, none⟩ (.slice ma mn mc))) := fun r e => by
      rw [e]
      have z1 := rk_at (k := 0) (u := .slice ta tn tc) Y25.out
      exact ⟨_, rfl, ⟨_, _, _, _, _, _, rfl, (O15.out.set Y25.out (by decide)).set z1 (by decide), (O25.out.set Y25.out (by decide)).set z1 (by decide)⟩, (B5.out.setCell (p := ⟨w.heap.size + 1, 0, none⟩) (Nat.le_succ _) _).setCell (p := ⟨w.heap.size + 1, 1, none⟩) (Nat.le_succ _) _⟩
    have RS := (show Hid _ from rk_at (k := 1) (u := .slice ma mn mc) (rk_at (k := 0) (u := .slice ta tn tc) Y25.out))
    cases r
    · have HR : Hid (putDk d x s = (d, false)) := (show putDk d x s = (d, false) by
        rw [putDk, if_neg (by rw [HB.out]; simp), if_pos]
        have := hr.symm
        simp only [putB, Bool.and_eq_false_iff, decide_eq_false_iff_not] at this
        rcases this with h | h
        · exact .inl h
        · exact .inr (.inl h))
      clear hr
      go_wp2
      refine bodyPost_ret (disk_res rfl rfl rfl RS.out) rfl ?_
      exact fin.out false HR.out
    · obtain ⟨hi, e1⟩ := putB_yes hr.symm
      simp only at hi e1
      by_cases e2 : d.late.length = 200
      · have HR : Hid (putDk d x s = (d, false)) := (show putDk d x s = (d, false) by rw [putDk, if_neg (by rw [HB.out]; simp), if_pos (.inr (.inr e2))])
        have hn2 : 200 ≤ (d.late.length : Int) := by omega
        clear e1 e2 hr hi
        go_wp2
        refine bodyPost_ret (disk_res rfl rfl rfl RS.out) rfl ?_
        exact fin.out false HR.out
      · have HR : Hid (putDk d x s = (⟨d.safe, d.late ++ [(x, s)]⟩, true)) := (show putDk d x s = (⟨d.safe, d.late ++ [(x, s)]⟩, true) by rw [putDk, if_neg (by rw [HB.out]; simp), if_neg (by rw [hi]; simp [e1, e2])])
        have hl2 := (diskB_len HB.out).2
        have hn2 : ¬ (200 ≤ (d.late.length : Int)) := by omega
        clear e1 e2 fin RS hr hi hl2
        obtain ⟨iP, hiP, hp0, hp1, hp2⟩ := info_parts Tryz.infoPut
        obtain ⟨w6, hw6⟩ : ∃ y, y = w5.alloc (.cells #[.int .i64 x, .string s] 130) := ⟨_, rfl⟩
        have b6 : Below w5.heap.size w5 w6 := by rw [hw6]; exact (Below.refl _ _).alloc (Nat.le_refl _) _
        have x6 : w6.heap[w5.heap.size]? = some (.cells #[.int .i64 x, .string s] 130 (0, 0)) := by rw [hw6]; exact World.alloc_heap_new _ _
        have SV := (show Hid (Sv 2 w6 (.slice (some ⟨w5.heap.size, 0, none⟩) 1 1) (putCells [(x, s)])) from sv_onePut x6)
        have O26 := (show Hid (OwnZ w.heap.size 130 2 w6 (.slice ma mn mc) d.late.length (putCells d.late)) from O25.out.below b6)
        have O16 := (show Hid (OwnZ w.heap.size 9 1 w6 (.slice ta tn tc) d.safe.length (strCells d.safe)) from O15.out.below b6)
        have B6 := (show Hid (Below w.heap.size w w6) from B5.out.trans (b6.mono B5.out.size))
        have HZ := (show Hid (w6.heap[w3.heap.size]? = some (.cells #[.slice ta tn tc, .slice ma mn mc] 34 (0, 0)) ∧ w6.heap[w.heap.size + 1]? = some (.cells #[.slice none 0 0, .slice none 0 0] 34 (0, 0))) from ⟨(b6.block _ (lt_of_block X45.out)).trans X45.out, (b6.block _ (lt_of_block Y25.out)).trans Y25.out⟩)
        clear b6 x6
        go_wp2_with (at_builtin
                     rw [← hw6]
                     refine wpList_appZ _ rfl (.tmp 30) (.tmp 32) 32 rfl w.heap.size 130 iP _ 2 24 Tryz.underlying32 hiP hp0 hp1 hp2 rfl (by decide) (.slice ma mn mc) d.late.length (putCells d.late) ⟨w5.heap.size, 0, none⟩ 1 1 (putCells [(x, s)]) rfl rfl O26.out SV.out (by decide) (put_oneCell _) (by omega) (by unfold maxLen; omega) B6.out.size ?_
                     intro v7 w7 row o7 g7
                     clear hw6
                     rw [← putCells_app] at o7
                     have o17 := g7.rowZ O16.out (by decide)
                     have z47 := g7.keep HZ.out.1 (by decide)
                     have z27 := g7.keep HZ.out.2 (by decide)
                     have b7 : Below w.heap.size w w7 := g7.below B6.out B6.out.size
                     obtain ⟨a7, n7, c7, rfl⟩ := rk_slice o7
                     obtain ⟨t1, t2, t3, t4⟩ := rk_two z47
                     obtain ⟨r1, r2, r3, r4⟩ := rk_two z27
                     have O7 := (show Hid (w7.ownsRow w.heap.size 130 2 (.slice a7 n7 c7) (d.late.length + 1) (putCells (d.late ++ [(x, s)]))) from o7)
                     have O17 := (show Hid (OwnZ w.heap.size 9 1 w7 (.slice ta tn tc) d.safe.length (strCells d.safe)) from o17)
                     have HZ7 := (show Hid (w7.heap[w3.heap.size]? = some (.cells #[.slice ta tn tc, .slice ma mn mc] 34 (0, 0)) ∧ w7.heap[w.heap.size + 1]? = some (.cells #[.slice none 0 0, .slice none 0 0] 34 (0, 0))) from ⟨z47, z27⟩)
                     have B7 := (show Hid (Below w.heap.size w w7) from b7)
                     clear o7 g7 o17 z47 z27 b7)
        obtain ⟨z47, z27⟩ := HZ7.out
        have hl3 := HNE.out.2
        have s1 := rk_at (k := 1) (u := .slice a7 n7 c7) z47
        have s2 := (Below.heap_setCell w7 ⟨w3.heap.size, 1, none⟩ (.slice a7 n7 c7) (w.heap.size + 1) (by show w.heap.size + 1 ≠ w3.heap.size; omega)).trans z27
        have s3 := rk_at (k := 0) (u := .slice ta tn tc) s2
        have s4 := rk_at (k := 1) (u := .slice a7 n7 c7) s3
        refine bodyPost_ret (disk_res rfl rfl rfl s4) rfl ?_
        rw [HR.out]
        refine ⟨_, rfl, ⟨_, _, _, _, _, _, rfl, ((O17.out.set z47 (by decide)).set s2 (by decide)).set s3 (by decide), .inl ?_⟩, ((B7.out.setCell (p := ⟨w3.heap.size, 1, none⟩) (by show w.heap.size ≤ w3.heap.size; omega) _).setCell (p := ⟨w.heap.size + 1, 0, none⟩) (Nat.le_succ _) _).setCell (p := ⟨w.heap.size + 1, 1, none⟩) (Nat.le_succ _) _⟩
        rw [List.length_append]
        exact rk_set (rk_set (rk_set O7.out z47 (by decide)) s2 (by decide)) s3 (by decide)
end Go.Proofs.YtjokajblihaphaaGreatDoor

/- Marks of a disk whose rows may be empty without room. No condition. -/
namespace Go.Proofs.YtjokajblihaphaaGreatDoor
open Go.RowKit
set_option maxRecDepth 100000
set_option linter.unusedVariables false

/-- The block that a slice can be written through. -/
def zB : Value → Option Nat
  | .slice (some a) _ (_ + 1) => some a.block
  | _ => none
/-- A row that is empty and has no room, or one of the call's own. -/
def OwnY (B e size : Nat) (w : World) (v : Value) (n : Nat) (xs : List Value) : Prop :=
  (n = 0 ∧ xs = [] ∧ ∃ a, v = .slice a 0 0 ∧ (a = none → True)) ∨ (w.ownsRow B e size v n xs ∧ ∃ g m c, v = .slice (some ⟨g, 0, none⟩) m (c + 1))
theorem OwnY.of {B e size n : Nat} {w : World} {v : Value} {xs : List Value} (h : OwnZ B e size w v n xs) : OwnY B e size w v n xs := by
  rcases h with h | ⟨h1, h2, a, h3⟩
  · have h' := h
    obtain ⟨hl, ⟨hv, h0⟩ | ⟨g, cap, cur, hv, hB, hh, hn, hm, hs, ht⟩⟩ := h'
    · subst h0
      exact .inl ⟨rfl, List.length_eq_zero_iff.mp (by simpa using hl), none, hv, fun _ => trivial⟩
    · cases cap with
      | zero =>
        obtain rfl : n = 0 := by omega
        exact .inl ⟨rfl, List.length_eq_zero_iff.mp (by simpa using hl), _, hv, fun _ => trivial⟩
      | succ c => exact .inr ⟨h, g, n, c, hv⟩
  · exact .inl ⟨h1, h2, some a, h3, fun _ => trivial⟩
theorem OwnY.below {B e size n : Nat} {w w' : World} {v : Value} {xs : List Value} (h : OwnY B e size w v n xs) (b : Below w.heap.size w w') : OwnY B e size w' v n xs := by
  rcases h with h | ⟨h, k⟩
  · exact .inl h
  · exact .inr ⟨ownsRow_below h b, k⟩
theorem OwnY.sv {B e size n : Nat} {w : World} {v : Value} {xs : List Value} (h : OwnY B e size w v n xs) : Sv size w v xs := by
  rcases h with ⟨rfl, rfl, a, rfl, _⟩ | ⟨h, _⟩
  · exact ⟨a, 0, 0, rfl, by simp, Nat.le_refl _, Nat.zero_le _, fun _ => rfl, fun i hi => by simp at hi⟩
  · exact sv_of_own h
theorem OwnY.lt {B e size n : Nat} {w : World} {v : Value} {xs : List Value} (h : OwnY B e size w v n xs) (j : Nat) (hj : zB v = some j) : B ≤ j ∧ j < w.heap.size := by
  rcases h with ⟨_, _, a, rfl, _⟩ | ⟨h, g, m, c, rfl⟩
  · cases a <;> cases hj
  · cases hj; exact World.ownsRow.lt h _ rfl
theorem OwnY.kind {B e size n : Nat} {w : World} {v : Value} {xs : List Value} (h : OwnY B e size w v n xs) {j : Nat} (hj : zB v = some j) : ∃ cs fr, w.heap[j]? = some (.cells cs e fr) := by
  rcases h with ⟨_, _, a, rfl, _⟩ | ⟨h, g, m, c, rfl⟩
  · cases a <;> cases hj
  · cases hj; exact rk_kind h rfl
theorem TwoFr.rowY {r s : Option Nat} {B e size n : Nat} {w w' : World} {v : Value} {xs : List Value} (h : TwoFr r s w w') (ho : OwnY B e size w v n xs) (hr : ∀ j, zB v = some j → some j ≠ r) (hs : ∀ j, zB v = some j → some j ≠ s) : OwnY B e size w' v n xs := by
  rcases ho with ho | ⟨ho, g, m, c, rfl⟩
  · exact .inl ho
  · refine .inr ⟨h.row ho (fun j e => ?_) (fun j e => ?_), g, m, c, rfl⟩
    · cases e; exact hr g rfl
    · cases e; exact hs g rfl
theorem TwoFr.varY {r s : Option Nat} {B size n B' size' n' e e' : Nat} {w w' : World} {v u : Value} {xs ys : List Value} (h : TwoFr r s w w') (o1 : OwnY B e size w v n xs) (o2 : OwnY B' e' size' w u n' ys) (h1 : zB v = r) (h2 : zB u = s)
    {j : Nat} {cs : Array Value} {t : TypeId} {fr : Nat × Nat} (hj : w.heap[j]? = some (.cells cs t fr)) (t1 : t ≠ e) (t2 : t ≠ e') : w'.heap[j]? = some (.cells cs t fr) := by
  refine (h.block j (lt_of_block hj) (fun er => ?_) (fun er => ?_)).trans hj
  · obtain ⟨c2, f2, k2⟩ := o1.kind (h1.trans er.symm)
    rw [hj] at k2; cases k2; exact t1 rfl
  · obtain ⟨c2, f2, k2⟩ := o2.kind (h2.trans er.symm)
    rw [hj] at k2; cases k2; exact t2 rfl

set_option maxHeartbeats 2000000 in
set_option maxRecDepth 100000 in
theorem markStringS_Y {B : Nat} {v : Value} {rs : List ByteArray} {w : World} (h : OwnY B 9 1 w v rs.length (strCells rs)) (k0 : Int) (h0 : 0 ≤ k0) (hk : k0 ≤ 4000000) (hn : rs.length ≤ 4000000) :
    Calls Tryz.prog 51 #[v, .int .i64 k0] w fun e w' => e = .returned (.int .i64 (k0 + rs.length)) ∧ OwnY B 9 1 w' v rs.length (strCells (markStrs k0 rs.length)) ∧ w.grownBy w' (zB v) := by
  rcases h with ⟨hz, hx, a, rfl, ha⟩ | ⟨h, g, m, c, rfl⟩
  · have hr : rs = [] := List.length_eq_zero_iff.mp hz
    subst hr
    have hb : zB (.slice a 0 0) = none := by cases a <;> rfl
    rw [hb]
    go_enter Tryz.func51, Tryz.ntmps51
    go_wp2
    go_loop [1, 5] (fun q i => i = .int .i64 0 ∧ q = .int .i64 k0) (fun _ _ => 0)
    case atStart => exact ⟨rfl, rfl⟩
    case round =>
      obtain ⟨rfl, rfl⟩ := hrel
      go_wp2
      go_ret
      exact ⟨ret_int (by simp), .inl ⟨rfl, rfl, a, rfl, ha⟩, World.grownBy.refl _ _⟩
  · refine (markStringS_any h k0 h0 hk hn).mono ?_
    rintro e w' ⟨rfl, o, gr⟩
    exact ⟨rfl, .inr ⟨o, g, m, c, rfl⟩, gr⟩

set_option maxHeartbeats 2000000 in
set_option maxRecDepth 100000 in
theorem markPutS_Y {B : Nat} {v : Value} {rs : List (Int × ByteArray)} {w : World} (h : OwnY B 130 2 w v rs.length (putCells rs)) (k0 : Int) (h0 : 0 ≤ k0) (hk : k0 ≤ 4000000) (hn : rs.length ≤ 4000000) :
    Calls Tryz.prog 52 #[v, .int .i64 k0] w fun e w' => e = .returned (.int .i64 (k0 + 2 * rs.length)) ∧ OwnY B 130 2 w' v rs.length (putCells (markPuts k0 rs.length)) ∧ w.grownBy w' (zB v) := by
  rcases h with ⟨hz, hx, a, rfl, ha⟩ | ⟨h, g, m, c, rfl⟩
  · have hr : rs = [] := List.length_eq_zero_iff.mp hz
    subst hr
    have hb : zB (.slice a 0 0) = none := by cases a <;> rfl
    rw [hb]
    go_enter Tryz.func52, Tryz.ntmps52
    go_wp2
    go_loop [1, 5] (fun q i => i = .int .i64 0 ∧ q = .int .i64 k0) (fun _ _ => 0)
    case atStart => exact ⟨rfl, rfl⟩
    case round =>
      obtain ⟨rfl, rfl⟩ := hrel
      go_wp2
      go_ret
      exact ⟨ret_int (by simp), .inl ⟨rfl, rfl, a, rfl, ha⟩, World.grownBy.refl _ _⟩
  · refine (markPutS_any h k0 h0 hk hn).mono ?_
    rintro e w' ⟨rfl, o, gr⟩
    exact ⟨rfl, .inr ⟨o, g, m, c, rfl⟩, gr⟩
theorem OwnY.other {B e size n B' e' size' n' : Nat} {w w' : World} {v u : Value} {xs ys : List Value} (h : OwnY B e size w v n xs) (g : w.grownBy w' (zB v)) (o : OwnY B' e' size' w u n' ys) (ht : e ≠ e') : OwnY B' e' size' w' u n' ys := by
  rcases o with o | ⟨o, k⟩
  · exact .inl o
  · exact .inr ⟨rk_type o g (fun r er => by obtain ⟨c, f, hh⟩ := h.kind er; exact ⟨c, e, f, hh, ht⟩), k⟩

set_option maxHeartbeats 2000000 in
set_option maxRecDepth 100000 in
theorem markDisk_Y {B : Nat} {d : PDisk} {w : World} {sa : Option Addr} {sn sc : Nat} {la : Option Addr} {ln lc : Nat} (h1 : OwnY B 9 1 w (.slice sa sn sc) d.safe.length (strCells d.safe)) (h2 : OwnY B 130 2 w (.slice la ln lc) d.late.length (putCells d.late)) (hf : DiskFit d) :
    Calls Tryz.prog 26 #[.agg #[.slice sa sn sc, .slice la ln lc], .int .i64 1] w fun e w' => e = .returned (.int .i64 (1 + d.safe.length + 2 * d.late.length)) ∧ OwnY B 9 1 w' (.slice sa sn sc) d.safe.length (strCells (markStrs 1 d.safe.length)) ∧ OwnY B 130 2 w' (.slice la ln lc) d.late.length (putCells (markPuts (1 + d.safe.length) d.late.length)) ∧
      TwoFr (zB (Value.slice sa sn sc)) (zB (Value.slice la ln lc)) w w' := by
  have f1 := hf.sl
  have f2 := hf.ll
  have H1 := (show Hid (OwnY B 9 1 w (.slice sa sn sc) d.safe.length (strCells d.safe)) from h1)
  have H2 := (show Hid (OwnY B 130 2 w (.slice la ln lc) d.late.length (putCells d.late)) from h2)
  clear h1 h2 hf
  obtain ⟨w1, hw1⟩ : ∃ x, x = w.alloc (.cells #[.slice sa sn sc, .slice la ln lc] 34) := ⟨_, rfl⟩
  have b1 : Below w.heap.size w w1 := by rw [hw1]; exact (Below.refl _ _).alloc (Nat.le_refl _) _
  have x1 : w1.heap[w.heap.size]? = some (.cells #[.slice sa sn sc, .slice la ln lc] 34 (0, 0)) := by rw [hw1]; exact World.alloc_heap_new _ _
  have X1 := (show Hid _ from x1)
  clear x1
  go_enter Tryz.func26, Tryz.ntmps26
  go_wp2_with fail
  go_at_call 51
  rw [← hw1]
  refine (markStringS_Y (H1.out.below b1) 1 (by decide) (by decide) (by omega)).mono ?_
  rintro x w2 ⟨rfl, o2, g2⟩
  clear hw1
  have hne : some w.heap.size ≠ zB (Value.slice sa sn sc) := fun e => by
    have := (H1.out.lt w.heap.size e.symm).2
    omega
  have y1 := (g2.block _ (lt_of_block X1.out) hne).trans X1.out
  obtain ⟨_, c2, _, _⟩ := rk_two y1
  have p2 : OwnY B 130 2 w2 (.slice la ln lc) d.late.length (putCells d.late) := (H1.out.below b1).other g2 (H2.out.below b1) (by decide)
  have O2 := (show Hid (OwnY B 9 1 w2 (.slice sa sn sc) d.safe.length (strCells (markStrs 1 d.safe.length))) from o2)
  have P2 := (show Hid (OwnY B 130 2 w2 (.slice la ln lc) d.late.length (putCells d.late)) from p2)
  have G2 := (show Hid (w1.grownBy w2 (zB (Value.slice sa sn sc))) from g2)
  have B1 := (show Hid (Below w.heap.size w w1) from b1)
  clear o2 p2 g2 y1 b1 X1
  go_wp2_with fail
  go_at_call 52
  refine (markPutS_Y P2.out (1 + d.safe.length) (by omega) (by omega) (by omega)).mono ?_
  rintro x w3 ⟨rfl, o3, g3⟩
  have p3 : OwnY B 9 1 w3 (.slice sa sn sc) d.safe.length (strCells (markStrs 1 d.safe.length)) := by
    have hl : (markStrs 1 d.safe.length).length = d.safe.length := markStrs_len _ _
    exact P2.out.other g3 O2.out (by decide)
  have fr : TwoFr (zB (Value.slice sa sn sc)) (zB (Value.slice la ln lc)) w w3 := ⟨g3.os.trans (G2.out.os.trans B1.out.os), g3.tape.trans (G2.out.tape.trans B1.out.tape), g3.output.trans (G2.out.output.trans B1.out.output), Nat.le_trans B1.out.size (Nat.le_trans G2.out.size g3.size),
    fun j hj h1 h2 => (g3.block j (Nat.lt_of_lt_of_le hj (Nat.le_trans B1.out.size G2.out.size)) h2).trans ((G2.out.block j (Nat.lt_of_lt_of_le hj B1.out.size) h1).trans (B1.out.block j hj))⟩
  have O3 := (show Hid (OwnY B 130 2 w3 (.slice la ln lc) d.late.length (putCells (markPuts (1 + d.safe.length) d.late.length))) from o3)
  have P3 := (show Hid (OwnY B 9 1 w3 (.slice sa sn sc) d.safe.length (strCells (markStrs 1 d.safe.length))) from p3)
  have FR := (show Hid (TwoFr (zB (Value.slice sa sn sc)) (zB (Value.slice la ln lc)) w w3) from fr)
  clear o3 p3 fr g3
  go_wp2
  go_ret
  exact ⟨rfl, P3.out, O3.out, FR.out⟩
end Go.Proofs.YtjokajblihaphaaGreatDoor

/- What a law on disks and bytes holds while it goes on, by lists. No condition. -/
namespace Go.Proofs.YtjokajblihaphaaGreatDoor
open Go.RowKit
set_option maxRecDepth 100000
set_option linter.unusedVariables false

/-- A disk of the call's own; what is empty may have no room. -/
def OwnDy (B : Nat) (w : World) (v : Value) (d : PDisk) : Prop := ∃ sa sn sc la ln lc, v = .agg #[.slice sa sn sc, .slice la ln lc] ∧ OwnY B 9 1 w (.slice sa sn sc) d.safe.length (strCells d.safe) ∧ OwnY B 130 2 w (.slice la ln lc) d.late.length (putCells d.late)
theorem OwnDy.of {B : Nat} {w : World} {v : Value} {d : PDisk} (h : OwnDz B w v d) : OwnDy B w v d := by
  obtain ⟨sa, sn, sc, la, ln, lc, e, h1, h2⟩ := h
  exact ⟨sa, sn, sc, la, ln, lc, e, .of h1, .of h2⟩
theorem OwnDz.of {B : Nat} {w : World} {v : Value} {d : PDisk} (h : OwnDk B w v d) : OwnDz B w v d := by
  obtain ⟨sa, sn, sc, la, ln, lc, e, h1, h2⟩ := h
  exact ⟨sa, sn, sc, la, ln, lc, e, .inl h1, .inl h2⟩
theorem OwnDy.at {B : Nat} {w : World} {v : Value} {d : PDisk} (h : OwnDy B w v d) : DiskAt w v d := by
  obtain ⟨sa, sn, sc, la, ln, lc, e, h1, h2⟩ := h
  exact ⟨sa, sn, sc, la, ln, lc, e, h1.sv, h2.sv⟩
theorem OwnDy.below {B : Nat} {w w' : World} {v : Value} {d : PDisk} (h : OwnDy B w v d) (b : Below w.heap.size w w') : OwnDy B w' v d := by
  obtain ⟨sa, sn, sc, la, ln, lc, e, h1, h2⟩ := h
  exact ⟨sa, sn, sc, la, ln, lc, e, h1.below b, h2.below b⟩
theorem OwnY.row {row : Option Nat} {B e size n : Nat} {w w' : World} {v : Value} {xs : List Value} (h : w.grownBy w' row) (ho : OwnY B e size w v n xs) (hr : ∀ j, zB v = some j → some j ≠ row) : OwnY B e size w' v n xs := by
  rcases ho with ho | ⟨ho, g, m, c, rfl⟩
  · exact .inl ho
  · refine .inr ⟨ho.kept h (.inr fun er => ?_), g, m, c, rfl⟩
    exact hr g rfl er
/-- A block of another kind is turned. -/
theorem OwnDy.turned {B : Nat} {w w' : World} {v : Value} {d : PDisk} {r : Option Nat} (h : OwnDy B w v d) (g : w.grownBy w' r) (hr : ∀ j, r = some j → ∃ cs t fr, w.heap[j]? = some (.cells cs t fr) ∧ t ≠ 9 ∧ t ≠ 130) : OwnDy B w' v d := by
  obtain ⟨sa, sn, sc, la, ln, lc, e, h1, h2⟩ := h
  refine ⟨sa, sn, sc, la, ln, lc, e, h1.row g (fun j hj er => ?_), h2.row g (fun j hj er => ?_)⟩
  · obtain ⟨cs, t, fr, k1, k2, k3⟩ := hr j er.symm
    obtain ⟨c2, f2, k⟩ := h1.kind hj
    rw [k1] at k; cases k; exact k2 rfl
  · obtain ⟨cs, t, fr, k1, k2, k3⟩ := hr j er.symm
    obtain ⟨c2, f2, k⟩ := h2.kind hj
    rw [k1] at k; cases k; exact k3 rfl
/-- The blocks of a disk's rows lie below 'hi'. -/
def hiD (hi : Nat) (v : Value) : Prop := ∀ a b, v = .agg #[a, b] → (∀ j, zB a = some j → j < hi) ∧ (∀ j, zB b = some j → j < hi)
theorem OwnDy.hi {B : Nat} {w : World} {v : Value} {d : PDisk} (h : OwnDy B w v d) : hiD w.heap.size v := by
  obtain ⟨sa, sn, sc, la, ln, lc, e, h1, h2⟩ := h
  intro a b e'
  rw [e] at e'; cases e'
  exact ⟨fun j hj => (h1.lt j hj).2, fun j hj => (h2.lt j hj).2⟩
/-- A disk as it is marked. -/
def markDk (d : PDisk) : PDisk := ⟨markStrs 1 d.safe.length, markPuts (1 + d.safe.length) d.late.length⟩

/-- The listed blocks, disks and rows of bytes, in a world that is w with more. -/
structure Lw (w : World) (L : List (Nat × Array Value × TypeId)) (R : List (Nat × Nat × Value × PDisk)) (Y : List (Nat × Nat × Value × List Int)) (W : World) : Prop where
  hl : Hl w L W
  rows : ∀ r ∈ R, OwnDy r.1 W r.2.2.1 r.2.2.2 ∧ hiD r.2.1 r.2.2.1
  bys : ∀ y ∈ Y, Own y.1 5 .u8 W y.2.2.1 y.2.2.2 ∧ ∀ k, y.2.2.1.ownBlock = some k → k < y.2.1
theorem lawK_open1 : (0 : Nat) = 0 := rfl
section
variable {w : World} {L : List (Nat × Array Value × TypeId)} {R : List (Nat × Nat × Value × PDisk)} {Y : List (Nat × Nat × Value × List Int)} {W W' : World}
theorem Lw.refl (w : World) : Lw w [] [] [] w := ⟨.refl w, fun r hr => by simp at hr, fun r hr => by simp at hr⟩
theorem Lw.below (h : Lw w L R Y W) (b : Below W.heap.size W W') : Lw w L R Y W' := ⟨h.hl.below b, fun r hr => ⟨(h.rows r hr).1.below b, (h.rows r hr).2⟩, fun y hy => ⟨(h.bys y hy).1.below b, (h.bys y hy).2⟩⟩
theorem Lw.new (h : Lw w L R Y W) (cs : Array Value) (t : TypeId) : Lw w ((W.heap.size, cs, t) :: L) R Y (W.alloc (.cells cs t)) := by
  have hb : Below W.heap.size W (W.alloc (.cells cs t)) := (Below.refl _ _).alloc (Nat.le_refl _) _
  exact ⟨h.hl.new cs t, (h.below hb).rows, (h.below hb).bys⟩
theorem Lw.add {lo : Nat} {v : Value} {d : PDisk} (h : Lw w L R Y W) (o : OwnDy lo W v d) : Lw w L ((lo, W.heap.size, v, d) :: R) Y W := ⟨h.hl, fun r hr => by
    rcases List.mem_cons.mp hr with rfl | hr
    · exact ⟨o, o.hi⟩
    · exact h.rows r hr, h.bys⟩
theorem Lw.addY {lo : Nat} {v : Value} {xs : List Int} (h : Lw w L R Y W) (o : Own lo 5 .u8 W v xs) : Lw w L R ((lo, W.heap.size, v, xs) :: Y) W := ⟨h.hl, h.rows, fun r hr => by
    rcases List.mem_cons.mp hr with rfl | hr
    · exact ⟨o, fun k hk => (o.lt k hk).2⟩
    · exact h.bys r hr⟩
theorem Lw.tail {p : Nat × Array Value × TypeId} (h : Lw w (p :: L) R Y W) : Lw w L R Y W := ⟨h.hl.tail, h.rows, h.bys⟩
theorem Lw.sub {L' : List (Nat × Array Value × TypeId)} {R' : List (Nat × Nat × Value × PDisk)} {Y' : List (Nat × Nat × Value × List Int)} (h : Lw w L R Y W) (h1 : ∀ p ∈ L', p ∈ L) (h2 : ∀ p ∈ R', p ∈ R) (h3 : ∀ p ∈ Y', p ∈ Y) : Lw w L' R' Y' W := ⟨h.hl.sub h1, fun r hr => h.rows r (h2 r hr), fun r hr => h.bys r (h3 r hr)⟩
/-- A block of a struct's is turned; what is listed besides it is kept. -/
theorem Lw.past (h : Lw w L R Y W) {N k : Nat} {u : Value} {cs : Array Value} {t : TypeId} {fr : Nat × Nat} (hN : W.heap[N]? = some (.cells cs t fr)) (hw : w.heap.size ≤ N) (hL : ∀ p ∈ L, p.1 ≠ N) (t1 : t ≠ 9) (t2 : t ≠ 130) (t3 : t ≠ 5) : Lw w L R Y (W.setCell ⟨N, k, none⟩ u) :=
  ⟨h.hl.past (grown_setCell _ _ _ _) (fun r e => by cases e; exact ⟨hw, hL⟩),
   fun r hr => ⟨(h.rows r hr).1.turned (grown_setCell _ _ _ _) (fun j e => by cases e; exact ⟨_, _, _, hN, t1, t2⟩), (h.rows r hr).2⟩,
   fun y hy => ⟨rk_set (h.bys y hy).1 hN t3, (h.bys y hy).2⟩⟩
theorem Lw.set {N : Nat} {cs : Array Value} {t : TypeId} (h : Lw w ((N, cs, t) :: L) R Y W) (hw : w.heap.size ≤ N) (hL : ∀ p ∈ L, p.1 ≠ N) (t1 : t ≠ 9) (t2 : t ≠ 130) (t3 : t ≠ 5) (k : Nat) (u : Value) : Lw w ((N, cs.setIfInBounds k u, t) :: L) R Y (W.setCell ⟨N, k, none⟩ u) := by
  have h' := h.tail.past (k := k) (u := u) h.hl.at0 hw hL t1 t2 t3
  exact ⟨h.hl.set hw hL k u, h'.rows, h'.bys⟩
theorem Lw.set2 {N : Nat} {x y : Value} (h : Lw w ((N, #[x, y], 34) :: L) R Y W) (hw : w.heap.size ≤ N) (hL : ∀ p ∈ L, p.1 ≠ N) (a b : Value) : Lw w ((N, #[a, b], 34) :: L) R Y ((W.setCell ⟨N, 0, none⟩ a).setCell ⟨N, 1, none⟩ b) :=
  (h.set hw hL (by decide) (by decide) (by decide) 0 a).set hw hL (by decide) (by decide) (by decide) 1 b
/-- A disk is marked: the others are kept. -/
theorem Lw.mkD {lo hi : Nat} {v : Value} {d : PDisk} (h : Lw w L ((lo, hi, v, d) :: R) Y W) (hf : DiskFit d) (hlo : w.heap.size ≤ lo) (hR : ∀ r ∈ R, r.2.1 ≤ lo ∨ hi ≤ r.1) (hL : ∀ p ∈ L, p.2.2 ≠ 9 ∧ p.2.2 ≠ 130) :
    Calls Tryz.prog 26 #[v, .int .i64 1] W fun e W' => e = .returned (.int .i64 (1 + d.safe.length + 2 * d.late.length)) ∧ Lw w L ((lo, hi, v, markDk d) :: R) Y W' := by
  obtain ⟨⟨sa, sn, sc, la, ln, lc, e, h1, h2⟩, hh⟩ := h.rows _ (List.mem_cons_self ..)
  simp only at e h1 h2 hh
  subst e
  obtain ⟨g1, g2⟩ := hh _ _ rfl
  refine (markDisk_Y h1 h2 hf).mono ?_
  rintro e W' ⟨rfl, m1, m2, fr⟩
  refine ⟨rfl, ⟨h.hl.1.trans (fr.below h.hl.1.size (fun j e => by have := (h1.lt j e).1; omega) (fun j e => by have := (h2.lt j e).1; omega)), fun p hp => fr.varY h1 h2 rfl rfl (h.hl.2 p hp) (hL p hp).1 (hL p hp).2⟩, fun r hr => ?_, fun y hy => ?_⟩
  · rcases List.mem_cons.mp hr with rfl | hr'
    · refine ⟨⟨sa, sn, sc, la, ln, lc, rfl, ?_, ?_⟩, hh⟩
      · show OwnY _ _ _ _ _ (markStrs 1 d.safe.length).length _
        rw [markStrs_len]; exact m1
      · show OwnY _ _ _ _ _ (markPuts (1 + d.safe.length) d.late.length).length _
        rw [markPuts_len]; exact m2
    · obtain ⟨⟨xa, xn, xc, ya, yn, yc, e, o1, o2⟩, ho⟩ := h.rows r (List.mem_cons_of_mem _ hr')
      obtain ⟨k1, k2⟩ := ho _ _ e
      refine ⟨⟨xa, xn, xc, ya, yn, yc, e, fr.rowY o1 (fun j e e2 => ?_) (fun j e e2 => ?_), fr.rowY o2 (fun j e e2 => ?_) (fun j e e2 => ?_)⟩, ho⟩
      · rcases hR r hr' with q | q
        · have := k1 j e; have := (h1.lt j e2.symm).1; omega
        · have := (o1.lt j e).1; have := g1 j e2.symm; omega
      · rcases hR r hr' with q | q
        · have := k1 j e; have := (h2.lt j e2.symm).1; omega
        · have := (o1.lt j e).1; have := g2 j e2.symm; omega
      · rcases hR r hr' with q | q
        · have := k2 j e; have := (h1.lt j e2.symm).1; omega
        · have := (o2.lt j e).1; have := g1 j e2.symm; omega
      · rcases hR r hr' with q | q
        · have := k2 j e; have := (h2.lt j e2.symm).1; omega
        · have := (o2.lt j e).1; have := g2 j e2.symm; omega
  · refine ⟨fr.row (h.bys y hy).1 (fun j e e2 => ?_) (fun j e e2 => ?_), (h.bys y hy).2⟩
    · obtain ⟨c1, f1, q1⟩ := rk_kind (h.bys y hy).1 e
      obtain ⟨c2, f2, q2⟩ := h1.kind e2.symm
      rw [q1] at q2; cases q2
    · obtain ⟨c1, f1, q1⟩ := rk_kind (h.bys y hy).1 e
      obtain ⟨c2, f2, q2⟩ := h2.kind e2.symm
      rw [q1] at q2; cases q2
theorem lawK_end2 : (0 : Nat) = 0 := rfl
end
theorem OwnDy.base {B B' : Nat} {w : World} {v : Value} {d : PDisk} (h : OwnDy B w v d) (hB : B' ≤ B) : OwnDy B' w v d := by
  obtain ⟨sa, sn, sc, la, ln, lc, e, h1, h2⟩ := h
  have f : ∀ {e size n : Nat} {v : Value} {xs : List Value}, OwnY B e size w v n xs → OwnY B' e size w v n xs := fun h => by
    rcases h with h | ⟨h, k⟩
    · exact .inl h
    · exact .inr ⟨rk_base h hB, k⟩
  exact ⟨sa, sn, sc, la, ln, lc, e, f h1, f h2⟩
theorem size_set2 (W : World) (p q : Addr) (a b : Value) : W.heap.size ≤ ((W.setCell p a).setCell q b).heap.size := by simp [World.setCell]
theorem size_new (W : World) (o : Obj) : W.heap.size ≤ (W.alloc o).heap.size := by rw [World.size_alloc]; omega
theorem lawK_open3 : (0 : Nat) = 0 := rfl
section
variable {w : World} {L : List (Nat × Array Value × TypeId)} {R : List (Nat × Nat × Value × PDisk)} {Y : List (Nat × Nat × Value × List Int)} {W : World}
theorem Lw.toD {v : Value} {d : PDisk} (h : Lw w L R Y W) (hd : DiskAt w v d) (hf : DiskFit d) : Calls Tryz.prog 17 #[v] W fun e W' => ∃ sa sn sc la ln lc, e = .returned (.agg #[.slice sa sn sc, .slice la ln lc]) ∧ Lw w L R Y W' ∧ OwnDy W.heap.size W' (.agg #[.slice sa sn sc, .slice la ln lc]) d ∧ Below W.heap.size W W' := by
  refine (toDisk_any (hd.below h.hl.1) hf).mono ?_
  rintro e W' ⟨v', rfl, o, b⟩
  have o' := OwnDy.of (OwnDz.of o)
  obtain ⟨sa, sn, sc, la, ln, lc, rfl, _⟩ := o
  exact ⟨_, _, _, _, _, _, rfl, h.below b, o', b⟩
theorem Lw.eqD {u v : Value} {d : PDisk} (h : Lw w L R Y W) (hu : DiskAt W u d) (hv : DiskAt W v d) (hf : DiskFit d) : Calls Tryz.prog 23 #[u, v] W fun e W' => e = .returned (.bool true) ∧ Lw w L R Y W' ∧ Below W.heap.size W W' := by
  refine (eqDisk_any hu hv hf hf).mono ?_
  rintro e W' ⟨rfl, b⟩
  exact ⟨by rw [same_dk], h.below b, b⟩
theorem Lw.heldD {v : Value} {d : PDisk} (h : Lw w L R Y W) (hv : DiskAt W v (markDk d)) (hf : DiskFit d) : Calls Tryz.prog 28 #[v, .int .i64 1] W fun e W' => e = .returned (.int .i64 (1 + d.safe.length + 2 * d.late.length)) ∧ Lw w L R Y W' ∧ Below W.heap.size W W' := by
  obtain ⟨sa, sn, sc, la, ln, lc, rfl, h1, h2⟩ := hv
  refine (heldDisk_any h1 h2 hf.sl hf.ll).mono ?_
  rintro e W' ⟨rfl, b⟩
  exact ⟨rfl, h.below b, b⟩
theorem lawK_end : (0 : Nat) = 0 := rfl
end
end Go.Proofs.YtjokajblihaphaaGreatDoor
