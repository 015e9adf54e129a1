/- The exact laws of chapter 15, from the program's contracts (written by mk/wdisk.py). -/
import Derived.Test.YtdhnoaajdjkddaaDiskS6
import Derived.Test.YtdhnoaajdjkddaaMarkD
namespace Go.Proofs.Ytdhnoaajdjkddaa
open Go.RowKit
set_option maxRecDepth 100000
set_option linter.unusedVariables false

/-- What the program must keep. -/
def DiskOkOk : Prop := ∀ (w : World) (v : Value) (d : PDisk), DiskAt w v d → DiskFit d → Calls Try.prog 16 #[v] w fun e w' => e = .returned (.bool (diskB d)) ∧ Below w.heap.size w w'
def DiskNewOk : Prop := ∀ (w : World), Calls Try.prog 27 #[] w fun e w' => ∃ v', e = .returned v' ∧ OwnDk w.heap.size w' v' newDk ∧ Below w.heap.size w w'
def SectorOfOk : Prop := ∀ (w : World) (v : Value) (d : PDisk) (x : Int), DiskAt w v d → DiskFit d → Calls Try.prog 17 #[v, .int .i64 x] w fun e w' => e = .returned (.tuple #[.string (sectorDk d x).1, .bool (sectorDk d x).2]) ∧ Below w.heap.size w w'
def DiskPutOk : Prop := ∀ (w : World) (v : Value) (d : PDisk) (x : Int) (s : ByteArray), DiskAt w v d → DiskFit d → s.size ≤ 1099511627776 → Calls Try.prog 20 #[v, .int .i64 x, .string s] w fun e w' => ∃ v', e = .returned (.tuple #[v', .bool (putDk d x s).2]) ∧ OwnDk w.heap.size w' v' (putDk d x s).1 ∧ Below w.heap.size w w'
def DiskSyncOk : Prop := ∀ (w : World) (v : Value) (d : PDisk), DiskAt w v d → DiskFit d → Calls Try.prog 15 #[v] w fun e w' => ∃ v', e = .returned (.tuple #[v', .bool (syncDk d).2]) ∧ OwnDk w.heap.size w' v' (syncDk d).1 ∧ Below w.heap.size w w'
def DiskCrashOk : Prop := ∀ (w : World) (v : Value) (d : PDisk) (x : Int), DiskAt w v d → DiskFit d → Calls Try.prog 13 #[v, .int .i64 x] w fun e w' => ∃ v', e = .returned (.tuple #[v', .bool (crashDk d x).2]) ∧ OwnDk w.heap.size w' v' (crashDk d x).1 ∧ Below w.heap.size w w'

theorem fit_zero : DiskFit zeroDk := ⟨by decide, by decide, (fun s hs => by cases hs), (fun p hp => by cases hp)⟩
theorem fit_new : DiskFit newDk := ⟨by decide, by decide, (fun s hs => by
  have : s = zeros64 := List.eq_of_mem_replicate hs
  rw [this, zeros64_size]; decide), (fun p hp => by cases hp)⟩
theorem fit_done {d : PDisk} (h : DiskFit d) (keep : Int) : DiskFit (doneDk keep d) := ⟨by show (doneN keep d.safe d.late d.late.length).length ≤ _; rw [doneN_len]; exact h.sl, Nat.zero_le _, doneN_size h.st h.lt _, (fun p hp => by cases hp)⟩
theorem fit_sync {d : PDisk} (h : DiskFit d) : DiskFit (syncDk d).1 := by
  unfold syncDk
  split
  · exact fit_zero
  · exact fit_done h _
theorem fit_crash {d : PDisk} (h : DiskFit d) (x : Int) : DiskFit (crashDk d x).1 := by
  unfold crashDk
  split
  · exact fit_zero
  · exact fit_done h _
theorem fit_put {d : PDisk} (h : DiskFit d) (x : Int) {s : ByteArray} (hs : s.size ≤ 1099511627776) : DiskFit (putDk d x s).1 := by
  unfold putDk
  split
  · exact fit_zero
  · rename_i hb
    split
    · exact h
    · have hl := diskB_len (d := d) (by simpa using hb)
      refine ⟨h.sl, ?_, h.st, fun p hp => ?_⟩
      · show (d.late ++ [(x, s)]).length ≤ _
        rw [List.length_append, List.length_singleton]; omega
      · rcases List.mem_append.mp hp with hp | hp
        · exact h.lt p hp
        · simp at hp; subst hp; exact hs
theorem same_dk (d : PDisk) : decide (d.safe = d.safe ∧ d.late = d.late) = true := by simp


theorem TwoFr.var {r s : Option Nat} {B size n B' size' n' e e' : Nat} {w w' : World} {v u : Value} {xs ys : List Value} (h : TwoFr r s w w') (o1 : w.ownsRow B e size v n xs) (o2 : w.ownsRow B' e' size' u n' ys) (h1 : v.ownBlock = r) (h2 : u.ownBlock = s)
    {j : Nat} {cs : Array Value} {t : TypeId} {fr : Nat × Nat} (hj : w.heap[j]? = some (.cells cs t fr)) (t1 : t ≠ e) (t2 : t ≠ e') : w'.heap[j]? = some (.cells cs t fr) := by
  refine (h.block j (lt_of_block hj) (fun er => ?_) (fun er => ?_)).trans hj
  · obtain ⟨c2, f2, k2⟩ := rk_kind o1 (h1.trans er.symm)
    rw [hj] at k2; cases k2; exact t1 rfl
  · obtain ⟨c2, f2, k2⟩ := rk_kind o2 (h2.trans er.symm)
    rw [hj] at k2; cases k2; exact t2 rfl

set_option maxHeartbeats 4000000 in
set_option maxRecDepth 100000 in
theorem fnExactDiskOk_of (H : DiskOkOk) {v : Value} {d : PDisk} (w0 : World) (h : DiskAt w0 v d) (hs : ∀ s ∈ d.safe, s.size ≤ maxLen) (hp : ∀ p ∈ d.late, p.2.size ≤ maxLen) :
    Calls Try.prog 5 #[v] w0 fun e w' => e = .returned (.bool true) ∧ Below w0.heap.size w0 w' := by
  have HC := (show Hid DiskOkOk from H)
  obtain ⟨sa, sn, sc, sA, sN, sC, rfl, h1, h2⟩ := h
  obtain ⟨w, hw⟩ : ∃ x, x = w0.alloc (.cells #[.slice sa sn sc, .slice sA sN sC] 43) := ⟨_, rfl⟩
  have b0 : Below w0.heap.size w0 w := by rw [hw]; exact (Below.refl _ _).alloc (Nat.le_refl _) _
  have x0 : w.heap[w0.heap.size]? = some (.cells #[.slice sa sn sc, .slice sA sN sC] 43 (0, 0)) := by rw [hw]; exact World.alloc_heap_new _ _
  have HD := (show Hid (DiskAt w (.agg #[.slice sa sn sc, .slice sA sN sC]) d) from ⟨_, _, _, _, _, _, rfl, h1.below b0, h2.below b0⟩)
  have B0 := (show Hid (Below w0.heap.size w0 w) from b0)
  have V0 := (show Hid _ from x0)
  have CZ := (show Hid (Calls Try.prog 22 #[.agg #[.slice sa sn sc, .slice sA sN sC], .int .i64 1048576] w fun e w' => ∃ r : Int, e = .returned (.int .i64 r) ∧ (r < 0 ∨ (0 ≤ r ∧ r ≤ 1048576 ∧ DiskFit d)) ∧ Below w.heap.size w w') from szDisk_any HD.out hs hp 1048576 (by decide) (by decide))
  clear H hs hp h1 h2 b0 x0
  go_enter Try.func5, Try.ntmps5
  go_wp2_with fail
  go_at_call 22
  rw [← hw]
  refine Calls.mono CZ.out ?_
  rintro e w1 ⟨r, rfl, hr, b1⟩
  clear CZ hw
  rcases hr with hr | ⟨hr0, hr1, hf⟩
  · go_wp2
    go_ret
    exact ⟨rfl, B0.out.trans (b1.mono B0.out.size)⟩
  · have HF := (show Hid (DiskFit d) from hf)
    clear hf
    have B_w1 := (show Hid (Below w.heap.size w w1) from b1)
    have V_w1 := (show Hid (w1.heap[w0.heap.size]? = some (.cells #[.slice sa sn sc, .slice sA sN sC] 43 (0, 0))) from (b1.block _ (lt_of_block V0.out)).trans V0.out)
    clear b1 V0
    obtain ⟨cV1, cV2, _, _⟩ := rk_two V_w1.out
    go_wp2_with fail
    go_at_call 24
    refine (toDisk_any (HD.out.below B_w1.out) HF.out).mono ?_
    rintro e w2 ⟨vw2, rfl, ow2, bw2⟩
    obtain ⟨ta, tn, tc, tA, tN, tC, rfl, ow21, ow22⟩ := ow2
    have Sw2 := (show Hid (w1.heap.size ≤ w2.heap.size) from bw2.size)
    have B_w2 := (show Hid (Below w.heap.size w w2) from B_w1.out.trans (bw2.mono B_w1.out.size))
    have V_w2 := (show Hid (w2.heap[w0.heap.size]? = some (.cells #[.slice sa sn sc, .slice sA sN sC] 43 (0, 0))) from (bw2.block _ (lt_of_block V_w1.out)).trans V_w1.out)
    clear B_w1 V_w1 cV1 cV2 bw2
    have Rt_w2 := (show Hid (w2.ownsRow w1.heap.size 9 1 (.slice ta tn tc) d.safe.length (strCells d.safe) ∧ w2.ownsRow w1.heap.size 37 2 (.slice tA tN tC) d.late.length (putCells d.late)) from ⟨ow21, ow22⟩)
    clear ow21 ow22
    obtain ⟨q, hq⟩ : ∃ q, q = diskB d := ⟨_, rfl⟩
    have CS := (show Hid (Calls Try.prog 23 #[.agg #[.slice ta tn tc, .slice tA tN tC]] w2 fun e w' => e = .returned (.bool (diskB d)) ∧ Below w2.heap.size w2 w') from sdiskOk_any ⟨_, _, _, _, _, _, rfl, sv_of_own Rt_w2.out.1, sv_of_own Rt_w2.out.2⟩ HF.out)
    have CI := (show Hid (∀ (w : World) (v : Value), DiskAt w v d → Calls Try.prog 16 #[v] w fun e w' => e = .returned (.bool (diskB d)) ∧ Below w.heap.size w w') from fun w v h => HC.out w v d h HF.out)
    rw [← hq] at CS CI
    clear hq
    have hqq : (q != q) = false := by cases q <;> rfl
    obtain ⟨cV1, cV2, _, _⟩ := rk_two V_w2.out
    go_wp2_with fail
    go_at_call 23
    refine (CS.out).mono ?_
    rintro e w3 ⟨rfl, b3⟩
    have B_w3 := (show Hid (Below w.heap.size w w3) from B_w2.out.trans (b3.mono B_w2.out.size))
    have V_w3 := (show Hid (w3.heap[w0.heap.size]? = some (.cells #[.slice sa sn sc, .slice sA sN sC] 43 (0, 0))) from (b3.block _ (lt_of_block V_w2.out)).trans V_w2.out)
    have Rt_w3 := (show Hid (w3.ownsRow w1.heap.size 9 1 (.slice ta tn tc) d.safe.length (strCells d.safe) ∧ w3.ownsRow w1.heap.size 37 2 (.slice tA tN tC) d.late.length (putCells d.late)) from ⟨ownsRow_below Rt_w2.out.1 b3, ownsRow_below Rt_w2.out.2 b3⟩)
    clear B_w2 V_w2 Rt_w2 cV1 cV2 b3
    obtain ⟨cV1, cV2, _, _⟩ := rk_two V_w3.out
    go_wp2_with fail
    go_at_call 24
    refine (toDisk_any (HD.out.below B_w3.out) HF.out).mono ?_
    rintro e w4 ⟨vw4, rfl, ow4, bw4⟩
    obtain ⟨xa, xn, xc, xA, xN, xC, rfl, ow41, ow42⟩ := ow4
    have Sw4 := (show Hid (w3.heap.size ≤ w4.heap.size) from bw4.size)
    have B_w4 := (show Hid (Below w.heap.size w w4) from B_w3.out.trans (bw4.mono B_w3.out.size))
    have V_w4 := (show Hid (w4.heap[w0.heap.size]? = some (.cells #[.slice sa sn sc, .slice sA sN sC] 43 (0, 0))) from (bw4.block _ (lt_of_block V_w3.out)).trans V_w3.out)
    have Rt_w4 := (show Hid (w4.ownsRow w1.heap.size 9 1 (.slice ta tn tc) d.safe.length (strCells d.safe) ∧ w4.ownsRow w1.heap.size 37 2 (.slice tA tN tC) d.late.length (putCells d.late)) from ⟨ownsRow_below Rt_w3.out.1 bw4, ownsRow_below Rt_w3.out.2 bw4⟩)
    clear B_w3 V_w3 Rt_w3 cV1 cV2 bw4
    have Rx_w4 := (show Hid (w4.ownsRow w3.heap.size 9 1 (.slice xa xn xc) d.safe.length (strCells d.safe) ∧ w4.ownsRow w3.heap.size 37 2 (.slice xA xN xC) d.late.length (putCells d.late)) from ⟨ow41, ow42⟩)
    clear ow41 ow42
    obtain ⟨w4a, hw4a⟩ : ∃ x, x = w4.alloc (.cells #[.slice xa xn xc, .slice xA xN xC] 27) := ⟨_, rfl⟩
    have bw4a : Below w4.heap.size w4 w4a := by rw [hw4a]; exact (Below.refl _ _).alloc (Nat.le_refl _) _
    have xw4a : w4a.heap[w4.heap.size]? = some (.cells #[.slice xa xn xc, .slice xA xN xC] 27 (0, 0)) := by rw [hw4a]; exact World.alloc_heap_new _ _
    obtain ⟨oV1, oV2, _, _⟩ := rk_two V_w4.out
    have oV3 := lt_of_block V_w4.out
    have sw4a := bw4a.size
    have Sw4a := (show Hid (w4.heap.size ≤ w4a.heap.size) from sw4a)
    clear sw4a
    have B_w4a := (show Hid (Below w.heap.size w w4a) from B_w4.out.trans (bw4a.mono B_w4.out.size))
    have V_w4a := (show Hid (w4a.heap[w0.heap.size]? = some (.cells #[.slice sa sn sc, .slice sA sN sC] 43 (0, 0))) from (bw4a.block _ (lt_of_block V_w4.out)).trans V_w4.out)
    have Rt_w4a := (show Hid (w4a.ownsRow w1.heap.size 9 1 (.slice ta tn tc) d.safe.length (strCells d.safe) ∧ w4a.ownsRow w1.heap.size 37 2 (.slice tA tN tC) d.late.length (putCells d.late)) from ⟨ownsRow_below Rt_w4.out.1 bw4a, ownsRow_below Rt_w4.out.2 bw4a⟩)
    have Rx_w4a := (show Hid (w4a.ownsRow w3.heap.size 9 1 (.slice xa xn xc) d.safe.length (strCells d.safe) ∧ w4a.ownsRow w3.heap.size 37 2 (.slice xA xN xC) d.late.length (putCells d.late)) from ⟨ownsRow_below Rx_w4.out.1 bw4a, ownsRow_below Rx_w4.out.2 bw4a⟩)
    clear B_w4 V_w4 Rt_w4 Rx_w4 bw4a
    have X_w4a := (show Hid (w4a.heap[w4.heap.size]? = some (.cells #[.slice xa xn xc, .slice xA xN xC] 27 (0, 0))) from xw4a)
    clear xw4a
    go_wp2_with fail
    go_at_call 16
    rw [← hw4a]
    refine (CI.out _ _ ⟨_, _, _, _, _, _, rfl, sv_of_own Rx_w4a.out.1, sv_of_own Rx_w4a.out.2⟩).mono ?_
    rintro e w5 ⟨rfl, b5⟩
    clear hw4a
    have B_w5 := (show Hid (Below w.heap.size w w5) from B_w4a.out.trans (b5.mono B_w4a.out.size))
    have V_w5 := (show Hid (w5.heap[w0.heap.size]? = some (.cells #[.slice sa sn sc, .slice sA sN sC] 43 (0, 0))) from (b5.block _ (lt_of_block V_w4a.out)).trans V_w4a.out)
    have Rt_w5 := (show Hid (w5.ownsRow w1.heap.size 9 1 (.slice ta tn tc) d.safe.length (strCells d.safe) ∧ w5.ownsRow w1.heap.size 37 2 (.slice tA tN tC) d.late.length (putCells d.late)) from ⟨ownsRow_below Rt_w4a.out.1 b5, ownsRow_below Rt_w4a.out.2 b5⟩)
    have Rx_w5 := (show Hid (w5.ownsRow w3.heap.size 9 1 (.slice xa xn xc) d.safe.length (strCells d.safe) ∧ w5.ownsRow w3.heap.size 37 2 (.slice xA xN xC) d.late.length (putCells d.late)) from ⟨ownsRow_below Rx_w4a.out.1 b5, ownsRow_below Rx_w4a.out.2 b5⟩)
    have X_w5 := (show Hid (w5.heap[w4.heap.size]? = some (.cells #[.slice xa xn xc, .slice xA xN xC] 27 (0, 0))) from (b5.block _ (lt_of_block X_w4a.out)).trans X_w4a.out)
    clear B_w4a V_w4a Rt_w4a Rx_w4a X_w4a oV1 oV2 oV3 b5
    obtain ⟨cV1, cV2, _, _⟩ := rk_two V_w5.out
    obtain ⟨cX1, cX2, _, _⟩ := rk_two X_w5.out
    go_wp2_with fail
    have bd : Below w5.heap.size w5 w5.drew := below_drewN 1
    
    have BD := (show Hid (Below w5.heap.size w5 w5.drew) from bd)
    clear bd
    go_region_with (first
      | (go_at_call 24
         refine (toDisk_any ((HD.out.below B_w5.out).below BD.out) HF.out).mono ?_
         rintro e w6 ⟨vw6, rfl, ow6, bw6⟩
         obtain ⟨ya, yn, yc, yA, yN, yC, rfl, ow61, ow62⟩ := ow6
         have ew6 : Below w5.heap.size w5 w6 := BD.out.trans (bw6.mono BD.out.size)
         have B_w6 := (show Hid (Below w.heap.size w w6) from B_w5.out.trans (ew6.mono B_w5.out.size))
         have V_w6 := (show Hid (w6.heap[w0.heap.size]? = some (.cells #[.slice sa sn sc, .slice sA sN sC] 43 (0, 0))) from (ew6.block _ (lt_of_block V_w5.out)).trans V_w5.out)
         have Rt_w6 := (show Hid (w6.ownsRow w1.heap.size 9 1 (.slice ta tn tc) d.safe.length (strCells d.safe) ∧ w6.ownsRow w1.heap.size 37 2 (.slice tA tN tC) d.late.length (putCells d.late)) from ⟨ownsRow_below Rt_w5.out.1 ew6, ownsRow_below Rt_w5.out.2 ew6⟩)
         have Rx_w6 := (show Hid (w6.ownsRow w3.heap.size 9 1 (.slice xa xn xc) d.safe.length (strCells d.safe) ∧ w6.ownsRow w3.heap.size 37 2 (.slice xA xN xC) d.late.length (putCells d.late)) from ⟨ownsRow_below Rx_w5.out.1 ew6, ownsRow_below Rx_w5.out.2 ew6⟩)
         have X_w6 := (show Hid (w6.heap[w4.heap.size]? = some (.cells #[.slice xa xn xc, .slice xA xN xC] 27 (0, 0))) from (ew6.block _ (lt_of_block X_w5.out)).trans X_w5.out)
         clear B_w5 V_w5 Rt_w5 Rx_w5 X_w5 cV1 cV2 cX1 cX2 ew6
         have Ry_w6 := (show Hid (w6.ownsRow w5.drew.heap.size 9 1 (.slice ya yn yc) d.safe.length (strCells d.safe) ∧ w6.ownsRow w5.drew.heap.size 37 2 (.slice yA yN yC) d.late.length (putCells d.late)) from ⟨ow61, ow62⟩)
         clear ow61 ow62 bw6
         obtain ⟨cV1, cV2, _, _⟩ := rk_two V_w6.out
         obtain ⟨cX1, cX2, _, _⟩ := rk_two X_w6.out)
      | (go_at_call 25
         refine (eqDisk_any ⟨_, _, _, _, _, _, rfl, sv_of_own Rx_w6.out.1, sv_of_own Rx_w6.out.2⟩ ⟨_, _, _, _, _, _, rfl, sv_of_own Ry_w6.out.1, sv_of_own Ry_w6.out.2⟩ HF.out HF.out).mono ?_
         rintro e w7 ⟨rfl, bw7⟩
         rw [same_dk]
         have B_w7 := (show Hid (Below w.heap.size w w7) from B_w6.out.trans (bw7.mono B_w6.out.size))
         have V_w7 := (show Hid (w7.heap[w0.heap.size]? = some (.cells #[.slice sa sn sc, .slice sA sN sC] 43 (0, 0))) from (bw7.block _ (lt_of_block V_w6.out)).trans V_w6.out)
         have Rt_w7 := (show Hid (w7.ownsRow w1.heap.size 9 1 (.slice ta tn tc) d.safe.length (strCells d.safe) ∧ w7.ownsRow w1.heap.size 37 2 (.slice tA tN tC) d.late.length (putCells d.late)) from ⟨ownsRow_below Rt_w6.out.1 bw7, ownsRow_below Rt_w6.out.2 bw7⟩)
         have Rx_w7 := (show Hid (w7.ownsRow w3.heap.size 9 1 (.slice xa xn xc) d.safe.length (strCells d.safe) ∧ w7.ownsRow w3.heap.size 37 2 (.slice xA xN xC) d.late.length (putCells d.late)) from ⟨ownsRow_below Rx_w6.out.1 bw7, ownsRow_below Rx_w6.out.2 bw7⟩)
         have X_w7 := (show Hid (w7.heap[w4.heap.size]? = some (.cells #[.slice xa xn xc, .slice xA xN xC] 27 (0, 0))) from (bw7.block _ (lt_of_block X_w6.out)).trans X_w6.out)
         have Ry_w7 := (show Hid (w7.ownsRow w5.drew.heap.size 9 1 (.slice ya yn yc) d.safe.length (strCells d.safe) ∧ w7.ownsRow w5.drew.heap.size 37 2 (.slice yA yN yC) d.late.length (putCells d.late)) from ⟨ownsRow_below Ry_w6.out.1 bw7, ownsRow_below Ry_w6.out.2 bw7⟩)
         clear B_w6 V_w6 Rt_w6 Rx_w6 X_w6 Ry_w6 cV1 cV2 cX1 cX2 bw7
         obtain ⟨cV1, cV2, _, _⟩ := rk_two V_w7.out
         obtain ⟨cX1, cX2, _, _⟩ := rk_two X_w7.out))
    all_goals go_wp2
    all_goals go_ret
    all_goals exact ⟨rfl, B0.out.trans (B_w7.out.mono B0.out.size)⟩

set_option maxHeartbeats 4000000 in
set_option maxRecDepth 100000 in
theorem fnExactSectorOf_of (H : SectorOfOk) {v : Value} {d : PDisk} {x : Int} (w0 : World) (h : DiskAt w0 v d) (hs : ∀ s ∈ d.safe, s.size ≤ maxLen) (hp : ∀ p ∈ d.late, p.2.size ≤ maxLen) :
    Calls Try.prog 7 #[v, .int .i64 x] w0 fun e w' => e = .returned (.bool true) ∧ Below w0.heap.size w0 w' := by
  have HC := (show Hid SectorOfOk from H)
  obtain ⟨sa, sn, sc, sA, sN, sC, rfl, h1, h2⟩ := h
  obtain ⟨w, hw⟩ : ∃ x, x = w0.alloc (.cells #[.slice sa sn sc, .slice sA sN sC] 43) := ⟨_, rfl⟩
  have b0 : Below w0.heap.size w0 w := by rw [hw]; exact (Below.refl _ _).alloc (Nat.le_refl _) _
  have x0 : w.heap[w0.heap.size]? = some (.cells #[.slice sa sn sc, .slice sA sN sC] 43 (0, 0)) := by rw [hw]; exact World.alloc_heap_new _ _
  have HD := (show Hid (DiskAt w (.agg #[.slice sa sn sc, .slice sA sN sC]) d) from ⟨_, _, _, _, _, _, rfl, h1.below b0, h2.below b0⟩)
  have B0 := (show Hid (Below w0.heap.size w0 w) from b0)
  have V0 := (show Hid _ from x0)
  have CZ := (show Hid (Calls Try.prog 22 #[.agg #[.slice sa sn sc, .slice sA sN sC], .int .i64 1048576] w fun e w' => ∃ r : Int, e = .returned (.int .i64 r) ∧ (r < 0 ∨ (0 ≤ r ∧ r ≤ 1048576 ∧ DiskFit d)) ∧ Below w.heap.size w w') from szDisk_any HD.out hs hp 1048576 (by decide) (by decide))
  clear H hs hp h1 h2 b0 x0
  go_enter Try.func7, Try.ntmps7
  go_wp2_with fail
  go_at_call 22
  rw [← hw]
  refine Calls.mono CZ.out ?_
  rintro e w1 ⟨r, rfl, hr, b1⟩
  clear CZ hw
  rcases hr with hr | ⟨hr0, hr1, hf⟩
  · go_wp2
    go_ret
    exact ⟨rfl, B0.out.trans (b1.mono B0.out.size)⟩
  · have HF := (show Hid (DiskFit d) from hf)
    clear hf
    have B_w1 := (show Hid (Below w.heap.size w w1) from b1)
    have V_w1 := (show Hid (w1.heap[w0.heap.size]? = some (.cells #[.slice sa sn sc, .slice sA sN sC] 43 (0, 0))) from (b1.block _ (lt_of_block V0.out)).trans V0.out)
    clear b1 V0
    obtain ⟨cV1, cV2, _, _⟩ := rk_two V_w1.out
    go_wp2_with fail
    go_at_call 24
    refine (toDisk_any (HD.out.below B_w1.out) HF.out).mono ?_
    rintro e w2 ⟨vw2, rfl, ow2, bw2⟩
    obtain ⟨ta, tn, tc, tA, tN, tC, rfl, ow21, ow22⟩ := ow2
    have Sw2 := (show Hid (w1.heap.size ≤ w2.heap.size) from bw2.size)
    have B_w2 := (show Hid (Below w.heap.size w w2) from B_w1.out.trans (bw2.mono B_w1.out.size))
    have V_w2 := (show Hid (w2.heap[w0.heap.size]? = some (.cells #[.slice sa sn sc, .slice sA sN sC] 43 (0, 0))) from (bw2.block _ (lt_of_block V_w1.out)).trans V_w1.out)
    clear B_w1 V_w1 cV1 cV2 bw2
    have Rt_w2 := (show Hid (w2.ownsRow w1.heap.size 9 1 (.slice ta tn tc) d.safe.length (strCells d.safe) ∧ w2.ownsRow w1.heap.size 37 2 (.slice tA tN tC) d.late.length (putCells d.late)) from ⟨ow21, ow22⟩)
    clear ow21 ow22
    obtain ⟨q, hq⟩ : ∃ q, q = sectorDk d x := ⟨_, rfl⟩
    have CS := (show Hid (Calls Try.prog 18 #[.agg #[.slice ta tn tc, .slice tA tN tC], .int .i64 x] w2 fun e w' => e = .returned (.tuple #[.string (sectorDk d x).1, .bool (sectorDk d x).2]) ∧ Below w2.heap.size w2 w') from ssectorOf_any ⟨_, _, _, _, _, _, rfl, sv_of_own Rt_w2.out.1, sv_of_own Rt_w2.out.2⟩ HF.out x)
    have CI := (show Hid (∀ (w : World) (v : Value), DiskAt w v d → Calls Try.prog 17 #[v, .int .i64 x] w fun e w' => e = .returned (.tuple #[.string (sectorDk d x).1, .bool (sectorDk d x).2]) ∧ Below w.heap.size w w') from fun w v h => HC.out w v d x h HF.out)
    rw [← hq] at CS CI
    clear hq
    obtain ⟨qs, qb⟩ := q
    simp only at CS CI
    have hqq : (qb != qb) = false := by cases qb <;> rfl
    obtain ⟨cV1, cV2, _, _⟩ := rk_two V_w2.out
    go_wp2_with fail
    go_at_call 18
    refine (CS.out).mono ?_
    rintro e w3 ⟨rfl, b3⟩
    have B_w3 := (show Hid (Below w.heap.size w w3) from B_w2.out.trans (b3.mono B_w2.out.size))
    have V_w3 := (show Hid (w3.heap[w0.heap.size]? = some (.cells #[.slice sa sn sc, .slice sA sN sC] 43 (0, 0))) from (b3.block _ (lt_of_block V_w2.out)).trans V_w2.out)
    have Rt_w3 := (show Hid (w3.ownsRow w1.heap.size 9 1 (.slice ta tn tc) d.safe.length (strCells d.safe) ∧ w3.ownsRow w1.heap.size 37 2 (.slice tA tN tC) d.late.length (putCells d.late)) from ⟨ownsRow_below Rt_w2.out.1 b3, ownsRow_below Rt_w2.out.2 b3⟩)
    clear B_w2 V_w2 Rt_w2 cV1 cV2 b3
    obtain ⟨cV1, cV2, _, _⟩ := rk_two V_w3.out
    go_wp2_with fail
    go_at_call 24
    refine (toDisk_any (HD.out.below B_w3.out) HF.out).mono ?_
    rintro e w4 ⟨vw4, rfl, ow4, bw4⟩
    obtain ⟨xa, xn, xc, xA, xN, xC, rfl, ow41, ow42⟩ := ow4
    have Sw4 := (show Hid (w3.heap.size ≤ w4.heap.size) from bw4.size)
    have B_w4 := (show Hid (Below w.heap.size w w4) from B_w3.out.trans (bw4.mono B_w3.out.size))
    have V_w4 := (show Hid (w4.heap[w0.heap.size]? = some (.cells #[.slice sa sn sc, .slice sA sN sC] 43 (0, 0))) from (bw4.block _ (lt_of_block V_w3.out)).trans V_w3.out)
    have Rt_w4 := (show Hid (w4.ownsRow w1.heap.size 9 1 (.slice ta tn tc) d.safe.length (strCells d.safe) ∧ w4.ownsRow w1.heap.size 37 2 (.slice tA tN tC) d.late.length (putCells d.late)) from ⟨ownsRow_below Rt_w3.out.1 bw4, ownsRow_below Rt_w3.out.2 bw4⟩)
    clear B_w3 V_w3 Rt_w3 cV1 cV2 bw4
    have Rx_w4 := (show Hid (w4.ownsRow w3.heap.size 9 1 (.slice xa xn xc) d.safe.length (strCells d.safe) ∧ w4.ownsRow w3.heap.size 37 2 (.slice xA xN xC) d.late.length (putCells d.late)) from ⟨ow41, ow42⟩)
    clear ow41 ow42
    obtain ⟨w4a, hw4a⟩ : ∃ x, x = w4.alloc (.cells #[.slice xa xn xc, .slice xA xN xC] 27) := ⟨_, rfl⟩
    have bw4a : Below w4.heap.size w4 w4a := by rw [hw4a]; exact (Below.refl _ _).alloc (Nat.le_refl _) _
    have xw4a : w4a.heap[w4.heap.size]? = some (.cells #[.slice xa xn xc, .slice xA xN xC] 27 (0, 0)) := by rw [hw4a]; exact World.alloc_heap_new _ _
    obtain ⟨oV1, oV2, _, _⟩ := rk_two V_w4.out
    have oV3 := lt_of_block V_w4.out
    have sw4a := bw4a.size
    have Sw4a := (show Hid (w4.heap.size ≤ w4a.heap.size) from sw4a)
    clear sw4a
    have B_w4a := (show Hid (Below w.heap.size w w4a) from B_w4.out.trans (bw4a.mono B_w4.out.size))
    have V_w4a := (show Hid (w4a.heap[w0.heap.size]? = some (.cells #[.slice sa sn sc, .slice sA sN sC] 43 (0, 0))) from (bw4a.block _ (lt_of_block V_w4.out)).trans V_w4.out)
    have Rt_w4a := (show Hid (w4a.ownsRow w1.heap.size 9 1 (.slice ta tn tc) d.safe.length (strCells d.safe) ∧ w4a.ownsRow w1.heap.size 37 2 (.slice tA tN tC) d.late.length (putCells d.late)) from ⟨ownsRow_below Rt_w4.out.1 bw4a, ownsRow_below Rt_w4.out.2 bw4a⟩)
    have Rx_w4a := (show Hid (w4a.ownsRow w3.heap.size 9 1 (.slice xa xn xc) d.safe.length (strCells d.safe) ∧ w4a.ownsRow w3.heap.size 37 2 (.slice xA xN xC) d.late.length (putCells d.late)) from ⟨ownsRow_below Rx_w4.out.1 bw4a, ownsRow_below Rx_w4.out.2 bw4a⟩)
    clear B_w4 V_w4 Rt_w4 Rx_w4 bw4a
    have X_w4a := (show Hid (w4a.heap[w4.heap.size]? = some (.cells #[.slice xa xn xc, .slice xA xN xC] 27 (0, 0))) from xw4a)
    clear xw4a
    go_wp2_with fail
    go_at_call 17
    rw [← hw4a]
    refine (CI.out _ _ ⟨_, _, _, _, _, _, rfl, sv_of_own Rx_w4a.out.1, sv_of_own Rx_w4a.out.2⟩).mono ?_
    rintro e w5 ⟨rfl, b5⟩
    clear hw4a
    have B_w5 := (show Hid (Below w.heap.size w w5) from B_w4a.out.trans (b5.mono B_w4a.out.size))
    have V_w5 := (show Hid (w5.heap[w0.heap.size]? = some (.cells #[.slice sa sn sc, .slice sA sN sC] 43 (0, 0))) from (b5.block _ (lt_of_block V_w4a.out)).trans V_w4a.out)
    have Rt_w5 := (show Hid (w5.ownsRow w1.heap.size 9 1 (.slice ta tn tc) d.safe.length (strCells d.safe) ∧ w5.ownsRow w1.heap.size 37 2 (.slice tA tN tC) d.late.length (putCells d.late)) from ⟨ownsRow_below Rt_w4a.out.1 b5, ownsRow_below Rt_w4a.out.2 b5⟩)
    have Rx_w5 := (show Hid (w5.ownsRow w3.heap.size 9 1 (.slice xa xn xc) d.safe.length (strCells d.safe) ∧ w5.ownsRow w3.heap.size 37 2 (.slice xA xN xC) d.late.length (putCells d.late)) from ⟨ownsRow_below Rx_w4a.out.1 b5, ownsRow_below Rx_w4a.out.2 b5⟩)
    have X_w5 := (show Hid (w5.heap[w4.heap.size]? = some (.cells #[.slice xa xn xc, .slice xA xN xC] 27 (0, 0))) from (b5.block _ (lt_of_block X_w4a.out)).trans X_w4a.out)
    clear B_w4a V_w4a Rt_w4a Rx_w4a X_w4a oV1 oV2 oV3 b5
    obtain ⟨cV1, cV2, _, _⟩ := rk_two V_w5.out
    obtain ⟨cX1, cX2, _, _⟩ := rk_two X_w5.out
    go_wp2_with fail
    have bd : Below w5.heap.size w5 w5.drew := below_drewN 1
    
    have BD := (show Hid (Below w5.heap.size w5 w5.drew) from bd)
    clear bd
    go_region_with (first
      | (go_at_call 24
         refine (toDisk_any ((HD.out.below B_w5.out).below BD.out) HF.out).mono ?_
         rintro e w6 ⟨vw6, rfl, ow6, bw6⟩
         obtain ⟨ya, yn, yc, yA, yN, yC, rfl, ow61, ow62⟩ := ow6
         have ew6 : Below w5.heap.size w5 w6 := BD.out.trans (bw6.mono BD.out.size)
         have B_w6 := (show Hid (Below w.heap.size w w6) from B_w5.out.trans (ew6.mono B_w5.out.size))
         have V_w6 := (show Hid (w6.heap[w0.heap.size]? = some (.cells #[.slice sa sn sc, .slice sA sN sC] 43 (0, 0))) from (ew6.block _ (lt_of_block V_w5.out)).trans V_w5.out)
         have Rt_w6 := (show Hid (w6.ownsRow w1.heap.size 9 1 (.slice ta tn tc) d.safe.length (strCells d.safe) ∧ w6.ownsRow w1.heap.size 37 2 (.slice tA tN tC) d.late.length (putCells d.late)) from ⟨ownsRow_below Rt_w5.out.1 ew6, ownsRow_below Rt_w5.out.2 ew6⟩)
         have Rx_w6 := (show Hid (w6.ownsRow w3.heap.size 9 1 (.slice xa xn xc) d.safe.length (strCells d.safe) ∧ w6.ownsRow w3.heap.size 37 2 (.slice xA xN xC) d.late.length (putCells d.late)) from ⟨ownsRow_below Rx_w5.out.1 ew6, ownsRow_below Rx_w5.out.2 ew6⟩)
         have X_w6 := (show Hid (w6.heap[w4.heap.size]? = some (.cells #[.slice xa xn xc, .slice xA xN xC] 27 (0, 0))) from (ew6.block _ (lt_of_block X_w5.out)).trans X_w5.out)
         clear B_w5 V_w5 Rt_w5 Rx_w5 X_w5 cV1 cV2 cX1 cX2 ew6
         have Ry_w6 := (show Hid (w6.ownsRow w5.drew.heap.size 9 1 (.slice ya yn yc) d.safe.length (strCells d.safe) ∧ w6.ownsRow w5.drew.heap.size 37 2 (.slice yA yN yC) d.late.length (putCells d.late)) from ⟨ow61, ow62⟩)
         clear ow61 ow62 bw6
         obtain ⟨cV1, cV2, _, _⟩ := rk_two V_w6.out
         obtain ⟨cX1, cX2, _, _⟩ := rk_two X_w6.out)
      | (go_at_call 25
         refine (eqDisk_any ⟨_, _, _, _, _, _, rfl, sv_of_own Rx_w6.out.1, sv_of_own Rx_w6.out.2⟩ ⟨_, _, _, _, _, _, rfl, sv_of_own Ry_w6.out.1, sv_of_own Ry_w6.out.2⟩ HF.out HF.out).mono ?_
         rintro e w7 ⟨rfl, bw7⟩
         rw [same_dk]
         have B_w7 := (show Hid (Below w.heap.size w w7) from B_w6.out.trans (bw7.mono B_w6.out.size))
         have V_w7 := (show Hid (w7.heap[w0.heap.size]? = some (.cells #[.slice sa sn sc, .slice sA sN sC] 43 (0, 0))) from (bw7.block _ (lt_of_block V_w6.out)).trans V_w6.out)
         have Rt_w7 := (show Hid (w7.ownsRow w1.heap.size 9 1 (.slice ta tn tc) d.safe.length (strCells d.safe) ∧ w7.ownsRow w1.heap.size 37 2 (.slice tA tN tC) d.late.length (putCells d.late)) from ⟨ownsRow_below Rt_w6.out.1 bw7, ownsRow_below Rt_w6.out.2 bw7⟩)
         have Rx_w7 := (show Hid (w7.ownsRow w3.heap.size 9 1 (.slice xa xn xc) d.safe.length (strCells d.safe) ∧ w7.ownsRow w3.heap.size 37 2 (.slice xA xN xC) d.late.length (putCells d.late)) from ⟨ownsRow_below Rx_w6.out.1 bw7, ownsRow_below Rx_w6.out.2 bw7⟩)
         have X_w7 := (show Hid (w7.heap[w4.heap.size]? = some (.cells #[.slice xa xn xc, .slice xA xN xC] 27 (0, 0))) from (bw7.block _ (lt_of_block X_w6.out)).trans X_w6.out)
         have Ry_w7 := (show Hid (w7.ownsRow w5.drew.heap.size 9 1 (.slice ya yn yc) d.safe.length (strCells d.safe) ∧ w7.ownsRow w5.drew.heap.size 37 2 (.slice yA yN yC) d.late.length (putCells d.late)) from ⟨ownsRow_below Ry_w6.out.1 bw7, ownsRow_below Ry_w6.out.2 bw7⟩)
         clear B_w6 V_w6 Rt_w6 Rx_w6 X_w6 Ry_w6 cV1 cV2 cX1 cX2 bw7
         obtain ⟨cV1, cV2, _, _⟩ := rk_two V_w7.out
         obtain ⟨cX1, cX2, _, _⟩ := rk_two X_w7.out))
    all_goals go_wp2
    all_goals go_ret
    all_goals exact ⟨rfl, B0.out.trans (B_w7.out.mono B0.out.size)⟩

set_option maxHeartbeats 4000000 in
set_option maxRecDepth 100000 in
theorem fnExactDiskSync_of (H : DiskSyncOk) {v : Value} {d : PDisk} (w0 : World) (h : DiskAt w0 v d) (hs : ∀ s ∈ d.safe, s.size ≤ maxLen) (hp : ∀ p ∈ d.late, p.2.size ≤ maxLen) :
    Calls Try.prog 9 #[v] w0 fun e w' => e = .returned (.bool true) ∧ Below w0.heap.size w0 w' := by
  have HC := (show Hid DiskSyncOk from H)
  obtain ⟨sa, sn, sc, sA, sN, sC, rfl, h1, h2⟩ := h
  obtain ⟨w, hw⟩ : ∃ x, x = w0.alloc (.cells #[.slice sa sn sc, .slice sA sN sC] 43) := ⟨_, rfl⟩
  have b0 : Below w0.heap.size w0 w := by rw [hw]; exact (Below.refl _ _).alloc (Nat.le_refl _) _
  have x0 : w.heap[w0.heap.size]? = some (.cells #[.slice sa sn sc, .slice sA sN sC] 43 (0, 0)) := by rw [hw]; exact World.alloc_heap_new _ _
  have HD := (show Hid (DiskAt w (.agg #[.slice sa sn sc, .slice sA sN sC]) d) from ⟨_, _, _, _, _, _, rfl, h1.below b0, h2.below b0⟩)
  have B0 := (show Hid (Below w0.heap.size w0 w) from b0)
  have V0 := (show Hid _ from x0)
  have CZ := (show Hid (Calls Try.prog 22 #[.agg #[.slice sa sn sc, .slice sA sN sC], .int .i64 1048576] w fun e w' => ∃ r : Int, e = .returned (.int .i64 r) ∧ (r < 0 ∨ (0 ≤ r ∧ r ≤ 1048576 ∧ DiskFit d)) ∧ Below w.heap.size w w') from szDisk_any HD.out hs hp 1048576 (by decide) (by decide))
  clear H hs hp h1 h2 b0 x0
  go_enter Try.func9, Try.ntmps9
  go_wp2_with fail
  go_at_call 22
  rw [← hw]
  refine Calls.mono CZ.out ?_
  rintro e w1 ⟨r, rfl, hr, b1⟩
  clear CZ hw
  rcases hr with hr | ⟨hr0, hr1, hf⟩
  · go_wp2
    go_ret
    exact ⟨rfl, B0.out.trans (b1.mono B0.out.size)⟩
  · have HF := (show Hid (DiskFit d) from hf)
    clear hf
    have B_w1 := (show Hid (Below w.heap.size w w1) from b1)
    have V_w1 := (show Hid (w1.heap[w0.heap.size]? = some (.cells #[.slice sa sn sc, .slice sA sN sC] 43 (0, 0))) from (b1.block _ (lt_of_block V0.out)).trans V0.out)
    clear b1 V0
    obtain ⟨cV1, cV2, _, _⟩ := rk_two V_w1.out
    go_wp2_with fail
    go_at_call 24
    refine (toDisk_any (HD.out.below B_w1.out) HF.out).mono ?_
    rintro e w2 ⟨vw2, rfl, ow2, bw2⟩
    obtain ⟨ta, tn, tc, tA, tN, tC, rfl, ow21, ow22⟩ := ow2
    have Sw2 := (show Hid (w1.heap.size ≤ w2.heap.size) from bw2.size)
    have B_w2 := (show Hid (Below w.heap.size w w2) from B_w1.out.trans (bw2.mono B_w1.out.size))
    have V_w2 := (show Hid (w2.heap[w0.heap.size]? = some (.cells #[.slice sa sn sc, .slice sA sN sC] 43 (0, 0))) from (bw2.block _ (lt_of_block V_w1.out)).trans V_w1.out)
    clear B_w1 V_w1 cV1 cV2 bw2
    have Rt_w2 := (show Hid (w2.ownsRow w1.heap.size 9 1 (.slice ta tn tc) d.safe.length (strCells d.safe) ∧ w2.ownsRow w1.heap.size 37 2 (.slice tA tN tC) d.late.length (putCells d.late)) from ⟨ow21, ow22⟩)
    clear ow21 ow22
    obtain ⟨q, hq⟩ : ∃ q, q = syncDk d := ⟨_, rfl⟩
    have CS := (show Hid (Calls Try.prog 30 #[.agg #[.slice ta tn tc, .slice tA tN tC]] w2 fun e w' => ∃ v', e = .returned (.tuple #[v', .bool (syncDk d).2]) ∧ OwnDk w2.heap.size w' v' (syncDk d).1 ∧ Below w2.heap.size w2 w') from sdiskSync_any ⟨_, _, _, _, _, _, rfl, sv_of_own Rt_w2.out.1, sv_of_own Rt_w2.out.2⟩ HF.out)
    have CI := (show Hid (∀ (w : World) (v : Value), DiskAt w v d → Calls Try.prog 15 #[v] w fun e w' => ∃ v', e = .returned (.tuple #[v', .bool (syncDk d).2]) ∧ OwnDk w.heap.size w' v' (syncDk d).1 ∧ Below w.heap.size w w') from fun w v h => HC.out w v d h HF.out)
    have FQ := (show Hid (DiskFit (syncDk d).1) from fit_sync HF.out)
    rw [← hq] at CS CI FQ
    clear hq
    obtain ⟨qd, qb⟩ := q
    simp only at CS CI FQ
    have hqq : (qb != qb) = false := by cases qb <;> rfl
    have fl1 := FQ.out.sl
    have fl2 := FQ.out.ll
    obtain ⟨cV1, cV2, _, _⟩ := rk_two V_w2.out
    go_wp2_with fail
    go_at_call 30
    refine Calls.mono CS.out ?_
    rintro e w3 ⟨v3, rfl, o3, b3⟩
    clear CS
    obtain ⟨aa, an, ac, aA, aN, aC, rfl, o31, o32⟩ := o3
    have S3 := (show Hid (w2.heap.size ≤ w3.heap.size) from b3.size)
    have B_w3 := (show Hid (Below w.heap.size w w3) from B_w2.out.trans (b3.mono B_w2.out.size))
    have V_w3 := (show Hid (w3.heap[w0.heap.size]? = some (.cells #[.slice sa sn sc, .slice sA sN sC] 43 (0, 0))) from (b3.block _ (lt_of_block V_w2.out)).trans V_w2.out)
    have Rt_w3 := (show Hid (w3.ownsRow w1.heap.size 9 1 (.slice ta tn tc) d.safe.length (strCells d.safe) ∧ w3.ownsRow w1.heap.size 37 2 (.slice tA tN tC) d.late.length (putCells d.late)) from ⟨ownsRow_below Rt_w2.out.1 b3, ownsRow_below Rt_w2.out.2 b3⟩)
    clear B_w2 V_w2 Rt_w2 cV1 cV2 b3
    have Ra_w3 := (show Hid (w3.ownsRow w2.heap.size 9 1 (.slice aa an ac) qd.safe.length (strCells qd.safe) ∧ w3.ownsRow w2.heap.size 37 2 (.slice aA aN aC) qd.late.length (putCells qd.late)) from ⟨o31, o32⟩)
    have AL := (show Hid ((∀ j, (Value.slice aa an ac).ownBlock = some j → j < w3.heap.size) ∧ (∀ j, (Value.slice aA aN aC).ownBlock = some j → j < w3.heap.size)) from ⟨fun j e => (World.ownsRow.lt o31 j e).2, fun j e => (World.ownsRow.lt o32 j e).2⟩)
    clear o31 o32
    obtain ⟨w3a, hw3a⟩ : ∃ x, x = w3.alloc (.cells #[.slice aa an ac, .slice aA aN aC] 27) := ⟨_, rfl⟩
    have bw3a : Below w3.heap.size w3 w3a := by rw [hw3a]; exact (Below.refl _ _).alloc (Nat.le_refl _) _
    have xw3a : w3a.heap[w3.heap.size]? = some (.cells #[.slice aa an ac, .slice aA aN aC] 27 (0, 0)) := by rw [hw3a]; exact World.alloc_heap_new _ _
    obtain ⟨oV1, oV2, _, _⟩ := rk_two V_w3.out
    have oV3 := lt_of_block V_w3.out
    have sw3a := bw3a.size
    have Sw3a := (show Hid (w3.heap.size ≤ w3a.heap.size) from sw3a)
    clear sw3a
    have B_w3a := (show Hid (Below w.heap.size w w3a) from B_w3.out.trans (bw3a.mono B_w3.out.size))
    have V_w3a := (show Hid (w3a.heap[w0.heap.size]? = some (.cells #[.slice sa sn sc, .slice sA sN sC] 43 (0, 0))) from (bw3a.block _ (lt_of_block V_w3.out)).trans V_w3.out)
    have Rt_w3a := (show Hid (w3a.ownsRow w1.heap.size 9 1 (.slice ta tn tc) d.safe.length (strCells d.safe) ∧ w3a.ownsRow w1.heap.size 37 2 (.slice tA tN tC) d.late.length (putCells d.late)) from ⟨ownsRow_below Rt_w3.out.1 bw3a, ownsRow_below Rt_w3.out.2 bw3a⟩)
    have Ra_w3a := (show Hid (w3a.ownsRow w2.heap.size 9 1 (.slice aa an ac) qd.safe.length (strCells qd.safe) ∧ w3a.ownsRow w2.heap.size 37 2 (.slice aA aN aC) qd.late.length (putCells qd.late)) from ⟨ownsRow_below Ra_w3.out.1 bw3a, ownsRow_below Ra_w3.out.2 bw3a⟩)
    clear B_w3 V_w3 Rt_w3 Ra_w3 bw3a
    have A_w3a := (show Hid (w3a.heap[w3.heap.size]? = some (.cells #[.slice aa an ac, .slice aA aN aC] 27 (0, 0))) from xw3a)
    clear xw3a
    clear Rt_w3a
    have SWa := (show Hid (w.heap.size ≤ w3a.heap.size) from B_w3a.out.size)
    go_wp2_with fail
    go_at_call 24
    rw [← hw3a]
    refine (toDisk_any (HD.out.below B_w3a.out) HF.out).mono ?_
    rintro e w4 ⟨vw4, rfl, ow4, bw4⟩
    clear hw3a
    obtain ⟨xa, xn, xc, xA, xN, xC, rfl, ow41, ow42⟩ := ow4
    have Sw4 := (show Hid (w3a.heap.size ≤ w4.heap.size) from bw4.size)
    have B_w4 := (show Hid (Below w.heap.size w w4) from B_w3a.out.trans (bw4.mono B_w3a.out.size))
    have V_w4 := (show Hid (w4.heap[w0.heap.size]? = some (.cells #[.slice sa sn sc, .slice sA sN sC] 43 (0, 0))) from (bw4.block _ (lt_of_block V_w3a.out)).trans V_w3a.out)
    have Ra_w4 := (show Hid (w4.ownsRow w2.heap.size 9 1 (.slice aa an ac) qd.safe.length (strCells qd.safe) ∧ w4.ownsRow w2.heap.size 37 2 (.slice aA aN aC) qd.late.length (putCells qd.late)) from ⟨ownsRow_below Ra_w3a.out.1 bw4, ownsRow_below Ra_w3a.out.2 bw4⟩)
    have A_w4 := (show Hid (w4.heap[w3.heap.size]? = some (.cells #[.slice aa an ac, .slice aA aN aC] 27 (0, 0))) from (bw4.block _ (lt_of_block A_w3a.out)).trans A_w3a.out)
    clear B_w3a V_w3a Ra_w3a A_w3a oV1 oV2 oV3 bw4
    have Rx_w4 := (show Hid (w4.ownsRow w3a.heap.size 9 1 (.slice xa xn xc) d.safe.length (strCells d.safe) ∧ w4.ownsRow w3a.heap.size 37 2 (.slice xA xN xC) d.late.length (putCells d.late)) from ⟨ow41, ow42⟩)
    clear ow41 ow42
    have XL := (show Hid ((∀ j, (Value.slice xa xn xc).ownBlock = some j → w3a.heap.size ≤ j ∧ j < w4.heap.size) ∧ (∀ j, (Value.slice xA xN xC).ownBlock = some j → w3a.heap.size ≤ j ∧ j < w4.heap.size)) from ⟨fun j e => World.ownsRow.lt Rx_w4.out.1 j e, fun j e => World.ownsRow.lt Rx_w4.out.2 j e⟩)
    obtain ⟨w4a, hw4a⟩ : ∃ x, x = w4.alloc (.cells #[.slice xa xn xc, .slice xA xN xC] 27) := ⟨_, rfl⟩
    have bw4a : Below w4.heap.size w4 w4a := by rw [hw4a]; exact (Below.refl _ _).alloc (Nat.le_refl _) _
    have xw4a : w4a.heap[w4.heap.size]? = some (.cells #[.slice xa xn xc, .slice xA xN xC] 27 (0, 0)) := by rw [hw4a]; exact World.alloc_heap_new _ _
    obtain ⟨oV1, oV2, _, _⟩ := rk_two V_w4.out
    have oV3 := lt_of_block V_w4.out
    obtain ⟨oA1, oA2, _, _⟩ := rk_two A_w4.out
    have oA3 := lt_of_block A_w4.out
    have sw4a := bw4a.size
    have Sw4a := (show Hid (w4.heap.size ≤ w4a.heap.size) from sw4a)
    clear sw4a
    have B_w4a := (show Hid (Below w.heap.size w w4a) from B_w4.out.trans (bw4a.mono B_w4.out.size))
    have V_w4a := (show Hid (w4a.heap[w0.heap.size]? = some (.cells #[.slice sa sn sc, .slice sA sN sC] 43 (0, 0))) from (bw4a.block _ (lt_of_block V_w4.out)).trans V_w4.out)
    have Ra_w4a := (show Hid (w4a.ownsRow w2.heap.size 9 1 (.slice aa an ac) qd.safe.length (strCells qd.safe) ∧ w4a.ownsRow w2.heap.size 37 2 (.slice aA aN aC) qd.late.length (putCells qd.late)) from ⟨ownsRow_below Ra_w4.out.1 bw4a, ownsRow_below Ra_w4.out.2 bw4a⟩)
    have A_w4a := (show Hid (w4a.heap[w3.heap.size]? = some (.cells #[.slice aa an ac, .slice aA aN aC] 27 (0, 0))) from (bw4a.block _ (lt_of_block A_w4.out)).trans A_w4.out)
    have Rx_w4a := (show Hid (w4a.ownsRow w3a.heap.size 9 1 (.slice xa xn xc) d.safe.length (strCells d.safe) ∧ w4a.ownsRow w3a.heap.size 37 2 (.slice xA xN xC) d.late.length (putCells d.late)) from ⟨ownsRow_below Rx_w4.out.1 bw4a, ownsRow_below Rx_w4.out.2 bw4a⟩)
    clear B_w4 V_w4 Ra_w4 A_w4 Rx_w4 bw4a
    have X_w4a := (show Hid (w4a.heap[w4.heap.size]? = some (.cells #[.slice xa xn xc, .slice xA xN xC] 27 (0, 0))) from xw4a)
    clear xw4a
    have SW := (show Hid (w.heap.size ≤ w3a.heap.size ∧ w.heap.size ≤ w4a.heap.size) from ⟨by have := SWa.out; omega, B_w4a.out.size⟩)
    go_wp2_with fail
    go_at_call 15
    rw [← hw4a]
    refine (CI.out _ _ ⟨_, _, _, _, _, _, rfl, sv_of_own Rx_w4a.out.1, sv_of_own Rx_w4a.out.2⟩).mono ?_
    rintro e w5 ⟨v5, rfl, o5, b5⟩
    clear hw4a
    obtain ⟨ga, gn, gc, gA, gN, gC, rfl, o51, o52⟩ := o5
    have B_w5 := (show Hid (Below w.heap.size w w5) from B_w4a.out.trans (b5.mono B_w4a.out.size))
    have V_w5 := (show Hid (w5.heap[w0.heap.size]? = some (.cells #[.slice sa sn sc, .slice sA sN sC] 43 (0, 0))) from (b5.block _ (lt_of_block V_w4a.out)).trans V_w4a.out)
    have Ra_w5 := (show Hid (w5.ownsRow w2.heap.size 9 1 (.slice aa an ac) qd.safe.length (strCells qd.safe) ∧ w5.ownsRow w2.heap.size 37 2 (.slice aA aN aC) qd.late.length (putCells qd.late)) from ⟨ownsRow_below Ra_w4a.out.1 b5, ownsRow_below Ra_w4a.out.2 b5⟩)
    have A_w5 := (show Hid (w5.heap[w3.heap.size]? = some (.cells #[.slice aa an ac, .slice aA aN aC] 27 (0, 0))) from (b5.block _ (lt_of_block A_w4a.out)).trans A_w4a.out)
    have Rx_w5 := (show Hid (w5.ownsRow w3a.heap.size 9 1 (.slice xa xn xc) d.safe.length (strCells d.safe) ∧ w5.ownsRow w3a.heap.size 37 2 (.slice xA xN xC) d.late.length (putCells d.late)) from ⟨ownsRow_below Rx_w4a.out.1 b5, ownsRow_below Rx_w4a.out.2 b5⟩)
    have X_w5 := (show Hid (w5.heap[w4.heap.size]? = some (.cells #[.slice xa xn xc, .slice xA xN xC] 27 (0, 0))) from (b5.block _ (lt_of_block X_w4a.out)).trans X_w4a.out)
    clear B_w4a V_w4a Ra_w4a A_w4a Rx_w4a X_w4a oV1 oV2 oV3 oA1 oA2 oA3 b5
    have Rg_w5 := (show Hid (w5.ownsRow w4a.heap.size 9 1 (.slice ga gn gc) qd.safe.length (strCells qd.safe) ∧ w5.ownsRow w4a.heap.size 37 2 (.slice gA gN gC) qd.late.length (putCells qd.late)) from ⟨o51, o52⟩)
    have GL := (show Hid ((∀ j, (Value.slice ga gn gc).ownBlock = some j → w4a.heap.size ≤ j) ∧ (∀ j, (Value.slice gA gN gC).ownBlock = some j → w4a.heap.size ≤ j)) from ⟨fun j e => (World.ownsRow.lt o51 j e).1, fun j e => (World.ownsRow.lt o52 j e).1⟩)
    clear o51 o52
    obtain ⟨w5a, hw5a⟩ : ∃ x, x = w5.alloc (.cells #[.slice ga gn gc, .slice gA gN gC] 27) := ⟨_, rfl⟩
    have bw5a : Below w5.heap.size w5 w5a := by rw [hw5a]; exact (Below.refl _ _).alloc (Nat.le_refl _) _
    have xw5a : w5a.heap[w5.heap.size]? = some (.cells #[.slice ga gn gc, .slice gA gN gC] 27 (0, 0)) := by rw [hw5a]; exact World.alloc_heap_new _ _
    obtain ⟨oV1, oV2, _, _⟩ := rk_two V_w5.out
    have oV3 := lt_of_block V_w5.out
    obtain ⟨oA1, oA2, _, _⟩ := rk_two A_w5.out
    have oA3 := lt_of_block A_w5.out
    obtain ⟨oX1, oX2, _, _⟩ := rk_two X_w5.out
    have oX3 := lt_of_block X_w5.out
    have sw5a := bw5a.size
    have Sw5a := (show Hid (w5.heap.size ≤ w5a.heap.size) from sw5a)
    clear sw5a
    have B_w5a := (show Hid (Below w.heap.size w w5a) from B_w5.out.trans (bw5a.mono B_w5.out.size))
    have V_w5a := (show Hid (w5a.heap[w0.heap.size]? = some (.cells #[.slice sa sn sc, .slice sA sN sC] 43 (0, 0))) from (bw5a.block _ (lt_of_block V_w5.out)).trans V_w5.out)
    have Ra_w5a := (show Hid (w5a.ownsRow w2.heap.size 9 1 (.slice aa an ac) qd.safe.length (strCells qd.safe) ∧ w5a.ownsRow w2.heap.size 37 2 (.slice aA aN aC) qd.late.length (putCells qd.late)) from ⟨ownsRow_below Ra_w5.out.1 bw5a, ownsRow_below Ra_w5.out.2 bw5a⟩)
    have A_w5a := (show Hid (w5a.heap[w3.heap.size]? = some (.cells #[.slice aa an ac, .slice aA aN aC] 27 (0, 0))) from (bw5a.block _ (lt_of_block A_w5.out)).trans A_w5.out)
    have Rx_w5a := (show Hid (w5a.ownsRow w3a.heap.size 9 1 (.slice xa xn xc) d.safe.length (strCells d.safe) ∧ w5a.ownsRow w3a.heap.size 37 2 (.slice xA xN xC) d.late.length (putCells d.late)) from ⟨ownsRow_below Rx_w5.out.1 bw5a, ownsRow_below Rx_w5.out.2 bw5a⟩)
    have X_w5a := (show Hid (w5a.heap[w4.heap.size]? = some (.cells #[.slice xa xn xc, .slice xA xN xC] 27 (0, 0))) from (bw5a.block _ (lt_of_block X_w5.out)).trans X_w5.out)
    have Rg_w5a := (show Hid (w5a.ownsRow w4a.heap.size 9 1 (.slice ga gn gc) qd.safe.length (strCells qd.safe) ∧ w5a.ownsRow w4a.heap.size 37 2 (.slice gA gN gC) qd.late.length (putCells qd.late)) from ⟨ownsRow_below Rg_w5.out.1 bw5a, ownsRow_below Rg_w5.out.2 bw5a⟩)
    clear B_w5 V_w5 Ra_w5 A_w5 Rx_w5 X_w5 Rg_w5 bw5a
    have G_w5a := (show Hid (w5a.heap[w5.heap.size]? = some (.cells #[.slice ga gn gc, .slice gA gN gC] 27 (0, 0))) from xw5a)
    clear xw5a
    go_wp2_with fail
    go_at_call 25
    rw [← hw5a]
    refine (eqDisk_any ⟨_, _, _, _, _, _, rfl, sv_of_own Rg_w5a.out.1, sv_of_own Rg_w5a.out.2⟩ ⟨_, _, _, _, _, _, rfl, sv_of_own Ra_w5a.out.1, sv_of_own Ra_w5a.out.2⟩ FQ.out FQ.out).mono ?_
    rintro e w6 ⟨rfl, bw6⟩
    clear hw5a
    rw [same_dk]
    have B_w6 := (show Hid (Below w.heap.size w w6) from B_w5a.out.trans (bw6.mono B_w5a.out.size))
    have V_w6 := (show Hid (w6.heap[w0.heap.size]? = some (.cells #[.slice sa sn sc, .slice sA sN sC] 43 (0, 0))) from (bw6.block _ (lt_of_block V_w5a.out)).trans V_w5a.out)
    have Ra_w6 := (show Hid (w6.ownsRow w2.heap.size 9 1 (.slice aa an ac) qd.safe.length (strCells qd.safe) ∧ w6.ownsRow w2.heap.size 37 2 (.slice aA aN aC) qd.late.length (putCells qd.late)) from ⟨ownsRow_below Ra_w5a.out.1 bw6, ownsRow_below Ra_w5a.out.2 bw6⟩)
    have A_w6 := (show Hid (w6.heap[w3.heap.size]? = some (.cells #[.slice aa an ac, .slice aA aN aC] 27 (0, 0))) from (bw6.block _ (lt_of_block A_w5a.out)).trans A_w5a.out)
    have Rx_w6 := (show Hid (w6.ownsRow w3a.heap.size 9 1 (.slice xa xn xc) d.safe.length (strCells d.safe) ∧ w6.ownsRow w3a.heap.size 37 2 (.slice xA xN xC) d.late.length (putCells d.late)) from ⟨ownsRow_below Rx_w5a.out.1 bw6, ownsRow_below Rx_w5a.out.2 bw6⟩)
    have X_w6 := (show Hid (w6.heap[w4.heap.size]? = some (.cells #[.slice xa xn xc, .slice xA xN xC] 27 (0, 0))) from (bw6.block _ (lt_of_block X_w5a.out)).trans X_w5a.out)
    have Rg_w6 := (show Hid (w6.ownsRow w4a.heap.size 9 1 (.slice ga gn gc) qd.safe.length (strCells qd.safe) ∧ w6.ownsRow w4a.heap.size 37 2 (.slice gA gN gC) qd.late.length (putCells qd.late)) from ⟨ownsRow_below Rg_w5a.out.1 bw6, ownsRow_below Rg_w5a.out.2 bw6⟩)
    have G_w6 := (show Hid (w6.heap[w5.heap.size]? = some (.cells #[.slice ga gn gc, .slice gA gN gC] 27 (0, 0))) from (bw6.block _ (lt_of_block G_w5a.out)).trans G_w5a.out)
    clear B_w5a V_w5a Ra_w5a A_w5a Rx_w5a X_w5a Rg_w5a G_w5a oV1 oV2 oV3 oA1 oA2 oA3 oX1 oX2 oX3 bw6
    obtain ⟨cV1, cV2, _, _⟩ := rk_two V_w6.out
    obtain ⟨cA1, cA2, _, _⟩ := rk_two A_w6.out
    obtain ⟨cX1, cX2, _, _⟩ := rk_two X_w6.out
    obtain ⟨cG1, cG2, _, _⟩ := rk_two G_w6.out
    go_wp2_with fail
    have bd : Below w6.heap.size w6 w6.drew := below_drewN 1
    
    have BD := (show Hid (Below w6.heap.size w6 w6.drew) from bd)
    clear bd
    go_region_with (first
      | (go_at_call 24
         refine (toDisk_any ((HD.out.below B_w6.out).below BD.out) HF.out).mono ?_
         rintro e w7 ⟨vw7, rfl, ow7, bw7⟩
         obtain ⟨ya, yn, yc, yA, yN, yC, rfl, ow71, ow72⟩ := ow7
         have ew7 : Below w6.heap.size w6 w7 := BD.out.trans (bw7.mono BD.out.size)
         have B_w7 := (show Hid (Below w.heap.size w w7) from B_w6.out.trans (ew7.mono B_w6.out.size))
         have V_w7 := (show Hid (w7.heap[w0.heap.size]? = some (.cells #[.slice sa sn sc, .slice sA sN sC] 43 (0, 0))) from (ew7.block _ (lt_of_block V_w6.out)).trans V_w6.out)
         have Ra_w7 := (show Hid (w7.ownsRow w2.heap.size 9 1 (.slice aa an ac) qd.safe.length (strCells qd.safe) ∧ w7.ownsRow w2.heap.size 37 2 (.slice aA aN aC) qd.late.length (putCells qd.late)) from ⟨ownsRow_below Ra_w6.out.1 ew7, ownsRow_below Ra_w6.out.2 ew7⟩)
         have A_w7 := (show Hid (w7.heap[w3.heap.size]? = some (.cells #[.slice aa an ac, .slice aA aN aC] 27 (0, 0))) from (ew7.block _ (lt_of_block A_w6.out)).trans A_w6.out)
         have Rx_w7 := (show Hid (w7.ownsRow w3a.heap.size 9 1 (.slice xa xn xc) d.safe.length (strCells d.safe) ∧ w7.ownsRow w3a.heap.size 37 2 (.slice xA xN xC) d.late.length (putCells d.late)) from ⟨ownsRow_below Rx_w6.out.1 ew7, ownsRow_below Rx_w6.out.2 ew7⟩)
         have X_w7 := (show Hid (w7.heap[w4.heap.size]? = some (.cells #[.slice xa xn xc, .slice xA xN xC] 27 (0, 0))) from (ew7.block _ (lt_of_block X_w6.out)).trans X_w6.out)
         have Rg_w7 := (show Hid (w7.ownsRow w4a.heap.size 9 1 (.slice ga gn gc) qd.safe.length (strCells qd.safe) ∧ w7.ownsRow w4a.heap.size 37 2 (.slice gA gN gC) qd.late.length (putCells qd.late)) from ⟨ownsRow_below Rg_w6.out.1 ew7, ownsRow_below Rg_w6.out.2 ew7⟩)
         have G_w7 := (show Hid (w7.heap[w5.heap.size]? = some (.cells #[.slice ga gn gc, .slice gA gN gC] 27 (0, 0))) from (ew7.block _ (lt_of_block G_w6.out)).trans G_w6.out)
         clear B_w6 V_w6 Ra_w6 A_w6 Rx_w6 X_w6 Rg_w6 G_w6 cV1 cV2 cA1 cA2 cX1 cX2 cG1 cG2 ew7
         have Ry_w7 := (show Hid (w7.ownsRow w6.drew.heap.size 9 1 (.slice ya yn yc) d.safe.length (strCells d.safe) ∧ w7.ownsRow w6.drew.heap.size 37 2 (.slice yA yN yC) d.late.length (putCells d.late)) from ⟨ow71, ow72⟩)
         clear ow71 ow72 bw7
         obtain ⟨cV1, cV2, _, _⟩ := rk_two V_w7.out
         obtain ⟨cA1, cA2, _, _⟩ := rk_two A_w7.out
         obtain ⟨cX1, cX2, _, _⟩ := rk_two X_w7.out
         obtain ⟨cG1, cG2, _, _⟩ := rk_two G_w7.out)
      | (go_at_call 25
         refine (eqDisk_any ⟨_, _, _, _, _, _, rfl, sv_of_own Rx_w7.out.1, sv_of_own Rx_w7.out.2⟩ ⟨_, _, _, _, _, _, rfl, sv_of_own Ry_w7.out.1, sv_of_own Ry_w7.out.2⟩ HF.out HF.out).mono ?_
         rintro e w8 ⟨rfl, bw8⟩
         rw [same_dk]
         have B_w8 := (show Hid (Below w.heap.size w w8) from B_w7.out.trans (bw8.mono B_w7.out.size))
         have V_w8 := (show Hid (w8.heap[w0.heap.size]? = some (.cells #[.slice sa sn sc, .slice sA sN sC] 43 (0, 0))) from (bw8.block _ (lt_of_block V_w7.out)).trans V_w7.out)
         have Ra_w8 := (show Hid (w8.ownsRow w2.heap.size 9 1 (.slice aa an ac) qd.safe.length (strCells qd.safe) ∧ w8.ownsRow w2.heap.size 37 2 (.slice aA aN aC) qd.late.length (putCells qd.late)) from ⟨ownsRow_below Ra_w7.out.1 bw8, ownsRow_below Ra_w7.out.2 bw8⟩)
         have A_w8 := (show Hid (w8.heap[w3.heap.size]? = some (.cells #[.slice aa an ac, .slice aA aN aC] 27 (0, 0))) from (bw8.block _ (lt_of_block A_w7.out)).trans A_w7.out)
         have Rx_w8 := (show Hid (w8.ownsRow w3a.heap.size 9 1 (.slice xa xn xc) d.safe.length (strCells d.safe) ∧ w8.ownsRow w3a.heap.size 37 2 (.slice xA xN xC) d.late.length (putCells d.late)) from ⟨ownsRow_below Rx_w7.out.1 bw8, ownsRow_below Rx_w7.out.2 bw8⟩)
         have X_w8 := (show Hid (w8.heap[w4.heap.size]? = some (.cells #[.slice xa xn xc, .slice xA xN xC] 27 (0, 0))) from (bw8.block _ (lt_of_block X_w7.out)).trans X_w7.out)
         have Rg_w8 := (show Hid (w8.ownsRow w4a.heap.size 9 1 (.slice ga gn gc) qd.safe.length (strCells qd.safe) ∧ w8.ownsRow w4a.heap.size 37 2 (.slice gA gN gC) qd.late.length (putCells qd.late)) from ⟨ownsRow_below Rg_w7.out.1 bw8, ownsRow_below Rg_w7.out.2 bw8⟩)
         have G_w8 := (show Hid (w8.heap[w5.heap.size]? = some (.cells #[.slice ga gn gc, .slice gA gN gC] 27 (0, 0))) from (bw8.block _ (lt_of_block G_w7.out)).trans G_w7.out)
         have Ry_w8 := (show Hid (w8.ownsRow w6.drew.heap.size 9 1 (.slice ya yn yc) d.safe.length (strCells d.safe) ∧ w8.ownsRow w6.drew.heap.size 37 2 (.slice yA yN yC) d.late.length (putCells d.late)) from ⟨ownsRow_below Ry_w7.out.1 bw8, ownsRow_below Ry_w7.out.2 bw8⟩)
         clear B_w7 V_w7 Ra_w7 A_w7 Rx_w7 X_w7 Rg_w7 G_w7 Ry_w7 cV1 cV2 cA1 cA2 cX1 cX2 cG1 cG2 bw8
         obtain ⟨cV1, cV2, _, _⟩ := rk_two V_w8.out
         obtain ⟨cA1, cA2, _, _⟩ := rk_two A_w8.out
         obtain ⟨cX1, cX2, _, _⟩ := rk_two X_w8.out
         obtain ⟨cG1, cG2, _, _⟩ := rk_two G_w8.out))
    
    all_goals (
      obtain ⟨cV1, cV2, _, _⟩ := rk_two V_w8.out
      obtain ⟨cA1, cA2, _, _⟩ := rk_two A_w8.out
      obtain ⟨cX1, cX2, _, _⟩ := rk_two X_w8.out
      obtain ⟨cG1, cG2, _, _⟩ := rk_two G_w8.out
      go_wp2_with fail
      go_at_call 28
      refine (markDisk_any Rx_w8.out.1 Rx_w8.out.2 HF.out).mono ?_
      rintro e w9 ⟨rfl, mw91, mw92, frw9⟩
      have B_w9 := (show Hid (Below w.heap.size w w9) from B_w8.out.trans (frw9.below B_w8.out.size (fun j e => by have h1 := XL.out.1 j e; have h2 := SW.out; omega) (fun j e => by have h1 := XL.out.2 j e; have h2 := SW.out; omega)))
      have V_w9 := (show Hid (w9.heap[w0.heap.size]? = some (.cells #[.slice sa sn sc, .slice sA sN sC] 43 (0, 0))) from frw9.var Rx_w8.out.1 Rx_w8.out.2 rfl rfl V_w8.out (by decide) (by decide))
      have Ra_w9 := (show Hid (w9.ownsRow w2.heap.size 9 1 (.slice aa an ac) qd.safe.length (strCells qd.safe) ∧ w9.ownsRow w2.heap.size 37 2 (.slice aA aN aC) qd.late.length (putCells qd.late)) from ⟨frw9.row Ra_w8.out.1 (fun j e e2 => by have h1 := AL.out.1 j e; have h2 := XL.out.1 j e2.symm; have h3 := Sw3a.out; omega) (fun j e e2 => by have h1 := AL.out.1 j e; have h2 := XL.out.2 j e2.symm; have h3 := Sw3a.out; omega), frw9.row Ra_w8.out.2 (fun j e e2 => by have h1 := AL.out.2 j e; have h2 := XL.out.1 j e2.symm; have h3 := Sw3a.out; omega) (fun j e e2 => by have h1 := AL.out.2 j e; have h2 := XL.out.2 j e2.symm; have h3 := Sw3a.out; omega)⟩)
      have A_w9 := (show Hid (w9.heap[w3.heap.size]? = some (.cells #[.slice aa an ac, .slice aA aN aC] 27 (0, 0))) from frw9.var Rx_w8.out.1 Rx_w8.out.2 rfl rfl A_w8.out (by decide) (by decide))
      have X_w9 := (show Hid (w9.heap[w4.heap.size]? = some (.cells #[.slice xa xn xc, .slice xA xN xC] 27 (0, 0))) from frw9.var Rx_w8.out.1 Rx_w8.out.2 rfl rfl X_w8.out (by decide) (by decide))
      have Rg_w9 := (show Hid (w9.ownsRow w4a.heap.size 9 1 (.slice ga gn gc) qd.safe.length (strCells qd.safe) ∧ w9.ownsRow w4a.heap.size 37 2 (.slice gA gN gC) qd.late.length (putCells qd.late)) from ⟨frw9.row Rg_w8.out.1 (fun j e e2 => by have h1 := GL.out.1 j e; have h2 := XL.out.1 j e2.symm; have h3 := Sw4a.out; omega) (fun j e e2 => by have h1 := GL.out.1 j e; have h2 := XL.out.2 j e2.symm; have h3 := Sw4a.out; omega), frw9.row Rg_w8.out.2 (fun j e e2 => by have h1 := GL.out.2 j e; have h2 := XL.out.1 j e2.symm; have h3 := Sw4a.out; omega) (fun j e e2 => by have h1 := GL.out.2 j e; have h2 := XL.out.2 j e2.symm; have h3 := Sw4a.out; omega)⟩)
      have G_w9 := (show Hid (w9.heap[w5.heap.size]? = some (.cells #[.slice ga gn gc, .slice gA gN gC] 27 (0, 0))) from frw9.var Rx_w8.out.1 Rx_w8.out.2 rfl rfl G_w8.out (by decide) (by decide))
      clear B_w8 V_w8 Ra_w8 A_w8 X_w8 Rg_w8 G_w8 Rx_w8 cV1 cV2 cA1 cA2 cX1 cX2 cG1 cG2
      clear mw91 mw92 frw9
      have hf1 := HF.out.sl
      have hf2 := HF.out.ll
      have hk0 : ¬ (1 + (d.safe.length : Int) + 2 * d.late.length < 0) := by omega
      clear hf1 hf2
      obtain ⟨cV1, cV2, _, _⟩ := rk_two V_w9.out
      obtain ⟨cA1, cA2, _, _⟩ := rk_two A_w9.out
      obtain ⟨cX1, cX2, _, _⟩ := rk_two X_w9.out
      obtain ⟨cG1, cG2, _, _⟩ := rk_two G_w9.out
      go_wp2_with fail
      go_at_call 25
      refine (eqDisk_any ⟨_, _, _, _, _, _, rfl, sv_of_own Rg_w9.out.1, sv_of_own Rg_w9.out.2⟩ ⟨_, _, _, _, _, _, rfl, sv_of_own Ra_w9.out.1, sv_of_own Ra_w9.out.2⟩ FQ.out FQ.out).mono ?_
      rintro e w10 ⟨rfl, bw10⟩
      rw [same_dk]
      have B_w10 := (show Hid (Below w.heap.size w w10) from B_w9.out.trans (bw10.mono B_w9.out.size))
      have V_w10 := (show Hid (w10.heap[w0.heap.size]? = some (.cells #[.slice sa sn sc, .slice sA sN sC] 43 (0, 0))) from (bw10.block _ (lt_of_block V_w9.out)).trans V_w9.out)
      have Ra_w10 := (show Hid (w10.ownsRow w2.heap.size 9 1 (.slice aa an ac) qd.safe.length (strCells qd.safe) ∧ w10.ownsRow w2.heap.size 37 2 (.slice aA aN aC) qd.late.length (putCells qd.late)) from ⟨ownsRow_below Ra_w9.out.1 bw10, ownsRow_below Ra_w9.out.2 bw10⟩)
      have A_w10 := (show Hid (w10.heap[w3.heap.size]? = some (.cells #[.slice aa an ac, .slice aA aN aC] 27 (0, 0))) from (bw10.block _ (lt_of_block A_w9.out)).trans A_w9.out)
      have X_w10 := (show Hid (w10.heap[w4.heap.size]? = some (.cells #[.slice xa xn xc, .slice xA xN xC] 27 (0, 0))) from (bw10.block _ (lt_of_block X_w9.out)).trans X_w9.out)
      have Rg_w10 := (show Hid (w10.ownsRow w4a.heap.size 9 1 (.slice ga gn gc) qd.safe.length (strCells qd.safe) ∧ w10.ownsRow w4a.heap.size 37 2 (.slice gA gN gC) qd.late.length (putCells qd.late)) from ⟨ownsRow_below Rg_w9.out.1 bw10, ownsRow_below Rg_w9.out.2 bw10⟩)
      have G_w10 := (show Hid (w10.heap[w5.heap.size]? = some (.cells #[.slice ga gn gc, .slice gA gN gC] 27 (0, 0))) from (bw10.block _ (lt_of_block G_w9.out)).trans G_w9.out)
      clear B_w9 V_w9 Ra_w9 A_w9 X_w9 Rg_w9 G_w9 cV1 cV2 cA1 cA2 cX1 cX2 cG1 cG2 bw10
      clear hk0
      obtain ⟨cV1, cV2, _, _⟩ := rk_two V_w10.out
      obtain ⟨cA1, cA2, _, _⟩ := rk_two A_w10.out
      obtain ⟨cX1, cX2, _, _⟩ := rk_two X_w10.out
      obtain ⟨cG1, cG2, _, _⟩ := rk_two G_w10.out
      go_wp2_with fail
      go_at_call 28
      refine (markDisk_any Rg_w10.out.1 Rg_w10.out.2 FQ.out).mono ?_
      rintro e w11 ⟨rfl, mw111, mw112, frw11⟩
      have B_w11 := (show Hid (Below w.heap.size w w11) from B_w10.out.trans (frw11.below B_w10.out.size (fun j e => by have h1 := GL.out.1 j e; have h2 := SW.out; omega) (fun j e => by have h1 := GL.out.2 j e; have h2 := SW.out; omega)))
      have V_w11 := (show Hid (w11.heap[w0.heap.size]? = some (.cells #[.slice sa sn sc, .slice sA sN sC] 43 (0, 0))) from frw11.var Rg_w10.out.1 Rg_w10.out.2 rfl rfl V_w10.out (by decide) (by decide))
      have Ra_w11 := (show Hid (w11.ownsRow w2.heap.size 9 1 (.slice aa an ac) qd.safe.length (strCells qd.safe) ∧ w11.ownsRow w2.heap.size 37 2 (.slice aA aN aC) qd.late.length (putCells qd.late)) from ⟨frw11.row Ra_w10.out.1 (fun j e e2 => by have h1 := AL.out.1 j e; have h2 := GL.out.1 j e2.symm; have h3 := Sw3a.out; have h4 := Sw4.out; have h5 := Sw4a.out; omega) (fun j e e2 => by have h1 := AL.out.1 j e; have h2 := GL.out.2 j e2.symm; have h3 := Sw3a.out; have h4 := Sw4.out; have h5 := Sw4a.out; omega), frw11.row Ra_w10.out.2 (fun j e e2 => by have h1 := AL.out.2 j e; have h2 := GL.out.1 j e2.symm; have h3 := Sw3a.out; have h4 := Sw4.out; have h5 := Sw4a.out; omega) (fun j e e2 => by have h1 := AL.out.2 j e; have h2 := GL.out.2 j e2.symm; have h3 := Sw3a.out; have h4 := Sw4.out; have h5 := Sw4a.out; omega)⟩)
      have A_w11 := (show Hid (w11.heap[w3.heap.size]? = some (.cells #[.slice aa an ac, .slice aA aN aC] 27 (0, 0))) from frw11.var Rg_w10.out.1 Rg_w10.out.2 rfl rfl A_w10.out (by decide) (by decide))
      have X_w11 := (show Hid (w11.heap[w4.heap.size]? = some (.cells #[.slice xa xn xc, .slice xA xN xC] 27 (0, 0))) from frw11.var Rg_w10.out.1 Rg_w10.out.2 rfl rfl X_w10.out (by decide) (by decide))
      have G_w11 := (show Hid (w11.heap[w5.heap.size]? = some (.cells #[.slice ga gn gc, .slice gA gN gC] 27 (0, 0))) from frw11.var Rg_w10.out.1 Rg_w10.out.2 rfl rfl G_w10.out (by decide) (by decide))
      clear B_w10 V_w10 Ra_w10 A_w10 X_w10 G_w10 Rg_w10 cV1 cV2 cA1 cA2 cX1 cX2 cG1 cG2
      have Mg_w11 := (show Hid (w11.ownsRow w4a.heap.size 9 1 (.slice ga gn gc) qd.safe.length (strCells (markStrs 1 qd.safe.length)) ∧ w11.ownsRow w4a.heap.size 37 2 (.slice gA gN gC) qd.late.length (putCells (markPuts (1 + qd.safe.length) qd.late.length))) from ⟨mw111, mw112⟩)
      clear mw111 mw112 frw11
      have hk1 : ¬ (1 + (qd.safe.length : Int) + 2 * qd.late.length < 0) := by omega
      have hk2 : ((1 + (qd.safe.length : Int) + 2 * qd.late.length) != (1 + (qd.safe.length : Int) + 2 * qd.late.length)) = false := by simp
      obtain ⟨cV1, cV2, _, _⟩ := rk_two V_w11.out
      obtain ⟨cA1, cA2, _, _⟩ := rk_two A_w11.out
      obtain ⟨cX1, cX2, _, _⟩ := rk_two X_w11.out
      obtain ⟨cG1, cG2, _, _⟩ := rk_two G_w11.out
      go_wp2_with fail
      go_at_call 29
      refine (heldDisk_any (sv_of_own Mg_w11.out.1) (sv_of_own Mg_w11.out.2) fl1 fl2).mono ?_
      rintro e w12 ⟨rfl, b12⟩
      have B_w12 := (show Hid (Below w.heap.size w w12) from B_w11.out.trans (b12.mono B_w11.out.size))
      have V_w12 := (show Hid (w12.heap[w0.heap.size]? = some (.cells #[.slice sa sn sc, .slice sA sN sC] 43 (0, 0))) from (b12.block _ (lt_of_block V_w11.out)).trans V_w11.out)
      have Ra_w12 := (show Hid (w12.ownsRow w2.heap.size 9 1 (.slice aa an ac) qd.safe.length (strCells qd.safe) ∧ w12.ownsRow w2.heap.size 37 2 (.slice aA aN aC) qd.late.length (putCells qd.late)) from ⟨ownsRow_below Ra_w11.out.1 b12, ownsRow_below Ra_w11.out.2 b12⟩)
      have A_w12 := (show Hid (w12.heap[w3.heap.size]? = some (.cells #[.slice aa an ac, .slice aA aN aC] 27 (0, 0))) from (b12.block _ (lt_of_block A_w11.out)).trans A_w11.out)
      have X_w12 := (show Hid (w12.heap[w4.heap.size]? = some (.cells #[.slice xa xn xc, .slice xA xN xC] 27 (0, 0))) from (b12.block _ (lt_of_block X_w11.out)).trans X_w11.out)
      have G_w12 := (show Hid (w12.heap[w5.heap.size]? = some (.cells #[.slice ga gn gc, .slice gA gN gC] 27 (0, 0))) from (b12.block _ (lt_of_block G_w11.out)).trans G_w11.out)
      have Mg_w12 := (show Hid (w12.ownsRow w4a.heap.size 9 1 (.slice ga gn gc) qd.safe.length (strCells (markStrs 1 qd.safe.length)) ∧ w12.ownsRow w4a.heap.size 37 2 (.slice gA gN gC) qd.late.length (putCells (markPuts (1 + qd.safe.length) qd.late.length))) from ⟨ownsRow_below Mg_w11.out.1 b12, ownsRow_below Mg_w11.out.2 b12⟩)
      clear B_w11 V_w11 Ra_w11 A_w11 X_w11 G_w11 Mg_w11 cV1 cV2 cA1 cA2 cX1 cX2 cG1 cG2 b12
      obtain ⟨cV1, cV2, _, _⟩ := rk_two V_w12.out
      obtain ⟨cA1, cA2, _, _⟩ := rk_two A_w12.out
      obtain ⟨cX1, cX2, _, _⟩ := rk_two X_w12.out
      obtain ⟨cG1, cG2, _, _⟩ := rk_two G_w12.out
      go_wp2_with fail
      go_at_call 24
      refine (toDisk_any (HD.out.below B_w12.out) HF.out).mono ?_
      rintro e w13 ⟨vw13, rfl, ow13, bw13⟩
      obtain ⟨za, zn, zc, zA, zN, zC, rfl, ow131, ow132⟩ := ow13
      have Sw13 := (show Hid (w12.heap.size ≤ w13.heap.size) from bw13.size)
      have B_w13 := (show Hid (Below w.heap.size w w13) from B_w12.out.trans (bw13.mono B_w12.out.size))
      have V_w13 := (show Hid (w13.heap[w0.heap.size]? = some (.cells #[.slice sa sn sc, .slice sA sN sC] 43 (0, 0))) from (bw13.block _ (lt_of_block V_w12.out)).trans V_w12.out)
      have Ra_w13 := (show Hid (w13.ownsRow w2.heap.size 9 1 (.slice aa an ac) qd.safe.length (strCells qd.safe) ∧ w13.ownsRow w2.heap.size 37 2 (.slice aA aN aC) qd.late.length (putCells qd.late)) from ⟨ownsRow_below Ra_w12.out.1 bw13, ownsRow_below Ra_w12.out.2 bw13⟩)
      have A_w13 := (show Hid (w13.heap[w3.heap.size]? = some (.cells #[.slice aa an ac, .slice aA aN aC] 27 (0, 0))) from (bw13.block _ (lt_of_block A_w12.out)).trans A_w12.out)
      have X_w13 := (show Hid (w13.heap[w4.heap.size]? = some (.cells #[.slice xa xn xc, .slice xA xN xC] 27 (0, 0))) from (bw13.block _ (lt_of_block X_w12.out)).trans X_w12.out)
      have G_w13 := (show Hid (w13.heap[w5.heap.size]? = some (.cells #[.slice ga gn gc, .slice gA gN gC] 27 (0, 0))) from (bw13.block _ (lt_of_block G_w12.out)).trans G_w12.out)
      have Mg_w13 := (show Hid (w13.ownsRow w4a.heap.size 9 1 (.slice ga gn gc) qd.safe.length (strCells (markStrs 1 qd.safe.length)) ∧ w13.ownsRow w4a.heap.size 37 2 (.slice gA gN gC) qd.late.length (putCells (markPuts (1 + qd.safe.length) qd.late.length))) from ⟨ownsRow_below Mg_w12.out.1 bw13, ownsRow_below Mg_w12.out.2 bw13⟩)
      clear B_w12 V_w12 Ra_w12 A_w12 X_w12 G_w12 Mg_w12 cV1 cV2 cA1 cA2 cX1 cX2 cG1 cG2 bw13
      have Rz_w13 := (show Hid (w13.ownsRow w12.heap.size 9 1 (.slice za zn zc) d.safe.length (strCells d.safe) ∧ w13.ownsRow w12.heap.size 37 2 (.slice zA zN zC) d.late.length (putCells d.late)) from ⟨ow131, ow132⟩)
      clear ow131 ow132
      obtain ⟨cV1, cV2, _, _⟩ := rk_two V_w13.out
      obtain ⟨cA1, cA2, _, _⟩ := rk_two A_w13.out
      obtain ⟨cX1, cX2, _, _⟩ := rk_two X_w13.out
      obtain ⟨cG1, cG2, _, _⟩ := rk_two G_w13.out
      go_wp2_with fail
      go_at_call 15
      refine (CI.out _ _ ⟨_, _, _, _, _, _, rfl, sv_of_own Rz_w13.out.1, sv_of_own Rz_w13.out.2⟩).mono ?_
      rintro e w14 ⟨v14, rfl, o14, b14⟩
      obtain ⟨ha, hn, hc, hA, hN, hC, rfl, o141, o142⟩ := o14
      have B_w14 := (show Hid (Below w.heap.size w w14) from B_w13.out.trans (b14.mono B_w13.out.size))
      have V_w14 := (show Hid (w14.heap[w0.heap.size]? = some (.cells #[.slice sa sn sc, .slice sA sN sC] 43 (0, 0))) from (b14.block _ (lt_of_block V_w13.out)).trans V_w13.out)
      have Ra_w14 := (show Hid (w14.ownsRow w2.heap.size 9 1 (.slice aa an ac) qd.safe.length (strCells qd.safe) ∧ w14.ownsRow w2.heap.size 37 2 (.slice aA aN aC) qd.late.length (putCells qd.late)) from ⟨ownsRow_below Ra_w13.out.1 b14, ownsRow_below Ra_w13.out.2 b14⟩)
      have A_w14 := (show Hid (w14.heap[w3.heap.size]? = some (.cells #[.slice aa an ac, .slice aA aN aC] 27 (0, 0))) from (b14.block _ (lt_of_block A_w13.out)).trans A_w13.out)
      have X_w14 := (show Hid (w14.heap[w4.heap.size]? = some (.cells #[.slice xa xn xc, .slice xA xN xC] 27 (0, 0))) from (b14.block _ (lt_of_block X_w13.out)).trans X_w13.out)
      have G_w14 := (show Hid (w14.heap[w5.heap.size]? = some (.cells #[.slice ga gn gc, .slice gA gN gC] 27 (0, 0))) from (b14.block _ (lt_of_block G_w13.out)).trans G_w13.out)
      have Mg_w14 := (show Hid (w14.ownsRow w4a.heap.size 9 1 (.slice ga gn gc) qd.safe.length (strCells (markStrs 1 qd.safe.length)) ∧ w14.ownsRow w4a.heap.size 37 2 (.slice gA gN gC) qd.late.length (putCells (markPuts (1 + qd.safe.length) qd.late.length))) from ⟨ownsRow_below Mg_w13.out.1 b14, ownsRow_below Mg_w13.out.2 b14⟩)
      have Rz_w14 := (show Hid (w14.ownsRow w12.heap.size 9 1 (.slice za zn zc) d.safe.length (strCells d.safe) ∧ w14.ownsRow w12.heap.size 37 2 (.slice zA zN zC) d.late.length (putCells d.late)) from ⟨ownsRow_below Rz_w13.out.1 b14, ownsRow_below Rz_w13.out.2 b14⟩)
      clear B_w13 V_w13 Ra_w13 A_w13 X_w13 G_w13 Mg_w13 Rz_w13 cV1 cV2 cA1 cA2 cX1 cX2 cG1 cG2 b14
      have Rh_w14 := (show Hid (w14.ownsRow w13.heap.size 9 1 (.slice ha hn hc) qd.safe.length (strCells qd.safe) ∧ w14.ownsRow w13.heap.size 37 2 (.slice hA hN hC) qd.late.length (putCells qd.late)) from ⟨o141, o142⟩)
      clear o141 o142
      obtain ⟨w14a, hw14a⟩ : ∃ x, x = w14.alloc (.cells #[.slice ha hn hc, .slice hA hN hC] 27) := ⟨_, rfl⟩
      have bw14a : Below w14.heap.size w14 w14a := by rw [hw14a]; exact (Below.refl _ _).alloc (Nat.le_refl _) _
      have xw14a : w14a.heap[w14.heap.size]? = some (.cells #[.slice ha hn hc, .slice hA hN hC] 27 (0, 0)) := by rw [hw14a]; exact World.alloc_heap_new _ _
      obtain ⟨oV1, oV2, _, _⟩ := rk_two V_w14.out
      have oV3 := lt_of_block V_w14.out
      obtain ⟨oA1, oA2, _, _⟩ := rk_two A_w14.out
      have oA3 := lt_of_block A_w14.out
      obtain ⟨oX1, oX2, _, _⟩ := rk_two X_w14.out
      have oX3 := lt_of_block X_w14.out
      obtain ⟨oG1, oG2, _, _⟩ := rk_two G_w14.out
      have oG3 := lt_of_block G_w14.out
      have sw14a := bw14a.size
      have Sw14a := (show Hid (w14.heap.size ≤ w14a.heap.size) from sw14a)
      clear sw14a
      have B_w14a := (show Hid (Below w.heap.size w w14a) from B_w14.out.trans (bw14a.mono B_w14.out.size))
      have V_w14a := (show Hid (w14a.heap[w0.heap.size]? = some (.cells #[.slice sa sn sc, .slice sA sN sC] 43 (0, 0))) from (bw14a.block _ (lt_of_block V_w14.out)).trans V_w14.out)
      have Ra_w14a := (show Hid (w14a.ownsRow w2.heap.size 9 1 (.slice aa an ac) qd.safe.length (strCells qd.safe) ∧ w14a.ownsRow w2.heap.size 37 2 (.slice aA aN aC) qd.late.length (putCells qd.late)) from ⟨ownsRow_below Ra_w14.out.1 bw14a, ownsRow_below Ra_w14.out.2 bw14a⟩)
      have A_w14a := (show Hid (w14a.heap[w3.heap.size]? = some (.cells #[.slice aa an ac, .slice aA aN aC] 27 (0, 0))) from (bw14a.block _ (lt_of_block A_w14.out)).trans A_w14.out)
      have X_w14a := (show Hid (w14a.heap[w4.heap.size]? = some (.cells #[.slice xa xn xc, .slice xA xN xC] 27 (0, 0))) from (bw14a.block _ (lt_of_block X_w14.out)).trans X_w14.out)
      have G_w14a := (show Hid (w14a.heap[w5.heap.size]? = some (.cells #[.slice ga gn gc, .slice gA gN gC] 27 (0, 0))) from (bw14a.block _ (lt_of_block G_w14.out)).trans G_w14.out)
      have Mg_w14a := (show Hid (w14a.ownsRow w4a.heap.size 9 1 (.slice ga gn gc) qd.safe.length (strCells (markStrs 1 qd.safe.length)) ∧ w14a.ownsRow w4a.heap.size 37 2 (.slice gA gN gC) qd.late.length (putCells (markPuts (1 + qd.safe.length) qd.late.length))) from ⟨ownsRow_below Mg_w14.out.1 bw14a, ownsRow_below Mg_w14.out.2 bw14a⟩)
      have Rz_w14a := (show Hid (w14a.ownsRow w12.heap.size 9 1 (.slice za zn zc) d.safe.length (strCells d.safe) ∧ w14a.ownsRow w12.heap.size 37 2 (.slice zA zN zC) d.late.length (putCells d.late)) from ⟨ownsRow_below Rz_w14.out.1 bw14a, ownsRow_below Rz_w14.out.2 bw14a⟩)
      have Rh_w14a := (show Hid (w14a.ownsRow w13.heap.size 9 1 (.slice ha hn hc) qd.safe.length (strCells qd.safe) ∧ w14a.ownsRow w13.heap.size 37 2 (.slice hA hN hC) qd.late.length (putCells qd.late)) from ⟨ownsRow_below Rh_w14.out.1 bw14a, ownsRow_below Rh_w14.out.2 bw14a⟩)
      clear B_w14 V_w14 Ra_w14 A_w14 X_w14 G_w14 Mg_w14 Rz_w14 Rh_w14 bw14a
      have H_w14a := (show Hid (w14a.heap[w14.heap.size]? = some (.cells #[.slice ha hn hc, .slice hA hN hC] 27 (0, 0))) from xw14a)
      clear xw14a
      go_wp2_with fail
      go_at_call 25
      rw [← hw14a]
      refine (eqDisk_any ⟨_, _, _, _, _, _, rfl, sv_of_own Rh_w14a.out.1, sv_of_own Rh_w14a.out.2⟩ ⟨_, _, _, _, _, _, rfl, sv_of_own Ra_w14a.out.1, sv_of_own Ra_w14a.out.2⟩ FQ.out FQ.out).mono ?_
      rintro e w15 ⟨rfl, bw15⟩
      clear hw14a
      rw [same_dk]
      have B_w15 := (show Hid (Below w.heap.size w w15) from B_w14a.out.trans (bw15.mono B_w14a.out.size))
      have V_w15 := (show Hid (w15.heap[w0.heap.size]? = some (.cells #[.slice sa sn sc, .slice sA sN sC] 43 (0, 0))) from (bw15.block _ (lt_of_block V_w14a.out)).trans V_w14a.out)
      have Ra_w15 := (show Hid (w15.ownsRow w2.heap.size 9 1 (.slice aa an ac) qd.safe.length (strCells qd.safe) ∧ w15.ownsRow w2.heap.size 37 2 (.slice aA aN aC) qd.late.length (putCells qd.late)) from ⟨ownsRow_below Ra_w14a.out.1 bw15, ownsRow_below Ra_w14a.out.2 bw15⟩)
      have A_w15 := (show Hid (w15.heap[w3.heap.size]? = some (.cells #[.slice aa an ac, .slice aA aN aC] 27 (0, 0))) from (bw15.block _ (lt_of_block A_w14a.out)).trans A_w14a.out)
      have X_w15 := (show Hid (w15.heap[w4.heap.size]? = some (.cells #[.slice xa xn xc, .slice xA xN xC] 27 (0, 0))) from (bw15.block _ (lt_of_block X_w14a.out)).trans X_w14a.out)
      have G_w15 := (show Hid (w15.heap[w5.heap.size]? = some (.cells #[.slice ga gn gc, .slice gA gN gC] 27 (0, 0))) from (bw15.block _ (lt_of_block G_w14a.out)).trans G_w14a.out)
      have Mg_w15 := (show Hid (w15.ownsRow w4a.heap.size 9 1 (.slice ga gn gc) qd.safe.length (strCells (markStrs 1 qd.safe.length)) ∧ w15.ownsRow w4a.heap.size 37 2 (.slice gA gN gC) qd.late.length (putCells (markPuts (1 + qd.safe.length) qd.late.length))) from ⟨ownsRow_below Mg_w14a.out.1 bw15, ownsRow_below Mg_w14a.out.2 bw15⟩)
      have Rz_w15 := (show Hid (w15.ownsRow w12.heap.size 9 1 (.slice za zn zc) d.safe.length (strCells d.safe) ∧ w15.ownsRow w12.heap.size 37 2 (.slice zA zN zC) d.late.length (putCells d.late)) from ⟨ownsRow_below Rz_w14a.out.1 bw15, ownsRow_below Rz_w14a.out.2 bw15⟩)
      have Rh_w15 := (show Hid (w15.ownsRow w13.heap.size 9 1 (.slice ha hn hc) qd.safe.length (strCells qd.safe) ∧ w15.ownsRow w13.heap.size 37 2 (.slice hA hN hC) qd.late.length (putCells qd.late)) from ⟨ownsRow_below Rh_w14a.out.1 bw15, ownsRow_below Rh_w14a.out.2 bw15⟩)
      have H_w15 := (show Hid (w15.heap[w14.heap.size]? = some (.cells #[.slice ha hn hc, .slice hA hN hC] 27 (0, 0))) from (bw15.block _ (lt_of_block H_w14a.out)).trans H_w14a.out)
      clear B_w14a V_w14a Ra_w14a A_w14a X_w14a G_w14a Mg_w14a Rz_w14a Rh_w14a H_w14a oV1 oV2 oV3 oA1 oA2 oA3 oX1 oX2 oX3 oG1 oG2 oG3 bw15
      obtain ⟨cV1, cV2, _, _⟩ := rk_two V_w15.out
      obtain ⟨cA1, cA2, _, _⟩ := rk_two A_w15.out
      obtain ⟨cX1, cX2, _, _⟩ := rk_two X_w15.out
      obtain ⟨cG1, cG2, _, _⟩ := rk_two G_w15.out
      obtain ⟨cH1, cH2, _, _⟩ := rk_two H_w15.out
      go_wp2_with fail
      go_at_call 29
      refine (heldDisk_any (sv_of_own Mg_w15.out.1) (sv_of_own Mg_w15.out.2) fl1 fl2).mono ?_
      rintro e w16 ⟨rfl, b16⟩
      have B_w16 := (show Hid (Below w.heap.size w w16) from B_w15.out.trans (b16.mono B_w15.out.size))
      have V_w16 := (show Hid (w16.heap[w0.heap.size]? = some (.cells #[.slice sa sn sc, .slice sA sN sC] 43 (0, 0))) from (b16.block _ (lt_of_block V_w15.out)).trans V_w15.out)
      have Ra_w16 := (show Hid (w16.ownsRow w2.heap.size 9 1 (.slice aa an ac) qd.safe.length (strCells qd.safe) ∧ w16.ownsRow w2.heap.size 37 2 (.slice aA aN aC) qd.late.length (putCells qd.late)) from ⟨ownsRow_below Ra_w15.out.1 b16, ownsRow_below Ra_w15.out.2 b16⟩)
      have A_w16 := (show Hid (w16.heap[w3.heap.size]? = some (.cells #[.slice aa an ac, .slice aA aN aC] 27 (0, 0))) from (b16.block _ (lt_of_block A_w15.out)).trans A_w15.out)
      have X_w16 := (show Hid (w16.heap[w4.heap.size]? = some (.cells #[.slice xa xn xc, .slice xA xN xC] 27 (0, 0))) from (b16.block _ (lt_of_block X_w15.out)).trans X_w15.out)
      have G_w16 := (show Hid (w16.heap[w5.heap.size]? = some (.cells #[.slice ga gn gc, .slice gA gN gC] 27 (0, 0))) from (b16.block _ (lt_of_block G_w15.out)).trans G_w15.out)
      have Mg_w16 := (show Hid (w16.ownsRow w4a.heap.size 9 1 (.slice ga gn gc) qd.safe.length (strCells (markStrs 1 qd.safe.length)) ∧ w16.ownsRow w4a.heap.size 37 2 (.slice gA gN gC) qd.late.length (putCells (markPuts (1 + qd.safe.length) qd.late.length))) from ⟨ownsRow_below Mg_w15.out.1 b16, ownsRow_below Mg_w15.out.2 b16⟩)
      have Rz_w16 := (show Hid (w16.ownsRow w12.heap.size 9 1 (.slice za zn zc) d.safe.length (strCells d.safe) ∧ w16.ownsRow w12.heap.size 37 2 (.slice zA zN zC) d.late.length (putCells d.late)) from ⟨ownsRow_below Rz_w15.out.1 b16, ownsRow_below Rz_w15.out.2 b16⟩)
      have Rh_w16 := (show Hid (w16.ownsRow w13.heap.size 9 1 (.slice ha hn hc) qd.safe.length (strCells qd.safe) ∧ w16.ownsRow w13.heap.size 37 2 (.slice hA hN hC) qd.late.length (putCells qd.late)) from ⟨ownsRow_below Rh_w15.out.1 b16, ownsRow_below Rh_w15.out.2 b16⟩)
      have H_w16 := (show Hid (w16.heap[w14.heap.size]? = some (.cells #[.slice ha hn hc, .slice hA hN hC] 27 (0, 0))) from (b16.block _ (lt_of_block H_w15.out)).trans H_w15.out)
      clear B_w15 V_w15 Ra_w15 A_w15 X_w15 G_w15 Mg_w15 Rz_w15 Rh_w15 H_w15 cV1 cV2 cA1 cA2 cX1 cX2 cG1 cG2 cH1 cH2 b16
      go_wp2
      go_ret
      exact ⟨rfl, B0.out.trans (B_w16.out.mono B0.out.size)⟩)
end Go.Proofs.Ytdhnoaajdjkddaa
