/- The program's DiskSync and DiskCrash. No condition. -/
import Derived.Test.YtdhnoaajdjkddaaISettle
namespace Go.Proofs.Ytdhnoaajdjkddaa
open Go.RowKit
set_option maxRecDepth 100000
set_option linter.unusedVariables false

set_option maxHeartbeats 1000000 in
set_option maxRecDepth 100000 in
theorem idiskSync_any {w : World} {v : Value} {d : PDisk} (h : DiskAt w v d) (hf : DiskFit d) :
    Calls Try.prog 15 #[v] w fun e w' => ∃ v', e = .returned (.tuple #[v', .bool (syncDk d).2]) ∧ OwnDk w.heap.size w' v' (syncDk d).1 ∧ Below w.heap.size w w' := by
  have HD := (show Hid (DiskAt w v d) from h)
  have HF := (show Hid (DiskFit d) from hf)
  obtain ⟨sa, sn, sc, la, ln, lc, rfl, _, _⟩ := h
  clear hf
  obtain ⟨w1, hw1⟩ : ∃ x, x = (w.alloc (.cells #[.slice sa sn sc, .slice la ln lc] 27)).alloc (.cells #[.slice none 0 0, .slice none 0 0] 27) := ⟨_, rfl⟩
  have b1 : Below w.heap.size w w1 := by rw [hw1]; exact ((Below.refl _ _).alloc (Nat.le_refl _) _).alloc (by simp) _
  have x1 : w1.heap[w.heap.size]? = some (.cells #[.slice sa sn sc, .slice la ln lc] 27 (0, 0)) := by rw [hw1, Below.heap_alloc _ _ _ (by simp)]; exact World.alloc_heap_new _ _
  have x2 : w1.heap[w.heap.size + 1]? = some (.cells #[.slice none 0 0, .slice none 0 0] 27 (0, 0)) := by
    rw [hw1]
    have := World.alloc_heap_new (w.alloc (.cells #[.slice sa sn sc, .slice la ln lc] 27)) (.cells #[.slice none 0 0, .slice none 0 0] 27)
    rwa [World.size_alloc] at this
  have X1 := (show Hid _ from x1)
  have X2 := (show Hid _ from x2)
  have B1 := (show Hid (Below w.heap.size w w1) from b1)
  clear b1 x1 x2
  go_enter Try.func15, Try.ntmps15
  go_wp2_with fail
  go_at_call 16
  rw [← hw1]
  refine (idiskOk_any (HD.out.below B1.out) HF.out).mono ?_
  rintro e w2 ⟨rfl, b2⟩
  clear hw1
  have B2 := (show Hid (Below w.heap.size w w2) from B1.out.trans (b2.mono B1.out.size))
  have y1 := (b2.block _ (lt_of_block X1.out)).trans X1.out
  have y2 := (b2.block _ (lt_of_block X2.out)).trans X2.out
  obtain ⟨q1, q2, _, _⟩ := rk_two y1
  obtain ⟨r1, r2, r3, r4⟩ := rk_two y2
  have Y2 := (show Hid _ from y2)
  clear b2 y1 y2 X1 X2
  cases hb : diskB d
  · have HR : Hid (syncDk d = (zeroDk, false)) := (show syncDk d = (zeroDk, false) by rw [syncDk, if_pos hb])
    clear hb
    go_wp2
    have z2 := rk_at (k := 1) (u := .slice none 0 0) (rk_at (k := 0) (u := .slice none 0 0) Y2.out)
    refine bodyPost_ret (disk_res rfl rfl rfl z2) rfl ?_
    rw [HR.out]
    exact ⟨_, rfl, ownDk_nil _ _, ((B2.out.setCell (Nat.le_succ _) _).setCell (Nat.le_succ _) _)⟩
  · have HR : Hid (syncDk d = (doneDk 2147483647 d, true)) := (show syncDk d = (doneDk 2147483647 d, true) by rw [syncDk, if_neg (by rw [hb]; simp)])
    have CC := (show Hid _ from isettledS_any (HD.out.below B2.out) HF.out hb)
    clear hb
    go_wp2_with fail
    go_at_call 36
    refine Calls.mono CC.out ?_
    rintro e w3 ⟨v3, rfl, o3, b3⟩
    clear CC r1 r2 r3 r4 q1 q2
    have B3 := (show Hid (Below w.heap.size w w3) from B2.out.trans (b3.mono B2.out.size))
    obtain ⟨ta, tn, tc, ma, mn, mc, rfl, o31, o32⟩ := o3
    have y2 := (b3.block _ (lt_of_block Y2.out)).trans Y2.out
    obtain ⟨r1, r2, r3, r4⟩ := rk_two y2
    have O1 := (show Hid (w3.ownsRow w.heap.size 9 1 (.slice ta tn tc) (doneDk 2147483647 d).safe.length (strCells (doneDk 2147483647 d).safe)) from rk_base o31 B2.out.size)
    have O2 := (show Hid (w3.ownsRow w.heap.size 37 2 (.slice ma mn mc) (doneDk 2147483647 d).late.length (putCells (doneDk 2147483647 d).late)) from rk_base o32 B2.out.size)
    have Z2 := (show Hid _ from y2)
    clear b3 o31 o32 y2
    go_wp2
    have z1 := rk_at (k := 0) (u := .slice ta tn tc) Z2.out
    have z2 := rk_at (k := 1) (u := .slice ma mn mc) z1
    refine bodyPost_ret (disk_res rfl rfl rfl z2) rfl ?_
    rw [HR.out]
    exact ⟨_, rfl, ⟨_, _, _, _, _, _, rfl, rk_set (rk_set O1.out Z2.out (by decide)) z1 (by decide), rk_set (rk_set O2.out Z2.out (by decide)) z1 (by decide)⟩, (B3.out.setCell (p := ⟨w.heap.size + 1, 0, none⟩) (Nat.le_succ _) _).setCell (p := ⟨w.heap.size + 1, 1, none⟩) (Nat.le_succ _) _⟩

set_option maxHeartbeats 1000000 in
set_option maxRecDepth 100000 in
theorem idiskCrash_any {w : World} {v : Value} {d : PDisk} (h : DiskAt w v d) (hf : DiskFit d) (x : Int) :
    Calls Try.prog 13 #[v, .int .i64 x] w fun e w' => ∃ v', e = .returned (.tuple #[v', .bool (crashDk d x).2]) ∧ OwnDk w.heap.size w' v' (crashDk d x).1 ∧ Below w.heap.size w w' := by
  have HD := (show Hid (DiskAt w v d) from h)
  have HF := (show Hid (DiskFit d) from hf)
  obtain ⟨sa, sn, sc, la, ln, lc, rfl, _, _⟩ := h
  clear hf
  obtain ⟨w1, hw1⟩ : ∃ y, y = ((w.alloc (.cells #[.slice sa sn sc, .slice la ln lc] 27)).alloc (.cells #[.int .i64 x] 3)).alloc (.cells #[.slice none 0 0, .slice none 0 0] 27) := ⟨_, rfl⟩
  obtain ⟨w0, hw0⟩ : ∃ y, y = (w.alloc (.cells #[.slice sa sn sc, .slice la ln lc] 27)).alloc (.cells #[.int .i64 x] 3) := ⟨_, rfl⟩
  have hs0 : w0.heap.size = w.heap.size + 1 + 1 := by rw [hw0, World.size_alloc, World.size_alloc]
  have b0 : Below w.heap.size w w0 := by rw [hw0]; exact ((Below.refl _ _).alloc (Nat.le_refl _) _).alloc (by simp) _
  have z1 : w0.heap[w.heap.size]? = some (.cells #[.slice sa sn sc, .slice la ln lc] 27 (0, 0)) := by rw [hw0, Below.heap_alloc _ _ _ (by simp)]; exact World.alloc_heap_new _ _
  have z2 : w0.heap[w.heap.size + 1]? = some (.cells #[.int .i64 x] 3 (0, 0)) := by
    rw [hw0]
    have := World.alloc_heap_new (w.alloc (.cells #[.slice sa sn sc, .slice la ln lc] 27)) (.cells #[.int .i64 x] 3)
    rwa [World.size_alloc] at this
  have e1 : w1 = w0.alloc (.cells #[.slice none 0 0, .slice none 0 0] 27) := by rw [hw1, hw0]
  have b01 : Below w0.heap.size w0 w1 := by rw [e1]; exact (Below.refl _ _).alloc (Nat.le_refl _) _
  have x3 : w1.heap[w.heap.size + 1 + 1]? = some (.cells #[.slice none 0 0, .slice none 0 0] 27 (0, 0)) := by rw [← hs0, e1]; exact World.alloc_heap_new _ _
  have X1 := (show Hid (w1.heap[w.heap.size]? = some (.cells #[.slice sa sn sc, .slice la ln lc] 27 (0, 0))) from (b01.block _ (lt_of_block z1)).trans z1)
  have X2 := (show Hid (w1.heap[w.heap.size + 1]? = some (.cells #[.int .i64 x] 3 (0, 0))) from (b01.block _ (lt_of_block z2)).trans z2)
  have X3 := (show Hid _ from x3)
  have B1 := (show Hid (Below w.heap.size w w1) from b0.trans (b01.mono b0.size))
  clear hw0 hs0 b0 z1 z2 e1 b01 x3
  go_enter Try.func13, Try.ntmps13
  go_wp2_with fail
  go_at_call 16
  rw [← hw1]
  refine (idiskOk_any (HD.out.below B1.out) HF.out).mono ?_
  rintro e w2 ⟨rfl, b2⟩
  clear hw1
  have B2 := (show Hid (Below w.heap.size w w2) from B1.out.trans (b2.mono B1.out.size))
  have y1 := (b2.block _ (lt_of_block X1.out)).trans X1.out
  have y2 := (b2.block _ (lt_of_block X2.out)).trans X2.out
  have y3 := (b2.block _ (lt_of_block X3.out)).trans X3.out
  obtain ⟨q1, q2, _, _⟩ := rk_two y1
  have q3 : w2.cell? ⟨w.heap.size + 1, 0, none⟩ = some (.int .i64 x) := by simp only [World.cell?, y2]; rfl
  obtain ⟨r1, r2, r3, r4⟩ := rk_two y3
  have Y2 := (show Hid _ from y2)
  have Y3 := (show Hid _ from y3)
  clear b2 y1 y2 y3 X1 X2 X3
  have hle2 : w.heap.size ≤ w.heap.size + 1 + 1 := by omega
  have zero : Hid (∀ w2' : World, w2'.heap[w.heap.size + 1 + 1]? = some (.cells #[.slice none 0 0, .slice none 0 0] 27 (0, 0)) → Below w.heap.size w w2' → crashDk d x = (zeroDk, false) → ∃ v', (Ending.returned (.tuple #[.agg #[.slice none 0 0, .slice none 0 0], .bool false])) = Ending.returned (.tuple #[v', .bool (crashDk d x).2]) ∧ OwnDk w.heap.size ((w2'.setCell ⟨w.heap.size + 1 + 1, 0, none⟩ (.slice none 0 0)).setCell ⟨w.heap.size + 1 + 1, 1, none⟩ (.slice none 0 0)) v' (crashDk d x).1 ∧ Below w.heap.size w ((w2'.setCell ⟨w.heap.size + 1 + 1, 0, none⟩ (.slice none 0 0)).setCell ⟨w.heap.size + 1 + 1, 1, none⟩ (.slice none 0 0))) := fun w2' h b e => by
    rw [e]
    exact ⟨_, rfl, ownDk_nil _ _, ((b.setCell (p := ⟨w.heap.size + 1 + 1, 0, none⟩) hle2 _).setCell (p := ⟨w.heap.size + 1 + 1, 1, none⟩) hle2 _)⟩
  have RS := (show Hid _ from rk_at (k := 1) (u := .slice none 0 0) (rk_at (k := 0) (u := .slice none 0 0) Y3.out))
  cases hb : diskB d
  · have HR : Hid (crashDk d x = (zeroDk, false)) := (show crashDk d x = (zeroDk, false) by rw [crashDk, if_pos (.inl hb)])
    clear hb
    go_wp2
    refine bodyPost_ret (disk_res rfl rfl rfl RS.out) rfl ?_
    exact zero.out w2 Y3.out B2.out HR.out
  · by_cases h0 : x < 0
    · have HR : Hid (crashDk d x = (zeroDk, false)) := (show crashDk d x = (zeroDk, false) by rw [crashDk, if_pos (.inr (by simp [inB]; omega))])
      clear hb
      go_wp2
      refine bodyPost_ret (disk_res rfl rfl rfl RS.out) rfl ?_
      exact zero.out w2 Y3.out B2.out HR.out
    · by_cases h1 : 2147483647 < x
      · have HR : Hid (crashDk d x = (zeroDk, false)) := (show crashDk d x = (zeroDk, false) by rw [crashDk, if_pos (.inr (by simp [inB]; omega))])
        clear hb
        go_wp2
        refine bodyPost_ret (disk_res rfl rfl rfl RS.out) rfl ?_
        exact zero.out w2 Y3.out B2.out HR.out
      · have HR : Hid (crashDk d x = (doneDk x d, true)) := (show crashDk d x = (doneDk x d, true) by rw [crashDk, if_neg (by rw [hb, inB_yes (by omega) (by omega)]; simp)])
        have CC := (show Hid _ from isettledC_any (HD.out.below B2.out) HF.out hb (gk := w.heap.size + 1) (keep := x) ⟨by omega, by omega⟩ q3 (lt_of_block Y2.out))
        clear hb zero RS
        go_wp2_with fail
        go_at_call 36
        refine Calls.mono CC.out ?_
        rintro e w3 ⟨v3, rfl, o3, b3⟩
        clear CC r1 r2 r3 r4 q1 q2 q3
        have B3 := (show Hid (Below w.heap.size w w3) from B2.out.trans (b3.mono B2.out.size))
        obtain ⟨ta, tn, tc, ma, mn, mc, rfl, o31, o32⟩ := o3
        have y2 := (b3.block _ (lt_of_block Y3.out)).trans Y3.out
        obtain ⟨r1, r2, r3, r4⟩ := rk_two y2
        have O1 := (show Hid (w3.ownsRow w.heap.size 9 1 (.slice ta tn tc) (doneDk x d).safe.length (strCells (doneDk x d).safe)) from rk_base o31 B2.out.size)
        have O2 := (show Hid (w3.ownsRow w.heap.size 37 2 (.slice ma mn mc) (doneDk x d).late.length (putCells (doneDk x d).late)) from rk_base o32 B2.out.size)
        have Z2 := (show Hid _ from y2)
        clear b3 o31 o32 y2
        go_wp2
        have z1 := rk_at (k := 0) (u := .slice ta tn tc) Z2.out
        have z2 := rk_at (k := 1) (u := .slice ma mn mc) z1
        refine bodyPost_ret (disk_res rfl rfl rfl z2) rfl ?_
        rw [HR.out]
        exact ⟨_, rfl, ⟨_, _, _, _, _, _, rfl, rk_set (rk_set O1.out Z2.out (by decide)) z1 (by decide), rk_set (rk_set O2.out Z2.out (by decide)) z1 (by decide)⟩, (B3.out.setCell (p := ⟨w.heap.size + 1 + 1, 0, none⟩) hle2 _).setCell (p := ⟨w.heap.size + 1 + 1, 1, none⟩) hle2 _⟩
end Go.Proofs.Ytdhnoaajdjkddaa
