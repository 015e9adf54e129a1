/- The draws DrawDiskPut and DrawDiskCrash. No condition. -/
import Derived.Test.YtdhnoaajdjkddaaDrawD3
namespace Go.Proofs.Ytdhnoaajdjkddaa
open Go.RowKit
set_option maxRecDepth 100000
set_option linter.unusedVariables false

/-- What stands while such a draw goes on: the result's block R, the disk in block D. -/
def HoldI (w0 w : World) (g : Nat) (v : Value) (xs : List Int) (D : Nat) (d : PDisk) (a b : Value) (W : World) : Prop :=
  W.heap[D]? = some (.cells #[a, b] 27 (0, 0)) ∧ W.heap[w.heap.size]? = some (.cells #[.slice none 0 0, .slice none 0 0] 27 (0, 0)) ∧ DiskB (g + 1) W (.agg #[a, b]) d ∧ Cur w0 g v xs W ∧ Below w.heap.size w W
theorem HoldI.below {w0 w : World} {g : Nat} {v : Value} {xs : List Int} {D : Nat} {d : PDisk} {a b : Value} {W W' : World} (h : HoldI w0 w g v xs D d a b W) (k : Below W.heap.size W W') : HoldI w0 w g v xs D d a b W' :=
  ⟨(k.block _ (lt_of_block h.1)).trans h.1, (k.block _ (lt_of_block h.2.1)).trans h.2.1, h.2.2.1.below k, h.2.2.2.1.below k, h.2.2.2.2.trans (k.mono h.2.2.2.2.size)⟩
theorem HoldI.cursor {w0 w : World} {g : Nat} {v : Value} {xs : List Int} {D : Nat} {d : PDisk} {a b : Value} {W W' : World} (h : HoldI w0 w g v xs D d a b W) (hg : w.heap.size < g) (hD : g < D) (k : Cur w0 g v xs W') (gr : W.grownBy W' (some g)) : HoldI w0 w g v xs D d a b W' :=
  ⟨(gr.block _ (lt_of_block h.1) (by simp; omega)).trans h.1, (gr.block _ (lt_of_block h.2.1) (by simp; omega)).trans h.2.1, h.2.2.1.low gr (fun k e => by cases e; omega), k, h.2.2.2.2.grown gr h.2.2.2.2.size (fun r e => by cases e; omega)⟩
theorem HoldI.s {w0 w : World} {g : Nat} {v : Value} {xs : List Int} {D : Nat} {d : PDisk} {a b : Value} {W : World} (h : HoldI w0 w g v xs D d a b W) : W.cell? ⟨D, 0, none⟩ = some a ∧ W.cell? ⟨D, 1, none⟩ = some b := ⟨(rk_two h.1).1, (rk_two h.1).2.1⟩
/-- The disk is answered. -/
theorem HoldI.fin {w0 w : World} {g : Nat} {v : Value} {xs : List Int} {D : Nat} {d : PDisk} {a b : Value} {W : World} (h : HoldI w0 w g v xs D d a b W) (hg : w.heap.size < g) :
    ((W.setCell ⟨w.heap.size, 0, none⟩ a).setCell ⟨w.heap.size, 1, none⟩ b).heap[w.heap.size]? = some (.cells #[a, b] 27 (0, 0)) ∧ DiskAt ((W.setCell ⟨w.heap.size, 0, none⟩ a).setCell ⟨w.heap.size, 1, none⟩ b) (.agg #[a, b]) d ∧ Below w.heap.size w ((W.setCell ⟨w.heap.size, 0, none⟩ a).setCell ⟨w.heap.size, 1, none⟩ b) :=
  ⟨rk_at (k := 1) (u := b) (rk_at (k := 0) (u := a) h.2.1), ((h.2.2.1.low (grown_setCell _ _ _ _) (fun k e => by cases e; omega)).low (grown_setCell _ _ _ _) (fun k e => by cases e; omega)).at, (h.2.2.2.2.setCell (p := ⟨w.heap.size, 0, none⟩) (Nat.le_refl _) _).setCell (p := ⟨w.heap.size, 1, none⟩) (Nat.le_refl _) _⟩

theorem disk_int_res {fn : Func} {p u : Tmp} (hr : fn.results = #[.cell p 27, .tmp u]) {tmps : Array Value} {w : World} {g : Nat} {a b r : Value} (h4 : tmps.getD p undef = .pointer (some ⟨g, 0, none⟩)) (h5 : tmps.getD u undef = r) (hb : w.heap[g]? = some (.cells #[a, b] 27 (0, 0))) :
    (results fn tmps).run Try.prog w = .ok (.tuple #[.agg #[a, b], r]) w := by
  rw [results_cell_tmp (p := p) (u := u) (ty := 27) hr, h4, h5]
  simp [asAddr, run_loadVar_row w g 27 27 #[a, b] (0, 0) _ hb Try.underlying27 rfl rfl, Result.andThen]
theorem disk_three_res {f : Func} {p q u : Tmp} (hf : f.results = #[.cell p 27, .tmp q, .tmp u]) {tmps : Array Value} {w : World} {g : Nat} {a b : Value} (h4 : tmps.getD p undef = .pointer (some ⟨g, 0, none⟩)) (hb : w.heap[g]? = some (.cells #[a, b] 27 (0, 0))) :
    (results f tmps).run Try.prog w = .ok (.tuple #[.agg #[a, b], tmps.getD q undef, tmps.getD u undef]) w := by
  have h4' : tmps[p]?.getD undef = .pointer (some ⟨g, 0, none⟩) := by simpa using h4
  simp [results, hf, h4', asAddr, run_loadVar_row w g 27 27 #[a, b] (0, 0) _ hb Try.underlying27 rfl rfl]

set_option maxHeartbeats 1000000 in
set_option maxRecDepth 100000 in
theorem drawDiskCrash_any {v : Value} {xs : List Int} {w : World} (h : Sl .u8 w v xs) (hb : ∀ x ∈ xs, 0 ≤ x ∧ x ≤ 255) (hn : xs.length ≤ 1099511627776) :
    Calls Try.prog 12 #[v] w fun e w' => ∃ (u : Value) (d : PDisk) (x : Int), e = .returned (.tuple #[u, .int .i64 x]) ∧ DiskAt w' u d ∧ DiskFit d ∧ Below w.heap.size w w' := by
  have HB : Hid (∀ x ∈ xs, 0 ≤ x ∧ x ≤ 255) := hb
  clear hb
  obtain ⟨w1, hw1⟩ : ∃ y, y = w.alloc (.cells #[.slice none 0 0, .slice none 0 0] 27) := ⟨_, rfl⟩
  have b1 : Below w.heap.size w w1 := by rw [hw1]; exact (Below.refl _ _).alloc (Nat.le_refl _) _
  have x1 : w1.heap[w.heap.size]? = some (.cells #[.slice none 0 0, .slice none 0 0] 27 (0, 0)) := by rw [hw1]; exact World.alloc_heap_new _ _
  have CN := (show Hid _ from new_any (h.below b1) HB.out hn)
  go_enter Try.func12, Try.ntmps12
  go_wp2_with fail
  go_at_call 31
  rw [← hw1]
  refine Calls.mono CN.out ?_
  rintro e w2 ⟨rfl, k2, b2⟩
  obtain ⟨g, hg⟩ : ∃ g, g = w1.heap.size := ⟨_, rfl⟩
  have hgw : w.heap.size < g := by rw [hg]; exact lt_of_block x1
  rw [← hg] at k2 ⊢
  have x2 := (b2.block _ (lt_of_block x1)).trans x1
  have B2 := (show Hid (Below w.heap.size w w2) from b1.trans (b2.mono b1.size))
  have X2 := (show Hid (w2.heap[w.heap.size]? = some (.cells #[.slice none 0 0, .slice none 0 0] 27 (0, 0))) from x2)
  have hgl := k2.lt
  have CD := (show Hid _ from drawDisk15_any k2 HB.out)
  clear hw1 CN b1 x1 b2 x2 hg k2
  go_wp2_with fail
  go_at_call 32
  refine Calls.mono CD.out ?_
  rintro e w3 ⟨v3, d, rfl, o3, hf3, k3, g3⟩
  clear CD
  obtain ⟨sa, sn, sc, la, ln, lc, rfl, s1, s2, a1, a2⟩ := o3
  obtain ⟨w4, hw4⟩ : ∃ y, y = w3.alloc (.cells #[.slice sa sn sc, .slice la ln lc] 27) := ⟨_, rfl⟩
  have b4 : Below w3.heap.size w3 w4 := by rw [hw4]; exact (Below.refl _ _).alloc (Nat.le_refl _) _
  have x4 : w4.heap[w3.heap.size]? = some (.cells #[.slice sa sn sc, .slice la ln lc] 27 (0, 0)) := by rw [hw4]; exact World.alloc_heap_new _ _
  have hs2 := lt_of_block X2.out
  have hs3 := g3.size
  have y4 := (b4.block _ (Nat.lt_of_lt_of_le hs2 g3.size)).trans ((g3.block _ hs2 (by simp; omega)).trans X2.out)
  have gd : Below w.heap.size w w3 := B2.out.grown g3 B2.out.size (fun r e => by cases e; omega)
  have I4 : Hid (HoldI w1 w g v xs w3.heap.size d (.slice sa sn sc) (.slice la ln lc) w4) := ⟨x4, y4, ⟨_, _, _, _, _, _, rfl, s1.below b4, s2.below b4, fun a e => by have := a1 a e; omega, fun a e => by have := a2 a e; omega⟩, k3.below b4, gd.trans (b4.mono gd.size)⟩
  have HF := (show Hid (DiskFit d) from hf3)
  obtain ⟨D, hDD⟩ : ∃ D, D = w3.heap.size := ⟨_, rfl⟩
  have hgD : g < D := by omega
  rw [← hDD] at I4
  clear s1 s2 a1 a2 x4 y4 gd b4 k3 g3 hf3 X2 B2
  go_wp2_with fail
  go_at_call 33
  rw [← hw4]
  refine (once_any 9 (by omega) I4.out.2.2.2.1 HB.out).mono ?_
  rintro e w5 ⟨r, rfl, k5, g5⟩
  rw [← hDD]
  have I5 := (show Hid (HoldI w1 w g v xs D d (.slice sa sn sc) (.slice la ln lc) w5) from I4.out.cursor hgw hgD k5 g5)
  obtain ⟨y1, y2⟩ := I5.out.s
  clear I4 k5 g5 hw4 hDD
  have KD := (show Hid (HoldI w1 w g v xs D d (.slice sa sn sc) (.slice la ln lc) w5.drew) from I5.out.below (below_drewN 1))
  have hD5 := lt_of_block I5.out.1
  cases r
  · go_wp2
    go_region_with (go_at_call 35
                    refine (below_any 2000 (by omega) KD.out.2.2.2.1 HB.out).mono ?_
                    rintro e w6 ⟨x, rfl, _, _, _, k6, g6⟩
                    have I6 := (show Hid (HoldI w1 w g v xs D d (.slice sa sn sc) (.slice la ln lc) w6) from KD.out.cursor hgw hgD k6 g6)
                    obtain ⟨y1, y2⟩ := I6.out.s
                    obtain ⟨r1, r2, r3, r4⟩ := rk_two I6.out.2.1
                    clear k6 g6)
    all_goals
      go_wp2
      obtain ⟨f1, f2, f3⟩ := I6.out.fin hgw
      refine bodyPost_ret (disk_int_res rfl rfl rfl f1) rfl ?_
      exact ⟨_, d, x, rfl, f2, HF.out, f3⟩
  · go_wp2
    go_region_with (go_at_call 34
                    refine Calls.mono (pickL_any KD.out.2.2.2.1 HB.out [-1, 2147483647, 2147483648, 0] (by simp) (by simp) _ rfl 4 rfl) ?_
                    rintro e w6 ⟨x, rfl, _, k6, g6⟩
                    have I6 := (show Hid (HoldI w1 w g v xs D d (.slice sa sn sc) (.slice la ln lc) w6) from KD.out.cursor hgw hgD k6 g6)
                    obtain ⟨y1, y2⟩ := I6.out.s
                    obtain ⟨r1, r2, r3, r4⟩ := rk_two I6.out.2.1
                    clear k6 g6)
    all_goals
      go_wp2
      obtain ⟨f1, f2, f3⟩ := I6.out.fin hgw
      refine bodyPost_ret (disk_int_res rfl rfl rfl f1) rfl ?_
      exact ⟨_, d, x, rfl, f2, HF.out, f3⟩
end Go.Proofs.Ytdhnoaajdjkddaa
