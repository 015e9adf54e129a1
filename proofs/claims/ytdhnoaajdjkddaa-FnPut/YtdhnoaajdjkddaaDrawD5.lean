/- The draw DrawDiskPut. No condition. -/
import Derived.Test.YtdhnoaajdjkddaaDrawD4
namespace Go.Proofs.Ytdhnoaajdjkddaa
open Go.RowKit
set_option maxRecDepth 100000
set_option linter.unusedVariables false

set_option maxHeartbeats 1000000 in
set_option maxRecDepth 100000 in
theorem drawDiskPut_any {v : Value} {xs : List Int} {w : World} (h : Sl .u8 w v xs) (hb : ∀ x ∈ xs, 0 ≤ x ∧ x ≤ 255) (hn : xs.length ≤ 1099511627776) :
    Calls Try.prog 19 #[v] w fun e w' => ∃ (u : Value) (d : PDisk) (x : Int) (s : ByteArray), e = .returned (.tuple #[u, .int .i64 x, .string s]) ∧ DiskAt w' u d ∧ DiskFit d ∧ s.size ≤ 65 ∧ Below w.heap.size w w' := by
  have HB : Hid (∀ x ∈ xs, 0 ≤ x ∧ x ≤ 255) := hb
  clear hb
  obtain ⟨w1, hw1⟩ : ∃ y, y = w.alloc (.cells #[.slice none 0 0, .slice none 0 0] 27) := ⟨_, rfl⟩
  have b1 : Below w.heap.size w w1 := by rw [hw1]; exact (Below.refl _ _).alloc (Nat.le_refl _) _
  have x1 : w1.heap[w.heap.size]? = some (.cells #[.slice none 0 0, .slice none 0 0] 27 (0, 0)) := by rw [hw1]; exact World.alloc_heap_new _ _
  have CN := (show Hid _ from new_any (h.below b1) HB.out hn)
  go_enter Try.func19, Try.ntmps19
  go_wp2_with fail
  go_at_call 31
  rw [← hw1]
  refine Calls.mono CN.out ?_
  rintro e w2 ⟨rfl, k2, b2⟩
  obtain ⟨g, hg⟩ : ∃ g, g = w1.heap.size := ⟨_, rfl⟩
  have hgw : w.heap.size < g := by rw [hg]; exact lt_of_block x1
  rw [← hg] at k2 ⊢
  have x2 := (b2.block _ (lt_of_block x1)).trans x1
  have B2 := (show Hid (Below w.heap.size w w2) from b1.trans (b2.mono b1.size))
  have X2 := (show Hid (w2.heap[w.heap.size]? = some (.cells #[.slice none 0 0, .slice none 0 0] 27 (0, 0))) from x2)
  have hgl := k2.lt
  have CD := (show Hid _ from drawDisk15_any k2 HB.out)
  clear hw1 CN b1 x1 b2 x2 hg k2
  go_wp2_with fail
  go_at_call 32
  refine Calls.mono CD.out ?_
  rintro e w3 ⟨v3, d, rfl, o3, hf3, k3, g3⟩
  clear CD
  obtain ⟨sa, sn, sc, la, ln, lc, rfl, s1, s2, a1, a2⟩ := o3
  obtain ⟨w4, hw4⟩ : ∃ y, y = w3.alloc (.cells #[.slice sa sn sc, .slice la ln lc] 27) := ⟨_, rfl⟩
  have b4 : Below w3.heap.size w3 w4 := by rw [hw4]; exact (Below.refl _ _).alloc (Nat.le_refl _) _
  have x4 : w4.heap[w3.heap.size]? = some (.cells #[.slice sa sn sc, .slice la ln lc] 27 (0, 0)) := by rw [hw4]; exact World.alloc_heap_new _ _
  have hs2 := lt_of_block X2.out
  have hs3 := g3.size
  have y4 := (b4.block _ (Nat.lt_of_lt_of_le hs2 g3.size)).trans ((g3.block _ hs2 (by simp; omega)).trans X2.out)
  have gd : Below w.heap.size w w3 := B2.out.grown g3 B2.out.size (fun r e => by cases e; omega)
  have I4 : Hid (HoldI w1 w g v xs w3.heap.size d (.slice sa sn sc) (.slice la ln lc) w4) := ⟨x4, y4, ⟨_, _, _, _, _, _, rfl, s1.below b4, s2.below b4, fun a e => by have := a1 a e; omega, fun a e => by have := a2 a e; omega⟩, k3.below b4, gd.trans (b4.mono gd.size)⟩
  have HF := (show Hid (DiskFit d) from hf3)
  obtain ⟨D, hDD⟩ : ∃ D, D = w3.heap.size := ⟨_, rfl⟩
  have hgD : g < D := by omega
  rw [← hDD] at I4
  clear s1 s2 a1 a2 x4 y4 gd b4 k3 g3 hf3 X2 B2
  go_wp2_with fail
  go_at_call 47
  rw [← hw4]
  refine (drawText15_any I4.out.2.2.2.1 HB.out).mono ?_
  rintro e w5 ⟨s, rfl, hs, k5, g5⟩
  rw [← hDD]
  have I5 := (show Hid (HoldI w1 w g v xs D d (.slice sa sn sc) (.slice la ln lc) w5) from I4.out.cursor hgw hgD k5 g5)
  clear I4 k5 g5 hw4 hDD
  go_wp2_with fail
  go_at_call 33
  refine (once_any 15 (by omega) I5.out.2.2.2.1 HB.out).mono ?_
  rintro e w6 ⟨r, rfl, k6, g6⟩
  have I6 := (show Hid (HoldI w1 w g v xs D d (.slice sa sn sc) (.slice la ln lc) w6) from I5.out.cursor hgw hgD k6 g6)
  obtain ⟨y1, y2⟩ := I6.out.s
  clear I5 k6 g6
  have KD := (show Hid (HoldI w1 w g v xs D d (.slice sa sn sc) (.slice la ln lc) w6.drew) from I6.out.below (below_drewN 1))
  have hD6 := lt_of_block I6.out.1
  have HSS := (show Hid (s.size = 64) from hs)
  clear hs
  cases r
  · go_wp2
    go_region_with (go_at_call 48
                    refine (drawAt15_any KD.out.2.2.2.1 HB.out).mono ?_
                    rintro e w7 ⟨x, rfl, k7, g7⟩
                    have I7 := (show Hid (HoldI w1 w g v xs D d (.slice sa sn sc) (.slice la ln lc) w7) from KD.out.cursor hgw hgD k7 g7)
                    obtain ⟨y1, y2⟩ := I7.out.s
                    obtain ⟨r1, r2, r3, r4⟩ := rk_two I7.out.2.1
                    clear k7 g7)
    all_goals
      go_wp2
      obtain ⟨f1, f2, f3⟩ := I7.out.fin hgw
      refine bodyPost_ret (disk_three_res rfl rfl f1) rfl ?_
      exact ⟨_, d, x, s, rfl, f2, HF.out, by have := HSS.out; omega, f3⟩
  · obtain ⟨s2, hs2'⟩ : ∃ s2 : ByteArray, s2 = s ++ ⟨#[120]⟩ := ⟨_, rfl⟩
    have hadd := run_string_add_sum (P := Try.prog) w6 s ⟨#[120]⟩ (by have : (⟨#[120]⟩ : ByteArray).size = 1 := rfl; have := HSS.out; omega)
    rw [← hs2'] at hadd
    have HS2 := (show Hid (s2.size = 65) from by show s2.size = 65; rw [hs2', add_size, HSS.out]; rfl)
    clear hs2'
    go_wp2
    go_region_with (go_at_call 48
                    refine (drawAt15_any KD.out.2.2.2.1 HB.out).mono ?_
                    rintro e w7 ⟨x, rfl, k7, g7⟩
                    have I7 := (show Hid (HoldI w1 w g v xs D d (.slice sa sn sc) (.slice la ln lc) w7) from KD.out.cursor hgw hgD k7 g7)
                    obtain ⟨y1, y2⟩ := I7.out.s
                    obtain ⟨r1, r2, r3, r4⟩ := rk_two I7.out.2.1
                    clear k7 g7)
    all_goals
      go_wp2
      obtain ⟨f1, f2, f3⟩ := I7.out.fin hgw
      refine bodyPost_ret (disk_three_res rfl rfl f1) rfl ?_
      exact ⟨_, d, x, s2, rfl, f2, HF.out, by have := HS2.out; omega, f3⟩
end Go.Proofs.Ytdhnoaajdjkddaa
