/- The draw of a page, none of whose references by number could be the mark (written by mk/draw5s.py). No condition. -/
import Derived.Test.YtggfifchkecnjaaGreatDoorY21
import Derived.Test.YtggfifchkecnjaaGreatDoorY11
import Derived.Test.YtggfifchkecnjaaGreatDoorY22
import Derived.Test.YtggfifchkecnjaaGreatDoorY17
import Derived.Test.YtggfifchkecnjaaGreatDoorY6
namespace Go.Proofs.YtggfifchkecnjaaGreatDoor
open Go.RowKit
set_option maxRecDepth 100000
set_option linter.unusedVariables false

def safB (s : ByteArray) : Bool := s.data.toList.all (fun b => decide (b ≤ 195)) && safeL (bs s) && notNum (bs s)
abbrev safS (s : ByteArray) : Prop := safB s = true
theorem bs_add (s t : ByteArray) : bs (s ++ t) = bs s ++ bs t := by simp [bs]
theorem safS.low {s : ByteArray} (h : safS s) : lowS s := by
  unfold safS safB at h
  simp only [Bool.and_eq_true, List.all_eq_true, decide_eq_true_eq] at h
  exact h.1.1
theorem safS.safe {s : ByteArray} (h : safS s) : safeL (bs s) = true := by
  unfold safS safB at h
  simp only [Bool.and_eq_true] at h
  exact h.1.2
theorem safS.add {s t : ByteArray} (h : safS s) (k : safS t) : safS (s ++ t) := by
  have l1 := lowS.add h.low k.low
  unfold safS safB at h k ⊢
  simp only [Bool.and_eq_true, List.all_eq_true, decide_eq_true_eq] at h k ⊢
  rw [bs_add]
  exact ⟨⟨l1, safe_app h.1.2 k.1.2 k.2⟩, notNum_app h.2 k.2⟩
theorem pk0_saf : ∀ t ∈ pk0, t.size ≤ 25 ∧ safS t := by decide
theorem pk1_saf : ∀ t ∈ pk1, t.size ≤ 25 ∧ safS t := by decide
theorem pk2_saf : ∀ t ∈ pk2, t.size ≤ 25 ∧ safS t := by decide
theorem pk3_saf : ∀ t ∈ pk3, t.size ≤ 25 ∧ safS t := by decide
theorem pk4_saf : ∀ t ∈ pk4, t.size ≤ 25 ∧ safS t := by decide
theorem pk5_saf : ∀ t ∈ pk5, t.size ≤ 25 ∧ safS t := by decide
theorem pk6_saf : ∀ t ∈ pk6, t.size ≤ 25 ∧ safS t := by decide
theorem pk7_saf : ∀ t ∈ pk7, t.size ≤ 25 ∧ safS t := by decide
theorem pk8_saf : ∀ t ∈ pk8, t.size ≤ 25 ∧ safS t := by decide

theorem pickSaf_any {w0 : World} {g : Nat} {v : Value} {xs : List Int} {w : World} (h : Cur w0 g v xs w) (hb : ∀ x ∈ xs, 0 ≤ x ∧ x ≤ 255) (ts : List ByteArray) (hz : 0 < ts.length) (hz2 : ts.length ≤ 1000) (hl : ∀ t ∈ ts, t.size ≤ 25 ∧ safS t) (cs : Array Value) (hcs : cs.toList = ts.map Value.string) (n : Nat) (hn : n = ts.length) :
    Calls Tryz.prog 37 #[.pointer (some ⟨g, 0, none⟩), .slice (some ⟨w.heap.size, 0, none⟩) n n] (w.alloc (.cells cs 9)) fun e w' => ∃ t, e = .returned (.string t) ∧ t.size ≤ 25 ∧ safS t ∧ Cur w0 g v xs w' ∧ w.grownBy w' (some g) := by
  refine (pickS_any h hb ts hz hz2 cs hcs n hn).mono ?_
  rintro e w' ⟨t, rfl, ht, k, gr⟩
  exact ⟨t, rfl, (hl t ht).1, (hl t ht).2, k, gr⟩

set_option maxHeartbeats 1000000 in
theorem drawRefSaf_any {w0 : World} {g : Nat} {v : Value} {xs : List Int} {w : World} (h : Cur w0 g v xs w) (hb : ∀ x ∈ xs, 0 ≤ x ∧ x ≤ 255) :
    Calls Tryz.prog 36 #[.pointer (some ⟨g, 0, none⟩)] w fun e w' => ∃ s : ByteArray, e = .returned (.string s) ∧ s.size ≤ 25 ∧ safS s ∧ Cur w0 g v xs w' ∧ w.grownBy w' (some g) := by
  have HB : Hid (∀ x ∈ xs, 0 ≤ x ∧ x ≤ 255) := hb
  clear hb
  go_enter Tryz.func36, Tryz.ntmps36
  go_wp2_with fail
  go_at_call 37
  refine (pickSaf_any h HB.out pk0 (by decide) (by decide) pk0_saf _ rfl 24 rfl).mono ?_
  rintro e w1 ⟨t, rfl, ht, hl, k1, g1⟩
  go_wp2
  go_ret
  exact ⟨t, rfl, ht, hl, k1, g1⟩


set_option maxHeartbeats 4000000 in
theorem drawPageSaf_any {w0 : World} {g : Nat} {v : Value} {xs : List Int} {w : World} (h : Cur w0 g v xs w) (hb : ∀ x ∈ xs, 0 ≤ x ∧ x ≤ 255) (m : Nat) (hm : m ≤ 100) :
    Calls Tryz.prog 18 #[.pointer (some ⟨g, 0, none⟩), .int .i64 m] w fun e w' => ∃ s : ByteArray, e = .returned (.string s) ∧ s.size ≤ 60 * m ∧ safS s ∧ Cur w0 g v xs w' ∧ w.grownBy w' (some g) := by
  have HB : Hid (∀ x ∈ xs, 0 ≤ x ∧ x ≤ 255) := hb
  clear hb
  go_enter Tryz.func18, Tryz.ntmps18
  go_wp2_with fail
  go_at_call 21
  refine (below_any _ (by omega) h HB.out).mono ?_
  rintro e w3 ⟨n, rfl, n0, n1, n2, k3, g3⟩
  replace n1 := n1 (by omega)
  clear n2
  obtain ⟨n, rfl⟩ : ∃ k : Nat, n = k := ⟨n.toNat, by omega⟩
  go_wp2
  go_loopw [5, 7] (fun u i wr => ∃ (k : Nat) (s : ByteArray), k ≤ n ∧ i = .int .i64 k ∧ u = .string s ∧ s.size ≤ 60 * k ∧ safS s ∧ Cur w0 g v xs wr ∧ w.grownBy wr (some g)) (fun _ i _ => n - (intOf i).toNat)
  case atStart => exact ⟨0, ⟨#[]⟩, Nat.zero_le _, rfl, rfl, Nat.zero_le _, by decide, k3, g3⟩
  case round =>
    clear k3 g3
    obtain ⟨k, s, hk, rfl, rfl, hsl, hlow, cur, gr⟩ := hrel
    have LOW := (show Hid (safS s) from hlow)
    clear hlow
    by_cases hkn : k < n
    · have hs6 : s.size ≤ 6000 := by omega
      go_wp2_with fail
      go_at_call 21
      refine (below_any _ (by omega) cur HB.out).mono ?_
      rintro e w4 ⟨q, rfl, q0, q1, q2, k4, g4⟩
      replace q1 := q1 (by omega)
      replace g4 := grown_trans gr g4
      clear q2 cur gr
      rcases (show q = 0 ∨ q = 1 ∨ q = 2 ∨ q = 3 ∨ q = 4 ∨ q = 5 ∨ q = 6 ∨ q = 7 ∨ q = 8 by omega) with rfl | rfl | rfl | rfl | rfl | rfl | rfl | rfl | rfl

      · clear q0 q1
        go_wp2_with fail
        go_at_call 36
        refine (drawRefSaf_any k4 HB.out).mono ?_
        rintro e w5 ⟨t, rfl, ht, lt, kw5, gw5⟩
        have hadd := run_string_add_sum (P := Tryz.prog) w5 s t (by omega)
        have hszz := add_size s t
        obtain ⟨z, ez⟩ : ∃ z0, z0 = s ++ t := ⟨_, rfl⟩
        rw [← ez] at hadd hszz
        go_wp2
        go_roundw
        case rel => exact ⟨k + 1, z, by omega, by go_num, by first | rfl | (rw [ez]; done) | (rw [ezz, ez, ey]; done), by omega, by rw [ez]; exact LOW.out.add lt, kw5, grown_trans g4 gw5⟩
        case measure => simp [intOf]; omega
      · clear q0 q1
        go_wp2_with fail
        go_at_call 37
        refine (pickSaf_any k4 HB.out pk1 (by decide) (by decide) pk1_saf _ rfl 14 rfl).mono ?_
        rintro e w5 ⟨t, rfl, ht, lt, kw5, gw5⟩
        have hadd := run_string_add_sum (P := Tryz.prog) w5 s t (by omega)
        have hszz := add_size s t
        obtain ⟨z, ez⟩ : ∃ z0, z0 = s ++ t := ⟨_, rfl⟩
        rw [← ez] at hadd hszz
        go_wp2
        go_roundw
        case rel => exact ⟨k + 1, z, by omega, by go_num, by first | rfl | (rw [ez]; done) | (rw [ezz, ez, ey]; done), by omega, by rw [ez]; exact LOW.out.add lt, kw5, grown_trans g4 gw5⟩
        case measure => simp [intOf]; omega
      · clear q0 q1
        go_wp2_with fail
        go_at_call 37
        refine (pickSaf_any k4 HB.out pk2 (by decide) (by decide) pk2_saf _ rfl 11 rfl).mono ?_
        rintro e w5 ⟨t, rfl, ht, lt, kw5, gw5⟩
        have hadd := run_string_add_sum (P := Tryz.prog) w5 s t (by omega)
        have hszz := add_size s t
        obtain ⟨z, ez⟩ : ∃ z0, z0 = s ++ t := ⟨_, rfl⟩
        rw [← ez] at hadd hszz
        go_wp2
        go_roundw
        case rel => exact ⟨k + 1, z, by omega, by go_num, by first | rfl | (rw [ez]; done) | (rw [ezz, ez, ey]; done), by omega, by rw [ez]; exact LOW.out.add lt, kw5, grown_trans g4 gw5⟩
        case measure => simp [intOf]; omega
      · clear q0 q1
        go_wp2_with fail
        go_at_call 37
        refine (pickSaf_any k4 HB.out pk3 (by decide) (by decide) pk3_saf _ rfl 11 rfl).mono ?_
        rintro e w5 ⟨t, rfl, ht, lt, kw5, gw5⟩
        have hadd := run_string_add_sum (P := Tryz.prog) w5 s t (by omega)
        have hszz := add_size s t
        obtain ⟨z, ez⟩ : ∃ z0, z0 = s ++ t := ⟨_, rfl⟩
        rw [← ez] at hadd hszz
        go_wp2
        go_roundw
        case rel => exact ⟨k + 1, z, by omega, by go_num, by first | rfl | (rw [ez]; done) | (rw [ezz, ez, ey]; done), by omega, by rw [ez]; exact LOW.out.add lt, kw5, grown_trans g4 gw5⟩
        case measure => simp [intOf]; omega
      · clear q0 q1
        have hy1 : (⟨#[60, 47]⟩ : ByteArray).size ≤ 2 := by decide
        have hadd := run_string_add_sum (P := Tryz.prog) w4 s ⟨#[60, 47]⟩ (by omega)
        have hszy := add_size s ⟨#[60, 47]⟩
        obtain ⟨y, ey⟩ : ∃ z0, z0 = s ++ ⟨#[60, 47]⟩ := ⟨_, rfl⟩
        rw [← ey] at hadd hszy
        go_wp2_with fail
        go_at_call 37
        refine (pickSaf_any k4 HB.out pk4 (by decide) (by decide) pk4_saf _ rfl 14 rfl).mono ?_
        rintro e w5 ⟨t, rfl, ht, lt, kw5, gw5⟩
        clear hadd
        have hadd := run_string_add_sum (P := Tryz.prog) w5 y t (by omega)
        have hszz := add_size y t
        obtain ⟨z, ez⟩ : ∃ z0, z0 = y ++ t := ⟨_, rfl⟩
        rw [← ez] at hadd hszz
        go_wp2_with fail
        go_at_call 37
        refine (pickSaf_any kw5 HB.out pk5 (by decide) (by decide) pk5_saf _ rfl 4 rfl).mono ?_
        rintro e w6 ⟨r, rfl, hr, lr, kw6, gw6⟩
        clear hadd
        have hadd := run_string_add_sum (P := Tryz.prog) w6 z r (by omega)
        have hszzz := add_size z r
        obtain ⟨zz, ezz⟩ : ∃ z0, z0 = z ++ r := ⟨_, rfl⟩
        rw [← ezz] at hadd hszzz
        go_wp2
        go_roundw
        case rel => exact ⟨k + 1, zz, by omega, by go_num, by first | rfl | (rw [ezz]; done) | (rw [ezz, ez, ey]; done), by omega, by rw [ezz, ez, ey]; exact ((LOW.out.add (by decide)).add lt).add lr, kw6, grown_trans (grown_trans g4 gw5) gw6⟩
        case measure => simp [intOf]; omega
      · clear q0 q1
        have hy1 : (⟨#[60]⟩ : ByteArray).size ≤ 2 := by decide
        have hadd := run_string_add_sum (P := Tryz.prog) w4 s ⟨#[60]⟩ (by omega)
        have hszy := add_size s ⟨#[60]⟩
        obtain ⟨y, ey⟩ : ∃ z0, z0 = s ++ ⟨#[60]⟩ := ⟨_, rfl⟩
        rw [← ey] at hadd hszy
        go_wp2_with fail
        go_at_call 37
        refine (pickSaf_any k4 HB.out pk6 (by decide) (by decide) pk6_saf _ rfl 33 rfl).mono ?_
        rintro e w5 ⟨t, rfl, ht, lt, kw5, gw5⟩
        clear hadd
        have hadd := run_string_add_sum (P := Tryz.prog) w5 y t (by omega)
        have hszz := add_size y t
        obtain ⟨z, ez⟩ : ∃ z0, z0 = y ++ t := ⟨_, rfl⟩
        rw [← ez] at hadd hszz
        go_wp2_with fail
        go_at_call 37
        refine (pickSaf_any kw5 HB.out pk7 (by decide) (by decide) pk7_saf _ rfl 4 rfl).mono ?_
        rintro e w6 ⟨r, rfl, hr, lr, kw6, gw6⟩
        clear hadd
        have hadd := run_string_add_sum (P := Tryz.prog) w6 z r (by omega)
        have hszzz := add_size z r
        obtain ⟨zz, ezz⟩ : ∃ z0, z0 = z ++ r := ⟨_, rfl⟩
        rw [← ezz] at hadd hszzz
        go_wp2
        go_roundw
        case rel => exact ⟨k + 1, zz, by omega, by go_num, by first | rfl | (rw [ezz]; done) | (rw [ezz, ez, ey]; done), by omega, by rw [ezz, ez, ey]; exact ((LOW.out.add (by decide)).add lt).add lr, kw6, grown_trans (grown_trans g4 gw5) gw6⟩
        case measure => simp [intOf]; omega
      · clear q0 q1
        have hy1 : (⟨#[60]⟩ : ByteArray).size ≤ 2 := by decide
        have hadd := run_string_add_sum (P := Tryz.prog) w4 s ⟨#[60]⟩ (by omega)
        have hszy := add_size s ⟨#[60]⟩
        obtain ⟨y, ey⟩ : ∃ z0, z0 = s ++ ⟨#[60]⟩ := ⟨_, rfl⟩
        rw [← ey] at hadd hszy
        go_wp2_with fail
        go_at_call 37
        refine (pickSaf_any k4 HB.out pk6 (by decide) (by decide) pk6_saf _ rfl 33 rfl).mono ?_
        rintro e w5 ⟨t, rfl, ht, lt, kw5, gw5⟩
        clear hadd
        have hadd := run_string_add_sum (P := Tryz.prog) w5 y t (by omega)
        have hszz := add_size y t
        obtain ⟨z, ez⟩ : ∃ z0, z0 = y ++ t := ⟨_, rfl⟩
        rw [← ez] at hadd hszz
        go_wp2_with fail
        go_at_call 37
        refine (pickSaf_any kw5 HB.out pk7 (by decide) (by decide) pk7_saf _ rfl 4 rfl).mono ?_
        rintro e w6 ⟨r, rfl, hr, lr, kw6, gw6⟩
        clear hadd
        have hadd := run_string_add_sum (P := Tryz.prog) w6 z r (by omega)
        have hszzz := add_size z r
        obtain ⟨zz, ezz⟩ : ∃ z0, z0 = z ++ r := ⟨_, rfl⟩
        rw [← ezz] at hadd hszzz
        go_wp2
        go_roundw
        case rel => exact ⟨k + 1, zz, by omega, by go_num, by first | rfl | (rw [ezz]; done) | (rw [ezz, ez, ey]; done), by omega, by rw [ezz, ez, ey]; exact ((LOW.out.add (by decide)).add lt).add lr, kw6, grown_trans (grown_trans g4 gw5) gw6⟩
        case measure => simp [intOf]; omega
      · clear q0 q1
        go_wp2_with fail
        go_at_call 37
        refine (pickSaf_any k4 HB.out pk8 (by decide) (by decide) pk8_saf _ rfl 6 rfl).mono ?_
        rintro e w5 ⟨t, rfl, ht, lt, kw5, gw5⟩
        have hadd := run_string_add_sum (P := Tryz.prog) w5 s t (by omega)
        have hszz := add_size s t
        obtain ⟨z, ez⟩ : ∃ z0, z0 = s ++ t := ⟨_, rfl⟩
        rw [← ez] at hadd hszz
        go_wp2
        go_roundw
        case rel => exact ⟨k + 1, z, by omega, by go_num, by first | rfl | (rw [ez]; done) | (rw [ezz, ez, ey]; done), by omega, by rw [ez]; exact LOW.out.add lt, kw5, grown_trans g4 gw5⟩
        case measure => simp [intOf]; omega
      · clear q0 q1
        go_wp2_with fail
        go_at_call 37
        refine (pickSaf_any k4 HB.out pk8 (by decide) (by decide) pk8_saf _ rfl 6 rfl).mono ?_
        rintro e w5 ⟨t, rfl, ht, lt, kw5, gw5⟩
        have hadd := run_string_add_sum (P := Tryz.prog) w5 s t (by omega)
        have hszz := add_size s t
        obtain ⟨z, ez⟩ : ∃ z0, z0 = s ++ t := ⟨_, rfl⟩
        rw [← ez] at hadd hszz
        go_wp2
        go_roundw
        case rel => exact ⟨k + 1, z, by omega, by go_num, by first | rfl | (rw [ez]; done) | (rw [ezz, ez, ey]; done), by omega, by rw [ez]; exact LOW.out.add lt, kw5, grown_trans g4 gw5⟩
        case measure => simp [intOf]; omega
    · go_wp2
      go_ret
      exact ⟨s, rfl, by omega, LOW.out, cur, gr⟩
end Go.Proofs.YtggfifchkecnjaaGreatDoor

/- Contracts of the program's textOk and attrOk. -/
namespace Go.Proofs.YtggfifchkecnjaaGreatDoor
open Go.RowKit
set_option maxRecDepth 100000
set_option linter.unusedVariables false

theorem textOk_any (s : ByteArray) (w : World) (hs : s.size ≤ 1099511627776) : Calls Tryz.prog 25 #[.string s] w fun e w' => e = .returned (.bool (utfOk (bs s))) ∧ Below w.heap.size w w' := by
  obtain ⟨cap, w1, hc, hk, hcap, hm, hb⟩ := conv_str s w (by unfold maxLen; omega)
  have hl := bs_len s
  have hsl := hk.sl (n := s.size) (cap := cap) (by omega) (by omega) hm
  have hu := iutfOk_any hsl (bs_byte s) (by omega)
  clear hk
  go_enter Tryz.func25, Tryz.ntmps25
  go_wp2_with fail
  go_at_call 52
  refine hu.mono ?_
  rintro e w2 ⟨rfl, b2⟩
  go_wp2
  go_ret
  exact ⟨rfl, hb.trans (b2.mono hb.size)⟩

theorem attrOk_eq (n v : ByteArray) : attrOk (n, v) = (inB n.size 1 60 && utfOk (bs n) && utfOk (bs v)) := by
  unfold attrOk
  simp only
  by_cases hv : v.size ≤ 3000
  · rw [decide_eq_true hv, Bool.and_true]
  · rw [decide_eq_false hv, utfOk_no (xs := bs v) (by rw [bs_len]; exact hv)]; simp

set_option maxHeartbeats 1000000 in
set_option maxRecDepth 100000 in
theorem iattrOk_any (n v : ByteArray) (w : World) (h1 : n.size ≤ 1099511627776) (h2 : v.size ≤ 1099511627776) :
    Calls Tryz.prog 58 #[.agg #[.string n, .string v]] w fun e w' => e = .returned (.bool (attrOk (n, v))) ∧ Below w.heap.size w w' := by
  rw [attrOk_eq]
  have c2 := fun w => textOk_any n w h1
  have c3 := fun w => textOk_any v w h2
  have b1 : Below w.heap.size w (w.alloc (.cells #[.string n, .string v] 81)) := (Below.refl _ _).alloc (Nat.le_refl _) _
  obtain ⟨q2, e2⟩ : ∃ q, q = utfOk (bs n) := ⟨_, rfl⟩
  obtain ⟨q3, e3⟩ : ∃ q, q = utfOk (bs v) := ⟨_, rfl⟩
  rw [← e2] at c2 ⊢
  rw [← e3] at c3 ⊢
  have C2 := (show Hid _ from c2)
  have C3 := (show Hid _ from c3)
  clear c2 c3 e2 e3
  by_cases hn : 1 ≤ n.size ∧ n.size ≤ 60
  · rw [inB_yes (by omega) (by omega), Bool.true_and]
    obtain ⟨n1, n2⟩ := hn
    cases q2
    · go_enter Tryz.func58, Tryz.ntmps58
      go_wp2_with fail
      go_at_call 25
      refine (C2.out _).mono ?_
      rintro e w2 ⟨rfl, b2⟩
      replace b2 := b1.trans (b2.mono b1.size)
      go_wp2
      go_ret
      exact ⟨ret_bool (by simp), b2⟩
    · go_enter Tryz.func58, Tryz.ntmps58
      go_wp2_with fail
      go_at_call 25
      refine (C2.out _).mono ?_
      rintro e w2 ⟨rfl, b2⟩
      have d1 : w2.cell? ⟨w.heap.size, 1, none⟩ = some (.string v) := by
        rw [b2.cell (p := ⟨w.heap.size, 1, none⟩) (by simp)]
        simp
      replace b2 := b1.trans (b2.mono b1.size)
      go_wp2_with fail
      go_at_call 25
      refine (C3.out _).mono ?_
      rintro e w3 ⟨rfl, b3⟩
      replace b3 := b2.trans (b3.mono b2.size)
      go_wp2
      go_ret
      exact ⟨ret_bool (by simp), b3⟩
  · rw [inB_no (by omega), Bool.false_and, Bool.false_and]
    by_cases n1 : n.size < 1
    · have n0 : n.size = 0 := by omega
      go_enter Tryz.func58, Tryz.ntmps58
      go_wp2
      go_ret
      exact ⟨ret_bool (by simp), b1⟩
    · have n2 : 60 < n.size := by omega
      go_enter Tryz.func58, Tryz.ntmps58
      go_wp2
      go_ret
      exact ⟨ret_bool (by simp), b1⟩
end Go.Proofs.YtggfifchkecnjaaGreatDoor

/- Contracts of the specification's AttrsSame and AttrAdd. -/
namespace Go.Proofs.YtggfifchkecnjaaGreatDoor
open Go.RowKit
set_option maxRecDepth 100000
set_option linter.unusedVariables false

theorem pair_oneCell (rs : List (ByteArray × ByteArray)) : ∀ y ∈ pairCells rs, y.oneCell' = true := by
  intro y hy
  unfold pairCells at hy
  obtain ⟨r, _, hr⟩ := List.mem_flatMap.mp hy
  simp at hr
  rcases hr with rfl | rfl <;> rfl
theorem pairCells_app (rs qs : List (ByteArray × ByteArray)) : pairCells rs ++ pairCells qs = pairCells (rs ++ qs) := by unfold pairCells; rw [List.flatMap_append]

theorem grown_cell {w w' : World} {g b k : Nat} (h : w.grownBy w' (some g)) (hne : b ≠ g) (hb : b < w.heap.size) : w'.cell? ⟨b, k, none⟩ = w.cell? ⟨b, k, none⟩ := by
  simp only [World.cell?, h.block b hb (fun e => hne (Option.some.inj e))]
theorem attrAdd_no {rs : List (ByteArray × ByteArray)} {p : ByteArray × ByteArray} (h : ((attrOf rs p.1).2 || decide (20 ≤ rs.length) || !attrOk p) = true) : attrAdd rs p = rs := by unfold attrAdd; rw [if_pos h]
theorem attrAdd_yes {rs : List (ByteArray × ByteArray)} {p : ByteArray × ByteArray} (h : ((attrOf rs p.1).2 || decide (20 ≤ rs.length) || !attrOk p) = false) : attrAdd rs p = rs ++ [p] := by unfold attrAdd; rw [if_neg (by rw [h]; decide)]

set_option maxHeartbeats 2000000 in
set_option maxRecDepth 100000 in
theorem sattrAdd_any {v : Value} {rs : List (ByteArray × ByteArray)} {w : World} (h : Sv 2 w v (pairCells rs)) (p : ByteArray × ByteArray) (hn : rs.length ≤ 1048576) (h1 : p.1.size ≤ 1099511627776) (h2 : p.2.size ≤ 1099511627776) :
    Calls Tryz.prog 91 #[v, .agg #[.string p.1, .string p.2]] w fun e w' => ∃ v', e = .returned v' ∧ w'.ownsRow w.heap.size 81 2 v' (attrAdd rs p).length (pairCells (attrAdd rs p)) ∧ Below w.heap.size w w' := by
  obtain ⟨i0, hi, hz0, hz1, hz2⟩ := info_parts Tryz.infoA
  have hlen := pairCells_len rs
  have H := (show Hid (Sv 2 w v (pairCells rs)) from h)
  obtain ⟨a, ca, rfl, _, _, _⟩ := h.pair
  clear h
  obtain ⟨pn, pv⟩ := p
  simp only at h1 h2 ⊢
  obtain ⟨wb, hwb⟩ : ∃ wb, wb = w.alloc (.cells #[.string pn, .string pv] 81) := ⟨_, rfl⟩
  have bb : Below w.heap.size w wb := by rw [hwb]; exact (Below.refl _ _).alloc (Nat.le_refl _) _
  have cb0 : wb.cell? ⟨w.heap.size, 0, none⟩ = some (.string pn) := by rw [hwb]; simp
  have cb1 : wb.cell? ⟨w.heap.size, 1, none⟩ = some (.string pv) := by rw [hwb]; simp
  have hbs : wb.heap.size = w.heap.size + 1 := by rw [hwb]; simp
  have oe := empty_row wb w.heap.size 81 2 (by omega)
  have be : Below wb.heap.size wb (wb.alloc (.cells #[] 81)) := (Below.refl _ _).alloc (Nat.le_refl _) _
  have hsv := (H.out.below bb).below be
  rw [hbs, hwb] at oe
  rw [hwb] at hsv
  go_enter Tryz.func91, Tryz.ntmps91
  go_wp2_with (at_builtin; refine wpList_appV _ rfl (.tmp 8) (.tmp 9) 28 rfl w.heap.size 81 i0 _ 2 32 Tryz.underlying28 hi hz0 hz1 hz2 rfl (by decide) _ _ 0 rs.length [] (pairCells rs) rfl rfl oe hsv hlen (pair_oneCell rs) (by omega) (by unfold maxLen; omega) (by simp <;> omega) ?_; intro v1 w1 o1 g1; rw [List.nil_append, Nat.zero_add] at o1; have cn := (grown_cell (b := w.heap.size) (k := 0) g1 (by simp) (by simp; omega)).trans (by simp : _ = some (Value.string pn)); have cv := (grown_cell (b := w.heap.size) (k := 1) g1 (by simp) (by simp; omega)).trans (by simp : _ = some (Value.string pv)))
  have b1 : Below w.heap.size w w1 := (((Below.refl _ w).alloc (Nat.le_refl _) _).alloc (by simp) _).grown g1 (by simp; omega) (fun j hj => by have e : some (w.heap.size + 1) = some j := hj; injection e with e; omega)
  have HO := (show Hid (w1.ownsRow w.heap.size 81 2 v1 rs.length (pairCells rs)) from o1)
  have cof := sattrOf_any (H.out.below b1) pn (by omega)
  have CL := (show Hid (∀ w, Calls Tryz.prog 127 #[.agg #[.string pn, .string pv]] w fun e w' => e = .returned (.bool (attrOk (pn, pv))) ∧ Below w.heap.size w w') from fun w => l4Attr_any (pn, pv) w h1 h2)
  have HNO := (show Hid (((attrOf rs pn).2 || decide (20 ≤ rs.length) || !attrOk (pn, pv)) = true → attrAdd rs (pn, pv) = rs) from fun h => attrAdd_no (p := (pn, pv)) h)
  have HYES := (show Hid (((attrOf rs pn).2 || decide (20 ≤ rs.length) || !attrOk (pn, pv)) = false → attrAdd rs (pn, pv) = rs ++ [(pn, pv)]) from fun h => attrAdd_yes (p := (pn, pv)) h)
  obtain ⟨r, hr⟩ : ∃ r, r = attrOf rs pn := ⟨_, rfl⟩
  obtain ⟨ok, hok⟩ : ∃ ok, ok = attrOk (pn, pv) := ⟨_, rfl⟩
  rw [← hr] at cof HNO HYES
  rw [← hok] at CL HNO HYES
  obtain ⟨ov, has⟩ := r
  simp only at HNO HYES cof
  clear hr hok o1 oe hsv be bb cb0 cb1 hbs hwb H g1
  refine cof.mono ?_
  rintro e w1 ⟨rfl, rfl⟩
  clear cof
  cases has
  · by_cases h20 : 20 ≤ rs.length
    · have HA := (show Hid _ from HNO.out (by simp [h20]))
      clear HNO HYES CL
      go_wp2
      go_ret
      exact ⟨_, rfl, by rw [HA.out]; exact HO.out, b1⟩
    · cases ok
      · have HA := (show Hid _ from HNO.out (by simp))
        clear HNO HYES
        go_wp2_with fail
        go_at_call 127
        refine (CL.out _).mono ?_
        rintro e w2 ⟨rfl, b2⟩
        have o2 := ownsRow_below HO.out b2
        replace b2 := b1.trans (b2.mono b1.size)
        go_wp2
        go_ret
        exact ⟨_, rfl, by rw [HA.out]; exact o2, b2⟩
      · have HA := (show Hid _ from HYES.out (by simp; omega))
        clear HNO HYES
        go_wp2_with fail
        go_at_call 127
        refine (CL.out _).mono ?_
        rintro e w2 ⟨rfl, b2⟩
        have hlt : w.heap.size < w1.heap.size := by
          by_cases hl : w.heap.size < w1.heap.size
          · exact hl
          · exfalso; simp [World.cell?, Array.getElem?_eq_none (Nat.le_of_not_lt hl)] at cn
        have cn2 : w2.cell? ⟨w.heap.size, 0, none⟩ = some (.string pn) := (b2.cell (p := ⟨w.heap.size, 0, none⟩) hlt).trans cn
        have cv2 : w2.cell? ⟨w.heap.size, 1, none⟩ = some (.string pv) := (b2.cell (p := ⟨w.heap.size, 1, none⟩) hlt).trans cv
        have o2 := ownsRow_below HO.out b2
        replace b2 := b1.trans (b2.mono b1.size)
        have hb2 := b2.size
        have o3 := ownsRow_below o2 ((Below.refl _ w2).alloc (Nat.le_refl _) (.cells #[.string pn, .string pv] 81))
        have hone : Sv 2 (w2.alloc (.cells #[.string pn, .string pv] 81)) (.slice (some ⟨w2.heap.size, 0, none⟩) 1 1) (pairCells [(pn, pv)]) :=
          sv_of_own (World.ownsRow_lit (base := w2.heap.size) (e := 81) (size := 2) w2 #[.string pn, .string pv] 1 (Nat.le_refl _) (by unfold maxLen; omega) rfl)
        clear HO CL cn cv
        go_wp2_with (at_builtin; refine wpList_appV _ rfl (.tmp 30) (.tmp 32) 28 rfl w.heap.size 81 i0 _ 2 32 Tryz.underlying28 hi hz0 hz1 hz2 rfl (by decide) _ _ rs.length 1 (pairCells rs) (pairCells [(pn, pv)]) rfl rfl o3 hone rfl (pair_oneCell _) (by omega) (by unfold maxLen; omega) (by simp <;> omega) ?_; intro v4 w4 o4 g4; rw [pairCells_app] at o4)
        go_ret
        refine ⟨_, rfl, ?_, (b2.alloc hb2 _).grown g4 (by simp; omega) (fun j hj => (o3.lt j hj).1)⟩
        rw [HA.out, List.length_append, List.length_singleton]; exact o4
  · have HA := (show Hid _ from HNO.out (by simp))
    clear HNO HYES CL
    go_wp2
    go_ret
    exact ⟨_, rfl, by rw [HA.out]; exact HO.out, b1⟩
end Go.Proofs.YtggfifchkecnjaaGreatDoor

/- The law FnExactRefRead, walked from a contract of the program's RefRead: at every list, place and bool it returns true and writes nothing that was there. -/
namespace Go.Proofs.YtggfifchkecnjaaGreatDoor
open Go.RowKit
set_option maxRecDepth 100000
set_option linter.unusedVariables false
end Go.Proofs.YtggfifchkecnjaaGreatDoor

/- The draw of a list of points, none of whose references by number could be the mark. No condition. -/
namespace Go.Proofs.YtggfifchkecnjaaGreatDoor
open Go.RowKit
set_option maxRecDepth 100000
set_option linter.unusedVariables false

theorem safe_zero (n : Nat) : safeL (List.replicate n 0) = true := by
  induction n with
  | zero => rfl
  | succ n ih => rw [List.replicate_succ, safeL, ih]; rfl

set_option maxHeartbeats 1000000 in
theorem drawTokensSaf_any {v : Value} {xs : List Int} {w : World} (h : Sl .u8 w v xs) (hb : ∀ x ∈ xs, 0 ≤ x ∧ x ≤ 255) (hn : xs.length ≤ 1099511627776) :
    Calls Tryz.prog 6 #[v] w fun e w' => ∃ v' zs, e = .returned v' ∧ Own w.heap.size 3 .i64 w' v' zs ∧ zs.length ≤ 3001 ∧ (∀ z ∈ zs, pointOk z = true ∧ z ≠ 65279) ∧ safeL zs = true ∧ Below w.heap.size w w' := by
  have HB : Hid (∀ x ∈ xs, 0 ≤ x ∧ x ≤ 255) := hb
  clear hb
  obtain ⟨i0, hi, hz0, hz1, hz2⟩ := info_parts Tryz.infoI
  go_enter Tryz.func6, Tryz.ntmps6
  go_wp2_with fail
  go_at_call 16
  refine (new_any h HB.out hn).mono ?_
  rintro e w1 ⟨rfl, k1, b1⟩
  have h1 := h.below b1
  go_wp2_with fail
  go_at_call 19
  refine (size_any h1 hn 14 (by omega)).mono ?_
  rintro e w2 ⟨⟨m, rfl, m0, m1⟩, rfl⟩
  obtain ⟨m, rfl⟩ : ∃ k : Nat, m = k := ⟨m.toNat, by omega⟩
  clear h1
  go_wp2_with fail
  go_at_call 18
  refine (drawPageSaf_any k1 HB.out m (by omega)).mono ?_
  rintro e w3 ⟨s, rfl, hs, hlow, k3, g3⟩
  have b3 := b1.grown g3 b1.size (fun k hk => by cases hk; exact Nat.le_refl _)
  clear k1 b1 g3
  have hdl : (dec (bs s)).length ≤ 840 := by have := dec_len _ (bs s) (Nat.le_refl _); have := bs_len s; omega
  have HD : Hid (∀ z ∈ dec (bs s), pointOk z = true ∧ z ≠ 65279) := fun z hz => ⟨dec_ok _ (bs s) (Nat.le_refl _) (fun y hy => (hlow.low.bs y hy).1) z hz, dec_low5 _ (bs s) (Nat.le_refl _) hlow.low.bs z hz⟩
  go_wp2_with fail
  go_at_call 17
  refine (l3PointsOf_any s w3 (by omega)).mono ?_
  rintro e w5 ⟨u, rfl, o5, b5⟩
  have HZ := (show Hid (safeL (dec (bs s)) = true) from safe_dec _ (Nat.le_refl _) hlow.low.bs hlow.safe)
  obtain ⟨zs, hzs⟩ : ∃ zs, zs = dec (bs s) := ⟨_, rfl⟩
  rw [← hzs] at o5 hdl HD HZ
  have k5 := k3.below b5
  have hlt := k3.lt
  replace o5 := o5.base (B' := w.heap.size + 1) (by omega)
  replace b5 := b3.trans (b5.mono b3.size)
  clear k3 b3 hzs hs hlow hlt
  go_wp2_with fail
  go_at_call 20
  refine (once_any _ (by omega) k5 HB.out).mono ?_
  rintro e w6 ⟨b6, rfl, k6, g6⟩
  have o6 := own_past o5 g6 (by omega)
  have b6' := b5.grown g6 b5.size (fun k hk => by cases hk; exact Nat.le_refl _)
  clear o5 k5 b5 g6
  cases b6
  · go_wp2
    go_ret
    exact ⟨_, _, rfl, o6.base (by omega), by omega, HD.out, HZ.out, b6'⟩
  · go_wp2_with fail
    go_at_call 21
    refine (below_any _ (by omega) k6 HB.out).mono ?_
    rintro e w8 ⟨q, rfl, q0, q1, q2, k8, g8⟩
    replace q1 := q1 (by omega)
    clear q2
    obtain ⟨q, rfl⟩ : ∃ k : Nat, q = k := ⟨q.toNat, by omega⟩
    have b8 := b6'.grown g8 b6'.size (fun k hk => by cases hk; exact Nat.le_refl _)
    clear o6 b6' k6 g8
    go_wp2_with (at_make; refine wpList_mkn _ rfl (.tmp 16) (.tmp 16) 24 rfl 3 i0 .i64 Tryz.underlying24 hi hz0 hz1 (3000 + q) (3000 + q) (3000 + q) rfl rfl (by omega) (by omega) (by rw [hz2]; omega) (by unfold maxLen; omega) ?_; intro w9 o9 b9)
    go_ret
    exact ⟨_, _, rfl, o9.base b8.size, by simp; omega, fun y hy => (by have := List.eq_of_mem_replicate hy; subst this; decide), safe_zero _, b8.trans (b9.mono b8.size)⟩
end Go.Proofs.YtggfifchkecnjaaGreatDoor
