import Derived.Test.YtiojilmclocmkaaGreatDoorB19
import Derived.OwnWalk
import Derived.Test.YtiojilmclocmkaaGreatDoorB17
/- The contract of the draw of a list of points with a place in it. -/
namespace Go.Proofs.YtiojilmclocmkaaGreatDoor
open Go.RowKit
set_option maxRecDepth 100000
set_option linter.unusedVariables false

/-- A slice of noughts that was just made, and its first cell written. -/
theorem made_first {B g n : Nat} {w : World} (h : Own B 3 .i64 w (.slice (some ⟨g, 0, none⟩) n n) (List.replicate n 0)) (hn : 0 < n) (x : Int) :
    w.cell? ⟨g, 0, none⟩ = some (.int .i64 0) ∧ w.frozen? ⟨g, 0, none⟩ = false ∧ Own B 3 .i64 (w.setCell ⟨g, 0, none⟩ (.int .i64 x)) (.slice (some ⟨g, 0, none⟩) n n) ((List.replicate n 0).set 0 x) ∧
      w.grownBy (w.setCell ⟨g, 0, none⟩ (.int .i64 x)) (some g) := by
  unfold Own at h ⊢
  rw [List.length_replicate] at h
  have hs := h.stored 0 (.int .i64 x)
  refine ⟨?_, h.frozenAt 0, ?_, hs.2⟩
  · rw [h.cellAt 0 (by omega)]
    simp [hn]
  · rw [List.length_set, List.length_replicate, List.map_set]; exact hs.1

end Go.Proofs.YtiojilmclocmkaaGreatDoor

/- The draw of a page: some text none of whose bytes is above 195, and the points of such a text. -/
namespace Go.Proofs.YtiojilmclocmkaaGreatDoor
open Go.RowKit
set_option maxRecDepth 100000
set_option linter.unusedVariables false

/-- No byte above 195. -/
abbrev lowS (s : ByteArray) : Prop := ∀ b ∈ s.data.toList, b ≤ 195
theorem lowS.add {s t : ByteArray} (h : lowS s) (k : lowS t) : lowS (s ++ t) := by
  intro b hb
  have e : (s ++ t).data.toList = s.data.toList ++ t.data.toList := by simp
  rw [e] at hb
  rcases List.mem_append.mp hb with hb | hb
  · exact h b hb
  · exact k b hb
theorem lowS.bs {s : ByteArray} (h : lowS s) : ∀ x ∈ bs s, 0 ≤ x ∧ x ≤ 195 := by
  intro x hx
  unfold Go.Proofs.YtiojilmclocmkaaGreatDoor.bs at hx
  obtain ⟨b, hb, rfl⟩ := List.mem_map.mp hx
  have h1 := UInt8.le_iff_toNat_le.mp (h b hb)
  have h2 : (195 : UInt8).toNat = 195 := rfl
  omega
theorem step_low {b : Int} (h0 : 0 ≤ b) (h1 : b ≤ 195) (r : List Int) : (stepOf b r).1 ≠ 65279 := by
  unfold stepOf
  split
  · simp; omega
  split
  · rcases tail1 (b - 192) (loOf b) (hiOf b) r with e | ⟨c, c0, c1, e⟩
    · rw [e]; decide
    · rw [e]
      rw [hiOf_le (by omega) (by omega)] at c1
      omega
  split
  · omega
  split
  · omega
  · simp
theorem dec_low (n : Nat) (l : List Int) (h : l.length ≤ n) (hb : ∀ y ∈ l, 0 ≤ y ∧ y ≤ 195) : ∀ p ∈ dec l, p ≠ 65279 := by
  induction n generalizing l with
  | zero => have : l = [] := List.length_eq_zero_iff.mp (by omega)
            subst this; rw [dec_nil]; intro p hp; cases hp
  | succ n ih =>
    cases l with
    | nil => rw [dec_nil]; intro p hp; cases hp
    | cons b r =>
      rw [dec_cons]
      have h1 := stepOf_le b r
      intro p hp
      have hb0 := hb b (List.mem_cons_self ..)
      rcases List.mem_cons.mp hp with e | e
      · rw [e]; exact step_low hb0.1 hb0.2 r
      · exact ih (stepOf b r).2 (by simp at h; omega) (fun y hy => hb y (List.mem_cons_of_mem _ (stepOf_mem b r y hy))) p e


def pk0 : List ByteArray := [⟨#[38, 97, 109, 112, 59]⟩, ⟨#[38, 97, 109, 112]⟩, ⟨#[38, 97, 109, 112, 120]⟩, ⟨#[38, 108, 116, 61]⟩, ⟨#[38, 110, 111, 116, 105, 110, 59]⟩, ⟨#[38, 110, 111, 116, 105, 116]⟩, ⟨#[38, 110, 111, 116]⟩, ⟨#[38, 35, 54, 53, 59]⟩, ⟨#[38, 35, 120, 52, 49]⟩, ⟨#[38, 35, 88, 52, 97, 59]⟩, ⟨#[38, 35, 59]⟩, ⟨#[38, 35, 120, 59]⟩, ⟨#[38, 35, 49, 50, 56, 59]⟩, ⟨#[38, 35, 48, 59]⟩, ⟨#[38, 35, 120, 70, 70, 70, 70, 70, 70, 70, 70, 59]⟩, ⟨#[38, 35, 48, 48, 48, 48, 48, 48, 48, 48, 48, 54, 53, 59]⟩, ⟨#[38]⟩, ⟨#[38, 120, 59]⟩, ⟨#[38, 99, 111, 112, 121, 57]⟩, ⟨#[38, 115, 117, 112, 49, 59]⟩, ⟨#[38, 102, 114, 97, 99, 49, 50]⟩, ⟨#[38, 104, 101, 108, 108, 105, 112, 59]⟩, ⟨#[38, 35, 53, 53, 50, 57, 54, 59]⟩, ⟨#[38, 35, 49, 50, 51, 52, 53, 54, 55, 56, 59]⟩]

theorem pk0_low : ∀ t ∈ pk0, t.size ≤ 25 ∧ lowS t := by decide

def pk1 : List ByteArray := [⟨#[60, 33, 45, 45, 120, 45, 45, 62]⟩, ⟨#[60, 33, 45, 45, 62]⟩, ⟨#[60, 33, 45, 45, 45, 62]⟩, ⟨#[60, 33, 45, 45, 97, 45, 45, 33, 62]⟩, ⟨#[60, 33, 45, 45, 97, 45, 45]⟩, ⟨#[60, 33, 45, 45, 97, 45]⟩, ⟨#[60, 33, 100, 111, 99, 116, 121, 112, 101, 32, 104, 116, 109, 108, 62]⟩, ⟨#[60, 33, 68, 79, 67, 84, 89, 80, 69]⟩, ⟨#[60, 33, 120, 62]⟩, ⟨#[60, 63, 120, 62]⟩, ⟨#[60, 47, 62]⟩, ⟨#[60, 47, 32, 120, 62]⟩, ⟨#[60, 33, 45, 45]⟩, ⟨#[60, 33, 45, 120, 62]⟩]

theorem pk1_low : ∀ t ∈ pk1, t.size ≤ 25 ∧ lowS t := by decide

def pk2 : List ByteArray := [⟨#[60]⟩, ⟨#[60, 47]⟩, ⟨#[60, 49]⟩, ⟨#[60, 32, 97]⟩, ⟨#[0]⟩, ⟨#[60, 98]⟩, ⟨#[60, 47, 98]⟩, ⟨#[62]⟩, ⟨#[60, 97, 32, 98]⟩, ⟨#[60, 97, 32, 98, 61, 39]⟩, ⟨#[45, 45, 62]⟩]

theorem pk2_low : ∀ t ∈ pk2, t.size ≤ 25 ∧ lowS t := by decide

def pk3 : List ByteArray := [⟨#[60, 97, 32, 104, 114, 101, 102, 61, 120, 62]⟩, ⟨#[60, 97, 32, 104, 114, 101, 102, 61, 39, 120, 38, 97, 109, 112, 59, 121, 39, 32, 104, 114, 101, 102, 61, 50, 62]⟩, ⟨#[60, 65, 32, 66, 61, 34, 99, 38, 108, 116, 34, 62]⟩, ⟨#[60, 98, 114, 47, 62]⟩, ⟨#[60, 98, 114, 32, 47, 62]⟩, ⟨#[60, 97, 47, 98, 62]⟩, ⟨#[60, 97, 32, 61, 98, 62]⟩, ⟨#[60, 97, 32, 98, 61, 62]⟩, ⟨#[60, 97, 32, 98, 32, 61, 32, 99, 32, 100, 62]⟩, ⟨#[60, 97, 9, 98, 10, 61, 10, 99, 62]⟩, ⟨#[60, 112, 47, 32, 105, 100, 62]⟩]

theorem pk3_low : ∀ t ∈ pk3, t.size ≤ 25 ∧ lowS t := by decide

def pk4 : List ByteArray := [⟨#[112]⟩, ⟨#[98]⟩, ⟨#[105]⟩, ⟨#[97]⟩, ⟨#[100, 105, 118]⟩, ⟨#[116, 105, 116, 108, 101]⟩, ⟨#[66]⟩, ⟨#[108, 105]⟩, ⟨#[104, 49]⟩, ⟨#[98, 114]⟩, ⟨#[120]⟩, ⟨#[98, 111, 100, 121]⟩, ⟨#[104, 116, 109, 108]⟩, ⟨#[115, 99, 114, 105, 112, 116]⟩]

theorem pk4_low : ∀ t ∈ pk4, t.size ≤ 25 ∧ lowS t := by decide

def pk5 : List ByteArray := [⟨#[62]⟩, ⟨#[32, 62]⟩, ⟨#[32, 120, 61, 49, 62]⟩, ⟨#[47, 62]⟩]

theorem pk5_low : ∀ t ∈ pk5, t.size ≤ 25 ∧ lowS t := by decide

def pk6 : List ByteArray := [⟨#[112]⟩, ⟨#[98]⟩, ⟨#[105]⟩, ⟨#[97]⟩, ⟨#[100, 105, 118]⟩, ⟨#[116, 105, 116, 108, 101]⟩, ⟨#[66]⟩, ⟨#[108, 105]⟩, ⟨#[104, 49]⟩, ⟨#[98, 114]⟩, ⟨#[120]⟩, ⟨#[98, 111, 100, 121]⟩, ⟨#[104, 116, 109, 108]⟩, ⟨#[115, 99, 114, 105, 112, 116]⟩, ⟨#[101, 109]⟩, ⟨#[104, 114]⟩, ⟨#[110, 111, 98, 114]⟩, ⟨#[98, 117, 116, 116, 111, 110]⟩, ⟨#[100, 100]⟩, ⟨#[117, 108]⟩, ⟨#[111, 98, 106, 101, 99, 116]⟩, ⟨#[111, 112, 116, 105, 111, 110]⟩, ⟨#[112, 114, 101]⟩, ⟨#[116, 101, 120, 116, 97, 114, 101, 97]⟩, ⟨#[112, 108, 97, 105, 110, 116, 101, 120, 116]⟩, ⟨#[104, 101, 97, 100]⟩, ⟨#[116, 97, 98, 108, 101]⟩, ⟨#[105, 109, 103]⟩, ⟨#[105, 109, 97, 103, 101]⟩, ⟨#[115, 112, 97, 110]⟩, ⟨#[104, 50]⟩, ⟨#[102, 111, 110, 116]⟩, ⟨#[115, 116, 121, 108, 101]⟩]

theorem pk6_low : ∀ t ∈ pk6, t.size ≤ 25 ∧ lowS t := by decide

def pk7 : List ByteArray := [⟨#[62]⟩, ⟨#[62]⟩, ⟨#[62]⟩, ⟨#[32, 105, 100, 61, 49, 62]⟩]

theorem pk7_low : ∀ t ∈ pk7, t.size ≤ 25 ∧ lowS t := by decide

def pk8 : List ByteArray := [⟨#[97]⟩, ⟨#[32]⟩, ⟨#[10]⟩, ⟨#[120, 32, 121]⟩, ⟨#[195, 169]⟩, ⟨#[122]⟩]

theorem pk8_low : ∀ t ∈ pk8, t.size ≤ 25 ∧ lowS t := by decide


/-- One string of a list that is written out, none of whose bytes is above 195. -/
theorem pickLow_any {w0 : World} {g : Nat} {v : Value} {xs : List Int} {w : World} (h : Cur w0 g v xs w) (hb : ∀ x ∈ xs, 0 ≤ x ∧ x ≤ 255) (ts : List ByteArray) (hz : 0 < ts.length) (hz2 : ts.length ≤ 1000) (hl : ∀ t ∈ ts, t.size ≤ 25 ∧ lowS t) (cs : Array Value) (hcs : cs.toList = ts.map Value.string) (n : Nat) (hn : n = ts.length) :
    Calls Tryz.prog 26 #[.pointer (some ⟨g, 0, none⟩), .slice (some ⟨w.heap.size, 0, none⟩) n n] (w.alloc (.cells cs 9)) fun e w' => ∃ t, e = .returned (.string t) ∧ t.size ≤ 25 ∧ lowS t ∧ Cur w0 g v xs w' ∧ w.grownBy w' (some g) := by
  refine (pickS_any h hb ts hz hz2 cs hcs n hn).mono ?_
  rintro e w' ⟨t, rfl, ht, k, gr⟩
  exact ⟨t, rfl, (hl t ht).1, (hl t ht).2, k, gr⟩

set_option maxHeartbeats 1000000 in
theorem drawRefLow_any {w0 : World} {g : Nat} {v : Value} {xs : List Int} {w : World} (h : Cur w0 g v xs w) (hb : ∀ x ∈ xs, 0 ≤ x ∧ x ≤ 255) :
    Calls Tryz.prog 25 #[.pointer (some ⟨g, 0, none⟩)] w fun e w' => ∃ s : ByteArray, e = .returned (.string s) ∧ s.size ≤ 25 ∧ lowS s ∧ Cur w0 g v xs w' ∧ w.grownBy w' (some g) := by
  have HB : Hid (∀ x ∈ xs, 0 ≤ x ∧ x ≤ 255) := hb
  clear hb
  go_enter Tryz.func25, Tryz.ntmps25
  go_wp2_with fail
  go_at_call 26
  refine (pickLow_any h HB.out pk0 (by decide) (by decide) pk0_low _ rfl 24 rfl).mono ?_
  rintro e w1 ⟨t, rfl, ht, hl, k1, g1⟩
  go_wp2
  go_ret
  exact ⟨t, rfl, ht, hl, k1, g1⟩


set_option maxHeartbeats 4000000 in
theorem drawPage_any {w0 : World} {g : Nat} {v : Value} {xs : List Int} {w : World} (h : Cur w0 g v xs w) (hb : ∀ x ∈ xs, 0 ≤ x ∧ x ≤ 255) (m : Nat) (hm : m ≤ 100) :
    Calls Tryz.prog 11 #[.pointer (some ⟨g, 0, none⟩), .int .i64 m] w fun e w' => ∃ s : ByteArray, e = .returned (.string s) ∧ s.size ≤ 60 * m ∧ lowS s ∧ Cur w0 g v xs w' ∧ w.grownBy w' (some g) := by
  have HB : Hid (∀ x ∈ xs, 0 ≤ x ∧ x ≤ 255) := hb
  clear hb
  go_enter Tryz.func11, Tryz.ntmps11
  go_wp2_with fail
  go_at_call 14
  refine (below_any _ (by omega) h HB.out).mono ?_
  rintro e w3 ⟨n, rfl, n0, n1, n2, k3, g3⟩
  replace n1 := n1 (by omega)
  clear n2
  obtain ⟨n, rfl⟩ : ∃ k : Nat, n = k := ⟨n.toNat, by omega⟩
  go_wp2
  go_loopw [5, 7] (fun u i wr => ∃ (k : Nat) (s : ByteArray), k ≤ n ∧ i = .int .i64 k ∧ u = .string s ∧ s.size ≤ 60 * k ∧ lowS s ∧ Cur w0 g v xs wr ∧ w.grownBy wr (some g)) (fun _ i _ => n - (intOf i).toNat)
  case atStart => exact ⟨0, ⟨#[]⟩, Nat.zero_le _, rfl, rfl, Nat.zero_le _, by decide, k3, g3⟩
  case round =>
    clear k3 g3
    obtain ⟨k, s, hk, rfl, rfl, hsl, hlow, cur, gr⟩ := hrel
    have LOW := (show Hid (lowS s) from hlow)
    clear hlow
    by_cases hkn : k < n
    · have hs6 : s.size ≤ 6000 := by omega
      go_wp2_with fail
      go_at_call 14
      refine (below_any _ (by omega) cur HB.out).mono ?_
      rintro e w4 ⟨q, rfl, q0, q1, q2, k4, g4⟩
      replace q1 := q1 (by omega)
      replace g4 := grown_trans gr g4
      clear q2 cur gr
      rcases (show q = 0 ∨ q = 1 ∨ q = 2 ∨ q = 3 ∨ q = 4 ∨ q = 5 ∨ q = 6 ∨ q = 7 ∨ q = 8 by omega) with rfl | rfl | rfl | rfl | rfl | rfl | rfl | rfl | rfl

      · clear q0 q1
        go_wp2_with fail
        go_at_call 25
        refine (drawRefLow_any k4 HB.out).mono ?_
        rintro e w5 ⟨t, rfl, ht, lt, kw5, gw5⟩
        have hadd := run_string_add_sum (P := Tryz.prog) w5 s t (by omega)
        have hszz := add_size s t
        obtain ⟨z, ez⟩ : ∃ z0, z0 = s ++ t := ⟨_, rfl⟩
        rw [← ez] at hadd hszz
        go_wp2
        go_roundw
        case rel => exact ⟨k + 1, z, by omega, by go_num, by first | rfl | (rw [ez]; done) | (rw [ezz, ez, ey]; done), by omega, by rw [ez]; exact LOW.out.add lt, kw5, grown_trans g4 gw5⟩
        case measure => simp [intOf]; omega
      · clear q0 q1
        go_wp2_with fail
        go_at_call 26
        refine (pickLow_any k4 HB.out pk1 (by decide) (by decide) pk1_low _ rfl 14 rfl).mono ?_
        rintro e w5 ⟨t, rfl, ht, lt, kw5, gw5⟩
        have hadd := run_string_add_sum (P := Tryz.prog) w5 s t (by omega)
        have hszz := add_size s t
        obtain ⟨z, ez⟩ : ∃ z0, z0 = s ++ t := ⟨_, rfl⟩
        rw [← ez] at hadd hszz
        go_wp2
        go_roundw
        case rel => exact ⟨k + 1, z, by omega, by go_num, by first | rfl | (rw [ez]; done) | (rw [ezz, ez, ey]; done), by omega, by rw [ez]; exact LOW.out.add lt, kw5, grown_trans g4 gw5⟩
        case measure => simp [intOf]; omega
      · clear q0 q1
        go_wp2_with fail
        go_at_call 26
        refine (pickLow_any k4 HB.out pk2 (by decide) (by decide) pk2_low _ rfl 11 rfl).mono ?_
        rintro e w5 ⟨t, rfl, ht, lt, kw5, gw5⟩
        have hadd := run_string_add_sum (P := Tryz.prog) w5 s t (by omega)
        have hszz := add_size s t
        obtain ⟨z, ez⟩ : ∃ z0, z0 = s ++ t := ⟨_, rfl⟩
        rw [← ez] at hadd hszz
        go_wp2
        go_roundw
        case rel => exact ⟨k + 1, z, by omega, by go_num, by first | rfl | (rw [ez]; done) | (rw [ezz, ez, ey]; done), by omega, by rw [ez]; exact LOW.out.add lt, kw5, grown_trans g4 gw5⟩
        case measure => simp [intOf]; omega
      · clear q0 q1
        go_wp2_with fail
        go_at_call 26
        refine (pickLow_any k4 HB.out pk3 (by decide) (by decide) pk3_low _ rfl 11 rfl).mono ?_
        rintro e w5 ⟨t, rfl, ht, lt, kw5, gw5⟩
        have hadd := run_string_add_sum (P := Tryz.prog) w5 s t (by omega)
        have hszz := add_size s t
        obtain ⟨z, ez⟩ : ∃ z0, z0 = s ++ t := ⟨_, rfl⟩
        rw [← ez] at hadd hszz
        go_wp2
        go_roundw
        case rel => exact ⟨k + 1, z, by omega, by go_num, by first | rfl | (rw [ez]; done) | (rw [ezz, ez, ey]; done), by omega, by rw [ez]; exact LOW.out.add lt, kw5, grown_trans g4 gw5⟩
        case measure => simp [intOf]; omega
      · clear q0 q1
        have hy1 : (⟨#[60, 47]⟩ : ByteArray).size ≤ 2 := by decide
        have hadd := run_string_add_sum (P := Tryz.prog) w4 s ⟨#[60, 47]⟩ (by omega)
        have hszy := add_size s ⟨#[60, 47]⟩
        obtain ⟨y, ey⟩ : ∃ z0, z0 = s ++ ⟨#[60, 47]⟩ := ⟨_, rfl⟩
        rw [← ey] at hadd hszy
        go_wp2_with fail
        go_at_call 26
        refine (pickLow_any k4 HB.out pk4 (by decide) (by decide) pk4_low _ rfl 14 rfl).mono ?_
        rintro e w5 ⟨t, rfl, ht, lt, kw5, gw5⟩
        clear hadd
        have hadd := run_string_add_sum (P := Tryz.prog) w5 y t (by omega)
        have hszz := add_size y t
        obtain ⟨z, ez⟩ : ∃ z0, z0 = y ++ t := ⟨_, rfl⟩
        rw [← ez] at hadd hszz
        go_wp2_with fail
        go_at_call 26
        refine (pickLow_any kw5 HB.out pk5 (by decide) (by decide) pk5_low _ rfl 4 rfl).mono ?_
        rintro e w6 ⟨r, rfl, hr, lr, kw6, gw6⟩
        clear hadd
        have hadd := run_string_add_sum (P := Tryz.prog) w6 z r (by omega)
        have hszzz := add_size z r
        obtain ⟨zz, ezz⟩ : ∃ z0, z0 = z ++ r := ⟨_, rfl⟩
        rw [← ezz] at hadd hszzz
        go_wp2
        go_roundw
        case rel => exact ⟨k + 1, zz, by omega, by go_num, by first | rfl | (rw [ezz]; done) | (rw [ezz, ez, ey]; done), by omega, by rw [ezz, ez, ey]; exact ((LOW.out.add (by decide)).add lt).add lr, kw6, grown_trans (grown_trans g4 gw5) gw6⟩
        case measure => simp [intOf]; omega
      · clear q0 q1
        have hy1 : (⟨#[60]⟩ : ByteArray).size ≤ 2 := by decide
        have hadd := run_string_add_sum (P := Tryz.prog) w4 s ⟨#[60]⟩ (by omega)
        have hszy := add_size s ⟨#[60]⟩
        obtain ⟨y, ey⟩ : ∃ z0, z0 = s ++ ⟨#[60]⟩ := ⟨_, rfl⟩
        rw [← ey] at hadd hszy
        go_wp2_with fail
        go_at_call 26
        refine (pickLow_any k4 HB.out pk6 (by decide) (by decide) pk6_low _ rfl 33 rfl).mono ?_
        rintro e w5 ⟨t, rfl, ht, lt, kw5, gw5⟩
        clear hadd
        have hadd := run_string_add_sum (P := Tryz.prog) w5 y t (by omega)
        have hszz := add_size y t
        obtain ⟨z, ez⟩ : ∃ z0, z0 = y ++ t := ⟨_, rfl⟩
        rw [← ez] at hadd hszz
        go_wp2_with fail
        go_at_call 26
        refine (pickLow_any kw5 HB.out pk7 (by decide) (by decide) pk7_low _ rfl 4 rfl).mono ?_
        rintro e w6 ⟨r, rfl, hr, lr, kw6, gw6⟩
        clear hadd
        have hadd := run_string_add_sum (P := Tryz.prog) w6 z r (by omega)
        have hszzz := add_size z r
        obtain ⟨zz, ezz⟩ : ∃ z0, z0 = z ++ r := ⟨_, rfl⟩
        rw [← ezz] at hadd hszzz
        go_wp2
        go_roundw
        case rel => exact ⟨k + 1, zz, by omega, by go_num, by first | rfl | (rw [ezz]; done) | (rw [ezz, ez, ey]; done), by omega, by rw [ezz, ez, ey]; exact ((LOW.out.add (by decide)).add lt).add lr, kw6, grown_trans (grown_trans g4 gw5) gw6⟩
        case measure => simp [intOf]; omega
      · clear q0 q1
        have hy1 : (⟨#[60]⟩ : ByteArray).size ≤ 2 := by decide
        have hadd := run_string_add_sum (P := Tryz.prog) w4 s ⟨#[60]⟩ (by omega)
        have hszy := add_size s ⟨#[60]⟩
        obtain ⟨y, ey⟩ : ∃ z0, z0 = s ++ ⟨#[60]⟩ := ⟨_, rfl⟩
        rw [← ey] at hadd hszy
        go_wp2_with fail
        go_at_call 26
        refine (pickLow_any k4 HB.out pk6 (by decide) (by decide) pk6_low _ rfl 33 rfl).mono ?_
        rintro e w5 ⟨t, rfl, ht, lt, kw5, gw5⟩
        clear hadd
        have hadd := run_string_add_sum (P := Tryz.prog) w5 y t (by omega)
        have hszz := add_size y t
        obtain ⟨z, ez⟩ : ∃ z0, z0 = y ++ t := ⟨_, rfl⟩
        rw [← ez] at hadd hszz
        go_wp2_with fail
        go_at_call 26
        refine (pickLow_any kw5 HB.out pk7 (by decide) (by decide) pk7_low _ rfl 4 rfl).mono ?_
        rintro e w6 ⟨r, rfl, hr, lr, kw6, gw6⟩
        clear hadd
        have hadd := run_string_add_sum (P := Tryz.prog) w6 z r (by omega)
        have hszzz := add_size z r
        obtain ⟨zz, ezz⟩ : ∃ z0, z0 = z ++ r := ⟨_, rfl⟩
        rw [← ezz] at hadd hszzz
        go_wp2
        go_roundw
        case rel => exact ⟨k + 1, zz, by omega, by go_num, by first | rfl | (rw [ezz]; done) | (rw [ezz, ez, ey]; done), by omega, by rw [ezz, ez, ey]; exact ((LOW.out.add (by decide)).add lt).add lr, kw6, grown_trans (grown_trans g4 gw5) gw6⟩
        case measure => simp [intOf]; omega
      · clear q0 q1
        go_wp2_with fail
        go_at_call 26
        refine (pickLow_any k4 HB.out pk8 (by decide) (by decide) pk8_low _ rfl 6 rfl).mono ?_
        rintro e w5 ⟨t, rfl, ht, lt, kw5, gw5⟩
        have hadd := run_string_add_sum (P := Tryz.prog) w5 s t (by omega)
        have hszz := add_size s t
        obtain ⟨z, ez⟩ : ∃ z0, z0 = s ++ t := ⟨_, rfl⟩
        rw [← ez] at hadd hszz
        go_wp2
        go_roundw
        case rel => exact ⟨k + 1, z, by omega, by go_num, by first | rfl | (rw [ez]; done) | (rw [ezz, ez, ey]; done), by omega, by rw [ez]; exact LOW.out.add lt, kw5, grown_trans g4 gw5⟩
        case measure => simp [intOf]; omega
      · clear q0 q1
        go_wp2_with fail
        go_at_call 26
        refine (pickLow_any k4 HB.out pk8 (by decide) (by decide) pk8_low _ rfl 6 rfl).mono ?_
        rintro e w5 ⟨t, rfl, ht, lt, kw5, gw5⟩
        have hadd := run_string_add_sum (P := Tryz.prog) w5 s t (by omega)
        have hszz := add_size s t
        obtain ⟨z, ez⟩ : ∃ z0, z0 = s ++ t := ⟨_, rfl⟩
        rw [← ez] at hadd hszz
        go_wp2
        go_roundw
        case rel => exact ⟨k + 1, z, by omega, by go_num, by first | rfl | (rw [ez]; done) | (rw [ezz, ez, ey]; done), by omega, by rw [ez]; exact LOW.out.add lt, kw5, grown_trans g4 gw5⟩
        case measure => simp [intOf]; omega
    · go_wp2
      go_ret
      exact ⟨s, rfl, by omega, LOW.out, cur, gr⟩
end Go.Proofs.YtiojilmclocmkaaGreatDoor

/- The draw of a page's points: few and none of them a mark, or noughts alone. -/
namespace Go.Proofs.YtiojilmclocmkaaGreatDoor
open Go.RowKit
set_option maxRecDepth 100000
set_option linter.unusedVariables false

theorem l3PointsOf_any (s : ByteArray) (w : World) (hs : s.size ≤ 1000000) : Calls Tryz.prog 10 #[.string s] w fun e w' => ∃ v, e = .returned v ∧ Own w.heap.size 3 .i64 w' v (dec (bs s)) ∧ Below w.heap.size w w' := by
  obtain ⟨cap, w1, hc, hk, hcap, hm, hb⟩ := conv_str s w (by unfold maxLen; omega)
  have hl := bs_len s
  have hsl := hk.sl (n := s.size) (cap := cap) (by omega) (by omega) hm
  have hu := l1Read_any hsl (bs_byte s) (by omega)
  clear hk
  go_enter Tryz.func10, Tryz.ntmps10
  go_wp2_with fail
  go_at_call 24
  refine hu.mono ?_
  rintro e w2 ⟨v2, rfl, o2, b2⟩
  go_wp2
  go_ret
  exact ⟨_, rfl, o2.base hb.size, hb.trans (b2.mono hb.size)⟩

set_option maxHeartbeats 1000000 in
theorem drawTokens_any {v : Value} {xs : List Int} {w : World} (h : Sl .u8 w v xs) (hb : ∀ x ∈ xs, 0 ≤ x ∧ x ≤ 255) (hn : xs.length ≤ 1099511627776) :
    Calls Tryz.prog 5 #[v] w fun e w' => ∃ v' zs, e = .returned v' ∧ Own w.heap.size 3 .i64 w' v' zs ∧ zs.length ≤ 3001 ∧ (∀ z ∈ zs, pointOk z = true ∧ z ≠ 65279) ∧ Below w.heap.size w w' := by
  have HB : Hid (∀ x ∈ xs, 0 ≤ x ∧ x ≤ 255) := hb
  clear hb
  obtain ⟨i0, hi, hz0, hz1, hz2⟩ := info_parts Tryz.infoI
  go_enter Tryz.func5, Tryz.ntmps5
  go_wp2_with fail
  go_at_call 9
  refine (new_any h HB.out hn).mono ?_
  rintro e w1 ⟨rfl, k1, b1⟩
  have h1 := h.below b1
  go_wp2_with fail
  go_at_call 12
  refine (size_any h1 hn 14 (by omega)).mono ?_
  rintro e w2 ⟨⟨m, rfl, m0, m1⟩, rfl⟩
  obtain ⟨m, rfl⟩ : ∃ k : Nat, m = k := ⟨m.toNat, by omega⟩
  clear h1
  go_wp2_with fail
  go_at_call 11
  refine (drawPage_any k1 HB.out m (by omega)).mono ?_
  rintro e w3 ⟨s, rfl, hs, hlow, k3, g3⟩
  have b3 := b1.grown g3 b1.size (fun k hk => by cases hk; exact Nat.le_refl _)
  clear k1 b1 g3
  have hdl : (dec (bs s)).length ≤ 840 := by have := dec_len _ (bs s) (Nat.le_refl _); have := bs_len s; omega
  have HD : Hid (∀ z ∈ dec (bs s), pointOk z = true ∧ z ≠ 65279) := fun z hz => ⟨dec_ok _ (bs s) (Nat.le_refl _) (fun y hy => (hlow.bs y hy).1) z hz, dec_low _ (bs s) (Nat.le_refl _) hlow.bs z hz⟩
  go_wp2_with fail
  go_at_call 10
  refine (l3PointsOf_any s w3 (by omega)).mono ?_
  rintro e w5 ⟨u, rfl, o5, b5⟩
  obtain ⟨zs, hzs⟩ : ∃ zs, zs = dec (bs s) := ⟨_, rfl⟩
  rw [← hzs] at o5 hdl HD
  have k5 := k3.below b5
  have hlt := k3.lt
  replace o5 := o5.base (B' := w.heap.size + 1) (by omega)
  replace b5 := b3.trans (b5.mono b3.size)
  clear k3 b3 hzs hs hlow hlt
  go_wp2_with fail
  go_at_call 13
  refine (once_any _ (by omega) k5 HB.out).mono ?_
  rintro e w6 ⟨b6, rfl, k6, g6⟩
  have o6 := own_past o5 g6 (by omega)
  have b6' := b5.grown g6 b5.size (fun k hk => by cases hk; exact Nat.le_refl _)
  clear o5 k5 b5 g6
  cases b6
  · go_wp2
    go_ret
    exact ⟨_, _, rfl, o6.base (by omega), by omega, HD.out, b6'⟩
  · go_wp2_with fail
    go_at_call 14
    refine (below_any _ (by omega) k6 HB.out).mono ?_
    rintro e w8 ⟨q, rfl, q0, q1, q2, k8, g8⟩
    replace q1 := q1 (by omega)
    clear q2
    obtain ⟨q, rfl⟩ : ∃ k : Nat, q = k := ⟨q.toNat, by omega⟩
    have b8 := b6'.grown g8 b6'.size (fun k hk => by cases hk; exact Nat.le_refl _)
    clear o6 b6' k6 g8
    go_wp2_with (at_make; refine wpList_mkn _ rfl (.tmp 16) (.tmp 16) 24 rfl 3 i0 .i64 Tryz.underlying24 hi hz0 hz1 (3000 + q) (3000 + q) (3000 + q) rfl rfl (by omega) (by omega) (by rw [hz2]; omega) (by unfold maxLen; omega) ?_; intro w9 o9 b9)
    go_ret
    exact ⟨_, _, rfl, o9.base b8.size, by simp; omega, fun y hy => (by have := List.eq_of_mem_replicate hy; subst this; decide), b8.trans (b9.mono b8.size)⟩
end Go.Proofs.YtiojilmclocmkaaGreatDoor
