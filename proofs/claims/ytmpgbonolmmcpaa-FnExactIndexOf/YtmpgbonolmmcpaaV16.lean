/- The specification's heads: l16Right, HeadPack. No condition. -/
import Derived.Test.YtmpgbonolmmcpaaV13
import Derived.Test.YtmpgbonolmmcpaaV15
import Derived.Deep.RegionHeld3
import Derived.Test.YtmpgbonolmmcpaaV14
namespace Go.Proofs.Ytmpgbonolmmcpaa
open Go.RowKit
set_option maxRecDepth 100000
set_option linter.unusedVariables false

theorem rk_three {w : World} {b : Nat} {u v y : Value} {t : TypeId} (h : w.heap[b]? = some (.cells #[u, v, y] t (0, 0))) : w.cell? ⟨b, 0, none⟩ = some u ∧ w.cell? ⟨b, 1, none⟩ = some v ∧ w.cell? ⟨b, 2, none⟩ = some y ∧ w.frozen? ⟨b, 0, none⟩ = false ∧ w.frozen? ⟨b, 1, none⟩ = false ∧ w.frozen? ⟨b, 2, none⟩ = false :=
  ⟨by simp only [World.cell?, h]; rfl, by simp only [World.cell?, h]; rfl, by simp only [World.cell?, h]; rfl, by simp only [World.frozen?, h]; rfl, by simp only [World.frozen?, h]; rfl, by simp only [World.frozen?, h]; rfl⟩

theorem zeros_len {h : PHead} {n : Nat} : (formsL h ++ List.replicate n (0 : Int)).length = (formsL h).length + n := by simp

end Go.Proofs.Ytmpgbonolmmcpaa

/- The specification's UrlOk and RecordPack. No condition. -/
namespace Go.Proofs.Ytmpgbonolmmcpaa
open Go.RowKit
set_option maxRecDepth 100000
set_option linter.unusedVariables false

/-- A byte that no url has. -/
def ubad (x : Int) : Bool := decide (x < 33) || decide (126 < x)
theorem urlB_eq (s : ByteArray) : urlB s = (inB s.size 1 60 && !((bs s).any ubad)) := by
  unfold urlB
  congr 1
  induction bs s with
  | nil => rfl
  | cons x xs ih =>
    rw [List.all_cons, List.any_cons, ih, Bool.not_or]
    congr 1
    by_cases h1 : 33 ≤ x
    · by_cases h2 : x ≤ 126
      · simp [ubad, h1, h2, Int.not_lt.mpr h1, Int.not_lt.mpr h2]
      · simp [ubad, h1, h2, Int.not_lt.mpr h1, Int.not_le.mp h2]
    · simp [ubad, h1, Int.not_le.mp h1]
theorem uany_succ {xs : List Int} {k : Nat} (h : k < xs.length) : (xs.take (k + 1)).any ubad = ((xs.take k).any ubad || ubad (xs.getD k 0)) := by
  rw [List.take_succ_eq_append_getElem h, List.any_append]
  simp [List.getD_eq_getElem?_getD, h]
theorem uany_of {xs : List Int} {k : Nat} (h : k < xs.length) (e : ubad (xs.getD k 0) = true) : xs.any ubad = true := by
  rw [List.any_eq_true]
  exact ⟨xs[k], List.getElem_mem h, by simpa [List.getD_eq_getElem?_getD, h] using e⟩

set_option maxHeartbeats 400000 in
set_option maxRecDepth 100000 in
theorem surlOk_any (s : ByteArray) (w : World) (hs : s.size ≤ 1099511627776) : Calls Try.prog 27 #[.string s] w fun e w' => e = .returned (.bool (urlB s)) ∧ w' = w := by
  have hl := bs_len s
  have hin := fun w => l1In_any s.size 1 60 w
  rw [urlB_eq]
  by_cases h1 : s.size < 1 ∨ 60 < s.size
  · rw [inB_no (by omega)]
    rw [inB_no (by omega)] at hin
    go_enter Try.func27, Try.ntmps27
    go_wp2_with fail
    go_at_call 67
    refine (hin _).mono ?_
    rintro e w2 ⟨rfl, rfl⟩
    go_wp2
    go_ret
    exact ⟨rfl, rfl⟩
  · rw [inB_yes (by omega) (by omega)]
    rw [inB_yes (by omega) (by omega)] at hin
    have h3 : s.size ≤ 60 := by omega
    clear h1
    go_enter Try.func27, Try.ntmps27
    go_wp2_with fail
    go_at_call 67
    refine (hin _).mono ?_
    rintro e w2 ⟨rfl, rfl⟩
    clear hin
    go_wp2
    go_loop [3] (fun i => ∃ k : Nat, k ≤ s.size ∧ i = .int .i64 k ∧ ((bs s).take k).any ubad = false) (fun i => s.size - (intOf i).toNat)
    case atStart => exact ⟨0, Nat.zero_le _, rfl, by simp⟩
    case round =>
      obtain ⟨k, hks, rfl, hno⟩ := hrel
      have HN : Hid (((bs s).take k).any ubad = false) := hno
      clear hno
      by_cases hlt : k < s.size
      · have hat := bs_at s k hlt
        have hbk := bs_bound s k
        have HA : Hid (((bs s).take (k + 1)).any ubad = (((bs s).take k).any ubad || ubad ((bs s).getD k 0))) := uany_succ (by omega)
        have HO : Hid (ubad ((bs s).getD k 0) = true → (bs s).any ubad = true) := uany_of (by omega)
        obtain ⟨x, hx⟩ : ∃ x, x = (bs s).getD k 0 := ⟨_, rfl⟩
        rw [← hx] at hat hbk HA HO
        clear hx
        have hlt' : (k : Int) < (s.size : Int) := by omega
        by_cases g1 : x < 33
        · go_wp2
          go_ret
          refine ⟨?_, rfl⟩
          rw [HO.out (by simp [ubad, g1])]; rfl
        · by_cases g2 : 126 < x
          · go_wp2
            go_ret
            refine ⟨?_, rfl⟩
            rw [HO.out (by simp [ubad, g2])]; rfl
          · go_wp2
            go_round
            case rel => exact ⟨k + 1, hlt, by go_num, by rw [HA.out, HN.out]; simp [ubad]; omega⟩
            case measure => simp [intOf]; omega
      · obtain rfl : k = s.size := by omega
        have hn' : ¬ ((s.size : Int) < (s.size : Int)) := by omega
        have HN2 : Hid ((bs s).any ubad = false) := (show (bs s).any ubad = false by have := HN.out; rwa [List.take_of_length_le (by omega)] at this)
        clear HN
        go_wp2
        go_ret
        exact ⟨by rw [HN2.out]; rfl, rfl⟩
end Go.Proofs.Ytmpgbonolmmcpaa
