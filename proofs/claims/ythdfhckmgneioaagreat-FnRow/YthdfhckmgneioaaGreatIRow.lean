/- The program's functions on a row of open elements: what a row is. No condition. -/
import Derived.Test.YthdfhckmgneioaaGreatSRow
import Derived.Test.YthdfhckmgneioaaGreatITree
import Derived.Test.YthdfhckmgneioaaGreatClear
namespace Go.Proofs.YthdfhckmgneioaaGreat
open Go.RowKit
set_option maxRecDepth 100000
set_option linter.unusedVariables false

set_option maxRecDepth 100000 in
theorem index_any {v : Value} {xs : List Int} {w : World} (h : Sl .i64 w v xs) (hn : xs.length ≤ 1048576) (x : Int) :
    Calls Tryz.prog 87 #[v, .int .i64 x] w fun e w' => ∃ r : Int, e = .returned (.int .i64 r) ∧ (0 ≤ r ↔ ∃ j, ∃ h : j < xs.length, xs[j] = x) ∧ Below w.heap.size w w' := by
  obtain ⟨a, ca, rfl, _, _, _, ha⟩ := h
  go_enter Tryz.func87, Tryz.ntmps87
  go_wp2
  go_loopw [8] (fun i wr => ∃ k : Nat, k ≤ xs.length ∧ i = .int .i64 k ∧ (∀ j (h : j < xs.length), j < k → xs[j] ≠ x) ∧ ∃ n, wr = w.drewN n) (fun i _ => xs.length - (intOf i).toNat)
  case atStart => exact ⟨0, Nat.zero_le _, rfl, fun j _ hj => absurd hj (Nat.not_lt_zero j), 0, rfl⟩
  case round =>
    obtain ⟨k, hk, rfl, hN, n, rfl⟩ := hrel
    have HN := (show Hid (∀ j (h : j < xs.length), j < k → xs[j] ≠ x) from hN)
    clear hN
    by_cases hlt : k < xs.length
    · obtain ⟨b1, o1, rfl, c1⟩ := ha k hlt
      have HX : Hid (xs.getD k 0 = xs[k]) := (show xs.getD k 0 = xs[k] by simp [List.getD_eq_getElem?_getD, hlt])
      rw [HX.out] at c1
      obtain ⟨y, hy⟩ : ∃ y, y = xs[k] := ⟨_, rfl⟩
      rw [← hy] at c1
      have HY := (show Hid (y = xs[k]) from hy)
      clear ha hy
      by_cases hq : x = y
      · have HR : Hid (0 ≤ (k : Int) ↔ ∃ j, ∃ h : j < xs.length, xs[j] = x) := ⟨fun _ => ⟨k, hlt, by rw [hq, HY.out]⟩, fun _ => Int.natCast_nonneg _⟩
        subst hq
        go_wp2
        go_ret
        exact ⟨_, rfl, HR.out, below_drewN n⟩
      · have hq1 : (x == y) = false := by simp [hq]
        have HS : Hid (∀ j (h : j < xs.length), j < k + 1 → xs[j] ≠ x) := fun j h hj => by
          by_cases e : j = k
          · subst e; rw [← HY.out]; exact fun e => hq e.symm
          · exact HN.out j h (by omega)
        clear hq
        go_wp2
        go_roundw
        case rel => exact ⟨k + 1, by omega, by go_num, HS.out, n, rfl⟩
        case measure => simp [intOf]; omega
    · have HR : Hid (0 ≤ (-1 : Int) ↔ ∃ j, ∃ h : j < xs.length, xs[j] = x) := ⟨fun h => absurd h (by decide), fun ⟨j, h, e⟩ => absurd e (HN.out j h (by omega))⟩
      clear ha
      go_wp2
      go_ret
      exact ⟨_, rfl, HR.out, below_drewN n⟩

theorem contains_any {v : Value} {xs : List Int} {w : World} (h : Sl .i64 w v xs) (hn : xs.length ≤ 1048576) (x : Int) :
    Calls Tryz.prog 69 #[v, .int .i64 x] w fun e w' => ∃ r, e = .returned (.bool r) ∧ (r = true ↔ ∃ j, ∃ h : j < xs.length, xs[j] = x) ∧ Below w.heap.size w w' := by
  have HS := (show Hid (Sl .i64 w v xs) from h)
  obtain ⟨a, ca, rfl, _, _, _, ha⟩ := h
  clear ha
  go_enter Tryz.func69, Tryz.ntmps69
  go_wp2_with fail
  go_at_call 87
  refine (index_any HS.out hn x).mono ?_
  rintro e w1 ⟨r, rfl, hr, b1⟩
  have HR := (show Hid _ from hr)
  clear hr
  go_wp2
  go_ret
  exact ⟨decide (0 ≤ r), rfl, by rw [decide_eq_true_iff]; exact HR.out, b1⟩

set_option maxHeartbeats 1000000 in
set_option maxRecDepth 100000 in
theorem ifits_any {w : World} {A : Nat} {v rv : Value} {ns : List PNode} {row : List Int} (hn : NodesAt w v ns) (hlen : ns.length ≤ 1048576) (cA : w.cell? ⟨A, 0, none⟩ = some v) (hr : Sl .i64 w rv row) (hrl : row.length ≤ 1048576) :
    Calls Tryz.prog 42 #[.agg #[rv, .pointer (some ⟨A, 0, none⟩)]] w fun e w' => ∃ r, e = .returned (.bool r) ∧ (r = true ↔ RowP ns row) ∧ Below w.heap.size w w' := by
  have HR := (show Hid (Sl .i64 w rv row) from hr)
  have hAlt := lt_of_cell cA
  obtain ⟨a, cap, rfl, hc1, hc2, hcs⟩ := hn.slice
  have HCS := (show Hid _ from hcs)
  have HCA := (show Hid _ from cA)
  obtain ⟨ra, rc, rfl, _, _, _, hra⟩ := hr
  have HRA := (show Hid _ from hra)
  clear hn hra hcs cA
  by_cases h40 : 40 < row.length
  · have HF : Hid (¬ RowP ns row) := fun h => by have := h.len; omega
    go_enter Tryz.func42, Tryz.ntmps42
    go_wp2
    go_ret
    exact ⟨false, rfl, by simpa using HF.out, (Below.refl _ _).alloc (Nat.le_refl _) _⟩
  obtain ⟨w1, hw1⟩ : ∃ w1, w1 = w.alloc (.cells #[.slice ra row.length rc, .pointer (some ⟨A, 0, none⟩)] 46) := ⟨_, rfl⟩
  have b1 : Below w.heap.size w w1 := by rw [hw1]; exact (Below.refl _ _).alloc (Nat.le_refl _) _
  have g1 : w1.heap[w.heap.size]? = some (.cells #[.slice ra row.length rc, .pointer (some ⟨A, 0, none⟩)] 46 (0, 0)) := by rw [hw1]; exact World.alloc_heap_new _ _
  have HG1 := (show Hid _ from g1)
  clear g1
  go_enter Tryz.func42, Tryz.ntmps42
  go_wp2
  rw [← hw1]
  clear hw1
  go_loopw [12] (fun i wr => ∃ k : Nat, k ≤ row.length ∧ i = .int .i64 k ∧ RowK ns row k ∧ Below w1.heap.size w1 wr) (fun i _ => row.length - (intOf i).toNat)
  case atStart => exact ⟨0, Nat.zero_le _, rfl, rowK_zero _ _, Below.refl _ _⟩
  case round =>
    obtain ⟨k, hk, rfl, hK, bel⟩ := hrel
    have HK := (show Hid (RowK ns row k) from hK)
    have hb := b1.trans (bel.mono b1.size)
    clear hK
    by_cases hlt : k < row.length
    · obtain ⟨rb, ro, rfl, c1⟩ := HRA.out k hlt
      have hrb := lt_of_cell c1
      have HX : Hid (row.getD k 0 = row[k]) := (show row.getD k 0 = row[k] by simp [List.getD_eq_getElem?_getD, hlt])
      rw [HX.out] at c1
      replace c1 := (hb.cell (p := ⟨rb, ro + k, none⟩) hrb).trans c1
      have gr := (bel.block _ (blk_lt HG1.out)).trans HG1.out
      have r0 : wr.cell? ⟨w.heap.size, 0, none⟩ = some (.slice (some ⟨rb, ro, none⟩) row.length rc) := by simp only [World.cell?, gr]; rfl
      have r1 : wr.cell? ⟨w.heap.size, 1, none⟩ = some (.pointer (some ⟨A, 0, none⟩)) := by simp only [World.cell?, gr]; rfl
      have cA : wr.cell? ⟨A, 0, none⟩ = some (.slice a ns.length cap) := (hb.cell (p := ⟨A, 0, none⟩) hAlt).trans HCA.out
      have CH := (show Hid _ from fun x => ihas_any cA x)
      obtain ⟨x, hx⟩ : ∃ x, x = row[k] := ⟨_, rfl⟩
      rw [← hx] at c1
      have HXX := (show Hid (x = row[k]) from hx)
      clear hx gr
      by_cases hin : 0 ≤ x ∧ x < ns.length
      · have CH1 := (show Hid _ from CH.out x)
        rw [decide_eq_true hin] at CH1
        clear CH
        obtain ⟨m, rfl⟩ : ∃ m : Nat, x = (m : Int) := ⟨x.toNat, by omega⟩
        have hm : m < ns.length := by omega
        have HEL : Hid (elB ns row[k] = decide (ns[m].kind = 3)) := (show elB ns row[k] = decide (ns[m].kind = 3) by rw [← HXX.out, elB, inB_yes (by omega) (by omega), kdOf_at hm]; rfl)
        obtain ⟨b, off, av, kv, rfl, hblt, d0, _⟩ := HCS.out m hm
        replace d0 := (hb.cell (p := ⟨b, off + m * 6, none⟩) hblt).trans d0
        obtain ⟨q, hq⟩ : ∃ q, q = ns[m].kind := ⟨_, rfl⟩
        rw [← hq] at d0 HEL
        clear hq hin
        by_cases hq3 : q = 3
        · subst hq3
          have HE : Hid (elB ns row[k] = true) := HEL.out
          clear HEL
          have ht := sl_take (HR.out.below hb) (k := k) (by omega)
          have hl : (row.take k).length = k := by simp; omega
          have CC := (show Hid _ from contains_any ht (by omega) (m : Int))
          go_wp2_with (first
            | (go_at_call 68; refine Calls.mono CH1.out ?_; rintro e w2 ⟨rfl, rfl⟩)
            | fail)
          go_at_call 69
          refine Calls.mono CC.out ?_
          rintro e w2 ⟨r, rfl, hr, b2⟩
          have HRR := (show Hid _ from hr)
          clear hr
          cases r
          · have HS : Hid (RowK ns row (k + 1)) := rowK_succ HK.out hlt HE.out (fun j hj e => by
              have := HRR.out.mpr ⟨j, by omega, by rw [List.getElem_take, e, HXX.out]⟩
              cases this)
            go_wp2
            go_roundw
            case rel => exact ⟨k + 1, by omega, by go_num, HS.out, bel.trans (b2.mono bel.size)⟩
            case measure => simp [intOf]; omega
          · have HF : Hid (¬ RowP ns row) := fun h => by
              obtain ⟨j, hj, e⟩ := HRR.out.mp rfl
              rw [List.getElem_take, HXX.out] at e
              exact h.once k j hlt (by omega) e
            go_wp2
            go_ret
            exact ⟨false, rfl, by simpa using HF.out, hb.trans (b2.mono hb.size)⟩
        · have HF : Hid (¬ RowP ns row) := fun h => by have := h.el k hlt; rw [HEL.out, decide_eq_false hq3] at this; cases this
          have hq4 : (q != 3) = true := by simp [hq3]
          clear hq3
          go_wp2_with (first
            | (go_at_call 68; refine Calls.mono CH1.out ?_; rintro e w2 ⟨rfl, rfl⟩)
            | fail)
          go_ret
          exact ⟨false, rfl, by simpa using HF.out, hb⟩
      · have CH1 := (show Hid _ from CH.out x)
        rw [decide_eq_false hin] at CH1
        have HF : Hid (¬ RowP ns row) := fun h => by
          have := h.el k hlt
          rw [← HXX.out, elB, inB_no (by omega)] at this
          cases this
        clear CH hin
        go_wp2_with (first
          | (go_at_call 68; refine Calls.mono CH1.out ?_; rintro e w2 ⟨rfl, rfl⟩)
          | fail)
        go_ret
        exact ⟨false, rfl, by simpa using HF.out, hb⟩
    · have hke : k = row.length := by omega
      have HP : Hid (RowP ns row) := rowK_all (by rw [← hke]; exact HK.out) (by omega)
      go_wp2
      go_ret
      exact ⟨true, rfl, by simpa using HP.out, hb⟩
end Go.Proofs.YthdfhckmgneioaaGreat
