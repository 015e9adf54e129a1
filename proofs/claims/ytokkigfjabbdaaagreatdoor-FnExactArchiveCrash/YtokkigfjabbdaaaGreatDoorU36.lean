/- Two rows of entries held against each other (written by mk/areq.py). No condition. -/
import Derived.Test.YtokkigfjabbdaaaGreatDoorU23
import Derived.Laws.StructEq
namespace Go.Proofs.YtokkigfjabbdaaaGreatDoor
open Go.RowKit
set_option maxRecDepth 100000
set_option linter.unusedVariables false

def pairNe (b c x y : ByteArray) : Bool := !decide ((b, c) = (x, y))
theorem ent_neq2 (b c x y : ByteArray) (w : World) : (binOp .neq 70 (.agg #[.string b, .string c]) (.agg #[.string x, .string y])).run Tryz.prog w = .ok (.bool (pairNe b c x y)) w := by
  unfold pairNe
  have hu := Tryz.underlying70
  rw [run_neq_struct, show (10000 : Nat) = 9999 + 1 from rfl, run_equalIn_agg w 9999 70 _ _ (by kernel_rfl) (by kernel_rfl)]
  simp only [Program.fieldsOf, hu]
  have h2 := fun (x y : ByteArray) (w : World) => run_equalIn_string (P := Tryz.prog) w 9998 9 x y Tryz.underlying9
  have g9 := Tryz.isAgg9
  by_cases e1 : b = x
  · by_cases e2 : c = y
    · simp [Op.eqFields, part, h2, g9, Result.andThen, e1, e2]
    · simp [Op.eqFields, part, h2, g9, Result.andThen, toList_eq_iff, e1, e2]
  · simp [Op.eqFields, part, h2, g9, Result.andThen, toList_eq_iff, e1]
theorem take_ne {ps qs : List (ByteArray × ByteArray)} {k : Nat} (h1 : k < ps.length) (h2 : k < qs.length) (h : ps[k] ≠ qs[k]) : ps ≠ qs := by
  rintro rfl
  exact h rfl
theorem take_eq {ps qs : List (ByteArray × ByteArray)} {k : Nat} (h1 : k < ps.length) (h2 : k < qs.length) (h : ps[k] = qs[k]) (ht : ps.take k = qs.take k) : ps.take (k + 1) = qs.take (k + 1) := by
  rw [List.take_succ_eq_append_getElem h1, List.take_succ_eq_append_getElem h2, ht, h]

set_option maxHeartbeats 1000000 in
set_option maxRecDepth 100000 in
theorem ssameList_any {a b : Value} {ps qs : List (ByteArray × ByteArray)} {w : World} (h1 : Sv 2 w a (pairCells ps)) (h2 : Sv 2 w b (pairCells qs)) (hn : ps.length ≤ 1099511627776) (hm : qs.length ≤ 1099511627776) :
    Calls Tryz.prog 30 #[a, b] w fun e w' => e = .returned (.bool (decide (ps = qs))) ∧ Below w.heap.size w w' := by
  obtain ⟨aa, ac, rfl, _, _, hca⟩ := h1.pair
  obtain ⟨ba, bc, rfl, _, _, hcb⟩ := h2.pair
  have HA := (show Hid _ from hca)
  have HBc := (show Hid _ from hcb)
  clear h1 h2 hca hcb
  by_cases hl : ps.length = qs.length
  · have HLn := (show Hid (ps.length = qs.length) from hl)
    rw [← hl]
    clear hm hl
    have hne := ent_neq2
    go_enter Tryz.func30, Tryz.ntmps30
    go_wp2_with fail
    go_loopw [5] (fun i wr => ∃ k : Nat, k ≤ ps.length ∧ i = .int .i64 k ∧ Hid (ps.take k = qs.take k ∧ Below w.heap.size w wr)) (fun i _ => ps.length - (intOf i).toNat)
    case atStart => exact ⟨0, Nat.zero_le _, rfl, rfl, Below.refl _ _⟩
    case round =>
      obtain ⟨k, hk, rfl, B⟩ := hrel
      by_cases hlt : k < ps.length
      · have hlq : k < qs.length := by have := HLn.out; omega
        obtain ⟨b1, o1, rfl, l1, c1, c2⟩ := HA.out k hlt
        obtain ⟨b2, o2, rfl, l2, d1, d2⟩ := HBc.out k hlq
        have TN := (show Hid (ps[k] ≠ qs[k] → ps ≠ qs) from take_ne hlt hlq)
        have TE := (show Hid (ps[k] = qs[k] → ps.take (k + 1) = qs.take (k + 1)) from fun e => take_eq hlt hlq e B.out.1)
        obtain ⟨x, hx⟩ : ∃ x, x = ps[k] := ⟨_, rfl⟩
        obtain ⟨y, hy⟩ : ∃ y, y = qs[k] := ⟨_, rfl⟩
        rw [← hx] at c1 c2 TN TE
        rw [← hy] at d1 d2 TN TE
        clear hx hy hlq
        obtain ⟨xu, xb⟩ := x
        obtain ⟨yu, yb⟩ := y
        simp only at c1 c2 d1 d2
        have HQ := (show Hid (∀ W, Below w.heap.size w W → W.cell? ⟨b1, o1 + k * 2, none⟩ = some (.string xu) ∧ W.cell? ⟨b1, o1 + k * 2 + 1, none⟩ = some (.string xb) ∧ W.cell? ⟨b2, o2 + k * 2, none⟩ = some (.string yu) ∧ W.cell? ⟨b2, o2 + k * 2 + 1, none⟩ = some (.string yb)) from fun W b => ⟨(b.cell (p := ⟨b1, o1 + k * 2, none⟩) l1).trans c1, (b.cell (p := ⟨b1, o1 + k * 2 + 1, none⟩) l1).trans c2, (b.cell (p := ⟨b2, o2 + k * 2, none⟩) l2).trans d1, (b.cell (p := ⟨b2, o2 + k * 2 + 1, none⟩) l2).trans d2⟩)
        clear c1 c2 d1 d2
        obtain ⟨w4, hw4⟩ : ∃ y, y = wr.drew := ⟨_, rfl⟩
        have B4 : Hid (Below w.heap.size w w4) := (show Below w.heap.size w w4 by rw [hw4]; exact B.out.2.trans (below_drewN 1))
        have Q4 := (show Hid _ from HQ.out _ B4.out)
        rw [hw4] at Q4
        go_wp2_with fail
        go_region_held3 (fun w' => w'.cell? ⟨b1, o1 + k * 2, none⟩ = some (.string xu) ∧ w'.cell? ⟨b1, o1 + k * 2 + 1, none⟩ = some (.string xb) ∧ w'.cell? ⟨b2, o2 + k * 2, none⟩ = some (.string yu) ∧ w'.cell? ⟨b2, o2 + k * 2 + 1, none⟩ = some (.string yb)) (first | exact Q4.out) (fail)
        rw [← hw4]
        clear hw4 Q4
        by_cases he : (xu, xb) = (yu, yb)
        · rw [show pairNe xu xb yu yb = false by unfold pairNe; rw [decide_eq_true he]; rfl]
          have HE := (show Hid _ from TE.out he)
          clear he
          go_wp2
          go_roundw
          case rel => exact ⟨k + 1, by omega, by go_num, HE.out, B4.out⟩
          case measure => simp [intOf]; omega
        · rw [show pairNe xu xb yu yb = true by unfold pairNe; rw [decide_eq_false he]; rfl]
          have HE := (show Hid _ from TN.out he)
          clear he
          go_wp2
          go_ret
          exact ⟨ret_bool (by rw [decide_eq_false HE.out]), B4.out⟩
      · have e : ps = qs := by
          have h1 := B.out.1
          have hk' : k = ps.length := by omega
          rw [hk', List.take_length, HLn.out, List.take_length] at h1
          exact h1
        have HE := (show Hid _ from e)
        clear e
        go_wp2
        go_ret
        exact ⟨ret_bool (by rw [decide_eq_true HE.out]), B.out.2⟩
  · have HE : Hid (ps ≠ qs) := fun e => hl (by rw [e])
    have hl' : ((ps.length : Int) != (qs.length : Int)) = true := by simp; omega
    go_enter Tryz.func30, Tryz.ntmps30
    go_wp2
    go_ret
    exact ⟨ret_bool (by rw [decide_eq_false HE.out]), Below.refl _ _⟩

set_option maxHeartbeats 1000000 in
set_option maxRecDepth 100000 in
theorem iequal_any {a b : Value} {ps qs : List (ByteArray × ByteArray)} {w : World} (h1 : Sv 2 w a (pairCells ps)) (h2 : Sv 2 w b (pairCells qs)) (hn : ps.length ≤ 1099511627776) (hm : qs.length ≤ 1099511627776) :
    Calls Tryz.prog 67 #[a, b] w fun e w' => e = .returned (.bool (decide (ps = qs))) ∧ Below w.heap.size w w' := by
  obtain ⟨aa, ac, rfl, _, _, hca⟩ := h1.pair
  obtain ⟨ba, bc, rfl, _, _, hcb⟩ := h2.pair
  have HA := (show Hid _ from hca)
  have HBc := (show Hid _ from hcb)
  clear h1 h2 hca hcb
  by_cases hl : ps.length = qs.length
  · have HLn := (show Hid (ps.length = qs.length) from hl)
    rw [← hl]
    clear hm hl
    have hne := ent_neq2
    go_enter Tryz.func67, Tryz.ntmps67
    go_wp2_with fail
    go_loopw [13] (fun i wr => ∃ k : Nat, k ≤ ps.length ∧ i = .int .i64 k ∧ Hid (ps.take k = qs.take k ∧ Below w.heap.size w wr)) (fun i _ => ps.length - (intOf i).toNat)
    case atStart => exact ⟨0, Nat.zero_le _, rfl, rfl, Below.refl _ _⟩
    case round =>
      obtain ⟨k, hk, rfl, B⟩ := hrel
      by_cases hlt : k < ps.length
      · have hlq : k < qs.length := by have := HLn.out; omega
        obtain ⟨b1, o1, rfl, l1, c1, c2⟩ := HA.out k hlt
        obtain ⟨b2, o2, rfl, l2, d1, d2⟩ := HBc.out k hlq
        have TN := (show Hid (ps[k] ≠ qs[k] → ps ≠ qs) from take_ne hlt hlq)
        have TE := (show Hid (ps[k] = qs[k] → ps.take (k + 1) = qs.take (k + 1)) from fun e => take_eq hlt hlq e B.out.1)
        obtain ⟨x, hx⟩ : ∃ x, x = ps[k] := ⟨_, rfl⟩
        obtain ⟨y, hy⟩ : ∃ y, y = qs[k] := ⟨_, rfl⟩
        rw [← hx] at c1 c2 TN TE
        rw [← hy] at d1 d2 TN TE
        clear hx hy hlq
        obtain ⟨xu, xb⟩ := x
        obtain ⟨yu, yb⟩ := y
        simp only at c1 c2 d1 d2
        have HQ := (show Hid (∀ W, Below w.heap.size w W → W.cell? ⟨b1, o1 + k * 2, none⟩ = some (.string xu) ∧ W.cell? ⟨b1, o1 + k * 2 + 1, none⟩ = some (.string xb) ∧ W.cell? ⟨b2, o2 + k * 2, none⟩ = some (.string yu) ∧ W.cell? ⟨b2, o2 + k * 2 + 1, none⟩ = some (.string yb)) from fun W b => ⟨(b.cell (p := ⟨b1, o1 + k * 2, none⟩) l1).trans c1, (b.cell (p := ⟨b1, o1 + k * 2 + 1, none⟩) l1).trans c2, (b.cell (p := ⟨b2, o2 + k * 2, none⟩) l2).trans d1, (b.cell (p := ⟨b2, o2 + k * 2 + 1, none⟩) l2).trans d2⟩)
        clear c1 c2 d1 d2
        obtain ⟨w4, hw4⟩ : ∃ y, y = wr.drew := ⟨_, rfl⟩
        have B4 : Hid (Below w.heap.size w w4) := (show Below w.heap.size w w4 by rw [hw4]; exact B.out.2.trans (below_drewN 1))
        have Q4 := (show Hid _ from HQ.out _ B4.out)
        rw [hw4] at Q4
        go_wp2_with fail
        go_region_held3 (fun w' => w'.cell? ⟨b1, o1 + k * 2, none⟩ = some (.string xu) ∧ w'.cell? ⟨b1, o1 + k * 2 + 1, none⟩ = some (.string xb) ∧ w'.cell? ⟨b2, o2 + k * 2, none⟩ = some (.string yu) ∧ w'.cell? ⟨b2, o2 + k * 2 + 1, none⟩ = some (.string yb)) (first | exact Q4.out) (fail)
        rw [← hw4]
        clear hw4 Q4
        by_cases he : (xu, xb) = (yu, yb)
        · rw [show pairNe xu xb yu yb = false by unfold pairNe; rw [decide_eq_true he]; rfl]
          have HE := (show Hid _ from TE.out he)
          clear he
          go_wp2
          go_roundw
          case rel => exact ⟨k + 1, by omega, by go_num, HE.out, B4.out⟩
          case measure => simp [intOf]; omega
        · rw [show pairNe xu xb yu yb = true by unfold pairNe; rw [decide_eq_false he]; rfl]
          have HE := (show Hid _ from TN.out he)
          clear he
          go_wp2
          go_ret
          exact ⟨ret_bool (by rw [decide_eq_false HE.out]), B4.out⟩
      · have e : ps = qs := by
          have h1 := B.out.1
          have hk' : k = ps.length := by omega
          rw [hk', List.take_length, HLn.out, List.take_length] at h1
          exact h1
        have HE := (show Hid _ from e)
        clear e
        go_wp2
        go_ret
        exact ⟨ret_bool (by rw [decide_eq_true HE.out]), B.out.2⟩
  · have HE : Hid (ps ≠ qs) := fun e => hl (by rw [e])
    have hl' : ((ps.length : Int) != (qs.length : Int)) = true := by simp; omega
    go_enter Tryz.func67, Tryz.ntmps67
    go_wp2
    go_ret
    exact ⟨ret_bool (by rw [decide_eq_false HE.out]), Below.refl _ _⟩
end Go.Proofs.YtokkigfjabbdaaaGreatDoor
