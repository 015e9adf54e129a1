/- The contract of the program's AttrAdd. -/
import Derived.Test.YtaanfeahojfadaaGreatDoorIAttr4
namespace Go.Proofs.YtaanfeahojfadaaGreatDoor
open Go.RowKit
set_option maxRecDepth 100000
set_option linter.unusedVariables false

theorem one_pair (w : World) (n v : ByteArray) : Sv 2 (w.alloc (.cells #[.string n, .string v] 81)) (.slice (some ⟨w.heap.size, 0, none⟩) 1 1) (pairCells [(n, v)]) := by
  refine ⟨some ⟨w.heap.size, 0, none⟩, 1, 1, rfl, rfl, Nat.le_refl _, by unfold maxLen; omega, (fun e => by cases e), fun i hi => ⟨w.heap.size, 0, rfl, ?_⟩⟩
  have hi2 : i < 2 := hi
  have hb := heap_alloc_new w (.cells #[.string n, .string v] 81)
  rcases (show i = 0 ∨ i = 1 by omega) with rfl | rfl
  · simp only [World.cell?, hb]; rfl
  · simp only [World.cell?, hb]; rfl

set_option maxHeartbeats 2000000 in
set_option maxRecDepth 100000 in
theorem attrAddOk : AttrAddOk := by
  intro v rs p w h hs hp1 hp2
  obtain ⟨pn, pv⟩ := p
  simp only at hp1 hp2
  have HS := (show Hid (Sv 2 w v (pairCells rs)) from h)
  have hlen := hs.1
  obtain ⟨a, ca, rfl, _, _, _⟩ := h.pair
  clear h
  obtain ⟨wx, hwx⟩ : ∃ wx, wx = w.alloc (.cells #[.string pn, .string pv] 81) := ⟨_, rfl⟩
  have bx : Below w.heap.size w wx := by rw [hwx]; exact (Below.refl _ _).alloc (Nat.le_refl _) _
  have hsx : wx.heap.size = w.heap.size + 1 := by rw [hwx]; simp
  have hxb : wx.heap[w.heap.size]? = some (.cells #[.string pn, .string pv] 81 (0, 0)) := by rw [hwx]; exact heap_alloc_new _ _
  have co := iattrOf_any (HS.out.below bx) pn (by omega)
  have CK := (show Hid (∀ w, Calls Tryz.prog 61 #[.agg #[.string pn, .string pv]] w fun e w' => e = .returned (.bool (attrOk (pn, pv))) ∧ Below w.heap.size w w') from fun w => iattrOk_any pn pv w hp1 hp2)
  obtain ⟨q, hq⟩ : ∃ q, q = attrOf rs pn := ⟨_, rfl⟩
  rw [← hq] at co
  obtain ⟨r, hr⟩ : ∃ r, r = attrOk (pn, pv) := ⟨_, rfl⟩
  rw [← hr] at CK
  have HA : Hid (attrAdd rs (pn, pv) = if q.2 || decide (20 ≤ rs.length) || !r then rs else rs ++ [(pn, pv)]) := by show _ = _; unfold attrAdd; rw [hq, hr]
  obtain ⟨qv, qb⟩ := q
  simp only at co HA
  have HXB := (show Hid _ from hxb)
  have HSX := (show Hid _ from hsx)
  have BX := (show Hid _ from bx)
  clear hq hr hxb hsx bx
  subst hwx
  have nilS : ∀ w : World, Sv 2 w (.slice none 0 0) [] := fun w => ⟨none, 0, 0, rfl, rfl, Nat.le_refl _, Nat.zero_le _, fun _ => rfl, fun i hi => absurd hi (by simp)⟩
  have NS := (show Hid _ from nilS)
  clear nilS
  have fin : ∀ (w3 w4 : World) (v' : Value) (n : Nat) (cs : List Value), Below w.heap.size w w3 → w4.ownsRow w3.heap.size 81 2 v' n cs → Below w3.heap.size w3 w4 → w4.ownsRow w.heap.size 81 2 v' n cs ∧ Below w.heap.size w w4 := fun w3 w4 v' n cs h1 h2 h3 => ⟨row_base h2 h1.size, h1.trans (h3.mono h1.size)⟩
  have FIN := (show Hid _ from fin)
  clear fin
  go_enter Tryz.func137, Tryz.ntmps137
  go_wp2_with fail
  go_at_call 60
  refine co.mono ?_
  rintro e w2 ⟨rfl, b2⟩
  have hx2 := (b2.block w.heap.size (by have := HSX.out; omega)).trans HXB.out
  have x0 : w2.cell? ⟨w.heap.size, 0, none⟩ = some (.string pn) := by simp [World.cell?, hx2]
  have x1 : w2.cell? ⟨w.heap.size, 1, none⟩ = some (.string pv) := by simp [World.cell?, hx2]
  replace b2 := BX.out.trans (b2.mono BX.out.size)
  have HX2 := (show Hid _ from hx2)
  clear co hx2
  cases qb
  · by_cases h20 : 20 ≤ rs.length
    · have HA2 : Hid (attrAdd rs (pn, pv) = rs) := HA.out.trans (if_pos (by simp [h20]))
      go_wp2_with fail
      go_at_call 148
      refine (with_none (HS.out.below b2) (NS.out _) hlen).mono ?_
      rintro e w3 ⟨v3, rfl, o3, b3⟩
      go_wp2
      go_ret
      refine ⟨_, rfl, ?_⟩
      rw [HA2.out]
      exact FIN.out _ _ _ _ _ b2 o3 b3
    · have h20' : rs.length < 20 := by omega
      go_wp2_with fail
      go_at_call 61
      refine (CK.out _).mono ?_
      rintro e w3 ⟨rfl, b3⟩
      have hx3 := (b3.block w.heap.size (lt_of_block HX2.out)).trans HX2.out
      have y0 : w3.cell? ⟨w.heap.size, 0, none⟩ = some (.string pn) := by simp [World.cell?, hx3]
      have y1 : w3.cell? ⟨w.heap.size, 1, none⟩ = some (.string pv) := by simp [World.cell?, hx3]
      replace b3 := b2.trans (b3.mono b2.size)
      clear hx3
      cases r
      · have HA2 : Hid (attrAdd rs (pn, pv) = rs) := HA.out.trans (if_pos (by simp))
        go_wp2_with fail
        go_at_call 148
        refine (with_none (HS.out.below b3) (NS.out _) hlen).mono ?_
        rintro e w4 ⟨v4, rfl, o4, b4⟩
        go_wp2
        go_ret
        refine ⟨_, rfl, ?_⟩
        rw [HA2.out]
        exact FIN.out _ _ _ _ _ b3 o4 b4
      · have HA2 : Hid (attrAdd rs (pn, pv) = rs ++ [(pn, pv)]) := HA.out.trans (if_neg (by simp; omega))
        have b4 := b3.alloc b3.size (.cells #[.string pn, .string pv] 81)
        go_wp2_with fail
        go_at_call 148
        refine (with_some (HS.out.below b4) (one_pair w3 pn pv) hlen (by simp) (by simp)).mono ?_
        rintro e w4 ⟨v4, rfl, o4, b5⟩
        go_wp2
        go_ret
        refine ⟨_, rfl, ?_⟩
        rw [HA2.out]
        exact FIN.out _ _ _ _ _ b4 o4 b5
  · have HA2 : Hid (attrAdd rs (pn, pv) = rs) := HA.out.trans (if_pos (by simp))
    go_wp2_with fail
    go_at_call 148
    refine (with_none (HS.out.below b2) (NS.out _) hlen).mono ?_
    rintro e w3 ⟨v3, rfl, o3, b3⟩
    go_wp2
    go_ret
    refine ⟨_, rfl, ?_⟩
    rw [HA2.out]
    exact FIN.out _ _ _ _ _ b2 o3 b3
end Go.Proofs.YtaanfeahojfadaaGreatDoor
