/- The draw of a list of records. No condition. -/
import Derived.Test.YtmpgbonolmmcpaaV27
import Derived.Test.YtmpgbonolmmcpaaV17
import Derived.Sort.OwnSorted
namespace Go.Proofs.Ytmpgbonolmmcpaa
open Go.RowKit
set_option maxRecDepth 100000
set_option linter.unusedVariables false

set_option maxHeartbeats 1000000 in
set_option maxRecDepth 100000 in
theorem drawRecs_any {w0 : World} {g : Nat} {v : Value} {xs : List Int} {w : World} (h : Cur w0 g v xs w) (hb : ∀ x ∈ xs, 0 ≤ x ∧ x ≤ 255) :
    Calls Try.prog 61 #[.pointer (some ⟨g, 0, none⟩)] w fun e w' => ∃ (u : Value) (qs : List PRec), e = .returned u ∧ OwnRs w.heap.size w' u qs ∧ qs.length ≤ 9 ∧ (∀ q ∈ qs, recD q) ∧ Cur w0 g v xs w' ∧ w.grownBy w' (some g) := by
  have HB : Hid (∀ x ∈ xs, 0 ≤ x ∧ x ≤ 255) := hb
  have hgl := h.lt
  have hw0 : w0.heap.size ≤ w.heap.size := h.2.2.1.size
  obtain ⟨i0, hi, hz0, hz1, hz2⟩ := info_parts Try.infoRec
  clear hb
  have o1 : OwnRs w.heap.size (w.alloc (.cells #[] 25)) (.slice (some ⟨w.heap.size, 0, none⟩) 0 0) [] := World.ownsRow_lit w #[] 0 (Nat.le_refl _) (Nat.zero_le _) rfl
  have k1 := h.below ((Below.refl _ _).alloc (Nat.le_refl _) (.cells #[] 25))
  have g1 := World.grownBy_alloc w (.cells #[] 25) (some g)
  go_enter Try.func61, Try.ntmps61
  go_wp2_with fail
  go_loopw [3, 4] (fun z i wr => ∃ (k : Nat) (qs : List PRec), i = .int .i64 k ∧ qs.length = k ∧ k ≤ 9 ∧ Hid (OwnRs w.heap.size wr z qs) ∧ Hid (∀ q ∈ qs, recD q) ∧ Cur w0 g v xs wr ∧ Hid (w.grownBy wr (some g))) (fun _ i _ => 9 - (intOf i).toNat)
  case atStart => exact ⟨0, [], rfl, rfl, by decide, o1, (show ∀ q ∈ ([] : List PRec), recD q from fun q hq => by cases hq), k1, g1⟩
  case round =>
    clear o1 k1 g1 h
    obtain ⟨k, qs, rfl, hl, hk, hO, hQ, hC, hG⟩ := hrel
    have hws := hG.out.size
    go_wp2_with fail
    go_at_call 74
    refine (below_any 9 (by omega) hC HB.out).mono ?_
    rintro e w2 ⟨x, rfl, x0, x9, _, k2, g2⟩
    replace x9 := x9 (by omega)
    have O2 := (show Hid (OwnRs w.heap.size w2 u3 qs) from World.ownsRow.kept hO.out g2 (Or.inr (row_ne_low hO.out hgl).symm))
    have G2 := (show Hid (w.grownBy w2 (some g)) from grown_trans hG.out g2)
    clear hC hO hG g2
    by_cases hlt : (k : Int) < x
    · go_wp2_with fail
      go_at_call 48
      refine (drawRec_any k2 HB.out).mono ?_
      rintro e w3 ⟨q, rfl, hq, k3, g3⟩
      have O3 := (show Hid (OwnRs w.heap.size w3 u3 qs) from World.ownsRow.kept O2.out g3 (Or.inr (row_ne_low O2.out hgl).symm))
      have G3 := (show Hid (w.grownBy w3 (some g)) from grown_trans G2.out g3)
      have hQ3 := (show Hid (∀ p ∈ qs ++ [q], recD p) from (show ∀ p ∈ qs ++ [q], recD p from fun p hp => by
        rcases List.mem_append.mp hp with hp | hp
        · exact hQ.out p hp
        · rw [List.mem_singleton.mp hp]; exact hq))
      clear O2 G2 g3 k2 hQ hq
      go_wp2_with (
        at_builtin
        refine wpList_appV _ rfl _ _ 32 rfl w.heap.size 25 i0 _ 3 40 Try.underlying32 hi hz0 hz1 hz2 rfl (by decide) u3 (.slice (some ⟨w3.heap.size, 0, none⟩) 1 1) qs.length 1 (recCells qs) (recCells [q]) rfl rfl (O3.out.alloc _) (sv_oneRec (World.alloc_heap_new _ _)) rfl (rec_oneCell _) (by omega) (by unfold maxLen; omega) (by rw [World.size_alloc]; have := G3.out.size; omega) ?_
        intro v4 w4 o4 g4)
      have K4 := (k3.below ((Below.refl _ _).alloc (Nat.le_refl _) _)).kept g4 (row_ne_low O3.out hgl).symm (fun j hj => Nat.le_trans hw0 (World.ownsRow.lt O3.out j hj).1)
      have G4 := (show Hid (w.grownBy w4 (some g)) from grown_past (grown_past G3.out (World.grownBy_alloc w3 _ none) (fun j hj => by cases hj)) g4 (fun j hj => (World.ownsRow.lt O3.out j hj).1))
      have O4 := (show Hid (OwnRs w.heap.size w4 v4 (qs ++ [q])) from by show World.ownsRow _ _ _ _ _ _ _; rw [List.length_append, recCells_app]; exact o4)
      clear o4 g4 O3 G3 k3
      go_wp2
      go_roundw
      case rel => exact ⟨k + 1, qs ++ [q], by go_num, by simp [hl], by omega, O4, hQ3, K4, G4⟩
      case measure => simp [intOf]; omega
    · go_wp2
      go_ret
      exact ⟨_, qs, rfl, O2.out, by omega, hQ.out, k2, G2.out⟩
end Go.Proofs.Ytmpgbonolmmcpaa
