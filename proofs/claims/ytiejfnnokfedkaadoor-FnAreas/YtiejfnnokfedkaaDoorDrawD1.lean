/- The draws of chapter 15: a text of a sector, a place. No condition. -/
import Derived.Test.YtiejfnnokfedkaaDoorB13
namespace Go.Proofs.YtiejfnnokfedkaaDoor
open Go.RowKit
set_option maxRecDepth 100000
set_option linter.unusedVariables false

theorem Blk.kept {K : IntKind} {t : TypeId} {w w' : World} {b : Nat} {zs : List Int} {row : Option Nat} (h : Blk K t w b zs) (hg : w.grownBy w' row) (hne : some b ≠ row) : Blk K t w' b zs := by
  have hlt := h.lt
  obtain ⟨cur, lo, hi, hh, r⟩ := h
  exact ⟨cur, lo, hi, (hg.block b hlt hne).trans hh, r⟩
/-- While a text is drawn: the block gb has 64 bytes. -/
def TextI (w0 w : World) (g : Nat) (v : Value) (xs : List Int) (gb : Nat) (W : World) : Prop := ∃ zs : List Int, zs.length = 64 ∧ Blk .u8 5 W gb zs ∧ Cur w0 g v xs W ∧ w.grownBy W (some g)

set_option maxHeartbeats 1000000 in
set_option maxRecDepth 100000 in
theorem drawText15_any {w0 : World} {g : Nat} {v : Value} {xs : List Int} {w : World} (h : Cur w0 g v xs w) (hb : ∀ x ∈ xs, 0 ≤ x ∧ x ≤ 255) :
    Calls Tryd.prog 89 #[.pointer (some ⟨g, 0, none⟩)] w fun e w' => ∃ s : ByteArray, e = .returned (.string s) ∧ s.size = 64 ∧ Cur w0 g v xs w' ∧ w.grownBy w' (some g) := by
  have HB : Hid (∀ x ∈ xs, 0 ≤ x ∧ x ≤ 255) := hb
  have hgl := h.lt
  clear hb
  go_enter Tryd.func89, Tryd.ntmps89
  go_wp2_with fail
  go_at_call 87
  refine (sl15Zeros_any w).mono ?_
  rintro e w1 ⟨rfl, b1⟩
  have hz64 := zeros64_size
  obtain ⟨cap, w2, hcv, hbk, hc1, hc2, b2⟩ := conv_str zeros64 w1 (by rw [zeros64_size]; unfold maxLen; omega)
  rw [hz64] at hcv hc1
  have hbl : (bs zeros64).length = 64 := by rw [bs_len, hz64]
  have I0 : Hid (TextI w0 w g v xs w1.heap.size w2) := ⟨_, hbl, hbk, (h.below b1).below b2, ⟨b2.os.trans b1.os, b2.tape.trans b1.tape, b2.output.trans b1.output, Nat.le_trans b1.size b2.size, fun k hk _ => (b2.block k (Nat.lt_of_lt_of_le hk b1.size)).trans (b1.block k hk)⟩⟩
  have hgne : g ≠ w1.heap.size := by have := b1.size; omega
  have hwle : w.heap.size ≤ w1.heap.size := b1.size
  obtain ⟨z, hz⟩ : ∃ z, z = zeros64 := ⟨_, rfl⟩
  rw [← hz] at hcv ⊢
  clear hbk b2 hbl hz64 hz b1
  go_wp2
  clear hcv
  go_loopw [4] (fun i wr => ∃ k : Nat, k ≤ 5 ∧ i = .int .i64 k ∧ TextI w0 w g v xs w1.heap.size wr) (fun i _ => 5 - (intOf i).toNat)
  case atStart => exact ⟨0, by decide, rfl, I0.out⟩
  case round =>
    clear I0
    obtain ⟨k, hk, rfl, zs, hzl, hbk, kc, kg⟩ := hrel
    have HZ := (show Hid (Blk .u8 5 wr w1.heap.size zs ∧ w.grownBy wr (some g)) from ⟨hbk, kg⟩)
    clear hbk kg
    go_wp2_with fail
    go_at_call 45
    refine (below_any 5 (by omega) kc HB.out).mono ?_
    rintro e w3 ⟨x, rfl, x0, x1, _, k3, g3⟩
    replace x1 := x1 (by omega)
    have HZ3 := (show Hid (Blk .u8 5 w3 w1.heap.size zs ∧ w.grownBy w3 (some g)) from ⟨HZ.out.1.kept g3 (by simp; omega), grown_trans HZ.out.2 g3⟩)
    clear HZ g3 kc
    by_cases hlt : (k : Int) < x
    · go_wp2_with fail
      go_at_call 45
      refine (below_any 64 (by omega) k3 HB.out).mono ?_
      rintro e w4 ⟨y, rfl, y0, y1, _, k4, g4⟩
      replace y1 := y1 (by omega)
      obtain ⟨m, rfl⟩ := Int.eq_ofNat_of_zero_le y0
      have HZ4 := (show Hid (Blk .u8 5 w4 w1.heap.size zs ∧ w.grownBy w4 (some g)) from ⟨HZ3.out.1.kept g4 (by simp; omega), grown_trans HZ3.out.2 g4⟩)
      clear HZ3 g4 k3
      go_wp2_with fail
      go_at_call 76
      refine (byte_any k4 HB.out).mono ?_
      rintro e w5 ⟨q, rfl, q0, q1, k5, g5⟩
      have hb5 := HZ4.out.1.kept g5 (by simp; omega)
      have hc5 := hb5.cell m (by omega)
      have hf5 := hb5.frozen m (by omega)
      have hw : IntKind.u8.wrap q = q := by simp only [IntKind.wrap, IntKind.bits, IntKind.signed]; simp; omega
      have HS := (show Hid (Blk .u8 5 (w5.setCell ⟨w1.heap.size, m, none⟩ (.int .u8 q)) w1.heap.size (zs.set m q) ∧ Cur w0 g v xs (w5.setCell ⟨w1.heap.size, m, none⟩ (.int .u8 q)) ∧ w.grownBy (w5.setCell ⟨w1.heap.size, m, none⟩ (.int .u8 q)) (some g)) from
        ⟨hb5.set m (by omega) q, k5.kept (grown_setCell _ _ _ _) (by simp; omega) (fun r e => by cases e; have := k5.1; omega), grown_past (grown_trans HZ4.out.2 g5) (grown_setCell _ _ _ _) (fun r e => by cases e; exact hwle)⟩)
      clear HZ4 g5 k4 k5 hb5
      go_wp2
      go_roundw
      case rel => exact ⟨k + 1, by omega, by go_num, zs.set m q, by rw [List.length_set]; exact hzl, HS.out.1, HS.out.2.1, HS.out.2.2⟩
      case measure => simp [intOf]; omega
    · have hcv := conv_sl (HZ3.out.1.sl (n := 64) (cap := cap) hzl.symm (by omega) hc2)
      have hss := strOf_size zs
      obtain ⟨t, ht⟩ : ∃ t, t = strOf zs := ⟨_, rfl⟩
      rw [← ht] at hcv hss
      clear ht
      go_wp2
      go_ret
      exact ⟨t, rfl, by omega, k3, HZ3.out.2⟩
end Go.Proofs.YtiejfnnokfedkaaDoor
