/- The contracts of the draws of chapter 3: some number; some list of points with a place in it. -/
import Derived.Test.YtaanfeahojfadaaGreatDoorDraw3
import Derived.Test.YtaanfeahojfadaaGreatDoorDrawS
namespace Go.Proofs.YtaanfeahojfadaaGreatDoor
open Go.RowKit
set_option maxRecDepth 100000
set_option linter.unusedVariables false

set_option maxHeartbeats 1000000 in
set_option maxRecDepth 100000 in
theorem drawRef_any {w0 : World} {g : Nat} {v : Value} {xs : List Int} {w : World} (h : Cur w0 g v xs w) (hb : ∀ x ∈ xs, 0 ≤ x ∧ x ≤ 255) :
    Calls Tryz.prog 40 #[.pointer (some ⟨g, 0, none⟩)] w fun e w' => ∃ s : ByteArray, e = .returned (.string s) ∧ s.size ≤ 100 ∧ Cur w0 g v xs w' ∧ w.grownBy w' (some g) := by
  have HB : Hid (∀ x ∈ xs, 0 ≤ x ∧ x ≤ 255) := hb
  clear hb
  go_enter Tryz.func40, Tryz.ntmps40
  go_wp2_with fail
  go_at_call 41
  refine (pickS_any h HB.out [⟨#[38, 97, 109, 112, 59]⟩, ⟨#[38, 97, 109, 112]⟩, ⟨#[38, 97, 109, 112, 120]⟩, ⟨#[38, 108, 116, 61]⟩, ⟨#[38, 110, 111, 116, 105, 110, 59]⟩, ⟨#[38, 110, 111, 116, 105, 116]⟩, ⟨#[38, 110, 111, 116]⟩, ⟨#[38, 35, 54, 53, 59]⟩, ⟨#[38, 35, 120, 52, 49]⟩, ⟨#[38, 35, 88, 52, 97, 59]⟩, ⟨#[38, 35, 59]⟩, ⟨#[38, 35, 120, 59]⟩, ⟨#[38, 35, 49, 50, 56, 59]⟩, ⟨#[38, 35, 48, 59]⟩, ⟨#[38, 35, 120, 70, 70, 70, 70, 70, 70, 70, 70, 59]⟩, ⟨#[38, 35, 48, 48, 48, 48, 48, 48, 48, 48, 48, 54, 53, 59]⟩, ⟨#[38]⟩, ⟨#[38, 120, 59]⟩, ⟨#[38, 99, 111, 112, 121, 57]⟩, ⟨#[38, 115, 117, 112, 49, 59]⟩, ⟨#[38, 102, 114, 97, 99, 49, 50]⟩, ⟨#[38, 104, 101, 108, 108, 105, 112, 59]⟩, ⟨#[38, 35, 53, 53, 50, 57, 54, 59]⟩, ⟨#[38, 35, 49, 50, 51, 52, 53, 54, 55, 56, 59]⟩] (by simp) (by simp) _ rfl 24 rfl).mono ?_
  rintro e w1 ⟨t, rfl, ht, k1, g1⟩
  have hts : t.size ≤ 20 := by
    have : ∀ t ∈ ([⟨#[38, 97, 109, 112, 59]⟩, ⟨#[38, 97, 109, 112]⟩, ⟨#[38, 97, 109, 112, 120]⟩, ⟨#[38, 108, 116, 61]⟩, ⟨#[38, 110, 111, 116, 105, 110, 59]⟩, ⟨#[38, 110, 111, 116, 105, 116]⟩, ⟨#[38, 110, 111, 116]⟩, ⟨#[38, 35, 54, 53, 59]⟩, ⟨#[38, 35, 120, 52, 49]⟩, ⟨#[38, 35, 88, 52, 97, 59]⟩, ⟨#[38, 35, 59]⟩, ⟨#[38, 35, 120, 59]⟩, ⟨#[38, 35, 49, 50, 56, 59]⟩, ⟨#[38, 35, 48, 59]⟩, ⟨#[38, 35, 120, 70, 70, 70, 70, 70, 70, 70, 70, 59]⟩, ⟨#[38, 35, 48, 48, 48, 48, 48, 48, 48, 48, 48, 54, 53, 59]⟩, ⟨#[38]⟩, ⟨#[38, 120, 59]⟩, ⟨#[38, 99, 111, 112, 121, 57]⟩, ⟨#[38, 115, 117, 112, 49, 59]⟩, ⟨#[38, 102, 114, 97, 99, 49, 50]⟩, ⟨#[38, 104, 101, 108, 108, 105, 112, 59]⟩, ⟨#[38, 35, 53, 53, 50, 57, 54, 59]⟩, ⟨#[38, 35, 49, 50, 51, 52, 53, 54, 55, 56, 59]⟩] : List ByteArray), t.size ≤ 20 := by decide
    exact this t ht
  clear ht
  go_wp2
  go_ret
  exact ⟨t, rfl, by omega, k1, g1⟩

theorem l3Points_any (s : ByteArray) (w : World) (hs : s.size ≤ 1000000) : Calls Tryz.prog 20 #[.string s] w fun e w' => ∃ v zs, e = .returned v ∧ Own w.heap.size 3 .i64 w' v zs ∧ zs.length ≤ s.size ∧ Below w.heap.size w w' := by
  obtain ⟨cap, w1, hc, hk, hcap, hm, hb⟩ := conv_str s w (by unfold maxLen; omega)
  have hl := bs_len s
  have hsl := hk.sl (n := s.size) (cap := cap) (by omega) (by omega) hm
  have hu := l1Read_any hsl (bs_byte s) (by omega)
  have hd : (dec (bs s)).length ≤ s.size := by have := dec_len _ (bs s) (Nat.le_refl _); omega
  clear hk
  go_enter Tryz.func20, Tryz.ntmps20
  go_wp2_with fail
  go_at_call 39
  refine hu.mono ?_
  rintro e w2 ⟨v2, rfl, o2, b2⟩
  go_wp2
  go_ret
  exact ⟨_, _, rfl, o2.base hb.size, hd, hb.trans (b2.mono hb.size)⟩
end Go.Proofs.YtaanfeahojfadaaGreatDoor
