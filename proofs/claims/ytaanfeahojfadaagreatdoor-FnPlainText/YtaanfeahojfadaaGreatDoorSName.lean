/- Contracts of the specification's NameOk, at every string of at most 2^40 bytes. -/
import Derived.Test.YtaanfeahojfadaaGreatDoorName
namespace Go.Proofs.YtaanfeahojfadaaGreatDoor
open Go.RowKit
set_option maxRecDepth 100000
set_option linter.unusedVariables false

theorem l1Ok_any (s : ByteArray) (w : World) (hs : s.size ≤ 1099511627776) : Calls Tryz.prog 140 #[.string s] w fun e w' => e = .returned (.bool (utfOk (bs s))) ∧ Below w.heap.size w w' := by
  obtain ⟨cap, w1, hc, hk, hcap, hm, hb⟩ := conv_str s w (by unfold maxLen; omega)
  have hl := bs_len s
  have hsl := hk.sl (n := s.size) (cap := cap) (by omega) (by omega) hm
  have hu := sutfOk_any hsl (bs_byte s) (by omega)
  clear hk
  go_enter Tryz.func140, Tryz.ntmps140
  go_wp2_with fail
  go_at_call 152
  refine hu.mono ?_
  rintro e w2 ⟨rfl, b2⟩
  go_wp2
  go_ret
  exact ⟨rfl, hb.trans (b2.mono hb.size)⟩

theorem isBar_iff (x : Int) : isBar x = true ↔ x = 0 ∨ x = 47 ∨ x = 62 := by simp [isBar, or_assoc]

end Go.Proofs.YtaanfeahojfadaaGreatDoor
