/- Contracts of PutText, the program's and the specification's, at every string of at most 2^40 bytes. -/
import Derived.Test.YtgcpdmnikoebkaaAppStr
import Derived.Test.YtgcpdmnikoebkaaIPutNum
namespace Go.Proofs.Ytgcpdmnikoebkaa
open Go.RowKit
set_option maxRecDepth 100000
set_option linter.unusedVariables false

/-- What PutText answers. -/
def textForm (s : ByteArray) : List Int := form s.size ++ bs s
theorem textForm_len (s : ByteArray) : (textForm s).length ≤ 9 + s.size := by
  have := form_len s.size
  simp [textForm, bs_len]; omega
theorem form_ne (n : Nat) : form n ≠ [] := by
  have h := (nf_len 8 n).1
  unfold form
  rw [if_neg (by omega)]
  intro e
  rw [e] at h
  simp at h

theorem iputText_any (s : ByteArray) (w : World) (hs : s.size ≤ 1099511627776) :
    Calls Try.prog 14 #[.string s] w fun e w' => ∃ v, e = .returned v ∧ Own w.heap.size 5 .u8 w' v (textForm s) ∧ Below w.heap.size w w' := by
  obtain ⟨i0, hi, hz0, hz1, hz2⟩ := info_parts Try.infoB
  have hl := form_len s.size
  go_enter Try.func14, Try.ntmps14
  go_wp2_with fail
  go_at_call 10
  refine (inum_any s.size _ (by omega)).mono ?_
  rintro e w1 ⟨v1, rfl, o1, b1⟩
  have hsz := b1.size
  go_wp2_with (at_builtin; refine wpList_app_str _ rfl _ _ 22 9 rfl w.heap.size 5 i0 (.int .u8 0) Try.underlying22 Try.underlying9 hi hz0 hz1 hz2 rfl _ s (form s.size) rfl rfl o1 (form_ne _) (by omega) hsz ?_; intro v' w3 o3 g3)
  go_ret
  exact ⟨_, rfl, o3, b1.grown g3 hsz o1.grownAt⟩

theorem sputText_any (s : ByteArray) (w : World) (hs : s.size ≤ 1099511627776) :
    Calls Try.prog 22 #[.string s] w fun e w' => ∃ v, e = .returned v ∧ Own w.heap.size 5 .u8 w' v (textForm s) ∧ Below w.heap.size w w' := by
  obtain ⟨i0, hi, hz0, hz1, hz2⟩ := info_parts Try.infoB
  have hl := form_len s.size
  have hbl := bs_len s
  go_enter Try.func22, Try.ntmps22
  go_wp2_with fail
  go_at_call 16
  refine (snum_any s.size _ (by omega)).mono ?_
  rintro e w1 ⟨v1, rfl, o1, b1⟩
  obtain ⟨cap, w2, hc, hk, hcap, hm, hb⟩ := conv_str s w1 (by unfold maxLen; omega)
  have o2 := o1.below hb
  have b2 := b1.trans (hb.mono b1.size)
  have hsz := b2.size
  have hsl := hk.sl (n := s.size) (cap := cap) (by omega) (by omega) hm
  go_wp2_with (at_builtin; refine wpList_app _ rfl _ _ 22 rfl w.heap.size 5 i0 (.int .u8 0) 1 Try.underlying22 hi hz0 hz1 hz2 rfl .u8 _ _ (form s.size) (bs s) rfl rfl o2 hsl (by omega) (by unfold maxLen; omega) hsz ?_; intro v' w3 o3 g3)
  go_ret
  exact ⟨_, rfl, o3, b2.grown g3 hsz o2.grownAt⟩
end Go.Proofs.Ytgcpdmnikoebkaa
