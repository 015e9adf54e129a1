/- Contracts of PutText, the program's and the specification's, at every string of at most 2^40 bytes. -/
import Derived.Test.YtiejfnnokfedkaaAppStr
import Derived.Test.YtiejfnnokfedkaaIPutNum
namespace Go.Proofs.Ytiejfnnokfedkaa
open Go.RowKit
set_option maxRecDepth 100000
set_option linter.unusedVariables false

/-- What PutText answers. -/
def textForm (s : ByteArray) : List Int := form s.size ++ bs s
theorem textForm_len (s : ByteArray) : (textForm s).length ≤ 9 + s.size := by
  have := form_len s.size
  simp [textForm, bs_len]; omega
theorem form_ne (n : Nat) : form n ≠ [] := by
  have h := (nf_len 8 n).1
  unfold form
  rw [if_neg (by omega)]
  intro e
  rw [e] at h
  simp at h

end Go.Proofs.Ytiejfnnokfedkaa
