/- IsVoid and IsRaw: both sides, at every string. -/
import Derived.Test.YthidakbjfblpfaaFind
namespace Go.Proofs.Ythidakbjfblpfaa
open Go.RowKit
set_option maxRecDepth 100000
set_option linter.unusedVariables false

def voids : List ByteArray := [⟨#[97, 114, 101, 97]⟩, ⟨#[98, 97, 115, 101]⟩, ⟨#[98, 114]⟩, ⟨#[101, 109, 98, 101, 100]⟩, ⟨#[104, 114]⟩, ⟨#[105, 109, 103]⟩, ⟨#[105, 110, 112, 117, 116]⟩, ⟨#[108, 105, 110, 107]⟩, ⟨#[109, 101, 116, 97]⟩, ⟨#[112, 97, 114, 97, 109]⟩, ⟨#[115, 111, 117, 114, 99, 101]⟩, ⟨#[116, 114, 97, 99, 107]⟩, ⟨#[119, 98, 114]⟩]
def raws : List ByteArray := [⟨#[105, 102, 114, 97, 109, 101]⟩, ⟨#[110, 111, 101, 109, 98, 101, 100]⟩, ⟨#[110, 111, 102, 114, 97, 109, 101, 115]⟩, ⟨#[112, 108, 97, 105, 110, 116, 101, 120, 116]⟩, ⟨#[115, 99, 114, 105, 112, 116]⟩, ⟨#[115, 116, 121, 108, 101]⟩, ⟨#[120, 109, 112]⟩]

set_option maxRecDepth 100000 in
theorem sisVoid_any (s : ByteArray) (w : World) :
    Calls Try.prog 16 #[.string s] w fun e w' => e = .returned (.bool (hasB voids s)) ∧ Below w.heap.size w w' := by
  go_enter Try.func16, Try.ntmps16
  go_wp2_with fail
  go_at_call 39
  refine (sin_any (ts := voids) (txt_alloc w _ voids _ rfl) s (by decide) rfl).mono ?_
  rintro e w1 ⟨rfl, rfl⟩
  go_wp2
  go_ret
  exact ⟨rfl, (Below.refl _ _).alloc (Nat.le_refl _) _⟩

set_option maxRecDepth 100000 in
theorem sisRaw_any (s : ByteArray) (w : World) :
    Calls Try.prog 18 #[.string s] w fun e w' => e = .returned (.bool (hasB raws s)) ∧ Below w.heap.size w w' := by
  go_enter Try.func18, Try.ntmps18
  go_wp2_with fail
  go_at_call 39
  refine (sin_any (ts := raws) (txt_alloc w _ raws _ rfl) s (by decide) rfl).mono ?_
  rintro e w1 ⟨rfl, rfl⟩
  go_wp2
  go_ret
  exact ⟨rfl, (Below.refl _ _).alloc (Nat.le_refl _) _⟩

theorem raws_any (s : ByteArray) : hasB raws s = (s.toList == [105, 102, 114, 97, 109, 101] || (s.toList == [110, 111, 101, 109, 98, 101, 100] || (s.toList == [110, 111, 102, 114, 97, 109, 101, 115] || (s.toList == [112, 108, 97, 105, 110, 116, 101, 120, 116] || (s.toList == [115, 99, 114, 105, 112, 116] || (s.toList == [115, 116, 121, 108, 101] || (s.toList == [120, 109, 112]))))))) := by
  simp only [hasB, raws, List.any_cons, List.any_nil, Bool.or_false, ByteArray.toList_eq]
theorem voids_any (s : ByteArray) : hasB voids s = (s.toList == [97, 114, 101, 97] || (s.toList == [98, 97, 115, 101] || (s.toList == [98, 114] || (s.toList == [101, 109, 98, 101, 100] || (s.toList == [104, 114] || (s.toList == [105, 109, 103] || (s.toList == [105, 110, 112, 117, 116] || (s.toList == [108, 105, 110, 107] || (s.toList == [109, 101, 116, 97] || (s.toList == [112, 97, 114, 97, 109] || (s.toList == [115, 111, 117, 114, 99, 101] || (s.toList == [116, 114, 97, 99, 107] || (s.toList == [119, 98, 114]))))))))))))) := by
  simp only [hasB, voids, List.any_cons, List.any_nil, Bool.or_false, ByteArray.toList_eq]

set_option maxRecDepth 100000 in
theorem iisRaw_any (s : ByteArray) (w : World) :
    Calls Try.prog 19 #[.string s] w fun e w' => e = .returned (.bool (hasB raws s)) ∧ w' = w := by
  rw [raws_any]
  go_enter Try.func19, Try.ntmps19
  go_wp2
  all_goals first | (exfalso; simp_all; done) | (go_ret; refine ⟨ret_bool ?_, rfl⟩; simp_all)

set_option maxRecDepth 100000 in
theorem iisVoid_any (s : ByteArray) (w : World) :
    Calls Try.prog 17 #[.string s] w fun e w' => e = .returned (.bool (hasB voids s)) ∧ w' = w := by
  rw [voids_any]
  go_enter Try.func17, Try.ntmps17
  go_wp2
  all_goals first | (exfalso; simp_all; done) | (go_ret; refine ⟨ret_bool ?_, rfl⟩; simp_all)
end Go.Proofs.Ythidakbjfblpfaa
