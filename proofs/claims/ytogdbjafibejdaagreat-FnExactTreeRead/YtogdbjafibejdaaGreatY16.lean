/- Escape, plain: what stands for each sign, byte by byte and rune by rune. -/
import Derived.Test.YtogdbjafibejdaaGreatY13
import Derived.Lib.TrimUEq
import Derived.Lib.Strings
import Derived.Lib.Small
import Derived.Test.YtogdbjafibejdaaGreatY14
namespace Go.Proofs.YtogdbjafibejdaaGreat
open Go.RowKit
set_option maxRecDepth 100000
set_option linter.unusedVariables false
end Go.Proofs.YtogdbjafibejdaaGreat

/- A name in a list of strings that is written out: the specification's l7Find and l8In. -/
namespace Go.Proofs.YtogdbjafibejdaaGreat
open Go.RowKit
set_option maxRecDepth 100000
set_option linter.unusedVariables false

theorem toList_no {a b : ByteArray} (h : a ≠ b) : (a.toList == b.toList) = false := by
  rw [beq_eq_false_iff_ne]
  exact fun e => h ((toList_eq_iff a b).mp e)

def hasB (ts : List ByteArray) (s : ByteArray) : Bool := ts.any fun t => s.toList == t.toList
def Txt (w : World) (g : Nat) (ts : List ByteArray) : Prop := ∀ k (hk : k < ts.length), w.cell? ⟨g, k, none⟩ = some (.string ts[k])

end Go.Proofs.YtogdbjafibejdaaGreat

/- The contract of the laws' marks of texts: the text for a number hangs on the number alone. -/
namespace Go.Proofs.YtogdbjafibejdaaGreat
open Go.RowKit
set_option maxRecDepth 100000
set_option linter.unusedVariables false

def mtF : Nat → Nat → ByteArray → ByteArray
  | 0, _, s => s
  | n + 1, k, s => if k = 0 then s else mtF n (k / 10) (strOf [48 + (k : Int) % 10] ++ s)
def mt (k : Int) : ByteArray := if k ≤ 0 then ⟨#[109, 48]⟩ else ⟨#[109]⟩ ++ mtF k.toNat k.toNat ⟨#[]⟩

theorem one_sl (w : World) (x : Int) : Sl .u8 (w.alloc (.cells #[.int .u8 x] 5)) (.slice (some ⟨w.heap.size, 0, none⟩) 1 1) [x] :=
  Own.sl (World.ownsRow_lit w #[.int .u8 x] 1 (Nat.le_refl _) (by unfold maxLen; omega) rfl : Own w.heap.size 5 .u8 _ _ [x])

theorem mtF_nought (n : Nat) (s : ByteArray) : mtF n 0 s = s := by
  cases n
  · rfl
  · unfold mtF; rw [if_pos rfl]

set_option maxHeartbeats 1000000 in
set_option maxRecDepth 100000 in
theorem markText_any (k0 : Int) (w : World) (hk : k0 ≤ 1099511627776) : Calls Tryz.prog 146 #[.int .i64 k0] w fun e w' => e = .returned (.string (mt k0)) ∧ Below w.heap.size w w' := by
  by_cases h0 : k0 ≤ 0
  · have hm : mt k0 = ⟨#[109, 48]⟩ := by unfold mt; rw [if_pos h0]
    rw [hm]
    go_enter Tryz.func146, Tryz.ntmps146
    go_wp2
    go_ret
    exact ⟨rfl, Below.refl _ _⟩
  · obtain ⟨k, rfl⟩ : ∃ k : Nat, k0 = k := ⟨k0.toNat, by omega⟩
    have hm : mt k = ⟨#[109]⟩ ++ mtF k k ⟨#[]⟩ := by unfold mt; rw [if_neg h0, Int.toNat_natCast]
    rw [hm]
    have HM := (show Hid _ from hm)
    clear hm
    go_enter Tryz.func146, Tryz.ntmps146
    go_wp2
    go_loopw [0, 3] (fun i u wr => ∃ (n j : Nat) (s : ByteArray), i = .int .i64 j ∧ u = .string s ∧ j ≤ n ∧ s.size + j ≤ k ∧ mtF n j s = mtF k k ⟨#[]⟩ ∧ Below w.heap.size w wr) (fun i _ _ => (intOf i).toNat)
    case atStart => exact ⟨k, k, ⟨#[]⟩, rfl, rfl, Nat.le_refl _, by show 0 + k ≤ k; omega, rfl, Below.refl _ _⟩
    case round =>
      obtain ⟨n, j, s, rfl, rfl, hj, hs, he, bel⟩ := hrel
      have HE := (show Hid (mtF n j s = mtF k k ⟨#[]⟩) from he)
      clear he
      by_cases hj0 : 0 < j
      · have hmod : 0 ≤ (j : Int) % 10 ∧ (j : Int) % 10 < 10 := ⟨Int.emod_nonneg _ (by decide), Int.emod_lt_of_pos _ (by decide)⟩
        have cv := conv_sl (one_sl wr (48 + (j : Int) % 10))
        have hz := strOf_size [48 + (j : Int) % 10]
        obtain ⟨t, ht⟩ : ∃ t, t = strOf [48 + (j : Int) % 10] := ⟨_, rfl⟩
        rw [← ht] at cv hz
        have HT := (show Hid (t = strOf [48 + (j : Int) % 10]) from ht)
        clear ht
        have hadd := run_string_add_sum (P := Tryz.prog) (wr.alloc (.cells #[.int .u8 (48 + (j : Int) % 10)] 5)) t s (by simp at hz; omega)
        go_wp2
        go_roundw
        case rel =>
          refine ⟨n - 1, j / 10, t ++ s, by go_num, rfl, by omega, ?_, ?_, bel.alloc bel.size _⟩
          · rw [add_size, hz]; simp; omega
          · rw [← HE.out, HT.out]
            obtain ⟨n, rfl⟩ : ∃ m, n = m + 1 := ⟨n - 1, by omega⟩
            rw [Nat.add_sub_cancel]
            conv => rhs; unfold mtF
            rw [if_neg (by omega)]
        case measure => simp [intOf]; omega
      · have hj1 : j = 0 := by omega
        subst hj1
        have he := HE.out
        rw [mtF_nought] at he
        have hadd := run_string_add_sum (P := Tryz.prog) wr ⟨#[109]⟩ s (by have : (⟨#[109]⟩ : ByteArray).size = 1 := rfl; omega)
        have HE2 := (show Hid _ from he)
        clear he HE
        go_wp2
        go_ret
        exact ⟨by rw [← HE2.out]; rfl, bel⟩
end Go.Proofs.YtogdbjafibejdaaGreat
