/- The contracts of the draws of strings: some string, of a bounded length. -/
import Derived.Test.YtogdbjafibejdaaGreatX2
import Derived.Test.YtogdbjafibejdaaGreatX8
import Derived.Laws.Concat
namespace Go.Proofs.YtogdbjafibejdaaGreat
open Go.RowKit
set_option maxRecDepth 100000
set_option linter.unusedVariables false

theorem grown_past {w w1 w2 : World} {g : Nat} {row : Option Nat} (h : w.grownBy w1 (some g)) (k : w1.grownBy w2 row) (hr : ∀ j, row = some j → w.heap.size ≤ j) : w.grownBy w2 (some g) :=
  ⟨k.os.trans h.os, k.tape.trans h.tape, k.output.trans h.output, Nat.le_trans h.size k.size, fun j hj hne => (k.block j (Nat.lt_of_lt_of_le hj h.size) (fun e => by have := hr j e.symm; omega)).trans (h.block j hj hne)⟩
theorem grown_below {w w1 w2 : World} {g : Nat} (h : w.grownBy w1 (some g)) (k : Below w1.heap.size w1 w2) : w.grownBy w2 (some g) :=
  ⟨k.os.trans h.os, k.tape.trans h.tape, k.output.trans h.output, Nat.le_trans h.size k.size, fun j hj hne => (k.block j (Nat.lt_of_lt_of_le hj h.size)).trans (h.block j hj hne)⟩

/-- One string of a list that is written out. -/
theorem pickS_any {w0 : World} {g : Nat} {v : Value} {xs : List Int} {w : World} (h : Cur w0 g v xs w) (hb : ∀ x ∈ xs, 0 ≤ x ∧ x ≤ 255) (ts : List ByteArray) (hz : 0 < ts.length) (hz2 : ts.length ≤ 1000) (cs : Array Value) (hcs : cs.toList = ts.map Value.string) (n : Nat) (hn : n = ts.length) :
    Calls Tryz.prog 66 #[.pointer (some ⟨g, 0, none⟩), .slice (some ⟨w.heap.size, 0, none⟩) n n] (w.alloc (.cells cs 9)) fun e w' => ∃ t, e = .returned (.string t) ∧ t ∈ ts ∧ Cur w0 g v xs w' ∧ w.grownBy w' (some g) := by
  have hlt := h.lt
  have h' := h.below ((Below.refl _ _).alloc (Nat.le_refl _) (.cells cs 9))
  have HC : Hid (∀ w1, (w.alloc (.cells cs 9)).grownBy w1 (some g) → ∀ k (hk : k < ts.length), w1.cell? ⟨w.heap.size, k, none⟩ = some (.string ts[k])) := by
    intro w1 hg k hk
    have e := hg.block w.heap.size (by simp) (fun e => by injection e with e; omega)
    have e2 : cs[k]? = some (.string ts[k]) := by
      have : cs.toList[k]? = some (.string ts[k]) := by rw [hcs]; simp [hk]
      simpa using this
    simp only [World.cell?, e, heap_alloc_new]
    simpa using e2
  have HB : Hid (∀ x ∈ xs, 0 ≤ x ∧ x ≤ 255) := hb
  clear hb hcs
  subst hn
  go_enter Tryz.func66, Tryz.ntmps66
  go_wp2_with fail
  go_at_call 68
  refine (below_any _ (by omega) h' HB.out).mono ?_
  rintro e w1 ⟨x, rfl, x0, x1, x2, k1, g1⟩
  replace x1 := x1 (by omega)
  clear x2
  obtain ⟨k, rfl⟩ : ∃ k : Nat, x = k := ⟨x.toNat, by omega⟩
  have hkl : k < ts.length := by omega
  have c1 := HC.out w1 g1 k hkl
  go_wp2
  go_ret
  exact ⟨_, rfl, List.getElem_mem hkl, k1, grown_trans (World.grownBy_alloc _ _ _) g1⟩

theorem add_size (a b : ByteArray) : (a ++ b).size = a.size + b.size := by simp

theorem strOf_size (zs : List Int) : (strOf zs).size = zs.length := by
  have e := congrArg List.length (strOf_list zs ByteArray.empty)
  have e0 : ByteArray.empty.data.toList = [] := rfl
  rw [e0, List.nil_append, List.length_map] at e
  exact e

end Go.Proofs.YtogdbjafibejdaaGreat

/- The contract of the laws' marks of texts: the text for a number hangs on the number alone. -/
namespace Go.Proofs.YtogdbjafibejdaaGreat
open Go.RowKit
set_option maxRecDepth 100000
set_option linter.unusedVariables false

/-- The digits of k ahead of s, by a bound on their count. -/
def mtF : Nat → Nat → ByteArray → ByteArray
  | 0, _, s => s
  | n + 1, k, s => if k = 0 then s else mtF n (k / 10) (strOf [48 + (k : Int) % 10] ++ s)
/-- The text of a mark. -/
def mt (k : Int) : ByteArray := if k ≤ 0 then ⟨#[109, 48]⟩ else ⟨#[109]⟩ ++ mtF k.toNat k.toNat ⟨#[]⟩

theorem one_sl (w : World) (x : Int) : Sl .u8 (w.alloc (.cells #[.int .u8 x] 5)) (.slice (some ⟨w.heap.size, 0, none⟩) 1 1) [x] :=
  Own.sl (World.ownsRow_lit w #[.int .u8 x] 1 (Nat.le_refl _) (by unfold maxLen; omega) rfl : Own w.heap.size 5 .u8 _ _ [x])

theorem mtF_nought (n : Nat) (s : ByteArray) : mtF n 0 s = s := by
  cases n
  · rfl
  · unfold mtF; rw [if_pos rfl]

set_option maxHeartbeats 1000000 in
set_option maxRecDepth 100000 in
theorem markText_any (k0 : Int) (w : World) (hk : k0 ≤ 1099511627776) : Calls Tryz.prog 146 #[.int .i64 k0] w fun e w' => e = .returned (.string (mt k0)) ∧ Below w.heap.size w w' := by
  by_cases h0 : k0 ≤ 0
  · have hm : mt k0 = ⟨#[109, 48]⟩ := by unfold mt; rw [if_pos h0]
    rw [hm]
    go_enter Tryz.func146, Tryz.ntmps146
    go_wp2
    go_ret
    exact ⟨rfl, Below.refl _ _⟩
  · obtain ⟨k, rfl⟩ : ∃ k : Nat, k0 = k := ⟨k0.toNat, by omega⟩
    have hm : mt k = ⟨#[109]⟩ ++ mtF k k ⟨#[]⟩ := by unfold mt; rw [if_neg h0, Int.toNat_natCast]
    rw [hm]
    have HM := (show Hid _ from hm)
    clear hm
    go_enter Tryz.func146, Tryz.ntmps146
    go_wp2
    go_loopw [0, 3] (fun i u wr => ∃ (n j : Nat) (s : ByteArray), i = .int .i64 j ∧ u = .string s ∧ j ≤ n ∧ s.size + j ≤ k ∧ mtF n j s = mtF k k ⟨#[]⟩ ∧ Below w.heap.size w wr) (fun i _ _ => (intOf i).toNat)
    case atStart => exact ⟨k, k, ⟨#[]⟩, rfl, rfl, Nat.le_refl _, by show 0 + k ≤ k; omega, rfl, Below.refl _ _⟩
    case round =>
      obtain ⟨n, j, s, rfl, rfl, hj, hs, he, bel⟩ := hrel
      have HE := (show Hid (mtF n j s = mtF k k ⟨#[]⟩) from he)
      clear he
      by_cases hj0 : 0 < j
      · have hmod : 0 ≤ (j : Int) % 10 ∧ (j : Int) % 10 < 10 := ⟨Int.emod_nonneg _ (by decide), Int.emod_lt_of_pos _ (by decide)⟩
        have cv := conv_sl (one_sl wr (48 + (j : Int) % 10))
        have hz := strOf_size [48 + (j : Int) % 10]
        obtain ⟨t, ht⟩ : ∃ t, t = strOf [48 + (j : Int) % 10] := ⟨_, rfl⟩
        rw [← ht] at cv hz
        have HT := (show Hid (t = strOf [48 + (j : Int) % 10]) from ht)
        clear ht
        have hadd := run_string_add_sum (P := Tryz.prog) (wr.alloc (.cells #[.int .u8 (48 + (j : Int) % 10)] 5)) t s (by simp at hz; omega)
        go_wp2
        go_roundw
        case rel =>
          refine ⟨n - 1, j / 10, t ++ s, by go_num, rfl, by omega, ?_, ?_, bel.alloc bel.size _⟩
          · rw [add_size, hz]; simp; omega
          · rw [← HE.out, HT.out]
            obtain ⟨n, rfl⟩ : ∃ m, n = m + 1 := ⟨n - 1, by omega⟩
            rw [Nat.add_sub_cancel]
            conv => rhs; unfold mtF
            rw [if_neg (by omega)]
        case measure => simp [intOf]; omega
      · have hj1 : j = 0 := by omega
        subst hj1
        have he := HE.out
        rw [mtF_nought] at he
        have hadd := run_string_add_sum (P := Tryz.prog) wr ⟨#[109]⟩ s (by have : (⟨#[109]⟩ : ByteArray).size = 1 := rfl; omega)
        have HE2 := (show Hid _ from he)
        clear he HE
        go_wp2
        go_ret
        exact ⟨by rw [← HE2.out]; rfl, bel⟩
end Go.Proofs.YtogdbjafibejdaaGreat
