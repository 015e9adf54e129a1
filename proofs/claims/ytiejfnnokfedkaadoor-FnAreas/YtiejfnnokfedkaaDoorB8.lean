import Derived.Test.YtiejfnnokfedkaaDoorB2
import Derived.Test.YtiejfnnokfedkaaDoorStr
import Derived.Laws.Concat
/- The contracts of the draws of strings: some string, of a bounded length. -/
namespace Go.Proofs.YtiejfnnokfedkaaDoor
open Go.RowKit
set_option maxRecDepth 100000
set_option linter.unusedVariables false

theorem grown_past {w w1 w2 : World} {g : Nat} {row : Option Nat} (h : w.grownBy w1 (some g)) (k : w1.grownBy w2 row) (hr : ∀ j, row = some j → w.heap.size ≤ j) : w.grownBy w2 (some g) :=
  ⟨k.os.trans h.os, k.tape.trans h.tape, k.output.trans h.output, Nat.le_trans h.size k.size, fun j hj hne => (k.block j (Nat.lt_of_lt_of_le hj h.size) (fun e => by have := hr j e.symm; omega)).trans (h.block j hj hne)⟩
theorem grown_below {w w1 w2 : World} {g : Nat} (h : w.grownBy w1 (some g)) (k : Below w1.heap.size w1 w2) : w.grownBy w2 (some g) :=
  ⟨k.os.trans h.os, k.tape.trans h.tape, k.output.trans h.output, Nat.le_trans h.size k.size, fun j hj hne => (k.block j (Nat.lt_of_lt_of_le hj h.size)).trans (h.block j hj hne)⟩

/-- One string of a list that is written out. -/
theorem pickS_any {w0 : World} {g : Nat} {v : Value} {xs : List Int} {w : World} (h : Cur w0 g v xs w) (hb : ∀ x ∈ xs, 0 ≤ x ∧ x ≤ 255) (ts : List ByteArray) (hz : 0 < ts.length) (hz2 : ts.length ≤ 1000) (cs : Array Value) (hcs : cs.toList = ts.map Value.string) (n : Nat) (hn : n = ts.length) :
    Calls Tryd.prog 86 #[.pointer (some ⟨g, 0, none⟩), .slice (some ⟨w.heap.size, 0, none⟩) n n] (w.alloc (.cells cs 9)) fun e w' => ∃ t, e = .returned (.string t) ∧ t ∈ ts ∧ Cur w0 g v xs w' ∧ w.grownBy w' (some g) := by
  have hlt := h.lt
  have h' := h.below ((Below.refl _ _).alloc (Nat.le_refl _) (.cells cs 9))
  have HC : Hid (∀ w1, (w.alloc (.cells cs 9)).grownBy w1 (some g) → ∀ k (hk : k < ts.length), w1.cell? ⟨w.heap.size, k, none⟩ = some (.string ts[k])) := by
    intro w1 hg k hk
    have e := hg.block w.heap.size (by simp) (fun e => by injection e with e; omega)
    have e2 : cs[k]? = some (.string ts[k]) := by
      have : cs.toList[k]? = some (.string ts[k]) := by rw [hcs]; simp [hk]
      simpa using this
    simp only [World.cell?, e, heap_alloc_new]
    simpa using e2
  have HB : Hid (∀ x ∈ xs, 0 ≤ x ∧ x ≤ 255) := hb
  clear hb hcs
  subst hn
  go_enter Tryd.func86, Tryd.ntmps86
  go_wp2_with fail
  go_at_call 45
  refine (below_any _ (by omega) h' HB.out).mono ?_
  rintro e w1 ⟨x, rfl, x0, x1, x2, k1, g1⟩
  replace x1 := x1 (by omega)
  clear x2
  obtain ⟨k, rfl⟩ : ∃ k : Nat, x = k := ⟨x.toNat, by omega⟩
  have hkl : k < ts.length := by omega
  have c1 := HC.out w1 g1 k hkl
  go_wp2
  go_ret
  exact ⟨_, rfl, List.getElem_mem hkl, k1, grown_trans (World.grownBy_alloc _ _ _) g1⟩

set_option maxHeartbeats 1000000 in
theorem drawBytes_any {w0 : World} {g : Nat} {v : Value} {xs : List Int} {w : World} (h : Cur w0 g v xs w) (hb : ∀ x ∈ xs, 0 ≤ x ∧ x ≤ 255) (m : Nat) (hm : m ≤ 1000) :
    Calls Tryd.prog 46 #[.pointer (some ⟨g, 0, none⟩), .int .i64 m] w fun e w' => ∃ u zs, e = .returned u ∧ Own w.heap.size 5 .u8 w' u zs ∧ zs.length ≤ m ∧ (∀ y ∈ zs, 0 ≤ y ∧ y ≤ 255) ∧ Cur w0 g v xs w' ∧ w.grownBy w' (some g) := by
  have HB : Hid (∀ x ∈ xs, 0 ≤ x ∧ x ≤ 255) := hb
  clear hb
  have hlt := h.lt
  obtain ⟨i0, hi, hz0, hz1, hz2⟩ := info_parts Tryd.infoB
  have o1 := own_empty 5 .u8 w
  have k1 := h.below ((Below.refl _ _).alloc (Nat.le_refl _) (.cells #[] 5))
  have g1 : w.grownBy (w.alloc (.cells #[] 5)) (some g) := World.grownBy_alloc _ _ _
  go_enter Tryd.func46, Tryd.ntmps46
  go_wp2_with fail
  go_at_call 45
  refine (below_any _ (by omega) k1 HB.out).mono ?_
  rintro e w3 ⟨n, rfl, n0, n1, n2, k3, g3⟩
  replace n1 := n1 (by omega)
  clear n2
  obtain ⟨n, rfl⟩ : ∃ k : Nat, n = k := ⟨n.toNat, by omega⟩
  have o3 := own_past o1 g3 (by omega)
  replace g3 := grown_trans g1 g3
  clear o1 g1 k1
  go_wp2
  go_loopw [5, 7] (fun u i wr => ∃ (k : Nat) (zs : List Int), k ≤ n ∧ i = .int .i64 k ∧ zs.length = k ∧ (∀ y ∈ zs, 0 ≤ y ∧ y ≤ 255) ∧ Own w.heap.size 5 .u8 wr u zs ∧ Cur w0 g v xs wr ∧ w.grownBy wr (some g)) (fun _ i _ => n - (intOf i).toNat)
  case atStart => exact ⟨0, [], Nat.zero_le _, rfl, rfl, fun y hy => (by cases hy), o3, k3, g3⟩
  case round =>
    clear o3 k3 g3
    obtain ⟨k, zs, hk, rfl, hzl, hzb, own, cur, gr⟩ := hrel
    have HZ : Hid (∀ y ∈ zs, 0 ≤ y ∧ y ≤ 255) := hzb
    clear hzb
    by_cases hkn : k < n
    · go_wp2_with fail
      go_at_call 76
      refine (byte_any cur HB.out).mono ?_
      rintro e w4 ⟨x, rfl, x0, x1, k4, g4⟩
      have o4 := own_past own g4 hlt
      replace g4 := grown_trans gr g4
      have hsz := g4.size
      have ex : x % 256 = x := by omega
      clear own cur gr
      have hone : Sl .u8 (w4.alloc (.cells #[.int .u8 x] 5)) (.slice (some ⟨w4.heap.size, 0, none⟩) 1 1) [x] :=
        Own.sl (World.ownsRow_lit w4 #[.int .u8 x] 1 (Nat.le_refl _) (by unfold maxLen; omega) rfl : Own w4.heap.size 5 .u8 _ _ [x])
      go_wp2_with (at_builtin; refine wpList_app _ rfl (.tmp 18) (.tmp 22) 22 rfl w.heap.size 5 i0 (.int .u8 0) 1 Tryd.underlying22 hi hz0 hz1 hz2 rfl .u8 _ _ zs [x] rfl rfl (o4.alloc _) hone (by simp; omega) (by unfold maxLen; simp; omega) (by simp; omega) ?_; intro v' w9 o9 g9)
      have k9 := (k4.below ((Below.refl _ _).alloc (Nat.le_refl _) _)).kept g9 (fun e => by have := (o4.lt _ e).1; omega) (fun j hj => by have := (o4.lt j hj).1; have := k4.1; omega)
      have r9 := grown_past (grown_trans g4 (World.grownBy_alloc _ _ _)) g9 (fun j hj => (o4.lt j hj).1)
      go_roundw
      case rel => exact ⟨k + 1, _, by omega, by go_num, by rw [List.length_append, hzl]; rfl, bytes_app HZ.out (fun y hy => by simp at hy; omega), o9, k9, r9⟩
      case measure => simp [intOf]; omega
    · go_wp2
      go_ret
      exact ⟨_, zs, rfl, own, by omega, HZ.out, cur, gr⟩

theorem add_size (a b : ByteArray) : (a ++ b).size = a.size + b.size := by simp

theorem strOf_size (zs : List Int) : (strOf zs).size = zs.length := by
  have e := congrArg List.length (strOf_list zs ByteArray.empty)
  have e0 : ByteArray.empty.data.toList = [] := rfl
  rw [e0, List.nil_append, List.length_map] at e
  exact e

end Go.Proofs.YtiejfnnokfedkaaDoor

/- The contract of the laws' marks of texts: the text for a number hangs on the number alone. -/
namespace Go.Proofs.YtiejfnnokfedkaaDoor
open Go.RowKit
set_option maxRecDepth 100000
set_option linter.unusedVariables false

/-- The digits of k ahead of s, by a bound on their count. -/
def mtF : Nat → Nat → ByteArray → ByteArray
  | 0, _, s => s
  | n + 1, k, s => if k = 0 then s else mtF n (k / 10) (strOf [48 + (k : Int) % 10] ++ s)
/-- The text of a mark. -/
def mt (k : Int) : ByteArray := if k ≤ 0 then ⟨#[109, 48]⟩ else ⟨#[109]⟩ ++ mtF k.toNat k.toNat ⟨#[]⟩

theorem one_sl (w : World) (x : Int) : Sl .u8 (w.alloc (.cells #[.int .u8 x] 5)) (.slice (some ⟨w.heap.size, 0, none⟩) 1 1) [x] :=
  Own.sl (World.ownsRow_lit w #[.int .u8 x] 1 (Nat.le_refl _) (by unfold maxLen; omega) rfl : Own w.heap.size 5 .u8 _ _ [x])

theorem mtF_nought (n : Nat) (s : ByteArray) : mtF n 0 s = s := by
  cases n
  · rfl
  · unfold mtF; rw [if_pos rfl]

end Go.Proofs.YtiejfnnokfedkaaDoor
