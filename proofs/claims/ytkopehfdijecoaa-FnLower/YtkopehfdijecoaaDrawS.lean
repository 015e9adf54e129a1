/- The contracts of the draws of strings: some string, of a bounded length. -/
import Derived.Test.YtkopehfdijecoaaDraw1
import Derived.Test.YtkopehfdijecoaaStr
import Derived.Laws.Concat
namespace Go.Proofs.Ytkopehfdijecoaa
open Go.RowKit
set_option linter.unusedVariables false

theorem grown_past {w w1 w2 : World} {g : Nat} {row : Option Nat} (h : w.grownBy w1 (some g)) (k : w1.grownBy w2 row) (hr : ∀ j, row = some j → w.heap.size ≤ j) : w.grownBy w2 (some g) :=
  ⟨k.os.trans h.os, k.tape.trans h.tape, k.output.trans h.output, Nat.le_trans h.size k.size, fun j hj hne => (k.block j (Nat.lt_of_lt_of_le hj h.size) (fun e => by have := hr j e.symm; omega)).trans (h.block j hj hne)⟩
theorem grown_below {w w1 w2 : World} {g : Nat} (h : w.grownBy w1 (some g)) (k : Below w1.heap.size w1 w2) : w.grownBy w2 (some g) :=
  ⟨k.os.trans h.os, k.tape.trans h.tape, k.output.trans h.output, Nat.le_trans h.size k.size, fun j hj hne => (k.block j (Nat.lt_of_lt_of_le hj h.size)).trans (h.block j hj hne)⟩

/-- One string of a list that is written out. -/
theorem pickS_any {w0 : World} {g : Nat} {v : Value} {xs : List Int} {w : World} (h : Cur w0 g v xs w) (hb : ∀ x ∈ xs, 0 ≤ x ∧ x ≤ 255) (ts : List ByteArray) (hz : 0 < ts.length) (hz2 : ts.length ≤ 1000) (cs : Array Value) (hcs : cs.toList = ts.map Value.string) (n : Nat) (hn : n = ts.length) :
    Calls Try.prog 34 #[.pointer (some ⟨g, 0, none⟩), .slice (some ⟨w.heap.size, 0, none⟩) n n] (w.alloc (.cells cs 9)) fun e w' => ∃ t, e = .returned (.string t) ∧ t ∈ ts ∧ Cur w0 g v xs w' ∧ w.grownBy w' (some g) := by
  have hlt := h.lt
  have h' := h.below ((Below.refl _ _).alloc (Nat.le_refl _) (.cells cs 9))
  have HC : Hid (∀ w1, (w.alloc (.cells cs 9)).grownBy w1 (some g) → ∀ k (hk : k < ts.length), w1.cell? ⟨w.heap.size, k, none⟩ = some (.string ts[k])) := by
    intro w1 hg k hk
    have e := hg.block w.heap.size (by simp) (fun e => by injection e with e; omega)
    have e2 : cs[k]? = some (.string ts[k]) := by
      have : cs.toList[k]? = some (.string ts[k]) := by rw [hcs]; simp [hk]
      simpa using this
    simp only [World.cell?, e, heap_alloc_new]
    simpa using e2
  have HB : Hid (∀ x ∈ xs, 0 ≤ x ∧ x ≤ 255) := hb
  clear hb hcs
  subst hn
  go_enter Try.func34, Try.ntmps34
  go_wp2_with fail
  go_at_call 35
  refine (below_any _ (by omega) h' HB.out).mono ?_
  rintro e w1 ⟨x, rfl, x0, x1, x2, k1, g1⟩
  replace x1 := x1 (by omega)
  clear x2
  obtain ⟨k, rfl⟩ : ∃ k : Nat, x = k := ⟨x.toNat, by omega⟩
  have hkl : k < ts.length := by omega
  have c1 := HC.out w1 g1 k hkl
  go_wp2
  go_ret
  exact ⟨_, rfl, List.getElem_mem hkl, k1, grown_trans (World.grownBy_alloc _ _ _) g1⟩

set_option maxHeartbeats 1000000 in
theorem drawBytes_any {w0 : World} {g : Nat} {v : Value} {xs : List Int} {w : World} (h : Cur w0 g v xs w) (hb : ∀ x ∈ xs, 0 ≤ x ∧ x ≤ 255) (m : Nat) (hm : m ≤ 1000) :
    Calls Try.prog 27 #[.pointer (some ⟨g, 0, none⟩), .int .i64 m] w fun e w' => ∃ u zs, e = .returned u ∧ Own w.heap.size 5 .u8 w' u zs ∧ zs.length ≤ m ∧ (∀ y ∈ zs, 0 ≤ y ∧ y ≤ 255) ∧ Cur w0 g v xs w' ∧ w.grownBy w' (some g) := by
  have HB : Hid (∀ x ∈ xs, 0 ≤ x ∧ x ≤ 255) := hb
  clear hb
  have hlt := h.lt
  obtain ⟨i0, hi, hz0, hz1, hz2⟩ := info_parts Try.infoB
  have o1 := own_empty 5 .u8 w
  have k1 := h.below ((Below.refl _ _).alloc (Nat.le_refl _) (.cells #[] 5))
  have g1 : w.grownBy (w.alloc (.cells #[] 5)) (some g) := World.grownBy_alloc _ _ _
  go_enter Try.func27, Try.ntmps27
  go_wp2_with fail
  go_at_call 35
  refine (below_any _ (by omega) k1 HB.out).mono ?_
  rintro e w3 ⟨n, rfl, n0, n1, n2, k3, g3⟩
  replace n1 := n1 (by omega)
  clear n2
  obtain ⟨n, rfl⟩ : ∃ k : Nat, n = k := ⟨n.toNat, by omega⟩
  have o3 := own_past o1 g3 (by omega)
  replace g3 := grown_trans g1 g3
  clear o1 g1 k1
  go_wp2
  go_loopw [5, 7] (fun u i wr => ∃ (k : Nat) (zs : List Int), k ≤ n ∧ i = .int .i64 k ∧ zs.length = k ∧ (∀ y ∈ zs, 0 ≤ y ∧ y ≤ 255) ∧ Own w.heap.size 5 .u8 wr u zs ∧ Cur w0 g v xs wr ∧ w.grownBy wr (some g)) (fun _ i _ => n - (intOf i).toNat)
  case atStart => exact ⟨0, [], Nat.zero_le _, rfl, rfl, fun y hy => (by cases hy), o3, k3, g3⟩
  case round =>
    clear o3 k3 g3
    obtain ⟨k, zs, hk, rfl, hzl, hzb, own, cur, gr⟩ := hrel
    have HZ : Hid (∀ y ∈ zs, 0 ≤ y ∧ y ≤ 255) := hzb
    clear hzb
    by_cases hkn : k < n
    · go_wp2_with fail
      go_at_call 36
      refine (byte_any cur HB.out).mono ?_
      rintro e w4 ⟨x, rfl, x0, x1, k4, g4⟩
      have o4 := own_past own g4 hlt
      replace g4 := grown_trans gr g4
      have hsz := g4.size
      have ex : x % 256 = x := by omega
      clear own cur gr
      have hone : Sl .u8 (w4.alloc (.cells #[.int .u8 x] 5)) (.slice (some ⟨w4.heap.size, 0, none⟩) 1 1) [x] :=
        Own.sl (World.ownsRow_lit w4 #[.int .u8 x] 1 (Nat.le_refl _) (by unfold maxLen; omega) rfl : Own w4.heap.size 5 .u8 _ _ [x])
      go_wp2_with (at_builtin; refine wpList_app _ rfl (.tmp 18) (.tmp 22) 22 rfl w.heap.size 5 i0 (.int .u8 0) 1 Try.underlying22 hi hz0 hz1 hz2 rfl .u8 _ _ zs [x] rfl rfl (o4.alloc _) hone (by simp; omega) (by unfold maxLen; simp; omega) (by simp; omega) ?_; intro v' w9 o9 g9)
      have k9 := (k4.below ((Below.refl _ _).alloc (Nat.le_refl _) _)).kept g9 (fun e => by have := (o4.lt _ e).1; omega) (fun j hj => by have := (o4.lt j hj).1; have := k4.1; omega)
      have r9 := grown_past (grown_trans g4 (World.grownBy_alloc _ _ _)) g9 (fun j hj => (o4.lt j hj).1)
      go_roundw
      case rel => exact ⟨k + 1, _, by omega, by go_num, by rw [List.length_append, hzl]; rfl, bytes_app HZ.out (fun y hy => by simp at hy; omega), o9, k9, r9⟩
      case measure => simp [intOf]; omega
    · go_wp2
      go_ret
      exact ⟨_, zs, rfl, own, by omega, HZ.out, cur, gr⟩

theorem add_size (a b : ByteArray) : (a ++ b).size = a.size + b.size := by simp

set_option maxHeartbeats 1000000 in
set_option maxRecDepth 100000 in
theorem drawName_any {w0 : World} {g : Nat} {v : Value} {xs : List Int} {w : World} (h : Cur w0 g v xs w) (hb : ∀ x ∈ xs, 0 ≤ x ∧ x ≤ 255) :
    Calls Try.prog 25 #[.pointer (some ⟨g, 0, none⟩)] w fun e w' => ∃ s : ByteArray, e = .returned (.string s) ∧ s.size ≤ 100 ∧ Cur w0 g v xs w' ∧ w.grownBy w' (some g) := by
  have HB : Hid (∀ x ∈ xs, 0 ≤ x ∧ x ≤ 255) := hb
  clear hb
  go_enter Try.func25, Try.ntmps25
  go_wp2_with fail
  go_at_call 34
  refine (pickS_any h HB.out [⟨#[112]⟩, ⟨#[100, 105, 118]⟩, ⟨#[98]⟩, ⟨#[105]⟩, ⟨#[97]⟩, ⟨#[120, 45, 121]⟩, ⟨#[104, 49]⟩, ⟨#[76, 73]⟩, ⟨#[116, 105, 116, 108, 101]⟩, ⟨#[195, 169]⟩, ⟨#[97, 195, 169]⟩, ⟨#[49, 97]⟩, ⟨#[]⟩, ⟨#[97, 32, 98]⟩, ⟨#[97, 47, 98]⟩, ⟨#[97, 62, 98]⟩] (by simp) (by simp) _ rfl 16 rfl).mono ?_
  rintro e w1 ⟨t, rfl, ht, k1, g1⟩
  have hts : t.size ≤ 5 := by
    have : ∀ t ∈ ([⟨#[112]⟩, ⟨#[100, 105, 118]⟩, ⟨#[98]⟩, ⟨#[105]⟩, ⟨#[97]⟩, ⟨#[120, 45, 121]⟩, ⟨#[104, 49]⟩, ⟨#[76, 73]⟩, ⟨#[116, 105, 116, 108, 101]⟩, ⟨#[195, 169]⟩, ⟨#[97, 195, 169]⟩, ⟨#[49, 97]⟩, ⟨#[]⟩, ⟨#[97, 32, 98]⟩, ⟨#[97, 47, 98]⟩, ⟨#[97, 62, 98]⟩] : List ByteArray), t.size ≤ 5 := by decide
    exact this t ht
  clear ht
  go_wp2_with fail
  go_at_call 30
  refine (once_any _ (by omega) k1 HB.out).mono ?_
  rintro e w2 ⟨b, rfl, k2, g2⟩
  replace g2 := grown_trans g1 g2
  clear g1 k1
  cases b
  · go_wp2
    go_ret
    exact ⟨t, rfl, by omega, k2, g2⟩
  · go_wp2
    go_loopw [3] (fun u wr => ∃ s : ByteArray, u = .string s ∧ s.size ≤ 61 ∧ Cur w0 g v xs wr ∧ w.grownBy wr (some g)) (fun u _ => match u with | .string s => 61 - s.size | _ => 0)
    case atStart => exact ⟨t, rfl, by omega, k2, g2⟩
    case round =>
      clear k2 g2 hts
      obtain ⟨s, rfl, hs, cur, gr⟩ := hrel
      go_wp2_with fail
      go_at_call 35
      refine (below_any _ (by omega) cur HB.out).mono ?_
      rintro e w3 ⟨n, rfl, n0, n1, n2, k3, g3⟩
      replace n1 := n1 (by omega)
      replace g3 := grown_trans gr g3
      clear n2 cur gr
      by_cases hlt : (s.size : Int) < 60 + n
      · have hadd := run_string_add_sum (P := Try.prog) w3 s ⟨#[97]⟩ (by have : (⟨#[97]⟩ : ByteArray).size = 1 := rfl; omega)
        go_wp2
        go_roundw
        case rel => exact ⟨_, rfl, by rw [add_size]; have : (⟨#[97]⟩ : ByteArray).size = 1 := rfl; omega, k3, g3⟩
        case measure =>
          have e1 : (s ++ ⟨#[97]⟩ : ByteArray).size = s.size + 1 := by rw [add_size]; rfl
          simp only []
          omega
      · go_wp2
        go_ret
        exact ⟨s, rfl, by omega, k3, g3⟩

theorem strOf_size (zs : List Int) : (strOf zs).size = zs.length := by
  have e := congrArg List.length (strOf_list zs ByteArray.empty)
  have e0 : ByteArray.empty.data.toList = [] := rfl
  rw [e0, List.nil_append, List.length_map] at e
  exact e

set_option maxRecDepth 100000 in
theorem drawLowerText_any {v : Value} {xs : List Int} {w : World} (h : Sl .u8 w v xs) (hb : ∀ x ∈ xs, 0 ≤ x ∧ x ≤ 255) (hn : xs.length ≤ 1099511627776) :
    Calls Try.prog 11 #[v] w fun e w' => ∃ s : ByteArray, e = .returned (.string s) ∧ s.size ≤ 200 ∧ Below w.heap.size w w' := by
  have HB : Hid (∀ x ∈ xs, 0 ≤ x ∧ x ≤ 255) := hb
  clear hb
  go_enter Try.func11, Try.ntmps11
  go_wp2_with fail
  go_at_call 26
  refine (new_any h HB.out hn).mono ?_
  rintro e w1 ⟨rfl, k1, b1⟩
  go_wp2_with fail
  go_at_call 25
  refine (drawName_any k1 HB.out).mono ?_
  rintro e w2 ⟨s, rfl, hs, k2, g2⟩
  have b2 := b1.grown g2 b1.size (fun k hk => by cases hk; exact Nat.le_refl _)
  have h2 := h.below b2
  clear k1 b1 k2 g2
  go_wp2_with fail
  go_at_call 26
  refine (new_any h2 HB.out hn).mono ?_
  rintro e w3 ⟨rfl, k3, b3⟩
  replace b3 := b2.trans (b3.mono b2.size)
  have hsz := b2.size
  clear h2
  go_wp2_with fail
  go_at_call 27
  refine (drawBytes_any k3 HB.out 3 (by omega)).mono ?_
  rintro e w4 ⟨u, zs, rfl, o4, hzl, hzb, k4, g4⟩
  have b4 := b3.grown g4 b3.size (fun k hk => by cases hk; exact hsz)
  have cv := conv_sl o4.sl
  have hss := strOf_size zs
  obtain ⟨t, ht⟩ : ∃ t, t = strOf zs := ⟨_, rfl⟩
  rw [← ht] at cv hss
  clear ht o4 k4 g4 k3 hzb
  have hadd := run_string_add_sum (P := Try.prog) w4 s t (by omega)
  go_wp2
  go_ret
  exact ⟨_, rfl, by rw [add_size]; omega, b4⟩

set_option maxRecDepth 100000 in
theorem drawNameOk_any {v : Value} {xs : List Int} {w : World} (h : Sl .u8 w v xs) (hb : ∀ x ∈ xs, 0 ≤ x ∧ x ≤ 255) (hn : xs.length ≤ 1099511627776) :
    Calls Try.prog 17 #[v] w fun e w' => ∃ s : ByteArray, e = .returned (.string s) ∧ s.size ≤ 200 ∧ Below w.heap.size w w' := by
  have HB : Hid (∀ x ∈ xs, 0 ≤ x ∧ x ≤ 255) := hb
  clear hb
  go_enter Try.func17, Try.ntmps17
  go_wp2_with fail
  go_at_call 26
  refine (new_any h HB.out hn).mono ?_
  rintro e w1 ⟨rfl, k1, b1⟩
  go_wp2_with fail
  go_at_call 25
  refine (drawName_any k1 HB.out).mono ?_
  rintro e w2 ⟨s, rfl, hs, k2, g2⟩
  have b2 := b1.grown g2 b1.size (fun k hk => by cases hk; exact Nat.le_refl _)
  clear k1 b1 g2
  go_wp2_with fail
  go_at_call 30
  refine (once_any _ (by omega) k2 HB.out).mono ?_
  rintro e w3 ⟨b, rfl, k3, g3⟩
  have b3 := b2.grown g3 b2.size (fun k hk => by cases hk; exact Nat.le_refl _)
  clear k2 b2 g3
  cases b
  · go_wp2
    go_ret
    exact ⟨_, rfl, by omega, b3⟩
  · go_wp2_with fail
    go_at_call 27
    refine (drawBytes_any k3 HB.out 2 (by omega)).mono ?_
    rintro e w4 ⟨u, zs, rfl, o4, hzl, hzb, k4, g4⟩
    have b4 := b3.grown g4 b3.size (fun k hk => by cases hk; exact Nat.le_refl _)
    have cv := conv_sl o4.sl
    have hss := strOf_size zs
    obtain ⟨t, ht⟩ : ∃ t, t = strOf zs := ⟨_, rfl⟩
    rw [← ht] at cv hss
    clear ht o4 k4 g4 k3 hzb
    have hadd := run_string_add_sum (P := Try.prog) w4 s t (by omega)
    go_wp2
    go_ret
    exact ⟨_, rfl, by rw [add_size]; omega, b4⟩
end Go.Proofs.Ytkopehfdijecoaa
