/- The contracts of the draws of strings: some string, of a bounded length. -/
import Derived.Test.YteddljmekpnojaaDoorU7
import Derived.Test.YteddljmekpnojaaDoorU6
import Derived.Laws.Concat
import Derived.Test.YteddljmekpnojaaDoorU5
namespace Go.Proofs.YteddljmekpnojaaDoor
open Go.RowKit
set_option maxRecDepth 100000
set_option linter.unusedVariables false

theorem grown_past {w w1 w2 : World} {g : Nat} {row : Option Nat} (h : w.grownBy w1 (some g)) (k : w1.grownBy w2 row) (hr : ∀ j, row = some j → w.heap.size ≤ j) : w.grownBy w2 (some g) :=
  ⟨k.os.trans h.os, k.tape.trans h.tape, k.output.trans h.output, Nat.le_trans h.size k.size, fun j hj hne => (k.block j (Nat.lt_of_lt_of_le hj h.size) (fun e => by have := hr j e.symm; omega)).trans (h.block j hj hne)⟩
theorem grown_below {w w1 w2 : World} {g : Nat} (h : w.grownBy w1 (some g)) (k : Below w1.heap.size w1 w2) : w.grownBy w2 (some g) :=
  ⟨k.os.trans h.os, k.tape.trans h.tape, k.output.trans h.output, Nat.le_trans h.size k.size, fun j hj hne => (k.block j (Nat.lt_of_lt_of_le hj h.size)).trans (h.block j hj hne)⟩

/-- One string of a list that is written out. -/
theorem pickS_any {w0 : World} {g : Nat} {v : Value} {xs : List Int} {w : World} (h : Cur w0 g v xs w) (hb : ∀ x ∈ xs, 0 ≤ x ∧ x ≤ 255) (ts : List ByteArray) (hz : 0 < ts.length) (hz2 : ts.length ≤ 1000) (cs : Array Value) (hcs : cs.toList = ts.map Value.string) (n : Nat) (hn : n = ts.length) :
    Calls Tryd.prog 21 #[.pointer (some ⟨g, 0, none⟩), .slice (some ⟨w.heap.size, 0, none⟩) n n] (w.alloc (.cells cs 9)) fun e w' => ∃ t, e = .returned (.string t) ∧ t ∈ ts ∧ Cur w0 g v xs w' ∧ w.grownBy w' (some g) := by
  have hlt := h.lt
  have h' := h.below ((Below.refl _ _).alloc (Nat.le_refl _) (.cells cs 9))
  have HC : Hid (∀ w1, (w.alloc (.cells cs 9)).grownBy w1 (some g) → ∀ k (hk : k < ts.length), w1.cell? ⟨w.heap.size, k, none⟩ = some (.string ts[k])) := by
    intro w1 hg k hk
    have e := hg.block w.heap.size (by simp) (fun e => by injection e with e; omega)
    have e2 : cs[k]? = some (.string ts[k]) := by
      have : cs.toList[k]? = some (.string ts[k]) := by rw [hcs]; simp [hk]
      simpa using this
    simp only [World.cell?, e, heap_alloc_new]
    simpa using e2
  have HB : Hid (∀ x ∈ xs, 0 ≤ x ∧ x ≤ 255) := hb
  clear hb hcs
  subst hn
  go_enter Tryd.func21, Tryd.ntmps21
  go_wp2_with fail
  go_at_call 16
  refine (below_any _ (by omega) h' HB.out).mono ?_
  rintro e w1 ⟨x, rfl, x0, x1, x2, k1, g1⟩
  replace x1 := x1 (by omega)
  clear x2
  obtain ⟨k, rfl⟩ : ∃ k : Nat, x = k := ⟨x.toNat, by omega⟩
  have hkl : k < ts.length := by omega
  have c1 := HC.out w1 g1 k hkl
  go_wp2
  go_ret
  exact ⟨_, rfl, List.getElem_mem hkl, k1, grown_trans (World.grownBy_alloc _ _ _) g1⟩

set_option maxHeartbeats 1000000 in
theorem drawBytes_any {w0 : World} {g : Nat} {v : Value} {xs : List Int} {w : World} (h : Cur w0 g v xs w) (hb : ∀ x ∈ xs, 0 ≤ x ∧ x ≤ 255) (m : Nat) (hm : m ≤ 1000) :
    Calls Tryd.prog 17 #[.pointer (some ⟨g, 0, none⟩), .int .i64 m] w fun e w' => ∃ u zs, e = .returned u ∧ Own w.heap.size 5 .u8 w' u zs ∧ zs.length ≤ m ∧ (∀ y ∈ zs, 0 ≤ y ∧ y ≤ 255) ∧ Cur w0 g v xs w' ∧ w.grownBy w' (some g) := by
  have HB : Hid (∀ x ∈ xs, 0 ≤ x ∧ x ≤ 255) := hb
  clear hb
  have hlt := h.lt
  obtain ⟨i0, hi, hz0, hz1, hz2⟩ := info_parts Tryd.infoB
  have o1 := own_empty 5 .u8 w
  have k1 := h.below ((Below.refl _ _).alloc (Nat.le_refl _) (.cells #[] 5))
  have g1 : w.grownBy (w.alloc (.cells #[] 5)) (some g) := World.grownBy_alloc _ _ _
  go_enter Tryd.func17, Tryd.ntmps17
  go_wp2_with fail
  go_at_call 16
  refine (below_any _ (by omega) k1 HB.out).mono ?_
  rintro e w3 ⟨n, rfl, n0, n1, n2, k3, g3⟩
  replace n1 := n1 (by omega)
  clear n2
  obtain ⟨n, rfl⟩ : ∃ k : Nat, n = k := ⟨n.toNat, by omega⟩
  have o3 := own_past o1 g3 (by omega)
  replace g3 := grown_trans g1 g3
  clear o1 g1 k1
  go_wp2
  go_loopw [5, 7] (fun u i wr => ∃ (k : Nat) (zs : List Int), k ≤ n ∧ i = .int .i64 k ∧ zs.length = k ∧ (∀ y ∈ zs, 0 ≤ y ∧ y ≤ 255) ∧ Own w.heap.size 5 .u8 wr u zs ∧ Cur w0 g v xs wr ∧ w.grownBy wr (some g)) (fun _ i _ => n - (intOf i).toNat)
  case atStart => exact ⟨0, [], Nat.zero_le _, rfl, rfl, fun y hy => (by cases hy), o3, k3, g3⟩
  case round =>
    clear o3 k3 g3
    obtain ⟨k, zs, hk, rfl, hzl, hzb, own, cur, gr⟩ := hrel
    have HZ : Hid (∀ y ∈ zs, 0 ≤ y ∧ y ≤ 255) := hzb
    clear hzb
    by_cases hkn : k < n
    · go_wp2_with fail
      go_at_call 25
      refine (byte_any cur HB.out).mono ?_
      rintro e w4 ⟨x, rfl, x0, x1, k4, g4⟩
      have o4 := own_past own g4 hlt
      replace g4 := grown_trans gr g4
      have hsz := g4.size
      have ex : x % 256 = x := by omega
      clear own cur gr
      have hone : Sl .u8 (w4.alloc (.cells #[.int .u8 x] 5)) (.slice (some ⟨w4.heap.size, 0, none⟩) 1 1) [x] :=
        Own.sl (World.ownsRow_lit w4 #[.int .u8 x] 1 (Nat.le_refl _) (by unfold maxLen; omega) rfl : Own w4.heap.size 5 .u8 _ _ [x])
      go_wp2_with (at_builtin; refine wpList_app _ rfl (.tmp 18) (.tmp 22) 22 rfl w.heap.size 5 i0 (.int .u8 0) 1 Tryd.underlying22 hi hz0 hz1 hz2 rfl .u8 _ _ zs [x] rfl rfl (o4.alloc _) hone (by simp; omega) (by unfold maxLen; simp; omega) (by simp; omega) ?_; intro v' w9 o9 g9)
      have k9 := (k4.below ((Below.refl _ _).alloc (Nat.le_refl _) _)).kept g9 (fun e => by have := (o4.lt _ e).1; omega) (fun j hj => by have := (o4.lt j hj).1; have := k4.1; omega)
      have r9 := grown_past (grown_trans g4 (World.grownBy_alloc _ _ _)) g9 (fun j hj => (o4.lt j hj).1)
      go_roundw
      case rel => exact ⟨k + 1, _, by omega, by go_num, by rw [List.length_append, hzl]; rfl, bytes_app HZ.out (fun y hy => by simp at hy; omega), o9, k9, r9⟩
      case measure => simp [intOf]; omega
    · go_wp2
      go_ret
      exact ⟨_, zs, rfl, own, by omega, HZ.out, cur, gr⟩

theorem add_size (a b : ByteArray) : (a ++ b).size = a.size + b.size := by simp

theorem strOf_size (zs : List Int) : (strOf zs).size = zs.length := by
  have e := congrArg List.length (strOf_list zs ByteArray.empty)
  have e0 : ByteArray.empty.data.toList = [] := rfl
  rw [e0, List.nil_append, List.length_map] at e
  exact e

end Go.Proofs.YteddljmekpnojaaDoor

/- Numbers as texts, plainly; the specification's NumText. No condition. -/
namespace Go.Proofs.YteddljmekpnojaaDoor
open Go.RowKit
set_option maxRecDepth 100000
set_option linter.unusedVariables false

/-- The decimal digits of n, by a bound. -/
def digF : Nat → Nat → List Int
  | 0, _ => []
  | f + 1, n => if n = 0 then [] else digF f (n / 10) ++ [48 + ((n % 10 : Nat) : Int)]
def numL (x : Int) : List Int := if x = 0 then [48] else (if x < 0 then [45] else []) ++ digF x.natAbs x.natAbs
def numS (x : Int) : ByteArray := strOf (numL x)
theorem strOf_app2 (xs ys : List Int) : strOf xs ++ strOf ys = strOf (xs ++ ys) := by
  have e : (strOf xs ++ strOf ys).data.toList = (strOf (xs ++ ys)).data.toList := by
    rw [show (strOf xs ++ strOf ys).data.toList = (strOf xs).data.toList ++ (strOf ys).data.toList by simp]
    unfold strOf
    rw [strOf_list, strOf_list, strOf_list, List.map_append]
    simp
  have e2 := Array.toList_inj.mp e
  cases h1 : strOf xs ++ strOf ys
  cases h2 : strOf (xs ++ ys)
  rw [h1, h2] at e2
  simp only at e2
  rw [e2]
theorem digF_byte : ∀ (f n : Nat), ∀ x ∈ digF f n, 48 ≤ x ∧ x ≤ 57 := by
  intro f
  induction f with
  | zero => intro n x hx; cases hx
  | succ f ih =>
    intro n x hx
    unfold digF at hx
    split at hx
    · cases hx
    · rcases List.mem_append.mp hx with hx | hx
      · exact ih _ _ hx
      · rw [List.mem_singleton.mp hx]; omega
theorem digF_step {f : Nat} {y : Int} {L : List Int} (hy : y ≠ 0) (hf : y.natAbs ≤ f) : ∃ f', f = f' + 1 ∧ (y.tdiv 10).natAbs ≤ f' ∧ digF f y.natAbs ++ L = digF f' (y.tdiv 10).natAbs ++ ((48 + ((y.natAbs % 10 : Nat) : Int)) :: L) := by
  obtain ⟨f', rfl⟩ : ∃ f', f = f' + 1 := ⟨f - 1, by omega⟩
  have hd : (y.tdiv 10).natAbs = y.natAbs / 10 := by
    rw [Int.natAbs_tdiv]; rfl
  refine ⟨f', rfl, by rw [hd]; omega, ?_⟩
  rw [hd]
  conv => lhs; unfold digF
  rw [if_neg (by omega), List.append_assoc]
  rfl
theorem digF_len : ∀ (k f n : Nat), n < 10 ^ k → (digF f n).length ≤ k := by
  intro k
  induction k with
  | zero => intro f n h; have : n = 0 := by simpa using h
            subst this; cases f <;> simp [digF]
  | succ k ih =>
    intro f n h
    cases f with
    | zero => simp [digF]
    | succ f =>
      unfold digF
      split
      · simp
      · have := ih f (n / 10) (by rw [Nat.pow_succ] at h; omega)
        simp; omega
theorem one_byte (w : World) (z : Int) : Sl .u8 (w.alloc (.cells #[.int .u8 z] 5)) (.slice (some ⟨w.heap.size, 0, none⟩) 1 1) [z] :=
  Own.sl (World.ownsRow_lit w #[.int .u8 z] 1 (Nat.le_refl _) (by unfold maxLen; omega) rfl : Own w.heap.size 5 .u8 _ _ [z])

set_option maxHeartbeats 2000000 in
set_option maxRecDepth 100000 in
theorem snumText_any (n : Int) (w : World) (hn : (Lit.int .i64 n).wf = true) : Calls Tryd.prog 13 #[.int .i64 n] w fun e w' => e = .returned (.string (numS n)) ∧ Below w.heap.size w w' := by
  have hb : -9223372036854775808 ≤ n ∧ n ≤ 9223372036854775807 := by
    simp only [Lit.wf, Bool.and_eq_true, decide_eq_true_eq] at hn
    exact hn
  by_cases h0 : n = 0
  · subst h0
    go_enter Tryd.func13, Tryd.ntmps13
    go_wp2
    go_ret
    exact ⟨by rfl, Below.refl _ _⟩
  · go_enter Tryd.func13, Tryd.ntmps13
    go_wp2
    go_loopw [3, 4] (fun o q wr => ∃ (f : Nat) (y : Int) (L : List Int), o = .string (strOf L) ∧ q = .int .i64 y ∧ (0 < n → 0 ≤ y) ∧ (n < 0 → y ≤ 0) ∧ -9223372036854775808 ≤ y ∧ y ≤ 9223372036854775807 ∧ y.natAbs ≤ f ∧ digF n.natAbs n.natAbs = digF f y.natAbs ++ L ∧ Below w.heap.size w wr) (fun _ q _ => (intOf q).natAbs)
    case atStart => exact ⟨n.natAbs, n, [], rfl, rfl, by omega, by omega, hb.1, hb.2, Nat.le_refl _, by simp, Below.refl _ _⟩
    case round =>
      obtain ⟨f, y, L, rfl, rfl, s1, s2, y1, y2, hf, hd, bel⟩ := hrel
      have HD := (show Hid (digF n.natAbs n.natAbs = digF f y.natAbs ++ L) from hd)
      have hLl : L.length ≤ 19 := by
        have h1 := digF_len 19 n.natAbs n.natAbs (by omega)
        rw [hd, List.length_append] at h1
        omega
      have hsz := strOf_size L
      clear hd
      by_cases hy : y = 0
      · subst hy
        have hL : digF n.natAbs n.natAbs = L := by
          have e : digF f (0 : Int).natAbs = [] := by cases f <;> rfl
          have := HD.out
          rw [e] at this
          exact this
        have HN := (show Hid (numS n = if n < 0 then strOf [45] ++ strOf L else strOf L) from (show _ = _ by
          rw [numS, numL, if_neg h0, hL]
          split
          · rw [strOf_app2]
          · rfl))
        clear hL HD
        by_cases hneg : n < 0
        · rw [if_pos hneg] at HN
          go_wp2
          go_ret
          exact ⟨by rw [HN.out]; rfl, bel⟩
        · rw [if_neg hneg] at HN
          go_wp2
          go_ret
          exact ⟨by rw [HN.out]; rfl, bel⟩
      · obtain ⟨f', hf', hle, hdg⟩ := digF_step (L := L) hy hf
        have hq : (y.tdiv 10).natAbs = y.natAbs / 10 := by rw [Int.natAbs_tdiv]; rfl
        have hrb : (y.tmod 10).natAbs = y.natAbs % 10 := by rw [Int.natAbs_tmod]; rfl
        have hrc : -9 ≤ y.tmod 10 ∧ y.tmod 10 ≤ 9 := by omega
        have hqb : -9223372036854775808 ≤ y.tdiv 10 ∧ y.tdiv 10 ≤ 9223372036854775807 := by omega
        have hq0 : 0 ≤ y → 0 ≤ y.tdiv 10 := fun h => Int.tdiv_nonneg h (by decide)
        have hq1 : y ≤ 0 → y.tdiv 10 ≤ 0 := fun h => by
          have := Int.tdiv_nonneg (show 0 ≤ -y by omega) (show (0 : Int) ≤ 10 by decide)
          rw [Int.neg_tdiv] at this
          omega
        have hms : (y.tdiv 10).natAbs < y.natAbs := by omega
        have HS := (show Hid ((0 < n → 0 ≤ y.tdiv 10) ∧ (n < 0 → y.tdiv 10 ≤ 0)) from ⟨fun h => hq0 (s1 h), fun h => hq1 (s2 h)⟩)
        have HG := (show Hid (digF n.natAbs n.natAbs = digF f' (y.tdiv 10).natAbs ++ ((48 + ((y.natAbs % 10 : Nat) : Int)) :: L)) from HD.out.trans hdg)
        have HLE := (show Hid ((y.tdiv 10).natAbs ≤ f') from hle)
        have HB2 := (show Hid (∀ z, Below w.heap.size w (wr.alloc (.cells #[.int .u8 z] 5))) from fun z => bel.alloc bel.size _)
        have hcv := fun z => conv_sl (one_byte wr z)
        have hs1 := fun z : Int => strOf_size [z]
        clear hdg hf' hle HD s1 s2 hq0 hq1 hq
        by_cases hrn : y.tmod 10 < 0
        · have HZ := (show Hid (48 + -y.tmod 10 = 48 + ((y.natAbs % 10 : Nat) : Int)) from (show _ = _ by omega))
          go_wp2
          go_roundw
          case rel => exact ⟨f', y.tdiv 10, (48 + -y.tmod 10) :: L, by rw [strOf_app2]; rfl, rfl, HS.out.1, HS.out.2, hqb.1, hqb.2, HLE.out, by rw [HZ.out]; exact HG.out, HB2.out _⟩
          case measure => exact hms
        · have HZ := (show Hid (48 + y.tmod 10 = 48 + ((y.natAbs % 10 : Nat) : Int)) from (show _ = _ by omega))
          go_wp2
          go_roundw
          case rel => exact ⟨f', y.tdiv 10, (48 + y.tmod 10) :: L, by rw [strOf_app2]; rfl, rfl, HS.out.1, HS.out.2, hqb.1, hqb.2, HLE.out, by rw [HZ.out]; exact HG.out, HB2.out _⟩
          case measure => exact hms
end Go.Proofs.YteddljmekpnojaaDoor
