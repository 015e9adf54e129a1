/- The specification's functions on a row of open elements. No condition. -/
import Derived.Test.YthdfhckmgneioaaGreatRowP
import Derived.Test.YthdfhckmgneioaaGreatSTree
import Derived.Test.YthdfhckmgneioaaGreatRegB
import Derived.Test.YthdfhckmgneioaaGreatClear
namespace Go.Proofs.YthdfhckmgneioaaGreat
open Go.RowKit
set_option maxRecDepth 100000
set_option linter.unusedVariables false

theorem shas_any {w : World} {a : Option Addr} {n cap : Nat} (x : Int) (hn : n ≤ 1048576) :
    Calls Tryz.prog 77 #[.agg #[.slice a n cap], .int .i64 x] w fun e w' => e = .returned (.bool (inB x 0 ((n : Int) - 1))) ∧ Below w.heap.size w w' := by
  have CI := (show Hid _ from fun w => l1In_any x 0 ((n : Int) - 1) w)
  have b1 : Below w.heap.size w (w.alloc (.cells #[.slice a n cap] 26)) := (Below.refl _ _).alloc (Nat.le_refl _) _
  go_enter Tryz.func77, Tryz.ntmps77
  go_wp2_with fail
  go_at_call 35
  refine Calls.mono (CI.out _) ?_
  rintro e w1 ⟨rfl, rfl⟩
  go_wp2
  go_ret
  exact ⟨rfl, b1⟩

theorem selement_any {w : World} {v : Value} {ns : List PNode} (hn : NodesAt w v ns) (hlen : ns.length ≤ 1048576) (x : Int) :
    Calls Tryz.prog 50 #[.agg #[v], .int .i64 x] w fun e w' => e = .returned (.bool (elB ns x)) ∧ Below w.heap.size w w' := by
  obtain ⟨a, cap, rfl, hc1, hc2, hcs⟩ := hn.slice
  have HCS := (show Hid _ from hcs)
  have b1 : Below w.heap.size w (w.alloc (.cells #[.slice a ns.length cap] 26)) := (Below.refl _ _).alloc (Nat.le_refl _) _
  have g1 : (w.alloc (.cells #[.slice a ns.length cap] 26)).heap[w.heap.size]? = some (.cells #[.slice a ns.length cap] 26 (0, 0)) := World.alloc_heap_new _ _
  have CH := (show Hid _ from fun w => shas_any (w := w) (a := a) (cap := cap) x hlen)
  have HG1 := (show Hid _ from g1)
  have HB1 := (show Hid _ from b1)
  clear hcs hn g1 b1
  go_enter Tryz.func50, Tryz.ntmps50
  go_wp2_with fail
  go_at_call 77
  refine Calls.mono (CH.out _) ?_
  rintro e w2 ⟨rfl, b2⟩
  have hb := HB1.out.trans (b2.mono HB1.out.size)
  have c1 : w2.cell? ⟨w.heap.size, 0, none⟩ = some (.slice a ns.length cap) := by
    have := (b2.block _ (blk_lt HG1.out)).trans HG1.out
    simp only [World.cell?, this]; rfl
  have HB := (show Hid _ from hb)
  clear b2 HG1 HB1 CH
  cases hi : inB x 0 ((ns.length : Int) - 1) with
  | false =>
    have HE : Hid (elB ns x = false) := by rw [elB, hi]; rfl
    clear hi
    go_wp2
    go_ret
    exact ⟨by rw [HE.out]; rfl, HB.out⟩
  | true =>
    obtain ⟨k, rfl, hk⟩ := inB_at hi
    have HE : Hid (elB ns (k : Int) = decide (ns[k].kind = 3)) := by rw [elB, hi, kdOf_at hk]; rfl
    obtain ⟨b, off, av, kv, rfl, hblt, d0, _⟩ := HCS.out k hk
    replace d0 := (hb.cell (p := ⟨b, off + k * 6, none⟩) hblt).trans d0
    obtain ⟨q, hq⟩ : ∃ q, q = ns[k].kind := ⟨_, rfl⟩
    rw [← hq] at d0 HE
    clear hi hq hb
    go_wp2
    go_ret
    exact ⟨by rw [HE.out]; rfl, HB.out⟩

/-- The first k of a row are elements, none of them twice. -/
def RowK (ns : List PNode) (row : List Int) (k : Nat) : Prop := ∀ i (h : i < row.length), i < k → elB ns row[i] = true ∧ ∀ j (hj : j < i), row[j] ≠ row[i]
theorem rowK_zero (ns : List PNode) (row : List Int) : RowK ns row 0 := fun i _ h => absurd h (Nat.not_lt_zero i)
theorem rowK_succ {ns : List PNode} {row : List Int} {k : Nat} (h : RowK ns row k) (hk : k < row.length) (he : elB ns row[k] = true) (ho : ∀ j (hj : j < k), row[j] ≠ row[k]) : RowK ns row (k + 1) := fun i hi hik => by
  by_cases e : i = k
  · subst e; exact ⟨he, ho⟩
  · exact h i hi (by omega)
theorem rowK_all {ns : List PNode} {row : List Int} (h : RowK ns row row.length) (hl : row.length ≤ 40) : RowP ns row := ⟨hl, fun i hi => (h i hi hi).1, fun i k hi hk => (h i hi hi).2 k hk⟩

set_option maxHeartbeats 1000000 in
set_option maxRecDepth 100000 in
theorem srow_any {w : World} {v rv : Value} {ns : List PNode} {row : List Int} (hn : NodesAt w v ns) (hlen : ns.length ≤ 1048576) (hr : Sl .i64 w rv row) (hrl : row.length ≤ 1048576) :
    Calls Tryz.prog 26 #[.agg #[v], rv] w fun e w' => ∃ r, e = .returned (.bool r) ∧ (r = true ↔ RowP ns row) ∧ Below w.heap.size w w' := by
  have HN := (show Hid (NodesAt w v ns) from hn)
  have HR := (show Hid (Sl .i64 w rv row) from hr)
  obtain ⟨a, cap, rfl, hc1, hc2, _⟩ := hn.slice
  obtain ⟨ra, rc, rfl, _, _, _, hra⟩ := hr
  have HRA := (show Hid _ from hra)
  clear hn hra
  by_cases h40 : 40 < row.length
  · have HF : Hid (¬ RowP ns row) := fun h => by have := h.len; omega
    go_enter Tryz.func26, Tryz.ntmps26
    go_wp2
    go_ret
    exact ⟨false, rfl, by simpa using HF.out, (Below.refl _ _).alloc (Nat.le_refl _) _⟩
  obtain ⟨w1, hw1⟩ : ∃ w1, w1 = w.alloc (.cells #[.slice a ns.length cap] 26) := ⟨_, rfl⟩
  have b1 : Below w.heap.size w w1 := by rw [hw1]; exact (Below.refl _ _).alloc (Nat.le_refl _) _
  have g1 : w1.heap[w.heap.size]? = some (.cells #[.slice a ns.length cap] 26 (0, 0)) := by rw [hw1]; exact World.alloc_heap_new _ _
  have cT : w1.cell? ⟨w.heap.size, 0, none⟩ = some (.slice a ns.length cap) := by simp only [World.cell?, g1]; rfl
  have hs1 := blk_lt g1
  have HCT := (show Hid _ from cT)
  have ne := Wd.any w1.heap.size w1
  go_enter Tryz.func26, Tryz.ntmps26
  go_wp2
  rw [← hw1]
  clear hw1 g1 cT
  go_loopw [5] (fun i wr => ∃ k : Nat, k ≤ row.length ∧ i = .int .i64 k ∧ RowK ns row k ∧ Below w1.heap.size w1 wr) (fun i _ => row.length - (intOf i).toNat)
  case atStart => exact ⟨0, Nat.zero_le _, rfl, rowK_zero _ _, Below.refl _ _⟩
  case round =>
    obtain ⟨k, hk, rfl, hK, bel⟩ := hrel
    have HK := (show Hid (RowK ns row k) from hK)
    have hb := b1.trans (bel.mono b1.size)
    clear hK
    by_cases hlt : k < row.length
    · obtain ⟨rb, ro, rfl, c1⟩ := HRA.out k hlt
      have hrb := lt_of_cell c1
      have HX : Hid (row.getD k 0 = row[k]) := (show row.getD k 0 = row[k] by simp [List.getD_eq_getElem?_getD, hlt])
      rw [HX.out] at c1
      have f1 : ∀ n : Wd w1.heap.size w1, n.w.cell? ⟨rb, ro + k, none⟩ = some (.int .i64 row[k]) := fun n => ((b1.trans (n.below.mono b1.size)).cell (p := ⟨rb, ro + k, none⟩) hrb).trans c1
      have f0 : ∀ n : Wd w1.heap.size w1, n.w.cell? ⟨w.heap.size, 0, none⟩ = some (.slice a ns.length cap) := fun n => (n.below.cell (p := ⟨w.heap.size, 0, none⟩) hs1).trans HCT.out
      have CE := (show Hid (∀ n : Wd w1.heap.size w1, Calls Tryz.prog 50 #[.agg #[.slice a ns.length cap], .int .i64 row[k]] n.w fun e w' => e = .returned (.bool (elB ns row[k])) ∧ Below n.w.heap.size n.w w') from fun n => selement_any (HN.out.below (b1.trans (n.below.mono b1.size))) hlen _)
      obtain ⟨x, hx⟩ : ∃ x, x = row[k] := ⟨_, rfl⟩
      obtain ⟨el, hel⟩ : ∃ el, el = elB ns row[k] := ⟨_, rfl⟩
      rw [← hel] at CE
      rw [← hx] at f1 CE
      have HEL := (show Hid (el = elB ns row[k]) from hel)
      have HXX := (show Hid (x = row[k]) from hx)
      clear hx hel c1
      go_wp2
      refine wp_region_below (by kernel_rfl) (by kernel_rfl) bel ?_
      repeat (go_big_quiet_step ((go_at_call 50; exact quiet_below (CE.out _) (Nat.le_refl _))))
      refine wpQuiet_nil ?_
      intro wq hq
      replace hq := Wd.of hq
      cases el
      · have HF : Hid (¬ RowP ns row) := fun h => by have := h.el k hlt; rw [← HEL.out] at this; cases this
        go_wp2
        go_ret
        exact ⟨false, rfl, by simpa using HF.out, b1.trans (hq.mono b1.size)⟩
      · go_wp2
        go_loopw [6] (fun j ws => ∃ l : Nat, l ≤ k ∧ j = .int .i64 l ∧ (∀ m (hm : m < l) (hmr : m < row.length), row[m] ≠ row[k]) ∧ Below w1.heap.size w1 ws) (fun j _ => k - (intOf j).toNat)
        case atStart => exact ⟨0, Nat.zero_le _, rfl, fun m hm => absurd hm (Nat.not_lt_zero m), hq⟩
        case round =>
          obtain ⟨l, hl, rfl, hM, bel2⟩ := hrel
          have HM := (show Hid (∀ m (hm : m < l) (hmr : m < row.length), row[m] ≠ row[k]) from hM)
          clear hM
          by_cases hlk : l < k
          · obtain ⟨_, _, e2, c2⟩ := HRA.out l (by omega)
            cases e2
            have HY : Hid (row.getD l 0 = row[l]'(by omega)) := (show row.getD l 0 = row[l]'(by omega) by simp [List.getD_eq_getElem?_getD, show l < row.length by omega])
            rw [HY.out] at c2
            have f2 : ∀ n : Wd w1.heap.size w1, n.w.cell? ⟨rb, ro + l, none⟩ = some (.int .i64 (row[l]'(by omega))) := fun n => ((b1.trans (n.below.mono b1.size)).cell (p := ⟨rb, ro + l, none⟩) hrb).trans c2
            obtain ⟨y, hy⟩ : ∃ y, y = row[l]'(by omega) := ⟨_, rfl⟩
            rw [← hy] at f2
            have HYY := (show Hid (y = row[l]'(by omega)) from hy)
            clear hy c2
            obtain ⟨q, hq'⟩ : ∃ q, q = (y == x) := ⟨_, rfl⟩
            have HQ := (show Hid (q = (y == x)) from hq')
            go_wp2
            refine wp_region_below (by kernel_rfl) (by kernel_rfl) bel2 ?_
            repeat (go_big_quiet_step (fail))
            refine wpQuiet_nil ?_
            intro wq2 hq2
            replace hq2 := Wd.of hq2
            rw [← hq']
            clear hq'
            cases q
            · have HNE : Hid (row[l]'(by omega) ≠ row[k]) := fun e => by have := HQ.out; rw [HYY.out, HXX.out, e] at this; simp at this
              go_wp2
              go_roundw
              case rel =>
                refine ⟨l + 1, by omega, by go_num, fun m hm hmr => ?_, hq2⟩
                by_cases e : m = l
                · subst e; exact HNE.out
                · exact HM.out m (by omega) hmr
              case measure => simp [intOf]; omega
            · have HF : Hid (¬ RowP ns row) := fun h => by
                have := HQ.out
                rw [HYY.out, HXX.out] at this
                exact h.once k l hlt hlk (by simpa using this.symm)
              go_wp2
              go_ret
              exact ⟨false, rfl, by simpa using HF.out, b1.trans (hq2.mono b1.size)⟩
          · have hlk' : l = k := by omega
            have HS : Hid (RowK ns row (k + 1)) := rowK_succ HK.out hlt HEL.out.symm (fun j hj => HM.out j (by omega) (by omega))
            go_wp2
            go_roundw
            case rel => exact ⟨k + 1, by omega, by go_num, HS.out, bel2⟩
            case measure => simp [intOf]; omega
    · have hke : k = row.length := by omega
      have HP : Hid (RowP ns row) := rowK_all (by rw [← hke]; exact HK.out) (by omega)
      go_wp2
      go_ret
      exact ⟨true, rfl, by simpa using HP.out, hb⟩
end Go.Proofs.YthdfhckmgneioaaGreat
