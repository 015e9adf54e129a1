/- The contract of the program's AttrsSame, of a list and itself. -/
import Derived.Test.YtlggfbelandpjaaIAttr
namespace Go.Proofs.Ytlggfbelandpjaa
open Go.RowKit
set_option linter.unusedVariables false

set_option maxHeartbeats 1000000 in
set_option maxRecDepth 100000 in
theorem same1_any (g : Nat) (p q : ByteArray × ByteArray) (w : World) (hg : w.heap[g]? = some (.cells #[.string q.1, .string q.2] 26 (0, 0))) :
    Calls Try.prog 40 #[.agg #[.string p.1, .string p.2], .pointer (some ⟨g, 0, none⟩)] w fun e w' => e = .returned (.bool (decide (p = q))) ∧ Below w.heap.size w w' := by
  obtain ⟨x, y⟩ := p
  obtain ⟨a, b⟩ := q
  simp only at hg ⊢
  have hb : Below w.heap.size w (w.alloc (.cells #[.string x, .string y] 26)) := (Below.refl _ _).alloc (Nat.le_refl _) _
  have hlt := lt_of_block hg
  have hg2 := (hb.block g hlt).trans hg
  have c0 : w.cell? ⟨g, 0, none⟩ = some (.string a) := by simp only [World.cell?, hg]; rfl
  have c1 : w.cell? ⟨g, 1, none⟩ = some (.string b) := by simp only [World.cell?, hg]; rfl
  clear hg hg2
  have hne : g ≠ w.heap.size := by omega
  by_cases h1 : x = a
  · by_cases h2 : y = b
    · subst h1 h2
      rw [decide_eq_true rfl]
      go_enter Try.func40, Try.ntmps40
      go_wp2
      go_ret
      exact ⟨rfl, hb⟩
    · rw [decide_eq_false (by intro e; injection e with e1 e2; exact h2 e2)]
      subst h1
      have hd := toList_ne h2
      go_enter Try.func40, Try.ntmps40
      go_wp2
      go_ret
      exact ⟨rfl, hb⟩
  · rw [decide_eq_false (by intro e; injection e with e1 e2; exact h1 e1)]
    have hd := toList_ne h1
    go_enter Try.func40, Try.ntmps40
    go_wp2
    go_ret
    exact ⟨rfl, hb⟩

set_option maxHeartbeats 2000000 in
set_option maxRecDepth 100000 in
theorem firstSame_any {v : Value} {rs : List (ByteArray × ByteArray)} {w : World} (h : Sv 2 w v (pairCells rs)) (g : Nat) (q : ByteArray × ByteArray) (hg : w.heap[g]? = some (.cells #[.string q.1, .string q.2] 26 (0, 0))) (hq : q ∈ rs) (hn : rs.length ≤ 1099511627776) :
    Calls Try.prog 38 #[v, .func (.func 40) #[] #[.pointer (some ⟨g, 0, none⟩)]] w fun e w' => e = .returned (.tuple #[.agg #[.string q.1, .string q.2], .bool true]) ∧ Below w.heap.size w w' := by
  have HS := (show Hid (Sv 2 w v (pairCells rs)) from h)
  obtain ⟨a, ca, rfl, _, _, hca⟩ := h.pair
  have hgl := lt_of_block hg
  have HG := (show Hid (w.heap[g]? = some (.cells #[.string q.1, .string q.2] 26 (0, 0))) from hg)
  have HQ := (show Hid (q ∈ rs) from hq)
  clear h hca hg hq
  go_enter Try.func38, Try.ntmps38
  go_wp2
  obtain ⟨w0, hw0⟩ : ∃ w0, w0 = w.alloc (.cells #[.string ⟨#[]⟩, .string ⟨#[]⟩] 26) := ⟨_, rfl⟩
  have hsz0 : w0.heap.size = w.heap.size + 1 := by rw [hw0]; simp
  have bel0 : Below w.heap.size w w0 := by rw [hw0]; exact (Below.refl _ _).alloc (Nat.le_refl _) _
  have hres0 : w0.heap[w.heap.size]? = some (.cells #[.string ⟨#[]⟩, .string ⟨#[]⟩] 26 (0, 0)) := by rw [hw0]; exact heap_alloc_new _ _
  rw [← hw0]
  go_loopw [11] (fun i wr => ∃ k : Nat, k ≤ rs.length ∧ i = .int .i64 k ∧ (∀ t (ht : t < rs.length), t < k → rs[t] ≠ q) ∧ Below w0.heap.size w0 wr) (fun i _ => rs.length - (intOf i).toNat)
  case atStart => exact ⟨0, Nat.zero_le _, rfl, fun t ht h => absurd h (by omega), Below.refl _ _⟩
  case round =>
    obtain ⟨k, hk, rfl, he, bel⟩ := hrel
    have HE := (show Hid _ from he)
    clear he
    have BW : Hid (Below w.heap.size w wr) := bel0.trans (bel.mono (by omega))
    have hresr : wr.heap[w.heap.size]? = some (.cells #[.string ⟨#[]⟩, .string ⟨#[]⟩] 26 (0, 0)) := by rw [bel.block _ (by omega)]; exact hres0
    have hwl : w.heap.size < wr.heap.size := by have := bel.size; omega
    by_cases hlt : k < rs.length
    · obtain ⟨_, _, ev, _, _, hca⟩ := (HS.out.below BW.out).pair
      cases ev
      obtain ⟨b1, o1, rfl, l1, c1, c2⟩ := hca k hlt
      have HN : Hid (rs[k] ≠ q → ∀ t (ht : t < rs.length), t < k + 1 → rs[t] ≠ q) := fun hne t ht h => by
        by_cases htk : t = k
        · subst htk; exact hne
        · exact HE.out t ht (by omega)
      obtain ⟨x, hx⟩ : ∃ x, x = rs[k] := ⟨_, rfl⟩
      rw [← hx] at c1 c2 HN
      clear hx hca
      obtain ⟨xn, xv⟩ := x
      simp only at c1 c2 HN
      have bx : Below wr.heap.size wr (wr.alloc (.cells #[.string xn, .string xv] 26)) := (Below.refl _ _).alloc (Nat.le_refl _) _
      have cc := same1_any g (xn, xv) q (wr.alloc (.cells #[.string xn, .string xv] 26)) ((bx.block g (by omega)).trans ((BW.out.block g hgl).trans HG.out))
      have hxb : (wr.alloc (.cells #[.string xn, .string xv] 26)).heap[wr.heap.size]? = some (.cells #[.string xn, .string xv] 26 (0, 0)) := heap_alloc_new _ _
      have hrb : (wr.alloc (.cells #[.string xn, .string xv] 26)).heap[w.heap.size]? = some (.cells #[.string ⟨#[]⟩, .string ⟨#[]⟩] 26 (0, 0)) := by rw [bx.block _ hwl]; exact hresr
      have hsa : (wr.alloc (.cells #[.string xn, .string xv] 26)).heap.size = wr.heap.size + 1 := by simp
      by_cases hm : (xn, xv) = q
      · rw [decide_eq_true hm] at cc
        subst hm
        go_wp2_with fail
        go_at_call 40
        refine cc.mono ?_
        rintro e w2 ⟨rfl, b2⟩
        have hx2 := (b2.block wr.heap.size (by omega)).trans hxb
        have hr2 := (b2.block w.heap.size (by omega)).trans hrb
        have x0 : w2.cell? ⟨wr.heap.size, 0, none⟩ = some (.string xn) := by simp [World.cell?, hx2]
        have x1 : w2.cell? ⟨wr.heap.size, 1, none⟩ = some (.string xv) := by simp [World.cell?, hx2]
        have r0 : w2.cell? ⟨w.heap.size, 0, none⟩ = some (.string ⟨#[]⟩) := by simp [World.cell?, hr2]
        have r1 : w2.cell? ⟨w.heap.size, 1, none⟩ = some (.string ⟨#[]⟩) := by simp [World.cell?, hr2]
        have f0 : w2.frozen? ⟨w.heap.size, 0, none⟩ = false := by simp [World.frozen?, hr2]
        have f1 : w2.frozen? ⟨w.heap.size, 1, none⟩ = false := by simp [World.frozen?, hr2]
        have BW2 : Hid (Below w.heap.size w w2) := BW.out.trans ((bx.trans (b2.mono (by omega))).mono (by omega))
        have hr3 := (show Hid _ from setCell_at (k := 1) (u := .string xv) (setCell_at (k := 0) (u := .string xn) hr2))
        clear c1 c2 cc hx2 hr2 hxb hrb hresr
        go_wp2
        (try simp only [Exit.inBlock, Exit.then])
        refine bodyPost_ret (first_res (x := xn) (y := xv) (b := true) rfl rfl hr3.out) rfl ?_
        exact ⟨rfl, (BW2.out.setCell (Nat.le_refl _) _).setCell (Nat.le_refl _) _⟩
      · rw [decide_eq_false hm] at cc
        have HE3 := (show Hid _ from HN.out hm)
        clear HN
        go_wp2_with fail
        go_at_call 40
        refine cc.mono ?_
        rintro e w2 ⟨rfl, b2⟩
        go_wp2
        go_roundw
        case rel => exact ⟨k + 1, by omega, by go_num, HE3.out, bel.trans ((bx.trans (b2.mono (by omega))).mono bel.size)⟩
        case measure => simp [intOf]; omega
    · exfalso
      obtain ⟨t, ht, e⟩ := List.getElem_of_mem HQ.out
      exact HE.out t ht (by omega) e

set_option maxHeartbeats 2000000 in
set_option maxRecDepth 100000 in
theorem isame_self {v : Value} {rs : List (ByteArray × ByteArray)} {w : World} (h : Sv 2 w v (pairCells rs)) (hn : rs.length ≤ 1048576) :
    Calls Try.prog 14 #[v, v] w fun e w' => e = .returned (.bool true) ∧ Below w.heap.size w w' := by
  have HS := (show Hid (Sv 2 w v (pairCells rs)) from h)
  obtain ⟨a, ca, rfl, _, _, hca⟩ := h.pair
  clear h hca
  go_enter Try.func14, Try.ntmps14
  go_wp2
  go_loopw [16] (fun i wr => ∃ k : Nat, k ≤ rs.length ∧ i = .int .i64 k ∧ Below w.heap.size w wr) (fun i _ => rs.length - (intOf i).toNat)
  case atStart => exact ⟨0, Nat.zero_le _, rfl, Below.refl _ _⟩
  case round =>
    obtain ⟨k, hk, rfl, bel⟩ := hrel
    by_cases hlt : k < rs.length
    · obtain ⟨_, _, ev, _, _, hca⟩ := (HS.out.below bel).pair
      cases ev
      obtain ⟨b1, o1, rfl, l1, c1, c2⟩ := hca k hlt
      have hmem := List.getElem_mem hlt
      obtain ⟨x, hx⟩ : ∃ x, x = rs[k] := ⟨_, rfl⟩
      rw [← hx] at c1 c2 hmem
      clear hx hca
      obtain ⟨xn, xv⟩ := x
      simp only at c1 c2
      have bx := bel.alloc bel.size (.cells #[.string xn, .string xv] 26)
      have cc := firstSame_any (HS.out.below bx) wr.heap.size (xn, xv) (heap_alloc_new _ _) hmem (by omega)
      go_wp2_with fail
      go_at_call 38
      refine cc.mono ?_
      rintro e w2 ⟨rfl, b2⟩
      replace b2 := bx.trans (b2.mono bx.size)
      clear cc c1 c2
      simp only
      go_wp2
      go_roundw
      case rel => exact ⟨k + 1, by omega, by go_num, b2.alloc b2.size _⟩
      case measure => simp [intOf]; omega
    · go_wp2
      go_ret
      exact ⟨rfl, bel⟩
end Go.Proofs.Ytlggfbelandpjaa
