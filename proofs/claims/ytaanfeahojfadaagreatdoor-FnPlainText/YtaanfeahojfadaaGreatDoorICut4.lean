/- The program's NextToken: by the states of the cutter; and in plain text. -/
import Derived.Test.YtaanfeahojfadaaGreatDoorICut3
namespace Go.Proofs.YtaanfeahojfadaaGreatDoor
open Go.RowKit
set_option maxRecDepth 100000
set_option linter.unusedVariables false

theorem nil_row (w : World) (B : Nat) : w.ownsRow B 81 2 (.slice none 0 0) ([] : List (ByteArray × ByteArray)).length (pairCells []) := ⟨rfl, .inl ⟨rfl, rfl⟩⟩

theorem goes_char {w0 : World} {g : Nat} {v : Value} {xs : List Int} {s : ByteArray} {i m : Nat} (hi : i < xs.length) : Goes w0 g v xs s ⟨2, ⟨#[]⟩, [], strOf (put (xs.getD i 0)), false⟩ (i + 1) (m + 1) 6 i := by
  unfold Goes
  refine ⟨⟨by omega, by omega⟩, fun w hc => ?_⟩
  refine (char_any hc s hi).mono ?_
  rintro e w' ⟨rfl, k, gr⟩
  exact ⟨_, ⟨2, ⟨#[]⟩, [], strOf (put (xs.getD i 0)), false⟩, 0, i + 1, rfl, ⟨_, rfl, nil_row _ _⟩, k, gr, .inl ⟨rfl, rfl, rfl⟩⟩
theorem goes_plain {w0 : World} {g : Nat} {v : Value} {xs : List Int} {s : ByteArray} {i m : Nat} (hi : i < xs.length) : Goes w0 g v xs s ⟨2, ⟨#[]⟩, [], strOf (put (xs.getD i 0)), false⟩ (i + 1) (m + 2) 4 i := by
  unfold Goes
  refine ⟨⟨by omega, by omega⟩, fun w hc => ?_⟩
  refine (plain_any w v g s).mono ?_
  rintro e w' ⟨rfl, b⟩
  exact ⟨_, ⟨0, ⟨#[]⟩, [], ⟨#[]⟩, false⟩, 6, i, rfl, ⟨_, rfl, nil_row _ _⟩, hc.below b, below_grown g b, .inr ⟨by omega, goes_char hi⟩⟩

set_option maxHeartbeats 2000000 in
theorem nextToken_of {v : Value} {xs : List Int} {w : World} (h : Sl .i64 w v xs) (s : ByteArray) {i n j m : Nat} {t : TokD} (hi : i < xs.length) (hl : xs.length ≤ 3000) (hn : 0 < n ∧ n ≤ 4) (hgo : ∀ w0 g v, Below w.heap.size w w0 → Goes w0 g v (xs.map clean) s t j m n i) :
    Calls Tryz.prog 11 #[v, .int .i64 i, .int .i64 n, .string s] w fun e w' => ∃ u, e = .returned (.tuple #[u, .int .i64 j]) ∧ TokIs w.heap.size w' u t ∧ Below w.heap.size w w' := by
  have h0 := h
  obtain ⟨a, ca, rfl, _, _, _, _⟩ := h
  have HG := (show Hid _ from hgo)
  rename_i x1 x2 x3 x4
  clear hgo x1 x2 x3 x4
  go_enter Tryz.func11, Tryz.ntmps11
  go_wp2_with fail
  obtain ⟨w1, hw1⟩ : ∃ w1, w1 = (w.alloc (.cells #[.int .i64 0, .string ⟨#[]⟩, .slice none 0 0, .string ⟨#[]⟩, .bool false] 30)).alloc (.cells #[.int .i64 i] 3) := ⟨_, rfl⟩
  have b1 : Below w.heap.size w w1 := by rw [hw1]; exact ((Below.refl _ _).alloc (Nat.le_refl _) _).alloc (by simp) _
  have hr1 : w1.heap[w.heap.size]? = some (.cells #[.int .i64 0, .string ⟨#[]⟩, .slice none 0 0, .string ⟨#[]⟩, .bool false] 30 (0, 0)) := by
    rw [hw1]; exact (heap_alloc_old _ _ (by simp)).trans (heap_alloc_new _ _)
  have hp1 : w1.heap[w.heap.size + 1]? = some (.cells #[.int .i64 i] 3 (0, 0)) := by
    rw [hw1]
    have := heap_alloc_new (w.alloc (.cells #[.int .i64 0, .string ⟨#[]⟩, .slice none 0 0, .string ⟨#[]⟩, .bool false] 30)) (.cells #[.int .i64 i] 3)
    simpa using this
  have HR := (show Hid _ from hr1)
  have HP := (show Hid _ from hp1)
  have h1 := h0.below b1
  rw [← hw1]
  clear hr1 hp1 hw1 h0
  go_at_call 25
  refine (cleanPoints_any h1 (by omega)).mono ?_
  rintro e w2 ⟨u, rfl, o2, b2⟩
  have hml : (xs.map clean).length = xs.length := List.length_map ..
  have hp2 := (b2.block _ (lt_of_block HP.out)).trans HP.out
  have hsz1 := lt_of_block HP.out
  have hap : apart u (w.heap.size + 1) := by
    intro a n c e
    rcases o2.shape with ⟨e', _⟩ | ⟨gg, cp, e', hB, _⟩
    · rw [e'] at e; cases e
    · rw [e'] at e; cases e; show gg ≠ _; omega
  have cut2 : Cut w2 (w.heap.size + 1) u (xs.map clean) i w2 := ⟨hap, o2.sl, ⟨rfl, rfl, rfl, Nat.le_refl _, fun _ _ _ => rfl⟩, ⟨by omega, by omega⟩, hp2⟩
  have hr2 := (b2.block _ (lt_of_block HR.out)).trans HR.out
  have HGO := (show Hid _ from HG.out w2 (w.heap.size + 1) u (b1.trans (b2.mono b1.size)))
  replace b2 := b1.trans (b2.mono b1.size)
  have HR2 := (show Hid _ from hr2)
  obtain ⟨au, cu, eu, _, _, _, _⟩ := o2.sl
  rename_i x1 x2 x3 x4
  rw [hml] at eu
  subst eu
  clear HG HP HR hp2 hr2 b1 h1 o2 hap x1 x2 x3 x4 hsz1
  obtain ⟨w3, hw3⟩ : ∃ w3, w3 = w2.alloc (.cells #[.slice au xs.length cu, .pointer (some ⟨w.heap.size + 1, 0, none⟩), .string s] 50) := ⟨_, rfl⟩
  have b3 : Below w2.heap.size w2 w3 := by rw [hw3]; exact (Below.refl _ _).alloc (Nat.le_refl _) _
  have cut3 := cut2.below b3
  have HR3 := (show Hid _ from (b3.block _ (lt_of_block HR2.out)).trans HR2.out)
  replace b3 := b2.trans (b3.mono b2.size)
  clear cut2 HR2 b2
  have cr := run_any HGO.out cut3
  unfold cutVal at cr
  go_wp2_with fail
  rw [← hw3]
  go_at_call 26
  refine cr.mono ?_
  rintro e w4 ⟨u4, rfl, ⟨va, rfl, row4⟩, cut4, g4⟩
  obtain ⟨a4, l4, c4, rfl⟩ := row_slice row4
  unfold tokVal
  obtain ⟨w5, hw5⟩ : ∃ w5, w5 = w4.alloc (.cells #[.int .i64 t.k, .string t.nm, .slice a4 l4 c4, .string t.tx, .bool t.sf] 30) := ⟨_, rfl⟩
  have b5 : Below w4.heap.size w4 w5 := by rw [hw5]; exact (Below.refl _ _).alloc (Nat.le_refl _) _
  have hk5 : w5.heap[w4.heap.size]? = some (.cells #[.int .i64 t.k, .string t.nm, .slice a4 l4 c4, .string t.tx, .bool t.sf] 30 (0, 0)) := by rw [hw5]; exact heap_alloc_new _ _
  have hr5 := (b5.block _ (Nat.lt_of_lt_of_le (lt_of_block HR3.out) g4.size)).trans ((g4.block _ (lt_of_block HR3.out) (fun e => by injection e with e; omega)).trans HR3.out)
  have cut5 := cut4.below b5
  have row5 := ownsRow_below row4 b5
  have gr5 := grown_below g4 b5
  have hs3 := b3.size
  have bel5 : Below w.heap.size w w5 := ⟨gr5.os.trans b3.os, gr5.tape.trans b3.tape, gr5.output.trans b3.output, Nat.le_trans b3.size gr5.size, fun k hk => (gr5.block k (by omega) (fun e => by injection e with e; omega)).trans (b3.block k hk)⟩
  obtain ⟨⟨k0, k1, k2, k3, k4⟩, _, _, _, _, _⟩ := tok_cells (w := w5.drew) hk5
  obtain ⟨⟨r0, r1, r2, r3, r4⟩, q0, q1, q2, q3, q4⟩ := tok_cells hr5
  have pc : w5.drew.cell? ⟨w.heap.size + 1, 0, none⟩ = some (.int .i64 j) := cut5.cell.1
  have hlt4 : w.heap.size + 1 < w4.heap.size := cut4.lt
  have hk6 : (tokSet w5 w.heap.size t.k t.nm (.slice a4 l4 c4) t.tx t.sf).drew.heap[w4.heap.size]? = _ := (tokSet_other (w := w5) (b := w.heap.size) (j := w4.heap.size) (by omega) t.k t.nm (.slice a4 l4 c4) t.tx t.sf).trans hk5
  have hr6 : (tokSet w5 w.heap.size t.k t.nm (.slice a4 l4 c4) t.tx t.sf).drew.heap[w.heap.size]? = _ := tokSet_block hr5 t.k t.nm (.slice a4 l4 c4) t.tx t.sf
  have hp6 : (tokSet w5 w.heap.size t.k t.nm (.slice a4 l4 c4) t.tx t.sf).drew.heap[w.heap.size + 1]? = _ := (tokSet_other (w := w5) (b := w.heap.size) (j := w.heap.size + 1) (by omega) t.k t.nm (.slice a4 l4 c4) t.tx t.sf).trans cut5.2.2.2.2
  have row6 := ownsRow_below (tokSet_row row5 hr5 (by decide) t.k t.nm (.slice a4 l4 c4) t.tx t.sf) (below_drewN 1)
  have bel6 := (tokSet_below bel5 (Nat.le_refl _) t.k t.nm (.slice a4 l4 c4) t.tx t.sf).trans (below_drewN 1)
  obtain ⟨⟨m0, m1, m2, m3, m4⟩, _, _, _, _, _⟩ := tok_cells hk6
  have mp := cell_block (k := 0) hp6 rfl
  have z0 := And.intro k0 (And.intro k1 (And.intro k2 (And.intro k3 (And.intro k4 pc))))
  have z6 := And.intro m0 (And.intro m1 (And.intro m2 (And.intro m3 (And.intro m4 mp))))
  unfold tokSet at hr6 row6 bel6 z6
  have Z0 := (show Hid _ from z0)
  have Z6 := (show Hid _ from z6)
  clear z0 z6
  have HR6 := (show Hid _ from hr6)
  have HW6 := (show Hid _ from row_base row6 (show w.heap.size ≤ w3.heap.size from b3.size))
  have HB6 := (show Hid _ from bel6)
  clear hr6 row6 bel6 hk6 hp6 m0 m1 m2 m3 m4 mp bel5 gr5 row5 cut5 hr5 hk5 b5 b3 cut4 row4 g4 HR3 cut3 cr HGO k0 k1 k2 k3 k4 pc hs3
  go_wp2
  rw [← hw5]
  clear hw5 hw3
  go_region_held (fun w' => w'.cell? ⟨w4.heap.size, 0, none⟩ = some (.int .i64 t.k) ∧ w'.cell? ⟨w4.heap.size, 1, none⟩ = some (.string t.nm) ∧ w'.cell? ⟨w4.heap.size, 2, none⟩ = some (.slice a4 l4 c4) ∧ w'.cell? ⟨w4.heap.size, 3, none⟩ = some (.string t.tx) ∧ w'.cell? ⟨w4.heap.size, 4, none⟩ = some (.bool t.sf) ∧ w'.cell? ⟨w.heap.size + 1, 0, none⟩ = some (.int .i64 j))
    (first | with_reducible exact Z0.out | exact Z6.out) (fail)
  rename_i hh
  clear hh
  go_wp2
  (try simp only [Exit.inBlock, Exit.then])
  refine bodyPost_ret (tok_res (f := Tryz.f11) (p := 8) (q := 9) rfl (k := t.k) (nm := t.nm) (va := .slice a4 l4 c4) (tx := t.tx) (sf := t.sf) rfl rfl HR6.out) rfl ?_
  exact ⟨_, rfl, ⟨_, rfl, HW6.out⟩, HB6.out⟩
end Go.Proofs.YtaanfeahojfadaaGreatDoor
