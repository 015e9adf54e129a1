/- Blocks that a walk holds, by a list. No condition. -/
import Derived.Test.YtgoedknimpdpoaaU12
import Derived.RangeFuncRecord
import Derived.Test.YtgoedknimpdpoaaU8
import Derived.Test.YtgoedknimpdpoaaU9
namespace Go.Proofs.Ytgoedknimpdpoaa
open Go.RowKit
set_option maxRecDepth 100000
set_option linter.unusedVariables false

/-- The world W is w with more, and the listed blocks hold these cells. -/
structure Hl (w : World) (L : List (Nat × Array Value × TypeId)) (W : World) : Prop where
  bel : Below w.heap.size w W
  blk : ∀ p ∈ L, W.heap[p.1]? = some (.cells p.2.1 p.2.2 (0, 0))
theorem Hl.at {w W : World} {L : List (Nat × Array Value × TypeId)} (h : Hl w L W) {b : Nat} {cs : Array Value} {t : TypeId} (hm : (b, cs, t) ∈ L) : W.heap[b]? = some (.cells cs t (0, 0)) := h.2 _ hm
theorem Hl.at0 {w W : World} {L : List (Nat × Array Value × TypeId)} {b : Nat} {cs : Array Value} {t : TypeId} (h : Hl w ((b, cs, t) :: L) W) : W.heap[b]? = some (.cells cs t (0, 0)) := h.2 _ (List.mem_cons_self ..)
theorem Hl.at1 {w W : World} {L : List (Nat × Array Value × TypeId)} {p : Nat × Array Value × TypeId} {b : Nat} {cs : Array Value} {t : TypeId} (h : Hl w (p :: (b, cs, t) :: L) W) : W.heap[b]? = some (.cells cs t (0, 0)) := h.2 _ (List.mem_cons_of_mem _ (List.mem_cons_self ..))
theorem Hl.at2 {w W : World} {L : List (Nat × Array Value × TypeId)} {p q : Nat × Array Value × TypeId} {b : Nat} {cs : Array Value} {t : TypeId} (h : Hl w (p :: q :: (b, cs, t) :: L) W) : W.heap[b]? = some (.cells cs t (0, 0)) := h.2 _ (List.mem_cons_of_mem _ (List.mem_cons_of_mem _ (List.mem_cons_self ..)))
theorem Hl.at3 {w W : World} {L : List (Nat × Array Value × TypeId)} {p q r : Nat × Array Value × TypeId} {b : Nat} {cs : Array Value} {t : TypeId} (h : Hl w (p :: q :: r :: (b, cs, t) :: L) W) : W.heap[b]? = some (.cells cs t (0, 0)) := h.2 _ (List.mem_cons_of_mem _ (List.mem_cons_of_mem _ (List.mem_cons_of_mem _ (List.mem_cons_self ..))))
theorem Hl.refl (w : World) : Hl w [] w := ⟨Below.refl _ _, fun p hp => absurd hp (by simp)⟩
theorem Hl.below {w W W' : World} {L : List (Nat × Array Value × TypeId)} (h : Hl w L W) (b : Below W.heap.size W W') : Hl w L W' := ⟨h.1.trans (b.mono h.1.size), fun p hp => (b.block _ (lt_of_block (h.2 p hp))).trans (h.2 p hp)⟩
theorem Hl.new {w W : World} {L : List (Nat × Array Value × TypeId)} (h : Hl w L W) (cs : Array Value) (t : TypeId) : Hl w ((W.heap.size, cs, t) :: L) (W.alloc (.cells cs t)) := by
  have hb : Below W.heap.size W (W.alloc (.cells cs t)) := (Below.refl _ _).alloc (Nat.le_refl _) _
  refine ⟨(h.below hb).1, fun p hp => ?_⟩
  rcases List.mem_cons.mp hp with rfl | hp
  · exact World.alloc_heap_new _ _
  · exact (h.below hb).2 p hp
theorem Hl.tail {w W : World} {p : Nat × Array Value × TypeId} {L : List (Nat × Array Value × TypeId)} (h : Hl w (p :: L) W) : Hl w L W := ⟨h.1, fun q hq => h.2 q (List.mem_cons_of_mem _ hq)⟩
theorem Hl.lt {w W : World} {L : List (Nat × Array Value × TypeId)} (h : Hl w L W) {p : Nat × Array Value × TypeId} (hm : p ∈ L) : p.1 < W.heap.size := lt_of_block (h.2 p hm)
/-- A cell of the first block is set. -/
theorem Hl.set {w W : World} {L : List (Nat × Array Value × TypeId)} {N : Nat} {cs : Array Value} {t : TypeId} (h : Hl w ((N, cs, t) :: L) W) (hN : w.heap.size ≤ N) (hL : ∀ p ∈ L, p.1 ≠ N) (k : Nat) (u : Value) : Hl w ((N, cs.setIfInBounds k u, t) :: L) (W.setCell ⟨N, k, none⟩ u) := by
  refine ⟨h.1.setCell (p := ⟨N, k, none⟩) hN _, fun p hp => ?_⟩
  rcases List.mem_cons.mp hp with rfl | hp
  · exact rk_at h.at0
  · have hg := grown_setCell W N k u
    have hp' := h.2 p (List.mem_cons_of_mem _ hp)
    exact (hg.block p.1 (lt_of_block hp') (fun e => hL p hp (Option.some.inj e))).trans hp'
theorem Hl.set2 {w W : World} {L : List (Nat × Array Value × TypeId)} {N : Nat} {x y : Value} {t : TypeId} (h : Hl w ((N, #[x, y], t) :: L) W) (hN : w.heap.size ≤ N) (hL : ∀ p ∈ L, p.1 ≠ N) (a b : Value) : Hl w ((N, #[a, b], t) :: L) ((W.setCell ⟨N, 0, none⟩ a).setCell ⟨N, 1, none⟩ b) := (h.set hN hL 0 a).set hN hL 1 b
theorem Hl.set3 {w W : World} {L : List (Nat × Array Value × TypeId)} {N : Nat} {x y z : Value} {t : TypeId} (h : Hl w ((N, #[x, y, z], t) :: L) W) (hN : w.heap.size ≤ N) (hL : ∀ p ∈ L, p.1 ≠ N) (a b c : Value) : Hl w ((N, #[a, b, c], t) :: L) (((W.setCell ⟨N, 0, none⟩ a).setCell ⟨N, 1, none⟩ b).setCell ⟨N, 2, none⟩ c) := ((h.set hN hL 0 a).set hN hL 1 b).set hN hL 2 c
theorem Hl.swap {w W : World} {p q : Nat × Array Value × TypeId} {L : List (Nat × Array Value × TypeId)} (h : Hl w (p :: q :: L) W) : Hl w (q :: p :: L) W := ⟨h.1, fun r hr => h.2 r (by simp only [List.mem_cons] at hr ⊢; rcases hr with hr | hr | hr <;> simp [hr])⟩
theorem Hl.past {w W W' : World} {L : List (Nat × Array Value × TypeId)} (h : Hl w L W) {row : Option Nat} (g : W.grownBy W' row) (hr : ∀ r, row = some r → w.heap.size ≤ r ∧ ∀ p ∈ L, p.1 ≠ r) : Hl w L W' := ⟨h.1.grown g h.1.size (fun r e => (hr r e).1), fun p hp => (g.block _ (lt_of_block (h.2 p hp)) (fun e => by
    subst e; exact (hr p.1 rfl).2 p hp rfl)).trans (h.2 p hp)⟩
theorem Hl.sub {w W : World} {L L' : List (Nat × Array Value × TypeId)} (h : Hl w L W) (hs : ∀ p ∈ L', p ∈ L) : Hl w L' W := ⟨h.1, fun p hp => h.2 p (hs p hp)⟩
end Go.Proofs.Ytgoedknimpdpoaa

/- The exact law of DeedOk: both sides answer alike at every deed. No condition. -/
namespace Go.Proofs.Ytgoedknimpdpoaa
open Go.RowKit
set_option maxRecDepth 100000
set_option linter.unusedVariables false

theorem rk_fiveD {w : World} {b : Nat} {u v y x z : Value} {t : TypeId} (h : w.heap[b]? = some (.cells #[u, v, y, x, z] t (0, 0))) : w.cell? ⟨b, 0, none⟩ = some u ∧ w.cell? ⟨b, 1, none⟩ = some v ∧ w.cell? ⟨b, 2, none⟩ = some y ∧ w.cell? ⟨b, 3, none⟩ = some x ∧ w.cell? ⟨b, 4, none⟩ = some z ∧ w.frozen? ⟨b, 0, none⟩ = false :=
  ⟨by simp only [World.cell?, h]; rfl, by simp only [World.cell?, h]; rfl, by simp only [World.cell?, h]; rfl, by simp only [World.cell?, h]; rfl, by simp only [World.cell?, h]; rfl, by simp only [World.frozen?, h]; rfl⟩

set_option maxRecDepth 100000 in
theorem toDeed_any (d : PDeed) (w : World) : Calls Try.prog 6 #[deedV d] w fun e w' => e = .returned (deedV d) ∧ Below w.heap.size w w' := by
  obtain ⟨k, u, p, s, q⟩ := d
  show Calls Try.prog 6 #[.agg #[.int .i64 k, .string u, .string p, .int .i64 s, .int .i64 q]] w _
  have h1 := (((Hl.refl w).new #[.int .i64 k, .string u, .string p, .int .i64 s, .int .i64 q] 23).new #[.int .i64 k, .string u, .string p, .int .i64 s, .int .i64 q] 26).new #[.int .i64 k, .string u, .string p, .int .i64 s, .int .i64 q] 26
  rw [World.size_alloc, World.size_alloc] at h1
  have H1 := (show Hid _ from h1)
  clear h1
  go_enter Try.func6, Try.ntmps6
  go_wp2
  refine bodyPost_ret (results_cell_row rfl _ _ (w.heap.size + 1) 26 #[.int .i64 k, .string u, .string p, .int .i64 s, .int .i64 q] (0, 0) _ rfl H1.out.at1 Try.underlying26 rfl rfl) rfl ?_
  exact ⟨rfl, H1.out.1⟩
set_option maxRecDepth 100000 in
theorem szDeed_any (r : PDeed) (l : Int) (w : World) (h0 : 0 ≤ l) (h1 : l ≤ 1099511627776) (ha : r.url.size ≤ maxLen) (hb : r.page.size ≤ maxLen) :
    Calls Try.prog 4 #[deedV r, .int .i64 l] w fun e w' => ∃ q : Int, e = .returned (.int .i64 q) ∧ (q < 0 ∨ (0 ≤ q ∧ q = l - r.url.size - r.page.size)) ∧ Below w.heap.size w w' := by
  obtain ⟨kd, ur, bo, st, ke⟩ := r
  simp only at ha hb ⊢
  show Calls Try.prog 4 #[.agg #[.int .i64 kd, .string ur, .string bo, .int .i64 st, .int .i64 ke], .int .i64 l] w _
  have hm : maxLen = 9223372036854775807 := rfl
  have b1 := (show Hid (Below w.heap.size w (w.alloc (.cells #[.int .i64 kd, .string ur, .string bo, .int .i64 st, .int .i64 ke] 23))) from (Below.refl _ _).alloc (Nat.le_refl _) _)
  by_cases c1 : l - (ur.size : Int) < 0
  · go_enter Try.func4, Try.ntmps4
    go_wp2
    go_ret
    exact ⟨-1, rfl, .inl (by omega), b1.out⟩
  · by_cases c2 : l - (ur.size : Int) - (bo.size : Int) < 0
    · go_enter Try.func4, Try.ntmps4
      go_wp2
      go_ret
      exact ⟨-1, rfl, .inl (by omega), b1.out⟩
    · go_enter Try.func4, Try.ntmps4
      go_wp2
      go_ret
      exact ⟨_, rfl, .inr ⟨by omega, by omega⟩, b1.out⟩

set_option maxHeartbeats 4000000 in
set_option maxRecDepth 100000 in
theorem fnExactDeedOk_walk {d : PDeed} (w : World) (hu : d.url.size ≤ maxLen) (hp : d.page.size ≤ maxLen) :
    Calls Try.prog 3 #[deedV d] w fun e w' => e = .returned (.bool true) ∧ Below w.heap.size w w' := by
  have CZ := (show Hid (∀ W, Calls Try.prog 4 #[deedV d, .int .i64 1048576] W fun e w' => ∃ q : Int, e = .returned (.int .i64 q) ∧ (q < 0 ∨ (0 ≤ q ∧ q = 1048576 - d.url.size - d.page.size)) ∧ Below W.heap.size W w') from fun W => szDeed_any d _ W (by omega) (by omega) hu hp)
  have CT := (show Hid (∀ W, Calls Try.prog 6 #[deedV d] W fun e w' => e = .returned (deedV d) ∧ Below W.heap.size W w') from fun W => toDeed_any d W)
  have CS := (show Hid (∀ W, d.url.size ≤ 1099511627776 → d.page.size ≤ 1099511627776 → Calls Try.prog 5 #[deedV d] W fun e w' => e = .returned (.bool (deedB d)) ∧ Below W.heap.size W w') from fun W h1 h2 => sdeedOk_any d W h1 h2)
  have CI := (show Hid (∀ W, d.url.size ≤ 1099511627776 → d.page.size ≤ 1099511627776 → Calls Try.prog 7 #[deedV d] W fun e w' => e = .returned (.bool (deedB d)) ∧ Below W.heap.size W w') from fun W h1 h2 => ideedOk_any d W h1 h2)
  obtain ⟨x, hx⟩ : ∃ x, x = deedB d := ⟨_, rfl⟩
  rw [← hx] at CS CI
  clear hx
  obtain ⟨k, u, p, s, q⟩ := d
  unfold deedV at CZ CT CS CI
  simp only at CZ CT CS CI hu hp
  show Calls Try.prog 3 #[.agg #[.int .i64 k, .string u, .string p, .int .i64 s, .int .i64 q]] w _
  have eq1 : (x != x) = false := by cases x <;> rfl
  obtain ⟨w1, hw1⟩ : ∃ y, y = w.alloc (.cells #[.int .i64 k, .string u, .string p, .int .i64 s, .int .i64 q] 23) := ⟨_, rfl⟩
  have h1 := (show Hid _ from (Hl.refl w).new #[.int .i64 k, .string u, .string p, .int .i64 s, .int .i64 q] 23)
  rw [← hw1] at h1
  go_enter Try.func3, Try.ntmps3
  go_wp2_with fail
  go_at_call 4
  rw [← hw1]
  refine Calls.mono (CZ.out w1) ?_
  rintro e w2 ⟨q, rfl, hq, b2⟩
  have h2 := (show Hid _ from h1.out.below b2)
  clear hw1 h1 b2 CZ
  rcases hq with hq | ⟨hq, hqe⟩
  · go_wp2
    go_ret
    exact ⟨rfl, h2.out.1⟩
  · have hsz : u.size + p.size ≤ 1048576 := by omega
    have HU := (show Hid (u.size ≤ 1099511627776) from by show _ ≤ _; omega)
    have HP := (show Hid (p.size ≤ 1099511627776) from by show _ ≤ _; omega)
    clear hqe
    obtain ⟨c0, c1, c2, c3, c4, _⟩ := rk_fiveD h2.out.at0
    go_wp2_with fail
    go_at_call 6
    refine Calls.mono (CT.out w2) ?_
    rintro e w3 ⟨rfl, b3⟩
    have h3 := (show Hid _ from h2.out.below b3)
    clear h2 b3 c0 c1 c2 c3 c4
    go_wp2_with fail
    go_at_call 5
    refine Calls.mono (CS.out w3 HU.out HP.out) ?_
    rintro e w4 ⟨rfl, b4⟩
    have h4 := (show Hid _ from h3.out.below b4)
    clear h3 b4
    obtain ⟨c0, c1, c2, c3, c4, _⟩ := rk_fiveD h4.out.at0
    go_wp2_with fail
    go_at_call 6
    refine Calls.mono (CT.out w4) ?_
    rintro e w5 ⟨rfl, b5⟩
    have h5 := (show Hid _ from h4.out.below b5)
    clear h4 b5 c0 c1 c2 c3 c4
    go_wp2_with fail
    go_at_call 7
    refine Calls.mono (CI.out w5 HU.out HP.out) ?_
    rintro e w6 ⟨rfl, b6⟩
    have h6 := (show Hid _ from h5.out.below b6)
    clear h5 b6
    go_wp2
    go_ret
    exact ⟨rfl, h6.out.1⟩
end Go.Proofs.Ytgoedknimpdpoaa

/- A deed among the arguments: a struct of an int, two strings and two ints. -/
namespace Go.Proofs.Ytgoedknimpdpoaa
open Go.RowKit Go.ChangeShapes Go.WideShapes
set_option maxRecDepth 100000
set_option linter.unusedVariables false

section
variable {H : Type} {enc : TypeId × Value → H} {P : Program} {w : World} {base : Nat} {spare : Nat → Bool} {held : Bool}

theorem trod_deed {t : TypeId} {f0 f1 f2 f3 f4 : Field} {fuel : Nat} {cs : List Value} {x : DataW H × List MemPlace} (ht : P.underlying t = some (.struct #[f0, f1, f2, f3, f4])) (hc : P.cellsOf t = 5)
    (h0 : P.underlying f0.type = some (.int .i64)) (h1 : P.underlying f1.type = some .string) (h2 : P.underlying f2.type = some .string) (h3 : P.underlying f3.type = some (.int .i64)) (h4 : P.underlying f4.type = some (.int .i64)) (c0 : P.cellsOf f0.type = 1) (c1 : P.cellsOf f1.type = 1) (c2 : P.cellsOf f2.type = 1) (c3 : P.cellsOf f3.type = 1) (c4 : P.cellsOf f4.type = 1) (o0 : f0.offset = 0) (o1 : f1.offset = 1) (o2 : f2.offset = 2) (o3 : f3.offset = 3) (o4 : f4.offset = 4)
    (h : DataW.trod enc P w base spare held fuel t cs = some x) : ∃ p : PDeed, cs = [.int .i64 p.kind, .string p.url, .string p.page, .int .i64 p.stepN, .int .i64 p.keepN] ∧ p.url.size ≤ maxLen ∧ p.page.size ≤ maxLen := by
  obtain ⟨xs, n, _, _, hl, hx, hf⟩ := DataW.trod_struct ht h
  have e0 := hf 0 f0 rfl
  have e1 := hf 1 f1 rfl
  have e2 := hf 2 f2 rfl
  have e3 := hf 3 f3 rfl
  have e4 := hf 4 f4 rfl
  rw [c0, o0, List.drop_zero] at e0
  rw [c1, o1] at e1
  rw [c2, o2] at e2
  rw [c3, o3] at e3
  rw [c4, o4] at e4
  have hxs : xs.length = 5 := hx
  rw [List.getElem?_eq_getElem (by omega)] at e0 e1 e2 e3 e4
  rw [hc] at hl
  match cs, hl with
  | [u, v, y, a3, a4], _ =>
    simp only [List.drop_succ_cons, List.drop_zero, List.take_succ_cons, List.take_zero] at e0 e1 e2 e3 e4
    obtain ⟨a, ha, _, wa⟩ := DataW.trod_int h0 e0
    obtain ⟨b, hb, _, wb⟩ := DataW.trod_string h1 e1
    obtain ⟨c, hc, _, wc⟩ := DataW.trod_string h2 e2
    obtain ⟨d, hd, _, wd⟩ := DataW.trod_int h3 e3
    obtain ⟨e, he, _, we⟩ := DataW.trod_int h4 e4
    cases ha
    cases hb
    cases hc
    cases hd
    cases he
    exact ⟨⟨a, b, c, d, e⟩, rfl, wb, wc⟩
end
end Go.Proofs.Ytgoedknimpdpoaa
