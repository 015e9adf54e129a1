/- Blocks that a walk holds, by a list. No condition. -/
import Derived.Test.YtmpgbonolmmcpaaU11
import Derived.RangeFuncRecord
import Derived.Test.YtmpgbonolmmcpaaU16
import Derived.Test.YtmpgbonolmmcpaaU0
namespace Go.Proofs.Ytmpgbonolmmcpaa
open Go.RowKit
set_option maxRecDepth 100000
set_option linter.unusedVariables false

/-- The world W is w with more, and the listed blocks hold these cells. -/
structure Hl (w : World) (L : List (Nat × Array Value × TypeId)) (W : World) : Prop where
  bel : Below w.heap.size w W
  blk : ∀ p ∈ L, W.heap[p.1]? = some (.cells p.2.1 p.2.2 (0, 0))
theorem Hl.at {w W : World} {L : List (Nat × Array Value × TypeId)} (h : Hl w L W) {b : Nat} {cs : Array Value} {t : TypeId} (hm : (b, cs, t) ∈ L) : W.heap[b]? = some (.cells cs t (0, 0)) := h.2 _ hm
theorem Hl.at0 {w W : World} {L : List (Nat × Array Value × TypeId)} {b : Nat} {cs : Array Value} {t : TypeId} (h : Hl w ((b, cs, t) :: L) W) : W.heap[b]? = some (.cells cs t (0, 0)) := h.2 _ (List.mem_cons_self ..)
theorem Hl.at1 {w W : World} {L : List (Nat × Array Value × TypeId)} {p : Nat × Array Value × TypeId} {b : Nat} {cs : Array Value} {t : TypeId} (h : Hl w (p :: (b, cs, t) :: L) W) : W.heap[b]? = some (.cells cs t (0, 0)) := h.2 _ (List.mem_cons_of_mem _ (List.mem_cons_self ..))
theorem Hl.at2 {w W : World} {L : List (Nat × Array Value × TypeId)} {p q : Nat × Array Value × TypeId} {b : Nat} {cs : Array Value} {t : TypeId} (h : Hl w (p :: q :: (b, cs, t) :: L) W) : W.heap[b]? = some (.cells cs t (0, 0)) := h.2 _ (List.mem_cons_of_mem _ (List.mem_cons_of_mem _ (List.mem_cons_self ..)))
theorem Hl.at3 {w W : World} {L : List (Nat × Array Value × TypeId)} {p q r : Nat × Array Value × TypeId} {b : Nat} {cs : Array Value} {t : TypeId} (h : Hl w (p :: q :: r :: (b, cs, t) :: L) W) : W.heap[b]? = some (.cells cs t (0, 0)) := h.2 _ (List.mem_cons_of_mem _ (List.mem_cons_of_mem _ (List.mem_cons_of_mem _ (List.mem_cons_self ..))))
theorem Hl.refl (w : World) : Hl w [] w := ⟨Below.refl _ _, fun p hp => absurd hp (by simp)⟩
theorem Hl.below {w W W' : World} {L : List (Nat × Array Value × TypeId)} (h : Hl w L W) (b : Below W.heap.size W W') : Hl w L W' := ⟨h.1.trans (b.mono h.1.size), fun p hp => (b.block _ (lt_of_block (h.2 p hp))).trans (h.2 p hp)⟩
theorem Hl.new {w W : World} {L : List (Nat × Array Value × TypeId)} (h : Hl w L W) (cs : Array Value) (t : TypeId) : Hl w ((W.heap.size, cs, t) :: L) (W.alloc (.cells cs t)) := by
  have hb : Below W.heap.size W (W.alloc (.cells cs t)) := (Below.refl _ _).alloc (Nat.le_refl _) _
  refine ⟨(h.below hb).1, fun p hp => ?_⟩
  rcases List.mem_cons.mp hp with rfl | hp
  · exact World.alloc_heap_new _ _
  · exact (h.below hb).2 p hp
theorem Hl.tail {w W : World} {p : Nat × Array Value × TypeId} {L : List (Nat × Array Value × TypeId)} (h : Hl w (p :: L) W) : Hl w L W := ⟨h.1, fun q hq => h.2 q (List.mem_cons_of_mem _ hq)⟩
theorem Hl.lt {w W : World} {L : List (Nat × Array Value × TypeId)} (h : Hl w L W) {p : Nat × Array Value × TypeId} (hm : p ∈ L) : p.1 < W.heap.size := lt_of_block (h.2 p hm)
/-- A cell of the first block is set. -/
theorem Hl.set {w W : World} {L : List (Nat × Array Value × TypeId)} {N : Nat} {cs : Array Value} {t : TypeId} (h : Hl w ((N, cs, t) :: L) W) (hN : w.heap.size ≤ N) (hL : ∀ p ∈ L, p.1 ≠ N) (k : Nat) (u : Value) : Hl w ((N, cs.setIfInBounds k u, t) :: L) (W.setCell ⟨N, k, none⟩ u) := by
  refine ⟨h.1.setCell (p := ⟨N, k, none⟩) hN _, fun p hp => ?_⟩
  rcases List.mem_cons.mp hp with rfl | hp
  · exact rk_at h.at0
  · have hg := grown_setCell W N k u
    have hp' := h.2 p (List.mem_cons_of_mem _ hp)
    exact (hg.block p.1 (lt_of_block hp') (fun e => hL p hp (Option.some.inj e))).trans hp'
theorem Hl.set2 {w W : World} {L : List (Nat × Array Value × TypeId)} {N : Nat} {x y : Value} {t : TypeId} (h : Hl w ((N, #[x, y], t) :: L) W) (hN : w.heap.size ≤ N) (hL : ∀ p ∈ L, p.1 ≠ N) (a b : Value) : Hl w ((N, #[a, b], t) :: L) ((W.setCell ⟨N, 0, none⟩ a).setCell ⟨N, 1, none⟩ b) := (h.set hN hL 0 a).set hN hL 1 b
theorem Hl.set3 {w W : World} {L : List (Nat × Array Value × TypeId)} {N : Nat} {x y z : Value} {t : TypeId} (h : Hl w ((N, #[x, y, z], t) :: L) W) (hN : w.heap.size ≤ N) (hL : ∀ p ∈ L, p.1 ≠ N) (a b c : Value) : Hl w ((N, #[a, b, c], t) :: L) (((W.setCell ⟨N, 0, none⟩ a).setCell ⟨N, 1, none⟩ b).setCell ⟨N, 2, none⟩ c) := ((h.set hN hL 0 a).set hN hL 1 b).set hN hL 2 c
theorem Hl.swap {w W : World} {p q : Nat × Array Value × TypeId} {L : List (Nat × Array Value × TypeId)} (h : Hl w (p :: q :: L) W) : Hl w (q :: p :: L) W := ⟨h.1, fun r hr => h.2 r (by simp only [List.mem_cons] at hr ⊢; rcases hr with hr | hr | hr <;> simp [hr])⟩
theorem Hl.past {w W W' : World} {L : List (Nat × Array Value × TypeId)} (h : Hl w L W) {row : Option Nat} (g : W.grownBy W' row) (hr : ∀ r, row = some r → w.heap.size ≤ r ∧ ∀ p ∈ L, p.1 ≠ r) : Hl w L W' := ⟨h.1.grown g h.1.size (fun r e => (hr r e).1), fun p hp => (g.block _ (lt_of_block (h.2 p hp)) (fun e => by
    subst e; exact (hr p.1 rfl).2 p hp rfl)).trans (h.2 p hp)⟩
theorem Hl.sub {w W : World} {L L' : List (Nat × Array Value × TypeId)} (h : Hl w L W) (hs : ∀ p ∈ L', p ∈ L) : Hl w L' W := ⟨h.1, fun p hp => h.2 p (hs p hp)⟩
end Go.Proofs.Ytmpgbonolmmcpaa

/- The specification's RecordPack. No condition. -/
namespace Go.Proofs.Ytmpgbonolmmcpaa
open Go.RowKit
set_option maxRecDepth 100000
set_option linter.unusedVariables false

theorem toListR_loop (s : ByteArray) : ∀ (n i : Nat) (r : List UInt8), s.size - i = n → (r ≠ [] ∨ 0 < n) → (ByteArray.toList.loop s i r).isEmpty = false
  | 0, i, r, h, hr => by
    rw [ByteArray.toList.loop]
    rw [if_neg (by omega)]
    rcases hr with hr | hr
    · cases r with
      | nil => exact absurd rfl hr
      | cons a l => simp
    · omega
  | n + 1, i, r, h, hr => by
    rw [ByteArray.toList.loop]
    rw [if_pos (by omega)]
    exact toListR_loop s n (i + 1) _ (by omega) (.inl (by simp))
theorem emptyS_of {s : ByteArray} (h : s.size = 0) : s = emptyS := by
  cases s with
  | mk d =>
    have : d = #[] := Array.size_eq_zero_iff.mp h
    rw [this]; rfl
theorem emptyS_ne {s : ByteArray} (h : s ≠ emptyS) : s.toList.isEmpty = false := toListR_loop s s.size 0 [] rfl (.inr (Nat.pos_of_ne_zero (fun e => h (emptyS_of e))))
theorem emptyS_yes : emptyS.toList.isEmpty = true := by unfold ByteArray.toList; rw [ByteArray.toList.loop]; rfl
theorem recB_kind {r : PRec} (h : recB r = true) : (r.kind = 1 ∨ r.kind = 2) ∧ urlB r.url = true ∧ (r.kind = 2 → r.body = emptyS) := by
  simp only [recB, Bool.and_eq_true, Bool.or_eq_true, decide_eq_true_eq, Bool.not_eq_true', Bool.and_eq_false_iff, decide_eq_false_iff_not, ne_eq, Decidable.not_not] at h
  obtain ⟨⟨h1, h2⟩, h3⟩ := h
  exact ⟨h1, h2, fun e => h3.resolve_left (fun f => f e)⟩

set_option maxHeartbeats 400000 in
set_option maxRecDepth 100000 in
theorem srecPack_any (r : PRec) (w : World) (hu : r.url.size ≤ 1099511627776) (hb : r.body.size ≤ 1099511627776) :
    Calls Try.prog 15 #[recV r] w fun e w' => ∃ v, e = .returned (.tuple #[v, .bool (packR r).2]) ∧ Own w.heap.size 5 .u8 w' v (packR r).1 ∧ Below w.heap.size w w' := by
  have CU := (show Hid (∀ W, Calls Try.prog 27 #[.string r.url] W fun e w' => e = .returned (.bool (urlB r.url)) ∧ w' = W) from fun W => surlOk_any r.url W hu)
  have HP := (show Hid (packR r = if recB r = true then (recL r, true) else ([], false)) from rfl)
  obtain ⟨kd, ur, bo⟩ := r
  unfold recV
  simp only at CU hu hb ⊢
  obtain ⟨w1, hw1⟩ : ∃ y, y = w.alloc (.cells #[.int .i64 kd, .string ur, .string bo] 25) := ⟨_, rfl⟩
  have h1 := (Hl.refl w).new #[.int .i64 kd, .string ur, .string bo] 25
  rw [← hw1] at h1
  have H1 := (show Hid _ from h1)
  clear h1
  have NO := (show Hid (recB ⟨kd, ur, bo⟩ = false → packR ⟨kd, ur, bo⟩ = ([], false)) from fun e => by rw [HP.out, if_neg (by rw [e]; decide)])
  have hs1 : w1.heap.size = w.heap.size + 1 := by rw [hw1, World.size_alloc]
  have OE : Hid (Own w.heap.size 5 .u8 (w1.alloc (.cells #[] 5)) (.slice (some ⟨w.heap.size + 1, 0, none⟩) 0 0) []) := (show Own w.heap.size 5 .u8 (w1.alloc (.cells #[] 5)) (.slice (some ⟨w.heap.size + 1, 0, none⟩) 0 0) [] by
    have := own_empty 5 .u8 w1
    rw [hs1] at this
    exact this.base (Nat.le_succ _))
  have OE1 := (show Hid (Own w.heap.size 5 .u8 (w1.alloc (.cells #[] 5)) (.slice (some ⟨w1.heap.size, 0, none⟩) 0 0) []) from (own_empty 5 .u8 w1).base H1.out.1.size)
  clear hs1
  by_cases hk : kd = 1 ∨ kd = 2
  · cases hq : urlB ur
    · have HR := (show Hid (packR ⟨kd, ur, bo⟩ = ([], false)) from NO.out (by simp [recB, hq]))
      rw [hq] at CU
      clear hq
      rcases hk with rfl | rfl
      · go_enter Try.func15, Try.ntmps15
        go_wp2_with (go_at_call 27
                     rw [← hw1]
                     refine Calls.mono (CU.out _) ?_
                     rintro e w2 ⟨rfl, e2⟩
                     replace e2 := e2.symm
                     subst e2
                     clear hw1)
        go_ret2
        exact ⟨_, by rw [HR.out]; rfl, (by rw [HR.out]; first | exact OE.out | exact OE1.out), H1.out.1.alloc H1.out.1.size _⟩
      · go_enter Try.func15, Try.ntmps15
        go_wp2_with (go_at_call 27
                     rw [← hw1]
                     refine Calls.mono (CU.out _) ?_
                     rintro e w2 ⟨rfl, e2⟩
                     replace e2 := e2.symm
                     subst e2
                     clear hw1)
        go_ret2
        exact ⟨_, by rw [HR.out]; rfl, (by rw [HR.out]; first | exact OE.out | exact OE1.out), H1.out.1.alloc H1.out.1.size _⟩
    · rw [hq] at CU
      have HQ := (show Hid (urlB ur = true) from hq)
      obtain ⟨i0, hi, hz0, hz1, hz2⟩ := info_parts Try.infoB
      clear hq
      rcases hk with rfl | rfl
      · have HR : Hid (packR ⟨1, ur, bo⟩ = (form 1 ++ textForm ur ++ textForm bo, true)) := (show packR ⟨1, ur, bo⟩ = _ by rw [HP.out, if_pos (by simp [recB, HQ.out])]; rfl)
        have C3 := (show Hid (∀ W, Calls Try.prog 55 #[.string bo] W fun e w' => ∃ v, e = .returned v ∧ Own W.heap.size 5 .u8 w' v (textForm bo) ∧ Below W.heap.size W w') from fun W => sputText_any bo W hb)
        have L2 := (show Hid ((textForm bo).length ≤ 9 + bo.size ∧ (form 1 ++ textForm ur).length ≤ 9 + (9 + ur.size)) from ⟨textForm_len _, by rw [List.length_append]; have := form_len 1; have := textForm_len ur; omega⟩)
        have KD := (show Hid (Below w1.heap.size w1 w1.drew) from below_drewN 1)
        have HS := (show Hid (∀ W, Below w1.heap.size w1 W → W.cell? ⟨w.heap.size, 0, none⟩ = some (.int .i64 1) ∧ W.cell? ⟨w.heap.size, 1, none⟩ = some (.string ur) ∧ W.cell? ⟨w.heap.size, 2, none⟩ = some (.string bo)) from fun W b => by
          obtain ⟨p0, p1, p2, _⟩ := rk_three (H1.out.below b).at0
          exact ⟨p0, p1, p2⟩)
        have C1 := (show Hid (∀ W, Calls Try.prog 54 #[.int .i64 1] W fun e w' => ∃ v, e = .returned v ∧ Own W.heap.size 5 .u8 w' v (form 1) ∧ Below W.heap.size W w') from fun W => snum_any 1 W (by omega))
        have C2 := (show Hid (∀ W, Calls Try.prog 55 #[.string ur] W fun e w' => ∃ v, e = .returned v ∧ Own W.heap.size 5 .u8 w' v (textForm ur) ∧ Below W.heap.size W w') from fun W => sputText_any ur W hu)
        have L1 := (show Hid ((form 1).length ≤ 9 ∧ (textForm ur).length ≤ 9 + ur.size) from ⟨form_len _, textForm_len _⟩)
        go_enter Try.func15, Try.ntmps15
        go_wp2_with (go_at_call 27
                     rw [← hw1]
                     refine Calls.mono (CU.out _) ?_
                     rintro e w2 ⟨rfl, e2⟩
                     replace e2 := e2.symm
                     subst e2
                     clear hw1
                     obtain ⟨d1, d2, d3⟩ := HS.out _ (Below.refl _ _))
        go_region_held3 (fun w' => w'.cell? ⟨w.heap.size, 0, none⟩ = some (.int .i64 1) ∧ w'.cell? ⟨w.heap.size, 1, none⟩ = some (.string ur) ∧ w'.cell? ⟨w.heap.size, 2, none⟩ = some (.string bo))
          (first | exact HS.out _ KD.out | exact HS.out _ B3.out | exact HS.out _ B4.out | exact HS.out _ B5.out)
          (first
            | (go_at_call 54
               with_reducible refine Calls.mono (C1.out _) ?_
               rintro e w3 ⟨v3, rfl, o3, b3⟩
               have B3 := (show Hid (Below w1.heap.size w1 w3) from KD.out.trans (b3.mono KD.out.size))
               have O3 := (show Hid (Own w1.heap.size 5 .u8 w3 v3 (form 1)) from o3.base KD.out.size)
               clear b3 o3)
            | (go_at_call 55
               with_reducible refine Calls.mono (C2.out _) ?_
               rintro e w4 ⟨v4, rfl, o4, b4⟩
               have B4 := (show Hid (Below w1.heap.size w1 w4) from B3.out.trans (b4.mono B3.out.size))
               have O34 := (show Hid (Own w1.heap.size 5 .u8 w4 v3 (form 1)) from O3.out.below b4)
               have O4 := (show Hid (Own w3.heap.size 5 .u8 w4 v4 (textForm ur)) from o4)
               clear b4 o4)
            | (refine step_appS rfl _ _ 22 rfl w1.heap.size 5 i0 (.int .u8 0) 1 1 Try.underlying22 hi hz0 hz1 hz2 rfl (by decide) v3 (form 1).length ((form 1).map (Value.int .u8)) rfl O34.out v4 (textForm ur).length ((textForm ur).map (Value.int .u8)) rfl (sv_of_own O4.out) (by simp) (ints_oneCell _ _) (by have := L1.out; unfold maxLen; omega) (by have := L1.out; omega) B4.out.size ?_
               intro v5 w5 o5 g5
               have B5 := (show Hid (Below w1.heap.size w1 w5) from B4.out.grown g5 B4.out.size (fun r e => (World.ownsRow.lt O34.out r e).1))
               have O5 := (show Hid (Own w1.heap.size 5 .u8 w5 v5 (form 1 ++ textForm ur)) from by show World.ownsRow _ _ _ _ _ _ _; rw [List.length_append, List.map_append]; exact o5)
               clear o5 g5))
        obtain ⟨d1, d2, d3⟩ := HS.out _ B5.out
        have S1 := (show Hid (w.heap.size ≤ w1.heap.size) from H1.out.1.size)
        go_wp2_with (first
          | (go_at_call 55
             with_reducible refine Calls.mono (C3.out _) ?_
             rintro e w6 ⟨v6, rfl, o6, b6⟩
             have B6 := (show Hid (Below w1.heap.size w1 w6) from B5.out.trans (b6.mono B5.out.size))
             have O56 := (show Hid (Own w1.heap.size 5 .u8 w6 v5 (form 1 ++ textForm ur)) from O5.out.below b6)
             have O6 := (show Hid (Own w5.heap.size 5 .u8 w6 v6 (textForm bo)) from o6)
             clear b6 o6)
          | (at_builtin
             refine wpList_app _ rfl _ _ 22 rfl w1.heap.size 5 i0 (.int .u8 0) 1 Try.underlying22 hi hz0 hz1 hz2 rfl .u8 v5 v6 (form 1 ++ textForm ur) (textForm bo) rfl rfl O56.out O6.out.sl (by have := L2.out; omega) (by have := L2.out; unfold maxLen; omega) B6.out.size ?_
             intro v7 w7 o7 g7
             have B7 := (show Hid (Below w1.heap.size w1 w7) from B6.out.grown g7 B6.out.size (fun r e => (World.ownsRow.lt O56.out r e).1))
             have O7 := (show Hid (Own w1.heap.size 5 .u8 w7 v7 (form 1 ++ textForm ur ++ textForm bo)) from o7)
             clear o7 g7))
        go_ret2
        exact ⟨_, by rw [HR.out]; rfl, (by rw [HR.out]; exact O7.out.base S1.out), H1.out.1.trans (B7.out.mono S1.out)⟩
      · by_cases hbo : bo = emptyS
        · have HR : Hid (packR ⟨2, ur, bo⟩ = (form 2 ++ textForm ur, true)) := (show packR ⟨2, ur, bo⟩ = _ by rw [HP.out, if_pos (by simp [recB, HQ.out, hbo])]; simp [recL])
          have hbe : bo.toList.isEmpty = true := by rw [hbo]; exact emptyS_yes
          clear hbo
          have KD := (show Hid (Below w1.heap.size w1 w1.drew) from below_drewN 1)
          have HS := (show Hid (∀ W, Below w1.heap.size w1 W → W.cell? ⟨w.heap.size, 0, none⟩ = some (.int .i64 2) ∧ W.cell? ⟨w.heap.size, 1, none⟩ = some (.string ur) ∧ W.cell? ⟨w.heap.size, 2, none⟩ = some (.string bo)) from fun W b => by
            obtain ⟨p0, p1, p2, _⟩ := rk_three (H1.out.below b).at0
            exact ⟨p0, p1, p2⟩)
          have C1 := (show Hid (∀ W, Calls Try.prog 54 #[.int .i64 2] W fun e w' => ∃ v, e = .returned v ∧ Own W.heap.size 5 .u8 w' v (form 2) ∧ Below W.heap.size W w') from fun W => snum_any 2 W (by omega))
          have C2 := (show Hid (∀ W, Calls Try.prog 55 #[.string ur] W fun e w' => ∃ v, e = .returned v ∧ Own W.heap.size 5 .u8 w' v (textForm ur) ∧ Below W.heap.size W w') from fun W => sputText_any ur W hu)
          have L1 := (show Hid ((form 2).length ≤ 9 ∧ (textForm ur).length ≤ 9 + ur.size) from ⟨form_len _, textForm_len _⟩)
          go_enter Try.func15, Try.ntmps15
          go_wp2_with (go_at_call 27
                       rw [← hw1]
                       refine Calls.mono (CU.out _) ?_
                       rintro e w2 ⟨rfl, e2⟩
                       replace e2 := e2.symm
                       subst e2
                       clear hw1
                       obtain ⟨d1, d2, d3⟩ := HS.out _ (Below.refl _ _))
          go_region_held3 (fun w' => w'.cell? ⟨w.heap.size, 0, none⟩ = some (.int .i64 2) ∧ w'.cell? ⟨w.heap.size, 1, none⟩ = some (.string ur) ∧ w'.cell? ⟨w.heap.size, 2, none⟩ = some (.string bo))
            (first | exact HS.out _ KD.out | exact HS.out _ B3.out | exact HS.out _ B4.out | exact HS.out _ B5.out)
            (first
              | (go_at_call 54
                 with_reducible refine Calls.mono (C1.out _) ?_
                 rintro e w3 ⟨v3, rfl, o3, b3⟩
                 have B3 := (show Hid (Below w1.heap.size w1 w3) from KD.out.trans (b3.mono KD.out.size))
                 have O3 := (show Hid (Own w1.heap.size 5 .u8 w3 v3 (form 2)) from o3.base KD.out.size)
                 clear b3 o3)
              | (go_at_call 55
                 with_reducible refine Calls.mono (C2.out _) ?_
                 rintro e w4 ⟨v4, rfl, o4, b4⟩
                 have B4 := (show Hid (Below w1.heap.size w1 w4) from B3.out.trans (b4.mono B3.out.size))
                 have O34 := (show Hid (Own w1.heap.size 5 .u8 w4 v3 (form 2)) from O3.out.below b4)
                 have O4 := (show Hid (Own w3.heap.size 5 .u8 w4 v4 (textForm ur)) from o4)
                 clear b4 o4)
              | (refine step_appS rfl _ _ 22 rfl w1.heap.size 5 i0 (.int .u8 0) 1 1 Try.underlying22 hi hz0 hz1 hz2 rfl (by decide) v3 (form 2).length ((form 2).map (Value.int .u8)) rfl O34.out v4 (textForm ur).length ((textForm ur).map (Value.int .u8)) rfl (sv_of_own O4.out) (by simp) (ints_oneCell _ _) (by have := L1.out; unfold maxLen; omega) (by have := L1.out; omega) B4.out.size ?_
                 intro v5 w5 o5 g5
                 have B5 := (show Hid (Below w1.heap.size w1 w5) from B4.out.grown g5 B4.out.size (fun r e => (World.ownsRow.lt O34.out r e).1))
                 have O5 := (show Hid (Own w1.heap.size 5 .u8 w5 v5 (form 2 ++ textForm ur)) from by show World.ownsRow _ _ _ _ _ _ _; rw [List.length_append, List.map_append]; exact o5)
                 clear o5 g5))
          obtain ⟨d1, d2, d3⟩ := HS.out _ B5.out
          have S1 := (show Hid (w.heap.size ≤ w1.heap.size) from H1.out.1.size)
          go_wp2
          go_ret2
          exact ⟨_, by rw [HR.out]; rfl, (by rw [HR.out]; exact O5.out.base S1.out), H1.out.1.trans (B5.out.mono S1.out)⟩
        · have HR := (show Hid (packR ⟨2, ur, bo⟩ = ([], false)) from NO.out (by simp [recB, hbo]))
          have hbe : bo.toList.isEmpty = false := emptyS_ne hbo
          clear hbo
          have HS := (show Hid (∀ W, Below w1.heap.size w1 W → W.cell? ⟨w.heap.size, 0, none⟩ = some (.int .i64 2) ∧ W.cell? ⟨w.heap.size, 1, none⟩ = some (.string ur) ∧ W.cell? ⟨w.heap.size, 2, none⟩ = some (.string bo)) from fun W b => by
            obtain ⟨p0, p1, p2, _⟩ := rk_three (H1.out.below b).at0
            exact ⟨p0, p1, p2⟩)
          go_enter Try.func15, Try.ntmps15
          go_wp2_with (go_at_call 27
                       rw [← hw1]
                       refine Calls.mono (CU.out _) ?_
                       rintro e w2 ⟨rfl, e2⟩
                       replace e2 := e2.symm
                       subst e2
                       clear hw1
                       obtain ⟨d1, d2, d3⟩ := HS.out _ (Below.refl _ _))
          go_ret2
          exact ⟨_, by rw [HR.out]; rfl, (by rw [HR.out]; first | exact OE.out | exact OE1.out), H1.out.1.alloc H1.out.1.size _⟩
  · have HR := (show Hid (packR ⟨kd, ur, bo⟩ = ([], false)) from NO.out (by
      have h1 : ¬ kd = 1 := fun e => hk (.inl e)
      have h2 : ¬ kd = 2 := fun e => hk (.inr e)
      simp [recB, h1, h2]))
    have h1 : ¬ kd = 1 := fun e => hk (.inl e)
    have h2 : ¬ kd = 2 := fun e => hk (.inr e)
    have e1 : (kd == 1) = false := by simp [h1]
    have e2 : (kd == 2) = false := by simp [h2]
    have e3 : (kd != 1) = true := by simp [h1]
    have e4 : (kd != 2) = true := by simp [h2]
    clear hk
    go_enter Try.func15, Try.ntmps15
    go_wp2_with fail
    rw [← hw1]
    go_ret2
    exact ⟨_, by rw [HR.out]; rfl, (by rw [HR.out]; first | exact OE.out | exact OE1.out), H1.out.1.alloc H1.out.1.size _⟩
end Go.Proofs.Ytmpgbonolmmcpaa

/- The exact laws of UrlOk and RecordPack from their contracts. -/
namespace Go.Proofs.Ytmpgbonolmmcpaa
open Go.RowKit
set_option maxRecDepth 100000
set_option linter.unusedVariables false

def UrlOkOk : Prop := ∀ (s : ByteArray) (w : World), s.size ≤ 1099511627776 → Calls Try.prog 20 #[.string s] w fun e w' => e = .returned (.bool (urlB s)) ∧ Below w.heap.size w w'
def RecordPackOk : Prop := ∀ (r : PRec) (w : World), r.url.size ≤ 1099511627776 → r.body.size ≤ 1099511627776 → Calls Try.prog 14 #[recV r] w fun e w' => ∃ v, e = .returned (.tuple #[v, .bool (packR r).2]) ∧ Own w.heap.size 5 .u8 w' v (packR r).1 ∧ Below w.heap.size w w'

theorem fnExactUrlOk_of (H : UrlOkOk) {s : ByteArray} (w : World) (hs : s.size ≤ maxLen) :
    Calls Try.prog 5 #[.string s] w fun e w' => e = .returned (.bool true) ∧ Below w.heap.size w w' := by
  by_cases hle : s.size ≤ 1048576
  · have CS := (show Hid (∀ W, Calls Try.prog 27 #[.string s] W fun e w' => e = .returned (.bool (urlB s)) ∧ w' = W) from fun W => surlOk_any s W (by omega))
    have CI := (show Hid (∀ W, Calls Try.prog 20 #[.string s] W fun e w' => e = .returned (.bool (urlB s)) ∧ Below W.heap.size W w') from fun W => H s W (by omega))
    obtain ⟨q, hq⟩ : ∃ q, q = urlB s := ⟨_, rfl⟩
    rw [← hq] at CS CI
    clear hq H
    go_enter Try.func5, Try.ntmps5
    go_wp2_with fail
    go_at_call 27
    refine Calls.mono (CS.out _) ?_
    rintro e w1 ⟨rfl, e1⟩
    subst e1
    go_wp2_with fail
    go_at_call 20
    refine Calls.mono (CI.out _) ?_
    rintro e w2 ⟨rfl, b2⟩
    have eq1 : (q != q) = false := by cases q <;> rfl
    go_wp2
    go_ret
    exact ⟨rfl, b2⟩
  · go_enter Try.func5, Try.ntmps5
    go_wp2
    go_ret
    exact ⟨rfl, Below.refl _ _⟩

set_option maxRecDepth 100000 in
theorem toRecord_any (r : PRec) (w : World) : Calls Try.prog 29 #[recV r] w fun e w' => e = .returned (recV r) ∧ Below w.heap.size w w' := by
  obtain ⟨no, ar, en⟩ := r
  show Calls Try.prog 29 #[.agg #[.int .i64 no, .string ar, .string en]] w _
  have h1 := (((Hl.refl w).new #[.int .i64 no, .string ar, .string en] 45).new #[.int .i64 no, .string ar, .string en] 25).new #[.int .i64 no, .string ar, .string en] 25
  rw [World.size_alloc, World.size_alloc] at h1
  have H1 := (show Hid _ from h1)
  clear h1
  go_enter Try.func29, Try.ntmps29
  go_wp2
  refine bodyPost_ret (results_cell_row rfl _ _ (w.heap.size + 1) 25 #[.int .i64 no, .string ar, .string en] (0, 0) _ rfl H1.out.at1 Try.underlying25 rfl rfl) rfl ?_
  exact ⟨rfl, H1.out.1⟩
set_option maxRecDepth 100000 in
theorem szRecord_any (r : PRec) (l : Int) (w : World) (h0 : 0 ≤ l) (h1 : l ≤ 1099511627776) (ha : r.url.size ≤ maxLen) (hb : r.body.size ≤ maxLen) :
    Calls Try.prog 28 #[recV r, .int .i64 l] w fun e w' => ∃ q : Int, e = .returned (.int .i64 q) ∧ (q < 0 ∨ (0 ≤ q ∧ q = l - r.url.size - r.body.size)) ∧ Below w.heap.size w w' := by
  obtain ⟨kd, ur, bo⟩ := r
  simp only at ha hb ⊢
  show Calls Try.prog 28 #[.agg #[.int .i64 kd, .string ur, .string bo], .int .i64 l] w _
  have hm : maxLen = 9223372036854775807 := rfl
  have b1 := (show Hid (Below w.heap.size w (w.alloc (.cells #[.int .i64 kd, .string ur, .string bo] 45))) from (Below.refl _ _).alloc (Nat.le_refl _) _)
  by_cases c1 : l - (ur.size : Int) < 0
  · go_enter Try.func28, Try.ntmps28
    go_wp2
    go_ret
    exact ⟨-1, rfl, .inl (by omega), b1.out⟩
  · by_cases c2 : l - (ur.size : Int) - (bo.size : Int) < 0
    · go_enter Try.func28, Try.ntmps28
      go_wp2
      go_ret
      exact ⟨-1, rfl, .inl (by omega), b1.out⟩
    · go_enter Try.func28, Try.ntmps28
      go_wp2
      go_ret
      exact ⟨_, rfl, .inr ⟨by omega, by omega⟩, b1.out⟩
end Go.Proofs.Ytmpgbonolmmcpaa

/- The exact law of RecordPack from its contract. -/
namespace Go.Proofs.Ytmpgbonolmmcpaa
open Go.RowKit
set_option maxRecDepth 100000
set_option linter.unusedVariables false

theorem packR_len (r : PRec) : (packR r).1.length ≤ 27 + r.url.size + r.body.size := by
  unfold packR
  split
  · have h1 := form_len r.kind
    have h2 := textForm_len r.url
    have h3 := textForm_len r.body
    show (recL r).length ≤ _
    unfold recL
    rw [List.length_append, List.length_append]
    split
    · omega
    · rw [List.length_nil]; omega
  · simp

set_option maxHeartbeats 1000000 in
set_option maxRecDepth 100000 in
theorem fnExactRecordPack_of (H : RecordPackOk) {r : PRec} (w : World) (k0 : (Lit.int .i64 r.kind).wf = true) (ha : r.url.size ≤ maxLen) (hb : r.body.size ≤ maxLen) :
    Calls Try.prog 6 #[recV r] w fun e w' => e = .returned (.bool true) ∧ Below w.heap.size w w' := by
  have CZ := (show Hid (∀ W, Calls Try.prog 28 #[recV r, .int .i64 1048576] W fun e w' => ∃ q : Int, e = .returned (.int .i64 q) ∧ (q < 0 ∨ (0 ≤ q ∧ q = 1048576 - r.url.size - r.body.size)) ∧ Below W.heap.size W w') from fun W => szRecord_any r 1048576 W (by omega) (by omega) ha hb)
  have CT := (show Hid _ from toRecord_any r)
  have LP := packR_len r
  have CS := (show Hid (∀ W, (r.url.size ≤ 1099511627776 ∧ r.body.size ≤ 1099511627776) → Calls Try.prog 15 #[recV r] W fun e w' => ∃ v, e = .returned (.tuple #[v, .bool (packR r).2]) ∧ Own W.heap.size 5 .u8 w' v (packR r).1 ∧ Below W.heap.size W w') from fun W h => srecPack_any r W h.1 h.2)
  have CI := (show Hid (∀ W, (r.url.size ≤ 1099511627776 ∧ r.body.size ≤ 1099511627776) → Calls Try.prog 14 #[recV r] W fun e w' => ∃ v, e = .returned (.tuple #[v, .bool (packR r).2]) ∧ Own W.heap.size 5 .u8 w' v (packR r).1 ∧ Below W.heap.size W w') from fun W h => H r W h.1 h.2)
  obtain ⟨⟨L, ok⟩, hp⟩ : ∃ p, p = packR r := ⟨_, rfl⟩
  rw [← hp] at CS CI LP
  simp only at CS CI LP
  clear hp H k0
  obtain ⟨kd, ur, bo⟩ := r
  unfold recV at CZ CT CS CI
  simp only at CZ CT CS CI LP ha hb
  show Calls Try.prog 6 #[.agg #[.int .i64 kd, .string ur, .string bo]] w _
  have eq1 : (ok != ok) = false := by cases ok <;> rfl
  obtain ⟨w1, hw1⟩ : ∃ y, y = w.alloc (.cells #[.int .i64 kd, .string ur, .string bo] 45) := ⟨_, rfl⟩
  have h1 := (show Hid _ from (Hl.refl w).new #[.int .i64 kd, .string ur, .string bo] 45)
  rw [← hw1] at h1
  go_enter Try.func6, Try.ntmps6
  go_wp2_with fail
  go_at_call 28
  rw [← hw1]
  refine Calls.mono (CZ.out w1) ?_
  rintro e w2 ⟨q, rfl, hq, b2⟩
  have h2 := (show Hid _ from h1.out.below b2)
  clear hw1 h1 b2 CZ
  rcases hq with hq | ⟨hq, hqe⟩
  · go_wp2
    go_ret
    exact ⟨rfl, h2.out.1⟩
  · have hsz : ur.size + bo.size ≤ 1048576 := by omega
    have HZ := (show Hid (ur.size ≤ 1099511627776 ∧ bo.size ≤ 1099511627776) from ⟨by omega, by omega⟩)
    have LL : L.length ≤ 1048603 := by omega
    clear hqe
    obtain ⟨c0, c1, c2, _⟩ := rk_three h2.out.at0
    go_wp2_with fail
    go_at_call 29
    refine Calls.mono (CT.out w2) ?_
    rintro e w3 ⟨rfl, b3⟩
    have h3 := (show Hid _ from h2.out.below b3)
    clear h2 b3 c0 c1 c2
    go_wp2_with fail
    go_at_call 15
    refine Calls.mono (CS.out w3 HZ.out) ?_
    rintro e w4 ⟨v4, rfl, o1, b4⟩
    have h4 := (show Hid _ from h3.out.below b4)
    have bs4 : w.heap.size ≤ w3.heap.size := h3.out.1.size
    clear h3 b4 CS
    obtain ⟨c0, c1, c2, _⟩ := rk_three h4.out.at0
    go_wp2_with fail
    go_at_call 29
    refine Calls.mono (CT.out w4) ?_
    rintro e w5 ⟨rfl, b5⟩
    have h5 := (show Hid _ from h4.out.below b5)
    replace o1 := o1.below b5
    clear h4 b5 c0 c1 c2
    go_wp2_with fail
    go_at_call 14
    refine Calls.mono (CI.out w5 HZ.out) ?_
    rintro e w6 ⟨v6, rfl, o2, b6⟩
    have h6 := (show Hid _ from h5.out.below b6)
    have d12 := o1.ne o2
    replace o1 := o1.below b6
    have bs6 : w.heap.size ≤ w5.heap.size := h5.out.1.size
    have hn : w.heap.size < w5.heap.size := lt_of_block h5.out.at0
    clear h5 b6
    go_wp2_with fail
    go_at_call 30
    refine (eqB_any o2.sl o1.sl (by omega) (by omega)).mono ?_
    rintro e w7 ⟨rfl, b7⟩
    have h7 := (show Hid _ from h6.out.below b7)
    replace o1 := o1.below b7
    replace o2 := o2.below b7
    clear h6 b7
    go_wp2_with fail
    go_at_call 31
    refine (markB_any o2 (by omega) (by omega) (by omega)).mono ?_
    rintro e w8 ⟨rfl, o2', g8⟩
    replace o1 := o1.kept g8 d12
    have h8 := (show Hid _ from h7.out.past g8 (fun k e => ⟨Nat.le_trans bs6 (o2.lt k e).1, fun p hp => by
      simp only [List.mem_cons, List.not_mem_nil, or_false] at hp
      rw [hp]
      have := (o2.lt k e).1
      show w.heap.size ≠ k
      omega⟩))
    clear h7 g8 o2 d12
    obtain ⟨c0, c1, c2, _⟩ := rk_three h8.out.at0
    go_wp2_with fail
    go_at_call 32
    refine (heldB_any o2'.sl (by omega) (by omega) (by omega)).mono ?_
    rintro e w9 ⟨rfl, b9⟩
    have h9 := (show Hid _ from h8.out.below b9)
    replace o1 := o1.below b9
    replace o2' := o2'.below b9
    clear h8 b9 c0 c1 c2
    obtain ⟨c0, c1, c2, _⟩ := rk_three h9.out.at0
    go_wp2_with fail
    go_at_call 29
    refine Calls.mono (CT.out w9) ?_
    rintro e w10 ⟨rfl, b10⟩
    have h10 := (show Hid _ from h9.out.below b10)
    replace o1 := o1.below b10
    replace o2' := o2'.below b10
    clear h9 b10 c0 c1 c2 CT
    go_wp2_with fail
    go_at_call 14
    refine Calls.mono (CI.out w10 HZ.out) ?_
    rintro e w11 ⟨v11, rfl, o3, b11⟩
    have h11 := (show Hid _ from h10.out.below b11)
    replace o1 := o1.below b11
    replace o2' := o2'.below b11
    clear h10 b11 CI
    go_wp2_with fail
    go_at_call 30
    refine (eqB_any o3.sl o1.sl (by omega) (by omega)).mono ?_
    rintro e w12 ⟨rfl, b12⟩
    have h12 := (show Hid _ from h11.out.below b12)
    replace o2' := o2'.below b12
    clear h11 b12
    go_wp2_with fail
    go_at_call 32
    refine (heldB_any o2'.sl (by omega) (by omega) (by omega)).mono ?_
    rintro e w13 ⟨rfl, b13⟩
    have h13 := (show Hid _ from h12.out.below b13)
    clear h12 b13
    go_wp2
    go_ret
    exact ⟨rfl, h13.out.1⟩
end Go.Proofs.Ytmpgbonolmmcpaa

/- The program's UrlOk and recordOk. No condition. -/
namespace Go.Proofs.Ytmpgbonolmmcpaa
open Go.RowKit
set_option maxRecDepth 100000
set_option linter.unusedVariables false

set_option maxHeartbeats 400000 in
set_option maxRecDepth 100000 in
theorem iurlOk_any (s : ByteArray) (w : World) (hs : s.size ≤ 1099511627776) : Calls Try.prog 20 #[.string s] w fun e w' => e = .returned (.bool (urlB s)) ∧ Below w.heap.size w w' := by
  have hl := bs_len s
  rw [urlB_eq]
  by_cases h1 : s.size < 1 ∨ 60 < s.size
  · rw [inB_no (by omega)]
    rcases h1 with h1 | h1
    · go_enter Try.func20, Try.ntmps20
      go_wp2
      go_ret
      exact ⟨rfl, Below.refl _ _⟩
    · go_enter Try.func20, Try.ntmps20
      go_wp2
      go_ret
      exact ⟨rfl, Below.refl _ _⟩
  · have h2 : 1 ≤ s.size := by omega
    have h3 : s.size ≤ 60 := by omega
    rw [inB_yes (by omega) (by omega)]
    clear h1
    obtain ⟨cap, w1, hc, hk, hcap, hm, hb⟩ := conv_str s w (by unfold maxLen; omega)
    have HK := (show Hid (Blk .u8 5 w1 w.heap.size (bs s)) from hk)
    have HB := (show Hid (Below w.heap.size w w1) from hb)
    clear hk hb
    go_enter Try.func20, Try.ntmps20
    go_wp2
    go_loopw [16] (fun i wr => ∃ k : Nat, k ≤ s.size ∧ i = .int .i64 k ∧ ((bs s).take k).any ubad = false ∧ Hid (w1 = wr)) (fun i _ => s.size - (intOf i).toNat)
    case atStart => exact ⟨0, Nat.zero_le _, rfl, by simp, rfl⟩
    case round =>
      obtain ⟨k, hks, rfl, hno, hw⟩ := hrel
      have ew := hw.out
      subst ew
      have HN : Hid (((bs s).take k).any ubad = false) := hno
      clear hno hw
      by_cases hlt : k < s.size
      · have hat := HK.out.cell k (by omega)
        have hbk := bs_bound s k
        have HA : Hid (((bs s).take (k + 1)).any ubad = (((bs s).take k).any ubad || ubad ((bs s).getD k 0))) := uany_succ (by omega)
        have HO : Hid (ubad ((bs s).getD k 0) = true → (bs s).any ubad = true) := uany_of (by omega)
        obtain ⟨x, hx⟩ : ∃ x, x = (bs s).getD k 0 := ⟨_, rfl⟩
        rw [← hx] at hat hbk HA HO
        clear hx
        have hlt' : (k : Int) < (s.size : Int) := by omega
        by_cases g1 : x < 33
        · go_wp2
          go_ret
          refine ⟨?_, HB.out⟩
          rw [HO.out (by simp [ubad, g1])]; rfl
        · by_cases g2 : 126 < x
          · go_wp2
            go_ret
            refine ⟨?_, HB.out⟩
            rw [HO.out (by simp [ubad, g2])]; rfl
          · go_wp2
            go_roundw
            case rel => exact ⟨k + 1, hlt, by go_num, by rw [HA.out, HN.out]; simp [ubad]; omega, trivial⟩
            case measure => simp [intOf]; omega
      · obtain rfl : k = s.size := by omega
        have HN2 : Hid ((bs s).any ubad = false) := (show (bs s).any ubad = false by have := HN.out; rwa [List.take_of_length_le (by omega)] at this)
        clear HN
        go_wp2
        go_ret
        exact ⟨by rw [HN2.out]; rfl, HB.out⟩

set_option maxHeartbeats 400000 in
set_option maxRecDepth 100000 in
theorem irecordOk_any (r : PRec) (w : World) (hu : r.url.size ≤ 1099511627776) : Calls Try.prog 50 #[recV r] w fun e w' => e = .returned (.bool (recB r)) ∧ Below w.heap.size w w' := by
  have CU := (show Hid (∀ W, Calls Try.prog 20 #[.string r.url] W fun e w' => e = .returned (.bool (urlB r.url)) ∧ Below W.heap.size W w') from fun W => iurlOk_any r.url W hu)
  have HP := (show Hid (recB r = ((decide (r.kind = 1) || decide (r.kind = 2)) && urlB r.url && !(decide (r.kind = 2) && decide (r.body ≠ emptyS)))) from rfl)
  obtain ⟨kd, ur, bo⟩ := r
  unfold recV
  simp only at CU hu HP ⊢
  obtain ⟨w1, hw1⟩ : ∃ y, y = w.alloc (.cells #[.int .i64 kd, .string ur, .string bo] 25) := ⟨_, rfl⟩
  have h1 := (Hl.refl w).new #[.int .i64 kd, .string ur, .string bo] 25
  rw [← hw1] at h1
  have H1 := (show Hid _ from h1)
  clear h1
  obtain ⟨q, hq⟩ : ∃ q, q = urlB ur := ⟨_, rfl⟩
  rw [← hq] at CU HP
  clear hq
  rw [HP.out]
  clear HP
  by_cases h1 : kd = 1
  · subst h1
    go_enter Try.func50, Try.ntmps50
    go_wp2_with fail
    go_at_call 20
    rw [← hw1]
    refine Calls.mono (CU.out _) ?_
    rintro e w2 ⟨rfl, b2⟩
    have H2 := (show Hid _ from H1.out.below b2)
    clear hw1 b2
    go_wp2
    go_ret
    exact ⟨ret_bool (by cases q <;> simp), H2.out.1⟩
  · have hn1 : (kd == 1) = false := by simp [h1]
    by_cases h2 : kd = 2
    · subst h2
      go_enter Try.func50, Try.ntmps50
      go_wp2_with fail
      go_at_call 20
      rw [← hw1]
      refine Calls.mono (CU.out _) ?_
      rintro e w2 ⟨rfl, b2⟩
      have H2 := (show Hid _ from H1.out.below b2)
      obtain ⟨m1, m2, m3, _⟩ := rk_three H2.out.at0
      clear hw1 b2
      cases q
      · go_wp2
        go_ret
        exact ⟨ret_bool rfl, H2.out.1⟩
      · by_cases hbo : bo = emptyS
        · have hbe : bo.toList.isEmpty = true := by rw [hbo]; exact emptyS_yes
          go_wp2
          go_ret
          exact ⟨ret_bool (by first | (rw [hbe]; simp [hbo]; done) | (simp [hbo]; done) | (rw [hbo, emptyS_yes]; simp)), H2.out.1⟩
        · have hbe : bo.toList.isEmpty = false := emptyS_ne hbo
          go_wp2
          go_ret
          exact ⟨ret_bool (by first | (rw [hbe]; simp [hbo]; done) | (simp [hbo]; done)), H2.out.1⟩
    · have hn2 : (kd == 2) = false := by simp [h2]
      have HF : Hid (((decide (kd = 1) || decide (kd = 2)) && q && !(decide (kd = 2) && decide (bo ≠ emptyS))) = false) := (show ((decide (kd = 1) || decide (kd = 2)) && q && !(decide (kd = 2) && decide (bo ≠ emptyS))) = false by simp [h1, h2])
      rw [HF.out]
      go_enter Try.func50, Try.ntmps50
      go_wp2
      go_ret
      exact ⟨ret_bool rfl, by rw [← hw1]; exact H1.out.1⟩
end Go.Proofs.Ytmpgbonolmmcpaa

/- The program's small questions on heads and areas. No condition. -/
namespace Go.Proofs.Ytmpgbonolmmcpaa
open Go.RowKit
set_option maxRecDepth 100000
set_option linter.unusedVariables false

/-- What spanOk answers. -/
def spanB (a at' n : Int) : Bool := inB a 0 1 && inB at' 0 4096 && inB n 0 (4096 - at')
end Go.Proofs.Ytmpgbonolmmcpaa
