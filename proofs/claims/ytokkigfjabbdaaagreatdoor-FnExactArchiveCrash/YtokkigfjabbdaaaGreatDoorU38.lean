/- The program's byteReader: record. -/
import Derived.Test.YtokkigfjabbdaaaGreatDoorU37
import Derived.Test.YtokkigfjabbdaaaGreatDoorU8
import Derived.Test.YtokkigfjabbdaaaGreatDoorU20
import Derived.Test.YtokkigfjabbdaaaGreatDoorU21
namespace Go.Proofs.YtokkigfjabbdaaaGreatDoor
open Go.RowKit
set_option maxRecDepth 100000
set_option linter.unusedVariables false

/-- The reader in block g at the place i, and listed blocks that the call made, in a world W that is w with more, but for block g. -/
structure RdL (w0 w : World) (g : Nat) (v : Value) (xs : List Int) (i : Int) (L : List (Nat × Array Value × TypeId)) (W : World) : Prop where
  rd : Rdr w0 g v xs i W
  gr : w.grownBy W (some g)
  blk : ∀ p ∈ L, W.heap[p.1]? = some (.cells p.2.1 p.2.2 (0, 0)) ∧ p.1 ≠ g ∧ w.heap.size ≤ p.1
theorem RdL.start {w0 w : World} {g : Nat} {v : Value} {xs : List Int} {i : Int} (h : Rdr w0 g v xs i w) : RdL w0 w g v xs i [] w := ⟨h, World.grownBy.refl _ _, fun p hp => absurd hp (by simp)⟩
theorem RdL.call {w0 w : World} {g : Nat} {v : Value} {xs : List Int} {i j : Int} {L : List (Nat × Array Value × TypeId)} {W W' : World} (h : RdL w0 w g v xs i L W) (r : Rdr w0 g v xs j W') (k : W.grownBy W' (some g)) : RdL w0 w g v xs j L W' :=
  ⟨r, grown_trans h.gr k, fun p hp => by
    obtain ⟨h1, h2, h3⟩ := h.blk p hp
    exact ⟨(k.block p.1 (lt_of_block h1) (fun e => h2 (by injection e))).trans h1, h2, h3⟩⟩
theorem RdL.below {w0 w : World} {g : Nat} {v : Value} {xs : List Int} {i : Int} {L : List (Nat × Array Value × TypeId)} {W W' : World} (h : RdL w0 w g v xs i L W) (b : Below W.heap.size W W') : RdL w0 w g v xs i L W' :=
  ⟨h.rd.below b, grown_below h.gr b, fun p hp => by
    obtain ⟨h1, h2, h3⟩ := h.blk p hp
    exact ⟨(b.block p.1 (lt_of_block h1)).trans h1, h2, h3⟩⟩
theorem RdL.new {w0 w : World} {g : Nat} {v : Value} {xs : List Int} {i : Int} {L : List (Nat × Array Value × TypeId)} {W : World} (h : RdL w0 w g v xs i L W) (cs : Array Value) (t : TypeId) : RdL w0 w g v xs i ((W.heap.size, cs, t) :: L) (W.alloc (.cells cs t)) := by
  have hb : Below W.heap.size W (W.alloc (.cells cs t)) := (Below.refl _ _).alloc (Nat.le_refl _) _
  have h' := h.below hb
  refine ⟨h'.rd, h'.gr, fun p hp => ?_⟩
  rcases List.mem_cons.mp hp with rfl | hp
  · exact ⟨World.alloc_heap_new _ _, Nat.ne_of_gt h.rd.lt, h.gr.size⟩
  · exact h'.blk p hp
theorem RdL.set {w0 w : World} {g : Nat} {v : Value} {xs : List Int} {i : Int} {L : List (Nat × Array Value × TypeId)} {N : Nat} {cs : Array Value} {t : TypeId} {W : World} (h : RdL w0 w g v xs i ((N, cs, t) :: L) W) (hw : w0.heap.size ≤ w.heap.size) (hL : ∀ p ∈ L, p.1 ≠ N) (k : Nat) (u : Value) : RdL w0 w g v xs i ((N, cs.setIfInBounds k u, t) :: L) (W.setCell ⟨N, k, none⟩ u) := by
  obtain ⟨n1, n2, n3⟩ := h.blk (N, cs, t) (List.mem_cons_self ..)
  have hg := grown_setCell W N k u
  have hn2 : N ≠ g := n2
  have hn3 : w.heap.size ≤ N := n3
  refine ⟨h.rd.kept hg (fun e => hn2 (by injection e)) (fun j hj => by injection hj with hj; omega), grown_past h.gr hg (fun j hj => by injection hj with hj; omega), fun p hp => ?_⟩
  rcases List.mem_cons.mp hp with rfl | hp
  · exact ⟨rk_at n1, n2, n3⟩
  · obtain ⟨h1, h2, h3⟩ := h.blk p (List.mem_cons_of_mem _ hp)
    exact ⟨(hg.block p.1 (lt_of_block h1) (fun e => hL p hp (Option.some.inj e))).trans h1, h2, h3⟩
theorem RdL.at0 {w0 w : World} {g : Nat} {v : Value} {xs : List Int} {i : Int} {L : List (Nat × Array Value × TypeId)} {N : Nat} {cs : Array Value} {t : TypeId} {W : World} (h : RdL w0 w g v xs i ((N, cs, t) :: L) W) : W.heap[N]? = some (.cells cs t (0, 0)) := (h.blk _ (List.mem_cons_self ..)).1
theorem RdL.at1 {w0 w : World} {g : Nat} {v : Value} {xs : List Int} {i : Int} {L : List (Nat × Array Value × TypeId)} {q : Nat × Array Value × TypeId} {N : Nat} {cs : Array Value} {t : TypeId} {W : World} (h : RdL w0 w g v xs i (q :: (N, cs, t) :: L) W) : W.heap[N]? = some (.cells cs t (0, 0)) := (h.blk _ (List.mem_cons_of_mem _ (List.mem_cons_self ..))).1
theorem RdL.swap {w0 w : World} {g : Nat} {v : Value} {xs : List Int} {i : Int} {L : List (Nat × Array Value × TypeId)} {p q : Nat × Array Value × TypeId} {W : World} (h : RdL w0 w g v xs i (p :: q :: L) W) : RdL w0 w g v xs i (q :: p :: L) W := ⟨h.rd, h.gr, fun r hr => h.blk r (by simp only [List.mem_cons] at hr ⊢; rcases hr with hr | hr | hr <;> simp [hr])⟩
theorem RdL.set3 {w0 w : World} {g : Nat} {v : Value} {xs : List Int} {i : Int} {L : List (Nat × Array Value × TypeId)} {N : Nat} {x y z : Value} {t : TypeId} {W : World} (h : RdL w0 w g v xs i ((N, #[x, y, z], t) :: L) W) (hw : w0.heap.size ≤ w.heap.size) (hL : ∀ p ∈ L, p.1 ≠ N) (a b c : Value) : RdL w0 w g v xs i ((N, #[a, b, c], t) :: L) (((W.setCell ⟨N, 0, none⟩ a).setCell ⟨N, 1, none⟩ b).setCell ⟨N, 2, none⟩ c) := ((h.set hw hL 0 a).set hw hL 1 b).set hw hL 2 c

theorem recOne_res {fn : Func} {p : Tmp} (hr : fn.results = #[.cell p 94]) {tmps : Array Value} {w : World} {g : Nat} {a b c : Value} (h4 : tmps.getD p undef = .pointer (some ⟨g, 0, none⟩)) (hb : w.heap[g]? = some (.cells #[a, b, c] 94 (0, 0))) :
    (results fn tmps).run Tryz.prog w = .ok (.agg #[a, b, c]) w := results_cell_row hr tmps w g 94 #[a, b, c] (0, 0) _ h4 hb Tryz.underlying94 rfl rfl

/-- What record answers: the record at a place, or a panic. -/
def RecAt (w0 w : World) (g : Nat) (v : Value) (xs : List Int) (i : Int) (e : Ending) (w' : World) : Prop :=
  ((∃ r j, readR xs i = (r, j, true) ∧ e = .returned (recV r) ∧ Rdr w0 g v xs j w') ∨ ((readR xs i).2.2 = false ∧ Bad e ∧ ∃ j, Rdr w0 g v xs j w')) ∧ w.grownBy w' (some g)

/-- The end of record: what was read is held against recordOk. -/
theorem recEnd_pair {xs : List Int} {i : Int} {r : PRec} {j : Int} (h : readR xs i = if recB r = true then (r, j, true) else (zeroR, 0, false)) : (recB r = true → readR xs i = (r, j, true)) ∧ (recB r = false → (readR xs i).2.2 = false) :=
  ⟨fun e => by rw [h, if_pos e], fun e => by rw [h, if_neg (by rw [e]; decide)]⟩

set_option maxHeartbeats 400000 in
set_option maxRecDepth 100000 in
theorem irecord_any {w0 : World} {g : Nat} {v : Value} {xs : List Int} {i : Int} {w : World} (h : Rdr w0 g v xs i w) (hb : ∀ x ∈ xs, 0 ≤ x ∧ x ≤ 255) :
    Calls Tryz.prog 130 #[.pointer (some ⟨g, 0, none⟩)] w fun e w' => RecAt w0 w g v xs i e w' := by
  have HB := (show Hid (∀ x ∈ xs, 0 ≤ x ∧ x ≤ 255) from hb)
  have HW := (show Hid (w0.heap.size ≤ w.heap.size) from h.2.2.1.size)
  have HN := (show Hid (xs.length ≤ 1099511627776) from h.2.2.2.1)
  clear hb
  obtain ⟨w1, hw1⟩ : ∃ y, y = w.alloc (.cells #[.int .i64 0, .string ⟨#[]⟩, .string ⟨#[]⟩] 94) := ⟨_, rfl⟩
  have h1 := (RdL.start h).new #[.int .i64 0, .string ⟨#[]⟩, .string ⟨#[]⟩] 94
  rw [← hw1] at h1
  have H1 := (show Hid (RdL w0 w g v xs i [(w.heap.size, #[.int .i64 0, .string ⟨#[]⟩, .string ⟨#[]⟩], 94)] w1) from h1)
  have C1 := (show Hid (Calls Tryz.prog 121 #[.pointer (some ⟨g, 0, none⟩)] w1 _) from num_any h1.rd HB.out)
  clear h1 h
  go_enter Tryz.func130, Tryz.ntmps130
  go_wp2_with fail
  go_at_call 121
  rw [← hw1]
  clear hw1
  refine C1.out.mono ?_
  rintro e w2 ⟨hor, g2⟩
  clear C1
  rcases hor with ⟨k, n, hy, rfl, r2⟩ | ⟨hy, ⟨t, s, rfl⟩, j, r2⟩
  rotate_left
  · have END := (show Hid ((readR xs i).2.2 = false ∧ RdL w0 w g v xs j [(w.heap.size, #[.int .i64 0, .string ⟨#[]⟩, .string ⟨#[]⟩], 94)] w2) from ⟨by rw [readR, hy], H1.out.call r2 g2⟩)
    clear hy r2 g2
    go_wp2
    exact ⟨rfl, .inr ⟨END.out.1, ⟨_, _, rfl⟩, _, END.out.2.rd⟩, END.out.2.gr⟩
  have H2 := (show Hid (RdL w0 w g v xs (i + n) [(w.heap.size, #[.int .i64 0, .string ⟨#[]⟩, .string ⟨#[]⟩], 94)] w2) from H1.out.call r2 g2)
  have Y1 := (show Hid (rdI xs i = some (k, n)) from hy)
  have C2 := (show Hid (Calls Tryz.prog 146 #[.pointer (some ⟨g, 0, none⟩)] w2 _) from text_any r2 HB.out)
  clear hy r2 g2 H1
  go_wp2_with fail
  go_at_call 146
  refine C2.out.mono ?_
  rintro e w3 ⟨hor, g3⟩
  clear C2
  rcases hor with ⟨t, j, hy, rfl, r3⟩ | ⟨hy, ⟨t, s, rfl⟩, j, r3⟩
  rotate_left
  · have END := (show Hid ((readR xs i).2.2 = false ∧ RdL w0 w g v xs j [(w.heap.size, #[.int .i64 0, .string ⟨#[]⟩, .string ⟨#[]⟩], 94)] w3) from ⟨by rw [readR, Y1.out]; simp only; rw [hy], H2.out.call r3 g3⟩)
    clear hy r3 g3
    go_wp2
    exact ⟨rfl, .inr ⟨END.out.1, ⟨_, _, rfl⟩, _, END.out.2.rd⟩, END.out.2.gr⟩
  have H3 := (show Hid (RdL w0 w g v xs j [(w.heap.size, #[.int .i64 0, .string ⟨#[]⟩, .string ⟨#[]⟩], 94)] w3) from H2.out.call r3 g3)
  have Y2 := (show Hid (rdT xs (i + n) = some (t, j)) from hy)
  have L2 := (show Hid ((strOf t).size ≤ 1099511627776) from by rw [strOf_size]; exact Nat.le_trans (rdT_len hy) HN.out)
  clear hy r3 g3 H2
  obtain ⟨w4, hw4⟩ : ∃ y, y = w3.alloc (.cells #[.int .i64 k, .string (strOf t), .string ⟨#[]⟩] 94) := ⟨_, rfl⟩
  have h4 := H3.out.new #[.int .i64 k, .string (strOf t), .string ⟨#[]⟩] 94
  rw [← hw4] at h4
  have H4 := (show Hid (RdL w0 w g v xs j [(w3.heap.size, #[.int .i64 k, .string (strOf t), .string ⟨#[]⟩], 94), (w.heap.size, #[.int .i64 0, .string ⟨#[]⟩, .string ⟨#[]⟩], 94)] w4) from h4)
  have NE := (show Hid (w.heap.size ≠ w3.heap.size) from Nat.ne_of_lt (lt_of_block H3.out.at0))
  clear h4
  obtain ⟨m1, m2, m3, x1, x2, x3⟩ := rk_three H4.out.at0
  by_cases hk : k = 1
  · subst hk
    have C3 := (show Hid (Calls Tryz.prog 146 #[.pointer (some ⟨g, 0, none⟩)] w4 _) from text_any H4.out.rd HB.out)
    go_wp2_with fail
    go_at_call 146
    rw [← hw4]
    clear hw4
    refine C3.out.mono ?_
    rintro e w5 ⟨hor, g5⟩
    clear C3 m1 m2 m3 x1 x2 x3
    rcases hor with ⟨t2, m, hy, rfl, r5⟩ | ⟨hy, ⟨t', s, rfl⟩, m, r5⟩
    rotate_left
    · have END := (show Hid ((readR xs i).2.2 = false ∧ RdL w0 w g v xs m [(w3.heap.size, #[.int .i64 1, .string (strOf t), .string ⟨#[]⟩], 94), (w.heap.size, #[.int .i64 0, .string ⟨#[]⟩, .string ⟨#[]⟩], 94)] w5) from ⟨by rw [readR, Y1.out]; simp only; rw [Y2.out]; simp only; rw [if_pos trivial, hy], H4.out.call r5 g5⟩)
      clear hy r5 g5
      go_wp2
      exact ⟨rfl, .inr ⟨END.out.1, ⟨_, _, rfl⟩, _, END.out.2.rd⟩, END.out.2.gr⟩
    have H5 := (show Hid (RdL w0 w g v xs m [(w3.heap.size, #[.int .i64 1, .string (strOf t), .string ⟨#[]⟩], 94), (w.heap.size, #[.int .i64 0, .string ⟨#[]⟩, .string ⟨#[]⟩], 94)] w5) from H4.out.call r5 g5)
    have HR := (show Hid ((recB ⟨1, strOf t, strOf t2⟩ = true → readR xs i = (⟨1, strOf t, strOf t2⟩, m, true)) ∧ (recB ⟨1, strOf t, strOf t2⟩ = false → (readR xs i).2.2 = false)) from recEnd_pair (by rw [readR, Y1.out]; simp only; rw [Y2.out]; simp only; rw [if_pos trivial, hy]))
    clear hy r5 g5 H4 Y1 Y2
    obtain ⟨m1, m2, m3, x1, x2, x3⟩ := rk_three H5.out.at0
    obtain ⟨w6, hw6⟩ : ∃ y, y = w5.setCell ⟨w3.heap.size, 2, none⟩ (.string (strOf t2)) := ⟨_, rfl⟩
    have h6 := H5.out.set HW.out (fun p hp => by
      simp only [List.mem_cons, List.not_mem_nil, or_false] at hp
      rw [hp]; exact NE.out) 2 (.string (strOf t2))
    rw [← hw6] at h6
    have H6 := (show Hid (RdL w0 w g v xs m [(w3.heap.size, #[.int .i64 1, .string (strOf t), .string (strOf t2)], 94), (w.heap.size, #[.int .i64 0, .string ⟨#[]⟩, .string ⟨#[]⟩], 94)] w6) from h6)
    have CO := (show Hid (Calls Tryz.prog 147 #[.agg #[.int .i64 1, .string (strOf t), .string (strOf t2)]] w6 _) from irecordOk_any ⟨1, strOf t, strOf t2⟩ w6 L2.out)
    clear h6 H5
    obtain ⟨q, hq⟩ : ∃ q, q = recB ⟨1, strOf t, strOf t2⟩ := ⟨_, rfl⟩
    rw [← hq] at CO HR
    clear hq
    go_wp2_with fail
    go_at_call 147
    rw [← hw6]
    clear hw6 m1 m2 m3 x1 x2 x3
    refine CO.out.mono ?_
    rintro e w7 ⟨rfl, b7⟩
    have H7 := (show Hid (RdL w0 w g v xs m [(w3.heap.size, #[.int .i64 1, .string (strOf t), .string (strOf t2)], 94), (w.heap.size, #[.int .i64 0, .string ⟨#[]⟩, .string ⟨#[]⟩], 94)] w7) from H6.out.below b7)
    clear b7 CO H6
    cases q
    · go_wp2_with fail
      go_at_call 142
      refine (need_no _).mono ?_
      rintro e w8 ⟨⟨t', s, rfl⟩, rfl⟩
      go_wp2
      exact ⟨rfl, .inr ⟨HR.out.2 trivial, ⟨_, _, rfl⟩, _, H7.out.rd⟩, H7.out.gr⟩
    · go_wp2_with fail
      go_at_call 142
      refine (need_yes _).mono ?_
      rintro e w8 ⟨rfl, e8⟩
      replace e8 := e8.symm
      subst e8
      obtain ⟨m1, m2, m3, _⟩ := rk_three H7.out.at0
      obtain ⟨_, _, _, x1, x2, x3⟩ := rk_three H7.out.at1
      go_wp2
      have H9 := H7.out.swap.set3 HW.out (fun p hp => by
        simp only [List.mem_cons, List.not_mem_nil, or_false] at hp
        rw [hp]; exact NE.out.symm) (.int .i64 1) (.string (strOf t)) (.string (strOf t2))
      refine bodyPost_ret (recOne_res rfl rfl H9.at0) rfl ?_
      exact ⟨.inl ⟨_, _, HR.out.1 trivial, rfl, H9.rd⟩, H9.gr⟩
  · have hkn : (k == 1) = false := by simp [hk]
    have HR := (show Hid ((recB ⟨k, strOf t, emptyS⟩ = true → readR xs i = (⟨k, strOf t, emptyS⟩, j, true)) ∧ (recB ⟨k, strOf t, emptyS⟩ = false → (readR xs i).2.2 = false)) from recEnd_pair (by rw [readR, Y1.out]; simp only; rw [Y2.out]; simp only; rw [if_neg hk]))
    have CO := (show Hid (Calls Tryz.prog 147 #[.agg #[.int .i64 k, .string (strOf t), .string ⟨#[]⟩]] w4 _) from irecordOk_any ⟨k, strOf t, emptyS⟩ w4 L2.out)
    clear Y1 Y2
    obtain ⟨q, hq⟩ : ∃ q, q = recB ⟨k, strOf t, emptyS⟩ := ⟨_, rfl⟩
    rw [← hq] at CO HR
    clear hq
    go_wp2_with fail
    go_at_call 147
    rw [← hw4]
    clear hw4 m1 m2 m3 x1 x2 x3
    refine CO.out.mono ?_
    rintro e w7 ⟨rfl, b7⟩
    have H7 := (show Hid (RdL w0 w g v xs j [(w3.heap.size, #[.int .i64 k, .string (strOf t), .string ⟨#[]⟩], 94), (w.heap.size, #[.int .i64 0, .string ⟨#[]⟩, .string ⟨#[]⟩], 94)] w7) from H4.out.below b7)
    clear b7 CO H4
    cases q
    · go_wp2_with fail
      go_at_call 142
      refine (need_no _).mono ?_
      rintro e w8 ⟨⟨t', s, rfl⟩, rfl⟩
      go_wp2
      exact ⟨rfl, .inr ⟨HR.out.2 trivial, ⟨_, _, rfl⟩, _, H7.out.rd⟩, H7.out.gr⟩
    · go_wp2_with fail
      go_at_call 142
      refine (need_yes _).mono ?_
      rintro e w8 ⟨rfl, e8⟩
      replace e8 := e8.symm
      subst e8
      obtain ⟨m1, m2, m3, _⟩ := rk_three H7.out.at0
      obtain ⟨_, _, _, x1, x2, x3⟩ := rk_three H7.out.at1
      go_wp2
      have H9 := H7.out.swap.set3 HW.out (fun p hp => by
        simp only [List.mem_cons, List.not_mem_nil, or_false] at hp
        rw [hp]; exact NE.out.symm) (.int .i64 k) (.string (strOf t)) (.string ⟨#[]⟩)
      refine bodyPost_ret (recOne_res rfl rfl H9.at0) rfl ?_
      exact ⟨.inl ⟨_, _, HR.out.1 trivial, rfl, H9.rd⟩, H9.gr⟩
end Go.Proofs.YtokkigfjabbdaaaGreatDoor

/- The program's RecordRead: its closure, readWell, the face. -/
namespace Go.Proofs.YtokkigfjabbdaaaGreatDoor
open Go.RowKit
set_option maxRecDepth 100000
set_option linter.unusedVariables false

theorem Only.setR {g x : Nat} {w w' : World} (h : Only g x w w') (k : Nat) (u : Value) : Only g x w (w'.setCell ⟨x, k, none⟩ u) :=
  ⟨by simp [World.setCell]; exact h.1, fun j hj h1 h2 => (Below.heap_setCell _ _ _ j (fun e => h2 (by rw [e]))).trans (h.2 j hj h1 h2)⟩

end Go.Proofs.YtokkigfjabbdaaaGreatDoor

/- The program's Records: its closure, which reads one record behind the other. -/
namespace Go.Proofs.YtokkigfjabbdaaaGreatDoor
open Go.RowKit
set_option maxRecDepth 100000
set_option linter.unusedVariables false

/-- What is turned: the blocks g and x, and rows of records. -/
def KeepR (g x : Nat) (w w' : World) : Prop := w.heap.size ≤ w'.heap.size ∧ ∀ j cs t fr, w.heap[j]? = some (.cells cs t fr) → j ≠ g → j ≠ x → t ≠ 94 → w'.heap[j]? = some (.cells cs t fr)
theorem KeepR.refl (g x : Nat) (w : World) : KeepR g x w w := ⟨Nat.le_refl _, fun _ _ _ _ h _ _ _ => h⟩
theorem KeepR.grown {g x : Nat} {w a b : World} (h : KeepR g x w a) (k : a.grownBy b (some g)) : KeepR g x w b :=
  ⟨Nat.le_trans h.1 k.size, fun j cs t fr e n1 n2 n3 => (k.block j (lt_of_block (h.2 j cs t fr e n1 n2 n3)) (fun e => n1 (by injection e))).trans (h.2 j cs t fr e n1 n2 n3)⟩
theorem KeepR.below {g x : Nat} {w a b : World} (h : KeepR g x w a) (k : Below a.heap.size a b) : KeepR g x w b :=
  ⟨Nat.le_trans h.1 k.size, fun j cs t fr e n1 n2 n3 => (k.block j (lt_of_block (h.2 j cs t fr e n1 n2 n3))).trans (h.2 j cs t fr e n1 n2 n3)⟩
theorem KeepR.row {g x : Nat} {w a b : World} (h : KeepR g x w a) {B size n : Nat} {v : Value} {xs : List Value} (o : a.ownsRow B 94 size v n xs) (k : a.grownBy b v.ownBlock) : KeepR g x w b :=
  ⟨Nat.le_trans h.1 k.size, fun j cs t fr e n1 n2 n3 => rk_keep o k (h.2 j cs t fr e n1 n2 n3) n3⟩
theorem KeepR.set {g x : Nat} {w a : World} (h : KeepR g x w a) (k : Nat) (u : Value) : KeepR g x w (a.setCell ⟨x, k, none⟩ u) :=
  ⟨by rw [World.size_setCell]; exact h.1, fun j cs t fr e n1 n2 n3 => (Below.heap_setCell _ _ _ j n2).trans (h.2 j cs t fr e n1 n2 n3)⟩
/-- The place at which the reader in block g stands. -/
def placeOf (w : World) (g : Nat) : Nat := match w.cell? ⟨g, 1, none⟩ with
  | some v => (intOf v).toNat
  | none => 0
theorem placeOf_rdr {w0 : World} {g : Nat} {v : Value} {xs : List Int} {i : Nat} {w : World} (h : Rdr w0 g v xs i w) : placeOf w g = i := by
  unfold placeOf
  rw [h.cells.2.1]
  simp [intOf]
/-- The reader at a place, and what was read so far in the box x. -/
structure RdX (w0 w : World) (B g x : Nat) (v : Value) (xs : List Int) (i : Int) (z : Value) (pre : List PRec) (W : World) : Prop where
  rd : Rdr w0 g v xs i W
  box : Box W x 55 z
  own : OwnRs B W z pre
  keep : KeepR g x w W
theorem RdX.below {w0 w : World} {B g x : Nat} {v : Value} {xs : List Int} {i : Int} {z : Value} {pre : List PRec} {W W' : World} (h : RdX w0 w B g x v xs i z pre W) (b : Below W.heap.size W W') : RdX w0 w B g x v xs i z pre W' :=
  ⟨h.rd.below b, (b.block _ h.box.lt).trans h.box, ownsRow_below h.own b, h.keep.below b⟩
theorem RdX.call {w0 w : World} {B g x : Nat} {v : Value} {xs : List Int} {i j : Int} {z : Value} {pre : List PRec} {W W' : World} (h : RdX w0 w B g x v xs i z pre W) (hx : x ≠ g) (r : Rdr w0 g v xs j W') (k : W.grownBy W' (some g)) : RdX w0 w B g x v xs j z pre W' :=
  ⟨r, h.box.grown k (fun e => hx (by injection e with e; exact e.symm)), rk_type h.own k (fun q e => by cases e; exact ⟨_, _, _, h.rd.2.2.2.2, by decide⟩), h.keep.grown k⟩
/-- A record is put behind what was read. -/
theorem RdX.app {w0 w : World} {B g x : Nat} {v : Value} {xs : List Int} {i : Int} {z z' : Value} {pre pre' : List PRec} {W W' : World} (h : RdX w0 w B g x v xs i z pre W) (hx : x ≠ g) (h0 : w0.heap.size ≤ x) (hB : w0.heap.size ≤ B) (o : OwnRs B W' z' pre') (k : W.grownBy W' z.ownBlock) : RdX w0 w B g x v xs i z' pre' (W'.setCell ⟨x, 0, none⟩ z') := by
  have rb : W'.heap[g]? = some (.cells #[v, .int .i64 i] 168 (0, 0)) := rk_keep h.own k h.rd.2.2.2.2 (by decide)
  have xb : Box W' x 55 z := rk_keep h.own k h.box (by decide)
  have rd' : Rdr w0 g v xs i W' := ⟨h.rd.1, h.rd.2.1, h.rd.2.2.1.grown k h.rd.2.2.1.size (fun r e => Nat.le_trans hB (World.ownsRow.lt h.own r e).1), h.rd.2.2.2.1, rb⟩
  refine ⟨rd'.kept (grown_setCell W' x 0 z') (fun e => hx (by injection e)) (fun k hk => by injection hk with hk; omega), xb.set z', rk_set o xb (by decide), (h.keep.row h.own k).set 0 z'⟩

set_option maxHeartbeats 1000000 in
set_option maxRecDepth 100000 in
theorem closeRecs_any {w0 : World} {B g r bx x : Nat} {v z0 : Value} {xs : List Int} {w : World} (h : RdX w0 w B g x v xs 0 z0 [] w) (hb : ∀ x ∈ xs, 0 ≤ x ∧ x ≤ 255) (hn : xs.length ≤ 1048576) (hr : Box w r 166 (.pointer (some ⟨g, 0, none⟩))) (hbx : Box w bx 58 v)
    (h1 : r ≠ g) (h2 : x ≠ g) (h3 : r ≠ x) (h4 : w0.heap.size ≤ x) (h5 : bx ≠ g) (h6 : bx ≠ x) (h7 : w0.heap.size ≤ B) (h8 : B ≤ w.heap.size) :
    Calls Tryz.prog 129 #[.pointer (some ⟨r, 0, none⟩), .pointer (some ⟨bx, 0, none⟩), .pointer (some ⟨x, 0, none⟩)] w fun e w' =>
      ((∃ l i z, recsF xs (xs.length + 1) 0 = some l ∧ e = .returned (.tuple #[]) ∧ RdX w0 w B g x v xs i z l w') ∨ (recsF xs (xs.length + 1) 0 = none ∧ Bad e)) ∧ KeepR g x w w' ∧ Below w0.heap.size w0 w' := by
  have HB := (show Hid (∀ x ∈ xs, 0 ≤ x ∧ x ≤ 255) from hb)
  have HR := (show Hid (Box w r 166 (.pointer (some ⟨g, 0, none⟩))) from hr)
  have HX := (show Hid (Box w bx 58 v) from hbx)
  have BX := (show Hid (∀ W, KeepR g x w W → W.cell? ⟨r, 0, none⟩ = some (.pointer (some ⟨g, 0, none⟩)) ∧ W.cell? ⟨bx, 0, none⟩ = some v) from fun W k => ⟨(rk_one (k.2 r _ _ _ HR.out h1 h3 (by decide))).1, (rk_one (k.2 bx _ _ _ HX.out h5 h6 (by decide))).1⟩)
  obtain ⟨va, vc, hv, _⟩ := h.rd.sl
  obtain ⟨i0, hi, hz0, hz1, hz2⟩ := info_parts Tryz.infoRec
  clear hb hr hbx
  subst hv
  go_enter Tryz.func129, Tryz.ntmps129
  go_wp2_with fail
  go_loopw [] (fun wr => ∃ (i f : Nat) (pre : List PRec) (z : Value), i ≤ xs.length ∧ RdX w0 w B g x (.slice va xs.length vc) xs i z pre wr ∧ Hid ((recsF xs f i).map (pre ++ ·) = recsF xs (xs.length + 1) 0) ∧ xs.length < f + i ∧ pre.length ≤ i) (fun wr => xs.length - placeOf wr g)
  case atStart => exact ⟨0, xs.length + 1, [], z0, Nat.zero_le _, h, (show _ = _ by cases recsF xs (xs.length + 1) 0 <;> rfl), by omega, by simp⟩
  case round =>
    obtain ⟨i, f, pre, z, hi1, rx, hF, hf, hp⟩ := hrel
    obtain ⟨za, zn, zc, ez⟩ : ∃ a n c, z = .slice a n c := by
      rcases rx.own.2 with ⟨e, _⟩ | ⟨g, cap, cur, e, _⟩ <;> exact ⟨_, _, _, e⟩
    subst ez
    have RX := (show Hid (RdX w0 w B g x (.slice va xs.length vc) xs i (.slice za zn zc) pre wr) from rx)
    obtain ⟨cr, cb⟩ := BX.out wr rx.keep
    have c1 := rx.rd.cells.2.1
    have cx := rx.box.cell.1
    have hpl : placeOf wr g = i := placeOf_rdr rx.rd
    have HPL := (show Hid (placeOf wr g = i) from hpl)
    clear rx hpl h
    by_cases hlt : i < xs.length
    · have hlt' : (i : Int) < (xs.length : Int) := by omega
      obtain ⟨f', rfl⟩ : ∃ f', f = f' + 1 := ⟨f - 1, by omega⟩
      have HG := (show Hid ((readR xs (i : Int)).2.2 = true → recsF xs (f' + 1) i = (recsF xs f' (readR xs (i : Int)).2.1.toNat).map ((readR xs (i : Int)).1 :: ·)) from fun e => recsF_on hlt e)
      have HN : Hid ((readR xs (i : Int)).2.2 = false → recsF xs (xs.length + 1) 0 = none) := (show (readR xs (i : Int)).2.2 = false → recsF xs (xs.length + 1) 0 = none from fun e => by
        rw [← hF.out, recsF_bad hlt e]; rfl)
      go_wp2
      go_region_held (fun w' => w'.cell? ⟨r, 0, none⟩ = some (.pointer (some ⟨g, 0, none⟩)) ∧ w'.cell? ⟨g, 1, none⟩ = some (.int .i64 (i : Int)) ∧ w'.cell? ⟨bx, 0, none⟩ = some (.slice va xs.length vc)) (go_keep) (fail)
      have CR := (show Hid (∀ W, Below wr.heap.size wr W → Calls Tryz.prog 130 #[.pointer (some ⟨g, 0, none⟩)] W fun e w' => ((∃ k u b j, readR xs (i : Int) = (⟨k, u, b⟩, j, true) ∧ e = .returned (.agg #[.int .i64 k, .string u, .string b]) ∧ Rdr w0 g (.slice va xs.length vc) xs j w') ∨ ((readR xs (i : Int)).2.2 = false ∧ Bad e ∧ ∃ j, Rdr w0 g (.slice va xs.length vc) xs j w')) ∧ W.grownBy w' (some g)) from fun W b => by
        refine Calls.mono (irecord_any (RX.out.rd.below b) HB.out) ?_
        rintro e w' ⟨⟨⟨k, u, b⟩, j, hy, rfl, r3⟩ | hno, g3⟩
        · exact ⟨.inl ⟨k, u, b, j, hy, rfl, r3⟩, g3⟩
        · exact ⟨.inr hno, g3⟩)
      have HX2 := (show Hid (x ≠ g) from h2)
      have RD := (show Hid (RdX w0 w B g x (.slice va xs.length vc) xs i (.slice za zn zc) pre wr.drew.drew) from RX.out.below (below_drewN 2))
      have HH := (show Hid (w0.heap.size ≤ x ∧ w0.heap.size ≤ B ∧ B ≤ w.heap.size ∧ pre.length ≤ 1048576) from ⟨h4, h7, h8, by omega⟩)
      go_wp2_with fail
      go_region_law (first
        | (go_simp
           go_at_call 130
           with_reducible refine Calls.mono (CR.out wr.drew.drew (below_drewN 2)) ?_
           rintro e w3 ⟨⟨k, u, b, j, hy, rfl, r3⟩ | ⟨hy, ⟨t, s, rfl⟩, j, r3⟩, g3⟩
           rotate_left
           · have rx3 := RD.out.call HX2.out r3 g3
             exact ⟨rfl, .inr ⟨HN.out hy, _, _, rfl⟩, rx3.keep, rx3.rd.2.2.1⟩
           have R3 := (show Hid (RdX w0 w B g x (.slice va xs.length vc) xs j (.slice za zn zc) pre w3) from RD.out.call HX2.out r3 g3)
           have Y3 := (show Hid (readR xs (i : Int) = (⟨k, u, b⟩, j, true)) from hy)
           have cx3 := R3.out.box.cell.1
           have ba : Below w3.heap.size w3 (w3.alloc (.cells #[.int .i64 k, .string u, .string b] 94)) := (Below.refl _ _).alloc (Nat.le_refl _) _
           have R4 := (show Hid (RdX w0 w B g x (.slice va xs.length vc) xs j (.slice za zn zc) pre (w3.alloc (.cells #[.int .i64 k, .string u, .string b] 94))) from R3.out.below ba)
           have cx4 := R4.out.box.cell.1
           have SV := (show Hid (Sv 3 (w3.alloc (.cells #[.int .i64 k, .string u, .string b] 94)) (.slice (some ⟨w3.heap.size, 0, none⟩) 1 1) (recCells [⟨k, u, b⟩])) from sv_oneRec (r := ⟨k, u, b⟩) (World.alloc_heap_new _ _))
           clear hy r3 g3 ba)
        | (with_reducible refine step_appS (w := w3.alloc (.cells #[.int .i64 k, .string u, .string b] 94)) ?_ (.tmp 10) (.tmp 13) 55 ?_ B 94 i0 _ 3 40 ?_ hi hz0 hz1 hz2 ?_ ?_ (.slice za zn zc) pre.length (recCells pre) ?_ R4.out.own (.slice (some ⟨w3.heap.size, 0, none⟩) 1 1) 1 (recCells [⟨k, u, b⟩]) ?_ SV.out ?_ (rec_oneCell _) ?_ ?_ ?_ ?_
           · rfl
           · rfl
           · exact Tryz.underlying55
           · rfl
           · decide
           · simp [Act.eval]
           · simp [Act.eval]
           · rfl
           · (have := HH.out.2.2.2; unfold maxLen; omega)
           · (have := HH.out.2.2.2; omega)
           · exact Nat.le_trans HH.out.2.2.1 R4.out.keep.1
           intro v5 w5 o5 g5
           obtain ⟨ya, yn, yc, e5⟩ := rk_slice o5
           subst e5
           have R5 := (show Hid (RdX w0 w B g x (.slice va xs.length vc) xs j (.slice ya yn yc) (pre ++ [⟨k, u, b⟩]) (w5.setCell ⟨x, 0, none⟩ (.slice ya yn yc))) from R4.out.app HX2.out HH.out.1 HH.out.2.1 (by show World.ownsRow _ _ _ _ _ _ _; rw [List.length_append, recCells_app]; exact o5) g5)
           obtain ⟨cx5, fx5⟩ := (show Box w5 x 55 (.slice za zn zc) from rk_keep R4.out.own g5 R4.out.box (by decide)).cell
           clear o5 g5))
      all_goals
        obtain ⟨j0, j1, j2, j3, j4, j5⟩ := readR_next Y3.out HB.out
        obtain ⟨jn, rfl⟩ := Int.eq_ofNat_of_zero_le (show 0 ≤ j by omega)
        have HF : Hid ((recsF xs f' jn).map ((pre ++ [⟨k, u, b⟩]) ++ ·) = recsF xs (xs.length + 1) 0) := (show _ = _ by
          rw [← hF.out, HG.out (by rw [Y3.out]), Y3.out]
          simp only [Int.toNat_natCast]
          cases recsF xs f' jn <;> simp)
        have HP := (show Hid (placeOf (w5.setCell ⟨x, 0, none⟩ (.slice ya yn yc)) g = jn) from placeOf_rdr R5.out.rd)
        go_wp2
        go_roundw
        case rel => exact ⟨jn, f', pre ++ [⟨k, u, b⟩], _, by omega, R5.out, HF, by omega, by rw [List.length_append, List.length_singleton]; omega⟩
        case measure => rw [HP.out, HPL.out]; omega
    · have hn' : ¬ ((i : Int) < (xs.length : Int)) := by omega
      obtain ⟨f', rfl⟩ : ∃ f', f = f' + 1 := ⟨f - 1, by omega⟩
      have HZ : Hid (recsF xs (xs.length + 1) 0 = some pre) := (show recsF xs (xs.length + 1) 0 = some pre by
        rw [← hF.out, recsF_end hlt]; simp)
      have RD := (show Hid (RdX w0 w B g x (.slice va xs.length vc) xs i (.slice za zn zc) pre wr.drew) from RX.out.below (below_drewN 1))
      go_wp2
      go_region_held (fun w' => w'.cell? ⟨r, 0, none⟩ = some (.pointer (some ⟨g, 0, none⟩)) ∧ w'.cell? ⟨g, 1, none⟩ = some (.int .i64 (i : Int)) ∧ w'.cell? ⟨bx, 0, none⟩ = some (.slice va xs.length vc)) (go_keep) (fail)
      go_wp2
      go_end0
      exact ⟨.inl ⟨pre, _, _, HZ.out, rfl, RD.out⟩, RD.out.keep, RD.out.rd.2.2.1⟩
end Go.Proofs.YtokkigfjabbdaaaGreatDoor

/- The program's Records: readWell round its closure, the face. -/
namespace Go.Proofs.YtokkigfjabbdaaaGreatDoor
open Go.RowKit
set_option maxRecDepth 100000
set_option linter.unusedVariables false

set_option maxHeartbeats 400000 in
set_option maxRecDepth 100000 in
theorem wellRecs_any {w0 : World} {B g r bx x : Nat} {v z0 : Value} {xs : List Int} {w : World} (h : RdX w0 w B g x v xs 0 z0 [] w) (hb : ∀ x ∈ xs, 0 ≤ x ∧ x ≤ 255) (hn : xs.length ≤ 1048576) (hr : Box w r 166 (.pointer (some ⟨g, 0, none⟩))) (hbx : Box w bx 58 v)
    (h1 : r ≠ g) (h2 : x ≠ g) (h3 : r ≠ x) (h4 : w0.heap.size ≤ x) (h5 : bx ≠ g) (h6 : bx ≠ x) (h7 : w0.heap.size ≤ B) (h8 : B ≤ w.heap.size) :
    Calls Tryz.prog 119 #[.func (.func 129) #[] #[.pointer (some ⟨r, 0, none⟩), .pointer (some ⟨bx, 0, none⟩), .pointer (some ⟨x, 0, none⟩)]] w fun e w' =>
      ((∃ l z, recsF xs (xs.length + 1) 0 = some l ∧ e = .returned (.bool true) ∧ Box w' x 55 z ∧ OwnRs B w' z l) ∨ (recsF xs (xs.length + 1) 0 = none ∧ e = .returned (.bool false))) ∧ Below w0.heap.size w0 w' := by
  have hmf : ∀ (fn : Fn) (first cap : Array Value) (w : World), (Instr.makeFunc fn first cap).run Tryz.prog w = .ok (.func fn first cap) w := fun _ _ _ _ => rfl
  have hlt := h.rd.lt
  have hltx := h.box.lt
  have hsz := h.rd.2.2.1.size
  have hal : Below w.heap.size w (w.alloc (.cells #[.bool false] 4)) := (Below.refl _ _).alloc (Nat.le_refl _) _
  have hq : Box (w.alloc (.cells #[.bool false] 4)) w.heap.size 4 (.bool false) := World.alloc_heap_new _ _
  have hr' : Box (w.alloc (.cells #[.bool false] 4)) r 166 (.pointer (some ⟨g, 0, none⟩)) := (hal.block r hr.lt).trans hr
  have hbx' : Box (w.alloc (.cells #[.bool false] 4)) bx 58 v := (hal.block bx hbx.lt).trans hbx
  have h' := h.below hal
  have h'' : RdX w0 (w.alloc (.cells #[.bool false] 4)) B g x v xs 0 z0 [] (w.alloc (.cells #[.bool false] 4)) := ⟨h'.rd, h'.box, h'.own, KeepR.refl _ _ _⟩
  have CALL := (show Hid (Calls Tryz.prog 129 #[.pointer (some ⟨r, 0, none⟩), .pointer (some ⟨bx, 0, none⟩), .pointer (some ⟨x, 0, none⟩)] (w.alloc (.cells #[.bool false] 4)) _) from closeRecs_any h'' hb hn hr' hbx' h1 h2 h3 h4 h5 h6 h7 (by rw [World.size_alloc]; omega))
  clear h hr hbx hal h' h'' hr' hbx' hb
  go_enter_defers Tryz.func119, Tryz.ntmps119
  go_wp2_with fail
  go_at_call 129
  refine CALL.out.mono ?_
  rintro e w2 ⟨hor, kp2, b2⟩
  have hq2 : Box w2 w.heap.size 4 (.bool false) := kp2.2 _ _ _ _ hq (by omega) (by omega) (by decide)
  obtain ⟨cq, fq⟩ := hq2.cell
  have hs2 := kp2.1
  rcases hor with ⟨l, i, z, hy, rfl, r2⟩ | ⟨hy, t, s, rfl⟩
  · have q3 := hq2.set (.bool true)
    have b3 := b2.setCell (p := ⟨w.heap.size, 0, none⟩) hsz (.bool true)
    have x3 : Box (w2.setCell ⟨w.heap.size, 0, none⟩ (.bool true)) x 55 z := (Below.heap_setCell w2 ⟨w.heap.size, 0, none⟩ (.bool true) x (by show x ≠ w.heap.size; omega)).trans r2.box
    have o3 : OwnRs B (w2.setCell ⟨w.heap.size, 0, none⟩ (.bool true)) z l := rk_set r2.own hq2 (by decide)
    have P3 := (show Hid (_ ∧ _ ∧ _ ∧ _ ∧ _) from ⟨hy, q3, b3, x3, o3⟩)
    clear hy q3 b3 x3 o3 r2
    go_wp2
    refine leaves_cons (f := 140) (args := #[.pointer (some ⟨w.heap.size, 0, none⟩)]) (by simp) (by simp [go_sem]) ?_
    obtain ⟨hy, q3, b3, x3, o3⟩ := P3.out
    refine (catch_idle _ true _ q3.cell.1 q3.cell.2).mono ?_
    rintro e u' w3 ⟨rfl, rfl, rfl⟩
    have q4 := q3.set (.bool true)
    have b4 := b3.setCell (p := ⟨w.heap.size, 0, none⟩) hsz (.bool true)
    have x4 : Box ((w2.setCell ⟨w.heap.size, 0, none⟩ (.bool true)).setCell ⟨w.heap.size, 0, none⟩ (.bool true)) x 55 z := (Below.heap_setCell (w2.setCell ⟨w.heap.size, 0, none⟩ (.bool true)) ⟨w.heap.size, 0, none⟩ (.bool true) x (by show x ≠ w.heap.size; omega)).trans x3
    have o4 : OwnRs B ((w2.setCell ⟨w.heap.size, 0, none⟩ (.bool true)).setCell ⟨w.heap.size, 0, none⟩ (.bool true)) z l := rk_set o3 q3 (by decide)
    have c4 := q4.cell.1
    simp [Leaves, settle, results, Tryz.results119, go_sem, c4]
    exact ⟨⟨l, hy, z, x4, o4⟩, b4⟩
  · have q3 := hq2.set (.bool false)
    have b3 := b2.setCell (p := ⟨w.heap.size, 0, none⟩) hsz (.bool false)
    have P3 := (show Hid (_ ∧ _ ∧ _) from ⟨hy, q3, b3⟩)
    clear hy q3 b3
    go_wp2
    refine leaves_cons (f := 140) (args := #[.pointer (some ⟨w.heap.size, 0, none⟩)]) (by simp) (by simp [go_sem]) ?_
    refine (catch_bad _ false t s [] _ cq fq).mono ?_
    rintro e u' w3 ⟨rfl, rfl, rfl⟩
    obtain ⟨hy, q3, b3⟩ := P3.out
    have c4 := q3.cell.1
    simp [Leaves, settle, results, Tryz.results119, go_sem, c4]
    exact ⟨hy, b3⟩

set_option maxHeartbeats 400000 in
set_option maxRecDepth 100000 in
theorem irecords_any {v : Value} {xs : List Int} {w : World} (h : Sl .u8 w v xs) (hb : ∀ x ∈ xs, 0 ≤ x ∧ x ≤ 255) (hn : xs.length ≤ 1048576) :
    Calls Tryz.prog 102 #[v] w fun e w' => ∃ v', e = .returned (.tuple #[v', .bool (recsR xs).2]) ∧ OwnRs w.heap.size w' v' (recsR xs).1 ∧ Below w.heap.size w w' := by
  have hmf : ∀ (fn : Fn) (first cap : Array Value) (w : World), (Instr.makeFunc fn first cap).run Tryz.prog w = .ok (.func fn first cap) w := fun _ _ _ _ => rfl
  have h0 := h
  obtain ⟨a, ca, rfl, _, _, _, ha⟩ := h
  clear ha
  obtain ⟨v, hv⟩ : ∃ v, v = Value.slice a xs.length ca := ⟨_, rfl⟩
  rw [← hv] at h0
  obtain ⟨W1, e1⟩ : ∃ y, y = w.alloc (.cells #[v] 58) := ⟨_, rfl⟩
  obtain ⟨W2, e2⟩ : ∃ y, y = W1.alloc (.cells #[v, .int .i64 0] 168) := ⟨_, rfl⟩
  obtain ⟨W3, e3⟩ : ∃ y, y = W2.alloc (.cells #[] 94) := ⟨_, rfl⟩
  obtain ⟨W4, e4⟩ : ∃ y, y = W3.alloc (.cells #[.pointer (some ⟨w.heap.size + 1, 0, none⟩)] 166) := ⟨_, rfl⟩
  obtain ⟨W, e5⟩ : ∃ y, y = W4.alloc (.cells #[.slice (some ⟨w.heap.size + 1 + 1, 0, none⟩) 0 0] 55) := ⟨_, rfl⟩
  have s1 : W1.heap.size = w.heap.size + 1 := by rw [e1, World.size_alloc]
  have s2 : W2.heap.size = w.heap.size + 1 + 1 := by rw [e2, World.size_alloc, s1]
  have s3 : W3.heap.size = w.heap.size + 1 + 1 + 1 := by rw [e3, World.size_alloc, s2]
  have s4 : W4.heap.size = w.heap.size + 1 + 1 + 1 + 1 := by rw [e4, World.size_alloc, s3]
  have s5 : W.heap.size = w.heap.size + 1 + 1 + 1 + 1 + 1 := by rw [e5, World.size_alloc, s4]
  have k1 : Below w.heap.size w W1 := by rw [e1]; exact (Below.refl _ _).alloc (Nat.le_refl _) _
  have k2 : Below W1.heap.size W1 W2 := by rw [e2]; exact (Below.refl _ _).alloc (Nat.le_refl _) _
  have k3 : Below W2.heap.size W2 W3 := by rw [e3]; exact (Below.refl _ _).alloc (Nat.le_refl _) _
  have k4 : Below W3.heap.size W3 W4 := by rw [e4]; exact (Below.refl _ _).alloc (Nat.le_refl _) _
  have k5 : Below W4.heap.size W4 W := by rw [e5]; exact (Below.refl _ _).alloc (Nat.le_refl _) _
  have k35 : Below W3.heap.size W3 W := k4.trans (k5.mono k4.size)
  have k25 : Below W2.heap.size W2 W := k3.trans (k35.mono k3.size)
  have k15 : Below W1.heap.size W1 W := k2.trans (k25.mono k2.size)
  have k05 : Below w.heap.size w W := k1.trans (k15.mono k1.size)
  have x1 : Box W w.heap.size 58 v := (k15.block _ (by omega)).trans (by rw [e1]; exact World.alloc_heap_new _ _)
  have x2 : W.heap[w.heap.size + 1]? = some (.cells #[v, .int .i64 0] 168 (0, 0)) := (k25.block _ (by omega)).trans (by
    have := World.alloc_heap_new W1 (.cells #[v, .int .i64 0] 168)
    rw [s1, ← e2] at this; exact this)
  have x4 : Box W (w.heap.size + 1 + 1 + 1) 166 (.pointer (some ⟨w.heap.size + 1, 0, none⟩)) := (k5.block _ (by omega)).trans (by
    have := World.alloc_heap_new W3 (.cells #[.pointer (some ⟨w.heap.size + 1, 0, none⟩)] 166)
    rw [s3, ← e4] at this; exact this)
  have x5 : Box W (w.heap.size + 1 + 1 + 1 + 1) 55 (.slice (some ⟨w.heap.size + 1 + 1, 0, none⟩) 0 0) := by
    have := World.alloc_heap_new W4 (.cells #[.slice (some ⟨w.heap.size + 1 + 1, 0, none⟩) 0 0] 55)
    rw [s4, ← e5] at this; exact this
  have o3 : OwnRs w.heap.size W3 (.slice (some ⟨w.heap.size + 1 + 1, 0, none⟩) 0 0) [] := by
    have := World.ownsRow_lit (base := w.heap.size) (e := 94) (size := 3) W2 #[] 0 (by omega) (Nat.zero_le _) rfl
    rw [s2, ← e3] at this; exact this
  have rx : RdX w W w.heap.size (w.heap.size + 1) (w.heap.size + 1 + 1 + 1 + 1) v xs 0 (.slice (some ⟨w.heap.size + 1 + 1, 0, none⟩) 0 0) [] W :=
    ⟨⟨Nat.le_succ _, h0, k05, by omega, x2⟩, x5, ownsRow_below o3 k35, KeepR.refl _ _ _⟩
  have CALL := (show Hid (Calls Tryz.prog 119 #[.func (.func 129) #[] #[.pointer (some ⟨w.heap.size + 1 + 1 + 1, 0, none⟩), .pointer (some ⟨w.heap.size, 0, none⟩), .pointer (some ⟨w.heap.size + 1 + 1 + 1 + 1, 0, none⟩)]] W _) from wellRecs_any rx hb hn x4 x1 (by omega) (by omega) (by omega) (by omega) (by omega) (by omega) (Nat.le_refl _) (by omega))
  rw [e4, e3, e2, e1, hv] at e5
  clear rx o3 x1 x2 x4 x5 k1 k2 k3 k4 k5 k35 k25 k15 k05 s1 s2 s3 s4 s5 e1 e2 e3 e4 h0 hb hv
  go_enter Tryz.func102, Tryz.ntmps102
  go_wp2_with fail
  go_at_call 119
  rw [← e5]
  clear e5
  refine CALL.out.mono ?_
  rintro e w2 ⟨hor, b2⟩
  have B2 := (show Hid (Below w.heap.size w w2) from b2)
  clear b2 CALL
  rcases hor with ⟨l, z, hy, rfl, xb, o2⟩ | ⟨hy, rfl⟩
  · have HZ : Hid (recsR xs = (l, true)) := (show recsR xs = (l, true) by rw [recsR, hy])
    have O2 := (show Hid (OwnRs w.heap.size w2 z l) from o2)
    obtain ⟨cx, _⟩ := xb.cell
    clear hy o2 xb
    go_wp2
    go_ret2
    exact ⟨_, by rw [HZ.out]; rfl, by rw [HZ.out]; exact O2.out, B2.out⟩
  · have HZ : Hid (recsR xs = ([], false)) := (show recsR xs = ([], false) by rw [recsR, hy])
    clear hy
    go_wp2
    go_ret2
    exact ⟨_, by rw [HZ.out]; rfl, by rw [HZ.out]; exact ⟨rfl, .inl ⟨rfl, rfl⟩⟩, B2.out⟩
end Go.Proofs.YtokkigfjabbdaaaGreatDoor
