/- The states of the program's cutter that only look ahead and move (written by mk/icuth.py). No condition. -/
import Derived.Test.YtggfifchkecnjaaGreatDoorY39
namespace Go.Proofs.YtggfifchkecnjaaGreatDoor
open Go.RowKit
set_option maxRecDepth 100000
set_option linter.unusedVariables false

structure TB (w0 : World) (g : Nat) (v : Value) (xs : List Int) (s : ByteArray) (w : World) (k : Nat) (wr : World) : Prop where
  cb : CB w0 g v xs s w k wr
  res : wr.heap[w.heap.size + 1]? = some (.cells #[.int .i64 0, .string ⟨#[]⟩, .slice none 0 0, .string ⟨#[]⟩, .bool false] 30 (0, 0))
  wl : w0.heap.size ≤ w.heap.size
  gl : g < w.heap.size
theorem TB.below {w0 : World} {g : Nat} {v : Value} {xs : List Int} {s : ByteArray} {w : World} {k : Nat} {wr wr' : World} (h : TB w0 g v xs s w k wr) (b : Below wr.heap.size wr wr') : TB w0 g v xs s w k wr' :=
  ⟨h.cb.below b, (b.block _ (lt_of_block h.res)).trans h.res, h.wl, h.gl⟩
theorem TB.move {w0 : World} {g : Nat} {v : Value} {xs : List Int} {s : ByteArray} {w : World} {k k' : Nat} {wr wr' : World} (h : TB w0 g v xs s w k wr) (hc : Cut w0 g v xs k' wr') (hg : wr.grownBy wr' (some g)) : TB w0 g v xs s w k' wr' :=
  ⟨h.cb.move hc hg, keepB h.res (by decide) h.cb.cut hg, h.wl, h.gl⟩
theorem tokSet_gr (w : World) (b : Nat) (k : Int) (nm : ByteArray) (va : Value) (tx : ByteArray) (sf : Bool) : w.grownBy (tokSet w b k nm va tx sf) (some b) := by
  unfold tokSet
  exact grown_trans (grown_trans (grown_trans (grown_trans (set_grown ..) (set_grown ..)) (set_grown ..)) (set_grown ..)) (set_grown ..)
theorem TB.exit {w0 : World} {g : Nat} {v : Value} {xs : List Int} {s : ByteArray} {w : World} {k : Nat} {wr : World} (h : TB w0 g v xs s w k wr) {va : Value} {rs : List (ByteArray × ByteArray)} (row : wr.ownsRow w.heap.size 81 2 va rs.length (pairCells rs)) (kk : Int) (nm tx : ByteArray) (sf : Bool) :
    (tokSet wr (w.heap.size + 1) kk nm va tx sf).heap[w.heap.size + 1]? = some (.cells #[.int .i64 kk, .string nm, va, .string tx, .bool sf] 30 (0, 0)) ∧
      (TokIs w.heap.size (tokSet wr (w.heap.size + 1) kk nm va tx sf) (tokVal kk nm va tx sf) ⟨kk, nm, rs, tx, sf⟩ ∧ Cut w0 g v xs k (tokSet wr (w.heap.size + 1) kk nm va tx sf) ∧ w.grownBy (tokSet wr (w.heap.size + 1) kk nm va tx sf) (some g)) := by
  have c := h.cb.past (tokSet_gr wr (w.heap.size + 1) kk nm va tx sf) (fun r e => by injection e with e; omega) h.wl h.gl
  exact ⟨tokSet_block h.res .., ⟨va, rfl, tokSet_row row h.res (by decide) ..⟩, c.cut, c.gro⟩
theorem tb_new {w0 : World} {g : Nat} {v : Value} {xs : List Int} {s : ByteArray} {w : World} {k : Nat} (h : Cut w0 g v xs k w) :
    TB w0 g v xs s w k ((w.alloc (.cells #[v, .pointer (some ⟨g, 0, none⟩), .string s] 47)).alloc (.cells #[.int .i64 0, .string ⟨#[]⟩, .slice none 0 0, .string ⟨#[]⟩, .bool false] 30)) := by
  refine ⟨(cb_new h).below ((Below.refl _ _).alloc (Nat.le_refl _) _), ?_, h.2.2.1.size, h.lt⟩
  have := heap_alloc_new (w.alloc (.cells #[v, .pointer (some ⟨g, 0, none⟩), .string s] 47)) (.cells #[.int .i64 0, .string ⟨#[]⟩, .slice none 0 0, .string ⟨#[]⟩, .bool false] 30)
  simpa using this
def zeroT : TokD := ⟨0, ⟨#[]⟩, [], ⟨#[]⟩, false⟩
def Leads (f : Nat) (w0 : World) (g : Nat) (v : Value) (xs : List Int) (s : ByteArray) (i : Nat) (t : TokD) (n j : Nat) : Prop :=
  ∀ w, Cut w0 g v xs i w → Calls Tryz.prog f #[cutVal v g s] w fun e w' => ∃ u, e = .returned (.tuple #[u, .int .i64 (n : Nat)]) ∧ TokIs w.heap.size w' u t ∧ Cut w0 g v xs j w' ∧ w.grownBy w' (some g)

set_option maxHeartbeats 4000000 in
theorem leads_end {w0 : World} {g : Nat} {v : Value} {xs : List Int} {i : Nat} (s : ByteArray) : Leads 66 w0 g v xs s i endT 0 i := by
  intro w h
  have htb := tb_new (s := s) h
  have hxl := h.2.2.2.1.1
  have hil := h.2.2.2.1.2
  obtain ⟨w1, hw1⟩ : ∃ z, z = (w.alloc (.cells #[v, .pointer (some ⟨g, 0, none⟩), .string s] 47)).alloc (.cells #[.int .i64 0, .string ⟨#[]⟩, .slice none 0 0, .string ⟨#[]⟩, .bool false] 30) := ⟨_, rfl⟩
  rw [← hw1] at htb
  have T1 := (show Hid (TB w0 g v xs s w i w1) from htb)
  clear htb h
  unfold cutVal
  go_enter Tryz.func66, Tryz.ntmps66
  go_upto_region 1 with fail
  rw [← hw1]
  clear hw1
  obtain ⟨x1, x2⟩ := T1.out.exit ((nil_row _ _)) 1 ⟨#[]⟩ ⟨#[]⟩ false
  have X2 := (show Hid _ from x2)
  have X1 := (show Hid _ from x1)
  unfold tokSet at x1
  have X1 := (show Hid _ from x1)
  clear x1 x2
  obtain ⟨⟨p0, p1, p2, p3, p4⟩, q0, q1, q2, q3, q4⟩ := tok_cells T1.out.res
  clear T1
  go_wp2
  (try simp only [Exit.inBlock, Exit.then])
  refine bodyPost_ret (tok_res (f := Tryz.f66) (p := 2) (q := 3) rfl (k := 1) (nm := ⟨#[]⟩) (va := (.slice none 0 0)) (tx := ⟨#[]⟩) (sf := false) rfl rfl X1.out) rfl ?_
  exact ⟨_, rfl, X2.out⟩
set_option maxHeartbeats 4000000 in
theorem leads_data_out {w0 : World} {g : Nat} {v : Value} {xs : List Int} {i : Nat} (s : ByteArray) (h0 : atL xs i = -1) : Leads 62 w0 g v xs s i zeroT 5 i := by
  intro w h
  have htb := tb_new (s := s) h
  have hxl := h.2.2.2.1.1
  have hil := h.2.2.2.1.2
  obtain ⟨w1, hw1⟩ : ∃ z, z = (w.alloc (.cells #[v, .pointer (some ⟨g, 0, none⟩), .string s] 47)).alloc (.cells #[.int .i64 0, .string ⟨#[]⟩, .slice none 0 0, .string ⟨#[]⟩, .bool false] 30) := ⟨_, rfl⟩
  rw [← hw1] at htb
  have T1 := (show Hid (TB w0 g v xs s w i w1) from htb)
  clear htb h
  unfold cutVal
  go_enter Tryz.func62, Tryz.ntmps62
  go_upto_region 1 with fail
  rw [← hw1]
  clear hw1
  obtain ⟨c0, c1, c2⟩ := T1.out.cb.cells
  go_wp2_with fail
  go_at_call 108
  refine (ahead_cb T1.out.cb 0 0 rfl (by omega)).mono ?_
  rintro e w2 ⟨rfl, b2⟩
  rw [Nat.add_zero]
  have T2 := (show Hid _ from T1.out.below b2)
  clear T1 b2 c0 c1 c2
  rw [h0]
  obtain ⟨x1, x2⟩ := T2.out.exit ((nil_row _ _)) 0 ⟨#[]⟩ ⟨#[]⟩ false
  have X2 := (show Hid _ from x2)
  have X1 := (show Hid _ from x1)
  unfold tokSet at x1
  have X1 := (show Hid _ from x1)
  clear x1 x2
  obtain ⟨⟨p0, p1, p2, p3, p4⟩, q0, q1, q2, q3, q4⟩ := tok_cells T2.out.res
  clear T2
  go_wp2
  (try simp only [Exit.inBlock, Exit.then])
  refine bodyPost_ret (tok_res (f := Tryz.f62) (p := 2) (q := 3) rfl (k := 0) (nm := ⟨#[]⟩) (va := (.slice none 0 0)) (tx := ⟨#[]⟩) (sf := false) rfl rfl X1.out) rfl ?_
  exact ⟨_, rfl, X2.out⟩
set_option maxHeartbeats 4000000 in
theorem leads_data_ref {w0 : World} {g : Nat} {v : Value} {xs : List Int} {i : Nat} (s : ByteArray) (h0 : atL xs i = 38) : Leads 62 w0 g v xs s i zeroT 7 i := by
  intro w h
  have htb := tb_new (s := s) h
  have hxl := h.2.2.2.1.1
  have hil := h.2.2.2.1.2
  obtain ⟨w1, hw1⟩ : ∃ z, z = (w.alloc (.cells #[v, .pointer (some ⟨g, 0, none⟩), .string s] 47)).alloc (.cells #[.int .i64 0, .string ⟨#[]⟩, .slice none 0 0, .string ⟨#[]⟩, .bool false] 30) := ⟨_, rfl⟩
  rw [← hw1] at htb
  have T1 := (show Hid (TB w0 g v xs s w i w1) from htb)
  clear htb h
  unfold cutVal
  go_enter Tryz.func62, Tryz.ntmps62
  go_upto_region 1 with fail
  rw [← hw1]
  clear hw1
  obtain ⟨c0, c1, c2⟩ := T1.out.cb.cells
  go_wp2_with fail
  go_at_call 108
  refine (ahead_cb T1.out.cb 0 0 rfl (by omega)).mono ?_
  rintro e w2 ⟨rfl, b2⟩
  rw [Nat.add_zero]
  have T2 := (show Hid _ from T1.out.below b2)
  clear T1 b2 c0 c1 c2
  rw [h0]
  obtain ⟨x1, x2⟩ := T2.out.exit ((nil_row _ _)) 0 ⟨#[]⟩ ⟨#[]⟩ false
  have X2 := (show Hid _ from x2)
  have X1 := (show Hid _ from x1)
  unfold tokSet at x1
  have X1 := (show Hid _ from x1)
  clear x1 x2
  obtain ⟨⟨p0, p1, p2, p3, p4⟩, q0, q1, q2, q3, q4⟩ := tok_cells T2.out.res
  clear T2
  go_wp2
  (try simp only [Exit.inBlock, Exit.then])
  refine bodyPost_ret (tok_res (f := Tryz.f62) (p := 2) (q := 3) rfl (k := 0) (nm := ⟨#[]⟩) (va := (.slice none 0 0)) (tx := ⟨#[]⟩) (sf := false) rfl rfl X1.out) rfl ?_
  exact ⟨_, rfl, X2.out⟩
set_option maxHeartbeats 4000000 in
theorem leads_data_less {w0 : World} {g : Nat} {v : Value} {xs : List Int} {i : Nat} (s : ByteArray) (h0 : atL xs i = 60) : Leads 62 w0 g v xs s i zeroT 8 i := by
  intro w h
  have htb := tb_new (s := s) h
  have hxl := h.2.2.2.1.1
  have hil := h.2.2.2.1.2
  obtain ⟨w1, hw1⟩ : ∃ z, z = (w.alloc (.cells #[v, .pointer (some ⟨g, 0, none⟩), .string s] 47)).alloc (.cells #[.int .i64 0, .string ⟨#[]⟩, .slice none 0 0, .string ⟨#[]⟩, .bool false] 30) := ⟨_, rfl⟩
  rw [← hw1] at htb
  have T1 := (show Hid (TB w0 g v xs s w i w1) from htb)
  clear htb h
  unfold cutVal
  go_enter Tryz.func62, Tryz.ntmps62
  go_upto_region 1 with fail
  rw [← hw1]
  clear hw1
  obtain ⟨c0, c1, c2⟩ := T1.out.cb.cells
  go_wp2_with fail
  go_at_call 108
  refine (ahead_cb T1.out.cb 0 0 rfl (by omega)).mono ?_
  rintro e w2 ⟨rfl, b2⟩
  rw [Nat.add_zero]
  have T2 := (show Hid _ from T1.out.below b2)
  clear T1 b2 c0 c1 c2
  rw [h0]
  obtain ⟨x1, x2⟩ := T2.out.exit ((nil_row _ _)) 0 ⟨#[]⟩ ⟨#[]⟩ false
  have X2 := (show Hid _ from x2)
  have X1 := (show Hid _ from x1)
  unfold tokSet at x1
  have X1 := (show Hid _ from x1)
  clear x1 x2
  obtain ⟨⟨p0, p1, p2, p3, p4⟩, q0, q1, q2, q3, q4⟩ := tok_cells T2.out.res
  clear T2
  go_wp2
  (try simp only [Exit.inBlock, Exit.then])
  refine bodyPost_ret (tok_res (f := Tryz.f62) (p := 2) (q := 3) rfl (k := 0) (nm := ⟨#[]⟩) (va := (.slice none 0 0)) (tx := ⟨#[]⟩) (sf := false) rfl rfl X1.out) rfl ?_
  exact ⟨_, rfl, X2.out⟩
set_option maxHeartbeats 4000000 in
theorem leads_data_char {w0 : World} {g : Nat} {v : Value} {xs : List Int} {i : Nat} (s : ByteArray) (h0 : atL xs i ≠ -1) (h1 : atL xs i ≠ 38) (h2 : atL xs i ≠ 60) : Leads 62 w0 g v xs s i zeroT 6 i := by
  intro w h
  have htb := tb_new (s := s) h
  have hxl := h.2.2.2.1.1
  have hil := h.2.2.2.1.2
  obtain ⟨w1, hw1⟩ : ∃ z, z = (w.alloc (.cells #[v, .pointer (some ⟨g, 0, none⟩), .string s] 47)).alloc (.cells #[.int .i64 0, .string ⟨#[]⟩, .slice none 0 0, .string ⟨#[]⟩, .bool false] 30) := ⟨_, rfl⟩
  rw [← hw1] at htb
  have T1 := (show Hid (TB w0 g v xs s w i w1) from htb)
  clear htb h
  unfold cutVal
  go_enter Tryz.func62, Tryz.ntmps62
  go_upto_region 1 with fail
  rw [← hw1]
  clear hw1
  obtain ⟨c0, c1, c2⟩ := T1.out.cb.cells
  go_wp2_with fail
  go_at_call 108
  refine (ahead_cb T1.out.cb 0 0 rfl (by omega)).mono ?_
  rintro e w2 ⟨rfl, b2⟩
  rw [Nat.add_zero]
  have T2 := (show Hid _ from T1.out.below b2)
  clear T1 b2 c0 c1 c2
  obtain ⟨x, hx⟩ : ∃ x, x = atL xs i := ⟨_, rfl⟩
  rw [← hx] at h0 h1 h2 ⊢
  have n1 : (x == -1) = false := by simp [h0]
  have n2 : (x == 38) = false := by simp [h1]
  have n3 : (x == 60) = false := by simp [h2]
  clear h0 h1 h2 hx
  obtain ⟨x1, x2⟩ := T2.out.exit ((nil_row _ _)) 0 ⟨#[]⟩ ⟨#[]⟩ false
  have X2 := (show Hid _ from x2)
  have X1 := (show Hid _ from x1)
  unfold tokSet at x1
  have X1 := (show Hid _ from x1)
  clear x1 x2
  obtain ⟨⟨p0, p1, p2, p3, p4⟩, q0, q1, q2, q3, q4⟩ := tok_cells T2.out.res
  clear T2
  go_wp2
  (try simp only [Exit.inBlock, Exit.then])
  refine bodyPost_ret (tok_res (f := Tryz.f62) (p := 2) (q := 3) rfl (k := 0) (nm := ⟨#[]⟩) (va := (.slice none 0 0)) (tx := ⟨#[]⟩) (sf := false) rfl rfl X1.out) rfl ?_
  exact ⟨_, rfl, X2.out⟩
set_option maxHeartbeats 4000000 in
theorem leads_less_slash {w0 : World} {g : Nat} {v : Value} {xs : List Int} {i : Nat} (s : ByteArray) (h0 : atL xs (i + 1) = 47) : Leads 69 w0 g v xs s i zeroT 9 i := by
  intro w h
  have htb := tb_new (s := s) h
  have hxl := h.2.2.2.1.1
  have hil := h.2.2.2.1.2
  obtain ⟨w1, hw1⟩ : ∃ z, z = (w.alloc (.cells #[v, .pointer (some ⟨g, 0, none⟩), .string s] 47)).alloc (.cells #[.int .i64 0, .string ⟨#[]⟩, .slice none 0 0, .string ⟨#[]⟩, .bool false] 30) := ⟨_, rfl⟩
  rw [← hw1] at htb
  have T1 := (show Hid (TB w0 g v xs s w i w1) from htb)
  clear htb h
  unfold cutVal
  go_enter Tryz.func69, Tryz.ntmps69
  go_upto_region 1 with fail
  rw [← hw1]
  clear hw1
  obtain ⟨c0, c1, c2⟩ := T1.out.cb.cells
  go_wp2_with fail
  go_at_call 108
  refine (ahead_cb T1.out.cb 1 1 rfl (by omega)).mono ?_
  rintro e w2 ⟨rfl, b2⟩
  have T2 := (show Hid _ from T1.out.below b2)
  clear T1 b2 c0 c1 c2
  rw [h0]
  obtain ⟨x1, x2⟩ := T2.out.exit ((nil_row _ _)) 0 ⟨#[]⟩ ⟨#[]⟩ false
  have X2 := (show Hid _ from x2)
  have X1 := (show Hid _ from x1)
  unfold tokSet at x1
  have X1 := (show Hid _ from x1)
  clear x1 x2
  obtain ⟨⟨p0, p1, p2, p3, p4⟩, q0, q1, q2, q3, q4⟩ := tok_cells T2.out.res
  clear T2
  go_wp2
  (try simp only [Exit.inBlock, Exit.then])
  refine bodyPost_ret (tok_res (f := Tryz.f69) (p := 2) (q := 3) rfl (k := 0) (nm := ⟨#[]⟩) (va := (.slice none 0 0)) (tx := ⟨#[]⟩) (sf := false) rfl rfl X1.out) rfl ?_
  exact ⟨_, rfl, X2.out⟩
set_option maxHeartbeats 4000000 in
theorem leads_less_mark {w0 : World} {g : Nat} {v : Value} {xs : List Int} {i : Nat} (s : ByteArray) (h0 : atL xs (i + 1) = 33) : Leads 69 w0 g v xs s i zeroT 12 (i + 2) := by
  intro w h
  have htb := tb_new (s := s) h
  have hxl := h.2.2.2.1.1
  have hil := h.2.2.2.1.2
  obtain ⟨w1, hw1⟩ : ∃ z, z = (w.alloc (.cells #[v, .pointer (some ⟨g, 0, none⟩), .string s] 47)).alloc (.cells #[.int .i64 0, .string ⟨#[]⟩, .slice none 0 0, .string ⟨#[]⟩, .bool false] 30) := ⟨_, rfl⟩
  rw [← hw1] at htb
  have T1 := (show Hid (TB w0 g v xs s w i w1) from htb)
  clear htb h
  unfold cutVal
  go_enter Tryz.func69, Tryz.ntmps69
  go_upto_region 1 with fail
  rw [← hw1]
  clear hw1
  obtain ⟨c0, c1, c2⟩ := T1.out.cb.cells
  go_wp2_with fail
  go_at_call 108
  refine (ahead_cb T1.out.cb 1 1 rfl (by omega)).mono ?_
  rintro e w2 ⟨rfl, b2⟩
  have T2 := (show Hid _ from T1.out.below b2)
  clear T1 b2 c0 c1 c2
  rw [h0]
  have hl2 : i + 1 < xs.length := by
    by_cases hh : i + 1 < xs.length
    · exact hh
    · rw [atL_out (by omega)] at h0; omega
  obtain ⟨c0, c1, c2⟩ := T2.out.cb.cells
  go_wp2_with fail
  go_at_call 110
  refine (move_any T2.out.cb.cut s 2 (by omega)).mono ?_
  rintro e w3 ⟨rfl, hc2, hg2⟩
  have T3 := (show Hid _ from T2.out.move hc2 hg2)
  clear T2 hc2 hg2 c0 c1 c2
  obtain ⟨x1, x2⟩ := T3.out.exit ((nil_row _ _)) 0 ⟨#[]⟩ ⟨#[]⟩ false
  have X2 := (show Hid _ from x2)
  have X1 := (show Hid _ from x1)
  unfold tokSet at x1
  have X1 := (show Hid _ from x1)
  clear x1 x2
  obtain ⟨⟨p0, p1, p2, p3, p4⟩, q0, q1, q2, q3, q4⟩ := tok_cells T3.out.res
  clear T3
  go_wp2
  (try simp only [Exit.inBlock, Exit.then])
  refine bodyPost_ret (tok_res (f := Tryz.f69) (p := 2) (q := 3) rfl (k := 0) (nm := ⟨#[]⟩) (va := (.slice none 0 0)) (tx := ⟨#[]⟩) (sf := false) rfl rfl X1.out) rfl ?_
  exact ⟨_, rfl, X2.out⟩
set_option maxHeartbeats 4000000 in
theorem leads_less_remark {w0 : World} {g : Nat} {v : Value} {xs : List Int} {i : Nat} (s : ByteArray) (h0 : atL xs (i + 1) = 63) : Leads 69 w0 g v xs s i zeroT 13 (i + 1) := by
  intro w h
  have htb := tb_new (s := s) h
  have hxl := h.2.2.2.1.1
  have hil := h.2.2.2.1.2
  obtain ⟨w1, hw1⟩ : ∃ z, z = (w.alloc (.cells #[v, .pointer (some ⟨g, 0, none⟩), .string s] 47)).alloc (.cells #[.int .i64 0, .string ⟨#[]⟩, .slice none 0 0, .string ⟨#[]⟩, .bool false] 30) := ⟨_, rfl⟩
  rw [← hw1] at htb
  have T1 := (show Hid (TB w0 g v xs s w i w1) from htb)
  clear htb h
  unfold cutVal
  go_enter Tryz.func69, Tryz.ntmps69
  go_upto_region 1 with fail
  rw [← hw1]
  clear hw1
  obtain ⟨c0, c1, c2⟩ := T1.out.cb.cells
  go_wp2_with fail
  go_at_call 108
  refine (ahead_cb T1.out.cb 1 1 rfl (by omega)).mono ?_
  rintro e w2 ⟨rfl, b2⟩
  have T2 := (show Hid _ from T1.out.below b2)
  clear T1 b2 c0 c1 c2
  rw [h0]
  have hl2 : i + 1 < xs.length := by
    by_cases hh : i + 1 < xs.length
    · exact hh
    · rw [atL_out (by omega)] at h0; omega
  obtain ⟨c0, c1, c2⟩ := T2.out.cb.cells
  go_wp2_with fail
  go_at_call 110
  refine (move_any T2.out.cb.cut s 1 (by omega)).mono ?_
  rintro e w3 ⟨rfl, hc2, hg2⟩
  have T3 := (show Hid _ from T2.out.move hc2 hg2)
  clear T2 hc2 hg2 c0 c1 c2
  obtain ⟨x1, x2⟩ := T3.out.exit ((nil_row _ _)) 0 ⟨#[]⟩ ⟨#[]⟩ false
  have X2 := (show Hid _ from x2)
  have X1 := (show Hid _ from x1)
  unfold tokSet at x1
  have X1 := (show Hid _ from x1)
  clear x1 x2
  obtain ⟨⟨p0, p1, p2, p3, p4⟩, q0, q1, q2, q3, q4⟩ := tok_cells T3.out.res
  clear T3
  go_wp2
  (try simp only [Exit.inBlock, Exit.then])
  refine bodyPost_ret (tok_res (f := Tryz.f69) (p := 2) (q := 3) rfl (k := 0) (nm := ⟨#[]⟩) (va := (.slice none 0 0)) (tx := ⟨#[]⟩) (sf := false) rfl rfl X1.out) rfl ?_
  exact ⟨_, rfl, X2.out⟩
set_option maxHeartbeats 4000000 in
theorem leads_less_open {w0 : World} {g : Nat} {v : Value} {xs : List Int} {i : Nat} (s : ByteArray) (h0 : isAlp (atL xs (i + 1)) = true) : Leads 69 w0 g v xs s i zeroT 10 (i + 1) := by
  intro w h
  have htb := tb_new (s := s) h
  have hxl := h.2.2.2.1.1
  have hil := h.2.2.2.1.2
  obtain ⟨w1, hw1⟩ : ∃ z, z = (w.alloc (.cells #[v, .pointer (some ⟨g, 0, none⟩), .string s] 47)).alloc (.cells #[.int .i64 0, .string ⟨#[]⟩, .slice none 0 0, .string ⟨#[]⟩, .bool false] 30) := ⟨_, rfl⟩
  rw [← hw1] at htb
  have T1 := (show Hid (TB w0 g v xs s w i w1) from htb)
  clear htb h
  unfold cutVal
  go_enter Tryz.func69, Tryz.ntmps69
  go_upto_region 1 with fail
  rw [← hw1]
  clear hw1
  obtain ⟨c0, c1, c2⟩ := T1.out.cb.cells
  go_wp2_with fail
  go_at_call 108
  refine (ahead_cb T1.out.cb 1 1 rfl (by omega)).mono ?_
  rintro e w2 ⟨rfl, b2⟩
  have T2 := (show Hid _ from T1.out.below b2)
  clear T1 b2 c0 c1 c2
  have hl2 : i + 1 < xs.length := by
    by_cases hh : i + 1 < xs.length
    · exact hh
    · rw [atL_out (by omega)] at h0; exact absurd h0 (by decide)
  obtain ⟨x, hx⟩ : ∃ x, x = atL xs (i + 1) := ⟨_, rfl⟩
  rw [← hx] at h0 ⊢
  have h47 : x ≠ 47 := by rintro e; rw [e] at h0; exact absurd h0 (by decide)
  have h33 : x ≠ 33 := by rintro e; rw [e] at h0; exact absurd h0 (by decide)
  have h63 : x ≠ 63 := by rintro e; rw [e] at h0; exact absurd h0 (by decide)
  have n1 : (x == 47) = false := by simp [h47]
  have n2 : (x == 33) = false := by simp [h33]
  have n3 : (x == 63) = false := by simp [h63]
  have ca := fun W => ialpha_any x W
  unfold isAlp at h0
  rw [h0] at ca
  have CA := (show Hid _ from ca)
  clear hx h0 h47 h33 h63 ca
  go_wp2_with fail
  go_at_call 113
  refine (CA.out _).mono ?_
  rintro e w3 ⟨rfl, b3⟩
  have T3 := (show Hid _ from T2.out.below b3)
  clear T2 b3 CA
  obtain ⟨c0, c1, c2⟩ := T3.out.cb.cells
  go_wp2_with fail
  go_at_call 110
  refine (move_any T3.out.cb.cut s 1 (by omega)).mono ?_
  rintro e w4 ⟨rfl, hc2, hg2⟩
  have T4 := (show Hid _ from T3.out.move hc2 hg2)
  clear T3 hc2 hg2 c0 c1 c2
  obtain ⟨x1, x2⟩ := T4.out.exit ((nil_row _ _)) 0 ⟨#[]⟩ ⟨#[]⟩ false
  have X2 := (show Hid _ from x2)
  have X1 := (show Hid _ from x1)
  unfold tokSet at x1
  have X1 := (show Hid _ from x1)
  clear x1 x2
  obtain ⟨⟨p0, p1, p2, p3, p4⟩, q0, q1, q2, q3, q4⟩ := tok_cells T4.out.res
  clear T4
  go_wp2
  (try simp only [Exit.inBlock, Exit.then])
  refine bodyPost_ret (tok_res (f := Tryz.f69) (p := 2) (q := 3) rfl (k := 0) (nm := ⟨#[]⟩) (va := (.slice none 0 0)) (tx := ⟨#[]⟩) (sf := false) rfl rfl X1.out) rfl ?_
  exact ⟨_, rfl, X2.out⟩
set_option maxHeartbeats 4000000 in
theorem leads_less_char {w0 : World} {g : Nat} {v : Value} {xs : List Int} {i : Nat} (s : ByteArray) (h0 : isAlp (atL xs (i + 1)) = false) (h47 : atL xs (i + 1) ≠ 47) (h33 : atL xs (i + 1) ≠ 33) (h63 : atL xs (i + 1) ≠ 63) : Leads 69 w0 g v xs s i zeroT 6 i := by
  intro w h
  have htb := tb_new (s := s) h
  have hxl := h.2.2.2.1.1
  have hil := h.2.2.2.1.2
  obtain ⟨w1, hw1⟩ : ∃ z, z = (w.alloc (.cells #[v, .pointer (some ⟨g, 0, none⟩), .string s] 47)).alloc (.cells #[.int .i64 0, .string ⟨#[]⟩, .slice none 0 0, .string ⟨#[]⟩, .bool false] 30) := ⟨_, rfl⟩
  rw [← hw1] at htb
  have T1 := (show Hid (TB w0 g v xs s w i w1) from htb)
  clear htb h
  unfold cutVal
  go_enter Tryz.func69, Tryz.ntmps69
  go_upto_region 1 with fail
  rw [← hw1]
  clear hw1
  obtain ⟨c0, c1, c2⟩ := T1.out.cb.cells
  go_wp2_with fail
  go_at_call 108
  refine (ahead_cb T1.out.cb 1 1 rfl (by omega)).mono ?_
  rintro e w2 ⟨rfl, b2⟩
  have T2 := (show Hid _ from T1.out.below b2)
  clear T1 b2 c0 c1 c2
  obtain ⟨x, hx⟩ : ∃ x, x = atL xs (i + 1) := ⟨_, rfl⟩
  rw [← hx] at h0 h47 h33 h63 ⊢
  have n1 : (x == 47) = false := by simp [h47]
  have n2 : (x == 33) = false := by simp [h33]
  have n3 : (x == 63) = false := by simp [h63]
  have ca := fun W => ialpha_any x W
  unfold isAlp at h0
  rw [h0] at ca
  have CA := (show Hid _ from ca)
  clear hx h0 h47 h33 h63 ca
  go_wp2_with fail
  go_at_call 113
  refine (CA.out _).mono ?_
  rintro e w3 ⟨rfl, b3⟩
  have T3 := (show Hid _ from T2.out.below b3)
  clear T2 b3 CA
  obtain ⟨x1, x2⟩ := T3.out.exit ((nil_row _ _)) 0 ⟨#[]⟩ ⟨#[]⟩ false
  have X2 := (show Hid _ from x2)
  have X1 := (show Hid _ from x1)
  unfold tokSet at x1
  have X1 := (show Hid _ from x1)
  clear x1 x2
  obtain ⟨⟨p0, p1, p2, p3, p4⟩, q0, q1, q2, q3, q4⟩ := tok_cells T3.out.res
  clear T3
  go_wp2
  (try simp only [Exit.inBlock, Exit.then])
  refine bodyPost_ret (tok_res (f := Tryz.f69) (p := 2) (q := 3) rfl (k := 0) (nm := ⟨#[]⟩) (va := (.slice none 0 0)) (tx := ⟨#[]⟩) (sf := false) rfl rfl X1.out) rfl ?_
  exact ⟨_, rfl, X2.out⟩
set_option maxHeartbeats 4000000 in
theorem leads_slash_char {w0 : World} {g : Nat} {v : Value} {xs : List Int} {i : Nat} (s : ByteArray) (h0 : atL xs (i + 2) = -1) : Leads 70 w0 g v xs s i zeroT 6 i := by
  intro w h
  have htb := tb_new (s := s) h
  have hxl := h.2.2.2.1.1
  have hil := h.2.2.2.1.2
  obtain ⟨w1, hw1⟩ : ∃ z, z = (w.alloc (.cells #[v, .pointer (some ⟨g, 0, none⟩), .string s] 47)).alloc (.cells #[.int .i64 0, .string ⟨#[]⟩, .slice none 0 0, .string ⟨#[]⟩, .bool false] 30) := ⟨_, rfl⟩
  rw [← hw1] at htb
  have T1 := (show Hid (TB w0 g v xs s w i w1) from htb)
  clear htb h
  unfold cutVal
  go_enter Tryz.func70, Tryz.ntmps70
  go_upto_region 1 with fail
  rw [← hw1]
  clear hw1
  obtain ⟨c0, c1, c2⟩ := T1.out.cb.cells
  go_wp2_with fail
  go_at_call 108
  refine (ahead_cb T1.out.cb 2 2 rfl (by omega)).mono ?_
  rintro e w2 ⟨rfl, b2⟩
  have T2 := (show Hid _ from T1.out.below b2)
  clear T1 b2 c0 c1 c2
  rw [h0]
  obtain ⟨x1, x2⟩ := T2.out.exit ((nil_row _ _)) 0 ⟨#[]⟩ ⟨#[]⟩ false
  have X2 := (show Hid _ from x2)
  have X1 := (show Hid _ from x1)
  unfold tokSet at x1
  have X1 := (show Hid _ from x1)
  clear x1 x2
  obtain ⟨⟨p0, p1, p2, p3, p4⟩, q0, q1, q2, q3, q4⟩ := tok_cells T2.out.res
  clear T2
  go_wp2
  (try simp only [Exit.inBlock, Exit.then])
  refine bodyPost_ret (tok_res (f := Tryz.f70) (p := 2) (q := 3) rfl (k := 0) (nm := ⟨#[]⟩) (va := (.slice none 0 0)) (tx := ⟨#[]⟩) (sf := false) rfl rfl X1.out) rfl ?_
  exact ⟨_, rfl, X2.out⟩
set_option maxHeartbeats 4000000 in
theorem leads_slash_data {w0 : World} {g : Nat} {v : Value} {xs : List Int} {i : Nat} (s : ByteArray) (h0 : atL xs (i + 2) = 62) : Leads 70 w0 g v xs s i zeroT 1 (i + 3) := by
  intro w h
  have htb := tb_new (s := s) h
  have hxl := h.2.2.2.1.1
  have hil := h.2.2.2.1.2
  obtain ⟨w1, hw1⟩ : ∃ z, z = (w.alloc (.cells #[v, .pointer (some ⟨g, 0, none⟩), .string s] 47)).alloc (.cells #[.int .i64 0, .string ⟨#[]⟩, .slice none 0 0, .string ⟨#[]⟩, .bool false] 30) := ⟨_, rfl⟩
  rw [← hw1] at htb
  have T1 := (show Hid (TB w0 g v xs s w i w1) from htb)
  clear htb h
  unfold cutVal
  go_enter Tryz.func70, Tryz.ntmps70
  go_upto_region 1 with fail
  rw [← hw1]
  clear hw1
  obtain ⟨c0, c1, c2⟩ := T1.out.cb.cells
  go_wp2_with fail
  go_at_call 108
  refine (ahead_cb T1.out.cb 2 2 rfl (by omega)).mono ?_
  rintro e w2 ⟨rfl, b2⟩
  have T2 := (show Hid _ from T1.out.below b2)
  clear T1 b2 c0 c1 c2
  rw [h0]
  have hl2 : i + 2 < xs.length := by
    by_cases hh : i + 2 < xs.length
    · exact hh
    · rw [atL_out (by omega)] at h0; omega
  obtain ⟨c0, c1, c2⟩ := T2.out.cb.cells
  go_wp2_with fail
  go_at_call 110
  refine (move_any T2.out.cb.cut s 3 (by omega)).mono ?_
  rintro e w3 ⟨rfl, hc2, hg2⟩
  have T3 := (show Hid _ from T2.out.move hc2 hg2)
  clear T2 hc2 hg2 c0 c1 c2
  obtain ⟨x1, x2⟩ := T3.out.exit ((nil_row _ _)) 0 ⟨#[]⟩ ⟨#[]⟩ false
  have X2 := (show Hid _ from x2)
  have X1 := (show Hid _ from x1)
  unfold tokSet at x1
  have X1 := (show Hid _ from x1)
  clear x1 x2
  obtain ⟨⟨p0, p1, p2, p3, p4⟩, q0, q1, q2, q3, q4⟩ := tok_cells T3.out.res
  clear T3
  go_wp2
  (try simp only [Exit.inBlock, Exit.then])
  refine bodyPost_ret (tok_res (f := Tryz.f70) (p := 2) (q := 3) rfl (k := 0) (nm := ⟨#[]⟩) (va := (.slice none 0 0)) (tx := ⟨#[]⟩) (sf := false) rfl rfl X1.out) rfl ?_
  exact ⟨_, rfl, X2.out⟩
set_option maxHeartbeats 4000000 in
theorem leads_slash_close {w0 : World} {g : Nat} {v : Value} {xs : List Int} {i : Nat} (s : ByteArray) (h0 : isAlp (atL xs (i + 2)) = true) (h1 : atL xs (i + 2) ≠ -1) (h62 : atL xs (i + 2) ≠ 62) : Leads 70 w0 g v xs s i zeroT 11 (i + 2) := by
  intro w h
  have htb := tb_new (s := s) h
  have hxl := h.2.2.2.1.1
  have hil := h.2.2.2.1.2
  obtain ⟨w1, hw1⟩ : ∃ z, z = (w.alloc (.cells #[v, .pointer (some ⟨g, 0, none⟩), .string s] 47)).alloc (.cells #[.int .i64 0, .string ⟨#[]⟩, .slice none 0 0, .string ⟨#[]⟩, .bool false] 30) := ⟨_, rfl⟩
  rw [← hw1] at htb
  have T1 := (show Hid (TB w0 g v xs s w i w1) from htb)
  clear htb h
  unfold cutVal
  go_enter Tryz.func70, Tryz.ntmps70
  go_upto_region 1 with fail
  rw [← hw1]
  clear hw1
  obtain ⟨c0, c1, c2⟩ := T1.out.cb.cells
  go_wp2_with fail
  go_at_call 108
  refine (ahead_cb T1.out.cb 2 2 rfl (by omega)).mono ?_
  rintro e w2 ⟨rfl, b2⟩
  have T2 := (show Hid _ from T1.out.below b2)
  clear T1 b2 c0 c1 c2
  have hl2 : i + 2 < xs.length := by
    by_cases hh : i + 2 < xs.length
    · exact hh
    · exact absurd (atL_out (by omega)) h1
  obtain ⟨x, hx⟩ : ∃ x, x = atL xs (i + 2) := ⟨_, rfl⟩
  rw [← hx] at h0 h1 h62 ⊢
  have n1 : (x == -1) = false := by simp [h1]
  have n2 : (x == 62) = false := by simp [h62]
  have ca := fun W => ialpha_any x W
  unfold isAlp at h0
  rw [h0] at ca
  have CA := (show Hid _ from ca)
  clear hx h0 h1 h62 ca
  go_wp2_with fail
  go_at_call 113
  refine (CA.out _).mono ?_
  rintro e w3 ⟨rfl, b3⟩
  have T3 := (show Hid _ from T2.out.below b3)
  clear T2 b3 CA
  obtain ⟨c0, c1, c2⟩ := T3.out.cb.cells
  go_wp2_with fail
  go_at_call 110
  refine (move_any T3.out.cb.cut s 2 (by omega)).mono ?_
  rintro e w4 ⟨rfl, hc2, hg2⟩
  have T4 := (show Hid _ from T3.out.move hc2 hg2)
  clear T3 hc2 hg2 c0 c1 c2
  obtain ⟨x1, x2⟩ := T4.out.exit ((nil_row _ _)) 0 ⟨#[]⟩ ⟨#[]⟩ false
  have X2 := (show Hid _ from x2)
  have X1 := (show Hid _ from x1)
  unfold tokSet at x1
  have X1 := (show Hid _ from x1)
  clear x1 x2
  obtain ⟨⟨p0, p1, p2, p3, p4⟩, q0, q1, q2, q3, q4⟩ := tok_cells T4.out.res
  clear T4
  go_wp2
  (try simp only [Exit.inBlock, Exit.then])
  refine bodyPost_ret (tok_res (f := Tryz.f70) (p := 2) (q := 3) rfl (k := 0) (nm := ⟨#[]⟩) (va := (.slice none 0 0)) (tx := ⟨#[]⟩) (sf := false) rfl rfl X1.out) rfl ?_
  exact ⟨_, rfl, X2.out⟩
set_option maxHeartbeats 4000000 in
theorem leads_slash_remark {w0 : World} {g : Nat} {v : Value} {xs : List Int} {i : Nat} (s : ByteArray) (h0 : isAlp (atL xs (i + 2)) = false) (h1 : atL xs (i + 2) ≠ -1) (h62 : atL xs (i + 2) ≠ 62) : Leads 70 w0 g v xs s i zeroT 13 (i + 2) := by
  intro w h
  have htb := tb_new (s := s) h
  have hxl := h.2.2.2.1.1
  have hil := h.2.2.2.1.2
  obtain ⟨w1, hw1⟩ : ∃ z, z = (w.alloc (.cells #[v, .pointer (some ⟨g, 0, none⟩), .string s] 47)).alloc (.cells #[.int .i64 0, .string ⟨#[]⟩, .slice none 0 0, .string ⟨#[]⟩, .bool false] 30) := ⟨_, rfl⟩
  rw [← hw1] at htb
  have T1 := (show Hid (TB w0 g v xs s w i w1) from htb)
  clear htb h
  unfold cutVal
  go_enter Tryz.func70, Tryz.ntmps70
  go_upto_region 1 with fail
  rw [← hw1]
  clear hw1
  obtain ⟨c0, c1, c2⟩ := T1.out.cb.cells
  go_wp2_with fail
  go_at_call 108
  refine (ahead_cb T1.out.cb 2 2 rfl (by omega)).mono ?_
  rintro e w2 ⟨rfl, b2⟩
  have T2 := (show Hid _ from T1.out.below b2)
  clear T1 b2 c0 c1 c2
  have hl2 : i + 2 < xs.length := by
    by_cases hh : i + 2 < xs.length
    · exact hh
    · exact absurd (atL_out (by omega)) h1
  obtain ⟨x, hx⟩ : ∃ x, x = atL xs (i + 2) := ⟨_, rfl⟩
  rw [← hx] at h0 h1 h62 ⊢
  have n1 : (x == -1) = false := by simp [h1]
  have n2 : (x == 62) = false := by simp [h62]
  have ca := fun W => ialpha_any x W
  unfold isAlp at h0
  rw [h0] at ca
  have CA := (show Hid _ from ca)
  clear hx h0 h1 h62 ca
  go_wp2_with fail
  go_at_call 113
  refine (CA.out _).mono ?_
  rintro e w3 ⟨rfl, b3⟩
  have T3 := (show Hid _ from T2.out.below b3)
  clear T2 b3 CA
  obtain ⟨c0, c1, c2⟩ := T3.out.cb.cells
  go_wp2_with fail
  go_at_call 110
  refine (move_any T3.out.cb.cut s 2 (by omega)).mono ?_
  rintro e w4 ⟨rfl, hc2, hg2⟩
  have T4 := (show Hid _ from T3.out.move hc2 hg2)
  clear T3 hc2 hg2 c0 c1 c2
  obtain ⟨x1, x2⟩ := T4.out.exit ((nil_row _ _)) 0 ⟨#[]⟩ ⟨#[]⟩ false
  have X2 := (show Hid _ from x2)
  have X1 := (show Hid _ from x1)
  unfold tokSet at x1
  have X1 := (show Hid _ from x1)
  clear x1 x2
  obtain ⟨⟨p0, p1, p2, p3, p4⟩, q0, q1, q2, q3, q4⟩ := tok_cells T4.out.res
  clear T4
  go_wp2
  (try simp only [Exit.inBlock, Exit.then])
  refine bodyPost_ret (tok_res (f := Tryz.f70) (p := 2) (q := 3) rfl (k := 0) (nm := ⟨#[]⟩) (va := (.slice none 0 0)) (tx := ⟨#[]⟩) (sf := false) rfl rfl X1.out) rfl ?_
  exact ⟨_, rfl, X2.out⟩
end Go.Proofs.YtggfifchkecnjaaGreatDoor
