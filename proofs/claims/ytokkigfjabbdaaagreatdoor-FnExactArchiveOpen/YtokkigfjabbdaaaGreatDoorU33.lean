/- The program's headIn: readWell round its closure; the sector, the pack again. -/
import Derived.Test.YtokkigfjabbdaaaGreatDoorU32
namespace Go.Proofs.YtokkigfjabbdaaaGreatDoor
open Go.RowKit
set_option maxRecDepth 100000
set_option linter.unusedVariables false

set_option maxHeartbeats 400000 in
set_option maxRecDepth 100000 in
theorem wellHead_any {w0 : World} {g r x : Nat} {v : Value} {xs : List Int} {w : World} (h : Rdr w0 g v xs 0 w) (hb : ∀ x ∈ xs, 0 ≤ x ∧ x ≤ 255) (hr : Box w r 166 (.pointer (some ⟨g, 0, none⟩))) (hx : w.heap[x]? = some (.cells #[.int .i64 0, .int .i64 0, .int .i64 0] 36 (0, 0)))
    (h1 : r ≠ g) (h2 : x ≠ g) (h3 : r ≠ x) (h4 : w0.heap.size ≤ x) :
    Calls Tryz.prog 119 #[.func (.func 120) #[] #[.pointer (some ⟨r, 0, none⟩), .pointer (some ⟨x, 0, none⟩)]] w fun e w' =>
      ((∃ q, read3 xs = some q ∧ e = .returned (.bool true) ∧ w'.heap[x]? = some (.cells #[.int .i64 q.no, .int .i64 q.area, .int .i64 q.en] 36 (0, 0))) ∨ (read3 xs = none ∧ e = .returned (.bool false))) ∧ Below w0.heap.size w0 w' := by
  have hmf : ∀ (fn : Fn) (first cap : Array Value) (w : World), (Instr.makeFunc fn first cap).run Tryz.prog w = .ok (.func fn first cap) w := fun _ _ _ _ => rfl
  have hlt := h.lt
  have hltr := hr.lt
  have hltx := lt_of_block hx
  have hsz := h.2.2.1.size
  have ga := fun (o : Obj) (row : Option Nat) => World.grownBy_alloc w o row
  have hal : Below w.heap.size w (w.alloc (.cells #[.bool false] 4)) := (Below.refl _ _).alloc (Nat.le_refl _) _
  have hq : Box (w.alloc (.cells #[.bool false] 4)) w.heap.size 4 (.bool false) := World.alloc_heap_new _ _
  have hr' := hr.grown (ga (.cells #[.bool false] 4) none) (by simp)
  have hx' := (hal.block x hltx).trans hx
  have h' := h.below hal
  have CALL := (show Hid (Calls Tryz.prog 120 #[.pointer (some ⟨r, 0, none⟩), .pointer (some ⟨x, 0, none⟩)] (w.alloc (.cells #[.bool false] 4)) _) from closeHead_any h' hb hr' hx' h1 h2 h3 h4)
  clear h hr hx hal ga h' hx'
  go_enter_defers Tryz.func119, Tryz.ntmps119
  go_wp2_with fail
  go_at_call 120
  refine CALL.out.mono ?_
  rintro e w2 ⟨hor, on2, b2⟩
  have hq2 := on2.box hq (by omega) (by omega)
  obtain ⟨cq, fq⟩ := hq2.cell
  have hs2 := on2.1
  rcases hor with ⟨q, hy, rfl, hx2, hr2⟩ | ⟨hy, t, s, rfl⟩
  · have q3 := hq2.set (.bool true)
    have b3 := b2.setCell (p := ⟨w.heap.size, 0, none⟩) hsz (.bool true)
    have hx3 := (Below.heap_setCell w2 ⟨w.heap.size, 0, none⟩ (.bool true) x (by show x ≠ w.heap.size; omega)).trans hx2
    have P3 := (show Hid (_ ∧ _ ∧ _ ∧ _) from ⟨hy, q3, b3, hx3⟩)
    clear hy q3 b3 hx3 hx2 hr2
    go_wp2
    refine leaves_cons (f := 140) (args := #[.pointer (some ⟨w.heap.size, 0, none⟩)]) (by simp) (by simp [go_sem]) ?_
    obtain ⟨hy, q3, b3, hx3⟩ := P3.out
    refine (catch_idle _ true _ q3.cell.1 q3.cell.2).mono ?_
    rintro e u' w3 ⟨rfl, rfl, rfl⟩
    have q4 := q3.set (.bool true)
    have b4 := b3.setCell (p := ⟨w.heap.size, 0, none⟩) hsz (.bool true)
    have hx4 := (Below.heap_setCell (w2.setCell ⟨w.heap.size, 0, none⟩ (.bool true)) ⟨w.heap.size, 0, none⟩ (.bool true) x (by show x ≠ w.heap.size; omega)).trans hx3
    have c4 := q4.cell.1
    simp [Leaves, settle, results, Tryz.results119, go_sem, c4]
    exact ⟨⟨q, hy, hx4⟩, b4⟩
  · have q3 := hq2.set (.bool false)
    have b3 := b2.setCell (p := ⟨w.heap.size, 0, none⟩) hsz (.bool false)
    have P3 := (show Hid (_ ∧ _ ∧ _) from ⟨hy, q3, b3⟩)
    clear hy q3 b3
    go_wp2
    refine leaves_cons (f := 140) (args := #[.pointer (some ⟨w.heap.size, 0, none⟩)]) (by simp) (by simp [go_sem]) ?_
    refine (catch_bad _ false t s [] _ cq fq).mono ?_
    rintro e u' w3 ⟨rfl, rfl, rfl⟩
    obtain ⟨hy, q3, b3⟩ := P3.out
    have c4 := q3.cell.1
    simp [Leaves, settle, results, Tryz.results119, go_sem, c4]
    exact ⟨hy, b3⟩

theorem lt_of_cell {w : World} {b k : Nat} {u : Value} (h : w.cell? ⟨b, k, none⟩ = some u) : b < w.heap.size := by
  by_cases hlt : b < w.heap.size
  · exact hlt
  · exfalso; simp [World.cell?, Array.getElem?_eq_none (Nat.le_of_not_lt hlt)] at h
/-- The variable that holds the program's one error. -/
def Sent (w : World) : Prop := ∃ a : Addr, w.cell? ⟨0, 0, none⟩ = some (.iface 225 (.pointer (some a)))
theorem Sent.below {w w' : World} (h : Sent w) (b : Below w.heap.size w w') : Sent w' := by
  obtain ⟨a, h⟩ := h
  exact ⟨a, (b.cell (p := ⟨0, 0, none⟩) (lt_of_cell h)).trans h⟩

/-- The error beside a head: none where it is one. -/
def HeadErr (s : ByteArray) (w : World) (er : Value) : Prop := if (readDk s).2 = true then er = .nilIface else ∃ a : Addr, w.cell? ⟨0, 0, none⟩ = some (.iface 225 (.pointer (some a))) ∧ er = .iface 225 (.pointer (some a))
theorem far1 {w : World} {b g o k : Nat} {v : Value} {u : Option Value} (hne : b ≠ g) (h : w.cell? ⟨b, k, none⟩ = u) : (w.setCell ⟨g, o, none⟩ v).cell? ⟨b, k, none⟩ = u := by
  rw [← h]; simp only [World.cell?, Below.heap_setCell w ⟨g, o, none⟩ v b hne]
theorem toList_noH {a b : ByteArray} (h : a ≠ b) : (a.toList == b.toList) = false := by
  rw [beq_eq_false_iff_ne]
  exact fun e => h ((toList_eq_iff a b).mp e)
theorem below_syn {u W : World} {cs : Array Value} {t : TypeId} (b : Below u.heap.size u W) (h : W.heap[u.heap.size]? = some (.cells cs t (0, 0))) : Below (u.alloc (.cells cs t)).heap.size (u.alloc (.cells cs t)) W := by
  refine ⟨b.1, b.2, b.3, by rw [World.size_alloc]; exact lt_of_block h, fun k hk => ?_⟩
  rw [World.size_alloc] at hk
  by_cases e : k = u.heap.size
  · subst e; rw [h]; exact (World.alloc_heap_new _ _).symm
  · rw [b.block k (by omega), Below.heap_alloc _ _ _ (by omega)]
set_option maxHeartbeats 400000 in
set_option maxRecDepth 100000 in
theorem iheadIn_any (s : ByteArray) (w : World) (hs : s.size ≤ 1099511627776) (he : Sent w) :
    Calls Tryz.prog 97 #[.string s] w fun e w' => (∃ er, e = .returned (.tuple #[headV (readDk s).1, er]) ∧ HeadErr s w er) ∧ Below w.heap.size w w' := by
  have hmf : ∀ (fn : Fn) (first cap : Array Value) (w : World), (Instr.makeFunc fn first cap).run Tryz.prog w = .ok (.func fn first cap) w := fun _ _ _ _ => rfl
  have CS := (show Hid (∀ W, Calls Tryz.prog 118 #[.string s] W fun e w' => e = .returned (.agg (secA (padS s))) ∧ Below W.heap.size W w') from fun W => isectorFrom_pad s W)
  obtain ⟨w1, hw1⟩ : ∃ y, y = w.alloc (.cells #[.int .i64 0, .int .i64 0, .int .i64 0] 36) := ⟨_, rfl⟩
  go_enter Tryz.func97, Tryz.ntmps97
  have h1 := (Hl.refl w).new #[.int .i64 0, .int .i64 0, .int .i64 0] 36
  rw [← hw1] at h1
  have H1 := (show Hid _ from h1)
  clear h1
  go_wp2_with fail
  go_at_call 118
  rw [← hw1]
  refine Calls.mono (CS.out w1) ?_
  rintro e w2 ⟨rfl, b2⟩
  have H2 := (show Hid _ from H1.out.below b2)
  clear hw1 H1 b2
  obtain ⟨w3, hw3⟩ : ∃ y, y = ((w2.alloc (.cells #[.int .u8 0, .int .u8 0, .int .u8 0, .int .u8 0, .int .u8 0, .int .u8 0, .int .u8 0, .int .u8 0, .int .u8 0, .int .u8 0, .int .u8 0, .int .u8 0, .int .u8 0, .int .u8 0, .int .u8 0, .int .u8 0, .int .u8 0, .int .u8 0, .int .u8 0, .int .u8 0, .int .u8 0, .int .u8 0, .int .u8 0, .int .u8 0, .int .u8 0, .int .u8 0, .int .u8 0, .int .u8 0, .int .u8 0, .int .u8 0, .int .u8 0, .int .u8 0, .int .u8 0, .int .u8 0, .int .u8 0, .int .u8 0, .int .u8 0, .int .u8 0, .int .u8 0, .int .u8 0, .int .u8 0, .int .u8 0, .int .u8 0, .int .u8 0, .int .u8 0, .int .u8 0, .int .u8 0, .int .u8 0, .int .u8 0, .int .u8 0, .int .u8 0, .int .u8 0, .int .u8 0, .int .u8 0, .int .u8 0, .int .u8 0, .int .u8 0, .int .u8 0, .int .u8 0, .int .u8 0, .int .u8 0, .int .u8 0, .int .u8 0, .int .u8 0] 164)).alloc (.cells #[.int .i64 0, .int .i64 0, .int .i64 0] 36)) := ⟨_, rfl⟩
  have h3 := (H2.out.new #[.int .u8 0, .int .u8 0, .int .u8 0, .int .u8 0, .int .u8 0, .int .u8 0, .int .u8 0, .int .u8 0, .int .u8 0, .int .u8 0, .int .u8 0, .int .u8 0, .int .u8 0, .int .u8 0, .int .u8 0, .int .u8 0, .int .u8 0, .int .u8 0, .int .u8 0, .int .u8 0, .int .u8 0, .int .u8 0, .int .u8 0, .int .u8 0, .int .u8 0, .int .u8 0, .int .u8 0, .int .u8 0, .int .u8 0, .int .u8 0, .int .u8 0, .int .u8 0, .int .u8 0, .int .u8 0, .int .u8 0, .int .u8 0, .int .u8 0, .int .u8 0, .int .u8 0, .int .u8 0, .int .u8 0, .int .u8 0, .int .u8 0, .int .u8 0, .int .u8 0, .int .u8 0, .int .u8 0, .int .u8 0, .int .u8 0, .int .u8 0, .int .u8 0, .int .u8 0, .int .u8 0, .int .u8 0, .int .u8 0, .int .u8 0, .int .u8 0, .int .u8 0, .int .u8 0, .int .u8 0, .int .u8 0, .int .u8 0, .int .u8 0, .int .u8 0] 164).new #[.int .i64 0, .int .i64 0, .int .i64 0] 36
  rw [← hw3, World.size_alloc] at h3
  have H3 := (show Hid _ from h3)
  have h3s : w2.heap.size < w3.heap.size := by rw [hw3, World.size_alloc, World.size_alloc]; omega
  have E3 : Hid (w3.heap.size = w2.heap.size + 1 + 1) := (show w3.heap.size = w2.heap.size + 1 + 1 by rw [hw3, World.size_alloc, World.size_alloc])
  have B23 : Hid (Below w2.heap.size w2 w3) := (show Below w2.heap.size w2 w3 by rw [hw3]; exact ((Below.refl _ _).alloc (Nat.le_refl _) _).alloc (by rw [World.size_alloc]; exact Nat.le_succ _) _)
  clear h3 h3s
  go_wp2_with (refine wpList_store_row rfl 164 (.tmp 4) (.tmp 10) rfl w2.heap.size (secA (padS s)) rfl rfl 164 _ (by rw [← hw3]; exact H3.out.at1) (secSize (padS_size s)) (by rw [secA_size, padS_size]; rfl) (secA_one (padS s)) ?_
               rw [← hw3]
               obtain ⟨w4, hw4⟩ : ∃ y, y = w3.setRow w2.heap.size (secA (padS s)) := ⟨_, rfl⟩
               rw [← hw4]
               have c1 : w4.heap[w2.heap.size]? = some (.cells (secA (padS s)) 164 (0, 0)) := by rw [hw4]; exact setRow_heap _ _ _ _ _ _ H3.out.at1
               have c2 : w4.heap[w2.heap.size + 1]? = some (.cells #[.int .i64 0, .int .i64 0, .int .i64 0] 36 (0, 0)) := by rw [hw4, setRow_other _ _ _ _ (by omega)]; exact H3.out.at0
               have c3 : w4.heap[w.heap.size]? = some (.cells #[.int .i64 0, .int .i64 0, .int .i64 0] 36 (0, 0)) := by rw [hw4, setRow_other _ _ _ _ (Nat.ne_of_lt (lt_of_block H2.out.at0))]; exact H3.out.at2
               have c4 : Below w.heap.size w w4 := by rw [hw4]; exact H3.out.1.grown (grown_setRow _ _ _) H3.out.1.size (fun r e => by cases e; exact H2.out.1.size)
               have c5 : w4.heap.size = w2.heap.size + 1 + 1 := by rw [hw4]; simp [E3.out]
               have C4 := (show Hid (_ ∧ _ ∧ _ ∧ _ ∧ _) from ⟨c1, c2, c3, c4, c5⟩)
               obtain ⟨_, _, _, f1, f2, f3⟩ := rk_three c2
               have B24 : Hid (Below w2.heap.size w2 w4) := (show Below w2.heap.size w2 w4 by rw [hw4]; exact B23.out.grown (grown_setRow _ _ _) B23.out.size (fun r e => by cases e; exact Nat.le_refl _))
               clear c1 c2 c3 c4 c5 hw4 hw3)
  obtain ⟨c1, c2, c3, c4, c5⟩ := C4.out
  obtain ⟨w5, hw5⟩ : ∃ y, y = ((w4.setCell ⟨w2.heap.size + 1, 0, none⟩ (.int .i64 0)).setCell ⟨w2.heap.size + 1, 1, none⟩ (.int .i64 0)).setCell ⟨w2.heap.size + 1, 2, none⟩ (.int .i64 0) := ⟨_, rfl⟩
  have s5 : w5.heap.size = w4.heap.size := by rw [hw5]; simp
  have x5 : w5.heap[w2.heap.size + 1]? = some (.cells #[.int .i64 0, .int .i64 0, .int .i64 0] 36 (0, 0)) := by
    rw [hw5]; exact rk_at (k := 2) (u := .int .i64 0) (rk_at (k := 1) (u := .int .i64 0) (rk_at (k := 0) (u := .int .i64 0) c2))
  have y5 : w5.heap[w2.heap.size]? = some (.cells (secA (padS s)) 164 (0, 0)) := by
    rw [hw5, Below.heap_setCell _ _ _ _ (by show w2.heap.size ≠ w2.heap.size + 1; omega), Below.heap_setCell _ _ _ _ (by show w2.heap.size ≠ w2.heap.size + 1; omega), Below.heap_setCell _ _ _ _ (by show w2.heap.size ≠ w2.heap.size + 1; omega)]; exact c1
  have b25 : Below w2.heap.size w2 w5 := by
    rw [hw5]
    exact ((B24.out.setCell (p := ⟨w2.heap.size + 1, 0, none⟩) (Nat.le_succ _) _).setCell (p := ⟨w2.heap.size + 1, 1, none⟩) (Nat.le_succ _) _).setCell (p := ⟨w2.heap.size + 1, 2, none⟩) (Nat.le_succ _) _
  obtain ⟨w7, hw7⟩ : ∃ y, y = (w5.alloc (.cells #[.slice (some ⟨w2.heap.size, 0, none⟩) 64 64, .int .i64 0] 168)).alloc (.cells #[.pointer (some ⟨w4.heap.size, 0, none⟩)] 166) := ⟨_, rfl⟩
  have b57 : Below w5.heap.size w5 w7 := by rw [hw7]; exact ((Below.refl _ _).alloc (Nat.le_refl _) _).alloc (by rw [World.size_alloc]; exact Nat.le_succ _) _
  have g7 : w7.heap[w4.heap.size]? = some (.cells #[.slice (some ⟨w2.heap.size, 0, none⟩) 64 64, .int .i64 0] 168 (0, 0)) := by
    rw [hw7, Below.heap_alloc _ _ _ (by rw [World.size_alloc, s5]; exact Nat.lt_succ_self _), ← s5]; exact World.alloc_heap_new _ _
  have r7 : Box w7 (w4.heap.size + 1) 166 (.pointer (some ⟨w4.heap.size, 0, none⟩)) := by
    unfold Box
    have := World.alloc_heap_new (w5.alloc (.cells #[.slice (some ⟨w2.heap.size, 0, none⟩) 64 64, .int .i64 0] 168)) (.cells #[.pointer (some ⟨w4.heap.size, 0, none⟩)] 166)
    rw [World.size_alloc, s5, ← hw7] at this
    exact this
  have b27 : Below w2.heap.size w2 w7 := b25.trans (b57.mono b25.size)
  have y7 := (b57.block _ (lt_of_block y5)).trans y5
  have x7 := (b57.block _ (lt_of_block x5)).trans x5
  have z0 : (w2.alloc (.cells (secA (padS s)) 164)).heap.size = w2.heap.size + 1 := World.size_alloc _ _
  have rd : Rdr (w2.alloc (.cells (secA (padS s)) 164)) w4.heap.size (.slice (some ⟨w2.heap.size, 0, none⟩) 64 64) (padL s) 0 w7 := by
    refine ⟨by rw [z0, c5]; omega, ?_, below_syn b27 y7, by rw [padL_len]; omega, g7⟩
    refine Blk.sl (t := 164) ⟨_, _, _, World.alloc_heap_new _ _, ?_, .inr rfl⟩ (by rw [padL_len]) (by rw [padL_len]; exact Nat.le_refl _) (by unfold maxLen; omega)
    intro j hj
    rw [← padS_bs] at hj ⊢
    have hj' : j < (secL (padS s)).length := by rw [secL_len]; rw [bs_len] at hj; exact hj
    simp [secA, secL, List.getElem?_eq_getElem hj, List.getD_eq_getElem?_getD]
  have CALL := (show Hid (Calls Tryz.prog 119 #[.func (.func 120) #[] #[.pointer (some ⟨w4.heap.size + 1, 0, none⟩), .pointer (some ⟨w2.heap.size + 1, 0, none⟩)]] w7 _) from wellHead_any rd (padL_byte s) r7 x7 (by omega) (by omega) (by omega) (by rw [z0]; exact Nat.le_refl _))
  have Z2 := (show Hid (w.heap.size < w2.heap.size) from lt_of_block H2.out.at0)
  clear rd r7 x7 y7 b27 g7 b57 b25 y5 x5 s5 c1 c2 c3 c4 c5 C4 B24 B23 f1 f2 f3
  go_at_call 119
  rw [← hw5, ← hw7]
  clear hw5 hw7
  refine CALL.out.mono ?_
  rintro e w8 ⟨hor, b8⟩
  have B8 := (show Hid (Below w2.heap.size w2 w8) from (((Below.refl w2.heap.size w2).alloc (Nat.le_refl _) _).trans (b8.mono (by rw [z0]; exact Nat.le_succ _))))
  have H8 := (show Hid _ from H2.out.below B8.out)
  have HE := (show Hid (Sent w) from he)
  clear CALL b8 z0 he
  rcases hor with ⟨q, hq, rfl, hx8⟩ | ⟨hq, rfl⟩
  · obtain ⟨a, ha⟩ := HE.out
    have HQ : Hid (∀ q, read3 (padL s) = some q → readDk s = if (headB q && decide (packS q = s)) = true then (q, true) else (zeroH, false)) := (fun q h => by rw [← headQ_eq, headQ, h])
    have HQ0 := (show Hid _ from HQ.out q hq)
    obtain ⟨p0, p1, p2⟩ := q
    obtain ⟨k1, k2, k3, _⟩ := rk_three hx8
    have CP := (show Hid _ from iheadPack_all ⟨p0, p1, p2⟩ w8)
    have X8 := (show Hid _ from hx8)
    have HA := (show Hid (w.cell? ⟨0, 0, none⟩ = some (.iface 225 (.pointer (some a)))) from ha)
    unfold headV at CP
    simp only at CP
    obtain ⟨⟨ps, pb⟩, hp⟩ : ∃ y, y = packDk ⟨p0, p1, p2⟩ := ⟨_, rfl⟩
    rw [← hp] at CP
    simp only at CP
    have HP := (show Hid ((ps, pb) = packDk ⟨p0, p1, p2⟩) from hp)
    clear hq hx8 hp HQ ha
    go_wp2_with fail
    go_at_call 122
    refine Calls.mono CP.out ?_
    rintro e w9 ⟨rfl, b9⟩
    have H9 := (show Hid _ from H8.out.below b9)
    have X9 := (show Hid _ from (b9.block _ (lt_of_block X8.out)).trans X8.out)
    clear b9 CP k1 k2 k3
    cases pb
    · have HR : Hid (readDk s = (zeroH, false)) := (show readDk s = (zeroH, false) by
        rw [HQ0.out, if_neg]
        intro e
        simp only [Bool.and_eq_true] at e
        have := HP.out
        rw [packDk, if_pos e.1] at this
        simp at this)
      have FA := (show Hid (0 ≠ w.heap.size) from Nat.ne_of_lt (lt_of_cell HA.out))
      obtain ⟨_, _, _, r1, r2, r3⟩ := rk_three H9.out.at0
      have ce : w9.cell? ⟨0, 0, none⟩ = some (.iface 225 (.pointer (some a))) := (H9.out.1.cell (p := ⟨0, 0, none⟩) (lt_of_cell HA.out)).trans HA.out
      have HC := (show Hid (w9.drew.cell? ⟨0, 0, none⟩ = some (.iface 225 (.pointer (some a)))) from ce)
      go_wp2_with fail
      go_region_held3 (fun w' => w'.cell? ⟨0, 0, none⟩ = some (.iface 225 (.pointer (some a))))
        (first | exact HC.out | exact far1 FA.out HC.out | exact far1 FA.out (far1 FA.out HC.out) | exact far1 FA.out (far1 FA.out (far1 FA.out HC.out))) (fail)
      all_goals
        go_wp2
        have H10 := (H9.out.set3 (Nat.le_refl _) (by simp) (.int .i64 0) (.int .i64 0) (.int .i64 0)).below (below_drewN 1)
        refine bodyPost_ret (head_res rfl rfl rfl H10.at0) rfl ?_
        rw [HR.out]
        exact ⟨⟨_, rfl, by rw [HeadErr, HR.out, if_neg (by decide)]; exact ⟨a, HA.out, rfl⟩⟩, H10.1⟩
    · by_cases hps : ps = s
      · have hbq : headB ⟨p0, p1, p2⟩ = true ∧ ps = packS ⟨p0, p1, p2⟩ := by
          have := HP.out
          rw [packDk] at this
          split at this
          · exact ⟨by assumption, (Prod.mk.inj this).1⟩
          · simp at this
        have HR : Hid (readDk s = (⟨p0, p1, p2⟩, true)) := (show readDk s = (⟨p0, p1, p2⟩, true) by rw [HQ0.out, if_pos (by rw [hbq.1, ← hbq.2, hps]; simp)])
        clear hbq
        subst hps
        obtain ⟨_, _, _, r1, r2, r3⟩ := rk_three H9.out.at0
        obtain ⟨k1, k2, k3, _⟩ := rk_three X9.out
        clear HP HQ0
        go_wp2
        have H10 := H9.out.set3 (Nat.le_refl _) (by simp) (.int .i64 p0) (.int .i64 p1) (.int .i64 p2)
        refine bodyPost_ret (head_res rfl rfl rfl H10.at0) rfl ?_
        rw [HR.out]
        exact ⟨⟨_, rfl, by rw [HeadErr, HR.out, if_pos rfl]; rfl⟩, H10.1⟩
      · have HR : Hid (readDk s = (zeroH, false)) := (show readDk s = (zeroH, false) by
          rw [HQ0.out, if_neg]
          intro e
          simp only [Bool.and_eq_true, decide_eq_true_eq] at e
          have := HP.out
          rw [packDk, if_pos e.1] at this
          exact hps ((Prod.mk.inj this).1.trans e.2))
        have hb1 : (ps.toList == s.toList) = false := toList_noH hps
        have hb2 : (ps.toList != s.toList) = true := by rw [bne, hb1]; rfl
        clear HP HQ0
        have FA := (show Hid (0 ≠ w.heap.size) from Nat.ne_of_lt (lt_of_cell HA.out))
        obtain ⟨_, _, _, r1, r2, r3⟩ := rk_three H9.out.at0
        have ce : w9.cell? ⟨0, 0, none⟩ = some (.iface 225 (.pointer (some a))) := (H9.out.1.cell (p := ⟨0, 0, none⟩) (lt_of_cell HA.out)).trans HA.out
        have HC := (show Hid (w9.drew.cell? ⟨0, 0, none⟩ = some (.iface 225 (.pointer (some a)))) from ce)
        go_wp2_with fail
        go_region_held3 (fun w' => w'.cell? ⟨0, 0, none⟩ = some (.iface 225 (.pointer (some a))))
          (first | exact HC.out | exact far1 FA.out HC.out | exact far1 FA.out (far1 FA.out HC.out) | exact far1 FA.out (far1 FA.out (far1 FA.out HC.out))) (fail)
        all_goals
          go_wp2
          have H10 := (H9.out.set3 (Nat.le_refl _) (by simp) (.int .i64 0) (.int .i64 0) (.int .i64 0)).below (below_drewN 1)
          refine bodyPost_ret (head_res rfl rfl rfl H10.at0) rfl ?_
          rw [HR.out]
          exact ⟨⟨_, rfl, by rw [HeadErr, HR.out, if_neg (by decide)]; exact ⟨a, HA.out, rfl⟩⟩, H10.1⟩
  · obtain ⟨a, ha⟩ := HE.out
    have HR : Hid (readDk s = (zeroH, false)) := (show readDk s = (zeroH, false) by rw [← headQ_eq, headQ, hq])
    have HA := (show Hid _ from ha)
    clear ha hq
    have FA := (show Hid (0 ≠ w.heap.size) from Nat.ne_of_lt (lt_of_cell HA.out))
    obtain ⟨_, _, _, r1, r2, r3⟩ := rk_three H8.out.at0
    have ce : w8.cell? ⟨0, 0, none⟩ = some (.iface 225 (.pointer (some a))) := (H8.out.1.cell (p := ⟨0, 0, none⟩) (lt_of_cell HA.out)).trans HA.out
    have HC := (show Hid (w8.drew.cell? ⟨0, 0, none⟩ = some (.iface 225 (.pointer (some a)))) from ce)
    go_wp2_with fail
    go_region_held3 (fun w' => w'.cell? ⟨0, 0, none⟩ = some (.iface 225 (.pointer (some a))))
      (first | exact HC.out | exact far1 FA.out HC.out | exact far1 FA.out (far1 FA.out HC.out) | exact far1 FA.out (far1 FA.out (far1 FA.out HC.out))) (fail)
    all_goals
      go_wp2
      have H10 := (H8.out.set3 (Nat.le_refl _) (by simp) (.int .i64 0) (.int .i64 0) (.int .i64 0)).below (below_drewN 1)
      refine bodyPost_ret (head_res rfl rfl rfl H10.at0) rfl ?_
      rw [HR.out]
      exact ⟨⟨_, rfl, by rw [HeadErr, HR.out, if_neg (by decide)]; exact ⟨a, HA.out, rfl⟩⟩, H10.1⟩
end Go.Proofs.YtokkigfjabbdaaaGreatDoor
