/- The program's lastThat with the closures of a row (written by mk/irow3.py). No condition. -/
import Derived.Test.YthdfhckmgneioaaGreatIRow2
import Derived.Test.YthdfhckmgneioaaGreatSRow2
import Derived.Test.YthdfhckmgneioaaGreatIKind2
namespace Go.Proofs.YthdfhckmgneioaaGreat
open Go.RowKit
set_option maxRecDepth 100000
set_option linter.unusedVariables false

/-- The receiver's box and the name's box of a closure over a row. -/
structure Boxes (w : World) (R M A : Nat) (v : Value) (nm : ByteArray) : Prop where
  r1 : w.cell? ⟨R, 1, none⟩ = some (.pointer (some ⟨A, 0, none⟩))
  a0 : w.cell? ⟨A, 0, none⟩ = some v
  m0 : w.cell? ⟨M, 0, none⟩ = some (.string nm)
theorem Boxes.below {w w' : World} {R M A : Nat} {v : Value} {nm : ByteArray} (h : Boxes w R M A v nm) (hb : Below w.heap.size w w') : Boxes w' R M A v nm :=
  ⟨(hb.cell (p := ⟨R, 1, none⟩) (lt_of_cell h.r1)).trans h.r1, (hb.cell (p := ⟨A, 0, none⟩) (lt_of_cell h.a0)).trans h.a0, (hb.cell (p := ⟨M, 0, none⟩) (lt_of_cell h.m0)).trans h.m0⟩

set_option maxHeartbeats 1000000 in
set_option maxRecDepth 100000 in
theorem inamed1_any {w : World} {R M A : Nat} {v : Value} {nm : ByteArray} {ns : List PNode} (hx : Boxes w R M A v nm) (hn : NodesAt w v ns) (hlen : ns.length ≤ 1048576) {x : Int} (he : elB ns x = true) :
    Calls Tryz.prog 48 #[.int .i64 x, .pointer (some ⟨R, 0, none⟩), .pointer (some ⟨M, 0, none⟩)] w fun e w' => e = .returned (.bool (named ns nm x)) ∧ Below w.heap.size w w' := by
  obtain ⟨a, cap, rfl, hc1, hc2, hcs⟩ := hn.slice
  obtain ⟨m, rfl, hm⟩ := elB_at he
  obtain ⟨b, off, av, kv, rfl, hblt, _, d1, _⟩ := hcs m hm
  have HNM : Hid (named ns nm (m : Int) = decide (ns[m].name = nm)) := (show named ns nm (m : Int) = decide (ns[m].name = nm) by rw [named, nmOf_at hm])
  obtain ⟨y, hy⟩ : ∃ y, y = ns[m].name := ⟨_, rfl⟩
  rw [← hy] at d1 HNM
  have f0 : ∀ n : Wd w.heap.size w, n.w.cell? ⟨R, 1, none⟩ = some (.pointer (some ⟨A, 0, none⟩)) := fun n => (hx.below n.below).r1
  have f1 : ∀ n : Wd w.heap.size w, n.w.cell? ⟨A, 0, none⟩ = some (.slice (some ⟨b, off, none⟩) ns.length cap) := fun n => (hx.below n.below).a0
  have f2 : ∀ n : Wd w.heap.size w, n.w.cell? ⟨M, 0, none⟩ = some (.string nm) := fun n => (hx.below n.below).m0
  have f3 : ∀ n : Wd w.heap.size w, n.w.cell? ⟨b, off + m * 6 + 1, none⟩ = some (.string y) := fun n => (n.below.cell (p := ⟨b, off + m * 6 + 1, none⟩) hblt).trans d1
  have ne := Wd.any w.heap.size w
  rw [HNM.out]
  clear hcs hn hx he d1 hy HNM
  by_cases hq : y = nm
  · rw [decide_eq_true hq]
    subst hq
    go_enter Tryz.func48, Tryz.ntmps48
    go_wp2
    refine wp_region_below (B := w.heap.size) (w0 := w) (by kernel_rfl) (by kernel_rfl) (Below.refl _ _) ?_
    repeat (go_big_quiet_step (fail))
    refine wpQuiet_nil ?_
    intro wq hq
    replace hq := Wd.of hq
    go_wp2
    go_ret
    exact ⟨rfl, hq⟩
  · rw [decide_eq_false hq]
    have hd := toList_ne hq
    go_enter Tryz.func48, Tryz.ntmps48
    go_wp2
    refine wp_region_below (B := w.heap.size) (w0 := w) (by kernel_rfl) (by kernel_rfl) (Below.refl _ _) ?_
    repeat (go_big_quiet_step (fail))
    refine wpQuiet_nil ?_
    intro wq hq
    replace hq := Wd.of hq
    go_wp2
    go_ret
    exact ⟨rfl, hq⟩

/-- Of that name, or not implied. -/
def stays (ns : List PNode) (nm : ByteArray) (x : Int) : Bool := decide (nmOf ns x = nm) || !(hasB implieds (nmOf ns x))

set_option maxHeartbeats 1000000 in
set_option maxRecDepth 100000 in
theorem iimplied1_any {w : World} {R M A : Nat} {v : Value} {nm : ByteArray} {ns : List PNode} (hx : Boxes w R M A v nm) (hn : NodesAt w v ns) (hfit : ∀ n ∈ ns, NodeFit n) (hlen : ns.length ≤ 1048576) {x : Int} (he : elB ns x = true) :
    Calls Tryz.prog 51 #[.int .i64 x, .pointer (some ⟨R, 0, none⟩), .pointer (some ⟨M, 0, none⟩)] w fun e w' => e = .returned (.bool (stays ns nm x)) ∧ Below w.heap.size w w' := by
  obtain ⟨a, cap, rfl, hc1, hc2, hcs⟩ := hn.slice
  obtain ⟨m, rfl, hm⟩ := elB_at he
  obtain ⟨b, off, av, kv, rfl, hblt, _, d1, _⟩ := hcs m hm
  have hsz : ns[m].name.size ≤ maxLen := by have := (hfit ns[m] (List.getElem_mem hm)).nm; unfold maxLen; omega
  have HNM : Hid (stays ns nm (m : Int) = (decide (ns[m].name = nm) || !(hasB implieds ns[m].name))) := (show stays ns nm (m : Int) = _ by rw [stays, nmOf_at hm])
  obtain ⟨y, hy⟩ : ∃ y, y = ns[m].name := ⟨_, rfl⟩
  rw [← hy] at d1 HNM hsz
  have CI := (show Hid (∀ w, Calls Tryz.prog 13 #[.string y] w fun e w' => e = .returned (.bool (hasB implieds y)) ∧ Below w.heap.size w w') from fun w => iisImplied_any y hsz w)
  have f0 : ∀ n : Wd w.heap.size w, n.w.cell? ⟨R, 1, none⟩ = some (.pointer (some ⟨A, 0, none⟩)) := fun n => (hx.below n.below).r1
  have f1 : ∀ n : Wd w.heap.size w, n.w.cell? ⟨A, 0, none⟩ = some (.slice (some ⟨b, off, none⟩) ns.length cap) := fun n => (hx.below n.below).a0
  have f2 : ∀ n : Wd w.heap.size w, n.w.cell? ⟨M, 0, none⟩ = some (.string nm) := fun n => (hx.below n.below).m0
  have f3 : ∀ n : Wd w.heap.size w, n.w.cell? ⟨b, off + m * 6 + 1, none⟩ = some (.string y) := fun n => (n.below.cell (p := ⟨b, off + m * 6 + 1, none⟩) hblt).trans d1
  have ne := Wd.any w.heap.size w
  rw [HNM.out]
  obtain ⟨q, hq'⟩ : ∃ q, q = hasB implieds y := ⟨_, rfl⟩
  rw [← hq'] at CI ⊢
  clear hcs hn hx he d1 hy HNM hfit hq'
  by_cases hq : y = nm
  · rw [decide_eq_true hq, Bool.true_or]
    subst hq
    go_enter Tryz.func51, Tryz.ntmps51
    go_wp2
    refine wp_region_below (B := w.heap.size) (w0 := w) (by kernel_rfl) (by kernel_rfl) (Below.refl _ _) ?_
    repeat (go_big_quiet_step (fail))
    refine wpQuiet_nil ?_
    intro wq hq
    replace hq := Wd.of hq
    go_wp2
    go_ret
    exact ⟨rfl, hq⟩
  · rw [decide_eq_false hq, Bool.false_or]
    have hd := toList_ne hq
    go_enter Tryz.func51, Tryz.ntmps51
    go_wp2
    refine wp_region_below (B := w.heap.size) (w0 := w) (by kernel_rfl) (by kernel_rfl) (Below.refl _ _) ?_
    repeat (go_big_quiet_step ((go_at_call 13; exact quiet_below (CI.out _) (Nat.le_refl _))))
    refine wpQuiet_nil ?_
    intro wq hq
    replace hq := Wd.of hq
    go_wp2
    go_ret
    exact ⟨rfl, hq⟩

set_option maxRecDepth 100000 in
theorem ilastThat_named {rv : Value} {row : List Int} {w : World} {R M : Nat} {p : Int → Bool} (h : Sl .i64 w rv row) (hn : row.length ≤ 1048576)
    (hf : ∀ x ∈ row, ∀ w', Below w.heap.size w w' → Calls Tryz.prog 48 #[.int .i64 x, .pointer (some ⟨R, 0, none⟩), .pointer (some ⟨M, 0, none⟩)] w' fun e w'' => e = .returned (.bool (p x)) ∧ Below w'.heap.size w' w'') :
    Calls Tryz.prog 47 #[rv, .func (.func 48) #[] #[.pointer (some ⟨R, 0, none⟩), .pointer (some ⟨M, 0, none⟩)]] w fun e w' => e = .returned (.int .i64 ((lastAt p row row.length : Int) - 1)) ∧ Below w.heap.size w w' := by
  have HF := (show Hid _ from hf)
  obtain ⟨a, ca, rfl, _, _, _, ha⟩ := h
  clear hf
  go_enter Tryz.func47, Tryz.ntmps47
  go_wp2
  go_loopw [5] (fun i wr => ∃ k : Nat, k ≤ row.length ∧ i = .int .i64 ((k : Int) - 1) ∧ lastAt p row row.length = lastAt p row k ∧ Below w.heap.size w wr) (fun i _ => (intOf i + 1).toNat)
  case atStart => exact ⟨row.length, Nat.le_refl _, by go_num, rfl, Below.refl _ _⟩
  case round =>
    obtain ⟨k, hk, rfl, he, bel⟩ := hrel
    have HE := (show Hid (lastAt p row row.length = lastAt p row k) from he)
    clear he
    cases k with
    | zero =>
      clear ha
      go_wp2
      go_ret
      exact ⟨by rw [HE.out]; rfl, bel⟩
    | succ k =>
      have hs : ((k + 1 : Nat) : Int) - 1 = (k : Int) := by omega
      obtain ⟨b1, o1, rfl, c1⟩ := ha k (by omega)
      replace c1 := (bel.cell (p := ⟨b1, o1 + k, none⟩) (lt_of_cell c1)).trans c1
      have hmem : row.getD k 0 ∈ row := by rw [List.getD_eq_getElem?_getD, List.getElem?_eq_getElem (by omega : k < row.length)]; exact List.getElem_mem _
      have CC := (show Hid _ from HF.out _ hmem wr bel)
      obtain ⟨y, hy⟩ : ∃ y, y = row.getD k 0 := ⟨_, rfl⟩
      rw [← hy] at c1 CC
      rw [hs]
      have HY := (show Hid (y = row.getD k 0) from hy)
      obtain ⟨q, hq⟩ : ∃ q, q = p y := ⟨_, rfl⟩
      rw [← hq] at CC
      have HQ := (show Hid (q = p y) from hq)
      clear ha hy hs hmem hq
      go_wp2_with fail
      go_at_call 48
      refine Calls.mono CC.out ?_
      rintro e w2 ⟨rfl, b2⟩
      have bel2 := bel.trans (b2.mono bel.size)
      cases q
      · go_wp2
        go_roundw
        case rel => exact ⟨k, by omega, by go_num, by rw [HE.out, lastAt_no (by rw [← HY.out]; exact HQ.out.symm)], bel2⟩
        case measure => simp [intOf]
      · go_wp2
        go_ret
        exact ⟨by rw [HE.out, lastAt_yes (by rw [← HY.out]; exact HQ.out.symm)]; simp, bel2⟩

set_option maxRecDepth 100000 in
theorem ilastThat_implied {rv : Value} {row : List Int} {w : World} {R M : Nat} {p : Int → Bool} (h : Sl .i64 w rv row) (hn : row.length ≤ 1048576)
    (hf : ∀ x ∈ row, ∀ w', Below w.heap.size w w' → Calls Tryz.prog 51 #[.int .i64 x, .pointer (some ⟨R, 0, none⟩), .pointer (some ⟨M, 0, none⟩)] w' fun e w'' => e = .returned (.bool (p x)) ∧ Below w'.heap.size w' w'') :
    Calls Tryz.prog 47 #[rv, .func (.func 51) #[] #[.pointer (some ⟨R, 0, none⟩), .pointer (some ⟨M, 0, none⟩)]] w fun e w' => e = .returned (.int .i64 ((lastAt p row row.length : Int) - 1)) ∧ Below w.heap.size w w' := by
  have HF := (show Hid _ from hf)
  obtain ⟨a, ca, rfl, _, _, _, ha⟩ := h
  clear hf
  go_enter Tryz.func47, Tryz.ntmps47
  go_wp2
  go_loopw [5] (fun i wr => ∃ k : Nat, k ≤ row.length ∧ i = .int .i64 ((k : Int) - 1) ∧ lastAt p row row.length = lastAt p row k ∧ Below w.heap.size w wr) (fun i _ => (intOf i + 1).toNat)
  case atStart => exact ⟨row.length, Nat.le_refl _, by go_num, rfl, Below.refl _ _⟩
  case round =>
    obtain ⟨k, hk, rfl, he, bel⟩ := hrel
    have HE := (show Hid (lastAt p row row.length = lastAt p row k) from he)
    clear he
    cases k with
    | zero =>
      clear ha
      go_wp2
      go_ret
      exact ⟨by rw [HE.out]; rfl, bel⟩
    | succ k =>
      have hs : ((k + 1 : Nat) : Int) - 1 = (k : Int) := by omega
      obtain ⟨b1, o1, rfl, c1⟩ := ha k (by omega)
      replace c1 := (bel.cell (p := ⟨b1, o1 + k, none⟩) (lt_of_cell c1)).trans c1
      have hmem : row.getD k 0 ∈ row := by rw [List.getD_eq_getElem?_getD, List.getElem?_eq_getElem (by omega : k < row.length)]; exact List.getElem_mem _
      have CC := (show Hid _ from HF.out _ hmem wr bel)
      obtain ⟨y, hy⟩ : ∃ y, y = row.getD k 0 := ⟨_, rfl⟩
      rw [← hy] at c1 CC
      rw [hs]
      have HY := (show Hid (y = row.getD k 0) from hy)
      obtain ⟨q, hq⟩ : ∃ q, q = p y := ⟨_, rfl⟩
      rw [← hq] at CC
      have HQ := (show Hid (q = p y) from hq)
      clear ha hy hs hmem hq
      go_wp2_with fail
      go_at_call 51
      refine Calls.mono CC.out ?_
      rintro e w2 ⟨rfl, b2⟩
      have bel2 := bel.trans (b2.mono bel.size)
      cases q
      · go_wp2
        go_roundw
        case rel => exact ⟨k, by omega, by go_num, by rw [HE.out, lastAt_no (by rw [← HY.out]; exact HQ.out.symm)], bel2⟩
        case measure => simp [intOf]
      · go_wp2
        go_ret
        exact ⟨by rw [HE.out, lastAt_yes (by rw [← HY.out]; exact HQ.out.symm)]; simp, bel2⟩
end Go.Proofs.YthdfhckmgneioaaGreat
