/- The program's GetNum: its closure, readWell, the face. -/
import Derived.Test.YtgcpdmnikoebkaaIWell
import Derived.Test.YtgcpdmnikoebkaaSGetNum
namespace Go.Proofs.Ytgcpdmnikoebkaa
open Go.RowKit
set_option maxRecDepth 100000
set_option linter.unusedVariables false

theorem closeNum_any {w0 : World} {g r x : Nat} {v : Value} {xs : List Int} {i : Int} {w : World} (h : Rdr w0 g v xs i w) (hb : ∀ x ∈ xs, 0 ≤ x ∧ x ≤ 255) (hr : Box w r 43 (.pointer (some ⟨g, 0, none⟩))) (hx : Box w x 3 (.int .i64 0))
    (h1 : r ≠ g) (h2 : x ≠ g) (h3 : r ≠ x) (h4 : w0.heap.size ≤ x) :
    Calls Try.prog 28 #[.pointer (some ⟨r, 0, none⟩), .pointer (some ⟨x, 0, none⟩)] w fun e w' =>
      ((∃ y n, rdI xs i = some (y, n) ∧ e = .returned (.tuple #[]) ∧ Rdr w0 g v xs (i + n) w' ∧ Box w' x 3 (.int .i64 y)) ∨ (rdI xs i = none ∧ Bad e)) ∧ Only g x w w' ∧ Below w0.heap.size w0 w' := by
  obtain ⟨cr, _⟩ := hr.cell
  obtain ⟨cx, fx⟩ := hx.cell
  have CALL := (show Hid (Calls Try.prog 29 #[.pointer (some ⟨g, 0, none⟩)] w _) from num_any h hb)
  have HX : Hid (Box w x 3 (.int .i64 0)) := hx
  clear hr hx
  go_enter Try.func28, Try.ntmps28
  go_wp2_with fail
  go_at_call 29
  refine CALL.out.mono ?_
  rintro e w2 ⟨hor, g2⟩
  have hx2 := HX.out.grown g2 (fun e => h2 (by injection e with e; exact e.symm))
  obtain ⟨cx2, fx2⟩ := hx2.cell
  rcases hor with ⟨y, n, hy, rfl, r2⟩ | ⟨hy, ⟨t, s, rfl⟩, j, r2⟩
  · have r3 := r2.kept (grown_setCell w2 x 0 (.int .i64 y)) (fun e => h2 (by injection e)) (fun k hk => by injection hk with hk; omega)
    have END := (show Hid (_ ∧ _ ∧ _ ∧ _ ∧ _) from ⟨hy, r3, hx2.set (.int .i64 y), (only_grown (x := x) g2).set (.int .i64 y), r3.2.2.1⟩)
    clear hy r2 r3 hx2 g2
    go_wp2
    go_end0
    obtain ⟨e1, e2, e3, e4, e5⟩ := END.out
    exact ⟨.inl ⟨y, n, e1, rfl, e2, e3⟩, e4, e5⟩
  · have END := (show Hid (_ ∧ _ ∧ _) from ⟨hy, only_grown (x := x) g2, r2.2.2.1⟩)
    clear hy r2 hx2 g2
    go_wp2
    exact ⟨rfl, .inr ⟨END.out.1, _, _, rfl⟩, END.out.2⟩

theorem wellNum_any {w0 : World} {g r x : Nat} {v : Value} {xs : List Int} {i : Int} {w : World} (h : Rdr w0 g v xs i w) (hb : ∀ x ∈ xs, 0 ≤ x ∧ x ≤ 255) (hr : Box w r 43 (.pointer (some ⟨g, 0, none⟩))) (hx : Box w x 3 (.int .i64 0))
    (h1 : r ≠ g) (h2 : x ≠ g) (h3 : r ≠ x) (h4 : w0.heap.size ≤ x) :
    Calls Try.prog 27 #[.func (.func 28) #[] #[.pointer (some ⟨r, 0, none⟩), .pointer (some ⟨x, 0, none⟩)]] w fun e w' =>
      ((∃ y n, rdI xs i = some (y, n) ∧ e = .returned (.bool true) ∧ Rdr w0 g v xs (i + n) w' ∧ Box w' x 3 (.int .i64 y) ∧ Box w' r 43 (.pointer (some ⟨g, 0, none⟩))) ∨ (rdI xs i = none ∧ e = .returned (.bool false))) ∧ Below w0.heap.size w0 w' := by
  have hmf : ∀ (fn : Fn) (first cap : Array Value) (w : World), (Instr.makeFunc fn first cap).run Try.prog w = .ok (.func fn first cap) w := fun _ _ _ _ => rfl
  have hlt := h.lt
  have hltr := hr.lt
  have hltx := hx.lt
  have hsz := h.2.2.1.size
  have ga := fun (o : Obj) (row : Option Nat) => World.grownBy_alloc w o row
  have hal : Below w.heap.size w (w.alloc (.cells #[.bool false] 4)) := (Below.refl _ _).alloc (Nat.le_refl _) _
  have hq : Box (w.alloc (.cells #[.bool false] 4)) w.heap.size 4 (.bool false) := heap_alloc_new _ _
  have hr' := hr.grown (ga (.cells #[.bool false] 4) none) (by simp)
  have hx' := hx.grown (ga (.cells #[.bool false] 4) none) (by simp)
  have h' := h.below hal
  have CALL := (show Hid (Calls Try.prog 28 #[.pointer (some ⟨r, 0, none⟩), .pointer (some ⟨x, 0, none⟩)] (w.alloc (.cells #[.bool false] 4)) _) from closeNum_any h' hb hr' hx' h1 h2 h3 h4)
  clear h hr hx hal ga h' hx'
  go_enter_defers Try.func27, Try.ntmps27
  go_wp2_with fail
  go_at_call 28
  refine CALL.out.mono ?_
  rintro e w2 ⟨hor, on2, b2⟩
  have hq2 := on2.box hq (by omega) (by omega)
  have hr2 := on2.box hr' h1 h3
  obtain ⟨cq, fq⟩ := hq2.cell
  have hs2 := on2.1
  rcases hor with ⟨y, n, hy, rfl, r2, hx2⟩ | ⟨hy, t, s, rfl⟩
  · have g3 := grown_setCell w2 w.heap.size 0 (.bool true)
    have q3 := hq2.set (.bool true)
    have r3 := r2.kept g3 (fun e => by injection e with e; omega) (fun k hk => by injection hk with hk; omega)
    have hx3 := hx2.grown g3 (fun e => by injection e with e; omega)
    have hr3 := hr2.grown g3 (fun e => by injection e with e; omega)
    have P3 := (show Hid (_ ∧ _ ∧ _ ∧ _ ∧ _) from ⟨hy, q3, r3, hx3, hr3⟩)
    clear hy q3 r3 hx3 hr3 g3 r2 hx2 hr2
    go_wp2
    refine leaves_cons (f := 35) (args := #[.pointer (some ⟨w.heap.size, 0, none⟩)]) (by simp) (by simp [go_sem]) ?_
    obtain ⟨hy, q3, r3, hx3, hr3⟩ := P3.out
    refine (catch_idle _ true _ q3.cell.1 q3.cell.2).mono ?_
    rintro e u' w3 ⟨rfl, rfl, rfl⟩
    have g4 := grown_setCell (w2.setCell ⟨w.heap.size, 0, none⟩ (.bool true)) w.heap.size 0 (.bool true)
    have q4 := q3.set (.bool true)
    have r4 := r3.kept g4 (fun e => by injection e with e; omega) (fun k hk => by injection hk with hk; omega)
    have hx4 := hx3.grown g4 (fun e => by injection e with e; omega)
    have hr4 := hr3.grown g4 (fun e => by injection e with e; omega)
    have c4 := q4.cell.1
    simp [Leaves, settle, results, Try.results27, go_sem, c4]
    exact ⟨⟨y, n, hy, r4, hx4, hr4⟩, r4.2.2.1⟩
  · have g3 := grown_setCell w2 w.heap.size 0 (.bool false)
    have q3 := hq2.set (.bool false)
    have b3 := b2.setCell (p := ⟨w.heap.size, 0, none⟩) hsz (.bool false)
    have P3 := (show Hid (_ ∧ _ ∧ _) from ⟨hy, q3, b3⟩)
    clear hy g3 q3 b3 hr2
    go_wp2
    refine leaves_cons (f := 35) (args := #[.pointer (some ⟨w.heap.size, 0, none⟩)]) (by simp) (by simp [go_sem]) ?_
    refine (catch_bad _ false t s [] _ cq fq).mono ?_
    rintro e u' w3 ⟨rfl, rfl, rfl⟩
    obtain ⟨hy, q3, b3⟩ := P3.out
    have c4 := q3.cell.1
    simp [Leaves, settle, results, Try.results27, go_sem, c4]
    exact ⟨hy, b3⟩

theorem igetNum_any {v : Value} {xs : List Int} {i : Int} {w : World} (h : Sl .u8 w v xs) (hb : ∀ x ∈ xs, 0 ≤ x ∧ x ≤ 255) (hn : xs.length ≤ 1099511627776) :
    Calls Try.prog 11 #[v, .int .i64 i] w fun e w' => e = .returned (numVal i (rdI xs i)) ∧ Below w.heap.size w w' := by
  have hmf : ∀ (fn : Fn) (first cap : Array Value) (w : World), (Instr.makeFunc fn first cap).run Try.prog w = .ok (.func fn first cap) w := fun _ _ _ _ => rfl
  have h0 := h
  obtain ⟨a, ca, rfl, _, _, _, ha⟩ := h
  clear ha
  obtain ⟨v, hv⟩ : ∃ v, v = Value.slice a xs.length ca := ⟨_, rfl⟩
  rw [← hv] at h0
  obtain ⟨W, hW⟩ : ∃ W, W = ((w.alloc (.cells #[v, .int .i64 i] 45)).alloc (.cells #[.pointer (some ⟨w.heap.size, 0, none⟩)] 43)).alloc (.cells #[.int .i64 0] 3) := ⟨_, rfl⟩
  have rd : Rdr w w.heap.size v xs i W := by
    have b3 : Below w.heap.size w W := by rw [hW]; exact (((Below.refl _ _).alloc (Nat.le_refl _) _).alloc (by simp) _).alloc (by simp; omega) _
    refine ⟨Nat.le_refl _, h0, b3, hn, ?_⟩
    rw [hW, heap_alloc_old _ _ (by simp; omega), heap_alloc_old _ _ (by simp)]
    exact heap_alloc_new _ _
  have hr : Box W (w.heap.size + 1) 43 (.pointer (some ⟨w.heap.size, 0, none⟩)) := by
    unfold Box
    rw [hW, heap_alloc_old _ _ (by simp)]
    have e := heap_alloc_new (w.alloc (.cells #[v, .int .i64 i] 45)) (.cells #[.pointer (some ⟨w.heap.size, 0, none⟩)] 43)
    simpa using e
  have hx : Box W (w.heap.size + 1 + 1) 3 (.int .i64 0) := by
    unfold Box
    rw [hW]
    have e := heap_alloc_new ((w.alloc (.cells #[v, .int .i64 i] 45)).alloc (.cells #[.pointer (some ⟨w.heap.size, 0, none⟩)] 43)) (.cells #[.int .i64 0] 3)
    simpa using e
  have CALL := (show Hid (Calls Try.prog 27 #[.func (.func 28) #[] #[.pointer (some ⟨w.heap.size + 1, 0, none⟩), .pointer (some ⟨w.heap.size + 1 + 1, 0, none⟩)]] W _) from wellNum_any rd hb hr hx (by omega) (by omega) (by omega) (by omega))
  rw [hv] at hW
  have HV : Hid (v = Value.slice a xs.length ca) := hv
  clear rd hr hx h0 hv hb
  go_enter Try.func11, Try.ntmps11
  go_wp2_with fail
  go_at_call 27
  rw [← hW]
  clear hW
  refine CALL.out.mono ?_
  rintro e w2 ⟨hor, b2⟩
  rcases hor with ⟨y, n, hy, rfl, r2, hx2, hr2⟩ | ⟨hy, rfl⟩
  · obtain ⟨c0, c1, _⟩ := r2.cells
    obtain ⟨cx, _⟩ := hx2.cell
    obtain ⟨cr, _⟩ := hr2.cell
    have B2 := (show Hid (_ ∧ _) from ⟨hy, b2⟩)
    clear hy r2 hx2 hr2 b2 CALL
    go_wp2
    go_region_held (fun w' => w'.cell? ⟨w.heap.size, 1, none⟩ = some (.int .i64 (i + n)) ∧ w'.cell? ⟨w.heap.size + 1 + 1, 0, none⟩ = some (.int .i64 y) ∧ w'.cell? ⟨w.heap.size + 1, 0, none⟩ = some (.pointer (some ⟨w.heap.size, 0, none⟩))) (go_keep) (fail)
    all_goals
      go_wp2
      go_ret3
      obtain ⟨hy, b2⟩ := B2.out
      rw [hy]
      exact ⟨rfl, b2.trans (below_drewN 1)⟩
  · have B2 := (show Hid (_ ∧ _) from ⟨hy, b2⟩)
    clear hy b2 CALL
    go_wp2
    go_ret3
    obtain ⟨hy, b2⟩ := B2.out
    rw [hy]
    exact ⟨rfl, b2⟩
end Go.Proofs.Ytgcpdmnikoebkaa
