/- The program's readWell of a tree, TreeRead. No condition. -/
import Derived.Test.YtogdbjafibejdaaGreatX49
namespace Go.Proofs.YtogdbjafibejdaaGreat
open Go.RowKit
set_option maxRecDepth 100000
set_option linter.unusedVariables false

theorem FilFr.alloc {g : Nat} {w w2 : World} {o : Obj} (h : FilFr g g (w.alloc o) w2) : FilFr g g w w2 :=
  ⟨h.os, h.tape, h.output, Nat.le_trans (by simp) h.size, fun j hj h1 h2 => (h.block j (by rw [World.size_alloc]; omega) h1 h2).trans (Below.heap_alloc _ _ _ hj)⟩

set_option maxHeartbeats 2000000 in
theorem wellTree_any {w0 w : World} {g : Nat} {v : Value} {xs : List Int} (h : RdrT w0 g v xs [.slice none 0 0, .slice none 0 0, .int .i64 0] (0 : Nat) w) (hb : ∀ x ∈ xs, 0 ≤ x ∧ x ≤ 255) :
    Calls Tryz.prog 91 #[.func (.func 92) #[.pointer (some ⟨g, 0, none⟩)] #[]] w fun e w' =>
      ((∃ u qs j nv cnt, e = .returned (.bool true) ∧ goodT (qs.map (fun q => q.1)) ∧ packL (qs.map (fun q => q.1)) = xs ∧ w'.heap[g]? = some (.cells #[v, .int .i64 j, nv, u, .int .i64 cnt] 120 (0, 0)) ∧ OwnQ w.heap.size w' u qs ∧ Apart qs) ∨ ((∀ ns, goodT ns → packL ns ≠ xs) ∧ e = .returned (.bool false))) ∧ FilFr g g w w' := by
  have hmf : ∀ (fn : Fn) (first cap : Array Value) (w : World), (Instr.makeFunc fn first cap).run Tryz.prog w = .ok (.func fn first cap) w := fun _ _ _ _ => rfl
  have hlt := h.lt
  have hal : Below w.heap.size w (w.alloc (.cells #[.bool false] 4)) := (Below.refl _ _).alloc (Nat.le_refl _) _
  have hq : Box (w.alloc (.cells #[.bool false] 4)) w.heap.size 4 (.bool false) := World.alloc_heap_new _ _
  have h' := h.below hal
  have CALL := (show Hid (Calls Tryz.prog 92 #[.pointer (some ⟨g, 0, none⟩)] (w.alloc (.cells #[.bool false] 4)) _) from treeT_any h' hb)
  have hsz : (w.alloc (.cells #[.bool false] 4)).heap.size = w.heap.size + 1 := by simp
  have HSZ := (show Hid _ from hsz)
  clear h hal h' hsz
  go_enter_defers Tryz.func91, Tryz.ntmps91
  go_wp2_with fail
  go_at_call 92
  refine CALL.out.mono ?_
  rintro e w2 ⟨hor, f2⟩
  have hq2 : Box w2 w.heap.size 4 (.bool false) := (f2.block w.heap.size (by rw [HSZ.out]; omega) (by omega) (by omega)).trans hq
  obtain ⟨cq, fq⟩ := hq2.cell
  have F2 := (show Hid (FilFr g g w w2) from f2.alloc)
  have hs2 : w.heap.size + 1 ≤ w2.heap.size := by have := f2.size; rw [HSZ.out] at this; exact this
  rcases hor with ⟨u, qs, j, nv, cnt, rfl, hgd, hpk, hg2, o2, a2⟩ | ⟨hno, t, s, rfl⟩
  · have q3 := hq2.set (.bool true)
    have g3 := grown_setCell w2 w.heap.size 0 (.bool true)
    have P3 := (show Hid (_ ∧ _ ∧ _ ∧ _ ∧ _ ∧ _) from And.intro q3 (And.intro ((g3.block g (blk_lt hg2) (fun e => by injection e with e; omega)).trans hg2) (And.intro ((o2.base (B' := w.heap.size) (by rw [HSZ.out]; omega)).kept g3 (fun r e => by cases e; exact ⟨_, _, _, hq2, by decide, by decide, by decide⟩)) (And.intro (F2.out.put g3 (fun r e => by cases e; exact .inr (.inr (Nat.le_refl _)))) (And.intro hgd (And.intro hpk a2))))))
    clear g3 q3 hg2 o2 hgd hpk a2 f2
    go_wp2
    refine leaves_cons (f := 134) (args := #[.pointer (some ⟨w.heap.size, 0, none⟩)]) (by simp) (by simp [go_sem]) ?_
    obtain ⟨q3, g3, o3, f3, hgd, hpk, a3⟩ := P3.out
    refine (catch_idle _ true _ q3.cell.1 q3.cell.2).mono ?_
    rintro e u' w3 ⟨rfl, rfl, rfl⟩
    have gs := grown_setCell (w2.setCell ⟨w.heap.size, 0, none⟩ (.bool true)) w.heap.size 0 (.bool true)
    have q4 := q3.set (.bool true)
    have g4 := (gs.block g (blk_lt g3) (fun e => by injection e with e; omega)).trans g3
    have o4 := o3.kept gs (fun r e => by cases e; exact ⟨_, _, _, q3, by decide, by decide, by decide⟩)
    have f4 := f3.put gs (fun r e => by cases e; exact .inr (.inr (Nat.le_refl _)))
    have c4 := q4.cell.1
    simp [Leaves, settle, results, Tryz.results91, go_sem, c4]
    exact ⟨⟨u, qs, hgd, hpk, ⟨j, nv, cnt, g4⟩, o4, a3⟩, f4⟩
  · have q3 := hq2.set (.bool false)
    have g3 := grown_setCell w2 w.heap.size 0 (.bool false)
    have P3 := (show Hid (_ ∧ _ ∧ _) from And.intro q3 (And.intro (F2.out.put g3 (fun r e => by cases e; exact .inr (.inr (Nat.le_refl _)))) hno))
    clear q3 g3 hno f2
    go_wp2
    refine leaves_cons (f := 134) (args := #[.pointer (some ⟨w.heap.size, 0, none⟩)]) (by simp) (by simp [go_sem]) ?_
    refine (catch_bad _ false t s [] _ cq fq).mono ?_
    rintro e u' w3 ⟨rfl, rfl, rfl⟩
    obtain ⟨q3, f3, hno⟩ := P3.out
    have c4 := q3.cell.1
    simp [Leaves, settle, results, Tryz.results91, go_sem, c4]
    exact ⟨hno, f3⟩

set_option maxHeartbeats 2000000 in
set_option maxRecDepth 100000 in
theorem itreeRead_any {v : Value} {xs : List Int} {w : World} (h : Sl .u8 w v xs) (hb : ∀ x ∈ xs, 0 ≤ x ∧ x ≤ 255) (hn : xs.length ≤ 1099511627776) :
    Calls Tryz.prog 31 #[v] w fun e w' => ReadE xs w e w' := by
  have hmf : ∀ (fn : Fn) (first cap : Array Value) (w : World), (Instr.makeFunc fn first cap).run Tryz.prog w = .ok (.func fn first cap) w := fun _ _ _ _ => rfl
  have h0 := h
  obtain ⟨a, ca, rfl, _, _, _, _⟩ := h
  obtain ⟨W, hW⟩ : ∃ W, W = (w.alloc (.cells #[.slice none 0 0] 26)).alloc (.cells #[.slice a xs.length ca, .int .i64 0, .slice none 0 0, .slice none 0 0, .int .i64 0] 120) := ⟨_, rfl⟩
  have bW : Below w.heap.size w W := by rw [hW]; exact ((Below.refl _ _).alloc (Nat.le_refl _) _).alloc (by simp) _
  have gW : W.heap[w.heap.size + 1]? = some (.cells #[.slice a xs.length ca, .int .i64 0, .slice none 0 0, .slice none 0 0, .int .i64 0] 120 (0, 0)) := by
    rw [hW]
    have := World.alloc_heap_new (w.alloc (.cells #[.slice none 0 0] 26)) (.cells #[.slice a xs.length ca, .int .i64 0, .slice none 0 0, .slice none 0 0, .int .i64 0] 120)
    rwa [World.size_alloc] at this
  have gT : W.heap[w.heap.size]? = some (.cells #[.slice none 0 0] 26 (0, 0)) := by rw [hW, Below.heap_alloc _ _ _ (by simp)]; exact World.alloc_heap_new _ _
  have rd : RdrT w (w.heap.size + 1) (.slice a xs.length ca) xs [.slice none 0 0, .slice none 0 0, .int .i64 0] (0 : Nat) W := ⟨by omega, h0, bW, hn, gW⟩
  have CALL := (show Hid _ from wellTree_any rd hb)
  have GT := (show Hid _ from gT)
  have BW := (show Hid _ from bW)
  have hTl := blk_lt gT
  clear rd gW gT bW h0 hb
  go_enter Tryz.func31, Tryz.ntmps31
  go_wp2_with fail
  rw [← hW]
  go_at_call 91
  clear hW
  refine Calls.mono CALL.out ?_
  rintro e w2 ⟨hor, f2⟩
  have gT2 : w2.heap[w.heap.size]? = some (.cells #[.slice none 0 0] 26 (0, 0)) := (f2.block _ hTl (by omega) (by omega)).trans GT.out
  have B2 := (show Hid (Below w.heap.size w w2) from BW.out.trans (f2.below (by omega) (by omega) BW.out.size))
  have GT2 := (show Hid _ from gT2)
  obtain ⟨cT, zT⟩ := one_cell gT2
  have lT := blk_lt gT2
  clear gT2 f2 CALL
  rcases hor with ⟨u, qs, j, nv, cnt, rfl, hgd, hpk, hg2, o2, a2⟩ | ⟨hno, rfl⟩
  · obtain ⟨v1, v2, v3, rfl⟩ := own_slice o2.1
    have CR := (show Hid _ from itreeT_any hg2)
    have E2 := (show Hid (_ ∧ _ ∧ _ ∧ _) from And.intro hgd (And.intro hpk (And.intro (o2.base (B' := w.heap.size) BW.out.size) a2)))
    have hgl := blk_lt hg2
    clear hgd hpk hg2 o2 a2
    go_wp2_with fail
    go_at_call 51
    refine Calls.mono CR.out ?_
    rintro e w3 ⟨rfl, b3⟩
    have GT3 := (show Hid (w3.heap[w.heap.size]? = some (.cells #[.slice none 0 0] 26 (0, 0))) from (b3.block _ lT).trans GT2.out)
    have gs := grown_setCell w3 w.heap.size 0 (.slice v1 v2 v3)
    have H9 := (show Hid (_ ∧ _ ∧ _) from And.intro (setCell_at (k := 0) (u := .slice v1 v2 v3) GT3.out) (And.intro ((B2.out.trans (b3.mono B2.out.size)).setCell (p := ⟨w.heap.size, 0, none⟩) (Nat.le_refl _) (.slice v1 v2 v3)) ((E2.out.2.2.1.below b3).kept gs (fun r e => by cases e; exact ⟨_, _, _, GT3.out, by decide, by decide, by decide⟩))))
    clear b3 gs cT zT lT
    obtain ⟨cT, zT⟩ := one_cell GT3.out
    have lT := blk_lt GT3.out
    go_wp2
    refine bodyPost_ret (treeT_res rfl rfl rfl H9.out.1) rfl ?_
    exact ⟨.inl ⟨_, qs, rfl, E2.out.1, E2.out.2.1, H9.out.2.2, E2.out.2.2.2⟩, H9.out.2.1⟩
  · have HN := (show Hid _ from hno)
    have H9 := (show Hid (_ ∧ _) from And.intro (setCell_at (k := 0) (u := .slice none 0 0) GT2.out) (B2.out.setCell (p := ⟨w.heap.size, 0, none⟩) (Nat.le_refl _) (.slice none 0 0)))
    clear hno
    go_wp2
    refine bodyPost_ret (treeT_res rfl rfl rfl H9.out.1) rfl ?_
    exact ⟨.inr ⟨HN.out, rfl⟩, H9.out.2⟩
end Go.Proofs.YtogdbjafibejdaaGreat
