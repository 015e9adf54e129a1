import Derived.Sort.LoopGhostIn
import Derived.Test.YtckhmolmnlcabaaB23
import Derived.Test.YtckhmolmnlcabaaB16
import Derived.Test.YtckhmolmnlcabaaB15
import Derived.Test.YtckhmolmnlcabaaB14
import Derived.Test.YtckhmolmnlcabaaGrow
import Derived.Test.YtckhmolmnlcabaaStr
/- The program's has and kidsFit, inside the fence. No condition. -/
namespace Go.Proofs.Ytckhmolmnlcabaa
open Go.RowKit Go.Shelf
set_option maxRecDepth 100000
set_option linter.unusedVariables false
attribute [local go_sem] Oper.semAt_some

set_option maxHeartbeats 400000 in
theorem ihas_any {w : World} {A len cap : Nat} {a : Option Addr} (cA : w.cell? ⟨A, 0, none⟩ = some (.slice a len cap)) (x : Int) :
    Calls Try.prog 13 #[.pointer (some ⟨A, 0, none⟩), .int .i64 x] w fun e w' => e = .returned (.bool (decide (0 ≤ x ∧ x < len))) ∧ w' = w := by
  by_cases h0 : 0 ≤ x
  · by_cases h1 : x < len
    · rw [decide_eq_true ⟨h0, h1⟩]
      go_enter Try.func13, Try.ntmps13
      go_wp2
      go_ret
      exact ⟨rfl, rfl⟩
    · rw [decide_eq_false (fun h => h1 h.2)]
      go_enter Try.func13, Try.ntmps13
      go_wp2
      go_ret
      exact ⟨rfl, rfl⟩
  · rw [decide_eq_false (fun h => h0 h.1)]
    go_enter Try.func13, Try.ntmps13
    go_wp2
    go_ret
    exact ⟨rfl, rfl⟩
/-- What lies while the kids of node k are looked at, 'pre' of them being over. -/
structure FitW (w : World) (A : Nat) (ns : List PNode) (k : Nat) (pre : List Int) (ds : List Nat) (W : World) : Prop where
  bA : W.heap[w.heap.size]? = some (.cells #[.pointer (some ⟨A, 0, none⟩)] 39 (0, 0))
  bR : W.heap[w.heap.size + 1]? = some (.cells #[.bool false] 4 (0, 0))
  bS : ∃ arr, W.heap[w.heap.size + 1 + 1]? = some (.cells arr 73 (0, 0)) ∧ Stands ns k pre arr
  dd : ds.Nodup
  bD : ∀ d ∈ ds, w.heap.size ≤ d ∧ W.heap[d]? = some (.deferred (some []))
  bel : Below w.heap.size w W
  fit : ∀ i, i < k → FitPre ns i (kidsOf ns i)
  fpre : FitPre ns k pre
theorem FitW.grow {w : World} {A : Nat} {ns : List PNode} {k : Nat} {pre : List Int} {ds : List Nat} {W W' : World} (h : FitW w A ns k pre ds W) (b : Below W.heap.size W W') : FitW w A ns k pre ds W' := by
  obtain ⟨h1, h2, ⟨arr, h3, h3'⟩, h4, h5, h6, h7, h8⟩ := h
  exact ⟨(b.block _ (blk_lt h1)).trans h1, (b.block _ (blk_lt h2)).trans h2, ⟨arr, (b.block _ (blk_lt h3)).trans h3, h3'⟩, h4, fun d hd => ⟨(h5 d hd).1, (b.block _ (blk_lt (h5 d hd).2)).trans (h5 d hd).2⟩, h6.trans (b.mono h6.size), h7, h8⟩
theorem FitW.own {w : World} {A : Nat} {ns : List PNode} {k B : Nat} {pre : List Int} {ds : List Nat} {W W' : World} {row : Option Nat} (h : FitW w A ns k pre ds W) (hg : W.grownBy W' row)
    (hr : ∀ r, row = some r → B ≤ r ∧ ∃ o : Obj, W.heap[r]? = some o ∧ o.isCells = false) (hd : ∀ d ∈ ds, d < B) (hB : w.heap.size ≤ B) : FitW w A ns k pre ds W' := by
  obtain ⟨h1, h2, ⟨arr, h3, h3'⟩, h4, h5, h6, h7, h8⟩ := h
  exact ⟨cells_from h1 hg hr, cells_from h2 hg hr, ⟨arr, cells_from h3 hg hr, h3'⟩, h4, fun d hd' => ⟨(h5 d hd').1, blk_from (h5 d hd').2 (hd d hd') hg hr⟩, h6.grown hg h6.size (fun r e => by have := (hr r e).1; omega), h7, h8⟩
/-- Between two rounds over the nodes: k of them have been looked at. -/
def FitInv (w : World) (A b off cap : Nat) (ns : List PNode) (m : Nat) (a : Act) (W : World) : Prop :=
  ∃ (k : Nat) (ds : List Nat) (u4 u5 u12 u13 u14 u15 u16 u17 u18 u19 u20 u21 u22 u23 u24 u25 u26 u27 u28 u29 u30 u31 u32 u33 u34 u35 u36 u37 u38 u39 u40 u41 : Value), k + m = ns.length ∧ a = { tmps := #[.pointer (some ⟨A, 0, none⟩), .pointer (some ⟨w.heap.size, 0, none⟩), .pointer (some ⟨w.heap.size + 1, 0, none⟩), .pointer (some ⟨w.heap.size + 1 + 1, 0, none⟩), u4, u5, .pointer (some ⟨A, 0, none⟩), .pointer (some ⟨A, 0, none⟩), .pointer (some ⟨A, 0, none⟩), .slice (some ⟨b, off, none⟩) ns.length cap, .int .i64 (ns.length : Int), .int .i64 (k : Int), u12, u13, u14, u15, u16, u17, u18, u19, u20, u21, u22, u23, u24, u25, u26, u27, u28, u29, u30, u31, u32, u33, u34, u35, u36, u37, u38, u39, u40, u41], defers := dmarks ds } ∧ FitW w A ns k [] ds W
theorem zeros_eq : Try.zeroCells73 = Array.replicate 500 (.bool false) := by kernel_rfl
theorem stands_zero (ns : List PNode) : Stands ns 0 [] Try.zeroCells73 := by
  rw [zeros_eq]
  refine ⟨by simp, fun j hj => ⟨false, by simp [hj], ?_⟩⟩
  simp [Stand]
theorem fit_ret {w : World} {A : Nat} {ns : List PNode} {k : Nat} {pre : List Int} {ds : List Nat} {Wb : World} (h : FitW w A ns k pre ds Wb) (nq : Nat) :
    KeepsOthers Wb ((Wb.drewN nq).setCell ⟨w.heap.size + 1, 0, none⟩ (.bool false)) ∧ ((Wb.drewN nq).setCell ⟨w.heap.size + 1, 0, none⟩ (.bool false)).heap[w.heap.size + 1]? = some (.cells #[.bool false] 4 (0, 0)) ∧
      (∀ d ∈ ds, w.heap.size ≤ d ∧ ((Wb.drewN nq).setCell ⟨w.heap.size + 1, 0, none⟩ (.bool false)).heap[d]? = some (.deferred (some []))) ∧ Below w.heap.size w ((Wb.drewN nq).setCell ⟨w.heap.size + 1, 0, none⟩ (.bool false)) := by
  obtain ⟨h1, h2, h3, h4, h5, h6, h7, h8⟩ := h
  have hk := KeepsOthers.setCell (Wb.drewN nq) ⟨w.heap.size + 1, 0, none⟩ (.bool false)
  have h6' : Below w.heap.size w (Wb.drewN nq) := ⟨h6.os, h6.tape, h6.output, h6.size, h6.block⟩
  exact ⟨⟨hk.size, hk.same⟩, setCell_at (w := Wb.drewN nq) h2, fun d hd => ⟨(h5 d hd).1, hk.same d _ (h5 d hd).2 rfl⟩, h6'.setCell (p := ⟨w.heap.size + 1, 0, none⟩) (by simp) _⟩
theorem fit_go {w : World} {A : Nat} {ns : List PNode} {k : Nat} {pre : List Int} {ds : List Nat} {Wb : World} (h : FitW w A ns k pre ds Wb) (nq j : Nat) {arr : Array Value} (hS : Wb.heap[w.heap.size + 1 + 1]? = some (.cells arr 73 (0, 0))) (hSt : Stands ns k pre arr)
    (hj : j < ns.length) (h500 : ns.length ≤ 500) (hs : ¬ Stand ns k pre j) (hp : parOf ns j = k) {X : Nat} {cs : Array Value} {t : TypeId} (hX : Wb.heap[X]? = some (.cells cs t (0, 0))) (hne : X ≠ w.heap.size + 1 + 1) :
    KeepsOthers Wb ((Wb.drewN nq).setCell ⟨w.heap.size + 1 + 1, j, none⟩ (.bool true)) ∧ Below w.heap.size Wb ((Wb.drewN nq).setCell ⟨w.heap.size + 1 + 1, j, none⟩ (.bool true)) ∧
      FitW w A ns k (pre ++ [(j : Int)]) ds ((Wb.drewN nq).setCell ⟨w.heap.size + 1 + 1, j, none⟩ (.bool true)) ∧ ((Wb.drewN nq).setCell ⟨w.heap.size + 1 + 1, j, none⟩ (.bool true)).heap[X]? = some (.cells cs t (0, 0)) := by
  obtain ⟨h1, h2, h3, h4, h5, h6, h7, h8⟩ := h
  have hk := KeepsOthers.setCell (Wb.drewN nq) ⟨w.heap.size + 1 + 1, j, none⟩ (.bool true)
  have h6' : Below w.heap.size w (Wb.drewN nq) := ⟨h6.os, h6.tape, h6.output, h6.size, h6.block⟩
  have hr : Below w.heap.size Wb (Wb.drewN nq) := ⟨rfl, rfl, rfl, Nat.le_refl _, fun _ _ => rfl⟩
  have ho : ∀ d, d ≠ w.heap.size + 1 + 1 → ((Wb.drewN nq).setCell ⟨w.heap.size + 1 + 1, j, none⟩ (.bool true)).heap[d]? = Wb.heap[d]? := fun d hd => Below.heap_setCell (Wb.drewN nq) ⟨w.heap.size + 1 + 1, j, none⟩ (.bool true) d hd
  exact ⟨⟨hk.size, hk.same⟩, hr.setCell (p := ⟨w.heap.size + 1 + 1, j, none⟩) (by simp; omega) _,
    ⟨(ho _ (by omega)).trans h1, (ho _ (by omega)).trans h2, ⟨_, setCell_at (w := Wb.drewN nq) hS, hSt.snoc j (by omega)⟩, h4, fun d hd => ⟨(h5 d hd).1, hk.same d _ (h5 d hd).2 rfl⟩, h6'.setCell (p := ⟨w.heap.size + 1 + 1, j, none⟩) (by simp; omega) _, h7, fit_snoc h8 hj hs hp⟩,
    (ho X hne).trans hX⟩

set_option maxHeartbeats 1000000 in
theorem kidsFit_any {w : World} {v : Value} {ns : List PNode} {A : Nat} (hn : NodesAt w v ns) (hA : A < w.heap.size) (cA : w.cell? ⟨A, 0, none⟩ = some v) (hlen : ns.length ≤ 500) (h1 : 1 ≤ ns.length) :
    Calls Try.prog 24 #[.pointer (some ⟨A, 0, none⟩)] w fun e w' => ∃ r, e = .returned (.bool r) ∧ (r = true ↔ KidsFit ns) ∧ Below w.heap.size w w' := by
  have HN := (show Hid (NodesAt w v ns) from hn)
  obtain ⟨a, cap, rfl, hc1, hc2, hcs⟩ := hn.slice
  obtain ⟨b, off, _, _, rfl, hblt, _⟩ := hcs 0 h1
  have HCS := (show Hid (∀ k (hk : k < ns.length), w.cell? ⟨b, off + k * 6 + 4, none⟩ = some (.int .i64 ns[k].parent)) from fun k hk => by
    obtain ⟨_, _, _, _, e, _, _, _, _, _, c4, _⟩ := hcs k hk
    cases e
    exact c4)
  clear hcs hn
  refine (callsIn_wide (n := 3)).1 ?_
  refine callsIn_of_wp_marks Try.func24 rfl trivial ?_ rfl
  simp only [Try.ntmps24, List.size_toArray, List.length_cons, List.length_nil, Nat.reduceAdd, Nat.reduceSub, Array.replicate_succ, Array.replicate_zero, List.push_toArray, List.append_toArray, List.nil_append, List.cons_append]
  obtain ⟨w3, hw3⟩ : ∃ w3, w3 = ((w.alloc (.cells #[.pointer (some ⟨A, 0, none⟩)] 39)).alloc (.cells #[.bool false] 4)).alloc (.cells Try.zeroCells73 73) := ⟨_, rfl⟩
  have b3 : Below w.heap.size w w3 := by rw [hw3]; exact (((Below.refl _ w).alloc (Nat.le_refl _) _).alloc (by simp) _).alloc (by simp; omega) _
  have c3 : w3.cell? ⟨A, 0, none⟩ = some (.slice (some ⟨b, off, none⟩) ns.length cap) := (b3.cell (p := ⟨A, 0, none⟩) hA).trans cA
  have g0 : w3.heap[w.heap.size]? = some (.cells #[.pointer (some ⟨A, 0, none⟩)] 39 (0, 0)) := by
    rw [hw3, Below.heap_alloc _ _ _ (by simp; omega), Below.heap_alloc _ _ _ (by simp)]
    exact World.alloc_heap_new _ _
  have g1 : w3.heap[w.heap.size + 1]? = some (.cells #[.bool false] 4 (0, 0)) := by
    rw [hw3, Below.heap_alloc _ _ _ (by simp)]
    have := World.alloc_heap_new (w.alloc (.cells #[.pointer (some ⟨A, 0, none⟩)] 39)) (.cells #[.bool false] 4)
    rwa [World.size_alloc] at this
  have g2 : w3.heap[w.heap.size + 1 + 1]? = some (.cells Try.zeroCells73 73 (0, 0)) := by
    rw [hw3]
    have := World.alloc_heap_new ((w.alloc (.cells #[.pointer (some ⟨A, 0, none⟩)] 39)).alloc (.cells #[.bool false] 4)) (.cells Try.zeroCells73 73)
    rwa [World.size_alloc, World.size_alloc] at this
  have HG0 := (show Hid _ from g0)
  have HG1 := (show Hid _ from g1)
  have HG2 := (show Hid _ from g2)
  have c0 : w3.cell? ⟨w.heap.size, 0, none⟩ = some (.pointer (some ⟨A, 0, none⟩)) := by simp only [World.cell?, g0]; rfl
  rw [hw3] at c3 c0
  clear g0 g1 g2
  gi_wp2
  rw [← hw3]
  clear c3 c0
  refine wpIn_loop_ghost_k (FitInv w A b off cap ns) ns.length ?start ?round
  case start =>
    exact ⟨0, [], undef, undef, undef, undef, undef, undef, undef, undef, undef, undef, undef, undef, undef, undef, undef, undef, undef, undef, undef, undef, undef, undef, undef, undef, undef, undef, undef, undef, undef, undef, undef, undef, by simp, rfl, ⟨HG0.out, HG1.out, ⟨_, HG2.out, stands_zero ns⟩, List.nodup_nil, (fun d hd => by cases hd), b3, (fun i hi => absurd hi (Nat.not_lt_zero i)), ⟨List.nodup_nil, fun x hx => by cases hx⟩⟩⟩
  case round =>
    clear HG0 HG1 HG2 b3 hw3
    rintro m a' W ⟨k, ds, u4, u5, u12, u13, u14, u15, u16, u17, u18, u19, u20, u21, u22, u23, u24, u25, u26, u27, u28, u29, u30, u31, u32, u33, u34, u35, u36, u37, u38, u39, u40, u41, hm, rfl, hW⟩ J K hJ hK
    have HJ := (show Hid _ from hJ)
    have HK := (show Hid _ from hK)
    have HW := (show Hid (FitW w A ns k [] ds W) from hW)
    have c0 : W.cell? ⟨w.heap.size, 0, none⟩ = some (.pointer (some ⟨A, 0, none⟩)) := by simp only [World.cell?, hW.bA]; rfl
    clear hJ hK hW
    by_cases hk : k < ns.length
    · have cX : (W.alloc (.cells #[.int .i64 k] 3)).cell? ⟨w.heap.size, 0, none⟩ = some (.pointer (some ⟨A, 0, none⟩)) := (((Below.refl _ W).alloc (Nat.le_refl _) _).cell (p := ⟨w.heap.size, 0, none⟩) (blk_lt HW.out.bA)).trans c0
      gi_wp2
      refine ⟨trivial, (kids_in _ _ _ _).mono ?_⟩
      rintro e w' ⟨rfl, rfl⟩
      gi_wp2
      clear cX c0
      obtain ⟨W1, hW1⟩ : ∃ W1, W1 = ((W.alloc (.cells #[.int .i64 k] 3)).alloc (.cells #[.pointer (some ⟨A, 0, none⟩)] 39)).alloc (.cells #[.int .i64 k] 3) := ⟨_, rfl⟩
      have b1 : Below W.heap.size W W1 := by rw [hW1]; exact (((Below.refl _ W).alloc (Nat.le_refl _) _).alloc (by simp) _).alloc (by simp; omega) _
      have sz1 : W1.heap.size = W.heap.size + 3 := by rw [hW1]; simp
      have gX : W1.heap[W.heap.size]? = some (.cells #[.int .i64 k] 3 (0, 0)) := by
        rw [hW1, Below.heap_alloc _ _ _ (by simp; omega), Below.heap_alloc _ _ _ (by simp)]
        exact World.alloc_heap_new _ _
      have gY : W1.heap[W.heap.size + 1]? = some (.cells #[.pointer (some ⟨A, 0, none⟩)] 39 (0, 0)) := by
        rw [hW1, Below.heap_alloc _ _ _ (by simp)]
        have := World.alloc_heap_new (W.alloc (.cells #[.int .i64 k] 3)) (.cells #[.pointer (some ⟨A, 0, none⟩)] 39)
        rwa [World.size_alloc] at this
      have gZ : W1.heap[W.heap.size + 1 + 1]? = some (.cells #[.int .i64 k] 3 (0, 0)) := by
        rw [hW1]
        have := World.alloc_heap_new ((W.alloc (.cells #[.int .i64 k] 3)).alloc (.cells #[.pointer (some ⟨A, 0, none⟩)] 39)) (.cells #[.int .i64 k] 3)
        rwa [World.size_alloc, World.size_alloc] at this
      have cY : W1.cell? ⟨W.heap.size + 1, 0, none⟩ = some (.pointer (some ⟨A, 0, none⟩)) := by simp only [World.cell?, gY]; rfl
      have cZ : W1.cell? ⟨W.heap.size + 1 + 1, 0, none⟩ = some (.int .i64 k) := by simp only [World.cell?, gZ]; rfl
      have HW1 := HW.out.grow b1
      rw [← hW1]
      have hbel := HW1.bel
      refine wpIn_rangeFunc_ownF (F := Fence.wide) rfl (by omega) (gf := 59) (lb := #[.pointer (some ⟨W.heap.size + 1, 0, none⟩), .pointer (some ⟨W.heap.size + 1 + 1, 0, none⟩)]) rfl trivial (enters_of Try.func59 (by kernel_rfl) rfl)
        (kids_stops (fun x : Int => x) 2 (W.heap.size + 1) (W.heap.size + 1 + 1) A w W1 _ ns k hk (kidsOf ns k) (by rw [kidsOf_at hk]; simp) (by omega) HN.out hbel (by omega) (by omega) hA cY cZ cA)
        belowK_t (belowK_b hbel.size) (Below.refl _ _) (fun _ => rfl)
        (fun pre W' => FitW w A ns k pre ds W' ∧ W'.heap[W.heap.size]? = some (.cells #[.int .i64 k] 3 (0, 0)))
        (fun c pre W' => c = .ret ∧ BadPre ns k pre ∧ W'.heap[w.heap.size + 1]? = some (.cells #[.bool false] 4 (0, 0)) ∧ (∀ d ∈ ds, w.heap.size ≤ d ∧ W'.heap[d]? = some (.deferred (some []))) ∧ Below w.heap.size w W')
        ?hI ?hIx ⟨HW1, gX⟩
        (fun x => { tmps := #[.pointer (some ⟨A, 0, none⟩), .pointer (some ⟨w.heap.size, 0, none⟩), .pointer (some ⟨w.heap.size + 1, 0, none⟩), .pointer (some ⟨w.heap.size + 1 + 1, 0, none⟩), .pointer (some ⟨W.heap.size, 0, none⟩), .int .i64 x, .pointer (some ⟨A, 0, none⟩), .pointer (some ⟨A, 0, none⟩), .pointer (some ⟨A, 0, none⟩), .slice (some ⟨b, off, none⟩) ns.length cap, .int .i64 (ns.length : Int), .int .i64 (k : Int), .bool true, .int .i64 (k : Int), .pointer (some ⟨A, 0, none⟩), .int .i64 (k : Int), .func (.func 59) #[] #[.pointer (some ⟨W.heap.size + 1, 0, none⟩), .pointer (some ⟨W.heap.size + 1 + 1, 0, none⟩)], .int .i64 x, u18, u19, u20, u21, u22, u23, u24, u25, u26, u27, u28, u29, u30, u31, u32, u33, u34, u35, u36, u37, u38, u39, u40, u41], defers := [] }) ?assign ?body ?done ?stop
      case hI =>
        intro pre Wa Wb row hs hg hr
        exact ⟨hs.1.own hg hr (fun d hd => by have := blk_lt (HW.out.bD d hd).2; omega) hbel.size, cells_from hs.2 hg hr⟩
      case hIx =>
        intro c pre Wa Wb row hs hg hr
        refine ⟨hs.1, hs.2.1, cells_from hs.2.2.1 hg hr, fun d hd => ⟨(hs.2.2.2.1 d hd).1, blk_from (hs.2.2.2.1 d hd).2 (by have := blk_lt (HW.out.bD d hd).2; omega) hg hr⟩, hs.2.2.2.2.grown hg hs.2.2.2.2.size (fun r e => by have := (hr r e).1; have := hbel.size; omega)⟩
      case assign =>
        intro l x Wa K' hK'
        gi_wp2
        exact hK'
      case body =>
        rintro l pre x Wb ⟨hF, hBx⟩ hlt
        have cb0 : Wb.cell? ⟨w.heap.size, 0, none⟩ = some (.pointer (some ⟨A, 0, none⟩)) := by simp only [World.cell?, hF.bA]; rfl
        have cbA : Wb.cell? ⟨A, 0, none⟩ = some (.slice (some ⟨b, off, none⟩) ns.length cap) := (hF.bel.cell (p := ⟨A, 0, none⟩) hA).trans cA
        have cbx : Wb.cell? ⟨W.heap.size, 0, none⟩ = some (.int .i64 k) := by simp only [World.cell?, hBx]; rfl
        have cbR : Wb.cell? ⟨w.heap.size + 1, 0, none⟩ = some (.bool false) := by simp only [World.cell?, hF.bR]; rfl
        have fbR : Wb.frozen? ⟨w.heap.size + 1, 0, none⟩ = false := by simp [World.frozen?, hF.bR]
        have HH := (show Hid (∀ n q, CallsIn Fence.wide n Try.prog 13 #[.pointer (some ⟨A, 0, none⟩), .int .i64 x] (Wb.drewN q) fun e w' => e = .returned (.bool (decide (0 ≤ x ∧ x < (ns.length : Int)))) ∧ ∃ m, w' = Wb.drewN m) from fun n q =>
          callsIn_wide.2 ((ihas_any (w := Wb.drewN q) (by rw [World.cell?_drewN]; exact cbA) x).mono (fun e w' h => ⟨h.1, q, h.2⟩)))
        have HF := (show Hid _ from hF)
        have HBX := (show Hid _ from hBx)
        clear hF hBx
        by_cases hr : 0 ≤ x ∧ x < ns.length
        · rw [decide_eq_true hr] at HH
          obtain ⟨j, rfl⟩ : ∃ j : Nat, x = j := ⟨x.toNat, by omega⟩
          have hj : j < ns.length := by omega
          obtain ⟨arr, hS, hS1, hS2⟩ := HF.out.bS
          obtain ⟨bj, hbj, hst⟩ := hS2 j (by omega)
          have cbS : Wb.cell? ⟨w.heap.size + 1 + 1, j, none⟩ = some (.bool bj) := by simp only [World.cell?, hS]; exact hbj
          have fbS : Wb.frozen? ⟨w.heap.size + 1 + 1, j, none⟩ = false := by simp [World.frozen?, hS]
          have cbP : Wb.cell? ⟨b, off + j * 6 + 4, none⟩ = some (.int .i64 ns[j].parent) := (HF.out.bel.cell (p := ⟨b, off + j * 6 + 4, none⟩) hblt).trans (HCS.out j hj)
          have HST := (show Hid (bj = true ↔ Stand ns k pre j) from hst)
          have HS := (show Hid _ from hS)
          have HS2 := (show Hid (Stands ns k pre arr) from ⟨hS1, hS2⟩)
          have HPP : Hid (parOf ns j = ns[j].parent) := parOf_at hj
          obtain ⟨pj, hpj⟩ : ∃ pj, pj = ns[j].parent := ⟨_, rfl⟩
          rw [← hpj] at cbP HPP
          clear hpj hst hS hS1 hS2 hbj hr
          cases bj
          · by_cases hp : pj = (k : Int)
            · subst hp
              gi_wp2
              refine wpIn_region_quiet_round rfl (by kernel_rfl) (by kernel_rfl) (by kernel_rfl) ?_
              repeat (first | gi_big_quiet_step (fail) | (refine BigFrame.wpQuietIn_want (fun _ _ _ _ => trivial) rfl ?_; intro K hK; gi_big_quiet_op; gi_big_quiet_call (exact HH.out _ _)))
              refine wpQuietIn_nil ?_
              rintro wq ⟨nq, rfl⟩
              gi_wp2
              exact fit_go HF.out nq j HS.out HS2.out hj hlen (fun h => by have := HST.out.mpr h; cases this) HPP.out HBX.out (by have := blk_lt HW.out.bS.choose_spec.1; omega)
            · gi_wp2
              refine wpIn_region_quiet_round rfl (by kernel_rfl) (by kernel_rfl) (by kernel_rfl) ?_
              repeat (first | gi_big_quiet_step (fail) | (refine BigFrame.wpQuietIn_want (fun _ _ _ _ => trivial) rfl ?_; intro K hK; gi_big_quiet_op; gi_big_quiet_call (exact HH.out _ _)))
              refine wpQuietIn_nil ?_
              rintro wq ⟨nq, rfl⟩
              gi_wp2
              have hr := fit_ret HF.out nq
              exact ⟨hr.1, rfl, ⟨pre, j, rfl, .inr (.inr (by rw [show ((j : Int)).toNat = j by simp, HPP.out]; exact hp))⟩, hr.2⟩
          · gi_wp2
            refine wpIn_region_quiet_round rfl (by kernel_rfl) (by kernel_rfl) (by kernel_rfl) ?_
            repeat (first | gi_big_quiet_step (fail) | (refine BigFrame.wpQuietIn_want (fun _ _ _ _ => trivial) rfl ?_; intro K hK; gi_big_quiet_op; gi_big_quiet_call (exact HH.out _ _)))
            refine wpQuietIn_nil ?_
            rintro wq ⟨nq, rfl⟩
            gi_wp2
            have hr := fit_ret HF.out nq
            exact ⟨hr.1, rfl, ⟨pre, j, rfl, .inr (.inl (HST.out.mp (by simp)))⟩, hr.2⟩
        · rw [decide_eq_false hr] at HH
          gi_wp2
          refine wpIn_region_quiet_round rfl (by kernel_rfl) (by kernel_rfl) (by kernel_rfl) ?_
          repeat (first | gi_big_quiet_step (fail) | (refine BigFrame.wpQuietIn_want (fun _ _ _ _ => trivial) rfl ?_; intro K hK; gi_big_quiet_op; gi_big_quiet_call (exact HH.out _ _)))
          refine wpQuietIn_nil ?_
          rintro wq ⟨nq, rfl⟩
          gi_wp2
          have hr' := fit_ret HF.out nq
          exact ⟨hr'.1, rfl, ⟨pre, x, rfl, .inl hr⟩, hr'.2⟩
      case done =>
        rintro D ys Wd hD rfl ⟨hF, _⟩ hDd
        gi_wp2
        have hnd : (D :: ds).Nodup := List.nodup_cons.mpr ⟨fun hm => by have := blk_lt (HW.out.bD D hm).2; omega, HW.out.dd⟩
        refine HK.out _ _ ⟨ns.length - (k + 1), by omega, HJ.out _ _ _ ⟨k + 1, D :: ds, _, _, _, _, _, _, _, _, _, _, _, _, _, _, _, _, _, _, _, _, _, _, _, _, _, _, _, _, _, _, _, _, by omega, rfl, ?_⟩⟩
        obtain ⟨f1, f2, ⟨arr, f3, f3'⟩, f4, f5, f6, f7, f8⟩ := hF
        exact ⟨f1, f2, ⟨arr, f3, f3'.next⟩, hnd, fun d hd => by
          rcases List.mem_cons.mp hd with rfl | hd
          · exact ⟨by have := hbel.size; omega, hDd⟩
          · exact f5 d hd, f6, fun i hi => by
          by_cases e : i = k
          · subst e; exact f8
          · exact f7 i (by omega), ⟨List.nodup_nil, fun x hx => by cases hx⟩⟩
      case stop =>
        rintro D c pre Wd hD hp ⟨rfl, hbad, hR, hds, hbl⟩ hDd
        gi_wp2
        have hnd : (D :: ds).Nodup := List.nodup_cons.mpr ⟨fun hm => by have := blk_lt (HW.out.bD D hm).2; omega, HW.out.dd⟩
        refine leaves_dmarks (by simp) w.heap.size (D :: ds) Wd hnd (fun d hd => ?_) ?_
        · rcases List.mem_cons.mp hd with rfl | hd
          · exact ⟨by have := hbel.size; omega, hDd⟩
          · exact hds d hd
        · intro w' bw kw
          have hb := kw _ _ hR rfl
          have hc : w'.cell? ⟨w.heap.size + 1, 0, none⟩ = some (.bool false) := by simp only [World.cell?, hb]; rfl
          refine ⟨.bool false, ?_, false, rfl, ?_, hbl.trans bw⟩
          · simp [results, Try.f24, go_sem, hc]
          · simp only [Bool.false_eq_true, false_iff]
            exact bad_not hk hbad hp HW.out.fit
    · have hke : k = ns.length := by omega
      have cR : W.cell? ⟨w.heap.size + 1, 0, none⟩ = some (.bool false) := by simp only [World.cell?, HW.out.bR]; rfl
      have fR : W.frozen? ⟨w.heap.size + 1, 0, none⟩ = false := by simp [World.frozen?, HW.out.bR]
      gi_wp2
      obtain ⟨f1, f2, f3, f4, f5, f6, f7, f8⟩ := HW.out
      have g2 : (W.setCell ⟨w.heap.size + 1, 0, none⟩ (.bool true)).heap[w.heap.size + 1]? = some (.cells (#[Value.bool false].setIfInBounds 0 (.bool true)) 4 (0, 0)) := setCell_at f2
      have b2 : Below w.heap.size w (W.setCell ⟨w.heap.size + 1, 0, none⟩ (.bool true)) := f6.setCell (p := ⟨w.heap.size + 1, 0, none⟩) (by simp) _
      refine leaves_dmarks (by simp) w.heap.size ds _ f4 (fun d hd => ⟨(f5 d hd).1, ?_⟩) ?_
      · have hne : d ≠ w.heap.size + 1 := fun e => by have := (f5 d hd).2; rw [e, f2] at this; cases this
        rw [Below.heap_setCell W ⟨w.heap.size + 1, 0, none⟩ (.bool true) d hne]
        exact (f5 d hd).2
      · intro w' bw kw
        have hb := kw _ _ g2 rfl
        have hc : w'.cell? ⟨w.heap.size + 1, 0, none⟩ = some (.bool true) := by simp only [World.cell?, hb]; rfl
        refine ⟨.bool true, ?_, true, rfl, ?_, b2.trans bw⟩
        · simp [results, Try.f24, go_sem, hc]
        · simp only [true_iff]
          exact fun i hi => f7 i (by omega)
end Go.Proofs.Ytckhmolmnlcabaa

/- The program's allReached, inside the fence. No condition. -/
namespace Go.Proofs.Ytckhmolmnlcabaa
open Go.RowKit Go.Shelf
set_option maxRecDepth 100000
set_option linter.unusedVariables false
attribute [local go_sem] Oper.semAt_some

/-- Counting, as the program's word counts. -/
def cnt (z : Int) (pre : List Int) : Int := pre.foldl (fun s _ => wrap64 (s + 1)) z
theorem cnt_snoc (z : Int) (pre : List Int) (x : Int) : cnt z (pre ++ [x]) = wrap64 (cnt z pre + 1) := by simp [cnt]
theorem cnt_eq (c : Nat) (pre : List Int) (h : c + pre.length < 4611686018427387904) : cnt c pre = ((c + pre.length : Nat) : Int) := by
  induction pre generalizing c with
  | nil => rfl
  | cons x pre ih =>
    have e : wrap64 ((c : Int) + 1) = ((c + 1 : Nat) : Int) := by
      simp only [List.length_cons] at h
      have : ((c : Int) + 1) = ((c + 1 : Nat) : Int) := by omega
      rw [this]
      simp only [wrap64]; omega
    show cnt (wrap64 ((c : Int) + 1)) pre = _
    rw [e, ih (c + 1) (by simp only [List.length_cons] at h; omega)]
    simp only [List.length_cons]
    omega

/-- Between two rounds over the nodes. -/
structure ReachW (w : World) (ns : List PNode) (f k : Nat) (ds : List Nat) (W : World) : Prop where
  bR : W.heap[w.heap.size]? = some (.cells #[.int .i64 (reachN ns f k : Int)] 3 (0, 0))
  dd : ds.Nodup
  bD : ∀ d ∈ ds, w.heap.size ≤ d ∧ W.heap[d]? = some (.deferred (some []))
  bel : Below w.heap.size w W
def ReachInv (w : World) (A b off cap : Nat) (ns : List PNode) (f m : Nat) (a : Act) (W : World) : Prop :=
  ∃ (k : Nat) (ds : List Nat) (u4 u5 u12 u13 u14 u15 u16 u17 u18 u19 u20 u21 u22 u23 u24 u25 : Value), k + m = ns.length ∧ a = { tmps := #[.pointer (some ⟨A, 0, none⟩), undef, .bool false, .pointer (some ⟨w.heap.size, 0, none⟩), u4, u5, .pointer (some ⟨A, 0, none⟩), .pointer (some ⟨A, 0, none⟩), .pointer (some ⟨A, 0, none⟩), .slice (some ⟨b, off, none⟩) ns.length cap, .int .i64 (ns.length : Int), .int .i64 (k : Int), u12, u13, u14, u15, u16, u17, u18, u19, u20, u21, u22, u23, u24, u25, undef, undef, undef, undef, undef, undef, undef], defers := dmarks ds } ∧ ReachW w ns f k ds W

set_option maxHeartbeats 1000000 in
theorem allReached_any {w : World} {v : Value} {ns : List PNode} {A f : Nat} (hn : NodesAt w v ns) (hA : A < w.heap.size) (cA : w.cell? ⟨A, 0, none⟩ = some v) (hlen : ns.length ≤ 500) (h1 : 1 ≤ ns.length)
    (hdeep : ∀ k, k < ns.length → parOf ns k = -1 → deepOk ns f k) (htot : reachN ns f ns.length < 4611686018427387904) :
    Calls Try.prog 25 #[.pointer (some ⟨A, 0, none⟩)] w fun e w' => e = .returned (.bool (decide (reachN ns f ns.length = ns.length))) ∧ Below w.heap.size w w' := by
  have HN := (show Hid (NodesAt w v ns) from hn)
  obtain ⟨a, cap, rfl, hc1, hc2, hcs⟩ := hn.slice
  obtain ⟨b, off, _, _, rfl, hblt, _⟩ := hcs 0 h1
  have HCS := (show Hid (∀ k (hk : k < ns.length), ∃ av kv, Sv 2 w av (pairCells ns[k].attrs) ∧ Sl .i64 w kv ns[k].kids ∧ w.cell? ⟨b, off + k * 6, none⟩ = some (.int .i64 ns[k].kind) ∧ w.cell? ⟨b, off + k * 6 + 1, none⟩ = some (.string ns[k].name) ∧ w.cell? ⟨b, off + k * 6 + 2, none⟩ = some av ∧ w.cell? ⟨b, off + k * 6 + 3, none⟩ = some (.string ns[k].text) ∧ w.cell? ⟨b, off + k * 6 + 4, none⟩ = some (.int .i64 ns[k].parent) ∧ w.cell? ⟨b, off + k * 6 + 5, none⟩ = some kv) from fun k hk => by
    obtain ⟨_, _, av, kv, e, _, c0, c1, c2, c3, c4, c5, hav, hkv⟩ := hcs k hk
    cases e
    exact ⟨av, kv, hav, hkv, c0, c1, c2, c3, c4, c5⟩)
  have HDP := (show Hid _ from hdeep)
  clear hcs hn hdeep
  refine (callsIn_wide (n := 5)).1 ?_
  refine callsIn_of_wp_marks Try.func25 rfl trivial ?_ rfl
  simp only [Try.ntmps25, List.size_toArray, List.length_cons, List.length_nil, Nat.reduceAdd, Nat.reduceSub, Array.replicate_succ, Array.replicate_zero, List.push_toArray, List.append_toArray, List.nil_append, List.cons_append]
  obtain ⟨w3, hw3⟩ : ∃ w3, w3 = w.alloc (.cells #[.int .i64 0] 3) := ⟨_, rfl⟩
  have b3 : Below w.heap.size w w3 := by rw [hw3]; exact (Below.refl _ w).alloc (Nat.le_refl _) _
  have c3 : w3.cell? ⟨A, 0, none⟩ = some (.slice (some ⟨b, off, none⟩) ns.length cap) := (b3.cell (p := ⟨A, 0, none⟩) hA).trans cA
  have g0 : w3.heap[w.heap.size]? = some (.cells #[.int .i64 0] 3 (0, 0)) := by rw [hw3]; exact World.alloc_heap_new _ _
  have HG0 := (show Hid _ from g0)
  rw [hw3] at c3
  clear g0
  gi_wp2
  rw [← hw3]
  clear c3
  refine wpIn_loop_ghost_k (ReachInv w A b off cap ns f) ns.length ?start ?round
  case start =>
    exact ⟨0, [], undef, undef, undef, undef, undef, undef, undef, undef, undef, undef, undef, undef, undef, undef, undef, undef, by simp, rfl, ⟨HG0.out, List.nodup_nil, (fun d hd => by cases hd), b3⟩⟩
  case round =>
    clear HG0 b3 hw3
    rintro m a' W ⟨k, ds, u4, u5, u12, u13, u14, u15, u16, u17, u18, u19, u20, u21, u22, u23, u24, u25, hm, rfl, hW⟩ J K hJ hK
    have HJ := (show Hid _ from hJ)
    have HK := (show Hid _ from hK)
    have HW := (show Hid (ReachW w ns f k ds W) from hW)
    clear hJ hK hW
    by_cases hk : k < ns.length
    · obtain ⟨av, kv, hav, hkv, c0, c1, c2, c3, c4, c5⟩ := HCS.out k hk
      have hb := HW.out.bel
      replace c0 := (hb.cell (p := ⟨b, off + k * 6, none⟩) hblt).trans c0
      replace c1 := (hb.cell (p := ⟨b, off + k * 6 + 1, none⟩) hblt).trans c1
      replace c2 := (hb.cell (p := ⟨b, off + k * 6 + 2, none⟩) hblt).trans c2
      replace c3 := (hb.cell (p := ⟨b, off + k * 6 + 3, none⟩) hblt).trans c3
      replace c4 := (hb.cell (p := ⟨b, off + k * 6 + 4, none⟩) hblt).trans c4
      replace c5 := (hb.cell (p := ⟨b, off + k * 6 + 5, none⟩) hblt).trans c5
      obtain ⟨av1, av2, av3, rfl, _⟩ := hav
      obtain ⟨kv1, kv3, rfl, _⟩ := hkv
      have HPP : Hid (parOf ns k = ns[k].parent) := parOf_at hk
      obtain ⟨pk, hpk⟩ : ∃ pk, pk = ns[k].parent := ⟨_, rfl⟩
      rw [← hpk] at c4 HPP
      obtain ⟨k0, hk0⟩ : ∃ k0, k0 = ns[k].kind := ⟨_, rfl⟩
      obtain ⟨k1, hk1⟩ : ∃ k1, k1 = ns[k].name := ⟨_, rfl⟩
      obtain ⟨k3, hk3⟩ : ∃ k3, k3 = ns[k].text := ⟨_, rfl⟩
      obtain ⟨kl, hkl⟩ : ∃ kl, kl = ns[k].kids.length := ⟨_, rfl⟩
      rw [← hk0] at c0
      rw [← hk1] at c1
      rw [← hk3] at c3
      rw [← hkl] at c5
      clear hpk hk0 hk1 hk3 hkl hb
      by_cases hp : pk = -1
      · subst hp
        gi_wp2
        refine ⟨trivial, (from_in _ _ _ _).mono ?_⟩
        rintro e w' ⟨rfl, rfl⟩
        gi_wp2
        obtain ⟨W0, hW0⟩ : ∃ W0, W0 = W.alloc (.cells #[.int .i64 k0, .string k1, .slice av1 av2 av3, .string k3, .int .i64 (-1), .slice kv1 kl kv3] 34) := ⟨_, rfl⟩
        have b0 : Below W.heap.size W W0 := by rw [hW0]; exact (Below.refl _ W).alloc (Nat.le_refl _) _
        rw [← hW0]
        obtain ⟨W1, hW1⟩ : ∃ W1, W1 = (W0.alloc (.cells #[.pointer (some ⟨A, 0, none⟩)] 39)).alloc (.cells #[.int .i64 (k : Int)] 3) := ⟨_, rfl⟩
        have b01 : Below W0.heap.size W0 W1 := by rw [hW1]; exact ((Below.refl _ W0).alloc (Nat.le_refl _) _).alloc (by simp) _
        have sz1 : W1.heap.size = W0.heap.size + 2 := by rw [hW1]; simp
        have gY : W1.heap[W0.heap.size]? = some (.cells #[.pointer (some ⟨A, 0, none⟩)] 39 (0, 0)) := by
          rw [hW1, Below.heap_alloc _ _ _ (by simp)]
          exact World.alloc_heap_new _ _
        have gZ : W1.heap[W0.heap.size + 1]? = some (.cells #[.int .i64 (k : Int)] 3 (0, 0)) := by
          rw [hW1]
          have := World.alloc_heap_new (W0.alloc (.cells #[.pointer (some ⟨A, 0, none⟩)] 39)) (.cells #[.int .i64 (k : Int)] 3)
          rwa [World.size_alloc] at this
        have cY : W1.cell? ⟨W0.heap.size, 0, none⟩ = some (.pointer (some ⟨A, 0, none⟩)) := by simp only [World.cell?, gY]; rfl
        have cZ : W1.cell? ⟨W0.heap.size + 1, 0, none⟩ = some (.int .i64 (k : Int)) := by simp only [World.cell?, gZ]; rfl
        have b1 : Below W.heap.size W W1 := b0.trans (b01.mono b0.size)
        have hs0 : W0.heap.size = W.heap.size + 1 := by rw [hW0]; simp
        rw [hs0] at cY cZ sz1
        have hbel : Below w.heap.size w W1 := HW.out.bel.trans (b1.mono HW.out.bel.size)
        have hszW := b1.size
        have hRlt := blk_lt HW.out.bR
        rw [← hW1]
        refine wpIn_tells (w0 := W1) (n0 := w.heap.size) (all := down ns f k) (gf := 26) (lb := #[.pointer (some ⟨W.heap.size + 1, 0, none⟩), .pointer (some ⟨W.heap.size + 1 + 1, 0, none⟩)]) rfl (enters_of Try.func26 (by kernel_rfl) rfl)
          (from_tells (w := W1) HN.out hA cA (by omega) (HDP.out k hk (HPP.out)) hbel cY cZ (by omega) (by omega)) (Below.refl _ _) hbel.size
          (fun pre Wq => Wq.heap[w.heap.size]? = some (.cells #[.int .i64 (cnt (reachN ns f k : Int) pre)] 3 (0, 0)) ∧ (∀ d ∈ ds, w.heap.size ≤ d ∧ Wq.heap[d]? = some (.deferred (some []))) ∧ Below w.heap.size w Wq)
          ?hF ⟨(b1.block _ hRlt).trans HW.out.bR, fun d hd => ⟨(HW.out.bD d hd).1, (b1.block _ (blk_lt (HW.out.bD d hd).2)).trans (HW.out.bD d hd).2⟩, hbel⟩
          (fun x => { tmps := #[.pointer (some ⟨A, 0, none⟩), undef, .bool false, .pointer (some ⟨w.heap.size, 0, none⟩), .int .i64 (k : Int), .pointer (some ⟨W.heap.size, 0, none⟩), .pointer (some ⟨A, 0, none⟩), .pointer (some ⟨A, 0, none⟩), .pointer (some ⟨A, 0, none⟩), .slice (some ⟨b, off, none⟩) ns.length cap, .int .i64 (ns.length : Int), .int .i64 (k : Int), .bool true, .int .i64 (k : Int), .pointer (some ⟨b, off + k * 6, none⟩), .agg #[.int .i64 k0, .string k1, .slice av1 av2 av3, .string k3, .int .i64 (-1), .slice kv1 kl kv3], .pointer (some ⟨W.heap.size, 4, none⟩), .int .i64 (-1), .bool false, .pointer (some ⟨A, 0, none⟩), .int .i64 (k : Int), .func (.func 26) #[] #[.pointer (some ⟨W.heap.size + 1, 0, none⟩), .pointer (some ⟨W.heap.size + 1 + 1, 0, none⟩)], .int .i64 x, u23, u24, u25, undef, undef, undef, undef, undef, undef, undef], defers := [] }) ?assign ?body ?done
        case hF =>
          intro pre Wa Wb row hs hg hr
          exact ⟨blk_free hs.1 (by omega) hg hr, fun d hd => ⟨(hs.2.1 d hd).1, blk_free (hs.2.1 d hd).2 (by have := blk_lt (HW.out.bD d hd).2; omega) hg hr⟩, below_free hs.2.2 (Nat.le_refl _) hbel.size hg hr⟩
        case assign =>
          intro l m x Wa K' hK'
          gi_wp2
          exact hK'
        case body =>
          rintro l m pre x Wb ⟨hRb, hDb, hBb⟩
          have cR : Wb.cell? ⟨w.heap.size, 0, none⟩ = some (.int .i64 (cnt (reachN ns f k : Int) pre)) := by simp only [World.cell?, hRb]; rfl
          have fR : Wb.frozen? ⟨w.heap.size, 0, none⟩ = false := by simp [World.frozen?, hRb]
          have HRb := (show Hid _ from hRb)
          have HDb := (show Hid _ from hDb)
          have HCN : Hid (cnt (reachN ns f k : Int) (pre ++ [x]) = wrap64 (cnt (reachN ns f k : Int) pre + 1)) := cnt_snoc _ _ _
          obtain ⟨z, hz⟩ : ∃ z, z = cnt (reachN ns f k : Int) pre := ⟨_, rfl⟩
          rw [← hz] at cR HRb HCN
          clear hRb hDb hz
          gi_wp2
          have gR := setCell_at (k := 0) (u := .int .i64 (wrap64 (z + 1))) HRb.out
          refine ⟨⟨rfl, rfl, rfl, by simp [World.setCell], fun j o hj ho => ?_⟩, ?_, fun d hd => ⟨(HDb.out d hd).1, ?_⟩, hBb.setCell (p := ⟨w.heap.size, 0, none⟩) (Nat.le_refl _) _⟩
          · rw [Below.heap_setCell Wb ⟨w.heap.size, 0, none⟩ _ j (by
              show j ≠ w.heap.size
              rintro rfl
              rcases ho with ho | ho | ho
              · omega
              · omega
              · rw [HRb.out] at hj; cases hj; cases ho)]
            exact hj
          · rw [HCN.out]
            exact gR
          · exact (KeepsOthers.setCell Wb ⟨w.heap.size, 0, none⟩ _).same d _ (HDb.out d hd).2 rfl
        case done =>
          rintro D Wd hD ⟨hRd, hDd, hBd⟩ hKd hDD
          have hre : reachN ns f (k + 1) = reachN ns f k + (down ns f k).length := by simp [reachN, HPP.out]
          have hle := reachN_le (ns := ns) (f := f) (k := k + 1) (m := ns.length) (by omega)
          rw [cnt_eq _ _ (by omega), ← hre] at hRd
          have hnd : (D :: ds).Nodup := List.nodup_cons.mpr ⟨fun hm => by have := blk_lt (HW.out.bD D hm).2; omega, HW.out.dd⟩
          have HRd := (show Hid _ from hRd)
          clear hRd hre
          gi_wp2
          exact HK.out _ _ ⟨ns.length - (k + 1), by omega, HJ.out _ _ _ ⟨k + 1, D :: ds, _, _, _, _, _, _, _, _, _, _, _, _, _, _, _, _, by omega, rfl, ⟨HRd.out, hnd, fun d hd => by
            rcases List.mem_cons.mp hd with rfl | hd
            · exact ⟨by have := hbel.size; omega, hDD⟩
            · exact hDd d hd, hBd⟩⟩⟩
      · gi_wp2
        obtain ⟨W0, hW0⟩ : ∃ W0, W0 = W.alloc (.cells #[.int .i64 k0, .string k1, .slice av1 av2 av3, .string k3, .int .i64 pk, .slice kv1 kl kv3] 34) := ⟨_, rfl⟩
        have b0 : Below W.heap.size W W0 := by rw [hW0]; exact (Below.refl _ W).alloc (Nat.le_refl _) _
        rw [← hW0]
        have hre : reachN ns f (k + 1) = reachN ns f k := by simp [reachN, HPP.out, hp]
        exact HK.out _ _ ⟨ns.length - (k + 1), by omega, HJ.out _ _ _ ⟨k + 1, ds, _, _, _, _, _, _, _, _, _, _, _, _, _, _, _, _, by omega, rfl, ⟨by rw [hre]; exact (b0.block _ (blk_lt HW.out.bR)).trans HW.out.bR, HW.out.dd, fun d hd => ⟨(HW.out.bD d hd).1, (b0.block _ (blk_lt (HW.out.bD d hd).2)).trans (HW.out.bD d hd).2⟩, HW.out.bel.trans (b0.mono HW.out.bel.size)⟩⟩⟩
    · have hke : k = ns.length := by omega
      have cR : W.cell? ⟨w.heap.size, 0, none⟩ = some (.int .i64 (reachN ns f k : Int)) := by simp only [World.cell?, HW.out.bR]; rfl
      have cA' : W.cell? ⟨A, 0, none⟩ = some (.slice (some ⟨b, off, none⟩) ns.length cap) := (HW.out.bel.cell (p := ⟨A, 0, none⟩) hA).trans cA
      rw [hke] at cR
      gi_wp2
      gi_quiet (fail)
      gi_wp2
      refine leaves_dmarks (by simp) w.heap.size ds _ HW.out.dd HW.out.bD ?_
      intro w' bw kw
      have bq : Below w.heap.size w (W.drewN nq) := ⟨HW.out.bel.os, HW.out.bel.tape, HW.out.bel.output, HW.out.bel.size, HW.out.bel.block⟩
      refine ⟨_, results_tmp rfl _ _ _, ?_, bq.trans bw⟩
      exact ret_bool (by rw [Bool.eq_iff_iff, beq_iff_eq, decide_eq_true_iff]; omega)
end Go.Proofs.Ytckhmolmnlcabaa

/- The program's TreeOk. No condition. -/
namespace Go.Proofs.Ytckhmolmnlcabaa
open Go.RowKit
set_option maxRecDepth 100000
set_option linter.unusedVariables false

theorem eq_kinds (k0 : Int) (k : Nat) : (decide (k0 = 1) == decide (k = 0)) = decide ((k0 == 1) = ((k : Int) == 0)) := by
  rw [show (k0 == 1) = decide (k0 = 1) from rfl, show ((k : Int) == 0) = decide ((k : Int) = 0) from rfl]
  by_cases h1 : k0 = 1 <;> by_cases h2 : k = 0 <;> simp [h1, h2]

set_option maxHeartbeats 1000000 in
theorem itreeOk_any {w : World} {v : Value} {ns : List PNode} (hn : NodesAt w v ns) (hfit : ∀ n ∈ ns, NodeFit n) (hlen : ns.length ≤ 1048576) :
    Calls Try.prog 12 #[.agg #[v]] w fun e w' => ∃ r, e = .returned (.bool r) ∧ (r = true ↔ TreeOkP ns) ∧ Below w.heap.size w w' := by
  have HN := (show Hid (NodesAt w v ns) from hn)
  have HFIT := (show Hid (∀ n ∈ ns, NodeFit n) from hfit)
  obtain ⟨a, cap, rfl, hc1, hc2, hcs⟩ := hn.slice
  by_cases h1 : ns.length < 1
  · have hF : Hid (¬ TreeOkP ns) := fun h => by have := h.one; omega
    have h10 : ns.length = 0 := by omega
    clear hcs hn hfit
    go_enter Try.func12, Try.ntmps12
    go_wp2
    go_ret
    exact ⟨false, rfl, by simpa using hF.out, (Below.refl _ _).alloc (Nat.le_refl _) _⟩
  by_cases h5 : 500 < ns.length
  · have hF : Hid (¬ TreeOkP ns) := fun h => by have := h.most; omega
    clear hcs hn hfit
    go_enter Try.func12, Try.ntmps12
    go_wp2
    go_ret
    exact ⟨false, rfl, by simpa using hF.out, (Below.refl _ _).alloc (Nat.le_refl _) _⟩
  obtain ⟨b, off, _, _, rfl, hblt, _⟩ := hcs 0 (by omega)
  have HCS := (show Hid (∀ k (hk : k < ns.length), ∃ av kv, Sv 2 w av (pairCells ns[k].attrs) ∧ Sl .i64 w kv ns[k].kids ∧ w.cell? ⟨b, off + k * 6, none⟩ = some (.int .i64 ns[k].kind) ∧ w.cell? ⟨b, off + k * 6 + 1, none⟩ = some (.string ns[k].name) ∧ w.cell? ⟨b, off + k * 6 + 2, none⟩ = some av ∧ w.cell? ⟨b, off + k * 6 + 3, none⟩ = some (.string ns[k].text) ∧ w.cell? ⟨b, off + k * 6 + 4, none⟩ = some (.int .i64 ns[k].parent) ∧ w.cell? ⟨b, off + k * 6 + 5, none⟩ = some kv) from fun k hk => by
    obtain ⟨_, _, av, kv, e, _, c0, c1, c2, c3, c4, c5, hav, hkv⟩ := hcs k hk
    cases e
    exact ⟨av, kv, hav, hkv, c0, c1, c2, c3, c4, c5⟩)
  clear hcs hn hfit
  obtain ⟨w1, hw1⟩ : ∃ w1, w1 = w.alloc (.cells #[.slice (some ⟨b, off, none⟩) ns.length cap] 26) := ⟨_, rfl⟩
  have b1 : Below w.heap.size w w1 := by rw [hw1]; exact (Below.refl _ _).alloc (Nat.le_refl _) _
  have g1 : w1.heap[w.heap.size]? = some (.cells #[.slice (some ⟨b, off, none⟩) ns.length cap] 26 (0, 0)) := by rw [hw1]; exact World.alloc_heap_new _ _
  have HG1 := (show Hid _ from g1)
  clear g1
  go_enter Try.func12, Try.ntmps12
  go_wp2
  rw [← hw1]
  clear hw1
  go_loopw [19] (fun i wr => ∃ k : Nat, k ≤ ns.length ∧ i = .int .i64 k ∧ (∀ j (h : j < ns.length), j < k → goodB ns[j] j = true) ∧ Below w1.heap.size w1 wr) (fun i _ => ns.length - (intOf i).toNat)
  case atStart => exact ⟨0, Nat.zero_le _, rfl, fun j _ hj => absurd hj (Nat.not_lt_zero j), Below.refl _ _⟩
  case round =>
    obtain ⟨k, hk, rfl, hgood, bel⟩ := hrel
    have HGD := (show Hid (∀ j (h : j < ns.length), j < k → goodB ns[j] j = true) from hgood)
    have hb := b1.trans (bel.mono b1.size)
    clear hgood
    by_cases hlt : k < ns.length
    · obtain ⟨av, kv, hav, hkv, c0, c1, c2, c3, c4, c5⟩ := HCS.out k hlt
      replace c0 := (hb.cell (p := ⟨b, off + k * 6, none⟩) hblt).trans c0
      replace c1 := (hb.cell (p := ⟨b, off + k * 6 + 1, none⟩) hblt).trans c1
      replace c2 := (hb.cell (p := ⟨b, off + k * 6 + 2, none⟩) hblt).trans c2
      replace c3 := (hb.cell (p := ⟨b, off + k * 6 + 3, none⟩) hblt).trans c3
      replace c4 := (hb.cell (p := ⟨b, off + k * 6 + 4, none⟩) hblt).trans c4
      replace c5 := (hb.cell (p := ⟨b, off + k * 6 + 5, none⟩) hblt).trans c5
      have hav' := hav.below hb
      obtain ⟨av1, av2, av3, rfl, _⟩ := hav
      obtain ⟨kv1, kv3, rfl, _⟩ := hkv
      have hnf := HFIT.out ns[k] (List.getElem_mem hlt)
      have CN := (show Hid (∀ w', Below wr.heap.size wr w' → Calls Try.prog 23 #[.agg #[.int .i64 ns[k].kind, .string ns[k].name, .slice av1 av2 av3, .string ns[k].text, .int .i64 ns[k].parent, .slice kv1 ns[k].kids.length kv3]] w' fun e w'' => e = .returned (.bool (nodeB ns[k].kind ns[k].name ns[k].attrs ns[k].text ns[k].kids.length)) ∧ Below w'.heap.size w' w'') from fun w' hb' => inodeOk_any _ _ _ _ (hav'.below hb') hnf.nm hnf.tx hnf.rs hnf.each)
      have HGK : Hid (goodB ns[k] k = ((decide (ns[k].kind = 1) == decide (k = 0)) && nodeB ns[k].kind ns[k].name ns[k].attrs ns[k].text ns[k].kids.length)) := rfl
      have HBAD : Hid (goodB ns[k] k = false → ¬ TreeOkP ns) := fun h ht => by have := ht.good k hlt; rw [h] at this; cases this
      have HSUC : Hid (goodB ns[k] k = true → ∀ j (h : j < ns.length), j < k + 1 → goodB ns[j] j = true) := fun h j hj hjk => by
        by_cases e : j = k
        · subst e; exact h
        · exact HGD.out j hj (by omega)
      obtain ⟨gk, hgk⟩ : ∃ gk, gk = goodB ns[k] k := ⟨_, rfl⟩
      rw [← hgk] at HGK HBAD HSUC
      obtain ⟨nb, hnb⟩ : ∃ nb, nb = nodeB ns[k].kind ns[k].name ns[k].attrs ns[k].text ns[k].kids.length := ⟨_, rfl⟩
      rw [← hnb] at HGK CN
      obtain ⟨k0, hk0⟩ : ∃ k0, k0 = ns[k].kind := ⟨_, rfl⟩
      obtain ⟨k1, hk1⟩ : ∃ k1, k1 = ns[k].name := ⟨_, rfl⟩
      obtain ⟨k3, hk3⟩ : ∃ k3, k3 = ns[k].text := ⟨_, rfl⟩
      obtain ⟨k4, hk4⟩ : ∃ k4, k4 = ns[k].parent := ⟨_, rfl⟩
      obtain ⟨kl, hkl⟩ : ∃ kl, kl = ns[k].kids.length := ⟨_, rfl⟩
      rw [← hk0] at c0 HGK CN
      rw [← hk1] at c1 CN
      rw [← hk3] at c3 CN
      rw [← hk4] at c4 CN
      rw [← hkl] at c5 CN
      clear hgk hnb hk0 hk1 hk3 hk4 hkl hnf hav'
      obtain ⟨wx, hwx⟩ : ∃ wx, wx = wr.alloc (.cells #[.int .i64 k0, .string k1, .slice av1 av2 av3, .string k3, .int .i64 k4, .slice kv1 kl kv3] 34) := ⟨_, rfl⟩
      have bx : Below wr.heap.size wr wx := by rw [hwx]; exact (Below.refl _ _).alloc (Nat.le_refl _) _
      have HBX := (show Hid (Below wr.heap.size wr wx) from bx)
      have HQ : Hid ((decide (k0 = 1) == decide (k = 0)) = decide ((k0 == 1) = ((k : Int) == 0))) := eq_kinds k0 k
      rw [HQ.out] at HGK
      have hrs := HG1.out
      clear HQ hrs
      by_cases hq : (k0 == 1) = ((k : Int) == 0)
      · have HGQ : Hid (gk = nb) := HGK.out.trans (by rw [decide_eq_true hq]; exact Bool.true_and nb)
        go_wp2_with fail
        go_at_call 23
        rw [← hwx]
        refine (CN.out _ bx).mono ?_
        rintro e w2 ⟨rfl, b2⟩
        replace b2 := HBX.out.trans (b2.mono HBX.out.size)
        have HB2 := (show Hid (Below wr.heap.size wr w2) from b2)
        clear bx b2 hwx
        cases nb
        · go_wp2
          go_ret
          exact ⟨false, rfl, by simpa using HBAD.out HGQ.out, hb.trans (HB2.out.mono hb.size)⟩
        · go_wp2
          go_roundw
          case rel => exact ⟨k + 1, by omega, by go_num, HSUC.out HGQ.out, bel.trans (HB2.out.mono bel.size)⟩
          case measure => simp [intOf]; omega
      · have HBQ : Hid (¬ TreeOkP ns) := HBAD.out (HGK.out.trans (by rw [decide_eq_false hq]; rfl))
        go_wp2
        rw [← hwx]
        go_ret
        exact ⟨false, rfl, by simpa using HBQ.out, hb.trans (HBX.out.mono hb.size)⟩
    · have hke : k = ns.length := by omega
      have HALL : Hid (∀ j (h : j < ns.length), goodB ns[j] j = true) := fun j h => HGD.out j h (by omega)
      have g1 := (bel.block _ (blk_lt HG1.out)).trans HG1.out
      have cT : wr.cell? ⟨w.heap.size, 0, none⟩ = some (.slice (some ⟨b, off, none⟩) ns.length cap) := by simp only [World.cell?, g1]; rfl
      clear g1 HGD
      go_wp2_with fail
      obtain ⟨wA, hwA⟩ : ∃ wA, wA = wr.alloc (.cells #[.slice (some ⟨b, off, none⟩) ns.length cap] 41) := ⟨_, rfl⟩
      have bA : Below wr.heap.size wr wA := by rw [hwA]; exact (Below.refl _ _).alloc (Nat.le_refl _) _
      have hsA : wr.heap.size < wA.heap.size := by rw [hwA]; simp
      have gA : wA.heap[wr.heap.size]? = some (.cells #[.slice (some ⟨b, off, none⟩) ns.length cap] 41 (0, 0)) := by rw [hwA]; exact World.alloc_heap_new _ _
      have cA : wA.cell? ⟨wr.heap.size, 0, none⟩ = some (.slice (some ⟨b, off, none⟩) ns.length cap) := by simp only [World.cell?, gA]; rfl
      have bwA : Below w.heap.size w wA := hb.trans (bA.mono hb.size)
      have CF := (show Hid _ from kidsFit_any (HN.out.below bwA) hsA cA (by omega) (by omega))
      have CR := (show Hid (∀ w', Below wA.heap.size wA w' → KidsFit ns → Calls Try.prog 25 #[.pointer (some ⟨wr.heap.size, 0, none⟩)] w' fun e w'' => e = .returned (.bool (decide (reachN ns ns.length ns.length = ns.length))) ∧ Below w'.heap.size w' w'') from fun w' b' hkf =>
        allReached_any (f := ns.length) ((HN.out.below bwA).below b') (Nat.lt_of_lt_of_le hsA b'.size) ((b'.cell (p := ⟨wr.heap.size, 0, none⟩) hsA).trans cA) (by omega) (by omega) (deep_of_fit hkf) (by have := reach_le hkf; omega))
      go_at_call 24
      rw [← hwA]
      clear hwA gA cA
      refine Calls.mono CF.out ?_
      rintro e w2 ⟨r1, rfl, hr1, b2⟩
      have HR1 := (show Hid (r1 = true ↔ KidsFit ns) from hr1)
      have HB2 := (show Hid (Below wA.heap.size wA w2) from b2)
      have HBW := (show Hid (Below w.heap.size w w2) from bwA.trans (b2.mono bwA.size))
      clear hr1 b2
      cases r1
      · go_wp2
        go_ret
        have hno : ¬ TreeOkP ns := fun h => Bool.false_ne_true (HR1.out.mpr h.fit)
        exact ⟨false, rfl, ⟨fun h => (by cases h), fun h => absurd h hno⟩, HBW.out⟩
      · have hkf := HR1.out.mp rfl
        have HRI := (show Hid _ from reach_iff hkf)
        have C2 := CR.out w2 HB2.out hkf
        obtain ⟨r2, hr2⟩ : ∃ r2, r2 = decide (reachN ns ns.length ns.length = ns.length) := ⟨_, rfl⟩
        rw [← hr2] at C2
        have HR2 := (show Hid _ from hr2)
        have HC2 := (show Hid _ from C2)
        clear hr2 C2
        go_wp2_with fail
        go_at_call 25
        refine Calls.mono HC2.out ?_
        rintro e w3 ⟨rfl, b3⟩
        go_wp2
        go_ret
        refine ⟨r2, rfl, ?_, HBW.out.trans (b3.mono HBW.out.size)⟩
        rw [HR2.out, decide_eq_true_iff, HRI.out]
        exact ⟨fun h => ⟨by omega, by omega, HALL.out, hkf, h⟩, fun h => h.linked⟩
end Go.Proofs.Ytckhmolmnlcabaa

/- 'append(v, s...)' where v is the call's own and s a string. No condition. -/
namespace Go.Proofs.Ytckhmolmnlcabaa
open Go.RowKit
set_option maxRecDepth 100000
set_option linter.unusedVariables false

theorem bs_cells (s : ByteArray) : (bs s).map (Value.int .u8) = (s.data.map (fun b => Value.int .u8 b.toNat)).toList := by
  simp [bs, Function.comp_def]

theorem first_str {P : Program} (w : World) (s : ByteArray) : (Builtin.firstCells 1 s.size (.string s)).run P w = .ok ((bs s).map (Value.int .u8)).toArray w := by
  rw [bs_cells]
  simp [Builtin.firstCells]
  apply Array.ext'
  simp

theorem run_append_str {P : Program} (w : World) (base : Nat) (t u ty e : TypeId) (i : TypeInfo) (z : Value) (ht : P.underlying t = some (.slice e)) (hu : P.underlying u = some .string)
    (hi : P.info? e = some i) (hz : i.zero = some z) (hsize : i.size = 1) (hby : i.bytes = 1) (hzs : z.cells.size = 1) (v : Value) (xs : List Int) (hown : Own base e .u8 w v xs) (hne : xs ≠ [])
    (s : ByteArray) (hb : xs.length + s.size ≤ 140737488355328) (hbase : base ≤ w.heap.size) :
    ∃ v' w', (Builtin.append_ #[t, u] ty #[v, .string s]).run P w = .ok v' w' ∧ Own base e .u8 w' v' (xs ++ bs s) ∧ w.grownBy w' v.ownBlock := by
  have h63 : xs.length + s.size ≤ maxLen := by unfold maxLen; omega
  obtain ⟨ys, hys⟩ : ∃ ys, ys = xs.map (Value.int .u8) := ⟨_, rfl⟩
  obtain ⟨news, hnw⟩ : ∃ ns, ns = (bs s).map (Value.int .u8) := ⟨_, rfl⟩
  have hnl : news.length = s.size := by rw [hnw, List.length_map, bs_len]
  have hyl : ys.length = xs.length := by rw [hys, List.length_map]
  have hpos : 0 < xs.length := List.length_pos_iff.mpr hne
  have h1 : ∀ u ∈ news, u.oneCell' = true := by rw [hnw]; exact ints_oneCell .u8 (bs s)
  have hlen : (ys ++ news).length = xs.length + s.size := by rw [List.length_append, hyl, hnl]
  have hxl : (xs ++ bs s).length = xs.length + s.size := by rw [List.length_append, bs_len]
  have hmap : (xs ++ bs s).map (Value.int .u8) = ys ++ news := by rw [List.map_append, ← hys, ← hnw]
  have hown' := hown
  unfold Own at hown ⊢
  rw [← hys] at hown
  rw [hmap, hxl]
  rcases hown.2 with ⟨rfl, h0⟩ | ⟨g, cap, cur, rfl, hbg, hg, hnc, hcm, hcs, htake⟩
  · omega
  · simp only [Nat.mul_one] at hcs htake
    by_cases hroom : xs.length + s.size ≤ cap
    · have hf := first_str (P := P) w s
      rw [← hnw] at hf
      have hfit : xs.length * 1 + news.length ≤ cur.size := by rw [hnl, hcs]; omega
      have hst := run_storeCells_at P g (xs.length * 1) e news 0 cur w hg (by simpa using hfit) h1
      simp only [Nat.add_zero, Nat.mul_one] at hst
      have hr : (Builtin.append_ #[t, u] ty #[.slice (some ⟨g, 0, none⟩) xs.length cap, .string s]).run P w = .ok (.slice (some ⟨g, 0, none⟩) (xs.length + s.size) cap) (w.setRow g (cur.toList.take xs.length ++ news ++ cur.toList.drop (xs.length + news.length)).toArray) := by
        simp [Builtin.append_, run_underlying ht, run_underlying hu, sizeOf, typeInfo, hi, hsize, Builtin.lenOf, hroom, hf, Addr.add_lit, hst]
      refine ⟨_, _, hr, ⟨by rw [hlen, Nat.mul_one], .inr ⟨g, cap, _, rfl, hbg, setRow_heap w g cur _ e _ hg, hroom, hcm, ?_, ?_⟩⟩, ⟨rfl, rfl, rfl, by simp, fun k _ hk => setRow_other w g k _ (fun e => hk (by simp [Value.ownBlock, e]))⟩⟩
      · simp only [List.size_toArray, List.length_append, List.length_take, List.length_drop, Array.length_toList]
        omega
      · simp only [Nat.mul_one]
        rw [htake, ← hlen]
        exact List.take_left
    · have holds : ∀ j u, ys[j]? = some u → w.cell? ((⟨g, 0, none⟩ : Addr).add j) = some u := hown.cells (g := g) rfl
      have hfo := run_firstCells_some (P := P) w.drew 1 xs.length ⟨g, 0, none⟩ xs.length cap ys (by rw [hyl, Nat.mul_one]) (by simpa using holds)
      have hf := first_str (P := P) w.drew s
      rw [← hnw] at hf
      have h63' : ¬ (9223372036854775807 < ((xs.length : Int) + (s.size : Int))) := by unfold maxLen at h63; omega
      have hfits := growslice_fits (need := xs.length + s.size) (old := cap) (bytes := 1) (by omega) (by omega)
      have h48' : ¬ (281474976710656 < Builtin.nextslicecap (xs.length + s.size) cap) := by omega
      have hge := grownCap_ge w (xs.length + s.size) cap e
      have hcm' : grownCap w (xs.length + s.size) cap e ≤ maxLen := grownCap_le_maxLen w (xs.length + s.size) cap e h63
      have hr : (Builtin.append_ #[t, u] ty #[.slice (some ⟨g, 0, none⟩) xs.length cap, .string s]).run P w = .ok (.slice (some ⟨w.heap.size, 0, none⟩) (xs.length + s.size) (grownCap w (xs.length + s.size) cap e))
          (w.drew.alloc (.cells (ys.toArray ++ news.toArray ++ Builtin.zeroCells z.cells (grownCap w (xs.length + s.size) cap e - (xs.length + s.size))) e)) := by
        simp [Builtin.append_, run_underlying ht, run_underlying hu, sizeOf, typeInfo, zeroValue, hi, hz, hsize, hby, Builtin.lenOf, hroom, h63', h48', Question.forced, hf, hfo, newRow, grownCap]
        congr 2
        apply Array.ext'
        simp [List.append_assoc]
      refine ⟨_, _, hr, ⟨by rw [hlen, Nat.mul_one], .inr ⟨w.heap.size, _, _, rfl, hbase, heap_alloc_new w.drew _, hge, hcm', ?_, ?_⟩⟩, ⟨rfl, rfl, rfl, by simp, fun k hk _ => Below.heap_alloc w.drew _ k hk⟩⟩
      · simp only [Array.size_append, List.size_toArray, size_zeroCells, hzs, hyl, hnl, Nat.mul_one]
        omega
      · simp only [Array.toList_append, List.append_assoc, Nat.mul_one]
        rw [← List.append_assoc, ← hlen]
        exact List.take_left

theorem wpList_app_str {P : Program} (w : World) {ops : Array Oper} {rest : List Oper} {o : Oper} {a : Act} {Q : Exit → Act → World → Prop} (hgd : o.guard = none)
    (s x : Operand) (t u : TypeId) (ho : o.op = Op.call { callee := Callee.builtin Builtin.append, args := #[s, x], argTypes := #[t, u] }) (B : Nat) (e : TypeId) (i : TypeInfo)
    (z : Value) (ht : P.underlying t = some (TypeDesc.slice e)) (hu : P.underlying u = some .string) (hi : P.info? e = some i) (hz : i.zero = some z) (hsize : i.size = 1) (hby : i.bytes = 1)
    (hzs : z.cells.size = 1) (v : Value) (st : ByteArray) (xs : List Int) (hs : a.eval s = v) (hx : a.eval x = .string st) (hown : Own B e .u8 w v xs) (hne : xs ≠ [])
    (hb : xs.length + st.size ≤ 140737488355328) (hbase : B ≤ w.heap.size)
    (h : ∀ (v' : Value) (w' : World), Own B e .u8 w' v' (xs ++ bs st) → w.grownBy w' v.ownBlock → wpList P ops Q rest (a.put o.dst v') w') :
    wpList P ops Q (o :: rest) a w := by
  obtain ⟨v', w', hr, h2, h3⟩ := run_append_str (P := P) w B t u o.type e i z ht hu hi hz hsize hby hzs v xs hown hne st hb hbase
  refine wpList_plain hgd fun _ hK => ?_
  unfold Oper.wp execOp
  simp only [ho, resolve, invoke, builtin, Sem.run_bind, Sem.run_pure, Result.andThen_ok, List.map_toArray, List.map_cons, List.map_nil, hs, hx, hr]
  exact hK _ _ (h v' w' h2 h3)
end Go.Proofs.Ytckhmolmnlcabaa
