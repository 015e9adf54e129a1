/- The program's has and kidsFit, inside the fence. No condition. -/
import Derived.Sort.LoopGhostIn
import Derived.Test.YtogdbjafibejdaaGreatY25
import Derived.Test.YtogdbjafibejdaaGreatY2
import Derived.Test.YtogdbjafibejdaaGreatY20
import Derived.Test.YtogdbjafibejdaaGreatY21
import Derived.Test.YtogdbjafibejdaaGreatY4
import Derived.Test.YtogdbjafibejdaaGreatY24
import Derived.Test.YtogdbjafibejdaaGreatY8
import Derived.Test.YtogdbjafibejdaaGreatY13
namespace Go.Proofs.YtogdbjafibejdaaGreat
open Go.RowKit Go.Shelf
set_option maxRecDepth 100000
set_option linter.unusedVariables false
attribute [local go_sem] Oper.semAt_some

set_option maxHeartbeats 400000 in
theorem ihas_any {w : World} {A len cap : Nat} {a : Option Addr} (cA : w.cell? ⟨A, 0, none⟩ = some (.slice a len cap)) (x : Int) :
    Calls Tryz.prog 74 #[.pointer (some ⟨A, 0, none⟩), .int .i64 x] w fun e w' => e = .returned (.bool (decide (0 ≤ x ∧ x < len))) ∧ w' = w := by
  by_cases h0 : 0 ≤ x
  · by_cases h1 : x < len
    · rw [decide_eq_true ⟨h0, h1⟩]
      go_enter Tryz.func74, Tryz.ntmps74
      go_wp2
      go_ret
      exact ⟨rfl, rfl⟩
    · rw [decide_eq_false (fun h => h1 h.2)]
      go_enter Tryz.func74, Tryz.ntmps74
      go_wp2
      go_ret
      exact ⟨rfl, rfl⟩
  · rw [decide_eq_false (fun h => h0 h.1)]
    go_enter Tryz.func74, Tryz.ntmps74
    go_wp2
    go_ret
    exact ⟨rfl, rfl⟩
structure FitW (w : World) (A : Nat) (ns : List PNode) (k : Nat) (pre : List Int) (ds : List Nat) (W : World) : Prop where
  bA : W.heap[w.heap.size]? = some (.cells #[.pointer (some ⟨A, 0, none⟩)] 64 (0, 0))
  bR : W.heap[w.heap.size + 1]? = some (.cells #[.bool false] 4 (0, 0))
  bS : ∃ arr, W.heap[w.heap.size + 1 + 1]? = some (.cells arr 139 (0, 0)) ∧ Stands ns k pre arr
  dd : ds.Nodup
  bD : ∀ d ∈ ds, w.heap.size ≤ d ∧ W.heap[d]? = some (.deferred (some []))
  bel : Below w.heap.size w W
  fit : ∀ i, i < k → FitPre ns i (kidsOf ns i)
  fpre : FitPre ns k pre
theorem FitW.grow {w : World} {A : Nat} {ns : List PNode} {k : Nat} {pre : List Int} {ds : List Nat} {W W' : World} (h : FitW w A ns k pre ds W) (b : Below W.heap.size W W') : FitW w A ns k pre ds W' := by
  obtain ⟨h1, h2, ⟨arr, h3, h3'⟩, h4, h5, h6, h7, h8⟩ := h
  exact ⟨(b.block _ (blk_lt h1)).trans h1, (b.block _ (blk_lt h2)).trans h2, ⟨arr, (b.block _ (blk_lt h3)).trans h3, h3'⟩, h4, fun d hd => ⟨(h5 d hd).1, (b.block _ (blk_lt (h5 d hd).2)).trans (h5 d hd).2⟩, h6.trans (b.mono h6.size), h7, h8⟩
theorem FitW.own {w : World} {A : Nat} {ns : List PNode} {k B : Nat} {pre : List Int} {ds : List Nat} {W W' : World} {row : Option Nat} (h : FitW w A ns k pre ds W) (hg : W.grownBy W' row)
    (hr : ∀ r, row = some r → B ≤ r ∧ ∃ o : Obj, W.heap[r]? = some o ∧ o.isCells = false) (hd : ∀ d ∈ ds, d < B) (hB : w.heap.size ≤ B) : FitW w A ns k pre ds W' := by
  obtain ⟨h1, h2, ⟨arr, h3, h3'⟩, h4, h5, h6, h7, h8⟩ := h
  exact ⟨cells_from h1 hg hr, cells_from h2 hg hr, ⟨arr, cells_from h3 hg hr, h3'⟩, h4, fun d hd' => ⟨(h5 d hd').1, blk_from (h5 d hd').2 (hd d hd') hg hr⟩, h6.grown hg h6.size (fun r e => by have := (hr r e).1; omega), h7, h8⟩
def FitInv (w : World) (A b off cap : Nat) (ns : List PNode) (m : Nat) (a : Act) (W : World) : Prop :=
  ∃ (k : Nat) (ds : List Nat) (u4 u5 u12 u13 u14 u15 u16 u17 u18 u19 u20 u21 u22 u23 u24 u25 u26 u27 u28 u29 u30 u31 u32 u33 u34 u35 u36 u37 u38 u39 u40 u41 : Value), k + m = ns.length ∧ a = { tmps := #[.pointer (some ⟨A, 0, none⟩), .pointer (some ⟨w.heap.size, 0, none⟩), .pointer (some ⟨w.heap.size + 1, 0, none⟩), .pointer (some ⟨w.heap.size + 1 + 1, 0, none⟩), u4, u5, .pointer (some ⟨A, 0, none⟩), .pointer (some ⟨A, 0, none⟩), .pointer (some ⟨A, 0, none⟩), .slice (some ⟨b, off, none⟩) ns.length cap, .int .i64 (ns.length : Int), .int .i64 (k : Int), u12, u13, u14, u15, u16, u17, u18, u19, u20, u21, u22, u23, u24, u25, u26, u27, u28, u29, u30, u31, u32, u33, u34, u35, u36, u37, u38, u39, u40, u41], defers := dmarks ds } ∧ FitW w A ns k [] ds W
theorem zeros_eq : Tryz.zeroCells139 = Array.replicate 500 (.bool false) := by kernel_rfl
theorem stands_zero (ns : List PNode) : Stands ns 0 [] Tryz.zeroCells139 := by
  rw [zeros_eq]
  refine ⟨by simp, fun j hj => ⟨false, by simp [hj], ?_⟩⟩
  simp [Stand]
theorem fit_ret {w : World} {A : Nat} {ns : List PNode} {k : Nat} {pre : List Int} {ds : List Nat} {Wb : World} (h : FitW w A ns k pre ds Wb) (nq : Nat) :
    KeepsOthers Wb ((Wb.drewN nq).setCell ⟨w.heap.size + 1, 0, none⟩ (.bool false)) ∧ ((Wb.drewN nq).setCell ⟨w.heap.size + 1, 0, none⟩ (.bool false)).heap[w.heap.size + 1]? = some (.cells #[.bool false] 4 (0, 0)) ∧
      (∀ d ∈ ds, w.heap.size ≤ d ∧ ((Wb.drewN nq).setCell ⟨w.heap.size + 1, 0, none⟩ (.bool false)).heap[d]? = some (.deferred (some []))) ∧ Below w.heap.size w ((Wb.drewN nq).setCell ⟨w.heap.size + 1, 0, none⟩ (.bool false)) := by
  obtain ⟨h1, h2, h3, h4, h5, h6, h7, h8⟩ := h
  have hk := KeepsOthers.setCell (Wb.drewN nq) ⟨w.heap.size + 1, 0, none⟩ (.bool false)
  have h6' : Below w.heap.size w (Wb.drewN nq) := ⟨h6.os, h6.tape, h6.output, h6.size, h6.block⟩
  exact ⟨⟨hk.size, hk.same⟩, setCell_at (w := Wb.drewN nq) h2, fun d hd => ⟨(h5 d hd).1, hk.same d _ (h5 d hd).2 rfl⟩, h6'.setCell (p := ⟨w.heap.size + 1, 0, none⟩) (by simp) _⟩
theorem fit_go {w : World} {A : Nat} {ns : List PNode} {k : Nat} {pre : List Int} {ds : List Nat} {Wb : World} (h : FitW w A ns k pre ds Wb) (nq j : Nat) {arr : Array Value} (hS : Wb.heap[w.heap.size + 1 + 1]? = some (.cells arr 139 (0, 0))) (hSt : Stands ns k pre arr)
    (hj : j < ns.length) (h500 : ns.length ≤ 500) (hs : ¬ Stand ns k pre j) (hp : parOf ns j = k) {X : Nat} {cs : Array Value} {t : TypeId} (hX : Wb.heap[X]? = some (.cells cs t (0, 0))) (hne : X ≠ w.heap.size + 1 + 1) :
    KeepsOthers Wb ((Wb.drewN nq).setCell ⟨w.heap.size + 1 + 1, j, none⟩ (.bool true)) ∧ Below w.heap.size Wb ((Wb.drewN nq).setCell ⟨w.heap.size + 1 + 1, j, none⟩ (.bool true)) ∧
      FitW w A ns k (pre ++ [(j : Int)]) ds ((Wb.drewN nq).setCell ⟨w.heap.size + 1 + 1, j, none⟩ (.bool true)) ∧ ((Wb.drewN nq).setCell ⟨w.heap.size + 1 + 1, j, none⟩ (.bool true)).heap[X]? = some (.cells cs t (0, 0)) := by
  obtain ⟨h1, h2, h3, h4, h5, h6, h7, h8⟩ := h
  have hk := KeepsOthers.setCell (Wb.drewN nq) ⟨w.heap.size + 1 + 1, j, none⟩ (.bool true)
  have h6' : Below w.heap.size w (Wb.drewN nq) := ⟨h6.os, h6.tape, h6.output, h6.size, h6.block⟩
  have hr : Below w.heap.size Wb (Wb.drewN nq) := ⟨rfl, rfl, rfl, Nat.le_refl _, fun _ _ => rfl⟩
  have ho : ∀ d, d ≠ w.heap.size + 1 + 1 → ((Wb.drewN nq).setCell ⟨w.heap.size + 1 + 1, j, none⟩ (.bool true)).heap[d]? = Wb.heap[d]? := fun d hd => Below.heap_setCell (Wb.drewN nq) ⟨w.heap.size + 1 + 1, j, none⟩ (.bool true) d hd
  exact ⟨⟨hk.size, hk.same⟩, hr.setCell (p := ⟨w.heap.size + 1 + 1, j, none⟩) (by simp; omega) _,
    ⟨(ho _ (by omega)).trans h1, (ho _ (by omega)).trans h2, ⟨_, setCell_at (w := Wb.drewN nq) hS, hSt.snoc j (by omega)⟩, h4, fun d hd => ⟨(h5 d hd).1, hk.same d _ (h5 d hd).2 rfl⟩, h6'.setCell (p := ⟨w.heap.size + 1 + 1, j, none⟩) (by simp; omega) _, h7, fit_snoc h8 hj hs hp⟩,
    (ho X hne).trans hX⟩

set_option maxHeartbeats 1000000 in
theorem kidsFit_any {w : World} {v : Value} {ns : List PNode} {A : Nat} (hn : NodesAt w v ns) (hA : A < w.heap.size) (cA : w.cell? ⟨A, 0, none⟩ = some v) (hlen : ns.length ≤ 500) (h1 : 1 ≤ ns.length) :
    Calls Tryz.prog 60 #[.pointer (some ⟨A, 0, none⟩)] w fun e w' => ∃ r, e = .returned (.bool r) ∧ (r = true ↔ KidsFit ns) ∧ Below w.heap.size w w' := by
  have HN := (show Hid (NodesAt w v ns) from hn)
  obtain ⟨a, cap, rfl, hc1, hc2, hcs⟩ := hn.slice
  obtain ⟨b, off, _, _, rfl, hblt, _⟩ := hcs 0 h1
  have HCS := (show Hid (∀ k (hk : k < ns.length), w.cell? ⟨b, off + k * 6 + 4, none⟩ = some (.int .i64 ns[k].parent)) from fun k hk => by
    obtain ⟨_, _, _, _, e, _, _, _, _, _, c4, _⟩ := hcs k hk
    cases e
    exact c4)
  clear hcs hn
  refine (callsIn_wide (n := 3)).1 ?_
  refine callsIn_of_wp_marks Tryz.func60 rfl trivial ?_ rfl
  simp only [Tryz.ntmps60, List.size_toArray, List.length_cons, List.length_nil, Nat.reduceAdd, Nat.reduceSub, Array.replicate_succ, Array.replicate_zero, List.push_toArray, List.append_toArray, List.nil_append, List.cons_append]
  obtain ⟨w3, hw3⟩ : ∃ w3, w3 = ((w.alloc (.cells #[.pointer (some ⟨A, 0, none⟩)] 64)).alloc (.cells #[.bool false] 4)).alloc (.cells Tryz.zeroCells139 139) := ⟨_, rfl⟩
  have b3 : Below w.heap.size w w3 := by rw [hw3]; exact (((Below.refl _ w).alloc (Nat.le_refl _) _).alloc (by simp) _).alloc (by simp; omega) _
  have c3 : w3.cell? ⟨A, 0, none⟩ = some (.slice (some ⟨b, off, none⟩) ns.length cap) := (b3.cell (p := ⟨A, 0, none⟩) hA).trans cA
  have g0 : w3.heap[w.heap.size]? = some (.cells #[.pointer (some ⟨A, 0, none⟩)] 64 (0, 0)) := by
    rw [hw3, Below.heap_alloc _ _ _ (by simp; omega), Below.heap_alloc _ _ _ (by simp)]
    exact World.alloc_heap_new _ _
  have g1 : w3.heap[w.heap.size + 1]? = some (.cells #[.bool false] 4 (0, 0)) := by
    rw [hw3, Below.heap_alloc _ _ _ (by simp)]
    have := World.alloc_heap_new (w.alloc (.cells #[.pointer (some ⟨A, 0, none⟩)] 64)) (.cells #[.bool false] 4)
    rwa [World.size_alloc] at this
  have g2 : w3.heap[w.heap.size + 1 + 1]? = some (.cells Tryz.zeroCells139 139 (0, 0)) := by
    rw [hw3]
    have := World.alloc_heap_new ((w.alloc (.cells #[.pointer (some ⟨A, 0, none⟩)] 64)).alloc (.cells #[.bool false] 4)) (.cells Tryz.zeroCells139 139)
    rwa [World.size_alloc, World.size_alloc] at this
  have HG0 := (show Hid _ from g0)
  have HG1 := (show Hid _ from g1)
  have HG2 := (show Hid _ from g2)
  have c0 : w3.cell? ⟨w.heap.size, 0, none⟩ = some (.pointer (some ⟨A, 0, none⟩)) := by simp only [World.cell?, g0]; rfl
  rw [hw3] at c3 c0
  clear g0 g1 g2
  gi_wp2
  rw [← hw3]
  clear c3 c0
  refine wpIn_loop_ghost_k (FitInv w A b off cap ns) ns.length ?start ?round
  case start =>
    exact ⟨0, [], undef, undef, undef, undef, undef, undef, undef, undef, undef, undef, undef, undef, undef, undef, undef, undef, undef, undef, undef, undef, undef, undef, undef, undef, undef, undef, undef, undef, undef, undef, undef, undef, by simp, rfl, ⟨HG0.out, HG1.out, ⟨_, HG2.out, stands_zero ns⟩, List.nodup_nil, (fun d hd => by cases hd), b3, (fun i hi => absurd hi (Nat.not_lt_zero i)), ⟨List.nodup_nil, fun x hx => by cases hx⟩⟩⟩
  case round =>
    clear HG0 HG1 HG2 b3 hw3
    rintro m a' W ⟨k, ds, u4, u5, u12, u13, u14, u15, u16, u17, u18, u19, u20, u21, u22, u23, u24, u25, u26, u27, u28, u29, u30, u31, u32, u33, u34, u35, u36, u37, u38, u39, u40, u41, hm, rfl, hW⟩ J K hJ hK
    have HJ := (show Hid _ from hJ)
    have HK := (show Hid _ from hK)
    have HW := (show Hid (FitW w A ns k [] ds W) from hW)
    have c0 : W.cell? ⟨w.heap.size, 0, none⟩ = some (.pointer (some ⟨A, 0, none⟩)) := by simp only [World.cell?, hW.bA]; rfl
    clear hJ hK hW
    by_cases hk : k < ns.length
    · have cX : (W.alloc (.cells #[.int .i64 k] 3)).cell? ⟨w.heap.size, 0, none⟩ = some (.pointer (some ⟨A, 0, none⟩)) := (((Below.refl _ W).alloc (Nat.le_refl _) _).cell (p := ⟨w.heap.size, 0, none⟩) (blk_lt HW.out.bA)).trans c0
      gi_wp2
      refine ⟨trivial, (kids_in _ _ _ _).mono ?_⟩
      rintro e w' ⟨rfl, rfl⟩
      gi_wp2
      clear cX c0
      obtain ⟨W1, hW1⟩ : ∃ W1, W1 = ((W.alloc (.cells #[.int .i64 k] 3)).alloc (.cells #[.pointer (some ⟨A, 0, none⟩)] 64)).alloc (.cells #[.int .i64 k] 3) := ⟨_, rfl⟩
      have b1 : Below W.heap.size W W1 := by rw [hW1]; exact (((Below.refl _ W).alloc (Nat.le_refl _) _).alloc (by simp) _).alloc (by simp; omega) _
      have sz1 : W1.heap.size = W.heap.size + 3 := by rw [hW1]; simp
      have gX : W1.heap[W.heap.size]? = some (.cells #[.int .i64 k] 3 (0, 0)) := by
        rw [hW1, Below.heap_alloc _ _ _ (by simp; omega), Below.heap_alloc _ _ _ (by simp)]
        exact World.alloc_heap_new _ _
      have gY : W1.heap[W.heap.size + 1]? = some (.cells #[.pointer (some ⟨A, 0, none⟩)] 64 (0, 0)) := by
        rw [hW1, Below.heap_alloc _ _ _ (by simp)]
        have := World.alloc_heap_new (W.alloc (.cells #[.int .i64 k] 3)) (.cells #[.pointer (some ⟨A, 0, none⟩)] 64)
        rwa [World.size_alloc] at this
      have gZ : W1.heap[W.heap.size + 1 + 1]? = some (.cells #[.int .i64 k] 3 (0, 0)) := by
        rw [hW1]
        have := World.alloc_heap_new ((W.alloc (.cells #[.int .i64 k] 3)).alloc (.cells #[.pointer (some ⟨A, 0, none⟩)] 64)) (.cells #[.int .i64 k] 3)
        rwa [World.size_alloc, World.size_alloc] at this
      have cY : W1.cell? ⟨W.heap.size + 1, 0, none⟩ = some (.pointer (some ⟨A, 0, none⟩)) := by simp only [World.cell?, gY]; rfl
      have cZ : W1.cell? ⟨W.heap.size + 1 + 1, 0, none⟩ = some (.int .i64 k) := by simp only [World.cell?, gZ]; rfl
      have HW1 := HW.out.grow b1
      rw [← hW1]
      have hbel := HW1.bel
      refine wpIn_rangeFunc_ownF (F := Fence.wide) rfl (by omega) (gf := 158) (lb := #[.pointer (some ⟨W.heap.size + 1, 0, none⟩), .pointer (some ⟨W.heap.size + 1 + 1, 0, none⟩)]) rfl trivial (enters_of Tryz.func158 (by kernel_rfl) rfl)
        (kids_stops (fun x : Int => x) 2 (W.heap.size + 1) (W.heap.size + 1 + 1) A w W1 _ ns k hk (kidsOf ns k) (by rw [kidsOf_at hk]; simp) (by omega) HN.out hbel (by omega) (by omega) hA cY cZ cA)
        belowK_t (belowK_b hbel.size) (Below.refl _ _) (fun _ => rfl)
        (fun pre W' => FitW w A ns k pre ds W' ∧ W'.heap[W.heap.size]? = some (.cells #[.int .i64 k] 3 (0, 0)))
        (fun c pre W' => c = .ret ∧ BadPre ns k pre ∧ W'.heap[w.heap.size + 1]? = some (.cells #[.bool false] 4 (0, 0)) ∧ (∀ d ∈ ds, w.heap.size ≤ d ∧ W'.heap[d]? = some (.deferred (some []))) ∧ Below w.heap.size w W')
        ?hI ?hIx ⟨HW1, gX⟩
        (fun x => { tmps := #[.pointer (some ⟨A, 0, none⟩), .pointer (some ⟨w.heap.size, 0, none⟩), .pointer (some ⟨w.heap.size + 1, 0, none⟩), .pointer (some ⟨w.heap.size + 1 + 1, 0, none⟩), .pointer (some ⟨W.heap.size, 0, none⟩), .int .i64 x, .pointer (some ⟨A, 0, none⟩), .pointer (some ⟨A, 0, none⟩), .pointer (some ⟨A, 0, none⟩), .slice (some ⟨b, off, none⟩) ns.length cap, .int .i64 (ns.length : Int), .int .i64 (k : Int), .bool true, .int .i64 (k : Int), .pointer (some ⟨A, 0, none⟩), .int .i64 (k : Int), .func (.func 158) #[] #[.pointer (some ⟨W.heap.size + 1, 0, none⟩), .pointer (some ⟨W.heap.size + 1 + 1, 0, none⟩)], .int .i64 x, u18, u19, u20, u21, u22, u23, u24, u25, u26, u27, u28, u29, u30, u31, u32, u33, u34, u35, u36, u37, u38, u39, u40, u41], defers := [] }) ?assign ?body ?done ?stop
      case hI =>
        intro pre Wa Wb row hs hg hr
        exact ⟨hs.1.own hg hr (fun d hd => by have := blk_lt (HW.out.bD d hd).2; omega) hbel.size, cells_from hs.2 hg hr⟩
      case hIx =>
        intro c pre Wa Wb row hs hg hr
        refine ⟨hs.1, hs.2.1, cells_from hs.2.2.1 hg hr, fun d hd => ⟨(hs.2.2.2.1 d hd).1, blk_from (hs.2.2.2.1 d hd).2 (by have := blk_lt (HW.out.bD d hd).2; omega) hg hr⟩, hs.2.2.2.2.grown hg hs.2.2.2.2.size (fun r e => by have := (hr r e).1; have := hbel.size; omega)⟩
      case assign =>
        intro l x Wa K' hK'
        gi_wp2
        exact hK'
      case body =>
        rintro l pre x Wb ⟨hF, hBx⟩ hlt
        have cb0 : Wb.cell? ⟨w.heap.size, 0, none⟩ = some (.pointer (some ⟨A, 0, none⟩)) := by simp only [World.cell?, hF.bA]; rfl
        have cbA : Wb.cell? ⟨A, 0, none⟩ = some (.slice (some ⟨b, off, none⟩) ns.length cap) := (hF.bel.cell (p := ⟨A, 0, none⟩) hA).trans cA
        have cbx : Wb.cell? ⟨W.heap.size, 0, none⟩ = some (.int .i64 k) := by simp only [World.cell?, hBx]; rfl
        have cbR : Wb.cell? ⟨w.heap.size + 1, 0, none⟩ = some (.bool false) := by simp only [World.cell?, hF.bR]; rfl
        have fbR : Wb.frozen? ⟨w.heap.size + 1, 0, none⟩ = false := by simp [World.frozen?, hF.bR]
        have HH := (show Hid (∀ n q, CallsIn Fence.wide n Tryz.prog 74 #[.pointer (some ⟨A, 0, none⟩), .int .i64 x] (Wb.drewN q) fun e w' => e = .returned (.bool (decide (0 ≤ x ∧ x < (ns.length : Int)))) ∧ ∃ m, w' = Wb.drewN m) from fun n q =>
          callsIn_wide.2 ((ihas_any (w := Wb.drewN q) (by rw [World.cell?_drewN]; exact cbA) x).mono (fun e w' h => ⟨h.1, q, h.2⟩)))
        have HF := (show Hid _ from hF)
        have HBX := (show Hid _ from hBx)
        clear hF hBx
        by_cases hr : 0 ≤ x ∧ x < ns.length
        · rw [decide_eq_true hr] at HH
          obtain ⟨j, rfl⟩ : ∃ j : Nat, x = j := ⟨x.toNat, by omega⟩
          have hj : j < ns.length := by omega
          obtain ⟨arr, hS, hS1, hS2⟩ := HF.out.bS
          obtain ⟨bj, hbj, hst⟩ := hS2 j (by omega)
          have cbS : Wb.cell? ⟨w.heap.size + 1 + 1, j, none⟩ = some (.bool bj) := by simp only [World.cell?, hS]; exact hbj
          have fbS : Wb.frozen? ⟨w.heap.size + 1 + 1, j, none⟩ = false := by simp [World.frozen?, hS]
          have cbP : Wb.cell? ⟨b, off + j * 6 + 4, none⟩ = some (.int .i64 ns[j].parent) := (HF.out.bel.cell (p := ⟨b, off + j * 6 + 4, none⟩) hblt).trans (HCS.out j hj)
          have HST := (show Hid (bj = true ↔ Stand ns k pre j) from hst)
          have HS := (show Hid _ from hS)
          have HS2 := (show Hid (Stands ns k pre arr) from ⟨hS1, hS2⟩)
          have HPP : Hid (parOf ns j = ns[j].parent) := parOf_at hj
          obtain ⟨pj, hpj⟩ : ∃ pj, pj = ns[j].parent := ⟨_, rfl⟩
          rw [← hpj] at cbP HPP
          clear hpj hst hS hS1 hS2 hbj hr
          cases bj
          · by_cases hp : pj = (k : Int)
            · subst hp
              gi_wp2
              refine wpIn_region_quiet_round rfl (by kernel_rfl) (by kernel_rfl) (by kernel_rfl) ?_
              repeat (first | gi_big_quiet_step (fail) | (refine BigFrame.wpQuietIn_want (fun _ _ _ _ => trivial) rfl ?_; intro K hK; gi_big_quiet_op; gi_big_quiet_call (exact HH.out _ _)))
              refine wpQuietIn_nil ?_
              rintro wq ⟨nq, rfl⟩
              gi_wp2
              exact fit_go HF.out nq j HS.out HS2.out hj hlen (fun h => by have := HST.out.mpr h; cases this) HPP.out HBX.out (by have := blk_lt HW.out.bS.choose_spec.1; omega)
            · gi_wp2
              refine wpIn_region_quiet_round rfl (by kernel_rfl) (by kernel_rfl) (by kernel_rfl) ?_
              repeat (first | gi_big_quiet_step (fail) | (refine BigFrame.wpQuietIn_want (fun _ _ _ _ => trivial) rfl ?_; intro K hK; gi_big_quiet_op; gi_big_quiet_call (exact HH.out _ _)))
              refine wpQuietIn_nil ?_
              rintro wq ⟨nq, rfl⟩
              gi_wp2
              have hr := fit_ret HF.out nq
              exact ⟨hr.1, rfl, ⟨pre, j, rfl, .inr (.inr (by rw [show ((j : Int)).toNat = j by simp, HPP.out]; exact hp))⟩, hr.2⟩
          · gi_wp2
            refine wpIn_region_quiet_round rfl (by kernel_rfl) (by kernel_rfl) (by kernel_rfl) ?_
            repeat (first | gi_big_quiet_step (fail) | (refine BigFrame.wpQuietIn_want (fun _ _ _ _ => trivial) rfl ?_; intro K hK; gi_big_quiet_op; gi_big_quiet_call (exact HH.out _ _)))
            refine wpQuietIn_nil ?_
            rintro wq ⟨nq, rfl⟩
            gi_wp2
            have hr := fit_ret HF.out nq
            exact ⟨hr.1, rfl, ⟨pre, j, rfl, .inr (.inl (HST.out.mp (by simp)))⟩, hr.2⟩
        · rw [decide_eq_false hr] at HH
          gi_wp2
          refine wpIn_region_quiet_round rfl (by kernel_rfl) (by kernel_rfl) (by kernel_rfl) ?_
          repeat (first | gi_big_quiet_step (fail) | (refine BigFrame.wpQuietIn_want (fun _ _ _ _ => trivial) rfl ?_; intro K hK; gi_big_quiet_op; gi_big_quiet_call (exact HH.out _ _)))
          refine wpQuietIn_nil ?_
          rintro wq ⟨nq, rfl⟩
          gi_wp2
          have hr' := fit_ret HF.out nq
          exact ⟨hr'.1, rfl, ⟨pre, x, rfl, .inl hr⟩, hr'.2⟩
      case done =>
        rintro D ys Wd hD rfl ⟨hF, _⟩ hDd
        gi_wp2
        have hnd : (D :: ds).Nodup := List.nodup_cons.mpr ⟨fun hm => by have := blk_lt (HW.out.bD D hm).2; omega, HW.out.dd⟩
        refine HK.out _ _ ⟨ns.length - (k + 1), by omega, HJ.out _ _ _ ⟨k + 1, D :: ds, _, _, _, _, _, _, _, _, _, _, _, _, _, _, _, _, _, _, _, _, _, _, _, _, _, _, _, _, _, _, _, _, by omega, rfl, ?_⟩⟩
        obtain ⟨f1, f2, ⟨arr, f3, f3'⟩, f4, f5, f6, f7, f8⟩ := hF
        exact ⟨f1, f2, ⟨arr, f3, f3'.next⟩, hnd, fun d hd => by
          rcases List.mem_cons.mp hd with rfl | hd
          · exact ⟨by have := hbel.size; omega, hDd⟩
          · exact f5 d hd, f6, fun i hi => by
          by_cases e : i = k
          · subst e; exact f8
          · exact f7 i (by omega), ⟨List.nodup_nil, fun x hx => by cases hx⟩⟩
      case stop =>
        rintro D c pre Wd hD hp ⟨rfl, hbad, hR, hds, hbl⟩ hDd
        gi_wp2
        have hnd : (D :: ds).Nodup := List.nodup_cons.mpr ⟨fun hm => by have := blk_lt (HW.out.bD D hm).2; omega, HW.out.dd⟩
        refine leaves_dmarks (by simp) w.heap.size (D :: ds) Wd hnd (fun d hd => ?_) ?_
        · rcases List.mem_cons.mp hd with rfl | hd
          · exact ⟨by have := hbel.size; omega, hDd⟩
          · exact hds d hd
        · intro w' bw kw
          have hb := kw _ _ hR rfl
          have hc : w'.cell? ⟨w.heap.size + 1, 0, none⟩ = some (.bool false) := by simp only [World.cell?, hb]; rfl
          refine ⟨.bool false, ?_, false, rfl, ?_, hbl.trans bw⟩
          · simp [results, Tryz.f60, go_sem, hc]
          · simp only [Bool.false_eq_true, false_iff]
            exact bad_not hk hbad hp HW.out.fit
    · have hke : k = ns.length := by omega
      have cR : W.cell? ⟨w.heap.size + 1, 0, none⟩ = some (.bool false) := by simp only [World.cell?, HW.out.bR]; rfl
      have fR : W.frozen? ⟨w.heap.size + 1, 0, none⟩ = false := by simp [World.frozen?, HW.out.bR]
      gi_wp2
      obtain ⟨f1, f2, f3, f4, f5, f6, f7, f8⟩ := HW.out
      have g2 : (W.setCell ⟨w.heap.size + 1, 0, none⟩ (.bool true)).heap[w.heap.size + 1]? = some (.cells (#[Value.bool false].setIfInBounds 0 (.bool true)) 4 (0, 0)) := setCell_at f2
      have b2 : Below w.heap.size w (W.setCell ⟨w.heap.size + 1, 0, none⟩ (.bool true)) := f6.setCell (p := ⟨w.heap.size + 1, 0, none⟩) (by simp) _
      refine leaves_dmarks (by simp) w.heap.size ds _ f4 (fun d hd => ⟨(f5 d hd).1, ?_⟩) ?_
      · have hne : d ≠ w.heap.size + 1 := fun e => by have := (f5 d hd).2; rw [e, f2] at this; cases this
        rw [Below.heap_setCell W ⟨w.heap.size + 1, 0, none⟩ (.bool true) d hne]
        exact (f5 d hd).2
      · intro w' bw kw
        have hb := kw _ _ g2 rfl
        have hc : w'.cell? ⟨w.heap.size + 1, 0, none⟩ = some (.bool true) := by simp only [World.cell?, hb]; rfl
        refine ⟨.bool true, ?_, true, rfl, ?_, b2.trans bw⟩
        · simp [results, Tryz.f60, go_sem, hc]
        · simp only [true_iff]
          exact fun i hi => f7 i (by omega)
end Go.Proofs.YtogdbjafibejdaaGreat

/- The program's tellFrom and from, inside the fence. No condition. -/
namespace Go.Proofs.YtogdbjafibejdaaGreat
open Go.RowKit Go.Shelf
set_option maxRecDepth 100000
set_option linter.unusedVariables false
attribute [local go_sem] Oper.semAt_some

def TellBox (A l B : Nat) (W : World) : Prop :=
  W.heap[B]? = some (.cells #[.pointer (some ⟨A, 0, none⟩)] 64 (0, 0)) ∧ W.heap[B + 1]? = some (.cells #[.func (.yield l) #[] #[]] 80 (0, 0)) ∧ W.heap[B + 1 + 1]? = some (.cells #[.bool false] 4 (0, 0))
theorem TellBox.kq {A l B n0 n1 : Nat} {W W' : World} (h : TellBox A l B W) (k : Kq n0 n1 W W') (hB : n1 ≤ B) : TellBox A l B W' :=
  ⟨k.same _ _ h.1 (.inr (.inl hB)), k.same _ _ h.2.1 (.inr (.inl (by omega))), k.same _ _ h.2.2 (.inr (.inl (by omega)))⟩
theorem TellBox.own {A l B C : Nat} {W W' : World} {row : Option Nat} (h : TellBox A l B W) (hg : W.grownBy W' row) (hr : ∀ r, row = some r → C ≤ r ∧ ∃ o : Obj, W.heap[r]? = some o ∧ o.isCells = false) : TellBox A l B W' :=
  ⟨cells_from h.1 hg hr, cells_from h.2.1 hg hr, cells_from h.2.2 hg hr⟩
theorem tellBox_new (A l : Nat) (W : World) : TellBox A l W.heap.size (((W.alloc (.cells #[.pointer (some ⟨A, 0, none⟩)] 64)).alloc (.cells #[.func (.yield l) #[] #[]] 80)).alloc (.cells #[.bool false] 4)) := by
  refine ⟨?_, ?_, ?_⟩
  · rw [Below.heap_alloc _ _ _ (by simp; omega), Below.heap_alloc _ _ _ (by simp)]
    exact World.alloc_heap_new _ _
  · rw [Below.heap_alloc _ _ _ (by simp)]
    have := World.alloc_heap_new (W.alloc (.cells #[.pointer (some ⟨A, 0, none⟩)] 64)) (.cells #[.func (.yield l) #[] #[]] 80)
    rwa [World.size_alloc] at this
  · have := World.alloc_heap_new ((W.alloc (.cells #[.pointer (some ⟨A, 0, none⟩)] 64)).alloc (.cells #[.func (.yield l) #[] #[]] 80)) (.cells #[.bool false] 4)
    rwa [World.size_alloc, World.size_alloc] at this

set_option maxHeartbeats 1000000 in
theorem tellFrom_in {w0 : World} {v : Value} {ns : List PNode} {A l n1 : Nat} (hn : NodesAt w0 v ns) (hA : A < w0.heap.size) (cA : w0.cell? ⟨A, 0, none⟩ = some v) (hlen : ns.length ≤ 1048576) (J : List Int → World → Prop) (hF : FreeFrom n1 J)
    (hY : ∀ m pre x W1, J pre W1 → YieldAt Fence.wide m Tryz.prog l #[.int .i64 x] W1 fun e W' => e = .returned (.bool true) ∧ J (pre ++ [x]) W' ∧ Kq w0.heap.size n1 W1 W') :
    ∀ (f k : Nat), deepOk ns f k → ∀ (n : Nat) (pre : List Int) (W : World), Below w0.heap.size w0 W → n1 ≤ W.heap.size → J pre W →
      CallsIn Fence.wide n Tryz.prog 122 #[.pointer (some ⟨A, 0, none⟩), .int .i64 (k : Int), .func (.yield l) #[] #[]] W fun e W' => e = .returned (.bool true) ∧ J (pre ++ down ns f k) W' ∧ Kq w0.heap.size n1 W W' := by
  have hJ := hF.own (Nat.le_refl _)
  intro f
  induction f with
  | zero => intro k h; exact h.elim
  | succ f ih =>
    intro k hk n pre W hW hn1 hJW
    have hklt := hk.1
    have IH := (show Hid _ from ih)
    have HN := (show Hid (NodesAt w0 v ns) from hn)
    have HK := (show Hid (∀ x ∈ kidsOf ns k, 0 ≤ x ∧ deepOk ns f x.toNat) from hk.2)
    clear ih hn hk
    refine (callsIn_wide (n := n)).2 ((callsIn_wide (n := 5)).1 ?_)
    have hbox := tellBox_new A l W
    have b3 := (((Below.refl _ W).alloc (Nat.le_refl _) (.cells #[.pointer (some ⟨A, 0, none⟩)] 64)).alloc (by simp) (.cells #[.func (.yield l) #[] #[]] 80)).alloc (by simp; omega) (.cells #[.bool false] 4)
    have hJ3 : J pre _ := hJ.alloc (.cells #[.bool false] 4) (hJ.alloc (.cells #[.func (.yield l) #[] #[]] 80) (hJ.alloc (.cells #[.pointer (some ⟨A, 0, none⟩)] 64) hJW))
    obtain ⟨fn, tmps, assign, body, hy, hR⟩ := hY 4 pre (k : Int) _ hJ3
    have cY : (((W.alloc (.cells #[.pointer (some ⟨A, 0, none⟩)] 64)).alloc (.cells #[.func (.yield l) #[] #[]] 80)).alloc (.cells #[.bool false] 4)).cell? ⟨W.heap.size + 1, 0, none⟩ = some (.func (.yield l) #[] #[]) := by simp only [World.cell?, hbox.2.1]; rfl
    have HB := (show Hid (TellBox A l W.heap.size _) from hbox)
    have HB3 := (show Hid _ from b3)
    clear hbox b3 hJ3
    refine callsIn_of_wp_marks Tryz.func122 rfl trivial ?_ rfl
    simp only [Tryz.ntmps122, List.size_toArray, List.length_cons, List.length_nil, Nat.reduceAdd, Nat.reduceSub, Array.replicate_succ, Array.replicate_zero, List.push_toArray, List.append_toArray, List.nil_append, List.cons_append]
    gi_wp2
    refine hR.mono ?_
    rintro e W4 ⟨rfl, hJ4, hK4⟩
    have bx4 := HB.out.kq hK4 hn1
    have k4 : Kq w0.heap.size n1 W W4 := (Kq.of_below HB3.out).trans hK4
    have b4 : Below w0.heap.size w0 W4 := hW.trans (k4.below hW.size)
    have c4 : W4.cell? ⟨W.heap.size, 0, none⟩ = some (.pointer (some ⟨A, 0, none⟩)) := by simp only [World.cell?, bx4.1]; rfl
    have HX4 := (show Hid (TellBox A l W.heap.size W4) from bx4)
    have HK4 := (show Hid (Kq w0.heap.size n1 W W4) from k4)
    have HB4 := (show Hid (Below w0.heap.size w0 W4) from b4)
    have HJ4 := (show Hid (J (pre ++ [(k : Int)]) W4) from hJ4)
    have hlt4 := blk_lt bx4.2.2
    clear HB HB3 hK4 bx4 k4 b4 hJ4 cY hy hR
    gi_wp2
    refine ⟨trivial, (kids_in _ _ _ _).mono ?_⟩
    rintro e w' ⟨rfl, rfl⟩
    gi_wp2
    obtain ⟨W5, hW5⟩ : ∃ W5, W5 = (W4.alloc (.cells #[.pointer (some ⟨A, 0, none⟩)] 64)).alloc (.cells #[.int .i64 (k : Int)] 3) := ⟨_, rfl⟩
    have b5 : Below W4.heap.size W4 W5 := by rw [hW5]; exact ((Below.refl _ W4).alloc (Nat.le_refl _) _).alloc (by simp) _
    have sz5 : W5.heap.size = W4.heap.size + 2 := by rw [hW5]; simp
    have gY : W5.heap[W4.heap.size]? = some (.cells #[.pointer (some ⟨A, 0, none⟩)] 64 (0, 0)) := by
      rw [hW5, Below.heap_alloc _ _ _ (by simp)]
      exact World.alloc_heap_new _ _
    have gZ : W5.heap[W4.heap.size + 1]? = some (.cells #[.int .i64 (k : Int)] 3 (0, 0)) := by
      rw [hW5]
      have := World.alloc_heap_new (W4.alloc (.cells #[.pointer (some ⟨A, 0, none⟩)] 64)) (.cells #[.int .i64 (k : Int)] 3)
      rwa [World.size_alloc] at this
    have cY : W5.cell? ⟨W4.heap.size, 0, none⟩ = some (.pointer (some ⟨A, 0, none⟩)) := by simp only [World.cell?, gY]; rfl
    have cZ : W5.cell? ⟨W4.heap.size + 1, 0, none⟩ = some (.int .i64 (k : Int)) := by simp only [World.cell?, gZ]; rfl
    have hJ5 : J (pre ++ [(k : Int)]) W5 := by rw [hW5]; exact hJ.alloc _ (hJ.alloc _ HJ4.out)
    have k5 : Kq w0.heap.size n1 W W5 := HK4.out.trans (Kq.of_below b5)
    have bx5 : TellBox A l W.heap.size W5 := ⟨(b5.block _ (by omega)).trans HX4.out.1, (b5.block _ (by omega)).trans HX4.out.2.1, (b5.block _ (by omega)).trans HX4.out.2.2⟩
    have hbel : Below w0.heap.size w0 W5 := HB4.out.trans (b5.mono HB4.out.size)
    have hsz : W.heap.size ≤ W5.heap.size := k5.size
    have hle0 : w0.heap.size ≤ W.heap.size := hW.size
    rw [← hW5]
    refine wpIn_rangeFunc_ownF (F := Fence.wide) rfl (by omega) (gf := 158) (lb := #[.pointer (some ⟨W4.heap.size, 0, none⟩), .pointer (some ⟨W4.heap.size + 1, 0, none⟩)]) rfl trivial (enters_of Tryz.func158 (by kernel_rfl) rfl)
      (kids_stops (fun x : { x : Int // x ∈ kidsOf ns k } => x.1) 4 W4.heap.size (W4.heap.size + 1) A w0 W5 _ ns k hklt (kidsOf ns k).attach (by rw [List.attach_map_subtype_val, kidsOf_at hklt]) hlen HN.out hbel (by omega) (by omega) hA cY cZ cA)
      belowK_t (belowK_b hbel.size) (Below.refl _ _) (fun _ => rfl)
      (fun pre' Wq => J (pre ++ [(k : Int)] ++ (pre'.map (fun x => x.1)).flatMap (fun x => down ns f x.toNat)) Wq ∧ Kq w0.heap.size n1 W Wq ∧ TellBox A l W.heap.size Wq)
      (fun _ _ _ => False)
      ?hI (fun _ _ _ _ _ hs _ _ => hs) ⟨by simpa using hJ5, k5, bx5⟩
      (fun x => { tmps := #[.pointer (some ⟨A, 0, none⟩), .int .i64 (k : Int), .func (.yield l) #[] #[], .pointer (some ⟨W.heap.size, 0, none⟩), undef, .pointer (some ⟨W.heap.size + 1, 0, none⟩), .pointer (some ⟨W.heap.size + 1 + 1, 0, none⟩), .int .i64 x.1, .func (.yield l) #[] #[], .int .i64 (k : Int), .bool true, .bool false, .pointer (some ⟨A, 0, none⟩), .int .i64 (k : Int), .func (.func 158) #[] #[.pointer (some ⟨W4.heap.size, 0, none⟩), .pointer (some ⟨W4.heap.size + 1, 0, none⟩)], .int .i64 x.1, undef, undef, undef, undef, undef], defers := [] }) ?assign ?body ?done ?stop
    case hI =>
      intro pre' Wa Wb row hs hg hr
      exact ⟨hJ _ Wa Wb row hs.1 hg (fun r e => ⟨by have := (hr r e).1; omega, (hr r e).2⟩), hs.2.1.own hsz hg hr, hs.2.2.own hg hr⟩
    case assign =>
      intro l' x Wa K' hK'
      gi_wp2
      exact hK'
    case body =>
      rintro l' pre' x Wb ⟨hJb, hKb, hXb⟩ hlt
      have cb0 : Wb.cell? ⟨W.heap.size, 0, none⟩ = some (.pointer (some ⟨A, 0, none⟩)) := by simp only [World.cell?, hXb.1]; rfl
      have cb1 : Wb.cell? ⟨W.heap.size + 1, 0, none⟩ = some (.func (.yield l) #[] #[]) := by simp only [World.cell?, hXb.2.1]; rfl
      obtain ⟨x, hx⟩ := x
      obtain ⟨hx0, hdx⟩ := HK.out x hx
      obtain ⟨j, rfl⟩ : ∃ j : Nat, x = j := ⟨x.toNat, by omega⟩
      rw [show ((j : Int)).toNat = j by simp] at hdx
      have CC := (show Hid _ from IH.out j hdx 2 _ Wb (hW.trans (hKb.below hW.size)) (by have := hKb.size; omega) hJb)
      have HKb := (show Hid _ from hKb)
      have HXb := (show Hid (TellBox A l W.heap.size Wb) from hXb)
      clear hJb hKb hXb
      gi_wp2
      refine ⟨trivial, (CallsIn.inRound l' CC.out).mono ?_⟩
      rintro e Wc ⟨rfl, hJc, hKc⟩
      have hKc' := HKb.out.trans hKc
      have hXc := HXb.out.kq hKc hn1
      gi_wp2
      exact ⟨hKc.keeps, hKc.below (by have := HKb.out.size; omega), by simpa [List.flatMap_append, List.append_assoc] using hJc, hKc', hXc⟩
    case done =>
      rintro D ys Wd hD rfl ⟨hJd, hKd, hXd⟩ hDd
      have cR : Wd.cell? ⟨W.heap.size + 1 + 1, 0, none⟩ = some (.bool false) := by simp only [World.cell?, hXd.2.2]; rfl
      have fR : Wd.frozen? ⟨W.heap.size + 1 + 1, 0, none⟩ = false := by simp [World.frozen?, hXd.2.2]
      have hds : (Wd.setCell ⟨W.heap.size + 1 + 1, 0, none⟩ (.bool true)).heap[D]? = some (.deferred (some [])) := (KeepsOthers.setCell Wd ⟨W.heap.size + 1 + 1, 0, none⟩ (.bool true)).same D _ hDd rfl
      have gR := setCell_at (k := 0) (u := .bool true) hXd.2.2
      gi_wp2
      refine ⟨by simp, .inl ⟨_, _, rfl, run_takeDeferred hds, ?_⟩⟩
      have hne : W.heap.size + 1 + 1 ≠ D := fun e => by rw [← e, hXd.2.2] at hDd; cases hDd
      have gR' : ((Wd.setCell ⟨W.heap.size + 1 + 1, 0, none⟩ (.bool true)).putObj D (.deferred none)).heap[W.heap.size + 1 + 1]? = _ := (World.putObj_heap_other hne).trans gR
      have hc : ((Wd.setCell ⟨W.heap.size + 1 + 1, 0, none⟩ (.bool true)).putObj D (.deferred none)).cell? ⟨W.heap.size + 1 + 1, 0, none⟩ = some (.bool true) := by simp only [World.cell?, gR']; rfl
      refine ⟨.bool true, ?_, rfl, ?_, ?_⟩
      · simp [results, Tryz.f122, go_sem, hc]
      · have e1 : pre ++ [(k : Int)] ++ List.flatMap (fun x => down ns f x.toNat) (List.map (fun x => x.1) (kidsOf ns k).attach) = pre ++ down ns (f + 1) k := by
          rw [List.attach_map_subtype_val]; simp [down]
        rw [e1] at hJd
        exact hF _ _ _ (some D) (hF _ _ _ (some (W.heap.size + 1 + 1)) hJd (grown_setCell _ _ _ _) (fun r e => by cases e; omega)) (grownBy_putObj' _ _ _) (fun r e => by cases e; omega)
      · refine ⟨hKd.os, hKd.tape, hKd.output, ?_, fun j o hj ho => ?_⟩
        · have := hKd.size; simpa [World.setCell] using this
        · have hlt := blk_lt hj
          rw [World.putObj_heap_other (by omega), Below.heap_setCell Wd ⟨W.heap.size + 1 + 1, 0, none⟩ (.bool true) j (by show j ≠ W.heap.size + 1 + 1; omega)]
          exact hKd.same j o hj ho
    case stop =>
      rintro D c pre' Wd hD _ h _
      exact h.elim

set_option maxHeartbeats 400000 in
theorem from_in (n : Nat) (pa : Option Addr) (k : Int) (w : World) :
    CallsIn Fence.wide n Tryz.prog 75 #[.pointer pa, .int .i64 k] w fun e w' => e = .returned (.func (.func 121) #[] #[.pointer (some ⟨w.heap.size, 0, none⟩), .pointer (some ⟨w.heap.size + 1, 0, none⟩)]) ∧ w' = (w.alloc (.cells #[.pointer pa] 64)).alloc (.cells #[.int .i64 k] 3) := by
  refine callsIn_of_wp Tryz.func75 rfl trivial ?_ rfl
  simp only [Tryz.ntmps75, List.size_toArray, List.length_cons, List.length_nil, Nat.reduceAdd, Nat.reduceSub, Array.replicate_succ, Array.replicate_zero, List.push_toArray, List.append_toArray, List.nil_append, List.cons_append]
  gi_wp2
  go_ret
  exact ⟨rfl, rfl⟩

set_option maxHeartbeats 400000 in
theorem from_tells {w0 w : World} {v : Value} {ns : List PNode} {A Ba Bt f k : Nat} (hn : NodesAt w0 v ns) (hA : A < w0.heap.size) (cA : w0.cell? ⟨A, 0, none⟩ = some v) (hlen : ns.length ≤ 1048576) (hk : deepOk ns f k) (hw : Below w0.heap.size w0 w)
    (ca : w.cell? ⟨Ba, 0, none⟩ = some (.pointer (some ⟨A, 0, none⟩))) (ct : w.cell? ⟨Bt, 0, none⟩ = some (.int .i64 (k : Int))) (hBa : Ba < w.heap.size) (hBt : Bt < w.heap.size) :
    SeqTells Tryz.prog 121 #[.pointer (some ⟨Ba, 0, none⟩), .pointer (some ⟨Bt, 0, none⟩)] w0.heap.size (down ns f k) w := by
  intro n l n1 J W hW hn1 hF hY h0
  have hb : Below w0.heap.size w0 W := hw.trans (hW.mono hw.size)
  have CC := (show Hid _ from tellFrom_in hn hA cA hlen J hF hY f k hk 4 [] W hb hn1 h0)
  have ca' := (hW.cell (p := ⟨Ba, 0, none⟩) hBa).trans ca
  have ct' := (hW.cell (p := ⟨Bt, 0, none⟩) hBt).trans ct
  refine (callsIn_wide (n := n)).2 ((callsIn_wide (n := 5)).1 ?_)
  refine callsIn_of_wp Tryz.func121 rfl trivial ?_ rfl
  simp only [Tryz.ntmps121, List.size_toArray, List.length_cons, List.length_nil, Nat.reduceAdd, Nat.reduceSub, Array.replicate_succ, Array.replicate_zero, List.push_toArray, List.append_toArray, List.nil_append, List.cons_append]
  gi_wp2
  refine ⟨trivial, CallsIn.mono CC.out ?_⟩
  rintro e W' ⟨rfl, hJ', hK'⟩
  gi_wp2
  go_end0
  exact ⟨⟨_, rfl⟩, by simpa using hJ', hK'⟩
end Go.Proofs.YtogdbjafibejdaaGreat

/- The exact laws of AttrsOk, AttrOf and AttrsSame, walked from contracts of the program's functions. -/
namespace Go.Proofs.YtogdbjafibejdaaGreat
open Go.RowKit
set_option maxRecDepth 100000
set_option linter.unusedVariables false
end Go.Proofs.YtogdbjafibejdaaGreat

/- Tokens as plain values: what TokenOk says of one, and the program's helpers. -/
namespace Go.Proofs.YtogdbjafibejdaaGreat
open Go.RowKit
set_option maxRecDepth 100000
set_option linter.unusedVariables false
end Go.Proofs.YtogdbjafibejdaaGreat

/- The program's allReached, inside the fence. No condition. -/
namespace Go.Proofs.YtogdbjafibejdaaGreat
open Go.RowKit Go.Shelf
set_option maxRecDepth 100000
set_option linter.unusedVariables false
attribute [local go_sem] Oper.semAt_some

def cnt (z : Int) (pre : List Int) : Int := pre.foldl (fun s _ => wrap64 (s + 1)) z
theorem cnt_snoc (z : Int) (pre : List Int) (x : Int) : cnt z (pre ++ [x]) = wrap64 (cnt z pre + 1) := by simp [cnt]
theorem cnt_eq (c : Nat) (pre : List Int) (h : c + pre.length < 4611686018427387904) : cnt c pre = ((c + pre.length : Nat) : Int) := by
  induction pre generalizing c with
  | nil => rfl
  | cons x pre ih =>
    have e : wrap64 ((c : Int) + 1) = ((c + 1 : Nat) : Int) := by
      simp only [List.length_cons] at h
      have : ((c : Int) + 1) = ((c + 1 : Nat) : Int) := by omega
      rw [this]
      simp only [wrap64]; omega
    show cnt (wrap64 ((c : Int) + 1)) pre = _
    rw [e, ih (c + 1) (by simp only [List.length_cons] at h; omega)]
    simp only [List.length_cons]
    omega

structure ReachW (w : World) (ns : List PNode) (f k : Nat) (ds : List Nat) (W : World) : Prop where
  bR : W.heap[w.heap.size]? = some (.cells #[.int .i64 (reachN ns f k : Int)] 3 (0, 0))
  dd : ds.Nodup
  bD : ∀ d ∈ ds, w.heap.size ≤ d ∧ W.heap[d]? = some (.deferred (some []))
  bel : Below w.heap.size w W
def ReachInv (w : World) (A b off cap : Nat) (ns : List PNode) (f m : Nat) (a : Act) (W : World) : Prop :=
  ∃ (k : Nat) (ds : List Nat) (u4 u5 u12 u13 u14 u15 u16 u17 u18 u19 u20 u21 u22 u23 u24 u25 : Value), k + m = ns.length ∧ a = { tmps := #[.pointer (some ⟨A, 0, none⟩), undef, .bool false, .pointer (some ⟨w.heap.size, 0, none⟩), u4, u5, .pointer (some ⟨A, 0, none⟩), .pointer (some ⟨A, 0, none⟩), .pointer (some ⟨A, 0, none⟩), .slice (some ⟨b, off, none⟩) ns.length cap, .int .i64 (ns.length : Int), .int .i64 (k : Int), u12, u13, u14, u15, u16, u17, u18, u19, u20, u21, u22, u23, u24, u25, undef, undef, undef, undef, undef, undef, undef], defers := dmarks ds } ∧ ReachW w ns f k ds W

set_option maxHeartbeats 1000000 in
theorem allReached_any {w : World} {v : Value} {ns : List PNode} {A f : Nat} (hn : NodesAt w v ns) (hA : A < w.heap.size) (cA : w.cell? ⟨A, 0, none⟩ = some v) (hlen : ns.length ≤ 500) (h1 : 1 ≤ ns.length)
    (hdeep : ∀ k, k < ns.length → parOf ns k = -1 → deepOk ns f k) (htot : reachN ns f ns.length < 4611686018427387904) :
    Calls Tryz.prog 61 #[.pointer (some ⟨A, 0, none⟩)] w fun e w' => e = .returned (.bool (decide (reachN ns f ns.length = ns.length))) ∧ Below w.heap.size w w' := by
  have HN := (show Hid (NodesAt w v ns) from hn)
  obtain ⟨a, cap, rfl, hc1, hc2, hcs⟩ := hn.slice
  obtain ⟨b, off, _, _, rfl, hblt, _⟩ := hcs 0 h1
  have HCS := (show Hid (∀ k (hk : k < ns.length), ∃ av kv, Sv 2 w av (pairCells ns[k].attrs) ∧ Sl .i64 w kv ns[k].kids ∧ w.cell? ⟨b, off + k * 6, none⟩ = some (.int .i64 ns[k].kind) ∧ w.cell? ⟨b, off + k * 6 + 1, none⟩ = some (.string ns[k].name) ∧ w.cell? ⟨b, off + k * 6 + 2, none⟩ = some av ∧ w.cell? ⟨b, off + k * 6 + 3, none⟩ = some (.string ns[k].text) ∧ w.cell? ⟨b, off + k * 6 + 4, none⟩ = some (.int .i64 ns[k].parent) ∧ w.cell? ⟨b, off + k * 6 + 5, none⟩ = some kv) from fun k hk => by
    obtain ⟨_, _, av, kv, e, _, c0, c1, c2, c3, c4, c5, hav, hkv⟩ := hcs k hk
    cases e
    exact ⟨av, kv, hav, hkv, c0, c1, c2, c3, c4, c5⟩)
  have HDP := (show Hid _ from hdeep)
  clear hcs hn hdeep
  refine (callsIn_wide (n := 5)).1 ?_
  refine callsIn_of_wp_marks Tryz.func61 rfl trivial ?_ rfl
  simp only [Tryz.ntmps61, List.size_toArray, List.length_cons, List.length_nil, Nat.reduceAdd, Nat.reduceSub, Array.replicate_succ, Array.replicate_zero, List.push_toArray, List.append_toArray, List.nil_append, List.cons_append]
  obtain ⟨w3, hw3⟩ : ∃ w3, w3 = w.alloc (.cells #[.int .i64 0] 3) := ⟨_, rfl⟩
  have b3 : Below w.heap.size w w3 := by rw [hw3]; exact (Below.refl _ w).alloc (Nat.le_refl _) _
  have c3 : w3.cell? ⟨A, 0, none⟩ = some (.slice (some ⟨b, off, none⟩) ns.length cap) := (b3.cell (p := ⟨A, 0, none⟩) hA).trans cA
  have g0 : w3.heap[w.heap.size]? = some (.cells #[.int .i64 0] 3 (0, 0)) := by rw [hw3]; exact World.alloc_heap_new _ _
  have HG0 := (show Hid _ from g0)
  rw [hw3] at c3
  clear g0
  gi_wp2
  rw [← hw3]
  clear c3
  refine wpIn_loop_ghost_k (ReachInv w A b off cap ns f) ns.length ?start ?round
  case start =>
    exact ⟨0, [], undef, undef, undef, undef, undef, undef, undef, undef, undef, undef, undef, undef, undef, undef, undef, undef, by simp, rfl, ⟨HG0.out, List.nodup_nil, (fun d hd => by cases hd), b3⟩⟩
  case round =>
    clear HG0 b3 hw3
    rintro m a' W ⟨k, ds, u4, u5, u12, u13, u14, u15, u16, u17, u18, u19, u20, u21, u22, u23, u24, u25, hm, rfl, hW⟩ J K hJ hK
    have HJ := (show Hid _ from hJ)
    have HK := (show Hid _ from hK)
    have HW := (show Hid (ReachW w ns f k ds W) from hW)
    clear hJ hK hW
    by_cases hk : k < ns.length
    · obtain ⟨av, kv, hav, hkv, c0, c1, c2, c3, c4, c5⟩ := HCS.out k hk
      have hb := HW.out.bel
      replace c0 := (hb.cell (p := ⟨b, off + k * 6, none⟩) hblt).trans c0
      replace c1 := (hb.cell (p := ⟨b, off + k * 6 + 1, none⟩) hblt).trans c1
      replace c2 := (hb.cell (p := ⟨b, off + k * 6 + 2, none⟩) hblt).trans c2
      replace c3 := (hb.cell (p := ⟨b, off + k * 6 + 3, none⟩) hblt).trans c3
      replace c4 := (hb.cell (p := ⟨b, off + k * 6 + 4, none⟩) hblt).trans c4
      replace c5 := (hb.cell (p := ⟨b, off + k * 6 + 5, none⟩) hblt).trans c5
      obtain ⟨av1, av2, av3, rfl, _⟩ := hav
      obtain ⟨kv1, kv3, rfl, _⟩ := hkv
      have HPP : Hid (parOf ns k = ns[k].parent) := parOf_at hk
      obtain ⟨pk, hpk⟩ : ∃ pk, pk = ns[k].parent := ⟨_, rfl⟩
      rw [← hpk] at c4 HPP
      obtain ⟨k0, hk0⟩ : ∃ k0, k0 = ns[k].kind := ⟨_, rfl⟩
      obtain ⟨k1, hk1⟩ : ∃ k1, k1 = ns[k].name := ⟨_, rfl⟩
      obtain ⟨k3, hk3⟩ : ∃ k3, k3 = ns[k].text := ⟨_, rfl⟩
      obtain ⟨kl, hkl⟩ : ∃ kl, kl = ns[k].kids.length := ⟨_, rfl⟩
      rw [← hk0] at c0
      rw [← hk1] at c1
      rw [← hk3] at c3
      rw [← hkl] at c5
      clear hpk hk0 hk1 hk3 hkl hb
      by_cases hp : pk = -1
      · subst hp
        gi_wp2
        refine ⟨trivial, (from_in _ _ _ _).mono ?_⟩
        rintro e w' ⟨rfl, rfl⟩
        gi_wp2
        obtain ⟨W0, hW0⟩ : ∃ W0, W0 = W.alloc (.cells #[.int .i64 k0, .string k1, .slice av1 av2 av3, .string k3, .int .i64 (-1), .slice kv1 kl kv3] 36) := ⟨_, rfl⟩
        have b0 : Below W.heap.size W W0 := by rw [hW0]; exact (Below.refl _ W).alloc (Nat.le_refl _) _
        rw [← hW0]
        obtain ⟨W1, hW1⟩ : ∃ W1, W1 = (W0.alloc (.cells #[.pointer (some ⟨A, 0, none⟩)] 64)).alloc (.cells #[.int .i64 (k : Int)] 3) := ⟨_, rfl⟩
        have b01 : Below W0.heap.size W0 W1 := by rw [hW1]; exact ((Below.refl _ W0).alloc (Nat.le_refl _) _).alloc (by simp) _
        have sz1 : W1.heap.size = W0.heap.size + 2 := by rw [hW1]; simp
        have gY : W1.heap[W0.heap.size]? = some (.cells #[.pointer (some ⟨A, 0, none⟩)] 64 (0, 0)) := by
          rw [hW1, Below.heap_alloc _ _ _ (by simp)]
          exact World.alloc_heap_new _ _
        have gZ : W1.heap[W0.heap.size + 1]? = some (.cells #[.int .i64 (k : Int)] 3 (0, 0)) := by
          rw [hW1]
          have := World.alloc_heap_new (W0.alloc (.cells #[.pointer (some ⟨A, 0, none⟩)] 64)) (.cells #[.int .i64 (k : Int)] 3)
          rwa [World.size_alloc] at this
        have cY : W1.cell? ⟨W0.heap.size, 0, none⟩ = some (.pointer (some ⟨A, 0, none⟩)) := by simp only [World.cell?, gY]; rfl
        have cZ : W1.cell? ⟨W0.heap.size + 1, 0, none⟩ = some (.int .i64 (k : Int)) := by simp only [World.cell?, gZ]; rfl
        have b1 : Below W.heap.size W W1 := b0.trans (b01.mono b0.size)
        have hs0 : W0.heap.size = W.heap.size + 1 := by rw [hW0]; simp
        rw [hs0] at cY cZ sz1
        have hbel : Below w.heap.size w W1 := HW.out.bel.trans (b1.mono HW.out.bel.size)
        have hszW := b1.size
        have hRlt := blk_lt HW.out.bR
        rw [← hW1]
        refine wpIn_tells (w0 := W1) (n0 := w.heap.size) (all := down ns f k) (gf := 121) (lb := #[.pointer (some ⟨W.heap.size + 1, 0, none⟩), .pointer (some ⟨W.heap.size + 1 + 1, 0, none⟩)]) rfl (enters_of Tryz.func121 (by kernel_rfl) rfl)
          (from_tells (w := W1) HN.out hA cA (by omega) (HDP.out k hk (HPP.out)) hbel cY cZ (by omega) (by omega)) (Below.refl _ _) hbel.size
          (fun pre Wq => Wq.heap[w.heap.size]? = some (.cells #[.int .i64 (cnt (reachN ns f k : Int) pre)] 3 (0, 0)) ∧ (∀ d ∈ ds, w.heap.size ≤ d ∧ Wq.heap[d]? = some (.deferred (some []))) ∧ Below w.heap.size w Wq)
          ?hF ⟨(b1.block _ hRlt).trans HW.out.bR, fun d hd => ⟨(HW.out.bD d hd).1, (b1.block _ (blk_lt (HW.out.bD d hd).2)).trans (HW.out.bD d hd).2⟩, hbel⟩
          (fun x => { tmps := #[.pointer (some ⟨A, 0, none⟩), undef, .bool false, .pointer (some ⟨w.heap.size, 0, none⟩), .int .i64 (k : Int), .pointer (some ⟨W.heap.size, 0, none⟩), .pointer (some ⟨A, 0, none⟩), .pointer (some ⟨A, 0, none⟩), .pointer (some ⟨A, 0, none⟩), .slice (some ⟨b, off, none⟩) ns.length cap, .int .i64 (ns.length : Int), .int .i64 (k : Int), .bool true, .int .i64 (k : Int), .pointer (some ⟨b, off + k * 6, none⟩), .agg #[.int .i64 k0, .string k1, .slice av1 av2 av3, .string k3, .int .i64 (-1), .slice kv1 kl kv3], .pointer (some ⟨W.heap.size, 4, none⟩), .int .i64 (-1), .bool false, .pointer (some ⟨A, 0, none⟩), .int .i64 (k : Int), .func (.func 121) #[] #[.pointer (some ⟨W.heap.size + 1, 0, none⟩), .pointer (some ⟨W.heap.size + 1 + 1, 0, none⟩)], .int .i64 x, u23, u24, u25, undef, undef, undef, undef, undef, undef, undef], defers := [] }) ?assign ?body ?done
        case hF =>
          intro pre Wa Wb row hs hg hr
          exact ⟨blk_free hs.1 (by omega) hg hr, fun d hd => ⟨(hs.2.1 d hd).1, blk_free (hs.2.1 d hd).2 (by have := blk_lt (HW.out.bD d hd).2; omega) hg hr⟩, below_free hs.2.2 (Nat.le_refl _) hbel.size hg hr⟩
        case assign =>
          intro l m x Wa K' hK'
          gi_wp2
          exact hK'
        case body =>
          rintro l m pre x Wb ⟨hRb, hDb, hBb⟩
          have cR : Wb.cell? ⟨w.heap.size, 0, none⟩ = some (.int .i64 (cnt (reachN ns f k : Int) pre)) := by simp only [World.cell?, hRb]; rfl
          have fR : Wb.frozen? ⟨w.heap.size, 0, none⟩ = false := by simp [World.frozen?, hRb]
          have HRb := (show Hid _ from hRb)
          have HDb := (show Hid _ from hDb)
          have HCN : Hid (cnt (reachN ns f k : Int) (pre ++ [x]) = wrap64 (cnt (reachN ns f k : Int) pre + 1)) := cnt_snoc _ _ _
          obtain ⟨z, hz⟩ : ∃ z, z = cnt (reachN ns f k : Int) pre := ⟨_, rfl⟩
          rw [← hz] at cR HRb HCN
          clear hRb hDb hz
          gi_wp2
          have gR := setCell_at (k := 0) (u := .int .i64 (wrap64 (z + 1))) HRb.out
          refine ⟨⟨rfl, rfl, rfl, by simp [World.setCell], fun j o hj ho => ?_⟩, ?_, fun d hd => ⟨(HDb.out d hd).1, ?_⟩, hBb.setCell (p := ⟨w.heap.size, 0, none⟩) (Nat.le_refl _) _⟩
          · rw [Below.heap_setCell Wb ⟨w.heap.size, 0, none⟩ _ j (by
              show j ≠ w.heap.size
              rintro rfl
              rcases ho with ho | ho | ho
              · omega
              · omega
              · rw [HRb.out] at hj; cases hj; cases ho)]
            exact hj
          · rw [HCN.out]
            exact gR
          · exact (KeepsOthers.setCell Wb ⟨w.heap.size, 0, none⟩ _).same d _ (HDb.out d hd).2 rfl
        case done =>
          rintro D Wd hD ⟨hRd, hDd, hBd⟩ hKd hDD
          have hre : reachN ns f (k + 1) = reachN ns f k + (down ns f k).length := by simp [reachN, HPP.out]
          have hle := reachN_le (ns := ns) (f := f) (k := k + 1) (m := ns.length) (by omega)
          rw [cnt_eq _ _ (by omega), ← hre] at hRd
          have hnd : (D :: ds).Nodup := List.nodup_cons.mpr ⟨fun hm => by have := blk_lt (HW.out.bD D hm).2; omega, HW.out.dd⟩
          have HRd := (show Hid _ from hRd)
          clear hRd hre
          gi_wp2
          exact HK.out _ _ ⟨ns.length - (k + 1), by omega, HJ.out _ _ _ ⟨k + 1, D :: ds, _, _, _, _, _, _, _, _, _, _, _, _, _, _, _, _, by omega, rfl, ⟨HRd.out, hnd, fun d hd => by
            rcases List.mem_cons.mp hd with rfl | hd
            · exact ⟨by have := hbel.size; omega, hDD⟩
            · exact hDd d hd, hBd⟩⟩⟩
      · gi_wp2
        obtain ⟨W0, hW0⟩ : ∃ W0, W0 = W.alloc (.cells #[.int .i64 k0, .string k1, .slice av1 av2 av3, .string k3, .int .i64 pk, .slice kv1 kl kv3] 36) := ⟨_, rfl⟩
        have b0 : Below W.heap.size W W0 := by rw [hW0]; exact (Below.refl _ W).alloc (Nat.le_refl _) _
        rw [← hW0]
        have hre : reachN ns f (k + 1) = reachN ns f k := by simp [reachN, HPP.out, hp]
        exact HK.out _ _ ⟨ns.length - (k + 1), by omega, HJ.out _ _ _ ⟨k + 1, ds, _, _, _, _, _, _, _, _, _, _, _, _, _, _, _, _, by omega, rfl, ⟨by rw [hre]; exact (b0.block _ (blk_lt HW.out.bR)).trans HW.out.bR, HW.out.dd, fun d hd => ⟨(HW.out.bD d hd).1, (b0.block _ (blk_lt (HW.out.bD d hd).2)).trans (HW.out.bD d hd).2⟩, HW.out.bel.trans (b0.mono HW.out.bel.size)⟩⟩⟩
    · have hke : k = ns.length := by omega
      have cR : W.cell? ⟨w.heap.size, 0, none⟩ = some (.int .i64 (reachN ns f k : Int)) := by simp only [World.cell?, HW.out.bR]; rfl
      have cA' : W.cell? ⟨A, 0, none⟩ = some (.slice (some ⟨b, off, none⟩) ns.length cap) := (HW.out.bel.cell (p := ⟨A, 0, none⟩) hA).trans cA
      rw [hke] at cR
      gi_wp2
      gi_quiet (fail)
      gi_wp2
      refine leaves_dmarks (by simp) w.heap.size ds _ HW.out.dd HW.out.bD ?_
      intro w' bw kw
      have bq : Below w.heap.size w (W.drewN nq) := ⟨HW.out.bel.os, HW.out.bel.tape, HW.out.bel.output, HW.out.bel.size, HW.out.bel.block⟩
      refine ⟨_, results_tmp rfl _ _ _, ?_, bq.trans bw⟩
      exact ret_bool (by rw [Bool.eq_iff_iff, beq_iff_eq, decide_eq_true_iff]; omega)
end Go.Proofs.YtogdbjafibejdaaGreat
