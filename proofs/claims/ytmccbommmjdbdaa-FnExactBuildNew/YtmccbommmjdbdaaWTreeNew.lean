/- The exact law of TreeNew, walked. -/
import Derived.Test.YtmccbommmjdbdaaTree1
namespace Go.Proofs.Ytmccbommmjdbdaa
open Go.RowKit
set_option maxRecDepth 100000
set_option linter.unusedVariables false

set_option maxHeartbeats 1000000 in
theorem eqIntS_nil (w : World) : Calls Try.prog 30 #[.slice none 0 0, .slice none 0 0] w fun e w' => e = .returned (.bool true) ∧ w' = w := by
  go_enter Try.func30, Try.ntmps30
  go_wp2
  go_loop [5] (fun i => i = .int .i64 0) (fun _ => 0)
  case atStart => rfl
  case round =>
    subst hrel
    go_wp2
    go_ret
    exact ⟨rfl, rfl⟩
set_option maxHeartbeats 1000000 in
theorem eqAttrS_nil (w : World) : Calls Try.prog 86 #[.slice none 0 0, .slice none 0 0] w fun e w' => e = .returned (.bool true) ∧ w' = w := by
  go_enter Try.func86, Try.ntmps86
  go_wp2
  go_loop [5] (fun i => i = .int .i64 0) (fun _ => 0)
  case atStart => rfl
  case round =>
    subst hrel
    go_wp2
    go_ret
    exact ⟨rfl, rfl⟩
set_option maxHeartbeats 1000000 in
theorem markAttrS_nil (k0 : Int) (w : World) : Calls Try.prog 70 #[.slice none 0 0, .int .i64 k0] w fun e w' => e = .returned (.int .i64 k0) ∧ w' = w := by
  go_enter Try.func70, Try.ntmps70
  go_wp2
  go_loop [1, 5] (fun q i => i = .int .i64 0 ∧ q = .int .i64 k0) (fun _ _ => 0)
  case atStart => exact ⟨rfl, rfl⟩
  case round =>
    obtain ⟨rfl, rfl⟩ := hrel
    go_wp2
    go_ret
    exact ⟨rfl, rfl⟩
set_option maxHeartbeats 1000000 in
theorem heldAttrS_nil (k0 : Int) (w : World) : Calls Try.prog 71 #[.slice none 0 0, .int .i64 k0] w fun e w' => e = .returned (.int .i64 k0) ∧ w' = w := by
  go_enter Try.func71, Try.ntmps71
  go_wp2
  go_loop [1, 5] (fun q i => i = .int .i64 0 ∧ q = .int .i64 k0) (fun _ _ => 0)
  case atStart => exact ⟨rfl, rfl⟩
  case round =>
    obtain ⟨rfl, rfl⟩ := hrel
    go_wp2
    go_ret
    exact ⟨rfl, rfl⟩
set_option maxHeartbeats 1000000 in
theorem markIntS_nil (k0 : Int) (w : World) : Calls Try.prog 34 #[.slice none 0 0, .int .i64 k0] w fun e w' => e = .returned (.int .i64 k0) ∧ w' = w := by
  go_enter Try.func34, Try.ntmps34
  go_wp2
  go_loop [1, 5] (fun q i => i = .int .i64 0 ∧ q = .int .i64 k0) (fun _ _ => 0)
  case atStart => exact ⟨rfl, rfl⟩
  case round =>
    obtain ⟨rfl, rfl⟩ := hrel
    go_wp2
    go_ret
    exact ⟨rfl, rfl⟩
set_option maxHeartbeats 1000000 in
theorem heldIntS_nil (k0 : Int) (w : World) : Calls Try.prog 36 #[.slice none 0 0, .int .i64 k0] w fun e w' => e = .returned (.int .i64 k0) ∧ w' = w := by
  go_enter Try.func36, Try.ntmps36
  go_wp2
  go_loop [1, 5] (fun q i => i = .int .i64 0 ∧ q = .int .i64 k0) (fun _ _ => 0)
  case atStart => exact ⟨rfl, rfl⟩
  case round =>
    obtain ⟨rfl, rfl⟩ := hrel
    go_wp2
    go_ret
    exact ⟨rfl, rfl⟩

set_option maxHeartbeats 1000000 in
theorem eqNode_bare (k p : Int) (n t : ByteArray) (w : World) : Calls Try.prog 68 #[.agg #[.int .i64 k, .string n, .slice none 0 0, .string t, .int .i64 p, .slice none 0 0], .agg #[.int .i64 k, .string n, .slice none 0 0, .string t, .int .i64 p, .slice none 0 0]] w fun e w' =>
    e = .returned (.bool true) ∧ Below w.heap.size w w' := by
  go_enter Try.func68, Try.ntmps68
  go_wp2_with (first
    | (go_at_call 86; refine (eqAttrS_nil _).mono ?_; rintro e w' ⟨rfl, rfl⟩)
    | (go_at_call 30; refine (eqIntS_nil _).mono ?_; rintro e w' ⟨rfl, rfl⟩))
  go_ret
  exact ⟨rfl, ((Below.refl _ _).alloc (Nat.le_refl _) _).alloc (by simp) _⟩

/-- The six cells of a tree's only node. -/
theorem OneTree.cells {B : Nat} {w : World} {u : Value} {k p : Int} {n t : ByteArray} (h : OneTree B w u k p n t) : ∃ g cap, u = .agg #[.slice (some ⟨g, 0, none⟩) 1 cap] ∧ 1 ≤ cap ∧ cap ≤ maxLen ∧ B ≤ g ∧ g < w.heap.size ∧
    w.cell? ⟨g, 0, none⟩ = some (.int .i64 k) ∧ w.cell? ⟨g, 1, none⟩ = some (.string n) ∧ w.cell? ⟨g, 2, none⟩ = some (.slice none 0 0) ∧ w.cell? ⟨g, 3, none⟩ = some (.string t) ∧ w.cell? ⟨g, 4, none⟩ = some (.int .i64 p) ∧ w.cell? ⟨g, 5, none⟩ = some (.slice none 0 0) := by
  obtain ⟨g, cap, rfl, h1, h2, h3⟩ := h.slice
  have hc : 1 ≤ cap ∧ cap ≤ maxLen := by
    obtain ⟨_, ⟨e, _⟩ | ⟨g', c', cu, e1, _, _, e4, e5, _⟩⟩ := h3
    · cases e
    · cases e1; exact ⟨e4, e5⟩
  refine ⟨g, cap, rfl, hc.1, hc.2, h1, h2, ?_, ?_, ?_, ?_, ?_, ?_⟩
  all_goals rw [h3.cellAt _ (by decide)]; rfl

/-- They stay in every world in which nothing of w is turned. -/
theorem OneTree.wd {B : Nat} {w : World} {g cap : Nat} {k p : Int} {n t : ByteArray} (h : OneTree B w (.agg #[.slice (some ⟨g, 0, none⟩) 1 cap]) k p n t) : (∀ m : Wd w.heap.size w, m.w.cell? ⟨g, 0, none⟩ = some (.int .i64 k)) ∧ (∀ m : Wd w.heap.size w, m.w.cell? ⟨g, 1, none⟩ = some (.string n)) ∧ (∀ m : Wd w.heap.size w, m.w.cell? ⟨g, 2, none⟩ = some (.slice none 0 0)) ∧
    (∀ m : Wd w.heap.size w, m.w.cell? ⟨g, 3, none⟩ = some (.string t)) ∧ (∀ m : Wd w.heap.size w, m.w.cell? ⟨g, 4, none⟩ = some (.int .i64 p)) ∧ (∀ m : Wd w.heap.size w, m.w.cell? ⟨g, 5, none⟩ = some (.slice none 0 0)) := by
  obtain ⟨g', cg', e, _, _, _, lg, g0, g1, g2, g3, g4, g5⟩ := h.cells
  cases e
  exact ⟨fun m => (m.below.cell (p := ⟨g, 0, none⟩) lg).trans g0, fun m => (m.below.cell (p := ⟨g, 1, none⟩) lg).trans g1, fun m => (m.below.cell (p := ⟨g, 2, none⟩) lg).trans g2,
    fun m => (m.below.cell (p := ⟨g, 3, none⟩) lg).trans g3, fun m => (m.below.cell (p := ⟨g, 4, none⟩) lg).trans g4, fun m => (m.below.cell (p := ⟨g, 5, none⟩) lg).trans g5⟩

set_option maxHeartbeats 1000000 in
theorem eqNodeS_one {B C : Nat} {u v : Value} {k p : Int} {n t : ByteArray} {w : World} (hu : OneTree B w (.agg #[u]) k p n t) (hv : OneTree C w (.agg #[v]) k p n t) : Calls Try.prog 50 #[u, v] w fun e w' => e = .returned (.bool true) ∧ Below w.heap.size w w' := by
  obtain ⟨g, cg, e, _, _, _, lg, _⟩ := hu.cells
  cases e
  obtain ⟨h, ch, e, _, _, _, lh, _⟩ := hv.cells
  cases e
  obtain ⟨g0, g1, g2, g3, g4, g5⟩ := hu.wd
  obtain ⟨h0, h1, h2, h3, h4, h5⟩ := hv.wd
  have CC := (show Hid (∀ w, Calls Try.prog 68 #[.agg #[.int .i64 k, .string n, .slice none 0 0, .string t, .int .i64 p, .slice none 0 0], .agg #[.int .i64 k, .string n, .slice none 0 0, .string t, .int .i64 p, .slice none 0 0]] w fun e w' => e = .returned (.bool true) ∧ Below w.heap.size w w') from fun w => eqNode_bare k p n t w)
  have ne := Wd.any w.heap.size w
  clear hu hv
  go_enter Try.func50, Try.ntmps50
  go_wp2
  go_loopw [5] (fun i wr => (i = .int .i64 0 ∨ i = .int .i64 1) ∧ Below w.heap.size w wr) (fun i _ => 1 - (intOf i).toNat)
  case atStart => exact ⟨.inl rfl, Below.refl _ _⟩
  case round =>
    obtain ⟨rfl | rfl, hb⟩ := hrel
    · go_wp2
      refine wp_region_below (by kernel_rfl) (by kernel_rfl) hb ?_
      repeat (go_big_quiet_step ((go_at_call 68; exact quiet_below (CC.out _) (Nat.le_refl _))))
      refine wpQuiet_nil ?_
      intro wq hq
      replace hq := Wd.of hq
      go_wp2
      go_roundw
      case rel => exact ⟨.inr (by go_num), hq⟩
      case measure => simp [intOf]
    · go_wp2
      go_ret
      exact ⟨rfl, hb⟩

set_option maxHeartbeats 1000000 in
theorem eqTree_one {B C : Nat} {u v : Value} {k p : Int} {n t : ByteArray} {w : World} (hu : OneTree B w u k p n t) (hv : OneTree C w v k p n t) : Calls Try.prog 29 #[u, v] w fun e w' => e = .returned (.bool true) ∧ Below w.heap.size w w' := by
  have HU : Hid (OneTree B w u k p n t) := hu
  have HV : Hid (OneTree C w v k p n t) := hv
  obtain ⟨g, cg, rfl, _, _, _, lg, _⟩ := hu.cells
  obtain ⟨h, ch, rfl, _, _, _, lh, _⟩ := hv.cells
  clear hu hv
  have hal : Below w.heap.size w ((w.alloc (Obj.cells #[Value.slice (some { block := g, off := 0 }) 1 cg] 32)).alloc (Obj.cells #[Value.slice (some { block := h, off := 0 }) 1 ch] 32)) := ((Below.refl _ _).alloc (Nat.le_refl _) _).alloc (by simp) _
  have HAL := (show Hid _ from hal)
  clear hal
  go_enter Try.func29, Try.ntmps29
  go_wp2_with fail
  go_at_call 50
  refine (eqNodeS_one (HU.out.below HAL.out) (HV.out.below HAL.out)).mono ?_
  rintro e w2 ⟨rfl, b2⟩
  have HB := (show Hid _ from HAL.out.trans (b2.mono HAL.out.size))
  clear b2
  go_wp2
  go_ret
  exact ⟨rfl, HB.out⟩

set_option maxHeartbeats 1000000 in
theorem heldNodeS_one {B : Nat} {u : Value} {w : World} (hu : OneTree B w (.agg #[u]) 1 4 (mt 2) (mt 3)) : Calls Try.prog 54 #[u, .int .i64 1] w fun e w' => e = .returned (.int .i64 5) ∧ Below w.heap.size w w' := by
  obtain ⟨g, cg, e, _, _, _, lg, _⟩ := hu.cells
  cases e
  obtain ⟨g0, g1, g2, g3, g4, g5⟩ := hu.wd
  have ne := Wd.any w.heap.size w
  have CC := (show Hid (∀ w, Calls Try.prog 69 #[.int .i64 2] w fun e w' => e = .returned (.string (mt 2)) ∧ Below w.heap.size w w') from fun w => markText_any _ _ (by omega))
  have CD := (show Hid (∀ w, Calls Try.prog 69 #[.int .i64 3] w fun e w' => e = .returned (.string (mt 3)) ∧ Below w.heap.size w w') from fun w => markText_any _ _ (by omega))
  obtain ⟨m2, hm2⟩ : ∃ m, m = mt 2 := ⟨_, rfl⟩
  obtain ⟨m3, hm3⟩ : ∃ m, m = mt 3 := ⟨_, rfl⟩
  rw [← hm2] at g1 CC
  rw [← hm3] at g3 CD
  clear hu hm2 hm3
  go_enter Try.func54, Try.ntmps54
  go_wp2
  go_loopw [1, 5] (fun q i wr => (i = .int .i64 0 ∧ q = .int .i64 1 ∨ i = .int .i64 1 ∧ q = .int .i64 5) ∧ Below w.heap.size w wr) (fun _ i _ => 1 - (intOf i).toNat)
  case atStart => exact ⟨.inl ⟨rfl, rfl⟩, Below.refl _ _⟩
  case round =>
    obtain ⟨⟨rfl, rfl⟩ | ⟨rfl, rfl⟩, hb⟩ := hrel
    · have a0 : wr.cell? ⟨g, 0, none⟩ = some (.int .i64 1) := g0 ⟨wr, hb⟩
      go_wp2
      refine wp_region_below (by kernel_rfl) (by kernel_rfl) hb ?_
      repeat (go_big_quiet_step ((go_at_call 69; exact quiet_below (CC.out _) (Nat.le_refl _))))
      refine wpQuiet_nil ?_
      intro wq hq
      replace hq := Wd.of hq
      have a2 : wq.cell? ⟨g, 2, none⟩ = some (.slice none 0 0) := g2 ⟨wq, hq⟩
      go_wp2_with ((go_at_call 71; refine (heldAttrS_nil _ _).mono ?_; rintro e w' ⟨rfl, rfl⟩))
      refine wp_region_below (by kernel_rfl) (by kernel_rfl) hq ?_
      repeat (go_big_quiet_step ((go_at_call 69; exact quiet_below (CD.out _) (Nat.le_refl _))))
      refine wpQuiet_nil ?_
      intro wp hp
      replace hp := Wd.of hp
      have a4 : wp.cell? ⟨g, 4, none⟩ = some (.int .i64 4) := g4 ⟨wp, hp⟩
      have a5 : wp.cell? ⟨g, 5, none⟩ = some (.slice none 0 0) := g5 ⟨wp, hp⟩
      go_wp2_with ((go_at_call 36; refine (heldIntS_nil _ _).mono ?_; rintro e w' ⟨rfl, rfl⟩))
      go_roundw
      case rel => exact ⟨.inr ⟨by go_num, by go_num⟩, hp⟩
      case measure => simp [intOf]
    · go_wp2
      go_ret
      exact ⟨rfl, hb⟩

set_option maxHeartbeats 1000000 in
theorem heldTree_one {B : Nat} {u : Value} {w : World} (hu : OneTree B w u 1 4 (mt 2) (mt 3)) : Calls Try.prog 35 #[u, .int .i64 1] w fun e w' => e = .returned (.int .i64 5) ∧ Below w.heap.size w w' := by
  have HU : Hid (OneTree B w u 1 4 (mt 2) (mt 3)) := hu
  obtain ⟨g, cg, rfl, _, _, _, lg, _⟩ := hu.cells
  clear hu
  have hal : Below w.heap.size w (w.alloc (Obj.cells #[Value.slice (some { block := g, off := 0 }) 1 cg] 32)) := (Below.refl _ _).alloc (Nat.le_refl _) _
  have HAL := (show Hid _ from hal)
  clear hal
  go_enter Try.func35, Try.ntmps35
  go_wp2_with fail
  go_at_call 54
  refine (heldNodeS_one (HU.out.below HAL.out)).mono ?_
  rintro e w2 ⟨rfl, b2⟩
  have HB := (show Hid _ from HAL.out.trans (b2.mono HAL.out.size))
  clear b2
  go_wp2
  go_ret
  exact ⟨rfl, HB.out⟩

theorem row_below {B e size : Nat} {v : Value} {n : Nat} {xs : List Value} {w w' : World} (h : w.ownsRow B e size v n xs) (b : Below w.heap.size w w') : w'.ownsRow B e size v n xs := by
  obtain ⟨a1, a2 | ⟨g', c', cu', e1, e2, e3, e4⟩⟩ := h
  · exact ⟨a1, .inl a2⟩
  · exact ⟨a1, .inr ⟨g', c', cu', e1, e2, by rw [b.block g' (lt_of_block e3)]; exact e3, e4⟩⟩

set_option maxHeartbeats 1000000 in
theorem markNodeS_one {B : Nat} {g cap : Nat} {k p : Int} {n t : ByteArray} {w : World} (hu : w.ownsRow B 49 6 (.slice (some ⟨g, 0, none⟩) 1 cap) 1 (bareNode k p n t)) :
    Calls Try.prog 53 #[.slice (some ⟨g, 0, none⟩) 1 cap, .int .i64 1] w fun e w' => e = .returned (.int .i64 5) ∧ w'.ownsRow B 49 6 (.slice (some ⟨g, 0, none⟩) 1 cap) 1 (bareNode 1 4 (mt 2) (mt 3)) ∧ w.grownBy w' (some g) := by
  have HU : Hid (w.ownsRow B 49 6 (.slice (some ⟨g, 0, none⟩) 1 cap) 1 (bareNode k p n t)) := hu
  clear hu
  go_enter Try.func53, Try.ntmps53
  go_wp2
  go_loopw [1, 5] (fun q i wr => i = .int .i64 0 ∧ q = .int .i64 1 ∧ wr = w ∨ i = .int .i64 1 ∧ q = .int .i64 5 ∧ wr.ownsRow B 49 6 (.slice (some ⟨g, 0, none⟩) 1 cap) 1 (bareNode 1 4 (mt 2) (mt 3)) ∧ w.grownBy wr (some g)) (fun _ i _ => 1 - (intOf i).toNat)
  case atStart => exact .inl ⟨rfl, rfl, rfl⟩
  case round =>
    obtain ⟨rfl, rfl, hwr⟩ | ⟨rfl, rfl, ho, hg⟩ := hrel
    · have o0 : wr.ownsRow B 49 6 (.slice (some ⟨g, 0, none⟩) 1 cap) 1 (bareNode k p n t) := by rw [hwr]; exact HU.out
      have HW := (show Hid (wr = w) from hwr)
      clear hwr
      have c0 : wr.cell? ⟨g, 0, none⟩ = some (.int .i64 k) := o0.cellAt 0 (by decide)
      have f0 := o0.frozenAt 0
      have s0 : (wr.setCell ⟨g, 0, none⟩ (.int .i64 1)).ownsRow B 49 6 (.slice (some ⟨g, 0, none⟩) 1 cap) 1 (bareNode 1 p n t) ∧ _ := o0.stored 0 (.int .i64 1)
      have S0 := (show Hid _ from s0)
      clear s0 o0
      go_wp2_with fail
      go_at_call 69
      refine (markText_any _ _ (by omega)).mono ?_
      rintro e w2 ⟨rfl, b2⟩
      have o2 : w2.ownsRow B 49 6 (.slice (some ⟨g, 0, none⟩) 1 cap) 1 (bareNode 1 p n t) := row_below S0.out.1 b2
      have c2 : w2.cell? ⟨g, 1, none⟩ = some (.string n) := o2.cellAt 1 (by decide)
      have f2 := o2.frozenAt 1
      have s2 : (w2.setCell ⟨g, 1, none⟩ (.string (mt 2))).ownsRow B 49 6 (.slice (some ⟨g, 0, none⟩) 1 cap) 1 (bareNode 1 p (mt 2) t) ∧ _ := o2.stored 1 (.string (mt 2))
      have d2 : (w2.setCell ⟨g, 1, none⟩ (.string (mt 2))).cell? ⟨g, 2, none⟩ = some (.slice none 0 0) := s2.1.cellAt 2 (by decide)
      have S2 := (show Hid _ from s2)
      have B2 := (show Hid _ from b2)
      clear s2 o2 b2
      go_wp2_with ((go_at_call 70; refine (markAttrS_nil _ _).mono ?_; rintro e w' ⟨rfl, rfl⟩))
      go_at_call 69
      refine (markText_any _ _ (by omega)).mono ?_
      rintro e w3 ⟨rfl, b3⟩
      have o3 : w3.ownsRow B 49 6 (.slice (some ⟨g, 0, none⟩) 1 cap) 1 (bareNode 1 p (mt 2) t) := row_below S2.out.1 b3
      have c3 : w3.cell? ⟨g, 3, none⟩ = some (.string t) := o3.cellAt 3 (by decide)
      have f3 := o3.frozenAt 3
      have s3 : (w3.setCell ⟨g, 3, none⟩ (.string (mt 3))).ownsRow B 49 6 (.slice (some ⟨g, 0, none⟩) 1 cap) 1 (bareNode 1 p (mt 2) (mt 3)) ∧ _ := o3.stored 3 (.string (mt 3))
      have c4 : (w3.setCell ⟨g, 3, none⟩ (.string (mt 3))).cell? ⟨g, 4, none⟩ = some (.int .i64 p) := s3.1.cellAt 4 (by decide)
      have f4 := s3.1.frozenAt 4
      have s4 : ((w3.setCell ⟨g, 3, none⟩ (.string (mt 3))).setCell ⟨g, 4, none⟩ (.int .i64 4)).ownsRow B 49 6 (.slice (some ⟨g, 0, none⟩) 1 cap) 1 (bareNode 1 4 (mt 2) (mt 3)) ∧ _ := s3.1.stored 4 (.int .i64 4)
      have d4 : ((w3.setCell ⟨g, 3, none⟩ (.string (mt 3))).setCell ⟨g, 4, none⟩ (.int .i64 4)).cell? ⟨g, 5, none⟩ = some (.slice none 0 0) := s4.1.cellAt 5 (by decide)
      have S3 := (show Hid _ from s3)
      have S4 := (show Hid _ from s4)
      have B3 := (show Hid _ from b3)
      clear s3 s4 o3 b3
      go_wp2_with ((go_at_call 34; refine (markIntS_nil _ _).mono ?_; rintro e w' ⟨rfl, rfl⟩))
      go_roundw
      case rel =>
        have hw := HW.out
        subst hw
        exact .inr ⟨by go_num, by go_num, S4.out.1, grown_trans (grown_trans (grown_below (grown_trans (grown_below S0.out.2 B2.out) S2.out.2) B3.out) S3.out.2) S4.out.2⟩
      case measure => simp [intOf]
    · go_wp2
      go_ret
      exact ⟨rfl, ho, hg⟩

set_option maxHeartbeats 1000000 in
theorem markTree_one {B : Nat} {g cap : Nat} {k p : Int} {n t : ByteArray} {w : World} (hu : w.ownsRow B 49 6 (.slice (some ⟨g, 0, none⟩) 1 cap) 1 (bareNode k p n t)) :
    Calls Try.prog 33 #[.agg #[.slice (some ⟨g, 0, none⟩) 1 cap], .int .i64 1] w fun e w' => e = .returned (.int .i64 5) ∧ w'.ownsRow B 49 6 (.slice (some ⟨g, 0, none⟩) 1 cap) 1 (bareNode 1 4 (mt 2) (mt 3)) ∧ w.grownBy w' (some g) := by
  have hal : Below w.heap.size w (w.alloc (Obj.cells #[Value.slice (some { block := g, off := 0 }) 1 cap] 32)) := (Below.refl _ _).alloc (Nat.le_refl _) _
  have HU := (show Hid _ from row_below hu hal)
  have HAL := (show Hid _ from hal)
  clear hal hu
  go_enter Try.func33, Try.ntmps33
  go_wp2_with fail
  go_at_call 53
  refine (markNodeS_one HU.out).mono ?_
  rintro e w2 ⟨rfl, o2, g2⟩
  have HO := (show Hid _ from o2)
  have HG := (show Hid _ from g2)
  clear o2 g2
  go_wp2
  go_ret
  exact ⟨rfl, HO.out, grown_trans (below_by g HAL.out) HG.out⟩

theorem box_cell {w : World} {b : Nat} {s : Value} {t : TypeId} (h : w.heap[b]? = some (.cells #[s] t (0, 0))) : w.cell? ⟨b, 0, none⟩ = some s := by simp only [World.cell?, h]; rfl
theorem row_grown {B e size : Nat} {g1 n cap : Nat} {xs : List Value} {w w' : World} {g : Nat} (h : w.ownsRow B e size (.slice (some ⟨g1, 0, none⟩) n cap) n xs) (b : w.grownBy w' (some g)) (hne : g1 ≠ g) : w'.ownsRow B e size (.slice (some ⟨g1, 0, none⟩) n cap) n xs := by
  obtain ⟨a1, a2 | ⟨g', c', cu', e1, e2, e3, e4⟩⟩ := h
  · exact ⟨a1, .inl a2⟩
  · cases e1
    exact ⟨a1, .inr ⟨g1, cap, cu', rfl, e2, (b.block g1 (lt_of_block e3) (fun e => by injection e with e; exact hne e)).trans e3, e4⟩⟩

end Go.Proofs.Ytmccbommmjdbdaa
