/- Contracts of the laws' marks of a disk. No condition. -/
import Derived.Test.YtdhnoaajdjkddaaHelpD
namespace Go.Proofs.Ytdhnoaajdjkddaa
open Go.RowKit
set_option maxRecDepth 100000
set_option linter.unusedVariables false

/-- The marks that are laid over a list of texts, from k on. -/
def markStrs (k : Int) (n : Nat) : List ByteArray := (List.range n).map fun i : Nat => mt (k + (i : Int))
theorem markStrs_len (k : Int) (n : Nat) : (markStrs k n).length = n := by simp [markStrs]
theorem markStrs_at (k : Int) (n i : Nat) (h : i < (markStrs k n).length) : (markStrs k n)[i] = mt (k + (i : Int)) := by simp [markStrs]
theorem markStrs_succ (k : Int) (rs : List ByteArray) (i : Nat) (h : i < rs.length) : (markStrs k i ++ rs.drop i).set i (mt (k + (i : Int))) = markStrs k (i + 1) ++ rs.drop (i + 1) := by
  rw [List.set_append_right _ _ (by rw [markStrs_len]; exact Nat.le_refl _), markStrs_len, Nat.sub_self, List.drop_eq_getElem_cons h, List.set_cons_zero]
  simp [markStrs, List.range_succ]
/-- The marks that are laid over a list of puts, from k on. -/
def markPuts (k : Int) (n : Nat) : List (Int × ByteArray) := (List.range n).map fun i : Nat => (k + 2 * (i : Int), mt (k + 2 * (i : Int) + 1))
theorem markPuts_len (k : Int) (n : Nat) : (markPuts k n).length = n := by simp [markPuts]
theorem markPuts_at (k : Int) (n i : Nat) (h : i < (markPuts k n).length) : (markPuts k n)[i] = (k + 2 * (i : Int), mt (k + 2 * (i : Int) + 1)) := by simp [markPuts]
theorem markPuts_succ (k : Int) (rs : List (Int × ByteArray)) (i : Nat) (h : i < rs.length) :
    (markPuts k i ++ rs.drop i).set i (k + 2 * (i : Int), mt (k + 2 * (i : Int) + 1)) = markPuts k (i + 1) ++ rs.drop (i + 1) := by
  rw [List.set_append_right _ _ (by rw [markPuts_len]; exact Nat.le_refl _), markPuts_len, Nat.sub_self, List.drop_eq_getElem_cons h, List.set_cons_zero]
  simp [markPuts, List.range_succ]

set_option maxHeartbeats 2000000 in
set_option maxRecDepth 100000 in
theorem markStringS_any {B : Nat} {v : Value} {rs : List ByteArray} {w : World} (h : w.ownsRow B 9 1 v rs.length (strCells rs)) (k0 : Int) (h0 : 0 ≤ k0) (hk : k0 ≤ 4000000) (hn : rs.length ≤ 4000000) :
    Calls Try.prog 60 #[v, .int .i64 k0] w fun e w' => e = .returned (.int .i64 (k0 + rs.length)) ∧ w'.ownsRow B 9 1 v rs.length (strCells (markStrs k0 rs.length)) ∧ w.grownBy w' v.ownBlock := by
  have h' := h
  obtain ⟨hl, ⟨hv, hz⟩ | ⟨g, cap, cur, hv, hB, hh, hn', hm, hz, ht⟩⟩ := h'
  · subst hv
    have hr : rs = [] := List.length_eq_zero_iff.mp hz
    subst hr
    go_enter Try.func60, Try.ntmps60
    go_wp2
    go_loop [1, 5] (fun q i => i = .int .i64 0 ∧ q = .int .i64 k0) (fun _ _ => 0)
    case atStart => exact ⟨rfl, rfl⟩
    case round =>
      obtain ⟨rfl, rfl⟩ := hrel
      go_wp2
      go_ret
      exact ⟨ret_int (by simp), h, World.grownBy.refl _ _⟩
  · subst hv
    clear hh ht hz hl
    go_enter Try.func60, Try.ntmps60
    go_wp2
    go_loopw [1, 5] (fun q i wr => ∃ k : Nat, k ≤ rs.length ∧ i = .int .i64 k ∧ q = .int .i64 (k0 + k) ∧ wr.ownsRow B 9 1 (.slice (some ⟨g, 0, none⟩) rs.length cap) rs.length (strCells (markStrs k0 k ++ rs.drop k)) ∧ w.grownBy wr (some g)) (fun _ i _ => rs.length - (intOf i).toNat)
    case atStart => exact ⟨0, Nat.zero_le _, rfl, by go_num, h, World.grownBy.refl _ _⟩
    case round =>
      clear h
      obtain ⟨k, hk', rfl, rfl, hown, hgr⟩ := hrel
      by_cases hlt : k < rs.length
      · have HO := (show Hid _ from hown)
        have HG := (show Hid _ from hgr)
        clear hown hgr
        go_wp2_with fail
        go_at_call 76
        refine (markText_any _ _ (by omega)).mono ?_
        rintro e w2 ⟨rfl, b2⟩
        have hlen : (markStrs k0 k ++ rs.drop k).length = rs.length := by simp [markStrs_len]; omega
        have o2 := ownsRow_below HO.out b2
        have hl2 := strCells_len (markStrs k0 k ++ rs.drop k)
        obtain ⟨z1, hc1⟩ : ∃ z, w2.cell? ⟨g, k, none⟩ = some z := by
          rw [o2.cellAt k (by omega)]; exact ⟨_, List.getElem?_eq_getElem (by omega)⟩
        have f1 := o2.frozenAt k
        have s1 := o2.stored k (.string (mt (k0 + k)))
        rw [strCells_set, markStrs_succ k0 rs k hlt] at s1
        have S1 := (show Hid _ from s1)
        clear s1 o2
        go_wp2
        go_roundw
        case rel => exact ⟨k + 1, by omega, by go_num, by go_num, S1.out.1, grown_trans (grown_below HG.out b2) S1.out.2⟩
        case measure => simp [intOf]; omega
      · go_wp2
        go_ret
        have hke : k = rs.length := by omega
        rw [hke, List.drop_length, List.append_nil] at hown
        exact ⟨ret_int (by rw [hke]), hown, hgr⟩

set_option maxHeartbeats 2000000 in
set_option maxRecDepth 100000 in
theorem heldStringS_any {v : Value} {n : Nat} {w : World} (k0 : Int) (h : Sv 1 w v (strCells (markStrs k0 n))) (h0 : 0 ≤ k0) (hk : k0 ≤ 4000000) (hn : n ≤ 4000000) :
    Calls Try.prog 62 #[v, .int .i64 k0] w fun e w' => e = .returned (.int .i64 (k0 + n)) ∧ Below w.heap.size w w' := by
  obtain ⟨a, ca, rfl, _, _, hca⟩ := h.str
  have hlen := markStrs_len k0 n
  rw [hlen]
  go_enter Try.func62, Try.ntmps62
  go_wp2
  go_loopw [1, 5] (fun q i wr => ∃ k : Nat, k ≤ n ∧ i = .int .i64 k ∧ q = .int .i64 (k0 + k) ∧ Below w.heap.size w wr) (fun _ i _ => n - (intOf i).toNat)
  case atStart => exact ⟨0, Nat.zero_le _, rfl, by go_num, Below.refl _ _⟩
  case round =>
    obtain ⟨k, hk', rfl, rfl, bel⟩ := hrel
    by_cases hlt : k < n
    · obtain ⟨b1, o1, rfl, l1, c1⟩ := hca k (by omega)
      rw [markStrs_at] at c1
      have g1 : ∀ m : Wd w.heap.size w, m.w.cell? ⟨b1, o1 + k, none⟩ = some (.string (mt (k0 + k))) := fun m => (m.below.cell (p := ⟨b1, o1 + k, none⟩) l1).trans c1
      have CC := (show Hid (∀ w, Calls Try.prog 76 #[.int .i64 (k0 + k)] w fun e w' => e = .returned (.string (mt (k0 + k))) ∧ Below w.heap.size w w') from fun w => markText_any _ _ (by omega))
      have ne := Wd.any w.heap.size w
      clear c1 hca
      go_wp2
      refine wp_region_below (by kernel_rfl) (by kernel_rfl) bel ?_
      repeat (go_big_quiet_step ((go_at_call 76; exact quiet_below (CC.out _) (Nat.le_refl _))))
      refine wpQuiet_nil ?_
      intro wq hq
      replace hq := Wd.of hq
      clear g1
      go_wp2
      go_roundw
      case rel => exact ⟨k + 1, by omega, by go_num, by go_num, hq⟩
      case measure => simp [intOf]; omega
    · have hke : k = n := by omega
      go_wp2
      go_ret
      exact ⟨ret_int (by rw [hke]), bel⟩

set_option maxHeartbeats 2000000 in
set_option maxRecDepth 100000 in
theorem markPutS_any {B : Nat} {v : Value} {rs : List (Int × ByteArray)} {w : World} (h : w.ownsRow B 37 2 v rs.length (putCells rs)) (k0 : Int) (h0 : 0 ≤ k0) (hk : k0 ≤ 4000000) (hn : rs.length ≤ 4000000) :
    Calls Try.prog 61 #[v, .int .i64 k0] w fun e w' => e = .returned (.int .i64 (k0 + 2 * rs.length)) ∧ w'.ownsRow B 37 2 v rs.length (putCells (markPuts k0 rs.length)) ∧ w.grownBy w' v.ownBlock := by
  have h' := h
  obtain ⟨hl, ⟨hv, hz⟩ | ⟨g, cap, cur, hv, hB, hh, hn', hm, hz, ht⟩⟩ := h'
  · subst hv
    have hr : rs = [] := List.length_eq_zero_iff.mp hz
    subst hr
    go_enter Try.func61, Try.ntmps61
    go_wp2
    go_loop [1, 5] (fun q i => i = .int .i64 0 ∧ q = .int .i64 k0) (fun _ _ => 0)
    case atStart => exact ⟨rfl, rfl⟩
    case round =>
      obtain ⟨rfl, rfl⟩ := hrel
      go_wp2
      go_ret
      exact ⟨ret_int (by simp), h, World.grownBy.refl _ _⟩
  · subst hv
    clear hh ht hz hl
    go_enter Try.func61, Try.ntmps61
    go_wp2
    go_loopw [1, 5] (fun q i wr => ∃ k : Nat, k ≤ rs.length ∧ i = .int .i64 k ∧ q = .int .i64 (k0 + 2 * k) ∧ wr.ownsRow B 37 2 (.slice (some ⟨g, 0, none⟩) rs.length cap) rs.length (putCells (markPuts k0 k ++ rs.drop k)) ∧ w.grownBy wr (some g)) (fun _ i _ => rs.length - (intOf i).toNat)
    case atStart => exact ⟨0, Nat.zero_le _, rfl, by go_num, h, World.grownBy.refl _ _⟩
    case round =>
      clear h
      obtain ⟨k, hk', rfl, rfl, hown, hgr⟩ := hrel
      by_cases hlt : k < rs.length
      · have hlen : (markPuts k0 k ++ rs.drop k).length = rs.length := by simp [markPuts_len]; omega
        have hl2 := putCells_len (markPuts k0 k ++ rs.drop k)
        obtain ⟨z1, hc1⟩ : ∃ z, wr.cell? ⟨g, k * 2, none⟩ = some z := by
          rw [hown.cellAt (k * 2) (by omega)]; exact ⟨_, List.getElem?_eq_getElem (by omega)⟩
        have f1 := hown.frozenAt (k * 2)
        have S1 := (show Hid _ from hown.stored (k * 2) (.int .i64 (k0 + 2 * k)))
        have HG := (show Hid _ from hgr)
        clear hown hgr
        go_wp2_with fail
        go_at_call 76
        refine (markText_any _ _ (by omega)).mono ?_
        rintro e w2 ⟨rfl, b2⟩
        have o2 := ownsRow_below S1.out.1 b2
        obtain ⟨z2, hc2⟩ : ∃ z, w2.cell? ⟨g, k * 2 + 1, none⟩ = some z := by
          rw [o2.cellAt (k * 2 + 1) (by omega)]; exact ⟨_, List.getElem?_eq_getElem (by rw [List.length_set]; omega)⟩
        have f2 := o2.frozenAt (k * 2 + 1)
        have s2 := o2.stored (k * 2 + 1) (.string (mt (k0 + 2 * k + 1)))
        rw [putCells_set _ _ _ _ (by omega), markPuts_succ k0 rs k hlt] at s2
        have S2 := (show Hid _ from s2)
        clear s2 o2
        go_wp2
        go_roundw
        case rel => exact ⟨k + 1, by omega, by go_num, by go_num, S2.out.1, grown_trans (grown_below (grown_trans HG.out S1.out.2) b2) S2.out.2⟩
        case measure => simp [intOf]; omega
      · go_wp2
        go_ret
        have hke : k = rs.length := by omega
        rw [hke, List.drop_length, List.append_nil] at hown
        exact ⟨ret_int (by rw [hke]), hown, hgr⟩

set_option maxHeartbeats 2000000 in
set_option maxRecDepth 100000 in
theorem heldPutS_any {v : Value} {n : Nat} {w : World} (k0 : Int) (h : Sv 2 w v (putCells (markPuts k0 n))) (h0 : 0 ≤ k0) (hk : k0 ≤ 4000000) (hn : n ≤ 4000000) :
    Calls Try.prog 63 #[v, .int .i64 k0] w fun e w' => e = .returned (.int .i64 (k0 + 2 * n)) ∧ Below w.heap.size w w' := by
  obtain ⟨a, ca, rfl, _, _, hca⟩ := h.put
  have hlen := markPuts_len k0 n
  rw [hlen]
  go_enter Try.func63, Try.ntmps63
  go_wp2
  go_loopw [1, 5] (fun q i wr => ∃ k : Nat, k ≤ n ∧ i = .int .i64 k ∧ q = .int .i64 (k0 + 2 * k) ∧ Below w.heap.size w wr) (fun _ i _ => n - (intOf i).toNat)
  case atStart => exact ⟨0, Nat.zero_le _, rfl, by go_num, Below.refl _ _⟩
  case round =>
    obtain ⟨k, hk', rfl, rfl, bel⟩ := hrel
    by_cases hlt : k < n
    · obtain ⟨b1, o1, rfl, l1, c1, c2⟩ := hca k (by omega)
      rw [markPuts_at] at c1 c2
      simp only at c1 c2
      have d1 : wr.cell? ⟨b1, o1 + k * 2, none⟩ = some (.int .i64 (k0 + 2 * k)) := (bel.cell (p := ⟨b1, o1 + k * 2, none⟩) l1).trans c1
      have g2 : ∀ m : Wd w.heap.size w, m.w.cell? ⟨b1, o1 + k * 2 + 1, none⟩ = some (.string (mt (k0 + 2 * k + 1))) := fun m => (m.below.cell (p := ⟨b1, o1 + k * 2 + 1, none⟩) l1).trans c2
      have CD := (show Hid (∀ w, Calls Try.prog 76 #[.int .i64 (k0 + 2 * k + 1)] w fun e w' => e = .returned (.string (mt (k0 + 2 * k + 1))) ∧ Below w.heap.size w w') from fun w => markText_any _ _ (by omega))
      have ne := Wd.any w.heap.size w
      clear c1 c2 hca
      go_wp2
      refine wp_region_below (by kernel_rfl) (by kernel_rfl) bel ?_
      repeat (go_big_quiet_step ((go_at_call 76; exact quiet_below (CD.out _) (Nat.le_refl _))))
      refine wpQuiet_nil ?_
      intro wq2 hq2
      replace hq2 := Wd.of hq2
      go_wp2
      go_roundw
      case rel => exact ⟨k + 1, by omega, by go_num, by go_num, hq2⟩
      case measure => simp [intOf]; omega
    · have hke : k = n := by omega
      go_wp2
      go_ret
      exact ⟨ret_int (by rw [hke]), bel⟩

/-- Nothing is turned but the two blocks. -/
structure TwoFr (r s : Option Nat) (w w' : World) : Prop where
  os : w'.os = w.os
  tape : w'.tape = w.tape
  output : w'.output = w.output
  size : w.heap.size ≤ w'.heap.size
  block : ∀ j, j < w.heap.size → some j ≠ r → some j ≠ s → w'.heap[j]? = w.heap[j]?
theorem TwoFr.below {r s : Option Nat} {B : Nat} {w w' : World} (h : TwoFr r s w w') (hB : B ≤ w.heap.size) (hr : ∀ j, r = some j → B ≤ j) (hs : ∀ j, s = some j → B ≤ j) : Below B w w' :=
  ⟨h.os, h.tape, h.output, h.size, fun j hj => h.block j (by omega) (fun e => by have := hr j e.symm; omega) (fun e => by have := hs j e.symm; omega)⟩
theorem TwoFr.row {r s : Option Nat} {B e size n : Nat} {w w' : World} {v : Value} {xs : List Value} (h : TwoFr r s w w') (ho : w.ownsRow B e size v n xs) (hr : ∀ j, v.ownBlock = some j → some j ≠ r) (hs : ∀ j, v.ownBlock = some j → some j ≠ s) : w'.ownsRow B e size v n xs := by
  obtain ⟨hl, hv | ⟨g, cap, cur, hv, hB, hh, k⟩⟩ := ho
  · exact ⟨hl, .inl hv⟩
  · have hg : v.ownBlock = some g := by rw [hv]; rfl
    exact ⟨hl, .inr ⟨g, cap, cur, hv, hB, by rw [h.block g (lt_of_block hh) (hr g hg) (hs g hg)]; exact hh, k⟩⟩

set_option maxHeartbeats 2000000 in
set_option maxRecDepth 100000 in
theorem markDisk_any {B : Nat} {d : PDisk} {w : World} {sa : Option Addr} {sn sc : Nat} {la : Option Addr} {ln lc : Nat} (h1 : w.ownsRow B 9 1 (.slice sa sn sc) d.safe.length (strCells d.safe)) (h2 : w.ownsRow B 37 2 (.slice la ln lc) d.late.length (putCells d.late)) (hf : DiskFit d) :
    Calls Try.prog 28 #[.agg #[.slice sa sn sc, .slice la ln lc], .int .i64 1] w fun e w' => e = .returned (.int .i64 (1 + d.safe.length + 2 * d.late.length)) ∧ w'.ownsRow B 9 1 (.slice sa sn sc) d.safe.length (strCells (markStrs 1 d.safe.length)) ∧ w'.ownsRow B 37 2 (.slice la ln lc) d.late.length (putCells (markPuts (1 + d.safe.length) d.late.length)) ∧
      TwoFr (Value.slice sa sn sc).ownBlock (Value.slice la ln lc).ownBlock w w' := by
  have f1 := hf.sl
  have f2 := hf.ll
  have H1 := (show Hid (w.ownsRow B 9 1 (.slice sa sn sc) d.safe.length (strCells d.safe)) from h1)
  have H2 := (show Hid (w.ownsRow B 37 2 (.slice la ln lc) d.late.length (putCells d.late)) from h2)
  clear h1 h2 hf
  obtain ⟨w1, hw1⟩ : ∃ x, x = w.alloc (.cells #[.slice sa sn sc, .slice la ln lc] 27) := ⟨_, rfl⟩
  have b1 : Below w.heap.size w w1 := by rw [hw1]; exact (Below.refl _ _).alloc (Nat.le_refl _) _
  have x1 : w1.heap[w.heap.size]? = some (.cells #[.slice sa sn sc, .slice la ln lc] 27 (0, 0)) := by rw [hw1]; exact World.alloc_heap_new _ _
  have X1 := (show Hid _ from x1)
  clear x1
  go_enter Try.func28, Try.ntmps28
  go_wp2_with fail
  go_at_call 60
  rw [← hw1]
  refine (markStringS_any (ownsRow_below H1.out b1) 1 (by decide) (by decide) (by omega)).mono ?_
  rintro x w2 ⟨rfl, o2, g2⟩
  clear hw1
  have hne : some w.heap.size ≠ (Value.slice sa sn sc).ownBlock := fun e => by
    have := (World.ownsRow.lt H1.out w.heap.size e.symm).2
    omega
  have y1 := (g2.block _ (lt_of_block X1.out) hne).trans X1.out
  obtain ⟨_, c2, _, _⟩ := rk_two y1
  have p2 : w2.ownsRow B 37 2 (.slice la ln lc) d.late.length (putCells d.late) := rk_type (ownsRow_below H2.out b1) g2 (fun r e => by
    rcases H1.out.2 with ⟨hv, _⟩ | ⟨g, cap, cur, hv, _, hh, _⟩
    · rw [hv] at e; cases e
    · rw [hv] at e; cases e
      exact ⟨_, _, _, (b1.block _ (lt_of_block hh)).trans hh, by decide⟩)
  have O2 := (show Hid (w2.ownsRow B 9 1 (.slice sa sn sc) d.safe.length (strCells (markStrs 1 d.safe.length))) from o2)
  have P2 := (show Hid (w2.ownsRow B 37 2 (.slice la ln lc) d.late.length (putCells d.late)) from p2)
  have G2 := (show Hid (w1.grownBy w2 (Value.slice sa sn sc).ownBlock) from g2)
  have B1 := (show Hid (Below w.heap.size w w1) from b1)
  clear o2 p2 g2 y1 b1 X1
  go_wp2_with fail
  go_at_call 61
  refine (markPutS_any P2.out (1 + d.safe.length) (by omega) (by omega) (by omega)).mono ?_
  rintro x w3 ⟨rfl, o3, g3⟩
  have p3 : w3.ownsRow B 9 1 (.slice sa sn sc) d.safe.length (strCells (markStrs 1 d.safe.length)) := rk_type O2.out g3 (fun r e => by
    rcases P2.out.2 with ⟨hv, _⟩ | ⟨g, cap, cur, hv, _, hh, _⟩
    · rw [hv] at e; cases e
    · rw [hv] at e; cases e
      exact ⟨_, _, _, hh, by decide⟩)
  have fr : TwoFr (Value.slice sa sn sc).ownBlock (Value.slice la ln lc).ownBlock w w3 := ⟨g3.os.trans (G2.out.os.trans B1.out.os), g3.tape.trans (G2.out.tape.trans B1.out.tape), g3.output.trans (G2.out.output.trans B1.out.output), Nat.le_trans B1.out.size (Nat.le_trans G2.out.size g3.size),
    fun j hj h1 h2 => (g3.block j (Nat.lt_of_lt_of_le hj (Nat.le_trans B1.out.size G2.out.size)) h2).trans ((G2.out.block j (Nat.lt_of_lt_of_le hj B1.out.size) h1).trans (B1.out.block j hj))⟩
  have O3 := (show Hid (w3.ownsRow B 37 2 (.slice la ln lc) d.late.length (putCells (markPuts (1 + d.safe.length) d.late.length))) from o3)
  have P3 := (show Hid (w3.ownsRow B 9 1 (.slice sa sn sc) d.safe.length (strCells (markStrs 1 d.safe.length))) from p3)
  have FR := (show Hid (TwoFr (Value.slice sa sn sc).ownBlock (Value.slice la ln lc).ownBlock w w3) from fr)
  clear o3 p3 fr g3
  go_wp2
  go_ret
  exact ⟨rfl, P3.out, O3.out, FR.out⟩

set_option maxHeartbeats 2000000 in
set_option maxRecDepth 100000 in
theorem heldDisk_any {n m : Nat} {w : World} {sa : Option Addr} {sn sc : Nat} {la : Option Addr} {ln lc : Nat} (h1 : Sv 1 w (.slice sa sn sc) (strCells (markStrs 1 n))) (h2 : Sv 2 w (.slice la ln lc) (putCells (markPuts (1 + n) m))) (hn : n ≤ 1048576) (hm : m ≤ 1048576) :
    Calls Try.prog 29 #[.agg #[.slice sa sn sc, .slice la ln lc], .int .i64 1] w fun e w' => e = .returned (.int .i64 (1 + n + 2 * m)) ∧ Below w.heap.size w w' := by
  have H1 := (show Hid (Sv 1 w (.slice sa sn sc) (strCells (markStrs 1 n))) from h1)
  have H2 := (show Hid (Sv 2 w (.slice la ln lc) (putCells (markPuts (1 + n) m))) from h2)
  clear h1 h2
  obtain ⟨w1, hw1⟩ : ∃ x, x = w.alloc (.cells #[.slice sa sn sc, .slice la ln lc] 27) := ⟨_, rfl⟩
  have b1 : Below w.heap.size w w1 := by rw [hw1]; exact (Below.refl _ _).alloc (Nat.le_refl _) _
  have x1 : w1.heap[w.heap.size]? = some (.cells #[.slice sa sn sc, .slice la ln lc] 27 (0, 0)) := by rw [hw1]; exact World.alloc_heap_new _ _
  have X1 := (show Hid _ from x1)
  clear x1
  go_enter Try.func29, Try.ntmps29
  go_wp2_with fail
  go_at_call 62
  rw [← hw1]
  refine (heldStringS_any 1 (H1.out.below b1) (by decide) (by decide) (by omega)).mono ?_
  rintro x w2 ⟨rfl, b2⟩
  clear hw1
  have y1 := (b2.block _ (lt_of_block X1.out)).trans X1.out
  obtain ⟨_, c2, _, _⟩ := rk_two y1
  have BB := (show Hid (Below w.heap.size w w2) from b1.trans (b2.mono b1.size))
  clear y1 b1 b2 X1
  go_wp2_with fail
  go_at_call 63
  refine (heldPutS_any (1 + n) (H2.out.below BB.out) (by omega) (by omega) (by omega)).mono ?_
  rintro x w3 ⟨rfl, b3⟩
  have B3 := (show Hid (Below w.heap.size w w3) from BB.out.trans (b3.mono BB.out.size))
  clear b3
  go_wp2
  go_ret
  exact ⟨rfl, B3.out⟩
end Go.Proofs.Ytdhnoaajdjkddaa
