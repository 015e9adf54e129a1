/- Contracts of the laws' copies and measures of a list of attributes. -/
import Derived.Test.YtggfifchkecnjaaGreatDoorX19
import Derived.OwnWalk
import Derived.Test.YtggfifchkecnjaaGreatDoorX20
import Derived.Test.YtggfifchkecnjaaGreatDoorX21
namespace Go.Proofs.YtggfifchkecnjaaGreatDoor
open Go.RowKit
set_option maxRecDepth 100000
set_option linter.unusedVariables false

theorem Tryz.infoA : (Tryz.prog.info? 81).map (fun i => (i.zero, i.size, i.bytes)) = some (some (.agg #[.string ⟨#[]⟩, .string ⟨#[]⟩]), 2, 32) := by kernel_rfl

end Go.Proofs.YtggfifchkecnjaaGreatDoor

/- Contracts of the laws' marks of a list of attributes. -/
namespace Go.Proofs.YtggfifchkecnjaaGreatDoor
open Go.RowKit
set_option maxRecDepth 100000
set_option linter.unusedVariables false

def markPairs (k : Int) (n : Nat) : List (ByteArray × ByteArray) := (List.range n).map fun i : Nat => (mt (k + 2 * (i : Int)), mt (k + 2 * (i : Int) + 1))
theorem markPairs_len (k : Int) (n : Nat) : (markPairs k n).length = n := by simp [markPairs]
theorem markPairs_at (k : Int) (n i : Nat) (h : i < (markPairs k n).length) : (markPairs k n)[i] = (mt (k + 2 * (i : Int)), mt (k + 2 * (i : Int) + 1)) := by simp [markPairs]
theorem markPairs_succ (k : Int) (rs : List (ByteArray × ByteArray)) (i : Nat) (h : i < rs.length) :
    (markPairs k i ++ rs.drop i).set i (mt (k + 2 * (i : Int)), mt (k + 2 * (i : Int) + 1)) = markPairs k (i + 1) ++ rs.drop (i + 1) := by
  rw [List.set_append_right _ _ (by rw [markPairs_len]; exact Nat.le_refl _), markPairs_len, Nat.sub_self, List.drop_eq_getElem_cons h, List.set_cons_zero]
  simp [markPairs, List.range_succ]

theorem pairCells_set (ls : List (ByteArray × ByteArray)) (j : Nat) (a p : ByteArray) (h : j < ls.length) : ((pairCells ls).set (j * 2) (.string a)).set (j * 2 + 1) (.string p) = pairCells (ls.set j (a, p)) := by
  induction ls generalizing j with
  | nil => simp at h
  | cons r rs ih =>
    cases j with
    | zero => simp [pairCells]
    | succ j =>
      have e := ih j (by simpa using h)
      have e1 : (j + 1) * 2 = j * 2 + 1 + 1 := by omega
      have e2 : (j + 1) * 2 + 1 = j * 2 + 1 + 1 + 1 := by omega
      simp only [pairCells, List.flatMap_cons, List.cons_append, List.nil_append, e1, List.set_cons_succ] at e ⊢
      rw [e]

set_option maxHeartbeats 2000000 in
set_option maxRecDepth 100000 in
theorem markAttrS_any {B : Nat} {v : Value} {rs : List (ByteArray × ByteArray)} {w : World} (h : w.ownsRow B 81 2 v rs.length (pairCells rs)) (k0 : Int) (h0 : 0 ≤ k0) (hk : k0 ≤ 1000000000) (hn : rs.length ≤ 1000000000) :
    Calls Tryz.prog 33 #[v, .int .i64 k0] w fun e w' => e = .returned (.int .i64 (k0 + 2 * rs.length)) ∧ w'.ownsRow B 81 2 v rs.length (pairCells (markPairs k0 rs.length)) ∧ w.grownBy w' v.ownBlock := by
  have h' := h
  obtain ⟨hl, ⟨hv, hz⟩ | ⟨g, cap, cur, hv, hB, hh, hn', hm, hz, ht⟩⟩ := h'
  · subst hv
    have hr : rs = [] := List.length_eq_zero_iff.mp hz
    subst hr
    go_enter Tryz.func33, Tryz.ntmps33
    go_wp2
    go_loop [1, 5] (fun q i => i = .int .i64 0 ∧ q = .int .i64 k0) (fun _ _ => 0)
    case atStart => exact ⟨rfl, rfl⟩
    case round =>
      obtain ⟨rfl, rfl⟩ := hrel
      go_wp2
      go_ret
      exact ⟨ret_int (by simp), h, World.grownBy.refl _ _⟩
  · subst hv
    clear hh ht hz hl
    go_enter Tryz.func33, Tryz.ntmps33
    go_wp2
    go_loopw [1, 5] (fun q i wr => ∃ k : Nat, k ≤ rs.length ∧ i = .int .i64 k ∧ q = .int .i64 (k0 + 2 * k) ∧ wr.ownsRow B 81 2 (.slice (some ⟨g, 0, none⟩) rs.length cap) rs.length (pairCells (markPairs k0 k ++ rs.drop k)) ∧ w.grownBy wr (some g)) (fun _ i _ => rs.length - (intOf i).toNat)
    case atStart => exact ⟨0, Nat.zero_le _, rfl, by go_num, h, World.grownBy.refl _ _⟩
    case round =>
      clear h
      obtain ⟨k, hk', rfl, rfl, hown, hgr⟩ := hrel
      by_cases hlt : k < rs.length
      · have HO := (show Hid _ from hown)
        have HG := (show Hid _ from hgr)
        clear hown hgr
        go_wp2_with fail
        go_at_call 32
        refine (markText_any _ _ (by omega)).mono ?_
        rintro e w2 ⟨rfl, b2⟩
        have hlen : (markPairs k0 k ++ rs.drop k).length = rs.length := by simp [markPairs_len]; omega
        have o2 : w2.ownsRow B 81 2 (.slice (some ⟨g, 0, none⟩) rs.length cap) rs.length (pairCells (markPairs k0 k ++ rs.drop k)) := by
          obtain ⟨a1, a2 | ⟨g', c', cu', e1, e2, e3, e4⟩⟩ := HO.out
          · cases a2.1
          · cases e1
            exact ⟨a1, .inr ⟨g, cap, cu', rfl, e2, by rw [b2.block g (lt_of_block e3)]; exact e3, e4⟩⟩
        have hl2 := pairCells_len (markPairs k0 k ++ rs.drop k)
        obtain ⟨z1, hc1⟩ : ∃ z, w2.cell? ⟨g, k * 2, none⟩ = some z := by
          rw [o2.cellAt (k * 2) (by omega)]; exact ⟨_, List.getElem?_eq_getElem (by omega)⟩
        have f1 := o2.frozenAt (k * 2)
        have s1 := o2.stored (k * 2) (.string (mt (k0 + 2 * k)))
        have S1 := (show Hid _ from s1)
        clear s1 o2
        go_wp2_with fail
        go_at_call 32
        refine (markText_any _ _ (by omega)).mono ?_
        rintro e w3 ⟨rfl, b3⟩
        have o3 : w3.ownsRow B 81 2 (.slice (some ⟨g, 0, none⟩) rs.length cap) rs.length ((pairCells (markPairs k0 k ++ rs.drop k)).set (k * 2) (.string (mt (k0 + 2 * k)))) := by
          obtain ⟨a1, a2 | ⟨g', c', cu', e1, e2, e3, e4⟩⟩ := S1.out.1
          · cases a2.1
          · cases e1
            exact ⟨a1, .inr ⟨g, cap, cu', rfl, e2, by rw [b3.block g (lt_of_block e3)]; exact e3, e4⟩⟩
        obtain ⟨z2, hc2⟩ : ∃ z, w3.cell? ⟨g, k * 2 + 1, none⟩ = some z := by
          rw [o3.cellAt (k * 2 + 1) (by omega)]; exact ⟨_, List.getElem?_eq_getElem (by rw [List.length_set]; omega)⟩
        have f2 := o3.frozenAt (k * 2 + 1)
        have s2 := o3.stored (k * 2 + 1) (.string (mt (k0 + 2 * k + 1)))
        rw [pairCells_set _ _ _ _ (by omega), markPairs_succ k0 rs k hlt] at s2
        have S2 := (show Hid _ from s2)
        clear s2 o3
        go_wp2
        go_roundw
        case rel => exact ⟨k + 1, by omega, by go_num, by go_num, S2.out.1, grown_trans (grown_below (grown_trans (grown_below HG.out b2) S1.out.2) b3) S2.out.2⟩
        case measure => simp [intOf]; omega
      · go_wp2
        go_ret
        have hke : k = rs.length := by omega
        rw [hke, List.drop_length, List.append_nil] at hown
        exact ⟨ret_int (by rw [hke]), hown, hgr⟩

set_option maxHeartbeats 2000000 in
set_option maxRecDepth 100000 in
theorem heldAttrS_any {v : Value} {n : Nat} {w : World} (k0 : Int) (h : Sv 2 w v (pairCells (markPairs k0 n))) (h0 : 0 ≤ k0) (hk : k0 ≤ 1000000000) (hn : n ≤ 1000000000) :
    Calls Tryz.prog 34 #[v, .int .i64 k0] w fun e w' => e = .returned (.int .i64 (k0 + 2 * n)) ∧ Below w.heap.size w w' := by
  obtain ⟨a, ca, rfl, _, _, hca⟩ := h.pair
  have hlen := markPairs_len k0 n
  rw [hlen]
  go_enter Tryz.func34, Tryz.ntmps34
  go_wp2
  go_loopw [1, 5] (fun q i wr => ∃ k : Nat, k ≤ n ∧ i = .int .i64 k ∧ q = .int .i64 (k0 + 2 * k) ∧ Below w.heap.size w wr) (fun _ i _ => n - (intOf i).toNat)
  case atStart => exact ⟨0, Nat.zero_le _, rfl, by go_num, Below.refl _ _⟩
  case round =>
    obtain ⟨k, hk', rfl, rfl, bel⟩ := hrel
    by_cases hlt : k < n
    · obtain ⟨b1, o1, rfl, l1, c1, c2⟩ := hca k (by omega)
      rw [markPairs_at] at c1 c2
      simp only at c1 c2
      have g1 : ∀ m : Wd w.heap.size w, m.w.cell? ⟨b1, o1 + k * 2, none⟩ = some (.string (mt (k0 + 2 * k))) := fun m => (m.below.cell (p := ⟨b1, o1 + k * 2, none⟩) l1).trans c1
      have g2 : ∀ m : Wd w.heap.size w, m.w.cell? ⟨b1, o1 + k * 2 + 1, none⟩ = some (.string (mt (k0 + 2 * k + 1))) := fun m => (m.below.cell (p := ⟨b1, o1 + k * 2 + 1, none⟩) l1).trans c2
      have CC := (show Hid (∀ w, Calls Tryz.prog 32 #[.int .i64 (k0 + 2 * k)] w fun e w' => e = .returned (.string (mt (k0 + 2 * k))) ∧ Below w.heap.size w w') from fun w => markText_any _ _ (by omega))
      have CD := (show Hid (∀ w, Calls Tryz.prog 32 #[.int .i64 (k0 + 2 * k + 1)] w fun e w' => e = .returned (.string (mt (k0 + 2 * k + 1))) ∧ Below w.heap.size w w') from fun w => markText_any _ _ (by omega))
      have ne := Wd.any w.heap.size w
      clear c1 c2 hca
      go_wp2
      refine wp_region_below (by kernel_rfl) (by kernel_rfl) bel ?_
      repeat (go_big_quiet_step ((go_at_call 32; exact quiet_below (CC.out _) (Nat.le_refl _))))
      refine wpQuiet_nil ?_
      intro wq hq
      replace hq := Wd.of hq
      go_wp2
      refine wp_region_below (by kernel_rfl) (by kernel_rfl) hq ?_
      repeat (go_big_quiet_step ((go_at_call 32; exact quiet_below (CD.out _) (Nat.le_refl _))))
      refine wpQuiet_nil ?_
      intro wq2 hq2
      replace hq2 := Wd.of hq2
      go_wp2
      go_roundw
      case rel => exact ⟨k + 1, by omega, by go_num, by go_num, hq2⟩
      case measure => simp [intOf]; omega
    · have hke : k = n := by omega
      go_wp2
      go_ret
      exact ⟨ret_int (by rw [hke]), bel⟩
end Go.Proofs.YtggfifchkecnjaaGreatDoor

/- The contract of the specification's RefRead, where a reference by number stands, and where a name may stand. -/
namespace Go.Proofs.YtggfifchkecnjaaGreatDoor
open Go.RowKit
set_option maxRecDepth 100000
set_option linter.unusedVariables false

theorem refRead_num {xs : List Int} {k : Nat} {b : Bool} (h1 : xs.length ≤ 3000) (hk : k < xs.length) (h3 : xs.getD k 0 = 38) (h4 : atL xs (k + 1) = 35) :
    refRead xs k b = if 0 < (refNum xs (k + 2)).2 then ([(refNum xs (k + 2)).1], (refNum xs (k + 2)).2) else ([38], (k : Int) + 1) := by
  unfold refRead
  rw [if_neg (by rintro (h | h | h); exact absurd h (by omega); rw [inB_yes (by omega) (by omega)] at h; cases h; exact h (by simpa using h3)), Int.toNat_natCast, if_pos h4]
theorem refRead_name {xs : List Int} {k : Nat} {b : Bool} (h1 : xs.length ≤ 3000) (hk : k < xs.length) (h3 : xs.getD k 0 = 38) (h4 : atL xs (k + 1) ≠ 35) : refRead xs k b = refName xs k b := by
  unfold refRead
  rw [if_neg (by rintro (h | h | h); exact absurd h (by omega); rw [inB_yes (by omega) (by omega)] at h; cases h; exact h (by simpa using h3)), Int.toNat_natCast, if_neg h4]

set_option maxHeartbeats 4000000 in
set_option maxRecDepth 100000 in
theorem srefRead_num {v : Value} {xs : List Int} {w : World} (h : Sl .i64 w v xs) (k : Nat) (b : Bool) (h1 : xs.length ≤ 3000) (hk : k < xs.length) (h3 : xs.getD k 0 = 38) (h4 : atL xs (k + 1) = 35) :
    Calls Tryz.prog 44 #[v, .int .i64 k, .bool b] w (Reads w (refRead xs k b)) := by
  rw [refRead_num h1 hk h3 h4]
  have c1 := fun w => l1In_any k 0 (xs.length - 1) w
  rw [inB_yes (by omega) (by omega)] at c1
  have c2 := l3At_any h (k + 1) (by omega)
  rw [h4] at c2
  have c3 := l3Number_any h (k + 2) (by omega) (by omega)
  have e1 : ((k + 1 : Nat) : Int) = (k : Int) + 1 := by omega
  have e2 : ((k + 2 : Nat) : Int) = (k : Int) + 2 := by omega
  rw [e1] at c2
  rw [e2] at c3
  obtain ⟨p, hp⟩ : ∃ p, p = refNum xs (k + 2) := ⟨_, rfl⟩
  rw [← hp] at c3 ⊢
  obtain ⟨x, n⟩ := p
  simp only at c3 ⊢
  obtain ⟨a, ca, rfl, _, _, _, ha⟩ := h
  obtain ⟨b1, o1, rfl, k1⟩ := ha k hk
  rw [h3] at k1
  clear ha hp h3 h4 e1 e2
  by_cases hn : 0 < n
  · rw [if_pos hn]
    go_enter Tryz.func44, Tryz.ntmps44
    go_wp2_with fail
    go_at_call 42
    refine (c1 _).mono ?_
    rintro e w1 ⟨rfl, rfl⟩
    go_wp2_with fail
    go_at_call 78
    refine c2.mono ?_
    rintro e w1 ⟨rfl, rfl⟩
    go_wp2_with fail
    go_at_call 79
    refine c3.mono ?_
    rintro e w2 ⟨rfl, b2⟩
    go_wp2
    go_ret2
    exact ⟨_, rfl, (own1 _ _).base b2.size, b2.alloc b2.size _⟩
  · rw [if_neg hn]
    go_enter Tryz.func44, Tryz.ntmps44
    go_wp2_with fail
    go_at_call 42
    refine (c1 _).mono ?_
    rintro e w1 ⟨rfl, rfl⟩
    go_wp2_with fail
    go_at_call 78
    refine c2.mono ?_
    rintro e w1 ⟨rfl, rfl⟩
    go_wp2_with fail
    go_at_call 79
    refine c3.mono ?_
    rintro e w2 ⟨rfl, b2⟩
    go_wp2
    go_ret2
    exact ⟨_, rfl, (own1 _ _).base b2.size, b2.alloc b2.size _⟩
end Go.Proofs.YtggfifchkecnjaaGreatDoor

/- The contract of the program's refByNumber. -/
namespace Go.Proofs.YtggfifchkecnjaaGreatDoor
open Go.RowKit
set_option maxRecDepth 100000
set_option linter.unusedVariables false

theorem refDigits_eq (xs : List Int) (b : Int) (k : Nat) : refDigits xs b k = if (digs b (xs.drop k)).length = 0 then (0, 0) else (refNumber (digNum xs b k), ((k + (digs b (xs.drop k)).length + (if atL xs (k + (digs b (xs.drop k)).length) = 59 then 1 else 0) : Nat) : Int)) := by
  unfold refDigits digNum
  simp only [List.length_eq_zero_iff]

def numAns (p : Int × Int) : Value := if 0 < p.2 then .tuple #[.int .i64 p.1, .int .i64 p.2, .bool true] else .tuple #[.int .i64 0, .int .i64 0, .bool false]

set_option maxHeartbeats 4000000 in
set_option maxRecDepth 100000 in
theorem refByNumber_any {v : Value} {xs : List Int} {w : World} (ho : Older w) (h : Sl .i64 w v xs) (k : Nat) (hn : xs.length ≤ 3000) (hk : k ≤ 3000) :
    Calls Tryz.prog 130 #[v, .int .i64 k] w fun e w' => e = .returned (if atL xs k = 35 then numAns (refNum xs (k + 1)) else .tuple #[.int .i64 0, .int .i64 0, .bool false]) ∧ Below w.heap.size w w' := by
  have c0 := hasPoint_any h k 35 (by decide) (by omega)
  by_cases h35 : atL xs k = 35
  · rw [if_pos h35]
    rw [h35, show ((35 : Int) == 35) = true from rfl] at c0
    have e1 : ((k : Int) + 1) = ((k + 1 : Nat) : Int) := by omega
    have cx := hasPoint_any h (k + 1) 120 (by decide) (by omega)
    have cX := hasPoint_any h (k + 1) 88 (by decide) (by omega)
    have HP := (show Hid (∀ (w' : World) (j : Nat), Below w.heap.size w w' → Calls Tryz.prog 139 #[v, .int .i64 j, .int .i64 59] w' fun e w'' => e = .returned (.bool (atL xs j == 59)) ∧ w'' = w') from fun w' j hb => hasPoint_any (h.below hb) j 59 (by decide) (by omega))
    have HO := (show Hid (∀ (w' : World) (x : Int), Below w.heap.size w w' → Calls Tryz.prog 141 #[.int .i64 x] w' fun e w'' => e = .returned (.int .i64 (refNumber x)) ∧ w'' = w') from fun w' x hb => refNumber_any x w' (ho.below hb))
    clear ho
    obtain ⟨b, f, hb, er, hcs⟩ : ∃ (b : Int) (f : Nat), (b = 10 ∨ b = 16) ∧ refNum xs (k + 1) = refDigits xs b f ∧ ((atL xs (k + 1) = 120 ∧ b = 16 ∧ f = k + 2) ∨ (atL xs (k + 1) = 88 ∧ b = 16 ∧ f = k + 2) ∨ (atL xs (k + 1) ≠ 120 ∧ atL xs (k + 1) ≠ 88 ∧ b = 10 ∧ f = k + 1)) := by
      by_cases h1 : atL xs (k + 1) = 120
      · exact ⟨16, k + 2, by simp, by unfold refNum; rw [if_pos (.inl h1)], .inl ⟨h1, rfl, rfl⟩⟩
      · by_cases h2 : atL xs (k + 1) = 88
        · exact ⟨16, k + 2, by simp, by unfold refNum; rw [if_pos (.inr h2)], .inr (.inl ⟨h2, rfl, rfl⟩)⟩
        · exact ⟨10, k + 1, by simp, by unfold refNum; rw [if_neg (by rintro (h | h); exact h1 h; exact h2 h)], .inr (.inr ⟨h1, h2, rfl, rfl⟩)⟩
    rw [er, refDigits_eq]
    have cd := digitsFrom_any h f b hb hn (by omega)
    obtain ⟨c, hc⟩ : ∃ c, c = atL xs (k + 1) := ⟨_, rfl⟩
    rw [← hc] at cx cX hcs
    obtain ⟨D, hD⟩ : ∃ D, D = (digs b (xs.drop f)).length := ⟨_, rfl⟩
    rw [← hD] at cd ⊢
    have hdl := digs_le b (xs.drop f)
    rw [List.length_drop, ← hD] at hdl
    obtain ⟨nm, hnm⟩ : ∃ nm, nm = digNum xs b f := ⟨_, rfl⟩
    rw [← hnm] at cd ⊢
    obtain ⟨g, hg⟩ : ∃ g, g = k + 1 := ⟨_, rfl⟩
    rw [← hg] at cx cX e1 hcs
    have HPm := HP.out
    obtain ⟨m, hm⟩ : ∃ m, m = f + D := ⟨_, rfl⟩
    rw [← hm] at cd ⊢
    have c59 := (show Hid _ from fun w' hb => HPm w' m hb)
    obtain ⟨y, hy⟩ : ∃ y, y = atL xs m := ⟨_, rfl⟩
    rw [← hy] at c59 ⊢
    clear hc hD h hnm er h35 HPm HP hb hy
    have hmm : m ≤ 6010 := by omega
    have hgb : g ≤ 3001 := by omega
    have hfb : f ≤ 3002 := by omega
    have hfp : 0 < f := by omega
    have hmp : 0 < m := by omega
    have e120 : (((120 : Int)) == 120) = true := rfl
    have e88 : (((88 : Int)) == 88) = true := rfl
    have e88' : (((88 : Int)) == 120) = false := rfl
    have e59 : (((59 : Int)) == 59) = true := rfl
    rcases hcs with ⟨rfl, rfl, hfk⟩ | ⟨rfl, rfl, hfk⟩ | ⟨n1, n2, rfl, hfk⟩
    · have e2 : (g : Int) + 1 = (f : Int) := by omega
      clear hg hfk
      rw [e120] at cx
      by_cases hD0 : D = 0
      · have hmf : m = f := by omega
        subst hmf
        rw [if_pos hD0]
        clear hm hD0 hdl c59 HO
        go_enter Tryz.func130, Tryz.ntmps130
        go_wp2_with fail
        go_at_call 139
        refine c0.mono ?_
        rintro e w1 ⟨rfl, rfl⟩
        go_wp2_with fail
        go_at_call 139
        refine cx.mono ?_
        rintro e w1 ⟨rfl, rfl⟩
        go_wp2_with fail
        go_at_call 140
        refine cd.mono ?_
        rintro e w1 ⟨rfl, bw⟩
        go_wp2
        go_ret3
        exact ⟨rfl, bw⟩
      · have hmf : ((m : Int) == (f : Int)) = false := by simp; omega
        rw [if_neg hD0]
        clear hm hdl
        by_cases hy : y = 59
        · rw [if_pos hy]
          subst hy
          rw [e59] at c59
          go_enter Tryz.func130, Tryz.ntmps130
          go_wp2_with fail
          go_at_call 139
          refine c0.mono ?_
          rintro e w1 ⟨rfl, rfl⟩
          go_wp2_with fail
          go_at_call 139
          refine cx.mono ?_
          rintro e w1 ⟨rfl, rfl⟩
          go_wp2_with fail
          go_at_call 140
          refine cd.mono ?_
          rintro e w1 ⟨rfl, bw⟩
          go_wp2_with fail
          go_at_call 139
          refine (c59.out _ bw).mono ?_
          rintro e w1 ⟨rfl, rfl⟩
          go_wp2_with fail
          go_at_call 141
          refine (HO.out _ _ bw).mono ?_
          rintro e w1 ⟨rfl, rfl⟩
          go_wp2
          go_ret3
          exact ⟨by unfold numAns; rw [if_pos (by simp only; omega)]; simp, bw⟩
        · have hy2 : (y == 59) = false := by simpa using hy
          rw [if_neg hy]
          rw [hy2] at c59
          go_enter Tryz.func130, Tryz.ntmps130
          go_wp2_with fail
          go_at_call 139
          refine c0.mono ?_
          rintro e w1 ⟨rfl, rfl⟩
          go_wp2_with fail
          go_at_call 139
          refine cx.mono ?_
          rintro e w1 ⟨rfl, rfl⟩
          go_wp2_with fail
          go_at_call 140
          refine cd.mono ?_
          rintro e w1 ⟨rfl, bw⟩
          go_wp2_with fail
          go_at_call 139
          refine (c59.out _ bw).mono ?_
          rintro e w1 ⟨rfl, rfl⟩
          go_wp2_with fail
          go_at_call 141
          refine (HO.out _ _ bw).mono ?_
          rintro e w1 ⟨rfl, rfl⟩
          go_wp2
          go_ret3
          exact ⟨by unfold numAns; rw [if_pos (by simp only; omega)]; simp, bw⟩
    · have e2 : (g : Int) + 1 = (f : Int) := by omega
      clear hg hfk
      rw [e88'] at cx
      rw [e88] at cX
      by_cases hD0 : D = 0
      · have hmf : m = f := by omega
        subst hmf
        rw [if_pos hD0]
        clear hm hD0 hdl c59 HO
        go_enter Tryz.func130, Tryz.ntmps130
        go_wp2_with fail
        go_at_call 139
        refine c0.mono ?_
        rintro e w1 ⟨rfl, rfl⟩
        go_wp2_with fail
        go_at_call 139
        refine cx.mono ?_
        rintro e w1 ⟨rfl, rfl⟩
        go_wp2_with fail
        go_at_call 139
        refine cX.mono ?_
        rintro e w1 ⟨rfl, rfl⟩
        go_wp2_with fail
        go_at_call 140
        refine cd.mono ?_
        rintro e w1 ⟨rfl, bw⟩
        go_wp2
        go_ret3
        exact ⟨rfl, bw⟩
      · have hmf : ((m : Int) == (f : Int)) = false := by simp; omega
        rw [if_neg hD0]
        clear hm hdl
        by_cases hy : y = 59
        · rw [if_pos hy]
          subst hy
          rw [e59] at c59
          go_enter Tryz.func130, Tryz.ntmps130
          go_wp2_with fail
          go_at_call 139
          refine c0.mono ?_
          rintro e w1 ⟨rfl, rfl⟩
          go_wp2_with fail
          go_at_call 139
          refine cx.mono ?_
          rintro e w1 ⟨rfl, rfl⟩
          go_wp2_with fail
          go_at_call 139
          refine cX.mono ?_
          rintro e w1 ⟨rfl, rfl⟩
          go_wp2_with fail
          go_at_call 140
          refine cd.mono ?_
          rintro e w1 ⟨rfl, bw⟩
          go_wp2_with fail
          go_at_call 139
          refine (c59.out _ bw).mono ?_
          rintro e w1 ⟨rfl, rfl⟩
          go_wp2_with fail
          go_at_call 141
          refine (HO.out _ _ bw).mono ?_
          rintro e w1 ⟨rfl, rfl⟩
          go_wp2
          go_ret3
          exact ⟨by unfold numAns; rw [if_pos (by simp only; omega)]; simp, bw⟩
        · have hy2 : (y == 59) = false := by simpa using hy
          rw [if_neg hy]
          rw [hy2] at c59
          go_enter Tryz.func130, Tryz.ntmps130
          go_wp2_with fail
          go_at_call 139
          refine c0.mono ?_
          rintro e w1 ⟨rfl, rfl⟩
          go_wp2_with fail
          go_at_call 139
          refine cx.mono ?_
          rintro e w1 ⟨rfl, rfl⟩
          go_wp2_with fail
          go_at_call 139
          refine cX.mono ?_
          rintro e w1 ⟨rfl, rfl⟩
          go_wp2_with fail
          go_at_call 140
          refine cd.mono ?_
          rintro e w1 ⟨rfl, bw⟩
          go_wp2_with fail
          go_at_call 139
          refine (c59.out _ bw).mono ?_
          rintro e w1 ⟨rfl, rfl⟩
          go_wp2_with fail
          go_at_call 141
          refine (HO.out _ _ bw).mono ?_
          rintro e w1 ⟨rfl, rfl⟩
          go_wp2
          go_ret3
          exact ⟨by unfold numAns; rw [if_pos (by simp only; omega)]; simp, bw⟩
    · subst hfk
      clear hg
      have q1 : (c == 120) = false := by simpa using n1
      have q2 : (c == 88) = false := by simpa using n2
      rw [q1] at cx
      rw [q2] at cX
      by_cases hD0 : D = 0
      · have hmf : m = f := by omega
        subst hmf
        rw [if_pos hD0]
        clear hm hD0 hdl c59 HO
        go_enter Tryz.func130, Tryz.ntmps130
        go_wp2_with fail
        go_at_call 139
        refine c0.mono ?_
        rintro e w1 ⟨rfl, rfl⟩
        go_wp2_with fail
        go_at_call 139
        refine cx.mono ?_
        rintro e w1 ⟨rfl, rfl⟩
        go_wp2_with fail
        go_at_call 139
        refine cX.mono ?_
        rintro e w1 ⟨rfl, rfl⟩
        go_wp2_with fail
        go_at_call 140
        refine cd.mono ?_
        rintro e w1 ⟨rfl, bw⟩
        go_wp2
        go_ret3
        exact ⟨rfl, bw⟩
      · have hmf : ((m : Int) == (f : Int)) = false := by simp; omega
        rw [if_neg hD0]
        clear hm hdl
        by_cases hy : y = 59
        · rw [if_pos hy]
          subst hy
          rw [e59] at c59
          go_enter Tryz.func130, Tryz.ntmps130
          go_wp2_with fail
          go_at_call 139
          refine c0.mono ?_
          rintro e w1 ⟨rfl, rfl⟩
          go_wp2_with fail
          go_at_call 139
          refine cx.mono ?_
          rintro e w1 ⟨rfl, rfl⟩
          go_wp2_with fail
          go_at_call 139
          refine cX.mono ?_
          rintro e w1 ⟨rfl, rfl⟩
          go_wp2_with fail
          go_at_call 140
          refine cd.mono ?_
          rintro e w1 ⟨rfl, bw⟩
          go_wp2_with fail
          go_at_call 139
          refine (c59.out _ bw).mono ?_
          rintro e w1 ⟨rfl, rfl⟩
          go_wp2_with fail
          go_at_call 141
          refine (HO.out _ _ bw).mono ?_
          rintro e w1 ⟨rfl, rfl⟩
          go_wp2
          go_ret3
          exact ⟨by unfold numAns; rw [if_pos (by simp only; omega)]; simp, bw⟩
        · have hy2 : (y == 59) = false := by simpa using hy
          rw [if_neg hy]
          rw [hy2] at c59
          go_enter Tryz.func130, Tryz.ntmps130
          go_wp2_with fail
          go_at_call 139
          refine c0.mono ?_
          rintro e w1 ⟨rfl, rfl⟩
          go_wp2_with fail
          go_at_call 139
          refine cx.mono ?_
          rintro e w1 ⟨rfl, rfl⟩
          go_wp2_with fail
          go_at_call 139
          refine cX.mono ?_
          rintro e w1 ⟨rfl, rfl⟩
          go_wp2_with fail
          go_at_call 140
          refine cd.mono ?_
          rintro e w1 ⟨rfl, bw⟩
          go_wp2_with fail
          go_at_call 139
          refine (c59.out _ bw).mono ?_
          rintro e w1 ⟨rfl, rfl⟩
          go_wp2_with fail
          go_at_call 141
          refine (HO.out _ _ bw).mono ?_
          rintro e w1 ⟨rfl, rfl⟩
          go_wp2
          go_ret3
          exact ⟨by unfold numAns; rw [if_pos (by simp only; omega)]; simp, bw⟩
  · have e35 : (atL xs k == 35) = false := by simpa using h35
    rw [if_neg h35]
    rw [e35] at c0
    clear h35 e35 ho
    go_enter Tryz.func130, Tryz.ntmps130
    go_wp2_with fail
    go_at_call 139
    refine c0.mono ?_
    rintro e w1 ⟨rfl, rfl⟩
    go_wp2
    go_ret3
    exact ⟨rfl, Below.refl _ _⟩
end Go.Proofs.YtggfifchkecnjaaGreatDoor

/- Contracts of the specification's AttrsOk and AttrsSame. -/
namespace Go.Proofs.YtggfifchkecnjaaGreatDoor
open Go.RowKit
set_option maxRecDepth 100000
set_option linter.unusedVariables false
end Go.Proofs.YtggfifchkecnjaaGreatDoor
