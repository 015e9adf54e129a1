/- Contracts of the laws' copies and measures of a list of attributes. -/
import Derived.Test.YtogdbjafibejdaaGreatY18
import Derived.OwnWalk
import Derived.Test.YtogdbjafibejdaaGreatY4
import Derived.Test.YtogdbjafibejdaaGreatY3
import Derived.Test.YtogdbjafibejdaaGreatY9
import Derived.Test.YtogdbjafibejdaaGreatY19
namespace Go.Proofs.YtogdbjafibejdaaGreat
open Go.RowKit
set_option maxRecDepth 100000
set_option linter.unusedVariables false
end Go.Proofs.YtogdbjafibejdaaGreat

/- Contracts of the laws' marks of a list of attributes. -/
namespace Go.Proofs.YtogdbjafibejdaaGreat
open Go.RowKit
set_option maxRecDepth 100000
set_option linter.unusedVariables false

def markPairs (k : Int) (n : Nat) : List (ByteArray × ByteArray) := (List.range n).map fun i : Nat => (mt (k + 2 * (i : Int)), mt (k + 2 * (i : Int) + 1))
theorem markPairs_len (k : Int) (n : Nat) : (markPairs k n).length = n := by simp [markPairs]
theorem markPairs_at (k : Int) (n i : Nat) (h : i < (markPairs k n).length) : (markPairs k n)[i] = (mt (k + 2 * (i : Int)), mt (k + 2 * (i : Int) + 1)) := by simp [markPairs]
theorem markPairs_succ (k : Int) (rs : List (ByteArray × ByteArray)) (i : Nat) (h : i < rs.length) :
    (markPairs k i ++ rs.drop i).set i (mt (k + 2 * (i : Int)), mt (k + 2 * (i : Int) + 1)) = markPairs k (i + 1) ++ rs.drop (i + 1) := by
  rw [List.set_append_right _ _ (by rw [markPairs_len]; exact Nat.le_refl _), markPairs_len, Nat.sub_self, List.drop_eq_getElem_cons h, List.set_cons_zero]
  simp [markPairs, List.range_succ]

theorem pairCells_set (ls : List (ByteArray × ByteArray)) (j : Nat) (a p : ByteArray) (h : j < ls.length) : ((pairCells ls).set (j * 2) (.string a)).set (j * 2 + 1) (.string p) = pairCells (ls.set j (a, p)) := by
  induction ls generalizing j with
  | nil => simp at h
  | cons r rs ih =>
    cases j with
    | zero => simp [pairCells]
    | succ j =>
      have e := ih j (by simpa using h)
      have e1 : (j + 1) * 2 = j * 2 + 1 + 1 := by omega
      have e2 : (j + 1) * 2 + 1 = j * 2 + 1 + 1 + 1 := by omega
      simp only [pairCells, List.flatMap_cons, List.cons_append, List.nil_append, e1, List.set_cons_succ] at e ⊢
      rw [e]

set_option maxHeartbeats 2000000 in
set_option maxRecDepth 100000 in
theorem markAttrS_any {B : Nat} {v : Value} {rs : List (ByteArray × ByteArray)} {w : World} (h : w.ownsRow B 115 2 v rs.length (pairCells rs)) (k0 : Int) (h0 : 0 ≤ k0) (hk : k0 ≤ 1000000000) (hn : rs.length ≤ 1000000000) :
    Calls Tryz.prog 147 #[v, .int .i64 k0] w fun e w' => e = .returned (.int .i64 (k0 + 2 * rs.length)) ∧ w'.ownsRow B 115 2 v rs.length (pairCells (markPairs k0 rs.length)) ∧ w.grownBy w' v.ownBlock := by
  have h' := h
  obtain ⟨hl, ⟨hv, hz⟩ | ⟨g, cap, cur, hv, hB, hh, hn', hm, hz, ht⟩⟩ := h'
  · subst hv
    have hr : rs = [] := List.length_eq_zero_iff.mp hz
    subst hr
    go_enter Tryz.func147, Tryz.ntmps147
    go_wp2
    go_loop [1, 5] (fun q i => i = .int .i64 0 ∧ q = .int .i64 k0) (fun _ _ => 0)
    case atStart => exact ⟨rfl, rfl⟩
    case round =>
      obtain ⟨rfl, rfl⟩ := hrel
      go_wp2
      go_ret
      exact ⟨ret_int (by simp), h, World.grownBy.refl _ _⟩
  · subst hv
    clear hh ht hz hl
    go_enter Tryz.func147, Tryz.ntmps147
    go_wp2
    go_loopw [1, 5] (fun q i wr => ∃ k : Nat, k ≤ rs.length ∧ i = .int .i64 k ∧ q = .int .i64 (k0 + 2 * k) ∧ wr.ownsRow B 115 2 (.slice (some ⟨g, 0, none⟩) rs.length cap) rs.length (pairCells (markPairs k0 k ++ rs.drop k)) ∧ w.grownBy wr (some g)) (fun _ i _ => rs.length - (intOf i).toNat)
    case atStart => exact ⟨0, Nat.zero_le _, rfl, by go_num, h, World.grownBy.refl _ _⟩
    case round =>
      clear h
      obtain ⟨k, hk', rfl, rfl, hown, hgr⟩ := hrel
      by_cases hlt : k < rs.length
      · have HO := (show Hid _ from hown)
        have HG := (show Hid _ from hgr)
        clear hown hgr
        go_wp2_with fail
        go_at_call 146
        refine (markText_any _ _ (by omega)).mono ?_
        rintro e w2 ⟨rfl, b2⟩
        have hlen : (markPairs k0 k ++ rs.drop k).length = rs.length := by simp [markPairs_len]; omega
        have o2 : w2.ownsRow B 115 2 (.slice (some ⟨g, 0, none⟩) rs.length cap) rs.length (pairCells (markPairs k0 k ++ rs.drop k)) := by
          obtain ⟨a1, a2 | ⟨g', c', cu', e1, e2, e3, e4⟩⟩ := HO.out
          · cases a2.1
          · cases e1
            exact ⟨a1, .inr ⟨g, cap, cu', rfl, e2, by rw [b2.block g (lt_of_block e3)]; exact e3, e4⟩⟩
        have hl2 := pairCells_len (markPairs k0 k ++ rs.drop k)
        obtain ⟨z1, hc1⟩ : ∃ z, w2.cell? ⟨g, k * 2, none⟩ = some z := by
          rw [o2.cellAt (k * 2) (by omega)]; exact ⟨_, List.getElem?_eq_getElem (by omega)⟩
        have f1 := o2.frozenAt (k * 2)
        have s1 := o2.stored (k * 2) (.string (mt (k0 + 2 * k)))
        have S1 := (show Hid _ from s1)
        clear s1 o2
        go_wp2_with fail
        go_at_call 146
        refine (markText_any _ _ (by omega)).mono ?_
        rintro e w3 ⟨rfl, b3⟩
        have o3 : w3.ownsRow B 115 2 (.slice (some ⟨g, 0, none⟩) rs.length cap) rs.length ((pairCells (markPairs k0 k ++ rs.drop k)).set (k * 2) (.string (mt (k0 + 2 * k)))) := by
          obtain ⟨a1, a2 | ⟨g', c', cu', e1, e2, e3, e4⟩⟩ := S1.out.1
          · cases a2.1
          · cases e1
            exact ⟨a1, .inr ⟨g, cap, cu', rfl, e2, by rw [b3.block g (lt_of_block e3)]; exact e3, e4⟩⟩
        obtain ⟨z2, hc2⟩ : ∃ z, w3.cell? ⟨g, k * 2 + 1, none⟩ = some z := by
          rw [o3.cellAt (k * 2 + 1) (by omega)]; exact ⟨_, List.getElem?_eq_getElem (by rw [List.length_set]; omega)⟩
        have f2 := o3.frozenAt (k * 2 + 1)
        have s2 := o3.stored (k * 2 + 1) (.string (mt (k0 + 2 * k + 1)))
        rw [pairCells_set _ _ _ _ (by omega), markPairs_succ k0 rs k hlt] at s2
        have S2 := (show Hid _ from s2)
        clear s2 o3
        go_wp2
        go_roundw
        case rel => exact ⟨k + 1, by omega, by go_num, by go_num, S2.out.1, grown_trans (grown_below (grown_trans (grown_below HG.out b2) S1.out.2) b3) S2.out.2⟩
        case measure => simp [intOf]; omega
      · go_wp2
        go_ret
        have hke : k = rs.length := by omega
        rw [hke, List.drop_length, List.append_nil] at hown
        exact ⟨ret_int (by rw [hke]), hown, hgr⟩

set_option maxHeartbeats 2000000 in
set_option maxRecDepth 100000 in
theorem heldAttrS_any {v : Value} {n : Nat} {w : World} (k0 : Int) (h : Sv 2 w v (pairCells (markPairs k0 n))) (h0 : 0 ≤ k0) (hk : k0 ≤ 1000000000) (hn : n ≤ 1000000000) :
    Calls Tryz.prog 149 #[v, .int .i64 k0] w fun e w' => e = .returned (.int .i64 (k0 + 2 * n)) ∧ Below w.heap.size w w' := by
  obtain ⟨a, ca, rfl, _, _, hca⟩ := h.pair
  have hlen := markPairs_len k0 n
  rw [hlen]
  go_enter Tryz.func149, Tryz.ntmps149
  go_wp2
  go_loopw [1, 5] (fun q i wr => ∃ k : Nat, k ≤ n ∧ i = .int .i64 k ∧ q = .int .i64 (k0 + 2 * k) ∧ Below w.heap.size w wr) (fun _ i _ => n - (intOf i).toNat)
  case atStart => exact ⟨0, Nat.zero_le _, rfl, by go_num, Below.refl _ _⟩
  case round =>
    obtain ⟨k, hk', rfl, rfl, bel⟩ := hrel
    by_cases hlt : k < n
    · obtain ⟨b1, o1, rfl, l1, c1, c2⟩ := hca k (by omega)
      rw [markPairs_at] at c1 c2
      simp only at c1 c2
      have g1 : ∀ m : Wd w.heap.size w, m.w.cell? ⟨b1, o1 + k * 2, none⟩ = some (.string (mt (k0 + 2 * k))) := fun m => (m.below.cell (p := ⟨b1, o1 + k * 2, none⟩) l1).trans c1
      have g2 : ∀ m : Wd w.heap.size w, m.w.cell? ⟨b1, o1 + k * 2 + 1, none⟩ = some (.string (mt (k0 + 2 * k + 1))) := fun m => (m.below.cell (p := ⟨b1, o1 + k * 2 + 1, none⟩) l1).trans c2
      have CC := (show Hid (∀ w, Calls Tryz.prog 146 #[.int .i64 (k0 + 2 * k)] w fun e w' => e = .returned (.string (mt (k0 + 2 * k))) ∧ Below w.heap.size w w') from fun w => markText_any _ _ (by omega))
      have CD := (show Hid (∀ w, Calls Tryz.prog 146 #[.int .i64 (k0 + 2 * k + 1)] w fun e w' => e = .returned (.string (mt (k0 + 2 * k + 1))) ∧ Below w.heap.size w w') from fun w => markText_any _ _ (by omega))
      have ne := Wd.any w.heap.size w
      clear c1 c2 hca
      go_wp2
      refine wp_region_below (by kernel_rfl) (by kernel_rfl) bel ?_
      repeat (go_big_quiet_step ((go_at_call 146; exact quiet_below (CC.out _) (Nat.le_refl _))))
      refine wpQuiet_nil ?_
      intro wq hq
      replace hq := Wd.of hq
      go_wp2
      refine wp_region_below (by kernel_rfl) (by kernel_rfl) hq ?_
      repeat (go_big_quiet_step ((go_at_call 146; exact quiet_below (CD.out _) (Nat.le_refl _))))
      refine wpQuiet_nil ?_
      intro wq2 hq2
      replace hq2 := Wd.of hq2
      go_wp2
      go_roundw
      case rel => exact ⟨k + 1, by omega, by go_num, by go_num, hq2⟩
      case measure => simp [intOf]; omega
    · have hke : k = n := by omega
      go_wp2
      go_ret
      exact ⟨ret_int (by rw [hke]), bel⟩
end Go.Proofs.YtogdbjafibejdaaGreat

/- What stands ahead of the last bar: the specification's l11From and FmtClear, the program's lastBar, first and FmtClear, of every list. -/
namespace Go.Proofs.YtogdbjafibejdaaGreat
open Go.RowKit
set_option maxRecDepth 100000
set_option linter.unusedVariables false
end Go.Proofs.YtogdbjafibejdaaGreat

/- The program's elementKind, specialSet, isOfKind and the seven kinds (written by mk/ikind2.py). -/
namespace Go.Proofs.YtogdbjafibejdaaGreat
open Go.RowKit Go.Maps
set_option maxRecDepth 100000
set_option linter.unusedVariables false
def RowOk (w : World) (p : Nat × List ByteArray) : Prop := p.1 < w.heap.size ∧ Txt w p.1 p.2 ∧ p.2.length ≤ 100 ∧ ∀ s ∈ p.2, s.size ≤ 100
theorem Txt.below {w w' : World} {B g : Nat} {xs : List ByteArray} (h : Txt w g xs) (hb : Below B w w') (hg : g < B) : Txt w' g xs :=
  fun j hj => (hb.cell hg).trans (h j hj)
theorem RowOk.below {w w' : World} {p : Nat × List ByteArray} (h : RowOk w p) (hb : Below w.heap.size w w') : RowOk w' p :=
  ⟨Nat.lt_of_lt_of_le h.1 hb.size, h.2.1.below hb h.1, h.2.2⟩

end Go.Proofs.YtogdbjafibejdaaGreat

/- Rows of the call's own that are kept while blocks of other kinds are turned; blocks of one or two cells. No condition. -/
namespace Go.Proofs.YtogdbjafibejdaaGreat
open Go.RowKit
set_option maxRecDepth 100000
set_option linter.unusedVariables false
end Go.Proofs.YtogdbjafibejdaaGreat

/- Kids that fit, in plain words. No condition. -/
namespace Go.Proofs.YtogdbjafibejdaaGreat
open Go.RowKit
set_option maxRecDepth 100000
set_option linter.unusedVariables false

theorem take_snoc {α : Type} (zs : List α) {k : Nat} (hk : k < zs.length) : zs.take (k + 1) = zs.take k ++ [zs[k]] := by
  rw [List.take_add_one, List.getElem?_eq_getElem hk]; rfl
def kidsOf (ns : List PNode) (k : Nat) : List Int := (ns[k]?.map PNode.kids).getD []
def parOf (ns : List PNode) (k : Nat) : Int := (ns[k]?.map PNode.parent).getD (-1)
theorem kidsOf_at {ns : List PNode} {k : Nat} (h : k < ns.length) : kidsOf ns k = ns[k].kids := by simp [kidsOf, h]
theorem parOf_at {ns : List PNode} {k : Nat} (h : k < ns.length) : parOf ns k = ns[k].parent := by simp [parOf, h]

def FitPre (ns : List PNode) (k : Nat) (pre : List Int) : Prop := pre.Nodup ∧ ∀ x ∈ pre, 0 ≤ x ∧ x < ns.length ∧ parOf ns x.toNat = k
def KidsFit (ns : List PNode) : Prop := ∀ k, k < ns.length → FitPre ns k (kidsOf ns k)
def BadPre (ns : List PNode) (k : Nat) (pre : List Int) : Prop :=
  ∃ (pre0 : List Int) (x : Int), pre = pre0 ++ [x] ∧ (¬ (0 ≤ x ∧ x < ns.length) ∨ ((x ∈ pre0 ∨ ∃ i, i < k ∧ x ∈ kidsOf ns i) ∨ parOf ns x.toNat ≠ k))
theorem bad_not {ns : List PNode} {k : Nat} {pre : List Int} (hk : k < ns.length) (hb : BadPre ns k pre) (hp : pre <+: kidsOf ns k) (hf : ∀ i, i < k → FitPre ns i (kidsOf ns i)) : ¬ KidsFit ns := by
  intro h
  obtain ⟨pre0, x, rfl, hx⟩ := hb
  obtain ⟨hn, hall⟩ := h k hk
  have hmem : x ∈ kidsOf ns k := hp.subset (by simp)
  have hr := hall x hmem
  rcases hx with hx | ((hx | ⟨i, hi, hx⟩) | hx)
  · exact hx ⟨hr.1, hr.2.1⟩
  · have : (pre0 ++ [x]).Nodup := hn.sublist hp.sublist
    rw [List.nodup_append] at this
    exact this.2.2 x hx x (by simp) rfl
  · have := ((hf i hi).2 x hx).2.2
    rw [hr.2.2] at this
    omega
  · exact hx hr.2.2

def Stand (ns : List PNode) (k : Nat) (pre : List Int) (j : Nat) : Prop := ((j : Int) ∈ pre ∨ ∃ i, i < k ∧ (j : Int) ∈ kidsOf ns i)
def Stands (ns : List PNode) (k : Nat) (pre : List Int) (arr : Array Value) : Prop := arr.size = 500 ∧ ∀ j, j < 500 → ∃ b, arr[j]? = some (.bool b) ∧ (b = true ↔ Stand ns k pre j)
theorem Stands.snoc {ns : List PNode} {k : Nat} {pre : List Int} {arr : Array Value} (h : Stands ns k pre arr) (j : Nat) (hj : j < 500) : Stands ns k (pre ++ [(j : Int)]) (arr.setIfInBounds j (.bool true)) := by
  refine ⟨by simpa using h.1, fun i hi => ?_⟩
  by_cases e : j = i
  · subst e
    refine ⟨true, ?_, ?_⟩
    · have := h.1; simp [this, hj]
    · simp [Stand]
  · obtain ⟨b, hb, hs⟩ := h.2 i hi
    refine ⟨b, by rw [Array.getElem?_setIfInBounds]; simp [e, hb], hs.trans ?_⟩
    have : ¬ ((i : Int) = (j : Int)) := by omega
    simp [Stand, this]
theorem Stands.next {ns : List PNode} {k : Nat} {arr : Array Value} (h : Stands ns k (kidsOf ns k) arr) : Stands ns (k + 1) [] arr := by
  refine ⟨h.1, fun i hi => ?_⟩
  obtain ⟨b, hb, hs⟩ := h.2 i hi
  refine ⟨b, hb, hs.trans ?_⟩
  simp only [Stand, List.not_mem_nil, false_or]
  constructor
  · rintro (hm | ⟨j, hj, hm⟩)
    · exact ⟨k, by omega, hm⟩
    · exact ⟨j, by omega, hm⟩
  · rintro ⟨j, hj, hm⟩
    by_cases e : j = k
    · subst e; exact .inl hm
    · exact .inr ⟨j, by omega, hm⟩
theorem fit_snoc {ns : List PNode} {k j : Nat} {pre : List Int} (h : FitPre ns k pre) (hj : j < ns.length) (hs : ¬ Stand ns k pre j) (hp : parOf ns j = k) : FitPre ns k (pre ++ [(j : Int)]) := by
  refine ⟨?_, fun x hx => ?_⟩
  · rw [List.nodup_append]
    refine ⟨h.1, by simp, fun a ha b hb e => hs (.inl ?_)⟩
    simp at hb; subst hb; subst e; exact ha
  · rcases List.mem_append.mp hx with hx | hx
    · exact h.2 x hx
    · simp at hx; subst hx; exact ⟨by omega, by omega, by simpa using hp⟩
end Go.Proofs.YtogdbjafibejdaaGreat
