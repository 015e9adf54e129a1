/- Contracts of the program's list with more behind it, and of AttrAdd. -/
import Derived.Test.YtaanfeahojfadaaGreatDoorIAttr3
import Derived.Test.YtaanfeahojfadaaGreatDoorCopyV
import Derived.Test.YtaanfeahojfadaaGreatDoorWAttr3
namespace Go.Proofs.YtaanfeahojfadaaGreatDoor
open Go.RowKit
set_option maxRecDepth 100000
set_option linter.unusedVariables false

theorem Tryz.sizeA : (Tryz.prog.info? 81).map (·.size) = some 2 := by kernel_rfl
theorem made_len (c : Array Value) (n : Nat) (h : c.size = 2) : (madeCells c (n * 2)).toList.length = n * 2 := by simp [madeCells]

set_option maxHeartbeats 2000000 in
set_option maxRecDepth 100000 in
theorem with_none {l m : Value} {rs : List (ByteArray × ByteArray)} {w : World} (h : Sv 2 w l (pairCells rs)) (hm : Sv 2 w m []) (hn : rs.length ≤ 1048576) :
    Calls Tryz.prog 148 #[l, m] w fun e w' => ∃ v', e = .returned v' ∧ w'.ownsRow w.heap.size 81 2 v' rs.length (pairCells rs) ∧ Below w.heap.size w w' := by
  have HL := (show Hid (Sv 2 w l (pairCells rs)) from h)
  have HM := (show Hid (Sv 2 w m []) from hm)
  obtain ⟨a, ca, rfl, _, _, _⟩ := h.pair
  obtain ⟨b, len, cb, rfl, hlen, _, _, _, _⟩ := hm
  obtain rfl : len = 0 := by have h2' : (0 : Nat) = len * 2 := hlen; omega
  obtain ⟨i0, hi, hz0, hz1, hz2⟩ := info_parts Tryz.infoA
  clear h hlen
  go_enter Tryz.func148, Tryz.ntmps148
  go_wp2_with (first
    | (at_make; refine wpList_make_full _ rfl (.tmp 10) (.tmp 10) 109 rfl w.heap.size 81 i0 _ 2 Tryz.underlying109 hi hz0 hz1 .i64 .i64 _ _ rs.length rfl rfl rfl rfl (by rw [hz2]; omega) (by unfold maxLen; omega) (Nat.le_refl _) ?_; intro w1 o1 g1; have b1 : Below w.heap.size w w1 := (Below.refl _ _).grown g1 (Nat.le_refl _) (fun k hk => by cases hk))
    | (refine wpList_cpV rfl (.tmp 12) (.tmp 13) 109 109 rfl 81 Tryz.underlying109 Tryz.sizeA w.heap.size w.heap.size rs.length rs.length 0 rs.length _ _ (pairCells rs) rfl rfl o1 (by omega) (HL.out.below b1) (pairCells_len rs) (pairs_oneCell _) ?_; intro w2 o2 g2; have b2 := b1.grown g2 b1.size (fun k hk => by cases hk; exact Nat.le_refl _))
    | (refine wpList_cpZ rfl (.tmp 18) (.tmp 19) 109 28 rfl 81 Tryz.underlying109 Tryz.sizeA w.heap.size w.heap.size rs.length rs.length _ _ rfl rfl o2 (HM.out.below b2) ?_))
  go_ret
  refine ⟨_, rfl, ?_, b2⟩
  have e : (madeCells (Value.agg #[Value.string ⟨#[]⟩, Value.string ⟨#[]⟩]).cells (rs.length * 2)).toList.length = rs.length * 2 := by rw [made_len _ _ rfl]
  rw [Nat.zero_mul, Nat.zero_add, List.take_zero, List.nil_append, List.drop_eq_nil_of_le (by omega), List.append_nil] at o2
  exact o2

set_option maxHeartbeats 2000000 in
set_option maxRecDepth 100000 in
theorem with_some {l m : Value} {rs qs : List (ByteArray × ByteArray)} {w : World} (h : Sv 2 w l (pairCells rs)) (hm : Sv 2 w m (pairCells qs)) (hn : rs.length ≤ 1048576) (hq : qs.length ≤ 1048576) (hq0 : 0 < qs.length) :
    Calls Tryz.prog 148 #[l, m] w fun e w' => ∃ v', e = .returned v' ∧ w'.ownsRow w.heap.size 81 2 v' (rs ++ qs).length (pairCells (rs ++ qs)) ∧ Below w.heap.size w w' := by
  have HL := (show Hid (Sv 2 w l (pairCells rs)) from h)
  have HM := (show Hid (Sv 2 w m (pairCells qs)) from hm)
  obtain ⟨a, ca, rfl, _, _, _⟩ := h.pair
  obtain ⟨b, cb, rfl, _, _, _⟩ := hm.pair
  obtain ⟨i0, hi, hz0, hz1, hz2⟩ := info_parts Tryz.infoA
  obtain ⟨N, hN⟩ : ∃ N, N = rs.length + qs.length := ⟨_, rfl⟩
  have hNi : (rs.length : Int) + (qs.length : Int) = (N : Int) := by omega
  have hNb : N ≤ 2097152 := by omega
  have hNr : ¬ N = rs.length := by omega
  have hNl : rs.length ≤ N := by omega
  have HN := (show Hid (N = rs.length + qs.length) from hN)
  clear h hm hN
  go_enter Tryz.func148, Tryz.ntmps148
  go_wp2_with (first
    | (at_make; refine wpList_make_full _ rfl (.tmp 10) (.tmp 10) 109 rfl w.heap.size 81 i0 _ 2 Tryz.underlying109 hi hz0 hz1 .i64 .i64 _ _ N rfl rfl rfl rfl (by rw [hz2]; omega) (by unfold maxLen; omega) (Nat.le_refl _) ?_; intro w1 o1 g1; have b1 : Below w.heap.size w w1 := (Below.refl _ _).grown g1 (Nat.le_refl _) (fun k hk => by cases hk))
    | (refine wpList_cpV rfl (.tmp 12) (.tmp 13) 109 109 rfl 81 Tryz.underlying109 Tryz.sizeA w.heap.size w.heap.size N N 0 rs.length _ _ (pairCells rs) rfl rfl o1 (by have := HN.out; omega) (HL.out.below b1) (pairCells_len rs) (pairs_oneCell _) ?_; intro w2 o2 g2; have b2 := b1.grown g2 b1.size (fun k hk => by cases hk; exact Nat.le_refl _))
    | (refine wpList_cpV rfl (.tmp 18) (.tmp 19) 109 28 rfl 81 Tryz.underlying109 Tryz.sizeA w.heap.size w.heap.size N N rs.length qs.length _ _ (pairCells qs) rfl rfl o2 (by have := HN.out; omega) (HM.out.below b2) (pairCells_len qs) (pairs_oneCell _) ?_; intro w3 o3 g3; have b3 := b2.grown g3 b2.size (fun k hk => by cases hk; exact Nat.le_refl _)))
  go_ret
  refine ⟨_, rfl, ?_, b3⟩
  have e : (madeCells (Value.agg #[Value.string ⟨#[]⟩, Value.string ⟨#[]⟩]).cells (N * 2)).toList.length = N * 2 := by rw [made_len _ _ rfl]
  have lr := pairCells_len rs
  have lq := pairCells_len qs
  have hN := HN.out
  generalize (madeCells (Value.agg #[Value.string ⟨#[]⟩, Value.string ⟨#[]⟩]).cells (N * 2)).toList = Z at o3 e
  have e3 : ((Z.take (0 * 2) ++ pairCells rs ++ Z.drop (0 * 2 + rs.length * 2)).take (rs.length * 2) ++ pairCells qs ++ (Z.take (0 * 2) ++ pairCells rs ++ Z.drop (0 * 2 + rs.length * 2)).drop (rs.length * 2 + qs.length * 2)) = pairCells (rs ++ qs) := by
    rw [Nat.zero_mul, Nat.zero_add, List.take_zero, List.nil_append, List.take_append_of_le_length (by omega), List.take_of_length_le (by omega), List.drop_eq_nil_of_le (by simp; omega), List.append_nil]
    simp [pairCells]
  rw [e3] at o3
  rw [List.length_append, ← hN]
  exact o3
end Go.Proofs.YtaanfeahojfadaaGreatDoor
