/- The program's iterators over kids, inside the fence. No condition. -/
import Derived.RangeFuncNested
import Derived.RangeFuncBound
import Derived.RangeFuncCalls
import Derived.RangeFuncLeaves
import Derived.Shelf.Abstract
import Derived.Shelf.RegionOpen
import Derived.WalkKit
import Derived.OwnWalkIn
import Derived.TacticsInMore
import Derived.LoopNIn
import Derived.LoopIn
import Derived.Sort.QuietIn
import Derived.Test.YtogdbjafibejdaaGreatX16
namespace Go.Proofs.YtogdbjafibejdaaGreat
open Go.RowKit Go.Shelf
set_option maxRecDepth 100000
set_option linter.unusedVariables false
attribute [local go_sem] Oper.semAt_some

set_option maxHeartbeats 400000 in
theorem kids_in (n : Nat) (pa : Option Addr) (k : Int) (w : World) :
    CallsIn Fence.wide n Tryz.prog 113 #[.pointer pa, .int .i64 k] w fun e w' => e = .returned (.func (.func 158) #[] #[.pointer (some ⟨w.heap.size, 0, none⟩), .pointer (some ⟨w.heap.size + 1, 0, none⟩)]) ∧ w' = (w.alloc (.cells #[.pointer pa] 64)).alloc (.cells #[.int .i64 k] 3) := by
  refine callsIn_of_wp Tryz.func113 rfl trivial ?_ rfl
  simp only [Tryz.ntmps113, List.size_toArray, List.length_cons, List.length_nil, Nat.reduceAdd, Nat.reduceSub, Array.replicate_succ, Array.replicate_zero, List.push_toArray, List.append_toArray, List.nil_append, List.cons_append]
  gi_wp2
  go_ret
  exact ⟨rfl, rfl⟩

set_option maxHeartbeats 800000 in
/-- The closure: each kid in its order, for every loop body that keeps what lay below n0. -/
theorem kids1_in {α : Type} (enc : α → Int) (n : Nat) (l Ba Bt A : Nat) (w0 W : World) (v : Value) (ns : List PNode) (k : Nat) (hk : k < ns.length)
    (zs : List α) (hz : zs.map enc = ns[k].kids) (hreach : ns.length ≤ 1048576) (J Jx : List α → World → Prop) (hJ : AbidesFrom W.heap.size J) (hnodes : NodesAt w0 v ns)
    (hY : ∀ pre x W, J pre W → pre.length < zs.length → YieldAt Fence.wide (n - 1) Tryz.prog l #[.int .i64 (enc x)] W fun e W' =>
      (e = .returned (.bool true) ∧ J (pre ++ [x]) W' ∧ Below w0.heap.size W W') ∨ (e = .returned (.bool false) ∧ Jx (pre ++ [x]) W'))
    (hW : Below w0.heap.size w0 W) (hBa : W.cell? ⟨Ba, 0, none⟩ = some (.pointer (some ⟨A, 0, none⟩))) (hBt : W.cell? ⟨Bt, 0, none⟩ = some (.int .i64 k)) (hA : W.cell? ⟨A, 0, none⟩ = some v) (h0 : J [] W) :
    CallsIn Fence.wide n Tryz.prog 158 #[.func (.yield l) #[] #[], .pointer (some ⟨Ba, 0, none⟩), .pointer (some ⟨Bt, 0, none⟩)] W fun e W' => (∃ v, e = .returned v) ∧
      ((∃ ys, ys = zs ∧ J ys W') ∨ (∃ pre, pre <+: zs ∧ Jx pre W')) := by
  have hn1 := hnodes.below hW
  obtain ⟨a, cap, rfl, hc1, hc2, hcs⟩ := hnodes.slice
  obtain ⟨b, off, av, kv, rfl, hblt, _, _, _, _, _, c5, _, hsl⟩ := hcs k hk
  have c5' := (hW.cell (p := ⟨b, off + k * 6 + 5, none⟩) hblt).trans c5
  obtain ⟨ka, kcap, rfl, hk1, hk2, _, hkc⟩ := hsl
  have hkm : kcap < 9223372036854775808 := Nat.lt_of_le_of_lt hk2 (by decide)
  have HKC := (show Hid (Cells .i64 w0 ka ns[k].kids) from hkc)
  have HZ := (show Hid (zs.map enc = ns[k].kids) from hz)
  have hzl : ns[k].kids.length = zs.length := by rw [← hz]; simp
  rw [hzl] at c5' hk1
  have HW := (show Hid (Below w0.heap.size w0 W) from hW)
  clear hcs hkc c5 hn1 hW hz hnodes
  refine callsIn_of_wp Tryz.func158 rfl trivial ?_ rfl
  simp only [Tryz.ntmps158, List.size_toArray, List.length_cons, List.length_nil, Nat.reduceAdd, Nat.reduceSub, Array.replicate_succ, Array.replicate_zero, List.push_toArray, List.append_toArray, List.nil_append, List.cons_append]
  gi_wp2
  gi_quiet (fail)
  have h0' : J [] (W.drewN nq) := hJ [] W (W.drewN nq) none h0 ⟨rfl, rfl, rfl, Nat.le_refl _, fun _ _ _ => rfl⟩ (fun r e => by cases e)
  have hB' : Below w0.heap.size w0 (W.drewN nq) := ⟨HW.out.os, HW.out.tape, HW.out.output, HW.out.size, HW.out.block⟩
  gi_wp2
  gi_loopw [15] (fun i wr => ∃ j : Nat, j ≤ zs.length ∧ i = .int .i64 j ∧ J (zs.take j) wr ∧ Below w0.heap.size w0 wr) (fun i _ => zs.length - (intOf i).toNat)
  case atStart => exact ⟨0, Nat.zero_le _, rfl, by simpa using h0', hB'⟩
  case round =>
    obtain ⟨j, hj, rfl, hJs, hnx⟩ := hrel
    by_cases hlt : j < zs.length
    · have hz := HZ.out
      have hlt' : j < ns[k].kids.length := by omega
      obtain ⟨kb, ko, rfl, ck⟩ := HKC.out j hlt'
      have he : ns[k].kids.getD j 0 = enc zs[j] := by
        have : (ns[k].kids)[j]? = some (enc zs[j]) := by rw [← hz]; simp [hlt]
        simp [List.getD_eq_getElem?_getD, this]
      rw [he] at ck
      have hkb : kb < w0.heap.size := by
        by_cases h : kb < w0.heap.size
        · exact h
        · exfalso; simp [World.cell?, Array.getElem?_eq_none (Nat.le_of_not_lt h)] at ck
      have ck' := (hnx.cell (p := ⟨kb, ko + j, none⟩) hkb).trans ck
      obtain ⟨fn, tmps, assign, body, hy, hR⟩ := hY _ zs[j] wr hJs (by simp; omega)
      have HP : Hid (zs.take j ++ [zs[j]] = zs.take (j + 1)) := (take_snoc zs hlt).symm
      clear hz hlt' he ck
      gi_wp2
      refine ⟨fun h => (by cases h), ?_⟩
      refine hR.mono ?_
      rintro e W3 (⟨rfl, hJ3, hk3⟩ | ⟨rfl, hJx3⟩)
      · gi_wp2
        go_roundw
        case rel => exact ⟨j + 1, by omega, by go_num, by rw [← HP.out]; exact hJ3, hnx.trans hk3⟩
        case measure => simp [intOf]; omega
      · gi_wp2
        refine bodyPost_ret (results_none rfl _ _ _) rfl ?_
        exact ⟨⟨_, rfl⟩, .inr ⟨_, by rw [HP.out]; exact List.take_prefix _ _, hJx3⟩⟩
    · obtain rfl : j = zs.length := by omega
      gi_wp2
      go_end0
      exact ⟨⟨_, rfl⟩, .inl ⟨_, List.take_length, hJs⟩⟩

/-- What kids hands back tells all kids, in their order, or a part from the beginning on. -/
theorem kids_stops {α : Type} (enc : α → Int) (n : Nat) (Ba Bt A : Nat) (w0 w : World) (v : Value) (ns : List PNode) (k : Nat) (hk : k < ns.length)
    (zs : List α) (hz : zs.map enc = ns[k].kids) (hreach : ns.length ≤ 1048576) (hnodes : NodesAt w0 v ns) (hw : Below w0.heap.size w0 w)
    (hBa : Ba < w.heap.size) (hBt : Bt < w.heap.size) (hA : A < w0.heap.size)
    (ca : w.cell? ⟨Ba, 0, none⟩ = some (.pointer (some ⟨A, 0, none⟩))) (ct : w.cell? ⟨Bt, 0, none⟩ = some (.int .i64 k)) (cA : w0.cell? ⟨A, 0, none⟩ = some v) :
    SeqStopsK Fence.wide n Tryz.prog 158 #[.pointer (some ⟨Ba, 0, none⟩), .pointer (some ⟨Bt, 0, none⟩)] (fun x : α => #[Value.int .i64 (enc x)]) (Below w0.heap.size) (fun ys => ys = zs) (fun pre => pre <+: zs) zs.length w := fun l J Jx W hW hJ _ hY h0 =>
  have hb : Below w0.heap.size w0 W := hw.trans (hW.mono hw.size)
  kids1_in enc n l Ba Bt A w0 W v ns k hk zs hz hreach J Jx hJ hnodes hY hb ((hW.cell (p := ⟨Ba, 0, none⟩) hBa).trans ca) ((hW.cell (p := ⟨Bt, 0, none⟩) hBt).trans ct) ((hb.cell (p := ⟨A, 0, none⟩) hA).trans cA) h0
end Go.Proofs.YtogdbjafibejdaaGreat
