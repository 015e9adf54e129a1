/- (trial) slices.Equal of integers and of attributes, nodeSame, slices.EqualFunc with it: each tells whether two are alike. No condition. -/
import Derived.Test.YtogdbjafibejdaaGreatY28
import Derived.Test.YtogdbjafibejdaaGreatY4
import Derived.Test.YtogdbjafibejdaaGreatY30
import Derived.Test.YtogdbjafibejdaaGreatY18
import Derived.Laws.StructEq
import Derived.Deep.RegionHeld3
import Derived.Test.YtogdbjafibejdaaGreatY20
import Derived.Test.YtogdbjafibejdaaGreatY13
import Derived.Test.YtogdbjafibejdaaGreatY10
import Derived.Test.YtogdbjafibejdaaGreatY31
namespace Go.Proofs.YtogdbjafibejdaaGreat
open Go.RowKit
set_option maxRecDepth 100000
set_option linter.unusedVariables false

set_option maxHeartbeats 800000 in
set_option maxRecDepth 100000 in
theorem iequalInts {v u : Value} {xs ys : List Int} {w : World} (h : Sl .i64 w v xs) (k : Sl .i64 w u ys) (hn : xs.length ≤ 1048576) :
    Calls Tryz.prog 115 #[v, u] w fun e w' => e = .returned (.bool (decide (xs = ys))) ∧ Below w.heap.size w w' := by
  obtain ⟨a, ca, rfl, h1, h2, h3, h4⟩ := h
  obtain ⟨b, cb, rfl, k1, k2, k3, k4⟩ := k
  have HX := (show Hid (Cells .i64 w a xs) from h4)
  have HY := (show Hid (Cells .i64 w b ys) from k4)
  clear h4 k4 h3 k3
  by_cases hl : xs.length = ys.length
  · have hli : (xs.length : Int) = (ys.length : Int) := by omega
    go_enter Tryz.func115, Tryz.ntmps115
    go_wp2
    go_loopw [13] (fun i wr => ∃ k : Nat, k ≤ xs.length ∧ i = .int .i64 k ∧ Hid (xs.take k = ys.take k) ∧ Hid (Below w.heap.size w wr)) (fun i _ => xs.length - (intOf i).toNat)
    case atStart => exact ⟨0, Nat.zero_le _, rfl, (show _ = _ by simp), Below.refl _ _⟩
    case round =>
      obtain ⟨k, hks, rfl, HT, HB⟩ := hrel
      by_cases hlt : k < xs.length
      · have hlt2 : k < ys.length := by omega
        obtain ⟨b1, o1, rfl, c1⟩ := HX.out k hlt
        obtain ⟨b2, o2, rfl, c2⟩ := HY.out k hlt2
        replace c1 := (HB.out.cell (p := ⟨b1, o1 + k, none⟩) (lt_of_cell6 c1)).trans c1
        replace c2 := (HB.out.cell (p := ⟨b2, o2 + k, none⟩) (lt_of_cell6 c2)).trans c2
        have hg1 : xs.getD k 0 = xs[k] := by simp [List.getD_eq_getElem?_getD, hlt]
        have hg2 : ys.getD k 0 = ys[k] := by simp [List.getD_eq_getElem?_getD, hlt2]
        have hki : (k : Int) < (xs.length : Int) := by omega
        have hki2 : (k : Int) < (ys.length : Int) := by omega
        by_cases he : xs[k] = ys[k]
        · have HS := (show Hid (xs.take (k + 1) = ys.take (k + 1)) from (show _ = _ by rw [List.take_succ_eq_append_getElem hlt, List.take_succ_eq_append_getElem hlt2, HT.out, he]))
          rw [hg1] at c1
          rw [hg2, ← he] at c2
          obtain ⟨x, hx⟩ : ∃ x, x = xs[k] := ⟨_, rfl⟩
          rw [← hx] at c1 c2
          clear he hg1 hg2 hx
          go_wp2_with fail
          refine region_tail 8 (by kernel_rfl) (by kernel_rfl) ?_
          intro x1 K1 hX1 hK1
          have ne := One.any x1
          have g1 := fun n : One x1 => (show n.w.cell? ⟨b1, o1 + k, none⟩ = some (.int .i64 x) by rw [n.eq, hX1.out]; exact c1)
          have g2 := fun n : One x1 => (show n.w.cell? ⟨b2, o2 + k, none⟩ = some (.int .i64 x) by rw [n.eq, hX1.out]; exact c2)
          simp only [List.take_succ_cons, List.take_zero, List.drop_succ_cons, List.drop_zero] at hK1 ⊢
          repeat (go_big_quiet_step (fail))
          refine wpQuiet_nil ?_
          refine hK1.out _ ?_
          have BX := (show Hid (Below w.heap.size w x1) from by rw [hX1.out]; exact HB.out.trans (below_drewN 1))
          clear hK1 ne hX1 g1 g2 c1 c2
          go_wp2
          go_roundw
          case rel => exact ⟨k + 1, by omega, by go_num, HS.out, BX.out⟩
          case measure => simp [intOf]; omega
        · have hne : ¬ xs = ys := fun e => he (by subst e; rfl)
          have HD := (show Hid (decide (xs = ys) = false) from decide_eq_false hne)
          rw [hg1] at c1
          rw [hg2] at c2
          obtain ⟨x, hx⟩ : ∃ x, x = xs[k] := ⟨_, rfl⟩
          obtain ⟨y, hy⟩ : ∃ y, y = ys[k] := ⟨_, rfl⟩
          rw [← hx] at c1 he
          rw [← hy] at c2 he
          clear hne hg1 hg2 hx hy
          go_wp2_with fail
          refine region_tail 8 (by kernel_rfl) (by kernel_rfl) ?_
          intro x1 K1 hX1 hK1
          have ne := One.any x1
          have g1 := fun n : One x1 => (show n.w.cell? ⟨b1, o1 + k, none⟩ = some (.int .i64 x) by rw [n.eq, hX1.out]; exact c1)
          have g2 := fun n : One x1 => (show n.w.cell? ⟨b2, o2 + k, none⟩ = some (.int .i64 y) by rw [n.eq, hX1.out]; exact c2)
          simp only [List.take_succ_cons, List.take_zero, List.drop_succ_cons, List.drop_zero] at hK1 ⊢
          repeat (go_big_quiet_step (fail))
          refine wpQuiet_nil ?_
          refine hK1.out _ ?_
          have BX := (show Hid (Below w.heap.size w x1) from by rw [hX1.out]; exact HB.out.trans (below_drewN 1))
          clear hK1 ne hX1 g1 g2 c1 c2
          go_wp2
          go_ret
          exact ⟨by rw [HD.out]; rfl, BX.out⟩
      · obtain rfl : k = xs.length := by omega
        have HD := (show Hid (decide (xs = ys) = true) from decide_eq_true (by have := HT.out; rwa [List.take_length, hl, List.take_length] at this))
        go_wp2
        go_ret
        exact ⟨by rw [HD.out]; rfl, HB.out⟩
  · have hli : ¬ (xs.length : Int) = (ys.length : Int) := by omega
    have hne : ¬ xs = ys := fun e => hl (by rw [e])
    rw [decide_eq_false hne]
    go_enter Tryz.func115, Tryz.ntmps115
    go_wp2
    go_ret
    exact ⟨rfl, Below.refl _ _⟩
def pairNeA (b c x y : ByteArray) : Bool := !decide ((b, c) = (x, y))
theorem attr_neq2 (b c x y : ByteArray) (w : World) : (binOp .neq 115 (.agg #[.string b, .string c]) (.agg #[.string x, .string y])).run Tryz.prog w = .ok (.bool (pairNeA b c x y)) w := by
  unfold pairNeA
  have hu := Tryz.underlying115
  rw [run_neq_struct, show (10000 : Nat) = 9999 + 1 from rfl, run_equalIn_agg w 9999 115 _ _ (by kernel_rfl) (by kernel_rfl)]
  simp only [Program.fieldsOf, hu]
  have h2 := fun (x y : ByteArray) (w : World) => run_equalIn_string (P := Tryz.prog) w 9998 9 x y Tryz.underlying9
  have g9 := Tryz.isAgg9
  by_cases e1 : b = x
  · by_cases e2 : c = y
    · simp [Op.eqFields, part, h2, g9, Result.andThen, e1, e2]
    · simp [Op.eqFields, part, h2, g9, Result.andThen, toList_eq_iff, e1, e2]
  · simp [Op.eqFields, part, h2, g9, Result.andThen, toList_eq_iff, e1]
theorem take_neA {ps qs : List (ByteArray × ByteArray)} {k : Nat} (h1 : k < ps.length) (h2 : k < qs.length) (h : ps[k] ≠ qs[k]) : ps ≠ qs := by
  rintro rfl
  exact h rfl
theorem take_eqA {ps qs : List (ByteArray × ByteArray)} {k : Nat} (h1 : k < ps.length) (h2 : k < qs.length) (h : ps[k] = qs[k]) (ht : ps.take k = qs.take k) : ps.take (k + 1) = qs.take (k + 1) := by
  rw [List.take_succ_eq_append_getElem h1, List.take_succ_eq_append_getElem h2, ht, h]

set_option maxHeartbeats 1000000 in
set_option maxRecDepth 100000 in
theorem iequalAttrs {a b : Value} {ps qs : List (ByteArray × ByteArray)} {w : World} (h1 : Sv 2 w a (pairCells ps)) (h2 : Sv 2 w b (pairCells qs)) (hn : ps.length ≤ 1099511627776) (hm : qs.length ≤ 1099511627776) :
    Calls Tryz.prog 114 #[a, b] w fun e w' => e = .returned (.bool (decide (ps = qs))) ∧ Below w.heap.size w w' := by
  obtain ⟨aa, ac, rfl, _, _, hca⟩ := h1.pair
  obtain ⟨ba, bc, rfl, _, _, hcb⟩ := h2.pair
  have HA := (show Hid _ from hca)
  have HBc := (show Hid _ from hcb)
  clear h1 h2 hca hcb
  by_cases hl : ps.length = qs.length
  · have HLn := (show Hid (ps.length = qs.length) from hl)
    rw [← hl]
    clear hm hl
    have hne := attr_neq2
    go_enter Tryz.func114, Tryz.ntmps114
    go_wp2_with fail
    go_loopw [13] (fun i wr => ∃ k : Nat, k ≤ ps.length ∧ i = .int .i64 k ∧ Hid (ps.take k = qs.take k ∧ Below w.heap.size w wr)) (fun i _ => ps.length - (intOf i).toNat)
    case atStart => exact ⟨0, Nat.zero_le _, rfl, rfl, Below.refl _ _⟩
    case round =>
      obtain ⟨k, hk, rfl, B⟩ := hrel
      by_cases hlt : k < ps.length
      · have hlq : k < qs.length := by have := HLn.out; omega
        obtain ⟨b1, o1, rfl, l1, c1, c2⟩ := HA.out k hlt
        obtain ⟨b2, o2, rfl, l2, d1, d2⟩ := HBc.out k hlq
        have TN := (show Hid (ps[k] ≠ qs[k] → ps ≠ qs) from take_neA hlt hlq)
        have TE := (show Hid (ps[k] = qs[k] → ps.take (k + 1) = qs.take (k + 1)) from fun e => take_eqA hlt hlq e B.out.1)
        obtain ⟨x, hx⟩ : ∃ x, x = ps[k] := ⟨_, rfl⟩
        obtain ⟨y, hy⟩ : ∃ y, y = qs[k] := ⟨_, rfl⟩
        rw [← hx] at c1 c2 TN TE
        rw [← hy] at d1 d2 TN TE
        clear hx hy hlq
        obtain ⟨xu, xb⟩ := x
        obtain ⟨yu, yb⟩ := y
        simp only at c1 c2 d1 d2
        have HQ := (show Hid (∀ W, Below w.heap.size w W → W.cell? ⟨b1, o1 + k * 2, none⟩ = some (.string xu) ∧ W.cell? ⟨b1, o1 + k * 2 + 1, none⟩ = some (.string xb) ∧ W.cell? ⟨b2, o2 + k * 2, none⟩ = some (.string yu) ∧ W.cell? ⟨b2, o2 + k * 2 + 1, none⟩ = some (.string yb)) from fun W b => ⟨(b.cell (p := ⟨b1, o1 + k * 2, none⟩) l1).trans c1, (b.cell (p := ⟨b1, o1 + k * 2 + 1, none⟩) l1).trans c2, (b.cell (p := ⟨b2, o2 + k * 2, none⟩) l2).trans d1, (b.cell (p := ⟨b2, o2 + k * 2 + 1, none⟩) l2).trans d2⟩)
        clear c1 c2 d1 d2
        obtain ⟨w4, hw4⟩ : ∃ y, y = wr.drew := ⟨_, rfl⟩
        have B4 : Hid (Below w.heap.size w w4) := (show Below w.heap.size w w4 by rw [hw4]; exact B.out.2.trans (below_drewN 1))
        have Q4 := (show Hid _ from HQ.out _ B4.out)
        rw [hw4] at Q4
        go_wp2_with fail
        go_region_held3 (fun w' => w'.cell? ⟨b1, o1 + k * 2, none⟩ = some (.string xu) ∧ w'.cell? ⟨b1, o1 + k * 2 + 1, none⟩ = some (.string xb) ∧ w'.cell? ⟨b2, o2 + k * 2, none⟩ = some (.string yu) ∧ w'.cell? ⟨b2, o2 + k * 2 + 1, none⟩ = some (.string yb)) (first | exact Q4.out) (fail)
        rw [← hw4]
        clear hw4 Q4
        by_cases he : (xu, xb) = (yu, yb)
        · rw [show pairNeA xu xb yu yb = false by unfold pairNeA; rw [decide_eq_true he]; rfl]
          have HE := (show Hid _ from TE.out he)
          clear he
          go_wp2
          go_roundw
          case rel => exact ⟨k + 1, by omega, by go_num, HE.out, B4.out⟩
          case measure => simp [intOf]; omega
        · rw [show pairNeA xu xb yu yb = true by unfold pairNeA; rw [decide_eq_false he]; rfl]
          have HE := (show Hid _ from TN.out he)
          clear he
          go_wp2
          go_ret
          exact ⟨ret_bool (by rw [decide_eq_false HE.out]), B4.out⟩
      · have e : ps = qs := by
          have h1 := B.out.1
          have hk' : k = ps.length := by omega
          rw [hk', List.take_length, HLn.out, List.take_length] at h1
          exact h1
        have HE := (show Hid _ from e)
        clear e
        go_wp2
        go_ret
        exact ⟨ret_bool (by rw [decide_eq_true HE.out]), B.out.2⟩
  · have HE : Hid (ps ≠ qs) := fun e => hl (by rw [e])
    have hl' : ((ps.length : Int) != (qs.length : Int)) = true := by simp; omega
    go_enter Tryz.func114, Tryz.ntmps114
    go_wp2
    go_ret
    exact ⟨ret_bool (by rw [decide_eq_false HE.out]), Below.refl _ _⟩
end Go.Proofs.YtogdbjafibejdaaGreat

/- The program's functions on a row of open elements: what a row is. No condition. -/
namespace Go.Proofs.YtogdbjafibejdaaGreat
open Go.RowKit
set_option maxRecDepth 100000
set_option linter.unusedVariables false

end Go.Proofs.YtogdbjafibejdaaGreat

/- The specification's StackOk, OpenAt and PopTo. No condition. -/
namespace Go.Proofs.YtogdbjafibejdaaGreat
open Go.RowKit
set_option maxRecDepth 100000
set_option linter.unusedVariables false
end Go.Proofs.YtogdbjafibejdaaGreat

/- The specification's l6Take of a node below none, and l6Hang of such a node. No condition. -/
namespace Go.Proofs.YtogdbjafibejdaaGreat
open Go.RowKit
set_option maxRecDepth 100000
set_option linter.unusedVariables false
def kidQ (q : PNode × (Value × Value)) (ks : List Int) (kv : Value) : PNode × (Value × Value) := (⟨q.1.kind, q.1.name, q.1.attrs, q.1.text, q.1.parent, ks⟩, (q.2.1, kv))
def parQ (q : PNode × (Value × Value)) (x : Int) : PNode × (Value × Value) := (⟨q.1.kind, q.1.name, q.1.attrs, q.1.text, x, q.1.kids⟩, q.2)
theorem nodeCells_set (qs : List (PNode × (Value × Value))) (k : Nat) (hk : k < qs.length) (q : PNode × (Value × Value)) (j : Nat) (hj : j < 6) (u : Value) (h : nodeRow q.1 q.2 = (nodeRow qs[k].1 qs[k].2).set j u) :
    nodeCells (qs.set k q) = (nodeCells qs).set (k * 6 + j) u := by
  induction qs generalizing k with
  | nil => simp at hk
  | cons p qs ih =>
    cases k with
    | zero =>
      simp only [nodeCells, List.set_cons_zero, List.flatMap_cons, Nat.zero_mul, Nat.zero_add, List.getElem_cons_zero] at h ⊢
      rw [h, List.set_append_left _ _ (by simp [nodeRow]; omega)]
    | succ k =>
      have := ih k (by simpa using hk) (by simpa using h)
      simp only [nodeCells, List.set_cons_succ, List.flatMap_cons] at this ⊢
      rw [this, List.set_append_right _ _ (by simp [nodeRow]; omega)]
      congr 2
      simp [nodeRow]; omega
end Go.Proofs.YtogdbjafibejdaaGreat

/- The text below a node to which a text is written, in plain words. No condition. -/
namespace Go.Proofs.YtogdbjafibejdaaGreat
open Go.RowKit
set_option maxRecDepth 100000
set_option linter.unusedVariables false
end Go.Proofs.YtogdbjafibejdaaGreat

/- append in place: of the other rows of integers all stay rows of integers. No condition. -/
namespace Go.Proofs.YtogdbjafibejdaaGreat
open Go.RowKit
set_option maxRecDepth 100000
set_option linter.unusedVariables false
end Go.Proofs.YtogdbjafibejdaaGreat

/- nodeSame and slices.EqualFunc with it: whether two nodes, two rows of nodes are alike. No condition. -/
namespace Go.Proofs.YtogdbjafibejdaaGreat
open Go.RowKit
set_option maxRecDepth 100000
set_option linter.unusedVariables false

def sameB (n m : PNode) : Bool := decide (n.kind = m.kind) && (decide (n.name = m.name) && (decide (n.attrs = m.attrs) && (decide (n.text = m.text) && (decide (n.parent = m.parent) && decide (n.kids = m.kids)))))
theorem sameB_iff {n m : PNode} : sameB n m = true ↔ n = m := by
  cases n; cases m
  simp [sameB]
def nodeV (n : PNode) (p : Value × Value) : Value := .agg (nodeRow n p).toArray

set_option maxHeartbeats 800000 in
set_option maxRecDepth 100000 in
theorem inodeSame_any {w : World} {n m : PNode} {a1 a2 k1 k2 : Value} (ha1 : Sv 2 w a1 (pairCells n.attrs)) (ha2 : Sv 2 w a2 (pairCells m.attrs)) (hk1 : Sl .i64 w k1 n.kids) (hk2 : Sl .i64 w k2 m.kids) (hn : NodeFit n) (hm : NodeFit m) :
    Calls Tryz.prog 63 #[nodeV n (a1, k1), nodeV m (a2, k2)] w fun e w' => e = .returned (.bool (sameB n m)) ∧ Below w.heap.size w w' := by
  have CA := (show Hid (∀ W, Below w.heap.size w W → Calls Tryz.prog 114 #[a1, a2] W fun e w' => e = .returned (.bool (decide (n.attrs = m.attrs))) ∧ Below W.heap.size W w') from fun W b => iequalAttrs (ha1.below b) (ha2.below b) (by have := hn.rs; omega) (by have := hm.rs; omega))
  have CK := (show Hid (∀ W, Below w.heap.size w W → Calls Tryz.prog 115 #[k1, k2] W fun e w' => e = .returned (.bool (decide (n.kids = m.kids))) ∧ Below W.heap.size W w') from fun W b => iequalInts (hk1.below b) (hk2.below b) hn.kl)
  obtain ⟨y1, y2, y3, rfl, _⟩ := ha1
  obtain ⟨z1, z2, z3, rfl, _⟩ := ha2
  obtain ⟨p1, p3, rfl, _⟩ := hk1
  obtain ⟨q1, q3, rfl, _⟩ := hk2
  obtain ⟨nk, nn, na, nt, np, ns⟩ := n
  obtain ⟨mk, mn, ma, mt, mp, ms⟩ := m
  simp only [nodeV, nodeRow] at CA CK ⊢
  have bb : Below w.heap.size w ((w.alloc (.cells #[.int .i64 nk, .string nn, .slice y1 y2 y3, .string nt, .int .i64 np, .slice p1 ns.length p3] 36)).alloc (.cells #[.int .i64 mk, .string mn, .slice z1 z2 z3, .string mt, .int .i64 mp, .slice q1 ms.length q3] 36)) := ((Below.refl _ w).alloc (Nat.le_refl _) _).alloc (by simp) _
  obtain ⟨w2, hw2⟩ : ∃ x, x = ((w.alloc (.cells #[.int .i64 nk, .string nn, .slice y1 y2 y3, .string nt, .int .i64 np, .slice p1 ns.length p3] 36)).alloc (.cells #[.int .i64 mk, .string mn, .slice z1 z2 z3, .string mt, .int .i64 mp, .slice q1 ms.length q3] 36)) := ⟨_, rfl⟩
  have B2 := (show Hid (Below w.heap.size w w2) from by rw [hw2]; exact bb)
  have gN : w2.heap[w.heap.size]? = some (.cells #[.int .i64 nk, .string nn, .slice y1 y2 y3, .string nt, .int .i64 np, .slice p1 ns.length p3] 36 (0, 0)) := by rw [hw2, Below.heap_alloc _ _ _ (by simp)]; exact World.alloc_heap_new _ _
  have gM : w2.heap[w.heap.size + 1]? = some (.cells #[.int .i64 mk, .string mn, .slice z1 z2 z3, .string mt, .int .i64 mp, .slice q1 ms.length q3] 36 (0, 0)) := by
    rw [hw2]
    have := World.alloc_heap_new (w.alloc (.cells #[.int .i64 nk, .string nn, .slice y1 y2 y3, .string nt, .int .i64 np, .slice p1 ns.length p3] 36)) (.cells #[.int .i64 mk, .string mn, .slice z1 z2 z3, .string mt, .int .i64 mp, .slice q1 ms.length q3] 36)
    rwa [World.size_alloc] at this
  have HC := (show Hid (∀ W, Below w2.heap.size w2 W → (W.cell? ⟨w.heap.size, 3, none⟩ = some (.string nt) ∧ W.cell? ⟨w.heap.size, 4, none⟩ = some (.int .i64 np) ∧ W.cell? ⟨w.heap.size, 5, none⟩ = some (.slice p1 ns.length p3)) ∧ (W.cell? ⟨w.heap.size + 1, 3, none⟩ = some (.string mt) ∧ W.cell? ⟨w.heap.size + 1, 4, none⟩ = some (.int .i64 mp) ∧ W.cell? ⟨w.heap.size + 1, 5, none⟩ = some (.slice q1 ms.length q3))) from fun W b => by
    have e1 := (b.block _ (blk_lt gN)).trans gN
    have e2 := (b.block _ (blk_lt gM)).trans gM
    refine ⟨⟨?_, ?_, ?_⟩, ?_, ?_, ?_⟩ <;> simp only [World.cell?, e1, e2] <;> rfl)
  clear bb gN gM
  by_cases h1 : nk = mk
  · subst h1
    by_cases h2 : nn = mn
    · subst h2
      go_enter Tryz.func63, Tryz.ntmps63
      go_wp2_with fail
      go_at_call 114
      rw [← hw2]
      refine Calls.mono (CA.out _ B2.out) ?_
      rintro e w3 ⟨rfl, b3⟩
      clear hw2
      obtain ⟨⟨c3, c4, c5⟩, d3, d4, d5⟩ := HC.out w3 b3
      have B3 := (show Hid (Below w.heap.size w w3) from B2.out.trans (b3.mono B2.out.size))
      clear b3 HC
      by_cases h3 : na = ma
      · subst h3
        rw [decide_eq_true rfl]
        by_cases h4 : nt = mt
        · subst h4
          by_cases h5 : np = mp
          · subst h5
            have HS := (show Hid (sameB ⟨nk, nn, na, nt, np, ns⟩ ⟨nk, nn, na, nt, np, ms⟩ = decide (ns = ms)) from (show _ = _ by simp [sameB]))
            go_wp2_with fail
            go_at_call 115
            refine Calls.mono (CK.out _ B3.out) ?_
            rintro e w4 ⟨rfl, b4⟩
            have B4 := (show Hid (Below w.heap.size w w4) from B3.out.trans (b4.mono B3.out.size))
            clear b4
            go_wp2
            go_ret
            exact ⟨by rw [HS.out]; rfl, B4.out⟩
          · have HS := (show Hid (sameB ⟨nk, nn, na, nt, np, ns⟩ ⟨nk, nn, na, nt, mp, ms⟩ = false) from (show _ = _ by simp [sameB, h5]))
            go_wp2
            go_ret
            exact ⟨by rw [HS.out]; rfl, B3.out⟩
        · have HS := (show Hid (sameB ⟨nk, nn, na, nt, np, ns⟩ ⟨nk, nn, na, mt, mp, ms⟩ = false) from (show _ = _ by simp [sameB, h4]))
          have h4b := toList_ne h4
          go_wp2
          go_ret
          exact ⟨by rw [HS.out]; rfl, B3.out⟩
      · have HS := (show Hid (sameB ⟨nk, nn, na, nt, np, ns⟩ ⟨nk, nn, ma, mt, mp, ms⟩ = false) from (show _ = _ by simp [sameB, h3]))
        rw [decide_eq_false h3]
        go_wp2
        go_ret
        exact ⟨by rw [HS.out]; rfl, B3.out⟩
    · have HS := (show Hid (sameB ⟨nk, nn, na, nt, np, ns⟩ ⟨nk, mn, ma, mt, mp, ms⟩ = false) from (show _ = _ by simp [sameB, h2]))
      have h2b := toList_ne h2
      go_enter Tryz.func63, Tryz.ntmps63
      go_wp2
      go_ret
      refine ⟨by rw [HS.out]; rfl, ?_⟩
      rw [← hw2]
      exact B2.out
  · have HS := (show Hid (sameB ⟨nk, nn, na, nt, np, ns⟩ ⟨mk, mn, ma, mt, mp, ms⟩ = false) from (show _ = _ by simp [sameB, h1]))
    go_enter Tryz.func63, Tryz.ntmps63
    go_wp2
    go_ret
    refine ⟨by rw [HS.out]; rfl, ?_⟩
    rw [← hw2]
    exact B2.out
end Go.Proofs.YtogdbjafibejdaaGreat

/- The program's openRowOf. No condition. -/
namespace Go.Proofs.YtogdbjafibejdaaGreat
open Go.RowKit
set_option maxRecDepth 100000
set_option linter.unusedVariables false

end Go.Proofs.YtogdbjafibejdaaGreat

/- The specification's l6Hang of a node below none (written by mk/shang.py). No condition. -/
namespace Go.Proofs.YtogdbjafibejdaaGreat
open Go.RowKit
set_option maxRecDepth 100000
set_option linter.unusedVariables false
theorem map_modify {qs : List (PNode × (Value × Value))} {k : Nat} (hk : k < qs.length) {q : PNode × (Value × Value)} {f : PNode → PNode} (h : q.1 = f qs[k].1) : (qs.set k q).map (fun q => q.1) = (qs.map (fun q => q.1)).modify k f := by
  rw [List.map_set, h]
  apply List.ext_getElem
  · simp
  · intro i h1 h2
    simp only [List.length_set, List.length_map] at h1
    rw [List.getElem_set, List.getElem_modify]
    by_cases e : k = i
    · subst e; simp
    · simp [e]

end Go.Proofs.YtogdbjafibejdaaGreat

/- slices.EqualFunc with nodeSame: whether two rows of nodes are alike. No condition. -/
namespace Go.Proofs.YtogdbjafibejdaaGreat
open Go.RowKit
set_option maxRecDepth 100000
set_option linter.unusedVariables false

set_option maxHeartbeats 800000 in
set_option maxRecDepth 100000 in
theorem iequalFunc {v u : Value} {ns ms : List PNode} {w : World} (h : NodesAt w v ns) (k : NodesAt w u ms) (hf : ∀ n ∈ ns, NodeFit n) (hg : ∀ n ∈ ms, NodeFit n) (hn : ns.length ≤ 1048576) :
    Calls Tryz.prog 62 #[v, u, .func (.func 63) #[] #[]] w fun e w' => ∃ r : Bool, e = .returned (.bool r) ∧ (r = true ↔ ns = ms) ∧ Below w.heap.size w w' := by
  obtain ⟨a, ca, rfl, h1, h2, h3⟩ := h.slice
  obtain ⟨b, cb, rfl, k1, k2, k3⟩ := k.slice
  have HX := (show Hid _ from h3)
  have HY := (show Hid _ from k3)
  have HF := (show Hid (∀ n ∈ ns, NodeFit n) from hf)
  have HG := (show Hid (∀ n ∈ ms, NodeFit n) from hg)
  clear h3 k3 h k hf hg
  by_cases hl : ns.length = ms.length
  · have HLn := (show Hid (ns.length = ms.length) from hl)
    rw [← hl]
    clear hl k1 k2
    go_enter Tryz.func62, Tryz.ntmps62
    go_wp2
    go_loopw [17] (fun i wr => ∃ k : Nat, k ≤ ns.length ∧ i = .int .i64 k ∧ Hid (ns.take k = ms.take k) ∧ Hid (Below w.heap.size w wr)) (fun i _ => ns.length - (intOf i).toNat)
    case atStart => exact ⟨0, Nat.zero_le _, rfl, (show _ = _ by simp), Below.refl _ _⟩
    case round =>
      obtain ⟨k, hks, rfl, HT, HB⟩ := hrel
      by_cases hlt : k < ns.length
      · have hlt2 : k < ms.length := by have := HLn.out; omega
        obtain ⟨b1, o1, av, kv, rfl, hb1, c0, c1, c2, c3, c4, c5, hav, hkv⟩ := HX.out k hlt
        obtain ⟨b2, o2, av', kv', rfl, hb2, d0, d1, d2, d3, d4, d5, hav', hkv'⟩ := HY.out k hlt2
        replace c0 := (HB.out.cell (p := ⟨b1, o1 + k * 6, none⟩) hb1).trans c0
        replace c1 := (HB.out.cell (p := ⟨b1, o1 + k * 6 + 1, none⟩) hb1).trans c1
        replace c2 := (HB.out.cell (p := ⟨b1, o1 + k * 6 + 2, none⟩) hb1).trans c2
        replace c3 := (HB.out.cell (p := ⟨b1, o1 + k * 6 + 3, none⟩) hb1).trans c3
        replace c4 := (HB.out.cell (p := ⟨b1, o1 + k * 6 + 4, none⟩) hb1).trans c4
        replace c5 := (HB.out.cell (p := ⟨b1, o1 + k * 6 + 5, none⟩) hb1).trans c5
        replace d0 := (HB.out.cell (p := ⟨b2, o2 + k * 6, none⟩) hb2).trans d0
        replace d1 := (HB.out.cell (p := ⟨b2, o2 + k * 6 + 1, none⟩) hb2).trans d1
        replace d2 := (HB.out.cell (p := ⟨b2, o2 + k * 6 + 2, none⟩) hb2).trans d2
        replace d3 := (HB.out.cell (p := ⟨b2, o2 + k * 6 + 3, none⟩) hb2).trans d3
        replace d4 := (HB.out.cell (p := ⟨b2, o2 + k * 6 + 4, none⟩) hb2).trans d4
        replace d5 := (HB.out.cell (p := ⟨b2, o2 + k * 6 + 5, none⟩) hb2).trans d5
        have hbs := HB.out.size
        have hb1' : b1 < wr.heap.size := by omega
        have hb2' : b2 < wr.heap.size := by omega
        have CN := (show Hid (∀ W, Below wr.heap.size wr W → Calls Tryz.prog 63 #[nodeV ns[k] (av, kv), nodeV ms[k] (av', kv')] W fun e w' => e = .returned (.bool (sameB ns[k] ms[k])) ∧ Below W.heap.size W w') from fun W b => inodeSame_any ((hav.below HB.out).below b) ((hav'.below HB.out).below b) ((hkv.below HB.out).below b) ((hkv'.below HB.out).below b) (HF.out _ (List.getElem_mem hlt)) (HG.out _ (List.getElem_mem hlt2)))
        have HN := (show Hid (sameB ns[k] ms[k] = true → ns.take (k + 1) = ms.take (k + 1)) from fun h => by rw [List.take_succ_eq_append_getElem hlt, List.take_succ_eq_append_getElem hlt2, HT.out, sameB_iff.mp h])
        have HE := (show Hid (sameB ns[k] ms[k] = false → ns ≠ ms) from fun h e => by
          have : sameB ns[k] ms[k] = true := sameB_iff.mpr (by subst e; rfl)
          rw [h] at this; cases this)
        obtain ⟨y1, y2, y3, rfl, _⟩ := hav
        obtain ⟨z1, z2, z3, rfl, _⟩ := hav'
        obtain ⟨p1, p3, rfl, _⟩ := hkv
        obtain ⟨q1, q3, rfl, _⟩ := hkv'
        obtain ⟨n, hnd⟩ : ∃ n, n = ns[k] := ⟨_, rfl⟩
        obtain ⟨m, hmd⟩ : ∃ m, m = ms[k] := ⟨_, rfl⟩
        rw [← hnd] at c0 c1 c3 c4 c5
        rw [← hmd] at d0 d1 d3 d4 d5
        rw [← hnd, ← hmd] at CN HN HE
        obtain ⟨r, hr⟩ : ∃ r, r = sameB n m := ⟨_, rfl⟩
        rw [← hr] at CN HN HE
        clear hr hnd hmd
        obtain ⟨nk, nn, na, nt, np, nks⟩ := n
        obtain ⟨mk, mn, ma, mt, mp, mks⟩ := m
        simp only [nodeV, nodeRow] at c0 c1 c3 c4 c5 d0 d1 d3 d4 d5 CN
        have hki : (k : Int) < (ns.length : Int) := by omega
        have bW : Below wr.heap.size wr ((wr.alloc (.cells #[.int .i64 nk, .string nn, .slice y1 y2 y3, .string nt, .int .i64 np, .slice p1 nks.length p3] 36)).alloc (.cells #[.int .i64 mk, .string mn, .slice z1 z2 z3, .string mt, .int .i64 mp, .slice q1 mks.length q3] 36)) := ((Below.refl _ wr).alloc (Nat.le_refl _) _).alloc (by simp) _
        have BW := (show Hid _ from bW)
        clear bW
        go_wp2_with fail
        go_at_call 63
        refine Calls.mono (CN.out _ BW.out) ?_
        rintro e w9 ⟨rfl, b9⟩
        have B9 := (show Hid (Below w.heap.size w w9) from HB.out.trans ((BW.out.trans (b9.mono BW.out.size)).mono hbs))
        clear b9 BW CN
        cases r
        · have HE2 := (show Hid (ns ≠ ms) from HE.out rfl)
          go_wp2
          go_ret
          exact ⟨false, rfl, ⟨(fun h => by cases h), fun h => absurd h HE2.out⟩, B9.out⟩
        · have HN2 := (show Hid (ns.take (k + 1) = ms.take (k + 1)) from HN.out rfl)
          go_wp2
          go_roundw
          case rel => exact ⟨k + 1, by omega, by go_num, HN2.out, B9.out⟩
          case measure => simp [intOf]; omega
      · obtain rfl : k = ns.length := by omega
        have HD := (show Hid (ns = ms) from (show _ = _ by have := HT.out; rwa [List.take_length, HLn.out, List.take_length] at this))
        go_wp2
        go_ret
        exact ⟨true, rfl, ⟨fun _ => HD.out, fun _ => rfl⟩, HB.out⟩
  · have hli : ¬ (ns.length : Int) = (ms.length : Int) := by omega
    have hne : ¬ ns = ms := fun e => hl (by rw [e])
    go_enter Tryz.func62, Tryz.ntmps62
    go_wp2
    go_ret
    exact ⟨false, rfl, ⟨(fun h => by cases h), fun h => absurd h hne⟩, Below.refl _ _⟩
end Go.Proofs.YtogdbjafibejdaaGreat

/- The program's lastThat with the closures of a row (written by mk/irow3.py). No condition. -/
namespace Go.Proofs.YtogdbjafibejdaaGreat
open Go.RowKit
set_option maxRecDepth 100000
set_option linter.unusedVariables false

structure Boxes (w : World) (R M A : Nat) (v : Value) (nm : ByteArray) : Prop where
  r1 : w.cell? ⟨R, 1, none⟩ = some (.pointer (some ⟨A, 0, none⟩))
  a0 : w.cell? ⟨A, 0, none⟩ = some v
  m0 : w.cell? ⟨M, 0, none⟩ = some (.string nm)
theorem Boxes.below {w w' : World} {R M A : Nat} {v : Value} {nm : ByteArray} (h : Boxes w R M A v nm) (hb : Below w.heap.size w w') : Boxes w' R M A v nm :=
  ⟨(hb.cell (p := ⟨R, 1, none⟩) (lt_of_cell h.r1)).trans h.r1, (hb.cell (p := ⟨A, 0, none⟩) (lt_of_cell h.a0)).trans h.a0, (hb.cell (p := ⟨M, 0, none⟩) (lt_of_cell h.m0)).trans h.m0⟩

end Go.Proofs.YtogdbjafibejdaaGreat

/- The draw of a tree, in plain words; the state of the draw. No condition. -/
namespace Go.Proofs.YtogdbjafibejdaaGreat
open Go.RowKit
set_option maxRecDepth 100000
set_option linter.unusedVariables false

structure MildT (k : Nat) (n : PNode) : Prop where
  nm : n.name.size ≤ 100
  tx : n.text.size ≤ 100
  rs : n.attrs.length ≤ 40
  each : ∀ p ∈ n.attrs, p.1.size ≤ 3001 ∧ p.2.size ≤ 3001
  kl : n.kids.length ≤ k
  no0 : (0 : Int) ∉ n.kids
theorem MildT.fit {k : Nat} {n : PNode} (h : MildT k n) (hk : k ≤ 1000) : NodeFit n := ⟨by have := h.nm; omega, by have := h.tx; omega, by have := h.rs; omega, fun p hp => by have := h.each p hp; omega, by have := h.kl; omega⟩
theorem MildT.more {k k' : Nat} {n : PNode} (h : MildT k n) (hk : k ≤ k') : MildT k' n := ⟨h.nm, h.tx, h.rs, h.each, Nat.le_trans h.kl hk, h.no0⟩
structure RtW (w0 w : World) (g : Nat) (cv : Value) (xs : List Int) (T : Nat) (nv : Value) (ns : List PNode) (W : World) : Prop where
  cur : Cur w0 g cv xs W
  bR : W.heap[w.heap.size]? = some (.cells #[.slice none 0 0] 26 (0, 0))
  bT : W.heap[T]? = some (.cells #[nv] 26 (0, 0))
  own : OwnN w.heap.size W nv ns
  gr : w.grownBy W (some g)
theorem ownN_low' {B : Nat} {w w' : World} {v : Value} {ns : List PNode} {row : Option Nat} (h : OwnN B w v ns) (hg : w.grownBy w' row) (hr : ∀ k, row = some k → k < B) : OwnN B w' v ns := by
  obtain ⟨qs, h1, h2, h3⟩ := h
  have key : ∀ {e size n : Nat} (u : Value) {xs : List Value}, w.ownsRow B e size u n xs → w'.ownsRow B e size u n xs := fun {e size n} u {xs} h => by
    refine h.kept hg ?_
    by_cases hv : u.ownBlock = none
    · exact .inl hv
    · refine .inr fun e => ?_
      cases hrow : row with
      | none => rw [hrow] at e; exact hv e
      | some k => have h4 := hr k hrow; rw [hrow] at e; have := (h.lt k e).1; omega
  exact ⟨qs, h1, key _ h2, fun q hq => ⟨key _ (h3 q hq).1, key _ (h3 q hq).2⟩⟩
theorem RtW.below {w0 w W W' : World} {g : Nat} {cv : Value} {xs : List Int} {T : Nat} {nv : Value} {ns : List PNode} (h : RtW w0 w g cv xs T nv ns W) (hb : Below W.heap.size W W') : RtW w0 w g cv xs T nv ns W' :=
  ⟨h.cur.below hb, (hb.block _ (blk_lt h.bR)).trans h.bR, (hb.block _ (blk_lt h.bT)).trans h.bT, h.own.below hb, grown_below h.gr hb⟩
end Go.Proofs.YtogdbjafibejdaaGreat

/- The program's OpenAt, PopTo and PopImplied (written by mk/irow4.py). No condition. -/
namespace Go.Proofs.YtogdbjafibejdaaGreat
open Go.RowKit
set_option maxRecDepth 100000
set_option linter.unusedVariables false

structure RowAt (w : World) (A : Nat) (v rv : Value) (ns : List PNode) (row : List Int) : Prop where
  nodes : NodesAt w v ns
  fit : ∀ n ∈ ns, NodeFit n
  len : ns.length ≤ 1048576
  a0 : w.cell? ⟨A, 0, none⟩ = some v
  sl : Sl .i64 w rv row
  row : RowP ns row
theorem RowAt.below {w w' : World} {A : Nat} {v rv : Value} {ns : List PNode} {row : List Int} (h : RowAt w A v rv ns row) (hb : Below w.heap.size w w') : RowAt w' A v rv ns row :=
  ⟨h.nodes.below hb, h.fit, h.len, (hb.cell (p := ⟨A, 0, none⟩) (lt_of_cell h.a0)).trans h.a0, h.sl.below hb, h.row⟩
theorem RowAt.el {w : World} {A : Nat} {v rv : Value} {ns : List PNode} {row : List Int} (h : RowAt w A v rv ns row) : ∀ x ∈ row, elB ns x = true := fun x hx => by
  obtain ⟨i, hi, rfl⟩ := List.mem_iff_getElem.mp hx
  exact h.row.el i hi

end Go.Proofs.YtogdbjafibejdaaGreat
