/- (trial) slices.Equal of integers and of attributes, nodeSame, slices.EqualFunc with it: each tells whether two are alike. No condition. -/
import Derived.Test.YtogdbjafibejdaaGreatX27
import Derived.Test.YtogdbjafibejdaaGreatX5
import Derived.Test.YtogdbjafibejdaaGreatX30
import Derived.Test.YtogdbjafibejdaaGreatX18
import Derived.Laws.StructEq
import Derived.Deep.RegionHeld3
import Derived.Test.YtogdbjafibejdaaGreatX31
import Derived.Test.YtogdbjafibejdaaGreatX29
import Derived.Test.YtogdbjafibejdaaGreatX20
namespace Go.Proofs.YtogdbjafibejdaaGreat
open Go.RowKit
set_option maxRecDepth 100000
set_option linter.unusedVariables false

set_option maxHeartbeats 800000 in
set_option maxRecDepth 100000 in
theorem iequalInts {v u : Value} {xs ys : List Int} {w : World} (h : Sl .i64 w v xs) (k : Sl .i64 w u ys) (hn : xs.length ≤ 1048576) :
    Calls Tryz.prog 115 #[v, u] w fun e w' => e = .returned (.bool (decide (xs = ys))) ∧ Below w.heap.size w w' := by
  obtain ⟨a, ca, rfl, h1, h2, h3, h4⟩ := h
  obtain ⟨b, cb, rfl, k1, k2, k3, k4⟩ := k
  have HX := (show Hid (Cells .i64 w a xs) from h4)
  have HY := (show Hid (Cells .i64 w b ys) from k4)
  clear h4 k4 h3 k3
  by_cases hl : xs.length = ys.length
  · have hli : (xs.length : Int) = (ys.length : Int) := by omega
    go_enter Tryz.func115, Tryz.ntmps115
    go_wp2
    go_loopw [13] (fun i wr => ∃ k : Nat, k ≤ xs.length ∧ i = .int .i64 k ∧ Hid (xs.take k = ys.take k) ∧ Hid (Below w.heap.size w wr)) (fun i _ => xs.length - (intOf i).toNat)
    case atStart => exact ⟨0, Nat.zero_le _, rfl, (show _ = _ by simp), Below.refl _ _⟩
    case round =>
      obtain ⟨k, hks, rfl, HT, HB⟩ := hrel
      by_cases hlt : k < xs.length
      · have hlt2 : k < ys.length := by omega
        obtain ⟨b1, o1, rfl, c1⟩ := HX.out k hlt
        obtain ⟨b2, o2, rfl, c2⟩ := HY.out k hlt2
        replace c1 := (HB.out.cell (p := ⟨b1, o1 + k, none⟩) (lt_of_cell6 c1)).trans c1
        replace c2 := (HB.out.cell (p := ⟨b2, o2 + k, none⟩) (lt_of_cell6 c2)).trans c2
        have hg1 : xs.getD k 0 = xs[k] := by simp [List.getD_eq_getElem?_getD, hlt]
        have hg2 : ys.getD k 0 = ys[k] := by simp [List.getD_eq_getElem?_getD, hlt2]
        have hki : (k : Int) < (xs.length : Int) := by omega
        have hki2 : (k : Int) < (ys.length : Int) := by omega
        by_cases he : xs[k] = ys[k]
        · have HS := (show Hid (xs.take (k + 1) = ys.take (k + 1)) from (show _ = _ by rw [List.take_succ_eq_append_getElem hlt, List.take_succ_eq_append_getElem hlt2, HT.out, he]))
          rw [hg1] at c1
          rw [hg2, ← he] at c2
          obtain ⟨x, hx⟩ : ∃ x, x = xs[k] := ⟨_, rfl⟩
          rw [← hx] at c1 c2
          clear he hg1 hg2 hx
          go_wp2_with fail
          refine region_tail 8 (by kernel_rfl) (by kernel_rfl) ?_
          intro x1 K1 hX1 hK1
          have ne := One.any x1
          have g1 := fun n : One x1 => (show n.w.cell? ⟨b1, o1 + k, none⟩ = some (.int .i64 x) by rw [n.eq, hX1.out]; exact c1)
          have g2 := fun n : One x1 => (show n.w.cell? ⟨b2, o2 + k, none⟩ = some (.int .i64 x) by rw [n.eq, hX1.out]; exact c2)
          simp only [List.take_succ_cons, List.take_zero, List.drop_succ_cons, List.drop_zero] at hK1 ⊢
          repeat (go_big_quiet_step (fail))
          refine wpQuiet_nil ?_
          refine hK1.out _ ?_
          have BX := (show Hid (Below w.heap.size w x1) from by rw [hX1.out]; exact HB.out.trans (below_drewN 1))
          clear hK1 ne hX1 g1 g2 c1 c2
          go_wp2
          go_roundw
          case rel => exact ⟨k + 1, by omega, by go_num, HS.out, BX.out⟩
          case measure => simp [intOf]; omega
        · have hne : ¬ xs = ys := fun e => he (by subst e; rfl)
          have HD := (show Hid (decide (xs = ys) = false) from decide_eq_false hne)
          rw [hg1] at c1
          rw [hg2] at c2
          obtain ⟨x, hx⟩ : ∃ x, x = xs[k] := ⟨_, rfl⟩
          obtain ⟨y, hy⟩ : ∃ y, y = ys[k] := ⟨_, rfl⟩
          rw [← hx] at c1 he
          rw [← hy] at c2 he
          clear hne hg1 hg2 hx hy
          go_wp2_with fail
          refine region_tail 8 (by kernel_rfl) (by kernel_rfl) ?_
          intro x1 K1 hX1 hK1
          have ne := One.any x1
          have g1 := fun n : One x1 => (show n.w.cell? ⟨b1, o1 + k, none⟩ = some (.int .i64 x) by rw [n.eq, hX1.out]; exact c1)
          have g2 := fun n : One x1 => (show n.w.cell? ⟨b2, o2 + k, none⟩ = some (.int .i64 y) by rw [n.eq, hX1.out]; exact c2)
          simp only [List.take_succ_cons, List.take_zero, List.drop_succ_cons, List.drop_zero] at hK1 ⊢
          repeat (go_big_quiet_step (fail))
          refine wpQuiet_nil ?_
          refine hK1.out _ ?_
          have BX := (show Hid (Below w.heap.size w x1) from by rw [hX1.out]; exact HB.out.trans (below_drewN 1))
          clear hK1 ne hX1 g1 g2 c1 c2
          go_wp2
          go_ret
          exact ⟨by rw [HD.out]; rfl, BX.out⟩
      · obtain rfl : k = xs.length := by omega
        have HD := (show Hid (decide (xs = ys) = true) from decide_eq_true (by have := HT.out; rwa [List.take_length, hl, List.take_length] at this))
        go_wp2
        go_ret
        exact ⟨by rw [HD.out]; rfl, HB.out⟩
  · have hli : ¬ (xs.length : Int) = (ys.length : Int) := by omega
    have hne : ¬ xs = ys := fun e => hl (by rw [e])
    rw [decide_eq_false hne]
    go_enter Tryz.func115, Tryz.ntmps115
    go_wp2
    go_ret
    exact ⟨rfl, Below.refl _ _⟩
def pairNeA (b c x y : ByteArray) : Bool := !decide ((b, c) = (x, y))
theorem attr_neq2 (b c x y : ByteArray) (w : World) : (binOp .neq 115 (.agg #[.string b, .string c]) (.agg #[.string x, .string y])).run Tryz.prog w = .ok (.bool (pairNeA b c x y)) w := by
  unfold pairNeA
  have hu := Tryz.underlying115
  rw [run_neq_struct, show (10000 : Nat) = 9999 + 1 from rfl, run_equalIn_agg w 9999 115 _ _ (by kernel_rfl) (by kernel_rfl)]
  simp only [Program.fieldsOf, hu]
  have h2 := fun (x y : ByteArray) (w : World) => run_equalIn_string (P := Tryz.prog) w 9998 9 x y Tryz.underlying9
  have g9 := Tryz.isAgg9
  by_cases e1 : b = x
  · by_cases e2 : c = y
    · simp [Op.eqFields, part, h2, g9, Result.andThen, e1, e2]
    · simp [Op.eqFields, part, h2, g9, Result.andThen, toList_eq_iff, e1, e2]
  · simp [Op.eqFields, part, h2, g9, Result.andThen, toList_eq_iff, e1]
theorem take_neA {ps qs : List (ByteArray × ByteArray)} {k : Nat} (h1 : k < ps.length) (h2 : k < qs.length) (h : ps[k] ≠ qs[k]) : ps ≠ qs := by
  rintro rfl
  exact h rfl
theorem take_eqA {ps qs : List (ByteArray × ByteArray)} {k : Nat} (h1 : k < ps.length) (h2 : k < qs.length) (h : ps[k] = qs[k]) (ht : ps.take k = qs.take k) : ps.take (k + 1) = qs.take (k + 1) := by
  rw [List.take_succ_eq_append_getElem h1, List.take_succ_eq_append_getElem h2, ht, h]

set_option maxHeartbeats 1000000 in
set_option maxRecDepth 100000 in
theorem iequalAttrs {a b : Value} {ps qs : List (ByteArray × ByteArray)} {w : World} (h1 : Sv 2 w a (pairCells ps)) (h2 : Sv 2 w b (pairCells qs)) (hn : ps.length ≤ 1099511627776) (hm : qs.length ≤ 1099511627776) :
    Calls Tryz.prog 114 #[a, b] w fun e w' => e = .returned (.bool (decide (ps = qs))) ∧ Below w.heap.size w w' := by
  obtain ⟨aa, ac, rfl, _, _, hca⟩ := h1.pair
  obtain ⟨ba, bc, rfl, _, _, hcb⟩ := h2.pair
  have HA := (show Hid _ from hca)
  have HBc := (show Hid _ from hcb)
  clear h1 h2 hca hcb
  by_cases hl : ps.length = qs.length
  · have HLn := (show Hid (ps.length = qs.length) from hl)
    rw [← hl]
    clear hm hl
    have hne := attr_neq2
    go_enter Tryz.func114, Tryz.ntmps114
    go_wp2_with fail
    go_loopw [13] (fun i wr => ∃ k : Nat, k ≤ ps.length ∧ i = .int .i64 k ∧ Hid (ps.take k = qs.take k ∧ Below w.heap.size w wr)) (fun i _ => ps.length - (intOf i).toNat)
    case atStart => exact ⟨0, Nat.zero_le _, rfl, rfl, Below.refl _ _⟩
    case round =>
      obtain ⟨k, hk, rfl, B⟩ := hrel
      by_cases hlt : k < ps.length
      · have hlq : k < qs.length := by have := HLn.out; omega
        obtain ⟨b1, o1, rfl, l1, c1, c2⟩ := HA.out k hlt
        obtain ⟨b2, o2, rfl, l2, d1, d2⟩ := HBc.out k hlq
        have TN := (show Hid (ps[k] ≠ qs[k] → ps ≠ qs) from take_neA hlt hlq)
        have TE := (show Hid (ps[k] = qs[k] → ps.take (k + 1) = qs.take (k + 1)) from fun e => take_eqA hlt hlq e B.out.1)
        obtain ⟨x, hx⟩ : ∃ x, x = ps[k] := ⟨_, rfl⟩
        obtain ⟨y, hy⟩ : ∃ y, y = qs[k] := ⟨_, rfl⟩
        rw [← hx] at c1 c2 TN TE
        rw [← hy] at d1 d2 TN TE
        clear hx hy hlq
        obtain ⟨xu, xb⟩ := x
        obtain ⟨yu, yb⟩ := y
        simp only at c1 c2 d1 d2
        have HQ := (show Hid (∀ W, Below w.heap.size w W → W.cell? ⟨b1, o1 + k * 2, none⟩ = some (.string xu) ∧ W.cell? ⟨b1, o1 + k * 2 + 1, none⟩ = some (.string xb) ∧ W.cell? ⟨b2, o2 + k * 2, none⟩ = some (.string yu) ∧ W.cell? ⟨b2, o2 + k * 2 + 1, none⟩ = some (.string yb)) from fun W b => ⟨(b.cell (p := ⟨b1, o1 + k * 2, none⟩) l1).trans c1, (b.cell (p := ⟨b1, o1 + k * 2 + 1, none⟩) l1).trans c2, (b.cell (p := ⟨b2, o2 + k * 2, none⟩) l2).trans d1, (b.cell (p := ⟨b2, o2 + k * 2 + 1, none⟩) l2).trans d2⟩)
        clear c1 c2 d1 d2
        obtain ⟨w4, hw4⟩ : ∃ y, y = wr.drew := ⟨_, rfl⟩
        have B4 : Hid (Below w.heap.size w w4) := (show Below w.heap.size w w4 by rw [hw4]; exact B.out.2.trans (below_drewN 1))
        have Q4 := (show Hid _ from HQ.out _ B4.out)
        rw [hw4] at Q4
        go_wp2_with fail
        go_region_held3 (fun w' => w'.cell? ⟨b1, o1 + k * 2, none⟩ = some (.string xu) ∧ w'.cell? ⟨b1, o1 + k * 2 + 1, none⟩ = some (.string xb) ∧ w'.cell? ⟨b2, o2 + k * 2, none⟩ = some (.string yu) ∧ w'.cell? ⟨b2, o2 + k * 2 + 1, none⟩ = some (.string yb)) (first | exact Q4.out) (fail)
        rw [← hw4]
        clear hw4 Q4
        by_cases he : (xu, xb) = (yu, yb)
        · rw [show pairNeA xu xb yu yb = false by unfold pairNeA; rw [decide_eq_true he]; rfl]
          have HE := (show Hid _ from TE.out he)
          clear he
          go_wp2
          go_roundw
          case rel => exact ⟨k + 1, by omega, by go_num, HE.out, B4.out⟩
          case measure => simp [intOf]; omega
        · rw [show pairNeA xu xb yu yb = true by unfold pairNeA; rw [decide_eq_false he]; rfl]
          have HE := (show Hid _ from TN.out he)
          clear he
          go_wp2
          go_ret
          exact ⟨ret_bool (by rw [decide_eq_false HE.out]), B4.out⟩
      · have e : ps = qs := by
          have h1 := B.out.1
          have hk' : k = ps.length := by omega
          rw [hk', List.take_length, HLn.out, List.take_length] at h1
          exact h1
        have HE := (show Hid _ from e)
        clear e
        go_wp2
        go_ret
        exact ⟨ret_bool (by rw [decide_eq_true HE.out]), B.out.2⟩
  · have HE : Hid (ps ≠ qs) := fun e => hl (by rw [e])
    have hl' : ((ps.length : Int) != (qs.length : Int)) = true := by simp; omega
    go_enter Tryz.func114, Tryz.ntmps114
    go_wp2
    go_ret
    exact ⟨ret_bool (by rw [decide_eq_false HE.out]), Below.refl _ _⟩
end Go.Proofs.YtogdbjafibejdaaGreat

/- The specification's l6Hang of a node below none (written by mk/shang.py). No condition. -/
namespace Go.Proofs.YtogdbjafibejdaaGreat
open Go.RowKit
set_option maxRecDepth 100000
set_option linter.unusedVariables false

theorem step_appI {P : Program} {ops : Array Oper} {o : Oper} {a : Act} {w : World} {K : Act → World → Prop} {Q : Exit → Act → World → Prop} {E : Prop}
    (hg : o.guard = none) (s x : Operand) (t : TypeId) (hop : o.op = Op.call { callee := Callee.builtin Builtin.append, args := #[s, x], argTypes := #[t, t] })
    (B : Nat) (e : TypeId) (i : TypeInfo) (z : Value) (bytes : Nat) (h1 : P.underlying t = some (.slice e)) (h2 : P.info? e = some i) (h3 : i.zero = some z) (h4 : i.size = 1) (h5 : i.bytes = bytes) (h6 : z.cells.size = 1)
    (k : IntKind) (v : Value) (xs : List Int) (hs : a.eval s = v) (hown : Own B e k w v xs)
    (ad : Addr) (c : Nat) (ys : List Int) (hx : a.eval x = .slice (some ad) ys.length c) (hu : Sl k w (.slice (some ad) ys.length c) ys)
    (b2 : (xs.length + ys.length) * bytes ≤ 140737488355328) (b1 : xs.length + ys.length ≤ maxLen) (hB : B ≤ w.heap.size)
    (hK : ∀ v' w', Own B e k w' v' (xs ++ ys) → w.grownBy w' v.ownBlock → K (a.put o.dst v') w') :
    if Region.wanted o (yielded ops a.tmps) = true then Oper.wp P o a w K Q else E := by
  obtain ⟨ao, cap, e1, hlc, hcm, hnone, hc⟩ := hu
  cases e1
  refine step_app_own hg s x t hop B e i z 1 bytes h1 h2 h3 h4 h5 h6 (by decide) v xs.length (xs.map (Value.int k)) hs hown ad ys.length c (ys.map (Value.int k)) hx (by simp) (Sl.news hc) (ints_oneCell k ys) b1 b2 hB ?_
  intro v' w' ho hg'
  refine hK v' w' ?_ hg'
  unfold Own
  rw [List.length_append, List.map_append]; exact ho

theorem sl_at {w : World} {g : Nat} {c : Int} {t : TypeId} (h : w.heap[g]? = some (.cells #[.int .i64 c] t (0, 0))) : Sl .i64 w (.slice (some ⟨g, 0, none⟩) 1 1) [c] := by
  refine ⟨_, 1, rfl, Nat.le_refl _, by decide, (fun e => by cases e), fun j hj => ⟨g, 0, rfl, ?_⟩⟩
  simp only [List.length_singleton] at hj
  obtain rfl : j = 0 := by omega
  simp only [World.cell?, h]; rfl

def kidsN (ns : List PNode) (c p : Nat) : List PNode := ns.modify p fun n => ⟨n.kind, n.name, n.attrs, n.text, n.parent, lessL (c : Int) n.kids ++ [(c : Int)]⟩
def parN (ns : List PNode) (c : Nat) (x : Int) : List PNode := ns.modify c fun n => ⟨n.kind, n.name, n.attrs, n.text, x, n.kids⟩

theorem map_modify {qs : List (PNode × (Value × Value))} {k : Nat} (hk : k < qs.length) {q : PNode × (Value × Value)} {f : PNode → PNode} (h : q.1 = f qs[k].1) : (qs.set k q).map (fun q => q.1) = (qs.map (fun q => q.1)).modify k f := by
  rw [List.map_set, h]
  apply List.ext_getElem
  · simp
  · intro i h1 h2
    simp only [List.length_set, List.length_map] at h1
    rw [List.getElem_set, List.getElem_modify]
    by_cases e : k = i
    · subst e; simp
    · simp [e]

def HangW (B : Nat) (w : World) (N g : Nat) (v : Value) (ns : List PNode) (wx : World) : Prop :=
  wx.heap[N]? = some (.cells #[v] 26 (0, 0)) ∧ wx.heap[N + 1]? = some (.cells #[.slice none 0 0] 26 (0, 0)) ∧ OwnN B wx v ns ∧ w.grownBy wx (some g)

theorem own_kids {B : Nat} {w : World} {g n cap : Nat} {ns : List PNode} (h : OwnN B w (.slice (some ⟨g, 0, none⟩) n cap) ns) (hn : n = ns.length) {p : Nat} (hp : p < ns.length) {ks : List Int} {u : Value} (hu : Own B 3 .i64 w u ks) :
    OwnN B (w.setCell ⟨g, p * 6 + 5, none⟩ u) (.slice (some ⟨g, 0, none⟩) n cap) (ns.modify p fun n => ⟨n.kind, n.name, n.attrs, n.text, n.parent, ks⟩) := by
  subst hn
  obtain ⟨qs, rfl, h2, h3⟩ := h
  have hq : p < qs.length := by simpa using hp
  have hst := h2.stored (p * 6 + 5) u
  have hset := nodeCells_set qs p hq (kidQ qs[p] ks u) 5 (by omega) u (by simp [kidQ, nodeRow])
  rw [← hset] at hst
  refine ⟨qs.set p (kidQ qs[p] ks u), map_modify hq rfl, ?_, fun q hqm => ?_⟩
  · simpa using hst.1
  · rcases List.mem_or_eq_of_mem_set hqm with hqm | rfl
    · exact lists_kept h2 hst.2 (h3 q hqm)
    · have hold := lists_kept h2 hst.2 (h3 qs[p] (List.getElem_mem hq))
      have hnew := lists_kept (q := (⟨0, ⟨#[]⟩, qs[p].1.attrs, ⟨#[]⟩, 0, ks⟩, (qs[p].2.1, u))) h2 hst.2 ⟨(h3 qs[p] (List.getElem_mem hq)).1, hu⟩
      exact ⟨hold.1, hnew.2⟩
theorem own_parent {B : Nat} {w : World} {g n cap : Nat} {ns : List PNode} (h : OwnN B w (.slice (some ⟨g, 0, none⟩) n cap) ns) (hn : n = ns.length) {c : Nat} (hc : c < ns.length) (x : Int) :
    OwnN B (w.setCell ⟨g, c * 6 + 4, none⟩ (.int .i64 x)) (.slice (some ⟨g, 0, none⟩) n cap) (parN ns c x) := by
  subst hn
  obtain ⟨qs, rfl, h2, h3⟩ := h
  have hq : c < qs.length := by simpa using hc
  have hst := h2.stored (c * 6 + 4) (.int .i64 x)
  have hset := nodeCells_set qs c hq (parQ qs[c] x) 4 (by omega) (.int .i64 x) (by simp [parQ, nodeRow])
  rw [← hset] at hst
  refine ⟨qs.set c (parQ qs[c] x), map_modify hq rfl, ?_, fun q hqm => ?_⟩
  · simpa [parN] using hst.1
  · rcases List.mem_or_eq_of_mem_set hqm with hqm | rfl
    · exact lists_kept h2 hst.2 (h3 q hqm)
    · exact lists_kept (q := parQ qs[c] x) h2 hst.2 (h3 qs[c] (List.getElem_mem hq))

theorem hang_fin {B N : Nat} {w W2 x2 : World} {ns : List PNode} {g cap c p : Nat} {u : Value} (hp : p < ns.length)
    (h0 : W2.heap[N]? = some (.cells #[.slice (some ⟨g, 0, none⟩) ns.length cap] 26 (0, 0))) (h1 : W2.heap[N + 1]? = some (.cells #[.slice none 0 0] 26 (0, 0))) (hO : OwnN B W2 (.slice (some ⟨g, 0, none⟩) ns.length cap) ns) (hg : w.grownBy W2 (some g)) (hgN : g < N) (hBS : B ≤ W2.heap.size)
    (o2 : Own W2.heap.size 3 .i64 x2 u (lessL (c : Int) ns[p].kids ++ [(c : Int)])) (b2 : Below W2.heap.size W2 x2) : HangW B w N g (.slice (some ⟨g, 0, none⟩) ns.length cap) (kidsN ns c p) (x2.setCell ⟨g, p * 6 + 5, none⟩ u) := by
  have hne : ∀ r, N ≤ r → r ≠ g := fun r hr e => by omega
  have e0 := (b2.block _ (blk_lt h0)).trans h0
  have e1 := (b2.block _ (blk_lt h1)).trans h1
  refine ⟨(Below.heap_setCell _ _ _ _ (hne N (Nat.le_refl _))).trans e0, (Below.heap_setCell _ _ _ _ (hne (N + 1) (by omega))).trans e1, ?_, ?_⟩
  · have := own_kids (hO.below b2) rfl hp (o2.base hBS)
    have e : (ns.modify p fun n => (⟨n.kind, n.name, n.attrs, n.text, n.parent, lessL (c : Int) ns[p].kids ++ [(c : Int)]⟩ : PNode)) = kidsN ns c p := by
      unfold kidsN
      apply List.ext_getElem
      · simp
      · intro i h1 h2
        rw [List.getElem_modify, List.getElem_modify]
        by_cases e : p = i
        · subst e; simp
        · simp [e]
    rw [e] at this
    exact this
  · have hgb : W2.grownBy (x2.setCell ⟨g, p * 6 + 5, none⟩ u) (some g) := grown_trans (below_by g b2) (grown_setCell _ _ _ _)
    exact ⟨hgb.os.trans hg.os, hgb.tape.trans hg.tape, hgb.output.trans hg.output, Nat.le_trans hg.size hgb.size, fun r hr hne' => (hgb.block r (Nat.lt_of_lt_of_le hr hg.size) hne').trans (hg.block r hr hne')⟩

set_option maxHeartbeats 2000000 in
set_option maxRecDepth 100000 in
theorem shang_any {B : Nat} {w : World} {v : Value} {ns : List PNode} (hO : OwnN B w v ns) (hB : B ≤ w.heap.size) (hlen : ns.length ≤ 100000) {c p : Nat} (hc : c < ns.length) (hp : p < ns.length) (hpar : ns[c].parent = -1) (hkl : ns[p].kids.length ≤ 100000) :
    Calls Tryz.prog 56 #[.agg #[v], .int .i64 c, .int .i64 p] w fun e w' => e = .returned (.agg #[v]) ∧ OwnN B w' v (parN (kidsN ns c p) c p) ∧ w.grownBy w' v.ownBlock := by
  obtain ⟨ii, hii, hzi0, hzi1, hzi2⟩ := info_parts Tryz.infoIntRow
  obtain ⟨g, cap, rfl, hgB, hgl⟩ : ∃ g cap, v = (.slice (some ⟨g, 0, none⟩) ns.length cap) ∧ B ≤ g ∧ g < w.heap.size := by obtain ⟨_, _, h2, _⟩ := hO; exact one_form h2 (by omega)
  have HO := (show Hid (OwnN B w (.slice (some ⟨g, 0, none⟩) ns.length cap) ns) from hO)
  clear hO
  obtain ⟨W0, hW0⟩ : ∃ W0, W0 = (w.alloc (.cells #[.slice (some ⟨g, 0, none⟩) ns.length cap] 26)).alloc (.cells #[.slice none 0 0] 26) := ⟨_, rfl⟩
  have b0 : Below w.heap.size w W0 := by rw [hW0]; exact ((Below.refl _ w).alloc (Nat.le_refl _) _).alloc (by simp) _
  have g0 : W0.heap[w.heap.size]? = some (.cells #[.slice (some ⟨g, 0, none⟩) ns.length cap] 26 (0, 0)) := by
    rw [hW0, Below.heap_alloc _ _ _ (by simp)]; exact World.alloc_heap_new _ _
  have g1 : W0.heap[w.heap.size + 1]? = some (.cells #[.slice none 0 0] 26 (0, 0)) := by
    rw [hW0]
    have := World.alloc_heap_new (w.alloc (.cells #[.slice (some ⟨g, 0, none⟩) ns.length cap] 26)) (.cells #[.slice none 0 0] 26)
    rwa [World.size_alloc] at this
  have k00 : W0.cell? ⟨w.heap.size, 0, none⟩ = some (.slice (some ⟨g, 0, none⟩) ns.length cap) := by simp only [World.cell?, g0]; rfl
  have HG0 := (show Hid _ from g0)
  have HG1 := (show Hid _ from g1)
  clear g0 g1
  go_enter Tryz.func56, Tryz.ntmps56
  go_upto_region 1 with fail
  rw [← hW0]
  clear hW0
  go_upto_region 2 with (first
    | (go_at_call 105
       refine Calls.mono (stake_none (HO.out.nodes.below b0) (by omega) hc hpar) ?_
       rintro e w1 ⟨rfl, b1⟩
       have h10 := (b1.block _ (blk_lt HG0.out)).trans HG0.out
       have h11 := (b1.block _ (blk_lt HG1.out)).trans HG1.out
       have m0 : w1.cell? ⟨w.heap.size, 0, none⟩ = some (.slice (some ⟨g, 0, none⟩) ns.length cap) := by simp only [World.cell?, h10]; rfl
       have z0 : w1.frozen? ⟨w.heap.size, 0, none⟩ = false := by simp [World.frozen?, h10]
       have H10 := (show Hid _ from h10)
       have H11 := (show Hid _ from h11)
       have HB01 := (show Hid (Below w.heap.size w w1) from b0.trans (b1.mono b0.size))
       clear h10 h11 b1)
    | fail)
  obtain ⟨W2, hW2⟩ : ∃ W2, W2 = w1.setCell ⟨w.heap.size, 0, none⟩ (.slice (some ⟨g, 0, none⟩) ns.length cap) := ⟨_, rfl⟩
  have gr1 : w1.grownBy W2 (some w.heap.size) := by rw [hW2]; exact grown_setCell _ _ _ _
  have b2 : Below w.heap.size w W2 := HB01.out.grown gr1 HB01.out.size (fun r e => by cases e; exact Nat.le_refl _)
  have h20 : W2.heap[w.heap.size]? = some (.cells #[.slice (some ⟨g, 0, none⟩) ns.length cap] 26 (0, 0)) := by rw [hW2]; exact setCell_at H10.out
  have h21 : W2.heap[w.heap.size + 1]? = some (.cells #[.slice none 0 0] 26 (0, 0)) := by rw [hW2, Below.heap_setCell _ _ _ _ (by show w.heap.size + 1 ≠ w.heap.size; omega)]; exact H11.out
  rw [← hW2]
  clear hW2 gr1 H10 H11 m0 z0 HB01 HG0 HG1 b0 k00
  have O2 := HO.out.below b2
  obtain ⟨_, _, e2, _, _, hcs⟩ := O2.nodes.slice
  cases e2
  obtain ⟨_, _, av, kv, e3, _, _, _, _, _, _, k5, _, hkv⟩ := hcs p hp
  cases e3
  rw [Nat.zero_add] at k5
  have k0 : W2.cell? ⟨w.heap.size, 0, none⟩ = some (.slice (some ⟨g, 0, none⟩) ns.length cap) := by simp only [World.cell?, h20]; rfl
  have HKV := (show Hid (Sl .i64 W2 kv ns[p].kids) from hkv)
  obtain ⟨kv1, kv3, rfl, _, _, _, _⟩ := hkv
  have k0a : ∀ X, (W2.alloc X).cell? ⟨w.heap.size, 0, none⟩ = some (.slice (some ⟨g, 0, none⟩) ns.length cap) := fun X => (((Below.refl _ W2).alloc (Nat.le_refl _) X).cell (p := ⟨w.heap.size, 0, none⟩) (lt_of_cell6 k0)).trans k0
  have k5a : ∀ X, (W2.alloc X).cell? ⟨g, p * 6 + 5, none⟩ = some (.slice kv1 ns[p].kids.length kv3) := fun X => (((Below.refl _ W2).alloc (Nat.le_refl _) X).cell (p := ⟨g, p * 6 + 5, none⟩) (lt_of_cell6 k5)).trans k5
  have HO2 := (show Hid (OwnN B W2 (.slice (some ⟨g, 0, none⟩) ns.length cap) ns) from O2)
  obtain ⟨qs2, _, hq2, _⟩ := HO2.out
  have HRW := (show Hid (W2.ownsRow B 36 6 (.slice (some ⟨g, 0, none⟩) ns.length cap) ns.length (nodeCells qs2)) from hq2)
  clear hq2
  have HQ := (show Hid (_ ∧ _ ∧ _) from ⟨h20, h21, b2⟩)
  have hll := lessL_len (c : Int) ns[p].kids
  have CL := (show Hid (∀ w', Below W2.heap.size W2 w' → Calls Tryz.prog 106 #[.slice kv1 ns[p].kids.length kv3, .int .i64 (c : Int)] w' fun e w'' => ∃ v', e = .returned v' ∧ Own w'.heap.size 3 .i64 w'' v' (lessL (c : Int) ns[p].kids) ∧ Below w'.heap.size w' w'') from fun w' hb => sless_any (c : Int) (HKV.out.below hb) (by omega))
  have hcl : (c : Int) < ns.length := by omega
  have hpl : (p : Int) < ns.length := by omega
  clear O2 hcs h20 h21 b2
  go_cut [] from 10 (fun wx => HangW B w w.heap.size g (.slice (some ⟨g, 0, none⟩) ns.length cap) (kidsN ns c p) wx)
  case first =>
    go_region_law (first
      | (with_reducible refine step_appI (w := x1) ?_ (.tmp 20) (.tmp 22) 34 ?_ W2.heap.size 3 ii (.int .i64 0) 8 ?_ hii hzi0 hzi1 hzi2 ?_ .i64 (.slice ua un uc) (lessL (c : Int) ns[p].kids) ?_ ?_ ⟨W2.heap.size, 0, none⟩ 1 [(c : Int)] ?_ ?_ ?_ ?_ ?_ ?_
         · rfl
         · rfl
         · exact Tryz.underlying34
         · rfl
         · simp [Act.eval]
         · exact HO1.out
         · simp [Act.eval]
         · exact sl_at HND.out
         · (simp; omega)
         · (unfold maxLen; simp; omega)
         · exact (HB1.out).size
         intro v2 x2 o2 g2
         obtain ⟨va, vn, vc, rfl⟩ := own_slice o2
         have b2' : Below W2.heap.size W2 x2 := (HB1.out).grown g2 (HB1.out).size (fun r e => (World.ownsRow.lt HO1.out r e).1)
         have l0 : x2.cell? ⟨w.heap.size, 0, none⟩ = some (.slice (some ⟨g, 0, none⟩) ns.length cap) := (b2'.cell (p := ⟨w.heap.size, 0, none⟩) (lt_of_cell6 k0)).trans k0
         have l5 : x2.cell? ⟨g, p * 6 + 5, none⟩ = some (.slice kv1 ns[p].kids.length kv3) := (b2'.cell (p := ⟨g, p * 6 + 5, none⟩) (lt_of_cell6 k5)).trans k5
         have fz : x2.frozen? ⟨g, p * 6 + 5, none⟩ = false := (ownsRow_below HRW.out b2').frozenAt _
         have HF := (show Hid (_ ∧ _) from ⟨o2, b2'⟩)
         clear o2 b2' g2)
      | (with_reducible refine step_appI (w := (x1.alloc (Obj.cells #[.int .i64 (c : Int)] 3))) ?_ (.tmp 20) (.tmp 22) 34 ?_ W2.heap.size 3 ii (.int .i64 0) 8 ?_ hii hzi0 hzi1 hzi2 ?_ .i64 (.slice ua un uc) (lessL (c : Int) ns[p].kids) ?_ ?_ ⟨x1.heap.size, 0, none⟩ 1 [(c : Int)] ?_ ?_ ?_ ?_ ?_ ?_
         · rfl
         · rfl
         · exact Tryz.underlying34
         · rfl
         · simp [Act.eval]
         · exact ownsRow_below HO1.out ((Below.refl _ _).alloc (Nat.le_refl _) _)
         · simp [Act.eval]
         · exact sl_one _ _ x1 _
         · (simp; omega)
         · (unfold maxLen; simp; omega)
         · exact (HB1.out.alloc HB1.out.size _).size
         intro v2 x2 o2 g2
         obtain ⟨va, vn, vc, rfl⟩ := own_slice o2
         have b2' : Below W2.heap.size W2 x2 := (HB1.out.alloc HB1.out.size _).grown g2 (HB1.out.alloc HB1.out.size _).size (fun r e => (World.ownsRow.lt HO1.out r e).1)
         have l0 : x2.cell? ⟨w.heap.size, 0, none⟩ = some (.slice (some ⟨g, 0, none⟩) ns.length cap) := (b2'.cell (p := ⟨w.heap.size, 0, none⟩) (lt_of_cell6 k0)).trans k0
         have l5 : x2.cell? ⟨g, p * 6 + 5, none⟩ = some (.slice kv1 ns[p].kids.length kv3) := (b2'.cell (p := ⟨g, p * 6 + 5, none⟩) (lt_of_cell6 k5)).trans k5
         have fz : x2.frozen? ⟨g, p * 6 + 5, none⟩ = false := (ownsRow_below HRW.out b2').frozenAt _
         have HF := (show Hid (_ ∧ _) from ⟨o2, b2'⟩)
         clear o2 b2' g2)
      | (go_simp
         go_at_call 106
         with_reducible refine Calls.mono (CL.out ((W2.alloc (Obj.cells #[.int .i64 (c : Int)] 3)).drew) (show Below W2.heap.size W2 (W2.alloc (Obj.cells #[.int .i64 (c : Int)] 3)).drew from ((Below.refl _ W2).alloc (Nat.le_refl _) _).trans (below_drewN 1))) ?_
         rintro e x1 ⟨u1, rfl, o1, b1⟩
         have b1' : Below W2.heap.size W2 x1 := ((show Below W2.heap.size W2 (W2.alloc (Obj.cells #[.int .i64 (c : Int)] 3)).drew from ((Below.refl _ W2).alloc (Nat.le_refl _) _).trans (below_drewN 1))).trans (b1.mono ((show Below W2.heap.size W2 (W2.alloc (Obj.cells #[.int .i64 (c : Int)] 3)).drew from ((Below.refl _ W2).alloc (Nat.le_refl _) _).trans (below_drewN 1))).size)
         have o1' : Own W2.heap.size 3 .i64 x1 u1 (lessL (c : Int) ns[p].kids) := o1.base ((show Below W2.heap.size W2 (W2.alloc (Obj.cells #[.int .i64 (c : Int)] 3)).drew from ((Below.refl _ W2).alloc (Nat.le_refl _) _).trans (below_drewN 1))).size
         obtain ⟨ua, un, uc, rfl⟩ := own_slice o1'
         have j0 : x1.cell? ⟨w.heap.size, 0, none⟩ = some (.slice (some ⟨g, 0, none⟩) ns.length cap) := (b1'.cell (p := ⟨w.heap.size, 0, none⟩) (lt_of_cell6 k0)).trans k0
         have j0a : ∀ X, (x1.alloc X).cell? ⟨w.heap.size, 0, none⟩ = some (.slice (some ⟨g, 0, none⟩) ns.length cap) := fun X => ((b1'.alloc b1'.size X).cell (p := ⟨w.heap.size, 0, none⟩) (lt_of_cell6 k0)).trans k0
         have HO1 := (show Hid (Own W2.heap.size 3 .i64 x1 (.slice ua un uc) (lessL (c : Int) ns[p].kids)) from o1')
         have HB1 := (show Hid (Below W2.heap.size W2 x1) from b1')
         have hnd : x1.heap[W2.heap.size]? = some (.cells #[.int .i64 (c : Int)] 3 (0, 0)) := (b1.block _ (by simp [World.drew])).trans (World.alloc_heap_new W2 _)
         have HND := (show Hid _ from hnd)
         clear o1 o1' b1 b1')
      | (go_simp
         go_at_call 106
         with_reducible refine Calls.mono (CL.out (W2.drew) (show Below W2.heap.size W2 W2.drew from below_drewN 1)) ?_
         rintro e x1 ⟨u1, rfl, o1, b1⟩
         have b1' : Below W2.heap.size W2 x1 := ((show Below W2.heap.size W2 W2.drew from below_drewN 1)).trans (b1.mono ((show Below W2.heap.size W2 W2.drew from below_drewN 1)).size)
         have o1' : Own W2.heap.size 3 .i64 x1 u1 (lessL (c : Int) ns[p].kids) := o1.base ((show Below W2.heap.size W2 W2.drew from below_drewN 1)).size
         obtain ⟨ua, un, uc, rfl⟩ := own_slice o1'
         have j0 : x1.cell? ⟨w.heap.size, 0, none⟩ = some (.slice (some ⟨g, 0, none⟩) ns.length cap) := (b1'.cell (p := ⟨w.heap.size, 0, none⟩) (lt_of_cell6 k0)).trans k0
         have j0a : ∀ X, (x1.alloc X).cell? ⟨w.heap.size, 0, none⟩ = some (.slice (some ⟨g, 0, none⟩) ns.length cap) := fun X => ((b1'.alloc b1'.size X).cell (p := ⟨w.heap.size, 0, none⟩) (lt_of_cell6 k0)).trans k0
         have HO1 := (show Hid (Own W2.heap.size 3 .i64 x1 (.slice ua un uc) (lessL (c : Int) ns[p].kids)) from o1')
         have HB1 := (show Hid (Below W2.heap.size W2 x1) from b1')

         clear o1 o1' b1 b1'))
    all_goals
      go_wp2_with fail
      go_meet
      have t1 := HF.out.1
      have t2 := HF.out.2
      have t3 := HQ.out.1
      have t4 := HQ.out.2.1
      have t5 := below_by g HQ.out.2.2
      have t6 := Nat.le_trans hB HQ.out.2.2.size
      with_reducible exact hang_fin hp t3 t4 HO2.out t5 hgl t6 t1 t2
  case rest =>
    obtain ⟨hx0, hx1, hxo, hxg⟩ := hcut
    have hc' : c < (kidsN ns c p).length := by simpa [kidsN] using hc
    have hop := own_parent hxo (by simp [kidsN]) hc' (p : Int)
    have hln : (kidsN ns c p).length = ns.length := by simp [kidsN]
    obtain ⟨qs3, _, hq3, _⟩ := hxo
    rw [hln] at hq3
    have hcell := hq3.cellAt (c * 6 + 4) (by omega)
    have hfz := hq3.frozenAt (c * 6 + 4)
    obtain ⟨y, hy⟩ : ∃ y, wc.cell? ⟨g, c * 6 + 4, none⟩ = some y := by
      rw [hcell, List.getElem?_eq_getElem (by rw [hq3.1]; omega)]; exact ⟨_, rfl⟩
    have m0 : wc.cell? ⟨w.heap.size, 0, none⟩ = some (.slice (some ⟨g, 0, none⟩) ns.length cap) := by simp only [World.cell?, hx0]; rfl
    have m1 : wc.cell? ⟨w.heap.size + 1, 0, none⟩ = some (.slice none 0 0) := by simp only [World.cell?, hx1]; rfl
    have z1 : wc.frozen? ⟨w.heap.size + 1, 0, none⟩ = false := by simp [World.frozen?, hx1]
    have hgn : g ≠ w.heap.size := by omega
    have hgn1 : g ≠ w.heap.size + 1 := by omega
    obtain ⟨W4, hW4⟩ : ∃ W4, W4 = wc.setCell ⟨g, c * 6 + 4, none⟩ (.int .i64 (p : Int)) := ⟨_, rfl⟩
    have gr4 : wc.grownBy W4 (some g) := by rw [hW4]; exact grown_setCell _ _ _ _
    have x40 : W4.heap[w.heap.size]? = some (.cells #[.slice (some ⟨g, 0, none⟩) ns.length cap] 26 (0, 0)) := (gr4.block _ (blk_lt hx0) (fun e => by simp only [Option.some.injEq] at e; omega)).trans hx0
    have x41 : W4.heap[w.heap.size + 1]? = some (.cells #[.slice none 0 0] 26 (0, 0)) := (gr4.block _ (blk_lt hx1) (fun e => by simp only [Option.some.injEq] at e; omega)).trans hx1
    have n0 : W4.cell? ⟨w.heap.size, 0, none⟩ = some (.slice (some ⟨g, 0, none⟩) ns.length cap) := by simp only [World.cell?, x40]; rfl
    have n1 : W4.cell? ⟨w.heap.size + 1, 0, none⟩ = some (.slice none 0 0) := by simp only [World.cell?, x41]; rfl
    have q1 : W4.frozen? ⟨w.heap.size + 1, 0, none⟩ = false := by simp [World.frozen?, x41]
    have HX := (show Hid (W4.heap[w.heap.size + 1]? = some (.cells #[.slice none 0 0] 26 (0, 0)) ∧ OwnN B W4 (.slice (some ⟨g, 0, none⟩) ns.length cap) (parN (kidsN ns c p) c p) ∧ w.grownBy W4 (some g)) from ⟨x41, by rw [hW4]; exact hop, ⟨gr4.os.trans hxg.os, gr4.tape.trans hxg.tape, gr4.output.trans hxg.output, Nat.le_trans hxg.size gr4.size, fun r hr hne => (gr4.block r (Nat.lt_of_lt_of_le hr hxg.size) hne).trans (hxg.block r hr hne)⟩⟩)
    clear hx0 hx1 hop hq3 hcell hxg gr4 x40 x41
    go_upto_region 4 with fail
    rw [← hW4]
    clear hW4
    go_wp2
    have gs := setCell_at (k := 0) (u := .slice (some ⟨g, 0, none⟩) ns.length cap) HX.out.1
    have gr5 := grown_setCell W4 (w.heap.size + 1) 0 (.slice (some ⟨g, 0, none⟩) ns.length cap)
    refine bodyPost_ret (results_cell_row rfl _ _ (w.heap.size + 1) 26 _ (0, 0) _ rfl gs Tryz.underlying26 rfl rfl) rfl ?_
    refine ⟨rfl, OwnN.kept HX.out.2.1 gr5 (fun r e => by cases e; exact ⟨_, _, _, HX.out.1, by decide, by decide, by decide⟩), ?_⟩
    have hg4 := HX.out.2.2
    exact ⟨gr5.os.trans hg4.os, gr5.tape.trans hg4.tape, gr5.output.trans hg4.output, Nat.le_trans hg4.size gr5.size, fun r hr hne => (gr5.block r (Nat.lt_of_lt_of_le hr hg4.size) (fun e => by simp only [Option.some.injEq] at e; omega)).trans (hg4.block r hr hne)⟩
end Go.Proofs.YtogdbjafibejdaaGreat

/- The program's openRowOf. No condition. -/
namespace Go.Proofs.YtogdbjafibejdaaGreat
open Go.RowKit
set_option maxRecDepth 100000
set_option linter.unusedVariables false

end Go.Proofs.YtogdbjafibejdaaGreat

/- nodeSame and slices.EqualFunc with it: whether two nodes, two rows of nodes are alike. No condition. -/
namespace Go.Proofs.YtogdbjafibejdaaGreat
open Go.RowKit
set_option maxRecDepth 100000
set_option linter.unusedVariables false

def sameB (n m : PNode) : Bool := decide (n.kind = m.kind) && (decide (n.name = m.name) && (decide (n.attrs = m.attrs) && (decide (n.text = m.text) && (decide (n.parent = m.parent) && decide (n.kids = m.kids)))))
theorem sameB_iff {n m : PNode} : sameB n m = true ↔ n = m := by
  cases n; cases m
  simp [sameB]
def nodeV (n : PNode) (p : Value × Value) : Value := .agg (nodeRow n p).toArray

set_option maxHeartbeats 800000 in
set_option maxRecDepth 100000 in
theorem inodeSame_any {w : World} {n m : PNode} {a1 a2 k1 k2 : Value} (ha1 : Sv 2 w a1 (pairCells n.attrs)) (ha2 : Sv 2 w a2 (pairCells m.attrs)) (hk1 : Sl .i64 w k1 n.kids) (hk2 : Sl .i64 w k2 m.kids) (hn : NodeFit n) (hm : NodeFit m) :
    Calls Tryz.prog 63 #[nodeV n (a1, k1), nodeV m (a2, k2)] w fun e w' => e = .returned (.bool (sameB n m)) ∧ Below w.heap.size w w' := by
  have CA := (show Hid (∀ W, Below w.heap.size w W → Calls Tryz.prog 114 #[a1, a2] W fun e w' => e = .returned (.bool (decide (n.attrs = m.attrs))) ∧ Below W.heap.size W w') from fun W b => iequalAttrs (ha1.below b) (ha2.below b) (by have := hn.rs; omega) (by have := hm.rs; omega))
  have CK := (show Hid (∀ W, Below w.heap.size w W → Calls Tryz.prog 115 #[k1, k2] W fun e w' => e = .returned (.bool (decide (n.kids = m.kids))) ∧ Below W.heap.size W w') from fun W b => iequalInts (hk1.below b) (hk2.below b) hn.kl)
  obtain ⟨y1, y2, y3, rfl, _⟩ := ha1
  obtain ⟨z1, z2, z3, rfl, _⟩ := ha2
  obtain ⟨p1, p3, rfl, _⟩ := hk1
  obtain ⟨q1, q3, rfl, _⟩ := hk2
  obtain ⟨nk, nn, na, nt, np, ns⟩ := n
  obtain ⟨mk, mn, ma, mt, mp, ms⟩ := m
  simp only [nodeV, nodeRow] at CA CK ⊢
  have bb : Below w.heap.size w ((w.alloc (.cells #[.int .i64 nk, .string nn, .slice y1 y2 y3, .string nt, .int .i64 np, .slice p1 ns.length p3] 36)).alloc (.cells #[.int .i64 mk, .string mn, .slice z1 z2 z3, .string mt, .int .i64 mp, .slice q1 ms.length q3] 36)) := ((Below.refl _ w).alloc (Nat.le_refl _) _).alloc (by simp) _
  obtain ⟨w2, hw2⟩ : ∃ x, x = ((w.alloc (.cells #[.int .i64 nk, .string nn, .slice y1 y2 y3, .string nt, .int .i64 np, .slice p1 ns.length p3] 36)).alloc (.cells #[.int .i64 mk, .string mn, .slice z1 z2 z3, .string mt, .int .i64 mp, .slice q1 ms.length q3] 36)) := ⟨_, rfl⟩
  have B2 := (show Hid (Below w.heap.size w w2) from by rw [hw2]; exact bb)
  have gN : w2.heap[w.heap.size]? = some (.cells #[.int .i64 nk, .string nn, .slice y1 y2 y3, .string nt, .int .i64 np, .slice p1 ns.length p3] 36 (0, 0)) := by rw [hw2, Below.heap_alloc _ _ _ (by simp)]; exact World.alloc_heap_new _ _
  have gM : w2.heap[w.heap.size + 1]? = some (.cells #[.int .i64 mk, .string mn, .slice z1 z2 z3, .string mt, .int .i64 mp, .slice q1 ms.length q3] 36 (0, 0)) := by
    rw [hw2]
    have := World.alloc_heap_new (w.alloc (.cells #[.int .i64 nk, .string nn, .slice y1 y2 y3, .string nt, .int .i64 np, .slice p1 ns.length p3] 36)) (.cells #[.int .i64 mk, .string mn, .slice z1 z2 z3, .string mt, .int .i64 mp, .slice q1 ms.length q3] 36)
    rwa [World.size_alloc] at this
  have HC := (show Hid (∀ W, Below w2.heap.size w2 W → (W.cell? ⟨w.heap.size, 3, none⟩ = some (.string nt) ∧ W.cell? ⟨w.heap.size, 4, none⟩ = some (.int .i64 np) ∧ W.cell? ⟨w.heap.size, 5, none⟩ = some (.slice p1 ns.length p3)) ∧ (W.cell? ⟨w.heap.size + 1, 3, none⟩ = some (.string mt) ∧ W.cell? ⟨w.heap.size + 1, 4, none⟩ = some (.int .i64 mp) ∧ W.cell? ⟨w.heap.size + 1, 5, none⟩ = some (.slice q1 ms.length q3))) from fun W b => by
    have e1 := (b.block _ (blk_lt gN)).trans gN
    have e2 := (b.block _ (blk_lt gM)).trans gM
    refine ⟨⟨?_, ?_, ?_⟩, ?_, ?_, ?_⟩ <;> simp only [World.cell?, e1, e2] <;> rfl)
  clear bb gN gM
  by_cases h1 : nk = mk
  · subst h1
    by_cases h2 : nn = mn
    · subst h2
      go_enter Tryz.func63, Tryz.ntmps63
      go_wp2_with fail
      go_at_call 114
      rw [← hw2]
      refine Calls.mono (CA.out _ B2.out) ?_
      rintro e w3 ⟨rfl, b3⟩
      clear hw2
      obtain ⟨⟨c3, c4, c5⟩, d3, d4, d5⟩ := HC.out w3 b3
      have B3 := (show Hid (Below w.heap.size w w3) from B2.out.trans (b3.mono B2.out.size))
      clear b3 HC
      by_cases h3 : na = ma
      · subst h3
        rw [decide_eq_true rfl]
        by_cases h4 : nt = mt
        · subst h4
          by_cases h5 : np = mp
          · subst h5
            have HS := (show Hid (sameB ⟨nk, nn, na, nt, np, ns⟩ ⟨nk, nn, na, nt, np, ms⟩ = decide (ns = ms)) from (show _ = _ by simp [sameB]))
            go_wp2_with fail
            go_at_call 115
            refine Calls.mono (CK.out _ B3.out) ?_
            rintro e w4 ⟨rfl, b4⟩
            have B4 := (show Hid (Below w.heap.size w w4) from B3.out.trans (b4.mono B3.out.size))
            clear b4
            go_wp2
            go_ret
            exact ⟨by rw [HS.out]; rfl, B4.out⟩
          · have HS := (show Hid (sameB ⟨nk, nn, na, nt, np, ns⟩ ⟨nk, nn, na, nt, mp, ms⟩ = false) from (show _ = _ by simp [sameB, h5]))
            go_wp2
            go_ret
            exact ⟨by rw [HS.out]; rfl, B3.out⟩
        · have HS := (show Hid (sameB ⟨nk, nn, na, nt, np, ns⟩ ⟨nk, nn, na, mt, mp, ms⟩ = false) from (show _ = _ by simp [sameB, h4]))
          have h4b := toList_ne h4
          go_wp2
          go_ret
          exact ⟨by rw [HS.out]; rfl, B3.out⟩
      · have HS := (show Hid (sameB ⟨nk, nn, na, nt, np, ns⟩ ⟨nk, nn, ma, mt, mp, ms⟩ = false) from (show _ = _ by simp [sameB, h3]))
        rw [decide_eq_false h3]
        go_wp2
        go_ret
        exact ⟨by rw [HS.out]; rfl, B3.out⟩
    · have HS := (show Hid (sameB ⟨nk, nn, na, nt, np, ns⟩ ⟨nk, mn, ma, mt, mp, ms⟩ = false) from (show _ = _ by simp [sameB, h2]))
      have h2b := toList_ne h2
      go_enter Tryz.func63, Tryz.ntmps63
      go_wp2
      go_ret
      refine ⟨by rw [HS.out]; rfl, ?_⟩
      rw [← hw2]
      exact B2.out
  · have HS := (show Hid (sameB ⟨nk, nn, na, nt, np, ns⟩ ⟨mk, mn, ma, mt, mp, ms⟩ = false) from (show _ = _ by simp [sameB, h1]))
    go_enter Tryz.func63, Tryz.ntmps63
    go_wp2
    go_ret
    refine ⟨by rw [HS.out]; rfl, ?_⟩
    rw [← hw2]
    exact B2.out
end Go.Proofs.YtogdbjafibejdaaGreat

/- The draw of a tree, in plain words; the state of the draw. No condition. -/
namespace Go.Proofs.YtogdbjafibejdaaGreat
open Go.RowKit
set_option maxRecDepth 100000
set_option linter.unusedVariables false

structure MildT (k : Nat) (n : PNode) : Prop where
  nm : n.name.size ≤ 100
  tx : n.text.size ≤ 100
  rs : n.attrs.length ≤ 40
  each : ∀ p ∈ n.attrs, p.1.size ≤ 3001 ∧ p.2.size ≤ 3001
  kl : n.kids.length ≤ k
  no0 : (0 : Int) ∉ n.kids
theorem MildT.fit {k : Nat} {n : PNode} (h : MildT k n) (hk : k ≤ 1000) : NodeFit n := ⟨by have := h.nm; omega, by have := h.tx; omega, by have := h.rs; omega, fun p hp => by have := h.each p hp; omega, by have := h.kl; omega⟩
theorem MildT.more {k k' : Nat} {n : PNode} (h : MildT k n) (hk : k ≤ k') : MildT k' n := ⟨h.nm, h.tx, h.rs, h.each, Nat.le_trans h.kl hk, h.no0⟩
structure DrT (ns : List PNode) (k : Nat) : Prop where
  cnt : ns.length = k + 1
  mild : ∀ n ∈ ns, MildT k n
  par0 : parOf ns 0 = -1
theorem drT_zero : DrT [⟨1, ⟨#[]⟩, [], ⟨#[]⟩, -1, []⟩] 0 := ⟨rfl, fun n hn => by simp at hn; subst hn; exact ⟨by decide, by decide, by simp, by simp, by simp, by simp⟩, rfl⟩
theorem drT_add {ns : List PNode} {k : Nat} (h : DrT ns k) {nd : PNode} (hm : MildT 0 nd) : DrT (ns ++ [nd]) (k + 1) := by
  refine ⟨by simp [h.cnt], fun n hn => ?_, ?_⟩
  · rcases List.mem_append.mp hn with hn | hn
    · exact (h.mild n hn).more (by omega)
    · simp at hn; subst hn; exact hm.more (by omega)
  · have := h.par0
    have hc := h.cnt
    unfold parOf at this ⊢
    rw [List.getElem?_append_left (by omega)]
    exact this
theorem parOf_modify' {ns : List PNode} {c : Nat} {f : PNode → PNode} (h : c ≠ 0 ∨ ∀ n, (f n).parent = n.parent) : parOf (ns.modify c f) 0 = parOf ns 0 := by
  unfold parOf
  rw [List.getElem?_modify]
  cases ns[0]? with
  | none => rfl
  | some n =>
    rcases h with h | h
    · simp [h]
    · by_cases e : c = 0 <;> simp [e, h]
theorem drT_hang {ns : List PNode} {k : Nat} (h : DrT ns (k + 1)) (hk : ∀ n ∈ ns, MildT k n) {p : Nat} (hp : p < ns.length) : DrT (parN (kidsN ns (k + 1) p) (k + 1) p) (k + 1) := by
  refine ⟨by simp [parN, kidsN, h.cnt], fun n hn => ?_, ?_⟩
  · unfold parN at hn
    obtain ⟨i, hi, rfl⟩ := List.mem_iff_getElem.mp hn
    rw [List.getElem_modify]
    have hi' : i < (kidsN ns (k + 1) p).length := by simpa using hi
    have hm : MildT (k + 1) (kidsN ns (k + 1) p)[i] := by
      simp only [kidsN, List.getElem_modify]
      have hi2 : i < ns.length := by simpa [kidsN] using hi'
      have hm0 := hk ns[i] (List.getElem_mem hi2)
      split
      · have hll := lessL_len ((k + 1 : Nat) : Int) ns[i].kids
        have hkl := hm0.kl
        refine ⟨hm0.nm, hm0.tx, hm0.rs, hm0.each, by simp only [List.length_append, List.length_singleton]; omega, fun h0 => ?_⟩
        rcases List.mem_append.mp h0 with h0 | h0
        · exact hm0.no0 (List.mem_filter.mp h0).1
        · simp only [List.mem_cons, List.not_mem_nil, or_false] at h0; omega
      · exact hm0.more (by omega)
    split
    · exact ⟨hm.nm, hm.tx, hm.rs, hm.each, hm.kl, hm.no0⟩
    · exact hm
  · unfold parN kidsN
    rw [parOf_modify' (.inl (by omega)), parOf_modify' (f := fun n => ⟨n.kind, n.name, n.attrs, n.text, n.parent, lessL ((k + 1 : Nat) : Int) n.kids ++ [((k + 1 : Nat) : Int)]⟩) (.inr (fun n => rfl))]
    exact h.par0

structure RtW (w0 w : World) (g : Nat) (cv : Value) (xs : List Int) (T : Nat) (nv : Value) (ns : List PNode) (W : World) : Prop where
  cur : Cur w0 g cv xs W
  bR : W.heap[w.heap.size]? = some (.cells #[.slice none 0 0] 26 (0, 0))
  bT : W.heap[T]? = some (.cells #[nv] 26 (0, 0))
  own : OwnN w.heap.size W nv ns
  gr : w.grownBy W (some g)
theorem ownN_low' {B : Nat} {w w' : World} {v : Value} {ns : List PNode} {row : Option Nat} (h : OwnN B w v ns) (hg : w.grownBy w' row) (hr : ∀ k, row = some k → k < B) : OwnN B w' v ns := by
  obtain ⟨qs, h1, h2, h3⟩ := h
  have key : ∀ {e size n : Nat} (u : Value) {xs : List Value}, w.ownsRow B e size u n xs → w'.ownsRow B e size u n xs := fun {e size n} u {xs} h => by
    refine h.kept hg ?_
    by_cases hv : u.ownBlock = none
    · exact .inl hv
    · refine .inr fun e => ?_
      cases hrow : row with
      | none => rw [hrow] at e; exact hv e
      | some k => have h4 := hr k hrow; rw [hrow] at e; have := (h.lt k e).1; omega
  exact ⟨qs, h1, key _ h2, fun q hq => ⟨key _ (h3 q hq).1, key _ (h3 q hq).2⟩⟩
theorem RtW.cursor {w0 w W W' : World} {g : Nat} {cv : Value} {xs : List Int} {T : Nat} {nv : Value} {ns : List PNode} (h : RtW w0 w g cv xs T nv ns W) (hc : Cur w0 g cv xs W') (hg : W.grownBy W' (some g)) (hgl : g < w.heap.size) (hT : w.heap.size < T) : RtW w0 w g cv xs T nv ns W' :=
  ⟨hc, (hg.block _ (blk_lt h.bR) (fun e => by simp only [Option.some.injEq] at e; omega)).trans h.bR, (hg.block _ (blk_lt h.bT) (fun e => by simp only [Option.some.injEq] at e; omega)).trans h.bT, ownN_low' h.own hg (fun k e => by cases e; exact hgl), grown_trans h.gr hg⟩
theorem RtW.below {w0 w W W' : World} {g : Nat} {cv : Value} {xs : List Int} {T : Nat} {nv : Value} {ns : List PNode} (h : RtW w0 w g cv xs T nv ns W) (hb : Below W.heap.size W W') : RtW w0 w g cv xs T nv ns W' :=
  ⟨h.cur.below hb, (hb.block _ (blk_lt h.bR)).trans h.bR, (hb.block _ (blk_lt h.bT)).trans h.bT, h.own.below hb, grown_below h.gr hb⟩
theorem RtW.tree {w0 w W : World} {g : Nat} {cv : Value} {xs : List Int} {T : Nat} {nv : Value} {ns : List PNode} (h : RtW w0 w g cv xs T nv ns W) {v2 : Value} {ns2 : List PNode} (o : OwnN w.heap.size W v2 ns2) (hgl : g < w.heap.size) (hT : w.heap.size < T) : RtW w0 w g cv xs T v2 ns2 (W.setCell ⟨T, 0, none⟩ v2) := by
  have hg := grown_setCell W T 0 v2
  have hsw := h.gr.size
  refine ⟨h.cur.kept hg (fun e => by simp only [Option.some.injEq] at e; omega) (fun k e => by cases e; have := h.cur.1; omega), (hg.block _ (blk_lt h.bR) (fun e => by simp only [Option.some.injEq] at e; omega)).trans h.bR, setCell_at h.bT, o.kept hg (fun k e => by cases e; exact ⟨_, _, _, h.bT, by decide, by decide, by decide⟩), ?_⟩
  exact ⟨hg.os.trans h.gr.os, hg.tape.trans h.gr.tape, hg.output.trans h.gr.output, Nat.le_trans h.gr.size hg.size, fun j hj hne => (hg.block j (by omega) (fun e => by simp only [Option.some.injEq] at e; omega)).trans (h.gr.block j hj hne)⟩
theorem RtW.fin {w0 w W : World} {g : Nat} {cv : Value} {xs : List Int} {T : Nat} {nv : Value} {ns : List PNode} (h : RtW w0 w g cv xs T nv ns W) (hgl : g < w.heap.size) (u : Value) : OwnN w.heap.size (W.setCell ⟨w.heap.size, 0, none⟩ u) nv ns ∧ Cur w0 g cv xs (W.setCell ⟨w.heap.size, 0, none⟩ u) ∧ w.grownBy (W.setCell ⟨w.heap.size, 0, none⟩ u) (some g) := by
  have hg : W.grownBy (W.setCell ⟨w.heap.size, 0, none⟩ u) (some w.heap.size) := grown_setCell _ _ _ _
  have hsw := h.gr.size
  exact ⟨h.own.kept hg (fun k e => by cases e; exact ⟨_, _, _, h.bR, by decide, by decide, by decide⟩), h.cur.kept hg (fun e => by simp only [Option.some.injEq] at e; omega) (fun k e => by cases e; have := h.cur.1; omega), ⟨hg.os.trans h.gr.os, hg.tape.trans h.gr.tape, hg.output.trans h.gr.output, Nat.le_trans h.gr.size hg.size, fun j hj hne => (hg.block j (by omega) (fun e => by simp only [Option.some.injEq] at e; omega)).trans (h.gr.block j hj hne)⟩⟩
end Go.Proofs.YtogdbjafibejdaaGreat

/- The program's lastThat with the closures of a row (written by mk/irow3.py). No condition. -/
namespace Go.Proofs.YtogdbjafibejdaaGreat
open Go.RowKit
set_option maxRecDepth 100000
set_option linter.unusedVariables false

structure Boxes (w : World) (R M A : Nat) (v : Value) (nm : ByteArray) : Prop where
  r1 : w.cell? ⟨R, 1, none⟩ = some (.pointer (some ⟨A, 0, none⟩))
  a0 : w.cell? ⟨A, 0, none⟩ = some v
  m0 : w.cell? ⟨M, 0, none⟩ = some (.string nm)
theorem Boxes.below {w w' : World} {R M A : Nat} {v : Value} {nm : ByteArray} (h : Boxes w R M A v nm) (hb : Below w.heap.size w w') : Boxes w' R M A v nm :=
  ⟨(hb.cell (p := ⟨R, 1, none⟩) (lt_of_cell h.r1)).trans h.r1, (hb.cell (p := ⟨A, 0, none⟩) (lt_of_cell h.a0)).trans h.a0, (hb.cell (p := ⟨M, 0, none⟩) (lt_of_cell h.m0)).trans h.m0⟩

end Go.Proofs.YtogdbjafibejdaaGreat

/- slices.EqualFunc with nodeSame: whether two rows of nodes are alike. No condition. -/
namespace Go.Proofs.YtogdbjafibejdaaGreat
open Go.RowKit
set_option maxRecDepth 100000
set_option linter.unusedVariables false

set_option maxHeartbeats 800000 in
set_option maxRecDepth 100000 in
theorem iequalFunc {v u : Value} {ns ms : List PNode} {w : World} (h : NodesAt w v ns) (k : NodesAt w u ms) (hf : ∀ n ∈ ns, NodeFit n) (hg : ∀ n ∈ ms, NodeFit n) (hn : ns.length ≤ 1048576) :
    Calls Tryz.prog 62 #[v, u, .func (.func 63) #[] #[]] w fun e w' => ∃ r : Bool, e = .returned (.bool r) ∧ (r = true ↔ ns = ms) ∧ Below w.heap.size w w' := by
  obtain ⟨a, ca, rfl, h1, h2, h3⟩ := h.slice
  obtain ⟨b, cb, rfl, k1, k2, k3⟩ := k.slice
  have HX := (show Hid _ from h3)
  have HY := (show Hid _ from k3)
  have HF := (show Hid (∀ n ∈ ns, NodeFit n) from hf)
  have HG := (show Hid (∀ n ∈ ms, NodeFit n) from hg)
  clear h3 k3 h k hf hg
  by_cases hl : ns.length = ms.length
  · have HLn := (show Hid (ns.length = ms.length) from hl)
    rw [← hl]
    clear hl k1 k2
    go_enter Tryz.func62, Tryz.ntmps62
    go_wp2
    go_loopw [17] (fun i wr => ∃ k : Nat, k ≤ ns.length ∧ i = .int .i64 k ∧ Hid (ns.take k = ms.take k) ∧ Hid (Below w.heap.size w wr)) (fun i _ => ns.length - (intOf i).toNat)
    case atStart => exact ⟨0, Nat.zero_le _, rfl, (show _ = _ by simp), Below.refl _ _⟩
    case round =>
      obtain ⟨k, hks, rfl, HT, HB⟩ := hrel
      by_cases hlt : k < ns.length
      · have hlt2 : k < ms.length := by have := HLn.out; omega
        obtain ⟨b1, o1, av, kv, rfl, hb1, c0, c1, c2, c3, c4, c5, hav, hkv⟩ := HX.out k hlt
        obtain ⟨b2, o2, av', kv', rfl, hb2, d0, d1, d2, d3, d4, d5, hav', hkv'⟩ := HY.out k hlt2
        replace c0 := (HB.out.cell (p := ⟨b1, o1 + k * 6, none⟩) hb1).trans c0
        replace c1 := (HB.out.cell (p := ⟨b1, o1 + k * 6 + 1, none⟩) hb1).trans c1
        replace c2 := (HB.out.cell (p := ⟨b1, o1 + k * 6 + 2, none⟩) hb1).trans c2
        replace c3 := (HB.out.cell (p := ⟨b1, o1 + k * 6 + 3, none⟩) hb1).trans c3
        replace c4 := (HB.out.cell (p := ⟨b1, o1 + k * 6 + 4, none⟩) hb1).trans c4
        replace c5 := (HB.out.cell (p := ⟨b1, o1 + k * 6 + 5, none⟩) hb1).trans c5
        replace d0 := (HB.out.cell (p := ⟨b2, o2 + k * 6, none⟩) hb2).trans d0
        replace d1 := (HB.out.cell (p := ⟨b2, o2 + k * 6 + 1, none⟩) hb2).trans d1
        replace d2 := (HB.out.cell (p := ⟨b2, o2 + k * 6 + 2, none⟩) hb2).trans d2
        replace d3 := (HB.out.cell (p := ⟨b2, o2 + k * 6 + 3, none⟩) hb2).trans d3
        replace d4 := (HB.out.cell (p := ⟨b2, o2 + k * 6 + 4, none⟩) hb2).trans d4
        replace d5 := (HB.out.cell (p := ⟨b2, o2 + k * 6 + 5, none⟩) hb2).trans d5
        have hbs := HB.out.size
        have hb1' : b1 < wr.heap.size := by omega
        have hb2' : b2 < wr.heap.size := by omega
        have CN := (show Hid (∀ W, Below wr.heap.size wr W → Calls Tryz.prog 63 #[nodeV ns[k] (av, kv), nodeV ms[k] (av', kv')] W fun e w' => e = .returned (.bool (sameB ns[k] ms[k])) ∧ Below W.heap.size W w') from fun W b => inodeSame_any ((hav.below HB.out).below b) ((hav'.below HB.out).below b) ((hkv.below HB.out).below b) ((hkv'.below HB.out).below b) (HF.out _ (List.getElem_mem hlt)) (HG.out _ (List.getElem_mem hlt2)))
        have HN := (show Hid (sameB ns[k] ms[k] = true → ns.take (k + 1) = ms.take (k + 1)) from fun h => by rw [List.take_succ_eq_append_getElem hlt, List.take_succ_eq_append_getElem hlt2, HT.out, sameB_iff.mp h])
        have HE := (show Hid (sameB ns[k] ms[k] = false → ns ≠ ms) from fun h e => by
          have : sameB ns[k] ms[k] = true := sameB_iff.mpr (by subst e; rfl)
          rw [h] at this; cases this)
        obtain ⟨y1, y2, y3, rfl, _⟩ := hav
        obtain ⟨z1, z2, z3, rfl, _⟩ := hav'
        obtain ⟨p1, p3, rfl, _⟩ := hkv
        obtain ⟨q1, q3, rfl, _⟩ := hkv'
        obtain ⟨n, hnd⟩ : ∃ n, n = ns[k] := ⟨_, rfl⟩
        obtain ⟨m, hmd⟩ : ∃ m, m = ms[k] := ⟨_, rfl⟩
        rw [← hnd] at c0 c1 c3 c4 c5
        rw [← hmd] at d0 d1 d3 d4 d5
        rw [← hnd, ← hmd] at CN HN HE
        obtain ⟨r, hr⟩ : ∃ r, r = sameB n m := ⟨_, rfl⟩
        rw [← hr] at CN HN HE
        clear hr hnd hmd
        obtain ⟨nk, nn, na, nt, np, nks⟩ := n
        obtain ⟨mk, mn, ma, mt, mp, mks⟩ := m
        simp only [nodeV, nodeRow] at c0 c1 c3 c4 c5 d0 d1 d3 d4 d5 CN
        have hki : (k : Int) < (ns.length : Int) := by omega
        have bW : Below wr.heap.size wr ((wr.alloc (.cells #[.int .i64 nk, .string nn, .slice y1 y2 y3, .string nt, .int .i64 np, .slice p1 nks.length p3] 36)).alloc (.cells #[.int .i64 mk, .string mn, .slice z1 z2 z3, .string mt, .int .i64 mp, .slice q1 mks.length q3] 36)) := ((Below.refl _ wr).alloc (Nat.le_refl _) _).alloc (by simp) _
        have BW := (show Hid _ from bW)
        clear bW
        go_wp2_with fail
        go_at_call 63
        refine Calls.mono (CN.out _ BW.out) ?_
        rintro e w9 ⟨rfl, b9⟩
        have B9 := (show Hid (Below w.heap.size w w9) from HB.out.trans ((BW.out.trans (b9.mono BW.out.size)).mono hbs))
        clear b9 BW CN
        cases r
        · have HE2 := (show Hid (ns ≠ ms) from HE.out rfl)
          go_wp2
          go_ret
          exact ⟨false, rfl, ⟨(fun h => by cases h), fun h => absurd h HE2.out⟩, B9.out⟩
        · have HN2 := (show Hid (ns.take (k + 1) = ms.take (k + 1)) from HN.out rfl)
          go_wp2
          go_roundw
          case rel => exact ⟨k + 1, by omega, by go_num, HN2.out, B9.out⟩
          case measure => simp [intOf]; omega
      · obtain rfl : k = ns.length := by omega
        have HD := (show Hid (ns = ms) from (show _ = _ by have := HT.out; rwa [List.take_length, HLn.out, List.take_length] at this))
        go_wp2
        go_ret
        exact ⟨true, rfl, ⟨fun _ => HD.out, fun _ => rfl⟩, HB.out⟩
  · have hli : ¬ (ns.length : Int) = (ms.length : Int) := by omega
    have hne : ¬ ns = ms := fun e => hl (by rw [e])
    go_enter Tryz.func62, Tryz.ntmps62
    go_wp2
    go_ret
    exact ⟨false, rfl, ⟨(fun h => by cases h), fun h => absurd h hne⟩, Below.refl _ _⟩
end Go.Proofs.YtogdbjafibejdaaGreat
