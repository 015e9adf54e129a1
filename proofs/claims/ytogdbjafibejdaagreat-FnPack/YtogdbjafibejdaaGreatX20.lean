/- Contracts of the laws' copies and measures of a list of attributes. -/
import Derived.Test.YtogdbjafibejdaaGreatX18
import Derived.OwnWalk
import Derived.Test.YtogdbjafibejdaaGreatX5
import Derived.Test.YtogdbjafibejdaaGreatX3
import Derived.Test.YtogdbjafibejdaaGreatX9
import Derived.Test.YtogdbjafibejdaaGreatX19
namespace Go.Proofs.YtogdbjafibejdaaGreat
open Go.RowKit
set_option maxRecDepth 100000
set_option linter.unusedVariables false
theorem Tryz.infoA : (Tryz.prog.info? 115).map (fun i => (i.zero, i.size, i.bytes)) = some (some (.agg #[.string ⟨#[]⟩, .string ⟨#[]⟩]), 2, 32) := by kernel_rfl

end Go.Proofs.YtogdbjafibejdaaGreat

/- Contracts of the laws' marks of a list of attributes. -/
namespace Go.Proofs.YtogdbjafibejdaaGreat
open Go.RowKit
set_option maxRecDepth 100000
set_option linter.unusedVariables false
end Go.Proofs.YtogdbjafibejdaaGreat

/- Nodes in memory: a slice of nodes, each with its attributes and its kids. No condition. -/
namespace Go.Proofs.YtogdbjafibejdaaGreat
open Go.RowKit
set_option maxRecDepth 100000
set_option linter.unusedVariables false

structure PNode where
  kind : Int
  name : ByteArray
  attrs : List (ByteArray × ByteArray)
  text : ByteArray
  parent : Int
  kids : List Int

def nodeRow (n : PNode) (p : Value × Value) : List Value := [.int .i64 n.kind, .string n.name, p.1, .string n.text, .int .i64 n.parent, p.2]
def nodeCells (qs : List (PNode × (Value × Value))) : List Value := qs.flatMap fun q => nodeRow q.1 q.2
theorem nodeCells_len (qs : List (PNode × (Value × Value))) : (nodeCells qs).length = qs.length * 6 := by
  induction qs with
  | nil => rfl
  | cons q qs ih => simp only [nodeCells, nodeRow, List.flatMap_cons, List.length_append, List.length_cons, List.length_nil] at ih ⊢; omega
theorem nodeCells_at (qs : List (PNode × (Value × Value))) (k j : Nat) (h : k < qs.length) (hj : j < 6) : (nodeCells qs).getD (k * 6 + j) undef = (nodeRow qs[k].1 qs[k].2).getD j undef := by
  induction qs generalizing k with
  | nil => simp at h
  | cons q qs ih =>
    cases k with
    | zero =>
      simp only [nodeCells, List.flatMap_cons, List.getD_eq_getElem?_getD, Nat.zero_mul, Nat.zero_add, List.getElem_cons_zero]
      rw [List.getElem?_append_left (by simp [nodeRow]; omega)]
    | succ k =>
      have := ih k (by simpa using h)
      simp only [nodeCells, List.flatMap_cons, List.getD_eq_getElem?_getD, List.getElem_cons_succ] at this ⊢
      rw [List.getElem?_append_right (by simp [nodeRow]; omega), ← this]
      congr 2
      simp [nodeRow]; omega

def NodesAt (w : World) (v : Value) (ns : List PNode) : Prop :=
  ∃ qs : List (PNode × (Value × Value)), qs.map (fun q => q.1) = ns ∧ Sv 6 w v (nodeCells qs) ∧ ∀ q ∈ qs, Sv 2 w q.2.1 (pairCells q.1.attrs) ∧ Sl .i64 w q.2.2 q.1.kids

theorem NodesAt.below {w w' : World} {v : Value} {ns : List PNode} (h : NodesAt w v ns) (hb : Below w.heap.size w w') : NodesAt w' v ns := by
  obtain ⟨qs, h1, h2, h3⟩ := h
  exact ⟨qs, h1, h2.below hb, fun q hq => ⟨(h3 q hq).1.below hb, (h3 q hq).2.below hb⟩⟩

theorem NodesAt.slice {w : World} {v : Value} {ns : List PNode} (h : NodesAt w v ns) : ∃ a cap, v = .slice a ns.length cap ∧ ns.length ≤ cap ∧ cap ≤ maxLen ∧
    ∀ k (hk : k < ns.length), ∃ b off av kv, a = some ⟨b, off, none⟩ ∧ b < w.heap.size ∧ w.cell? ⟨b, off + k * 6, none⟩ = some (.int .i64 ns[k].kind) ∧ w.cell? ⟨b, off + k * 6 + 1, none⟩ = some (.string ns[k].name) ∧
      w.cell? ⟨b, off + k * 6 + 2, none⟩ = some av ∧ w.cell? ⟨b, off + k * 6 + 3, none⟩ = some (.string ns[k].text) ∧ w.cell? ⟨b, off + k * 6 + 4, none⟩ = some (.int .i64 ns[k].parent) ∧ w.cell? ⟨b, off + k * 6 + 5, none⟩ = some kv ∧
      Sv 2 w av (pairCells ns[k].attrs) ∧ Sl .i64 w kv ns[k].kids := by
  obtain ⟨qs, rfl, ⟨a, len, cap, rfl, hl, h1, h2, h3, hc⟩, hq⟩ := h
  have hlen : len = qs.length := by rw [nodeCells_len] at hl; omega
  subst hlen
  refine ⟨a, cap, by simp, by simpa using h1, h2, fun k hk => ?_⟩
  have hk' : k < qs.length := by simpa using hk
  have key : ∀ j, j < 6 → ∃ b off, a = some ⟨b, off, none⟩ ∧ w.cell? ⟨b, off + k * 6 + j, none⟩ = some ((nodeRow qs[k].1 qs[k].2).getD j undef) := fun j hj => by
    obtain ⟨b, off, e, c⟩ := hc (k * 6 + j) (by rw [nodeCells_len]; omega)
    rw [nodeCells_at qs k j hk' hj, ← Nat.add_assoc] at c
    exact ⟨b, off, e, c⟩
  obtain ⟨b, off, rfl, c0⟩ := key 0 (by omega)
  obtain ⟨_, _, e1, c1⟩ := key 1 (by omega); cases e1
  obtain ⟨_, _, e2, c2⟩ := key 2 (by omega); cases e2
  obtain ⟨_, _, e3, c3⟩ := key 3 (by omega); cases e3
  obtain ⟨_, _, e4, c4⟩ := key 4 (by omega); cases e4
  obtain ⟨_, _, e5, c5⟩ := key 5 (by omega); cases e5
  have hlt : b < w.heap.size := by
    by_cases hlt : b < w.heap.size
    · exact hlt
    · exfalso; simp [World.cell?, Array.getElem?_eq_none (Nat.le_of_not_lt hlt)] at c0
  have hm := hq qs[k] (List.getElem_mem hk')
  refine ⟨b, off, qs[k].2.1, qs[k].2.2, rfl, hlt, ?_, ?_, ?_, ?_, ?_, ?_, ?_, ?_⟩
  · simpa [nodeRow] using c0
  · simpa [nodeRow] using c1
  · simpa [nodeRow] using c2
  · simpa [nodeRow] using c3
  · simpa [nodeRow] using c4
  · simpa [nodeRow] using c5
  · simpa using hm.1
  · simpa using hm.2
end Go.Proofs.YtogdbjafibejdaaGreat

/- What stands ahead of the last bar: the specification's l11From and FmtClear, the program's lastBar, first and FmtClear, of every list. -/
namespace Go.Proofs.YtogdbjafibejdaaGreat
open Go.RowKit
set_option maxRecDepth 100000
set_option linter.unusedVariables false
end Go.Proofs.YtogdbjafibejdaaGreat

/- The program's elementKind, specialSet, isOfKind and the seven kinds (written by mk/ikind2.py). -/
namespace Go.Proofs.YtogdbjafibejdaaGreat
open Go.RowKit Go.Maps
set_option maxRecDepth 100000
set_option linter.unusedVariables false
def RowOk (w : World) (p : Nat × List ByteArray) : Prop := p.1 < w.heap.size ∧ Txt w p.1 p.2 ∧ p.2.length ≤ 100 ∧ ∀ s ∈ p.2, s.size ≤ 100
theorem Txt.below {w w' : World} {B g : Nat} {xs : List ByteArray} (h : Txt w g xs) (hb : Below B w w') (hg : g < B) : Txt w' g xs :=
  fun j hj => (hb.cell hg).trans (h j hj)
theorem RowOk.below {w w' : World} {p : Nat × List ByteArray} (h : RowOk w p) (hb : Below w.heap.size w w') : RowOk w' p :=
  ⟨Nat.lt_of_lt_of_le h.1 hb.size, h.2.1.below hb h.1, h.2.2⟩

end Go.Proofs.YtogdbjafibejdaaGreat

/- Rows of the call's own that are kept while blocks of other kinds are turned; blocks of one or two cells. No condition. -/
namespace Go.Proofs.YtogdbjafibejdaaGreat
open Go.RowKit
set_option maxRecDepth 100000
set_option linter.unusedVariables false
end Go.Proofs.YtogdbjafibejdaaGreat

/- Contracts of the specification's AttrsOk and AttrsSame. -/
namespace Go.Proofs.YtogdbjafibejdaaGreat
open Go.RowKit
set_option maxRecDepth 100000
set_option linter.unusedVariables false

theorem attrsTo_iff (rs : List (ByteArray × ByteArray)) : attrsTo rs = true ↔ (∀ i (hi : i < rs.length), attrOk rs[i] = true) ∧ ∀ i j (hi : i < rs.length) (hj : j < rs.length), i < j → rs[i].1 ≠ rs[j].1 := by
  unfold attrsTo
  rw [Bool.and_eq_true, List.all_eq_true, decide_eq_true_eq, List.pairwise_iff_getElem]
  constructor
  · rintro ⟨h1, h2⟩
    exact ⟨fun i hi => h1 _ (List.getElem_mem hi), h2⟩
  · rintro ⟨h1, h2⟩
    refine ⟨fun p hp => ?_, h2⟩
    obtain ⟨i, hi, rfl⟩ := List.getElem_of_mem hp
    exact h1 i hi
theorem attrsTo_succ {rs : List (ByteArray × ByteArray)} {k : Nat} (hk : k < rs.length) (h : attrsTo (rs.take k) = true) (ha : attrOk rs[k] = true) (hd : ∀ j (hj : j < k), (rs[j]'(by omega)).1 ≠ rs[k].1) : attrsTo (rs.take (k + 1)) = true := by
  rw [attrsTo_iff] at h ⊢
  have hl : (rs.take (k + 1)).length = k + 1 := by simp; omega
  have hl0 : (rs.take k).length = k := by simp; omega
  refine ⟨fun i hi => ?_, fun i j hi hj hij => ?_⟩
  · rw [List.getElem_take]
    by_cases hik : i < k
    · have := h.1 i (by omega); rw [List.getElem_take] at this; exact this
    · have e : i = k := by omega
      subst e; exact ha
  · rw [List.getElem_take, List.getElem_take]
    by_cases hjk : j < k
    · have := h.2 i j (by omega) (by omega) hij
      rw [List.getElem_take, List.getElem_take] at this; exact this
    · have e : j = k := by omega
      subst e; exact hd i hij
theorem attrsTo_bad {rs : List (ByteArray × ByteArray)} {k : Nat} (hk : k < rs.length) (h : attrOk rs[k] = false) : attrsTo rs = false := by
  rcases he : attrsTo rs with _ | _
  · rfl
  · rw [((attrsTo_iff rs).mp he).1 k hk] at h; cases h
theorem attrsTo_twice {rs : List (ByteArray × ByteArray)} {j k : Nat} (hj : j < rs.length) (hk : k < rs.length) (hjk : j < k) (h : rs[j].1 = rs[k].1) : attrsTo rs = false := by
  rcases he : attrsTo rs with _ | _
  · rfl
  · exact absurd h (((attrsTo_iff rs).mp he).2 j k hj hk hjk)

set_option maxHeartbeats 2000000 in
set_option maxRecDepth 100000 in
theorem sattrsOk_any {v : Value} {rs : List (ByteArray × ByteArray)} {w : World} (h : Sv 2 w v (pairCells rs)) (hn : rs.length ≤ 1099511627776) (hs : ∀ p ∈ rs, p.1.size ≤ 1099511627776 ∧ p.2.size ≤ 1099511627776) :
    Calls Tryz.prog 108 #[v] w fun e w' => e = .returned (.bool (attrsOk rs)) ∧ Below w.heap.size w w' := by
  obtain ⟨a, ca, rfl, _, _, hca⟩ := h.pair
  have HS := (show Hid (∀ p ∈ rs, p.1.size ≤ 1099511627776 ∧ p.2.size ≤ 1099511627776) from hs)
  clear h hs
  by_cases h20 : 20 < rs.length
  · have hr : attrsOk rs = false := by unfold attrsOk; rw [decide_eq_false (by omega)]; rfl
    rw [hr]
    go_enter Tryz.func108, Tryz.ntmps108
    go_wp2
    go_ret
    exact ⟨rfl, Below.refl _ _⟩
  · have hr : attrsOk rs = attrsTo rs := by unfold attrsOk; rw [decide_eq_true (by omega)]; rfl
    rw [hr]
    have h21 : rs.length ≤ 20 := by omega
    clear hr h20
    go_enter Tryz.func108, Tryz.ntmps108
    go_wp2
    go_loopw [3] (fun i wr => ∃ k : Nat, k ≤ rs.length ∧ i = .int .i64 k ∧ attrsTo (rs.take k) = true ∧ Below w.heap.size w wr) (fun i _ => rs.length - (intOf i).toNat)
    case atStart => exact ⟨0, Nat.zero_le _, rfl, rfl, Below.refl _ _⟩
    case round =>
      obtain ⟨k, hk, rfl, hto, bel⟩ := hrel
      have HTO := (show Hid (attrsTo (rs.take k) = true) from hto)
      clear hto
      by_cases hlt : k < rs.length
      · obtain ⟨b1, o1, rfl, l1, c1, c2⟩ := hca k hlt
        have d1 : wr.cell? ⟨b1, o1 + k * 2, none⟩ = some (.string rs[k].1) := (bel.cell (p := ⟨b1, o1 + k * 2, none⟩) l1).trans c1
        have d2 : wr.cell? ⟨b1, o1 + k * 2 + 1, none⟩ = some (.string rs[k].2) := (bel.cell (p := ⟨b1, o1 + k * 2 + 1, none⟩) l1).trans c2
        have hsz := HS.out rs[k] (List.getElem_mem hlt)
        have cc := fun w => l4Attr_any rs[k] w hsz.1 hsz.2
        have HBAD : Hid (attrOk rs[k] = false → attrsTo rs = false) := attrsTo_bad hlt
        have HSUC : Hid (attrOk rs[k] = true → (∀ j (hj : j < k), (rs[j]'(by omega)).1 ≠ rs[k].1) → attrsTo (rs.take (k + 1)) = true) := attrsTo_succ hlt HTO.out
        have HTW : Hid (∀ j (hj : j < rs.length), j < k → rs[j].1 = rs[k].1 → attrsTo rs = false) := fun j hj hjk e => attrsTo_twice hj hlt hjk e
        obtain ⟨x, hx⟩ : ∃ x, x = rs[k] := ⟨_, rfl⟩
        rw [← hx] at c1 d1 d2 cc HBAD HSUC HTW
        clear hx c2 hsz
        obtain ⟨p, hp⟩ : ∃ p, p = attrOk x := ⟨_, rfl⟩
        rw [← hp] at cc HBAD HSUC
        have CC := (show Hid _ from cc)
        clear cc hp
        cases p
        · go_wp2_with fail
          go_at_call 152
          refine (CC.out _).mono ?_
          rintro e w2 ⟨rfl, b2⟩
          replace b2 := bel.trans (b2.mono bel.size)
          clear d1 d2
          go_wp2
          go_ret
          exact ⟨ret_bool (by rw [HBAD.out (by simp)]), b2⟩
        · go_wp2_with fail
          go_at_call 152
          refine (CC.out _).mono ?_
          rintro e w2 ⟨rfl, b2⟩
          replace b2 := bel.trans (b2.mono bel.size)
          clear d1 d2 HBAD CC
          go_wp2
          go_loopw [4] (fun i wr => ∃ j : Nat, j ≤ k ∧ i = .int .i64 j ∧ (∀ t (ht : t < rs.length), t < j → rs[t].1 ≠ x.1) ∧ Below w.heap.size w wr) (fun i _ => k - (intOf i).toNat)
          case atStart => exact ⟨0, Nat.zero_le _, rfl, fun t ht h => absurd h (by omega), b2⟩
          case round =>
            clear b2
            obtain ⟨j, hj, rfl, hall, bel2⟩ := hrel
            have HALL := (show Hid (∀ t (ht : t < rs.length), t < j → rs[t].1 ≠ x.1) from hall)
            clear hall
            by_cases hjk : j < k
            · have hjl : j < rs.length := by omega
              obtain ⟨b3, o3, e3, l3, c3, _⟩ := hca j hjl
              cases e3
              have d3 : wr.cell? ⟨b1, o1 + j * 2, none⟩ = some (.string rs[j].1) := (bel2.cell (p := ⟨b1, o1 + j * 2, none⟩) l1).trans c3
              have dk : wr.cell? ⟨b1, o1 + k * 2, none⟩ = some (.string x.1) := (bel2.cell (p := ⟨b1, o1 + k * 2, none⟩) l1).trans c1
              have HTW2 := (show Hid (rs[j].1 = x.1 → attrsTo rs = false) from HTW.out j hjl hjk)
              have HNX : Hid (rs[j].1 ≠ x.1 → ∀ t (ht : t < rs.length), t < j + 1 → rs[t].1 ≠ x.1) := fun hne t ht htj => by
                by_cases e : t = j
                · subst e; exact hne
                · exact HALL.out t ht (by omega)
              have hjl2 : (j : Int) < (rs.length : Int) := by omega
              have hkl2 : (k : Int) < (rs.length : Int) := by omega
              obtain ⟨y, hy⟩ : ∃ y, y = rs[j] := ⟨_, rfl⟩
              rw [← hy] at d3 HTW2 HNX
              clear hy c3 hca c1 HALL
              by_cases hyx : y.1 = x.1
              · have HF := (show Hid _ from HTW2.out hyx)
                rw [hyx] at d3
                clear HTW HTW2 HNX HSUC
                go_wp2
                go_quiet (fail)
                go_wp2
                go_ret
                exact ⟨ret_bool (by rw [HF.out]), bel2.trans (below_drewN _)⟩
              · have HG := (show Hid _ from HNX.out hyx)
                have hd := toList_ne hyx
                clear HTW HTW2 HNX HSUC
                go_wp2
                go_quiet (fail)
                go_wp2
                go_roundw
                case rel => exact ⟨j + 1, by omega, by go_num, HG.out, bel2.trans (below_drewN _)⟩
                case measure => simp [intOf]; omega
            · have hjk2 : j = k := by omega
              have HG : Hid (attrsTo (rs.take (k + 1)) = true) := HSUC.out (by simp) (fun t ht => HALL.out t (by omega) (by omega))
              clear HTW HSUC HALL hca c1
              go_wp2
              go_roundw
              case rel => exact ⟨k + 1, by omega, by go_num, HG.out, bel2⟩
              case measure => simp [intOf]; omega
      · have hke : k = rs.length := by omega
        have hto := HTO.out
        rw [hke, List.take_length] at hto
        have HT2 := (show Hid _ from hto)
        clear hto
        go_wp2
        go_ret
        exact ⟨ret_bool (by rw [HT2.out]), bel⟩
end Go.Proofs.YtogdbjafibejdaaGreat
