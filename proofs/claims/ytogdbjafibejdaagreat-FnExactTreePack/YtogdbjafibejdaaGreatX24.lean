/- A tree among the arguments, opened as its nodes. -/
import Derived.Test.YtogdbjafibejdaaGreatX19
import Derived.ChangeSlices
import Derived.Test.YtogdbjafibejdaaGreatX20
import Derived.Test.YtogdbjafibejdaaGreatX21
import Derived.Test.YtogdbjafibejdaaGreatX17
namespace Go.Proofs.YtogdbjafibejdaaGreat
open Go.RowKit Go.ChangeShapes Go.WideShapes
set_option maxRecDepth 100000
set_option linter.unusedVariables false

structure NodeIn (n : PNode) : Prop where
  nm : n.name.size ≤ maxLen
  tx : n.text.size ≤ maxLen
  each : ∀ p ∈ n.attrs, p.1.size ≤ maxLen ∧ p.2.size ≤ maxLen
  wk : (Lit.int .i64 n.kind).wf = true
  wp : (Lit.int .i64 n.parent).wf = true
  ws : ∀ x ∈ n.kids, (Lit.int .i64 x).wf = true

section
variable {H : Type} {enc : TypeId × Value → H} {P : Program} {w : World} {base : Nat} {spare : Nat → Bool} {held : Bool}

theorem trod_node {t e ei : TypeId} {f0 f1 f2 f3 f4 f5 g0 g1 : Field} {fuel : Nat} {cs : List Value} {x : DataW H × List MemPlace} (ht : P.underlying t = some (.struct #[f0, f1, f2, f3, f4, f5])) (hc : P.cellsOf t = 6)
    (h0 : P.underlying f0.type = some (.int .i64)) (h1 : P.underlying f1.type = some .string) (h2 : P.underlying f2.type = some (.slice e)) (h3 : P.underlying f3.type = some .string) (h4 : P.underlying f4.type = some (.int .i64)) (h5 : P.underlying f5.type = some (.slice ei))
    (c0 : P.cellsOf f0.type = 1) (c1 : P.cellsOf f1.type = 1) (c2 : P.cellsOf f2.type = 1) (c3 : P.cellsOf f3.type = 1) (c4 : P.cellsOf f4.type = 1) (c5 : P.cellsOf f5.type = 1) (o0 : f0.offset = 0) (o1 : f1.offset = 1) (o2 : f2.offset = 2) (o3 : f3.offset = 3) (o4 : f4.offset = 4) (o5 : f5.offset = 5)
    (he : P.underlying e = some (.struct #[g0, g1])) (hec : P.cellsOf e = 2) (q0 : P.underlying g0.type = some .string) (q1 : P.underlying g1.type = some .string) (r0 : P.cellsOf g0.type = 1) (r1 : P.cellsOf g1.type = 1) (p0 : g0.offset = 0) (p1 : g1.offset = 1)
    (hei : P.underlying ei = some (.int .i64)) (heic : P.cellsOf ei = 1) (hsp : ∀ b, spare b = true)
    (h : DataW.trod enc P w base spare held fuel t cs = some x) :
    ∃ q : PNode × (Value × Value), cs = nodeRow q.1 q.2 ∧ Sv 2 w q.2.1 (pairCells q.1.attrs) ∧ Sl .i64 w q.2.2 q.1.kids ∧ NodeIn q.1 := by
  obtain ⟨xs, n, _, _, hl, hx, hf⟩ := DataW.trod_struct ht h
  have e0 := hf 0 f0 rfl
  have e1 := hf 1 f1 rfl
  have e2 := hf 2 f2 rfl
  have e3 := hf 3 f3 rfl
  have e4 := hf 4 f4 rfl
  have e5 := hf 5 f5 rfl
  rw [c0, o0, List.drop_zero] at e0
  rw [c1, o1] at e1
  rw [c2, o2] at e2
  rw [c3, o3] at e3
  rw [c4, o4] at e4
  rw [c5, o5] at e5
  have hxs : xs.length = 6 := hx
  rw [List.getElem?_eq_getElem (by omega)] at e0 e1 e2 e3 e4 e5
  rw [hc] at hl
  match cs, hl with
  | [v0, v1, v2, v3, v4, v5], _ =>
    simp only [List.drop_succ_cons, List.drop_zero, List.take_succ_cons, List.take_zero] at e0 e1 e2 e3 e4 e5
    obtain ⟨k, hk, _, wk⟩ := DataW.trod_int h0 e0
    obtain ⟨nm, hn, _, sn⟩ := DataW.trod_string h1 e1
    obtain ⟨tx, htx, _, st⟩ := DataW.trod_string h3 e3
    obtain ⟨p, hp, _, wp⟩ := DataW.trod_int h4 e4
    obtain ⟨rows, hs, hr⟩ := open_rows (n := 2) (fun cs => ∃ p : ByteArray × ByteArray, cs = [.string p.1, .string p.2] ∧ p.1.size ≤ maxLen ∧ p.2.size ≤ maxLen) h2 hec (by decide)
      (fun m cs y hy => trod_pair he hec q0 q1 r0 r1 p0 p1 hy) e2
    obtain ⟨rs, er, hrs⟩ := rows_pairs hr
    rw [er] at hs
    cases hk
    cases hn
    cases htx
    cases hp
    obtain ⟨zs, hz, hzw⟩ : ∃ zs, Sl .i64 w v5 zs ∧ ∀ n ∈ zs, (Lit.int .i64 n).wf = true := by
      rcases open_ints h5 hei heic e5 with ⟨hcs, _⟩ | ⟨x, l, c, zs, hcs, _, hl, hm, hz, _, hcell, hwz⟩
      · simp at hcs
        subst hcs
        exact ⟨[], sl_nil _ _, fun n hn => by cases hn⟩
      · simp at hcs
        subst hcs
        exact ⟨zs.take l, sl_of_row hl hm (by simpa [hsp] using hz) hcell, fun n hn => hwz n (List.mem_of_mem_take hn)⟩
    exact ⟨(⟨k, nm, rs, tx, p, zs⟩, (v2, v5)), rfl, hs, hz, ⟨sn, st, hrs, wk, wp, hzw⟩⟩
theorem rows_nodes {rows : List (List Value)} (h : ∀ r ∈ rows, r.length = 6 ∧ ∃ q : PNode × (Value × Value), r = nodeRow q.1 q.2 ∧ Sv 2 w q.2.1 (pairCells q.1.attrs) ∧ Sl .i64 w q.2.2 q.1.kids ∧ NodeIn q.1) :
    ∃ qs : List (PNode × (Value × Value)), rows.flatten = nodeCells qs ∧ ∀ q ∈ qs, Sv 2 w q.2.1 (pairCells q.1.attrs) ∧ Sl .i64 w q.2.2 q.1.kids ∧ NodeIn q.1 := by
  induction rows with
  | nil => exact ⟨[], rfl, fun p hp => by cases hp⟩
  | cons r rows ih =>
    obtain ⟨rs, h1, h2⟩ := ih (fun q hq => h q (List.mem_cons_of_mem _ hq))
    obtain ⟨_, p, rfl, hp⟩ := h r (List.mem_cons_self ..)
    refine ⟨p :: rs, ?_, fun q hq => ?_⟩
    · rw [List.flatten_cons, h1]; rfl
    · rcases List.mem_cons.mp hq with rfl | hq
      · exact hp
      · exact h2 q hq
theorem trod_tree {t tn : TypeId} {f : Field} {fuel : Nat} {cs : List Value} {x : DataW H × List MemPlace} (ht : P.underlying t = some (.struct #[f])) (hc : P.cellsOf t = 1) (hf : P.underlying f.type = some (.slice tn)) (cf : P.cellsOf f.type = 1) (of : f.offset = 0) (hn6 : P.cellsOf tn = 6)
    (hN : ∀ m cs y, DataW.trod enc P w base spare held m tn cs = some y → ∃ q : PNode × (Value × Value), cs = nodeRow q.1 q.2 ∧ Sv 2 w q.2.1 (pairCells q.1.attrs) ∧ Sl .i64 w q.2.2 q.1.kids ∧ NodeIn q.1)
    (h : DataW.trod enc P w base spare held fuel t cs = some x) :
    ∃ (v : Value) (ns : List PNode), cs = [v] ∧ NodesAt w v ns ∧ ∀ n ∈ ns, NodeIn n := by
  obtain ⟨xs, n, _, _, hl, hx, hff⟩ := DataW.trod_struct ht h
  have e0 := hff 0 f rfl
  rw [cf, of, List.drop_zero] at e0
  have hxs : xs.length = 1 := hx
  rw [List.getElem?_eq_getElem (by omega)] at e0
  rw [hc] at hl
  match cs, hl with
  | [v0], _ =>
    simp only [List.take_succ_cons, List.take_zero] at e0
    obtain ⟨rows, hs, hr⟩ := open_rows (n := 6) _ hf hn6 (by decide) hN e0
    obtain ⟨qs, er, hq⟩ := rows_nodes hr
    rw [er] at hs
    exact ⟨v0, qs.map (fun q => q.1), rfl, ⟨qs, rfl, hs, fun q h => ⟨(hq q h).1, (hq q h).2.1⟩⟩, fun n hn => by obtain ⟨q, h, rfl⟩ := List.mem_map.mp hn; exact (hq q h).2.2⟩
end
end Go.Proofs.YtogdbjafibejdaaGreat

/- What stands below a node, in plain words. No condition. -/
namespace Go.Proofs.YtogdbjafibejdaaGreat
open Go.RowKit
set_option maxRecDepth 100000
set_option linter.unusedVariables false

def down (ns : List PNode) : Nat → Nat → List Int
  | 0, _ => []
  | f + 1, k => (k : Int) :: (kidsOf ns k).flatMap fun x => down ns f x.toNat
def deepOk (ns : List PNode) : Nat → Nat → Prop
  | 0, _ => False
  | f + 1, k => k < ns.length ∧ ∀ x ∈ kidsOf ns k, 0 ≤ x ∧ deepOk ns f x.toNat
end Go.Proofs.YtogdbjafibejdaaGreat

/- Contracts of the program's textOk and attrOk. -/
namespace Go.Proofs.YtogdbjafibejdaaGreat
open Go.RowKit
set_option maxRecDepth 100000
set_option linter.unusedVariables false

theorem textOk_any (s : ByteArray) (w : World) (hs : s.size ≤ 1099511627776) : Calls Tryz.prog 112 #[.string s] w fun e w' => e = .returned (.bool (utfOk (bs s))) ∧ Below w.heap.size w w' := by
  obtain ⟨cap, w1, hc, hk, hcap, hm, hb⟩ := conv_str s w (by unfold maxLen; omega)
  have hl := bs_len s
  have hsl := hk.sl (n := s.size) (cap := cap) (by omega) (by omega) hm
  have hu := iutfOk_any hsl (bs_byte s) (by omega)
  clear hk
  go_enter Tryz.func112, Tryz.ntmps112
  go_wp2_with fail
  go_at_call 153
  refine hu.mono ?_
  rintro e w2 ⟨rfl, b2⟩
  go_wp2
  go_ret
  exact ⟨rfl, hb.trans (b2.mono hb.size)⟩

theorem attrOk_eq (n v : ByteArray) : attrOk (n, v) = (inB n.size 1 60 && utfOk (bs n) && utfOk (bs v)) := by
  unfold attrOk
  simp only
  by_cases hv : v.size ≤ 3000
  · rw [decide_eq_true hv, Bool.and_true]
  · rw [decide_eq_false hv, utfOk_no (xs := bs v) (by rw [bs_len]; exact hv)]; simp

set_option maxHeartbeats 1000000 in
set_option maxRecDepth 100000 in
theorem iattrOk_any (n v : ByteArray) (w : World) (h1 : n.size ≤ 1099511627776) (h2 : v.size ≤ 1099511627776) :
    Calls Tryz.prog 157 #[.agg #[.string n, .string v]] w fun e w' => e = .returned (.bool (attrOk (n, v))) ∧ Below w.heap.size w w' := by
  rw [attrOk_eq]
  have c2 := fun w => textOk_any n w h1
  have c3 := fun w => textOk_any v w h2
  have b1 : Below w.heap.size w (w.alloc (.cells #[.string n, .string v] 115)) := (Below.refl _ _).alloc (Nat.le_refl _) _
  obtain ⟨q2, e2⟩ : ∃ q, q = utfOk (bs n) := ⟨_, rfl⟩
  obtain ⟨q3, e3⟩ : ∃ q, q = utfOk (bs v) := ⟨_, rfl⟩
  rw [← e2] at c2 ⊢
  rw [← e3] at c3 ⊢
  have C2 := (show Hid _ from c2)
  have C3 := (show Hid _ from c3)
  clear c2 c3 e2 e3
  by_cases hn : 1 ≤ n.size ∧ n.size ≤ 60
  · rw [inB_yes (by omega) (by omega), Bool.true_and]
    obtain ⟨n1, n2⟩ := hn
    cases q2
    · go_enter Tryz.func157, Tryz.ntmps157
      go_wp2_with fail
      go_at_call 112
      refine (C2.out _).mono ?_
      rintro e w2 ⟨rfl, b2⟩
      replace b2 := b1.trans (b2.mono b1.size)
      go_wp2
      go_ret
      exact ⟨ret_bool (by simp), b2⟩
    · go_enter Tryz.func157, Tryz.ntmps157
      go_wp2_with fail
      go_at_call 112
      refine (C2.out _).mono ?_
      rintro e w2 ⟨rfl, b2⟩
      have d1 : w2.cell? ⟨w.heap.size, 1, none⟩ = some (.string v) := by
        rw [b2.cell (p := ⟨w.heap.size, 1, none⟩) (by simp)]
        simp
      replace b2 := b1.trans (b2.mono b1.size)
      go_wp2_with fail
      go_at_call 112
      refine (C3.out _).mono ?_
      rintro e w3 ⟨rfl, b3⟩
      replace b3 := b2.trans (b3.mono b2.size)
      go_wp2
      go_ret
      exact ⟨ret_bool (by simp), b3⟩
  · rw [inB_no (by omega), Bool.false_and, Bool.false_and]
    by_cases n1 : n.size < 1
    · have n0 : n.size = 0 := by omega
      go_enter Tryz.func157, Tryz.ntmps157
      go_wp2
      go_ret
      exact ⟨ret_bool (by simp), b1⟩
    · have n2 : 60 < n.size := by omega
      go_enter Tryz.func157, Tryz.ntmps157
      go_wp2
      go_ret
      exact ⟨ret_bool (by simp), b1⟩
end Go.Proofs.YtogdbjafibejdaaGreat

/- Contracts of the specification's AttrsSame and AttrAdd. -/
namespace Go.Proofs.YtogdbjafibejdaaGreat
open Go.RowKit
set_option maxRecDepth 100000
set_option linter.unusedVariables false

theorem pair_oneCell (rs : List (ByteArray × ByteArray)) : ∀ y ∈ pairCells rs, y.oneCell' = true := by
  intro y hy
  unfold pairCells at hy
  obtain ⟨r, _, hr⟩ := List.mem_flatMap.mp hy
  simp at hr
  rcases hr with rfl | rfl <;> rfl
end Go.Proofs.YtogdbjafibejdaaGreat
