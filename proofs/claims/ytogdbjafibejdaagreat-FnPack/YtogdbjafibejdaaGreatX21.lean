/- Contracts of the program's functions on attributes: the first that fits, and AttrOf. -/
import Derived.Test.YtogdbjafibejdaaGreatX19
import Derived.Laws.ResultCell
import Derived.Test.YtogdbjafibejdaaGreatX20
namespace Go.Proofs.YtogdbjafibejdaaGreat
open Go.RowKit
set_option maxRecDepth 100000
set_option linter.unusedVariables false

theorem attrOf1_any (g : Nat) (nm x y : ByteArray) (w : World) (hg : w.cell? ⟨g, 0, none⟩ = some (.string nm)) (hlt : g < w.heap.size) :
    Calls Tryz.prog 191 #[.agg #[.string x, .string y], .pointer (some ⟨g, 0, none⟩)] w fun e w' => e = .returned (.bool (decide (x = nm))) ∧ Below w.heap.size w w' := by
  have hb : Below w.heap.size w (w.alloc (.cells #[.string x, .string y] 115)) := (Below.refl _ _).alloc (Nat.le_refl _) _
  have hg2 := (hb.cell (p := ⟨g, 0, none⟩) hlt).trans hg
  by_cases hm : x = nm
  · rw [decide_eq_true hm]
    subst hm
    go_enter Tryz.func191, Tryz.ntmps191
    go_wp2
    go_ret
    exact ⟨rfl, hb⟩
  · rw [decide_eq_false hm]
    have hd := toList_ne hm
    go_enter Tryz.func191, Tryz.ntmps191
    go_wp2
    go_ret
    exact ⟨rfl, hb⟩

theorem setCell_at {w : World} {b k : Nat} {cs : Array Value} {u : Value} {t : TypeId} (h : w.heap[b]? = some (.cells cs t (0, 0))) : (w.setCell ⟨b, k, none⟩ u).heap[b]? = some (.cells (cs.setIfInBounds k u) t (0, 0)) := by
  have hlt := lt_of_block h
  have h' : w.heap[b] = .cells cs t (0, 0) := by simpa [Array.getElem?_eq_getElem hlt] using h
  show (w.heap.modify b _)[b]? = _
  rw [Array.getElem?_eq_getElem (by simpa using hlt), Array.getElem_modify_self, h']
  rfl
theorem first_res {tmps : Array Value} {w : World} {g : Nat} {x y : ByteArray} {b : Bool} (h4 : tmps.getD 4 undef = .pointer (some ⟨g, 0, none⟩)) (h5 : tmps.getD 5 undef = .bool b) (hb : w.heap[g]? = some (.cells #[.string x, .string y] 115 (0, 0))) :
    (results Tryz.f190 tmps).run Tryz.prog w = .ok (.tuple #[.agg #[.string x, .string y], .bool b]) w := by
  rw [results_cell_tmp (p := 4) (u := 5) (ty := 115) rfl, h4, h5]
  simp [asAddr, run_loadVar_row w g 115 115 #[.string x, .string y] (0, 0) _ hb Tryz.underlying115 rfl rfl, Result.andThen]

def attrNm (rs : List (ByteArray × ByteArray)) (nm : ByteArray) : ByteArray := if (attrOf rs nm).2 then nm else ⟨#[]⟩

set_option maxHeartbeats 2000000 in
set_option maxRecDepth 100000 in
theorem firstName_any {v : Value} {rs : List (ByteArray × ByteArray)} {w : World} (h : Sv 2 w v (pairCells rs)) (g : Nat) (nm : ByteArray) (hg : w.cell? ⟨g, 0, none⟩ = some (.string nm)) (hgl : g < w.heap.size) (hn : rs.length ≤ 1099511627776) :
    Calls Tryz.prog 190 #[v, .func (.func 191) #[] #[.pointer (some ⟨g, 0, none⟩)]] w fun e w' => e = .returned (.tuple #[.agg #[.string (attrNm rs nm), .string (attrOf rs nm).1], .bool (attrOf rs nm).2]) ∧ Below w.heap.size w w' := by
  have HS := (show Hid (Sv 2 w v (pairCells rs)) from h)
  obtain ⟨a, ca, rfl, _, _, hca⟩ := h.pair
  clear h hca
  have HG := (show Hid (w.cell? ⟨g, 0, none⟩ = some (.string nm)) from hg)
  clear hg
  go_enter Tryz.func190, Tryz.ntmps190
  go_wp2
  obtain ⟨w0, hw0⟩ : ∃ w0, w0 = w.alloc (.cells #[.string ⟨#[]⟩, .string ⟨#[]⟩] 115) := ⟨_, rfl⟩
  have hsz0 : w0.heap.size = w.heap.size + 1 := by rw [hw0]; simp
  have bel0 : Below w.heap.size w w0 := by rw [hw0]; exact (Below.refl _ _).alloc (Nat.le_refl _) _
  have hres0 : w0.heap[w.heap.size]? = some (.cells #[.string ⟨#[]⟩, .string ⟨#[]⟩] 115 (0, 0)) := by rw [hw0]; exact heap_alloc_new _ _
  rw [← hw0]
  go_loopw [11] (fun i wr => ∃ k : Nat, k ≤ rs.length ∧ i = .int .i64 k ∧ attrOf (rs.drop k) nm = attrOf rs nm ∧ Below w0.heap.size w0 wr) (fun i _ => rs.length - (intOf i).toNat)
  case atStart => exact ⟨0, Nat.zero_le _, rfl, rfl, Below.refl _ _⟩
  case round =>
    obtain ⟨k, hk, rfl, he, bel⟩ := hrel
    have BW : Hid (Below w.heap.size w wr) := bel0.trans (bel.mono (by omega))
    have hresr : wr.heap[w.heap.size]? = some (.cells #[.string ⟨#[]⟩, .string ⟨#[]⟩] 115 (0, 0)) := by rw [bel.block _ (by omega)]; exact hres0
    have hwl : w.heap.size < wr.heap.size := by have := bel.size; omega
    by_cases hlt : k < rs.length
    · obtain ⟨_, _, ev, _, _, hca⟩ := (HS.out.below BW.out).pair
      cases ev
      obtain ⟨b1, o1, rfl, l1, c1, c2⟩ := hca k hlt
      rw [attrOf_drop hlt] at he
      obtain ⟨x, hx⟩ : ∃ x, x = rs[k] := ⟨_, rfl⟩
      rw [← hx] at c1 c2 he
      have HE := (show Hid _ from he)
      clear he hx hca
      obtain ⟨xn, xv⟩ := x
      simp only at c1 c2 HE
      have bx : Below wr.heap.size wr (wr.alloc (.cells #[.string xn, .string xv] 115)) := (Below.refl _ _).alloc (Nat.le_refl _) _
      have cc := attrOf1_any g nm xn xv (wr.alloc (.cells #[.string xn, .string xv] 115)) ((bx.cell (p := ⟨g, 0, none⟩) (by show g < wr.heap.size; omega)).trans ((BW.out.cell (p := ⟨g, 0, none⟩) hgl).trans HG.out)) (by simp; omega)
      have hxb : (wr.alloc (.cells #[.string xn, .string xv] 115)).heap[wr.heap.size]? = some (.cells #[.string xn, .string xv] 115 (0, 0)) := heap_alloc_new _ _
      have hrb : (wr.alloc (.cells #[.string xn, .string xv] 115)).heap[w.heap.size]? = some (.cells #[.string ⟨#[]⟩, .string ⟨#[]⟩] 115 (0, 0)) := by rw [bx.block _ hwl]; exact hresr
      have hsa : (wr.alloc (.cells #[.string xn, .string xv] 115)).heap.size = wr.heap.size + 1 := by simp
      by_cases hm : xn = nm
      · rw [decide_eq_true hm] at cc
        have HE2 : Hid (attrOf rs nm = (xv, true)) := by have := HE.out; rw [if_pos hm] at this; exact this.symm
        clear HE
        subst hm
        go_wp2_with fail
        go_at_call 191
        refine cc.mono ?_
        rintro e w2 ⟨rfl, b2⟩
        have hx2 := (b2.block wr.heap.size (by omega)).trans hxb
        have hr2 := (b2.block w.heap.size (by omega)).trans hrb
        have x0 : w2.cell? ⟨wr.heap.size, 0, none⟩ = some (.string xn) := by simp [World.cell?, hx2]
        have x1 : w2.cell? ⟨wr.heap.size, 1, none⟩ = some (.string xv) := by simp [World.cell?, hx2]
        have r0 : w2.cell? ⟨w.heap.size, 0, none⟩ = some (.string ⟨#[]⟩) := by simp [World.cell?, hr2]
        have r1 : w2.cell? ⟨w.heap.size, 1, none⟩ = some (.string ⟨#[]⟩) := by simp [World.cell?, hr2]
        have f0 : w2.frozen? ⟨w.heap.size, 0, none⟩ = false := by simp [World.frozen?, hr2]
        have f1 : w2.frozen? ⟨w.heap.size, 1, none⟩ = false := by simp [World.frozen?, hr2]
        have BW2 : Hid (Below w.heap.size w w2) := BW.out.trans ((bx.trans (b2.mono (by omega))).mono (by omega))
        have hr3 := (show Hid _ from setCell_at (k := 1) (u := .string xv) (setCell_at (k := 0) (u := .string xn) hr2))
        clear c1 c2 cc hx2 hr2 hxb hrb hresr
        go_wp2
        (try simp only [Exit.inBlock, Exit.then])
        refine bodyPost_ret (first_res (x := xn) (y := xv) (b := true) rfl rfl hr3.out) rfl ?_
        exact ⟨by unfold attrNm; rw [HE2.out]; rfl, (BW2.out.setCell (Nat.le_refl _) _).setCell (Nat.le_refl _) _⟩
      · rw [decide_eq_false hm] at cc
        have HE2 := HE.out
        rw [if_neg hm] at HE2
        have HE3 := (show Hid _ from HE2)
        clear HE HE2
        go_wp2_with fail
        go_at_call 191
        refine cc.mono ?_
        rintro e w2 ⟨rfl, b2⟩
        go_wp2
        go_roundw
        case rel => exact ⟨k + 1, by omega, by go_num, HE3.out, bel.trans ((bx.trans (b2.mono (by omega))).mono bel.size)⟩
        case measure => simp [intOf]; omega
    · have hke : k = rs.length := by omega
      rw [hke, List.drop_length] at he
      have HE := (show Hid _ from he)
      clear he
      have r0 : wr.cell? ⟨w.heap.size, 0, none⟩ = some (.string ⟨#[]⟩) := by simp only [World.cell?, hresr]; rfl
      have r1 : wr.cell? ⟨w.heap.size, 1, none⟩ = some (.string ⟨#[]⟩) := by simp only [World.cell?, hresr]; rfl
      have f0 : wr.frozen? ⟨w.heap.size, 0, none⟩ = false := by simp only [World.frozen?, hresr]; rfl
      have f1 : wr.frozen? ⟨w.heap.size, 1, none⟩ = false := by simp only [World.frozen?, hresr]; rfl
      have hr3 := (show Hid _ from setCell_at (k := 1) (u := .string ⟨#[]⟩) (setCell_at (k := 0) (u := .string ⟨#[]⟩) hresr))
      have hne : w.heap.size ≠ wr.heap.size := by omega
      clear hresr
      go_wp2
      (try simp only [Exit.inBlock, Exit.then])
      refine bodyPost_ret (first_res (x := ⟨#[]⟩) (y := ⟨#[]⟩) (b := false) rfl rfl (Eq.trans (by first | exact heap_alloc_old _ _ (by simp; omega) | exact heap_alloc_old _ _ _ (by simp; omega)) hr3.out)) rfl ?_
      exact ⟨by unfold attrNm; rw [← HE.out]; rfl, ((BW.out.setCell (Nat.le_refl _) _).setCell (Nat.le_refl _) _).alloc (by simp; omega) _⟩

set_option maxHeartbeats 2000000 in
set_option maxRecDepth 100000 in
theorem iattrOf_any {v : Value} {rs : List (ByteArray × ByteArray)} {w : World} (h : Sv 2 w v (pairCells rs)) (nm : ByteArray) (hn : rs.length ≤ 1099511627776) :
    Calls Tryz.prog 156 #[v, .string nm] w fun e w' => e = .returned (.tuple #[.string (attrOf rs nm).1, .bool (attrOf rs nm).2]) ∧ Below w.heap.size w w' := by
  have b1 : Below w.heap.size w (w.alloc (.cells #[.string nm] 9)) := (Below.refl _ _).alloc (Nat.le_refl _) _
  have cc := firstName_any (h.below b1) w.heap.size nm (by simp only [World.cell?, heap_alloc_new]; rfl) (by simp) hn
  obtain ⟨p, hp⟩ : ∃ p, p = attrOf rs nm := ⟨_, rfl⟩
  obtain ⟨q, hq⟩ : ∃ q, q = attrNm rs nm := ⟨_, rfl⟩
  rw [← hp, ← hq] at cc
  rw [← hp]
  clear hp hq h
  obtain ⟨pv, pb⟩ := p
  simp only at cc ⊢
  go_enter Tryz.func156, Tryz.ntmps156
  go_wp2_with fail
  go_at_call 190
  refine cc.mono ?_
  rintro e w2 ⟨rfl, b2⟩
  go_wp2
  go_ret2
  exact ⟨rfl, (b1.trans (b2.mono b1.size)).alloc (b1.trans (b2.mono b1.size)).size _⟩
end Go.Proofs.YtogdbjafibejdaaGreat

/- Kids that fit, in plain words. No condition. -/
namespace Go.Proofs.YtogdbjafibejdaaGreat
open Go.RowKit
set_option maxRecDepth 100000
set_option linter.unusedVariables false

theorem take_snoc {α : Type} (zs : List α) {k : Nat} (hk : k < zs.length) : zs.take (k + 1) = zs.take k ++ [zs[k]] := by
  rw [List.take_add_one, List.getElem?_eq_getElem hk]; rfl
def kidsOf (ns : List PNode) (k : Nat) : List Int := (ns[k]?.map PNode.kids).getD []
def parOf (ns : List PNode) (k : Nat) : Int := (ns[k]?.map PNode.parent).getD (-1)
theorem kidsOf_at {ns : List PNode} {k : Nat} (h : k < ns.length) : kidsOf ns k = ns[k].kids := by simp [kidsOf, h]
theorem parOf_at {ns : List PNode} {k : Nat} (h : k < ns.length) : parOf ns k = ns[k].parent := by simp [parOf, h]

def FitPre (ns : List PNode) (k : Nat) (pre : List Int) : Prop := pre.Nodup ∧ ∀ x ∈ pre, 0 ≤ x ∧ x < ns.length ∧ parOf ns x.toNat = k
def KidsFit (ns : List PNode) : Prop := ∀ k, k < ns.length → FitPre ns k (kidsOf ns k)
def BadPre (ns : List PNode) (k : Nat) (pre : List Int) : Prop :=
  ∃ (pre0 : List Int) (x : Int), pre = pre0 ++ [x] ∧ (¬ (0 ≤ x ∧ x < ns.length) ∨ ((x ∈ pre0 ∨ ∃ i, i < k ∧ x ∈ kidsOf ns i) ∨ parOf ns x.toNat ≠ k))
theorem bad_not {ns : List PNode} {k : Nat} {pre : List Int} (hk : k < ns.length) (hb : BadPre ns k pre) (hp : pre <+: kidsOf ns k) (hf : ∀ i, i < k → FitPre ns i (kidsOf ns i)) : ¬ KidsFit ns := by
  intro h
  obtain ⟨pre0, x, rfl, hx⟩ := hb
  obtain ⟨hn, hall⟩ := h k hk
  have hmem : x ∈ kidsOf ns k := hp.subset (by simp)
  have hr := hall x hmem
  rcases hx with hx | ((hx | ⟨i, hi, hx⟩) | hx)
  · exact hx ⟨hr.1, hr.2.1⟩
  · have : (pre0 ++ [x]).Nodup := hn.sublist hp.sublist
    rw [List.nodup_append] at this
    exact this.2.2 x hx x (by simp) rfl
  · have := ((hf i hi).2 x hx).2.2
    rw [hr.2.2] at this
    omega
  · exact hx hr.2.2

def Stand (ns : List PNode) (k : Nat) (pre : List Int) (j : Nat) : Prop := ((j : Int) ∈ pre ∨ ∃ i, i < k ∧ (j : Int) ∈ kidsOf ns i)
def Stands (ns : List PNode) (k : Nat) (pre : List Int) (arr : Array Value) : Prop := arr.size = 500 ∧ ∀ j, j < 500 → ∃ b, arr[j]? = some (.bool b) ∧ (b = true ↔ Stand ns k pre j)
theorem Stands.snoc {ns : List PNode} {k : Nat} {pre : List Int} {arr : Array Value} (h : Stands ns k pre arr) (j : Nat) (hj : j < 500) : Stands ns k (pre ++ [(j : Int)]) (arr.setIfInBounds j (.bool true)) := by
  refine ⟨by simpa using h.1, fun i hi => ?_⟩
  by_cases e : j = i
  · subst e
    refine ⟨true, ?_, ?_⟩
    · have := h.1; simp [this, hj]
    · simp [Stand]
  · obtain ⟨b, hb, hs⟩ := h.2 i hi
    refine ⟨b, by rw [Array.getElem?_setIfInBounds]; simp [e, hb], hs.trans ?_⟩
    have : ¬ ((i : Int) = (j : Int)) := by omega
    simp [Stand, this]
theorem Stands.next {ns : List PNode} {k : Nat} {arr : Array Value} (h : Stands ns k (kidsOf ns k) arr) : Stands ns (k + 1) [] arr := by
  refine ⟨h.1, fun i hi => ?_⟩
  obtain ⟨b, hb, hs⟩ := h.2 i hi
  refine ⟨b, hb, hs.trans ?_⟩
  simp only [Stand, List.not_mem_nil, false_or]
  constructor
  · rintro (hm | ⟨j, hj, hm⟩)
    · exact ⟨k, by omega, hm⟩
    · exact ⟨j, by omega, hm⟩
  · rintro ⟨j, hj, hm⟩
    by_cases e : j = k
    · subst e; exact .inl hm
    · exact .inr ⟨j, by omega, hm⟩
theorem fit_snoc {ns : List PNode} {k j : Nat} {pre : List Int} (h : FitPre ns k pre) (hj : j < ns.length) (hs : ¬ Stand ns k pre j) (hp : parOf ns j = k) : FitPre ns k (pre ++ [(j : Int)]) := by
  refine ⟨?_, fun x hx => ?_⟩
  · rw [List.nodup_append]
    refine ⟨h.1, by simp, fun a ha b hb e => hs (.inl ?_)⟩
    simp at hb; subst hb; subst e; exact ha
  · rcases List.mem_append.mp hx with hx | hx
    · exact h.2 x hx
    · simp at hx; subst hx; exact ⟨by omega, by omega, by simpa using hp⟩
end Go.Proofs.YtogdbjafibejdaaGreat
