/- The contracts of the draws: a cursor over any bytes gives some number below a bound, and turns nothing but itself. -/
import Derived.Test.YtogdbjafibejdaaGreatX5
import Derived.Test.YtogdbjafibejdaaGreatX3
import Derived.OneCell
import Derived.Test.YtogdbjafibejdaaGreatX0
import Derived.Test.YtogdbjafibejdaaGreatX6
import Derived.Test.YtogdbjafibejdaaGreatX8
namespace Go.Proofs.YtogdbjafibejdaaGreat
open Go.RowKit
set_option maxRecDepth 100000
set_option linter.unusedVariables false

def Cur (w0 : World) (g : Nat) (v : Value) (xs : List Int) (w : World) : Prop :=
  w0.heap.size ≤ g ∧ Sl .u8 w0 v xs ∧ Below w0.heap.size w0 w ∧ xs.length ≤ 1099511627776 ∧ ∃ (i : Nat) (h : Int), i ≤ xs.length ∧ w.heap[g]? = some (.cells #[v, .int .i64 i, .int .i64 h] 134 (0, 0))

theorem Cur.lt {w0 : World} {g : Nat} {v : Value} {xs : List Int} {w : World} (h : Cur w0 g v xs w) : g < w.heap.size := by
  obtain ⟨_, _, _, _, i, k, _, hh⟩ := h
  exact lt_of_block hh
theorem Cur.below {w0 : World} {g : Nat} {v : Value} {xs : List Int} {w w' : World} (h : Cur w0 g v xs w) (hb : Below w.heap.size w w') : Cur w0 g v xs w' := by
  have hlt := h.lt
  obtain ⟨h1, h2, h3, h4, i, k, hi, hh⟩ := h
  exact ⟨h1, h2, h3.trans (hb.mono h3.size), h4, i, k, hi, by rw [hb.block g hlt]; exact hh⟩
theorem Cur.kept {w0 : World} {g : Nat} {v : Value} {xs : List Int} {w w' : World} {row : Option Nat} (h : Cur w0 g v xs w) (hg : w.grownBy w' row) (hne : row ≠ some g) (hr : ∀ k, row = some k → w0.heap.size ≤ k) : Cur w0 g v xs w' := by
  have hlt := h.lt
  obtain ⟨h1, h2, h3, h4, i, k, hi, hh⟩ := h
  exact ⟨h1, h2, h3.grown hg h3.size hr, h4, i, k, hi, by rw [hg.block g hlt (fun e => hne e.symm)]; exact hh⟩

theorem Cur.drewN {w0 : World} {g : Nat} {v : Value} {xs : List Int} {w : World} (h : Cur w0 g v xs w) (n : Nat) : Cur w0 g v xs (w.drewN n) := h.below (below_drewN n)
theorem grown_drewN (w : World) (n : Nat) (row : Option Nat) : w.grownBy (w.drewN n) row := ⟨rfl, rfl, rfl, Nat.le_refl _, fun _ _ _ => rfl⟩
theorem grown_setCell (w : World) (g k : Nat) (u : Value) : w.grownBy (w.setCell ⟨g, k, none⟩ u) (some g) :=
  ⟨rfl, rfl, rfl, by simp [World.setCell], fun j _ hne => Below.heap_setCell w _ u j (fun e => hne (by rw [e]))⟩
end Go.Proofs.YtogdbjafibejdaaGreat

/- What references stand for, as plain functions of lists of integers. -/
namespace Go.Proofs.YtogdbjafibejdaaGreat
open Go.RowKit
set_option maxRecDepth 100000
set_option linter.unusedVariables false
end Go.Proofs.YtogdbjafibejdaaGreat

/- Contracts of the specification's functions of chapter 2 on one number. No condition. -/
namespace Go.Proofs.YtogdbjafibejdaaGreat
open Go.RowKit
set_option maxRecDepth 100000
set_option linter.unusedVariables false

theorem sblank_any (x : Int) (w : World) : Calls Tryz.prog 151 #[.int .i64 x] w fun e w' => e = .returned (.bool (isBlank x)) ∧ w' = w := by
  go_enter Tryz.func151, Tryz.ntmps151
  go_wp2
  all_goals
    go_ret
    exact ⟨ret_bool (by unfold isBlank; simp_all), rfl⟩

end Go.Proofs.YtogdbjafibejdaaGreat

/- As RoundT, where the first operations are taken ahead of all: what they tell does not hang on the world. No condition. -/
namespace Go.Proofs.YtogdbjafibejdaaGreat
open Go.RowKit
set_option maxRecDepth 100000
set_option linter.unusedVariables false

theorem operW_of_still {n : Nat} {P : Program} {o : Oper} {a : Act} {w : World} {K0 : Act → Prop} {K : Act → World → Prop} {Q : Exit → Act → World → Prop} (h : o.still P a w K0) (hK : ∀ a, K0 a → K a w) : o.wpIn Fence.wide n P a w K Q := by
  refine ⟨fun f _ => trivial, ?_⟩
  rw [show Fence.wide.round = none from rfl, Oper.semAt_none]
  unfold Oper.still at h
  generalize (execOp a.eval o).run P w = r at *
  cases r with
  | ok x w' =>
    cases x <;> simp only [Oper.stillUpon] at h
    case value v =>
      obtain ⟨rfl, h⟩ := h
      exact hK _ h
    case skip =>
      obtain ⟨rfl, h⟩ := h
      exact hK _ h
    case enter f args =>
      obtain ⟨rfl, v, hc, h⟩ := h
      refine ⟨(fun h => by cases h), (callsIn_wide.2 hc).mono ?_⟩
      rintro e w'' ⟨rfl, rfl⟩
      exact hK _ h
  | halt x w' => simp only [Oper.stillUpon] at h
theorem opW_of_st {n : Nat} {P : Program} {ops : Array Oper} {i : Nat} {a : Act} {w : World} {K0 : Act → Prop} {K : Act → World → Prop} {Q : Exit → Act → World → Prop} (h : stOp P ops w i K0 a) (hK : ∀ a, K0 a → K a w) : wpOpIn Fence.wide n P ops Q i K a w := by
  unfold stOp at h
  unfold wpOpIn
  split
  · rename_i ho; simp only [ho] at h; exact hK _ h
  · rename_i o ho
    simp only [ho] at h
    split
    · rename_i hw
      simp only [hw, if_true] at h
      exact operW_of_still h hK
    · rename_i hw
      simp only [hw] at h
      exact ⟨fun f _ => trivial, hK _ h⟩
theorem anyW_of_head {m n g : Nat} {P : Program} {md : Region.Mode} {ops : Array Oper} {w : World} {L : Array Bool → Act → Prop} {Q : Exit → Act → World → Prop} (hL : ∀ listed a, L listed a → wpAnyIn Fence.wide m P md ops Q g listed a w) :
    ∀ (f : Nat) (listed : Array Bool) (a : Act), wpAnyL P md ops w n L f listed a → wpAnyIn Fence.wide m P md ops Q (f + g) listed a w
  | 0, listed, a, h => by rw [Nat.zero_add]; exact hL _ _ h
  | f + 1, listed, a, h => by
    rw [show f + 1 + g = (f + g) + 1 by omega]
    exact ⟨fun h0 => absurd h0 h.1, fun i hi => opW_of_st (h.2 i hi).2 (fun a' h' => anyW_of_head hL f _ a' h')⟩

section
variable {P : Program} {ops : Array Oper} {md : Region.Mode} {w : World}
def sinkF (md : Region.Mode) (ops : Array Oper) (k n : Nat) : Bool := (List.range n).all fun i => decide (i < k) || (List.range (n + 1)).any fun j => decide (i < j) && Region.waitsFor md ops j i
theorem tail_waitsF {k n : Nat} {listed : Array Bool} (hs : sinkF md ops k n = true) (hc : Region.chainB md ops n = true) (hn : n < ops.size) (inv : HeadInv md ops n listed) (hk : ∀ i, i < k → listed.getD i true = true) :
    ∀ (d i : Nat), n - i = d → i < n → listed.getD i true = false → ∀ t, n ≤ t → t ∉ Region.ready md ops listed := by
  intro d
  induction d using Nat.strongRecOn with
  | _ d ih =>
    intro i hd hi hun t ht hr
    obtain ⟨_, ot, hot, hall⟩ := mem_ready.1 hr
    have htlt : t < ops.size := (Array.getElem?_eq_some_iff.1 hot).1
    have hik : ¬ i < k := fun h => by rw [hk i h] at hun; cases hun
    by_cases htn : t = n
    · subst htn
      have h1 := List.all_eq_true.1 hs i (List.mem_range.2 hi)
      simp only [hik, decide_false, Bool.false_or] at h1
      obtain ⟨j, hj, hj2⟩ := List.any_eq_true.1 h1
      simp only [Bool.and_eq_true, decide_eq_true_eq] at hj2
      obtain ⟨oj, hoj, e, he, hb, hon⟩ := Region.waitsFor_spec hj2.2
      have hjle : j ≤ t := by have := List.mem_range.1 hj; omega
      by_cases hjt : j = t
      · subst hjt
        have : oj = ot := Option.some.inj (hoj.symm.trans hot)
        subst this
        have h2 := hall e he hb
        rw [hon, getD_both hun] at h2
        cases h2
      · cases hl : listed.getD j false with
        | true =>
          have h2 := inv.closed j oj hoj hl e he hb
          rw [hon, getD_both hun] at h2
          cases h2
        | false =>
          have hjs : j < listed.size := by rw [inv.size]; omega
          exact ih (t - j) (by omega) j rfl (by omega) (getD_in hjs hl) t (Nat.le_refl _) hr
    · have h1 := List.all_eq_true.1 hc t (List.mem_range.2 htlt)
      simp only [Bool.or_eq_true, decide_eq_true_eq] at h1
      rcases h1 with h1 | h1
      · omega
      · obtain ⟨o', ho', e, he, hb, hon⟩ := Region.waitsFor_spec h1
        have : o' = ot := Option.some.inj (ho'.symm.trans hot)
        subst this
        have h2 := hall e he hb
        rw [hon, getD_both (inv.tail (t - 1) (by omega) (by omega))] at h2
        cases h2
theorem set_true {listed : Array Bool} {i j : Nat} (h : listed.getD i true = true) : (listed.setIfInBounds j true).getD i true = true := by
  by_cases e : j = i
  · subst e
    by_cases hlt : j < listed.size
    · simp [hlt]
    · simp [Nat.le_of_not_lt hlt]
  · rw [getD_set_ne true e]; exact h
theorem anyL_firstF {k n i : Nat} {oi : Oper} {v : Value} {L : Array Bool → Act → Prop} (hi : ops[i]? = some oi) (hsel : ∀ (j : Nat) (o : Oper) cs b, ops[j]? = some o → o.op ≠ .select cs b)
    (hs : sinkF md ops k n = true) (hc : Region.chainB md ops n = true) (hn : n < ops.size) (hin : i < n)
    (hdone : ∀ listed a, L listed a → ∀ j ∈ Region.ready md ops listed, n ≤ j) :
    ∀ (f : Nat) (listed : Array Bool) (a : Act), HeadInv md ops n listed → (∀ i, i < k → listed.getD i true = true) →
      (∀ j oj, ops[j]? = some oj → j ≠ i → listed.getD j true = false → (∀ e ∈ oj.after, Region.binds md e = true → e.on ≠ i) → oi.apart ops oj = true) →
      i ∈ Region.ready md ops listed → YieldsAt P ops w oi v a →
      wpAnyL P md ops w n L f (listed.setIfInBounds i true) (a.put oi.dst v) → wpAnyL P md ops w n L (f + 1) listed a := by
  intro f
  induction f with
  | zero =>
    intro listed a inv hk _ hr hy H
    have hun := (mem_ready.1 hr).1
    refine ⟨fun h => (by rw [h] at hr; cases hr), fun j hj => ?_⟩
    have hjn : j < n := by
      rcases Nat.lt_or_ge j n with h | h
      · exact h
      · exact absurd hj (tail_waitsF hs hc hn inv hk _ i rfl hin hun j h)
    refine ⟨hjn, ?_⟩
    by_cases hji : j = i
    · subst hji; exact hy.stOp hi H
    · have := hdone _ _ H j (ready_mono hj hji)
      omega
  | succ f ih =>
    intro listed a inv hk hfree hr hy H
    have hun := (mem_ready.1 hr).1
    refine ⟨fun h => (by rw [h] at hr; cases hr), fun j hj => ?_⟩
    have hjn : j < n := by
      rcases Nat.lt_or_ge j n with h | h
      · exact h
      · exact absurd hj (tail_waitsF hs hc hn inv hk _ i rfl hin hun j h)
    refine ⟨hjn, ?_⟩
    by_cases hji : j = i
    · subst hji; exact hy.stOp hi H
    · have h1 := (H.2 j (ready_mono hj hji)).2
      obtain ⟨hjun, oj, hoj, hall⟩ := mem_ready.1 hj
      have hnot : ∀ e ∈ oj.after, Region.binds md e = true → e.on ≠ i := fun e he hb heq => by
        have h1 := hall e he hb
        rw [heq, getD_both hun] at h1
        cases h1
      have h2 := stOp_put hoj (hfree j oj hoj hji hjun hnot) (fun cs b => hsel i oi cs b hi) (fun cs b => hsel j oj cs b hoj) hy h1
      have hfree' : ∀ k ok, ops[k]? = some ok → k ≠ i → (listed.setIfInBounds j true).getD k true = false →
          (∀ e ∈ ok.after, Region.binds md e = true → e.on ≠ i) → oi.apart ops ok = true := fun k ok hk hki hun hno => by
        refine hfree k ok hk hki ?_ hno
        by_cases hjk : j = k
        · subst hjk; exact hjun
        · rw [getD_set_ne true hjk] at hun; exact hun
      refine stOp_mono (fun a' h3 => ih (listed.setIfInBounds j true) a' (inv.set hj hjn) (fun i hi => set_true (hk i hi)) hfree' (ready_mono hr (Ne.symm hji)) h3.1 ?_) h2
      rw [Array.setIfInBounds_comm _ _ hji]
      exact h3.2
theorem anyL_lexF {k0 n g : Nat} {Lq : Act → Prop} (hsel : Region.noSelect ops = true) (hs : sinkF md ops k0 n = true) (hc : Region.chainB md ops n = true) (hn : n < ops.size) :
    ∀ (l : List Oper) (k : Nat) (listed : Array Bool) (a : Act), (∀ j, j < l.length → l[j]? = ops[k + j]?) → k + l.length = n → HeadInv md ops n listed → (∀ i, i < k0 → listed.getD i true = true) →
    Region.lexHead md ops g l.length k listed = true → wpStill P ops w Lq l a →
    wpAnyL P md ops w n (fun listed' a' => Region.seqB md ops g n listed' = true ∧ Lq a') l.length listed a
  | [], k, listed, a, _, hk, _, _, hB, h => by
    have : k = n := by simpa using hk
    subst this
    exact ⟨by simpa [Region.lexHead] using hB, h⟩
  | o :: l, k, listed, a, hl, hk, inv, hk0, hB, h => by
    have h0 : ops[k]? = some o := by simpa using (hl 0 (by simp)).symm
    simp only [List.length_cons, Region.lexHead, Bool.and_eq_true] at hB
    obtain ⟨⟨hr, hf⟩, hB'⟩ := hB
    have hkn : k < n := by simp only [List.length_cons] at hk; omega
    have hr' : k ∈ Region.ready md ops listed := by simpa using hr
    have hst : stOp P ops w k (wpStill P ops w Lq l) a := by unfold stOp; simp only [h0]; exact h
    obtain ⟨v, hy, hK⟩ := yieldsAt_of_stOp h0 hst
    exact anyL_firstF h0 (Region.noSelect_spec hsel) hs hc hn hkn (fun listed' a' hL => seqB_ready hL.1) l.length listed a inv hk0 (Region.free_spec h0 hf) hr' hy
      (anyL_lexF hsel hs hc hn l (k + 1) _ _ (fun j hj => by have := hl (j + 1) (by simp; omega); simpa [Nat.add_assoc, Nat.add_comm 1 j] using this) (by simp only [List.length_cons] at hk; omega) (inv.set hr' hkn) (fun i hi => set_true (hk0 i hi)) hB' hK)
end
def tailF (ops : Array Oper) (n : Nat) : Bool := Region.noSelect ops && decide (n < ops.size) && decide (1 ≤ n) && sinkF .any ops 1 n && Region.chainB .any ops n && Region.free .any ops (Array.replicate ops.size false) 0 && (Region.ready .any ops (Array.replicate ops.size false)).contains 0 && Region.lexHead .any ops (ops.size - n) (n - 1) 1 ((Array.replicate ops.size false).setIfInBounds 0 true) && ((ops[0]?).map fun o => o.after.isEmpty).getD false
theorem region_first_round {m l0 : Nat} {P : Program} {id : Nat} {Q : Exit → Act → World → Prop} {a : Act} {w : World} {o : Oper} {l : List Oper} (n : Nat) (v : Value) (hd : ((o :: l).all noDefer) = true) (hm : P.follows .mixedOrders = true) (hB : tailF (o :: l).toArray n = true)
    (hQ : ∀ c a w, Q (.panic c) (a.put o.dst v) w → Q (.panic c) a w) (hy : YieldsFenced P (o :: l).toArray o v a)
    (h : ∀ (w1 : World) (K : Act → Prop), Hid (w1 = w.drew) → Hid (∀ a', wpListIn Fence.wide m P (o :: l).toArray Q ((o :: l).drop n) a' w1 → K a') → wpQuiet P (o :: l).toArray (fun w' => ∃ n : One w1, w' = n.w) K (l.take (n - 1)) (a.put o.dst v)) : (Code.region id (o :: l).toArray true).wpIn (Fence.wide.inRound l0) m P Q a w := by
  have hd' : ∀ p ∈ (o :: l).toArray, noDefer p = true := fun p hp => List.all_eq_true.mp hd p (by simpa using hp)
  have hs := still_of_quiet _ _ (h w.drew _ rfl (fun _ h => h))
  simp only [tailF, Bool.and_eq_true, decide_eq_true_eq] at hB
  obtain ⟨⟨⟨⟨⟨⟨⟨⟨hsel, hn⟩, h1⟩, hsk⟩, hc⟩, hfr⟩, hrd⟩, hlex⟩, haf⟩ := hB
  have hn' : n < l.length + 1 := by simpa using hn
  have htl : (l.take (n - 1)).length = n - 1 := by simp; omega
  have hdl : ((o :: l).drop n).length = (o :: l).toArray.size - n := by simp
  have haf' : o.after = #[] := by simpa using haf
  have inv1 : HeadInv .any (o :: l).toArray n ((Array.replicate (o :: l).toArray.size false).setIfInBounds 0 true) := by
    refine ⟨by simp, fun j oj hj hl e he hb => ?_, fun t ht ht' => ?_⟩
    · by_cases hj0 : 0 = j
      · subst hj0
        have : oj = o := by simpa using hj.symm
        subst this
        rw [haf'] at he; simp at he
      · rw [getD_set_ne false hj0, getD_replicate_false] at hl; cases hl
    · rw [getD_set_ne true (by omega)]; exact getD_in (by simpa using ht') (getD_replicate_false _ _)
  have H := anyL_lexF (md := .any) (k0 := 1) (g := (o :: l).toArray.size - n) hsel hsk hc hn (l.take (n - 1)) 1 _ (a.put o.dst v) (fun j hj => by
    have hj' : j < n - 1 := by rw [htl] at hj; exact hj
    simp only [List.getElem?_toArray, Nat.add_comm 1 j, List.getElem?_cons_succ]
    rw [List.getElem?_take, if_pos hj']) (by rw [htl]; omega) inv1 (fun i hi => by
    have : i = 0 := by omega
    subst this
    simp) (by rw [htl]; exact hlex) hs
  refine wpIn_region_any hm (anyIn_round l0 rfl hd' _ _ _ _ ?_)
  have H2 := anyW_of_head (m := m) (Q := Q) (g := (o :: l).toArray.size - n) (fun listed a' hL => by
    have := anyIn_of_seq (F := Fence.wide) (m := m) (md := .any) (Q := Q) ((o :: l).drop n) n listed a' w.drew (fun j => by simp [List.getElem?_drop]) (by rw [hdl]; exact hL.1) hL.2
    rwa [hdl] at this) _ _ _ H
  rw [htl] at H2
  have hz : (o :: l).toArray.size = (n - 1 + ((o :: l).toArray.size - n)) + 1 := by omega
  have H3 := wpAnyIn_take (F := Fence.wide) (i := 0) (oi := o) (v := v) (fuel := n - 1 + ((o :: l).toArray.size - n)) (listed := Array.replicate (o :: l).toArray.size false) (a := a) (w := w.drew) rfl rfl hsel hfr hrd hQ hy H2
  rw [← hz] at H3
  exact H3
end Go.Proofs.YtogdbjafibejdaaGreat
