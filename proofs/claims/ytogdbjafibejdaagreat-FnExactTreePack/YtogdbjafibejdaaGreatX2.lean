/- A region that draws its order within a round: one walk, as outside of it. No condition. -/
import Derived.Sort.QuietIn
import Derived.RangeFuncNested
import Derived.RangeFuncLeaves
namespace Go.Proofs.YtogdbjafibejdaaGreat
open Go.RowKit
set_option maxRecDepth 100000
set_option linter.unusedVariables false

def noDefer (o : Oper) : Bool := match o.op with | .defer _ => false | _ => true
theorem noDefer_ne {o : Oper} (h : noDefer o = true) : ∀ c, o.op ≠ .defer c := by
  intro c hc
  rw [noDefer, hc] at h
  cases h

theorem operIn_round {F : Fence} {n : Nat} {P : Program} {o : Oper} {a : Act} {w : World} {K : Act → World → Prop} {Q : Exit → Act → World → Prop} (l0 : Nat) (hro : F.round = none) (hd : noDefer o = true)
    (h : o.wpIn F n P a w K Q) : o.wpIn (F.inRound l0) n P a w K Q := by
  refine ⟨h.1, ?_⟩
  have h2 := h.2
  rw [hro, Oper.semAt_none] at h2
  rw [Fence.inRound_round, Oper.semAt_some l0 _ _ (noDefer_ne hd)]
  exact h2

theorem opIn_round {F : Fence} {n : Nat} {P : Program} {ops : Array Oper} {i : Nat} {a : Act} {w : World} {K K' : Act → World → Prop} {Q : Exit → Act → World → Prop} (l0 : Nat) (hro : F.round = none) (hd : ∀ o ∈ ops, noDefer o = true)
    (hK : ∀ a w, K a w → K' a w) (h : wpOpIn F n P ops Q i K a w) : wpOpIn (F.inRound l0) n P ops Q i K' a w := by
  have h := wpOpIn_mono hK h
  unfold wpOpIn at *
  split
  · rename_i ho; simpa [ho] using h
  · rename_i o ho
    simp only [ho] at h
    split
    · rename_i hw
      simp only [hw, if_true] at h
      exact operIn_round l0 hro (hd o (Array.mem_of_getElem? ho)) h
    · rename_i hw
      simp only [hw] at h
      exact h

theorem anyIn_round {F : Fence} {n : Nat} {P : Program} {md : Region.Mode} {ops : Array Oper} {Q : Exit → Act → World → Prop} (l0 : Nat) (hro : F.round = none) (hd : ∀ o ∈ ops, noDefer o = true) : ∀ (fuel : Nat) (listed : Array Bool) (a : Act) (w : World),
    wpAnyIn F n P md ops Q fuel listed a w → wpAnyIn (F.inRound l0) n P md ops Q fuel listed a w
  | 0, _, _, _, h => h
  | fuel + 1, _, _, _, h => ⟨h.1, fun i hi => opIn_round l0 hro hd (fun a w h => anyIn_round l0 hro hd fuel _ a w h) (h.2 i hi)⟩

theorem wpIn_region_quiet_round {F : Fence} {n : Nat} {P : Program} {id : Nat} {Q : Exit → Act → World → Prop} {a : Act} {w : World} {l : List Oper} {l0 : Nat} (hro : F.round = none) (hd : (l.all noDefer) = true)
    (hm : P.follows .mixedOrders = true) (hB : Region.lexB .any l.toArray = true)
    (h : wpQuietIn F n P l.toArray (fun w' => ∃ n, w' = w.drewN n) (fun a' => ∀ w', (∃ n, w' = w.drewN n) → Q .normal a' w') l a) : (Code.region id l.toArray true).wpIn (F.inRound l0) n P Q a w := by
  have hd' : ∀ o ∈ l.toArray, noDefer o = true := fun o ho => List.all_eq_true.mp hd o (by simpa using ho)
  simp only [Region.lexB, Bool.and_eq_true] at hB
  refine wpIn_region_any hm (anyIn_round l0 hro hd' _ _ _ _ (wpAnyIn_of_quiet (C := fun w' => ∃ n, w' = w.drewN n) (Q := fun a' => ∀ w', (∃ n, w' = w.drewN n) → Q .normal a' w') hro (fun _ w' hw' h => h w' hw') _ _ _ _ ⟨1, rfl⟩ ?_))
  have := wpAnyQIn_lex (F := F) (n := n) (C := fun w' => ∃ n, w' = w.drewN n) (md := .any) hB.1 l.toArray.toList 0 (Array.replicate l.toArray.size false) a (by simp) (by simpa using hB.2) h
  simpa using this

theorem blk_lt {W : World} {k : Nat} {o : Obj} (hk : W.heap[k]? = some o) : k < W.heap.size := by
  by_cases hlt : k < W.heap.size
  · exact hlt
  · rw [Array.getElem?_eq_none (Nat.le_of_not_lt hlt)] at hk; cases hk
theorem blk_from {B : Nat} {k : Nat} {o : Obj} {W W' : World} {row : Option Nat} (h : W.heap[k]? = some o) (hk : k < B) (hg : W.grownBy W' row) (hr : ∀ r, row = some r → B ≤ r ∧ ∃ o : Obj, W.heap[r]? = some o ∧ o.isCells = false) : W'.heap[k]? = some o := by
  rw [hg.block k (blk_lt h) (fun e => by have := (hr k e.symm).1; omega)]
  exact h
theorem cells_from {B : Nat} {k : Nat} {cs : Array Value} {t : TypeId} {f : Nat × Nat} {W W' : World} {row : Option Nat} (h : W.heap[k]? = some (.cells cs t f)) (hg : W.grownBy W' row) (hr : ∀ r, row = some r → B ≤ r ∧ ∃ o : Obj, W.heap[r]? = some o ∧ o.isCells = false) : W'.heap[k]? = some (.cells cs t f) := by
  rw [hg.block k (blk_lt h) (fun e => by
    obtain ⟨_, o, ho, hc⟩ := hr k e.symm
    rw [h] at ho; cases ho; cases hc)]
  exact h

def dmarks (ds : List Nat) : List Deferred := ds.map fun d => { target := .collected d, args := #[] }
theorem leaves_dmarks {F : Fence} {n : Nat} {P : Program} {fn : Func} {tmps : Array Value} {R : Ending → World → Prop} {u : FrameMode} (hu : u ≠ .run) (B : Nat) : ∀ (ds : List Nat) (w : World), ds.Nodup → (∀ d ∈ ds, B ≤ d ∧ w.heap[d]? = some (.deferred (some []))) →
    (∀ w', Below B w w' → (∀ (k : Nat) (o : Obj), w.heap[k]? = some o → o.isCells = true → w'.heap[k]? = some o) → LeavesIn F n P fn tmps R [] u w') → LeavesInM F n P fn tmps R (dmarks ds) u w
  | [], w, _, _, h => h w (Below.refl _ _) (fun _ _ h _ => h)
  | d :: ds, w, hn, hd, h => by
    have hdw := (hd d (by simp)).2
    have hdB := (hd d (by simp)).1
    have b1 : Below B w (w.putObj d (.deferred none)) := ⟨rfl, rfl, rfl, by simp, fun k hk => World.putObj_heap_other (by omega)⟩
    refine ⟨hu, .inl ⟨d, _, rfl, run_takeDeferred hdw, ?_⟩⟩
    refine leaves_dmarks hu B ds _ (List.nodup_cons.mp hn).2 (fun e he => ⟨(hd e (by simp [he])).1, ?_⟩) (fun w' b k => h w' (b1.trans b) ?_)
    · have hne : e ≠ d := fun e' => (List.nodup_cons.mp hn).1 (e' ▸ he)
      rw [World.putObj_heap_other hne]
      exact (hd e (by simp [he])).2
    · intro j o hj ho
      refine k j o ?_ ho
      rw [World.putObj_heap_other (fun e => ?_)]
      · exact hj
      · subst e; rw [hdw] at hj; cases hj; cases ho
end Go.Proofs.YtogdbjafibejdaaGreat
