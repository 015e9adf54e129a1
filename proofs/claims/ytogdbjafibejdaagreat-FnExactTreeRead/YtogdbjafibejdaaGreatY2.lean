/- A region that draws its order within a round: one walk, as outside of it. No condition. -/
import Derived.Sort.QuietIn
import Derived.RangeFuncNested
import Derived.RangeFuncLeaves
import Derived.Test.YtogdbjafibejdaaGreatRows
import Derived.Test.YtogdbjafibejdaaGreatY0
namespace Go.Proofs.YtogdbjafibejdaaGreat
open Go.RowKit
set_option maxRecDepth 100000
set_option linter.unusedVariables false

def noDefer (o : Oper) : Bool := match o.op with | .defer _ => false | _ => true
theorem noDefer_ne {o : Oper} (h : noDefer o = true) : ∀ c, o.op ≠ .defer c := by
  intro c hc
  rw [noDefer, hc] at h
  cases h

theorem operIn_round {F : Fence} {n : Nat} {P : Program} {o : Oper} {a : Act} {w : World} {K : Act → World → Prop} {Q : Exit → Act → World → Prop} (l0 : Nat) (hro : F.round = none) (hd : noDefer o = true)
    (h : o.wpIn F n P a w K Q) : o.wpIn (F.inRound l0) n P a w K Q := by
  refine ⟨h.1, ?_⟩
  have h2 := h.2
  rw [hro, Oper.semAt_none] at h2
  rw [Fence.inRound_round, Oper.semAt_some l0 _ _ (noDefer_ne hd)]
  exact h2

theorem opIn_round {F : Fence} {n : Nat} {P : Program} {ops : Array Oper} {i : Nat} {a : Act} {w : World} {K K' : Act → World → Prop} {Q : Exit → Act → World → Prop} (l0 : Nat) (hro : F.round = none) (hd : ∀ o ∈ ops, noDefer o = true)
    (hK : ∀ a w, K a w → K' a w) (h : wpOpIn F n P ops Q i K a w) : wpOpIn (F.inRound l0) n P ops Q i K' a w := by
  have h := wpOpIn_mono hK h
  unfold wpOpIn at *
  split
  · rename_i ho; simpa [ho] using h
  · rename_i o ho
    simp only [ho] at h
    split
    · rename_i hw
      simp only [hw, if_true] at h
      exact operIn_round l0 hro (hd o (Array.mem_of_getElem? ho)) h
    · rename_i hw
      simp only [hw] at h
      exact h

theorem anyIn_round {F : Fence} {n : Nat} {P : Program} {md : Region.Mode} {ops : Array Oper} {Q : Exit → Act → World → Prop} (l0 : Nat) (hro : F.round = none) (hd : ∀ o ∈ ops, noDefer o = true) : ∀ (fuel : Nat) (listed : Array Bool) (a : Act) (w : World),
    wpAnyIn F n P md ops Q fuel listed a w → wpAnyIn (F.inRound l0) n P md ops Q fuel listed a w
  | 0, _, _, _, h => h
  | fuel + 1, _, _, _, h => ⟨h.1, fun i hi => opIn_round l0 hro hd (fun a w h => anyIn_round l0 hro hd fuel _ a w h) (h.2 i hi)⟩

theorem wpIn_region_quiet_round {F : Fence} {n : Nat} {P : Program} {id : Nat} {Q : Exit → Act → World → Prop} {a : Act} {w : World} {l : List Oper} {l0 : Nat} (hro : F.round = none) (hd : (l.all noDefer) = true)
    (hm : P.follows .mixedOrders = true) (hB : Region.lexB .any l.toArray = true)
    (h : wpQuietIn F n P l.toArray (fun w' => ∃ n, w' = w.drewN n) (fun a' => ∀ w', (∃ n, w' = w.drewN n) → Q .normal a' w') l a) : (Code.region id l.toArray true).wpIn (F.inRound l0) n P Q a w := by
  have hd' : ∀ o ∈ l.toArray, noDefer o = true := fun o ho => List.all_eq_true.mp hd o (by simpa using ho)
  simp only [Region.lexB, Bool.and_eq_true] at hB
  refine wpIn_region_any hm (anyIn_round l0 hro hd' _ _ _ _ (wpAnyIn_of_quiet (C := fun w' => ∃ n, w' = w.drewN n) (Q := fun a' => ∀ w', (∃ n, w' = w.drewN n) → Q .normal a' w') hro (fun _ w' hw' h => h w' hw') _ _ _ _ ⟨1, rfl⟩ ?_))
  have := wpAnyQIn_lex (F := F) (n := n) (C := fun w' => ∃ n, w' = w.drewN n) (md := .any) hB.1 l.toArray.toList 0 (Array.replicate l.toArray.size false) a (by simp) (by simpa using hB.2) h
  simpa using this

theorem blk_lt {W : World} {k : Nat} {o : Obj} (hk : W.heap[k]? = some o) : k < W.heap.size := by
  by_cases hlt : k < W.heap.size
  · exact hlt
  · rw [Array.getElem?_eq_none (Nat.le_of_not_lt hlt)] at hk; cases hk
theorem blk_from {B : Nat} {k : Nat} {o : Obj} {W W' : World} {row : Option Nat} (h : W.heap[k]? = some o) (hk : k < B) (hg : W.grownBy W' row) (hr : ∀ r, row = some r → B ≤ r ∧ ∃ o : Obj, W.heap[r]? = some o ∧ o.isCells = false) : W'.heap[k]? = some o := by
  rw [hg.block k (blk_lt h) (fun e => by have := (hr k e.symm).1; omega)]
  exact h
theorem cells_from {B : Nat} {k : Nat} {cs : Array Value} {t : TypeId} {f : Nat × Nat} {W W' : World} {row : Option Nat} (h : W.heap[k]? = some (.cells cs t f)) (hg : W.grownBy W' row) (hr : ∀ r, row = some r → B ≤ r ∧ ∃ o : Obj, W.heap[r]? = some o ∧ o.isCells = false) : W'.heap[k]? = some (.cells cs t f) := by
  rw [hg.block k (blk_lt h) (fun e => by
    obtain ⟨_, o, ho, hc⟩ := hr k e.symm
    rw [h] at ho; cases ho; cases hc)]
  exact h

def dmarks (ds : List Nat) : List Deferred := ds.map fun d => { target := .collected d, args := #[] }
theorem leaves_dmarks {F : Fence} {n : Nat} {P : Program} {fn : Func} {tmps : Array Value} {R : Ending → World → Prop} {u : FrameMode} (hu : u ≠ .run) (B : Nat) : ∀ (ds : List Nat) (w : World), ds.Nodup → (∀ d ∈ ds, B ≤ d ∧ w.heap[d]? = some (.deferred (some []))) →
    (∀ w', Below B w w' → (∀ (k : Nat) (o : Obj), w.heap[k]? = some o → o.isCells = true → w'.heap[k]? = some o) → LeavesIn F n P fn tmps R [] u w') → LeavesInM F n P fn tmps R (dmarks ds) u w
  | [], w, _, _, h => h w (Below.refl _ _) (fun _ _ h _ => h)
  | d :: ds, w, hn, hd, h => by
    have hdw := (hd d (by simp)).2
    have hdB := (hd d (by simp)).1
    have b1 : Below B w (w.putObj d (.deferred none)) := ⟨rfl, rfl, rfl, by simp, fun k hk => World.putObj_heap_other (by omega)⟩
    refine ⟨hu, .inl ⟨d, _, rfl, run_takeDeferred hdw, ?_⟩⟩
    refine leaves_dmarks hu B ds _ (List.nodup_cons.mp hn).2 (fun e he => ⟨(hd e (by simp [he])).1, ?_⟩) (fun w' b k => h w' (b1.trans b) ?_)
    · have hne : e ≠ d := fun e' => (List.nodup_cons.mp hn).1 (e' ▸ he)
      rw [World.putObj_heap_other hne]
      exact (hd e (by simp [he])).2
    · intro j o hj ho
      refine k j o ?_ ho
      rw [World.putObj_heap_other (fun e => ?_)]
      · exact hj
      · subst e; rw [hdw] at hj; cases hj; cases ho
end Go.Proofs.YtogdbjafibejdaaGreat

/- Contracts of the small functions of the laws' package (copies, comparisons, marks of slices of bytes), for every slice of up to 2^40 of them. -/
namespace Go.Proofs.YtogdbjafibejdaaGreat
open Go.RowKit
set_option maxRecDepth 100000
set_option linter.unusedVariables false

theorem eqB_any {v1 v2 : Value} {xs ys : List Int} {w : World} (h1 : Sl .u8 w v1 xs) (h2 : Sl .u8 w v2 ys) (hx : xs.length ≤ 1099511627776) (hy : ys.length ≤ 1099511627776) :
    Calls Tryz.prog 37 #[v1, v2] w fun e w' => e = .returned (.bool (decide (xs = ys))) ∧ Below w.heap.size w w' := by
  obtain ⟨a, ca, rfl, _, _, _, ha⟩ := h1
  obtain ⟨b, cb, rfl, _, _, _, hb⟩ := h2
  by_cases hl : xs.length = ys.length
  · have hl1 : ((xs.length : Int) != (ys.length : Int)) = false := by simp [hl]
    have HL : Hid (xs.length = ys.length) := hl
    clear hl
    go_enter Tryz.func37, Tryz.ntmps37
    go_wp2
    go_loopw [5] (fun i wr => ∃ k : Nat, k ≤ xs.length ∧ i = .int .i64 k ∧ xs.take k = ys.take k ∧ ∃ n, wr = w.drewN n) (fun i _ => xs.length - (intOf i).toNat)
    case atStart => exact ⟨0, Nat.zero_le _, rfl, by simp, 0, rfl⟩
    case round =>
      obtain ⟨k, hk, rfl, ht, n, rfl⟩ := hrel
      by_cases hlt : k < xs.length
      · have hlt2 : k < ys.length := by rw [← HL.out]; exact hlt
        obtain ⟨b1, o1, rfl, c1⟩ := ha k hlt
        obtain ⟨b2, o2, rfl, c2⟩ := hb k hlt2
        have HT : Hid (xs.take k = ys.take k) := ht
        clear ht ha hb
        go_wp2
        go_quiet (fail)
        go_wp2
        · go_ret
          have hne : (xs[k] != ys[k]) = true := by assumption
          exact ⟨ret_bool (by simp at hne; simp; intro h; subst h; exact hne rfl), (below_drewN _).trans (below_drewN _)⟩
        · have hne : (xs[k] != ys[k]) = false := by assumption
          go_roundw
          case rel => exact ⟨k + 1, by omega, by go_num, take_eq_succ hlt hlt2 HT.out (by simp at hne; simpa [List.getD_eq_getElem?_getD, hlt, hlt2] using hne), _, rfl⟩
          case measure => simp [intOf]; omega
      · have HT : Hid (xs.take k = ys.take k) := ht
        clear ht ha hb
        go_wp2
        go_ret
        have hke : k = xs.length := by omega
        exact ⟨ret_bool (by have h := HT.out; rw [hke] at h; simp [eq_of_take HL.out h]), below_drewN n⟩
  · have hl1 : ((xs.length : Int) != (ys.length : Int)) = true := by simp; omega
    go_enter Tryz.func37, Tryz.ntmps37
    go_wp2
    go_ret
    exact ⟨ret_bool (by simp; intro h; exact hl (by rw [h])), Below.refl _ _⟩

theorem markB_any {B : Nat} {v : Value} {xs : List Int} {k0 : Int} {w : World} (h : Own B 5 .u8 w v xs) (hn : xs.length ≤ 1099511627776) (hk0 : 0 ≤ k0) (hk1 : k0 ≤ 1099511627776) :
    Calls Tryz.prog 40 #[v, .int .i64 k0] w fun e w' => e = .returned (.int .i64 (k0 + xs.length)) ∧ Own B 5 .u8 w' v (marks (· % 256) k0 xs.length) ∧ w.grownBy w' v.ownBlock := by
  rcases h.shape with ⟨rfl, rfl⟩ | ⟨g, cap, rfl, hB, hg, hc, hm⟩
  · go_enter Tryz.func40, Tryz.ntmps40
    go_wp2
    refine wp_loop_rounds 1 ?_
    rw [rounds_succ]
    go_wp2
    go_ret
    exact ⟨ret_int (by simp), h, World.grownBy.refl _ _⟩
  · go_enter Tryz.func40, Tryz.ntmps40
    go_wp2
    go_loopw [1, 5] (fun q i wr => ∃ k : Nat, k ≤ xs.length ∧ i = .int .i64 k ∧ q = .int .i64 (k0 + k) ∧ wr.ownsRow B 5 1 (.slice (some ⟨g, 0, none⟩) xs.length cap) xs.length ((marks (· % 256) k0 k ++ xs.drop k).map (Value.int .u8)) ∧ w.grownBy wr (some g)) (fun _ i _ => xs.length - (intOf i).toNat)
    case atStart => exact ⟨0, Nat.zero_le _, rfl, by go_num, h, World.grownBy.refl _ _⟩
    case round =>
      obtain ⟨k, hk, rfl, rfl, hown, hgr⟩ := hrel
      by_cases hlt : k < xs.length
      · obtain ⟨z, hcell⟩ : ∃ z, wr.cell? ⟨g, k, none⟩ = some (.int .u8 z) := by
          have hc := hown.cellAt k (by omega)
          have hlk : k < (marks (· % 256) k0 k ++ xs.drop k).length := by simp [marks_length]; omega
          rw [hc, List.getElem?_map, List.getElem?_eq_getElem hlk]; exact ⟨_, rfl⟩
        have hfz := hown.frozenAt k
        have HO : Hid (wr.ownsRow B 5 1 (.slice (some ⟨g, 0, none⟩) xs.length cap) xs.length ((marks (· % 256) k0 k ++ xs.drop k).map (Value.int .u8))) := hown
        clear hown
        go_wp2
        have hst := HO.out.stored k (.int .u8 ((k0 + k) % 256))
        rw [← List.map_set, marked_succ (· % 256) k0 xs k hlt] at hst
        go_roundw
        case rel => exact ⟨k + 1, by omega, by go_num, by go_num, hst.1, grown_trans hgr hst.2⟩
        case measure => simp [intOf]; omega
      · go_wp2
        go_ret
        have hke : k = xs.length := by omega
        rw [hke, List.drop_length, List.append_nil] at hown
        refine ⟨ret_int (by rw [hke]), ?_, hgr⟩
        unfold Own; rw [marks_length]; exact hown

theorem Tryz.infoB : (Tryz.prog.info? 5).map (fun i => (i.zero, i.size, i.bytes)) = some (some (.int .u8 0), 1, 1) := by kernel_rfl

theorem toB_any {v : Value} {xs : List Int} {w : World} (h : Sl .u8 w v xs) (hn : xs.length ≤ 1099511627776) :
    Calls Tryz.prog 42 #[v] w fun e w' => ∃ v', e = .returned v' ∧ Own w.heap.size 5 .u8 w' v' xs ∧ Below w.heap.size w w' := by
  obtain ⟨a, ca, rfl, _, _, _, ha⟩ := h
  obtain ⟨i0, hi, hz0, hz1, hz2⟩ := info_parts Tryz.infoB
  obtain ⟨N, HN⟩ : ∃ N, Hid (N = w.heap.size) := ⟨_, rfl⟩
  go_enter Tryz.func42, Tryz.ntmps42
  go_wp2_with (at_make; refine wpList_make_full _ rfl (.tmp 6) (.tmp 6) 22 rfl w.heap.size 5 i0 (.int .u8 0) 1 Tryz.underlying22 hi hz0 hz1 .i64 .i64 xs.length xs.length xs.length rfl rfl rfl rfl (by rw [hz2]; omega) (by unfold maxLen; omega) (Nat.le_refl _) ?_; intro w1 hown hgr)
  have hown0 : w1.ownsRow w.heap.size 5 1 (.slice (some ⟨w.heap.size, 0, none⟩) xs.length xs.length) xs.length ((xs.take 0 ++ List.replicate (xs.length - 0) 0).map (Value.int .u8)) := by
    rw [Nat.mul_one] at hown
    have e : (madeCells (Value.int .u8 0).cells xs.length).toList = List.replicate xs.length (Value.int .u8 0) := toList_madeCells_one _ _
    rw [e] at hown
    simpa using hown
  clear hown
  have hbel : Below w.heap.size w w1 := (Below.refl _ _).grown hgr (Nat.le_refl _) (fun k h => by cases h)
  have hsz : w.heap.size < w1.heap.size := (World.ownsRow.lt hown0 w.heap.size rfl).2
  clear hgr
  go_loopw [4] (fun i wr => ∃ k : Nat, k ≤ xs.length ∧ i = .int .i64 k ∧ wr.ownsRow w.heap.size 5 1 (.slice (some ⟨w.heap.size, 0, none⟩) xs.length xs.length) xs.length ((xs.take k ++ List.replicate (xs.length - k) 0).map (Value.int .u8)) ∧ Below w.heap.size w wr) (fun i _ => xs.length - (intOf i).toNat)
  case atStart => exact ⟨0, Nat.zero_le _, rfl, hown0, hbel⟩
  case round =>
    clear hown0 hbel
    obtain ⟨k, hk, rfl, hown, hbel⟩ := hrel
    by_cases hlt : k < xs.length
    · have ha' := ha.below hbel
      obtain ⟨b1, o1, rfl, c1⟩ := ha' k hlt
      obtain ⟨z, hcell⟩ : ∃ z, wr.cell? ⟨w.heap.size, k, none⟩ = some (.int .u8 z) := by
        have hc := hown.cellAt k (by omega)
        have hlk : k < (xs.take k ++ List.replicate (xs.length - k) 0).length := by simp; omega
        rw [hc, List.getElem?_map, List.getElem?_eq_getElem hlk]; exact ⟨_, rfl⟩
      have hfz := hown.frozenAt k
      have HO : Hid (wr.ownsRow w.heap.size 5 1 (.slice (some ⟨w.heap.size, 0, none⟩) xs.length xs.length) xs.length ((xs.take k ++ List.replicate (xs.length - k) 0).map (Value.int .u8))) := hown
      clear hown ha ha'
      go_wp2
      go_roundw
      case rel =>
        have hst := HO.out.stored k (.int .u8 xs[k])
        rw [← List.map_set, copied_succ xs k hlt _ rfl] at hst
        exact ⟨k + 1, by omega, by go_num, hst.1, hbel.setCell (Nat.le_refl _) _⟩
      case measure => simp [intOf]; omega
    · go_wp2
      go_ret
      have hke : k = xs.length := by omega
      rw [hke, List.take_length, Nat.sub_self, List.replicate_zero, List.append_nil] at hown
      exact ⟨_, rfl, hown, hbel⟩
end Go.Proofs.YtogdbjafibejdaaGreat
