/- A region that draws its order within a round: one walk, as outside of it. No condition. -/
import Derived.Sort.QuietIn
import Derived.RangeFuncNested
import Derived.RangeFuncLeaves
import Derived.Test.YtogdbjafibejdaaGreatX16
import Derived.Test.YtogdbjafibejdaaGreatX15
import Derived.Test.YtogdbjafibejdaaGreatX13
import Derived.Test.YtogdbjafibejdaaGreatX12
import Derived.Test.YtogdbjafibejdaaGreatX14
import Derived.Test.YtogdbjafibejdaaGreatX2
namespace Go.Proofs.YtogdbjafibejdaaGreat
open Go.RowKit
set_option maxRecDepth 100000
set_option linter.unusedVariables false

def noDefer (o : Oper) : Bool := match o.op with | .defer _ => false | _ => true
theorem noDefer_ne {o : Oper} (h : noDefer o = true) : ∀ c, o.op ≠ .defer c := by
  intro c hc
  rw [noDefer, hc] at h
  cases h

theorem operIn_round {F : Fence} {n : Nat} {P : Program} {o : Oper} {a : Act} {w : World} {K : Act → World → Prop} {Q : Exit → Act → World → Prop} (l0 : Nat) (hro : F.round = none) (hd : noDefer o = true)
    (h : o.wpIn F n P a w K Q) : o.wpIn (F.inRound l0) n P a w K Q := by
  refine ⟨h.1, ?_⟩
  have h2 := h.2
  rw [hro, Oper.semAt_none] at h2
  rw [Fence.inRound_round, Oper.semAt_some l0 _ _ (noDefer_ne hd)]
  exact h2

theorem opIn_round {F : Fence} {n : Nat} {P : Program} {ops : Array Oper} {i : Nat} {a : Act} {w : World} {K K' : Act → World → Prop} {Q : Exit → Act → World → Prop} (l0 : Nat) (hro : F.round = none) (hd : ∀ o ∈ ops, noDefer o = true)
    (hK : ∀ a w, K a w → K' a w) (h : wpOpIn F n P ops Q i K a w) : wpOpIn (F.inRound l0) n P ops Q i K' a w := by
  have h := wpOpIn_mono hK h
  unfold wpOpIn at *
  split
  · rename_i ho; simpa [ho] using h
  · rename_i o ho
    simp only [ho] at h
    split
    · rename_i hw
      simp only [hw, if_true] at h
      exact operIn_round l0 hro (hd o (Array.mem_of_getElem? ho)) h
    · rename_i hw
      simp only [hw] at h
      exact h

theorem anyIn_round {F : Fence} {n : Nat} {P : Program} {md : Region.Mode} {ops : Array Oper} {Q : Exit → Act → World → Prop} (l0 : Nat) (hro : F.round = none) (hd : ∀ o ∈ ops, noDefer o = true) : ∀ (fuel : Nat) (listed : Array Bool) (a : Act) (w : World),
    wpAnyIn F n P md ops Q fuel listed a w → wpAnyIn (F.inRound l0) n P md ops Q fuel listed a w
  | 0, _, _, _, h => h
  | fuel + 1, _, _, _, h => ⟨h.1, fun i hi => opIn_round l0 hro hd (fun a w h => anyIn_round l0 hro hd fuel _ a w h) (h.2 i hi)⟩

theorem wpIn_region_quiet_round {F : Fence} {n : Nat} {P : Program} {id : Nat} {Q : Exit → Act → World → Prop} {a : Act} {w : World} {l : List Oper} {l0 : Nat} (hro : F.round = none) (hd : (l.all noDefer) = true)
    (hm : P.follows .mixedOrders = true) (hB : Region.lexB .any l.toArray = true)
    (h : wpQuietIn F n P l.toArray (fun w' => ∃ n, w' = w.drewN n) (fun a' => ∀ w', (∃ n, w' = w.drewN n) → Q .normal a' w') l a) : (Code.region id l.toArray true).wpIn (F.inRound l0) n P Q a w := by
  have hd' : ∀ o ∈ l.toArray, noDefer o = true := fun o ho => List.all_eq_true.mp hd o (by simpa using ho)
  simp only [Region.lexB, Bool.and_eq_true] at hB
  refine wpIn_region_any hm (anyIn_round l0 hro hd' _ _ _ _ (wpAnyIn_of_quiet (C := fun w' => ∃ n, w' = w.drewN n) (Q := fun a' => ∀ w', (∃ n, w' = w.drewN n) → Q .normal a' w') hro (fun _ w' hw' h => h w' hw') _ _ _ _ ⟨1, rfl⟩ ?_))
  have := wpAnyQIn_lex (F := F) (n := n) (C := fun w' => ∃ n, w' = w.drewN n) (md := .any) hB.1 l.toArray.toList 0 (Array.replicate l.toArray.size false) a (by simp) (by simpa using hB.2) h
  simpa using this

theorem blk_lt {W : World} {k : Nat} {o : Obj} (hk : W.heap[k]? = some o) : k < W.heap.size := by
  by_cases hlt : k < W.heap.size
  · exact hlt
  · rw [Array.getElem?_eq_none (Nat.le_of_not_lt hlt)] at hk; cases hk
/-- What keeps all that lay keeps whatever is no cells. -/
theorem keeps_of_below {W W' : World} (h : Below W.heap.size W W') : KeepsOthers W W' :=
  ⟨h.size, fun k o hk _ => (h.block k (blk_lt hk)).trans hk⟩
/-- A block below B is kept by whatever turns blocks from B on, and makes new ones. -/
theorem blk_from {B : Nat} {k : Nat} {o : Obj} {W W' : World} {row : Option Nat} (h : W.heap[k]? = some o) (hk : k < B) (hg : W.grownBy W' row) (hr : ∀ r, row = some r → B ≤ r ∧ ∃ o : Obj, W.heap[r]? = some o ∧ o.isCells = false) : W'.heap[k]? = some o := by
  rw [hg.block k (blk_lt h) (fun e => by have := (hr k e.symm).1; omega)]
  exact h
theorem cells_from {B : Nat} {k : Nat} {cs : Array Value} {t : TypeId} {f : Nat × Nat} {W W' : World} {row : Option Nat} (h : W.heap[k]? = some (.cells cs t f)) (hg : W.grownBy W' row) (hr : ∀ r, row = some r → B ≤ r ∧ ∃ o : Obj, W.heap[r]? = some o ∧ o.isCells = false) : W'.heap[k]? = some (.cells cs t f) := by
  rw [hg.block k (blk_lt h) (fun e => by
    obtain ⟨_, o, ho, hc⟩ := hr k e.symm
    rw [h] at ho; cases ho; cases hc)]
  exact h

/-- The dmarks of loops over functions among a frame's deferred calls. -/
def dmarks (ds : List Nat) : List Deferred := ds.map fun d => { target := .collected d, args := #[] }
/-- The dmarks are taken up one behind the other: what lies elsewhere lies as it lay. -/
theorem leaves_dmarks {F : Fence} {n : Nat} {P : Program} {fn : Func} {tmps : Array Value} {R : Ending → World → Prop} {u : FrameMode} (hu : u ≠ .run) (B : Nat) : ∀ (ds : List Nat) (w : World), ds.Nodup → (∀ d ∈ ds, B ≤ d ∧ w.heap[d]? = some (.deferred (some []))) →
    (∀ w', Below B w w' → (∀ (k : Nat) (o : Obj), w.heap[k]? = some o → o.isCells = true → w'.heap[k]? = some o) → LeavesIn F n P fn tmps R [] u w') → LeavesInM F n P fn tmps R (dmarks ds) u w
  | [], w, _, _, h => h w (Below.refl _ _) (fun _ _ h _ => h)
  | d :: ds, w, hn, hd, h => by
    have hdw := (hd d (by simp)).2
    have hdB := (hd d (by simp)).1
    have b1 : Below B w (w.putObj d (.deferred none)) := ⟨rfl, rfl, rfl, by simp, fun k hk => World.putObj_heap_other (by omega)⟩
    refine ⟨hu, .inl ⟨d, _, rfl, run_takeDeferred hdw, ?_⟩⟩
    refine leaves_dmarks hu B ds _ (List.nodup_cons.mp hn).2 (fun e he => ⟨(hd e (by simp [he])).1, ?_⟩) (fun w' b k => h w' (b1.trans b) ?_)
    · have hne : e ≠ d := fun e' => (List.nodup_cons.mp hn).1 (e' ▸ he)
      rw [World.putObj_heap_other hne]
      exact (hd e (by simp [he])).2
    · intro j o hj ho
      refine k j o ?_ ho
      rw [World.putObj_heap_other (fun e => ?_)]
      · exact hj
      · subst e; rw [hdw] at hj; cases hj; cases ho
end Go.Proofs.YtogdbjafibejdaaGreat

/- The program's nodeOk. No condition. -/
namespace Go.Proofs.YtogdbjafibejdaaGreat
open Go.RowKit
set_option maxRecDepth 100000
set_option linter.unusedVariables false

theorem natb0 (n : Nat) : ((n : Int) == 0) = decide (n = 0) := by rw [Bool.eq_iff_iff, beq_iff_eq, decide_eq_true_iff]; omega
def empB (s : ByteArray) : Bool := decide (s.toList = [])
/-- What a node has is right, but for Parent and Kids; nk kids. -/
def nodeB (k : Int) (nm : ByteArray) (rs : List (ByteArray × ByteArray)) (tx : ByteArray) (nk : Nat) : Bool :=
  if k = 1 then empB nm && decide (rs.length = 0) && empB tx
  else if k = 2 then (decide (nm.size ≤ 60) && utfOk (bs nm)) && decide (rs.length = 0) && empB tx && decide (nk = 0)
  else if k = 3 then nameOk (bs nm) && attrsOk rs && empB tx
  else if k = 4 then !empB tx && utfOk (bs tx) && empB nm && decide (rs.length = 0) && decide (nk = 0)
  else if k = 5 then utfOk (bs tx) && empB nm && decide (rs.length = 0) && decide (nk = 0)
  else false

set_option maxHeartbeats 1000000 in
theorem inode_page {w : World} (nm tx : ByteArray) (p : Int) {a ka : Option Addr} {na ca nk kc : Nat} :
    Calls Tryz.prog 59 #[.agg #[.int .i64 1, .string nm, .slice a na ca, .string tx, .int .i64 p, .slice ka nk kc]] w fun e w' => e = .returned (.bool (empB nm && decide (na = 0) && empB tx)) ∧ Below w.heap.size w w' := by
  unfold empB
  go_enter Tryz.func59, Tryz.ntmps59
  go_wp2
  all_goals (go_ret; exact ⟨ret_bool (by simp [*]), ((Below.refl _ _).alloc (Nat.le_refl _) _).alloc (by simp) _⟩)

set_option maxHeartbeats 1000000 in
theorem inode_doc {w : World} (nm tx : ByteArray) (p : Int) {a ka : Option Addr} {na ca nk kc : Nat} (hnm : nm.size ≤ 1048576) (htx : tx.size ≤ 1048576) :
    Calls Tryz.prog 59 #[.agg #[.int .i64 2, .string nm, .slice a na ca, .string tx, .int .i64 p, .slice ka nk kc]] w fun e w' => e = .returned (.bool ((decide (nm.size ≤ 60) && utfOk (bs nm)) && decide (na = 0) && empB tx && decide (nk = 0))) ∧ Below w.heap.size w w' := by
  have b1 : Below w.heap.size w ((w.alloc (.cells #[.int .i64 2, .string nm, .slice a na ca, .string tx, .int .i64 p, .slice ka nk kc] 36)).alloc (.cells #[.int .i64 2, .string nm, .slice a na ca, .string tx, .int .i64 p, .slice ka nk kc] 36)) := ((Below.refl _ _).alloc (Nat.le_refl _) _).alloc (by simp) _
  have hx0 : ((w.alloc (.cells #[.int .i64 2, .string nm, .slice a na ca, .string tx, .int .i64 p, .slice ka nk kc] 36)).alloc (.cells #[.int .i64 2, .string nm, .slice a na ca, .string tx, .int .i64 p, .slice ka nk kc] 36)).heap[w.heap.size + 1]? = some (.cells #[.int .i64 2, .string nm, .slice a na ca, .string tx, .int .i64 p, .slice ka nk kc] 36 (0, 0)) := by
    have := World.alloc_heap_new (w.alloc (.cells #[.int .i64 2, .string nm, .slice a na ca, .string tx, .int .i64 p, .slice ka nk kc] 36)) (.cells #[.int .i64 2, .string nm, .slice a na ca, .string tx, .int .i64 p, .slice ka nk kc] 36)
    rwa [World.size_alloc] at this
  have HX0 := (show Hid _ from hx0)
  have c1 := fun w => doctypeNameOk_any nm w (by omega)
  obtain ⟨u, eu⟩ : ∃ u, u = (decide (nm.size ≤ 60) && utfOk (bs nm)) := ⟨_, rfl⟩
  rw [← eu] at c1 ⊢
  have C1 := (show Hid _ from c1)
  clear c1 eu hx0
  unfold empB
  go_enter Tryz.func59, Tryz.ntmps59
  go_wp2_with fail
  go_at_call 109
  refine (C1.out _).mono ?_
  rintro e w3 ⟨rfl, b3⟩
  have hx := (b3.block (w.heap.size + 1) (by simp)).trans HX0.out
  have x0 : w3.cell? ⟨w.heap.size + 1, 0, none⟩ = some (.int .i64 2) := by simp only [World.cell?, hx]; rfl
  have f0 : w3.frozen? ⟨w.heap.size + 1, 0, none⟩ = false := by simp only [World.frozen?, hx]; rfl
  have x1 : w3.cell? ⟨w.heap.size + 1, 1, none⟩ = some (.string nm) := by simp only [World.cell?, hx]; rfl
  have f1 : w3.frozen? ⟨w.heap.size + 1, 1, none⟩ = false := by simp only [World.frozen?, hx]; rfl
  have x2 : w3.cell? ⟨w.heap.size + 1, 2, none⟩ = some (.slice a na ca) := by simp only [World.cell?, hx]; rfl
  have f2 : w3.frozen? ⟨w.heap.size + 1, 2, none⟩ = false := by simp only [World.frozen?, hx]; rfl
  have x3 : w3.cell? ⟨w.heap.size + 1, 3, none⟩ = some (.string tx) := by simp only [World.cell?, hx]; rfl
  have f3 : w3.frozen? ⟨w.heap.size + 1, 3, none⟩ = false := by simp only [World.frozen?, hx]; rfl
  have x4 : w3.cell? ⟨w.heap.size + 1, 4, none⟩ = some (.int .i64 p) := by simp only [World.cell?, hx]; rfl
  have f4 : w3.frozen? ⟨w.heap.size + 1, 4, none⟩ = false := by simp only [World.frozen?, hx]; rfl
  have x5 : w3.cell? ⟨w.heap.size + 1, 5, none⟩ = some (.slice ka nk kc) := by simp only [World.cell?, hx]; rfl
  have f5 : w3.frozen? ⟨w.heap.size + 1, 5, none⟩ = false := by simp only [World.frozen?, hx]; rfl
  replace b3 := b1.trans (b3.mono b1.size)
  have hlt := lt_of_block hx
  clear hx HX0
  cases u <;> go_wp2
  all_goals (go_ret; exact ⟨ret_bool (by first | (simp [*]; done) | simp [*, natb0]), b3.setCell (Nat.le_succ _) _⟩)

set_option maxHeartbeats 1000000 in
theorem inode_com {w : World} (nm tx : ByteArray) (p : Int) {a ka : Option Addr} {na ca nk kc : Nat} (hnm : nm.size ≤ 1048576) (htx : tx.size ≤ 1048576) :
    Calls Tryz.prog 59 #[.agg #[.int .i64 5, .string nm, .slice a na ca, .string tx, .int .i64 p, .slice ka nk kc]] w fun e w' => e = .returned (.bool (utfOk (bs tx) && empB nm && decide (na = 0) && decide (nk = 0))) ∧ Below w.heap.size w w' := by
  have b1 : Below w.heap.size w ((w.alloc (.cells #[.int .i64 5, .string nm, .slice a na ca, .string tx, .int .i64 p, .slice ka nk kc] 36)).alloc (.cells #[.int .i64 5, .string nm, .slice a na ca, .string tx, .int .i64 p, .slice ka nk kc] 36)) := ((Below.refl _ _).alloc (Nat.le_refl _) _).alloc (by simp) _
  have hx0 : ((w.alloc (.cells #[.int .i64 5, .string nm, .slice a na ca, .string tx, .int .i64 p, .slice ka nk kc] 36)).alloc (.cells #[.int .i64 5, .string nm, .slice a na ca, .string tx, .int .i64 p, .slice ka nk kc] 36)).heap[w.heap.size + 1]? = some (.cells #[.int .i64 5, .string nm, .slice a na ca, .string tx, .int .i64 p, .slice ka nk kc] 36 (0, 0)) := by
    have := World.alloc_heap_new (w.alloc (.cells #[.int .i64 5, .string nm, .slice a na ca, .string tx, .int .i64 p, .slice ka nk kc] 36)) (.cells #[.int .i64 5, .string nm, .slice a na ca, .string tx, .int .i64 p, .slice ka nk kc] 36)
    rwa [World.size_alloc] at this
  have HX0 := (show Hid _ from hx0)
  have c1 := fun w => textOk_any tx w (by omega)
  obtain ⟨u, eu⟩ : ∃ u, u = utfOk (bs tx) := ⟨_, rfl⟩
  rw [← eu] at c1 ⊢
  have C1 := (show Hid _ from c1)
  clear c1 eu hx0
  unfold empB
  go_enter Tryz.func59, Tryz.ntmps59
  go_wp2_with fail
  go_at_call 112
  refine (C1.out _).mono ?_
  rintro e w3 ⟨rfl, b3⟩
  have hx := (b3.block (w.heap.size + 1) (by simp)).trans HX0.out
  have x0 : w3.cell? ⟨w.heap.size + 1, 0, none⟩ = some (.int .i64 5) := by simp only [World.cell?, hx]; rfl
  have f0 : w3.frozen? ⟨w.heap.size + 1, 0, none⟩ = false := by simp only [World.frozen?, hx]; rfl
  have x1 : w3.cell? ⟨w.heap.size + 1, 1, none⟩ = some (.string nm) := by simp only [World.cell?, hx]; rfl
  have f1 : w3.frozen? ⟨w.heap.size + 1, 1, none⟩ = false := by simp only [World.frozen?, hx]; rfl
  have x2 : w3.cell? ⟨w.heap.size + 1, 2, none⟩ = some (.slice a na ca) := by simp only [World.cell?, hx]; rfl
  have f2 : w3.frozen? ⟨w.heap.size + 1, 2, none⟩ = false := by simp only [World.frozen?, hx]; rfl
  have x3 : w3.cell? ⟨w.heap.size + 1, 3, none⟩ = some (.string tx) := by simp only [World.cell?, hx]; rfl
  have f3 : w3.frozen? ⟨w.heap.size + 1, 3, none⟩ = false := by simp only [World.frozen?, hx]; rfl
  have x4 : w3.cell? ⟨w.heap.size + 1, 4, none⟩ = some (.int .i64 p) := by simp only [World.cell?, hx]; rfl
  have f4 : w3.frozen? ⟨w.heap.size + 1, 4, none⟩ = false := by simp only [World.frozen?, hx]; rfl
  have x5 : w3.cell? ⟨w.heap.size + 1, 5, none⟩ = some (.slice ka nk kc) := by simp only [World.cell?, hx]; rfl
  have f5 : w3.frozen? ⟨w.heap.size + 1, 5, none⟩ = false := by simp only [World.frozen?, hx]; rfl
  replace b3 := b1.trans (b3.mono b1.size)
  have hlt := lt_of_block hx
  clear hx HX0
  cases u <;> go_wp2
  all_goals (go_ret; exact ⟨ret_bool (by first | (simp [*]; done) | simp [*, natb0]), b3.setCell (Nat.le_succ _) _⟩)

set_option maxHeartbeats 1000000 in
theorem inode_elem {w : World} (nm tx : ByteArray) (p : Int) {a ka : Option Addr} {na ca nk kc : Nat} {rs : List (ByteArray × ByteArray)} (hav : Sv 2 w (.slice a na ca) (pairCells rs)) (hnm : nm.size ≤ 1048576) (htx : tx.size ≤ 1048576) (hrs : rs.length ≤ 1048576) (hrr : ∀ p ∈ rs, p.1.size ≤ 1099511627776 ∧ p.2.size ≤ 1099511627776) :
    Calls Tryz.prog 59 #[.agg #[.int .i64 3, .string nm, .slice a na ca, .string tx, .int .i64 p, .slice ka nk kc]] w fun e w' => e = .returned (.bool (nameOk (bs nm) && attrsOk rs && empB tx)) ∧ Below w.heap.size w w' := by
  have b1 : Below w.heap.size w ((w.alloc (.cells #[.int .i64 3, .string nm, .slice a na ca, .string tx, .int .i64 p, .slice ka nk kc] 36)).alloc (.cells #[.int .i64 3, .string nm, .slice a na ca, .string tx, .int .i64 p, .slice ka nk kc] 36)) := ((Below.refl _ _).alloc (Nat.le_refl _) _).alloc (by simp) _
  have hx0 : ((w.alloc (.cells #[.int .i64 3, .string nm, .slice a na ca, .string tx, .int .i64 p, .slice ka nk kc] 36)).alloc (.cells #[.int .i64 3, .string nm, .slice a na ca, .string tx, .int .i64 p, .slice ka nk kc] 36)).heap[w.heap.size + 1]? = some (.cells #[.int .i64 3, .string nm, .slice a na ca, .string tx, .int .i64 p, .slice ka nk kc] 36 (0, 0)) := by
    have := World.alloc_heap_new (w.alloc (.cells #[.int .i64 3, .string nm, .slice a na ca, .string tx, .int .i64 p, .slice ka nk kc] 36)) (.cells #[.int .i64 3, .string nm, .slice a na ca, .string tx, .int .i64 p, .slice ka nk kc] 36)
    rwa [World.size_alloc] at this
  have hy0 : ((w.alloc (.cells #[.int .i64 3, .string nm, .slice a na ca, .string tx, .int .i64 p, .slice ka nk kc] 36)).alloc (.cells #[.int .i64 3, .string nm, .slice a na ca, .string tx, .int .i64 p, .slice ka nk kc] 36)).heap[w.heap.size]? = some (.cells #[.int .i64 3, .string nm, .slice a na ca, .string tx, .int .i64 p, .slice ka nk kc] 36 (0, 0)) := by
    rw [Below.heap_alloc _ _ _ (by simp)]
    exact World.alloc_heap_new _ _
  have HX0 := (show Hid _ from hx0)
  have HY0 := (show Hid _ from hy0)
  have c1 := fun w => inameOk_any nm w (by omega)
  have c2 : ∀ w', Below w.heap.size w w' → Calls Tryz.prog 111 #[.slice a na ca] w' fun e w'' => e = .returned (.bool (attrsOk rs)) ∧ Below w'.heap.size w' w'' := fun w' hb => iattrsOk_any (hav.below hb) (by omega) hrr
  obtain ⟨u, eu⟩ : ∃ u, u = nameOk (bs nm) := ⟨_, rfl⟩
  obtain ⟨u2, eu2⟩ : ∃ u2, u2 = attrsOk rs := ⟨_, rfl⟩
  rw [← eu] at c1 ⊢
  rw [← eu2] at c2 ⊢
  have C1 := (show Hid _ from c1)
  have C2 := (show Hid _ from c2)
  clear c1 c2 eu eu2 hx0 hy0 hav hrr
  unfold empB
  go_enter Tryz.func59, Tryz.ntmps59
  go_wp2_with fail
  go_at_call 110
  refine (C1.out _).mono ?_
  rintro e w3 ⟨rfl, b3⟩
  have hx := (b3.block (w.heap.size + 1) (by simp)).trans HX0.out
  have hy := (b3.block w.heap.size (by simp; omega)).trans HY0.out
  have y2 : w3.cell? ⟨w.heap.size, 2, none⟩ = some (.slice a na ca) := by simp only [World.cell?, hy]; rfl
  replace b3 := b1.trans (b3.mono b1.size)
  have hlt := lt_of_block hx
  cases u
  · have HX := (show Hid _ from hx)
    have x0 : w3.cell? ⟨w.heap.size + 1, 0, none⟩ = some (.int .i64 3) := by simp only [World.cell?, hx]; rfl
    have f0 : w3.frozen? ⟨w.heap.size + 1, 0, none⟩ = false := by simp only [World.frozen?, hx]; rfl
    have x1 : w3.cell? ⟨w.heap.size + 1, 1, none⟩ = some (.string nm) := by simp only [World.cell?, hx]; rfl
    have f1 : w3.frozen? ⟨w.heap.size + 1, 1, none⟩ = false := by simp only [World.frozen?, hx]; rfl
    have x2 : w3.cell? ⟨w.heap.size + 1, 2, none⟩ = some (.slice a na ca) := by simp only [World.cell?, hx]; rfl
    have f2 : w3.frozen? ⟨w.heap.size + 1, 2, none⟩ = false := by simp only [World.frozen?, hx]; rfl
    have x3 : w3.cell? ⟨w.heap.size + 1, 3, none⟩ = some (.string tx) := by simp only [World.cell?, hx]; rfl
    have f3 : w3.frozen? ⟨w.heap.size + 1, 3, none⟩ = false := by simp only [World.frozen?, hx]; rfl
    have x4 : w3.cell? ⟨w.heap.size + 1, 4, none⟩ = some (.int .i64 p) := by simp only [World.cell?, hx]; rfl
    have f4 : w3.frozen? ⟨w.heap.size + 1, 4, none⟩ = false := by simp only [World.frozen?, hx]; rfl
    have x5 : w3.cell? ⟨w.heap.size + 1, 5, none⟩ = some (.slice ka nk kc) := by simp only [World.cell?, hx]; rfl
    have f5 : w3.frozen? ⟨w.heap.size + 1, 5, none⟩ = false := by simp only [World.frozen?, hx]; rfl
    clear hx hy HX0 HY0
    go_wp2
    all_goals (go_ret; exact ⟨ret_bool (by simp [*]), ((b3.setCell (Nat.le_succ _) _).setCell (Nat.le_succ _) _).setCell (Nat.le_succ _) _⟩)
  · have HX := (show Hid _ from hx)
    clear hx hy HX0 HY0
    go_wp2_with fail
    go_at_call 111
    refine (C2.out _ b3).mono ?_
    rintro e w4 ⟨rfl, b4⟩
    have hx := (b4.block (w.heap.size + 1) hlt).trans HX.out
    replace b4 := b3.trans (b4.mono b3.size)
    have x0 : w4.cell? ⟨w.heap.size + 1, 0, none⟩ = some (.int .i64 3) := by simp only [World.cell?, hx]; rfl
    have f0 : w4.frozen? ⟨w.heap.size + 1, 0, none⟩ = false := by simp only [World.frozen?, hx]; rfl
    have x1 : w4.cell? ⟨w.heap.size + 1, 1, none⟩ = some (.string nm) := by simp only [World.cell?, hx]; rfl
    have f1 : w4.frozen? ⟨w.heap.size + 1, 1, none⟩ = false := by simp only [World.frozen?, hx]; rfl
    have x2 : w4.cell? ⟨w.heap.size + 1, 2, none⟩ = some (.slice a na ca) := by simp only [World.cell?, hx]; rfl
    have f2 : w4.frozen? ⟨w.heap.size + 1, 2, none⟩ = false := by simp only [World.frozen?, hx]; rfl
    have x3 : w4.cell? ⟨w.heap.size + 1, 3, none⟩ = some (.string tx) := by simp only [World.cell?, hx]; rfl
    have f3 : w4.frozen? ⟨w.heap.size + 1, 3, none⟩ = false := by simp only [World.frozen?, hx]; rfl
    have x4 : w4.cell? ⟨w.heap.size + 1, 4, none⟩ = some (.int .i64 p) := by simp only [World.cell?, hx]; rfl
    have f4 : w4.frozen? ⟨w.heap.size + 1, 4, none⟩ = false := by simp only [World.frozen?, hx]; rfl
    have x5 : w4.cell? ⟨w.heap.size + 1, 5, none⟩ = some (.slice ka nk kc) := by simp only [World.cell?, hx]; rfl
    have f5 : w4.frozen? ⟨w.heap.size + 1, 5, none⟩ = false := by simp only [World.frozen?, hx]; rfl
    have hlt' := lt_of_block hx
    clear hx HX hlt b3
    cases u2 <;> go_wp2
    all_goals (go_ret; exact ⟨ret_bool (by simp [*]), ((b4.setCell (Nat.le_succ _) _).setCell (Nat.le_succ _) _).setCell (Nat.le_succ _) _⟩)

set_option maxHeartbeats 1000000 in
theorem inode_text0 {w : World} (nm tx : ByteArray) (p : Int) {a ka : Option Addr} {na ca nk kc : Nat} (hte : tx.toList = []) :
    Calls Tryz.prog 59 #[.agg #[.int .i64 4, .string nm, .slice a na ca, .string tx, .int .i64 p, .slice ka nk kc]] w fun e w' => e = .returned (.bool (false)) ∧ Below w.heap.size w w' := by
  go_enter Tryz.func59, Tryz.ntmps59
  go_wp2
  all_goals (go_ret; exact ⟨ret_bool (by simp), ((Below.refl _ _).alloc (Nat.le_refl _) _).alloc (by simp) _⟩)

set_option maxHeartbeats 1000000 in
theorem inode_text {w : World} (nm tx : ByteArray) (p : Int) {a ka : Option Addr} {na ca nk kc : Nat} (hnm : nm.size ≤ 1048576) (htx : tx.size ≤ 1048576) (hte : ¬ tx.toList = []) :
    Calls Tryz.prog 59 #[.agg #[.int .i64 4, .string nm, .slice a na ca, .string tx, .int .i64 p, .slice ka nk kc]] w fun e w' => e = .returned (.bool (utfOk (bs tx) && empB nm && decide (na = 0) && decide (nk = 0))) ∧ Below w.heap.size w w' := by
  have b1 : Below w.heap.size w ((w.alloc (.cells #[.int .i64 4, .string nm, .slice a na ca, .string tx, .int .i64 p, .slice ka nk kc] 36)).alloc (.cells #[.int .i64 4, .string nm, .slice a na ca, .string tx, .int .i64 p, .slice ka nk kc] 36)) := ((Below.refl _ _).alloc (Nat.le_refl _) _).alloc (by simp) _
  have hx0 : ((w.alloc (.cells #[.int .i64 4, .string nm, .slice a na ca, .string tx, .int .i64 p, .slice ka nk kc] 36)).alloc (.cells #[.int .i64 4, .string nm, .slice a na ca, .string tx, .int .i64 p, .slice ka nk kc] 36)).heap[w.heap.size + 1]? = some (.cells #[.int .i64 4, .string nm, .slice a na ca, .string tx, .int .i64 p, .slice ka nk kc] 36 (0, 0)) := by
    have := World.alloc_heap_new (w.alloc (.cells #[.int .i64 4, .string nm, .slice a na ca, .string tx, .int .i64 p, .slice ka nk kc] 36)) (.cells #[.int .i64 4, .string nm, .slice a na ca, .string tx, .int .i64 p, .slice ka nk kc] 36)
    rwa [World.size_alloc] at this
  have HX0 := (show Hid _ from hx0)
  have c1 := fun w => textOk_any tx w (by omega)
  obtain ⟨u, eu⟩ : ∃ u, u = utfOk (bs tx) := ⟨_, rfl⟩
  rw [← eu] at c1 ⊢
  have C1 := (show Hid _ from c1)
  clear c1 eu hx0
  unfold empB
  go_enter Tryz.func59, Tryz.ntmps59
  go_wp2_with fail
  go_at_call 112
  refine (C1.out _).mono ?_
  rintro e w3 ⟨rfl, b3⟩
  have hx := (b3.block (w.heap.size + 1) (by simp)).trans HX0.out
  have x0 : w3.cell? ⟨w.heap.size + 1, 0, none⟩ = some (.int .i64 4) := by simp only [World.cell?, hx]; rfl
  have f0 : w3.frozen? ⟨w.heap.size + 1, 0, none⟩ = false := by simp only [World.frozen?, hx]; rfl
  have x1 : w3.cell? ⟨w.heap.size + 1, 1, none⟩ = some (.string nm) := by simp only [World.cell?, hx]; rfl
  have f1 : w3.frozen? ⟨w.heap.size + 1, 1, none⟩ = false := by simp only [World.frozen?, hx]; rfl
  have x2 : w3.cell? ⟨w.heap.size + 1, 2, none⟩ = some (.slice a na ca) := by simp only [World.cell?, hx]; rfl
  have f2 : w3.frozen? ⟨w.heap.size + 1, 2, none⟩ = false := by simp only [World.frozen?, hx]; rfl
  have x3 : w3.cell? ⟨w.heap.size + 1, 3, none⟩ = some (.string tx) := by simp only [World.cell?, hx]; rfl
  have f3 : w3.frozen? ⟨w.heap.size + 1, 3, none⟩ = false := by simp only [World.frozen?, hx]; rfl
  have x4 : w3.cell? ⟨w.heap.size + 1, 4, none⟩ = some (.int .i64 p) := by simp only [World.cell?, hx]; rfl
  have f4 : w3.frozen? ⟨w.heap.size + 1, 4, none⟩ = false := by simp only [World.frozen?, hx]; rfl
  have x5 : w3.cell? ⟨w.heap.size + 1, 5, none⟩ = some (.slice ka nk kc) := by simp only [World.cell?, hx]; rfl
  have f5 : w3.frozen? ⟨w.heap.size + 1, 5, none⟩ = false := by simp only [World.frozen?, hx]; rfl
  replace b3 := b1.trans (b3.mono b1.size)
  have hlt := lt_of_block hx
  clear hx HX0
  cases u <;> go_wp2
  all_goals (go_ret; exact ⟨ret_bool (by first | (simp [*]; done) | simp [*, natb0]), b3.setCell (Nat.le_succ _) _⟩)

set_option maxHeartbeats 1000000 in
theorem inode_other {w : World} (nm tx : ByteArray) (p : Int) {a ka : Option Addr} {na ca nk kc : Nat} (k : Int) (h1 : k ≠ 1) (h2 : k ≠ 2) (h3 : k ≠ 3) (h4 : k ≠ 4) (h5 : k ≠ 5) :
    Calls Tryz.prog 59 #[.agg #[.int .i64 (k), .string nm, .slice a na ca, .string tx, .int .i64 p, .slice ka nk kc]] w fun e w' => e = .returned (.bool (false)) ∧ Below w.heap.size w w' := by
  go_enter Tryz.func59, Tryz.ntmps59
  go_wp2
  all_goals (go_ret; exact ⟨ret_bool (by simp), ((Below.refl _ _).alloc (Nat.le_refl _) _).alloc (by simp) _⟩)

/-- nodeOk, of every node. -/
theorem inodeOk_any {w : World} (k : Int) (nm tx : ByteArray) (p : Int) {a ka : Option Addr} {na ca nk kc : Nat} {rs : List (ByteArray × ByteArray)} (hav : Sv 2 w (.slice a na ca) (pairCells rs)) (hnm : nm.size ≤ 1048576) (htx : tx.size ≤ 1048576) (hrs : rs.length ≤ 1048576) (hrr : ∀ p ∈ rs, p.1.size ≤ 1099511627776 ∧ p.2.size ≤ 1099511627776) :
    Calls Tryz.prog 59 #[.agg #[.int .i64 k, .string nm, .slice a na ca, .string tx, .int .i64 p, .slice ka nk kc]] w fun e w' => e = .returned (.bool (nodeB k nm rs tx nk)) ∧ Below w.heap.size w w' := by
  obtain ⟨_, _, ev, _⟩ := hav.pair
  have hna : na = rs.length := by cases ev; rfl
  unfold nodeB
  by_cases h1 : k = 1
  · subst h1
    rw [if_pos rfl, ← hna]
    exact inode_page nm tx p
  rw [if_neg h1]
  by_cases h2 : k = 2
  · subst h2
    rw [if_pos rfl, ← hna]
    exact inode_doc nm tx p hnm htx
  rw [if_neg h2]
  by_cases h3 : k = 3
  · subst h3
    rw [if_pos rfl]
    exact inode_elem nm tx p hav hnm htx hrs hrr
  rw [if_neg h3]
  by_cases h4 : k = 4
  · subst h4
    rw [if_pos rfl, ← hna]
    by_cases hte : tx.toList = []
    · rw [show empB tx = true by simp [empB, hte]]
      exact inode_text0 nm tx p hte
    · rw [show empB tx = false by simp [empB, hte]]
      exact inode_text nm tx p hnm htx hte
  rw [if_neg h4]
  by_cases h5 : k = 5
  · subst h5
    rw [if_pos rfl, ← hna]
    exact inode_com nm tx p hnm htx
  rw [if_neg h5]
  exact inode_other nm tx p k h1 h2 h3 h4 h5
end Go.Proofs.YtogdbjafibejdaaGreat

/- Trees that are right, in plain words. No condition. -/
namespace Go.Proofs.YtogdbjafibejdaaGreat
open Go.RowKit
set_option maxRecDepth 100000
set_option linter.unusedVariables false

/-- Nothing of the node is too long. -/
structure NodeFit (n : PNode) : Prop where
  nm : n.name.size ≤ 1048576
  tx : n.text.size ≤ 1048576
  rs : n.attrs.length ≤ 1048576
  each : ∀ p ∈ n.attrs, p.1.size ≤ 1099511627776 ∧ p.2.size ≤ 1099511627776
  kl : n.kids.length ≤ 1048576
/-- Node number k is right, but for its links. -/
def goodB (n : PNode) (k : Nat) : Bool := (decide (n.kind = 1) == decide (k = 0)) && nodeB n.kind n.name n.attrs n.text n.kids.length
/-- A tree that is right, as the document has it. -/
structure TreeOkP (ns : List PNode) : Prop where
  one : 1 ≤ ns.length
  most : ns.length ≤ 500
  good : ∀ k (h : k < ns.length), goodB ns[k] k = true
  fit : KidsFit ns
  linked : ∀ i, i < ns.length → ∃ d, dep ns d i
end Go.Proofs.YtogdbjafibejdaaGreat

/- Nodes that the call itself made. No condition. -/
namespace Go.Proofs.YtogdbjafibejdaaGreat
open Go.RowKit
set_option maxRecDepth 100000
set_option linter.unusedVariables false

/-- The slice value v has the nodes 'ns'; its row and the lists of its nodes are the call's own, from block B on. -/
def OwnN (B : Nat) (w : World) (v : Value) (ns : List PNode) : Prop :=
  ∃ qs : List (PNode × (Value × Value)), qs.map (fun q => q.1) = ns ∧ w.ownsRow B 36 6 v ns.length (nodeCells qs) ∧
    ∀ q ∈ qs, w.ownsRow B 115 2 q.2.1 q.1.attrs.length (pairCells q.1.attrs) ∧ Own B 3 .i64 w q.2.2 q.1.kids

theorem sl_of_own' {B : Nat} {e : TypeId} {K : IntKind} {w : World} {v : Value} {xs : List Int} (h : Own B e K w v xs) : Sl K w v xs := h.sl
theorem OwnN.nodes {B : Nat} {w : World} {v : Value} {ns : List PNode} (h : OwnN B w v ns) : NodesAt w v ns := by
  obtain ⟨qs, h1, h2, h3⟩ := h
  exact ⟨qs, h1, sv_of_own h2, fun q hq => ⟨sv_of_own (h3 q hq).1, (h3 q hq).2.sl⟩⟩
theorem OwnN.below {B : Nat} {w w' : World} {v : Value} {ns : List PNode} (h : OwnN B w v ns) (hb : Below w.heap.size w w') : OwnN B w' v ns := by
  obtain ⟨qs, h1, h2, h3⟩ := h
  exact ⟨qs, h1, ownsRow_below h2 hb, fun q hq => ⟨ownsRow_below (h3 q hq).1 hb, (h3 q hq).2.below hb⟩⟩
theorem ownsRow_base {B B' : Nat} {e : TypeId} {size n : Nat} {w : World} {v : Value} {xs : List Value} (h : w.ownsRow B e size v n xs) (hB : B' ≤ B) : w.ownsRow B' e size v n xs := by
  obtain ⟨hl, hv | ⟨g, cap, cur, hv, hb, r⟩⟩ := h
  · exact ⟨hl, .inl hv⟩
  · exact ⟨hl, .inr ⟨g, cap, cur, hv, Nat.le_trans hB hb, r⟩⟩
theorem OwnN.base {B B' : Nat} {w : World} {v : Value} {ns : List PNode} (h : OwnN B w v ns) (hB : B' ≤ B) : OwnN B' w v ns := by
  obtain ⟨qs, h1, h2, h3⟩ := h
  exact ⟨qs, h1, ownsRow_base h2 hB, fun q hq => ⟨ownsRow_base (h3 q hq).1 hB, (h3 q hq).2.base hB⟩⟩
theorem ownN_nil (B : Nat) (w : World) : OwnN B w (.slice none 0 0) [] := ⟨[], rfl, ⟨rfl, .inl ⟨rfl, rfl⟩⟩, fun q hq => by cases hq⟩
/-- A row of one kind is kept where a block of another kind is turned. -/
theorem kept_of_type {B e size n : Nat} {w w' : World} {v : Value} {xs : List Value} {row : Option Nat} (h : w.ownsRow B e size v n xs) (hg : w.grownBy w' row) (hr : ∀ r, row = some r → ∃ cs t fr, w.heap[r]? = some (.cells cs t fr) ∧ t ≠ e) : w'.ownsRow B e size v n xs := by
  refine h.kept hg ?_
  rcases h.2 with ⟨rfl, _⟩ | ⟨g, cap, cur, rfl, _, hh, _⟩
  · exact .inl rfl
  · refine .inr fun er => ?_
    obtain ⟨cs, t, fr, h1, h2⟩ := hr g er.symm
    rw [hh] at h1
    cases h1
    exact h2 rfl
/-- Where the row of nodes alone is turned, the lists stay. -/
theorem lists_kept {B : Nat} {w w' : World} {v : Value} {n : Nat} {xs : List Value} (hv : w.ownsRow B 36 6 v n xs) (hg : w.grownBy w' v.ownBlock) {q : PNode × (Value × Value)}
    (h : w.ownsRow B 115 2 q.2.1 q.1.attrs.length (pairCells q.1.attrs) ∧ Own B 3 .i64 w q.2.2 q.1.kids) : w'.ownsRow B 115 2 q.2.1 q.1.attrs.length (pairCells q.1.attrs) ∧ Own B 3 .i64 w' q.2.2 q.1.kids := by
  have key : ∀ r, v.ownBlock = some r → ∃ cs fr, w.heap[r]? = some (.cells cs 36 fr) := fun r hr => by
    rcases hv.2 with ⟨rfl, _⟩ | ⟨g, cap, cur, rfl, _, hh, _⟩
    · cases hr
    · cases hr; exact ⟨_, _, hh⟩
  exact ⟨kept_of_type h.1 hg (fun r hr => by obtain ⟨cs, fr, h1⟩ := key r hr; exact ⟨cs, _, fr, h1, by decide⟩), kept_of_type h.2 hg (fun r hr => by obtain ⟨cs, fr, h1⟩ := key r hr; exact ⟨cs, _, fr, h1, by decide⟩)⟩
theorem nodeCells_app (qs rs : List (PNode × (Value × Value))) : nodeCells (qs ++ rs) = nodeCells qs ++ nodeCells rs := by simp [nodeCells]
theorem node_oneCell {B : Nat} {w : World} {q : PNode × (Value × Value)} (h : w.ownsRow B 115 2 q.2.1 q.1.attrs.length (pairCells q.1.attrs) ∧ Own B 3 .i64 w q.2.2 q.1.kids) : ∀ y ∈ nodeRow q.1 q.2, y.oneCell' = true := by
  have one : ∀ {e size n : Nat} {xs : List Value} {u : Value}, w.ownsRow B e size u n xs → u.oneCell' = true := fun h => by
    rcases h.2 with ⟨rfl, _⟩ | ⟨g, cap, cur, rfl, _⟩ <;> rfl
  intro y hy
  simp only [nodeRow, List.mem_cons, List.not_mem_nil, or_false] at hy
  rcases hy with rfl | rfl | rfl | rfl | rfl | rfl
  · rfl
  · rfl
  · exact one h.1
  · rfl
  · rfl
  · exact one h.2
/-- A node more at the end. -/
theorem OwnN.snoc {B : Nat} {w w' : World} {v v' : Value} {qs : List (PNode × (Value × Value))} {q : PNode × (Value × Value)} (h2 : w.ownsRow B 36 6 v qs.length (nodeCells qs))
    (h3 : ∀ q ∈ qs, w.ownsRow B 115 2 q.2.1 q.1.attrs.length (pairCells q.1.attrs) ∧ Own B 3 .i64 w q.2.2 q.1.kids) (hq : w.ownsRow B 115 2 q.2.1 q.1.attrs.length (pairCells q.1.attrs) ∧ Own B 3 .i64 w q.2.2 q.1.kids)
    (ho : w'.ownsRow B 36 6 v' (qs.length + 1) (nodeCells qs ++ nodeRow q.1 q.2)) (hg : w.grownBy w' v.ownBlock) : OwnN B w' v' (qs.map (fun q => q.1) ++ [q.1]) := by
  refine ⟨qs ++ [q], by simp, ?_, fun p hp => ?_⟩
  · rw [nodeCells_app]; simpa [nodeCells] using ho
  · rcases List.mem_append.mp hp with hp | hp
    · exact lists_kept h2 hg (h3 p hp)
    · simp at hp; subst hp; exact lists_kept h2 hg hq
/-- Nodes are kept where a block of another kind than their rows is turned. -/
theorem OwnN.kept {B : Nat} {w w' : World} {v : Value} {ns : List PNode} {row : Option Nat} (h : OwnN B w v ns) (hg : w.grownBy w' row)
    (hr : ∀ r, row = some r → ∃ cs t fr, w.heap[r]? = some (.cells cs t fr) ∧ t ≠ 36 ∧ t ≠ 115 ∧ t ≠ 3) : OwnN B w' v ns := by
  obtain ⟨qs, h1, h2, h3⟩ := h
  exact ⟨qs, h1, kept_of_type h2 hg (fun r e => by obtain ⟨a, b, c, d, e1, e2, e3⟩ := hr r e; exact ⟨a, b, c, d, e1⟩),
    fun q hq => ⟨kept_of_type (h3 q hq).1 hg (fun r e => by obtain ⟨a, b, c, d, e1, e2, e3⟩ := hr r e; exact ⟨a, b, c, d, e2⟩), kept_of_type (h3 q hq).2 hg (fun r e => by obtain ⟨a, b, c, d, e1, e2, e3⟩ := hr r e; exact ⟨a, b, c, d, e3⟩)⟩⟩
/-- A row of one node, just made. -/
theorem sv_oneNode {w : World} {g : Nat} {q : PNode × (Value × Value)} {t : TypeId} (h : w.heap[g]? = some (.cells (nodeRow q.1 q.2).toArray t (0, 0))) : Sv 6 w (.slice (some ⟨g, 0, none⟩) 1 1) (nodeRow q.1 q.2) := by
  refine ⟨_, 1, 1, rfl, rfl, Nat.le_refl _, by decide, (fun e => by cases e), fun i hi => ⟨g, 0, rfl, ?_⟩⟩
  simp only [World.cell?, h, Nat.zero_add]
  simp [List.getD_eq_getElem?_getD, hi]
end Go.Proofs.YtogdbjafibejdaaGreat

/- The specification's l6Copy. No condition. -/
namespace Go.Proofs.YtogdbjafibejdaaGreat
open Go.RowKit
set_option maxRecDepth 100000
set_option linter.unusedVariables false

/-- A block is kept where a block of another kind is turned. -/
theorem blk_type {k : Nat} {cs : Array Value} {t : TypeId} {fr : Nat × Nat} {W W' : World} {row : Option Nat} (h : W.heap[k]? = some (.cells cs t fr)) (hg : W.grownBy W' row) (hr : ∀ r, row = some r → ∃ cs' t' fr', W.heap[r]? = some (.cells cs' t' fr') ∧ t' ≠ t) : W'.heap[k]? = some (.cells cs t fr) := by
  rw [hg.block k (blk_lt h) (fun e => by
    obtain ⟨cs', t', fr', h1, h2⟩ := hr k e.symm
    rw [h] at h1; cases h1; exact h2 rfl)]
  exact h
theorem row_type {B e size n : Nat} {w : World} {v : Value} {xs : List Value} (h : w.ownsRow B e size v n xs) {t : TypeId} (ht : e ≠ t) : ∀ r, v.ownBlock = some r → ∃ cs' t' fr', w.heap[r]? = some (.cells cs' t' fr') ∧ t' ≠ t := fun r hr => by
  rcases h.2 with ⟨rfl, _⟩ | ⟨g, cap, cur, rfl, _, hh, _⟩
  · cases hr
  · cases hr; exact ⟨_, _, _, hh, ht⟩

theorem own_slice {B e size n : Nat} {w : World} {v : Value} {xs : List Value} (h : w.ownsRow B e size v n xs) : ∃ a m c, v = .slice a m c := by
  rcases h.2 with ⟨rfl, _⟩ | ⟨g, cap, cur, rfl, _⟩
  · exact ⟨_, _, _, rfl⟩
  · exact ⟨_, _, _, rfl⟩

theorem Tryz.infoAttrRow : (Tryz.prog.info? 115).map (fun i => (i.zero, i.size, i.bytes)) = some (some (.agg #[.string ⟨#[]⟩, .string ⟨#[]⟩]), 2, 32) := by kernel_rfl
theorem Tryz.infoIntRow : (Tryz.prog.info? 3).map (fun i => (i.zero, i.size, i.bytes)) = some (some (.int .i64 0), 1, 8) := by kernel_rfl
theorem Tryz.infoNodeRow : (Tryz.prog.info? 36).map (fun i => (i.zero, i.size, i.bytes)) = some (some (.agg #[.int .i64 0, .string ⟨#[]⟩, .slice none 0 0, .string ⟨#[]⟩, .int .i64 0, .slice none 0 0]), 6, 96) := by kernel_rfl

/-- While the nodes are copied: k of them are. -/
structure CopyW (w : World) (v : Value) (ns : List PNode) (k : Nat) (vo : Value) (W : World) : Prop where
  bT : W.heap[w.heap.size]? = some (.cells #[v] 26 (0, 0))
  bR : W.heap[w.heap.size + 1]? = some (.cells #[.slice none 0 0] 26 (0, 0))
  bO : W.heap[w.heap.size + 1 + 1]? = some (.cells #[vo] 26 (0, 0))
  own : OwnN w.heap.size W vo (ns.take k)
  bel : Below w.heap.size w W

set_option maxHeartbeats 1000000 in
theorem scopy_any {w : World} {v : Value} {ns : List PNode} (hn : NodesAt w v ns) (hfit : ∀ n ∈ ns, NodeFit n) (hlen : ns.length ≤ 1048576) :
    Calls Tryz.prog 55 #[.agg #[v]] w fun e w' => ∃ v', e = .returned (.agg #[v']) ∧ OwnN w.heap.size w' v' ns ∧ Below w.heap.size w w' := by
  have HFIT := (show Hid (∀ n ∈ ns, NodeFit n) from hfit)
  have HN := (show Hid (NodesAt w v ns) from hn)
  obtain ⟨a, cap, rfl, hc1, hc2, hcs⟩ := hn.slice
  have HCS := (show Hid _ from hcs)
  clear hcs hn hfit
  obtain ⟨ia, hia, hza0, hza1, hza2⟩ := info_parts Tryz.infoAttrRow
  obtain ⟨ii, hii, hzi0, hzi1, hzi2⟩ := info_parts Tryz.infoIntRow
  obtain ⟨iN, hiN, hzN0, hzN1, hzN2⟩ := info_parts Tryz.infoNodeRow
  obtain ⟨w3, hw3⟩ : ∃ w3, w3 = ((w.alloc (.cells #[.slice a ns.length cap] 26)).alloc (.cells #[.slice none 0 0] 26)).alloc (.cells #[.slice none 0 0] 26) := ⟨_, rfl⟩
  have b3 : Below w.heap.size w w3 := by rw [hw3]; exact (((Below.refl _ w).alloc (Nat.le_refl _) _).alloc (by simp) _).alloc (by simp; omega) _
  have HS : Hid (CopyW w (.slice a ns.length cap) ns 0 (.slice none 0 0) w3) := by
    refine ⟨?_, ?_, ?_, by simpa using ownN_nil _ _, b3⟩
    · rw [hw3, Below.heap_alloc _ _ _ (by simp; omega), Below.heap_alloc _ _ _ (by simp)]
      exact World.alloc_heap_new _ _
    · rw [hw3, Below.heap_alloc _ _ _ (by simp)]
      have := World.alloc_heap_new (w.alloc (.cells #[.slice a ns.length cap] 26)) (.cells #[.slice none 0 0] 26)
      rwa [World.size_alloc] at this
    · rw [hw3]
      have := World.alloc_heap_new ((w.alloc (.cells #[.slice a ns.length cap] 26)).alloc (.cells #[.slice none 0 0] 26)) (.cells #[.slice none 0 0] 26)
      rwa [World.size_alloc, World.size_alloc] at this
  clear b3
  go_enter Tryz.func55, Tryz.ntmps55
  go_wp2
  rw [← hw3]
  clear hw3
  go_loopw [4] (fun i wr => ∃ (k : Nat) (vo : Value), k ≤ ns.length ∧ i = .int .i64 k ∧ CopyW w (.slice a ns.length cap) ns k vo wr) (fun i _ => ns.length - (intOf i).toNat)
  case atStart => exact ⟨0, _, Nat.zero_le _, rfl, HS.out⟩
  case round =>
    clear HS
    obtain ⟨k, vo, hk, rfl, hW⟩ := hrel
    have HW := (show Hid (CopyW w (.slice a ns.length cap) ns k vo wr) from hW)
    have hb := hW.bel
    have cT : wr.cell? ⟨w.heap.size, 0, none⟩ = some (.slice a ns.length cap) := by simp only [World.cell?, hW.bT]; rfl
    have cO : wr.cell? ⟨w.heap.size + 1 + 1, 0, none⟩ = some vo := by simp only [World.cell?, hW.bO]; rfl
    have hsz := blk_lt hW.bO
    clear hW
    by_cases hlt : k < ns.length
    · obtain ⟨b, off, av, kv, rfl, hblt, c0, c1, c2, c3, c4, c5, hav, hkv⟩ := HCS.out k hlt
      replace c0 := (hb.cell (p := ⟨b, off + k * 6, none⟩) hblt).trans c0
      replace c1 := (hb.cell (p := ⟨b, off + k * 6 + 1, none⟩) hblt).trans c1
      replace c2 := (hb.cell (p := ⟨b, off + k * 6 + 2, none⟩) hblt).trans c2
      replace c3 := (hb.cell (p := ⟨b, off + k * 6 + 3, none⟩) hblt).trans c3
      replace c4 := (hb.cell (p := ⟨b, off + k * 6 + 4, none⟩) hblt).trans c4
      replace c5 := (hb.cell (p := ⟨b, off + k * 6 + 5, none⟩) hblt).trans c5
      have hnf := HFIT.out ns[k] (List.getElem_mem hlt)
      have HAV := (show Hid (Sv 2 wr av (pairCells ns[k].attrs)) from hav.below hb)
      have HKV := (show Hid (Sl .i64 wr kv ns[k].kids) from hkv.below hb)
      obtain ⟨av1, av2, av3, rfl, _⟩ := hav
      obtain ⟨kv1, kv3, rfl, _⟩ := hkv
      have HTK : Hid (ns.take (k + 1) = ns.take k ++ [ns[k]]) := take_snoc ns hlt
      obtain ⟨nd, hnd⟩ : ∃ nd, nd = ns[k] := ⟨_, rfl⟩
      rw [← hnd] at c0 c1 c3 c4 c5 hnf HAV HKV HTK
      obtain ⟨k0, k1, rs, k3, k4, ks⟩ := nd
      have hrs := hnf.rs
      have hkl := hnf.kl
      simp only at c0 c1 c3 c4 c5 HAV HKV hrs hkl
      clear hnd hnf
      have o1 : ((wr.alloc (.cells #[.int .i64 k0, .string k1, .slice av1 av2 av3, .string k3, .int .i64 k4, .slice kv1 ks.length kv3] 36)).alloc (.cells #[] 115)).ownsRow w.heap.size 115 2 (.slice (some ⟨wr.heap.size + 1, 0, none⟩) 0 0) 0 [] := by
        have := empty_row (wr.alloc (.cells #[.int .i64 k0, .string k1, .slice av1 av2 av3, .string k3, .int .i64 k4, .slice kv1 ks.length kv3] 36)) w.heap.size 115 2 (by have := hb.size; simp; omega)
        rwa [World.size_alloc] at this
      have b1 : Below wr.heap.size wr ((wr.alloc (.cells #[.int .i64 k0, .string k1, .slice av1 av2 av3, .string k3, .int .i64 k4, .slice kv1 ks.length kv3] 36)).alloc (.cells #[] 115)) := ((Below.refl _ _).alloc (Nat.le_refl _) _).alloc (by simp) _
      have x1 : ((wr.alloc (.cells #[.int .i64 k0, .string k1, .slice av1 av2 av3, .string k3, .int .i64 k4, .slice kv1 ks.length kv3] 36)).alloc (.cells #[] 115)).heap[wr.heap.size]? = some (.cells #[.int .i64 k0, .string k1, .slice av1 av2 av3, .string k3, .int .i64 k4, .slice kv1 ks.length kv3] 36 (0, 0)) := by
        rw [Below.heap_alloc _ _ _ (by simp)]
        exact World.alloc_heap_new _ _
      have hav1 := HAV.out.below b1
      have HB1 := (show Hid _ from b1)
      have HX1 := (show Hid _ from x1)
      clear b1 x1
      have HOW := (show Hid (OwnN w.heap.size wr vo (ns.take k)) from HW.out.own)
      obtain ⟨qs, hq1, hq2, hq3⟩ := HOW.out
      have hql : qs.length = k := by have := congrArg List.length hq1; simp at this; omega
      have HQ1 := (show Hid (qs.map (fun q => q.1) = ns.take k) from hq1)
      have HQ2 := (show Hid _ from hq2)
      have HQ3 := (show Hid _ from hq3)
      obtain ⟨ao, no, co, rfl⟩ := own_slice hq2
      clear hq1 hq2 hq3 HOW
      have bW := hb.size
      go_wp2_with (first
        | (at_builtin
           refine wpList_appV _ rfl (.tmp 19) (.tmp 21) 33 rfl w.heap.size 115 ia _ 2 32 Tryz.underlying33 hia hza0 hza1 hza2 rfl (by decide) (.slice (some ⟨wr.heap.size + 1, 0, none⟩) 0 0) (.slice av1 av2 av3) 0 rs.length _ (pairCells rs) rfl rfl o1 hav1 (pairCells_len _) (pair_oneCell _) (by omega) (by unfold maxLen; omega) (by simp; omega) ?_
           intro v4 w4 o4 g4
           rw [List.nil_append, Nat.zero_add] at o4
           have b4 : Below wr.heap.size wr w4 := HB1.out.grown g4 (by simp; omega) (fun r e => by cases e; exact Nat.le_succ _)
           have x4 : w4.heap[wr.heap.size]? = some (.cells #[.int .i64 k0, .string k1, .slice av1 av2 av3, .string k3, .int .i64 k4, .slice kv1 ks.length kv3] 36 (0, 0)) := (g4.block _ (by simp; omega) (by simp [Value.ownBlock])).trans HX1.out
           have y5 : w4.cell? ⟨wr.heap.size, 5, none⟩ = some (.slice kv1 ks.length kv3) := by simp only [World.cell?, x4]; rfl
           have y2 : w4.cell? ⟨wr.heap.size, 2, none⟩ = some (.slice av1 av2 av3) := by simp only [World.cell?, x4]; rfl
           have z2 : w4.frozen? ⟨wr.heap.size, 2, none⟩ = false := by simp [World.frozen?, x4]
           have hlt4 := blk_lt x4
           obtain ⟨a4, n4, d4, rfl⟩ := own_slice o4
           have HX4 := (show Hid _ from x4)
           have HB4 := (show Hid (Below wr.heap.size wr w4) from b4)
           have HO4 := (show Hid _ from o4)
           have g5 : w4.grownBy ((w4.setCell ⟨wr.heap.size, 2, none⟩ (.slice a4 n4 d4)).alloc (.cells #[] 3)) (some wr.heap.size) := grown_trans (grown_setCell _ _ _ _) (World.grownBy_alloc _ _ _)
           have o5 : Own w.heap.size 3 .i64 ((w4.setCell ⟨wr.heap.size, 2, none⟩ (.slice a4 n4 d4)).alloc (.cells #[] 3)) (.slice (some ⟨w4.heap.size, 0, none⟩) 0 0) [] := by
             have := empty_row (w4.setCell ⟨wr.heap.size, 2, none⟩ (.slice a4 n4 d4)) w.heap.size 3 1 (by simp [World.setCell]; omega)
             rwa [show (w4.setCell ⟨wr.heap.size, 2, none⟩ (.slice a4 n4 d4)).heap.size = w4.heap.size by simp [World.setCell]] at this
           have b5 : Below wr.heap.size wr ((w4.setCell ⟨wr.heap.size, 2, none⟩ (.slice a4 n4 d4)).alloc (.cells #[] 3)) := b4.grown g5 (by omega) (fun r e => by cases e; exact Nat.le_refl _)
           have x5 : ((w4.setCell ⟨wr.heap.size, 2, none⟩ (.slice a4 n4 d4)).alloc (.cells #[] 3)).heap[wr.heap.size]? = some (.cells #[.int .i64 k0, .string k1, .slice a4 n4 d4, .string k3, .int .i64 k4, .slice kv1 ks.length kv3] 36 (0, 0)) := by
             rw [Below.heap_alloc _ _ _ (by simp [World.setCell]; omega)]
             exact setCell_at x4
           have hkv5 := HKV.out.below b5
           have HX5 := (show Hid _ from x5)
           have HB5 := (show Hid _ from b5)
           have HG5 := (show Hid _ from g5)
           clear x4 x5 b4 b5 g5 o4 g4 o1 hav1 c0 c1 c2 c3 c4 c5 HX1 HB1)
        | (at_builtin
           refine wpList_app _ rfl (.tmp 24) (.tmp 26) 34 rfl w.heap.size 3 ii (.int .i64 0) 8 Tryz.underlying34 hii hzi0 hzi1 hzi2 rfl .i64 (.slice (some ⟨w4.heap.size, 0, none⟩) 0 0) (.slice kv1 ks.length kv3) [] ks rfl rfl o5 hkv5 (by simp; omega) (by unfold maxLen; simp; omega) (by simp [World.setCell]; omega) ?_
           intro v6 w6 o6 g6
           rw [List.nil_append] at o6
           obtain ⟨a6, n6, d6, rfl⟩ := own_slice o6
           have g46 : w4.grownBy w6 (some wr.heap.size) := ⟨g6.os.trans HG5.out.os, g6.tape.trans HG5.out.tape, g6.output.trans HG5.out.output, Nat.le_trans HG5.out.size g6.size, fun r hr hne => (g6.block r (Nat.lt_of_lt_of_le hr HG5.out.size) (fun e => by cases e; exact Nat.lt_irrefl _ hr)).trans (HG5.out.block r hr hne)⟩
           have b6 : Below wr.heap.size wr w6 := HB5.out.grown g6 (by have := HG5.out.size; omega) (fun r e => by cases e; exact Nat.le_of_lt hlt4)
           have x6 : w6.heap[wr.heap.size]? = some (.cells #[.int .i64 k0, .string k1, .slice a4 n4 d4, .string k3, .int .i64 k4, .slice kv1 ks.length kv3] 36 (0, 0)) := (g6.block _ (blk_lt HX5.out) (fun e => by simp only [Value.ownBlock, Option.some.injEq] at e; omega)).trans HX5.out
           have o46 := kept_of_type HO4.out g46 (fun r e => by cases e; exact ⟨_, _, _, HX4.out, by decide⟩)
           have y0 : w6.cell? ⟨wr.heap.size, 0, none⟩ = some (.int .i64 k0) := by simp only [World.cell?, x6]; rfl
           have y1 : w6.cell? ⟨wr.heap.size, 1, none⟩ = some (.string k1) := by simp only [World.cell?, x6]; rfl
           have y2 : w6.cell? ⟨wr.heap.size, 2, none⟩ = some (.slice a4 n4 d4) := by simp only [World.cell?, x6]; rfl
           have y3 : w6.cell? ⟨wr.heap.size, 3, none⟩ = some (.string k3) := by simp only [World.cell?, x6]; rfl
           have y4 : w6.cell? ⟨wr.heap.size, 4, none⟩ = some (.int .i64 k4) := by simp only [World.cell?, x6]; rfl
           have y5 : w6.cell? ⟨wr.heap.size, 5, none⟩ = some (.slice kv1 ks.length kv3) := by simp only [World.cell?, x6]; rfl
           have z5 : w6.frozen? ⟨wr.heap.size, 5, none⟩ = false := by simp [World.frozen?, x6]
           have hlt6 := blk_lt x6
           have cO6 : w6.cell? ⟨w.heap.size + 1 + 1, 0, none⟩ = some (.slice ao no co) := (b6.cell (p := ⟨w.heap.size + 1 + 1, 0, none⟩) hsz).trans cO
           have hne6 : wr.heap.size ≠ w.heap.size + 1 + 1 := by omega
           have g8 : w6.grownBy ((w6.setCell ⟨wr.heap.size, 5, none⟩ (.slice a6 n6 d6)).alloc (.cells #[.int .i64 k0, .string k1, .slice a4 n4 d4, .string k3, .int .i64 k4, .slice a6 n6 d6] 36)) (some wr.heap.size) := grown_trans (grown_setCell _ _ _ _) (World.grownBy_alloc _ _ _)
           have b8 : Below wr.heap.size wr ((w6.setCell ⟨wr.heap.size, 5, none⟩ (.slice a6 n6 d6)).alloc (.cells #[.int .i64 k0, .string k1, .slice a4 n4 d4, .string k3, .int .i64 k4, .slice a6 n6 d6] 36)) := b6.grown g8 (by omega) (fun r e => by cases e; exact Nat.le_refl _)
           have x8 : ((w6.setCell ⟨wr.heap.size, 5, none⟩ (.slice a6 n6 d6)).alloc (.cells #[.int .i64 k0, .string k1, .slice a4 n4 d4, .string k3, .int .i64 k4, .slice a6 n6 d6] 36)).heap[w6.heap.size]? = some (.cells #[.int .i64 k0, .string k1, .slice a4 n4 d4, .string k3, .int .i64 k4, .slice a6 n6 d6] 36 (0, 0)) := by
             have := World.alloc_heap_new (w6.setCell ⟨wr.heap.size, 5, none⟩ (.slice a6 n6 d6)) (.cells #[.int .i64 k0, .string k1, .slice a4 n4 d4, .string k3, .int .i64 k4, .slice a6 n6 d6] 36)
             rwa [show (w6.setCell ⟨wr.heap.size, 5, none⟩ (.slice a6 n6 d6)).heap.size = w6.heap.size by simp [World.setCell]] at this
           have o48 := kept_of_type o46 g8 (fun r e => by cases e; exact ⟨_, _, _, x6, by decide⟩)
           have o68 : Own w.heap.size 3 .i64 _ _ ks := kept_of_type o6 g8 (fun r e => by cases e; exact ⟨_, _, _, x6, by decide⟩)
           have sv8 := sv_oneNode (q := ((⟨k0, k1, rs, k3, k4, ks⟩, (.slice a4 n4 d4, .slice a6 n6 d6)) : PNode × (Value × Value))) x8
           have hrow8 := ownsRow_below HQ2.out b8
           rw [show (ns.take k).length = k by simp; omega] at hrow8
           have one8 := node_oneCell (q := ((⟨k0, k1, rs, k3, k4, ks⟩, (.slice a4 n4 d4, .slice a6 n6 d6)) : PNode × (Value × Value))) ⟨o48, o68⟩
           have HQQ := (show Hid (_ ∧ _) from ⟨o48, o68⟩)
           have HB8 := (show Hid _ from b8)
           clear o6 g6 g46 b6 x6 o46 g8 b8 x8 o48 o68 HX4 HO4 HX5 HB5 HG5 o5 hkv5)
        | (at_builtin
           refine wpList_appV _ rfl (.tmp 30) (.tmp 32) 24 rfl w.heap.size 36 iN _ 6 96 Tryz.underlying24 hiN hzN0 hzN1 hzN2 rfl (by decide) (.slice ao no co) (.slice (some ⟨w6.heap.size, 0, none⟩) 1 1) k 1 (nodeCells qs) _ rfl rfl hrow8 sv8 rfl one8 (by omega) (by unfold maxLen; omega) (by simp [World.setCell]; omega) ?_
           intro v9 w9 o9 g9
           obtain ⟨a9, n9, d9, rfl⟩ := own_slice o9
           have own9 := OwnN.snoc (q := ((⟨k0, k1, rs, k3, k4, ks⟩, (.slice a4 n4 d4, .slice a6 n6 d6)) : PNode × (Value × Value))) (by rw [hql]; exact hrow8) (fun q hq => ⟨ownsRow_below (HQ3.out q hq).1 HB8.out, (HQ3.out q hq).2.below HB8.out⟩) HQQ.out (by rw [hql]; exact o9) g9
           rw [HQ1.out] at own9
           have t9 := blk_type ((HB8.out.block _ (by omega)).trans HW.out.bT) g9 (row_type hrow8 (by decide))
           have r9 := blk_type ((HB8.out.block _ (by omega)).trans HW.out.bR) g9 (row_type hrow8 (by decide))
           have q9 := blk_type ((HB8.out.block _ (by omega)).trans HW.out.bO) g9 (row_type hrow8 (by decide))
           have cO9 : w9.cell? ⟨w.heap.size + 1 + 1, 0, none⟩ = some (.slice ao no co) := by simp only [World.cell?, q9]; rfl
           have fO9 : w9.frozen? ⟨w.heap.size + 1 + 1, 0, none⟩ = false := by simp [World.frozen?, q9]
           have b9 : Below w.heap.size w w9 := by
             have b08 := hb.trans (HB8.out.mono hb.size)
             refine b08.grown g9 b08.size (fun r e => ?_)
             have := hrow8.lt r e
             exact this.1
           have H9 := (show Hid (_ ∧ _ ∧ _ ∧ _ ∧ _) from ⟨own9, t9, r9, q9, b9⟩)
           clear o9 g9 own9 t9 r9 q9 b9 hrow8 sv8 one8 HQQ HB8))
      have H9' := H9.out
      obtain ⟨own9, t9, r9, q9, b9⟩ := H9'
      have gs := setCell_at (k := 0) (u := .slice a9 n9 d9) q9
      go_roundw
      case rel =>
        refine ⟨k + 1, .slice a9 n9 d9, by omega, by go_num, ?_⟩
        refine ⟨?_, ?_, gs, ?_, b9.setCell (p := ⟨w.heap.size + 1 + 1, 0, none⟩) (by simp; omega) _⟩
        · exact (Below.heap_setCell w9 ⟨w.heap.size + 1 + 1, 0, none⟩ _ w.heap.size (by show w.heap.size ≠ w.heap.size + 1 + 1; omega)).trans t9
        · exact (Below.heap_setCell w9 ⟨w.heap.size + 1 + 1, 0, none⟩ _ (w.heap.size + 1) (by show w.heap.size + 1 ≠ w.heap.size + 1 + 1; omega)).trans r9
        · rw [HTK.out]
          exact own9.kept (grown_setCell _ _ _ _) (fun r e => by cases e; exact ⟨_, _, _, q9, by decide, by decide, by decide⟩)
      case measure => simp [intOf]; omega
    · have hke : k = ns.length := by omega
      have cR : wr.cell? ⟨w.heap.size + 1, 0, none⟩ = some (.slice none 0 0) := by simp only [World.cell?, HW.out.bR]; rfl
      have fR : wr.frozen? ⟨w.heap.size + 1, 0, none⟩ = false := by simp [World.frozen?, HW.out.bR]
      have own0 := HW.out.own
      rw [hke, List.take_length] at own0
      obtain ⟨ao, no, co, rfl⟩ : ∃ ao no co, vo = .slice ao no co := by obtain ⟨_, _, h, _⟩ := own0; exact own_slice h
      have HOW := (show Hid _ from own0)
      clear own0
      go_wp2
      have gs := setCell_at (k := 0) (u := .slice ao no co) HW.out.bR
      refine bodyPost_ret (results_cell_row rfl _ _ (w.heap.size + 1) 26 _ (0, 0) _ rfl gs Tryz.underlying26 rfl rfl) rfl ?_
      exact ⟨.slice ao no co, rfl, OwnN.kept HOW.out (grown_setCell _ _ _ _) (fun r e => by cases e; exact ⟨_, _, _, HW.out.bR, by decide, by decide, by decide⟩), hb.setCell (p := ⟨w.heap.size + 1, 0, none⟩) (by simp) _⟩
end Go.Proofs.YtogdbjafibejdaaGreat
