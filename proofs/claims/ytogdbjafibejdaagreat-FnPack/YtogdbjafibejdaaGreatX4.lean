/- A region that draws its order, and whose calls may make memory but write nothing that was there: one walk, in the order of the text. -/
import Derived.Test.YtogdbjafibejdaaGreatX0
import Derived.BigQuiet
import Derived.Test.YtogdbjafibejdaaGreatX2
namespace Go.Proofs.YtogdbjafibejdaaGreat
open Go.RowKit
set_option maxRecDepth 100000
set_option linter.unusedVariables false

def Wd (B : Nat) (w0 : World) : Type := { w : World // Below B w0 w }
def Wd.w {B : Nat} {w0 : World} (n : Wd B w0) : World := n.1
theorem Wd.below {B : Nat} {w0 : World} (n : Wd B w0) : Below B w0 n.w := n.2
theorem Wd.of {B : Nat} {w0 w : World} (h : ∃ n : Wd B w0, w = n.w) : Below B w0 w := by
  obtain ⟨n, rfl⟩ := h
  exact n.below
theorem Wd.any (B : Nat) (w0 : World) : Nonempty (Wd B w0) := ⟨⟨w0, Below.refl _ _⟩⟩

theorem wp_region_below {P : Program} {id : Nat} {Q : Exit → Act → World → Prop} {a : Act} {w w0 : World} {B : Nat} {l : List Oper} (hm : P.follows .mixedOrders = true) (hB : Region.lexB .any l.toArray = true)
    (hb : Below B w0 w) (h : wpQuiet P l.toArray (fun w' => ∃ n : Wd B w0, w' = n.w) (fun a' => ∀ w', (∃ n : Wd B w0, w' = n.w) → Q .normal a' w') l a) : (Code.region id l.toArray true).wp P Q a w :=
  wp_region_quiet (C := fun w' => ∃ n : Wd B w0, w' = n.w) hm hB ⟨⟨_, hb.trans (below_drewN 1)⟩, rfl⟩ (by simpa using h)

theorem quiet_below {P : Program} {f : FuncId} {args : Array Value} {B : Nat} {w0 : World} {n : Wd B w0} {v : Value}
    (h : Calls P f args n.w fun e w' => e = .returned v ∧ Below n.w.heap.size n.w w') (hB : B ≤ w0.heap.size) : Calls P f args n.w fun e w'' => e = .returned v ∧ ∃ m : Wd B w0, w'' = m.w :=
  h.mono fun _ _ ⟨he, hb⟩ => ⟨he, ⟨_, n.below.trans (hb.mono (Nat.le_trans hB n.below.size))⟩, rfl⟩
end Go.Proofs.YtogdbjafibejdaaGreat

/- A loop over an iterator whose own functions hold such loops: a law of our own, for bodies that always go on. No condition. -/
namespace Go.Proofs.YtogdbjafibejdaaGreat
open Go.RowKit
set_option maxRecDepth 100000
set_option linter.unusedVariables false

structure Kq (n0 n1 : Nat) (W W' : World) : Prop where
  os : W'.os = W.os
  tape : W'.tape = W.tape
  output : W'.output = W.output
  size : W.heap.size ≤ W'.heap.size
  same : ∀ (k : Nat) (o : Obj), W.heap[k]? = some o → (k < n0 ∨ n1 ≤ k ∨ o.isCells = false) → W'.heap[k]? = some o
theorem Kq.refl (n0 n1 : Nat) (W : World) : Kq n0 n1 W W := ⟨rfl, rfl, rfl, Nat.le_refl _, fun _ _ h _ => h⟩
theorem Kq.trans {n0 n1 : Nat} {A B C : World} (h : Kq n0 n1 A B) (k : Kq n0 n1 B C) : Kq n0 n1 A C :=
  ⟨k.os.trans h.os, k.tape.trans h.tape, k.output.trans h.output, Nat.le_trans h.size k.size, fun i o hi ho => k.same i o (h.same i o hi ho) ho⟩
theorem Kq.below {n0 n1 : Nat} {A B : World} (h : Kq n0 n1 A B) (hn : n0 ≤ A.heap.size) : Below n0 A B :=
  ⟨h.os, h.tape, h.output, h.size, fun k hk => by
    have hlt : k < A.heap.size := by omega
    rw [h.same k A.heap[k] (by simp [hlt]) (.inl hk)]
    simp [hlt]⟩
theorem Kq.keeps {n0 n1 : Nat} {A B : World} (h : Kq n0 n1 A B) : KeepsOthers A B := ⟨h.size, fun k o hk ho => h.same k o hk (.inr (.inr ho))⟩
theorem Kq.of_below {n0 n1 : Nat} {A B : World} (h : Below A.heap.size A B) : Kq n0 n1 A B :=
  ⟨h.os, h.tape, h.output, h.size, fun k o hk _ => (h.block k (blk_lt hk)).trans hk⟩
theorem Kq.alloc (n0 n1 : Nat) (W : World) (o : Obj) : Kq n0 n1 W (W.alloc o) := Kq.of_below ((Below.refl _ W).alloc (Nat.le_refl _) _)
theorem Kq.own {n0 n1 B : Nat} {W0 W W' : World} {row : Option Nat} (h : Kq n0 n1 W0 W) (hB : W0.heap.size ≤ B) (hg : W.grownBy W' row) (hr : ∀ r, row = some r → B ≤ r ∧ ∃ o : Obj, W.heap[r]? = some o ∧ o.isCells = false) : Kq n0 n1 W0 W' :=
  ⟨hg.os.trans h.os, hg.tape.trans h.tape, hg.output.trans h.output, Nat.le_trans h.size hg.size, fun k o hk ho => blk_from (B := B) (h.same k o hk ho) (by have := blk_lt hk; omega) hg hr⟩

def FreeFrom {β : Type} (B : Nat) (J : β → World → Prop) : Prop := ∀ s W W' row, J s W → W.grownBy W' row → (∀ r, row = some r → B ≤ r) → J s W'
theorem FreeFrom.own {β : Type} {B : Nat} {J : β → World → Prop} (h : FreeFrom B J) {C : Nat} (hC : B ≤ C) : OwnFrom C J := fun s W W' row hs hg hr => h s W W' row hs hg (fun r e => Nat.le_trans hC (hr r e).1)
theorem blk_free {B : Nat} {k : Nat} {o : Obj} {W W' : World} {row : Option Nat} (h : W.heap[k]? = some o) (hk : k < B) (hg : W.grownBy W' row) (hr : ∀ r, row = some r → B ≤ r) : W'.heap[k]? = some o := by
  rw [hg.block k (blk_lt h) (fun e => by have := hr k e.symm; omega)]
  exact h
theorem below_free {n0 B : Nat} {w0 W W' : World} {row : Option Nat} (h : Below n0 w0 W) (h0 : n0 ≤ w0.heap.size) (hB : n0 ≤ B) (hg : W.grownBy W' row) (hr : ∀ r, row = some r → B ≤ r) : Below n0 w0 W' :=
  h.grown hg (by have := h.size; omega) (fun r e => by have := hr r e; omega)

def SeqTells (P : Program) (g : Nat) (lb : Array Value) (n0 : Nat) (all : List Int) (w : World) : Prop :=
  ∀ (n l n1 : Nat) (J : List Int → World → Prop) (W : World), Below w.heap.size w W → n1 ≤ W.heap.size → FreeFrom n1 J →
    (∀ m pre x W1, J pre W1 → YieldAt Fence.wide m P l #[.int .i64 x] W1 fun e W' => e = .returned (.bool true) ∧ J (pre ++ [x]) W' ∧ Kq n0 n1 W1 W') →
    J [] W → CallsIn Fence.wide n P g (#[.func (.yield l) #[] #[]] ++ lb) W fun e W' => (∃ v, e = .returned v) ∧ J all W' ∧ Kq n0 n1 W W'

theorem wpIn_tells {P : Program} {n : Nat} {g : Operand} {p : Tmp} {assign body : Code} {Q : Exit → Act → World → Prop} {a : Act} {w w0 : World} {n0 : Nat} {all : List Int}
    {gf : Nat} {lb : Array Value} (hg : a.eval g = .func (.func gf) #[] lb) (eg : ∀ args w, (callFunc gf args).run P w = .ok (.enter gf args) w)
    (hseq : SeqTells P gf lb n0 all w0) (hb0 : Below w0.heap.size w0 w) (hn0 : n0 ≤ w.heap.size)
    (I : List Int → World → Prop) (hF : FreeFrom w.heap.size I) (h0 : I [] w) (a1 : Int → Act)
    (hassign : ∀ (l m : Nat) (x : Int) (W : World) (K : Act → World → Prop), K (a1 x) W → assign.wpIn (Fence.wide.inRound l) m P (Exit.then K (fun _ _ _ => False)) { tmps := a.tmps.setIfInBounds p (.int .i64 x), defers := [] } W)
    (hbody : ∀ (l m : Nat) (pre : List Int) (x : Int) (W : World), I pre W → body.wpIn (Fence.wide.inRound l) m P (fun e _ W' => e = .normal ∧ Kq n0 w.heap.size W W' ∧ I (pre ++ [x]) W') (a1 x) W)
    (hdone : ∀ (D : Nat) (W : World), w.heap.size ≤ D → I all W → Kq n0 w.heap.size w W → W.heap[D]? = some (.deferred (some [])) → Q .normal { a with defers := { target := .collected D, args := #[] } :: a.defers } W) :
    (Code.rangeFunc g #[p] assign body).wpIn Fence.wide n P Q a w := by
  have hI := hF.own (Nat.le_refl _)
  refine wpIn_rangeFunc fun fn hfn => ?_
  let rc : LoopState → Loop := fun st => { state := st, pending := none, fn, tmps := a.tmps, params := #[p], assign, body, defers := w.heap.size }
  have hW1 : Below w.heap.size w ((w.alloc (.deferred (some []))).alloc (.loop (rc .ready))) := ((Below.refl _ w).alloc (Nat.le_refl _) _).alloc (by simp) _
  have hl1 : ((w.alloc (.deferred (some []))).alloc (.loop (rc .ready))).heap[w.heap.size + 1]? = some (.loop (rc .ready)) := by
    have := World.alloc_heap_new (w.alloc (.deferred (some []))) (.loop (rc .ready)); rwa [World.size_alloc] at this
  have hd1 : ((w.alloc (.deferred (some []))).alloc (.loop (rc .ready))).heap[w.heap.size]? = some (.deferred (some [])) := (Below.heap_alloc _ _ _ (by simp)).trans (World.alloc_heap_new w _)
  refine ⟨w.heap.size + 1, [{ target := .collected w.heap.size, args := #[] }], ((w.alloc (.deferred (some []))).alloc (.loop (rc .ready))), { target := .fn (.func gf) lb, args := #[.func (.yield (w.heap.size + 1)) #[] #[]] }, ((w.alloc (.deferred (some []))).alloc (.loop (rc .ready))), gf, #[.func (.yield (w.heap.size + 1)) #[] #[]] ++ lb, ((w.alloc (.deferred (some []))).alloc (.loop (rc .ready))), run_enterLoop_outer _ _ _ _ _, ?_, fun _ _ => trivial, ?_, fun h => (by cases h), ?_⟩
  · simp only [resolve, hg]
    simp [go_sem]
  · simp [invoke, go_sem, eg]
  · have hJ : FreeFrom (w.heap.size + 2) (fun pre W => I pre W ∧ W.heap[w.heap.size + 1]? = some (.loop (rc .ready)) ∧ W.heap[w.heap.size]? = some (.deferred (some []))) := fun pre A B row hs hgr hr =>
      ⟨hF pre A B row hs.1 hgr (fun r e => by have := hr r e; omega), blk_free hs.2.1 (by omega) hgr hr, blk_free hs.2.2 (by omega) hgr hr⟩
    refine (hseq (n - 1) (w.heap.size + 1) (w.heap.size + 2) _ _ (hb0.trans (hW1.mono hb0.size)) (by simp) hJ ?_ ⟨hI.alloc _ (hI.alloc _ h0), hl1, hd1⟩).mono ?_
    · rintro m pre x W ⟨hi, hl, hd⟩
      have hy := run_yield (P := P) (args := #[Value.int .i64 x]) hl rfl
      have htm : ((rc .ready).params.zip #[Value.int .i64 x]).foldl (fun tmps (t, a) => tmps.setIfInBounds t a) (rc .ready).tmps = a.tmps.setIfInBounds p (.int .i64 x) := by simp [rc]
      rw [htm] at hy
      refine ⟨fn, _, assign, body, hy, roundIn_of_wpIn hfn (hassign _ _ x W _ ⟨_, run_beginRound hl rfl, ?_⟩)⟩
      have hlt := blk_lt hl
      have hl2 : (W.putObj (w.heap.size + 1) (.loop { rc .ready with state := .busy })).heap[w.heap.size + 1]? = some (.loop { rc .ready with state := .busy }) := World.putObj_heap_same hlt
      refine wpIn_mono (hbody _ _ pre x _ (hI.putObj _ hi (by omega) hl rfl)) ?_
      rintro e a3 W3 ⟨rfl, hk3, hi3⟩
      have hl3 := hk3.same _ _ hl2 (.inr (.inr rfl))
      have he := run_endRound (P := P) none hl3
      refine ⟨_, _, he, rfl, ⟨hI.putObj _ hi3 (by omega) hl3 rfl, World.putObj_heap_same (blk_lt hl3), ?_⟩, hk3.os, hk3.tape, hk3.output, ?_, fun k o hk ho => ?_⟩
      · rw [World.putObj_heap_other (by omega)]
        exact hk3.same _ _ ((World.putObj_heap_other (by omega)).trans hd) (.inr (.inr rfl))
      · have := hk3.size; simpa using this
      · by_cases hkl : k = w.heap.size + 1
        · subst hkl
          rw [hl] at hk
          cases hk
          exact World.putObj_heap_same (blk_lt hl3)
        · rw [World.putObj_heap_other hkl]
          refine hk3.same k o ((World.putObj_heap_other hkl).trans hk) ?_
          rcases ho with ho | ho | ho
          · exact .inl ho
          · exact .inr (.inl (by omega))
          · exact .inr (.inr ho)
    · rintro e W2 ⟨⟨v, rfl⟩, ⟨hi, hl, hd⟩, hk⟩
      refine ⟨none, _, run_endLoop (P := P) hl (by simp [rc]), hdone _ _ (Nat.le_refl _) (hI.putObj _ hi (by omega) hl rfl) ?_ ((World.putObj_heap_other (by omega)).trans hd)⟩
      refine ⟨hk.os, hk.tape, hk.output, ?_, fun k o hk1 ho => ?_⟩
      · have := hk.size; simp at this ⊢; omega
      · have hkw := blk_lt hk1
        rw [World.putObj_heap_other (by omega)]
        refine hk.same k o ((hW1.block k hkw).trans hk1) ?_
        rcases ho with ho | ho | ho
        · exact .inl ho
        · omega
        · exact .inr (.inr ho)
end Go.Proofs.YtogdbjafibejdaaGreat
