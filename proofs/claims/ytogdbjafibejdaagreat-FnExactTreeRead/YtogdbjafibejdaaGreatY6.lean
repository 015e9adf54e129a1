/- append of integers that tells its block: the old one, or a new one (AppB's, for seats of other chapters). No condition. -/
import Derived.Test.YtogdbjafibejdaaGreatY3
import Derived.Laws.Append
import Derived.Test.YtogdbjafibejdaaGreatY4
namespace Go.Proofs.YtogdbjafibejdaaGreat
open Go.RowKit
set_option maxRecDepth 100000
set_option linter.unusedVariables false

theorem run_blkT {P : Program} (w : World) (base : Nat) (t ty e : TypeId) (i : TypeInfo) (z : Value) (size bytes : Nat) (ht : P.underlying t = some (.slice e)) (hi : P.info? e = some i) (hz : i.zero = some z)
    (hsize : i.size = size) (hby : i.bytes = bytes) (r n cap : Nat) (xs : List Value) (hown : w.ownsRow base e size (.slice (some ⟨r, 0, none⟩) n cap) n xs)
    (a : Addr) (m c : Nat) (news : List Value) (hl : news.length = m * size) (hnews : ∀ j u, news[j]? = some u → w.cell? (a.add j) = some u) (h1 : ∀ u ∈ news, u.oneCell' = true)
    (h63 : n + m ≤ maxLen) (hbytes : (n + m) * bytes ≤ 140737488355328) {v' : Value} {w' : World} (hr : (Builtin.append_ #[t, t] ty #[.slice (some ⟨r, 0, none⟩) n cap, .slice (some a) m c]).run P w = .ok v' w') :
    ∃ r' cap', v' = .slice (some ⟨r', 0, none⟩) (n + m) cap' ∧ (r' = r ∨ r' = w.heap.size) := by
  subst hsize
  subst hby
  have hsmall : n + m ≤ 9223372036854775807 := by simp only [maxLen] at h63; omega
  rcases hown.2 with ⟨e1, _⟩ | ⟨g, cap', cur, e1, hbg, hg, hnc, hcm, hcs, htake⟩
  · cases e1
  · cases e1
    by_cases hroom : n + m ≤ cap
    · have hfit : n * i.size + news.length ≤ cur.size := by rw [hl, hcs, ← Nat.add_mul]; exact Nat.mul_le_mul_right _ hroom
      have hr2 := run_append_room (P := P) w t ty e i ht hi r n cap cur hg a m c news hl hnews h1 hroom hfit
      rw [hr] at hr2
      cases hr2
      exact ⟨_, _, rfl, .inl rfl⟩
    · have holds : ∀ j u, xs[j]? = some u → w.cell? ((⟨r, 0, none⟩ : Addr).add j) = some u := hown.cells (g := r) rfl
      have hr2 := run_append_grow (P := P) w t ty e i z ht hi hz ⟨r, 0, none⟩ n cap xs hown.1 holds a m c news hl hnews (by omega) (by omega) (growslice_fits (by omega) hbytes)
      rw [hr] at hr2
      cases hr2
      exact ⟨_, _, rfl, .inr rfl⟩

end Go.Proofs.YtogdbjafibejdaaGreat

/- A range over an iterator, its body with memory of its own that grows: which blocks are the body's is told by a set. No condition. -/
namespace Go.Proofs.YtogdbjafibejdaaGreat
open Go.RowKit
set_option maxRecDepth 100000
set_option linter.unusedVariables false

def InT (T : TypeId → Prop) (o : Obj) : Prop := ∃ cs t fr, o = .cells cs t fr ∧ T t
structure Kz (n0 : Nat) (T : TypeId → Prop) (S S' : Nat → Prop) (W W' : World) : Prop where
  os : W'.os = W.os
  tape : W'.tape = W.tape
  output : W'.output = W.output
  size : W.heap.size ≤ W'.heap.size
  same : ∀ (k : Nat) (o : Obj), W.heap[k]? = some o → (k < n0 ∨ (¬ S k ∧ ¬ InT T o) ∨ o.isCells = false) → W'.heap[k]? = some o
  sub : ∀ k, S' k → k < W'.heap.size ∧ (S k ∨ W.heap.size ≤ k)
theorem Kz.refl {n0 : Nat} {T : TypeId → Prop} {S : Nat → Prop} {W : World} (h : ∀ k, S k → k < W.heap.size) : Kz n0 T S S W W := ⟨rfl, rfl, rfl, Nat.le_refl _, fun _ _ h _ => h, fun k hk => ⟨h k hk, .inl hk⟩⟩
theorem Kz.trans {n0 : Nat} {T : TypeId → Prop} {S S1 S2 : Nat → Prop} {A B C : World} (h : Kz n0 T S S1 A B) (k : Kz n0 T S1 S2 B C) : Kz n0 T S S2 A C :=
  ⟨k.os.trans h.os, k.tape.trans h.tape, k.output.trans h.output, Nat.le_trans h.size k.size, fun i o hi ho => k.same i o (h.same i o hi ho) (by
    rcases ho with ho | ho | ho
    · exact .inl ho
    · refine .inr (.inl ⟨fun hs => ?_, ho.2⟩)
      rcases (h.sub i hs).2 with h1 | h1
      · exact ho.1 h1
      · have := blk_lt hi; omega
    · exact .inr (.inr ho)), fun i hi => ⟨(k.sub i hi).1, by
      rcases (k.sub i hi).2 with h1 | h1
      · exact (h.sub i h1).2
      · exact .inr (by have := h.size; omega)⟩⟩
theorem Kz.below {n0 : Nat} {T : TypeId → Prop} {S S' : Nat → Prop} {A B : World} (h : Kz n0 T S S' A B) (hn : n0 ≤ A.heap.size) : Below n0 A B :=
  ⟨h.os, h.tape, h.output, h.size, fun k hk => by
    have hlt : k < A.heap.size := by omega
    rw [h.same k A.heap[k] (by simp [hlt]) (.inl hk)]
    simp [hlt]⟩
theorem Kz.keeps {n0 : Nat} {T : TypeId → Prop} {S S' : Nat → Prop} {A B : World} (h : Kz n0 T S S' A B) : KeepsOthers A B := ⟨h.size, fun k o hk ho => h.same k o hk (.inr (.inr ho))⟩
theorem Kz.of_below {n0 : Nat} {T : TypeId → Prop} {S : Nat → Prop} {A B : World} (h : Below A.heap.size A B) (hs : ∀ k, S k → k < A.heap.size) : Kz n0 T S S A B :=
  ⟨h.os, h.tape, h.output, h.size, fun k o hk _ => (h.block k (blk_lt hk)).trans hk, fun k hk => ⟨Nat.lt_of_lt_of_le (hs k hk) h.size, .inl hk⟩⟩
theorem Kz.own {n0 B : Nat} {T : TypeId → Prop} {S S' : Nat → Prop} {W0 W W' : World} {row : Option Nat} (h : Kz n0 T S S' W0 W) (hB : W0.heap.size ≤ B) (hg : W.grownBy W' row) (hr : ∀ r, row = some r → B ≤ r) : Kz n0 T S S' W0 W' :=
  ⟨hg.os.trans h.os, hg.tape.trans h.tape, hg.output.trans h.output, Nat.le_trans h.size hg.size, fun k o hk ho => by
    have h1 := h.same k o hk ho
    rw [hg.block k (blk_lt h1) (fun e => by have := hr k e.symm; have := blk_lt hk; omega)]
    exact h1, fun k hk => ⟨Nat.lt_of_lt_of_le (h.sub k hk).1 hg.size, (h.sub k hk).2⟩⟩

structure Agree (n0 n1 : Nat) (T : TypeId → Prop) (S : Nat → Prop) (W W' : World) : Prop where
  os : W'.os = W.os
  tape : W'.tape = W.tape
  output : W'.output = W.output
  size : W.heap.size ≤ W'.heap.size
  same : ∀ (k : Nat) (o : Obj), W.heap[k]? = some o → (k < n0 ∨ (S k ∧ o.isCells = true) ∨ InT T o ∨ k < n1) → W'.heap[k]? = some o
def FreeS (n0 n1 : Nat) (T : TypeId → Prop) (J : (Nat → Prop) → List Int → World → Prop) : Prop := ∀ S pre W W', J S pre W → Agree n0 n1 T S W W' → J S pre W'
theorem Agree.of_below {n0 n1 : Nat} {T : TypeId → Prop} {S : Nat → Prop} {A B : World} (h : Below A.heap.size A B) : Agree n0 n1 T S A B := ⟨h.os, h.tape, h.output, h.size, fun k o hk _ => (h.block k (blk_lt hk)).trans hk⟩
theorem Agree.own {n0 n1 : Nat} {T : TypeId → Prop} {S : Nat → Prop} {W W' : World} {row : Option Nat} (hg : W.grownBy W' row) (hr : ∀ r, row = some r → n0 ≤ r ∧ n1 ≤ r ∧ ((¬ S r ∧ ∀ o, W.heap[r]? = some o → ¬ InT T o) ∨ ∃ o : Obj, W.heap[r]? = some o ∧ o.isCells = false)) : Agree n0 n1 T S W W' :=
  ⟨hg.os, hg.tape, hg.output, hg.size, fun k o hk ho => by
    rw [hg.block k (blk_lt hk) (fun e => by
      obtain ⟨h0, h1, h2⟩ := hr k e.symm
      rcases ho with ho | ho | ho | ho
      · omega
      · rcases h2 with h2 | ⟨o', e1, e2⟩
        · exact h2.1 ho.1
        · rw [hk] at e1; cases e1; rw [ho.2] at e2; cases e2
      · rcases h2 with h2 | ⟨o', e1, e2⟩
        · exact h2.2 o hk ho
        · rw [hk] at e1; cases e1; obtain ⟨cs, t, fr, rfl, _⟩ := ho; cases e2
      · omega)]
    exact hk⟩

def SeqTells2 (P : Program) (T : TypeId → Prop) (g : Nat) (lb : Array Value) (n0 : Nat) (all : List Int) (w : World) : Prop :=
  ∀ (n l n1 : Nat) (J : (Nat → Prop) → List Int → World → Prop) (S : Nat → Prop) (W : World), Below w.heap.size w W → n1 ≤ W.heap.size → n0 ≤ W.heap.size → (∀ k, S k → k < W.heap.size) → FreeS n0 n1 T J →
    (∀ m S pre x W1, pre ++ [x] <+: all → J S pre W1 → (∀ k, S k → k < W1.heap.size) → YieldAt Fence.wide m P l #[.int .i64 x] W1 fun e W' => e = .returned (.bool true) ∧ ∃ S', J S' (pre ++ [x]) W' ∧ Kz n0 T S S' W1 W') →
    J S [] W → CallsIn Fence.wide n P g (#[.func (.yield l) #[] #[]] ++ lb) W fun e W' => (∃ v, e = .returned v) ∧ ∃ S', J S' all W' ∧ Kz n0 T S S' W W'

theorem wpIn_tells2 {P : Program} {T : TypeId → Prop} {n : Nat} {g : Operand} {p : Tmp} {assign body : Code} {Q : Exit → Act → World → Prop} {a : Act} {w w0 : World} {n0 : Nat} {all : List Int}
    {gf : Nat} {lb : Array Value} (hg : a.eval g = .func (.func gf) #[] lb) (eg : ∀ args w, (callFunc gf args).run P w = .ok (.enter gf args) w)
    (hseq : SeqTells2 P T gf lb n0 all w0) (hb0 : Below w0.heap.size w0 w) (hn0 : n0 ≤ w.heap.size)
    (I : (Nat → Prop) → List Int → World → Prop) (hF : FreeS n0 w.heap.size T I) (S0 : Nat → Prop) (hS0 : ∀ k, S0 k → k < w.heap.size) (h0 : I S0 [] w) (a1 : Int → Act)
    (hassign : ∀ (l m : Nat) (x : Int) (W : World) (K : Act → World → Prop), K (a1 x) W → assign.wpIn (Fence.wide.inRound l) m P (Exit.then K (fun _ _ _ => False)) { tmps := a.tmps.setIfInBounds p (.int .i64 x), defers := [] } W)
    (hbody : ∀ (l m : Nat) (S : Nat → Prop) (pre : List Int) (x : Int) (W : World), pre ++ [x] <+: all → I S pre W → (∀ k, S k → k < W.heap.size) → body.wpIn (Fence.wide.inRound l) m P (fun e _ W' => e = .normal ∧ ∃ S', Kz n0 T S S' W W' ∧ I S' (pre ++ [x]) W') (a1 x) W)
    (hdone : ∀ (D : Nat) (S' : Nat → Prop) (W : World), w.heap.size ≤ D → I S' all W → Kz n0 T S0 S' w W → W.heap[D]? = some (.deferred (some [])) → Q .normal { a with defers := { target := .collected D, args := #[] } :: a.defers } W) :
    (Code.rangeFunc g #[p] assign body).wpIn Fence.wide n P Q a w := by
  refine wpIn_rangeFunc fun fn hfn => ?_
  let rc : LoopState → Loop := fun st => { state := st, pending := none, fn, tmps := a.tmps, params := #[p], assign, body, defers := w.heap.size }
  have hW1 : Below w.heap.size w ((w.alloc (.deferred (some []))).alloc (.loop (rc .ready))) := ((Below.refl _ w).alloc (Nat.le_refl _) _).alloc (by simp) _
  have hl1 : ((w.alloc (.deferred (some []))).alloc (.loop (rc .ready))).heap[w.heap.size + 1]? = some (.loop (rc .ready)) := by
    have := World.alloc_heap_new (w.alloc (.deferred (some []))) (.loop (rc .ready)); rwa [World.size_alloc] at this
  have hd1 : ((w.alloc (.deferred (some []))).alloc (.loop (rc .ready))).heap[w.heap.size]? = some (.deferred (some [])) := (Below.heap_alloc _ _ _ (by simp)).trans (World.alloc_heap_new w _)
  have hs1 : ((w.alloc (.deferred (some []))).alloc (.loop (rc .ready))).heap.size = w.heap.size + 2 := by simp
  refine ⟨w.heap.size + 1, [{ target := .collected w.heap.size, args := #[] }], ((w.alloc (.deferred (some []))).alloc (.loop (rc .ready))), { target := .fn (.func gf) lb, args := #[.func (.yield (w.heap.size + 1)) #[] #[]] }, ((w.alloc (.deferred (some []))).alloc (.loop (rc .ready))), gf, #[.func (.yield (w.heap.size + 1)) #[] #[]] ++ lb, ((w.alloc (.deferred (some []))).alloc (.loop (rc .ready))), run_enterLoop_outer _ _ _ _ _, ?_, fun _ _ => trivial, ?_, fun h => (by cases h), ?_⟩
  · simp only [resolve, hg]
    simp [go_sem]
  · simp [invoke, go_sem, eg]
  · have hJ : FreeS n0 (w.heap.size + 2) T (fun S pre W => I S pre W ∧ W.heap[w.heap.size + 1]? = some (.loop (rc .ready)) ∧ W.heap[w.heap.size]? = some (.deferred (some []))) := fun S pre A B hs hag =>
      ⟨hF S pre A B hs.1 ⟨hag.os, hag.tape, hag.output, hag.size, fun k o hk ho => hag.same k o hk (by
        rcases ho with ho | ho | ho | ho
        · exact .inl ho
        · exact .inr (.inl ho)
        · exact .inr (.inr (.inl ho))
        · exact .inr (.inr (.inr (by omega))))⟩, hag.same _ _ hs.2.1 (.inr (.inr (.inr (by omega)))), hag.same _ _ hs.2.2 (.inr (.inr (.inr (by omega))))⟩
    refine (hseq (n - 1) (w.heap.size + 1) (w.heap.size + 2) _ S0 _ (hb0.trans (hW1.mono hb0.size)) (by simp) (by simp; omega) (fun k hk => by have := hS0 k hk; omega) hJ ?_ ⟨hF _ _ _ _ h0 (Agree.of_below hW1), hl1, hd1⟩).mono ?_
    · rintro m S pre x W hxa ⟨hi, hl, hd⟩ hSW
      have hy := run_yield (P := P) (args := #[Value.int .i64 x]) hl rfl
      have htm : ((rc .ready).params.zip #[Value.int .i64 x]).foldl (fun tmps (t, a) => tmps.setIfInBounds t a) (rc .ready).tmps = a.tmps.setIfInBounds p (.int .i64 x) := by simp [rc]
      rw [htm] at hy
      refine ⟨fn, _, assign, body, hy, roundIn_of_wpIn hfn (hassign _ _ x W _ ⟨_, run_beginRound hl rfl, ?_⟩)⟩
      have hlt := blk_lt hl
      have hl2 : (W.putObj (w.heap.size + 1) (.loop { rc .ready with state := .busy })).heap[w.heap.size + 1]? = some (.loop { rc .ready with state := .busy }) := World.putObj_heap_same hlt
      have hag2 : Agree n0 w.heap.size T S W (W.putObj (w.heap.size + 1) (.loop { rc .ready with state := .busy })) := Agree.own (grownBy_putObj' _ _ _) (fun r e => by cases e; exact ⟨by omega, by omega, .inr ⟨_, hl, rfl⟩⟩)
      refine wpIn_mono (hbody _ _ S pre x _ hxa (hF _ _ _ _ hi hag2) (fun k hk => by have := hSW k hk; simpa using this)) ?_
      rintro e a3 W3 ⟨rfl, S', hk3, hi3⟩
      have hl3 := hk3.same _ _ hl2 (.inr (.inr rfl))
      have he := run_endRound (P := P) none hl3
      have hag3 : Agree n0 w.heap.size T S' W3 (W3.putObj (w.heap.size + 1) (.loop (rc .ready))) := Agree.own (grownBy_putObj' _ _ _) (fun r e => by cases e; exact ⟨by omega, by omega, .inr ⟨_, hl3, rfl⟩⟩)
      refine ⟨_, _, he, rfl, S', ⟨hF _ _ _ _ hi3 hag3, World.putObj_heap_same (blk_lt hl3), ?_⟩, hk3.os, hk3.tape, hk3.output, ?_, fun k o hk ho => ?_, fun k hk => ?_⟩
      · rw [World.putObj_heap_other (by omega)]
        exact hk3.same _ _ ((World.putObj_heap_other (by omega)).trans hd) (.inr (.inr rfl))
      · have := hk3.size; simpa using this
      · by_cases hkl : k = w.heap.size + 1
        · subst hkl
          rw [hl] at hk
          cases hk
          exact World.putObj_heap_same (blk_lt hl3)
        · rw [World.putObj_heap_other hkl]
          exact hk3.same k o ((World.putObj_heap_other hkl).trans hk) ho
      · have := hk3.sub k hk
        simpa using this
    · rintro e W2 ⟨⟨v, rfl⟩, S', ⟨hi, hl, hd⟩, hk⟩
      have hag : Agree n0 w.heap.size T S' W2 (W2.putObj (w.heap.size + 1) (.loop { rc .ready with state := .exhausted })) := Agree.own (grownBy_putObj' _ _ _) (fun r e => by cases e; exact ⟨by omega, by omega, .inr ⟨_, hl, rfl⟩⟩)
      refine ⟨none, _, run_endLoop (P := P) hl (by simp [rc]), hdone _ S' _ (Nat.le_refl _) (hF _ _ _ _ hi hag) ?_ ((World.putObj_heap_other (by omega)).trans hd)⟩
      refine ⟨hk.os, hk.tape, hk.output, ?_, fun k o hk1 ho => ?_, fun k hk1 => ?_⟩
      · have := hk.size; simp at this ⊢; omega
      · have hkw := blk_lt hk1
        rw [World.putObj_heap_other (by omega)]
        exact hk.same k o ((hW1.block k hkw).trans hk1) ho
      · have := hk.sub k hk1
        refine ⟨by simpa using this.1, ?_⟩
        rcases this.2 with h | h
        · exact .inl h
        · exact .inr (by omega)
end Go.Proofs.YtogdbjafibejdaaGreat
