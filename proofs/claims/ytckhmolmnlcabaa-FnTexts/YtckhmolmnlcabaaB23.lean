import Derived.RangeFuncNested
import Derived.RangeFuncBound
import Derived.RangeFuncCalls
import Derived.RangeFuncLeaves
import Derived.Shelf.Abstract
import Derived.Shelf.RegionOpen
import Derived.WalkKit
import Derived.OwnWalkIn
import Derived.TacticsInMore
import Derived.LoopNIn
import Derived.LoopIn
import Derived.Sort.QuietIn
import Derived.Test.YtckhmolmnlcabaaB15
import Derived.Test.YtckhmolmnlcabaaB16
import Derived.Test.YtckhmolmnlcabaaB14
import Derived.Test.YtckhmolmnlcabaaB2
/- The program's iterators over kids, inside the fence. No condition. -/
namespace Go.Proofs.Ytckhmolmnlcabaa
open Go.RowKit Go.Shelf
set_option maxRecDepth 100000
set_option linter.unusedVariables false
attribute [local go_sem] Oper.semAt_some

set_option maxHeartbeats 400000 in
theorem kids_in (n : Nat) (pa : Option Addr) (k : Int) (w : World) :
    CallsIn Fence.wide n Try.prog 44 #[.pointer pa, .int .i64 k] w fun e w' => e = .returned (.func (.func 59) #[] #[.pointer (some ⟨w.heap.size, 0, none⟩), .pointer (some ⟨w.heap.size + 1, 0, none⟩)]) ∧ w' = (w.alloc (.cells #[.pointer pa] 39)).alloc (.cells #[.int .i64 k] 3) := by
  refine callsIn_of_wp Try.func44 rfl trivial ?_ rfl
  simp only [Try.ntmps44, List.size_toArray, List.length_cons, List.length_nil, Nat.reduceAdd, Nat.reduceSub, Array.replicate_succ, Array.replicate_zero, List.push_toArray, List.append_toArray, List.nil_append, List.cons_append]
  gi_wp2
  go_ret
  exact ⟨rfl, rfl⟩

set_option maxHeartbeats 800000 in
/-- The closure: each kid in its order, for every loop body that keeps what lay below n0. -/
theorem kids1_in {α : Type} (enc : α → Int) (n : Nat) (l Ba Bt A : Nat) (w0 W : World) (v : Value) (ns : List PNode) (k : Nat) (hk : k < ns.length)
    (zs : List α) (hz : zs.map enc = ns[k].kids) (hreach : ns.length ≤ 1048576) (J Jx : List α → World → Prop) (hJ : AbidesFrom W.heap.size J) (hnodes : NodesAt w0 v ns)
    (hY : ∀ pre x W, J pre W → pre.length < zs.length → YieldAt Fence.wide (n - 1) Try.prog l #[.int .i64 (enc x)] W fun e W' =>
      (e = .returned (.bool true) ∧ J (pre ++ [x]) W' ∧ Below w0.heap.size W W') ∨ (e = .returned (.bool false) ∧ Jx (pre ++ [x]) W'))
    (hW : Below w0.heap.size w0 W) (hBa : W.cell? ⟨Ba, 0, none⟩ = some (.pointer (some ⟨A, 0, none⟩))) (hBt : W.cell? ⟨Bt, 0, none⟩ = some (.int .i64 k)) (hA : W.cell? ⟨A, 0, none⟩ = some v) (h0 : J [] W) :
    CallsIn Fence.wide n Try.prog 59 #[.func (.yield l) #[] #[], .pointer (some ⟨Ba, 0, none⟩), .pointer (some ⟨Bt, 0, none⟩)] W fun e W' => (∃ v, e = .returned v) ∧
      ((∃ ys, ys = zs ∧ J ys W') ∨ (∃ pre, pre <+: zs ∧ Jx pre W')) := by
  have hn1 := hnodes.below hW
  obtain ⟨a, cap, rfl, hc1, hc2, hcs⟩ := hnodes.slice
  obtain ⟨b, off, av, kv, rfl, hblt, _, _, _, _, _, c5, _, hsl⟩ := hcs k hk
  have c5' := (hW.cell (p := ⟨b, off + k * 6 + 5, none⟩) hblt).trans c5
  obtain ⟨ka, kcap, rfl, hk1, hk2, _, hkc⟩ := hsl
  have hkm : kcap < 9223372036854775808 := Nat.lt_of_le_of_lt hk2 (by decide)
  have HKC := (show Hid (Cells .i64 w0 ka ns[k].kids) from hkc)
  have HZ := (show Hid (zs.map enc = ns[k].kids) from hz)
  have hzl : ns[k].kids.length = zs.length := by rw [← hz]; simp
  rw [hzl] at c5' hk1
  have HW := (show Hid (Below w0.heap.size w0 W) from hW)
  clear hcs hkc c5 hn1 hW hz hnodes
  refine callsIn_of_wp Try.func59 rfl trivial ?_ rfl
  simp only [Try.ntmps59, List.size_toArray, List.length_cons, List.length_nil, Nat.reduceAdd, Nat.reduceSub, Array.replicate_succ, Array.replicate_zero, List.push_toArray, List.append_toArray, List.nil_append, List.cons_append]
  gi_wp2
  gi_quiet (fail)
  have h0' : J [] (W.drewN nq) := hJ [] W (W.drewN nq) none h0 ⟨rfl, rfl, rfl, Nat.le_refl _, fun _ _ _ => rfl⟩ (fun r e => by cases e)
  have hB' : Below w0.heap.size w0 (W.drewN nq) := ⟨HW.out.os, HW.out.tape, HW.out.output, HW.out.size, HW.out.block⟩
  gi_wp2
  gi_loopw [15] (fun i wr => ∃ j : Nat, j ≤ zs.length ∧ i = .int .i64 j ∧ J (zs.take j) wr ∧ Below w0.heap.size w0 wr) (fun i _ => zs.length - (intOf i).toNat)
  case atStart => exact ⟨0, Nat.zero_le _, rfl, by simpa using h0', hB'⟩
  case round =>
    obtain ⟨j, hj, rfl, hJs, hnx⟩ := hrel
    by_cases hlt : j < zs.length
    · have hz := HZ.out
      have hlt' : j < ns[k].kids.length := by omega
      obtain ⟨kb, ko, rfl, ck⟩ := HKC.out j hlt'
      have he : ns[k].kids.getD j 0 = enc zs[j] := by
        have : (ns[k].kids)[j]? = some (enc zs[j]) := by rw [← hz]; simp [hlt]
        simp [List.getD_eq_getElem?_getD, this]
      rw [he] at ck
      have hkb : kb < w0.heap.size := by
        by_cases h : kb < w0.heap.size
        · exact h
        · exfalso; simp [World.cell?, Array.getElem?_eq_none (Nat.le_of_not_lt h)] at ck
      have ck' := (hnx.cell (p := ⟨kb, ko + j, none⟩) hkb).trans ck
      obtain ⟨fn, tmps, assign, body, hy, hR⟩ := hY _ zs[j] wr hJs (by simp; omega)
      have HP : Hid (zs.take j ++ [zs[j]] = zs.take (j + 1)) := (take_snoc zs hlt).symm
      clear hz hlt' he ck
      gi_wp2
      refine ⟨fun h => (by cases h), ?_⟩
      refine hR.mono ?_
      rintro e W3 (⟨rfl, hJ3, hk3⟩ | ⟨rfl, hJx3⟩)
      · gi_wp2
        go_roundw
        case rel => exact ⟨j + 1, by omega, by go_num, by rw [← HP.out]; exact hJ3, hnx.trans hk3⟩
        case measure => simp [intOf]; omega
      · gi_wp2
        refine bodyPost_ret (results_none rfl _ _ _) rfl ?_
        exact ⟨⟨_, rfl⟩, .inr ⟨_, by rw [HP.out]; exact List.take_prefix _ _, hJx3⟩⟩
    · obtain rfl : j = zs.length := by omega
      gi_wp2
      go_end0
      exact ⟨⟨_, rfl⟩, .inl ⟨_, List.take_length, hJs⟩⟩

/-- What kids hands back tells all kids, in their order, or a part from the beginning on. -/
theorem kids_stops {α : Type} (enc : α → Int) (n : Nat) (Ba Bt A : Nat) (w0 w : World) (v : Value) (ns : List PNode) (k : Nat) (hk : k < ns.length)
    (zs : List α) (hz : zs.map enc = ns[k].kids) (hreach : ns.length ≤ 1048576) (hnodes : NodesAt w0 v ns) (hw : Below w0.heap.size w0 w)
    (hBa : Ba < w.heap.size) (hBt : Bt < w.heap.size) (hA : A < w0.heap.size)
    (ca : w.cell? ⟨Ba, 0, none⟩ = some (.pointer (some ⟨A, 0, none⟩))) (ct : w.cell? ⟨Bt, 0, none⟩ = some (.int .i64 k)) (cA : w0.cell? ⟨A, 0, none⟩ = some v) :
    SeqStopsK Fence.wide n Try.prog 59 #[.pointer (some ⟨Ba, 0, none⟩), .pointer (some ⟨Bt, 0, none⟩)] (fun x : α => #[Value.int .i64 (enc x)]) (Below w0.heap.size) (fun ys => ys = zs) (fun pre => pre <+: zs) zs.length w := fun l J Jx W hW hJ _ hY h0 =>
  have hb : Below w0.heap.size w0 W := hw.trans (hW.mono hw.size)
  kids1_in enc n l Ba Bt A w0 W v ns k hk zs hz hreach J Jx hJ hnodes hY hb ((hW.cell (p := ⟨Ba, 0, none⟩) hBa).trans ca) ((hW.cell (p := ⟨Bt, 0, none⟩) hBt).trans ct) ((hb.cell (p := ⟨A, 0, none⟩) hA).trans cA) h0
end Go.Proofs.Ytckhmolmnlcabaa

/- A loop over an iterator whose own functions hold such loops: a law of our own, for bodies that always go on. No condition. -/
namespace Go.Proofs.Ytckhmolmnlcabaa
open Go.RowKit
set_option maxRecDepth 100000
set_option linter.unusedVariables false

/-- What lay below n0, what lies from n1 on, and whatever is no cells lies as it lay. -/
structure Kq (n0 n1 : Nat) (W W' : World) : Prop where
  os : W'.os = W.os
  tape : W'.tape = W.tape
  output : W'.output = W.output
  size : W.heap.size ≤ W'.heap.size
  same : ∀ (k : Nat) (o : Obj), W.heap[k]? = some o → (k < n0 ∨ n1 ≤ k ∨ o.isCells = false) → W'.heap[k]? = some o
theorem Kq.refl (n0 n1 : Nat) (W : World) : Kq n0 n1 W W := ⟨rfl, rfl, rfl, Nat.le_refl _, fun _ _ h _ => h⟩
theorem Kq.trans {n0 n1 : Nat} {A B C : World} (h : Kq n0 n1 A B) (k : Kq n0 n1 B C) : Kq n0 n1 A C :=
  ⟨k.os.trans h.os, k.tape.trans h.tape, k.output.trans h.output, Nat.le_trans h.size k.size, fun i o hi ho => k.same i o (h.same i o hi ho) ho⟩
theorem Kq.below {n0 n1 : Nat} {A B : World} (h : Kq n0 n1 A B) (hn : n0 ≤ A.heap.size) : Below n0 A B :=
  ⟨h.os, h.tape, h.output, h.size, fun k hk => by
    have hlt : k < A.heap.size := by omega
    rw [h.same k A.heap[k] (by simp [hlt]) (.inl hk)]
    simp [hlt]⟩
theorem Kq.keeps {n0 n1 : Nat} {A B : World} (h : Kq n0 n1 A B) : KeepsOthers A B := ⟨h.size, fun k o hk ho => h.same k o hk (.inr (.inr ho))⟩
theorem Kq.of_below {n0 n1 : Nat} {A B : World} (h : Below A.heap.size A B) : Kq n0 n1 A B :=
  ⟨h.os, h.tape, h.output, h.size, fun k o hk _ => (h.block k (blk_lt hk)).trans hk⟩
theorem Kq.alloc (n0 n1 : Nat) (W : World) (o : Obj) : Kq n0 n1 W (W.alloc o) := Kq.of_below ((Below.refl _ W).alloc (Nat.le_refl _) _)
theorem Kq.own {n0 n1 B : Nat} {W0 W W' : World} {row : Option Nat} (h : Kq n0 n1 W0 W) (hB : W0.heap.size ≤ B) (hg : W.grownBy W' row) (hr : ∀ r, row = some r → B ≤ r ∧ ∃ o : Obj, W.heap[r]? = some o ∧ o.isCells = false) : Kq n0 n1 W0 W' :=
  ⟨hg.os.trans h.os, hg.tape.trans h.tape, hg.output.trans h.output, Nat.le_trans h.size hg.size, fun k o hk ho => blk_from (B := B) (h.same k o hk ho) (by have := blk_lt hk; omega) hg hr⟩

/-- What abides whatever turns blocks from B on, and makes new ones. -/
def FreeFrom {β : Type} (B : Nat) (J : β → World → Prop) : Prop := ∀ s W W' row, J s W → W.grownBy W' row → (∀ r, row = some r → B ≤ r) → J s W'
theorem FreeFrom.own {β : Type} {B : Nat} {J : β → World → Prop} (h : FreeFrom B J) {C : Nat} (hC : B ≤ C) : OwnFrom C J := fun s W W' row hs hg hr => h s W W' row hs hg (fun r e => Nat.le_trans hC (hr r e).1)
theorem blk_free {B : Nat} {k : Nat} {o : Obj} {W W' : World} {row : Option Nat} (h : W.heap[k]? = some o) (hk : k < B) (hg : W.grownBy W' row) (hr : ∀ r, row = some r → B ≤ r) : W'.heap[k]? = some o := by
  rw [hg.block k (blk_lt h) (fun e => by have := hr k e.symm; omega)]
  exact h
theorem below_free {n0 B : Nat} {w0 W W' : World} {row : Option Nat} (h : Below n0 w0 W) (h0 : n0 ≤ w0.heap.size) (hB : n0 ≤ B) (hg : W.grownBy W' row) (hr : ∀ r, row = some r → B ≤ r) : Below n0 w0 W' :=
  h.grown hg (by have := h.size; omega) (fun r e => by have := hr r e; omega)

/-- The iterator's word: it tells 'all', one behind the other, to whatever body goes on. -/
def SeqTells (P : Program) (g : Nat) (lb : Array Value) (n0 : Nat) (all : List Int) (w : World) : Prop :=
  ∀ (n l n1 : Nat) (J : List Int → World → Prop) (W : World), Below w.heap.size w W → n1 ≤ W.heap.size → FreeFrom n1 J →
    (∀ m pre x W1, J pre W1 → YieldAt Fence.wide m P l #[.int .i64 x] W1 fun e W' => e = .returned (.bool true) ∧ J (pre ++ [x]) W' ∧ Kq n0 n1 W1 W') →
    J [] W → CallsIn Fence.wide n P g (#[.func (.yield l) #[] #[]] ++ lb) W fun e W' => (∃ v, e = .returned v) ∧ J all W' ∧ Kq n0 n1 W W'

theorem wpIn_tells {P : Program} {n : Nat} {g : Operand} {p : Tmp} {assign body : Code} {Q : Exit → Act → World → Prop} {a : Act} {w w0 : World} {n0 : Nat} {all : List Int}
    {gf : Nat} {lb : Array Value} (hg : a.eval g = .func (.func gf) #[] lb) (eg : ∀ args w, (callFunc gf args).run P w = .ok (.enter gf args) w)
    (hseq : SeqTells P gf lb n0 all w0) (hb0 : Below w0.heap.size w0 w) (hn0 : n0 ≤ w.heap.size)
    (I : List Int → World → Prop) (hF : FreeFrom w.heap.size I) (h0 : I [] w) (a1 : Int → Act)
    (hassign : ∀ (l m : Nat) (x : Int) (W : World) (K : Act → World → Prop), K (a1 x) W → assign.wpIn (Fence.wide.inRound l) m P (Exit.then K (fun _ _ _ => False)) { tmps := a.tmps.setIfInBounds p (.int .i64 x), defers := [] } W)
    (hbody : ∀ (l m : Nat) (pre : List Int) (x : Int) (W : World), I pre W → body.wpIn (Fence.wide.inRound l) m P (fun e _ W' => e = .normal ∧ Kq n0 w.heap.size W W' ∧ I (pre ++ [x]) W') (a1 x) W)
    (hdone : ∀ (D : Nat) (W : World), w.heap.size ≤ D → I all W → Kq n0 w.heap.size w W → W.heap[D]? = some (.deferred (some [])) → Q .normal { a with defers := { target := .collected D, args := #[] } :: a.defers } W) :
    (Code.rangeFunc g #[p] assign body).wpIn Fence.wide n P Q a w := by
  have hI := hF.own (Nat.le_refl _)
  refine wpIn_rangeFunc fun fn hfn => ?_
  let rc : LoopState → Loop := fun st => { state := st, pending := none, fn, tmps := a.tmps, params := #[p], assign, body, defers := w.heap.size }
  have hW1 : Below w.heap.size w ((w.alloc (.deferred (some []))).alloc (.loop (rc .ready))) := ((Below.refl _ w).alloc (Nat.le_refl _) _).alloc (by simp) _
  have hl1 : ((w.alloc (.deferred (some []))).alloc (.loop (rc .ready))).heap[w.heap.size + 1]? = some (.loop (rc .ready)) := by
    have := World.alloc_heap_new (w.alloc (.deferred (some []))) (.loop (rc .ready)); rwa [World.size_alloc] at this
  have hd1 : ((w.alloc (.deferred (some []))).alloc (.loop (rc .ready))).heap[w.heap.size]? = some (.deferred (some [])) := (Below.heap_alloc _ _ _ (by simp)).trans (World.alloc_heap_new w _)
  refine ⟨w.heap.size + 1, [{ target := .collected w.heap.size, args := #[] }], ((w.alloc (.deferred (some []))).alloc (.loop (rc .ready))), { target := .fn (.func gf) lb, args := #[.func (.yield (w.heap.size + 1)) #[] #[]] }, ((w.alloc (.deferred (some []))).alloc (.loop (rc .ready))), gf, #[.func (.yield (w.heap.size + 1)) #[] #[]] ++ lb, ((w.alloc (.deferred (some []))).alloc (.loop (rc .ready))), run_enterLoop_outer _ _ _ _ _, ?_, fun _ _ => trivial, ?_, fun h => (by cases h), ?_⟩
  · simp only [resolve, hg]
    simp [go_sem]
  · simp [invoke, go_sem, eg]
  · have hJ : FreeFrom (w.heap.size + 2) (fun pre W => I pre W ∧ W.heap[w.heap.size + 1]? = some (.loop (rc .ready)) ∧ W.heap[w.heap.size]? = some (.deferred (some []))) := fun pre A B row hs hgr hr =>
      ⟨hF pre A B row hs.1 hgr (fun r e => by have := hr r e; omega), blk_free hs.2.1 (by omega) hgr hr, blk_free hs.2.2 (by omega) hgr hr⟩
    refine (hseq (n - 1) (w.heap.size + 1) (w.heap.size + 2) _ _ (hb0.trans (hW1.mono hb0.size)) (by simp) hJ ?_ ⟨hI.alloc _ (hI.alloc _ h0), hl1, hd1⟩).mono ?_
    · rintro m pre x W ⟨hi, hl, hd⟩
      have hy := run_yield (P := P) (args := #[Value.int .i64 x]) hl rfl
      have htm : ((rc .ready).params.zip #[Value.int .i64 x]).foldl (fun tmps (t, a) => tmps.setIfInBounds t a) (rc .ready).tmps = a.tmps.setIfInBounds p (.int .i64 x) := by simp [rc]
      rw [htm] at hy
      refine ⟨fn, _, assign, body, hy, roundIn_of_wpIn hfn (hassign _ _ x W _ ⟨_, run_beginRound hl rfl, ?_⟩)⟩
      have hlt := blk_lt hl
      have hl2 : (W.putObj (w.heap.size + 1) (.loop { rc .ready with state := .busy })).heap[w.heap.size + 1]? = some (.loop { rc .ready with state := .busy }) := World.putObj_heap_same hlt
      refine wpIn_mono (hbody _ _ pre x _ (hI.putObj _ hi (by omega) hl rfl)) ?_
      rintro e a3 W3 ⟨rfl, hk3, hi3⟩
      have hl3 := hk3.same _ _ hl2 (.inr (.inr rfl))
      have he := run_endRound (P := P) none hl3
      refine ⟨_, _, he, rfl, ⟨hI.putObj _ hi3 (by omega) hl3 rfl, World.putObj_heap_same (blk_lt hl3), ?_⟩, hk3.os, hk3.tape, hk3.output, ?_, fun k o hk ho => ?_⟩
      · rw [World.putObj_heap_other (by omega)]
        exact hk3.same _ _ ((World.putObj_heap_other (by omega)).trans hd) (.inr (.inr rfl))
      · have := hk3.size; simpa using this
      · by_cases hkl : k = w.heap.size + 1
        · subst hkl
          rw [hl] at hk
          cases hk
          exact World.putObj_heap_same (blk_lt hl3)
        · rw [World.putObj_heap_other hkl]
          refine hk3.same k o ((World.putObj_heap_other hkl).trans hk) ?_
          rcases ho with ho | ho | ho
          · exact .inl ho
          · exact .inr (.inl (by omega))
          · exact .inr (.inr ho)
    · rintro e W2 ⟨⟨v, rfl⟩, ⟨hi, hl, hd⟩, hk⟩
      refine ⟨none, _, run_endLoop (P := P) hl (by simp [rc]), hdone _ _ (Nat.le_refl _) (hI.putObj _ hi (by omega) hl rfl) ?_ ((World.putObj_heap_other (by omega)).trans hd)⟩
      refine ⟨hk.os, hk.tape, hk.output, ?_, fun k o hk1 ho => ?_⟩
      · have := hk.size; simp at this ⊢; omega
      · have hkw := blk_lt hk1
        rw [World.putObj_heap_other (by omega)]
        refine hk.same k o ((hW1.block k hkw).trans hk1) ?_
        rcases ho with ho | ho | ho
        · exact .inl ho
        · omega
        · exact .inr (.inr ho)
end Go.Proofs.Ytckhmolmnlcabaa

/- The program's tellFrom and from, inside the fence. No condition. -/
namespace Go.Proofs.Ytckhmolmnlcabaa
open Go.RowKit Go.Shelf
set_option maxRecDepth 100000
set_option linter.unusedVariables false
attribute [local go_sem] Oper.semAt_some

/-- The boxes of tellFrom. -/
def TellBox (A l B : Nat) (W : World) : Prop :=
  W.heap[B]? = some (.cells #[.pointer (some ⟨A, 0, none⟩)] 39 (0, 0)) ∧ W.heap[B + 1]? = some (.cells #[.func (.yield l) #[] #[]] 42 (0, 0)) ∧ W.heap[B + 1 + 1]? = some (.cells #[.bool false] 4 (0, 0))
theorem TellBox.kq {A l B n0 n1 : Nat} {W W' : World} (h : TellBox A l B W) (k : Kq n0 n1 W W') (hB : n1 ≤ B) : TellBox A l B W' :=
  ⟨k.same _ _ h.1 (.inr (.inl hB)), k.same _ _ h.2.1 (.inr (.inl (by omega))), k.same _ _ h.2.2 (.inr (.inl (by omega)))⟩
theorem TellBox.own {A l B C : Nat} {W W' : World} {row : Option Nat} (h : TellBox A l B W) (hg : W.grownBy W' row) (hr : ∀ r, row = some r → C ≤ r ∧ ∃ o : Obj, W.heap[r]? = some o ∧ o.isCells = false) : TellBox A l B W' :=
  ⟨cells_from h.1 hg hr, cells_from h.2.1 hg hr, cells_from h.2.2 hg hr⟩
theorem tellBox_new (A l : Nat) (W : World) : TellBox A l W.heap.size (((W.alloc (.cells #[.pointer (some ⟨A, 0, none⟩)] 39)).alloc (.cells #[.func (.yield l) #[] #[]] 42)).alloc (.cells #[.bool false] 4)) := by
  refine ⟨?_, ?_, ?_⟩
  · rw [Below.heap_alloc _ _ _ (by simp; omega), Below.heap_alloc _ _ _ (by simp)]
    exact World.alloc_heap_new _ _
  · rw [Below.heap_alloc _ _ _ (by simp)]
    have := World.alloc_heap_new (W.alloc (.cells #[.pointer (some ⟨A, 0, none⟩)] 39)) (.cells #[.func (.yield l) #[] #[]] 42)
    rwa [World.size_alloc] at this
  · have := World.alloc_heap_new ((W.alloc (.cells #[.pointer (some ⟨A, 0, none⟩)] 39)).alloc (.cells #[.func (.yield l) #[] #[]] 42)) (.cells #[.bool false] 4)
    rwa [World.size_alloc, World.size_alloc] at this

set_option maxHeartbeats 1000000 in
theorem tellFrom_in {w0 : World} {v : Value} {ns : List PNode} {A l n1 : Nat} (hn : NodesAt w0 v ns) (hA : A < w0.heap.size) (cA : w0.cell? ⟨A, 0, none⟩ = some v) (hlen : ns.length ≤ 1048576) (J : List Int → World → Prop) (hF : FreeFrom n1 J)
    (hY : ∀ m pre x W1, J pre W1 → YieldAt Fence.wide m Try.prog l #[.int .i64 x] W1 fun e W' => e = .returned (.bool true) ∧ J (pre ++ [x]) W' ∧ Kq w0.heap.size n1 W1 W') :
    ∀ (f k : Nat), deepOk ns f k → ∀ (n : Nat) (pre : List Int) (W : World), Below w0.heap.size w0 W → n1 ≤ W.heap.size → J pre W →
      CallsIn Fence.wide n Try.prog 27 #[.pointer (some ⟨A, 0, none⟩), .int .i64 (k : Int), .func (.yield l) #[] #[]] W fun e W' => e = .returned (.bool true) ∧ J (pre ++ down ns f k) W' ∧ Kq w0.heap.size n1 W W' := by
  have hJ := hF.own (Nat.le_refl _)
  intro f
  induction f with
  | zero => intro k h; exact h.elim
  | succ f ih =>
    intro k hk n pre W hW hn1 hJW
    have hklt := hk.1
    have IH := (show Hid _ from ih)
    have HN := (show Hid (NodesAt w0 v ns) from hn)
    have HK := (show Hid (∀ x ∈ kidsOf ns k, 0 ≤ x ∧ deepOk ns f x.toNat) from hk.2)
    clear ih hn hk
    refine (callsIn_wide (n := n)).2 ((callsIn_wide (n := 5)).1 ?_)
    have hbox := tellBox_new A l W
    have b3 := (((Below.refl _ W).alloc (Nat.le_refl _) (.cells #[.pointer (some ⟨A, 0, none⟩)] 39)).alloc (by simp) (.cells #[.func (.yield l) #[] #[]] 42)).alloc (by simp; omega) (.cells #[.bool false] 4)
    have hJ3 : J pre _ := hJ.alloc (.cells #[.bool false] 4) (hJ.alloc (.cells #[.func (.yield l) #[] #[]] 42) (hJ.alloc (.cells #[.pointer (some ⟨A, 0, none⟩)] 39) hJW))
    obtain ⟨fn, tmps, assign, body, hy, hR⟩ := hY 4 pre (k : Int) _ hJ3
    have cY : (((W.alloc (.cells #[.pointer (some ⟨A, 0, none⟩)] 39)).alloc (.cells #[.func (.yield l) #[] #[]] 42)).alloc (.cells #[.bool false] 4)).cell? ⟨W.heap.size + 1, 0, none⟩ = some (.func (.yield l) #[] #[]) := by simp only [World.cell?, hbox.2.1]; rfl
    have HB := (show Hid (TellBox A l W.heap.size _) from hbox)
    have HB3 := (show Hid _ from b3)
    clear hbox b3 hJ3
    refine callsIn_of_wp_marks Try.func27 rfl trivial ?_ rfl
    simp only [Try.ntmps27, List.size_toArray, List.length_cons, List.length_nil, Nat.reduceAdd, Nat.reduceSub, Array.replicate_succ, Array.replicate_zero, List.push_toArray, List.append_toArray, List.nil_append, List.cons_append]
    gi_wp2
    refine hR.mono ?_
    rintro e W4 ⟨rfl, hJ4, hK4⟩
    have bx4 := HB.out.kq hK4 hn1
    have k4 : Kq w0.heap.size n1 W W4 := (Kq.of_below HB3.out).trans hK4
    have b4 : Below w0.heap.size w0 W4 := hW.trans (k4.below hW.size)
    have c4 : W4.cell? ⟨W.heap.size, 0, none⟩ = some (.pointer (some ⟨A, 0, none⟩)) := by simp only [World.cell?, bx4.1]; rfl
    have HX4 := (show Hid (TellBox A l W.heap.size W4) from bx4)
    have HK4 := (show Hid (Kq w0.heap.size n1 W W4) from k4)
    have HB4 := (show Hid (Below w0.heap.size w0 W4) from b4)
    have HJ4 := (show Hid (J (pre ++ [(k : Int)]) W4) from hJ4)
    have hlt4 := blk_lt bx4.2.2
    clear HB HB3 hK4 bx4 k4 b4 hJ4 cY hy hR
    gi_wp2
    refine ⟨trivial, (kids_in _ _ _ _).mono ?_⟩
    rintro e w' ⟨rfl, rfl⟩
    gi_wp2
    obtain ⟨W5, hW5⟩ : ∃ W5, W5 = (W4.alloc (.cells #[.pointer (some ⟨A, 0, none⟩)] 39)).alloc (.cells #[.int .i64 (k : Int)] 3) := ⟨_, rfl⟩
    have b5 : Below W4.heap.size W4 W5 := by rw [hW5]; exact ((Below.refl _ W4).alloc (Nat.le_refl _) _).alloc (by simp) _
    have sz5 : W5.heap.size = W4.heap.size + 2 := by rw [hW5]; simp
    have gY : W5.heap[W4.heap.size]? = some (.cells #[.pointer (some ⟨A, 0, none⟩)] 39 (0, 0)) := by
      rw [hW5, Below.heap_alloc _ _ _ (by simp)]
      exact World.alloc_heap_new _ _
    have gZ : W5.heap[W4.heap.size + 1]? = some (.cells #[.int .i64 (k : Int)] 3 (0, 0)) := by
      rw [hW5]
      have := World.alloc_heap_new (W4.alloc (.cells #[.pointer (some ⟨A, 0, none⟩)] 39)) (.cells #[.int .i64 (k : Int)] 3)
      rwa [World.size_alloc] at this
    have cY : W5.cell? ⟨W4.heap.size, 0, none⟩ = some (.pointer (some ⟨A, 0, none⟩)) := by simp only [World.cell?, gY]; rfl
    have cZ : W5.cell? ⟨W4.heap.size + 1, 0, none⟩ = some (.int .i64 (k : Int)) := by simp only [World.cell?, gZ]; rfl
    have hJ5 : J (pre ++ [(k : Int)]) W5 := by rw [hW5]; exact hJ.alloc _ (hJ.alloc _ HJ4.out)
    have k5 : Kq w0.heap.size n1 W W5 := HK4.out.trans (Kq.of_below b5)
    have bx5 : TellBox A l W.heap.size W5 := ⟨(b5.block _ (by omega)).trans HX4.out.1, (b5.block _ (by omega)).trans HX4.out.2.1, (b5.block _ (by omega)).trans HX4.out.2.2⟩
    have hbel : Below w0.heap.size w0 W5 := HB4.out.trans (b5.mono HB4.out.size)
    have hsz : W.heap.size ≤ W5.heap.size := k5.size
    have hle0 : w0.heap.size ≤ W.heap.size := hW.size
    rw [← hW5]
    refine wpIn_rangeFunc_ownF (F := Fence.wide) rfl (by omega) (gf := 59) (lb := #[.pointer (some ⟨W4.heap.size, 0, none⟩), .pointer (some ⟨W4.heap.size + 1, 0, none⟩)]) rfl trivial (enters_of Try.func59 (by kernel_rfl) rfl)
      (kids_stops (fun x : { x : Int // x ∈ kidsOf ns k } => x.1) 4 W4.heap.size (W4.heap.size + 1) A w0 W5 _ ns k hklt (kidsOf ns k).attach (by rw [List.attach_map_subtype_val, kidsOf_at hklt]) hlen HN.out hbel (by omega) (by omega) hA cY cZ cA)
      belowK_t (belowK_b hbel.size) (Below.refl _ _) (fun _ => rfl)
      (fun pre' Wq => J (pre ++ [(k : Int)] ++ (pre'.map (fun x => x.1)).flatMap (fun x => down ns f x.toNat)) Wq ∧ Kq w0.heap.size n1 W Wq ∧ TellBox A l W.heap.size Wq)
      (fun _ _ _ => False)
      ?hI (fun _ _ _ _ _ hs _ _ => hs) ⟨by simpa using hJ5, k5, bx5⟩
      (fun x => { tmps := #[.pointer (some ⟨A, 0, none⟩), .int .i64 (k : Int), .func (.yield l) #[] #[], .pointer (some ⟨W.heap.size, 0, none⟩), undef, .pointer (some ⟨W.heap.size + 1, 0, none⟩), .pointer (some ⟨W.heap.size + 1 + 1, 0, none⟩), .int .i64 x.1, .func (.yield l) #[] #[], .int .i64 (k : Int), .bool true, .bool false, .pointer (some ⟨A, 0, none⟩), .int .i64 (k : Int), .func (.func 59) #[] #[.pointer (some ⟨W4.heap.size, 0, none⟩), .pointer (some ⟨W4.heap.size + 1, 0, none⟩)], .int .i64 x.1, undef, undef, undef, undef, undef], defers := [] }) ?assign ?body ?done ?stop
    case hI =>
      intro pre' Wa Wb row hs hg hr
      exact ⟨hJ _ Wa Wb row hs.1 hg (fun r e => ⟨by have := (hr r e).1; omega, (hr r e).2⟩), hs.2.1.own hsz hg hr, hs.2.2.own hg hr⟩
    case assign =>
      intro l' x Wa K' hK'
      gi_wp2
      exact hK'
    case body =>
      rintro l' pre' x Wb ⟨hJb, hKb, hXb⟩ hlt
      have cb0 : Wb.cell? ⟨W.heap.size, 0, none⟩ = some (.pointer (some ⟨A, 0, none⟩)) := by simp only [World.cell?, hXb.1]; rfl
      have cb1 : Wb.cell? ⟨W.heap.size + 1, 0, none⟩ = some (.func (.yield l) #[] #[]) := by simp only [World.cell?, hXb.2.1]; rfl
      obtain ⟨x, hx⟩ := x
      obtain ⟨hx0, hdx⟩ := HK.out x hx
      obtain ⟨j, rfl⟩ : ∃ j : Nat, x = j := ⟨x.toNat, by omega⟩
      rw [show ((j : Int)).toNat = j by simp] at hdx
      have CC := (show Hid _ from IH.out j hdx 2 _ Wb (hW.trans (hKb.below hW.size)) (by have := hKb.size; omega) hJb)
      have HKb := (show Hid _ from hKb)
      have HXb := (show Hid (TellBox A l W.heap.size Wb) from hXb)
      clear hJb hKb hXb
      gi_wp2
      refine ⟨trivial, (CallsIn.inRound l' CC.out).mono ?_⟩
      rintro e Wc ⟨rfl, hJc, hKc⟩
      have hKc' := HKb.out.trans hKc
      have hXc := HXb.out.kq hKc hn1
      gi_wp2
      exact ⟨hKc.keeps, hKc.below (by have := HKb.out.size; omega), by simpa [List.flatMap_append, List.append_assoc] using hJc, hKc', hXc⟩
    case done =>
      rintro D ys Wd hD rfl ⟨hJd, hKd, hXd⟩ hDd
      have cR : Wd.cell? ⟨W.heap.size + 1 + 1, 0, none⟩ = some (.bool false) := by simp only [World.cell?, hXd.2.2]; rfl
      have fR : Wd.frozen? ⟨W.heap.size + 1 + 1, 0, none⟩ = false := by simp [World.frozen?, hXd.2.2]
      have hds : (Wd.setCell ⟨W.heap.size + 1 + 1, 0, none⟩ (.bool true)).heap[D]? = some (.deferred (some [])) := (KeepsOthers.setCell Wd ⟨W.heap.size + 1 + 1, 0, none⟩ (.bool true)).same D _ hDd rfl
      have gR := setCell_at (k := 0) (u := .bool true) hXd.2.2
      gi_wp2
      refine ⟨by simp, .inl ⟨_, _, rfl, run_takeDeferred hds, ?_⟩⟩
      have hne : W.heap.size + 1 + 1 ≠ D := fun e => by rw [← e, hXd.2.2] at hDd; cases hDd
      have gR' : ((Wd.setCell ⟨W.heap.size + 1 + 1, 0, none⟩ (.bool true)).putObj D (.deferred none)).heap[W.heap.size + 1 + 1]? = _ := (World.putObj_heap_other hne).trans gR
      have hc : ((Wd.setCell ⟨W.heap.size + 1 + 1, 0, none⟩ (.bool true)).putObj D (.deferred none)).cell? ⟨W.heap.size + 1 + 1, 0, none⟩ = some (.bool true) := by simp only [World.cell?, gR']; rfl
      refine ⟨.bool true, ?_, rfl, ?_, ?_⟩
      · simp [results, Try.f27, go_sem, hc]
      · have e1 : pre ++ [(k : Int)] ++ List.flatMap (fun x => down ns f x.toNat) (List.map (fun x => x.1) (kidsOf ns k).attach) = pre ++ down ns (f + 1) k := by
          rw [List.attach_map_subtype_val]; simp [down]
        rw [e1] at hJd
        exact hF _ _ _ (some D) (hF _ _ _ (some (W.heap.size + 1 + 1)) hJd (grown_setCell _ _ _ _) (fun r e => by cases e; omega)) (grownBy_putObj' _ _ _) (fun r e => by cases e; omega)
      · refine ⟨hKd.os, hKd.tape, hKd.output, ?_, fun j o hj ho => ?_⟩
        · have := hKd.size; simpa [World.setCell] using this
        · have hlt := blk_lt hj
          rw [World.putObj_heap_other (by omega), Below.heap_setCell Wd ⟨W.heap.size + 1 + 1, 0, none⟩ (.bool true) j (by show j ≠ W.heap.size + 1 + 1; omega)]
          exact hKd.same j o hj ho
    case stop =>
      rintro D c pre' Wd hD _ h _
      exact h.elim

set_option maxHeartbeats 400000 in
theorem from_in (n : Nat) (pa : Option Addr) (k : Int) (w : World) :
    CallsIn Fence.wide n Try.prog 14 #[.pointer pa, .int .i64 k] w fun e w' => e = .returned (.func (.func 26) #[] #[.pointer (some ⟨w.heap.size, 0, none⟩), .pointer (some ⟨w.heap.size + 1, 0, none⟩)]) ∧ w' = (w.alloc (.cells #[.pointer pa] 39)).alloc (.cells #[.int .i64 k] 3) := by
  refine callsIn_of_wp Try.func14 rfl trivial ?_ rfl
  simp only [Try.ntmps14, List.size_toArray, List.length_cons, List.length_nil, Nat.reduceAdd, Nat.reduceSub, Array.replicate_succ, Array.replicate_zero, List.push_toArray, List.append_toArray, List.nil_append, List.cons_append]
  gi_wp2
  go_ret
  exact ⟨rfl, rfl⟩

set_option maxHeartbeats 400000 in
/-- What 'from' hands back tells the node and all that stand below it. -/
theorem from_tells {w0 w : World} {v : Value} {ns : List PNode} {A Ba Bt f k : Nat} (hn : NodesAt w0 v ns) (hA : A < w0.heap.size) (cA : w0.cell? ⟨A, 0, none⟩ = some v) (hlen : ns.length ≤ 1048576) (hk : deepOk ns f k) (hw : Below w0.heap.size w0 w)
    (ca : w.cell? ⟨Ba, 0, none⟩ = some (.pointer (some ⟨A, 0, none⟩))) (ct : w.cell? ⟨Bt, 0, none⟩ = some (.int .i64 (k : Int))) (hBa : Ba < w.heap.size) (hBt : Bt < w.heap.size) :
    SeqTells Try.prog 26 #[.pointer (some ⟨Ba, 0, none⟩), .pointer (some ⟨Bt, 0, none⟩)] w0.heap.size (down ns f k) w := by
  intro n l n1 J W hW hn1 hF hY h0
  have hb : Below w0.heap.size w0 W := hw.trans (hW.mono hw.size)
  have CC := (show Hid _ from tellFrom_in hn hA cA hlen J hF hY f k hk 4 [] W hb hn1 h0)
  have ca' := (hW.cell (p := ⟨Ba, 0, none⟩) hBa).trans ca
  have ct' := (hW.cell (p := ⟨Bt, 0, none⟩) hBt).trans ct
  refine (callsIn_wide (n := n)).2 ((callsIn_wide (n := 5)).1 ?_)
  refine callsIn_of_wp Try.func26 rfl trivial ?_ rfl
  simp only [Try.ntmps26, List.size_toArray, List.length_cons, List.length_nil, Nat.reduceAdd, Nat.reduceSub, Array.replicate_succ, Array.replicate_zero, List.push_toArray, List.append_toArray, List.nil_append, List.cons_append]
  gi_wp2
  refine ⟨trivial, CallsIn.mono CC.out ?_⟩
  rintro e W' ⟨rfl, hJ', hK'⟩
  gi_wp2
  go_end0
  exact ⟨⟨_, rfl⟩, by simpa using hJ', hK'⟩
end Go.Proofs.Ytckhmolmnlcabaa

/- A range over an iterator, its body with memory of its own that grows: which blocks are the body's is told by a set. No condition. -/
namespace Go.Proofs.Ytckhmolmnlcabaa
open Go.RowKit
set_option maxRecDepth 100000
set_option linter.unusedVariables false

/-- Cells of one of these types. -/
def InT (T : TypeId → Prop) (o : Obj) : Prop := ∃ cs t fr, o = .cells cs t fr ∧ T t
/-- Of W nothing is turned but cells of blocks in S or of the types T, from n0 on; the set S' has what S has, and new blocks. -/
structure Kz (n0 : Nat) (T : TypeId → Prop) (S S' : Nat → Prop) (W W' : World) : Prop where
  os : W'.os = W.os
  tape : W'.tape = W.tape
  output : W'.output = W.output
  size : W.heap.size ≤ W'.heap.size
  same : ∀ (k : Nat) (o : Obj), W.heap[k]? = some o → (k < n0 ∨ (¬ S k ∧ ¬ InT T o) ∨ o.isCells = false) → W'.heap[k]? = some o
  sub : ∀ k, S' k → k < W'.heap.size ∧ (S k ∨ W.heap.size ≤ k)
theorem Kz.refl {n0 : Nat} {T : TypeId → Prop} {S : Nat → Prop} {W : World} (h : ∀ k, S k → k < W.heap.size) : Kz n0 T S S W W := ⟨rfl, rfl, rfl, Nat.le_refl _, fun _ _ h _ => h, fun k hk => ⟨h k hk, .inl hk⟩⟩
theorem Kz.trans {n0 : Nat} {T : TypeId → Prop} {S S1 S2 : Nat → Prop} {A B C : World} (h : Kz n0 T S S1 A B) (k : Kz n0 T S1 S2 B C) : Kz n0 T S S2 A C :=
  ⟨k.os.trans h.os, k.tape.trans h.tape, k.output.trans h.output, Nat.le_trans h.size k.size, fun i o hi ho => k.same i o (h.same i o hi ho) (by
    rcases ho with ho | ho | ho
    · exact .inl ho
    · refine .inr (.inl ⟨fun hs => ?_, ho.2⟩)
      rcases (h.sub i hs).2 with h1 | h1
      · exact ho.1 h1
      · have := blk_lt hi; omega
    · exact .inr (.inr ho)), fun i hi => ⟨(k.sub i hi).1, by
      rcases (k.sub i hi).2 with h1 | h1
      · exact (h.sub i h1).2
      · exact .inr (by have := h.size; omega)⟩⟩
theorem Kz.below {n0 : Nat} {T : TypeId → Prop} {S S' : Nat → Prop} {A B : World} (h : Kz n0 T S S' A B) (hn : n0 ≤ A.heap.size) : Below n0 A B :=
  ⟨h.os, h.tape, h.output, h.size, fun k hk => by
    have hlt : k < A.heap.size := by omega
    rw [h.same k A.heap[k] (by simp [hlt]) (.inl hk)]
    simp [hlt]⟩
theorem Kz.keeps {n0 : Nat} {T : TypeId → Prop} {S S' : Nat → Prop} {A B : World} (h : Kz n0 T S S' A B) : KeepsOthers A B := ⟨h.size, fun k o hk ho => h.same k o hk (.inr (.inr ho))⟩
theorem Kz.of_below {n0 : Nat} {T : TypeId → Prop} {S : Nat → Prop} {A B : World} (h : Below A.heap.size A B) (hs : ∀ k, S k → k < A.heap.size) : Kz n0 T S S A B :=
  ⟨h.os, h.tape, h.output, h.size, fun k o hk _ => (h.block k (blk_lt hk)).trans hk, fun k hk => ⟨Nat.lt_of_lt_of_le (hs k hk) h.size, .inl hk⟩⟩
/-- Objects of the iterator's own are turned besides. -/
theorem Kz.own {n0 B : Nat} {T : TypeId → Prop} {S S' : Nat → Prop} {W0 W W' : World} {row : Option Nat} (h : Kz n0 T S S' W0 W) (hB : W0.heap.size ≤ B) (hg : W.grownBy W' row) (hr : ∀ r, row = some r → B ≤ r) : Kz n0 T S S' W0 W' :=
  ⟨hg.os.trans h.os, hg.tape.trans h.tape, hg.output.trans h.output, Nat.le_trans h.size hg.size, fun k o hk ho => by
    have h1 := h.same k o hk ho
    rw [hg.block k (blk_lt h1) (fun e => by have := hr k e.symm; have := blk_lt hk; omega)]
    exact h1, fun k hk => ⟨Nat.lt_of_lt_of_le (h.sub k hk).1 hg.size, (h.sub k hk).2⟩⟩

/-- What is below n0 and n1, and the cells of the blocks in S and of the types T are as they were. -/
structure Agree (n0 n1 : Nat) (T : TypeId → Prop) (S : Nat → Prop) (W W' : World) : Prop where
  os : W'.os = W.os
  tape : W'.tape = W.tape
  output : W'.output = W.output
  size : W.heap.size ≤ W'.heap.size
  same : ∀ (k : Nat) (o : Obj), W.heap[k]? = some o → (k < n0 ∨ (S k ∧ o.isCells = true) ∨ InT T o ∨ k < n1) → W'.heap[k]? = some o
def FreeS (n0 n1 : Nat) (T : TypeId → Prop) (J : (Nat → Prop) → List Int → World → Prop) : Prop := ∀ S pre W W', J S pre W → Agree n0 n1 T S W W' → J S pre W'
theorem Agree.of_below {n0 n1 : Nat} {T : TypeId → Prop} {S : Nat → Prop} {A B : World} (h : Below A.heap.size A B) : Agree n0 n1 T S A B := ⟨h.os, h.tape, h.output, h.size, fun k o hk _ => (h.block k (blk_lt hk)).trans hk⟩
/-- An object of the iterator's own is turned: no cells of S, nothing below n0, none of the objects below n1. -/
theorem Agree.own {n0 n1 : Nat} {T : TypeId → Prop} {S : Nat → Prop} {W W' : World} {row : Option Nat} (hg : W.grownBy W' row) (hr : ∀ r, row = some r → n0 ≤ r ∧ n1 ≤ r ∧ ((¬ S r ∧ ∀ o, W.heap[r]? = some o → ¬ InT T o) ∨ ∃ o : Obj, W.heap[r]? = some o ∧ o.isCells = false)) : Agree n0 n1 T S W W' :=
  ⟨hg.os, hg.tape, hg.output, hg.size, fun k o hk ho => by
    rw [hg.block k (blk_lt hk) (fun e => by
      obtain ⟨h0, h1, h2⟩ := hr k e.symm
      rcases ho with ho | ho | ho | ho
      · omega
      · rcases h2 with h2 | ⟨o', e1, e2⟩
        · exact h2.1 ho.1
        · rw [hk] at e1; cases e1; rw [ho.2] at e2; cases e2
      · rcases h2 with h2 | ⟨o', e1, e2⟩
        · exact h2.2 o hk ho
        · rw [hk] at e1; cases e1; obtain ⟨cs, t, fr, rfl, _⟩ := ho; cases e2
      · omega)]
    exact hk⟩

/-- The iterator's word: it tells 'all', one behind the other, to whatever body goes on. -/
def SeqTells2 (P : Program) (T : TypeId → Prop) (g : Nat) (lb : Array Value) (n0 : Nat) (all : List Int) (w : World) : Prop :=
  ∀ (n l n1 : Nat) (J : (Nat → Prop) → List Int → World → Prop) (S : Nat → Prop) (W : World), Below w.heap.size w W → n1 ≤ W.heap.size → n0 ≤ W.heap.size → (∀ k, S k → k < W.heap.size) → FreeS n0 n1 T J →
    (∀ m S pre x W1, pre ++ [x] <+: all → J S pre W1 → (∀ k, S k → k < W1.heap.size) → YieldAt Fence.wide m P l #[.int .i64 x] W1 fun e W' => e = .returned (.bool true) ∧ ∃ S', J S' (pre ++ [x]) W' ∧ Kz n0 T S S' W1 W') →
    J S [] W → CallsIn Fence.wide n P g (#[.func (.yield l) #[] #[]] ++ lb) W fun e W' => (∃ v, e = .returned v) ∧ ∃ S', J S' all W' ∧ Kz n0 T S S' W W'

theorem wpIn_tells2 {P : Program} {T : TypeId → Prop} {n : Nat} {g : Operand} {p : Tmp} {assign body : Code} {Q : Exit → Act → World → Prop} {a : Act} {w w0 : World} {n0 : Nat} {all : List Int}
    {gf : Nat} {lb : Array Value} (hg : a.eval g = .func (.func gf) #[] lb) (eg : ∀ args w, (callFunc gf args).run P w = .ok (.enter gf args) w)
    (hseq : SeqTells2 P T gf lb n0 all w0) (hb0 : Below w0.heap.size w0 w) (hn0 : n0 ≤ w.heap.size)
    (I : (Nat → Prop) → List Int → World → Prop) (hF : FreeS n0 w.heap.size T I) (S0 : Nat → Prop) (hS0 : ∀ k, S0 k → k < w.heap.size) (h0 : I S0 [] w) (a1 : Int → Act)
    (hassign : ∀ (l m : Nat) (x : Int) (W : World) (K : Act → World → Prop), K (a1 x) W → assign.wpIn (Fence.wide.inRound l) m P (Exit.then K (fun _ _ _ => False)) { tmps := a.tmps.setIfInBounds p (.int .i64 x), defers := [] } W)
    (hbody : ∀ (l m : Nat) (S : Nat → Prop) (pre : List Int) (x : Int) (W : World), pre ++ [x] <+: all → I S pre W → (∀ k, S k → k < W.heap.size) → body.wpIn (Fence.wide.inRound l) m P (fun e _ W' => e = .normal ∧ ∃ S', Kz n0 T S S' W W' ∧ I S' (pre ++ [x]) W') (a1 x) W)
    (hdone : ∀ (D : Nat) (S' : Nat → Prop) (W : World), w.heap.size ≤ D → I S' all W → Kz n0 T S0 S' w W → W.heap[D]? = some (.deferred (some [])) → Q .normal { a with defers := { target := .collected D, args := #[] } :: a.defers } W) :
    (Code.rangeFunc g #[p] assign body).wpIn Fence.wide n P Q a w := by
  refine wpIn_rangeFunc fun fn hfn => ?_
  let rc : LoopState → Loop := fun st => { state := st, pending := none, fn, tmps := a.tmps, params := #[p], assign, body, defers := w.heap.size }
  have hW1 : Below w.heap.size w ((w.alloc (.deferred (some []))).alloc (.loop (rc .ready))) := ((Below.refl _ w).alloc (Nat.le_refl _) _).alloc (by simp) _
  have hl1 : ((w.alloc (.deferred (some []))).alloc (.loop (rc .ready))).heap[w.heap.size + 1]? = some (.loop (rc .ready)) := by
    have := World.alloc_heap_new (w.alloc (.deferred (some []))) (.loop (rc .ready)); rwa [World.size_alloc] at this
  have hd1 : ((w.alloc (.deferred (some []))).alloc (.loop (rc .ready))).heap[w.heap.size]? = some (.deferred (some [])) := (Below.heap_alloc _ _ _ (by simp)).trans (World.alloc_heap_new w _)
  have hs1 : ((w.alloc (.deferred (some []))).alloc (.loop (rc .ready))).heap.size = w.heap.size + 2 := by simp
  refine ⟨w.heap.size + 1, [{ target := .collected w.heap.size, args := #[] }], ((w.alloc (.deferred (some []))).alloc (.loop (rc .ready))), { target := .fn (.func gf) lb, args := #[.func (.yield (w.heap.size + 1)) #[] #[]] }, ((w.alloc (.deferred (some []))).alloc (.loop (rc .ready))), gf, #[.func (.yield (w.heap.size + 1)) #[] #[]] ++ lb, ((w.alloc (.deferred (some []))).alloc (.loop (rc .ready))), run_enterLoop_outer _ _ _ _ _, ?_, fun _ _ => trivial, ?_, fun h => (by cases h), ?_⟩
  · simp only [resolve, hg]
    simp [go_sem]
  · simp [invoke, go_sem, eg]
  · have hJ : FreeS n0 (w.heap.size + 2) T (fun S pre W => I S pre W ∧ W.heap[w.heap.size + 1]? = some (.loop (rc .ready)) ∧ W.heap[w.heap.size]? = some (.deferred (some []))) := fun S pre A B hs hag =>
      ⟨hF S pre A B hs.1 ⟨hag.os, hag.tape, hag.output, hag.size, fun k o hk ho => hag.same k o hk (by
        rcases ho with ho | ho | ho | ho
        · exact .inl ho
        · exact .inr (.inl ho)
        · exact .inr (.inr (.inl ho))
        · exact .inr (.inr (.inr (by omega))))⟩, hag.same _ _ hs.2.1 (.inr (.inr (.inr (by omega)))), hag.same _ _ hs.2.2 (.inr (.inr (.inr (by omega))))⟩
    refine (hseq (n - 1) (w.heap.size + 1) (w.heap.size + 2) _ S0 _ (hb0.trans (hW1.mono hb0.size)) (by simp) (by simp; omega) (fun k hk => by have := hS0 k hk; omega) hJ ?_ ⟨hF _ _ _ _ h0 (Agree.of_below hW1), hl1, hd1⟩).mono ?_
    · rintro m S pre x W hxa ⟨hi, hl, hd⟩ hSW
      have hy := run_yield (P := P) (args := #[Value.int .i64 x]) hl rfl
      have htm : ((rc .ready).params.zip #[Value.int .i64 x]).foldl (fun tmps (t, a) => tmps.setIfInBounds t a) (rc .ready).tmps = a.tmps.setIfInBounds p (.int .i64 x) := by simp [rc]
      rw [htm] at hy
      refine ⟨fn, _, assign, body, hy, roundIn_of_wpIn hfn (hassign _ _ x W _ ⟨_, run_beginRound hl rfl, ?_⟩)⟩
      have hlt := blk_lt hl
      have hl2 : (W.putObj (w.heap.size + 1) (.loop { rc .ready with state := .busy })).heap[w.heap.size + 1]? = some (.loop { rc .ready with state := .busy }) := World.putObj_heap_same hlt
      have hag2 : Agree n0 w.heap.size T S W (W.putObj (w.heap.size + 1) (.loop { rc .ready with state := .busy })) := Agree.own (grownBy_putObj' _ _ _) (fun r e => by cases e; exact ⟨by omega, by omega, .inr ⟨_, hl, rfl⟩⟩)
      refine wpIn_mono (hbody _ _ S pre x _ hxa (hF _ _ _ _ hi hag2) (fun k hk => by have := hSW k hk; simpa using this)) ?_
      rintro e a3 W3 ⟨rfl, S', hk3, hi3⟩
      have hl3 := hk3.same _ _ hl2 (.inr (.inr rfl))
      have he := run_endRound (P := P) none hl3
      have hag3 : Agree n0 w.heap.size T S' W3 (W3.putObj (w.heap.size + 1) (.loop (rc .ready))) := Agree.own (grownBy_putObj' _ _ _) (fun r e => by cases e; exact ⟨by omega, by omega, .inr ⟨_, hl3, rfl⟩⟩)
      refine ⟨_, _, he, rfl, S', ⟨hF _ _ _ _ hi3 hag3, World.putObj_heap_same (blk_lt hl3), ?_⟩, hk3.os, hk3.tape, hk3.output, ?_, fun k o hk ho => ?_, fun k hk => ?_⟩
      · rw [World.putObj_heap_other (by omega)]
        exact hk3.same _ _ ((World.putObj_heap_other (by omega)).trans hd) (.inr (.inr rfl))
      · have := hk3.size; simpa using this
      · by_cases hkl : k = w.heap.size + 1
        · subst hkl
          rw [hl] at hk
          cases hk
          exact World.putObj_heap_same (blk_lt hl3)
        · rw [World.putObj_heap_other hkl]
          exact hk3.same k o ((World.putObj_heap_other hkl).trans hk) ho
      · have := hk3.sub k hk
        simpa using this
    · rintro e W2 ⟨⟨v, rfl⟩, S', ⟨hi, hl, hd⟩, hk⟩
      have hag : Agree n0 w.heap.size T S' W2 (W2.putObj (w.heap.size + 1) (.loop { rc .ready with state := .exhausted })) := Agree.own (grownBy_putObj' _ _ _) (fun r e => by cases e; exact ⟨by omega, by omega, .inr ⟨_, hl, rfl⟩⟩)
      refine ⟨none, _, run_endLoop (P := P) hl (by simp [rc]), hdone _ S' _ (Nat.le_refl _) (hF _ _ _ _ hi hag) ?_ ((World.putObj_heap_other (by omega)).trans hd)⟩
      refine ⟨hk.os, hk.tape, hk.output, ?_, fun k o hk1 ho => ?_, fun k hk1 => ?_⟩
      · have := hk.size; simp at this ⊢; omega
      · have hkw := blk_lt hk1
        rw [World.putObj_heap_other (by omega)]
        exact hk.same k o ((hW1.block k hkw).trans hk1) ho
      · have := hk.sub k hk1
        refine ⟨by simpa using this.1, ?_⟩
        rcases this.2 with h | h
        · exact .inl h
        · exact .inr (by omega)
end Go.Proofs.Ytckhmolmnlcabaa

/- The program's tellFrom and from, inside the fence. No condition. -/
namespace Go.Proofs.Ytckhmolmnlcabaa
open Go.RowKit Go.Shelf
set_option maxRecDepth 100000
set_option linter.unusedVariables false
attribute [local go_sem] Oper.semAt_some

theorem TellBox.kz {A l B n0 : Nat} {T : TypeId → Prop} {S S' : Nat → Prop} {W W' : World} (h : TellBox A l B W) (k : Kz n0 T S S' W W') (hB : ∀ j, B ≤ j → j < B + 3 → ¬ S j) (hT : ¬ T 39 ∧ ¬ T 42 ∧ ¬ T 4) : TellBox A l B W' :=
  ⟨k.same _ _ h.1 (.inr (.inl ⟨hB _ (by omega) (by omega), fun ⟨_, _, _, e, ht⟩ => by cases e; exact hT.1 ht⟩)), k.same _ _ h.2.1 (.inr (.inl ⟨hB _ (by omega) (by omega), fun ⟨_, _, _, e, ht⟩ => by cases e; exact hT.2.1 ht⟩)), k.same _ _ h.2.2 (.inr (.inl ⟨hB _ (by omega) (by omega), fun ⟨_, _, _, e, ht⟩ => by cases e; exact hT.2.2 ht⟩))⟩

set_option maxHeartbeats 800000 in
/-- What kids hands back tells all kids, in their order. -/
theorem kids_tells2 {w0 w : World} {T : TypeId → Prop} {v : Value} {ns : List PNode} {A Ba Bt k : Nat} (hn : NodesAt w0 v ns) (hA : A < w0.heap.size) (cA : w0.cell? ⟨A, 0, none⟩ = some v) (hlen : ns.length ≤ 1048576) (hk : k < ns.length) (hw : Below w0.heap.size w0 w)
    (ca : w.cell? ⟨Ba, 0, none⟩ = some (.pointer (some ⟨A, 0, none⟩))) (ct : w.cell? ⟨Bt, 0, none⟩ = some (.int .i64 (k : Int))) (hBa : Ba < w.heap.size) (hBt : Bt < w.heap.size) :
    SeqTells2 Try.prog T 59 #[.pointer (some ⟨Ba, 0, none⟩), .pointer (some ⟨Bt, 0, none⟩)] w0.heap.size (kidsOf ns k) w := by
  intro n l n1 J S W hWw hn1 hn0 hSW hF hY h0
  have hW : Below w0.heap.size w0 W := hw.trans (hWw.mono hw.size)
  have hBa' := (hWw.cell (p := ⟨Ba, 0, none⟩) hBa).trans ca
  have hBt' := (hWw.cell (p := ⟨Bt, 0, none⟩) hBt).trans ct
  have hA' := (hW.cell (p := ⟨A, 0, none⟩) hA).trans cA
  obtain ⟨a, cap, rfl, hc1, hc2, hcs⟩ := hn.slice
  obtain ⟨b, off, av, kv, rfl, hblt, _, _, _, _, _, c5, _, hsl⟩ := hcs k hk
  have c5' := (hW.cell (p := ⟨b, off + k * 6 + 5, none⟩) hblt).trans c5
  obtain ⟨ka, kcap, rfl, hk1, hk2, _, hkc⟩ := hsl
  have hkm : kcap < 9223372036854775808 := Nat.lt_of_le_of_lt hk2 (by decide)
  rw [← kidsOf_at hk] at hkc c5' hk1
  obtain ⟨zs, hzs⟩ : ∃ zs, zs = kidsOf ns k := ⟨_, rfl⟩
  rw [← hzs] at hkc c5' hk1 hY ⊢
  have HKC := (show Hid (Cells .i64 w0 ka zs) from hkc)
  have HW := (show Hid (Below w0.heap.size w0 W) from hW)
  clear hcs hkc c5 hW hn hzs ca ct cA
  refine (callsIn_wide (n := n)).2 ((callsIn_wide (n := 5)).1 ?_)
  refine callsIn_of_wp Try.func59 rfl trivial ?_ rfl
  simp only [Try.ntmps59, List.size_toArray, List.length_cons, List.length_nil, Nat.reduceAdd, Nat.reduceSub, Array.replicate_succ, Array.replicate_zero, List.push_toArray, List.append_toArray, List.nil_append, List.cons_append]
  gi_wp2
  gi_quiet (fail)
  have hbq : Below W.heap.size W (W.drewN nq) := ⟨rfl, rfl, rfl, Nat.le_refl _, fun _ _ => rfl⟩
  have h0' : J S [] (W.drewN nq) := hF _ _ _ _ h0 (Agree.of_below hbq)
  have hk0 : Kz w0.heap.size T S S W (W.drewN nq) := Kz.of_below hbq hSW
  gi_wp2
  gi_loopw [15] (fun i wr => ∃ (j : Nat) (S' : Nat → Prop), j ≤ zs.length ∧ i = .int .i64 j ∧ J S' (zs.take j) wr ∧ Kz w0.heap.size T S S' W wr) (fun i _ => zs.length - (intOf i).toNat)
  case atStart => exact ⟨0, S, Nat.zero_le _, rfl, by simpa using h0', hk0⟩
  case round =>
    obtain ⟨j, S', hj, rfl, hJs, hks⟩ := hrel
    by_cases hlt : j < zs.length
    · have hnx : Below w0.heap.size w0 wr := HW.out.trans (hks.below hn0)
      obtain ⟨kb, ko, rfl, ck⟩ := HKC.out j hlt
      rw [show zs.getD j 0 = zs[j] by simp [List.getD_eq_getElem?_getD, hlt]] at ck
      have hkb : kb < w0.heap.size := by
        by_cases h : kb < w0.heap.size
        · exact h
        · exfalso; simp [World.cell?, Array.getElem?_eq_none (Nat.le_of_not_lt h)] at ck
      have ck' := (hnx.cell (p := ⟨kb, ko + j, none⟩) hkb).trans ck
      have HP : Hid (zs.take j ++ [zs[j]] = zs.take (j + 1)) := (take_snoc zs hlt).symm
      obtain ⟨fn, tmps, assign, body, hy, hR⟩ := hY 4 S' (zs.take j) zs[j] wr (by rw [HP.out]; exact List.take_prefix _ _) hJs (fun i hi => (hks.sub i hi).1)
      have HKS := (show Hid (Kz w0.heap.size T S S' W wr) from hks)
      clear ck hnx hks
      gi_wp2
      refine hR.mono ?_
      rintro e W3 ⟨rfl, S3, hJ3, hk3⟩
      gi_wp2
      go_roundw
      case rel => exact ⟨j + 1, S3, by omega, by go_num, by rw [← HP.out]; exact hJ3, HKS.out.trans hk3⟩
      case measure => simp [intOf]; omega
    · obtain rfl : j = zs.length := by omega
      rw [List.take_length] at hJs
      gi_wp2
      go_end0
      exact ⟨⟨_, rfl⟩, S', hJs, hks⟩

set_option maxHeartbeats 1000000 in
theorem tellFrom_in2 {w0 : World} {T : TypeId → Prop} (hT : ¬ T 39 ∧ ¬ T 42 ∧ ¬ T 4) {v : Value} {ns : List PNode} {A l n1 : Nat} (hn : NodesAt w0 v ns) (hA : A < w0.heap.size) (cA : w0.cell? ⟨A, 0, none⟩ = some v) (hlen : ns.length ≤ 1048576) (J : (Nat → Prop) → List Int → World → Prop) (hF : FreeS w0.heap.size n1 T J)
    (G : List Int → Prop) (hY : ∀ m S pre x W1, G (pre ++ [x]) → J S pre W1 → (∀ k, S k → k < W1.heap.size) → YieldAt Fence.wide m Try.prog l #[.int .i64 x] W1 fun e W' => e = .returned (.bool true) ∧ ∃ S', J S' (pre ++ [x]) W' ∧ Kz w0.heap.size T S S' W1 W') :
    ∀ (f k : Nat), deepOk ns f k → ∀ (n : Nat) (S : Nat → Prop) (pre : List Int) (W : World), (∀ l', l' ≠ [] → l' <+: down ns f k → G (pre ++ l')) → Below w0.heap.size w0 W → n1 ≤ W.heap.size → (∀ k, S k → k < W.heap.size) → J S pre W →
      CallsIn Fence.wide n Try.prog 27 #[.pointer (some ⟨A, 0, none⟩), .int .i64 (k : Int), .func (.yield l) #[] #[]] W fun e W' => e = .returned (.bool true) ∧ ∃ S', J S' (pre ++ down ns f k) W' ∧ Kz w0.heap.size T S S' W W' := by
  intro f
  induction f with
  | zero => intro k h; exact h.elim
  | succ f ih =>
    intro k hk n S pre W hG hW hn1 hSW hJW
    have HGG := (show Hid (∀ l', l' ≠ [] → l' <+: down ns (f + 1) k → G (pre ++ l')) from hG)
    clear hG
    have hklt := hk.1
    have IH := (show Hid _ from ih)
    have HN := (show Hid (NodesAt w0 v ns) from hn)
    have HK := (show Hid (∀ x ∈ kidsOf ns k, 0 ≤ x ∧ deepOk ns f x.toNat) from hk.2)
    clear ih hn hk
    refine (callsIn_wide (n := n)).2 ((callsIn_wide (n := 5)).1 ?_)
    have hbox := tellBox_new A l W
    have b3 := (((Below.refl _ W).alloc (Nat.le_refl _) (.cells #[.pointer (some ⟨A, 0, none⟩)] 39)).alloc (by simp) (.cells #[.func (.yield l) #[] #[]] 42)).alloc (by simp; omega) (.cells #[.bool false] 4)
    have hJ3 : J S pre _ := hF _ _ _ _ hJW (Agree.of_below b3)
    have hsz3 : (((W.alloc (.cells #[.pointer (some ⟨A, 0, none⟩)] 39)).alloc (.cells #[.func (.yield l) #[] #[]] 42)).alloc (.cells #[.bool false] 4)).heap.size = W.heap.size + 3 := by simp
    have hNS : ∀ j, W.heap.size ≤ j → j < W.heap.size + 3 → ¬ S j := fun j h1 _ hj => by have := hSW j hj; omega
    obtain ⟨fn, tmps, assign, body, hy, hR⟩ := hY 4 S pre (k : Int) _ (HGG.out [(k : Int)] (by simp) (by rw [down]; exact ⟨_, rfl⟩)) hJ3 (fun j hj => by have := hSW j hj; omega)
    have cY : (((W.alloc (.cells #[.pointer (some ⟨A, 0, none⟩)] 39)).alloc (.cells #[.func (.yield l) #[] #[]] 42)).alloc (.cells #[.bool false] 4)).cell? ⟨W.heap.size + 1, 0, none⟩ = some (.func (.yield l) #[] #[]) := by simp only [World.cell?, hbox.2.1]; rfl
    have HB := (show Hid (TellBox A l W.heap.size _) from hbox)
    have HB3 := (show Hid (Below W.heap.size W _) from b3)
    have HSZ3 := (show Hid _ from hsz3)
    have HNS := (show Hid (∀ j, W.heap.size ≤ j → j < W.heap.size + 3 → ¬ S j) from hNS)
    have HSW := (show Hid (∀ k, S k → k < W.heap.size) from hSW)
    clear hbox b3 hJ3 hsz3 hNS hSW
    refine callsIn_of_wp_marks Try.func27 rfl trivial ?_ rfl
    simp only [Try.ntmps27, List.size_toArray, List.length_cons, List.length_nil, Nat.reduceAdd, Nat.reduceSub, Array.replicate_succ, Array.replicate_zero, List.push_toArray, List.append_toArray, List.nil_append, List.cons_append]
    gi_wp2
    refine hR.mono ?_
    rintro e W4 ⟨rfl, S4, hJ4, hK4⟩
    have bx4 := TellBox.kz HB.out hK4 HNS.out hT
    have k4 : Kz w0.heap.size T S S4 W W4 := (Kz.of_below HB3.out HSW.out).trans hK4
    have hNS4 : ∀ j, W.heap.size ≤ j → j < W.heap.size + 3 → ¬ S4 j := fun j h1 h2 hj => by
      rcases (hK4.sub j hj).2 with h | h
      · exact HNS.out j h1 h2 h
      · have := HSZ3.out; omega
    have b4 : Below w0.heap.size w0 W4 := hW.trans (k4.below hW.size)
    have c4 : W4.cell? ⟨W.heap.size, 0, none⟩ = some (.pointer (some ⟨A, 0, none⟩)) := by simp only [World.cell?, bx4.1]; rfl
    have HX4 := (show Hid (TellBox A l W.heap.size W4) from bx4)
    have HK4 := (show Hid (Kz w0.heap.size T S S4 W W4) from k4)
    have HNS4 := (show Hid (∀ j, W.heap.size ≤ j → j < W.heap.size + 3 → ¬ S4 j) from hNS4)
    have HB4 := (show Hid (Below w0.heap.size w0 W4) from b4)
    have HJ4 := (show Hid (J S4 (pre ++ [(k : Int)]) W4) from hJ4)
    have hlt4 := blk_lt bx4.2.2
    clear HB HB3 hK4 bx4 k4 b4 hJ4 cY hy hR hNS4 HSZ3
    gi_wp2
    refine ⟨trivial, (kids_in _ _ _ _).mono ?_⟩
    rintro e w' ⟨rfl, rfl⟩
    gi_wp2
    obtain ⟨W5, hW5⟩ : ∃ W5, W5 = (W4.alloc (.cells #[.pointer (some ⟨A, 0, none⟩)] 39)).alloc (.cells #[.int .i64 (k : Int)] 3) := ⟨_, rfl⟩
    have b5 : Below W4.heap.size W4 W5 := by rw [hW5]; exact ((Below.refl _ W4).alloc (Nat.le_refl _) _).alloc (by simp) _
    have sz5 : W5.heap.size = W4.heap.size + 2 := by rw [hW5]; simp
    have gY : W5.heap[W4.heap.size]? = some (.cells #[.pointer (some ⟨A, 0, none⟩)] 39 (0, 0)) := by
      rw [hW5, Below.heap_alloc _ _ _ (by simp)]
      exact World.alloc_heap_new _ _
    have gZ : W5.heap[W4.heap.size + 1]? = some (.cells #[.int .i64 (k : Int)] 3 (0, 0)) := by
      rw [hW5]
      have := World.alloc_heap_new (W4.alloc (.cells #[.pointer (some ⟨A, 0, none⟩)] 39)) (.cells #[.int .i64 (k : Int)] 3)
      rwa [World.size_alloc] at this
    have cY : W5.cell? ⟨W4.heap.size, 0, none⟩ = some (.pointer (some ⟨A, 0, none⟩)) := by simp only [World.cell?, gY]; rfl
    have cZ : W5.cell? ⟨W4.heap.size + 1, 0, none⟩ = some (.int .i64 (k : Int)) := by simp only [World.cell?, gZ]; rfl
    have hJ5 : J S4 (pre ++ [(k : Int)]) W5 := hF _ _ _ _ HJ4.out (Agree.of_below b5)
    have k5 : Kz w0.heap.size T S S4 W W5 := HK4.out.trans (Kz.of_below b5 (fun j hj => (HK4.out.sub j hj).1))
    have bx5 : TellBox A l W.heap.size W5 := ⟨(b5.block _ (by omega)).trans HX4.out.1, (b5.block _ (by omega)).trans HX4.out.2.1, (b5.block _ (by omega)).trans HX4.out.2.2⟩
    have hbel : Below w0.heap.size w0 W5 := HB4.out.trans (b5.mono HB4.out.size)
    have hsz : W.heap.size ≤ W5.heap.size := k5.size
    have hle0 : w0.heap.size ≤ W.heap.size := hW.size
    rw [← hW5]
    refine wpIn_tells2 (T := T) (w0 := W5) (n0 := w0.heap.size) (all := kidsOf ns k) (gf := 59) (lb := #[.pointer (some ⟨W4.heap.size, 0, none⟩), .pointer (some ⟨W4.heap.size + 1, 0, none⟩)]) rfl (enters_of Try.func59 (by kernel_rfl) rfl)
      (kids_tells2 HN.out hA cA hlen hklt hbel cY cZ (by omega) (by omega)) (Below.refl _ _) hbel.size
      (fun S' pre' Wq => J S' (pre ++ [(k : Int)] ++ pre'.flatMap (fun x => down ns f x.toNat)) Wq ∧ Kz w0.heap.size T S S' W Wq ∧ TellBox A l W.heap.size Wq ∧ ∀ j, W.heap.size ≤ j → j < W.heap.size + 3 → ¬ S' j)
      ?hI S4 (fun j hj => by have := (HK4.out.sub j hj).1; omega) ⟨by simpa using hJ5, k5, bx5, HNS4.out⟩
      (fun x => { tmps := #[.pointer (some ⟨A, 0, none⟩), .int .i64 (k : Int), .func (.yield l) #[] #[], .pointer (some ⟨W.heap.size, 0, none⟩), undef, .pointer (some ⟨W.heap.size + 1, 0, none⟩), .pointer (some ⟨W.heap.size + 1 + 1, 0, none⟩), .int .i64 x, .func (.yield l) #[] #[], .int .i64 (k : Int), .bool true, .bool false, .pointer (some ⟨A, 0, none⟩), .int .i64 (k : Int), .func (.func 59) #[] #[.pointer (some ⟨W4.heap.size, 0, none⟩), .pointer (some ⟨W4.heap.size + 1, 0, none⟩)], .int .i64 x, undef, undef, undef, undef, undef], defers := [] }) ?assign ?body ?done
    case hI =>
      rintro S' pre' Wa Wb ⟨h1, h2, h3, h4⟩ hag
      refine ⟨hF _ _ _ _ h1 ⟨hag.os, hag.tape, hag.output, hag.size, fun j o hj ho => hag.same j o hj (by
        rcases ho with ho | ho | ho | ho
        · exact .inl ho
        · exact .inr (.inl ho)
        · exact .inr (.inr (.inl ho))
        · exact .inr (.inr (.inr (by omega))))⟩, ⟨hag.os.trans h2.os, hag.tape.trans h2.tape, hag.output.trans h2.output, Nat.le_trans h2.size hag.size, fun j o hj ho => hag.same j o (h2.same j o hj ho) (.inr (.inr (.inr (by have := blk_lt hj; omega)))), fun j hj => ⟨Nat.lt_of_lt_of_le (h2.sub j hj).1 hag.size, (h2.sub j hj).2⟩⟩, ⟨hag.same _ _ h3.1 (.inr (.inr (.inr (by omega)))), hag.same _ _ h3.2.1 (.inr (.inr (.inr (by omega)))), hag.same _ _ h3.2.2 (.inr (.inr (.inr (by omega))))⟩, h4⟩
    case assign =>
      intro l' m' x Wa K' hK'
      gi_wp2
      exact hK'
    case body =>
      rintro l' m' Sb pre' x Wb hpx ⟨hJb, hKb, hXb, hNb⟩ hSb
      have cb0 : Wb.cell? ⟨W.heap.size, 0, none⟩ = some (.pointer (some ⟨A, 0, none⟩)) := by simp only [World.cell?, hXb.1]; rfl
      have cb1 : Wb.cell? ⟨W.heap.size + 1, 0, none⟩ = some (.func (.yield l) #[] #[]) := by simp only [World.cell?, hXb.2.1]; rfl
      have hx : x ∈ kidsOf ns k := hpx.subset (by simp)
      obtain ⟨hx0, hdx⟩ := HK.out x hx
      obtain ⟨j, rfl⟩ : ∃ j : Nat, x = j := ⟨x.toNat, by omega⟩
      rw [show ((j : Int)).toNat = j by simp] at hdx
      have hGj : ∀ l', l' ≠ [] → l' <+: down ns f j → G (pre ++ [(k : Int)] ++ pre'.flatMap (fun x => down ns f x.toNat) ++ l') := fun l' hl1 hl2 => by
        have := HGG.out ((k : Int) :: (pre'.flatMap (fun x => down ns f x.toNat) ++ l')) (by simp) (by
          obtain ⟨r1, hr1⟩ := hpx
          obtain ⟨r2, hr2⟩ := hl2
          refine ⟨r2 ++ r1.flatMap (fun x => down ns f x.toNat), ?_⟩
          rw [down, ← hr1, List.flatMap_append, List.flatMap_append, List.flatMap_singleton, show ((j : Int)).toNat = j by simp, ← hr2]
          simp [List.append_assoc])
        simpa [List.append_assoc] using this
      have CC := (show Hid _ from IH.out j hdx (m' - 1) Sb _ Wb hGj (hW.trans (hKb.below hW.size)) (by have := hKb.size; omega) (fun i hi => (hKb.sub i hi).1) hJb)
      have HKb := (show Hid (Kz w0.heap.size T S Sb W Wb) from hKb)
      have HNb := (show Hid (∀ j, W.heap.size ≤ j → j < W.heap.size + 3 → ¬ Sb j) from hNb)
      have hlb := blk_lt hXb.2.2
      have HXb := (show Hid (TellBox A l W.heap.size Wb) from hXb)
      clear hJb hKb hXb hNb hGj hpx
      gi_wp2
      refine ⟨trivial, (fun h => by cases h), (CallsIn.inRound l' CC.out).mono ?_⟩
      rintro e Wc ⟨rfl, Sc, hJc, hKc⟩
      have hKc' := HKb.out.trans hKc
      have hXc := TellBox.kz HXb.out hKc HNb.out hT
      have hNc : ∀ i, W.heap.size ≤ i → i < W.heap.size + 3 → ¬ Sc i := fun i h1 h2 hi => by
        rcases (hKc.sub i hi).2 with h | h
        · exact HNb.out i h1 h2 h
        · omega
      have hJc' : J Sc (pre ++ [(k : Int)] ++ (pre' ++ [(j : Int)]).flatMap (fun x => down ns f x.toNat)) Wc := by simpa [List.flatMap_append, List.append_assoc] using hJc
      have END := (show Hid (∃ S', Kz w0.heap.size T Sb S' Wb Wc ∧ J S' (pre ++ [(k : Int)] ++ (pre' ++ [(j : Int)]).flatMap (fun x => down ns f x.toNat)) Wc ∧ Kz w0.heap.size T S S' W Wc ∧ TellBox A l W.heap.size Wc ∧ ∀ i, W.heap.size ≤ i → i < W.heap.size + 3 → ¬ S' i) from ⟨Sc, hKc, hJc', hKc', hXc, hNc⟩)
      clear hKc hJc hJc' hKc' hXc hNc
      gi_wp2
      simpa using END.out
    case done =>
      rintro D Sd Wd hD ⟨hJd, hKd, hXd, hNd⟩ hKdd hDd
      have cR : Wd.cell? ⟨W.heap.size + 1 + 1, 0, none⟩ = some (.bool false) := by simp only [World.cell?, hXd.2.2]; rfl
      have fR : Wd.frozen? ⟨W.heap.size + 1 + 1, 0, none⟩ = false := by simp [World.frozen?, hXd.2.2]
      have hds : (Wd.setCell ⟨W.heap.size + 1 + 1, 0, none⟩ (.bool true)).heap[D]? = some (.deferred (some [])) := (KeepsOthers.setCell Wd ⟨W.heap.size + 1 + 1, 0, none⟩ (.bool true)).same D _ hDd rfl
      have gR := setCell_at (k := 0) (u := .bool true) hXd.2.2
      gi_wp2
      refine ⟨by simp, .inl ⟨_, _, rfl, run_takeDeferred hds, ?_⟩⟩
      have hne : W.heap.size + 1 + 1 ≠ D := fun e => by rw [← e, hXd.2.2] at hDd; cases hDd
      have gR' : ((Wd.setCell ⟨W.heap.size + 1 + 1, 0, none⟩ (.bool true)).putObj D (.deferred none)).heap[W.heap.size + 1 + 1]? = _ := (World.putObj_heap_other hne).trans gR
      have hc : ((Wd.setCell ⟨W.heap.size + 1 + 1, 0, none⟩ (.bool true)).putObj D (.deferred none)).cell? ⟨W.heap.size + 1 + 1, 0, none⟩ = some (.bool true) := by simp only [World.cell?, gR']; rfl
      have hag1 : Agree w0.heap.size n1 T Sd Wd (Wd.setCell ⟨W.heap.size + 1 + 1, 0, none⟩ (.bool true)) := Agree.own (grown_setCell _ _ _ _) (fun r e => by cases e; exact ⟨by omega, by omega, .inl ⟨hNd _ (by omega) (by omega), fun o ho ⟨_, _, _, e, ht⟩ => by rw [hXd.2.2] at ho; cases ho; cases e; exact hT.2.2 ht⟩⟩)
      have hag2 : Agree w0.heap.size n1 T Sd (Wd.setCell ⟨W.heap.size + 1 + 1, 0, none⟩ (.bool true)) ((Wd.setCell ⟨W.heap.size + 1 + 1, 0, none⟩ (.bool true)).putObj D (.deferred none)) := Agree.own (grownBy_putObj' _ _ _) (fun r e => by cases e; exact ⟨by omega, by omega, .inr ⟨_, hds, rfl⟩⟩)
      have e1 : pre ++ [(k : Int)] ++ List.flatMap (fun x => down ns f x.toNat) (kidsOf ns k) = pre ++ down ns (f + 1) k := by simp [down]
      rw [e1] at hJd
      refine ⟨.bool true, ?_, rfl, Sd, hF _ _ _ _ (hF _ _ _ _ hJd hag1) hag2, ?_⟩
      · simp [results, Try.f27, go_sem, hc]
      · exact (hKd.own (B := W.heap.size) (Nat.le_refl _) (grown_setCell Wd (W.heap.size + 1 + 1) 0 (.bool true)) (fun r e => by cases e; omega)).own (B := W.heap.size) (Nat.le_refl _) (grownBy_putObj' _ _ _) (fun r e => by cases e; omega)

set_option maxHeartbeats 400000 in
/-- What 'from' hands back tells the node and all that stand below it. -/
theorem from_tells2 {w0 w : World} {T : TypeId → Prop} (hT : ¬ T 39 ∧ ¬ T 42 ∧ ¬ T 4) {v : Value} {ns : List PNode} {A Ba Bt f k : Nat} (hn : NodesAt w0 v ns) (hA : A < w0.heap.size) (cA : w0.cell? ⟨A, 0, none⟩ = some v) (hlen : ns.length ≤ 1048576) (hk : deepOk ns f k) (hw : Below w0.heap.size w0 w)
    (ca : w.cell? ⟨Ba, 0, none⟩ = some (.pointer (some ⟨A, 0, none⟩))) (ct : w.cell? ⟨Bt, 0, none⟩ = some (.int .i64 (k : Int))) (hBa : Ba < w.heap.size) (hBt : Bt < w.heap.size) :
    SeqTells2 Try.prog T 26 #[.pointer (some ⟨Ba, 0, none⟩), .pointer (some ⟨Bt, 0, none⟩)] w0.heap.size (down ns f k) w := by
  intro n l n1 J S W hW hn1 hn0 hSW hF hY h0
  have hb : Below w0.heap.size w0 W := hw.trans (hW.mono hw.size)
  have CC := (show Hid _ from tellFrom_in2 hT hn hA cA hlen J hF (fun l => l <+: down ns f k) hY f k hk 4 S [] W (fun l' _ h => by simpa using h) hb hn1 hSW h0)
  have ca' := (hW.cell (p := ⟨Ba, 0, none⟩) hBa).trans ca
  have ct' := (hW.cell (p := ⟨Bt, 0, none⟩) hBt).trans ct
  refine (callsIn_wide (n := n)).2 ((callsIn_wide (n := 5)).1 ?_)
  refine callsIn_of_wp Try.func26 rfl trivial ?_ rfl
  simp only [Try.ntmps26, List.size_toArray, List.length_cons, List.length_nil, Nat.reduceAdd, Nat.reduceSub, Array.replicate_succ, Array.replicate_zero, List.push_toArray, List.append_toArray, List.nil_append, List.cons_append]
  gi_wp2
  refine ⟨trivial, CallsIn.mono CC.out ?_⟩
  rintro e W' ⟨rfl, S', hJ', hK'⟩
  gi_wp2
  go_end0
  exact ⟨⟨_, rfl⟩, S', by simpa using hJ', hK'⟩
end Go.Proofs.Ytckhmolmnlcabaa

/- The text below a node, in plain words. No condition. -/
namespace Go.Proofs.Ytckhmolmnlcabaa
open Go.RowKit
set_option maxRecDepth 100000
set_option linter.unusedVariables false

/-- The bytes of a node's own text. -/
def txL (n : PNode) : List UInt8 := if n.kind = 4 then n.text.data.toList else []
def txAt (ns : List PNode) (k : Nat) : List UInt8 := (ns[k]?.map txL).getD []
theorem txAt_at {ns : List PNode} {k : Nat} (h : k < ns.length) : txAt ns k = txL ns[k] := by simp [txAt, h]
/-- The text of a node and of all that stand below it; f levels at most. -/
def textL (ns : List PNode) : Nat → Nat → List UInt8
  | 0, _ => []
  | f + 1, k => txAt ns k ++ (kidsOf ns k).flatMap fun x => textL ns f x.toNat
theorem text_down (ns : List PNode) : ∀ (f k : Nat), textL ns f k = (down ns f k).flatMap fun x => txAt ns x.toNat
  | 0, k => rfl
  | f + 1, k => by
    rw [textL, down, List.flatMap_cons, List.flatMap_assoc]
    have : (fun x : Int => textL ns f x.toNat) = fun x : Int => (down ns f x.toNat).flatMap fun x => txAt ns x.toNat := funext fun x => text_down ns f x.toNat
    rw [this]
    rfl
theorem deep_more {ns : List PNode} : ∀ (f g k : Nat), f ≤ g → deepOk ns f k → deepOk ns g k
  | 0, _, _, _, h => h.elim
  | f + 1, 0, _, h, _ => by omega
  | f + 1, g + 1, k, hfg, h => ⟨h.1, fun x hx => ⟨(h.2 x hx).1, deep_more f g x.toNat (by omega) (h.2 x hx).2⟩⟩
theorem text_deep {ns : List PNode} : ∀ (f g k : Nat), f ≤ g → deepOk ns f k → textL ns g k = textL ns f k
  | 0, _, _, _, h => h.elim
  | f + 1, 0, _, h, _ => by omega
  | f + 1, g + 1, k, hfg, h => by
    rw [textL, textL]
    congr 1
    have : ∀ (l : List Int), (∀ x ∈ l, textL ns g x.toNat = textL ns f x.toNat) → l.flatMap (fun x => textL ns g x.toNat) = l.flatMap (fun x => textL ns f x.toNat) := fun l hl => by
      induction l with
      | nil => rfl
      | cons a l ih => rw [List.flatMap_cons, List.flatMap_cons, hl a (by simp), ih (fun x hx => hl x (by simp [hx]))]
    exact this _ fun x hx => text_deep f g x.toNat (by omega) (h.2 x hx).2
theorem tree_deep {ns : List PNode} (h : TreeOkP ns) {k : Nat} (hk : k < ns.length) : deepOk ns ns.length k := by
  obtain ⟨d, hd⟩ := h.linked k hk
  have hlt := dep_lt h.fit hd
  exact deep_more (ns.length - d) ns.length k (by omega) (dep_deep h.fit (ns.length - d) d k (by omega) hd)
/-- What stands below stands deeper. -/
theorem down_deeper {ns : List PNode} (hf : KidsFit ns) : ∀ (f d s : Nat), dep ns d s → ∀ x ∈ down ns f s, 0 ≤ x ∧ ∃ e, d ≤ e ∧ dep ns e x.toNat
  | 0, d, s, h, x, hx => by cases hx
  | f + 1, d, s, h, x, hx => by
    rw [down, List.mem_cons] at hx
    rcases hx with rfl | hx
    · exact ⟨by omega, d, Nat.le_refl _, by simpa using h⟩
    · obtain ⟨y, hy, hx⟩ := List.mem_flatMap.mp hx
      obtain ⟨j1, j2, j3, j4⟩ := fit_kid hf hy
      have hd : dep ns (d + 1) y.toNat := ⟨s, h, by rw [Int.toNat_of_nonneg j2]; exact hy⟩
      obtain ⟨h0, e, he, hde⟩ := down_deeper hf f (d + 1) y.toNat hd x hx
      exact ⟨h0, e, by omega, hde⟩
theorem down_once {ns : List PNode} (hf : KidsFit ns) {f s d : Nat} (hs : dep ns d s) (hdp : deepOk ns f s) : ∀ (e i : Nat), dep ns e i → (down ns f s).count (i : Int) ≤ 1
  | 0, i, h => by
    have hk : ∀ p, (i : Int) ∉ kidsOf ns p := fun p hp => by
      have := (fit_kid hf hp).2.2.2
      simp only [Int.toNat_natCast] at this
      rw [h.2] at this
      omega
    rw [down_root hf hk f s hdp]
    split <;> omega
  | e + 1, i, h => by
    obtain ⟨p, hp, hk⟩ := h
    rw [down_count hf hk f s hdp]
    by_cases his : i = s
    · subst his
      have h0 : (down ns f i).count (p : Int) = 0 := by
        rw [List.count_eq_zero]
        intro hm
        obtain ⟨_, e', he', hde⟩ := down_deeper hf f d i hs (p : Int) hm
        simp only [Int.toNat_natCast] at hde
        have e1 := dep_uniq hf e e' p hp hde
        have e2 := dep_uniq hf d (e + 1) i hs ⟨p, hp, hk⟩
        omega
      rw [h0]
      simp
    · rw [if_neg his]
      exact down_once hf hs hdp e p hp
theorem down_few {ns : List PNode} (h : TreeOkP ns) {k : Nat} (hk : k < ns.length) : (down ns ns.length k).length ≤ ns.length := by
  obtain ⟨d, hd⟩ := h.linked k hk
  have hin : ∀ x ∈ down ns ns.length k, 0 ≤ x ∧ x < ns.length ∧ ∃ e, dep ns e x.toNat := down_dep h.fit ns.length d k hd
  refine nodup_le ns.length _ ?_ (fun x hx => ⟨(hin x hx).1, (hin x hx).2.1⟩)
  rw [List.nodup_iff_count]
  intro x
  by_cases hx : x ∈ down ns ns.length k
  · obtain ⟨j1, j2, e, he⟩ := hin x hx
    have := down_once h.fit hd (tree_deep h hk) e x.toNat he
    rwa [Int.toNat_of_nonneg j1] at this
  · rw [List.count_eq_zero.mpr hx]; omega
theorem txL_len {n : PNode} (h : n.text.size ≤ 1048576) : (txL n).length ≤ 1048576 := by
  unfold txL
  split
  · simpa using h
  · simp
theorem flatB_len {l : List Int} {g : Int → List UInt8} {m : Nat} (h : ∀ x, (g x).length ≤ m) : (l.flatMap g).length ≤ l.length * m := by
  induction l with
  | nil => simp
  | cons a l ih =>
    rw [List.flatMap_cons, List.length_append, List.length_cons, Nat.succ_mul]
    have := h a
    omega
theorem txAt_len {ns : List PNode} (h : ∀ n ∈ ns, n.text.size ≤ 1048576) (k : Nat) : (txAt ns k).length ≤ 1048576 := by
  by_cases hk : k < ns.length
  · rw [txAt_at hk]; exact txL_len (h _ (List.getElem_mem hk))
  · simp [txAt, hk]
theorem text_len {ns : List PNode} (h : TreeOkP ns) (hf : ∀ n ∈ ns, n.text.size ≤ 1048576) {k : Nat} (hk : k < ns.length) : (textL ns ns.length k).length ≤ 524288000 := by
  rw [text_down]
  have h1 := flatB_len (l := down ns ns.length k) (g := fun x => txAt ns x.toNat) (fun x => txAt_len hf x.toNat)
  have h2 := down_few h hk
  have h3 := h.most
  have : (down ns ns.length k).length * 1048576 ≤ 500 * 1048576 := Nat.mul_le_mul_right _ (by omega)
  omega
end Go.Proofs.Ytckhmolmnlcabaa
