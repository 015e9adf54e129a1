/- The program's cutter: its states run, one behind the other, from the table. -/
import Derived.Test.YtggfifchkecnjaaGreatDoorY26
import Derived.Test.YtggfifchkecnjaaGreatDoorY27
namespace Go.Proofs.YtggfifchkecnjaaGreatDoor
open Go.RowKit
set_option maxRecDepth 100000
set_option linter.unusedVariables false

def cutFns : List Nat := [62, 63, 64, 65, 66, 67, 68, 69, 70, 71, 72, 73, 74, 75, 76]
def cutTab : Array Value := #[.nilFunc, .func (.func 62) #[] #[], .func (.func 63) #[] #[], .func (.func 64) #[] #[], .func (.func 65) #[] #[], .func (.func 66) #[] #[], .func (.func 67) #[] #[], .func (.func 68) #[] #[], .func (.func 69) #[] #[], .func (.func 70) #[] #[], .func (.func 71) #[] #[], .func (.func 72) #[] #[], .func (.func 73) #[] #[], .func (.func 74) #[] #[], .func (.func 75) #[] #[], .func (.func 76) #[] #[]]
theorem cutTab_at (n : Nat) (h0 : 0 < n) (h : n < 16) : cutTab[n]? = some (.func (.func (cutFns.getD (n - 1) 0)) #[] #[]) := by
  have : ∀ n, n < 16 → 0 < n → cutTab[n]? = some (.func (.func (cutFns.getD (n - 1) 0)) #[] #[]) := by
    intro n hn h0
    rcases (show n = 1 ∨ n = 2 ∨ n = 3 ∨ n = 4 ∨ n = 5 ∨ n = 6 ∨ n = 7 ∨ n = 8 ∨ n = 9 ∨ n = 10 ∨ n = 11 ∨ n = 12 ∨ n = 13 ∨ n = 14 ∨ n = 15 by omega) with rfl | rfl | rfl | rfl | rfl | rfl | rfl | rfl | rfl | rfl | rfl | rfl | rfl | rfl | rfl <;> rfl
  exact this n h h0

theorem cutFns_call (n : Nat) (h0 : 0 < n) (h : n < 16) (args : Array Value) (w : World) : (callFunc (cutFns.getD (n - 1) 0) args).run Tryz.prog w = .ok (.enter (cutFns.getD (n - 1) 0) args) w := by
  rcases (show n = 1 ∨ n = 2 ∨ n = 3 ∨ n = 4 ∨ n = 5 ∨ n = 6 ∨ n = 7 ∨ n = 8 ∨ n = 9 ∨ n = 10 ∨ n = 11 ∨ n = 12 ∨ n = 13 ∨ n = 14 ∨ n = 15 by omega) with rfl | rfl | rfl | rfl | rfl | rfl | rfl | rfl | rfl | rfl | rfl | rfl | rfl | rfl | rfl
  · exact Tryz.call62 args w
  · exact Tryz.call63 args w
  · exact Tryz.call64 args w
  · exact Tryz.call65 args w
  · exact Tryz.call66 args w
  · exact Tryz.call67 args w
  · exact Tryz.call68 args w
  · exact Tryz.call69 args w
  · exact Tryz.call70 args w
  · exact Tryz.call71 args w
  · exact Tryz.call72 args w
  · exact Tryz.call73 args w
  · exact Tryz.call74 args w
  · exact Tryz.call75 args w
  · exact Tryz.call76 args w

theorem cutStates_any (w : World) : Calls Tryz.prog 41 #[] w fun e w' => e = .returned (.agg cutTab) ∧ Below w.heap.size w w' := by
  have hz : (w.alloc (.cells cutTab 65)).heap[w.heap.size]? = some (.cells cutTab 65 (0, 0)) := heap_alloc_new _ _
  unfold cutTab at hz ⊢
  go_enter Tryz.func41, Tryz.ntmps41
  go_wp2
  (try simp only [Exit.inBlock, Exit.then])
  refine bodyPost_ret (results_cell_row rfl _ _ w.heap.size 65 _ (0, 0) _ rfl hz Tryz.underlying65 rfl rfl) rfl ?_
  exact ⟨rfl, (Below.refl _ _).alloc (Nat.le_refl _) _⟩

structure TokD where
  k : Int
  nm : ByteArray
  rs : List (ByteArray × ByteArray)
  tx : ByteArray
  sf : Bool

def TokIs (B : Nat) (w : World) (u : Value) (t : TokD) : Prop := ∃ va, u = tokVal t.k t.nm va t.tx t.sf ∧ w.ownsRow B 81 2 va t.rs.length (pairCells t.rs)

def Goes (w0 : World) (g : Nat) (v : Value) (xs : List Int) (s : ByteArray) (t : TokD) (j : Nat) : Nat → Nat → Nat → Prop
  | 0, _, _ => False
  | m + 1, n, i => (0 < n ∧ n < 16) ∧ ∀ w, Cut w0 g v xs i w → Calls Tryz.prog (cutFns.getD (n - 1) 0) #[cutVal v g s] w fun e w' => ∃ u t' n' i', e = .returned (.tuple #[u, .int .i64 (n' : Nat)]) ∧ TokIs w.heap.size w' u t' ∧ Cut w0 g v xs i' w' ∧ w.grownBy w' (some g) ∧ (n' = 0 ∧ t' = t ∧ i' = j ∨ 0 < n' ∧ Goes w0 g v xs s t j m n' i')

theorem goes_succ {w0 : World} {g : Nat} {v : Value} {xs : List Int} {s : ByteArray} {t : TokD} {j m n i : Nat} (h : Goes w0 g v xs s t j m n i) : ∃ k, m = k + 1 ∧ (0 < n ∧ n < 16) ∧ ∀ w, Cut w0 g v xs i w → Calls Tryz.prog (cutFns.getD (n - 1) 0) #[cutVal v g s] w fun e w' => ∃ u t' n' i', e = .returned (.tuple #[u, .int .i64 (n' : Nat)]) ∧ TokIs w.heap.size w' u t' ∧ Cut w0 g v xs i' w' ∧ w.grownBy w' (some g) ∧ (n' = 0 ∧ t' = t ∧ i' = j ∨ 0 < n' ∧ Goes w0 g v xs s t j k n' i') := by
  cases m with
  | zero => exact absurd h (by unfold Goes; exact id)
  | succ k => unfold Goes at h; exact ⟨k, rfl, h.1, h.2⟩

structure Run (w0 : World) (g : Nat) (v : Value) (xs : List Int) (s : ByteArray) (w : World) (T : Nat) (i : Nat) (wr : World) : Prop where
  cut : Cut w0 g v xs i wr
  gro : w.grownBy wr (some g)
  c : wr.heap[w.heap.size]? = some (.cells #[v, .pointer (some ⟨g, 0, none⟩), .string s] 47 (0, 0))
  r : wr.heap[w.heap.size + 1]? = some (.cells #[.int .i64 0, .string ⟨#[]⟩, .slice none 0 0, .string ⟨#[]⟩, .bool false] 30 (0, 0))
  t : wr.heap[T]? = some (.cells cutTab 65 (0, 0))
  lt : w.heap.size + 1 < T
  le : w0.heap.size ≤ w.heap.size

theorem tokSet_row {w : World} {B b : Nat} {va : Value} {rs : List (ByteArray × ByteArray)} (h : w.ownsRow B 81 2 va rs.length (pairCells rs)) {cs : Array Value} {ty : TypeId} (hb : w.heap[b]? = some (.cells cs ty (0, 0))) (hty : ty ≠ 81) (k : Int) (nm : ByteArray) (vb : Value) (tx : ByteArray) (sf : Bool) :
    (tokSet w b k nm vb tx sf).ownsRow B 81 2 va rs.length (pairCells rs) := by
  have hne : ∀ j, va.ownBlock = some j → j ≠ b := by
    intro j hj e
    subst e
    rcases h.2 with ⟨rfl, _⟩ | ⟨g, cap, cur, rfl, _, hgb, _⟩
    · simp [Value.ownBlock] at hj
    · simp [Value.ownBlock] at hj
      subst hj
      rw [hgb] at hb
      injection hb with hb
      injection hb with _ hb _
      exact hty hb.symm
  unfold tokSet
  exact row_set (row_set (row_set (row_set (row_set h hne) hne) hne) hne) hne

theorem row_slice {w : World} {B n size : Nat} {e : TypeId} {va : Value} {xs : List Value} (h : w.ownsRow B e size va n xs) : ∃ a l c, va = .slice a l c := by
  rcases h.2 with ⟨rfl, _⟩ | ⟨g, cap, cur, rfl, _⟩
  · exact ⟨_, _, _, rfl⟩
  · exact ⟨_, _, _, rfl⟩

theorem least_exists {P : Nat → Prop} : ∀ m, P m → ∃ k, P k ∧ ∀ l, P l → k ≤ l := by
  intro m
  induction m using Nat.strongRecOn with
  | ind m ih =>
    intro hm
    by_cases h : ∃ l, l < m ∧ P l
    · obtain ⟨l, hl, hp⟩ := h; exact ih l hl hp
    · exact ⟨m, hm, fun l hl => by
        by_cases hlm : m ≤ l
        · exact hlm
        · exact absurd ⟨l, by omega, hl⟩ h⟩
theorem least_spec {P : Nat → Prop} (h : ∃ m, P m) : P (Classical.epsilon fun m => P m ∧ ∀ l, P l → m ≤ l) := by
  obtain ⟨m, hm⟩ := h
  exact (Classical.epsilon_spec (least_exists m hm)).1
theorem least_le {P : Nat → Prop} {k : Nat} (h : P k) : (Classical.epsilon fun m => P m ∧ ∀ l, P l → m ≤ l) ≤ k := (Classical.epsilon_spec (least_exists k h)).2 k h
theorem least_get {P : Nat → Prop} (h : ∃ m, P m) : ∃ m, (Classical.epsilon fun m => P m ∧ ∀ l, P l → m ≤ l) = m ∧ P m := ⟨_, rfl, least_spec h⟩

def RunI (w0 : World) (g : Nat) (v : Value) (xs : List Int) (s : ByteArray) (t : TokD) (j : Nat) (w : World) (T : Nat) (m : Nat) (st : Value) (wr : World) : Prop :=
  ∃ (n i : Nat) (t' : TokD) (va : Value), st = .int .i64 (n : Nat) ∧ Run w0 g v xs s w T i wr ∧ wr.heap[T + 1]? = some (.cells #[.int .i64 t'.k, .string t'.nm, va, .string t'.tx, .bool t'.sf] 30 (0, 0)) ∧ wr.ownsRow w.heap.size 81 2 va t'.rs.length (pairCells t'.rs) ∧ (n = 0 ∧ t' = t ∧ i = j ∨ 0 < n ∧ Goes w0 g v xs s t j m n i)

theorem cell_block {w : World} {b k : Nat} {cs : Array Value} {ty : TypeId} (h : w.heap[b]? = some (.cells cs ty (0, 0))) {x : Value} (hx : cs[k]? = some x) : w.cell? ⟨b, k, none⟩ = some x := by simp only [World.cell?, h]; exact hx

def RoundS (v : Value) (g : Nat) (s : ByteArray) (w : World) (T n f : Nat) (w' : World) : Prop :=
  w'.cell? ⟨T, n, none⟩ = some (.func (.func f) #[] #[]) ∧ w'.cell? ⟨w.heap.size, 0, none⟩ = some v ∧ w'.cell? ⟨w.heap.size, 1, none⟩ = some (.pointer (some ⟨g, 0, none⟩)) ∧ w'.cell? ⟨w.heap.size, 2, none⟩ = some (.string s)
theorem roundS {v : Value} {g : Nat} {s : ByteArray} {w w' : World} {T n f : Nat} (hc : w'.heap[w.heap.size]? = some (.cells #[v, .pointer (some ⟨g, 0, none⟩), .string s] 47 (0, 0))) (ht : w'.heap[T]? = some (.cells cutTab 65 (0, 0))) (hf : cutTab[n]? = some (.func (.func f) #[] #[])) : RoundS v g s w T n f w' :=
  ⟨cell_block ht hf, cell_block hc rfl, cell_block hc rfl, cell_block hc rfl⟩

theorem Run.step {w0 : World} {g : Nat} {v : Value} {xs : List Int} {s : ByteArray} {w : World} {T i j : Nat} {wr w' : World} (h : Run w0 g v xs s w T i wr) {cs : Array Value} (hk : wr.heap[T + 1]? = some (.cells cs 30 (0, 0))) (hc : Cut w0 g v xs j w') (hg : wr.drew.grownBy w' (some g)) :
    Run w0 g v xs s w T j w' ∧ w'.heap[T + 1]? = some (.cells cs 30 (0, 0)) := by
  have hl := h.cut.lt
  have e : ∀ (b : Nat) (cs : Array Value) (ty : TypeId), ty ≠ 3 → wr.heap[b]? = some (Obj.cells cs ty (0, 0)) → w'.heap[b]? = some (Obj.cells cs ty (0, 0)) := by
    intro b cs ty hty hb
    refine (hg.block b (lt_of_block hb) (fun e => ?_)).trans hb
    injection e with e
    subst e
    have := h.cut.2.2.2.2
    rw [hb] at this
    injection this with this
    injection this with _ this _
    exact hty this
  exact ⟨⟨hc, grown_trans h.gro (grown_trans (below_grown g (below_drewN 1)) hg), e _ _ _ (by decide) h.c, e _ _ _ (by decide) h.r, e _ _ _ (by decide) h.t, h.lt, h.le⟩, e _ _ _ (by decide) hk⟩
theorem Run.store {w0 : World} {g : Nat} {v : Value} {xs : List Int} {s : ByteArray} {w : World} {T i : Nat} {wr : World} (h : Run w0 g v xs s w T i wr) {x0 x1 x2 x3 x4 : Value} (hk : wr.heap[T + 1]? = some (.cells #[x0, x1, x2, x3, x4] 30 (0, 0))) (k : Int) (nm : ByteArray) (va : Value) (tx : ByteArray) (sf : Bool) :
    Run w0 g v xs s w T i (tokSet wr (T + 1) k nm va tx sf) ∧ (tokSet wr (T + 1) k nm va tx sf).heap[T + 1]? = some (.cells #[.int .i64 k, .string nm, va, .string tx, .bool sf] 30 (0, 0)) := by
  have hlt := h.lt
  have hgT : g ≠ T + 1 := by
    intro e
    have := h.cut.2.2.2.2
    rw [e, hk] at this
    injection this with this
    injection this with _ this _
    exact absurd this (by decide)
  have hle := h.le
  have hw : w0.heap.size ≤ T + 1 := by omega
  exact ⟨⟨tokSet_cut h.cut hw hgT .., tokSet_grown h.gro (by omega) .., (tokSet_other (by omega) ..).trans h.c, (tokSet_other (by omega) ..).trans h.r, (tokSet_other (by omega) ..).trans h.t, h.lt, h.le⟩, tokSet_block hk ..⟩

set_option maxHeartbeats 2000000 in
theorem run_any {w0 : World} {g : Nat} {v : Value} {xs : List Int} {s : ByteArray} {t : TokD} {j m n i : Nat} (hgo : Goes w0 g v xs s t j m n i) {w : World} (h : Cut w0 g v xs i w) :
    Calls Tryz.prog 23 #[cutVal v g s, .int .i64 n] w fun e w' => ∃ u, e = .returned u ∧ TokIs w.heap.size w' u t ∧ Cut w0 g v xs j w' ∧ w.grownBy w' (some g) := by
  have hlt := h.lt
  have hle0 := h.2.2.1.size
  obtain ⟨wx, hwx⟩ : ∃ wx, wx = (w.alloc (.cells #[v, .pointer (some ⟨g, 0, none⟩), .string s] 47)).alloc (.cells #[.int .i64 0, .string ⟨#[]⟩, .slice none 0 0, .string ⟨#[]⟩, .bool false] 30) := ⟨_, rfl⟩
  have bx : Below w.heap.size w wx := by rw [hwx]; exact ((Below.refl _ _).alloc (Nat.le_refl _) _).alloc (by simp) _
  have hc : wx.heap[w.heap.size]? = some (.cells #[v, .pointer (some ⟨g, 0, none⟩), .string s] 47) := by
    rw [hwx]; exact (heap_alloc_old _ _ (by simp)).trans (heap_alloc_new _ _)
  have hr : wx.heap[w.heap.size + 1]? = some (.cells #[.int .i64 0, .string ⟨#[]⟩, .slice none 0 0, .string ⟨#[]⟩, .bool false] 30) := by
    rw [hwx]
    have := heap_alloc_new (w.alloc (.cells #[v, .pointer (some ⟨g, 0, none⟩), .string s] 47)) (.cells #[.int .i64 0, .string ⟨#[]⟩, .slice none 0 0, .string ⟨#[]⟩, .bool false] 30)
    simpa using this
  have cx := h.below bx
  have HC := (show Hid _ from hc)
  have HR := (show Hid _ from hr)
  have HGO := (show Hid (Goes w0 g v xs s t j m n i) from hgo)
  clear hc hr h hgo
  unfold cutVal
  go_enter Tryz.func23, Tryz.ntmps23
  go_wp2_with fail
  rw [← hwx]
  go_at_call 41
  refine (cutStates_any _).mono ?_
  rintro e w2 ⟨rfl, b2⟩
  have hxs : w.heap.size + 2 ≤ wx.heap.size := by rw [hwx]; simp
  obtain ⟨w3, hw3⟩ : ∃ w3, w3 = w2.alloc (.cells cutTab 65) := ⟨_, rfl⟩
  obtain ⟨w4, hw4⟩ : ∃ w4, w4 = w3.alloc (.cells #[.int .i64 0, .string ⟨#[]⟩, .slice none 0 0, .string ⟨#[]⟩, .bool false] 30) := ⟨_, rfl⟩
  have b4 : Below w2.heap.size w2 w4 := by rw [hw4, hw3]; exact ((Below.refl _ _).alloc (Nat.le_refl _) _).alloc (by simp) _
  have ht4 : w4.heap[w2.heap.size]? = some (.cells cutTab 65 (0, 0)) := by rw [hw4, hw3]; exact (heap_alloc_old _ _ (by simp)).trans (heap_alloc_new _ _)
  have hk4 : w4.heap[w2.heap.size + 1]? = some (.cells #[.int .i64 0, .string ⟨#[]⟩, .slice none 0 0, .string ⟨#[]⟩, .bool false] 30 (0, 0)) := by
    rw [hw4]
    have := heap_alloc_new w3 (.cells #[.int .i64 0, .string ⟨#[]⟩, .slice none 0 0, .string ⟨#[]⟩, .bool false] 30)
    rw [hw3] at this ⊢
    simpa using this
  have RUN : Hid (Run w0 g v xs s w w2.heap.size i w4) := by
    have hl1 := lt_of_block HC.out
    have hl2 := lt_of_block HR.out
    have hs2 := b2.size
    exact ⟨(cx.below b2).below b4, below_grown g (bx.trans ((b2.trans (b4.mono b2.size)).mono bx.size)), ((b4.block _ (by omega)).trans (b2.block _ hl1)).trans HC.out, ((b4.block _ (by omega)).trans (b2.block _ hl2)).trans HR.out, ht4, by omega, hle0⟩
  have HK4 := (show Hid _ from hk4)
  clear hk4 ht4 b4 b2 cx bx HC HR hwx hxs
  rw [show (Value.agg cutTab) = .agg #[.nilFunc, .func (.func 62) #[] #[], .func (.func 63) #[] #[], .func (.func 64) #[] #[], .func (.func 65) #[] #[], .func (.func 66) #[] #[], .func (.func 67) #[] #[], .func (.func 68) #[] #[], .func (.func 69) #[] #[], .func (.func 70) #[] #[], .func (.func 71) #[] #[], .func (.func 72) #[] #[], .func (.func 73) #[] #[], .func (.func 74) #[] #[], .func (.func 75) #[] #[], .func (.func 76) #[] #[]] from rfl]
  go_wp2
  rw [show (#[.nilFunc, .func (.func 62) #[] #[], .func (.func 63) #[] #[], .func (.func 64) #[] #[], .func (.func 65) #[] #[], .func (.func 66) #[] #[], .func (.func 67) #[] #[], .func (.func 68) #[] #[], .func (.func 69) #[] #[], .func (.func 70) #[] #[], .func (.func 71) #[] #[], .func (.func 72) #[] #[], .func (.func 73) #[] #[], .func (.func 74) #[] #[], .func (.func 75) #[] #[], .func (.func 76) #[] #[]] : Array Value) = cutTab from rfl, ← hw3, ← hw4]
  clear hw3 hw4
  obtain ⟨T, hT⟩ : ∃ T, T = w2.heap.size := ⟨_, rfl⟩
  rw [← hT] at RUN HK4 ⊢
  clear hT
  go_loopw [1] (fun st wr => ∃ m', RunI w0 g v xs s t j w T m' st wr) (fun st wr => Classical.epsilon fun m' => RunI w0 g v xs s t j w T m' st wr ∧ ∀ l, RunI w0 g v xs s t j w T l st wr → m' ≤ l)
  case atStart =>
    obtain ⟨k, hk, hn, _⟩ := goes_succ HGO.out
    exact ⟨m, n, i, ⟨0, ⟨#[]⟩, [], ⟨#[]⟩, false⟩, .slice none 0 0, rfl, RUN.out, HK4.out, ⟨rfl, .inl ⟨rfl, rfl⟩⟩, .inr ⟨hn.1, HGO.out⟩⟩
  case round =>
    clear RUN HK4 HGO
    obtain ⟨m0, hm0, hsp⟩ := least_get hrel
    have HM := (show Hid _ from hm0)
    clear hm0 hrel
    obtain ⟨n0, i0, t0, va0, rfl, run, hK, hrow, hor⟩ := hsp
    obtain ⟨a0, l0, c0, rfl⟩ := row_slice hrow
    rcases hor with ⟨rfl, rfl, rfl⟩ | ⟨hn0, hgo⟩
    · obtain ⟨⟨r0, r1, r2, r3, r4⟩, q0, q1, q2, q3, q4⟩ := tok_cells run.r
      obtain ⟨⟨k0, k1, k2, k3, k4⟩, p0, p1, p2, p3, p4⟩ := tok_cells hK
      have hTl := run.lt
      have hw0 := run.le
      have res := tokSet_block run.r t0.k t0.nm (.slice a0 l0 c0) t0.tx t0.sf
      have cut : Cut w0 g v xs i0 (tokSet wr (w.heap.size + 1) t0.k t0.nm (.slice a0 l0 c0) t0.tx t0.sf) := tokSet_cut run.cut (by omega) (by omega) ..
      have gro : w.grownBy (tokSet wr (w.heap.size + 1) t0.k t0.nm (.slice a0 l0 c0) t0.tx t0.sf) (some g) := tokSet_grown run.gro (by omega) ..
      have row : (tokSet wr (w.heap.size + 1) t0.k t0.nm (.slice a0 l0 c0) t0.tx t0.sf).ownsRow w.heap.size 81 2 (.slice a0 l0 c0) t0.rs.length (pairCells t0.rs) := tokSet_row hrow run.r (by decide) ..
      unfold tokSet at res cut gro row
      have RES := (show Hid _ from res)
      have CUT := (show Hid _ from cut)
      have GRO := (show Hid _ from gro)
      have ROW := (show Hid _ from row)
      clear res cut gro row run hK hrow p0 p1 p2 p3 p4 HM
      have e0 : ((0 : Nat) : Int) = 0 := rfl
      go_wp2
      (try simp only [Exit.inBlock, Exit.then])
      refine bodyPost_ret (results_cell_row rfl _ _ (w.heap.size + 1) 30 #[.int .i64 t0.k, .string t0.nm, (.slice a0 l0 c0), .string t0.tx, .bool t0.sf] (0, 0) _ rfl RES.out Tryz.underlying30 rfl rfl) rfl ?_
      exact ⟨_, rfl, ⟨.slice a0 l0 c0, rfl, ROW.out⟩, CUT.out, GRO.out⟩
    · obtain ⟨k, hk, hn, hf⟩ := goes_succ hgo
      have HF := (show Hid _ from hf)
      obtain ⟨f, hfe⟩ : ∃ f, f = cutFns.getD (n0 - 1) 0 := ⟨_, rfl⟩
      rw [← hfe] at hf
      have ht := cutTab_at n0 hn.1 hn.2
      have hcall := fun args w => cutFns_call n0 hn.1 hn.2 args w
      rw [← hfe] at ht hcall
      have S0 := roundS run.c run.t ht
      have S1 := S0
      unfold RoundS at S1
      obtain ⟨s0, s1, s2, s3⟩ := S1
      have z0 : wr.drew.cell? ⟨T, n0, none⟩ = some (.func (.func f) #[] #[]) ∧ wr.drew.cell? ⟨w.heap.size, 0, none⟩ = some v ∧ wr.drew.cell? ⟨w.heap.size, 1, none⟩ = some (.pointer (some ⟨g, 0, none⟩)) ∧ wr.drew.cell? ⟨w.heap.size, 2, none⟩ = some (.string s) := ⟨s0, s1, s2, s3⟩
      have hne : ((n0 : Int) == 0) = false := by simp; omega
      have hn1 : (n0 : Int) < 16 := by omega
      have ht1 := (show Hid _ from ht)
      clear hfe hgo ht
      go_wp2
      go_region_held (fun w' => w'.cell? ⟨T, n0, none⟩ = some (.func (.func f) #[] #[]) ∧ w'.cell? ⟨w.heap.size, 0, none⟩ = some v ∧ w'.cell? ⟨w.heap.size, 1, none⟩ = some (.pointer (some ⟨g, 0, none⟩)) ∧ w'.cell? ⟨w.heap.size, 2, none⟩ = some (.string s))
        (first | with_reducible exact z0 | with_reducible exact z5 | with_reducible exact z6)
        (first | (refine (hf _ (run.cut.below (below_drewN 1))).mono ?_; rintro e w5 ⟨u5, t5, n5, i5, rfl, ⟨va5, rfl, row5⟩, cut5, g5, hor5⟩; obtain ⟨a5, l5, c5, rfl⟩ := row_slice row5; obtain ⟨run5, hk5⟩ := Run.step run hK cut5 g5; have z5 := roundS run5.c run5.t ht1.out; obtain ⟨⟨k0, k1, k2, k3, k4⟩, p0, p1, p2, p3, p4⟩ := tok_cells hk5; obtain ⟨run6, hk6⟩ := Run.store run5 hk5 t5.k t5.nm (.slice a5 l5 c5) t5.tx t5.sf; have z6 := roundS run6.c run6.t ht1.out; unfold RoundS at z5 z6; have row6 := tokSet_row (row_base row5 (show w.heap.size ≤ wr.drew.heap.size from run.gro.size)) hk5 (by decide) t5.k t5.nm (.slice a5 l5 c5) t5.tx t5.sf; unfold tokSet at run6 hk6 z6 row6; have NEW : Hid (RunI w0 g v xs s t j w T k (.int .i64 (n5 : Nat)) (((((w5.setCell ⟨T + 1, 0, none⟩ (.int .i64 t5.k)).setCell ⟨T + 1, 1, none⟩ (.string t5.nm)).setCell ⟨T + 1, 2, none⟩ (.slice a5 l5 c5)).setCell ⟨T + 1, 3, none⟩ (.string t5.tx)).setCell ⟨T + 1, 4, none⟩ (.bool t5.sf))) := ⟨n5, i5, t5, .slice a5 l5 c5, rfl, run6, hk6, row6, hor5⟩; clear run6 hk6 row6 hor5 row5 g5 cut5; unfold tokVal))
      rename_i hh
      clear hh hf HF
      go_wp2
      go_roundw
      case rel => exact ⟨k, NEW.out⟩
      case measure => rw [HM.out, hk]; exact Nat.lt_succ_of_le (least_le NEW.out)
end Go.Proofs.YtggfifchkecnjaaGreatDoor
