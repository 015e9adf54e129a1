import Derived.Test.YtiojilmclocmkaaGreatDoorB14
import Derived.Test.YtiojilmclocmkaaGreatDoorB16
import Derived.Test.YtiojilmclocmkaaGreatDoorICut2
import Derived.Test.YtiojilmclocmkaaGreatDoorB13
/- The laws' helpers on tokens. -/
namespace Go.Proofs.YtiojilmclocmkaaGreatDoor
open Go.RowKit
set_option maxRecDepth 100000
set_option linter.unusedVariables false

theorem row_set {B size n b k : Nat} {e : TypeId} {w : World} {v u : Value} {xs : List Value} (h : w.ownsRow B e size v n xs) (hne : ∀ j, v.ownBlock = some j → j ≠ b) : (w.setCell ⟨b, k, none⟩ u).ownsRow B e size v n xs := by
  obtain ⟨hl, hv | ⟨g, cap, cur, hv, hB, hh, r⟩⟩ := h
  · exact ⟨hl, .inl hv⟩
  · have hg : g ≠ b := hne g (by rw [hv]; rfl)
    exact ⟨hl, .inr ⟨g, cap, cur, hv, hB, (Below.heap_setCell w ⟨b, k, none⟩ u g hg).trans hh, r⟩⟩

end Go.Proofs.YtiojilmclocmkaaGreatDoor

/- The program's cutter: its states run, one behind the other, from the table. -/
namespace Go.Proofs.YtiojilmclocmkaaGreatDoor
open Go.RowKit
set_option maxRecDepth 100000
set_option linter.unusedVariables false

/-- The functions of the states. -/
def cutFns : List Nat := [41, 42, 43, 44, 45, 46, 47, 48, 49, 50, 51, 52, 53, 54, 55]
/-- The states in their table. -/
def cutTab : Array Value := #[.nilFunc, .func (.func 41) #[] #[], .func (.func 42) #[] #[], .func (.func 43) #[] #[], .func (.func 44) #[] #[], .func (.func 45) #[] #[], .func (.func 46) #[] #[], .func (.func 47) #[] #[], .func (.func 48) #[] #[], .func (.func 49) #[] #[], .func (.func 50) #[] #[], .func (.func 51) #[] #[], .func (.func 52) #[] #[], .func (.func 53) #[] #[], .func (.func 54) #[] #[], .func (.func 55) #[] #[]]
theorem cutTab_at (n : Nat) (h0 : 0 < n) (h : n < 16) : cutTab[n]? = some (.func (.func (cutFns.getD (n - 1) 0)) #[] #[]) := by
  have : ∀ n, n < 16 → 0 < n → cutTab[n]? = some (.func (.func (cutFns.getD (n - 1) 0)) #[] #[]) := by
    intro n hn h0
    rcases (show n = 1 ∨ n = 2 ∨ n = 3 ∨ n = 4 ∨ n = 5 ∨ n = 6 ∨ n = 7 ∨ n = 8 ∨ n = 9 ∨ n = 10 ∨ n = 11 ∨ n = 12 ∨ n = 13 ∨ n = 14 ∨ n = 15 by omega) with rfl | rfl | rfl | rfl | rfl | rfl | rfl | rfl | rfl | rfl | rfl | rfl | rfl | rfl | rfl <;> rfl
  exact this n h h0

theorem cutFns_call (n : Nat) (h0 : 0 < n) (h : n < 16) (args : Array Value) (w : World) : (callFunc (cutFns.getD (n - 1) 0) args).run Tryz.prog w = .ok (.enter (cutFns.getD (n - 1) 0) args) w := by
  rcases (show n = 1 ∨ n = 2 ∨ n = 3 ∨ n = 4 ∨ n = 5 ∨ n = 6 ∨ n = 7 ∨ n = 8 ∨ n = 9 ∨ n = 10 ∨ n = 11 ∨ n = 12 ∨ n = 13 ∨ n = 14 ∨ n = 15 by omega) with rfl | rfl | rfl | rfl | rfl | rfl | rfl | rfl | rfl | rfl | rfl | rfl | rfl | rfl | rfl
  · exact Tryz.call41 args w
  · exact Tryz.call42 args w
  · exact Tryz.call43 args w
  · exact Tryz.call44 args w
  · exact Tryz.call45 args w
  · exact Tryz.call46 args w
  · exact Tryz.call47 args w
  · exact Tryz.call48 args w
  · exact Tryz.call49 args w
  · exact Tryz.call50 args w
  · exact Tryz.call51 args w
  · exact Tryz.call52 args w
  · exact Tryz.call53 args w
  · exact Tryz.call54 args w
  · exact Tryz.call55 args w

theorem cutStates_any (w : World) : Calls Tryz.prog 30 #[] w fun e w' => e = .returned (.agg cutTab) ∧ Below w.heap.size w w' := by
  have hz : (w.alloc (.cells cutTab 56)).heap[w.heap.size]? = some (.cells cutTab 56 (0, 0)) := heap_alloc_new _ _
  unfold cutTab at hz ⊢
  go_enter Tryz.func30, Tryz.ntmps30
  go_wp2
  (try simp only [Exit.inBlock, Exit.then])
  refine bodyPost_ret (results_cell_row rfl _ _ w.heap.size 56 _ (0, 0) _ rfl hz Tryz.underlying56 rfl rfl) rfl ?_
  exact ⟨rfl, (Below.refl _ _).alloc (Nat.le_refl _) _⟩

/-- A token as a plain value. -/
structure TokD where
  k : Int
  nm : ByteArray
  rs : List (ByteArray × ByteArray)
  tx : ByteArray
  sf : Bool

/-- A value that is a token, whose attributes lie in memory from block B on. -/
def TokIs (B : Nat) (w : World) (u : Value) (t : TokD) : Prop := ∃ va, u = tokVal t.k t.nm va t.tx t.sf ∧ w.ownsRow B 65 2 va t.rs.length (pairCells t.rs)

/-- State n at place i runs, in at most m states, to the token t and the place j. -/
def Goes (w0 : World) (g : Nat) (v : Value) (xs : List Int) (s : ByteArray) (t : TokD) (j : Nat) : Nat → Nat → Nat → Prop
  | 0, _, _ => False
  | m + 1, n, i => (0 < n ∧ n < 16) ∧ ∀ w, Cut w0 g v xs i w → Calls Tryz.prog (cutFns.getD (n - 1) 0) #[cutVal v g s] w fun e w' => ∃ u t' n' i', e = .returned (.tuple #[u, .int .i64 (n' : Nat)]) ∧ TokIs w.heap.size w' u t' ∧ Cut w0 g v xs i' w' ∧ w.grownBy w' (some g) ∧ (n' = 0 ∧ t' = t ∧ i' = j ∨ 0 < n' ∧ Goes w0 g v xs s t j m n' i')

theorem goes_succ {w0 : World} {g : Nat} {v : Value} {xs : List Int} {s : ByteArray} {t : TokD} {j m n i : Nat} (h : Goes w0 g v xs s t j m n i) : ∃ k, m = k + 1 ∧ (0 < n ∧ n < 16) ∧ ∀ w, Cut w0 g v xs i w → Calls Tryz.prog (cutFns.getD (n - 1) 0) #[cutVal v g s] w fun e w' => ∃ u t' n' i', e = .returned (.tuple #[u, .int .i64 (n' : Nat)]) ∧ TokIs w.heap.size w' u t' ∧ Cut w0 g v xs i' w' ∧ w.grownBy w' (some g) ∧ (n' = 0 ∧ t' = t ∧ i' = j ∨ 0 < n' ∧ Goes w0 g v xs s t j k n' i') := by
  cases m with
  | zero => exact absurd h (by unfold Goes; exact id)
  | succ k => unfold Goes at h; exact ⟨k, rfl, h.1, h.2⟩

/-- What stands in memory while the states run. -/
structure Run (w0 : World) (g : Nat) (v : Value) (xs : List Int) (s : ByteArray) (w : World) (T : Nat) (i : Nat) (wr : World) : Prop where
  cut : Cut w0 g v xs i wr
  gro : w.grownBy wr (some g)
  c : wr.heap[w.heap.size]? = some (.cells #[v, .pointer (some ⟨g, 0, none⟩), .string s] 43 (0, 0))
  r : wr.heap[w.heap.size + 1]? = some (.cells #[.int .i64 0, .string ⟨#[]⟩, .slice none 0 0, .string ⟨#[]⟩, .bool false] 28 (0, 0))
  t : wr.heap[T]? = some (.cells cutTab 56 (0, 0))
  lt : w.heap.size + 1 < T
  le : w0.heap.size ≤ w.heap.size

theorem tokSet_row {w : World} {B b : Nat} {va : Value} {rs : List (ByteArray × ByteArray)} (h : w.ownsRow B 65 2 va rs.length (pairCells rs)) {cs : Array Value} {ty : TypeId} (hb : w.heap[b]? = some (.cells cs ty (0, 0))) (hty : ty ≠ 65) (k : Int) (nm : ByteArray) (vb : Value) (tx : ByteArray) (sf : Bool) :
    (tokSet w b k nm vb tx sf).ownsRow B 65 2 va rs.length (pairCells rs) := by
  have hne : ∀ j, va.ownBlock = some j → j ≠ b := by
    intro j hj e
    subst e
    rcases h.2 with ⟨rfl, _⟩ | ⟨g, cap, cur, rfl, _, hgb, _⟩
    · simp [Value.ownBlock] at hj
    · simp [Value.ownBlock] at hj
      subst hj
      rw [hgb] at hb
      injection hb with hb
      injection hb with _ hb _
      exact hty hb.symm
  unfold tokSet
  exact row_set (row_set (row_set (row_set (row_set h hne) hne) hne) hne) hne

theorem row_slice {w : World} {B n size : Nat} {e : TypeId} {va : Value} {xs : List Value} (h : w.ownsRow B e size va n xs) : ∃ a l c, va = .slice a l c := by
  rcases h.2 with ⟨rfl, _⟩ | ⟨g, cap, cur, rfl, _⟩
  · exact ⟨_, _, _, rfl⟩
  · exact ⟨_, _, _, rfl⟩

/-- The least number of which something holds. -/
theorem least_exists {P : Nat → Prop} : ∀ m, P m → ∃ k, P k ∧ ∀ l, P l → k ≤ l := by
  intro m
  induction m using Nat.strongRecOn with
  | ind m ih =>
    intro hm
    by_cases h : ∃ l, l < m ∧ P l
    · obtain ⟨l, hl, hp⟩ := h; exact ih l hl hp
    · exact ⟨m, hm, fun l hl => by
        by_cases hlm : m ≤ l
        · exact hlm
        · exact absurd ⟨l, by omega, hl⟩ h⟩
theorem least_spec {P : Nat → Prop} (h : ∃ m, P m) : P (Classical.epsilon fun m => P m ∧ ∀ l, P l → m ≤ l) := by
  obtain ⟨m, hm⟩ := h
  exact (Classical.epsilon_spec (least_exists m hm)).1
theorem least_le {P : Nat → Prop} {k : Nat} (h : P k) : (Classical.epsilon fun m => P m ∧ ∀ l, P l → m ≤ l) ≤ k := (Classical.epsilon_spec (least_exists k h)).2 k h
theorem least_get {P : Nat → Prop} (h : ∃ m, P m) : ∃ m, (Classical.epsilon fun m => P m ∧ ∀ l, P l → m ≤ l) = m ∧ P m := ⟨_, rfl, least_spec h⟩

/-- At the head of the loop: the state, and what stands in memory; the token that came last. -/
def RunI (w0 : World) (g : Nat) (v : Value) (xs : List Int) (s : ByteArray) (t : TokD) (j : Nat) (w : World) (T : Nat) (m : Nat) (st : Value) (wr : World) : Prop :=
  ∃ (n i : Nat) (t' : TokD) (va : Value), st = .int .i64 (n : Nat) ∧ Run w0 g v xs s w T i wr ∧ wr.heap[T + 1]? = some (.cells #[.int .i64 t'.k, .string t'.nm, va, .string t'.tx, .bool t'.sf] 28 (0, 0)) ∧ wr.ownsRow w.heap.size 65 2 va t'.rs.length (pairCells t'.rs) ∧ (n = 0 ∧ t' = t ∧ i = j ∨ 0 < n ∧ Goes w0 g v xs s t j m n i)

theorem cell_block {w : World} {b k : Nat} {cs : Array Value} {ty : TypeId} (h : w.heap[b]? = some (.cells cs ty (0, 0))) {x : Value} (hx : cs[k]? = some x) : w.cell? ⟨b, k, none⟩ = some x := by simp only [World.cell?, h]; exact hx

/-- The cells that a round reads. -/
def RoundS (v : Value) (g : Nat) (s : ByteArray) (w : World) (T n f : Nat) (w' : World) : Prop :=
  w'.cell? ⟨T, n, none⟩ = some (.func (.func f) #[] #[]) ∧ w'.cell? ⟨w.heap.size, 0, none⟩ = some v ∧ w'.cell? ⟨w.heap.size, 1, none⟩ = some (.pointer (some ⟨g, 0, none⟩)) ∧ w'.cell? ⟨w.heap.size, 2, none⟩ = some (.string s)
theorem roundS {v : Value} {g : Nat} {s : ByteArray} {w w' : World} {T n f : Nat} (hc : w'.heap[w.heap.size]? = some (.cells #[v, .pointer (some ⟨g, 0, none⟩), .string s] 43 (0, 0))) (ht : w'.heap[T]? = some (.cells cutTab 56 (0, 0))) (hf : cutTab[n]? = some (.func (.func f) #[] #[])) : RoundS v g s w T n f w' :=
  ⟨cell_block ht hf, cell_block hc rfl, cell_block hc rfl, cell_block hc rfl⟩

theorem Run.step {w0 : World} {g : Nat} {v : Value} {xs : List Int} {s : ByteArray} {w : World} {T i j : Nat} {wr w' : World} (h : Run w0 g v xs s w T i wr) {cs : Array Value} (hk : wr.heap[T + 1]? = some (.cells cs 28 (0, 0))) (hc : Cut w0 g v xs j w') (hg : wr.drew.grownBy w' (some g)) :
    Run w0 g v xs s w T j w' ∧ w'.heap[T + 1]? = some (.cells cs 28 (0, 0)) := by
  have hl := h.cut.lt
  have e : ∀ (b : Nat) (cs : Array Value) (ty : TypeId), ty ≠ 3 → wr.heap[b]? = some (Obj.cells cs ty (0, 0)) → w'.heap[b]? = some (Obj.cells cs ty (0, 0)) := by
    intro b cs ty hty hb
    refine (hg.block b (lt_of_block hb) (fun e => ?_)).trans hb
    injection e with e
    subst e
    have := h.cut.2.2.2.2
    rw [hb] at this
    injection this with this
    injection this with _ this _
    exact hty this
  exact ⟨⟨hc, grown_trans h.gro (grown_trans (below_grown g (below_drewN 1)) hg), e _ _ _ (by decide) h.c, e _ _ _ (by decide) h.r, e _ _ _ (by decide) h.t, h.lt, h.le⟩, e _ _ _ (by decide) hk⟩
theorem Run.store {w0 : World} {g : Nat} {v : Value} {xs : List Int} {s : ByteArray} {w : World} {T i : Nat} {wr : World} (h : Run w0 g v xs s w T i wr) {x0 x1 x2 x3 x4 : Value} (hk : wr.heap[T + 1]? = some (.cells #[x0, x1, x2, x3, x4] 28 (0, 0))) (k : Int) (nm : ByteArray) (va : Value) (tx : ByteArray) (sf : Bool) :
    Run w0 g v xs s w T i (tokSet wr (T + 1) k nm va tx sf) ∧ (tokSet wr (T + 1) k nm va tx sf).heap[T + 1]? = some (.cells #[.int .i64 k, .string nm, va, .string tx, .bool sf] 28 (0, 0)) := by
  have hlt := h.lt
  have hgT : g ≠ T + 1 := by
    intro e
    have := h.cut.2.2.2.2
    rw [e, hk] at this
    injection this with this
    injection this with _ this _
    exact absurd this (by decide)
  have hle := h.le
  have hw : w0.heap.size ≤ T + 1 := by omega
  exact ⟨⟨tokSet_cut h.cut hw hgT .., tokSet_grown h.gro (by omega) .., (tokSet_other (by omega) ..).trans h.c, (tokSet_other (by omega) ..).trans h.r, (tokSet_other (by omega) ..).trans h.t, h.lt, h.le⟩, tokSet_block hk ..⟩

set_option maxHeartbeats 2000000 in
theorem run_any {w0 : World} {g : Nat} {v : Value} {xs : List Int} {s : ByteArray} {t : TokD} {j m n i : Nat} (hgo : Goes w0 g v xs s t j m n i) {w : World} (h : Cut w0 g v xs i w) :
    Calls Tryz.prog 16 #[cutVal v g s, .int .i64 n] w fun e w' => ∃ u, e = .returned u ∧ TokIs w.heap.size w' u t ∧ Cut w0 g v xs j w' ∧ w.grownBy w' (some g) := by
  have hlt := h.lt
  have hle0 := h.2.2.1.size
  obtain ⟨wx, hwx⟩ : ∃ wx, wx = (w.alloc (.cells #[v, .pointer (some ⟨g, 0, none⟩), .string s] 43)).alloc (.cells #[.int .i64 0, .string ⟨#[]⟩, .slice none 0 0, .string ⟨#[]⟩, .bool false] 28) := ⟨_, rfl⟩
  have bx : Below w.heap.size w wx := by rw [hwx]; exact ((Below.refl _ _).alloc (Nat.le_refl _) _).alloc (by simp) _
  have hc : wx.heap[w.heap.size]? = some (.cells #[v, .pointer (some ⟨g, 0, none⟩), .string s] 43) := by
    rw [hwx]; exact (heap_alloc_old _ _ (by simp)).trans (heap_alloc_new _ _)
  have hr : wx.heap[w.heap.size + 1]? = some (.cells #[.int .i64 0, .string ⟨#[]⟩, .slice none 0 0, .string ⟨#[]⟩, .bool false] 28) := by
    rw [hwx]
    have := heap_alloc_new (w.alloc (.cells #[v, .pointer (some ⟨g, 0, none⟩), .string s] 43)) (.cells #[.int .i64 0, .string ⟨#[]⟩, .slice none 0 0, .string ⟨#[]⟩, .bool false] 28)
    simpa using this
  have cx := h.below bx
  have HC := (show Hid _ from hc)
  have HR := (show Hid _ from hr)
  have HGO := (show Hid (Goes w0 g v xs s t j m n i) from hgo)
  clear hc hr h hgo
  unfold cutVal
  go_enter Tryz.func16, Tryz.ntmps16
  go_wp2_with fail
  rw [← hwx]
  go_at_call 30
  refine (cutStates_any _).mono ?_
  rintro e w2 ⟨rfl, b2⟩
  have hxs : w.heap.size + 2 ≤ wx.heap.size := by rw [hwx]; simp
  obtain ⟨w3, hw3⟩ : ∃ w3, w3 = w2.alloc (.cells cutTab 56) := ⟨_, rfl⟩
  obtain ⟨w4, hw4⟩ : ∃ w4, w4 = w3.alloc (.cells #[.int .i64 0, .string ⟨#[]⟩, .slice none 0 0, .string ⟨#[]⟩, .bool false] 28) := ⟨_, rfl⟩
  have b4 : Below w2.heap.size w2 w4 := by rw [hw4, hw3]; exact ((Below.refl _ _).alloc (Nat.le_refl _) _).alloc (by simp) _
  have ht4 : w4.heap[w2.heap.size]? = some (.cells cutTab 56 (0, 0)) := by rw [hw4, hw3]; exact (heap_alloc_old _ _ (by simp)).trans (heap_alloc_new _ _)
  have hk4 : w4.heap[w2.heap.size + 1]? = some (.cells #[.int .i64 0, .string ⟨#[]⟩, .slice none 0 0, .string ⟨#[]⟩, .bool false] 28 (0, 0)) := by
    rw [hw4]
    have := heap_alloc_new w3 (.cells #[.int .i64 0, .string ⟨#[]⟩, .slice none 0 0, .string ⟨#[]⟩, .bool false] 28)
    rw [hw3] at this ⊢
    simpa using this
  have RUN : Hid (Run w0 g v xs s w w2.heap.size i w4) := by
    have hl1 := lt_of_block HC.out
    have hl2 := lt_of_block HR.out
    have hs2 := b2.size
    exact ⟨(cx.below b2).below b4, below_grown g (bx.trans ((b2.trans (b4.mono b2.size)).mono bx.size)), ((b4.block _ (by omega)).trans (b2.block _ hl1)).trans HC.out, ((b4.block _ (by omega)).trans (b2.block _ hl2)).trans HR.out, ht4, by omega, hle0⟩
  have HK4 := (show Hid _ from hk4)
  clear hk4 ht4 b4 b2 cx bx HC HR hwx hxs
  rw [show (Value.agg cutTab) = .agg #[.nilFunc, .func (.func 41) #[] #[], .func (.func 42) #[] #[], .func (.func 43) #[] #[], .func (.func 44) #[] #[], .func (.func 45) #[] #[], .func (.func 46) #[] #[], .func (.func 47) #[] #[], .func (.func 48) #[] #[], .func (.func 49) #[] #[], .func (.func 50) #[] #[], .func (.func 51) #[] #[], .func (.func 52) #[] #[], .func (.func 53) #[] #[], .func (.func 54) #[] #[], .func (.func 55) #[] #[]] from rfl]
  go_wp2
  rw [show (#[.nilFunc, .func (.func 41) #[] #[], .func (.func 42) #[] #[], .func (.func 43) #[] #[], .func (.func 44) #[] #[], .func (.func 45) #[] #[], .func (.func 46) #[] #[], .func (.func 47) #[] #[], .func (.func 48) #[] #[], .func (.func 49) #[] #[], .func (.func 50) #[] #[], .func (.func 51) #[] #[], .func (.func 52) #[] #[], .func (.func 53) #[] #[], .func (.func 54) #[] #[], .func (.func 55) #[] #[]] : Array Value) = cutTab from rfl, ← hw3, ← hw4]
  clear hw3 hw4
  obtain ⟨T, hT⟩ : ∃ T, T = w2.heap.size := ⟨_, rfl⟩
  rw [← hT] at RUN HK4 ⊢
  clear hT
  go_loopw [1] (fun st wr => ∃ m', RunI w0 g v xs s t j w T m' st wr) (fun st wr => Classical.epsilon fun m' => RunI w0 g v xs s t j w T m' st wr ∧ ∀ l, RunI w0 g v xs s t j w T l st wr → m' ≤ l)
  case atStart =>
    obtain ⟨k, hk, hn, _⟩ := goes_succ HGO.out
    exact ⟨m, n, i, ⟨0, ⟨#[]⟩, [], ⟨#[]⟩, false⟩, .slice none 0 0, rfl, RUN.out, HK4.out, ⟨rfl, .inl ⟨rfl, rfl⟩⟩, .inr ⟨hn.1, HGO.out⟩⟩
  case round =>
    clear RUN HK4 HGO
    obtain ⟨m0, hm0, hsp⟩ := least_get hrel
    have HM := (show Hid _ from hm0)
    clear hm0 hrel
    obtain ⟨n0, i0, t0, va0, rfl, run, hK, hrow, hor⟩ := hsp
    obtain ⟨a0, l0, c0, rfl⟩ := row_slice hrow
    rcases hor with ⟨rfl, rfl, rfl⟩ | ⟨hn0, hgo⟩
    · obtain ⟨⟨r0, r1, r2, r3, r4⟩, q0, q1, q2, q3, q4⟩ := tok_cells run.r
      obtain ⟨⟨k0, k1, k2, k3, k4⟩, p0, p1, p2, p3, p4⟩ := tok_cells hK
      have hTl := run.lt
      have hw0 := run.le
      have res := tokSet_block run.r t0.k t0.nm (.slice a0 l0 c0) t0.tx t0.sf
      have cut : Cut w0 g v xs i0 (tokSet wr (w.heap.size + 1) t0.k t0.nm (.slice a0 l0 c0) t0.tx t0.sf) := tokSet_cut run.cut (by omega) (by omega) ..
      have gro : w.grownBy (tokSet wr (w.heap.size + 1) t0.k t0.nm (.slice a0 l0 c0) t0.tx t0.sf) (some g) := tokSet_grown run.gro (by omega) ..
      have row : (tokSet wr (w.heap.size + 1) t0.k t0.nm (.slice a0 l0 c0) t0.tx t0.sf).ownsRow w.heap.size 65 2 (.slice a0 l0 c0) t0.rs.length (pairCells t0.rs) := tokSet_row hrow run.r (by decide) ..
      unfold tokSet at res cut gro row
      have RES := (show Hid _ from res)
      have CUT := (show Hid _ from cut)
      have GRO := (show Hid _ from gro)
      have ROW := (show Hid _ from row)
      clear res cut gro row run hK hrow p0 p1 p2 p3 p4 HM
      have e0 : ((0 : Nat) : Int) = 0 := rfl
      go_wp2
      (try simp only [Exit.inBlock, Exit.then])
      refine bodyPost_ret (results_cell_row rfl _ _ (w.heap.size + 1) 28 #[.int .i64 t0.k, .string t0.nm, (.slice a0 l0 c0), .string t0.tx, .bool t0.sf] (0, 0) _ rfl RES.out Tryz.underlying28 rfl rfl) rfl ?_
      exact ⟨_, rfl, ⟨.slice a0 l0 c0, rfl, ROW.out⟩, CUT.out, GRO.out⟩
    · obtain ⟨k, hk, hn, hf⟩ := goes_succ hgo
      have HF := (show Hid _ from hf)
      obtain ⟨f, hfe⟩ : ∃ f, f = cutFns.getD (n0 - 1) 0 := ⟨_, rfl⟩
      rw [← hfe] at hf
      have ht := cutTab_at n0 hn.1 hn.2
      have hcall := fun args w => cutFns_call n0 hn.1 hn.2 args w
      rw [← hfe] at ht hcall
      have S0 := roundS run.c run.t ht
      have S1 := S0
      unfold RoundS at S1
      obtain ⟨s0, s1, s2, s3⟩ := S1
      have z0 : wr.drew.cell? ⟨T, n0, none⟩ = some (.func (.func f) #[] #[]) ∧ wr.drew.cell? ⟨w.heap.size, 0, none⟩ = some v ∧ wr.drew.cell? ⟨w.heap.size, 1, none⟩ = some (.pointer (some ⟨g, 0, none⟩)) ∧ wr.drew.cell? ⟨w.heap.size, 2, none⟩ = some (.string s) := ⟨s0, s1, s2, s3⟩
      have hne : ((n0 : Int) == 0) = false := by simp; omega
      have hn1 : (n0 : Int) < 16 := by omega
      have ht1 := (show Hid _ from ht)
      clear hfe hgo ht
      go_wp2
      go_region_held (fun w' => w'.cell? ⟨T, n0, none⟩ = some (.func (.func f) #[] #[]) ∧ w'.cell? ⟨w.heap.size, 0, none⟩ = some v ∧ w'.cell? ⟨w.heap.size, 1, none⟩ = some (.pointer (some ⟨g, 0, none⟩)) ∧ w'.cell? ⟨w.heap.size, 2, none⟩ = some (.string s))
        (first | with_reducible exact z0 | with_reducible exact z5 | with_reducible exact z6)
        (first | (refine (hf _ (run.cut.below (below_drewN 1))).mono ?_; rintro e w5 ⟨u5, t5, n5, i5, rfl, ⟨va5, rfl, row5⟩, cut5, g5, hor5⟩; obtain ⟨a5, l5, c5, rfl⟩ := row_slice row5; obtain ⟨run5, hk5⟩ := Run.step run hK cut5 g5; have z5 := roundS run5.c run5.t ht1.out; obtain ⟨⟨k0, k1, k2, k3, k4⟩, p0, p1, p2, p3, p4⟩ := tok_cells hk5; obtain ⟨run6, hk6⟩ := Run.store run5 hk5 t5.k t5.nm (.slice a5 l5 c5) t5.tx t5.sf; have z6 := roundS run6.c run6.t ht1.out; unfold RoundS at z5 z6; have row6 := tokSet_row (row_base row5 (show w.heap.size ≤ wr.drew.heap.size from run.gro.size)) hk5 (by decide) t5.k t5.nm (.slice a5 l5 c5) t5.tx t5.sf; unfold tokSet at run6 hk6 z6 row6; have NEW : Hid (RunI w0 g v xs s t j w T k (.int .i64 (n5 : Nat)) (((((w5.setCell ⟨T + 1, 0, none⟩ (.int .i64 t5.k)).setCell ⟨T + 1, 1, none⟩ (.string t5.nm)).setCell ⟨T + 1, 2, none⟩ (.slice a5 l5 c5)).setCell ⟨T + 1, 3, none⟩ (.string t5.tx)).setCell ⟨T + 1, 4, none⟩ (.bool t5.sf))) := ⟨n5, i5, t5, .slice a5 l5 c5, rfl, run6, hk6, row6, hor5⟩; clear run6 hk6 row6 hor5 row5 g5 cut5; unfold tokVal))
      rename_i hh
      clear hh hf HF
      go_wp2
      go_roundw
      case rel => exact ⟨k, NEW.out⟩
      case measure => rw [HM.out, hk]; exact Nat.lt_succ_of_le (least_le NEW.out)
end Go.Proofs.YtiojilmclocmkaaGreatDoor

/- The program's NextToken: by the states of the cutter; and in plain text. -/
namespace Go.Proofs.YtiojilmclocmkaaGreatDoor
open Go.RowKit
set_option maxRecDepth 100000
set_option linter.unusedVariables false

theorem nil_row (w : World) (B : Nat) : w.ownsRow B 65 2 (.slice none 0 0) ([] : List (ByteArray × ByteArray)).length (pairCells []) := ⟨rfl, .inl ⟨rfl, rfl⟩⟩

theorem goes_char {w0 : World} {g : Nat} {v : Value} {xs : List Int} {s : ByteArray} {i m : Nat} (hi : i < xs.length) : Goes w0 g v xs s ⟨2, ⟨#[]⟩, [], strOf (put (xs.getD i 0)), false⟩ (i + 1) (m + 1) 6 i := by
  unfold Goes
  refine ⟨⟨by omega, by omega⟩, fun w hc => ?_⟩
  refine (char_any hc s hi).mono ?_
  rintro e w' ⟨rfl, k, gr⟩
  exact ⟨_, ⟨2, ⟨#[]⟩, [], strOf (put (xs.getD i 0)), false⟩, 0, i + 1, rfl, ⟨_, rfl, nil_row _ _⟩, k, gr, .inl ⟨rfl, rfl, rfl⟩⟩
theorem goes_plain {w0 : World} {g : Nat} {v : Value} {xs : List Int} {s : ByteArray} {i m : Nat} (hi : i < xs.length) : Goes w0 g v xs s ⟨2, ⟨#[]⟩, [], strOf (put (xs.getD i 0)), false⟩ (i + 1) (m + 2) 4 i := by
  unfold Goes
  refine ⟨⟨by omega, by omega⟩, fun w hc => ?_⟩
  refine (plain_any w v g s).mono ?_
  rintro e w' ⟨rfl, b⟩
  exact ⟨_, ⟨0, ⟨#[]⟩, [], ⟨#[]⟩, false⟩, 6, i, rfl, ⟨_, rfl, nil_row _ _⟩, hc.below b, below_grown g b, .inr ⟨by omega, goes_char hi⟩⟩

set_option maxHeartbeats 2000000 in
theorem nextToken_of {v : Value} {xs : List Int} {w : World} (h : Sl .i64 w v xs) (s : ByteArray) {i n j m : Nat} {t : TokD} (hi : i < xs.length) (hl : xs.length ≤ 3000) (hn : 0 < n ∧ n ≤ 4) (hgo : ∀ w0 g v, Below w.heap.size w w0 → Goes w0 g v (xs.map clean) s t j m n i) :
    Calls Tryz.prog 6 #[v, .int .i64 i, .int .i64 n, .string s] w fun e w' => ∃ u, e = .returned (.tuple #[u, .int .i64 j]) ∧ TokIs w.heap.size w' u t ∧ Below w.heap.size w w' := by
  have h0 := h
  obtain ⟨a, ca, rfl, _, _, _, _⟩ := h
  have HG := (show Hid _ from hgo)
  rename_i x1 x2 x3 x4
  clear hgo x1 x2 x3 x4
  go_enter Tryz.func6, Tryz.ntmps6
  go_wp2_with fail
  obtain ⟨w1, hw1⟩ : ∃ w1, w1 = (w.alloc (.cells #[.int .i64 0, .string ⟨#[]⟩, .slice none 0 0, .string ⟨#[]⟩, .bool false] 28)).alloc (.cells #[.int .i64 i] 3) := ⟨_, rfl⟩
  have b1 : Below w.heap.size w w1 := by rw [hw1]; exact ((Below.refl _ _).alloc (Nat.le_refl _) _).alloc (by simp) _
  have hr1 : w1.heap[w.heap.size]? = some (.cells #[.int .i64 0, .string ⟨#[]⟩, .slice none 0 0, .string ⟨#[]⟩, .bool false] 28 (0, 0)) := by
    rw [hw1]; exact (heap_alloc_old _ _ (by simp)).trans (heap_alloc_new _ _)
  have hp1 : w1.heap[w.heap.size + 1]? = some (.cells #[.int .i64 i] 3 (0, 0)) := by
    rw [hw1]
    have := heap_alloc_new (w.alloc (.cells #[.int .i64 0, .string ⟨#[]⟩, .slice none 0 0, .string ⟨#[]⟩, .bool false] 28)) (.cells #[.int .i64 i] 3)
    simpa using this
  have HR := (show Hid _ from hr1)
  have HP := (show Hid _ from hp1)
  have h1 := h0.below b1
  rw [← hw1]
  clear hr1 hp1 hw1 h0
  go_at_call 15
  refine (cleanPoints_any h1 (by omega)).mono ?_
  rintro e w2 ⟨u, rfl, o2, b2⟩
  have hml : (xs.map clean).length = xs.length := List.length_map ..
  have hp2 := (b2.block _ (lt_of_block HP.out)).trans HP.out
  have hsz1 := lt_of_block HP.out
  have hap : apart u (w.heap.size + 1) := by
    intro a n c e
    rcases o2.shape with ⟨e', _⟩ | ⟨gg, cp, e', hB, _⟩
    · rw [e'] at e; cases e
    · rw [e'] at e; cases e; show gg ≠ _; omega
  have cut2 : Cut w2 (w.heap.size + 1) u (xs.map clean) i w2 := ⟨hap, o2.sl, ⟨rfl, rfl, rfl, Nat.le_refl _, fun _ _ _ => rfl⟩, ⟨by omega, by omega⟩, hp2⟩
  have hr2 := (b2.block _ (lt_of_block HR.out)).trans HR.out
  have HGO := (show Hid _ from HG.out w2 (w.heap.size + 1) u (b1.trans (b2.mono b1.size)))
  replace b2 := b1.trans (b2.mono b1.size)
  have HR2 := (show Hid _ from hr2)
  obtain ⟨au, cu, eu, _, _, _, _⟩ := o2.sl
  rename_i x1 x2 x3 x4
  rw [hml] at eu
  subst eu
  clear HG HP HR hp2 hr2 b1 h1 o2 hap x1 x2 x3 x4 hsz1
  obtain ⟨w3, hw3⟩ : ∃ w3, w3 = w2.alloc (.cells #[.slice au xs.length cu, .pointer (some ⟨w.heap.size + 1, 0, none⟩), .string s] 43) := ⟨_, rfl⟩
  have b3 : Below w2.heap.size w2 w3 := by rw [hw3]; exact (Below.refl _ _).alloc (Nat.le_refl _) _
  have cut3 := cut2.below b3
  have HR3 := (show Hid _ from (b3.block _ (lt_of_block HR2.out)).trans HR2.out)
  replace b3 := b2.trans (b3.mono b2.size)
  clear cut2 HR2 b2
  have cr := run_any HGO.out cut3
  unfold cutVal at cr
  go_wp2_with fail
  rw [← hw3]
  go_at_call 16
  refine cr.mono ?_
  rintro e w4 ⟨u4, rfl, ⟨va, rfl, row4⟩, cut4, g4⟩
  obtain ⟨a4, l4, c4, rfl⟩ := row_slice row4
  unfold tokVal
  obtain ⟨w5, hw5⟩ : ∃ w5, w5 = w4.alloc (.cells #[.int .i64 t.k, .string t.nm, .slice a4 l4 c4, .string t.tx, .bool t.sf] 28) := ⟨_, rfl⟩
  have b5 : Below w4.heap.size w4 w5 := by rw [hw5]; exact (Below.refl _ _).alloc (Nat.le_refl _) _
  have hk5 : w5.heap[w4.heap.size]? = some (.cells #[.int .i64 t.k, .string t.nm, .slice a4 l4 c4, .string t.tx, .bool t.sf] 28 (0, 0)) := by rw [hw5]; exact heap_alloc_new _ _
  have hr5 := (b5.block _ (Nat.lt_of_lt_of_le (lt_of_block HR3.out) g4.size)).trans ((g4.block _ (lt_of_block HR3.out) (fun e => by injection e with e; omega)).trans HR3.out)
  have cut5 := cut4.below b5
  have row5 := ownsRow_below row4 b5
  have gr5 := grown_below g4 b5
  have hs3 := b3.size
  have bel5 : Below w.heap.size w w5 := ⟨gr5.os.trans b3.os, gr5.tape.trans b3.tape, gr5.output.trans b3.output, Nat.le_trans b3.size gr5.size, fun k hk => (gr5.block k (by omega) (fun e => by injection e with e; omega)).trans (b3.block k hk)⟩
  obtain ⟨⟨k0, k1, k2, k3, k4⟩, _, _, _, _, _⟩ := tok_cells (w := w5.drew) hk5
  obtain ⟨⟨r0, r1, r2, r3, r4⟩, q0, q1, q2, q3, q4⟩ := tok_cells hr5
  have pc : w5.drew.cell? ⟨w.heap.size + 1, 0, none⟩ = some (.int .i64 j) := cut5.cell.1
  have hlt4 : w.heap.size + 1 < w4.heap.size := cut4.lt
  have hk6 : (tokSet w5 w.heap.size t.k t.nm (.slice a4 l4 c4) t.tx t.sf).drew.heap[w4.heap.size]? = _ := (tokSet_other (w := w5) (b := w.heap.size) (j := w4.heap.size) (by omega) t.k t.nm (.slice a4 l4 c4) t.tx t.sf).trans hk5
  have hr6 : (tokSet w5 w.heap.size t.k t.nm (.slice a4 l4 c4) t.tx t.sf).drew.heap[w.heap.size]? = _ := tokSet_block hr5 t.k t.nm (.slice a4 l4 c4) t.tx t.sf
  have hp6 : (tokSet w5 w.heap.size t.k t.nm (.slice a4 l4 c4) t.tx t.sf).drew.heap[w.heap.size + 1]? = _ := (tokSet_other (w := w5) (b := w.heap.size) (j := w.heap.size + 1) (by omega) t.k t.nm (.slice a4 l4 c4) t.tx t.sf).trans cut5.2.2.2.2
  have row6 := ownsRow_below (tokSet_row row5 hr5 (by decide) t.k t.nm (.slice a4 l4 c4) t.tx t.sf) (below_drewN 1)
  have bel6 := (tokSet_below bel5 (Nat.le_refl _) t.k t.nm (.slice a4 l4 c4) t.tx t.sf).trans (below_drewN 1)
  obtain ⟨⟨m0, m1, m2, m3, m4⟩, _, _, _, _, _⟩ := tok_cells hk6
  have mp := cell_block (k := 0) hp6 rfl
  have z0 := And.intro k0 (And.intro k1 (And.intro k2 (And.intro k3 (And.intro k4 pc))))
  have z6 := And.intro m0 (And.intro m1 (And.intro m2 (And.intro m3 (And.intro m4 mp))))
  unfold tokSet at hr6 row6 bel6 z6
  have Z0 := (show Hid _ from z0)
  have Z6 := (show Hid _ from z6)
  clear z0 z6
  have HR6 := (show Hid _ from hr6)
  have HW6 := (show Hid _ from row_base row6 (show w.heap.size ≤ w3.heap.size from b3.size))
  have HB6 := (show Hid _ from bel6)
  clear hr6 row6 bel6 hk6 hp6 m0 m1 m2 m3 m4 mp bel5 gr5 row5 cut5 hr5 hk5 b5 b3 cut4 row4 g4 HR3 cut3 cr HGO k0 k1 k2 k3 k4 pc hs3
  go_wp2
  rw [← hw5]
  clear hw5 hw3
  go_region_held (fun w' => w'.cell? ⟨w4.heap.size, 0, none⟩ = some (.int .i64 t.k) ∧ w'.cell? ⟨w4.heap.size, 1, none⟩ = some (.string t.nm) ∧ w'.cell? ⟨w4.heap.size, 2, none⟩ = some (.slice a4 l4 c4) ∧ w'.cell? ⟨w4.heap.size, 3, none⟩ = some (.string t.tx) ∧ w'.cell? ⟨w4.heap.size, 4, none⟩ = some (.bool t.sf) ∧ w'.cell? ⟨w.heap.size + 1, 0, none⟩ = some (.int .i64 j))
    (first | with_reducible exact Z0.out | exact Z6.out) (fail)
  rename_i hh
  clear hh
  go_wp2
  (try simp only [Exit.inBlock, Exit.then])
  refine bodyPost_ret (tok_res (f := Tryz.f6) (p := 8) (q := 9) rfl (k := t.k) (nm := t.nm) (va := .slice a4 l4 c4) (tx := t.tx) (sf := t.sf) rfl rfl HR6.out) rfl ?_
  exact ⟨_, rfl, ⟨_, rfl, HW6.out⟩, HB6.out⟩
end Go.Proofs.YtiojilmclocmkaaGreatDoor

/- The contract of the program's TokenOk. -/
namespace Go.Proofs.YtiojilmclocmkaaGreatDoor
open Go.RowKit
set_option maxRecDepth 100000
set_option linter.unusedVariables false

theorem doctypeNameOk_any (s : ByteArray) (w : World) (hs : s.size ≤ 1048576) : Calls Tryz.prog 19 #[.string s] w fun e w' => e = .returned (.bool (decide (s.size ≤ 60) && utfOk (bs s))) ∧ Below w.heap.size w w' := by
  have c1 := fun w => textOk_any s w (by omega)
  obtain ⟨u, eu⟩ : ∃ u, u = utfOk (bs s) := ⟨_, rfl⟩
  rw [← eu] at c1 ⊢
  have C1 := (show Hid _ from c1)
  clear c1 eu
  by_cases h60 : s.size ≤ 60
  · rw [decide_eq_true h60]
    go_enter Tryz.func19, Tryz.ntmps19
    go_wp2_with fail
    go_at_call 17
    refine (C1.out _).mono ?_
    rintro e w2 ⟨rfl, b2⟩
    go_wp2
    go_ret
    exact ⟨ret_bool (by simp), b2⟩
  · rw [decide_eq_false h60]
    go_enter Tryz.func19, Tryz.ntmps19
    go_wp2
    go_ret
    exact ⟨ret_bool (by simp), Below.refl _ _⟩

set_option maxHeartbeats 2000000 in
set_option maxRecDepth 100000 in
theorem itok_end {a : Option Addr} {n ca : Nat} {w : World} (nm tx : ByteArray) (sf : Bool) (hn : n ≤ 1048576) :
    Calls Tryz.prog 7 #[tokVal 1 nm (.slice a n ca) tx sf] w fun e w' => e = .returned (.bool (nm.toList.isEmpty && decide (n = 0) && tx.toList.isEmpty && !sf)) ∧ Below w.heap.size w w' := by
  have b1 : Below w.heap.size w ((w.alloc (.cells #[.int .i64 1, .string nm, (.slice a n ca), .string tx, .bool sf] 28)).alloc (.cells #[.int .i64 1, .string nm, (.slice a n ca), .string tx, .bool sf] 28)) := ((Below.refl _ _).alloc (Nat.le_refl _) _).alloc (by simp) _
  have CN := (show Hid (∀ w, Calls Tryz.prog 22 #[.agg #[.int .i64 1, .string nm, (.slice a n ca), .string tx, .bool sf]] w fun e w' => e = .returned (.bool (nm.toList.isEmpty && decide (n = 0) && tx.toList.isEmpty && !sf)) ∧ Below w.heap.size w w') from fun w => hasNothing_any 1 nm a n ca tx sf w (by omega))
  unfold tokVal
  obtain ⟨r, er⟩ : ∃ r, r = (nm.toList.isEmpty && decide (n = 0) && tx.toList.isEmpty && !sf) := ⟨_, rfl⟩
  rw [← er] at CN ⊢
  clear er
  go_enter Tryz.func7, Tryz.ntmps7
  go_wp2_with fail
  go_at_call 22
  refine (CN.out _).mono ?_
  rintro e w2 ⟨rfl, b2⟩
  go_wp2
  go_ret
  exact ⟨rfl, b1.trans (b2.mono b1.size)⟩

set_option maxHeartbeats 2000000 in
set_option maxRecDepth 100000 in
theorem itok_other {a : Option Addr} {n ca : Nat} {w : World} (k : Int) (nm tx : ByteArray) (sf : Bool) (hk : k ≠ 1 ∧ k ≠ 2 ∧ k ≠ 3 ∧ k ≠ 4 ∧ k ≠ 5 ∧ k ≠ 6) :
    Calls Tryz.prog 7 #[tokVal k nm (.slice a n ca) tx sf] w fun e w' => e = .returned (.bool false) ∧ Below w.heap.size w w' := by
  have b1 : Below w.heap.size w ((w.alloc (.cells #[.int .i64 k, .string nm, (.slice a n ca), .string tx, .bool sf] 28)).alloc (.cells #[.int .i64 k, .string nm, (.slice a n ca), .string tx, .bool sf] 28)) := ((Below.refl _ _).alloc (Nat.le_refl _) _).alloc (by simp) _
  unfold tokVal
  obtain ⟨k1, k2, k3, k4, k5, k6⟩ := hk
  have h1 : (k == 1) = false := by simpa using k1
  have h2 : (k == 2) = false := by simpa using k2
  have h3 : (k == 3) = false := by simpa using k3
  have h4 : (k == 4) = false := by simpa using k4
  have h5 : (k == 5) = false := by simpa using k5
  have h6 : (k == 6) = false := by simpa using k6
  go_enter Tryz.func7, Tryz.ntmps7
  go_wp2
  go_ret
  exact ⟨rfl, b1⟩

set_option maxHeartbeats 2000000 in
set_option maxRecDepth 100000 in
theorem itok_comment {a : Option Addr} {n ca : Nat} {w : World} (nm tx : ByteArray) (sf : Bool) (hn : n ≤ 1048576) (ht : tx.size ≤ 1048576) :
    Calls Tryz.prog 7 #[tokVal 3 nm (.slice a n ca) tx sf] w fun e w' => e = .returned (.bool (utfOk (bs tx) && (nm.toList.isEmpty && decide (n = 0) && (⟨#[]⟩ : ByteArray).toList.isEmpty && !sf))) ∧ Below w.heap.size w w' := by
  have b1 : Below w.heap.size w ((w.alloc (.cells #[.int .i64 3, .string nm, (.slice a n ca), .string tx, .bool sf] 28)).alloc (.cells #[.int .i64 3, .string nm, (.slice a n ca), .string tx, .bool sf] 28)) := ((Below.refl _ _).alloc (Nat.le_refl _) _).alloc (by simp) _
  have CN := (show Hid (∀ w, Calls Tryz.prog 22 #[.agg #[.int .i64 3, .string nm, (.slice a n ca), .string (⟨#[]⟩ : ByteArray), .bool sf]] w fun e w' => e = .returned (.bool (nm.toList.isEmpty && decide (n = 0) && (⟨#[]⟩ : ByteArray).toList.isEmpty && !sf)) ∧ Below w.heap.size w w') from fun w => hasNothing_any 3 nm a n ca (⟨#[]⟩ : ByteArray) sf w (by omega))
  unfold tokVal
  have c1 := fun w => textOk_any tx w (by omega)
  obtain ⟨u, eu⟩ : ∃ u, u = utfOk (bs tx) := ⟨_, rfl⟩
  rw [← eu] at c1 ⊢
  have C1 := (show Hid _ from c1)
  obtain ⟨r, er⟩ : ∃ r, r = (nm.toList.isEmpty && decide (n = 0) && (⟨#[]⟩ : ByteArray).toList.isEmpty && !sf) := ⟨_, rfl⟩
  rw [← er] at CN ⊢
  clear c1 eu er
  have hx0 : ((w.alloc (.cells #[.int .i64 3, .string nm, (.slice a n ca), .string tx, .bool sf] 28)).alloc (.cells #[.int .i64 3, .string nm, (.slice a n ca), .string tx, .bool sf] 28)).heap[w.heap.size + 1]? = some (.cells #[.int .i64 3, .string nm, (.slice a n ca), .string tx, .bool sf] 28 (0, 0)) := heap_alloc2_new _ _ _
  have HX0 := (show Hid _ from hx0)
  clear hx0
  go_enter Tryz.func7, Tryz.ntmps7
  go_wp2_with fail
  go_at_call 17
  refine (C1.out _).mono ?_
  rintro e w3 ⟨rfl, b3⟩
  have hx := (b3.block (w.heap.size + 1) (by simp)).trans HX0.out
  have x0 : w3.cell? ⟨w.heap.size + 1, 0, none⟩ = some (.int .i64 3) := by simp only [World.cell?, hx]; rfl
  have f0 : w3.frozen? ⟨w.heap.size + 1, 0, none⟩ = false := by simp only [World.frozen?, hx]; rfl
  have x1 : w3.cell? ⟨w.heap.size + 1, 1, none⟩ = some (.string nm) := by simp only [World.cell?, hx]; rfl
  have f1 : w3.frozen? ⟨w.heap.size + 1, 1, none⟩ = false := by simp only [World.frozen?, hx]; rfl
  have x2 : w3.cell? ⟨w.heap.size + 1, 2, none⟩ = some (.slice a n ca) := by simp only [World.cell?, hx]; rfl
  have f2 : w3.frozen? ⟨w.heap.size + 1, 2, none⟩ = false := by simp only [World.frozen?, hx]; rfl
  have x3 : w3.cell? ⟨w.heap.size + 1, 3, none⟩ = some (.string tx) := by simp only [World.cell?, hx]; rfl
  have f3 : w3.frozen? ⟨w.heap.size + 1, 3, none⟩ = false := by simp only [World.frozen?, hx]; rfl
  have x4 : w3.cell? ⟨w.heap.size + 1, 4, none⟩ = some (.bool sf) := by simp only [World.cell?, hx]; rfl
  have f4 : w3.frozen? ⟨w.heap.size + 1, 4, none⟩ = false := by simp only [World.frozen?, hx]; rfl
  replace b3 := b1.trans (b3.mono b1.size)
  have hlt := lt_of_block hx
  clear hx HX0
  cases u
  · go_wp2
    go_ret
    exact ⟨ret_bool (by simp), b3.setCell (Nat.le_succ _) _⟩
  · go_wp2_with fail
    go_at_call 22
    refine (CN.out _).mono ?_
    rintro e w4 ⟨rfl, b4⟩
    go_wp2
    go_ret
    exact ⟨ret_bool (by simp), (b3.setCell (Nat.le_succ _) _).trans (b4.mono (b3.setCell (Nat.le_succ _) _).size)⟩

set_option maxHeartbeats 2000000 in
set_option maxRecDepth 100000 in
theorem itok_doc {a : Option Addr} {n ca : Nat} {w : World} (nm tx : ByteArray) (sf : Bool) (hn : n ≤ 1048576) (ht : nm.size ≤ 1048576) :
    Calls Tryz.prog 7 #[tokVal 4 nm (.slice a n ca) tx sf] w fun e w' => e = .returned (.bool ((decide (nm.size ≤ 60) && utfOk (bs nm)) && ((⟨#[]⟩ : ByteArray).toList.isEmpty && decide (n = 0) && tx.toList.isEmpty && !sf))) ∧ Below w.heap.size w w' := by
  have b1 : Below w.heap.size w ((w.alloc (.cells #[.int .i64 4, .string nm, (.slice a n ca), .string tx, .bool sf] 28)).alloc (.cells #[.int .i64 4, .string nm, (.slice a n ca), .string tx, .bool sf] 28)) := ((Below.refl _ _).alloc (Nat.le_refl _) _).alloc (by simp) _
  have CN := (show Hid (∀ w, Calls Tryz.prog 22 #[.agg #[.int .i64 4, .string (⟨#[]⟩ : ByteArray), (.slice a n ca), .string tx, .bool sf]] w fun e w' => e = .returned (.bool ((⟨#[]⟩ : ByteArray).toList.isEmpty && decide (n = 0) && tx.toList.isEmpty && !sf)) ∧ Below w.heap.size w w') from fun w => hasNothing_any 4 (⟨#[]⟩ : ByteArray) a n ca tx sf w (by omega))
  unfold tokVal
  have c1 := fun w => doctypeNameOk_any nm w (by omega)
  obtain ⟨u, eu⟩ : ∃ u, u = (decide (nm.size ≤ 60) && utfOk (bs nm)) := ⟨_, rfl⟩
  rw [← eu] at c1 ⊢
  have C1 := (show Hid _ from c1)
  obtain ⟨r, er⟩ : ∃ r, r = ((⟨#[]⟩ : ByteArray).toList.isEmpty && decide (n = 0) && tx.toList.isEmpty && !sf) := ⟨_, rfl⟩
  rw [← er] at CN ⊢
  clear c1 eu er
  have hx0 : ((w.alloc (.cells #[.int .i64 4, .string nm, (.slice a n ca), .string tx, .bool sf] 28)).alloc (.cells #[.int .i64 4, .string nm, (.slice a n ca), .string tx, .bool sf] 28)).heap[w.heap.size + 1]? = some (.cells #[.int .i64 4, .string nm, (.slice a n ca), .string tx, .bool sf] 28 (0, 0)) := heap_alloc2_new _ _ _
  have HX0 := (show Hid _ from hx0)
  clear hx0
  go_enter Tryz.func7, Tryz.ntmps7
  go_wp2_with fail
  go_at_call 19
  refine (C1.out _).mono ?_
  rintro e w3 ⟨rfl, b3⟩
  have hx := (b3.block (w.heap.size + 1) (by simp)).trans HX0.out
  have x0 : w3.cell? ⟨w.heap.size + 1, 0, none⟩ = some (.int .i64 4) := by simp only [World.cell?, hx]; rfl
  have f0 : w3.frozen? ⟨w.heap.size + 1, 0, none⟩ = false := by simp only [World.frozen?, hx]; rfl
  have x1 : w3.cell? ⟨w.heap.size + 1, 1, none⟩ = some (.string nm) := by simp only [World.cell?, hx]; rfl
  have f1 : w3.frozen? ⟨w.heap.size + 1, 1, none⟩ = false := by simp only [World.frozen?, hx]; rfl
  have x2 : w3.cell? ⟨w.heap.size + 1, 2, none⟩ = some (.slice a n ca) := by simp only [World.cell?, hx]; rfl
  have f2 : w3.frozen? ⟨w.heap.size + 1, 2, none⟩ = false := by simp only [World.frozen?, hx]; rfl
  have x3 : w3.cell? ⟨w.heap.size + 1, 3, none⟩ = some (.string tx) := by simp only [World.cell?, hx]; rfl
  have f3 : w3.frozen? ⟨w.heap.size + 1, 3, none⟩ = false := by simp only [World.frozen?, hx]; rfl
  have x4 : w3.cell? ⟨w.heap.size + 1, 4, none⟩ = some (.bool sf) := by simp only [World.cell?, hx]; rfl
  have f4 : w3.frozen? ⟨w.heap.size + 1, 4, none⟩ = false := by simp only [World.frozen?, hx]; rfl
  replace b3 := b1.trans (b3.mono b1.size)
  have hlt := lt_of_block hx
  clear hx HX0
  cases u
  · go_wp2
    go_ret
    exact ⟨ret_bool (by simp), b3.setCell (Nat.le_succ _) _⟩
  · go_wp2_with fail
    go_at_call 22
    refine (CN.out _).mono ?_
    rintro e w4 ⟨rfl, b4⟩
    go_wp2
    go_ret
    exact ⟨ret_bool (by simp), (b3.setCell (Nat.le_succ _) _).trans (b4.mono (b3.setCell (Nat.le_succ _) _).size)⟩

set_option maxHeartbeats 2000000 in
set_option maxRecDepth 100000 in
theorem itok_close {a : Option Addr} {n ca : Nat} {w : World} (nm tx : ByteArray) (sf : Bool) (hn : n ≤ 1048576) (ht : nm.size ≤ 1048576) :
    Calls Tryz.prog 7 #[tokVal 6 nm (.slice a n ca) tx sf] w fun e w' => e = .returned (.bool (nameOk (bs nm) && ((⟨#[]⟩ : ByteArray).toList.isEmpty && decide (n = 0) && tx.toList.isEmpty && !sf))) ∧ Below w.heap.size w w' := by
  have b1 : Below w.heap.size w ((w.alloc (.cells #[.int .i64 6, .string nm, (.slice a n ca), .string tx, .bool sf] 28)).alloc (.cells #[.int .i64 6, .string nm, (.slice a n ca), .string tx, .bool sf] 28)) := ((Below.refl _ _).alloc (Nat.le_refl _) _).alloc (by simp) _
  have CN := (show Hid (∀ w, Calls Tryz.prog 22 #[.agg #[.int .i64 6, .string (⟨#[]⟩ : ByteArray), (.slice a n ca), .string tx, .bool sf]] w fun e w' => e = .returned (.bool ((⟨#[]⟩ : ByteArray).toList.isEmpty && decide (n = 0) && tx.toList.isEmpty && !sf)) ∧ Below w.heap.size w w') from fun w => hasNothing_any 6 (⟨#[]⟩ : ByteArray) a n ca tx sf w (by omega))
  unfold tokVal
  have c1 := fun w => inameOk_any nm w (by omega)
  obtain ⟨u, eu⟩ : ∃ u, u = nameOk (bs nm) := ⟨_, rfl⟩
  rw [← eu] at c1 ⊢
  have C1 := (show Hid _ from c1)
  obtain ⟨r, er⟩ : ∃ r, r = ((⟨#[]⟩ : ByteArray).toList.isEmpty && decide (n = 0) && tx.toList.isEmpty && !sf) := ⟨_, rfl⟩
  rw [← er] at CN ⊢
  clear c1 eu er
  have hx0 : ((w.alloc (.cells #[.int .i64 6, .string nm, (.slice a n ca), .string tx, .bool sf] 28)).alloc (.cells #[.int .i64 6, .string nm, (.slice a n ca), .string tx, .bool sf] 28)).heap[w.heap.size + 1]? = some (.cells #[.int .i64 6, .string nm, (.slice a n ca), .string tx, .bool sf] 28 (0, 0)) := heap_alloc2_new _ _ _
  have HX0 := (show Hid _ from hx0)
  clear hx0
  go_enter Tryz.func7, Tryz.ntmps7
  go_wp2_with fail
  go_at_call 20
  refine (C1.out _).mono ?_
  rintro e w3 ⟨rfl, b3⟩
  have hx := (b3.block (w.heap.size + 1) (by simp)).trans HX0.out
  have x0 : w3.cell? ⟨w.heap.size + 1, 0, none⟩ = some (.int .i64 6) := by simp only [World.cell?, hx]; rfl
  have f0 : w3.frozen? ⟨w.heap.size + 1, 0, none⟩ = false := by simp only [World.frozen?, hx]; rfl
  have x1 : w3.cell? ⟨w.heap.size + 1, 1, none⟩ = some (.string nm) := by simp only [World.cell?, hx]; rfl
  have f1 : w3.frozen? ⟨w.heap.size + 1, 1, none⟩ = false := by simp only [World.frozen?, hx]; rfl
  have x2 : w3.cell? ⟨w.heap.size + 1, 2, none⟩ = some (.slice a n ca) := by simp only [World.cell?, hx]; rfl
  have f2 : w3.frozen? ⟨w.heap.size + 1, 2, none⟩ = false := by simp only [World.frozen?, hx]; rfl
  have x3 : w3.cell? ⟨w.heap.size + 1, 3, none⟩ = some (.string tx) := by simp only [World.cell?, hx]; rfl
  have f3 : w3.frozen? ⟨w.heap.size + 1, 3, none⟩ = false := by simp only [World.frozen?, hx]; rfl
  have x4 : w3.cell? ⟨w.heap.size + 1, 4, none⟩ = some (.bool sf) := by simp only [World.cell?, hx]; rfl
  have f4 : w3.frozen? ⟨w.heap.size + 1, 4, none⟩ = false := by simp only [World.frozen?, hx]; rfl
  replace b3 := b1.trans (b3.mono b1.size)
  have hlt := lt_of_block hx
  clear hx HX0
  cases u
  · go_wp2
    go_ret
    exact ⟨ret_bool (by simp), b3.setCell (Nat.le_succ _) _⟩
  · go_wp2_with fail
    go_at_call 22
    refine (CN.out _).mono ?_
    rintro e w4 ⟨rfl, b4⟩
    go_wp2
    go_ret
    exact ⟨ret_bool (by simp), (b3.setCell (Nat.le_succ _) _).trans (b4.mono (b3.setCell (Nat.le_succ _) _).size)⟩
end Go.Proofs.YtiojilmclocmkaaGreatDoor

/- The contract of the program's TokenOk, of a char and of an open tag, and of any token. -/
namespace Go.Proofs.YtiojilmclocmkaaGreatDoor
open Go.RowKit
set_option maxRecDepth 100000
set_option linter.unusedVariables false

set_option maxHeartbeats 4000000 in
set_option maxRecDepth 100000 in
theorem itok_char {a : Option Addr} {n ca : Nat} {w : World} (nm tx : ByteArray) (sf : Bool) (hn : n ≤ 1048576) (ht : tx.size ≤ 1048576) :
    Calls Tryz.prog 7 #[tokVal 2 nm (.slice a n ca) tx sf] w fun e w' => e = .returned (.bool ((utfOk (bs tx) && decide ((utfRead (bs tx)).length = 1)) && (nm.toList.isEmpty && decide (n = 0) && (⟨#[]⟩ : ByteArray).toList.isEmpty && !sf))) ∧ Below w.heap.size w w' := by
  have b1 : Below w.heap.size w ((w.alloc (.cells #[.int .i64 2, .string nm, (.slice a n ca), .string tx, .bool sf] 28)).alloc (.cells #[.int .i64 2, .string nm, (.slice a n ca), .string tx, .bool sf] 28)) := ((Below.refl _ _).alloc (Nat.le_refl _) _).alloc (by simp) _
  have CN := (show Hid (∀ w, Calls Tryz.prog 22 #[.agg #[.int .i64 2, .string nm, (.slice a n ca), .string (⟨#[]⟩ : ByteArray), .bool sf]] w fun e w' => e = .returned (.bool (nm.toList.isEmpty && decide (n = 0) && (⟨#[]⟩ : ByteArray).toList.isEmpty && !sf)) ∧ Below w.heap.size w w') from fun w => hasNothing_any 2 nm a n ca (⟨#[]⟩ : ByteArray) sf w (by omega))
  unfold tokVal
  obtain ⟨r, er⟩ : ∃ r, r = (nm.toList.isEmpty && decide (n = 0) && (⟨#[]⟩ : ByteArray).toList.isEmpty && !sf) := ⟨_, rfl⟩
  rw [← er] at CN ⊢
  clear er
  have hx0 : ((w.alloc (.cells #[.int .i64 2, .string nm, (.slice a n ca), .string tx, .bool sf] 28)).alloc (.cells #[.int .i64 2, .string nm, (.slice a n ca), .string tx, .bool sf] 28)).heap[w.heap.size + 1]? = some (.cells #[.int .i64 2, .string nm, (.slice a n ca), .string tx, .bool sf] 28 (0, 0)) := heap_alloc2_new _ _ _
  have HX0 := (show Hid _ from hx0)
  have hy0 : ((w.alloc (.cells #[.int .i64 2, .string nm, (.slice a n ca), .string tx, .bool sf] 28)).alloc (.cells #[.int .i64 2, .string nm, (.slice a n ca), .string tx, .bool sf] 28)).heap[w.heap.size]? = some (.cells #[.int .i64 2, .string nm, (.slice a n ca), .string tx, .bool sf] 28 (0, 0)) := (heap_alloc_old _ _ (by simp)).trans (heap_alloc_new _ _)
  have HY0 := (show Hid _ from hy0)
  clear hx0 hy0
  have c1 := fun w => textOk_any tx w (by omega)
  obtain ⟨u, eu⟩ : ∃ u, u = utfOk (bs tx) := ⟨_, rfl⟩
  rw [← eu] at c1 ⊢
  have C1 := (show Hid _ from c1)
  obtain ⟨ds, hds⟩ : ∃ ds, ds = utfRead (bs tx) := ⟨_, rfl⟩
  rw [← hds]
  have HDS := (show Hid (ds = utfRead (bs tx)) from hds)
  clear c1 eu hds
  go_enter Tryz.func7, Tryz.ntmps7
  go_wp2_with fail
  go_at_call 17
  refine (C1.out _).mono ?_
  rintro e w3 ⟨rfl, b3⟩
  have hx := (b3.block (w.heap.size + 1) (by simp)).trans HX0.out
  have hy := (b3.block w.heap.size (by simp; omega)).trans HY0.out
  have x0 : w3.cell? ⟨w.heap.size + 1, 0, none⟩ = some (.int .i64 2) := by simp only [World.cell?, hx]; rfl
  have fx0 : w3.frozen? ⟨w.heap.size + 1, 0, none⟩ = false := by simp only [World.frozen?, hx]; rfl
  have x1 : w3.cell? ⟨w.heap.size + 1, 1, none⟩ = some (.string nm) := by simp only [World.cell?, hx]; rfl
  have fx1 : w3.frozen? ⟨w.heap.size + 1, 1, none⟩ = false := by simp only [World.frozen?, hx]; rfl
  have x2 : w3.cell? ⟨w.heap.size + 1, 2, none⟩ = some (.slice a n ca) := by simp only [World.cell?, hx]; rfl
  have fx2 : w3.frozen? ⟨w.heap.size + 1, 2, none⟩ = false := by simp only [World.frozen?, hx]; rfl
  have x3 : w3.cell? ⟨w.heap.size + 1, 3, none⟩ = some (.string tx) := by simp only [World.cell?, hx]; rfl
  have fx3 : w3.frozen? ⟨w.heap.size + 1, 3, none⟩ = false := by simp only [World.frozen?, hx]; rfl
  have x4 : w3.cell? ⟨w.heap.size + 1, 4, none⟩ = some (.bool sf) := by simp only [World.cell?, hx]; rfl
  have fx4 : w3.frozen? ⟨w.heap.size + 1, 4, none⟩ = false := by simp only [World.frozen?, hx]; rfl
  have y0 : w3.cell? ⟨w.heap.size, 0, none⟩ = some (.int .i64 2) := by simp only [World.cell?, hy]; rfl
  have y1 : w3.cell? ⟨w.heap.size, 1, none⟩ = some (.string nm) := by simp only [World.cell?, hy]; rfl
  have y2 : w3.cell? ⟨w.heap.size, 2, none⟩ = some (.slice a n ca) := by simp only [World.cell?, hy]; rfl
  have y3 : w3.cell? ⟨w.heap.size, 3, none⟩ = some (.string tx) := by simp only [World.cell?, hy]; rfl
  have y4 : w3.cell? ⟨w.heap.size, 4, none⟩ = some (.bool sf) := by simp only [World.cell?, hy]; rfl
  have HX := (show Hid _ from hx)
  replace b3 := b1.trans (b3.mono b1.size)
  have hlt := lt_of_block hx
  clear hx hy HX0 HY0
  cases u
  · go_wp2
    go_ret
    exact ⟨ret_bool (by simp), b3.setCell (Nat.le_succ _) _⟩
  · obtain ⟨cap, w4, hc, hkk, hcap, hm, hb⟩ := conv_str tx w3 (by unfold maxLen; omega)
    have hl := bs_len tx
    have hsl := hkk.sl (n := tx.size) (cap := cap) (by omega) (by omega) hm
    have hu := iread_any hsl (bs_byte tx) (by omega)
    have hdl := utfRead_len (bs tx)
    rw [← HDS.out] at hu hdl
    have hb4 := (hb.block (w.heap.size + 1) hlt).trans HX.out
    have b4 := b3.trans (hb.mono b3.size)
    have hlt4 := lt_of_block hb4
    have HB4 := (show Hid _ from hb4)
    clear hkk hsl hb hb4 HDS x0 x1 x2 x3 x4 fx0 fx1 fx2 fx3 fx4
    go_wp2_with fail
    go_at_call 18
    refine hu.mono ?_
    rintro e w5 ⟨v5, rfl, o5, b5⟩
    have hx := (b5.block (w.heap.size + 1) hlt4).trans HB4.out
    have x0 : w5.cell? ⟨w.heap.size + 1, 0, none⟩ = some (.int .i64 2) := by simp only [World.cell?, hx]; rfl
    have fx0 : w5.frozen? ⟨w.heap.size + 1, 0, none⟩ = false := by simp only [World.frozen?, hx]; rfl
    have x1 : w5.cell? ⟨w.heap.size + 1, 1, none⟩ = some (.string nm) := by simp only [World.cell?, hx]; rfl
    have fx1 : w5.frozen? ⟨w.heap.size + 1, 1, none⟩ = false := by simp only [World.frozen?, hx]; rfl
    have x2 : w5.cell? ⟨w.heap.size + 1, 2, none⟩ = some (.slice a n ca) := by simp only [World.cell?, hx]; rfl
    have fx2 : w5.frozen? ⟨w.heap.size + 1, 2, none⟩ = false := by simp only [World.frozen?, hx]; rfl
    have x3 : w5.cell? ⟨w.heap.size + 1, 3, none⟩ = some (.string tx) := by simp only [World.cell?, hx]; rfl
    have fx3 : w5.frozen? ⟨w.heap.size + 1, 3, none⟩ = false := by simp only [World.frozen?, hx]; rfl
    have x4 : w5.cell? ⟨w.heap.size + 1, 4, none⟩ = some (.bool sf) := by simp only [World.cell?, hx]; rfl
    have fx4 : w5.frozen? ⟨w.heap.size + 1, 4, none⟩ = false := by simp only [World.frozen?, hx]; rfl
    replace b5 := b4.trans (b5.mono b4.size)
    have hsh := o5.shape
    clear hx HB4 o5 b4 y0 y1 y2 y3 y4
    by_cases h1 : ds.length = 1
    · rcases hsh with ⟨rfl, hnil⟩ | ⟨gg, cg, rfl, _⟩
      · rw [hnil] at h1; simp at h1
      · have h1' : ((ds.length : Int) == 1) = true := by rw [beq_iff_eq]; omega
        go_wp2_with fail
        go_at_call 22
        refine (CN.out _).mono ?_
        rintro e w6 ⟨rfl, b6⟩
        go_wp2
        go_ret
        exact ⟨ret_bool (by simp [h1]), (b5.setCell (Nat.le_succ _) _).trans (b6.mono (b5.setCell (Nat.le_succ _) _).size)⟩
    · rcases hsh with ⟨rfl, hnil⟩ | ⟨gg, cg, rfl, _⟩
      · go_wp2
        go_ret
        exact ⟨ret_bool (by simp [h1]), b5.setCell (Nat.le_succ _) _⟩
      · have h1' : ((ds.length : Int) == 1) = false := by rw [beq_eq_false_iff_ne]; omega
        go_wp2
        go_ret
        exact ⟨ret_bool (by simp [h1]), b5.setCell (Nat.le_succ _) _⟩

set_option maxHeartbeats 4000000 in
set_option maxRecDepth 100000 in
theorem itok_open {a : Option Addr} {n ca : Nat} {rs : List (ByteArray × ByteArray)} {w : World} (h : Sv 2 w (.slice a n ca) (pairCells rs)) (nm tx : ByteArray) (sf : Bool) (hf : TokFit nm rs tx) :
    Calls Tryz.prog 7 #[tokVal 5 nm (.slice a n ca) tx sf] w fun e w' => e = .returned (.bool ((nameOk (bs nm) && attrsOk rs) && ((⟨#[]⟩ : ByteArray).toList.isEmpty && decide (0 = 0) && tx.toList.isEmpty && !false))) ∧ Below w.heap.size w w' := by
  have b1 : Below w.heap.size w ((w.alloc (.cells #[.int .i64 5, .string nm, (.slice a n ca), .string tx, .bool sf] 28)).alloc (.cells #[.int .i64 5, .string nm, (.slice a n ca), .string tx, .bool sf] 28)) := ((Below.refl _ _).alloc (Nat.le_refl _) _).alloc (by simp) _
  have CN := (show Hid (∀ w, Calls Tryz.prog 22 #[.agg #[.int .i64 5, .string (⟨#[]⟩ : ByteArray), (.slice none 0 0), .string tx, .bool false]] w fun e w' => e = .returned (.bool ((⟨#[]⟩ : ByteArray).toList.isEmpty && decide (0 = 0) && tx.toList.isEmpty && !false)) ∧ Below w.heap.size w w') from fun w => hasNothing_any 5 (⟨#[]⟩ : ByteArray) none 0 0 tx false w (by omega))
  unfold tokVal
  obtain ⟨r, er⟩ : ∃ r, r = ((⟨#[]⟩ : ByteArray).toList.isEmpty && decide (0 = 0) && tx.toList.isEmpty && !false) := ⟨_, rfl⟩
  rw [← er] at CN ⊢
  clear er
  have hx0 : ((w.alloc (.cells #[.int .i64 5, .string nm, (.slice a n ca), .string tx, .bool sf] 28)).alloc (.cells #[.int .i64 5, .string nm, (.slice a n ca), .string tx, .bool sf] 28)).heap[w.heap.size + 1]? = some (.cells #[.int .i64 5, .string nm, (.slice a n ca), .string tx, .bool sf] 28 (0, 0)) := heap_alloc2_new _ _ _
  have HX0 := (show Hid _ from hx0)
  have hy0 : ((w.alloc (.cells #[.int .i64 5, .string nm, (.slice a n ca), .string tx, .bool sf] 28)).alloc (.cells #[.int .i64 5, .string nm, (.slice a n ca), .string tx, .bool sf] 28)).heap[w.heap.size]? = some (.cells #[.int .i64 5, .string nm, (.slice a n ca), .string tx, .bool sf] 28 (0, 0)) := (heap_alloc_old _ _ (by simp)).trans (heap_alloc_new _ _)
  have HY0 := (show Hid _ from hy0)
  clear hx0 hy0
  have hnm := hf.hnm
  have hl := hf.hrs
  have CA := (show Hid (∀ w', Below w.heap.size w w' → Calls Tryz.prog 21 #[.slice a n ca] w' fun e w'' => e = .returned (.bool (attrsOk rs)) ∧ Below w'.heap.size w' w'') from fun w' hb => iattrsOk_any (h.below hb) (by omega) hf.each)
  have c1 := fun w => inameOk_any nm w (by omega)
  obtain ⟨u, eu⟩ : ∃ u, u = nameOk (bs nm) := ⟨_, rfl⟩
  rw [← eu] at c1 ⊢
  have C1 := (show Hid _ from c1)
  obtain ⟨t, et⟩ : ∃ t, t = attrsOk rs := ⟨_, rfl⟩
  rw [← et] at CA ⊢
  clear c1 eu et h hf
  go_enter Tryz.func7, Tryz.ntmps7
  go_wp2_with fail
  go_at_call 20
  refine (C1.out _).mono ?_
  rintro e w3 ⟨rfl, b3⟩
  have hx := (b3.block (w.heap.size + 1) (by simp)).trans HX0.out
  have hy := (b3.block w.heap.size (by simp; omega)).trans HY0.out
  have x0 : w3.cell? ⟨w.heap.size + 1, 0, none⟩ = some (.int .i64 5) := by simp only [World.cell?, hx]; rfl
  have fx0 : w3.frozen? ⟨w.heap.size + 1, 0, none⟩ = false := by simp only [World.frozen?, hx]; rfl
  have x1 : w3.cell? ⟨w.heap.size + 1, 1, none⟩ = some (.string nm) := by simp only [World.cell?, hx]; rfl
  have fx1 : w3.frozen? ⟨w.heap.size + 1, 1, none⟩ = false := by simp only [World.frozen?, hx]; rfl
  have x2 : w3.cell? ⟨w.heap.size + 1, 2, none⟩ = some (.slice a n ca) := by simp only [World.cell?, hx]; rfl
  have fx2 : w3.frozen? ⟨w.heap.size + 1, 2, none⟩ = false := by simp only [World.frozen?, hx]; rfl
  have x3 : w3.cell? ⟨w.heap.size + 1, 3, none⟩ = some (.string tx) := by simp only [World.cell?, hx]; rfl
  have fx3 : w3.frozen? ⟨w.heap.size + 1, 3, none⟩ = false := by simp only [World.frozen?, hx]; rfl
  have x4 : w3.cell? ⟨w.heap.size + 1, 4, none⟩ = some (.bool sf) := by simp only [World.cell?, hx]; rfl
  have fx4 : w3.frozen? ⟨w.heap.size + 1, 4, none⟩ = false := by simp only [World.frozen?, hx]; rfl
  have y0 : w3.cell? ⟨w.heap.size, 0, none⟩ = some (.int .i64 5) := by simp only [World.cell?, hy]; rfl
  have y1 : w3.cell? ⟨w.heap.size, 1, none⟩ = some (.string nm) := by simp only [World.cell?, hy]; rfl
  have y2 : w3.cell? ⟨w.heap.size, 2, none⟩ = some (.slice a n ca) := by simp only [World.cell?, hy]; rfl
  have y3 : w3.cell? ⟨w.heap.size, 3, none⟩ = some (.string tx) := by simp only [World.cell?, hy]; rfl
  have y4 : w3.cell? ⟨w.heap.size, 4, none⟩ = some (.bool sf) := by simp only [World.cell?, hy]; rfl
  have HX := (show Hid _ from hx)
  replace b3 := b1.trans (b3.mono b1.size)
  have hlt := lt_of_block hx
  clear hx hy HX0 HY0
  cases u
  · go_wp2
    go_ret
    exact ⟨ret_bool (by simp), ((b3.setCell (Nat.le_succ _) _).setCell (Nat.le_succ _) _).setCell (Nat.le_succ _) _⟩
  · clear x0 x1 x2 x3 x4 fx0 fx1 fx2 fx3 fx4
    go_wp2_with fail
    go_at_call 21
    refine (CA.out _ b3).mono ?_
    rintro e w4 ⟨rfl, b4⟩
    have hx := (b4.block (w.heap.size + 1) hlt).trans HX.out
    have x0 : w4.cell? ⟨w.heap.size + 1, 0, none⟩ = some (.int .i64 5) := by simp only [World.cell?, hx]; rfl
    have fx0 : w4.frozen? ⟨w.heap.size + 1, 0, none⟩ = false := by simp only [World.frozen?, hx]; rfl
    have x1 : w4.cell? ⟨w.heap.size + 1, 1, none⟩ = some (.string nm) := by simp only [World.cell?, hx]; rfl
    have fx1 : w4.frozen? ⟨w.heap.size + 1, 1, none⟩ = false := by simp only [World.frozen?, hx]; rfl
    have x2 : w4.cell? ⟨w.heap.size + 1, 2, none⟩ = some (.slice a n ca) := by simp only [World.cell?, hx]; rfl
    have fx2 : w4.frozen? ⟨w.heap.size + 1, 2, none⟩ = false := by simp only [World.frozen?, hx]; rfl
    have x3 : w4.cell? ⟨w.heap.size + 1, 3, none⟩ = some (.string tx) := by simp only [World.cell?, hx]; rfl
    have fx3 : w4.frozen? ⟨w.heap.size + 1, 3, none⟩ = false := by simp only [World.frozen?, hx]; rfl
    have x4 : w4.cell? ⟨w.heap.size + 1, 4, none⟩ = some (.bool sf) := by simp only [World.cell?, hx]; rfl
    have fx4 : w4.frozen? ⟨w.heap.size + 1, 4, none⟩ = false := by simp only [World.frozen?, hx]; rfl
    replace b4 := b3.trans (b4.mono b3.size)
    clear hx HX b3 y0 y1 y2 y3 y4
    cases t
    · go_wp2
      go_ret
      exact ⟨ret_bool (by simp), ((b4.setCell (Nat.le_succ _) _).setCell (Nat.le_succ _) _).setCell (Nat.le_succ _) _⟩
    · have bs4 := ((b4.setCell (p := ⟨w.heap.size + 1, 1, none⟩) (Nat.le_succ _) (.string ⟨#[]⟩)).setCell (p := ⟨w.heap.size + 1, 2, none⟩) (Nat.le_succ _) (.slice none 0 0)).setCell (p := ⟨w.heap.size + 1, 4, none⟩) (Nat.le_succ _) (.bool false)
      go_wp2_with fail
      go_at_call 22
      refine (CN.out _).mono ?_
      rintro e w5 ⟨rfl, b5⟩
      go_wp2
      go_ret
      exact ⟨ret_bool (by simp), bs4.trans (b5.mono bs4.size)⟩

theorem itokenOk_any {a : Option Addr} {ca : Nat} {rs : List (ByteArray × ByteArray)} {w : World} (h : Sv 2 w (.slice a rs.length ca) (pairCells rs)) (k : Int) (nm tx : ByteArray) (sf : Bool) (hf : TokFit nm rs tx) :
    Calls Tryz.prog 7 #[tokVal k nm (.slice a rs.length ca) tx sf] w fun e w' => e = .returned (.bool (tokenOk k nm rs tx sf)) ∧ Below w.heap.size w w' := by
  have e0 : (⟨#[]⟩ : ByteArray).toList.isEmpty = true := by unfold ByteArray.toList; rw [ByteArray.toList.loop]; rfl
  have use : ∀ b, Calls Tryz.prog 7 #[tokVal k nm (.slice a rs.length ca) tx sf] w (fun e w' => e = .returned (.bool b) ∧ Below w.heap.size w w') → b = tokenOk k nm rs tx sf → Calls Tryz.prog 7 #[tokVal k nm (.slice a rs.length ca) tx sf] w fun e w' => e = .returned (.bool (tokenOk k nm rs tx sf)) ∧ Below w.heap.size w w' := fun b h e => e ▸ h
  by_cases k1 : k = 1
  · subst k1
    refine use _ (itok_end nm tx sf hf.hrs) ?_
    unfold tokenOk; simp only [if_true]
    cases nm.toList.isEmpty <;> cases decide (rs.length = 0) <;> cases tx.toList.isEmpty <;> cases sf <;> rfl
  by_cases k2 : k = 2
  · subst k2
    refine use _ (itok_char nm tx sf hf.hrs hf.htx) ?_
    unfold tokenOk; rw [if_neg (by decide), if_pos rfl, e0]
    rcases hu : utfOk (bs tx) with _ | _
    · simp
    · rw [read_ok hu]
      cases nm.toList.isEmpty <;> cases decide (rs.length = 0) <;> cases decide ((dec (bs tx)).length = 1) <;> cases sf <;> rfl
  by_cases k3 : k = 3
  · subst k3
    refine use _ (itok_comment nm tx sf hf.hrs hf.htx) ?_
    unfold tokenOk; rw [if_neg (by decide), if_neg (by decide), if_pos rfl, e0]
    cases nm.toList.isEmpty <;> cases decide (rs.length = 0) <;> cases utfOk (bs tx) <;> cases sf <;> rfl
  by_cases k4 : k = 4
  · subst k4
    refine use _ (itok_doc nm tx sf hf.hrs hf.hnm) ?_
    unfold tokenOk; rw [if_neg (by decide), if_neg (by decide), if_neg (by decide), if_pos rfl, e0]
    cases tx.toList.isEmpty <;> cases decide (rs.length = 0) <;> cases utfOk (bs nm) <;> cases decide (nm.size ≤ 60) <;> cases sf <;> rfl
  by_cases k5 : k = 5
  · subst k5
    refine use _ (itok_open h nm tx sf hf) ?_
    unfold tokenOk; rw [if_neg (by decide), if_neg (by decide), if_neg (by decide), if_neg (by decide), if_pos rfl, e0]
    cases tx.toList.isEmpty <;> cases nameOk (bs nm) <;> cases attrsOk rs <;> rfl
  by_cases k6 : k = 6
  · subst k6
    refine use _ (itok_close nm tx sf hf.hrs hf.hnm) ?_
    unfold tokenOk; rw [if_neg (by decide), if_neg (by decide), if_neg (by decide), if_neg (by decide), if_neg (by decide), if_pos rfl, e0]
    cases tx.toList.isEmpty <;> cases decide (rs.length = 0) <;> cases nameOk (bs nm) <;> cases sf <;> rfl
  · refine use _ (itok_other k nm tx sf ⟨k1, k2, k3, k4, k5, k6⟩) ?_
    unfold tokenOk; rw [if_neg k1, if_neg k2, if_neg k3, if_neg k4, if_neg k5, if_neg k6]
end Go.Proofs.YtiojilmclocmkaaGreatDoor

/- The plain mathematics of FnUtf: of any bytes points alone are read, and they are read again from their own bytes as the same. No condition. -/
namespace Go.Proofs.YtiojilmclocmkaaGreatDoor

theorem tail1 (p lo hi : Int) (r : List Int) : (tailOf p 1 lo hi r).1 = 65533 ∨ ∃ c, lo ≤ c ∧ c ≤ hi ∧ (tailOf p 1 lo hi r).1 = p * 64 + c - 128 := by
  cases r with
  | nil => exact .inl rfl
  | cons c r =>
    by_cases h : lo ≤ c ∧ c ≤ hi
    · rw [tail_in p 0 r h.1 h.2]; exact .inr ⟨c, h.1, h.2, rfl⟩
    · rw [tail_out p 0 r (by omega)]; exact .inl rfl
theorem tail2 (p lo hi : Int) (r : List Int) : (tailOf p 2 lo hi r).1 = 65533 ∨ ∃ c d, lo ≤ c ∧ c ≤ hi ∧ 128 ≤ d ∧ d ≤ 191 ∧ (tailOf p 2 lo hi r).1 = (p * 64 + c - 128) * 64 + d - 128 := by
  cases r with
  | nil => exact .inl rfl
  | cons c r =>
    by_cases h : lo ≤ c ∧ c ≤ hi
    · rw [tail_in p 1 r h.1 h.2]
      rcases tail1 (p * 64 + c - 128) 128 191 r with e | ⟨d, d1, d2, e⟩
      · exact .inl e
      · exact .inr ⟨c, d, h.1, h.2, d1, d2, e⟩
    · rw [tail_out p 1 r (by omega)]; exact .inl rfl
theorem tail3 (p lo hi : Int) (r : List Int) : (tailOf p 3 lo hi r).1 = 65533 ∨ ∃ c d f, lo ≤ c ∧ c ≤ hi ∧ 128 ≤ d ∧ d ≤ 191 ∧ 128 ≤ f ∧ f ≤ 191 ∧ (tailOf p 3 lo hi r).1 = ((p * 64 + c - 128) * 64 + d - 128) * 64 + f - 128 := by
  cases r with
  | nil => exact .inl rfl
  | cons c r =>
    by_cases h : lo ≤ c ∧ c ≤ hi
    · rw [tail_in p 2 r h.1 h.2]
      rcases tail2 (p * 64 + c - 128) 128 191 r with e | ⟨d, f, d1, d2, f1, f2, e⟩
      · exact .inl e
      · exact .inr ⟨c, d, f, h.1, h.2, d1, d2, f1, f2, e⟩
    · rw [tail_out p 2 r (by omega)]; exact .inl rfl

theorem ok_std : pointOk 65533 = true := rfl
theorem stepOf_ok {b : Int} (h0 : 0 ≤ b) (r : List Int) : pointOk (stepOf b r).1 = true := by
  unfold stepOf
  split
  · rw [pointOk_iff]; simp; omega
  split
  · rename_i h
    rcases tail1 (b - 192) (loOf b) (hiOf b) r with e | ⟨c, c1, c2, e⟩
    · rw [e]; rfl
    · rw [loOf_le (by omega) (by omega)] at c1
      rw [hiOf_le (by omega) (by omega)] at c2
      rw [e, pointOk_iff]; omega
  split
  · rename_i h
    rcases tail2 (b - 224) (loOf b) (hiOf b) r with e | ⟨c, d, c1, c2, d1, d2, e⟩
    · rw [e]; rfl
    · have hl : 128 ≤ loOf b ∧ (b = 224 → loOf b = 160) := ⟨(lo_hi b).1, fun e => by rw [e]; rfl⟩
      have hh : hiOf b ≤ 191 ∧ (b = 237 → hiOf b = 159) := ⟨(lo_hi b).2.2.2, fun e => by rw [e]; rfl⟩
      rw [e, pointOk_iff]
      by_cases e1 : b = 224
      · have := hl.2 e1; omega
      by_cases e2 : b = 237
      · have := hh.2 e2; omega
      · omega
  split
  · rename_i h
    rcases tail3 (b - 240) (loOf b) (hiOf b) r with e | ⟨c, d, f, c1, c2, d1, d2, f1, f2, e⟩
    · rw [e]; rfl
    · have hl : 128 ≤ loOf b ∧ (b = 240 → loOf b = 144) := ⟨(lo_hi b).1, fun e => by rw [e]; rfl⟩
      have hh : hiOf b ≤ 191 ∧ (b = 244 → hiOf b = 143) := ⟨(lo_hi b).2.2.2, fun e => by rw [e]; rfl⟩
      rw [e, pointOk_iff]
      by_cases e1 : b = 240
      · have := hl.2 e1; omega
      by_cases e2 : b = 244
      · have := hh.2 e2; omega
      · omega
  · rfl
theorem tailOf_mem (p : Int) (k : Nat) (lo hi : Int) (r : List Int) : ∀ y ∈ (tailOf p k lo hi r).2, y ∈ r := by
  induction k generalizing p lo hi r with
  | zero => intro y hy; exact hy
  | succ k ih =>
    cases r with
    | nil => intro y hy; exact hy
    | cons c r =>
      by_cases h : lo ≤ c ∧ c ≤ hi
      · rw [tail_in p k r h.1 h.2]
        intro y hy
        exact List.mem_cons_of_mem _ (ih _ _ _ _ y hy)
      · rw [tail_out p k r (by omega)]
        intro y hy; exact hy
theorem stepOf_mem (b : Int) (r : List Int) : ∀ y ∈ (stepOf b r).2, y ∈ r := by
  unfold stepOf; repeat' split
  all_goals first | exact fun y hy => tailOf_mem _ _ _ _ _ y hy | exact fun y hy => hy
theorem dec_ok (n : Nat) (l : List Int) (h : l.length ≤ n) (hb : ∀ y ∈ l, 0 ≤ y) : ∀ p ∈ dec l, pointOk p = true := by
  induction n generalizing l with
  | zero => have : l = [] := List.length_eq_zero_iff.mp (by omega)
            subst this; rw [dec_nil]; intro p hp; cases hp
  | succ n ih =>
    cases l with
    | nil => rw [dec_nil]; intro p hp; cases hp
    | cons b r =>
      rw [dec_cons]
      have h1 := stepOf_le b r
      intro p hp
      rcases List.mem_cons.mp hp with e | e
      · rw [e]; exact stepOf_ok (hb b (List.mem_cons_self ..)) r
      · exact ih (stepOf b r).2 (by simp at h; omega) (fun y hy => hb y (List.mem_cons_of_mem _ (stepOf_mem b r y hy))) p e
theorem unmark_sub {xs : List Int} {y : Int} (h : y ∈ unmark xs) : y ∈ xs := by
  unfold unmark at h; split at h
  · exact List.mem_of_mem_drop h
  · exact h
theorem utfRead_ok {bs : List Int} (hb : ∀ y ∈ bs, 0 ≤ y ∧ y ≤ 255) : ∀ p ∈ utfRead bs, pointOk p = true := by
  unfold utfRead; split
  · exact dec_ok _ _ (Nat.le_refl _) (fun y hy => (hb y (unmark_sub hy)).1)
  · intro p hp; cases hp

theorem enc_mark : enc 65279 = [239, 187, 191] := by decide
theorem put_mark : put 65279 = [239, 187, 191] := by unfold put; rw [pt_of _ (by decide)]; exact enc_mark
theorem dec_mark (r : List Int) : dec (239 :: 187 :: 191 :: r) = 65279 :: dec r := by
  have h := dec_enc (p := 65279) (by omega) (by omega) (by omega) r
  rw [enc_mark] at h; exact h
theorem dec_puts_ok {l : List Int} (h : ∀ p ∈ l, pointOk p = true) : dec (puts l) = l := by rw [dec_puts, map_pt h]
theorem unmark_mark (t : List Int) : unmark (puts (65279 :: t)) = puts t := by
  have e : puts (65279 :: t) = 239 :: 187 :: 191 :: puts t := by
    have e1 : puts (65279 :: t) = put 65279 ++ puts t := by simp [puts]
    rw [e1, put_mark]; rfl
  rw [e]; unfold unmark; rw [if_pos (by rfl : List.take 3 (239 :: 187 :: 191 :: puts t) = [239, 187, 191])]; rfl
theorem unmark_other {l : List Int} (h : ∀ p ∈ l, pointOk p = true) (hh : ∀ t, l ≠ 65279 :: t) : unmark (puts l) = puts l := by
  unfold unmark
  split
  · rename_i ht
    exfalso
    have e : puts l = 239 :: 187 :: 191 :: (puts l).drop 3 := by
      conv => lhs; rw [← List.take_append_drop 3 (puts l), ht]
      rfl
    have d := dec_puts_ok h
    rw [e, dec_mark] at d
    exact hh _ d.symm
  · rfl

/-- What is read again. -/
theorem again_mark {t : List Int} (h : ∀ p ∈ t, pointOk p = true) (hl : (puts (65279 :: t)).length ≤ 3000) : utfRead (puts (65279 :: t)) = t := by
  unfold utfRead; rw [if_pos hl, unmark_mark, dec_puts_ok h]
theorem again_other {l : List Int} (h : ∀ p ∈ l, pointOk p = true) (hh : ∀ t, l ≠ 65279 :: t) (hl : (puts l).length ≤ 3000) : utfRead (puts l) = l := by
  unfold utfRead; rw [if_pos hl, unmark_other h hh, dec_puts_ok h]
theorem ok_other {l : List Int} (h : ∀ p ∈ l, pointOk p = true) (hh : ∀ t, l ≠ 65279 :: t) (hl : (puts l).length ≤ 3000) (h3 : l.length ≤ 3000) : utfOk (puts l) = true := by
  rw [utfOk_yes hl, again_other h hh hl]
  unfold pointsPut; rw [if_pos h3]; simp
end Go.Proofs.YtiojilmclocmkaaGreatDoor
