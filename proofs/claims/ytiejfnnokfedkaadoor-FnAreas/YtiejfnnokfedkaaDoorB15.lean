import Derived.Test.YtiejfnnokfedkaaDoorDrawD1
import Derived.Test.YtiejfnnokfedkaaDoorB13
import Derived.Deep.RegionHeld3
import Derived.Deep.CutRange
/- The draw of a right disk. No condition. -/
namespace Go.Proofs.YtiejfnnokfedkaaDoor
open Go.RowKit
set_option maxRecDepth 100000
set_option linter.unusedVariables false

theorem row_low {B e size n : Nat} {w w' : World} {v : Value} {xs : List Value} {row : Option Nat} (h : w.ownsRow B e size v n xs) (hg : w.grownBy w' row) (hr : ∀ k, row = some k → k < B) : w'.ownsRow B e size v n xs := by
  refine h.kept hg ?_
  cases hv : v.ownBlock with
  | none => exact .inl rfl
  | some k =>
    refine .inr fun e => ?_
    have h1 := (World.ownsRow.lt h k hv).1
    have h2 := hr k e.symm
    omega
theorem OwnDk.low {B : Nat} {w w' : World} {v : Value} {d : PDisk} {row : Option Nat} (h : OwnDk B w v d) (hg : w.grownBy w' row) (hr : ∀ k, row = some k → k < B) : OwnDk B w' v d := by
  obtain ⟨sa, sn, sc, la, ln, lc, e, h1, h2⟩ := h
  exact ⟨sa, sn, sc, la, ln, lc, e, row_low h1 hg hr, row_low h2 hg hr⟩
theorem OwnDk.base {B B' : Nat} {w : World} {v : Value} {d : PDisk} (h : OwnDk B w v d) (hB : B' ≤ B) : OwnDk B' w v d := by
  obtain ⟨sa, sn, sc, la, ln, lc, e, h1, h2⟩ := h
  exact ⟨sa, sn, sc, la, ln, lc, e, rk_base h1 hB, rk_base h2 hB⟩
theorem OwnDk.set {B b k : Nat} {w : World} {v u : Value} {d : PDisk} (h : OwnDk B w v d) {cs : Array Value} {fr : Nat × Nat} (hb : w.heap[b]? = some (.cells cs 34 fr)) : OwnDk B (w.setCell ⟨b, k, none⟩ u) v d := by
  obtain ⟨sa, sn, sc, la, ln, lc, e, h1, h2⟩ := h
  exact ⟨sa, sn, sc, la, ln, lc, e, rk_set h1 hb (by decide), rk_set h2 hb (by decide)⟩
theorem fit_right {d : PDisk} (h : diskB d = true) : DiskFit d := by
  obtain ⟨h1, h2⟩ := diskB_len h
  refine ⟨by omega, by omega, fun s hs => ?_, fun p hp => ?_⟩
  · obtain ⟨k, hk, rfl⟩ := List.getElem_of_mem hs; rw [diskB_safe h hk]; decide
  · obtain ⟨k, hk, rfl⟩ := List.getElem_of_mem hp; rw [(diskB_late h hk).2.2]; decide
theorem right_new : diskB newDk = true := by
  refine diskB_yes (by decide) (by decide) (fun k hk => ?_) (fun k hk => absurd hk (by simp [newDk]))
  have : newDk.safe[k] = zeros64 := List.getElem_replicate (by simpa [newDk] using hk)
  rw [this]; exact zeros64_size
theorem right_snoc {d : PDisk} (h : diskB d = true) {x : Int} {s : ByteArray} (hx : inB x 0 129 = true) (hs : s.size = 64) (hl : d.late.length < 200) : diskB ⟨d.safe, d.late ++ [(x, s)]⟩ = true := by
  simp only [diskB, Bool.and_eq_true, decide_eq_true_eq, List.all_append, List.all_cons, List.all_nil, Bool.and_true, List.length_append, List.length_singleton] at h ⊢
  exact ⟨⟨⟨h.1.1.1, by omega⟩, h.1.2⟩, h.2, hx, hs⟩
theorem right_put {d : PDisk} (h : diskB d = true) {x : Int} {s : ByteArray} (hp : (putDk d x s).2 = true) : diskB (putDk d x s).1 = true := by
  unfold putDk at hp ⊢
  rw [if_neg (by rw [h]; simp)] at hp ⊢
  split at hp
  · cases hp
  · rename_i hn
    rw [if_neg hn]
    have h2 := (diskB_len h).2
    have hx : inB x 0 129 = true := by
      cases e : inB x 0 129
      · exact absurd (.inl e) hn
      · rfl
    have hs : s.size = 64 := by
      by_cases e : s.size = 64
      · exact e
      · exact absurd (.inr (.inl e)) hn
    have hl : d.late.length ≠ 200 := fun e => hn (.inr (.inr e))
    exact right_snoc h hx hs (by omega)
theorem right_done {d : PDisk} (h : diskB d = true) (keep : Int) : diskB (doneDk keep d) = true := by
  have hl := diskB_len h
  refine diskB_yes ((doneN_len _ _ _ _).trans hl.1) (Nat.zero_le _) (fun k hk => ?_) (fun k hk => absurd hk (by simp [doneDk]))
  have h1 : ∀ n, ∀ t ∈ doneN keep d.safe d.late n, t.size = 64 := by
    intro n
    induction n with
    | zero => intro t ht; obtain ⟨i, hi, rfl⟩ := List.getElem_of_mem ht; exact diskB_safe h hi
    | succ n ih =>
      by_cases hlt : n < d.late.length
      · rw [doneN_succ hlt]
        split
        · intro t ht
          rcases List.mem_or_eq_of_mem_set ht with e | e
          · exact ih t e
          · rw [e]; exact (diskB_late h hlt).2.2
        · exact ih
      · intro t ht
        rw [doneN, List.getElem?_eq_none (by omega)] at ht
        exact ih t ht
  exact h1 _ _ (List.getElem_mem hk)
theorem right_sync {d : PDisk} (h : diskB d = true) : (syncDk d).2 = true ∧ diskB (syncDk d).1 = true := by
  unfold syncDk
  rw [if_neg (by rw [h]; simp)]
  exact ⟨rfl, right_done h _⟩

/-- While a right disk is drawn: it stands in block D. -/
def RightI (w0 w : World) (g : Nat) (v : Value) (xs : List Int) (R D : Nat) (d : PDisk) (a b : Value) (W : World) : Prop :=
  W.heap[D]? = some (.cells #[a, b] 34 (0, 0)) ∧ W.heap[R]? = some (.cells #[.slice none 0 0, .slice none 0 0] 34 (0, 0)) ∧ OwnDk w.heap.size W (.agg #[a, b]) d ∧ diskB d = true ∧ Cur w0 g v xs W ∧ w.grownBy W (some g)

theorem RightI.lt {w0 w : World} {g : Nat} {v : Value} {xs : List Int} {R D : Nat} {d : PDisk} {a b : Value} {W : World} (h : RightI w0 w g v xs R D d a b W) : D < W.heap.size := lt_of_block h.1
theorem RightI.s {w0 w : World} {g : Nat} {v : Value} {xs : List Int} {R D : Nat} {d : PDisk} {a b : Value} {W : World} (h : RightI w0 w g v xs R D d a b W) : W.cell? ⟨D, 0, none⟩ = some a ∧ W.cell? ⟨D, 1, none⟩ = some b ∧ RightI w0 w g v xs R D d a b W :=
  ⟨(rk_two h.1).1, (rk_two h.1).2.1, h⟩
theorem RightI.below {w0 w : World} {g : Nat} {v : Value} {xs : List Int} {R D : Nat} {d : PDisk} {a b : Value} {W W' : World} (h : RightI w0 w g v xs R D d a b W) (k : Below W.heap.size W W') : RightI w0 w g v xs R D d a b W' :=
  ⟨(k.block _ (lt_of_block h.1)).trans h.1, (k.block _ (lt_of_block h.2.1)).trans h.2.1, h.2.2.1.below k, h.2.2.2.1, h.2.2.2.2.1.below k, grown_below h.2.2.2.2.2 k⟩
theorem RightI.alloc {w0 w : World} {g : Nat} {v : Value} {xs : List Int} {R D : Nat} {d : PDisk} {a b : Value} {W : World} (h : RightI w0 w g v xs R D d a b W) (o : Obj) : RightI w0 w g v xs R D d a b (W.alloc o) :=
  h.below ((Below.refl _ _).alloc (Nat.le_refl _) _)
theorem RightI.cursor {w0 w : World} {g : Nat} {v : Value} {xs : List Int} {R D : Nat} {d : PDisk} {a b : Value} {W W' : World} (h : RightI w0 w g v xs R D d a b W) (hg : g < w.heap.size) (hR : w.heap.size ≤ R) (hD : w.heap.size ≤ D) (k : Cur w0 g v xs W') (gr : W.grownBy W' (some g)) : RightI w0 w g v xs R D d a b W' :=
  ⟨(gr.block _ (lt_of_block h.1) (by simp; omega)).trans h.1, (gr.block _ (lt_of_block h.2.1) (by simp; omega)).trans h.2.1, h.2.2.1.low gr (fun k e => by cases e; exact hg), h.2.2.2.1, k, grown_trans h.2.2.2.2.2 gr⟩
/-- A cell of another variable is turned. -/
theorem RightI.set {w0 w : World} {g : Nat} {v : Value} {xs : List Int} {R D : Nat} {d : PDisk} {a b : Value} {W : World} (h : RightI w0 w g v xs R D d a b W) (hg : g < w.heap.size) {N k : Nat} {u : Value} (hN : w.heap.size ≤ N) (hND : N ≠ D) (hNR : N ≠ R) {cs : Array Value} {fr : Nat × Nat} (hb : W.heap[N]? = some (.cells cs 34 fr)) : RightI w0 w g v xs R D d a b (W.setCell ⟨N, k, none⟩ u) :=
  ⟨(Below.heap_setCell W ⟨N, k, none⟩ u D (fun e => hND e.symm)).trans h.1, (Below.heap_setCell W ⟨N, k, none⟩ u R (fun e => hNR e.symm)).trans h.2.1, h.2.2.1.set hb, h.2.2.2.1, h.2.2.2.2.1.kept (grown_setCell _ _ _ _) (by simp; omega) (fun r e => by cases e; have h1 := h.2.2.2.2.1.1; omega), grown_past h.2.2.2.2.2 (grown_setCell _ _ _ _) (fun r e => by cases e; exact hN)⟩
/-- And the disk that may follow it stands in block N. -/
def NextI (w0 w : World) (g : Nat) (v : Value) (xs : List Int) (R D : Nat) (d : PDisk) (a b : Value) (N : Nat) (d' : PDisk) (a' b' : Value) (W : World) : Prop :=
  RightI w0 w g v xs R D d a b W ∧ W.heap[N]? = some (.cells #[a', b'] 34 (0, 0)) ∧ OwnDk w.heap.size W (.agg #[a', b']) d' ∧ w.heap.size ≤ N ∧ N ≠ D ∧ N ≠ R
theorem next_new {w0 w : World} {g : Nat} {v : Value} {xs : List Int} {R D : Nat} {d : PDisk} {a b : Value} {d' : PDisk} {a' b' : Value} {W : World} (h : RightI w0 w g v xs R D d a b W) (o : OwnDk w.heap.size W (.agg #[a', b']) d') : NextI w0 w g v xs R D d a b W.heap.size d' a' b' (W.alloc (.cells #[a', b'] 34)) :=
  ⟨h.alloc _, World.alloc_heap_new _ _, o.below ((Below.refl _ _).alloc (Nat.le_refl _) _), h.2.2.2.2.2.size, by have := lt_of_block h.1; omega, by have := lt_of_block h.2.1; omega⟩
theorem next_set {w0 w : World} {g : Nat} {v : Value} {xs : List Int} {R D : Nat} {d : PDisk} {a b : Value} {d' : PDisk} {a' b' : Value} {W : World} (h : RightI w0 w g v xs R D d a b W) (hg : g < w.heap.size) (o : OwnDk w.heap.size W (.agg #[a', b']) d') {N : Nat} {x y : Value} (hb : W.heap[N]? = some (.cells #[x, y] 34 (0, 0))) (hN : w.heap.size ≤ N) (hND : N ≠ D) (hNR : N ≠ R) :
    NextI w0 w g v xs R D d a b N d' a' b' ((W.setCell ⟨N, 0, none⟩ a').setCell ⟨N, 1, none⟩ b') := by
  have s1 := rk_at (k := 0) (u := a') hb
  exact ⟨(h.set hg hN hND hNR hb).set hg hN hND hNR s1, rk_at (k := 1) (u := b') s1, (o.set hb).set s1, hN, hND, hNR⟩

theorem NextI.cursor {w0 w : World} {g : Nat} {v : Value} {xs : List Int} {R D : Nat} {d : PDisk} {a b : Value} {N : Nat} {d' : PDisk} {a' b' : Value} {W W' : World} (h : NextI w0 w g v xs R D d a b N d' a' b' W) (hg : g < w.heap.size) (hR : w.heap.size ≤ R) (hD : w.heap.size ≤ D) (k : Cur w0 g v xs W') (gr : W.grownBy W' (some g)) : NextI w0 w g v xs R D d a b N d' a' b' W' :=
  ⟨h.1.cursor hg hR hD k gr, (gr.block _ (lt_of_block h.2.1) (by have := h.2.2.2.1; simp; omega)).trans h.2.1, h.2.2.1.low gr (fun k e => by cases e; exact hg), h.2.2.2⟩
theorem NextI.turn {w0 w : World} {g : Nat} {v : Value} {xs : List Int} {R D : Nat} {d : PDisk} {a b : Value} {N : Nat} {d' : PDisk} {a' b' : Value} {W : World} (h : NextI w0 w g v xs R D d a b N d' a' b' W) (hg : g < w.heap.size) (hD : w.heap.size ≤ D) (hDR : D ≠ R) (hb : diskB d' = true) :
    RightI w0 w g v xs R D d' a' b' ((W.setCell ⟨D, 0, none⟩ a').setCell ⟨D, 1, none⟩ b') := by
  obtain ⟨⟨h1, h2, _, _, h5, h6⟩, _, ho, _⟩ := h
  have s1 := rk_at (k := 0) (u := a') h1
  have hk : ∀ {W : World} (k : Nat) (u : Value), Cur w0 g v xs W → Cur w0 g v xs (W.setCell ⟨D, k, none⟩ u) := fun k u c => c.kept (grown_setCell _ _ _ _) (by simp; omega) (fun r e => by cases e; have h1 := c.1; omega)
  refine ⟨rk_at (k := 1) (u := b') s1, ?_, (ho.set h1).set s1, hb, hk _ _ (hk _ _ h5), grown_past (grown_past h6 (grown_setCell _ _ _ _) (fun r e => by cases e; exact hD)) (grown_setCell _ _ _ _) (fun r e => by cases e; exact hD)⟩
  exact (Below.heap_setCell _ ⟨D, 1, none⟩ b' R (fun e => hDR e.symm)).trans ((Below.heap_setCell _ ⟨D, 0, none⟩ a' R (fun e => hDR e.symm)).trans h2)

theorem RightI.app {w0 w : World} {g : Nat} {v : Value} {xs : List Int} {R D : Nat} {d : PDisk} {a : Value} {ma : Option Addr} {mn mc : Nat} {W W' : World} (h : RightI w0 w g v xs R D d a (.slice ma mn mc) W) (hg : g < w.heap.size) (hD : w.heap.size ≤ D) (hDR : D ≠ R) {p : Int × ByteArray} {va : Option Addr} {vn vc : Nat}
    (o : W'.ownsRow w.heap.size 76 2 (.slice va vn vc) (d.late.length + 1) (putCells (d.late ++ [p]))) (gr : W.grownBy W' (Value.slice ma mn mc).ownBlock) (hb : diskB ⟨d.safe, d.late ++ [p]⟩ = true) :
    RightI w0 w g v xs R D ⟨d.safe, d.late ++ [p]⟩ a (.slice va vn vc) (W'.setCell ⟨D, 1, none⟩ (.slice va vn vc)) := by
  obtain ⟨h1, h2, ⟨sa, sn, sc, la, ln, lc, e, o1, o2⟩, _, h5, h6⟩ := h
  cases e
  have k1 := rk_keep o2 gr h1 (by decide)
  have k2 := rk_keep o2 gr h2 (by decide)
  have k3 := rk_other o2 gr o1 (by decide)
  have hrow : ∀ r, (Value.slice ma mn mc).ownBlock = some r → w.heap.size ≤ r := fun r e => (World.ownsRow.lt o2 r e).1
  have c1 := h5.kept gr (fun e => by have := hrow g e; omega) (fun r e => by have h7 := hrow r e; have h8 := h5.1; omega)
  have g1 := grown_past h6 gr hrow
  refine ⟨rk_at (k := 1) (u := .slice va vn vc) k1, (Below.heap_setCell _ ⟨D, 1, none⟩ _ R (fun e => hDR e.symm)).trans k2, ⟨_, _, _, _, _, _, rfl, rk_set k3 k1 (by decide), ?_⟩, hb, c1.kept (grown_setCell _ _ _ _) (by simp; omega) (fun r e => by cases e; have h8 := h5.1; omega), grown_past g1 (grown_setCell _ _ _ _) (fun r e => by cases e; exact hD)⟩
  show World.ownsRow _ _ _ _ _ (d.late ++ [p]).length _
  rw [List.length_append, List.length_singleton]
  exact rk_set o k1 (by decide)
theorem RightI.late {w0 w : World} {g : Nat} {v : Value} {xs : List Int} {R D : Nat} {d : PDisk} {a : Value} {ma : Option Addr} {mn mc : Nat} {W : World} (h : RightI w0 w g v xs R D d a (.slice ma mn mc) W) : W.ownsRow w.heap.size 76 2 (.slice ma mn mc) d.late.length (putCells d.late) ∧ mn = d.late.length := by
  obtain ⟨_, _, ⟨sa, sn, sc, la, ln, lc, e, o1, o2⟩, _⟩ := h
  cases e
  obtain ⟨_, _, e2, _⟩ := (sv_of_own o2).put
  cases e2
  exact ⟨o2, rfl⟩

set_option maxHeartbeats 1000000 in
set_option maxRecDepth 100000 in
theorem drawRight15_any {w0 : World} {g : Nat} {v : Value} {xs : List Int} {w : World} (h : Cur w0 g v xs w) (hb : ∀ x ∈ xs, 0 ≤ x ∧ x ≤ 255) :
    Calls Tryd.prog 85 #[.pointer (some ⟨g, 0, none⟩)] w fun e w' => ∃ (u : Value) (d : PDisk), e = .returned u ∧ OwnDk w.heap.size w' u d ∧ diskB d = true ∧ Cur w0 g v xs w' ∧ w.grownBy w' (some g) := by
  have HB : Hid (∀ x ∈ xs, 0 ≤ x ∧ x ≤ 255) := hb
  have hgl := h.lt
  clear hb
  obtain ⟨w1, hw1⟩ : ∃ y, y = w.alloc (.cells #[.slice none 0 0, .slice none 0 0] 34) := ⟨_, rfl⟩
  have b1 : Below w.heap.size w w1 := by rw [hw1]; exact (Below.refl _ _).alloc (Nat.le_refl _) _
  have x1 : w1.heap[w.heap.size]? = some (.cells #[.slice none 0 0, .slice none 0 0] 34 (0, 0)) := by rw [hw1]; exact World.alloc_heap_new _ _
  go_enter Tryd.func85, Tryd.ntmps85
  go_wp2_with fail
  go_at_call 88
  rw [← hw1]
  refine (sdiskNew_any w1).mono ?_
  rintro e w2 ⟨v2, rfl, o2, b2⟩
  clear hw1
  obtain ⟨sa, sn, sc, la, ln, lc, rfl, o21, o22⟩ := o2
  obtain ⟨w3, hw3⟩ : ∃ y, y = w2.alloc (.cells #[.slice sa sn sc, .slice la ln lc] 34) := ⟨_, rfl⟩
  have b3 : Below w2.heap.size w2 w3 := by rw [hw3]; exact (Below.refl _ _).alloc (Nat.le_refl _) _
  have x3 : w3.heap[w2.heap.size]? = some (.cells #[.slice sa sn sc, .slice la ln lc] 34 (0, 0)) := by rw [hw3]; exact World.alloc_heap_new _ _
  have b13 : Below w1.heap.size w1 w3 := b2.trans (b3.mono b2.size)
  have b03 : Below w.heap.size w w3 := b1.trans (b13.mono b1.size)
  have I0 : Hid (RightI w0 w g v xs w.heap.size w2.heap.size newDk (.slice sa sn sc) (.slice la ln lc) w3) := ⟨x3, (b13.block _ (lt_of_block x1)).trans x1, ⟨_, _, _, _, _, _, rfl, rk_base (ownsRow_below o21 b3) b1.size, rk_base (ownsRow_below o22 b3) b1.size⟩, right_new, h.below b03, ⟨b03.os, b03.tape, b03.output, b03.size, fun k hk _ => b03.block k hk⟩⟩
  have hD : w.heap.size < w2.heap.size := Nat.lt_of_lt_of_le (lt_of_block x1) b2.size
  clear b13 b03 x3 b3 o21 o22 b2 x1 b1 h
  go_wp2
  rw [← hw3]
  clear hw3
  obtain ⟨D, hDD⟩ : ∃ D, D = w2.heap.size := ⟨_, rfl⟩
  rw [← hDD] at I0 hD ⊢
  clear hDD
  go_loopw [4] (fun i wr => ∃ (k : Nat) (d : PDisk) (a b : Value), k ≤ 9 ∧ i = .int .i64 k ∧ RightI w0 w g v xs w.heap.size D d a b wr) (fun i _ => 9 - (intOf i).toNat)
  case atStart => exact ⟨0, _, _, _, by decide, rfl, I0.out⟩
  case round =>
    clear I0
    obtain ⟨k, d, a, b, hk, rfl, hI⟩ := hrel
    have HI := (show Hid (RightI w0 w g v xs w.heap.size D d a b wr) from hI)
    clear hI
    go_wp2_with fail
    go_at_call 45
    refine (below_any 9 (by omega) HI.out.2.2.2.2.1 HB.out).mono ?_
    rintro e w4 ⟨x, rfl, x0, x1, _, k4, g4⟩
    replace x1 := x1 (by omega)
    have I4 := (show Hid (RightI w0 w g v xs w.heap.size D d a b w4) from HI.out.cursor hgl (Nat.le_refl _) (Nat.le_of_lt hD) k4 g4)
    clear HI k4 g4
    by_cases hlt : (k : Int) < x
    · go_upto_region 5 with fail
      have hDle := Nat.le_of_lt hD
      have HBL := (show Hid (∀ (W : World), RightI w0 w g v xs w.heap.size D d a b W → Calls Tryd.prog 45 #[.pointer (some ⟨g, 0, none⟩), .int .i64 6] W fun e w' => ∃ x : Int, e = .returned (.int .i64 x) ∧ RightI w0 w g v xs w.heap.size D d a b w' ∧ W.grownBy w' (some g)) from fun W h => (below_any 6 (by omega) h.2.2.2.2.1 HB.out).mono (by
        rintro e w' ⟨x, rfl, _, _, _, k5, g5⟩
        exact ⟨x, rfl, h.cursor hgl (Nat.le_refl _) hDle k5 g5, g5⟩))
      have HTX := (show Hid (∀ (W : World), RightI w0 w g v xs w.heap.size D d a b W → Calls Tryd.prog 89 #[.pointer (some ⟨g, 0, none⟩)] W fun e w' => ∃ s : ByteArray, e = .returned (.string s) ∧ s.size = 64 ∧ RightI w0 w g v xs w.heap.size D d a b w' ∧ W.grownBy w' (some g)) from fun W h => (drawText15_any h.2.2.2.2.1 HB.out).mono (by
        rintro e w' ⟨s, rfl, hs, k5, g5⟩
        exact ⟨s, rfl, hs, h.cursor hgl (Nat.le_refl _) hDle k5 g5, g5⟩))
      have HPT := (show Hid (∀ (W : World) (x : Int) (s : ByteArray), s.size = 64 → RightI w0 w g v xs w.heap.size D d a b W → Calls Tryd.prog 55 #[.agg #[a, b], .int .i64 x, .string s] W fun e w' => ∃ (v' : Value), e = .returned (.tuple #[v', .bool (putDk d x s).2]) ∧ OwnDk w.heap.size w' v' (putDk d x s).1 ∧ RightI w0 w g v xs w.heap.size D d a b w' ∧ Below W.heap.size W w') from fun W x s hs h => (sdiskPut_any h.2.2.1.at (fit_right h.2.2.2.1) x s (by omega)).mono (by
        rintro e w' ⟨v', rfl, o, k⟩
        exact ⟨v', rfl, o.base h.2.2.2.2.2.size, h.below k, k⟩))
      have KD := (show Hid (RightI w0 w g v xs w.heap.size D d a b w4.drew) from I4.out.below (below_drewN 1))
      have HRP := (show Hid (∀ x s, (putDk d x s).2 = true → diskB (putDk d x s).1 = true) from fun x s => right_put I4.out.2.2.2.1)
      have hDl := I4.out.lt
      have hs4 : w.heap.size < w4.heap.size := lt_of_block I4.out.2.1
      go_cut [5, 6] from 8 to 31 (fun s5 s6 wx => ∃ (N : Nat) (bb : Bool) (d' : PDisk) (a' b' : Value), s5 = .pointer (some ⟨N, 0, none⟩) ∧ s6 = .bool bb ∧ (bb = true → diskB d' = true) ∧ NextI w0 w g v xs w.heap.size D d a b N d' a' b' wx)
      case first =>
        go_region_held3 (fun w' => w'.cell? ⟨D, 0, none⟩ = some a ∧ w'.cell? ⟨D, 1, none⟩ = some b ∧ RightI w0 w g v xs w.heap.size D d a b w')
          (first | exact RightI.s KD.out | exact RightI.s (KD.out.alloc _) | exact RightI.s R5.out | exact RightI.s (R5.out.alloc _) | exact RightI.s R6.out | exact RightI.s (R6.out.alloc _) | exact RightI.s R7.out | exact RightI.s (R7.out.alloc _) | exact RightI.s PS.out.1 | exact RightI.s PN.out.1)
          (first
            | (go_at_call 45
               refine (HBL.out _ (‹_ ∧ _ ∧ RightI _ _ _ _ _ _ _ _ _ _ _›).2.2).mono ?_
               rintro e w5 ⟨x, rfl, r5, g5⟩
               have R5 := (show Hid (RightI w0 w g v xs w.heap.size D d a b w5) from r5)
               have hs5 : w4.heap.size ≤ w5.heap.size := by have := g5.size; (try simp at this); omega
               (first
                 | (have N5 : Hid (w5.heap[w4.heap.size]? = some (.cells #[.slice none 0 0, .slice none 0 0] 34 (0, 0))) := (show w5.heap[w4.heap.size]? = some (.cells #[.slice none 0 0, .slice none 0 0] 34 (0, 0)) from (g5.block w4.heap.size (by simp) (by simp; omega)).trans (World.alloc_heap_new _ _)))
                 | skip)
               clear r5 g5)
            | (go_at_call 89
               refine (HTX.out _ (‹_ ∧ _ ∧ RightI _ _ _ _ _ _ _ _ _ _ _›).2.2).mono ?_
               rintro e w6 ⟨s, rfl, hs, r6, g6⟩
               have R6 := (show Hid (RightI w0 w g v xs w.heap.size D d a b w6) from r6)
               have hs6 : w5.heap.size ≤ w6.heap.size := by have := g6.size; (try simp at this); omega
               (first
                 | (have N6 : Hid (w6.heap[w4.heap.size]? = some (.cells #[.slice none 0 0, .slice none 0 0] 34 (0, 0))) := (show w6.heap[w4.heap.size]? = some (.cells #[.slice none 0 0, .slice none 0 0] 34 (0, 0)) from (g6.block _ (lt_of_block N5.out) (by simp; omega)).trans N5.out))
                 | (have N6 : Hid (w6.heap[w5.heap.size]? = some (.cells #[.slice none 0 0, .slice none 0 0] 34 (0, 0))) := (show w6.heap[w5.heap.size]? = some (.cells #[.slice none 0 0, .slice none 0 0] 34 (0, 0)) from (g6.block w5.heap.size (by simp) (by simp; omega)).trans (World.alloc_heap_new _ _)))
                 | skip)
               clear r6 g6)
            | (go_at_call 55
               refine (HPT.out _ _ _ hs (‹_ ∧ _ ∧ RightI _ _ _ _ _ _ _ _ _ _ _›).2.2).mono ?_
               rintro e w7 ⟨v7, rfl, o7, r7, b7⟩
               obtain ⟨ta, tn, tc, ma, mn, mc, rfl, o71, o72⟩ := o7
               have R7 := (show Hid (RightI w0 w g v xs w.heap.size D d a b w7) from r7)
               have O7 := (show Hid (OwnDk w.heap.size w7 (.agg #[.slice ta tn tc, .slice ma mn mc]) (putDk d x s).1) from ⟨_, _, _, _, _, _, rfl, o71, o72⟩)
               (first
                 | (have n7 := (b7.block _ (lt_of_block N6.out)).trans N6.out
                    obtain ⟨m1, m2, m3, m4⟩ := rk_two n7
                    have PS := (show Hid (NextI w0 w g v xs w.heap.size D d a b _ (putDk d x s).1 (.slice ta tn tc) (.slice ma mn mc) _) from next_set R7.out hgl O7.out n7 (by omega) (by omega) (by omega))
                    clear n7)
                 | (have n7 : w7.heap[w6.heap.size]? = some (.cells #[.slice none 0 0, .slice none 0 0] 34 (0, 0)) := (b7.block w6.heap.size (by simp)).trans (World.alloc_heap_new _ _)
                    obtain ⟨m1, m2, m3, m4⟩ := rk_two n7
                    have PS := (show Hid (NextI w0 w g v xs w.heap.size D d a b _ (putDk d x s).1 (.slice ta tn tc) (.slice ma mn mc) _) from next_set R7.out hgl O7.out n7 (by omega) (by omega) (by omega))
                    clear n7)
                 | (have PN := (show Hid (NextI w0 w g v xs w.heap.size D d a b _ (putDk d x s).1 (.slice ta tn tc) (.slice ma mn mc) _) from next_new R7.out O7.out)))
               clear r7 o71 o72 b7))
        all_goals go_wp2
        all_goals go_meet
        all_goals
          case rel =>
            with_reducible first
              | exact ⟨_, _, _, _, _, rfl, rfl, HRP.out x s, PS.out⟩
              | exact ⟨_, _, _, _, _, rfl, rfl, HRP.out x s, PN.out⟩
      case rest =>
        clear HBL HTX HPT KD HRP hDl hs4 I4
        obtain ⟨N, bb, d', a', b', rfl, rfl, hbb, hN⟩ := hcut
        have HN := (show Hid (NextI w0 w g v xs w.heap.size D d a b N d' a' b' wc) from hN)
        have HBB := (show Hid (bb = true → diskB d' = true) from hbb)
        clear hN hbb
        go_wp2_with fail
        go_at_call 73
        refine (once_any 4 (by omega) HN.out.1.2.2.2.2.1 HB.out).mono ?_
        rintro e w8 ⟨r, rfl, k8, g8⟩
        have N8 := (show Hid (NextI w0 w g v xs w.heap.size D d a b N d' a' b' w8) from HN.out.cursor hgl (Nat.le_refl _) hDle k8 g8)
        clear HN k8 g8
        have hDR : D ≠ w.heap.size := by omega
        cases r
        · cases bb
          · clear HBB
            go_wp2
            go_roundw
            case rel => exact ⟨k + 1, d, a, b, by omega, by go_num, N8.out.1⟩
            case measure => simp [intOf]; omega
          · have HB' := (show Hid (diskB d' = true) from HBB.out rfl)
            clear HBB
            obtain ⟨ta, tn, tc, ma, mn, mc, e8, _⟩ := N8.out.2.2.1
            cases e8
            obtain ⟨p1, p2, _, _⟩ := rk_two N8.out.2.1
            obtain ⟨y1, y2, y3, y4⟩ := rk_two N8.out.1.1
            have T8 := (show Hid (RightI w0 w g v xs w.heap.size D d' (.slice ta tn tc) (.slice ma mn mc) _) from N8.out.turn hgl hDle hDR HB'.out)
            go_wp2
            go_roundw
            case rel => exact ⟨k + 1, d', _, _, by omega, by go_num, T8.out⟩
            case measure => simp [intOf]; omega
        · have hsy := right_sync N8.out.1.2.2.2.1
          have CS := (show Hid _ from sdiskSync_any N8.out.1.2.2.1.at (fit_right N8.out.1.2.2.2.1))
          obtain ⟨q, hq⟩ : ∃ q, q = syncDk d := ⟨_, rfl⟩
          rw [← hq] at CS hsy
          obtain ⟨qd, qb⟩ := q
          simp only at CS hsy
          obtain ⟨rfl, hqd⟩ := hsy
          have HQ := (show Hid (diskB qd = true) from hqd)
          obtain ⟨y1, y2, y3, y4⟩ := rk_two N8.out.1.1
          clear hq hqd HBB
          go_wp2_with fail
          go_at_call 90
          refine Calls.mono CS.out ?_
          rintro e w9 ⟨v9, rfl, o9, b9⟩
          clear CS y1 y2 y3 y4
          obtain ⟨ta, tn, tc, ma, mn, mc, rfl, o91, o92⟩ := o9
          have O9 := (show Hid (OwnDk w.heap.size w9 (.agg #[.slice ta tn tc, .slice ma mn mc]) qd) from ⟨_, _, _, _, _, _, rfl, rk_base o91 N8.out.1.2.2.2.2.2.size, rk_base o92 N8.out.1.2.2.2.2.2.size⟩)
          have R9 := (show Hid (RightI w0 w g v xs w.heap.size D d a b w9) from N8.out.1.below b9)
          have n9 := (b9.block _ (lt_of_block N8.out.2.1)).trans N8.out.2.1
          have X9 := (show Hid (NextI w0 w g v xs w.heap.size D d a b N qd (.slice ta tn tc) (.slice ma mn mc) _) from next_set R9.out hgl O9.out n9 N8.out.2.2.2.1 N8.out.2.2.2.2.1 N8.out.2.2.2.2.2)
          have hND := N8.out.2.2.2.2.1
          obtain ⟨m1, m2, m3, m4⟩ := rk_two n9
          clear o91 o92 b9 n9 N8 O9 R9
          go_upto_region 8 with fail
          obtain ⟨wn, hwn⟩ : ∃ y, y = (w9.setCell ⟨N, 0, none⟩ (.slice ta tn tc)).setCell ⟨N, 1, none⟩ (.slice ma mn mc) := ⟨_, rfl⟩
          rw [← hwn] at X9
          rw [← hwn]
          clear hwn m1 m2 m3 m4
          obtain ⟨p1, p2, _, _⟩ := rk_two X9.out.2.1
          obtain ⟨y1, y2, y3, y4⟩ := rk_two X9.out.1.1
          have T8 := (show Hid (RightI w0 w g v xs w.heap.size D qd (.slice ta tn tc) (.slice ma mn mc) _) from X9.out.turn hgl hDle hDR HQ.out)
          go_wp2
          go_roundw
          case rel => exact ⟨k + 1, qd, _, _, by omega, by go_num, T8.out⟩
          case measure => simp [intOf]; omega
    · go_wp2_with fail
      go_at_call 73
      refine (once_any 60 (by omega) I4.out.2.2.2.2.1 HB.out).mono ?_
      rintro e w5 ⟨r, rfl, k5, g5⟩
      have hDle := Nat.le_of_lt hD
      have I5 := (show Hid (RightI w0 w g v xs w.heap.size D d a b w5) from I4.out.cursor hgl (Nat.le_refl _) hDle k5 g5)
      clear I4 k5 g5
      obtain ⟨ta, tn, tc, ma, mn, mc, e8, _⟩ := I5.out.2.2.1
      cases e8
      have fin : Hid (∀ (W : World) (d : PDisk) (ta : Option Addr) (tn tc : Nat) (ma : Option Addr) (mn mc : Nat), RightI w0 w g v xs w.heap.size D d (.slice ta tn tc) (.slice ma mn mc) W → ∃ (u : Value) (d : PDisk), Ending.returned (.agg #[.slice ta tn tc, .slice ma mn mc]) = .returned u ∧ OwnDk w.heap.size ((W.setCell ⟨w.heap.size, 0, none⟩ (.slice ta tn tc)).setCell ⟨w.heap.size, 1, none⟩ (.slice ma mn mc)) u d ∧ diskB d = true ∧ Cur w0 g v xs ((W.setCell ⟨w.heap.size, 0, none⟩ (.slice ta tn tc)).setCell ⟨w.heap.size, 1, none⟩ (.slice ma mn mc)) ∧ w.grownBy ((W.setCell ⟨w.heap.size, 0, none⟩ (.slice ta tn tc)).setCell ⟨w.heap.size, 1, none⟩ (.slice ma mn mc)) (some g)) := fun W d ta tn tc ma mn mc h => by
        obtain ⟨h1, h2, ho, hb, hc, hgr⟩ := h
        have s1 := rk_at (k := 0) (u := .slice ta tn tc) h2
        have hk : ∀ {W : World} (k : Nat) (u : Value), Cur w0 g v xs W → Cur w0 g v xs (W.setCell ⟨w.heap.size, k, none⟩ u) := fun k u c => c.kept (grown_setCell _ _ _ _) (by simp; omega) (fun r e => by cases e; have h1 := c.1; omega)
        exact ⟨_, d, rfl, (ho.set h2).set s1, hb, hk _ _ (hk _ _ hc), grown_past (grown_past hgr (grown_setCell _ _ _ _) (fun r e => by cases e; exact Nat.le_refl _)) (grown_setCell _ _ _ _) (fun r e => by cases e; exact Nat.le_refl _)⟩
      cases r
      · obtain ⟨y1, y2, _, _⟩ := rk_two I5.out.1
        obtain ⟨r1, r2, r3, r4⟩ := rk_two I5.out.2.1
        go_wp2
        have z2 := rk_at (k := 1) (u := .slice ma mn mc) (rk_at (k := 0) (u := .slice ta tn tc) I5.out.2.1)
        refine bodyPost_ret (results_cell_row rfl _ _ w.heap.size 34 #[.slice ta tn tc, .slice ma mn mc] (0, 0) _ rfl z2 Tryd.underlying34 rfl rfl) rfl ?_
        exact fin.out _ _ _ _ _ _ _ _ I5.out
      · obtain ⟨iP, hiP, hp0, hp1, hp2⟩ := info_parts Tryd.infoPut
        have hDR : D ≠ w.heap.size := by omega
        have CZ := (show Hid (∀ W, Calls Tryd.prog 87 #[] W fun e w' => e = .returned (.string zeros64) ∧ Below W.heap.size W w') from fun W => sl15Zeros_any W)
        have HZ64 := (show Hid (zeros64.size = 64) from zeros64_size)
        obtain ⟨z, hz⟩ : ∃ z, z = zeros64 := ⟨_, rfl⟩
        rw [← hz] at CZ HZ64
        clear hz
        go_wp2
        go_loopw [] (fun wr => ∃ (d : PDisk) (ta : Option Addr) (tn tc : Nat) (ma : Option Addr) (mn mc : Nat), RightI w0 w g v xs w.heap.size D d (.slice ta tn tc) (.slice ma mn mc) wr) (fun wr => match wr.cell? ⟨D, 1, none⟩ with | some (.slice _ n _) => 200 - n | _ => 0)
        case atStart => exact ⟨_, _, _, _, _, _, _, I5.out⟩
        case round =>
          clear I5
          obtain ⟨d, ta, tn, tc, ma, mn, mc, hI⟩ := hrel
          have HI := (show Hid (RightI w0 w g v xs w.heap.size D d (.slice ta tn tc) (.slice ma mn mc) wr) from hI)
          obtain ⟨hlo, rfl⟩ := hI.late
          obtain ⟨y1, y2, _, _⟩ := rk_two hI.1
          clear hI hlo
          by_cases hlt : d.late.length < 200
          · have hltI : (d.late.length : Int) < 200 := by omega
            have KD := (show Hid (RightI w0 w g v xs w.heap.size D d (.slice ta tn tc) (.slice ma d.late.length mc) wr.drew) from HI.out.below (below_drewN 1))
            go_upto_region 12 with fail
            have HR := (show Hid (diskB ⟨d.safe, d.late ++ [((3 : Int), z)]⟩ = true) from right_snoc HI.out.2.2.2.1 (by decide) HZ64.out hlt)
            have hDlr := HI.out.lt
            have BD := (show Hid (Below wr.heap.size wr wr.drew) from below_drewN 1)
            go_region_law (first
              | (go_simp
                 go_at_call 87
                 refine Calls.mono (CZ.out _) ?_
                 rintro e w6 ⟨rfl, b6⟩
                 have R6 := (show Hid (RightI w0 w g v xs w.heap.size D d (.slice ta tn tc) (.slice ma d.late.length mc) w6) from KD.out.below b6)
                 obtain ⟨m1, m2, m3, m4⟩ := rk_two R6.out.1
                 have hD6 := R6.out.lt
                 clear b6)
              | (with_reducible refine step_appS (w := w6.alloc (.cells #[.int .i64 3, .string z] 76)) ?_ (.tmp 39) (.tmp 42) 32 ?_ w.heap.size 76 iP _ 2 24 ?_ hiP hp0 hp1 hp2 ?_ ?_ (.slice ma d.late.length mc) d.late.length (putCells d.late) ?_ ?_ (.slice (some ⟨w6.heap.size, 0, none⟩) 1 1) 1 (putCells [(3, z)]) ?_ ?_ ?_ ?_ ?_ ?_ ?_ ?_
                 · rfl
                 · rfl
                 · exact Tryd.underlying32
                 · rfl
                 · decide
                 · simp [Act.eval]
                 · exact (R6.out.alloc _).late.1
                 · simp [Act.eval]
                 · exact sv_onePut (World.alloc_heap_new w6 _)
                 · exact putCells_len _
                 · exact put_oneCell _
                 · (unfold maxLen; omega)
                 · omega
                 · exact (R6.out.alloc _).2.2.2.2.2.size
                 intro v7 w7 o7 g7
                 rw [← putCells_app] at o7
                 obtain ⟨a7, n7, c7, rfl⟩ := rk_slice o7
                 have z7 := rk_keep (R6.out.alloc _).late.1 g7 (R6.out.alloc _).1 (by decide)
                 obtain ⟨t1, t2, t3, t4⟩ := rk_two z7
                 have T7 := (show Hid (RightI w0 w g v xs w.heap.size D ⟨d.safe, d.late ++ [((3 : Int), z)]⟩ (.slice ta tn tc) (.slice a7 n7 c7) (w7.setCell ⟨D, 1, none⟩ (.slice a7 n7 c7))) from (R6.out.alloc _).app hgl hDle hDR o7 g7 HR.out)
                 clear o7 g7 z7))
            all_goals
              go_wp2
              go_roundw
              case rel => exact ⟨_, _, _, _, _, _, _, T7.out⟩
              case measure =>
                have e7 := (rk_two T7.out.1).2.1
                have l7 := T7.out.late.2
                rw [e7, (rk_two HI.out.1).2.1]
                simp only [List.length_append, List.length_singleton] at l7
                show 200 - n7 < 200 - d.late.length
                omega
          · have hltI : ¬ (d.late.length : Int) < 200 := by omega
            obtain ⟨r1, r2, r3, r4⟩ := rk_two HI.out.2.1
            go_wp2
            have z2 := rk_at (k := 1) (u := .slice ma d.late.length mc) (rk_at (k := 0) (u := .slice ta tn tc) HI.out.2.1)
            (try simp only [Exit.inBlock, Exit.then])
            refine bodyPost_ret (results_cell_row rfl _ _ w.heap.size 34 #[.slice ta tn tc, .slice ma d.late.length mc] (0, 0) _ rfl z2 Tryd.underlying34 rfl rfl) rfl ?_
            obtain ⟨u, x, e1, e2⟩ := fin.out _ _ _ _ _ _ _ _ HI.out
            first
              | exact ⟨u, x, e1, e2⟩
              | exact ⟨u, e1, x, e2⟩
end Go.Proofs.YtiejfnnokfedkaaDoor

/- The draw of a disk, right or not. No condition. -/
namespace Go.Proofs.YtiejfnnokfedkaaDoor
open Go.RowKit
set_option maxRecDepth 100000
set_option linter.unusedVariables false

/-- A disk whose rows lie in blocks from B on. -/
def DiskB (B : Nat) (w : World) (v : Value) (d : PDisk) : Prop := ∃ sa sn sc la ln lc, v = .agg #[.slice sa sn sc, .slice la ln lc] ∧ Sv 1 w (.slice sa sn sc) (strCells d.safe) ∧ Sv 2 w (.slice la ln lc) (putCells d.late) ∧ (∀ a, sa = some a → B ≤ a.block) ∧ (∀ a, la = some a → B ≤ a.block)
theorem DiskB.at {B : Nat} {w : World} {v : Value} {d : PDisk} (h : DiskB B w v d) : DiskAt w v d := by
  obtain ⟨sa, sn, sc, la, ln, lc, e, h1, h2, _⟩ := h
  exact ⟨sa, sn, sc, la, ln, lc, e, h1, h2⟩
theorem DiskB.below {B : Nat} {w w' : World} {v : Value} {d : PDisk} (h : DiskB B w v d) (b : Below w.heap.size w w') : DiskB B w' v d := by
  obtain ⟨sa, sn, sc, la, ln, lc, e, h1, h2, h3⟩ := h
  exact ⟨sa, sn, sc, la, ln, lc, e, h1.below b, h2.below b, h3⟩
theorem DiskB.base {B B' : Nat} {w : World} {v : Value} {d : PDisk} (h : DiskB B w v d) (hB : B' ≤ B) : DiskB B' w v d := by
  obtain ⟨sa, sn, sc, la, ln, lc, e, h1, h2, h3, h4⟩ := h
  exact ⟨sa, sn, sc, la, ln, lc, e, h1, h2, fun a ha => Nat.le_trans hB (h3 a ha), fun a ha => Nat.le_trans hB (h4 a ha)⟩
theorem sv_low {size B : Nat} {w w' : World} {a : Option Addr} {n c : Nat} {xs : List Value} {row : Option Nat} (h : Sv size w (.slice a n c) xs) (ha : ∀ p, a = some p → B ≤ p.block) (hg : w.grownBy w' row) (hr : ∀ k, row = some k → k < B) : Sv size w' (.slice a n c) xs := by
  obtain ⟨a', n', c', e, h1, h2, h3, h4, hc⟩ := h
  cases e
  refine ⟨a, n, c, rfl, h1, h2, h3, h4, fun i hi => ?_⟩
  obtain ⟨b, off, rfl, cc⟩ := hc i hi
  refine ⟨b, off, rfl, hg.cell cc (fun e => ?_)⟩
  have k1 := ha _ rfl
  have k2 := hr b e.symm
  simp only at k1
  omega
theorem DiskB.low {B : Nat} {w w' : World} {v : Value} {d : PDisk} {row : Option Nat} (h : DiskB B w v d) (hg : w.grownBy w' row) (hr : ∀ k, row = some k → k < B) : DiskB B w' v d := by
  obtain ⟨sa, sn, sc, la, ln, lc, e, h1, h2, h3, h4⟩ := h
  exact ⟨sa, sn, sc, la, ln, lc, e, sv_low h1 h3 hg hr, sv_low h2 h4 hg hr, h3, h4⟩
theorem own_addr {B e size n : Nat} {w : World} {a : Option Addr} {m c : Nat} {xs : List Value} (h : w.ownsRow B e size (.slice a m c) n xs) : ∀ p, a = some p → B ≤ p.block := by
  intro p hp
  subst hp
  exact (World.ownsRow.lt h p.block rfl).1
theorem OwnDk.diskB {B : Nat} {w : World} {v : Value} {d : PDisk} (h : OwnDk B w v d) : DiskB B w v d := by
  obtain ⟨sa, sn, sc, la, ln, lc, e, h1, h2⟩ := h
  exact ⟨sa, sn, sc, la, ln, lc, e, sv_of_own h1, sv_of_own h2, own_addr h1, own_addr h2⟩

theorem own_addr1 {e size n : Nat} {W : World} {R : Nat} {a : Option Addr} {m c : Nat} {xs : List Value} (h : W.ownsRow R e size (.slice a m c) n xs) {cs : Array Value} {t : TypeId} {fr : Nat × Nat} (hR : W.heap[R]? = some (.cells cs t fr)) (ht : t ≠ e) : ∀ p, a = some p → R + 1 ≤ p.block := by
  intro p hp
  have h1 := own_addr h p hp
  by_cases e1 : p.block = R
  · subst hp
    obtain ⟨c2, f2, h2⟩ := rk_kind h (r := p.block) rfl
    rw [e1, hR] at h2
    cases h2
    exact absurd rfl ht
  · omega
/-- The row without its first. -/
theorem sv_tail {W : World} {g8 c8 : Nat} {s : ByteArray} {ss : List ByteArray} (h : Sv 1 W (.slice (some ⟨g8, 0, none⟩) (ss.length + 1) c8) (strCells (s :: ss))) : Sv 1 W (.slice (some ⟨g8, 1, none⟩) ss.length (c8 - 1)) (strCells ss) := by
  obtain ⟨a', n', c', e, h1, h2, h3, h4, hc⟩ := h
  cases e
  refine ⟨_, _, _, rfl, by rw [strCells_len, Nat.mul_one], by omega, by omega, (fun e => by cases e), fun i hi => ⟨g8, 1, rfl, ?_⟩⟩
  obtain ⟨b, off, e, cc⟩ := hc (i + 1) (by rw [strCells_len] at hi ⊢; simp; omega)
  cases e
  have e1 : 0 + (i + 1) = 1 + i := by omega
  rw [e1] at cc
  rw [cc]
  simp [strCells]
theorem fit_tail {s : ByteArray} {ss : List ByteArray} {ps : List (Int × ByteArray)} (h : DiskFit ⟨s :: ss, ps⟩) : DiskFit ⟨ss, ps⟩ := ⟨by have := h.sl; simp at this ⊢; omega, h.ll, fun x hx => h.st x (List.mem_cons_of_mem _ hx), h.lt⟩
theorem fit_set {d : PDisk} (h : DiskFit d) {k : Nat} {s : ByteArray} (hs : s.size ≤ 1099511627776) : DiskFit ⟨d.safe.set k s, d.late⟩ := ⟨by show (d.safe.set k s).length ≤ _; rw [List.length_set]; exact h.sl, h.ll, (fun x hx => by
  rcases List.mem_or_eq_of_mem_set hx with e | e
  · exact h.st x e
  · rw [e]; exact hs), h.lt⟩
theorem fit_snoc {d : PDisk} (h : DiskFit d) (hl : d.late.length ≤ 200) {p : Int × ByteArray} (hs : p.2.size ≤ 1099511627776) : DiskFit ⟨d.safe, d.late ++ [p]⟩ := ⟨h.sl, by show (d.late ++ [p]).length ≤ _; rw [List.length_append, List.length_singleton]; omega, h.st, (fun x hx => by
  rcases List.mem_append.mp hx with e | e
  · exact h.lt x e
  · simp at e; rw [e]; exact hs)⟩

theorem RightI.app0 {w0 w : World} {g : Nat} {v : Value} {xs : List Int} {R D : Nat} {d : PDisk} {a : Value} {ma : Option Addr} {mn mc : Nat} {W W' : World} (h : RightI w0 w g v xs R D d a (.slice ma mn mc) W) (hg : g < w.heap.size) (hD : w.heap.size ≤ D) (hDR : D ≠ R) {p : Int × ByteArray} {va : Option Addr} {vn vc : Nat}
    (o : W'.ownsRow w.heap.size 76 2 (.slice va vn vc) (d.late.length + 1) (putCells (d.late ++ [p]))) (gr : W.grownBy W' (Value.slice ma mn mc).ownBlock) :
    (W'.setCell ⟨D, 1, none⟩ (.slice va vn vc)).heap[D]? = some (.cells #[a, .slice va vn vc] 34 (0, 0)) ∧ (W'.setCell ⟨D, 1, none⟩ (.slice va vn vc)).heap[R]? = some (.cells #[.slice none 0 0, .slice none 0 0] 34 (0, 0)) ∧ OwnDk w.heap.size (W'.setCell ⟨D, 1, none⟩ (.slice va vn vc)) (.agg #[a, .slice va vn vc]) ⟨d.safe, d.late ++ [p]⟩ ∧ Cur w0 g v xs (W'.setCell ⟨D, 1, none⟩ (.slice va vn vc)) ∧ w.grownBy (W'.setCell ⟨D, 1, none⟩ (.slice va vn vc)) (some g) := by
  obtain ⟨h1, h2, ⟨sa, sn, sc, la, ln, lc, e, o1, o2⟩, _, h5, h6⟩ := h
  cases e
  have k1 := rk_keep o2 gr h1 (by decide)
  have k2 := rk_keep o2 gr h2 (by decide)
  have k3 := rk_other o2 gr o1 (by decide)
  have hrow : ∀ r, (Value.slice ma mn mc).ownBlock = some r → w.heap.size ≤ r := fun r e => (World.ownsRow.lt o2 r e).1
  have c1 := h5.kept gr (fun e => by have := hrow g e; omega) (fun r e => by have h7 := hrow r e; have h8 := h5.1; omega)
  have g1 := grown_past h6 gr hrow
  refine ⟨rk_at (k := 1) (u := .slice va vn vc) k1, (Below.heap_setCell _ ⟨D, 1, none⟩ _ R (fun e => hDR e.symm)).trans k2, ⟨_, _, _, _, _, _, rfl, rk_set k3 k1 (by decide), ?_⟩, c1.kept (grown_setCell _ _ _ _) (by simp; omega) (fun r e => by cases e; have h8 := h5.1; omega), grown_past g1 (grown_setCell _ _ _ _) (fun r e => by cases e; exact hD)⟩
  show World.ownsRow _ _ _ _ _ (d.late ++ [p]).length _
  rw [List.length_append, List.length_singleton]
  exact rk_set o k1 (by decide)

set_option maxHeartbeats 1000000 in
set_option maxRecDepth 100000 in
theorem drawDisk15_any {w0 : World} {g : Nat} {v : Value} {xs : List Int} {w : World} (h : Cur w0 g v xs w) (hb : ∀ x ∈ xs, 0 ≤ x ∧ x ≤ 255) :
    Calls Tryd.prog 71 #[.pointer (some ⟨g, 0, none⟩)] w fun e w' => ∃ (u : Value) (d : PDisk), e = .returned u ∧ DiskB w.heap.size w' u d ∧ DiskFit d ∧ Cur w0 g v xs w' ∧ w.grownBy w' (some g) := by
  have HB : Hid (∀ x ∈ xs, 0 ≤ x ∧ x ≤ 255) := hb
  have hgl := h.lt
  clear hb
  obtain ⟨w1, hw1⟩ : ∃ y, y = w.alloc (.cells #[.slice none 0 0, .slice none 0 0] 34) := ⟨_, rfl⟩
  have b1 : Below w.heap.size w w1 := by rw [hw1]; exact (Below.refl _ _).alloc (Nat.le_refl _) _
  have x1 : w1.heap[w.heap.size]? = some (.cells #[.slice none 0 0, .slice none 0 0] 34 (0, 0)) := by rw [hw1]; exact World.alloc_heap_new _ _
  have CD := (show Hid _ from drawRight15_any (h.below b1) HB.out)
  go_enter Tryd.func71, Tryd.ntmps71
  go_wp2_with fail
  go_at_call 85
  rw [← hw1]
  refine Calls.mono CD.out ?_
  rintro e w2 ⟨v2, d, rfl, o2, hd2, k2, g2⟩
  clear hw1 CD
  obtain ⟨sa, sn, sc, la, ln, lc, rfl, o21, o22⟩ := o2
  obtain ⟨w3, hw3⟩ : ∃ y, y = w2.alloc (.cells #[.slice sa sn sc, .slice la ln lc] 34) := ⟨_, rfl⟩
  have b3 : Below w2.heap.size w2 w3 := by rw [hw3]; exact (Below.refl _ _).alloc (Nat.le_refl _) _
  have x3 : w3.heap[w2.heap.size]? = some (.cells #[.slice sa sn sc, .slice la ln lc] 34 (0, 0)) := by rw [hw3]; exact World.alloc_heap_new _ _
  have hs1 := lt_of_block x1
  have y1 := (b3.block _ (Nat.lt_of_lt_of_le hs1 g2.size)).trans ((g2.block _ hs1 (by simp; omega)).trans x1)
  have gw1 : w.grownBy w1 (some g) := ⟨b1.os, b1.tape, b1.output, b1.size, fun k hk _ => b1.block k hk⟩
  have I3 : Hid (RightI w0 w g v xs w.heap.size w2.heap.size d (.slice sa sn sc) (.slice la ln lc) w3) := ⟨x3, y1, ⟨_, _, _, _, _, _, rfl, rk_base (ownsRow_below o21 b3) b1.size, rk_base (ownsRow_below o22 b3) b1.size⟩, hd2, k2.below b3, grown_below (grown_trans gw1 g2) b3⟩
  have hD : w.heap.size < w2.heap.size := Nat.lt_of_lt_of_le hs1 g2.size
  clear x3 y1 o21 o22 hd2 k2 g2 gw1 b1 x1 hs1 h b3
  go_wp2_with fail
  go_at_call 45
  rw [← hw3]
  refine (below_any 25 (by omega) I3.out.2.2.2.2.1 HB.out).mono ?_
  rintro e w4 ⟨x, rfl, x0, x1, _, k4, g4⟩
  replace x1 := x1 (by omega)
  obtain ⟨D, hDD⟩ : ∃ D, D = w2.heap.size := ⟨_, rfl⟩
  rw [← hDD] at I3 hD ⊢
  clear hDD hw3
  have hDle := Nat.le_of_lt hD
  have hDR : D ≠ w.heap.size := by omega
  have I4 := (show Hid (RightI w0 w g v xs w.heap.size D d (.slice sa sn sc) (.slice la ln lc) w4) from I3.out.cursor hgl (Nat.le_refl _) hDle k4 g4)
  clear I3 k4 g4
  obtain ⟨y1, y2, y3, y4⟩ := rk_two I4.out.1
  obtain ⟨r1, r2, r3, r4⟩ := rk_two I4.out.2.1
  -- the end: what stands in D is answered
  have fin : Hid (∀ (W : World) (d : PDisk) (ta : Option Addr) (tn tc : Nat) (ma : Option Addr) (mn mc : Nat), W.heap[w.heap.size]? = some (.cells #[.slice none 0 0, .slice none 0 0] 34 (0, 0)) → DiskB (w.heap.size + 1) W (.agg #[.slice ta tn tc, .slice ma mn mc]) d → DiskFit d → Cur w0 g v xs W → w.grownBy W (some g) → ∃ (u : Value) (d : PDisk), Ending.returned (.agg #[.slice ta tn tc, .slice ma mn mc]) = .returned u ∧ DiskB w.heap.size ((W.setCell ⟨w.heap.size, 0, none⟩ (.slice ta tn tc)).setCell ⟨w.heap.size, 1, none⟩ (.slice ma mn mc)) u d ∧ DiskFit d ∧ Cur w0 g v xs ((W.setCell ⟨w.heap.size, 0, none⟩ (.slice ta tn tc)).setCell ⟨w.heap.size, 1, none⟩ (.slice ma mn mc)) ∧ w.grownBy ((W.setCell ⟨w.heap.size, 0, none⟩ (.slice ta tn tc)).setCell ⟨w.heap.size, 1, none⟩ (.slice ma mn mc)) (some g)) := fun W d ta tn tc ma mn mc h2 ho hb hc hgr => by
    have hk : ∀ {W : World} (k : Nat) (u : Value), Cur w0 g v xs W → Cur w0 g v xs (W.setCell ⟨w.heap.size, k, none⟩ u) := fun k u c => c.kept (grown_setCell _ _ _ _) (by simp; omega) (fun r e => by cases e; have h1 := c.1; omega)
    exact ⟨_, d, rfl, ((ho.low (grown_setCell _ _ _ _) (fun k e => by cases e; omega)).low (grown_setCell _ _ _ _) (fun k e => by cases e; omega)).base (Nat.le_succ _), hb, hk _ _ (hk _ _ hc), grown_past (grown_past hgr (grown_setCell _ _ _ _) (fun r e => by cases e; exact Nat.le_refl _)) (grown_setCell _ _ _ _) (fun r e => by cases e; exact Nat.le_refl _)⟩
  have hfit := fit_right I4.out.2.2.2.1
  have hlens := diskB_len I4.out.2.2.2.1
  have hI4 := I4.out
  obtain ⟨z1, hR4, ⟨_, _, _, _, _, _, ev, o1, o2⟩, _, hc4, hg4⟩ := hI4
  cases ev
  have hA2 := own_addr1 o2 hR4 (by decide)
  have hA1 := own_addr1 o1 hR4 (by decide)
  obtain ⟨g8, c8, e8, _, hlt8⟩ := rk_form o1 (by omega)
  cases e8
  have hg8 := hA1 _ rfl
  simp only at hg8
  have hsc : d.safe.length ≤ sc := by
    obtain ⟨_, _, e9, h9, _⟩ := (sv_of_own o1).str
    cases e9; exact h9
  have O1 := (show Hid (w4.ownsRow w.heap.size 9 1 (.slice (some ⟨g8, 0, none⟩) d.safe.length sc) d.safe.length (strCells d.safe)) from o1)
  have O2 := (show Hid (w4.ownsRow w.heap.size 76 2 (.slice la ln lc) d.late.length (putCells d.late) ∧ (∀ p, la = some p → w.heap.size + 1 ≤ p.block)) from ⟨o2, hA2⟩)
  have HFIT := (show Hid (DiskFit d) from hfit)
  have HC4 := (show Hid (Cur w0 g v xs w4 ∧ w.grownBy w4 (some g)) from ⟨hc4, hg4⟩)
  have HR4 := (show Hid _ from hR4)
  have Z1 := (show Hid _ from z1)
  clear z1 hR4 o1 o2 hc4 hg4 hA1 hA2 hfit
  -- a cell of D is turned
  have setD : Hid (∀ (k : Nat) (u : Value), (w4.setCell ⟨D, k, none⟩ u).heap[w.heap.size]? = some (.cells #[.slice none 0 0, .slice none 0 0] 34 (0, 0)) ∧ Cur w0 g v xs (w4.setCell ⟨D, k, none⟩ u) ∧ w.grownBy (w4.setCell ⟨D, k, none⟩ u) (some g)) := fun k u =>
    ⟨(Below.heap_setCell _ ⟨D, k, none⟩ u w.heap.size (fun e => hDR e.symm)).trans HR4.out, HC4.out.1.kept (grown_setCell _ _ _ _) (by simp; omega) (fun r e => by cases e; have h1 := HC4.out.1.1; omega), grown_past HC4.out.2 (grown_setCell _ _ _ _) (fun r e => by cases e; exact hDle)⟩
  have HL := (show Hid (d.safe.length = 130 ∧ d.late.length ≤ 200) from hlens)
  clear hlens
  by_cases e0 : x = 0
  · subst e0
    have hlens := HL.out
    have h1 : (1 : Int) ≤ (d.safe.length : Int) := by omega
    have h2 : ¬ sc = 1 := by omega
    obtain ⟨s0, ss, hss⟩ : ∃ s0 ss, d.safe = s0 :: ss := by
      cases hq : d.safe with
      | nil => rw [hq] at hlens; simp at hlens
      | cons s0 ss => exact ⟨s0, ss, rfl⟩
    have HSS := (show Hid (d.safe = s0 :: ss) from hss)
    clear hss
    clear hlens
    have RS := (show Hid _ from (setD.out 0 (.slice (some ⟨g8, 1, none⟩) (d.safe.length - 1) (sc - 1))))
    go_wp2
    have q1 := rk_at (k := 1) (u := .slice la ln lc) (rk_at (k := 0) (u := .slice (some ⟨g8, 1, none⟩) (d.safe.length - 1) (sc - 1)) RS.out.1)
    refine bodyPost_ret (results_cell_row rfl _ _ w.heap.size 34 #[.slice (some ⟨g8, 1, none⟩) (d.safe.length - 1) (sc - 1), .slice la ln lc] (0, 0) _ rfl q1 Tryd.underlying34 rfl rfl) rfl ?_
    have hss := HSS.out
    have hl1 : d.safe.length - 1 = ss.length := by rw [hss]; simp
    have sv1 : Sv 1 (w4.setCell ⟨D, 0, none⟩ (.slice (some ⟨g8, 1, none⟩) (d.safe.length - 1) (sc - 1))) (.slice (some ⟨g8, 1, none⟩) (d.safe.length - 1) (sc - 1)) (strCells ss) := by
      have := sv_of_own (rk_set (k := 0) (u := .slice (some ⟨g8, 1, none⟩) (d.safe.length - 1) (sc - 1)) O1.out Z1.out (by decide))
      rw [hl1] at this ⊢
      rw [hss] at this
      exact sv_tail this
    have sv2 := sv_of_own (rk_set (k := 0) (u := .slice (some ⟨g8, 1, none⟩) (d.safe.length - 1) (sc - 1)) O2.out.1 Z1.out (by decide))
    obtain ⟨u, y, e1, e2⟩ := fin.out _ ⟨ss, d.late⟩ _ _ _ _ _ _ RS.out.1 ⟨_, _, _, _, _, _, rfl, sv1, sv2, (fun p e => by cases e; exact hg8), O2.out.2⟩ (fit_tail (s := s0) (by rw [← hss]; exact HFIT.out)) RS.out.2.1 RS.out.2.2
    first
      | exact ⟨u, y, e1, e2⟩
      | exact ⟨u, e1, y, e2⟩
  · by_cases e1 : x = 1
    · subst e1
      have hlens := HL.out
      obtain ⟨zz, hc3⟩ : ∃ z, w4.cell? ⟨g8, 3, none⟩ = some z := by
        rw [O1.out.cellAt 3 (by omega)]; exact ⟨_, List.getElem?_eq_getElem (by rw [strCells_len]; omega)⟩
      have hf3 := O1.out.frozenAt 3
      have h3 : (3 : Int) < (d.safe.length : Int) := by omega
      have S3 := (show Hid _ from O1.out.stored 3 (.string ⟨#[120]⟩))
      clear hlens
      go_wp2
      have sg := S3.out.2
      have hR5 := rk_keep O1.out sg HR4.out (by decide)
      have hZ5 := rk_keep O1.out sg Z1.out (by decide)
      have o25 := rk_other O1.out sg O2.out.1 (by decide)
      have hc5 := HC4.out.1.kept sg (by simp; omega) (fun r e => by cases e; have h1 := HC4.out.1.1; omega)
      have hg5 := grown_past HC4.out.2 sg (fun r e => by cases e; omega)
      have o15 := S3.out.1
      rw [strCells_set] at o15
      have q1 := rk_at (k := 1) (u := .slice la ln lc) (rk_at (k := 0) (u := .slice (some ⟨g8, 0, none⟩) d.safe.length sc) hR5)
      refine bodyPost_ret (results_cell_row rfl _ _ w.heap.size 34 #[.slice (some ⟨g8, 0, none⟩) d.safe.length sc, .slice la ln lc] (0, 0) _ rfl q1 Tryd.underlying34 rfl rfl) rfl ?_
      obtain ⟨u, y, e1, e2⟩ := fin.out _ ⟨d.safe.set 3 ⟨#[120]⟩, d.late⟩ _ _ _ _ _ _ hR5 ⟨_, _, _, _, _, _, rfl, sv_of_own o15, sv_of_own o25, (fun p e => by cases e; exact hg8), O2.out.2⟩ (fit_set HFIT.out (by decide)) hc5 hg5
      first
        | exact ⟨u, y, e1, e2⟩
        | exact ⟨u, e1, y, e2⟩
    · by_cases e2 : x = 2
      · subst e2
        go_upto_region 8 with fail
        obtain ⟨iP, hiP, hp0, hp1, hp2⟩ := info_parts Tryd.infoPut
        have CZ := (show Hid (∀ W, Calls Tryd.prog 87 #[] W fun e w' => e = .returned (.string zeros64) ∧ Below W.heap.size W w') from fun W => sl15Zeros_any W)
        have HZ64 := (show Hid (zeros64.size = 64) from zeros64_size)
        obtain ⟨z, hz⟩ : ∃ z, z = zeros64 := ⟨_, rfl⟩
        rw [← hz] at CZ HZ64
        clear hz
        have hlens := HL.out
        have hl200 := hlens.2
        have KD := (show Hid (RightI w0 w g v xs w.heap.size D d (.slice (some ⟨g8, 0, none⟩) d.safe.length sc) (.slice la ln lc) w4.drew) from I4.out.below (below_drewN 1))
        obtain ⟨_, rfl⟩ := I4.out.late
        have hD4 := I4.out.lt
        have hR5 : w.heap.size ≤ w.heap.size := Nat.le_refl _
        clear hlens
        go_region_law (first
          | (go_simp
             go_at_call 47
             refine Calls.mono (pickL_any KD.out.2.2.2.2.1 HB.out [-1, 130, 0] (by simp) (by simp) _ rfl 3 rfl) ?_
             rintro e w5 ⟨q, rfl, _, k5, g5⟩
             have R5 := (show Hid (RightI w0 w g v xs w.heap.size D d (.slice (some ⟨g8, 0, none⟩) d.safe.length sc) (.slice la d.late.length lc) w5) from KD.out.cursor hgl (Nat.le_refl _) hDle k5 g5)
             obtain ⟨m1, m2, m3, m4⟩ := rk_two R5.out.1
             have hD5 := R5.out.lt
             clear k5 g5)
          | (go_simp
             go_at_call 87
             refine Calls.mono (CZ.out _) ?_
             rintro e w6 ⟨rfl, b6⟩
             have R6 := (show Hid (RightI w0 w g v xs w.heap.size D d (.slice (some ⟨g8, 0, none⟩) d.safe.length sc) (.slice la d.late.length lc) w6) from R5.out.below b6)
             obtain ⟨m1, m2, m3, m4⟩ := rk_two R6.out.1
             have hD6 := R6.out.lt
             clear b6)
          | (go_simp
             go_at_call 86
             refine Calls.mono (pickS_any R6.out.2.2.2.2.1 HB.out [⟨#[]⟩, z] (by simp) (by simp) _ rfl 2 rfl) ?_
             rintro e w7 ⟨t, rfl, ht, k7, g7⟩
             have ht64 : t.size ≤ 64 := by
               have hz := HZ64.out
               simp only [List.mem_cons, List.not_mem_nil, or_false] at ht
               rcases ht with rfl | rfl
               · decide
               · omega
             have R7 := (show Hid (RightI w0 w g v xs w.heap.size D d (.slice (some ⟨g8, 0, none⟩) d.safe.length sc) (.slice la d.late.length lc) w7) from R6.out.cursor hgl (Nat.le_refl _) hDle k7 g7)
             obtain ⟨m1, m2, m3, m4⟩ := rk_two R7.out.1
             have hD7 := R7.out.lt
             clear k7 g7 ht)
          | (with_reducible refine step_appS (w := w7.alloc (.cells #[.int .i64 q, .string t] 76)) ?_ (.tmp 22) (.tmp 31) 32 ?_ w.heap.size 76 iP _ 2 24 ?_ hiP hp0 hp1 hp2 ?_ ?_ (.slice la d.late.length lc) d.late.length (putCells d.late) ?_ ?_ (.slice (some ⟨w7.heap.size, 0, none⟩) 1 1) 1 (putCells [(q, t)]) ?_ ?_ ?_ ?_ ?_ ?_ ?_ ?_
             · rfl
             · rfl
             · exact Tryd.underlying32
             · rfl
             · decide
             · simp [Act.eval]
             · exact (R7.out.alloc _).late.1
             · simp [Act.eval]
             · exact sv_onePut (World.alloc_heap_new w7 _)
             · exact putCells_len _
             · exact put_oneCell _
             · (unfold maxLen; omega)
             · omega
             · exact (R7.out.alloc _).2.2.2.2.2.size
             intro v8 w8 o8 gr8
             rw [← putCells_app] at o8
             obtain ⟨a8, n8, c8, rfl⟩ := rk_slice o8
             have z8 := rk_keep (R7.out.alloc _).late.1 gr8 (R7.out.alloc _).1 (by decide)
             obtain ⟨t1, t2, t3, t4⟩ := rk_two z8
             have R8 := (show Hid _ from (R7.out.alloc (.cells #[.int .i64 q, .string t] 76)).app0 hgl hDle hDR o8 gr8)
             clear o8 gr8 z8))
        all_goals
          obtain ⟨w9, hw9⟩ : ∃ y, y = w8.setCell ⟨D, 1, none⟩ (.slice a8 n8 c8) := ⟨_, rfl⟩
          rw [← hw9] at R8
          rw [← hw9]
          clear hw9 t1 t2 t3 t4
          obtain ⟨y1, y2, _, _⟩ := rk_two R8.out.1
          obtain ⟨r1, r2, r3, r4⟩ := rk_two R8.out.2.1
          go_wp2
          have q1 := rk_at (k := 1) (u := .slice a8 n8 c8) (rk_at (k := 0) (u := .slice (some ⟨g8, 0, none⟩) d.safe.length sc) R8.out.2.1)
          (try simp only [Exit.inBlock, Exit.then])
          refine bodyPost_ret (results_cell_row rfl _ _ w.heap.size 34 #[.slice (some ⟨g8, 0, none⟩) d.safe.length sc, .slice a8 n8 c8] (0, 0) _ rfl q1 Tryd.underlying34 rfl rfl) rfl ?_
          obtain ⟨_, hR9, ⟨_, _, _, _, _, _, ev, p1, p2⟩, hc9, hg9⟩ := R8.out
          cases ev
          obtain ⟨u, y, e1, e2⟩ := fin.out _ ⟨d.safe, d.late ++ [(q, t)]⟩ _ _ _ _ _ _ hR9 ⟨_, _, _, _, _, _, rfl, sv_of_own p1, sv_of_own p2, own_addr1 p1 hR9 (by decide), own_addr1 p2 hR9 (by decide)⟩ (fit_snoc HFIT.out hl200 (by show t.size ≤ _; omega)) hc9 hg9
          first
            | exact ⟨u, y, e1, e2⟩
            | exact ⟨u, e1, y, e2⟩
      · have n0 : (x == 0) = false := by simpa using e0
        have n1 : (x == 1) = false := by simpa using e1
        have n2 : (x == 2) = false := by simpa using e2
        go_wp2
        have q1 := rk_at (k := 1) (u := .slice la ln lc) (rk_at (k := 0) (u := .slice (some ⟨g8, 0, none⟩) d.safe.length sc) HR4.out)
        refine bodyPost_ret (results_cell_row rfl _ _ w.heap.size 34 #[.slice (some ⟨g8, 0, none⟩) d.safe.length sc, .slice la ln lc] (0, 0) _ rfl q1 Tryd.underlying34 rfl rfl) rfl ?_
        obtain ⟨u, y, e1, e2⟩ := fin.out _ d _ _ _ _ _ _ HR4.out ⟨_, _, _, _, _, _, rfl, sv_of_own O1.out, sv_of_own O2.out.1, (fun p e => by cases e; exact hg8), O2.out.2⟩ HFIT.out HC4.out.1 HC4.out.2
        first
          | exact ⟨u, y, e1, e2⟩
          | exact ⟨u, e1, y, e2⟩
end Go.Proofs.YtiejfnnokfedkaaDoor
