import Derived.Test.YtiejfnnokfedkaaDoorB17
import Derived.Test.YtiejfnnokfedkaaDoorB16
import Derived.Deep.RegionHeld3
import Derived.Deep.CutRange
import Derived.Test.YtiejfnnokfedkaaDoorB13
/- The draw of a right disk. No condition. -/
namespace Go.Proofs.YtiejfnnokfedkaaDoor
open Go.RowKit
set_option maxRecDepth 100000
set_option linter.unusedVariables false

theorem row_low {B e size n : Nat} {w w' : World} {v : Value} {xs : List Value} {row : Option Nat} (h : w.ownsRow B e size v n xs) (hg : w.grownBy w' row) (hr : ∀ k, row = some k → k < B) : w'.ownsRow B e size v n xs := by
  refine h.kept hg ?_
  cases hv : v.ownBlock with
  | none => exact .inl rfl
  | some k =>
    refine .inr fun e => ?_
    have h1 := (World.ownsRow.lt h k hv).1
    have h2 := hr k e.symm
    omega
theorem OwnDk.low {B : Nat} {w w' : World} {v : Value} {d : PDisk} {row : Option Nat} (h : OwnDk B w v d) (hg : w.grownBy w' row) (hr : ∀ k, row = some k → k < B) : OwnDk B w' v d := by
  obtain ⟨sa, sn, sc, la, ln, lc, e, h1, h2⟩ := h
  exact ⟨sa, sn, sc, la, ln, lc, e, row_low h1 hg hr, row_low h2 hg hr⟩
theorem OwnDk.base {B B' : Nat} {w : World} {v : Value} {d : PDisk} (h : OwnDk B w v d) (hB : B' ≤ B) : OwnDk B' w v d := by
  obtain ⟨sa, sn, sc, la, ln, lc, e, h1, h2⟩ := h
  exact ⟨sa, sn, sc, la, ln, lc, e, rk_base h1 hB, rk_base h2 hB⟩
theorem OwnDk.set {B b k : Nat} {w : World} {v u : Value} {d : PDisk} (h : OwnDk B w v d) {cs : Array Value} {fr : Nat × Nat} (hb : w.heap[b]? = some (.cells cs 34 fr)) : OwnDk B (w.setCell ⟨b, k, none⟩ u) v d := by
  obtain ⟨sa, sn, sc, la, ln, lc, e, h1, h2⟩ := h
  exact ⟨sa, sn, sc, la, ln, lc, e, rk_set h1 hb (by decide), rk_set h2 hb (by decide)⟩
theorem fit_right {d : PDisk} (h : diskB d = true) : DiskFit d := by
  obtain ⟨h1, h2⟩ := diskB_len h
  refine ⟨by omega, by omega, fun s hs => ?_, fun p hp => ?_⟩
  · obtain ⟨k, hk, rfl⟩ := List.getElem_of_mem hs; rw [diskB_safe h hk]; decide
  · obtain ⟨k, hk, rfl⟩ := List.getElem_of_mem hp; rw [(diskB_late h hk).2.2]; decide
theorem right_new : diskB newDk = true := by
  refine diskB_yes (by decide) (by decide) (fun k hk => ?_) (fun k hk => absurd hk (by simp [newDk]))
  have : newDk.safe[k] = zeros64 := List.getElem_replicate (by simpa [newDk] using hk)
  rw [this]; exact zeros64_size
theorem right_snoc {d : PDisk} (h : diskB d = true) {x : Int} {s : ByteArray} (hx : inB x 0 129 = true) (hs : s.size = 64) (hl : d.late.length < 200) : diskB ⟨d.safe, d.late ++ [(x, s)]⟩ = true := by
  simp only [diskB, Bool.and_eq_true, decide_eq_true_eq, List.all_append, List.all_cons, List.all_nil, Bool.and_true, List.length_append, List.length_singleton] at h ⊢
  exact ⟨⟨⟨h.1.1.1, by omega⟩, h.1.2⟩, h.2, hx, hs⟩
theorem right_put {d : PDisk} (h : diskB d = true) {x : Int} {s : ByteArray} (hp : (putDk d x s).2 = true) : diskB (putDk d x s).1 = true := by
  unfold putDk at hp ⊢
  rw [if_neg (by rw [h]; simp)] at hp ⊢
  split at hp
  · cases hp
  · rename_i hn
    rw [if_neg hn]
    have h2 := (diskB_len h).2
    have hx : inB x 0 129 = true := by
      cases e : inB x 0 129
      · exact absurd (.inl e) hn
      · rfl
    have hs : s.size = 64 := by
      by_cases e : s.size = 64
      · exact e
      · exact absurd (.inr (.inl e)) hn
    have hl : d.late.length ≠ 200 := fun e => hn (.inr (.inr e))
    exact right_snoc h hx hs (by omega)
theorem right_done {d : PDisk} (h : diskB d = true) (keep : Int) : diskB (doneDk keep d) = true := by
  have hl := diskB_len h
  refine diskB_yes ((doneN_len _ _ _ _).trans hl.1) (Nat.zero_le _) (fun k hk => ?_) (fun k hk => absurd hk (by simp [doneDk]))
  have h1 : ∀ n, ∀ t ∈ doneN keep d.safe d.late n, t.size = 64 := by
    intro n
    induction n with
    | zero => intro t ht; obtain ⟨i, hi, rfl⟩ := List.getElem_of_mem ht; exact diskB_safe h hi
    | succ n ih =>
      by_cases hlt : n < d.late.length
      · rw [doneN_succ hlt]
        split
        · intro t ht
          rcases List.mem_or_eq_of_mem_set ht with e | e
          · exact ih t e
          · rw [e]; exact (diskB_late h hlt).2.2
        · exact ih
      · intro t ht
        rw [doneN, List.getElem?_eq_none (by omega)] at ht
        exact ih t ht
  exact h1 _ _ (List.getElem_mem hk)
theorem right_sync {d : PDisk} (h : diskB d = true) : (syncDk d).2 = true ∧ diskB (syncDk d).1 = true := by
  unfold syncDk
  rw [if_neg (by rw [h]; simp)]
  exact ⟨rfl, right_done h _⟩

/-- While a right disk is drawn: it stands in block D. -/
def RightI (w0 w : World) (g : Nat) (v : Value) (xs : List Int) (R D : Nat) (d : PDisk) (a b : Value) (W : World) : Prop :=
  W.heap[D]? = some (.cells #[a, b] 34 (0, 0)) ∧ W.heap[R]? = some (.cells #[.slice none 0 0, .slice none 0 0] 34 (0, 0)) ∧ OwnDk w.heap.size W (.agg #[a, b]) d ∧ diskB d = true ∧ Cur w0 g v xs W ∧ w.grownBy W (some g)

theorem RightI.lt {w0 w : World} {g : Nat} {v : Value} {xs : List Int} {R D : Nat} {d : PDisk} {a b : Value} {W : World} (h : RightI w0 w g v xs R D d a b W) : D < W.heap.size := lt_of_block h.1
theorem RightI.s {w0 w : World} {g : Nat} {v : Value} {xs : List Int} {R D : Nat} {d : PDisk} {a b : Value} {W : World} (h : RightI w0 w g v xs R D d a b W) : W.cell? ⟨D, 0, none⟩ = some a ∧ W.cell? ⟨D, 1, none⟩ = some b ∧ RightI w0 w g v xs R D d a b W :=
  ⟨(rk_two h.1).1, (rk_two h.1).2.1, h⟩
theorem RightI.below {w0 w : World} {g : Nat} {v : Value} {xs : List Int} {R D : Nat} {d : PDisk} {a b : Value} {W W' : World} (h : RightI w0 w g v xs R D d a b W) (k : Below W.heap.size W W') : RightI w0 w g v xs R D d a b W' :=
  ⟨(k.block _ (lt_of_block h.1)).trans h.1, (k.block _ (lt_of_block h.2.1)).trans h.2.1, h.2.2.1.below k, h.2.2.2.1, h.2.2.2.2.1.below k, grown_below h.2.2.2.2.2 k⟩
theorem RightI.alloc {w0 w : World} {g : Nat} {v : Value} {xs : List Int} {R D : Nat} {d : PDisk} {a b : Value} {W : World} (h : RightI w0 w g v xs R D d a b W) (o : Obj) : RightI w0 w g v xs R D d a b (W.alloc o) :=
  h.below ((Below.refl _ _).alloc (Nat.le_refl _) _)
theorem RightI.cursor {w0 w : World} {g : Nat} {v : Value} {xs : List Int} {R D : Nat} {d : PDisk} {a b : Value} {W W' : World} (h : RightI w0 w g v xs R D d a b W) (hg : g < w.heap.size) (hR : w.heap.size ≤ R) (hD : w.heap.size ≤ D) (k : Cur w0 g v xs W') (gr : W.grownBy W' (some g)) : RightI w0 w g v xs R D d a b W' :=
  ⟨(gr.block _ (lt_of_block h.1) (by simp; omega)).trans h.1, (gr.block _ (lt_of_block h.2.1) (by simp; omega)).trans h.2.1, h.2.2.1.low gr (fun k e => by cases e; exact hg), h.2.2.2.1, k, grown_trans h.2.2.2.2.2 gr⟩
/-- A cell of another variable is turned. -/
theorem RightI.set {w0 w : World} {g : Nat} {v : Value} {xs : List Int} {R D : Nat} {d : PDisk} {a b : Value} {W : World} (h : RightI w0 w g v xs R D d a b W) (hg : g < w.heap.size) {N k : Nat} {u : Value} (hN : w.heap.size ≤ N) (hND : N ≠ D) (hNR : N ≠ R) {cs : Array Value} {fr : Nat × Nat} (hb : W.heap[N]? = some (.cells cs 34 fr)) : RightI w0 w g v xs R D d a b (W.setCell ⟨N, k, none⟩ u) :=
  ⟨(Below.heap_setCell W ⟨N, k, none⟩ u D (fun e => hND e.symm)).trans h.1, (Below.heap_setCell W ⟨N, k, none⟩ u R (fun e => hNR e.symm)).trans h.2.1, h.2.2.1.set hb, h.2.2.2.1, h.2.2.2.2.1.kept (grown_setCell _ _ _ _) (by simp; omega) (fun r e => by cases e; have h1 := h.2.2.2.2.1.1; omega), grown_past h.2.2.2.2.2 (grown_setCell _ _ _ _) (fun r e => by cases e; exact hN)⟩
/-- And the disk that may follow it stands in block N. -/
def NextI (w0 w : World) (g : Nat) (v : Value) (xs : List Int) (R D : Nat) (d : PDisk) (a b : Value) (N : Nat) (d' : PDisk) (a' b' : Value) (W : World) : Prop :=
  RightI w0 w g v xs R D d a b W ∧ W.heap[N]? = some (.cells #[a', b'] 34 (0, 0)) ∧ OwnDk w.heap.size W (.agg #[a', b']) d' ∧ w.heap.size ≤ N ∧ N ≠ D ∧ N ≠ R
theorem next_new {w0 w : World} {g : Nat} {v : Value} {xs : List Int} {R D : Nat} {d : PDisk} {a b : Value} {d' : PDisk} {a' b' : Value} {W : World} (h : RightI w0 w g v xs R D d a b W) (o : OwnDk w.heap.size W (.agg #[a', b']) d') : NextI w0 w g v xs R D d a b W.heap.size d' a' b' (W.alloc (.cells #[a', b'] 34)) :=
  ⟨h.alloc _, World.alloc_heap_new _ _, o.below ((Below.refl _ _).alloc (Nat.le_refl _) _), h.2.2.2.2.2.size, by have := lt_of_block h.1; omega, by have := lt_of_block h.2.1; omega⟩
theorem next_set {w0 w : World} {g : Nat} {v : Value} {xs : List Int} {R D : Nat} {d : PDisk} {a b : Value} {d' : PDisk} {a' b' : Value} {W : World} (h : RightI w0 w g v xs R D d a b W) (hg : g < w.heap.size) (o : OwnDk w.heap.size W (.agg #[a', b']) d') {N : Nat} {x y : Value} (hb : W.heap[N]? = some (.cells #[x, y] 34 (0, 0))) (hN : w.heap.size ≤ N) (hND : N ≠ D) (hNR : N ≠ R) :
    NextI w0 w g v xs R D d a b N d' a' b' ((W.setCell ⟨N, 0, none⟩ a').setCell ⟨N, 1, none⟩ b') := by
  have s1 := rk_at (k := 0) (u := a') hb
  exact ⟨(h.set hg hN hND hNR hb).set hg hN hND hNR s1, rk_at (k := 1) (u := b') s1, (o.set hb).set s1, hN, hND, hNR⟩

theorem NextI.cursor {w0 w : World} {g : Nat} {v : Value} {xs : List Int} {R D : Nat} {d : PDisk} {a b : Value} {N : Nat} {d' : PDisk} {a' b' : Value} {W W' : World} (h : NextI w0 w g v xs R D d a b N d' a' b' W) (hg : g < w.heap.size) (hR : w.heap.size ≤ R) (hD : w.heap.size ≤ D) (k : Cur w0 g v xs W') (gr : W.grownBy W' (some g)) : NextI w0 w g v xs R D d a b N d' a' b' W' :=
  ⟨h.1.cursor hg hR hD k gr, (gr.block _ (lt_of_block h.2.1) (by have := h.2.2.2.1; simp; omega)).trans h.2.1, h.2.2.1.low gr (fun k e => by cases e; exact hg), h.2.2.2⟩
theorem NextI.turn {w0 w : World} {g : Nat} {v : Value} {xs : List Int} {R D : Nat} {d : PDisk} {a b : Value} {N : Nat} {d' : PDisk} {a' b' : Value} {W : World} (h : NextI w0 w g v xs R D d a b N d' a' b' W) (hg : g < w.heap.size) (hD : w.heap.size ≤ D) (hDR : D ≠ R) (hb : diskB d' = true) :
    RightI w0 w g v xs R D d' a' b' ((W.setCell ⟨D, 0, none⟩ a').setCell ⟨D, 1, none⟩ b') := by
  obtain ⟨⟨h1, h2, _, _, h5, h6⟩, _, ho, _⟩ := h
  have s1 := rk_at (k := 0) (u := a') h1
  have hk : ∀ {W : World} (k : Nat) (u : Value), Cur w0 g v xs W → Cur w0 g v xs (W.setCell ⟨D, k, none⟩ u) := fun k u c => c.kept (grown_setCell _ _ _ _) (by simp; omega) (fun r e => by cases e; have h1 := c.1; omega)
  refine ⟨rk_at (k := 1) (u := b') s1, ?_, (ho.set h1).set s1, hb, hk _ _ (hk _ _ h5), grown_past (grown_past h6 (grown_setCell _ _ _ _) (fun r e => by cases e; exact hD)) (grown_setCell _ _ _ _) (fun r e => by cases e; exact hD)⟩
  exact (Below.heap_setCell _ ⟨D, 1, none⟩ b' R (fun e => hDR e.symm)).trans ((Below.heap_setCell _ ⟨D, 0, none⟩ a' R (fun e => hDR e.symm)).trans h2)

theorem RightI.app {w0 w : World} {g : Nat} {v : Value} {xs : List Int} {R D : Nat} {d : PDisk} {a : Value} {ma : Option Addr} {mn mc : Nat} {W W' : World} (h : RightI w0 w g v xs R D d a (.slice ma mn mc) W) (hg : g < w.heap.size) (hD : w.heap.size ≤ D) (hDR : D ≠ R) {p : Int × ByteArray} {va : Option Addr} {vn vc : Nat}
    (o : W'.ownsRow w.heap.size 76 2 (.slice va vn vc) (d.late.length + 1) (putCells (d.late ++ [p]))) (gr : W.grownBy W' (Value.slice ma mn mc).ownBlock) (hb : diskB ⟨d.safe, d.late ++ [p]⟩ = true) :
    RightI w0 w g v xs R D ⟨d.safe, d.late ++ [p]⟩ a (.slice va vn vc) (W'.setCell ⟨D, 1, none⟩ (.slice va vn vc)) := by
  obtain ⟨h1, h2, ⟨sa, sn, sc, la, ln, lc, e, o1, o2⟩, _, h5, h6⟩ := h
  cases e
  have k1 := rk_keep o2 gr h1 (by decide)
  have k2 := rk_keep o2 gr h2 (by decide)
  have k3 := rk_other o2 gr o1 (by decide)
  have hrow : ∀ r, (Value.slice ma mn mc).ownBlock = some r → w.heap.size ≤ r := fun r e => (World.ownsRow.lt o2 r e).1
  have c1 := h5.kept gr (fun e => by have := hrow g e; omega) (fun r e => by have h7 := hrow r e; have h8 := h5.1; omega)
  have g1 := grown_past h6 gr hrow
  refine ⟨rk_at (k := 1) (u := .slice va vn vc) k1, (Below.heap_setCell _ ⟨D, 1, none⟩ _ R (fun e => hDR e.symm)).trans k2, ⟨_, _, _, _, _, _, rfl, rk_set k3 k1 (by decide), ?_⟩, hb, c1.kept (grown_setCell _ _ _ _) (by simp; omega) (fun r e => by cases e; have h8 := h5.1; omega), grown_past g1 (grown_setCell _ _ _ _) (fun r e => by cases e; exact hD)⟩
  show World.ownsRow _ _ _ _ _ (d.late ++ [p]).length _
  rw [List.length_append, List.length_singleton]
  exact rk_set o k1 (by decide)
theorem RightI.late {w0 w : World} {g : Nat} {v : Value} {xs : List Int} {R D : Nat} {d : PDisk} {a : Value} {ma : Option Addr} {mn mc : Nat} {W : World} (h : RightI w0 w g v xs R D d a (.slice ma mn mc) W) : W.ownsRow w.heap.size 76 2 (.slice ma mn mc) d.late.length (putCells d.late) ∧ mn = d.late.length := by
  obtain ⟨_, _, ⟨sa, sn, sc, la, ln, lc, e, o1, o2⟩, _⟩ := h
  cases e
  obtain ⟨_, _, e2, _⟩ := (sv_of_own o2).put
  cases e2
  exact ⟨o2, rfl⟩

set_option maxHeartbeats 1000000 in
set_option maxRecDepth 100000 in
theorem drawRight15_any {w0 : World} {g : Nat} {v : Value} {xs : List Int} {w : World} (h : Cur w0 g v xs w) (hb : ∀ x ∈ xs, 0 ≤ x ∧ x ≤ 255) :
    Calls Tryd.prog 85 #[.pointer (some ⟨g, 0, none⟩)] w fun e w' => ∃ (u : Value) (d : PDisk), e = .returned u ∧ OwnDk w.heap.size w' u d ∧ diskB d = true ∧ Cur w0 g v xs w' ∧ w.grownBy w' (some g) := by
  have HB : Hid (∀ x ∈ xs, 0 ≤ x ∧ x ≤ 255) := hb
  have hgl := h.lt
  clear hb
  obtain ⟨w1, hw1⟩ : ∃ y, y = w.alloc (.cells #[.slice none 0 0, .slice none 0 0] 34) := ⟨_, rfl⟩
  have b1 : Below w.heap.size w w1 := by rw [hw1]; exact (Below.refl _ _).alloc (Nat.le_refl _) _
  have x1 : w1.heap[w.heap.size]? = some (.cells #[.slice none 0 0, .slice none 0 0] 34 (0, 0)) := by rw [hw1]; exact World.alloc_heap_new _ _
  go_enter Tryd.func85, Tryd.ntmps85
  go_wp2_with fail
  go_at_call 88
  rw [← hw1]
  refine (sdiskNew_any w1).mono ?_
  rintro e w2 ⟨v2, rfl, o2, b2⟩
  clear hw1
  obtain ⟨sa, sn, sc, la, ln, lc, rfl, o21, o22⟩ := o2
  obtain ⟨w3, hw3⟩ : ∃ y, y = w2.alloc (.cells #[.slice sa sn sc, .slice la ln lc] 34) := ⟨_, rfl⟩
  have b3 : Below w2.heap.size w2 w3 := by rw [hw3]; exact (Below.refl _ _).alloc (Nat.le_refl _) _
  have x3 : w3.heap[w2.heap.size]? = some (.cells #[.slice sa sn sc, .slice la ln lc] 34 (0, 0)) := by rw [hw3]; exact World.alloc_heap_new _ _
  have b13 : Below w1.heap.size w1 w3 := b2.trans (b3.mono b2.size)
  have b03 : Below w.heap.size w w3 := b1.trans (b13.mono b1.size)
  have I0 : Hid (RightI w0 w g v xs w.heap.size w2.heap.size newDk (.slice sa sn sc) (.slice la ln lc) w3) := ⟨x3, (b13.block _ (lt_of_block x1)).trans x1, ⟨_, _, _, _, _, _, rfl, rk_base (ownsRow_below o21 b3) b1.size, rk_base (ownsRow_below o22 b3) b1.size⟩, right_new, h.below b03, ⟨b03.os, b03.tape, b03.output, b03.size, fun k hk _ => b03.block k hk⟩⟩
  have hD : w.heap.size < w2.heap.size := Nat.lt_of_lt_of_le (lt_of_block x1) b2.size
  clear b13 b03 x3 b3 o21 o22 b2 x1 b1 h
  go_wp2
  rw [← hw3]
  clear hw3
  obtain ⟨D, hDD⟩ : ∃ D, D = w2.heap.size := ⟨_, rfl⟩
  rw [← hDD] at I0 hD ⊢
  clear hDD
  go_loopw [4] (fun i wr => ∃ (k : Nat) (d : PDisk) (a b : Value), k ≤ 9 ∧ i = .int .i64 k ∧ RightI w0 w g v xs w.heap.size D d a b wr) (fun i _ => 9 - (intOf i).toNat)
  case atStart => exact ⟨0, _, _, _, by decide, rfl, I0.out⟩
  case round =>
    clear I0
    obtain ⟨k, d, a, b, hk, rfl, hI⟩ := hrel
    have HI := (show Hid (RightI w0 w g v xs w.heap.size D d a b wr) from hI)
    clear hI
    go_wp2_with fail
    go_at_call 45
    refine (below_any 9 (by omega) HI.out.2.2.2.2.1 HB.out).mono ?_
    rintro e w4 ⟨x, rfl, x0, x1, _, k4, g4⟩
    replace x1 := x1 (by omega)
    have I4 := (show Hid (RightI w0 w g v xs w.heap.size D d a b w4) from HI.out.cursor hgl (Nat.le_refl _) (Nat.le_of_lt hD) k4 g4)
    clear HI k4 g4
    by_cases hlt : (k : Int) < x
    · go_upto_region 5 with fail
      have hDle := Nat.le_of_lt hD
      have HBL := (show Hid (∀ (W : World), RightI w0 w g v xs w.heap.size D d a b W → Calls Tryd.prog 45 #[.pointer (some ⟨g, 0, none⟩), .int .i64 6] W fun e w' => ∃ x : Int, e = .returned (.int .i64 x) ∧ RightI w0 w g v xs w.heap.size D d a b w' ∧ W.grownBy w' (some g)) from fun W h => (below_any 6 (by omega) h.2.2.2.2.1 HB.out).mono (by
        rintro e w' ⟨x, rfl, _, _, _, k5, g5⟩
        exact ⟨x, rfl, h.cursor hgl (Nat.le_refl _) hDle k5 g5, g5⟩))
      have HTX := (show Hid (∀ (W : World), RightI w0 w g v xs w.heap.size D d a b W → Calls Tryd.prog 89 #[.pointer (some ⟨g, 0, none⟩)] W fun e w' => ∃ s : ByteArray, e = .returned (.string s) ∧ s.size = 64 ∧ RightI w0 w g v xs w.heap.size D d a b w' ∧ W.grownBy w' (some g)) from fun W h => (drawText15_any h.2.2.2.2.1 HB.out).mono (by
        rintro e w' ⟨s, rfl, hs, k5, g5⟩
        exact ⟨s, rfl, hs, h.cursor hgl (Nat.le_refl _) hDle k5 g5, g5⟩))
      have HPT := (show Hid (∀ (W : World) (x : Int) (s : ByteArray), s.size = 64 → RightI w0 w g v xs w.heap.size D d a b W → Calls Tryd.prog 55 #[.agg #[a, b], .int .i64 x, .string s] W fun e w' => ∃ (v' : Value), e = .returned (.tuple #[v', .bool (putDk d x s).2]) ∧ OwnDk w.heap.size w' v' (putDk d x s).1 ∧ RightI w0 w g v xs w.heap.size D d a b w' ∧ Below W.heap.size W w') from fun W x s hs h => (sdiskPut_any h.2.2.1.at (fit_right h.2.2.2.1) x s (by omega)).mono (by
        rintro e w' ⟨v', rfl, o, k⟩
        exact ⟨v', rfl, o.base h.2.2.2.2.2.size, h.below k, k⟩))
      have KD := (show Hid (RightI w0 w g v xs w.heap.size D d a b w4.drew) from I4.out.below (below_drewN 1))
      have HRP := (show Hid (∀ x s, (putDk d x s).2 = true → diskB (putDk d x s).1 = true) from fun x s => right_put I4.out.2.2.2.1)
      have hDl := I4.out.lt
      have hs4 : w.heap.size < w4.heap.size := lt_of_block I4.out.2.1
      go_cut [5, 6] from 8 to 31 (fun s5 s6 wx => ∃ (N : Nat) (bb : Bool) (d' : PDisk) (a' b' : Value), s5 = .pointer (some ⟨N, 0, none⟩) ∧ s6 = .bool bb ∧ (bb = true → diskB d' = true) ∧ NextI w0 w g v xs w.heap.size D d a b N d' a' b' wx)
      case first =>
        go_region_held3 (fun w' => w'.cell? ⟨D, 0, none⟩ = some a ∧ w'.cell? ⟨D, 1, none⟩ = some b ∧ RightI w0 w g v xs w.heap.size D d a b w')
          (first | exact RightI.s KD.out | exact RightI.s (KD.out.alloc _) | exact RightI.s R5.out | exact RightI.s (R5.out.alloc _) | exact RightI.s R6.out | exact RightI.s (R6.out.alloc _) | exact RightI.s R7.out | exact RightI.s (R7.out.alloc _) | exact RightI.s PS.out.1 | exact RightI.s PN.out.1)
          (first
            | (go_at_call 45
               refine (HBL.out _ (‹_ ∧ _ ∧ RightI _ _ _ _ _ _ _ _ _ _ _›).2.2).mono ?_
               rintro e w5 ⟨x, rfl, r5, g5⟩
               have R5 := (show Hid (RightI w0 w g v xs w.heap.size D d a b w5) from r5)
               have hs5 : w4.heap.size ≤ w5.heap.size := by have := g5.size; (try simp at this); omega
               (first
                 | (have N5 : Hid (w5.heap[w4.heap.size]? = some (.cells #[.slice none 0 0, .slice none 0 0] 34 (0, 0))) := (show w5.heap[w4.heap.size]? = some (.cells #[.slice none 0 0, .slice none 0 0] 34 (0, 0)) from (g5.block w4.heap.size (by simp) (by simp; omega)).trans (World.alloc_heap_new _ _)))
                 | skip)
               clear r5 g5)
            | (go_at_call 89
               refine (HTX.out _ (‹_ ∧ _ ∧ RightI _ _ _ _ _ _ _ _ _ _ _›).2.2).mono ?_
               rintro e w6 ⟨s, rfl, hs, r6, g6⟩
               have R6 := (show Hid (RightI w0 w g v xs w.heap.size D d a b w6) from r6)
               have hs6 : w5.heap.size ≤ w6.heap.size := by have := g6.size; (try simp at this); omega
               (first
                 | (have N6 : Hid (w6.heap[w4.heap.size]? = some (.cells #[.slice none 0 0, .slice none 0 0] 34 (0, 0))) := (show w6.heap[w4.heap.size]? = some (.cells #[.slice none 0 0, .slice none 0 0] 34 (0, 0)) from (g6.block _ (lt_of_block N5.out) (by simp; omega)).trans N5.out))
                 | (have N6 : Hid (w6.heap[w5.heap.size]? = some (.cells #[.slice none 0 0, .slice none 0 0] 34 (0, 0))) := (show w6.heap[w5.heap.size]? = some (.cells #[.slice none 0 0, .slice none 0 0] 34 (0, 0)) from (g6.block w5.heap.size (by simp) (by simp; omega)).trans (World.alloc_heap_new _ _)))
                 | skip)
               clear r6 g6)
            | (go_at_call 55
               refine (HPT.out _ _ _ hs (‹_ ∧ _ ∧ RightI _ _ _ _ _ _ _ _ _ _ _›).2.2).mono ?_
               rintro e w7 ⟨v7, rfl, o7, r7, b7⟩
               obtain ⟨ta, tn, tc, ma, mn, mc, rfl, o71, o72⟩ := o7
               have R7 := (show Hid (RightI w0 w g v xs w.heap.size D d a b w7) from r7)
               have O7 := (show Hid (OwnDk w.heap.size w7 (.agg #[.slice ta tn tc, .slice ma mn mc]) (putDk d x s).1) from ⟨_, _, _, _, _, _, rfl, o71, o72⟩)
               (first
                 | (have n7 := (b7.block _ (lt_of_block N6.out)).trans N6.out
                    obtain ⟨m1, m2, m3, m4⟩ := rk_two n7
                    have PS := (show Hid (NextI w0 w g v xs w.heap.size D d a b _ (putDk d x s).1 (.slice ta tn tc) (.slice ma mn mc) _) from next_set R7.out hgl O7.out n7 (by omega) (by omega) (by omega))
                    clear n7)
                 | (have n7 : w7.heap[w6.heap.size]? = some (.cells #[.slice none 0 0, .slice none 0 0] 34 (0, 0)) := (b7.block w6.heap.size (by simp)).trans (World.alloc_heap_new _ _)
                    obtain ⟨m1, m2, m3, m4⟩ := rk_two n7
                    have PS := (show Hid (NextI w0 w g v xs w.heap.size D d a b _ (putDk d x s).1 (.slice ta tn tc) (.slice ma mn mc) _) from next_set R7.out hgl O7.out n7 (by omega) (by omega) (by omega))
                    clear n7)
                 | (have PN := (show Hid (NextI w0 w g v xs w.heap.size D d a b _ (putDk d x s).1 (.slice ta tn tc) (.slice ma mn mc) _) from next_new R7.out O7.out)))
               clear r7 o71 o72 b7))
        all_goals go_wp2
        all_goals go_meet
        all_goals
          case rel =>
            with_reducible first
              | exact ⟨_, _, _, _, _, rfl, rfl, HRP.out x s, PS.out⟩
              | exact ⟨_, _, _, _, _, rfl, rfl, HRP.out x s, PN.out⟩
      case rest =>
        clear HBL HTX HPT KD HRP hDl hs4 I4
        obtain ⟨N, bb, d', a', b', rfl, rfl, hbb, hN⟩ := hcut
        have HN := (show Hid (NextI w0 w g v xs w.heap.size D d a b N d' a' b' wc) from hN)
        have HBB := (show Hid (bb = true → diskB d' = true) from hbb)
        clear hN hbb
        go_wp2_with fail
        go_at_call 73
        refine (once_any 4 (by omega) HN.out.1.2.2.2.2.1 HB.out).mono ?_
        rintro e w8 ⟨r, rfl, k8, g8⟩
        have N8 := (show Hid (NextI w0 w g v xs w.heap.size D d a b N d' a' b' w8) from HN.out.cursor hgl (Nat.le_refl _) hDle k8 g8)
        clear HN k8 g8
        have hDR : D ≠ w.heap.size := by omega
        cases r
        · cases bb
          · clear HBB
            go_wp2
            go_roundw
            case rel => exact ⟨k + 1, d, a, b, by omega, by go_num, N8.out.1⟩
            case measure => simp [intOf]; omega
          · have HB' := (show Hid (diskB d' = true) from HBB.out rfl)
            clear HBB
            obtain ⟨ta, tn, tc, ma, mn, mc, e8, _⟩ := N8.out.2.2.1
            cases e8
            obtain ⟨p1, p2, _, _⟩ := rk_two N8.out.2.1
            obtain ⟨y1, y2, y3, y4⟩ := rk_two N8.out.1.1
            have T8 := (show Hid (RightI w0 w g v xs w.heap.size D d' (.slice ta tn tc) (.slice ma mn mc) _) from N8.out.turn hgl hDle hDR HB'.out)
            go_wp2
            go_roundw
            case rel => exact ⟨k + 1, d', _, _, by omega, by go_num, T8.out⟩
            case measure => simp [intOf]; omega
        · have hsy := right_sync N8.out.1.2.2.2.1
          have CS := (show Hid _ from sdiskSync_any N8.out.1.2.2.1.at (fit_right N8.out.1.2.2.2.1))
          obtain ⟨q, hq⟩ : ∃ q, q = syncDk d := ⟨_, rfl⟩
          rw [← hq] at CS hsy
          obtain ⟨qd, qb⟩ := q
          simp only at CS hsy
          obtain ⟨rfl, hqd⟩ := hsy
          have HQ := (show Hid (diskB qd = true) from hqd)
          obtain ⟨y1, y2, y3, y4⟩ := rk_two N8.out.1.1
          clear hq hqd HBB
          go_wp2_with fail
          go_at_call 90
          refine Calls.mono CS.out ?_
          rintro e w9 ⟨v9, rfl, o9, b9⟩
          clear CS y1 y2 y3 y4
          obtain ⟨ta, tn, tc, ma, mn, mc, rfl, o91, o92⟩ := o9
          have O9 := (show Hid (OwnDk w.heap.size w9 (.agg #[.slice ta tn tc, .slice ma mn mc]) qd) from ⟨_, _, _, _, _, _, rfl, rk_base o91 N8.out.1.2.2.2.2.2.size, rk_base o92 N8.out.1.2.2.2.2.2.size⟩)
          have R9 := (show Hid (RightI w0 w g v xs w.heap.size D d a b w9) from N8.out.1.below b9)
          have n9 := (b9.block _ (lt_of_block N8.out.2.1)).trans N8.out.2.1
          have X9 := (show Hid (NextI w0 w g v xs w.heap.size D d a b N qd (.slice ta tn tc) (.slice ma mn mc) _) from next_set R9.out hgl O9.out n9 N8.out.2.2.2.1 N8.out.2.2.2.2.1 N8.out.2.2.2.2.2)
          have hND := N8.out.2.2.2.2.1
          obtain ⟨m1, m2, m3, m4⟩ := rk_two n9
          clear o91 o92 b9 n9 N8 O9 R9
          go_upto_region 8 with fail
          obtain ⟨wn, hwn⟩ : ∃ y, y = (w9.setCell ⟨N, 0, none⟩ (.slice ta tn tc)).setCell ⟨N, 1, none⟩ (.slice ma mn mc) := ⟨_, rfl⟩
          rw [← hwn] at X9
          rw [← hwn]
          clear hwn m1 m2 m3 m4
          obtain ⟨p1, p2, _, _⟩ := rk_two X9.out.2.1
          obtain ⟨y1, y2, y3, y4⟩ := rk_two X9.out.1.1
          have T8 := (show Hid (RightI w0 w g v xs w.heap.size D qd (.slice ta tn tc) (.slice ma mn mc) _) from X9.out.turn hgl hDle hDR HQ.out)
          go_wp2
          go_roundw
          case rel => exact ⟨k + 1, qd, _, _, by omega, by go_num, T8.out⟩
          case measure => simp [intOf]; omega
    · go_wp2_with fail
      go_at_call 73
      refine (once_any 60 (by omega) I4.out.2.2.2.2.1 HB.out).mono ?_
      rintro e w5 ⟨r, rfl, k5, g5⟩
      have hDle := Nat.le_of_lt hD
      have I5 := (show Hid (RightI w0 w g v xs w.heap.size D d a b w5) from I4.out.cursor hgl (Nat.le_refl _) hDle k5 g5)
      clear I4 k5 g5
      obtain ⟨ta, tn, tc, ma, mn, mc, e8, _⟩ := I5.out.2.2.1
      cases e8
      have fin : Hid (∀ (W : World) (d : PDisk) (ta : Option Addr) (tn tc : Nat) (ma : Option Addr) (mn mc : Nat), RightI w0 w g v xs w.heap.size D d (.slice ta tn tc) (.slice ma mn mc) W → ∃ (u : Value) (d : PDisk), Ending.returned (.agg #[.slice ta tn tc, .slice ma mn mc]) = .returned u ∧ OwnDk w.heap.size ((W.setCell ⟨w.heap.size, 0, none⟩ (.slice ta tn tc)).setCell ⟨w.heap.size, 1, none⟩ (.slice ma mn mc)) u d ∧ diskB d = true ∧ Cur w0 g v xs ((W.setCell ⟨w.heap.size, 0, none⟩ (.slice ta tn tc)).setCell ⟨w.heap.size, 1, none⟩ (.slice ma mn mc)) ∧ w.grownBy ((W.setCell ⟨w.heap.size, 0, none⟩ (.slice ta tn tc)).setCell ⟨w.heap.size, 1, none⟩ (.slice ma mn mc)) (some g)) := fun W d ta tn tc ma mn mc h => by
        obtain ⟨h1, h2, ho, hb, hc, hgr⟩ := h
        have s1 := rk_at (k := 0) (u := .slice ta tn tc) h2
        have hk : ∀ {W : World} (k : Nat) (u : Value), Cur w0 g v xs W → Cur w0 g v xs (W.setCell ⟨w.heap.size, k, none⟩ u) := fun k u c => c.kept (grown_setCell _ _ _ _) (by simp; omega) (fun r e => by cases e; have h1 := c.1; omega)
        exact ⟨_, d, rfl, (ho.set h2).set s1, hb, hk _ _ (hk _ _ hc), grown_past (grown_past hgr (grown_setCell _ _ _ _) (fun r e => by cases e; exact Nat.le_refl _)) (grown_setCell _ _ _ _) (fun r e => by cases e; exact Nat.le_refl _)⟩
      cases r
      · obtain ⟨y1, y2, _, _⟩ := rk_two I5.out.1
        obtain ⟨r1, r2, r3, r4⟩ := rk_two I5.out.2.1
        go_wp2
        have z2 := rk_at (k := 1) (u := .slice ma mn mc) (rk_at (k := 0) (u := .slice ta tn tc) I5.out.2.1)
        refine bodyPost_ret (results_cell_row rfl _ _ w.heap.size 34 #[.slice ta tn tc, .slice ma mn mc] (0, 0) _ rfl z2 Tryd.underlying34 rfl rfl) rfl ?_
        exact fin.out _ _ _ _ _ _ _ _ I5.out
      · obtain ⟨iP, hiP, hp0, hp1, hp2⟩ := info_parts Tryd.infoPut
        have hDR : D ≠ w.heap.size := by omega
        have CZ := (show Hid (∀ W, Calls Tryd.prog 87 #[] W fun e w' => e = .returned (.string zeros64) ∧ Below W.heap.size W w') from fun W => sl15Zeros_any W)
        have HZ64 := (show Hid (zeros64.size = 64) from zeros64_size)
        obtain ⟨z, hz⟩ : ∃ z, z = zeros64 := ⟨_, rfl⟩
        rw [← hz] at CZ HZ64
        clear hz
        go_wp2
        go_loopw [] (fun wr => ∃ (d : PDisk) (ta : Option Addr) (tn tc : Nat) (ma : Option Addr) (mn mc : Nat), RightI w0 w g v xs w.heap.size D d (.slice ta tn tc) (.slice ma mn mc) wr) (fun wr => match wr.cell? ⟨D, 1, none⟩ with | some (.slice _ n _) => 200 - n | _ => 0)
        case atStart => exact ⟨_, _, _, _, _, _, _, I5.out⟩
        case round =>
          clear I5
          obtain ⟨d, ta, tn, tc, ma, mn, mc, hI⟩ := hrel
          have HI := (show Hid (RightI w0 w g v xs w.heap.size D d (.slice ta tn tc) (.slice ma mn mc) wr) from hI)
          obtain ⟨hlo, rfl⟩ := hI.late
          obtain ⟨y1, y2, _, _⟩ := rk_two hI.1
          clear hI hlo
          by_cases hlt : d.late.length < 200
          · have hltI : (d.late.length : Int) < 200 := by omega
            have KD := (show Hid (RightI w0 w g v xs w.heap.size D d (.slice ta tn tc) (.slice ma d.late.length mc) wr.drew) from HI.out.below (below_drewN 1))
            go_upto_region 12 with fail
            have HR := (show Hid (diskB ⟨d.safe, d.late ++ [((3 : Int), z)]⟩ = true) from right_snoc HI.out.2.2.2.1 (by decide) HZ64.out hlt)
            have hDlr := HI.out.lt
            have BD := (show Hid (Below wr.heap.size wr wr.drew) from below_drewN 1)
            go_region_law (first
              | (go_simp
                 go_at_call 87
                 refine Calls.mono (CZ.out _) ?_
                 rintro e w6 ⟨rfl, b6⟩
                 have R6 := (show Hid (RightI w0 w g v xs w.heap.size D d (.slice ta tn tc) (.slice ma d.late.length mc) w6) from KD.out.below b6)
                 obtain ⟨m1, m2, m3, m4⟩ := rk_two R6.out.1
                 have hD6 := R6.out.lt
                 clear b6)
              | (with_reducible refine step_appS (w := w6.alloc (.cells #[.int .i64 3, .string z] 76)) ?_ (.tmp 39) (.tmp 42) 32 ?_ w.heap.size 76 iP _ 2 24 ?_ hiP hp0 hp1 hp2 ?_ ?_ (.slice ma d.late.length mc) d.late.length (putCells d.late) ?_ ?_ (.slice (some ⟨w6.heap.size, 0, none⟩) 1 1) 1 (putCells [(3, z)]) ?_ ?_ ?_ ?_ ?_ ?_ ?_ ?_
                 · rfl
                 · rfl
                 · exact Tryd.underlying32
                 · rfl
                 · decide
                 · simp [Act.eval]
                 · exact (R6.out.alloc _).late.1
                 · simp [Act.eval]
                 · exact sv_onePut (World.alloc_heap_new w6 _)
                 · exact putCells_len _
                 · exact put_oneCell _
                 · (unfold maxLen; omega)
                 · omega
                 · exact (R6.out.alloc _).2.2.2.2.2.size
                 intro v7 w7 o7 g7
                 rw [← putCells_app] at o7
                 obtain ⟨a7, n7, c7, rfl⟩ := rk_slice o7
                 have z7 := rk_keep (R6.out.alloc _).late.1 g7 (R6.out.alloc _).1 (by decide)
                 obtain ⟨t1, t2, t3, t4⟩ := rk_two z7
                 have T7 := (show Hid (RightI w0 w g v xs w.heap.size D ⟨d.safe, d.late ++ [((3 : Int), z)]⟩ (.slice ta tn tc) (.slice a7 n7 c7) (w7.setCell ⟨D, 1, none⟩ (.slice a7 n7 c7))) from (R6.out.alloc _).app hgl hDle hDR o7 g7 HR.out)
                 clear o7 g7 z7))
            all_goals
              go_wp2
              go_roundw
              case rel => exact ⟨_, _, _, _, _, _, _, T7.out⟩
              case measure =>
                have e7 := (rk_two T7.out.1).2.1
                have l7 := T7.out.late.2
                rw [e7, (rk_two HI.out.1).2.1]
                simp only [List.length_append, List.length_singleton] at l7
                show 200 - n7 < 200 - d.late.length
                omega
          · have hltI : ¬ (d.late.length : Int) < 200 := by omega
            obtain ⟨r1, r2, r3, r4⟩ := rk_two HI.out.2.1
            go_wp2
            have z2 := rk_at (k := 1) (u := .slice ma d.late.length mc) (rk_at (k := 0) (u := .slice ta tn tc) HI.out.2.1)
            (try simp only [Exit.inBlock, Exit.then])
            refine bodyPost_ret (results_cell_row rfl _ _ w.heap.size 34 #[.slice ta tn tc, .slice ma d.late.length mc] (0, 0) _ rfl z2 Tryd.underlying34 rfl rfl) rfl ?_
            obtain ⟨u, x, e1, e2⟩ := fin.out _ _ _ _ _ _ _ _ HI.out
            first
              | exact ⟨u, x, e1, e2⟩
              | exact ⟨u, e1, x, e2⟩
end Go.Proofs.YtiejfnnokfedkaaDoor

/- Areas, plainly. No condition. -/
namespace Go.Proofs.YtiejfnnokfedkaaDoor
open Go.RowKit
set_option maxRecDepth 100000
set_option linter.unusedVariables false

/-- The number of sector k of area a. -/
def secOf (a : Int) (k : Nat) : Int := 2 + 64 * a + k
/-- Byte k of area a. -/
def byteD (d : PDisk) (a : Int) (k : Nat) : Int := (bs (sectorD d (secOf a (k / 64)))).getD (k % 64) 0
def getL (d : PDisk) (a : Int) (at' n : Nat) : List Int := (List.range n).map fun j => byteD d a (at' + j)
theorem getL_len (d : PDisk) (a : Int) (at' n : Nat) : (getL d a at' n).length = n := by simp [getL]
theorem getL_succ (d : PDisk) (a : Int) (at' n : Nat) : getL d a at' (n + 1) = getL d a at' n ++ [byteD d a (at' + n)] := by simp [getL, List.range_succ]
/-- What AreaGet answers. -/
def getOk (d : PDisk) (a at' n : Int) : Bool := diskB d && (decide (a = 0) || decide (a = 1)) && inB at' 0 4096 && inB n 0 (4096 - at')
def getDk (d : PDisk) (a at' n : Int) : List Int × Bool := if getOk d a at' n = true then (getL d a at'.toNat n.toNat, true) else ([], false)

/-- A byte of bs stands in sector k, when it is put from at' on. -/
def touch (at' n k : Nat) : Bool := decide (at' < 64 * k + 64) && decide (64 * k < at' + n) && decide (0 < n)
/-- The new text of a sector. -/
def newL (old b : List Int) (at' k : Nat) : List Int := (List.range 64).map fun i => if at' ≤ 64 * k + i ∧ 64 * k + i < at' + b.length then b.getD (64 * k + i - at') 0 else old.getD i 0
theorem newL_len (old b : List Int) (at' k : Nat) : (newL old b at' k).length = 64 := by simp [newL]
def newS (d : PDisk) (a : Int) (b : List Int) (at' k : Nat) : ByteArray := strOf (newL (bs (sectorD d (secOf a k))) b at' k)
theorem newS_size (d : PDisk) (a : Int) (b : List Int) (at' k : Nat) : (newS d a b at' k).size = 64 := by rw [newS, strOf_size, newL_len]
/-- The disk when k sectors of the area have been looked at. -/
def areaN (d : PDisk) (a : Int) (b : List Int) (at' : Nat) : Nat → Option PDisk
  | 0 => some d
  | k + 1 => match areaN d a b at' k with
    | none => none
    | some e => if touch at' b.length k = true then (if e.late.length < 200 then some ⟨e.safe, e.late ++ [(secOf a k, newS e a b at' k)]⟩ else none) else some e
def putOkA (d : PDisk) (a at' : Int) (b : List Int) : Bool := (decide (a = 0) || decide (a = 1)) && inB at' 0 4096 && decide ((b.length : Int) ≤ 4096 - at')
def areaDk (d : PDisk) (a at' : Int) (b : List Int) : PDisk × Bool :=
  if diskB d = false then (zeroDk, false) else if putOkA d a at' b = false then (d, false) else match areaN d a b at'.toNat 64 with
    | some e => (e, true)
    | none => (d, false)
theorem areaN_succ {d : PDisk} {a : Int} {b : List Int} {at' k : Nat} {e : PDisk} (h : areaN d a b at' k = some e) : areaN d a b at' (k + 1) = if touch at' b.length k = true then (if e.late.length < 200 then some ⟨e.safe, e.late ++ [(secOf a k, newS e a b at' k)]⟩ else none) else some e := by
  simp [areaN, h]
theorem areaN_none {d : PDisk} {a : Int} {b : List Int} {at' k : Nat} (h : areaN d a b at' k = none) (m : Nat) : areaN d a b at' (k + m) = none := by
  induction m with
  | zero => exact h
  | succ m ih => rw [← Nat.add_assoc]; simp [areaN, ih]
theorem secOf_in {a : Int} (ha : a = 0 ∨ a = 1) {k : Nat} (hk : k < 64) : inB (secOf a k) 0 129 = true := by
  unfold secOf
  rcases ha with rfl | rfl
  · exact inB_yes (by omega) (by omega)
  · exact inB_yes (by omega) (by omega)
/-- What is put keeps the disk right. -/
theorem areaN_right {d : PDisk} (hd : diskB d = true) {a : Int} (ha : a = 0 ∨ a = 1) {b : List Int} {at' : Nat} : ∀ {k : Nat} {e : PDisk}, k ≤ 64 → areaN d a b at' k = some e → diskB e = true := by
  intro k
  induction k with
  | zero => intro e _ h; simp [areaN] at h; rw [← h]; exact hd
  | succ k ih =>
    intro e hk h
    cases hq : areaN d a b at' k with
    | none => simp [areaN, hq] at h
    | some e' =>
      have hr := ih (by omega) hq
      rw [areaN_succ hq] at h
      split at h
      · split at h
        · rename_i hl
          simp only [Option.some.injEq] at h
          rw [← h]
          exact right_snoc hr (secOf_in ha (by omega)) (newS_size _ _ _ _ _) hl
        · cases h
      · simp only [Option.some.injEq] at h
        rw [← h]; exact hr
theorem sector_put (d : PDisk) (x : Int) (s : ByteArray) (i : Int) : sectorD ⟨d.safe, d.late ++ [(x, s)]⟩ i = if x = i then s else sectorD d i := by
  unfold sectorD
  simp only [putAt_snoc]
  by_cases h : x = i
  · simp [h]
  · simp [h]
/-- Sectors that are not of this area, or not yet looked at, are as they were; those looked at have their new text. -/
theorem areaN_sector {d : PDisk} {a : Int} {b : List Int} {at' : Nat} : ∀ {k : Nat} {e : PDisk}, areaN d a b at' k = some e →
    (∀ x : Int, (∀ j, j < k → x ≠ secOf a j) → sectorD e x = sectorD d x) ∧ (∀ j, j < k → sectorD e (secOf a j) = if touch at' b.length j = true then newS d a b at' j else sectorD d (secOf a j)) := by
  intro k
  induction k with
  | zero => intro e h; simp [areaN] at h; rw [← h]; exact ⟨fun _ _ => rfl, fun j hj => absurd hj (by omega)⟩
  | succ k ih =>
    intro e h
    cases hq : areaN d a b at' k with
    | none => simp [areaN, hq] at h
    | some e' =>
      obtain ⟨i1, i2⟩ := ih hq
      rw [areaN_succ hq] at h
      have hk : sectorD e' (secOf a k) = sectorD d (secOf a k) := i1 _ (fun j hj => by unfold secOf; omega)
      have hn : newS e' a b at' k = newS d a b at' k := by unfold newS; rw [hk]
      split at h
      · rename_i ht
        split at h
        · simp only [Option.some.injEq] at h
          rw [← h]
          refine ⟨fun x hx => ?_, fun j hj => ?_⟩
          · rw [sector_put, if_neg (fun e => hx k (by omega) e.symm)]
            exact i1 x (fun j hj => hx j (by omega))
          · rw [sector_put]
            by_cases e : j = k
            · subst e; rw [if_pos rfl, if_pos ht, hn]
            · rw [if_neg (by unfold secOf; omega)]
              exact i2 j (by omega)
        · cases h
      · rename_i ht
        simp only [Option.some.injEq] at h
        rw [← h]
        refine ⟨fun x hx => i1 x (fun j hj => hx j (by omega)), fun j hj => ?_⟩
        by_cases e : j = k
        · subst e; rw [if_neg ht, hk]
        · exact i2 j (by omega)
end Go.Proofs.YtiejfnnokfedkaaDoor
