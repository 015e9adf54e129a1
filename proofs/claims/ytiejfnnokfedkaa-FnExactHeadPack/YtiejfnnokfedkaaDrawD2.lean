/- The draw of a right disk. No condition. -/
import Derived.Test.YtiejfnnokfedkaaDrawD1
import Derived.Test.YtiejfnnokfedkaaDiskS5
import Derived.Deep.RegionHeld3
import Derived.Deep.CutRange
namespace Go.Proofs.Ytiejfnnokfedkaa
open Go.RowKit
set_option maxRecDepth 100000
set_option linter.unusedVariables false

theorem row_low {B e size n : Nat} {w w' : World} {v : Value} {xs : List Value} {row : Option Nat} (h : w.ownsRow B e size v n xs) (hg : w.grownBy w' row) (hr : ∀ k, row = some k → k < B) : w'.ownsRow B e size v n xs := by
  refine h.kept hg ?_
  cases hv : v.ownBlock with
  | none => exact .inl rfl
  | some k =>
    refine .inr fun e => ?_
    have h1 := (World.ownsRow.lt h k hv).1
    have h2 := hr k e.symm
    omega
theorem OwnDk.low {B : Nat} {w w' : World} {v : Value} {d : PDisk} {row : Option Nat} (h : OwnDk B w v d) (hg : w.grownBy w' row) (hr : ∀ k, row = some k → k < B) : OwnDk B w' v d := by
  obtain ⟨sa, sn, sc, la, ln, lc, e, h1, h2⟩ := h
  exact ⟨sa, sn, sc, la, ln, lc, e, row_low h1 hg hr, row_low h2 hg hr⟩
theorem OwnDk.base {B B' : Nat} {w : World} {v : Value} {d : PDisk} (h : OwnDk B w v d) (hB : B' ≤ B) : OwnDk B' w v d := by
  obtain ⟨sa, sn, sc, la, ln, lc, e, h1, h2⟩ := h
  exact ⟨sa, sn, sc, la, ln, lc, e, rk_base h1 hB, rk_base h2 hB⟩
theorem OwnDk.set {B b k : Nat} {w : World} {v u : Value} {d : PDisk} (h : OwnDk B w v d) {cs : Array Value} {fr : Nat × Nat} (hb : w.heap[b]? = some (.cells cs 36 fr)) : OwnDk B (w.setCell ⟨b, k, none⟩ u) v d := by
  obtain ⟨sa, sn, sc, la, ln, lc, e, h1, h2⟩ := h
  exact ⟨sa, sn, sc, la, ln, lc, e, rk_set h1 hb (by decide), rk_set h2 hb (by decide)⟩
theorem fit_right {d : PDisk} (h : diskB d = true) : DiskFit d := by
  obtain ⟨h1, h2⟩ := diskB_len h
  refine ⟨by omega, by omega, fun s hs => ?_, fun p hp => ?_⟩
  · obtain ⟨k, hk, rfl⟩ := List.getElem_of_mem hs; rw [diskB_safe h hk]; decide
  · obtain ⟨k, hk, rfl⟩ := List.getElem_of_mem hp; rw [(diskB_late h hk).2.2]; decide
theorem right_new : diskB newDk = true := by
  refine diskB_yes (by decide) (by decide) (fun k hk => ?_) (fun k hk => absurd hk (by simp [newDk]))
  have : newDk.safe[k] = zeros64 := List.getElem_replicate (by simpa [newDk] using hk)
  rw [this]; exact zeros64_size
theorem right_snoc {d : PDisk} (h : diskB d = true) {x : Int} {s : ByteArray} (hx : inB x 0 129 = true) (hs : s.size = 64) (hl : d.late.length < 200) : diskB ⟨d.safe, d.late ++ [(x, s)]⟩ = true := by
  simp only [diskB, Bool.and_eq_true, decide_eq_true_eq, List.all_append, List.all_cons, List.all_nil, Bool.and_true, List.length_append, List.length_singleton] at h ⊢
  exact ⟨⟨⟨h.1.1.1, by omega⟩, h.1.2⟩, h.2, hx, hs⟩
theorem right_put {d : PDisk} (h : diskB d = true) {x : Int} {s : ByteArray} (hp : (putDk d x s).2 = true) : diskB (putDk d x s).1 = true := by
  unfold putDk at hp ⊢
  rw [if_neg (by rw [h]; simp)] at hp ⊢
  split at hp
  · cases hp
  · rename_i hn
    rw [if_neg hn]
    have h2 := (diskB_len h).2
    have hx : inB x 0 129 = true := by
      cases e : inB x 0 129
      · exact absurd (.inl e) hn
      · rfl
    have hs : s.size = 64 := by
      by_cases e : s.size = 64
      · exact e
      · exact absurd (.inr (.inl e)) hn
    have hl : d.late.length ≠ 200 := fun e => hn (.inr (.inr e))
    exact right_snoc h hx hs (by omega)
theorem right_done {d : PDisk} (h : diskB d = true) (keep : Int) : diskB (doneDk keep d) = true := by
  have hl := diskB_len h
  refine diskB_yes ((doneN_len _ _ _ _).trans hl.1) (Nat.zero_le _) (fun k hk => ?_) (fun k hk => absurd hk (by simp [doneDk]))
  have h1 : ∀ n, ∀ t ∈ doneN keep d.safe d.late n, t.size = 64 := by
    intro n
    induction n with
    | zero => intro t ht; obtain ⟨i, hi, rfl⟩ := List.getElem_of_mem ht; exact diskB_safe h hi
    | succ n ih =>
      by_cases hlt : n < d.late.length
      · rw [doneN_succ hlt]
        split
        · intro t ht
          rcases List.mem_or_eq_of_mem_set ht with e | e
          · exact ih t e
          · rw [e]; exact (diskB_late h hlt).2.2
        · exact ih
      · intro t ht
        rw [doneN, List.getElem?_eq_none (by omega)] at ht
        exact ih t ht
  exact h1 _ _ (List.getElem_mem hk)
theorem right_sync {d : PDisk} (h : diskB d = true) : (syncDk d).2 = true ∧ diskB (syncDk d).1 = true := by
  unfold syncDk
  rw [if_neg (by rw [h]; simp)]
  exact ⟨rfl, right_done h _⟩

end Go.Proofs.Ytiejfnnokfedkaa
