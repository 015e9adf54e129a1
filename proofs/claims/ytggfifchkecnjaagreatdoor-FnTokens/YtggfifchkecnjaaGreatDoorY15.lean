/- The contracts of the draws of strings: some string, of a bounded length. -/
import Derived.Test.YtggfifchkecnjaaGreatDoorY10
import Derived.Test.YtggfifchkecnjaaGreatDoorY13
import Derived.Laws.Concat
namespace Go.Proofs.YtggfifchkecnjaaGreatDoor
open Go.RowKit
set_option maxRecDepth 100000
set_option linter.unusedVariables false

theorem grown_past {w w1 w2 : World} {g : Nat} {row : Option Nat} (h : w.grownBy w1 (some g)) (k : w1.grownBy w2 row) (hr : ∀ j, row = some j → w.heap.size ≤ j) : w.grownBy w2 (some g) :=
  ⟨k.os.trans h.os, k.tape.trans h.tape, k.output.trans h.output, Nat.le_trans h.size k.size, fun j hj hne => (k.block j (Nat.lt_of_lt_of_le hj h.size) (fun e => by have := hr j e.symm; omega)).trans (h.block j hj hne)⟩
theorem grown_below {w w1 w2 : World} {g : Nat} (h : w.grownBy w1 (some g)) (k : Below w1.heap.size w1 w2) : w.grownBy w2 (some g) :=
  ⟨k.os.trans h.os, k.tape.trans h.tape, k.output.trans h.output, Nat.le_trans h.size k.size, fun j hj hne => (k.block j (Nat.lt_of_lt_of_le hj h.size)).trans (h.block j hj hne)⟩

theorem pickS_any {w0 : World} {g : Nat} {v : Value} {xs : List Int} {w : World} (h : Cur w0 g v xs w) (hb : ∀ x ∈ xs, 0 ≤ x ∧ x ≤ 255) (ts : List ByteArray) (hz : 0 < ts.length) (hz2 : ts.length ≤ 1000) (cs : Array Value) (hcs : cs.toList = ts.map Value.string) (n : Nat) (hn : n = ts.length) :
    Calls Tryz.prog 37 #[.pointer (some ⟨g, 0, none⟩), .slice (some ⟨w.heap.size, 0, none⟩) n n] (w.alloc (.cells cs 9)) fun e w' => ∃ t, e = .returned (.string t) ∧ t ∈ ts ∧ Cur w0 g v xs w' ∧ w.grownBy w' (some g) := by
  have hlt := h.lt
  have h' := h.below ((Below.refl _ _).alloc (Nat.le_refl _) (.cells cs 9))
  have HC : Hid (∀ w1, (w.alloc (.cells cs 9)).grownBy w1 (some g) → ∀ k (hk : k < ts.length), w1.cell? ⟨w.heap.size, k, none⟩ = some (.string ts[k])) := by
    intro w1 hg k hk
    have e := hg.block w.heap.size (by simp) (fun e => by injection e with e; omega)
    have e2 : cs[k]? = some (.string ts[k]) := by
      have : cs.toList[k]? = some (.string ts[k]) := by rw [hcs]; simp [hk]
      simpa using this
    simp only [World.cell?, e, heap_alloc_new]
    simpa using e2
  have HB : Hid (∀ x ∈ xs, 0 ≤ x ∧ x ≤ 255) := hb
  clear hb hcs
  subst hn
  go_enter Tryz.func37, Tryz.ntmps37
  go_wp2_with fail
  go_at_call 21
  refine (below_any _ (by omega) h' HB.out).mono ?_
  rintro e w1 ⟨x, rfl, x0, x1, x2, k1, g1⟩
  replace x1 := x1 (by omega)
  clear x2
  obtain ⟨k, rfl⟩ : ∃ k : Nat, x = k := ⟨x.toNat, by omega⟩
  have hkl : k < ts.length := by omega
  have c1 := HC.out w1 g1 k hkl
  go_wp2
  go_ret
  exact ⟨_, rfl, List.getElem_mem hkl, k1, grown_trans (World.grownBy_alloc _ _ _) g1⟩

theorem add_size (a b : ByteArray) : (a ++ b).size = a.size + b.size := by simp

theorem strOf_size (zs : List Int) : (strOf zs).size = zs.length := by
  have e := congrArg List.length (strOf_list zs ByteArray.empty)
  have e0 : ByteArray.empty.data.toList = [] := rfl
  rw [e0, List.nil_append, List.length_map] at e
  exact e

end Go.Proofs.YtggfifchkecnjaaGreatDoor
