/- The contracts of the draws of strings: some string, of a bounded length. -/
import Derived.Test.YtogdbjafibejdaaGreatY10
import Derived.Test.YtogdbjafibejdaaGreatY13
import Derived.Laws.Concat
import Derived.Test.YtogdbjafibejdaaGreatY9
namespace Go.Proofs.YtogdbjafibejdaaGreat
open Go.RowKit
set_option maxRecDepth 100000
set_option linter.unusedVariables false
theorem grown_below {w w1 w2 : World} {g : Nat} (h : w.grownBy w1 (some g)) (k : Below w1.heap.size w1 w2) : w.grownBy w2 (some g) :=
  ⟨k.os.trans h.os, k.tape.trans h.tape, k.output.trans h.output, Nat.le_trans h.size k.size, fun j hj hne => (k.block j (Nat.lt_of_lt_of_le hj h.size)).trans (h.block j hj hne)⟩

theorem add_size (a b : ByteArray) : (a ++ b).size = a.size + b.size := by simp

theorem strOf_size (zs : List Int) : (strOf zs).size = zs.length := by
  have e := congrArg List.length (strOf_list zs ByteArray.empty)
  have e0 : ByteArray.empty.data.toList = [] := rfl
  rw [e0, List.nil_append, List.length_map] at e
  exact e

end Go.Proofs.YtogdbjafibejdaaGreat

/- Slices of any values, several cells an element, and lists of references as such. No condition. -/
namespace Go.Proofs.YtogdbjafibejdaaGreat
open Go.RowKit
set_option maxRecDepth 100000
set_option linter.unusedVariables false

def Sv (size : Nat) (w : World) (v : Value) (cs : List Value) : Prop :=
  ∃ a len cap, v = .slice a len cap ∧ cs.length = len * size ∧ len ≤ cap ∧ cap ≤ maxLen ∧ (a = none → cap = 0) ∧
    ∀ i, i < cs.length → ∃ b off, a = some ⟨b, off, none⟩ ∧ w.cell? ⟨b, off + i, none⟩ = some (cs.getD i undef)

theorem Sv.below {size : Nat} {w w' : World} {v : Value} {cs : List Value} (h : Sv size w v cs) (hb : Below w.heap.size w w') : Sv size w' v cs := by
  obtain ⟨a, len, cap, e, h1, h2, h3, h4, hc⟩ := h
  refine ⟨a, len, cap, e, h1, h2, h3, h4, fun i hi => ?_⟩
  obtain ⟨b, off, e, c⟩ := hc i hi
  refine ⟨b, off, e, ?_⟩
  have hlt : b < w.heap.size := by
    by_cases hlt : b < w.heap.size
    · exact hlt
    · exfalso; simp [World.cell?, Array.getElem?_eq_none (Nat.le_of_not_lt hlt)] at c
  exact (hb.cell (p := ⟨b, off + i, none⟩) hlt).trans c

theorem sv_of_own {B size n : Nat} {e : TypeId} {w : World} {v : Value} {cs : List Value} (h : w.ownsRow B e size v n cs) : Sv size w v cs := by
  have h0 := h
  obtain ⟨hl, ⟨hv, hn⟩ | ⟨g, cap, cur, hv, hB, hh, hn, hm, hz, ht⟩⟩ := h
  · subst hn
    have hc : cs = [] := List.length_eq_zero_iff.mp (by omega)
    subst hc
    exact ⟨none, 0, 0, hv, by simp, Nat.le_refl _, Nat.zero_le _, fun _ => rfl, fun i hi => absurd hi (by simp)⟩
  · refine ⟨some ⟨g, 0, none⟩, n, cap, hv, hl, hn, hm, (fun e => by cases e), fun i hi => ⟨g, 0, rfl, ?_⟩⟩
    have e1 : cur[i]? = some (cs.getD i undef) := by
      have : (cur.toList.take (n * size))[i]? = some (cs.getD i undef) := by rw [ht]; simp [List.getD_eq_getElem?_getD, hi]
      rw [List.getElem?_take] at this
      simpa [show i < n * size by omega] using this
    simp only [World.cell?, hh, Nat.zero_add]
    simpa using e1

theorem ownsRow_below {B : Nat} {e : TypeId} {size n : Nat} {w w' : World} {v : Value} {cs : List Value} (h : w.ownsRow B e size v n cs) (hb : Below w.heap.size w w') : w'.ownsRow B e size v n cs := by
  obtain ⟨hl, hv | ⟨g, cap, cur, hv, hB, hh, r⟩⟩ := h
  · exact ⟨hl, .inl hv⟩
  · exact ⟨hl, .inr ⟨g, cap, cur, hv, hB, by rw [hb.block g (lt_of_block hh)]; exact hh, r⟩⟩

end Go.Proofs.YtogdbjafibejdaaGreat
