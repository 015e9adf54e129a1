/- The law on append, said of slices of any values, several cells an element, that the call itself made. No condition. -/
import Derived.Test.YtbpncleapnohjaaU9
import Derived.Test.YtbpncleapnohjaaU1
namespace Go.Proofs.Ytbpncleapnohjaa
open Go.RowKit
set_option maxRecDepth 100000
set_option linter.unusedVariables false

/-- 'v = append(v, u...)', v the call's own, u whatever slice, m its length. -/
theorem wpList_appV {P : Program} (w : World) {ops : Array Oper} {rest : List Oper} {o : Oper} {a : Act} {Q : Exit → Act → World → Prop} (hgd : o.guard = none)
    (s x : Operand) (t : TypeId) (ho : o.op = Op.call { callee := Callee.builtin Builtin.append, args := #[s, x], argTypes := #[t, t] }) (B : Nat) (e : TypeId) (i : TypeInfo)
    (z : Value) (size bytes : Nat) (ht : P.underlying t = some (TypeDesc.slice e)) (hi : P.info? e = some i) (hz : i.zero = some z) (hsize : i.size = size) (hby : i.bytes = bytes)
    (hzs : z.cells.size = size) (hpos : 0 < size) (v u : Value) (n m : Nat) (xs ys : List Value) (hs : a.eval s = v) (hx : a.eval x = u) (hown : w.ownsRow B e size v n xs) (hu : Sv size w u ys) (hm : ys.length = m * size)
    (h1 : ∀ y ∈ ys, y.oneCell' = true) (hb : (n + m) * bytes ≤ 140737488355328) (h63 : n + m ≤ maxLen) (hbase : B ≤ w.heap.size)
    (h : ∀ (v' : Value) (w' : World), w'.ownsRow B e size v' (n + m) (xs ++ ys) → w.grownBy w' v.ownBlock → wpList P ops Q rest (a.put o.dst v') w') :
    wpList P ops Q (o :: rest) a w := by
  obtain ⟨ao, len, cap, rfl, hl, hlc, hcm, hnone, hc⟩ := hu
  have hlm : len = m := Nat.eq_of_mul_eq_mul_right hpos (hl.symm.trans hm)
  subst hlm
  cases ao with
  | none =>
    have hc0 := hnone rfl
    subst hc0
    have hl0 : len = 0 := by omega
    subst hl0
    have hy : ys = [] := List.length_eq_zero_iff.mp (by omega)
    subst hy
    refine wpList_append_own_none hgd s x t ho B e i size ht hi v n _ hs hown hx (h v w ?_ (World.grownBy.refl _ _))
    rw [List.append_nil]; exact hown
  | some ad =>
    refine wpList_append_own w hgd s x t ho B e i z size bytes ht hi hz hsize hby hzs hpos v n _ hs hown ad len cap ys hx hl ?_ h1 h63 hb hbase ?_
    · intro j y hy
      have hj : j < ys.length := by
        by_cases hj : j < ys.length
        · exact hj
        · rw [List.getElem?_eq_none (Nat.le_of_not_lt hj)] at hy; cases hy
      obtain ⟨b, off, e, c⟩ := hc j hj
      cases e
      have e2 : ys.getD j undef = y := by rw [List.getD_eq_getElem?_getD, hy]; rfl
      rw [e2] at c
      rw [← c]
      by_cases h0 : j = 0
      · subst h0; simp [Addr.add]
      · simp [Addr.add, h0]
    · intro v' w' ho' hg' _
      exact h v' w' ho' hg'
theorem empty_row (w : World) (B : Nat) (e : TypeId) (size : Nat) (hB : B ≤ w.heap.size) : (w.alloc (.cells #[] e)).ownsRow B e size (.slice (some ⟨w.heap.size, 0, none⟩) 0 0) 0 [] := by
  refine ⟨by simp, .inr ⟨w.heap.size, 0, #[], rfl, hB, heap_alloc_new _ _, Nat.le_refl _, Nat.zero_le _, by simp, by simp⟩⟩
end Go.Proofs.Ytbpncleapnohjaa
