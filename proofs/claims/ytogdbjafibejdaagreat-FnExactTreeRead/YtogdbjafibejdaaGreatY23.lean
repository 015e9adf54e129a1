/- append in a region that draws its order, onto the call's own row, of whatever slice. No condition. -/
import Derived.Test.YtogdbjafibejdaaGreatY17
import Derived.Test.YtogdbjafibejdaaGreatY20
import Derived.Deep.RegionLaw
import Derived.Deep.Cut
import Derived.Laws.AppendOwnNone
namespace Go.Proofs.YtogdbjafibejdaaGreat
open Go.RowKit
set_option maxRecDepth 100000
set_option linter.unusedVariables false

theorem step_appS {P : Program} {ops : Array Oper} {o : Oper} {a : Act} {w : World} {K : Act → World → Prop} {Q : Exit → Act → World → Prop} {E : Prop}
    (hg : o.guard = none) (s x : Operand) (t : TypeId) (hop : o.op = Op.call { callee := Callee.builtin Builtin.append, args := #[s, x], argTypes := #[t, t] })
    (B : Nat) (e : TypeId) (i : TypeInfo) (z : Value) (size bytes : Nat) (h1 : P.underlying t = some (.slice e)) (h2 : P.info? e = some i) (h3 : i.zero = some z) (h4 : i.size = size) (h5 : i.bytes = bytes) (h6 : z.cells.size = size) (h7 : 0 < size)
    (v : Value) (n : Nat) (xs : List Value) (hs : a.eval s = v) (hown : w.ownsRow B e size v n xs)
    (u : Value) (m : Nat) (news : List Value) (hx : a.eval x = u) (hu : Sv size w u news) (hm : news.length = m * size) (h1c : ∀ u ∈ news, u.oneCell' = true)
    (b1 : n + m ≤ maxLen) (b2 : (n + m) * bytes ≤ 140737488355328) (hB : B ≤ w.heap.size)
    (hK : ∀ v' w', w'.ownsRow B e size v' (n + m) (xs ++ news) → w.grownBy w' v.ownBlock → K (a.put o.dst v') w') :
    if Region.wanted o (yielded ops a.tmps) = true then Oper.wp P o a w K Q else E := by
  have hw : Region.wanted o (yielded ops a.tmps) = true := by simp [Region.wanted, hg]
  rw [if_pos hw]
  obtain ⟨ao, len, cap, rfl, hl, hlc, hcm, hnone, hc⟩ := hu
  have hlm : len = m := Nat.eq_of_mul_eq_mul_right h7 (hl.symm.trans hm)
  subst hlm
  cases ao with
  | none =>
    have hc0 := hnone rfl
    subst hc0
    have hl0 : len = 0 := by omega
    subst hl0
    have hy : news = [] := List.length_eq_zero_iff.mp (by omega)
    subst hy
    have hrun := run_append_owned_none (P := P) (w := w) B t o.type e i size h1 h2 v n xs hown
    unfold Oper.wp
    simp [execOp, hop, resolve, invoke, builtin, hs, hx, hrun, Result.andThen]
    exact hK v w (by rw [List.append_nil]; exact hown) (World.grownBy.refl _ _)
  | some ad =>
    refine wp_append_own w s x t hop B e i z size bytes h1 h2 h3 h4 h5 h6 h7 v n xs hs hown ad len cap news hx hl ?_ h1c b1 b2 hB fun v' w' o1 o2 _ => hK v' w' o1 o2
    intro j y hy
    have hj : j < news.length := by
      by_cases hj : j < news.length
      · exact hj
      · rw [List.getElem?_eq_none (Nat.le_of_not_lt hj)] at hy; cases hy
    obtain ⟨b, off, e, c⟩ := hc j hj
    cases e
    have e2 : news.getD j undef = y := by rw [List.getD_eq_getElem?_getD, hy]; rfl
    rw [e2] at c
    rw [← c]
    by_cases h0 : j = 0
    · subst h0; simp [Addr.add]
    · simp [Addr.add, h0]
end Go.Proofs.YtogdbjafibejdaaGreat
