/- The program's nameSetOf: a set of names, made of lists of names. -/
import Derived.Test.YtogdbjafibejdaaGreatX16
import Derived.Maps.OwnSet
import Derived.Maps.Views
import Derived.Test.YtogdbjafibejdaaGreatX8
import Derived.Test.YtogdbjafibejdaaGreatX17
import Derived.Test.YtogdbjafibejdaaGreatX4
namespace Go.Proofs.YtogdbjafibejdaaGreat
open Go.RowKit Go.Maps
set_option maxRecDepth 100000
set_option linter.unusedVariables false
def SetOf (D : DataW Unit) (xs : List ByteArray) : Prop := IsMap D ∧ ∀ s : ByteArray, has D (.string s.data.toList) = hasB xs s

theorem hasB_append (xs ys : List ByteArray) (s : ByteArray) : hasB (xs ++ ys) s = (hasB xs s || hasB ys s) := by
  simp [hasB]
theorem hasB_one (t s : ByteArray) : hasB [t] s = (s.toList == t.toList) := by simp [hasB]
theorem data_ne {s t : ByteArray} (h : s ≠ t) : (Lit.string s.data.toList) ≠ Lit.string t.data.toList := by
  intro e
  injection e with e
  apply h
  cases s; cases t
  congr 1
  exact Array.toList_inj.mp e

theorem SetOf.put {D : DataW Unit} {xs : List ByteArray} (h : SetOf D xs) {D' : DataW Unit} (t : ByteArray) (hi : IsMap D') (e : D' = D.put (.string t.data.toList) (.agg [])) : SetOf D' (xs ++ [t]) := by
  refine ⟨hi, fun s => ?_⟩
  rw [e, hasB_append, hasB_one]
  by_cases hst : s = t
  · subst hst
    rw [has_put_same h.1 (show WideAt.IsKeyLit (.string _) from trivial)]
    simp
  · rw [has_put_other (data_ne hst), h.2 s, toList_no hst]
    simp

def Rows (w : World) (g : Nat) (ps : List (Nat × List ByteArray)) : Prop :=
  g < w.heap.size ∧ ∀ k (hk : k < ps.length), w.cell? ⟨g, k, none⟩ = some (.slice (some ⟨ps[k].1, 0, none⟩) ps[k].2.length ps[k].2.length) ∧ ps[k].1 < w.heap.size ∧ Txt w ps[k].1 ps[k].2 ∧ ps[k].2.length ≤ 100 ∧ ∀ s ∈ ps[k].2, s.size ≤ 100

end Go.Proofs.YtogdbjafibejdaaGreat

/- Contracts of PutText, the program's and the specification's, at every string of at most 2^40 bytes. -/
namespace Go.Proofs.YtogdbjafibejdaaGreat
open Go.RowKit
set_option maxRecDepth 100000
set_option linter.unusedVariables false

def textForm (s : ByteArray) : List Int := form s.size ++ bs s
theorem textForm_len (s : ByteArray) : (textForm s).length ≤ 9 + s.size := by
  have := form_len s.size
  simp [textForm, bs_len]; omega
theorem form_ne (n : Nat) : form n ≠ [] := by
  have h := (nf_len 8 n).1
  unfold form
  rw [if_neg (by omega)]
  intro e
  rw [e] at h
  simp at h

theorem iputText_any (s : ByteArray) (w : World) (hs : s.size ≤ 1099511627776) :
    Calls Tryz.prog 167 #[.string s] w fun e w' => ∃ v, e = .returned v ∧ Own w.heap.size 5 .u8 w' v (textForm s) ∧ Below w.heap.size w w' := by
  obtain ⟨i0, hi, hz0, hz1, hz2⟩ := info_parts Tryz.infoB
  have hl := form_len s.size
  go_enter Tryz.func167, Tryz.ntmps167
  go_wp2_with fail
  go_at_call 166
  refine (inum_any s.size _ (by omega)).mono ?_
  rintro e w1 ⟨v1, rfl, o1, b1⟩
  have hsz := b1.size
  go_wp2_with (at_builtin; refine wpList_app_str _ rfl _ _ 22 9 rfl w.heap.size 5 i0 (.int .u8 0) Tryz.underlying22 Tryz.underlying9 hi hz0 hz1 hz2 rfl _ s (form s.size) rfl rfl o1 (form_ne _) (by omega) hsz ?_; intro v' w3 o3 g3)
  go_ret
  exact ⟨_, rfl, o3, b1.grown g3 hsz o1.grownAt⟩

theorem sputText_any (s : ByteArray) (w : World) (hs : s.size ≤ 1099511627776) :
    Calls Tryz.prog 89 #[.string s] w fun e w' => ∃ v, e = .returned v ∧ Own w.heap.size 5 .u8 w' v (textForm s) ∧ Below w.heap.size w w' := by
  obtain ⟨i0, hi, hz0, hz1, hz2⟩ := info_parts Tryz.infoB
  have hl := form_len s.size
  have hbl := bs_len s
  go_enter Tryz.func89, Tryz.ntmps89
  go_wp2_with fail
  go_at_call 88
  refine (snum_any s.size _ (by omega)).mono ?_
  rintro e w1 ⟨v1, rfl, o1, b1⟩
  obtain ⟨cap, w2, hc, hk, hcap, hm, hb⟩ := conv_str s w1 (by unfold maxLen; omega)
  have o2 := o1.below hb
  have b2 := b1.trans (hb.mono b1.size)
  have hsz := b2.size
  have hsl := hk.sl (n := s.size) (cap := cap) (by omega) (by omega) hm
  go_wp2_with (at_builtin; refine wpList_app _ rfl _ _ 22 rfl w.heap.size 5 i0 (.int .u8 0) 1 Tryz.underlying22 hi hz0 hz1 hz2 rfl .u8 _ _ (form s.size) (bs s) rfl rfl o2 hsl (by omega) (by unfold maxLen; omega) hsz ?_; intro v' w3 o3 g3)
  go_ret
  exact ⟨_, rfl, o3, b2.grown g3 hsz o2.grownAt⟩
end Go.Proofs.YtogdbjafibejdaaGreat

/- Contracts of the laws' helpers on lists of attributes: held against each other, measured. -/
namespace Go.Proofs.YtogdbjafibejdaaGreat
open Go.RowKit
set_option maxRecDepth 100000
set_option linter.unusedVariables false

theorem toList_ne {a b : ByteArray} (h : a ≠ b) : (a.toList == b.toList) = false := by
  rw [beq_eq_false_iff_ne]
  exact fun e => h ((toList_eq_iff a b).mp e)

theorem pairCells_name (rs : List (ByteArray × ByteArray)) (k : Nat) (h : k < rs.length) : (pairCells rs).getD (k * 2) undef = .string rs[k].1 := by
  induction rs generalizing k with
  | nil => simp at h
  | cons r rs ih =>
    cases k with
    | zero => simp [pairCells]
    | succ k =>
      have := ih k (by simpa using h)
      have e : (k + 1) * 2 = k * 2 + 1 + 1 := by omega
      simp only [pairCells, List.flatMap_cons, List.cons_append, List.nil_append, e, List.getD_cons_succ, List.getElem_cons_succ] at this ⊢
      exact this
theorem pairCells_value (rs : List (ByteArray × ByteArray)) (k : Nat) (h : k < rs.length) : (pairCells rs).getD (k * 2 + 1) undef = .string rs[k].2 := by
  induction rs generalizing k with
  | nil => simp at h
  | cons r rs ih =>
    cases k with
    | zero => simp [pairCells]
    | succ k =>
      have := ih k (by simpa using h)
      have e : (k + 1) * 2 + 1 = k * 2 + 1 + 1 + 1 := by omega
      simp only [pairCells, List.flatMap_cons, List.cons_append, List.nil_append, e, List.getD_cons_succ, List.getElem_cons_succ] at this ⊢
      exact this

theorem Sv.pair {w : World} {v : Value} {rs : List (ByteArray × ByteArray)} (h : Sv 2 w v (pairCells rs)) : ∃ a cap, v = .slice a rs.length cap ∧ rs.length ≤ cap ∧ cap ≤ maxLen ∧
    ∀ k (hk : k < rs.length), ∃ b off, a = some ⟨b, off, none⟩ ∧ b < w.heap.size ∧ w.cell? ⟨b, off + k * 2, none⟩ = some (.string rs[k].1) ∧ w.cell? ⟨b, off + k * 2 + 1, none⟩ = some (.string rs[k].2) := by
  obtain ⟨a, len, cap, rfl, h1, h2, h3, h4, hc⟩ := h
  have hl := pairCells_len rs
  have hlen : len = rs.length := by omega
  subst hlen
  refine ⟨a, cap, rfl, h2, h3, fun k hk => ?_⟩
  obtain ⟨b, off, rfl, c0⟩ := hc (k * 2) (by omega)
  obtain ⟨b', off', e, c1⟩ := hc (k * 2 + 1) (by omega)
  injection e with e
  cases e
  rw [pairCells_name _ _ hk] at c0
  rw [pairCells_value _ _ hk] at c1
  have hlt : b < w.heap.size := by
    by_cases hlt : b < w.heap.size
    · exact hlt
    · exfalso; simp [World.cell?, Array.getElem?_eq_none (Nat.le_of_not_lt hlt)] at c0
  exact ⟨b, off, rfl, hlt, c0, c1⟩

end Go.Proofs.YtogdbjafibejdaaGreat
