/- The program's nameSetOf: a set of names, made of lists of names. -/
import Derived.Test.YtogdbjafibejdaaGreatY16
import Derived.Maps.OwnSet
import Derived.Maps.Views
import Derived.Test.YtogdbjafibejdaaGreatY13
import Derived.Test.YtogdbjafibejdaaGreatY7
import Derived.Test.YtogdbjafibejdaaGreatY17
import Derived.Test.YtogdbjafibejdaaGreatY4
namespace Go.Proofs.YtogdbjafibejdaaGreat
open Go.RowKit Go.Maps
set_option maxRecDepth 100000
set_option linter.unusedVariables false
def SetOf (D : DataW Unit) (xs : List ByteArray) : Prop := IsMap D ∧ ∀ s : ByteArray, has D (.string s.data.toList) = hasB xs s

theorem hasB_append (xs ys : List ByteArray) (s : ByteArray) : hasB (xs ++ ys) s = (hasB xs s || hasB ys s) := by
  simp [hasB]
theorem hasB_one (t s : ByteArray) : hasB [t] s = (s.toList == t.toList) := by simp [hasB]
theorem data_ne {s t : ByteArray} (h : s ≠ t) : (Lit.string s.data.toList) ≠ Lit.string t.data.toList := by
  intro e
  injection e with e
  apply h
  cases s; cases t
  congr 1
  exact Array.toList_inj.mp e

theorem SetOf.put {D : DataW Unit} {xs : List ByteArray} (h : SetOf D xs) {D' : DataW Unit} (t : ByteArray) (hi : IsMap D') (e : D' = D.put (.string t.data.toList) (.agg [])) : SetOf D' (xs ++ [t]) := by
  refine ⟨hi, fun s => ?_⟩
  rw [e, hasB_append, hasB_one]
  by_cases hst : s = t
  · subst hst
    rw [has_put_same h.1 (show WideAt.IsKeyLit (.string _) from trivial)]
    simp
  · rw [has_put_other (data_ne hst), h.2 s, toList_no hst]
    simp

def Rows (w : World) (g : Nat) (ps : List (Nat × List ByteArray)) : Prop :=
  g < w.heap.size ∧ ∀ k (hk : k < ps.length), w.cell? ⟨g, k, none⟩ = some (.slice (some ⟨ps[k].1, 0, none⟩) ps[k].2.length ps[k].2.length) ∧ ps[k].1 < w.heap.size ∧ Txt w ps[k].1 ps[k].2 ∧ ps[k].2.length ≤ 100 ∧ ∀ s ∈ ps[k].2, s.size ≤ 100

end Go.Proofs.YtogdbjafibejdaaGreat

/- Contracts of PutText, the program's and the specification's, at every string of at most 2^40 bytes. -/
namespace Go.Proofs.YtogdbjafibejdaaGreat
open Go.RowKit
set_option maxRecDepth 100000
set_option linter.unusedVariables false

def textForm (s : ByteArray) : List Int := form s.size ++ bs s
theorem textForm_len (s : ByteArray) : (textForm s).length ≤ 9 + s.size := by
  have := form_len s.size
  simp [textForm, bs_len]; omega
theorem form_ne (n : Nat) : form n ≠ [] := by
  have h := (nf_len 8 n).1
  unfold form
  rw [if_neg (by omega)]
  intro e
  rw [e] at h
  simp at h

theorem iputText_any (s : ByteArray) (w : World) (hs : s.size ≤ 1099511627776) :
    Calls Tryz.prog 167 #[.string s] w fun e w' => ∃ v, e = .returned v ∧ Own w.heap.size 5 .u8 w' v (textForm s) ∧ Below w.heap.size w w' := by
  obtain ⟨i0, hi, hz0, hz1, hz2⟩ := info_parts Tryz.infoB
  have hl := form_len s.size
  go_enter Tryz.func167, Tryz.ntmps167
  go_wp2_with fail
  go_at_call 166
  refine (inum_any s.size _ (by omega)).mono ?_
  rintro e w1 ⟨v1, rfl, o1, b1⟩
  have hsz := b1.size
  go_wp2_with (at_builtin; refine wpList_app_str _ rfl _ _ 22 9 rfl w.heap.size 5 i0 (.int .u8 0) Tryz.underlying22 Tryz.underlying9 hi hz0 hz1 hz2 rfl _ s (form s.size) rfl rfl o1 (form_ne _) (by omega) hsz ?_; intro v' w3 o3 g3)
  go_ret
  exact ⟨_, rfl, o3, b1.grown g3 hsz o1.grownAt⟩

theorem sputText_any (s : ByteArray) (w : World) (hs : s.size ≤ 1099511627776) :
    Calls Tryz.prog 89 #[.string s] w fun e w' => ∃ v, e = .returned v ∧ Own w.heap.size 5 .u8 w' v (textForm s) ∧ Below w.heap.size w w' := by
  obtain ⟨i0, hi, hz0, hz1, hz2⟩ := info_parts Tryz.infoB
  have hl := form_len s.size
  have hbl := bs_len s
  go_enter Tryz.func89, Tryz.ntmps89
  go_wp2_with fail
  go_at_call 88
  refine (snum_any s.size _ (by omega)).mono ?_
  rintro e w1 ⟨v1, rfl, o1, b1⟩
  obtain ⟨cap, w2, hc, hk, hcap, hm, hb⟩ := conv_str s w1 (by unfold maxLen; omega)
  have o2 := o1.below hb
  have b2 := b1.trans (hb.mono b1.size)
  have hsz := b2.size
  have hsl := hk.sl (n := s.size) (cap := cap) (by omega) (by omega) hm
  go_wp2_with (at_builtin; refine wpList_app _ rfl _ _ 22 rfl w.heap.size 5 i0 (.int .u8 0) 1 Tryz.underlying22 hi hz0 hz1 hz2 rfl .u8 _ _ (form s.size) (bs s) rfl rfl o2 hsl (by omega) (by unfold maxLen; omega) hsz ?_; intro v' w3 o3 g3)
  go_ret
  exact ⟨_, rfl, o3, b2.grown g3 hsz o2.grownAt⟩
end Go.Proofs.YtogdbjafibejdaaGreat

/- Contracts of the laws' helpers on lists of attributes: held against each other, measured. -/
namespace Go.Proofs.YtogdbjafibejdaaGreat
open Go.RowKit
set_option maxRecDepth 100000
set_option linter.unusedVariables false

theorem toList_ne {a b : ByteArray} (h : a ≠ b) : (a.toList == b.toList) = false := by
  rw [beq_eq_false_iff_ne]
  exact fun e => h ((toList_eq_iff a b).mp e)

theorem pairCells_name (rs : List (ByteArray × ByteArray)) (k : Nat) (h : k < rs.length) : (pairCells rs).getD (k * 2) undef = .string rs[k].1 := by
  induction rs generalizing k with
  | nil => simp at h
  | cons r rs ih =>
    cases k with
    | zero => simp [pairCells]
    | succ k =>
      have := ih k (by simpa using h)
      have e : (k + 1) * 2 = k * 2 + 1 + 1 := by omega
      simp only [pairCells, List.flatMap_cons, List.cons_append, List.nil_append, e, List.getD_cons_succ, List.getElem_cons_succ] at this ⊢
      exact this
theorem pairCells_value (rs : List (ByteArray × ByteArray)) (k : Nat) (h : k < rs.length) : (pairCells rs).getD (k * 2 + 1) undef = .string rs[k].2 := by
  induction rs generalizing k with
  | nil => simp at h
  | cons r rs ih =>
    cases k with
    | zero => simp [pairCells]
    | succ k =>
      have := ih k (by simpa using h)
      have e : (k + 1) * 2 + 1 = k * 2 + 1 + 1 + 1 := by omega
      simp only [pairCells, List.flatMap_cons, List.cons_append, List.nil_append, e, List.getD_cons_succ, List.getElem_cons_succ] at this ⊢
      exact this

theorem eqAttr_any (a b : ByteArray × ByteArray) (w : World) : Calls Tryz.prog 201 #[.agg #[.string a.1, .string a.2], .agg #[.string b.1, .string b.2]] w fun e w' => e = .returned (.bool (decide (a = b))) ∧ Below w.heap.size w w' := by
  obtain ⟨an, ap⟩ := a
  obtain ⟨bn, bp⟩ := b
  simp only
  have b2 : Below w.heap.size w ((w.alloc (.cells #[.string an, .string ap] 115)).alloc (.cells #[.string bn, .string bp] 115)) := ((Below.refl _ _).alloc (Nat.le_refl _) _).alloc (by simp) _
  by_cases hn : an = bn
  · subst hn
    by_cases hp : ap = bp
    · subst hp
      go_enter Tryz.func201, Tryz.ntmps201
      go_wp2
      go_ret
      exact ⟨ret_bool (by simp), b2⟩
    · have hd := toList_ne hp
      go_enter Tryz.func201, Tryz.ntmps201
      go_wp2
      go_ret
      exact ⟨ret_bool (by simp [hp]), b2⟩
  · have hd := toList_ne hn
    go_enter Tryz.func201, Tryz.ntmps201
    go_wp2
    go_ret
    exact ⟨ret_bool (by simp [hn]), b2⟩

theorem Sv.pair {w : World} {v : Value} {rs : List (ByteArray × ByteArray)} (h : Sv 2 w v (pairCells rs)) : ∃ a cap, v = .slice a rs.length cap ∧ rs.length ≤ cap ∧ cap ≤ maxLen ∧
    ∀ k (hk : k < rs.length), ∃ b off, a = some ⟨b, off, none⟩ ∧ b < w.heap.size ∧ w.cell? ⟨b, off + k * 2, none⟩ = some (.string rs[k].1) ∧ w.cell? ⟨b, off + k * 2 + 1, none⟩ = some (.string rs[k].2) := by
  obtain ⟨a, len, cap, rfl, h1, h2, h3, h4, hc⟩ := h
  have hl := pairCells_len rs
  have hlen : len = rs.length := by omega
  subst hlen
  refine ⟨a, cap, rfl, h2, h3, fun k hk => ?_⟩
  obtain ⟨b, off, rfl, c0⟩ := hc (k * 2) (by omega)
  obtain ⟨b', off', e, c1⟩ := hc (k * 2 + 1) (by omega)
  injection e with e
  cases e
  rw [pairCells_name _ _ hk] at c0
  rw [pairCells_value _ _ hk] at c1
  have hlt : b < w.heap.size := by
    by_cases hlt : b < w.heap.size
    · exact hlt
    · exfalso; simp [World.cell?, Array.getElem?_eq_none (Nat.le_of_not_lt hlt)] at c0
  exact ⟨b, off, rfl, hlt, c0, c1⟩

set_option maxHeartbeats 2000000 in
set_option maxRecDepth 100000 in
theorem eqAttrS_any {va vb : Value} {rs qs : List (ByteArray × ByteArray)} {w : World} (ha : Sv 2 w va (pairCells rs)) (hb : Sv 2 w vb (pairCells qs)) (hn : rs.length ≤ 1099511627776) (hm : qs.length ≤ 1099511627776) :
    Calls Tryz.prog 178 #[va, vb] w fun e w' => e = .returned (.bool (decide (rs = qs))) ∧ Below w.heap.size w w' := by
  obtain ⟨a, ca, rfl, _, _, hca⟩ := ha.pair
  obtain ⟨b, cb, rfl, _, _, hcb⟩ := hb.pair
  clear ha hb
  by_cases hl : rs.length = qs.length
  · have hn2 : ((rs.length : Int) != (qs.length : Int)) = false := by simp [hl]
    go_enter Tryz.func178, Tryz.ntmps178
    go_wp2
    go_loopw [5] (fun i wr => ∃ k : Nat, k ≤ rs.length ∧ i = .int .i64 k ∧ rs.take k = qs.take k ∧ Below w.heap.size w wr) (fun i _ => rs.length - (intOf i).toNat)
    case atStart => exact ⟨0, Nat.zero_le _, rfl, rfl, Below.refl _ _⟩
    case round =>
      obtain ⟨k, hk, rfl, he, bel⟩ := hrel
      have HE := (show Hid _ from he)
      clear he
      by_cases hlt : k < rs.length
      · have hlt' : k < qs.length := by omega
        obtain ⟨b1, o1, rfl, l1, c1, c2⟩ := hca k hlt
        obtain ⟨b2, o2, rfl, l2, c3, c4⟩ := hcb k hlt'
        have g1 : ∀ n : Wd w.heap.size w, n.w.cell? ⟨b1, o1 + k * 2, none⟩ = some (.string rs[k].1) := fun n => (n.below.cell (p := ⟨b1, o1 + k * 2, none⟩) l1).trans c1
        have g2 : ∀ n : Wd w.heap.size w, n.w.cell? ⟨b1, o1 + k * 2 + 1, none⟩ = some (.string rs[k].2) := fun n => (n.below.cell (p := ⟨b1, o1 + k * 2 + 1, none⟩) l1).trans c2
        have g3 : ∀ n : Wd w.heap.size w, n.w.cell? ⟨b2, o2 + k * 2, none⟩ = some (.string qs[k].1) := fun n => (n.below.cell (p := ⟨b2, o2 + k * 2, none⟩) l2).trans c3
        have g4 : ∀ n : Wd w.heap.size w, n.w.cell? ⟨b2, o2 + k * 2 + 1, none⟩ = some (.string qs[k].2) := fun n => (n.below.cell (p := ⟨b2, o2 + k * 2 + 1, none⟩) l2).trans c4
        have HT : Hid (rs[k] = qs[k] → rs.take (k + 1) = qs.take (k + 1)) := fun e => by rw [List.take_succ_eq_append_getElem hlt, List.take_succ_eq_append_getElem hlt', HE.out, e]
        have HF : Hid (rs[k] ≠ qs[k] → rs ≠ qs) := fun e h => e (by subst h; rfl)
        obtain ⟨x, hx⟩ : ∃ x, x = rs[k] := ⟨_, rfl⟩
        obtain ⟨y, hy⟩ : ∃ y, y = qs[k] := ⟨_, rfl⟩
        rw [← hx] at g1 g2 HT HF
        rw [← hy] at g3 g4 HT HF
        clear hx hy c1 c2 c3 c4
        have cc := fun w => eqAttr_any x y w
        obtain ⟨p, hp⟩ : ∃ p, p = decide (x = y) := ⟨_, rfl⟩
        rw [← hp] at cc
        have CC := (show Hid _ from cc)
        have HP := (show Hid (p = decide (x = y)) from hp)
        clear cc hp
        have ne := Wd.any w.heap.size w
        go_wp2
        refine wp_region_below (by kernel_rfl) (by kernel_rfl) bel ?_
        repeat (go_big_quiet_step ((go_at_call 201; exact quiet_below (CC.out _) (Nat.le_refl _))))
        refine wpQuiet_nil ?_
        intro wq hq
        replace hq := Wd.of hq
        cases p
        · have hxy : Hid (x ≠ y) := (show x ≠ y by simpa using HP.out.symm)
          go_wp2
          go_ret
          exact ⟨ret_bool (by rw [decide_eq_false (HF.out hxy.out)]), hq⟩
        · have hxy : Hid (x = y) := (show x = y by simpa using HP.out.symm)
          go_wp2
          go_roundw
          case rel => exact ⟨k + 1, by omega, by go_num, HT.out hxy.out, hq⟩
          case measure => simp [intOf]; omega
      · have hke : k = rs.length := by omega
        have hab : rs = qs := by have := HE.out; rw [hke, List.take_length, hl, List.take_length] at this; exact this
        go_wp2
        go_ret
        exact ⟨ret_bool (by rw [decide_eq_true hab]), bel⟩
  · have hab : rs ≠ qs := fun e => hl (by rw [e])
    have hn2 : ((rs.length : Int) != (qs.length : Int)) = true := by simp; omega
    rw [decide_eq_false hab]
    go_enter Tryz.func178, Tryz.ntmps178
    go_wp2
    go_ret
    exact ⟨rfl, Below.refl _ _⟩

end Go.Proofs.YtogdbjafibejdaaGreat
