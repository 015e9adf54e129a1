/- The law FnRef, walked from a contract of the program's RefRead. -/
import Derived.Test.YtidmnckcofclbaaDoorRefLaw2
import Derived.Test.YtidmnckcofclbaaDoorDrawR2
import Derived.Test.YtidmnckcofclbaaDoorSame
namespace Go.Proofs.YtidmnckcofclbaaDoor
open Go.RowKit
set_option linter.unusedVariables false

theorem refRead_empty {xs : List Int} {i : Int} {b : Bool} (h : (refRead xs i b).1 = []) : refRead xs i b = ([], i) := by
  by_cases hi : 3000 < xs.length ∨ inB i 0 (xs.length - 1) = false ∨ xs.getD i.toNat 0 ≠ 38
  · exact refRead_none hi
  · exfalso
    unfold refRead at h
    rw [if_neg hi] at h
    split at h
    · simp only at h
      split at h <;> simp at h
    · unfold refName at h
      simp only at h
      split at h
      · simp at h
      · split at h <;> simp at h

theorem refList_first : ∀ r ∈ refList, 97 ≤ (bs r.1).getD 0 0 := by decide
/-- In a list of noughts behind a 38 stands no reference. -/
theorem refRead_made (n : Nat) (b : Bool) : (refRead ((List.replicate n 0).set 0 38) 0 b).1 = [] ∨ refRead ((List.replicate n 0).set 0 38) 0 b = ([38], 1) := by
  obtain ⟨xs, hx⟩ : ∃ xs : List Int, xs = (List.replicate n 0).set 0 38 := ⟨_, rfl⟩
  rw [← hx]
  by_cases hne : (refRead xs 0 b).1 = []
  · exact .inl hne
  · right
    have h1 : atL xs 1 ≤ 0 := by
      rw [hx]
      simp only [atL, List.getD_eq_getElem?_getD]
      rw [List.getElem?_set_ne (by decide)]
      by_cases h : 1 < n
      · simp [h]
      · rw [List.getElem?_eq_none (by simp; omega)]; simp
    by_cases hi : 3000 < xs.length ∨ inB 0 0 (xs.length - 1) = false ∨ xs.getD (0 : Int).toNat 0 ≠ 38
    · rw [refRead_none hi] at hne; exact absurd rfl hne
    · have e : refRead xs 0 b = refName xs 0 b := by
        unfold refRead
        rw [if_neg hi, if_neg (by simp; omega)]
        rfl
      rw [e]
      obtain ⟨s1, s2, s3⟩ := best_spec xs 1 refList (⟨#[]⟩, 0) (best xs 1 refList) rfl
      rcases s1 with s1 | ⟨s1, s2⟩
      · rw [refName_zero (by rw [s1]; rfl)]; rfl
      · exfalso
        have hl := bs_len (best xs 1 refList).1
        have hp := (refList_plain _ s1).2.2
        have := stands_iff.mp s2 0 (by omega)
        have hf := refList_first _ s1
        rw [Nat.add_zero] at this
        omega

set_option maxHeartbeats 4000000 in
set_option maxRecDepth 100000 in
theorem fnRef_of {v : Value} {xs : List Int} (w : World) (hI : RefReadOk w) (h : Sl .u8 w v xs) (hwf : ∀ n ∈ xs, (Lit.int .u8 n).wf = true) :
    Calls Tryd.prog 3 #[v] w fun e w' => e = .returned (.bool true) ∧ Below w.heap.size w w' := by
  have HB : Hid (∀ x ∈ xs, 0 ≤ x ∧ x ≤ 255) := byte_ok hwf
  have HI := (show Hid (RefReadOk w) from hI)
  clear hwf hI
  obtain ⟨i0, hi, hz0, hz1, hz2⟩ := info_parts Tryd.infoI
  have hbig := big_any h
  by_cases hl : 1048576 < xs.length
  · rw [decide_eq_true hl] at hbig
    go_enter Tryd.func3, Tryd.ntmps3
    go_wp2_with fail
    go_at_call 6
    refine hbig.mono ?_
    rintro e w1 ⟨rfl, rfl⟩
    go_wp2
    go_ret
    exact ⟨rfl, Below.refl _ _⟩
  · rw [decide_eq_false hl] at hbig
    go_enter Tryd.func3, Tryd.ntmps3
    go_wp2_with fail
    go_at_call 6
    refine hbig.mono ?_
    rintro e w1 ⟨rfl, rfl⟩
    clear hbig
    go_wp2_with fail
    go_at_call 7
    refine (drawRefRead_any h HB.out (by omega)).mono ?_
    rintro e w2 ⟨vl, zs, i, b, rfl, o2, hzl, hib, hkind, b2⟩
    have hiw : Hid ((Lit.int .i64 i).wf = true) := (show (Lit.int .i64 i).wf = true from WalkArith.wf_i64 (by omega))
    go_wp2_with fail
    go_at_call 8
    refine (HI.out _ zs _ b2 o2.sl i b hiw.out (by omega)).mono ?_
    rintro e w3 ⟨vg, rfl, og, b3⟩
    have o3 := o2.below b3
    replace og := og.base b2.size
    replace b3 := b2.trans (b3.mono b2.size)
    clear o2 b2
    go_wp2_with fail
    go_at_call 9
    refine (srefRead_any o3.sl i b (by omega)).mono ?_
    rintro e w4 ⟨vw, rfl, ow, b4⟩
    have o4 := o3.below b4
    have og4 := og.below b4
    replace b4 := b3.trans (b4.mono b3.size)
    have hlen := refRead_len zs i b
    clear o3 og b3
    go_wp2_with fail
    go_at_call 10
    refine (same_any og4.sl ow.sl (by omega) (by omega)).mono ?_
    rintro e w5 ⟨rfl, b5⟩
    have o5 := o4.below b5
    have og5 := og4.below b5
    replace b5 := b4.trans (b5.mono b4.size)
    rw [decide_eq_true rfl]
    clear o4 og4 ow b4
    by_cases hne : (refRead zs i b).1 = []
    · rw [refRead_empty hne] at og5 ⊢
      rcases og5.shape with ⟨rfl, _⟩ | ⟨gg, cg, rfl, _⟩
      · go_wp2
        go_ret
        exact ⟨ret_bool (by simp), b5⟩
      · go_wp2
        go_ret
        exact ⟨ret_bool (by simp), b5⟩
    · obtain ⟨k, n, y, rfl, hk, he, hy, hkn, hn, hcase⟩ := refRead_law hne
      rw [he] at og5 ⊢
      simp only at og5 ⊢
      have hcall : n + 1 ≤ 3000 ∨ (n = k + 1 ∧ y = 38) := by
        rcases hkind with hkind | ⟨m, hm, hz⟩
        · exact .inl (by omega)
        · right
          subst hm
          have hk0 : k = 0 := by omega
          subst hk0
          rcases refRead_made m b with h | h
          · exact absurd h hne
          · rw [show ((0 : Nat) : Int) = 0 from rfl, h] at he
            injection he with e1 e2
            injection e1 with e1
            exact ⟨by omega, e1.symm⟩
      have hfin : (n = k + 1 ∧ y = 38) ∨ (¬ (n = k + 1 ∧ y = 38) ∧ refRead (cut zs n) k b = ([y], (n : Int))) := by
        by_cases h1 : n = k + 1 ∧ y = 38
        · exact .inl h1
        · rcases hcase with h | h
          · exact absurd h h1
          · rcases hcall with h2 | h2
            · exact .inr ⟨h1, h h2⟩
            · exact absurd h2 h1
      have cp := fun w => iok_any y w
      rw [hy] at cp
      have CP := (show Hid _ from cp)
      have HF := (show Hid _ from hfin)
      have hcl := cut_len (xs := zs) (n := n) hn
      have HCL := (show Hid _ from hcl)
      rcases og5.shape with ⟨_, hnil⟩ | ⟨gg, cg, rfl, hg1, hg2, hg3, hg4⟩
      · cases hnil
      rcases o5.shape with ⟨_, hnil⟩ | ⟨gl, cl, rfl, hl1, hl2, hl3, hl4⟩
      · subst hnil; simp at hk
      have cg0 : w5.cell? ⟨gg, 0, none⟩ = some (.int .i64 y) := by
        obtain ⟨a, ca, e, _, _, _, hc⟩ := og5.sl
        cases e
        obtain ⟨b', o', e, c⟩ := hc 0 (by simp)
        cases e
        exact c
      have oe := own_empty 3 .i64 w5
      have ba : Below w5.heap.size w5 (w5.alloc (.cells #[] 3)) := (Below.refl _ _).alloc (Nat.le_refl _) _
      have htake := (o5.below ba).sl.take (r := n) hn
      have htl : (zs.take n).length = n := by simp; omega
      have hone : ∀ w : World, Sl .i64 (w.alloc (.cells #[.int .i64 32] 3)) (.slice (some ⟨w.heap.size, 0, none⟩) 1 1) [32] := fun w => (own1 w 32).sl
      have HOne := (show Hid _ from hone)
      have OG : Hid (Own w1.heap.size 3 .i64 w5 (.slice (some ⟨gg, 0, none⟩) [y].length cg) [y]) := og5
      clear cp hfin hcl hcase hcall hkind hne he hone og5 o5 hlen hib hy
      simp only [List.length_singleton]
      go_wp2_with (first
        | (go_at_call 11; refine (CP.out _).mono ?_; rintro e w5 ⟨rfl, rfl⟩)
        | (at_builtin; refine wpList_app _ rfl (.tmp 71) (.tmp 74) 24 rfl _ 3 i0 (.int .i64 0) 8 Tryd.underlying24 hi hz0 hz1 hz2 rfl .i64 _ _ [] (zs.take n) rfl rfl oe htake (by simp; omega) (by unfold maxLen; simp; omega) (by simp) ?_; intro v6 w7 o7 g7; rw [List.nil_append] at o7)
        | (at_builtin; refine wpList_app _ rfl (.tmp 75) (.tmp 76) 24 rfl _ 3 i0 (.int .i64 0) 8 Tryd.underlying24 hi hz0 hz1 hz2 rfl .i64 _ _ (zs.take n) [32] rfl rfl (o7.alloc _) (HOne.out _) (by simp; omega) (by unfold maxLen; simp; omega) (by have := g7.size; simp at this ⊢; omega) ?_; intro v8 w8 o8 g8))
      have hs7 := g7.size
      have b8 : Below w5.heap.size w5 w8 := by
        refine ((ba.grown g7 (by simp) (fun j hj => (oe.lt j hj).1)).alloc (by simp at hs7; omega) _).grown g8 (by simp at hs7 ⊢; omega) (fun j hj => (o7.lt j hj).1)
      have hcut : zs.take n ++ [32] = cut zs n := rfl
      rw [hcut] at o8
      have og8 := OG.out.below b8
      have cg8 : w8.cell? ⟨gg, 0, none⟩ = some (.int .i64 y) := (b8.cell (p := ⟨gg, 0, none⟩) hg2).trans cg0
      have bel : Below w1.heap.size w1 w8 := b5.trans (b8.mono b5.size)
      clear b8 hs7 g7 g8 o7 OG cg0 b5 ba oe htake hcut
      rcases HF.out with ⟨hnk, hy38⟩ | ⟨hnot, hr2⟩
      · have hcw := HI.out v8 (cut zs n) w8 bel o8.sl k b hiw.out (by have := HCL.out; omega)
        clear HF HI o8
        subst hy38
        subst hnk
        refine hcw.mono ?_
        rintro e w9 ⟨va, rfl, oa, b9⟩
        have cg9 : w9.cell? ⟨gg, 0, none⟩ = some (.int .i64 38) := (b9.cell (p := ⟨gg, 0, none⟩) (og8.lt gg rfl).2).trans cg8
        clear cg8 oa
        replace b9 := bel.trans (b9.mono bel.size)
        go_wp2
        go_ret
        exact ⟨ret_bool (by simp), b9⟩
      · have hcw := HI.out v8 (cut zs n) w8 bel o8.sl k b hiw.out (by have := HCL.out; omega)
        rw [hr2] at hcw
        have HNOT := (show Hid _ from hnot)
        clear HF HI o8 hr2 hnot
        refine hcw.mono ?_
        rintro e w9 ⟨va, rfl, oa, b9⟩
        simp only at oa
        have cg9 : w9.cell? ⟨gg, 0, none⟩ = some (.int .i64 y) := (b9.cell (p := ⟨gg, 0, none⟩) (og8.lt gg rfl).2).trans cg8
        have og9 := og8.below b9
        clear cg8 og8
        replace b9 := bel.trans (b9.mono bel.size)
        have CS := (show Hid (Calls Tryd.prog 10 #[va, .slice (some ⟨gg, 0, none⟩) 1 cg] w9 fun e w' => e = .returned (.bool true) ∧ Below w9.heap.size w9 w') from by
          have := same_any oa.sl og9.sl (by simp) (by simp)
          rw [decide_eq_true rfl] at this
          exact this)
        clear oa og9
        by_cases hnk : n = k + 1
        · have hy38 : (y == 38) = false := by
            have : y ≠ 38 := fun e => HNOT.out ⟨hnk, e⟩
            simpa using this
          subst hnk
          go_wp2_with fail
          go_at_call 10
          refine CS.out.mono ?_
          rintro e w10 ⟨rfl, b10⟩
          go_wp2
          go_ret
          exact ⟨ret_bool (by simp), b9.trans (b10.mono b9.size)⟩
        · have hne2 : ((n : Int) == (k : Int) + 1) = false := by simp; omega
          go_wp2_with fail
          go_at_call 10
          refine CS.out.mono ?_
          rintro e w10 ⟨rfl, b10⟩
          go_wp2
          go_ret
          exact ⟨ret_bool (by simp), b9.trans (b10.mono b9.size)⟩
end Go.Proofs.YtidmnckcofclbaaDoor
