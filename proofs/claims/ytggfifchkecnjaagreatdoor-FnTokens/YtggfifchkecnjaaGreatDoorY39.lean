/- The program's cutter: the rest of a tag. No condition. -/
import Derived.Test.YtggfifchkecnjaaGreatDoorY38
import Derived.Test.YtggfifchkecnjaaGreatDoorY32
import Derived.Test.YtggfifchkecnjaaGreatDoorY30
namespace Go.Proofs.YtggfifchkecnjaaGreatDoor
open Go.RowKit
set_option maxRecDepth 100000
set_option linter.unusedVariables false

theorem row_pastg {B g size n : Nat} {e : TypeId} {w w' : World} {v : Value} {xs : List Value} (h : w.ownsRow B e size v n xs) (hg : w.grownBy w' (some g)) (hlt : g < B) : w'.ownsRow B e size v n xs := by
  refine World.ownsRow.kept h hg ?_
  by_cases h0 : v.ownBlock = none
  · exact .inl h0
  · obtain ⟨k, hk⟩ := Option.ne_none_iff_exists'.mp h0
    refine .inr ?_
    have := (World.ownsRow.lt h k hk).1
    rw [hk]
    intro e
    injection e with e
    omega
theorem lowT_4762 : LowT ⟨#[47, 62]⟩ := ⟨by decide, by decide⟩
theorem low_two {xs : List Int} {k : Nat} {c d : UInt8} (hc : ¬ (97 ≤ (c.toNat : Int) ∧ (c.toNat : Int) ≤ 122)) (hc2 : ¬ (65 ≤ (c.toNat : Int) ∧ (c.toNat : Int) ≤ 90)) (hd : ¬ (97 ≤ (d.toNat : Int) ∧ (d.toNat : Int) ≤ 122)) (hd2 : ¬ (65 ≤ (d.toNat : Int) ∧ (d.toNat : Int) ≤ 90)) :
    standsLow xs k (bs ⟨#[c, d]⟩) = (atL xs k == (c.toNat : Int) && atL xs (k + 1) == (d.toNat : Int)) := by
  have : bs ⟨#[c, d]⟩ = [(c.toNat : Int), (d.toNat : Int)] := rfl
  rw [this]
  unfold standsLow
  have e : (List.range [(c.toNat : Int), (d.toNat : Int)].length) = [0, 1] := rfl
  rw [e]
  simp only [List.all_cons, List.all_nil, Bool.and_true, Nat.add_zero, List.getD_cons_zero, List.getD_cons_succ]
  rw [Bool.eq_iff_iff]
  simp only [Bool.and_eq_true, beq_iff_eq]
  rw [lowerOf_eq hc hc2, lowerOf_eq hd hd2]
theorem st_4762 (xs : List Int) (k : Nat) : standsLow xs k (bs ⟨#[47, 62]⟩) = (atL xs k == 47 && atL xs (k + 1) == 62) := low_two (by decide) (by decide) (by decide) (by decide)
theorem attr_cb {w0 : World} {g : Nat} {v : Value} {xs : List Int} {s : ByteArray} {w : World} {k : Nat} {wr : World} (h : CB w0 g v xs s w k wr) (ho : Older wr) (hy : ∀ y ∈ xs, pointOk y = true) (hk : k < xs.length) :
    Calls Tryz.prog 135 #[.agg #[v, .pointer (some ⟨g, 0, none⟩), .string s]] wr fun e w' => e = .returned (.agg #[.string (attrM xs k).1.1, .string (attrM xs k).1.2]) ∧ CB w0 g v xs s w (attrM xs k).2 w' ∧ wr.grownBy w' (some g) := by
  refine (attr_any h.cut ho hy s hk).mono ?_
  rintro e w' ⟨rfl, hc, hg⟩
  exact ⟨rfl, h.move hc hg, hg⟩
def TagOut (o : Option (List (ByteArray × ByteArray) × Bool × Nat)) (rs : List (ByteArray × ByteArray)) (sf wh : Bool) (j n : Nat) : Prop :=
  match o with
  | none => wh = false ∧ j = n
  | some r => wh = true ∧ rs = r.1 ∧ sf = r.2.1 ∧ j = r.2.2

set_option maxHeartbeats 4000000 in
theorem restOfTag_any {w0 : World} {g : Nat} {v : Value} {xs : List Int} {i : Nat} {w : World} (h : Cut w0 g v xs i w) (ho : Older w) (hy : ∀ y ∈ xs, pointOk y = true) (s : ByteArray) :
    Calls Tryz.prog 117 #[cutVal v g s] w fun e w' => ∃ va rs sf wh j, e = .returned (.tuple #[va, .bool sf, .bool wh]) ∧ Cut w0 g v xs j w' ∧ w.grownBy w' (some g) ∧ w'.ownsRow w.heap.size 81 2 va rs.length (pairCells rs) ∧ TagOut (tagV xs i []) rs sf wh j xs.length := by
  have hxl := h.2.2.2.1.1
  have hil := h.2.2.2.1.2
  have hwl := h.2.2.1.size
  have hgl := h.lt
  have hcb := cb_new (s := s) h
  obtain ⟨w1, hw1⟩ : ∃ z, z = w.alloc (.cells #[v, .pointer (some ⟨g, 0, none⟩), .string s] 47) := ⟨_, rfl⟩
  rw [← hw1] at hcb
  have HCB := (show Hid (CB w0 g v xs s w i w1) from hcb)
  have HY := (show Hid (∀ y ∈ xs, pointOk y = true) from hy)
  have HOLD := (show Hid (∀ W, w.grownBy W (some g) → Older W) from fun W hW => older_grown ho h hW)
  obtain ⟨tg, htg⟩ : ∃ z, z = tagV xs i [] := ⟨_, rfl⟩
  rw [← htg]
  have HTG := (show Hid (tagV xs i [] = tg) from htg.symm)
  clear hcb h hy ho htg
  unfold cutVal
  go_enter Tryz.func117, Tryz.ntmps117
  go_upto_region 1 with fail
  rw [← hw1]
  clear hw1
  go_loopw [2] (fun u wr => ∃ (k : Nat) (rs : List (ByteArray × ByteArray)), k ≤ xs.length ∧ Hid (wr.ownsRow (w.heap.size + 1) 81 2 u rs.length (pairCells rs) ∧ CB w0 g v xs s w k wr ∧ Few rs ∧ tagV xs k rs = tg)) (fun _ wr => xs.length - plc wr g)
  case atStart => exact ⟨i, [], hil, nil_row _ _, HCB.out, few_nil, HTG.out⟩
  case round =>
    clear HCB
    obtain ⟨k, rs, hk, I⟩ := hrel
    have cb := (show Hid _ from I.out.2.1)
    have MP := (show Hid (plc wr g = k) from cb.out.plc)
    obtain ⟨c0, c1, c2⟩ := cb.out.cells
    go_wp2_with fail
    go_at_call 108
    refine (ahead_cb cb.out 0 0 rfl (by omega)).mono ?_
    rintro e w2 ⟨rfl, b2⟩
    rw [Nat.add_zero]
    have cb2 := (show Hid _ from cb.out.below b2)
    have OW := (show Hid _ from ownsRow_below I.out.1 b2)
    have HF := (show Hid (Few rs) from I.out.2.2.1)
    have HT := (show Hid (tagV xs k rs = tg) from I.out.2.2.2)
    clear cb b2 c0 c1 c2 I
    by_cases hkl : k < xs.length
    · have hok := at_ok HY.out hkl
      have hx0 := ((pointOk_iff _).mp hok).1
      obtain ⟨x, hx⟩ : ∃ x, x = atL xs k := ⟨_, rfl⟩
      rw [← hx] at hx0 ⊢
      have hne : (x != -1) = true := by simp; omega
      have HX := (show Hid (x = atL xs k) from hx)
      clear hok hx
      obtain ⟨c0, c1, c2⟩ := cb2.out.cells
      go_wp2_with fail
      go_at_call 118
      refine (takes_cb cb2.out HY.out _ lowT_62 (by decide)).mono ?_
      rintro e w3 ⟨rfl, cb3', g3⟩
      have OW3 := (show Hid _ from row_pastg OW.out g3 (by omega))
      have CB3 := (show Hid _ from cb3')
      rw [st_62]
      clear OW cb2 cb3' g3 c0 c1 c2
      by_cases h62 : atL xs k = 62
      · have hb : behT xs k ⟨#[62]⟩ = k + 1 := by unfold behT; rw [st_62, h62]; rfl
        rw [hb] at CB3
        have hxb : (atL xs k == 62) = true := by rw [h62]; rfl
        rw [hxb]
        have ht := tag_gr (rs := rs) hkl h62
        rw [HT.out] at ht
        have HTT := (show Hid _ from ht)
        clear hb hxb ht h62
        go_wp2
        go_ret3
        exact ⟨_, rs, false, true, k + 1, rfl, CB3.out.cut, CB3.out.gro, row_base OW3.out (by omega), by rw [HTT.out]; exact ⟨rfl, rfl, rfl, rfl⟩⟩
      · have hb : behT xs k ⟨#[62]⟩ = k := by unfold behT; rw [st_62, if_neg (by simp [h62])]
        rw [hb] at CB3
        have hxb : (atL xs k == 62) = false := by simp [h62]
        rw [hxb]
        clear hb hxb
        obtain ⟨c0, c1, c2⟩ := CB3.out.cells
        go_wp2_with fail
        go_at_call 118
        refine (takes_cb CB3.out HY.out _ lowT_4762 (by decide)).mono ?_
        rintro e w4 ⟨rfl, cb4', g4⟩
        have OW4 := (show Hid _ from row_pastg OW3.out g4 (by omega))
        have CB4 := (show Hid _ from cb4')
        rw [st_4762]
        clear OW3 CB3 cb4' g4 c0 c1 c2
        by_cases h47 : atL xs k = 47 ∧ atL xs (k + 1) = 62
        · have hxb : (atL xs k == 47 && atL xs (k + 1) == 62) = true := by rw [h47.1, h47.2]; rfl
          have hb : behT xs k ⟨#[47, 62]⟩ = k + 2 := by unfold behT; rw [st_4762, hxb]; rfl
          rw [hb] at CB4
          rw [hxb]
          have ht := tag_self (rs := rs) hkl h47.1 h47.2
          rw [HT.out] at ht
          have HTT := (show Hid _ from ht)
          clear hb hxb ht h47 h62
          go_wp2
          go_ret3
          exact ⟨_, rs, true, true, k + 2, rfl, CB4.out.cut, CB4.out.gro, row_base OW4.out (by omega), by rw [HTT.out]; exact ⟨rfl, rfl, rfl, rfl⟩⟩
        · have hxb : (atL xs k == 47 && atL xs (k + 1) == 62) = false := by
            cases hh : (atL xs k == 47 && atL xs (k + 1) == 62)
            · rfl
            · rw [Bool.and_eq_true, beq_iff_eq, beq_iff_eq] at hh; exact absurd hh h47
          have hb : behT xs k ⟨#[47, 62]⟩ = k := by unfold behT; rw [st_4762, hxb]; rfl
          rw [hb] at CB4
          rw [hxb]
          clear hb hxb
          obtain ⟨c0, c1, c2⟩ := CB4.out.cells
          go_wp2_with fail
          go_at_call 108
          refine (ahead_cb CB4.out 0 0 rfl (by omega)).mono ?_
          rintro e w5 ⟨rfl, b5⟩
          rw [Nat.add_zero]
          have CB5 := (show Hid _ from CB4.out.below b5)
          have OW5 := (show Hid _ from ownsRow_below OW4.out b5)
          clear CB4 OW4 b5 c0 c1 c2
          go_wp2_with fail
          go_at_call 116
          refine (endsTag_any _ _).mono ?_
          rintro e w6 ⟨rfl, b6⟩
          have CB6 := (show Hid _ from CB5.out.below b6)
          have OW6 := (show Hid _ from ownsRow_below OW5.out b6)
          clear CB5 OW5 b6
          obtain ⟨c0, c1, c2⟩ := CB6.out.cells
          rcases he : endTag (atL xs k) with _ | _
          · have ht := tag_attr (rs := rs) hxl hkl h62 he
            rw [HT.out] at ht
            have HTT := (show Hid _ from ht.symm)
            obtain ⟨l1, l2, l3, l4⟩ := attrM_le hxl hkl
            have CA := attr_cb CB6.out (HOLD.out _ CB6.out.gro) HY.out hkl
            obtain ⟨⟨⟨an, av⟩, aj⟩, ha⟩ : ∃ z, z = attrM xs k := ⟨_, rfl⟩
            rw [← ha] at CA HTT l1 l2 l3 l4
            simp only at CA HTT l1 l2 l3 l4
            have HCA := (show Hid _ from CA)
            clear ht ha CA he h47 h62
            go_wp2_with fail
            go_at_call 135
            refine Calls.mono HCA.out ?_
            rintro e w7 ⟨rfl, cb7', g7⟩
            have OW7 := (show Hid _ from row_pastg OW6.out g7 (by omega))
            have CB7 := (show Hid _ from cb7')
            have FA := (show Hid (Few (attrAdd rs (an, av))) from few_add HF.out l3 l4)
            have CD := (show Hid _ from attrAddOk _ rs (an, av) w7 (sv_of_own OW7.out) ⟨by have := HF.out.1; omega, fun p hp => by have := HF.out.2 p hp; omega⟩ (by show an.size ≤ _; omega) (by show av.size ≤ _; omega))
            clear CB6 OW6 cb7' g7 c0 c1 c2 HCA OW7
            go_wp2_with fail
            go_at_call 134
            refine Calls.mono CD.out ?_
            rintro e w8 ⟨va, rfl, o8, b8⟩
            have CB8 := (show Hid _ from CB7.out.below b8)
            have O8 := (show Hid _ from row_base o8 (show w.heap.size + 1 ≤ w7.heap.size from lt_of_block CB7.out.box))
            clear CD o8 b8 CB7
            go_wp2
            go_roundw
            case rel => exact ⟨aj, attrAdd rs (an, av), l2, O8.out, CB8.out, FA.out, HTT.out⟩
            case measure => rw [CB8.out.plc, MP.out]; omega
          · have ht := tag_skip (rs := rs) hxl hkl h62 h47 he
            rw [HT.out] at ht
            have HTT := (show Hid _ from ht.symm)
            clear ht he h47 h62
            go_wp2_with fail
            go_at_call 110
            have CM := move_any CB6.out.cut s 1 (by omega)
            refine CM.mono ?_
            rintro e w7 ⟨rfl, hc7, hg7⟩
            have CB7 := (show Hid _ from CB6.out.move hc7 hg7)
            have OW7 := (show Hid _ from row_pastg OW6.out hg7 (by omega))
            clear CM hc7 hg7 CB6 OW6 c0 c1 c2
            go_wp2
            go_roundw
            case rel => exact ⟨k + 1, rs, by omega, OW7.out, CB7.out, HF.out, HTT.out⟩
            case measure => rw [CB7.out.plc, MP.out]; omega
    · have ht := tag_out (rs := rs) (show xs.length ≤ k by omega)
      rw [HT.out] at ht
      have hkk : k = xs.length := by omega
      have HTT := (show Hid _ from ht)
      have HKK := (show Hid _ from hkk)
      rw [atL_out (show xs.length ≤ k by omega)]
      clear ht hkk
      go_wp2
      go_ret3
      exact ⟨_, [], false, false, k, rfl, cb2.out.cut, cb2.out.gro, nil_row _ _, by rw [HTT.out]; exact ⟨rfl, HKK.out⟩⟩
end Go.Proofs.YtggfifchkecnjaaGreatDoor
