/- The law FnNums, walked: at every code of bytes it returns true and writes nothing that was there. -/
import Derived.Test.YtgcpdmnikoebkaaRoundN
import Derived.Test.YtgcpdmnikoebkaaDrawN
import Derived.Test.YtgcpdmnikoebkaaIGetNum
import Derived.Test.YtgcpdmnikoebkaaIGetText
namespace Go.Proofs.Ytgcpdmnikoebkaa
open Go.RowKit
set_option maxRecDepth 100000
set_option linter.unusedVariables false

set_option maxHeartbeats 4000000 in
set_option maxRecDepth 100000 in
theorem fnNums_walk {v : Value} {xs : List Int} (w : World) (h : Sl .u8 w v xs) (hwf : ∀ n ∈ xs, (Lit.int .u8 n).wf = true) :
    Calls Try.prog 3 #[v] w fun e w' => e = .returned (.bool true) ∧ Below w.heap.size w w' := by
  have HB : Hid (∀ x ∈ xs, 0 ≤ x ∧ x ≤ 255) := byte_ok hwf
  clear hwf
  have hbig := big_any h
  by_cases hl : 1048576 < xs.length
  · rw [decide_eq_true hl] at hbig
    go_enter Try.func3, Try.ntmps3
    go_wp2_with fail
    go_at_call 8
    refine hbig.mono ?_
    rintro e w1 ⟨rfl, rfl⟩
    go_wp2
    go_ret
    exact ⟨rfl, Below.refl _ _⟩
  · rw [decide_eq_false hl] at hbig
    have hn : xs.length ≤ 1099511627776 := by omega
    obtain ⟨i0, hi, hz0, hz1, hz2⟩ := info_parts Try.infoB
    go_enter Try.func3, Try.ntmps3
    go_wp2_with fail
    go_at_call 8
    refine hbig.mono ?_
    rintro e w1 ⟨rfl, rfl⟩
    go_wp2_with fail
    go_at_call 9
    refine (drawNum_any h HB.out hn).mono ?_
    rintro e w2 ⟨x, rfl, x0, x1, b2⟩
    replace h := h.below b2
    go_wp2_with fail
    go_at_call 10
    refine (inum_any x _ x1).mono ?_
    rintro e w3 ⟨vb, rfl, ob, b3⟩
    replace h := h.below b3
    replace ob := ob.base b2.size
    replace b3 := b2.trans (b3.mono b2.size)
    clear b2 hbig
    by_cases hx : x < 0
    · have e : form x = [] := by unfold form; rw [if_pos hx]
      rw [e] at ob
      obtain ⟨ab, cab, rfl, _⟩ := ob.sl
      go_wp2
      go_ret
      exact ⟨rfl, b3⟩
    · have hfl := form_len x
      have hr := rdI_form (x := x) (by omega) x1 [9]
      obtain ⟨F, hF⟩ : ∃ F, F = form x := ⟨_, rfl⟩
      have hfb : ∀ y ∈ F, 0 ≤ y ∧ y ≤ 255 := by rw [hF]; exact form_byte x1
      rw [← hF] at ob hr hfl
      have HR := (show Hid (∀ _, _) from hr)
      have HFB := (show Hid (∀ _ _, _) from hfb)
      clear hr hfb hF
      have ob0 := ob
      obtain ⟨ab, cab, rfl, _, _, _, hab⟩ := ob.sl
      clear ob hab
      have hs3 := b3.size
      have o9 : Own w3.heap.size 5 .u8 (w3.alloc (.cells #[.int .u8 9] 5)) (.slice (some ⟨w3.heap.size, 0, none⟩) 1 1) [9] := World.ownsRow_lit w3 #[.int .u8 9] 1 (Nat.le_refl _) (by unfold maxLen; omega) rfl
      have sb := (ob0.below ((Below.refl _ _).alloc (Nat.le_refl _) (.cells #[.int .u8 9] 5))).sl
      go_wp2_with (at_builtin; refine wpList_app _ rfl (.tmp 25) (.tmp 26) 22 rfl w3.heap.size 5 i0 (.int .u8 0) 1 Try.underlying22 hi hz0 hz1 hz2 rfl .u8 _ _ [9] F rfl rfl o9 sb (by simp; omega) (by unfold maxLen; simp; omega) (by simp) ?_; intro v4 w4 o4 g4)
      have bl : Below w3.heap.size w3 w4 := ((Below.refl _ _).alloc (Nat.le_refl _) _).grown g4 (by simp) o9.grownAt
      have hs4 := bl.size
      have BL := (show Hid (Below w3.heap.size w3 w4) from bl)
      have H3 := (show Hid (Sl .u8 w3 v xs) from h)
      replace h := h.below bl
      clear o9 sb g4 bl ob0
      go_at_call 12
      refine (at_any h HB.out hn 1 (by omega) (by omega)).mono ?_
      rintro e w5 ⟨⟨z, rfl, z0, z1⟩, rfl⟩
      have ez : z % 256 = z := by omega
      have sz := sl_byte1 w5 5 z
      clear h
      go_wp2_with (at_builtin; refine wpList_app _ rfl _ _ 22 rfl w3.heap.size 5 i0 (.int .u8 0) 1 Try.underlying22 hi hz0 hz1 hz2 rfl .u8 _ _ ([9] ++ F) [z] rfl rfl (o4.alloc _) sz (by simp; omega) (by unfold maxLen; simp; omega) (by simp; omega) ?_; intro v6 w6 o6 g6)
      have bl : Below w3.heap.size w3 w6 := BL.out.trans (((Below.refl _ _).alloc hs4 _).grown g6 (by simp; omega) o4.grownAt)
      have h := H3.out.below bl
      have b6 := b3.trans (bl.mono hs3)
      have hyb : ∀ y ∈ [9] ++ F ++ [z], 0 ≤ y ∧ y ≤ 255 := bytes_app (bytes_app (fun y hy => by simp at hy; omega) HFB.out) (fun y hy => by simp at hy; omega)
      have hyl : ([9] ++ F ++ [z]).length = F.length + 2 := by simp
      have e7 : numVal 1 (rdI ([9] ++ F ++ [z]) 1) = .tuple #[.int .i64 x, .int .i64 (1 + (F.length : Int)), .bool true] := by
        show numVal 1 (rdI ([9] ++ F ++ [z]) (([9] : List Int).length : Nat)) = _
        rw [HR.out [z]]
        rfl
      have I1 := igetNum_any (i := 1) o6.sl hyb (by omega)
      rw [e7] at I1
      have HI := (show Hid (Calls Try.prog 11 #[v6, .int .i64 1] w6 fun e w' => e = .returned (.tuple #[.int .i64 x, .int .i64 (1 + (F.length : Int)), .bool true]) ∧ Below w6.heap.size w6 w') from I1)
      clear I1 e7 hyb hyl sz g6 o4 o6 BL H3 b3 bl HR HFB ez
      go_at_call 11
      refine HI.out.mono ?_
      rintro e w7 ⟨rfl, b7⟩
      replace h := h.below b7
      replace b7 := b6.trans (b7.mono b6.size)
      clear HI b6 hs4
      go_wp2_with fail
      go_at_call 13
      refine (drawText_any h HB.out hn).mono ?_
      rintro e w8 ⟨t, rfl, ht, b8⟩
      replace h := h.below b8
      replace b8 := b7.trans (b8.mono b7.size)
      clear b7
      go_wp2_with fail
      go_at_call 14
      refine (iputText_any t _ (by omega)).mono ?_
      rintro e w9 ⟨vp, rfl, op, b9⟩
      replace h := h.below b9
      replace b9 := b8.trans (b9.mono b8.size)
      clear b8
      have htl := textForm_len t
      have hr := rdT_form t (by omega)
      obtain ⟨T, hT⟩ : ∃ T, T = textForm t := ⟨_, rfl⟩
      have htb : ∀ y ∈ T, 0 ≤ y ∧ y ≤ 255 := by rw [hT]; exact bytes_app (form_byte (by omega)) (bs_byte t)
      rw [← hT] at op hr htl
      have HR := (show Hid (∀ _, _) from hr)
      have HTB := (show Hid (∀ _ _, _) from htb)
      clear hr htb hT
      have op0 := op
      obtain ⟨ap, cap, rfl, _, _, _, hap⟩ := op.sl
      clear op hap
      have hs9 := b9.size
      have oe := own_empty 5 .u8 w9
      have sp := (op0.below ((Below.refl _ _).alloc (Nat.le_refl _) (.cells #[] 5))).sl
      go_wp2_with (at_builtin; refine wpList_app _ rfl _ _ 22 rfl w9.heap.size 5 i0 (.int .u8 0) 1 Try.underlying22 hi hz0 hz1 hz2 rfl .u8 _ _ [] T rfl rfl oe sp (by simp; omega) (by unfold maxLen; simp; omega) (by simp) ?_; intro va wa oa ga)
      have bl : Below w9.heap.size w9 wa := ((Below.refl _ _).alloc (Nat.le_refl _) _).grown ga (by simp) oe.grownAt
      have hsa := bl.size
      have BL := (show Hid (Below w9.heap.size w9 wa) from bl)
      replace h := h.below bl
      clear oe sp ga bl op0
      go_at_call 12
      refine (at_any h HB.out hn 2 (by omega) (by omega)).mono ?_
      rintro e wb ⟨⟨z2, rfl, y0, y1⟩, rfl⟩
      have ez : z2 % 256 = z2 := by omega
      have sz := sl_byte1 wb 5 z2
      clear h
      go_wp2_with (at_builtin; refine wpList_app _ rfl _ _ 22 rfl w9.heap.size 5 i0 (.int .u8 0) 1 Try.underlying22 hi hz0 hz1 hz2 rfl .u8 _ _ ([] ++ T) [z2] rfl rfl (oa.alloc _) sz (by simp; omega) (by unfold maxLen; simp; omega) (by simp; omega) ?_; intro vc wc oc gc)
      have bl : Below w9.heap.size w9 wc := BL.out.trans (((Below.refl _ _).alloc hsa _).grown gc (by simp; omega) oa.grownAt)
      have bc := b9.trans (bl.mono hs9)
      rw [List.nil_append] at oc
      have hyb : ∀ y ∈ T ++ [z2], 0 ≤ y ∧ y ≤ 255 := bytes_app HTB.out (fun y hy => by simp at hy; omega)
      have hyl : (T ++ [z2]).length = T.length + 1 := by simp
      have e7 : textVal (rdT (T ++ [z2]) 0) = .tuple #[.string t, .int .i64 (T.length : Int), .bool true] := by
        rw [HR.out [z2]]
        show Value.tuple #[.string (strOf (bs t)), _, _] = _
        rw [strOf_bs]
      have I1 := igetText_any (i := 0) oc.sl hyb (by omega)
      rw [e7] at I1
      have HI := (show Hid (Calls Try.prog 15 #[vc, .int .i64 0] wc fun e w' => e = .returned (.tuple #[.string t, .int .i64 (T.length : Int), .bool true]) ∧ Below wc.heap.size wc w') from I1)
      clear I1 e7 hyb hyl sz gc oa oc BL b9 bl HR HTB ez
      go_at_call 15
      refine HI.out.mono ?_
      rintro e wd ⟨rfl, bd⟩
      replace bd := bc.trans (bd.mono bc.size)
      clear HI bc
      go_wp2
      go_ret
      exact ⟨rfl, bd⟩
end Go.Proofs.Ytgcpdmnikoebkaa
