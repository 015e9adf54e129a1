/- FnHexes from the program's contracts. -/
import Derived.Test.YteddljmekpnojaaDoorU14
import Derived.Test.YteddljmekpnojaaDoorU11
namespace Go.Proofs.YteddljmekpnojaaDoor
open Go.RowKit
set_option maxRecDepth 100000
set_option linter.unusedVariables false

set_option maxHeartbeats 4000000 in
set_option maxRecDepth 100000 in
theorem fnHexes_of (H1 : HexTextOk) (H2 : HexBytesOk) {v : Value} {xs : List Int} (w : World) (H3 : NumTextOk w) (h : Sl .u8 w v xs) (hf : ∀ n ∈ xs, (Lit.int .u8 n).wf = true) :
    Calls Tryd.prog 3 #[v] w fun e w' => e = .returned (.bool true) ∧ Below w.heap.size w w' := by
  have hb : ∀ x ∈ xs, 0 ≤ x ∧ x ≤ 255 := byte_ok hf
  have HS := (show Hid (Sl .u8 w v xs) from h)
  have HB := (show Hid _ from hb)
  have C1 := (show Hid HexTextOk from H1)
  have C2 := (show Hid HexBytesOk from H2)
  have C3 := (show Hid (NumTextOk w) from H3)
  clear hf hb H1 H2 H3
  by_cases hbig : 1048576 < xs.length
  · go_enter Tryd.func3, Tryd.ntmps3
    go_wp2_with fail
    go_at_call 5
    refine (big_any h).mono ?_
    rintro e w1 ⟨rfl, rfl⟩
    go_wp2
    go_ret
    exact ⟨rfl, Below.refl _ _⟩
  · have hn : xs.length ≤ 1099511627776 := by omega
    go_enter Tryd.func3, Tryd.ntmps3
    go_wp2_with fail
    go_at_call 5
    refine (big_any h).mono ?_
    rintro e w1 ⟨rfl, ew⟩
    have ew := ew.symm
    subst ew
    clear h
    go_wp2_with fail
    go_at_call 6
    refine (drawHexText_any HS.out HB.out hn).mono ?_
    rintro e w1 ⟨s, rfl, hs, b1⟩
    have B1 := (show Hid (Below w.heap.size w w1) from b1)
    clear b1
    go_wp2_with fail
    go_at_call 7
    refine (C1.out s w1 (by omega)).mono ?_
    rintro e w2 ⟨rfl, b2⟩
    have B2 := (show Hid (Below w.heap.size w w2) from B1.out.trans (b2.mono B1.out.size))
    clear b2 B1
    by_cases hlong : 3000 < s.size
    · have hx : hexS s = ⟨#[]⟩ := by rw [hexS, if_pos hlong]
      rw [hx]
      have hem : (⟨#[]⟩ : ByteArray).toList.isEmpty = true := by unfold ByteArray.toList; rw [ByteArray.toList.loop]; rfl
      go_wp2
      go_ret
      exact ⟨rfl, B2.out⟩
    · have hu := unhexS_hexS (s := s) (by omega)
      have hxs := hexS_size s
      obtain ⟨x, hx⟩ : ∃ z, z = hexS s := ⟨_, rfl⟩
      rw [← hx] at hu hxs ⊢
      clear hx
      have CB := C2.out x w2 (by omega)
      rw [hu] at CB
      have CB := (show Hid _ from CB)
      go_wp2_with fail
      go_at_call 8
      refine Calls.mono CB.out ?_
      rintro e w3 ⟨rfl, b3⟩
      have B3 := (show Hid (Below w.heap.size w w3) from B2.out.trans (b3.mono B2.out.size))
      clear b3 B2 CB hu
      go_wp2_with fail
      go_at_call 9
      refine (drawHexBytes_any (HS.out.below B3.out) HB.out hn).mono ?_
      rintro e w4 ⟨tx, rfl, htx, b4⟩
      have B4 := (show Hid (Below w.heap.size w w4) from B3.out.trans (b4.mono B3.out.size))
      clear b4 B3
      have CI := (show Hid _ from C2.out tx w4 (by omega))
      have CS := (show Hid (∀ W, Calls Tryd.prog 10 #[.string tx] W fun e w' => e = .returned (.tuple #[.string (unhexS tx).1, .bool (unhexS tx).2]) ∧ Below W.heap.size W w') from fun W => shexBytes_any tx W (by omega))
      have HW := (show Hid ((unhexS tx).2 = true → hexS (unhexS tx).1 = tx) from fun h => hexS_unhexS h)
      have hyz : (unhexS tx).1.size ≤ 1099511627776 := by
        unfold unhexS
        split
        · exact Nat.zero_le _
        · cases hq : unhexF (bs tx) with
          | none => exact Nat.zero_le _
          | some l =>
            have := (hex_unhex _ (bs tx) l (Nat.le_refl _) hq).2.2
            have hl := bs_len tx
            show (strOf l).size ≤ _
            rw [strOf_size]; omega
      obtain ⟨⟨y, fine⟩, hy⟩ : ∃ z, z = unhexS tx := ⟨_, rfl⟩
      rw [← hy] at CI CS HW hyz
      simp only at CI CS HW hyz
      clear hy
      go_wp2_with fail
      go_at_call 8
      refine Calls.mono CI.out ?_
      rintro e w5 ⟨rfl, b5⟩
      have B5 := (show Hid (Below w.heap.size w w5) from B4.out.trans (b5.mono B4.out.size))
      clear b5 B4 CI
      go_wp2_with fail
      go_at_call 10
      refine Calls.mono (CS.out w5) ?_
      rintro e w6 ⟨rfl, b6⟩
      have B6 := (show Hid (Below w.heap.size w w6) from B5.out.trans (b6.mono B5.out.size))
      clear b6 B5 CS
      go_wp2_with fail
      go_at_call 11
      refine (drawNumText_any (HS.out.below B6.out) HB.out hn).mono ?_
      rintro e w7 ⟨n, rfl, n0, n1, b7⟩
      have B7 := (show Hid (Below w.heap.size w w7) from B6.out.trans (b7.mono B6.out.size))
      clear b7 B6
      have hnw : (Lit.int .i64 n).wf = true := by
        have e1 : IntKind.i64.min = -9223372036854775808 := by decide
        have e2 : IntKind.i64.max = 9223372036854775807 := by decide
        simp only [Lit.wf, e1, e2, Bool.and_eq_true, decide_eq_true_eq]
        exact ⟨n0, n1⟩
      have CN := (show Hid (∀ W, Below w.heap.size w W → Calls Tryd.prog 12 #[.int .i64 n] W fun e w' => e = .returned (.string (numS n)) ∧ Below W.heap.size W w') from fun W hb => C3.out n W hnw hb)
      have CM := (show Hid (∀ W, Calls Tryd.prog 13 #[.int .i64 n] W fun e w' => e = .returned (.string (numS n)) ∧ Below W.heap.size W w') from fun W => snumText_any n W hnw)
      obtain ⟨ns, hns⟩ : ∃ z, z = numS n := ⟨_, rfl⟩
      rw [← hns] at CN CM
      clear hns hnw
      cases fine
      · go_wp2_with fail
        go_at_call 12
        refine Calls.mono (CN.out _ B7.out) ?_
        rintro e w9 ⟨rfl, b9⟩
        have B9 := (show Hid (Below w.heap.size w w9) from B7.out.trans (b9.mono B7.out.size))
        clear b9
        go_wp2_with fail
        go_at_call 13
        refine Calls.mono (CM.out _) ?_
        rintro e w10 ⟨rfl, b10⟩
        have B10 := (show Hid (Below w.heap.size w w10) from B9.out.trans (b10.mono B9.out.size))
        clear b10 B9
        go_wp2
        go_ret
        exact ⟨rfl, B10.out⟩
      · have CX := C1.out y w7 hyz
        rw [HW.out (by trivial)] at CX
        have CX := (show Hid _ from CX)
        clear HW
        go_wp2_with fail
        go_at_call 7
        refine Calls.mono CX.out ?_
        rintro e w8 ⟨rfl, b8⟩
        have B8 := (show Hid (Below w.heap.size w w8) from B7.out.trans (b8.mono B7.out.size))
        clear b8 CX
        go_wp2_with fail
        go_at_call 12
        refine Calls.mono (CN.out _ B8.out) ?_
        rintro e w9 ⟨rfl, b9⟩
        have B9 := (show Hid (Below w.heap.size w w9) from B8.out.trans (b9.mono B8.out.size))
        clear b9
        go_wp2_with fail
        go_at_call 13
        refine Calls.mono (CM.out _) ?_
        rintro e w10 ⟨rfl, b10⟩
        have B10 := (show Hid (Below w.heap.size w w10) from B9.out.trans (b10.mono B9.out.size))
        clear b10 B9
        go_wp2
        go_ret
        exact ⟨rfl, B10.out⟩
end Go.Proofs.YteddljmekpnojaaDoor
