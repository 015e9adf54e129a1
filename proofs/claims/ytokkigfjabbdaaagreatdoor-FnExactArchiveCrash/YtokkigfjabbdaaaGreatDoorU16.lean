/- The specification's heads: l16Right, HeadPack. No condition. -/
import Derived.Test.YtokkigfjabbdaaaGreatDoorU14
import Derived.Test.YtokkigfjabbdaaaGreatDoorU13
import Derived.Test.YtokkigfjabbdaaaGreatDoorU15
import Derived.Deep.RegionHeld3
import Derived.Test.YtokkigfjabbdaaaGreatDoorU12
namespace Go.Proofs.YtokkigfjabbdaaaGreatDoor
open Go.RowKit
set_option maxRecDepth 100000
set_option linter.unusedVariables false

theorem rk_three {w : World} {b : Nat} {u v y : Value} {t : TypeId} (h : w.heap[b]? = some (.cells #[u, v, y] t (0, 0))) : w.cell? ⟨b, 0, none⟩ = some u ∧ w.cell? ⟨b, 1, none⟩ = some v ∧ w.cell? ⟨b, 2, none⟩ = some y ∧ w.frozen? ⟨b, 0, none⟩ = false ∧ w.frozen? ⟨b, 1, none⟩ = false ∧ w.frozen? ⟨b, 2, none⟩ = false :=
  ⟨by simp only [World.cell?, h]; rfl, by simp only [World.cell?, h]; rfl, by simp only [World.cell?, h]; rfl, by simp only [World.frozen?, h]; rfl, by simp only [World.frozen?, h]; rfl, by simp only [World.frozen?, h]; rfl⟩

set_option maxRecDepth 100000 in
theorem sl16Right_any (h : PHead) (w : World) : Calls Tryz.prog 26 #[headV h] w fun e w' => e = .returned (.bool (headB h)) ∧ Below w.heap.size w w' := by
  obtain ⟨no, ar, en⟩ := h
  unfold headV headB
  simp only
  have b1 : Below w.heap.size w (w.alloc (.cells #[.int .i64 no, .int .i64 ar, .int .i64 en] 36)) := (Below.refl _ _).alloc (Nat.le_refl _) _
  have B1 := (show Hid _ from b1)
  clear b1
  have C1 := l1In_any no 1 1000000000
  have C2 := l1In_any ar 0 1
  have C3 := l1In_any en 0 4096
  obtain ⟨p, hp⟩ : ∃ p, p = inB no 1 1000000000 := ⟨_, rfl⟩
  obtain ⟨q, hq⟩ : ∃ q, q = inB ar 0 1 := ⟨_, rfl⟩
  obtain ⟨r, hr⟩ : ∃ r, r = inB en 0 4096 := ⟨_, rfl⟩
  rw [← hp] at C1 ⊢
  rw [← hq] at C2 ⊢
  rw [← hr] at C3 ⊢
  have D1 := (show Hid _ from C1)
  have D2 := (show Hid _ from C2)
  have D3 := (show Hid _ from C3)
  clear hp hq hr C1 C2 C3
  go_enter Tryz.func26, Tryz.ntmps26
  go_wp2_with fail
  go_at_call 56
  refine (D1.out _).mono ?_
  rintro e w1 ⟨rfl, e1⟩
  subst e1
  cases p
  · go_wp2
    go_ret
    exact ⟨rfl, B1.out⟩
  · go_wp2_with fail
    go_at_call 56
    refine (D2.out _).mono ?_
    rintro e w2 ⟨rfl, e2⟩
    subst e2
    cases q
    · go_wp2
      go_ret
      exact ⟨rfl, B1.out⟩
    · go_wp2_with fail
      go_at_call 56
      refine (D3.out _).mono ?_
      rintro e w3 ⟨rfl, e3⟩
      subst e3
      cases r
      · go_wp2
        go_ret
        exact ⟨rfl, B1.out⟩
      · go_wp2
        go_ret
        exact ⟨rfl, B1.out⟩

theorem zeros_len {h : PHead} {n : Nat} : (formsL h ++ List.replicate n (0 : Int)).length = (formsL h).length + n := by simp

set_option maxHeartbeats 1000000 in
set_option maxRecDepth 100000 in
theorem sheadPack_any (h : PHead) (w : World) : Calls Tryz.prog 78 #[headV h] w fun e w' => e = .returned (.tuple #[.string (packDk h).1, .bool (packDk h).2]) ∧ Below w.heap.size w w' := by
  have CR := (show Hid _ from sl16Right_any h)
  obtain ⟨i0, hi, hz0, hz1, hz2⟩ := info_parts Tryz.infoB
  obtain ⟨w1, hw1⟩ : ∃ y, y = w.alloc (.cells #[.int .i64 h.no, .int .i64 h.area, .int .i64 h.en] 36) := ⟨_, rfl⟩
  have b1 : Below w.heap.size w w1 := by rw [hw1]; exact (Below.refl _ _).alloc (Nat.le_refl _) _
  have x1 : w1.heap[w.heap.size]? = some (.cells #[.int .i64 h.no, .int .i64 h.area, .int .i64 h.en] 36 (0, 0)) := by rw [hw1]; exact World.alloc_heap_new _ _
  have B1 := (show Hid (Below w.heap.size w w1) from b1)
  have X1 := (show Hid _ from x1)
  clear b1 x1
  show Calls Tryz.prog 78 #[.agg #[.int .i64 h.no, .int .i64 h.area, .int .i64 h.en]] w _
  go_enter Tryz.func78, Tryz.ntmps78
  go_wp2_with fail
  go_at_call 26
  rw [← hw1]
  refine Calls.mono (CR.out w1) ?_
  rintro e w2 ⟨rfl, b2⟩
  clear hw1 CR
  have B2 := (show Hid (Below w.heap.size w w2) from B1.out.trans (b2.mono B1.out.size))
  have x2 := (b2.block _ (lt_of_block X1.out)).trans X1.out
  have X2 := (show Hid _ from x2)
  obtain ⟨c0, c1, c2, _⟩ := rk_three x2
  clear b2 x2 X1 B1
  cases hb : headB h
  · have HR : Hid (packDk h = (⟨#[]⟩, false)) := (show packDk h = (⟨#[]⟩, false) by rw [packDk, if_neg (by rw [hb]; simp)])
    clear hb
    go_wp2
    go_ret2
    exact ⟨by rw [HR.out]; rfl, B2.out⟩
  · have hin := headB_in hb
    have HR : Hid (packDk h = (packS h, true)) := (show packDk h = (packS h, true) by rw [packDk, if_pos hb])
    have hl27 := formsL_len h
    clear hb
    obtain ⟨F, hF⟩ : ∃ F : World → Prop, F = fun W => Below w2.heap.size w2 W := ⟨_, rfl⟩
    have HS := (show Hid (∀ W, Below w2.heap.size w2 W → W.cell? ⟨w.heap.size, 0, none⟩ = some (.int .i64 h.no) ∧ W.cell? ⟨w.heap.size, 1, none⟩ = some (.int .i64 h.area) ∧ W.cell? ⟨w.heap.size, 2, none⟩ = some (.int .i64 h.en)) from fun W b => by
      obtain ⟨p0, p1, p2, _⟩ := rk_three ((b.block _ (lt_of_block X2.out)).trans X2.out)
      exact ⟨p0, p1, p2⟩)
    have KD := (show Hid (Below w2.heap.size w2 w2.drew) from below_drewN 1)
    have C1 := (show Hid (∀ W, Calls Tryz.prog 92 #[.int .i64 h.no] W fun e w' => ∃ v, e = .returned v ∧ Own W.heap.size 5 .u8 w' v (form h.no) ∧ Below W.heap.size W w') from fun W => snum_any h.no W (by omega))
    have C2 := (show Hid (∀ W, Calls Tryz.prog 92 #[.int .i64 h.area] W fun e w' => ∃ v, e = .returned v ∧ Own W.heap.size 5 .u8 w' v (form h.area) ∧ Below W.heap.size W w') from fun W => snum_any h.area W (by omega))
    have C3 := (show Hid (∀ W, Calls Tryz.prog 92 #[.int .i64 h.en] W fun e w' => ∃ v, e = .returned v ∧ Own W.heap.size 5 .u8 w' v (form h.en) ∧ Below W.heap.size W w') from fun W => snum_any h.en W (by omega))
    clear hF F
    go_wp2
    go_region_held3 (fun w' => w'.cell? ⟨w.heap.size, 0, none⟩ = some (.int .i64 h.no) ∧ w'.cell? ⟨w.heap.size, 1, none⟩ = some (.int .i64 h.area) ∧ w'.cell? ⟨w.heap.size, 2, none⟩ = some (.int .i64 h.en))
      (first | exact HS.out _ KD.out | exact HS.out _ B3.out | exact HS.out _ B4.out | exact HS.out _ B5.out)
      (first
        | (go_at_call 92
           with_reducible refine Calls.mono (C1.out _) ?_
           rintro e w3 ⟨v3, rfl, o3, b3⟩
           have B3 := (show Hid (Below w2.heap.size w2 w3) from KD.out.trans (b3.mono KD.out.size))
           have O3 := (show Hid (Own w2.heap.size 5 .u8 w3 v3 (form h.no)) from o3.base KD.out.size)
           clear b3 o3)
        | (go_at_call 92
           with_reducible refine Calls.mono (C2.out _) ?_
           rintro e w4 ⟨v4, rfl, o4, b4⟩
           have B4 := (show Hid (Below w2.heap.size w2 w4) from B3.out.trans (b4.mono B3.out.size))
           have O34 := (show Hid (Own w2.heap.size 5 .u8 w4 v3 (form h.no)) from O3.out.below b4)
           have O4 := (show Hid (Own w3.heap.size 5 .u8 w4 v4 (form h.area)) from o4)
           clear b4 o4)
        | (refine step_appS rfl _ _ 58 rfl w2.heap.size 5 i0 (.int .u8 0) 1 1 Tryz.underlying58 hi hz0 hz1 hz2 rfl (by decide) v3 (form h.no).length ((form h.no).map (Value.int .u8)) rfl O34.out v4 (form h.area).length ((form h.area).map (Value.int .u8)) rfl (sv_of_own O4.out) (by simp) (by intro u hu; obtain ⟨y, _, rfl⟩ := List.mem_map.mp hu; rfl) (by have := form_len h.no; have := form_len h.area; unfold maxLen; omega) (by have := form_len h.no; have := form_len h.area; omega) B4.out.size ?_
           intro v5 w5 o5 g5
           have B5 := (show Hid (Below w2.heap.size w2 w5) from B4.out.grown g5 B4.out.size (fun r e => (World.ownsRow.lt O34.out r e).1))
           have O5 := (show Hid (Own w2.heap.size 5 .u8 w5 v5 (form h.no ++ form h.area)) from by show World.ownsRow _ _ _ _ _ _ _; rw [List.length_append, List.map_append]; exact o5)
           clear o5 g5))
    obtain ⟨c0, c1, c2⟩ := HS.out _ B5.out
    clear C1 C2 O34 O4 B3 B4
    have hs2 := B2.out.size
    go_wp2_with (first
      | (go_at_call 92
         with_reducible refine Calls.mono (C3.out _) ?_
         rintro e w6 ⟨v6, rfl, o6, b6⟩
         have B6 := (show Hid (Below w2.heap.size w2 w6) from B5.out.trans (b6.mono B5.out.size))
         have O56 := (show Hid (Own w2.heap.size 5 .u8 w6 v5 (form h.no ++ form h.area)) from O5.out.below b6)
         have O6 := (show Hid (Own w5.heap.size 5 .u8 w6 v6 (form h.en)) from o6)
         clear b6 o6)
      | (at_builtin
         refine wpList_app _ rfl _ _ 58 rfl w2.heap.size 5 i0 (.int .u8 0) 1 Tryz.underlying58 hi hz0 hz1 hz2 rfl .u8 v5 v6 (form h.no ++ form h.area) (form h.en) rfl rfl O56.out O6.out.sl (by have := form_len h.no; have := form_len h.area; have := form_len h.en; rw [List.length_append]; omega) (by have := form_len h.no; have := form_len h.area; have := form_len h.en; unfold maxLen; rw [List.length_append]; omega) B6.out.size ?_
         intro v7 w7 o7 g7
         have B7 := (show Hid (Below w2.heap.size w2 w7) from B6.out.grown g7 B6.out.size (fun r e => (World.ownsRow.lt O56.out r e).1))
         have O7 := (show Hid (Own w2.heap.size 5 .u8 w7 v7 (formsL h)) from o7)
         clear o7 g7))
    go_loopw [4] (fun z wr => ∃ n : Nat, n ≤ 64 - (formsL h).length ∧ Own w2.heap.size 5 .u8 wr z (formsL h ++ List.replicate n 0) ∧ Below w2.heap.size w2 wr) (fun z _ => match z with | .slice _ n _ => 64 - n | _ => 0)
    case atStart => exact ⟨0, Nat.zero_le _, by simpa using O7.out, B7.out⟩
    case round =>
      clear O7 B7 O56 O6 B6 O5 B5 C3 O3
      obtain ⟨n, hn, ho, bel⟩ := hrel
      obtain ⟨a, cap, rfl, _⟩ := ho.sl
      have hlen : (formsL h ++ List.replicate n (0 : Int)).length = (formsL h).length + n := zeros_len
      rw [hlen] at ho ⊢
      have HO := (show Hid (Own w2.heap.size 5 .u8 wr (.slice a ((formsL h).length + n) cap) (formsL h ++ List.replicate n 0)) from ho)
      clear ho
      by_cases hlt : (formsL h).length + n < 64
      · have hltI : ((formsL h).length : Int) + (n : Int) < 64 := by omega
        have hap : formsL h ++ List.replicate n (0 : Int) ++ [0] = formsL h ++ List.replicate (n + 1) 0 := by rw [List.append_assoc, List.replicate_succ']
        have q1 : ((formsL h ++ List.replicate n (0 : Int)).length + ([0] : List Int).length) * 1 ≤ 140737488355328 := by rw [hlen, List.length_singleton]; omega
        have q2 : (formsL h ++ List.replicate n (0 : Int)).length + ([0] : List Int).length ≤ maxLen := by rw [hlen, List.length_singleton]; unfold maxLen; omega
        have q3 : w2.heap.size ≤ (wr.alloc (.cells #[.int .u8 0] 5)).heap.size := by rw [World.size_alloc]; have := bel.size; omega
        have qo : Own w2.heap.size 5 .u8 (wr.alloc (.cells #[.int .u8 0] 5)) (.slice a ((formsL h).length + n) cap) (formsL h ++ List.replicate n 0) := HO.out.below ((Below.refl _ _).alloc (Nat.le_refl _) _)
        have Q := (show Hid (_ ∧ _ ∧ _ ∧ _) from ⟨q1, q2, q3, qo⟩)
        clear q1 q2 q3 qo
        go_wp2_with (at_builtin
                     refine wpList_app _ rfl _ _ 58 rfl w2.heap.size 5 i0 (.int .u8 0) 1 Tryz.underlying58 hi hz0 hz1 hz2 rfl .u8 (.slice a ((formsL h).length + n) cap) _ (formsL h ++ List.replicate n 0) [0] rfl rfl Q.out.2.2.2 (sl_one 5 .u8 wr 0) Q.out.1 Q.out.2.1 Q.out.2.2.1 ?_
                     intro v8 w8 o8 g8
                     have B8 := (show Hid (Below w2.heap.size w2 w8) from (bel.alloc bel.size _).grown g8 (bel.alloc bel.size _).size (fun r e => (World.ownsRow.lt Q.out.2.2.2 r e).1))
                     rw [hap] at o8
                     obtain ⟨a8, c8, rfl, _⟩ := o8.sl
                     rw [zeros_len] at o8
                     have O8 := (show Hid (Own w2.heap.size 5 .u8 w8 (.slice a8 ((formsL h).length + (n + 1)) c8) (formsL h ++ List.replicate (n + 1) 0)) from o8)
                     rw [zeros_len]
                     clear o8 g8)
        go_roundw
        case rel => exact ⟨n + 1, by omega, O8.out, B8.out⟩
        case measure => show 64 - ((formsL h).length + (n + 1)) < 64 - ((formsL h).length + n); omega
      · obtain rfl : n = 64 - (formsL h).length := by omega
        have hltI : ¬ ((formsL h).length : Int) + ((64 - (formsL h).length : Nat) : Int) < 64 := by omega
        have hcv := conv_sl HO.out.sl
        have hst : strOf (formsL h ++ List.replicate (64 - (formsL h).length) 0) = packS h := rfl
        rw [hst] at hcv
        obtain ⟨q, hq⟩ : ∃ q, q = packS h := ⟨_, rfl⟩
        rw [← hq] at hcv HR
        have B9 := (show Hid (Below w.heap.size w wr) from B2.out.trans (bel.mono B2.out.size))
        clear hq hst
        go_wp2
        go_ret2
        exact ⟨by rw [HR.out]; rfl, B9.out⟩
end Go.Proofs.YtokkigfjabbdaaaGreatDoor

/- The specification's HeadRead. No condition. -/
namespace Go.Proofs.YtokkigfjabbdaaaGreatDoor
open Go.RowKit
set_option maxRecDepth 100000
set_option linter.unusedVariables false

theorem numVal_gv (i : Int) (r : Option (Int × Nat)) : numVal i r = .tuple #[.int .i64 (gv i r).1, .int .i64 (gv i r).2.1, .bool (gv i r).2.2] := by
  cases r with
  | none => rfl
  | some p => rfl
theorem head_res {fn : Func} {p u : Tmp} (hr : fn.results = #[.cell p 36, .tmp u]) {tmps : Array Value} {w : World} {g : Nat} {a b c r : Value} (h4 : tmps.getD p undef = .pointer (some ⟨g, 0, none⟩)) (h5 : tmps.getD u undef = r) (hb : w.heap[g]? = some (.cells #[a, b, c] 36 (0, 0))) :
    (results fn tmps).run Tryz.prog w = .ok (.tuple #[.agg #[a, b, c], r]) w := by
  rw [results_cell_tmp (p := p) (u := u) (ty := 36) hr, h4, h5]
  simp [asAddr, run_loadVar_row w g 36 36 #[a, b, c] (0, 0) _ hb Tryz.underlying36 rfl rfl, Result.andThen]

theorem read_parts (s : ByteArray) : ∃ (no i1 : Int) (k1 : Bool) (ar i2 : Int) (k2 : Bool) (en i3 : Int) (k3 : Bool), gv 0 (rdI (bs s) 0) = (no, i1, k1) ∧ gv i1 (rdI (bs s) i1) = (ar, i2, k2) ∧ gv i2 (rdI (bs s) i2) = (en, i3, k3) ∧
    readDk s = if (k1 && k2 && k3 && headB ⟨no, ar, en⟩ && decide (packS ⟨no, ar, en⟩ = s)) = true then (⟨no, ar, en⟩, true) else (zeroH, false) := by
  refine ⟨_, _, _, _, _, _, _, _, _, rfl, rfl, rfl, ?_⟩
  rfl

set_option maxHeartbeats 1000000 in
set_option maxRecDepth 100000 in
theorem sheadRead_any (s : ByteArray) (w : World) (hs : s.size ≤ 1099511627776) : Calls Tryz.prog 57 #[.string s] w fun e w' => e = .returned (.tuple #[headV (readDk s).1, .bool (readDk s).2]) ∧ Below w.heap.size w w' := by
  obtain ⟨no, i1, k1, ar, i2, k2, en, i3, k3, h1, h2, h3, hr⟩ := read_parts s
  have HR := (show Hid _ from hr)
  obtain ⟨q, hq⟩ : ∃ q, q = readDk s := ⟨_, rfl⟩
  rw [← hq] at HR ⊢
  clear hq hr
  obtain ⟨w1, hw1⟩ : ∃ y, y = w.alloc (.cells #[.int .i64 0, .int .i64 0, .int .i64 0] 36) := ⟨_, rfl⟩
  have b1 : Below w.heap.size w w1 := by rw [hw1]; exact (Below.refl _ _).alloc (Nat.le_refl _) _
  have x1 : w1.heap[w.heap.size]? = some (.cells #[.int .i64 0, .int .i64 0, .int .i64 0] 36 (0, 0)) := by rw [hw1]; exact World.alloc_heap_new _ _
  obtain ⟨cap, w2, hcv, hbk, hc1, hc2, b2⟩ := conv_str s w1 (by unfold maxLen; omega)
  have hsl : Sl .u8 w2 (.slice (some ⟨w1.heap.size, 0, none⟩) s.size cap) (bs s) := hbk.sl (by rw [bs_len]) (by rw [bs_len]; exact hc1) hc2
  have B2 := (show Hid (Below w.heap.size w w2) from b1.trans (b2.mono b1.size))
  have X2 := (show Hid (w2.heap[w.heap.size]? = some (.cells #[.int .i64 0, .int .i64 0, .int .i64 0] 36 (0, 0))) from (b2.block _ (lt_of_block x1)).trans x1)
  have hbl : (bs s).length ≤ 1099511627776 := by rw [bs_len]; exact hs
  have C1 := sgetNum_any (i := 0) hsl (bs_byte s) hbl
  have C2 := sgetNum_any (i := i1) hsl (bs_byte s) hbl
  have C3 := sgetNum_any (i := i2) hsl (bs_byte s) hbl
  rw [numVal_gv, h1] at C1
  rw [numVal_gv, h2] at C2
  rw [numVal_gv, h3] at C3
  simp only at C1 C2 C3
  have D1 := (show Hid _ from C1)
  have D2 := (show Hid _ from C2)
  have D3 := (show Hid _ from C3)
  have CP := (show Hid _ from sheadPack_any ⟨no, ar, en⟩)
  have HCV := (show Hid _ from hcv)
  clear C1 C2 C3 hsl hbk b1 b2 x1 h1 h2 h3 hbl hcv
  go_enter Tryz.func57, Tryz.ntmps57
  go_wp2_with fail
  rw [← hw1, HCV.out]
  clear hw1 HCV
  go_wp2_with fail
  go_at_call 77
  refine Calls.mono D1.out ?_
  rintro e wa ⟨rfl, ea⟩
  replace ea := ea.symm
  subst ea
  clear D1
  go_wp2_with fail
  go_at_call 77
  refine Calls.mono D2.out ?_
  rintro e wa ⟨rfl, ea⟩
  replace ea := ea.symm
  subst ea
  clear D2
  go_wp2_with fail
  go_at_call 77
  refine Calls.mono D3.out ?_
  rintro e wa ⟨rfl, ea⟩
  replace ea := ea.symm
  subst ea
  clear D3
  obtain ⟨w3, hw3⟩ : ∃ y, y = w2.alloc (.cells #[.int .i64 no, .int .i64 ar, .int .i64 en] 36) := ⟨_, rfl⟩
  have b3 : Below w2.heap.size w2 w3 := by rw [hw3]; exact (Below.refl _ _).alloc (Nat.le_refl _) _
  have x3 : w3.heap[w2.heap.size]? = some (.cells #[.int .i64 no, .int .i64 ar, .int .i64 en] 36 (0, 0)) := by rw [hw3]; exact World.alloc_heap_new _ _
  have X3 := (show Hid (w3.heap[w2.heap.size]? = some (.cells #[.int .i64 no, .int .i64 ar, .int .i64 en] 36 (0, 0)) ∧ w3.heap[w.heap.size]? = some (.cells #[.int .i64 0, .int .i64 0, .int .i64 0] 36 (0, 0))) from ⟨x3, (b3.block _ (lt_of_block X2.out)).trans X2.out⟩)
  have B3 := (show Hid (Below w.heap.size w w3) from B2.out.trans (b3.mono B2.out.size))
  have CP' := CP.out w3
  obtain ⟨pk, hpk⟩ : ∃ pk, pk = packDk ⟨no, ar, en⟩ := ⟨_, rfl⟩
  rw [← hpk] at CP'
  have HPK := (show Hid (pk = packDk ⟨no, ar, en⟩) from hpk)
  obtain ⟨ps, pb⟩ := pk
  simp only at CP'
  have CQ := (show Hid (Calls Tryz.prog 78 #[.agg #[.int .i64 no, .int .i64 ar, .int .i64 en]] w3 fun e w' => e = .returned (.tuple #[.string ps, .bool pb]) ∧ Below w3.heap.size w3 w') from CP')
  clear CP CP' hpk b3 x3 X2 B2
  go_wp2_with fail
  go_at_call 78
  rw [← hw3]
  refine Calls.mono CQ.out ?_
  rintro e w4 ⟨rfl, b4⟩
  clear CQ hw3
  have X4 := (show Hid (w4.heap[w2.heap.size]? = some (.cells #[.int .i64 no, .int .i64 ar, .int .i64 en] 36 (0, 0)) ∧ w4.heap[w.heap.size]? = some (.cells #[.int .i64 0, .int .i64 0, .int .i64 0] 36 (0, 0))) from ⟨(b4.block _ (lt_of_block X3.out.1)).trans X3.out.1, (b4.block _ (lt_of_block X3.out.2)).trans X3.out.2⟩)
  have B4 := (show Hid (Below w.heap.size w w4) from B3.out.trans (b4.mono B3.out.size))
  obtain ⟨c0, c1, c2, _⟩ := rk_three X4.out.1
  obtain ⟨r0, r1, r2, r3, r4, r5⟩ := rk_three X4.out.2
  clear b4 X3 B3
  -- the way out with nothing
  have hno : Hid (q = (zeroH, false) → ∃ v' : Unit, (Ending.returned (.tuple #[.agg #[.int .i64 0, .int .i64 0, .int .i64 0], .bool false]) = .returned (.tuple #[headV q.1, .bool q.2])) ∧ Below w.heap.size w (((w4.setCell ⟨w.heap.size, 0, none⟩ (.int .i64 0)).setCell ⟨w.heap.size, 1, none⟩ (.int .i64 0)).setCell ⟨w.heap.size, 2, none⟩ (.int .i64 0))) := fun e => ⟨(), by rw [e]; rfl, (((B4.out.setCell (p := ⟨w.heap.size, 0, none⟩) (Nat.le_refl _) _).setCell (p := ⟨w.heap.size, 1, none⟩) (Nat.le_refl _) _).setCell (p := ⟨w.heap.size, 2, none⟩) (Nat.le_refl _) _)⟩
  have RZ := (show Hid _ from rk_at (k := 2) (u := .int .i64 0) (rk_at (k := 1) (u := .int .i64 0) (rk_at (k := 0) (u := .int .i64 0) X4.out.2)))
  by_cases hall : (k1 && k2 && k3 && pb) = true
  · simp only [Bool.and_eq_true] at hall
    obtain ⟨⟨⟨rfl, rfl⟩, rfl⟩, rfl⟩ := hall
    by_cases hst : ps = s
    · have HQ : Hid (q = (⟨no, ar, en⟩, true)) := (show _ = _ by
        have h1 := HPK.out
        unfold packDk at h1
        split at h1
        · rename_i hb
          obtain ⟨e1, _⟩ := Prod.mk.inj h1
          rw [HR.out, if_pos (by simp [hb, ← e1, hst])]
        · cases h1)
      subst hst
      clear HR HPK hno RZ
      go_wp2
      have z3 := rk_at (k := 2) (u := .int .i64 en) (rk_at (k := 1) (u := .int .i64 ar) (rk_at (k := 0) (u := .int .i64 no) X4.out.2))
      refine bodyPost_ret (head_res rfl rfl rfl z3) rfl ?_
      exact ⟨by rw [HQ.out]; rfl, (((B4.out.setCell (p := ⟨w.heap.size, 0, none⟩) (Nat.le_refl _) _).setCell (p := ⟨w.heap.size, 1, none⟩) (Nat.le_refl _) _).setCell (p := ⟨w.heap.size, 2, none⟩) (Nat.le_refl _) _)⟩
    · have HQ : Hid (q = (zeroH, false)) := (show _ = _ by
        have h1 := HPK.out
        unfold packDk at h1
        split at h1
        · obtain ⟨e1, _⟩ := Prod.mk.inj h1
          rw [HR.out, if_neg (by simp [← e1, hst])]
        · cases h1)
      have hne := toList_ne hst
      clear HR HPK
      go_wp2
      refine bodyPost_ret (head_res rfl rfl rfl RZ.out) rfl ?_
      obtain ⟨_, e1, e2⟩ := hno.out HQ.out
      exact ⟨e1, e2⟩
  · have HQ : Hid (q = (zeroH, false)) := (show _ = _ by
      rw [HR.out, if_neg]
      intro hh
      simp only [Bool.and_eq_true, decide_eq_true_eq] at hh
      have h1 := HPK.out
      rw [packDk, if_pos hh.1.2] at h1
      obtain ⟨_, e2⟩ := Prod.mk.inj h1
      exact hall (by rw [hh.1.1.1.1, hh.1.1.1.2, hh.1.1.2, e2]; rfl))
    clear HR HPK
    cases k1 <;> cases k2 <;> cases k3 <;> cases pb <;>
      first
      | exact absurd rfl hall
      | (go_wp2
         refine bodyPost_ret (head_res rfl rfl rfl RZ.out) rfl ?_
         obtain ⟨_, e1, e2⟩ := hno.out HQ.out
         exact ⟨e1, e2⟩)
end Go.Proofs.YtokkigfjabbdaaaGreatDoor

/- The specification's SectorOf. No condition. -/
namespace Go.Proofs.YtokkigfjabbdaaaGreatDoor
open Go.RowKit
set_option maxRecDepth 100000
set_option linter.unusedVariables false

set_option maxHeartbeats 2000000 in
set_option maxRecDepth 100000 in
theorem sl15Of_any {w : World} {v : Value} {d : PDisk} (h : DiskAt w v d) (hf : DiskFit d) {x : Int} (hx : 0 ≤ x ∧ x < d.safe.length) :
    Calls Tryz.prog 58 #[v, .int .i64 x] w fun e w' => e = .returned (.string (sectorD d x)) ∧ Below w.heap.size w w' := by
  obtain ⟨sa, sn, sc, la, ln, lc, rfl, h1, h2⟩ := h
  have f1 := hf.sl
  have f2 := hf.ll
  obtain ⟨a1, c1, e1, _, _, hs⟩ := h1.str
  cases e1
  obtain ⟨a2, c2, e2, _, _, hp⟩ := h2.put
  cases e2
  obtain ⟨m, rfl⟩ := Int.eq_ofNat_of_zero_le hx.1
  have hm : m < d.safe.length := by omega
  obtain ⟨b, o, rfl, hb, c⟩ := hs m hm
  have HP := (show Hid (∀ k (hk : k < d.late.length), ∃ b off, la = some ⟨b, off, none⟩ ∧ b < w.heap.size ∧ w.cell? ⟨b, off + k * 2, none⟩ = some (.int .i64 d.late[k].1) ∧ w.cell? ⟨b, off + k * 2 + 1, none⟩ = some (.string d.late[k].2)) from hp)
  clear h1 h2 hf hs hp hx
  have HV : Hid (sectorD d m = (putAt m d.late).getD d.safe[m]) := (show sectorD d m = (putAt m d.late).getD d.safe[m] by simp [sectorD, List.getD_eq_getElem?_getD, hm])
  obtain ⟨dm, hdm⟩ : ∃ x, x = d.safe[m] := ⟨_, rfl⟩
  rw [← hdm] at c HV
  clear hdm
  obtain ⟨w1, hw1⟩ : ∃ x, x = w.alloc (.cells #[.slice (some ⟨b, o, none⟩) d.safe.length sc, .slice la d.late.length lc] 35) := ⟨_, rfl⟩
  have b1 : Below w.heap.size w w1 := by rw [hw1]; exact (Below.refl _ _).alloc (Nat.le_refl _) _
  have x1 : w1.heap[w.heap.size]? = some (.cells #[.slice (some ⟨b, o, none⟩) d.safe.length sc, .slice la d.late.length lc] 35 (0, 0)) := by rw [hw1]; exact World.alloc_heap_new _ _
  have B1 := (show Hid (Below w.heap.size w w1) from b1)
  obtain ⟨q1, q2, _, _⟩ := rk_two x1
  have c' := (b1.cell (p := ⟨b, o + m, none⟩) hb).trans c
  have Q := (show Hid (w1.cell? ⟨w.heap.size, 0, none⟩ = some (.slice (some ⟨b, o, none⟩) d.safe.length sc) ∧ w1.cell? ⟨w.heap.size, 1, none⟩ = some (.slice la d.late.length lc) ∧ w1.cell? ⟨b, o + m, none⟩ = some (.string dm)) from ⟨q1, q2, c'⟩)
  clear x1 b1 q1 q2 c c'
  go_enter Tryz.func58, Tryz.ntmps58
  go_wp2
  rw [← hw1]
  go_loopw [5] (fun i wr => ∃ k : Nat, k ≤ d.late.length ∧ i = .int .i64 ((k : Int) - 1) ∧ putAt m d.late = putAt m (d.late.take k) ∧ w1 = wr) (fun i _ => (intOf i + 1).toNat)
  case atStart => exact ⟨d.late.length, Nat.le_refl _, by go_num, by rw [List.take_length], rfl⟩
  case round =>
    obtain ⟨k, hk, rfl, he, rfl⟩ := hrel
    have HE := (show Hid (putAt m d.late = putAt m (d.late.take k)) from he)
    clear he hw1
    obtain ⟨q1, q2, q3⟩ := Q.out
    cases k with
    | zero =>
      have HR : Hid (sectorD d m = dm) := (show sectorD d m = dm by rw [HV.out, HE.out]; simp [putAt])
      have e0 : ((0 : Nat) : Int) - 1 = -1 := by omega
      rw [e0]
      clear HE e0
      go_wp2
      go_ret
      exact ⟨ret_text HR.out.symm, B1.out⟩
    | succ k =>
      have hk' : k < d.late.length := by omega
      obtain ⟨b2, o2, rfl, hb2, c3, c4⟩ := HP.out k hk'
      have c3' := (B1.out.cell (p := ⟨b2, o2 + k * 2, none⟩) hb2).trans c3
      have c4' := (B1.out.cell (p := ⟨b2, o2 + k * 2 + 1, none⟩) hb2).trans c4
      have HT := (show Hid (putAt m d.late = if d.late[k].1 = (m : Int) then some d.late[k].2 else putAt m (d.late.take k)) from HE.out.trans (putAt_take hk'))
      have ek : ((k + 1 : Nat) : Int) - 1 = (k : Int) := by omega
      rw [ek]
      obtain ⟨z, hz⟩ : ∃ z, z = d.late[k] := ⟨_, rfl⟩
      rw [← hz] at c3' c4' HT
      obtain ⟨za, zs⟩ := z
      simp only at c3' c4' HT
      clear hz c3 c4 HE ek
      by_cases e : za = (m : Int)
      · subst e
        have HR : Hid (sectorD d m = zs) := (show sectorD d m = zs by rw [HV.out, HT.out]; simp)
        clear HT
        go_wp2
        go_ret
        exact ⟨ret_text HR.out.symm, B1.out⟩
      · have HT' : Hid (putAt m d.late = putAt m (d.late.take k)) := (show putAt m d.late = putAt m (d.late.take k) by rw [HT.out, if_neg e])
        have hn : (za == (m : Int)) = false := by simpa using e
        clear HT
        go_wp2
        go_roundw
        case rel => exact ⟨k, by omega, by go_num, HT'.out, by first | rfl | trivial⟩
        case measure => simp [intOf]

theorem sec_res {tmps : Array Value} {fn : Func} {w : World} {s : ByteArray} {b : Bool} {p q : Tmp} (h : fn.results = #[.tmp p, .tmp q]) (h1 : tmps.getD p undef = .string s) (h2 : tmps.getD q undef = .bool b) : (results fn tmps).run Tryz.prog w = .ok (.tuple #[.string s, .bool b]) w := by
  have h1' : tmps[p]?.getD undef = .string s := by simpa using h1
  have h2' : tmps[q]?.getD undef = .bool b := by simpa using h2
  simp [results, h, h1', h2', go_sem]

end Go.Proofs.YtokkigfjabbdaaaGreatDoor

/- The specification's copy of a disk (written by mk/disks3.py). No condition. -/
namespace Go.Proofs.YtokkigfjabbdaaaGreatDoor
open Go.RowKit
set_option maxRecDepth 100000
set_option linter.unusedVariables false

theorem str_oneCell (ss : List ByteArray) : ∀ y ∈ strCells ss, y.oneCell' = true := by
  intro y hy
  simp only [strCells, List.mem_map] at hy
  obtain ⟨s, _, rfl⟩ := hy
  rfl
theorem put_oneCell (ps : List (Int × ByteArray)) : ∀ y ∈ putCells ps, y.oneCell' = true := by
  intro y hy
  simp only [putCells, List.mem_flatMap, List.mem_cons, List.not_mem_nil, or_false] at hy
  obtain ⟨s, _, rfl | rfl⟩ := hy
  · rfl
  · rfl

set_option maxHeartbeats 2000000 in
set_option maxRecDepth 100000 in
theorem sl15Copy_any {w : World} {v : Value} {d : PDisk} (h : DiskAt w v d) (hf : DiskFit d) :
    Calls Tryz.prog 45 #[v] w fun e w' => ∃ v', e = .returned v' ∧ OwnDk w.heap.size w' v' d ∧ Below w.heap.size w w' := by
  obtain ⟨sa, sn, sc, la, ln, lc, rfl, h1, h2⟩ := h
  have f1 := hf.sl
  have f2 := hf.ll
  obtain ⟨iS, hiS, hs0, hs1, hs2⟩ := info_parts Tryz.infoStr
  obtain ⟨iP, hiP, hp0, hp1, hp2⟩ := info_parts Tryz.infoPut
  obtain ⟨W, hW⟩ : ∃ x, x = (w.alloc (.cells #[.slice sa sn sc, .slice la ln lc] 35)).alloc (.cells #[.slice none 0 0, .slice none 0 0] 35) := ⟨_, rfl⟩
  have b1 : Below w.heap.size w W := by rw [hW]; exact ((Below.refl _ _).alloc (Nat.le_refl _) _).alloc (by simp) _
  have hS : W.heap.size = w.heap.size + 1 + 1 := by rw [hW, World.size_alloc, World.size_alloc]
  have x1 : W.heap[w.heap.size]? = some (.cells #[.slice sa sn sc, .slice la ln lc] 35 (0, 0)) := by rw [hW, Below.heap_alloc _ _ _ (by simp)]; exact World.alloc_heap_new _ _
  have x2 : W.heap[w.heap.size + 1]? = some (.cells #[.slice none 0 0, .slice none 0 0] 35 (0, 0)) := by
    rw [hW]
    have := World.alloc_heap_new (w.alloc (.cells #[.slice sa sn sc, .slice la ln lc] 35)) (.cells #[.slice none 0 0, .slice none 0 0] 35)
    rwa [World.size_alloc] at this
  have H1 := (show Hid (Sv 1 W (.slice sa sn sc) (strCells d.safe)) from h1.below b1)
  have H2 := (show Hid (Sv 2 W (.slice la ln lc) (putCells d.late)) from h2.below b1)
  have HL := (show Hid (w.heap.size < W.heap.size ∧ w.heap.size + 1 < W.heap.size) from ⟨by omega, by omega⟩)
  have HX := (show Hid (W.heap[w.heap.size + 1]? = some (.cells #[.slice none 0 0, .slice none 0 0] 35 (0, 0))) from x2)
  obtain ⟨q1, q2, _, _⟩ := rk_two x1
  have HC := (show Hid (W.cell? ⟨w.heap.size, 0, none⟩ = some (.slice sa sn sc) ∧ W.cell? ⟨w.heap.size, 1, none⟩ = some (.slice la ln lc)) from ⟨q1, q2⟩)
  have HS := (show Hid (W.heap.size = w.heap.size + 1 + 1) from hS)
  have HB := (show Hid (Below w.heap.size w W) from b1)
  have hlt1 : w.heap.size < W.heap.size := by omega
  have hlt2 : w.heap.size + 1 < W.heap.size := by omega
  clear h1 h2 hf x1 x2 b1 hS
  go_enter Tryz.func45, Tryz.ntmps45
  go_wp2_with fail
  rw [← hW]
  clear hW
  go_region_law (first
      | (with_reducible refine step_appS (w := (W.alloc (Obj.cells #[] 9)).drew) ?_ (.tmp 3) (.tmp 5) 22 ?_ W.heap.size 9 iS _ 1 16 ?_ hiS hs0 hs1 hs2 ?_ ?_ (.slice (some ⟨W.heap.size, 0, none⟩) 0 0) 0 [] ?_ ?_ (.slice sa sn sc) d.safe.length (strCells d.safe) ?_ ?_ ?_ ?_ ?_ ?_ ?_ ?_
         · rfl
         · rfl
         · exact Tryz.underlying22
         · rfl
         · decide
         · simp [Act.eval]
         · exact ownsRow_below (empty_row W W.heap.size 9 1 (Nat.le_refl _)) (below_drewN 1)
         · simp [Act.eval]
         · exact (H1.out.below (((Below.refl W.heap.size W).alloc (Nat.le_refl _) _).trans (below_drewN 1)))
         · exact (by rw [strCells_len, Nat.mul_one])
         · exact (str_oneCell _)
         · (unfold maxLen; omega)
         · omega
         · exact (((Below.refl W.heap.size W).alloc (Nat.le_refl _) _).trans (below_drewN 1)).size
         intro v6 w6 o6 g6
         rw [List.nil_append, Nat.zero_add] at o6
         obtain ⟨a6, n6, c6, rfl⟩ := rk_slice o6
         have b6 : Below W.heap.size W w6 := (((Below.refl W.heap.size W).alloc (Nat.le_refl _) _).trans (below_drewN 1)).grown g6 (((Below.refl W.heap.size W).alloc (Nat.le_refl _) _).trans (below_drewN 1)).size (fun r e => by simp only [Value.ownBlock, Option.some.injEq] at e; omega)

         have y1 : w6.cell? ⟨w.heap.size, 1, none⟩ = some (.slice la ln lc) := (b6.cell (p := ⟨w.heap.size, 1, none⟩) HL.out.1).trans HC.out.2
         have hsz6 := b6.size
         have hlt6 : w.heap.size < w6.heap.size := Nat.lt_of_lt_of_le hlt1 hsz6
         have HO6 := (show Hid (w6.ownsRow W.heap.size 9 1 (.slice a6 n6 c6) d.safe.length (strCells d.safe)) from o6)
         have HB6 := (show Hid (Below W.heap.size W w6) from b6)
         clear o6 b6 g6)
      | (with_reducible refine step_appS (w := ((W.alloc (Obj.cells #[] 9)).alloc (Obj.cells #[] 88)).drew) ?_ (.tmp 3) (.tmp 5) 22 ?_ W.heap.size 9 iS _ 1 16 ?_ hiS hs0 hs1 hs2 ?_ ?_ (.slice (some ⟨W.heap.size, 0, none⟩) 0 0) 0 [] ?_ ?_ (.slice sa sn sc) d.safe.length (strCells d.safe) ?_ ?_ ?_ ?_ ?_ ?_ ?_ ?_
         · rfl
         · rfl
         · exact Tryz.underlying22
         · rfl
         · decide
         · simp [Act.eval]
         · exact ownsRow_below (ownsRow_below (empty_row W W.heap.size 9 1 (Nat.le_refl _)) ((Below.refl _ _).alloc (Nat.le_refl _) _)) (below_drewN 1)
         · simp [Act.eval]
         · exact (H1.out.below ((((Below.refl W.heap.size W).alloc (Nat.le_refl _) _).alloc (by simp) _).trans (below_drewN 1)))
         · exact (by rw [strCells_len, Nat.mul_one])
         · exact (str_oneCell _)
         · (unfold maxLen; omega)
         · omega
         · exact ((((Below.refl W.heap.size W).alloc (Nat.le_refl _) _).alloc (by simp) _).trans (below_drewN 1)).size
         intro v6 w6 o6 g6
         rw [List.nil_append, Nat.zero_add] at o6
         obtain ⟨a6, n6, c6, rfl⟩ := rk_slice o6
         have b6 : Below W.heap.size W w6 := ((((Below.refl W.heap.size W).alloc (Nat.le_refl _) _).alloc (by simp) _).trans (below_drewN 1)).grown g6 ((((Below.refl W.heap.size W).alloc (Nat.le_refl _) _).alloc (by simp) _).trans (below_drewN 1)).size (fun r e => by simp only [Value.ownBlock, Option.some.injEq] at e; omega)
         have hp6 : w6.ownsRow W.heap.size 88 2 (.slice (some ⟨W.heap.size + 1, 0, none⟩) 0 0) 0 [] := by
           have h := ownsRow_below (empty_row (W.alloc (Obj.cells #[] 9)) W.heap.size 88 2 (by simp)) (below_drewN 1)
           rw [World.size_alloc] at h
           exact World.ownsRow.kept h g6 (.inr (fun e => by simp only [Value.ownBlock, Option.some.injEq] at e; omega))
         have HP6 := (show Hid _ from hp6)
         clear hp6
         have y1 : w6.cell? ⟨w.heap.size, 1, none⟩ = some (.slice la ln lc) := (b6.cell (p := ⟨w.heap.size, 1, none⟩) HL.out.1).trans HC.out.2
         have hsz6 := b6.size
         have hlt6 : w.heap.size < w6.heap.size := Nat.lt_of_lt_of_le hlt1 hsz6
         have HO6 := (show Hid (w6.ownsRow W.heap.size 9 1 (.slice a6 n6 c6) d.safe.length (strCells d.safe)) from o6)
         have HB6 := (show Hid (Below W.heap.size W w6) from b6)
         clear o6 b6 g6)
      | (with_reducible refine step_appS (w := ((W.alloc (Obj.cells #[] 88)).alloc (Obj.cells #[] 9)).drew) ?_ (.tmp 3) (.tmp 5) 22 ?_ W.heap.size 9 iS _ 1 16 ?_ hiS hs0 hs1 hs2 ?_ ?_ (.slice (some ⟨W.heap.size + 1, 0, none⟩) 0 0) 0 [] ?_ ?_ (.slice sa sn sc) d.safe.length (strCells d.safe) ?_ ?_ ?_ ?_ ?_ ?_ ?_ ?_
         · rfl
         · rfl
         · exact Tryz.underlying22
         · rfl
         · decide
         · simp [Act.eval]
         · exact (by have h := ownsRow_below (empty_row (W.alloc (Obj.cells #[] 88)) W.heap.size 9 1 (by simp)) (below_drewN 1); rwa [World.size_alloc] at h)
         · simp [Act.eval]
         · exact (H1.out.below ((((Below.refl W.heap.size W).alloc (Nat.le_refl _) _).alloc (by simp) _).trans (below_drewN 1)))
         · exact (by rw [strCells_len, Nat.mul_one])
         · exact (str_oneCell _)
         · (unfold maxLen; omega)
         · omega
         · exact ((((Below.refl W.heap.size W).alloc (Nat.le_refl _) _).alloc (by simp) _).trans (below_drewN 1)).size
         intro v6 w6 o6 g6
         rw [List.nil_append, Nat.zero_add] at o6
         obtain ⟨a6, n6, c6, rfl⟩ := rk_slice o6
         have b6 : Below W.heap.size W w6 := ((((Below.refl W.heap.size W).alloc (Nat.le_refl _) _).alloc (by simp) _).trans (below_drewN 1)).grown g6 ((((Below.refl W.heap.size W).alloc (Nat.le_refl _) _).alloc (by simp) _).trans (below_drewN 1)).size (fun r e => by simp only [Value.ownBlock, Option.some.injEq] at e; omega)
         have hp6 : w6.ownsRow W.heap.size 88 2 (.slice (some ⟨W.heap.size, 0, none⟩) 0 0) 0 [] := by
           have h := ownsRow_below (ownsRow_below (empty_row W W.heap.size 88 2 (Nat.le_refl _)) ((Below.refl _ _).alloc (Nat.le_refl _) (Obj.cells #[] 9))) (below_drewN 1)
           exact World.ownsRow.kept h g6 (.inr (fun e => by simp only [Value.ownBlock, Option.some.injEq] at e; omega))
         have HP6 := (show Hid _ from hp6)
         clear hp6
         have y1 : w6.cell? ⟨w.heap.size, 1, none⟩ = some (.slice la ln lc) := (b6.cell (p := ⟨w.heap.size, 1, none⟩) HL.out.1).trans HC.out.2
         have hsz6 := b6.size
         have hlt6 : w.heap.size < w6.heap.size := Nat.lt_of_lt_of_le hlt1 hsz6
         have HO6 := (show Hid (w6.ownsRow W.heap.size 9 1 (.slice a6 n6 c6) d.safe.length (strCells d.safe)) from o6)
         have HB6 := (show Hid (Below W.heap.size W w6) from b6)
         clear o6 b6 g6)
      | (with_reducible refine step_appS (w := (w6.alloc (Obj.cells #[] 88))) ?_ (.tmp 7) (.tmp 9) 33 ?_ W.heap.size 88 iP _ 2 24 ?_ hiP hp0 hp1 hp2 ?_ ?_ (.slice (some ⟨w6.heap.size, 0, none⟩) 0 0) 0 [] ?_ ?_ (.slice la ln lc) d.late.length (putCells d.late) ?_ ?_ ?_ ?_ ?_ ?_ ?_ ?_
         · rfl
         · rfl
         · exact Tryz.underlying33
         · rfl
         · decide
         · simp [Act.eval]
         · exact empty_row w6 W.heap.size 88 2 HB6.out.size
         · simp [Act.eval]
         · exact (H2.out.below (HB6.out.alloc HB6.out.size _))
         · exact (putCells_len _)
         · exact (put_oneCell _)
         · (unfold maxLen; omega)
         · omega
         · exact (HB6.out.alloc HB6.out.size _).size
         intro v10 w10 o10 g10
         rw [List.nil_append, Nat.zero_add] at o10
         obtain ⟨a10, n10, c10, rfl⟩ := rk_slice o10
         have b10 : Below W.heap.size W w10 := (HB6.out.alloc HB6.out.size _).grown g10 (HB6.out.alloc HB6.out.size _).size (fun r e => by simp only [Value.ownBlock, Option.some.injEq] at e; omega)
         have x10 : w10.heap[w.heap.size + 1]? = some (.cells #[.slice none 0 0, .slice none 0 0] 35 (0, 0)) := (b10.block _ HL.out.2).trans HX.out
         obtain ⟨k1, k2, k3, k4⟩ := rk_two x10
         have p10 : w10.ownsRow W.heap.size 9 1 (.slice a6 n6 c6) d.safe.length (strCells d.safe) := rk_type (ownsRow_below HO6.out ((Below.refl _ _).alloc (Nat.le_refl _) _)) g10 (fun r e => by simp only [Value.ownBlock, Option.some.injEq] at e; subst e; exact ⟨_, _, _, World.alloc_heap_new w6 _, by decide⟩)
         have HF := (show Hid (w10.ownsRow W.heap.size 9 1 (.slice a6 n6 c6) d.safe.length (strCells d.safe) ∧ w10.ownsRow W.heap.size 88 2 (.slice a10 n10 c10) d.late.length (putCells d.late) ∧ Below W.heap.size W w10 ∧ w10.heap[w.heap.size + 1]? = some (.cells #[.slice none 0 0, .slice none 0 0] 35 (0, 0))) from ⟨p10, o10, b10, x10⟩)
         clear o10 b10 g10 x10 p10)
      | (with_reducible refine step_appS (w := w6) ?_ (.tmp 7) (.tmp 9) 33 ?_ W.heap.size 88 iP _ 2 24 ?_ hiP hp0 hp1 hp2 ?_ ?_ (.slice (some ⟨W.heap.size + 1, 0, none⟩) 0 0) 0 [] ?_ ?_ (.slice la ln lc) d.late.length (putCells d.late) ?_ ?_ ?_ ?_ ?_ ?_ ?_ ?_
         · rfl
         · rfl
         · exact Tryz.underlying33
         · rfl
         · decide
         · simp [Act.eval]
         · exact HP6.out
         · simp [Act.eval]
         · exact (H2.out.below HB6.out)
         · exact (putCells_len _)
         · exact (put_oneCell _)
         · (unfold maxLen; omega)
         · omega
         · exact HB6.out.size
         intro v10 w10 o10 g10
         rw [List.nil_append, Nat.zero_add] at o10
         obtain ⟨a10, n10, c10, rfl⟩ := rk_slice o10
         have b10 : Below W.heap.size W w10 := HB6.out.grown g10 HB6.out.size (fun r e => by simp only [Value.ownBlock, Option.some.injEq] at e; omega)
         have x10 : w10.heap[w.heap.size + 1]? = some (.cells #[.slice none 0 0, .slice none 0 0] 35 (0, 0)) := (b10.block _ HL.out.2).trans HX.out
         obtain ⟨k1, k2, k3, k4⟩ := rk_two x10
         have p10 : w10.ownsRow W.heap.size 9 1 (.slice a6 n6 c6) d.safe.length (strCells d.safe) := rk_type HO6.out g10 (fun r e => by
           rcases HP6.out.2 with ⟨hv, _⟩ | ⟨g, cap, cur, hv, _, hh, _⟩
           · cases hv
           · cases hv; cases e
             exact ⟨_, _, _, hh, by decide⟩)
         have HF := (show Hid (w10.ownsRow W.heap.size 9 1 (.slice a6 n6 c6) d.safe.length (strCells d.safe) ∧ w10.ownsRow W.heap.size 88 2 (.slice a10 n10 c10) d.late.length (putCells d.late) ∧ Below W.heap.size W w10 ∧ w10.heap[w.heap.size + 1]? = some (.cells #[.slice none 0 0, .slice none 0 0] 35 (0, 0))) from ⟨p10, o10, b10, x10⟩)
         clear o10 b10 g10 x10 p10)
      | (with_reducible refine step_appS (w := w6) ?_ (.tmp 7) (.tmp 9) 33 ?_ W.heap.size 88 iP _ 2 24 ?_ hiP hp0 hp1 hp2 ?_ ?_ (.slice (some ⟨W.heap.size, 0, none⟩) 0 0) 0 [] ?_ ?_ (.slice la ln lc) d.late.length (putCells d.late) ?_ ?_ ?_ ?_ ?_ ?_ ?_ ?_
         · rfl
         · rfl
         · exact Tryz.underlying33
         · rfl
         · decide
         · simp [Act.eval]
         · exact HP6.out
         · simp [Act.eval]
         · exact (H2.out.below HB6.out)
         · exact (putCells_len _)
         · exact (put_oneCell _)
         · (unfold maxLen; omega)
         · omega
         · exact HB6.out.size
         intro v10 w10 o10 g10
         rw [List.nil_append, Nat.zero_add] at o10
         obtain ⟨a10, n10, c10, rfl⟩ := rk_slice o10
         have b10 : Below W.heap.size W w10 := HB6.out.grown g10 HB6.out.size (fun r e => by simp only [Value.ownBlock, Option.some.injEq] at e; omega)
         have x10 : w10.heap[w.heap.size + 1]? = some (.cells #[.slice none 0 0, .slice none 0 0] 35 (0, 0)) := (b10.block _ HL.out.2).trans HX.out
         obtain ⟨k1, k2, k3, k4⟩ := rk_two x10
         have p10 : w10.ownsRow W.heap.size 9 1 (.slice a6 n6 c6) d.safe.length (strCells d.safe) := rk_type HO6.out g10 (fun r e => by
           rcases HP6.out.2 with ⟨hv, _⟩ | ⟨g, cap, cur, hv, _, hh, _⟩
           · cases hv
           · cases hv; cases e
             exact ⟨_, _, _, hh, by decide⟩)
         have HF := (show Hid (w10.ownsRow W.heap.size 9 1 (.slice a6 n6 c6) d.safe.length (strCells d.safe) ∧ w10.ownsRow W.heap.size 88 2 (.slice a10 n10 c10) d.late.length (putCells d.late) ∧ Below W.heap.size W w10 ∧ w10.heap[w.heap.size + 1]? = some (.cells #[.slice none 0 0, .slice none 0 0] 35 (0, 0))) from ⟨p10, o10, b10, x10⟩)
         clear o10 b10 g10 x10 p10))
  all_goals go_wp2
  all_goals
    obtain ⟨p10, o10, b10, x10⟩ := HF.out
    have r1 := rk_at (k := 0) (u := .slice a6 n6 c6) x10
    have r2 := rk_at (k := 1) (u := .slice a10 n10 c10) r1
    refine bodyPost_ret (results_cell_row rfl _ _ (w.heap.size + 1) 35 #[.slice a6 n6 c6, .slice a10 n10 c10] (0, 0) _ rfl r2 Tryz.underlying35 rfl rfl) rfl ?_
    have hs := HS.out
    refine ⟨_, rfl, ⟨_, _, _, _, _, _, rfl, rk_base (rk_set (k := 1) (rk_set (k := 0) p10 x10 (by decide)) r1 (by decide)) HB.out.size, rk_base (rk_set (k := 1) (rk_set (k := 0) o10 x10 (by decide)) r1 (by decide)) HB.out.size⟩, ?_⟩
    exact ((HB.out.trans (b10.mono HB.out.size)).setCell (Nat.le_succ _) _).setCell (Nat.le_succ _) _
end Go.Proofs.YtokkigfjabbdaaaGreatDoor

/- The specification's DiskPut. No condition. -/
namespace Go.Proofs.YtokkigfjabbdaaaGreatDoor
open Go.RowKit
set_option maxRecDepth 100000
set_option linter.unusedVariables false

theorem disk_res {fn : Func} {p u : Tmp} (hr : fn.results = #[.cell p 35, .tmp u]) {tmps : Array Value} {w : World} {g : Nat} {a b : Value} {r : Bool} (h4 : tmps.getD p undef = .pointer (some ⟨g, 0, none⟩)) (h5 : tmps.getD u undef = .bool r) (hb : w.heap[g]? = some (.cells #[a, b] 35 (0, 0))) :
    (results fn tmps).run Tryz.prog w = .ok (.tuple #[.agg #[a, b], .bool r]) w := by
  rw [results_cell_tmp (p := p) (u := u) (ty := 35) hr, h4, h5]
  simp [asAddr, run_loadVar_row w g 35 35 #[a, b] (0, 0) _ hb Tryz.underlying35 rfl rfl, Result.andThen]

theorem ownDk_nil (B : Nat) (w : World) : OwnDk B w (.agg #[.slice none 0 0, .slice none 0 0]) zeroDk := ⟨none, 0, 0, none, 0, 0, rfl, World.ownsRow_nil _ _ _ _, World.ownsRow_nil _ _ _ _⟩

theorem sv_onePut {w : World} {g : Nat} {x : Int} {s : ByteArray} {t : TypeId} (h : w.heap[g]? = some (.cells #[.int .i64 x, .string s] t (0, 0))) : Sv 2 w (.slice (some ⟨g, 0, none⟩) 1 1) (putCells [(x, s)]) := by
  obtain ⟨c0, c1, _, _⟩ := rk_two h
  refine ⟨some ⟨g, 0, none⟩, 1, 1, rfl, rfl, Nat.le_refl _, by unfold maxLen; omega, (fun e => by cases e), fun i hi => ⟨g, 0, rfl, ?_⟩⟩
  have hi' : i < 2 := hi
  match i, hi' with
  | 0, _ => simpa [putCells] using c0
  | 1, _ => simpa [putCells] using c1

end Go.Proofs.YtokkigfjabbdaaaGreatDoor

/- The specification's DiskSync, DiskCrash, DiskNew. No condition. -/
namespace Go.Proofs.YtokkigfjabbdaaaGreatDoor
open Go.RowKit
set_option maxRecDepth 100000
set_option linter.unusedVariables false

theorem and_i64_nat (a b : Nat) (ha : a < 9223372036854775808) (hb : b < 9223372036854775808) : bits .and .i64 (a : Int) (b : Int) = ((a &&& b : Nat) : Int) := by
  have hx : a &&& b < 2 ^ 63 := Nat.and_lt_two_pow _ (by omega)
  have h1 : (BitVec.ofInt 64 (a : Int)).toNat = a := by
    rw [BitVec.ofInt_natCast, BitVec.toNat_ofNat]; exact Nat.mod_eq_of_lt (by omega)
  have h2 : (BitVec.ofInt 64 (b : Int)).toNat = b := by
    rw [BitVec.ofInt_natCast, BitVec.toNat_ofNat]; exact Nat.mod_eq_of_lt (by omega)
  show IntKind.i64.wrap ((BitVec.ofInt 64 (a : Int) &&& BitVec.ofInt 64 (b : Int)).toNat : Int) = _
  rw [BitVec.toNat_and, h1, h2, IntKind.wrap_i64]
  omega
theorem and_one_i64 (E : Int) (h0 : 0 ≤ E) (h1 : E ≤ 9223372036854775807) : bits BinOp.and IntKind.i64 E 1 = E % 2 := by
  have h := and_i64_nat E.toNat 1 (by omega) (by omega)
  rw [Nat.and_one_is_mod, Int.toNat_of_nonneg h0] at h
  have h2 : ((E.toNat % 2 : Nat) : Int) = E % 2 := by omega
  exact h.trans h2
theorem bit_run {keep : Int} (hk : 0 ≤ keep ∧ keep ≤ 2147483647) (k : Nat) : (bits BinOp.and IntKind.i64 (keep / 2 ^ (k % 31)) 1 == 1) = bitB keep k := by
  have hp : (0 : Int) < 2 ^ (k % 31) := by exact Int.pow_pos (by decide)
  have h0 : 0 ≤ keep / 2 ^ (k % 31) := Int.ediv_nonneg hk.1 (Int.le_of_lt hp)
  have h1 : keep / 2 ^ (k % 31) ≤ keep := Int.ediv_le_self _ hk.1
  rw [and_one_i64 _ h0 (by omega)]
  unfold bitB
  cases h : decide (keep / 2 ^ (k % 31) % 2 = 1)
  · simpa using h
  · simpa using h
/-- While the puts are done: k of them are. -/
structure DoneI (w : World) (d : PDisk) (keep : Int) (g8 c8 u : Nat) (sa : Option Addr) (sn sc : Nat) (la : Option Addr) (lc k : Nat) (W : World) : Prop where
  row : W.ownsRow w.heap.size 9 1 (.slice (some ⟨g8, 0, none⟩) d.safe.length c8) d.safe.length (strCells (doneN keep d.safe d.late k))
  arg : W.heap[w.heap.size]? = some (.cells #[.slice sa sn sc, .slice la d.late.length lc] 35 (0, 0))
  res : W.heap[w.heap.size + 1]? = some (.cells #[.slice none 0 0, .slice none 0 0] 35 (0, 0))
  out : W.heap[u]? = some (.cells #[.slice (some ⟨g8, 0, none⟩) d.safe.length c8, .slice none 0 0] 35 (0, 0))
  bel : Below w.heap.size w W

end Go.Proofs.YtokkigfjabbdaaaGreatDoor
