import Derived.Test.YtiejfnnokfedkaaDoorHeadM
import Derived.Test.YtiejfnnokfedkaaDoorB17
import Derived.Test.YtiejfnnokfedkaaDoorB13
import Derived.Deep.RegionHeld3
import Derived.Test.YtiejfnnokfedkaaDoorB15
import Derived.Test.YtiejfnnokfedkaaDoorB16
/- The specification's heads: l16Right, HeadPack. No condition. -/
namespace Go.Proofs.YtiejfnnokfedkaaDoor
open Go.RowKit
set_option maxRecDepth 100000
set_option linter.unusedVariables false

theorem rk_three {w : World} {b : Nat} {u v y : Value} {t : TypeId} (h : w.heap[b]? = some (.cells #[u, v, y] t (0, 0))) : w.cell? ⟨b, 0, none⟩ = some u ∧ w.cell? ⟨b, 1, none⟩ = some v ∧ w.cell? ⟨b, 2, none⟩ = some y ∧ w.frozen? ⟨b, 0, none⟩ = false ∧ w.frozen? ⟨b, 1, none⟩ = false ∧ w.frozen? ⟨b, 2, none⟩ = false :=
  ⟨by simp only [World.cell?, h]; rfl, by simp only [World.cell?, h]; rfl, by simp only [World.cell?, h]; rfl, by simp only [World.frozen?, h]; rfl, by simp only [World.frozen?, h]; rfl, by simp only [World.frozen?, h]; rfl⟩

set_option maxRecDepth 100000 in
theorem sl16Right_any (h : PHead) (w : World) : Calls Tryd.prog 33 #[headV h] w fun e w' => e = .returned (.bool (headB h)) ∧ Below w.heap.size w w' := by
  obtain ⟨no, ar, en⟩ := h
  unfold headV headB
  simp only
  have b1 : Below w.heap.size w (w.alloc (.cells #[.int .i64 no, .int .i64 ar, .int .i64 en] 25)) := (Below.refl _ _).alloc (Nat.le_refl _) _
  have B1 := (show Hid _ from b1)
  clear b1
  have C1 := l1In_any no 1 1000000000
  have C2 := l1In_any ar 0 1
  have C3 := l1In_any en 0 4096
  obtain ⟨p, hp⟩ : ∃ p, p = inB no 1 1000000000 := ⟨_, rfl⟩
  obtain ⟨q, hq⟩ : ∃ q, q = inB ar 0 1 := ⟨_, rfl⟩
  obtain ⟨r, hr⟩ : ∃ r, r = inB en 0 4096 := ⟨_, rfl⟩
  rw [← hp] at C1 ⊢
  rw [← hq] at C2 ⊢
  rw [← hr] at C3 ⊢
  have D1 := (show Hid _ from C1)
  have D2 := (show Hid _ from C2)
  have D3 := (show Hid _ from C3)
  clear hp hq hr C1 C2 C3
  go_enter Tryd.func33, Tryd.ntmps33
  go_wp2_with fail
  go_at_call 54
  refine (D1.out _).mono ?_
  rintro e w1 ⟨rfl, e1⟩
  subst e1
  cases p
  · go_wp2
    go_ret
    exact ⟨rfl, B1.out⟩
  · go_wp2_with fail
    go_at_call 54
    refine (D2.out _).mono ?_
    rintro e w2 ⟨rfl, e2⟩
    subst e2
    cases q
    · go_wp2
      go_ret
      exact ⟨rfl, B1.out⟩
    · go_wp2_with fail
      go_at_call 54
      refine (D3.out _).mono ?_
      rintro e w3 ⟨rfl, e3⟩
      subst e3
      cases r
      · go_wp2
        go_ret
        exact ⟨rfl, B1.out⟩
      · go_wp2
        go_ret
        exact ⟨rfl, B1.out⟩

theorem zeros_len {h : PHead} {n : Nat} : (formsL h ++ List.replicate n (0 : Int)).length = (formsL h).length + n := by simp

set_option maxHeartbeats 1000000 in
set_option maxRecDepth 100000 in
theorem sheadPack_any (h : PHead) (w : World) : Calls Tryd.prog 10 #[headV h] w fun e w' => e = .returned (.tuple #[.string (packDk h).1, .bool (packDk h).2]) ∧ Below w.heap.size w w' := by
  have CR := (show Hid _ from sl16Right_any h)
  obtain ⟨i0, hi, hz0, hz1, hz2⟩ := info_parts Tryd.infoB
  obtain ⟨w1, hw1⟩ : ∃ y, y = w.alloc (.cells #[.int .i64 h.no, .int .i64 h.area, .int .i64 h.en] 25) := ⟨_, rfl⟩
  have b1 : Below w.heap.size w w1 := by rw [hw1]; exact (Below.refl _ _).alloc (Nat.le_refl _) _
  have x1 : w1.heap[w.heap.size]? = some (.cells #[.int .i64 h.no, .int .i64 h.area, .int .i64 h.en] 25 (0, 0)) := by rw [hw1]; exact World.alloc_heap_new _ _
  have B1 := (show Hid (Below w.heap.size w w1) from b1)
  have X1 := (show Hid _ from x1)
  clear b1 x1
  show Calls Tryd.prog 10 #[.agg #[.int .i64 h.no, .int .i64 h.area, .int .i64 h.en]] w _
  go_enter Tryd.func10, Tryd.ntmps10
  go_wp2_with fail
  go_at_call 33
  rw [← hw1]
  refine Calls.mono (CR.out w1) ?_
  rintro e w2 ⟨rfl, b2⟩
  clear hw1 CR
  have B2 := (show Hid (Below w.heap.size w w2) from B1.out.trans (b2.mono B1.out.size))
  have x2 := (b2.block _ (lt_of_block X1.out)).trans X1.out
  have X2 := (show Hid _ from x2)
  obtain ⟨c0, c1, c2, _⟩ := rk_three x2
  clear b2 x2 X1 B1
  cases hb : headB h
  · have HR : Hid (packDk h = (⟨#[]⟩, false)) := (show packDk h = (⟨#[]⟩, false) by rw [packDk, if_neg (by rw [hb]; simp)])
    clear hb
    go_wp2
    go_ret2
    exact ⟨by rw [HR.out]; rfl, B2.out⟩
  · have hin := headB_in hb
    have HR : Hid (packDk h = (packS h, true)) := (show packDk h = (packS h, true) by rw [packDk, if_pos hb])
    have hl27 := formsL_len h
    clear hb
    obtain ⟨F, hF⟩ : ∃ F : World → Prop, F = fun W => Below w2.heap.size w2 W := ⟨_, rfl⟩
    have HS := (show Hid (∀ W, Below w2.heap.size w2 W → W.cell? ⟨w.heap.size, 0, none⟩ = some (.int .i64 h.no) ∧ W.cell? ⟨w.heap.size, 1, none⟩ = some (.int .i64 h.area) ∧ W.cell? ⟨w.heap.size, 2, none⟩ = some (.int .i64 h.en)) from fun W b => by
      obtain ⟨p0, p1, p2, _⟩ := rk_three ((b.block _ (lt_of_block X2.out)).trans X2.out)
      exact ⟨p0, p1, p2⟩)
    have KD := (show Hid (Below w2.heap.size w2 w2.drew) from below_drewN 1)
    have C1 := (show Hid (∀ W, Calls Tryd.prog 34 #[.int .i64 h.no] W fun e w' => ∃ v, e = .returned v ∧ Own W.heap.size 5 .u8 w' v (form h.no) ∧ Below W.heap.size W w') from fun W => snum_any h.no W (by omega))
    have C2 := (show Hid (∀ W, Calls Tryd.prog 34 #[.int .i64 h.area] W fun e w' => ∃ v, e = .returned v ∧ Own W.heap.size 5 .u8 w' v (form h.area) ∧ Below W.heap.size W w') from fun W => snum_any h.area W (by omega))
    have C3 := (show Hid (∀ W, Calls Tryd.prog 34 #[.int .i64 h.en] W fun e w' => ∃ v, e = .returned v ∧ Own W.heap.size 5 .u8 w' v (form h.en) ∧ Below W.heap.size W w') from fun W => snum_any h.en W (by omega))
    clear hF F
    go_wp2
    go_region_held3 (fun w' => w'.cell? ⟨w.heap.size, 0, none⟩ = some (.int .i64 h.no) ∧ w'.cell? ⟨w.heap.size, 1, none⟩ = some (.int .i64 h.area) ∧ w'.cell? ⟨w.heap.size, 2, none⟩ = some (.int .i64 h.en))
      (first | exact HS.out _ KD.out | exact HS.out _ B3.out | exact HS.out _ B4.out | exact HS.out _ B5.out)
      (first
        | (go_at_call 34
           with_reducible refine Calls.mono (C1.out _) ?_
           rintro e w3 ⟨v3, rfl, o3, b3⟩
           have B3 := (show Hid (Below w2.heap.size w2 w3) from KD.out.trans (b3.mono KD.out.size))
           have O3 := (show Hid (Own w2.heap.size 5 .u8 w3 v3 (form h.no)) from o3.base KD.out.size)
           clear b3 o3)
        | (go_at_call 34
           with_reducible refine Calls.mono (C2.out _) ?_
           rintro e w4 ⟨v4, rfl, o4, b4⟩
           have B4 := (show Hid (Below w2.heap.size w2 w4) from B3.out.trans (b4.mono B3.out.size))
           have O34 := (show Hid (Own w2.heap.size 5 .u8 w4 v3 (form h.no)) from O3.out.below b4)
           have O4 := (show Hid (Own w3.heap.size 5 .u8 w4 v4 (form h.area)) from o4)
           clear b4 o4)
        | (refine step_appS rfl _ _ 22 rfl w2.heap.size 5 i0 (.int .u8 0) 1 1 Tryd.underlying22 hi hz0 hz1 hz2 rfl (by decide) v3 (form h.no).length ((form h.no).map (Value.int .u8)) rfl O34.out v4 (form h.area).length ((form h.area).map (Value.int .u8)) rfl (sv_of_own O4.out) (by simp) (by intro u hu; obtain ⟨y, _, rfl⟩ := List.mem_map.mp hu; rfl) (by have := form_len h.no; have := form_len h.area; unfold maxLen; omega) (by have := form_len h.no; have := form_len h.area; omega) B4.out.size ?_
           intro v5 w5 o5 g5
           have B5 := (show Hid (Below w2.heap.size w2 w5) from B4.out.grown g5 B4.out.size (fun r e => (World.ownsRow.lt O34.out r e).1))
           have O5 := (show Hid (Own w2.heap.size 5 .u8 w5 v5 (form h.no ++ form h.area)) from by show World.ownsRow _ _ _ _ _ _ _; rw [List.length_append, List.map_append]; exact o5)
           clear o5 g5))
    obtain ⟨c0, c1, c2⟩ := HS.out _ B5.out
    clear C1 C2 O34 O4 B3 B4
    have hs2 := B2.out.size
    go_wp2_with (first
      | (go_at_call 34
         with_reducible refine Calls.mono (C3.out _) ?_
         rintro e w6 ⟨v6, rfl, o6, b6⟩
         have B6 := (show Hid (Below w2.heap.size w2 w6) from B5.out.trans (b6.mono B5.out.size))
         have O56 := (show Hid (Own w2.heap.size 5 .u8 w6 v5 (form h.no ++ form h.area)) from O5.out.below b6)
         have O6 := (show Hid (Own w5.heap.size 5 .u8 w6 v6 (form h.en)) from o6)
         clear b6 o6)
      | (at_builtin
         refine wpList_app _ rfl _ _ 22 rfl w2.heap.size 5 i0 (.int .u8 0) 1 Tryd.underlying22 hi hz0 hz1 hz2 rfl .u8 v5 v6 (form h.no ++ form h.area) (form h.en) rfl rfl O56.out O6.out.sl (by have := form_len h.no; have := form_len h.area; have := form_len h.en; rw [List.length_append]; omega) (by have := form_len h.no; have := form_len h.area; have := form_len h.en; unfold maxLen; rw [List.length_append]; omega) B6.out.size ?_
         intro v7 w7 o7 g7
         have B7 := (show Hid (Below w2.heap.size w2 w7) from B6.out.grown g7 B6.out.size (fun r e => (World.ownsRow.lt O56.out r e).1))
         have O7 := (show Hid (Own w2.heap.size 5 .u8 w7 v7 (formsL h)) from o7)
         clear o7 g7))
    go_loopw [4] (fun z wr => ∃ n : Nat, n ≤ 64 - (formsL h).length ∧ Own w2.heap.size 5 .u8 wr z (formsL h ++ List.replicate n 0) ∧ Below w2.heap.size w2 wr) (fun z _ => match z with | .slice _ n _ => 64 - n | _ => 0)
    case atStart => exact ⟨0, Nat.zero_le _, by simpa using O7.out, B7.out⟩
    case round =>
      clear O7 B7 O56 O6 B6 O5 B5 C3 O3
      obtain ⟨n, hn, ho, bel⟩ := hrel
      obtain ⟨a, cap, rfl, _⟩ := ho.sl
      have hlen : (formsL h ++ List.replicate n (0 : Int)).length = (formsL h).length + n := zeros_len
      rw [hlen] at ho ⊢
      have HO := (show Hid (Own w2.heap.size 5 .u8 wr (.slice a ((formsL h).length + n) cap) (formsL h ++ List.replicate n 0)) from ho)
      clear ho
      by_cases hlt : (formsL h).length + n < 64
      · have hltI : ((formsL h).length : Int) + (n : Int) < 64 := by omega
        have hap : formsL h ++ List.replicate n (0 : Int) ++ [0] = formsL h ++ List.replicate (n + 1) 0 := by rw [List.append_assoc, List.replicate_succ']
        have q1 : ((formsL h ++ List.replicate n (0 : Int)).length + ([0] : List Int).length) * 1 ≤ 140737488355328 := by rw [hlen, List.length_singleton]; omega
        have q2 : (formsL h ++ List.replicate n (0 : Int)).length + ([0] : List Int).length ≤ maxLen := by rw [hlen, List.length_singleton]; unfold maxLen; omega
        have q3 : w2.heap.size ≤ (wr.alloc (.cells #[.int .u8 0] 5)).heap.size := by rw [World.size_alloc]; have := bel.size; omega
        have qo : Own w2.heap.size 5 .u8 (wr.alloc (.cells #[.int .u8 0] 5)) (.slice a ((formsL h).length + n) cap) (formsL h ++ List.replicate n 0) := HO.out.below ((Below.refl _ _).alloc (Nat.le_refl _) _)
        have Q := (show Hid (_ ∧ _ ∧ _ ∧ _) from ⟨q1, q2, q3, qo⟩)
        clear q1 q2 q3 qo
        go_wp2_with (at_builtin
                     refine wpList_app _ rfl _ _ 22 rfl w2.heap.size 5 i0 (.int .u8 0) 1 Tryd.underlying22 hi hz0 hz1 hz2 rfl .u8 (.slice a ((formsL h).length + n) cap) _ (formsL h ++ List.replicate n 0) [0] rfl rfl Q.out.2.2.2 (sl_one 5 .u8 wr 0) Q.out.1 Q.out.2.1 Q.out.2.2.1 ?_
                     intro v8 w8 o8 g8
                     have B8 := (show Hid (Below w2.heap.size w2 w8) from (bel.alloc bel.size _).grown g8 (bel.alloc bel.size _).size (fun r e => (World.ownsRow.lt Q.out.2.2.2 r e).1))
                     rw [hap] at o8
                     obtain ⟨a8, c8, rfl, _⟩ := o8.sl
                     rw [zeros_len] at o8
                     have O8 := (show Hid (Own w2.heap.size 5 .u8 w8 (.slice a8 ((formsL h).length + (n + 1)) c8) (formsL h ++ List.replicate (n + 1) 0)) from o8)
                     rw [zeros_len]
                     clear o8 g8)
        go_roundw
        case rel => exact ⟨n + 1, by omega, O8.out, B8.out⟩
        case measure => show 64 - ((formsL h).length + (n + 1)) < 64 - ((formsL h).length + n); omega
      · obtain rfl : n = 64 - (formsL h).length := by omega
        have hltI : ¬ ((formsL h).length : Int) + ((64 - (formsL h).length : Nat) : Int) < 64 := by omega
        have hcv := conv_sl HO.out.sl
        have hst : strOf (formsL h ++ List.replicate (64 - (formsL h).length) 0) = packS h := rfl
        rw [hst] at hcv
        obtain ⟨q, hq⟩ : ∃ q, q = packS h := ⟨_, rfl⟩
        rw [← hq] at hcv HR
        have B9 := (show Hid (Below w.heap.size w wr) from B2.out.trans (bel.mono B2.out.size))
        clear hq hst
        go_wp2
        go_ret2
        exact ⟨by rw [HR.out]; rfl, B9.out⟩
end Go.Proofs.YtiejfnnokfedkaaDoor

/- The specification's HeadRead. No condition. -/
namespace Go.Proofs.YtiejfnnokfedkaaDoor
open Go.RowKit
set_option maxRecDepth 100000
set_option linter.unusedVariables false

theorem numVal_gv (i : Int) (r : Option (Int × Nat)) : numVal i r = .tuple #[.int .i64 (gv i r).1, .int .i64 (gv i r).2.1, .bool (gv i r).2.2] := by
  cases r with
  | none => rfl
  | some p => rfl
theorem head_res {fn : Func} {p u : Tmp} (hr : fn.results = #[.cell p 25, .tmp u]) {tmps : Array Value} {w : World} {g : Nat} {a b c r : Value} (h4 : tmps.getD p undef = .pointer (some ⟨g, 0, none⟩)) (h5 : tmps.getD u undef = r) (hb : w.heap[g]? = some (.cells #[a, b, c] 25 (0, 0))) :
    (results fn tmps).run Tryd.prog w = .ok (.tuple #[.agg #[a, b, c], r]) w := by
  rw [results_cell_tmp (p := p) (u := u) (ty := 25) hr, h4, h5]
  simp [asAddr, run_loadVar_row w g 25 25 #[a, b, c] (0, 0) _ hb Tryd.underlying25 rfl rfl, Result.andThen]

theorem read_parts (s : ByteArray) : ∃ (no i1 : Int) (k1 : Bool) (ar i2 : Int) (k2 : Bool) (en i3 : Int) (k3 : Bool), gv 0 (rdI (bs s) 0) = (no, i1, k1) ∧ gv i1 (rdI (bs s) i1) = (ar, i2, k2) ∧ gv i2 (rdI (bs s) i2) = (en, i3, k3) ∧
    readDk s = if (k1 && k2 && k3 && headB ⟨no, ar, en⟩ && decide (packS ⟨no, ar, en⟩ = s)) = true then (⟨no, ar, en⟩, true) else (zeroH, false) := by
  refine ⟨_, _, _, _, _, _, _, _, _, rfl, rfl, rfl, ?_⟩
  rfl

set_option maxHeartbeats 1000000 in
set_option maxRecDepth 100000 in
theorem sheadRead_any (s : ByteArray) (w : World) (hs : s.size ≤ 1099511627776) : Calls Tryd.prog 22 #[.string s] w fun e w' => e = .returned (.tuple #[headV (readDk s).1, .bool (readDk s).2]) ∧ Below w.heap.size w w' := by
  obtain ⟨no, i1, k1, ar, i2, k2, en, i3, k3, h1, h2, h3, hr⟩ := read_parts s
  have HR := (show Hid _ from hr)
  obtain ⟨q, hq⟩ : ∃ q, q = readDk s := ⟨_, rfl⟩
  rw [← hq] at HR ⊢
  clear hq hr
  obtain ⟨w1, hw1⟩ : ∃ y, y = w.alloc (.cells #[.int .i64 0, .int .i64 0, .int .i64 0] 25) := ⟨_, rfl⟩
  have b1 : Below w.heap.size w w1 := by rw [hw1]; exact (Below.refl _ _).alloc (Nat.le_refl _) _
  have x1 : w1.heap[w.heap.size]? = some (.cells #[.int .i64 0, .int .i64 0, .int .i64 0] 25 (0, 0)) := by rw [hw1]; exact World.alloc_heap_new _ _
  obtain ⟨cap, w2, hcv, hbk, hc1, hc2, b2⟩ := conv_str s w1 (by unfold maxLen; omega)
  have hsl : Sl .u8 w2 (.slice (some ⟨w1.heap.size, 0, none⟩) s.size cap) (bs s) := hbk.sl (by rw [bs_len]) (by rw [bs_len]; exact hc1) hc2
  have B2 := (show Hid (Below w.heap.size w w2) from b1.trans (b2.mono b1.size))
  have X2 := (show Hid (w2.heap[w.heap.size]? = some (.cells #[.int .i64 0, .int .i64 0, .int .i64 0] 25 (0, 0))) from (b2.block _ (lt_of_block x1)).trans x1)
  have hbl : (bs s).length ≤ 1099511627776 := by rw [bs_len]; exact hs
  have C1 := sgetNum_any (i := 0) hsl (bs_byte s) hbl
  have C2 := sgetNum_any (i := i1) hsl (bs_byte s) hbl
  have C3 := sgetNum_any (i := i2) hsl (bs_byte s) hbl
  rw [numVal_gv, h1] at C1
  rw [numVal_gv, h2] at C2
  rw [numVal_gv, h3] at C3
  simp only at C1 C2 C3
  have D1 := (show Hid _ from C1)
  have D2 := (show Hid _ from C2)
  have D3 := (show Hid _ from C3)
  have CP := (show Hid _ from sheadPack_any ⟨no, ar, en⟩)
  have HCV := (show Hid _ from hcv)
  clear C1 C2 C3 hsl hbk b1 b2 x1 h1 h2 h3 hbl hcv
  go_enter Tryd.func22, Tryd.ntmps22
  go_wp2_with fail
  rw [← hw1, HCV.out]
  clear hw1 HCV
  go_wp2_with fail
  go_at_call 57
  refine Calls.mono D1.out ?_
  rintro e wa ⟨rfl, ea⟩
  replace ea := ea.symm
  subst ea
  clear D1
  go_wp2_with fail
  go_at_call 57
  refine Calls.mono D2.out ?_
  rintro e wa ⟨rfl, ea⟩
  replace ea := ea.symm
  subst ea
  clear D2
  go_wp2_with fail
  go_at_call 57
  refine Calls.mono D3.out ?_
  rintro e wa ⟨rfl, ea⟩
  replace ea := ea.symm
  subst ea
  clear D3
  obtain ⟨w3, hw3⟩ : ∃ y, y = w2.alloc (.cells #[.int .i64 no, .int .i64 ar, .int .i64 en] 25) := ⟨_, rfl⟩
  have b3 : Below w2.heap.size w2 w3 := by rw [hw3]; exact (Below.refl _ _).alloc (Nat.le_refl _) _
  have x3 : w3.heap[w2.heap.size]? = some (.cells #[.int .i64 no, .int .i64 ar, .int .i64 en] 25 (0, 0)) := by rw [hw3]; exact World.alloc_heap_new _ _
  have X3 := (show Hid (w3.heap[w2.heap.size]? = some (.cells #[.int .i64 no, .int .i64 ar, .int .i64 en] 25 (0, 0)) ∧ w3.heap[w.heap.size]? = some (.cells #[.int .i64 0, .int .i64 0, .int .i64 0] 25 (0, 0))) from ⟨x3, (b3.block _ (lt_of_block X2.out)).trans X2.out⟩)
  have B3 := (show Hid (Below w.heap.size w w3) from B2.out.trans (b3.mono B2.out.size))
  have CP' := CP.out w3
  obtain ⟨pk, hpk⟩ : ∃ pk, pk = packDk ⟨no, ar, en⟩ := ⟨_, rfl⟩
  rw [← hpk] at CP'
  have HPK := (show Hid (pk = packDk ⟨no, ar, en⟩) from hpk)
  obtain ⟨ps, pb⟩ := pk
  simp only at CP'
  have CQ := (show Hid (Calls Tryd.prog 10 #[.agg #[.int .i64 no, .int .i64 ar, .int .i64 en]] w3 fun e w' => e = .returned (.tuple #[.string ps, .bool pb]) ∧ Below w3.heap.size w3 w') from CP')
  clear CP CP' hpk b3 x3 X2 B2
  go_wp2_with fail
  go_at_call 10
  rw [← hw3]
  refine Calls.mono CQ.out ?_
  rintro e w4 ⟨rfl, b4⟩
  clear CQ hw3
  have X4 := (show Hid (w4.heap[w2.heap.size]? = some (.cells #[.int .i64 no, .int .i64 ar, .int .i64 en] 25 (0, 0)) ∧ w4.heap[w.heap.size]? = some (.cells #[.int .i64 0, .int .i64 0, .int .i64 0] 25 (0, 0))) from ⟨(b4.block _ (lt_of_block X3.out.1)).trans X3.out.1, (b4.block _ (lt_of_block X3.out.2)).trans X3.out.2⟩)
  have B4 := (show Hid (Below w.heap.size w w4) from B3.out.trans (b4.mono B3.out.size))
  obtain ⟨c0, c1, c2, _⟩ := rk_three X4.out.1
  obtain ⟨r0, r1, r2, r3, r4, r5⟩ := rk_three X4.out.2
  clear b4 X3 B3
  -- the way out with nothing
  have hno : Hid (q = (zeroH, false) → ∃ v' : Unit, (Ending.returned (.tuple #[.agg #[.int .i64 0, .int .i64 0, .int .i64 0], .bool false]) = .returned (.tuple #[headV q.1, .bool q.2])) ∧ Below w.heap.size w (((w4.setCell ⟨w.heap.size, 0, none⟩ (.int .i64 0)).setCell ⟨w.heap.size, 1, none⟩ (.int .i64 0)).setCell ⟨w.heap.size, 2, none⟩ (.int .i64 0))) := fun e => ⟨(), by rw [e]; rfl, (((B4.out.setCell (p := ⟨w.heap.size, 0, none⟩) (Nat.le_refl _) _).setCell (p := ⟨w.heap.size, 1, none⟩) (Nat.le_refl _) _).setCell (p := ⟨w.heap.size, 2, none⟩) (Nat.le_refl _) _)⟩
  have RZ := (show Hid _ from rk_at (k := 2) (u := .int .i64 0) (rk_at (k := 1) (u := .int .i64 0) (rk_at (k := 0) (u := .int .i64 0) X4.out.2)))
  by_cases hall : (k1 && k2 && k3 && pb) = true
  · simp only [Bool.and_eq_true] at hall
    obtain ⟨⟨⟨rfl, rfl⟩, rfl⟩, rfl⟩ := hall
    by_cases hst : ps = s
    · have HQ : Hid (q = (⟨no, ar, en⟩, true)) := (show _ = _ by
        have h1 := HPK.out
        unfold packDk at h1
        split at h1
        · rename_i hb
          obtain ⟨e1, _⟩ := Prod.mk.inj h1
          rw [HR.out, if_pos (by simp [hb, ← e1, hst])]
        · cases h1)
      subst hst
      clear HR HPK hno RZ
      go_wp2
      have z3 := rk_at (k := 2) (u := .int .i64 en) (rk_at (k := 1) (u := .int .i64 ar) (rk_at (k := 0) (u := .int .i64 no) X4.out.2))
      refine bodyPost_ret (head_res rfl rfl rfl z3) rfl ?_
      exact ⟨by rw [HQ.out]; rfl, (((B4.out.setCell (p := ⟨w.heap.size, 0, none⟩) (Nat.le_refl _) _).setCell (p := ⟨w.heap.size, 1, none⟩) (Nat.le_refl _) _).setCell (p := ⟨w.heap.size, 2, none⟩) (Nat.le_refl _) _)⟩
    · have HQ : Hid (q = (zeroH, false)) := (show _ = _ by
        have h1 := HPK.out
        unfold packDk at h1
        split at h1
        · obtain ⟨e1, _⟩ := Prod.mk.inj h1
          rw [HR.out, if_neg (by simp [← e1, hst])]
        · cases h1)
      have hne := toList_ne hst
      clear HR HPK
      go_wp2
      refine bodyPost_ret (head_res rfl rfl rfl RZ.out) rfl ?_
      obtain ⟨_, e1, e2⟩ := hno.out HQ.out
      exact ⟨e1, e2⟩
  · have HQ : Hid (q = (zeroH, false)) := (show _ = _ by
      rw [HR.out, if_neg]
      intro hh
      simp only [Bool.and_eq_true, decide_eq_true_eq] at hh
      have h1 := HPK.out
      rw [packDk, if_pos hh.1.2] at h1
      obtain ⟨_, e2⟩ := Prod.mk.inj h1
      exact hall (by rw [hh.1.1.1.1, hh.1.1.1.2, hh.1.1.2, e2]; rfl))
    clear HR HPK
    cases k1 <;> cases k2 <;> cases k3 <;> cases pb <;>
      first
      | exact absurd rfl hall
      | (go_wp2
         refine bodyPost_ret (head_res rfl rfl rfl RZ.out) rfl ?_
         obtain ⟨_, e1, e2⟩ := hno.out HQ.out
         exact ⟨e1, e2⟩)
end Go.Proofs.YtiejfnnokfedkaaDoor

/- Areas, plainly. No condition. -/
namespace Go.Proofs.YtiejfnnokfedkaaDoor
open Go.RowKit
set_option maxRecDepth 100000
set_option linter.unusedVariables false

/-- The number of sector k of area a. -/
def secOf (a : Int) (k : Nat) : Int := 2 + 64 * a + k
/-- Byte k of area a. -/
def byteD (d : PDisk) (a : Int) (k : Nat) : Int := (bs (sectorD d (secOf a (k / 64)))).getD (k % 64) 0
def getL (d : PDisk) (a : Int) (at' n : Nat) : List Int := (List.range n).map fun j => byteD d a (at' + j)
theorem getL_len (d : PDisk) (a : Int) (at' n : Nat) : (getL d a at' n).length = n := by simp [getL]
theorem getL_succ (d : PDisk) (a : Int) (at' n : Nat) : getL d a at' (n + 1) = getL d a at' n ++ [byteD d a (at' + n)] := by simp [getL, List.range_succ]
/-- What AreaGet answers. -/
def getOk (d : PDisk) (a at' n : Int) : Bool := diskB d && (decide (a = 0) || decide (a = 1)) && inB at' 0 4096 && inB n 0 (4096 - at')
def getDk (d : PDisk) (a at' n : Int) : List Int × Bool := if getOk d a at' n = true then (getL d a at'.toNat n.toNat, true) else ([], false)

/-- A byte of bs stands in sector k, when it is put from at' on. -/
def touch (at' n k : Nat) : Bool := decide (at' < 64 * k + 64) && decide (64 * k < at' + n) && decide (0 < n)
/-- The new text of a sector. -/
def newL (old b : List Int) (at' k : Nat) : List Int := (List.range 64).map fun i => if at' ≤ 64 * k + i ∧ 64 * k + i < at' + b.length then b.getD (64 * k + i - at') 0 else old.getD i 0
theorem newL_len (old b : List Int) (at' k : Nat) : (newL old b at' k).length = 64 := by simp [newL]
def newS (d : PDisk) (a : Int) (b : List Int) (at' k : Nat) : ByteArray := strOf (newL (bs (sectorD d (secOf a k))) b at' k)
theorem newS_size (d : PDisk) (a : Int) (b : List Int) (at' k : Nat) : (newS d a b at' k).size = 64 := by rw [newS, strOf_size, newL_len]
/-- The disk when k sectors of the area have been looked at. -/
def areaN (d : PDisk) (a : Int) (b : List Int) (at' : Nat) : Nat → Option PDisk
  | 0 => some d
  | k + 1 => match areaN d a b at' k with
    | none => none
    | some e => if touch at' b.length k = true then (if e.late.length < 200 then some ⟨e.safe, e.late ++ [(secOf a k, newS e a b at' k)]⟩ else none) else some e
def putOkA (d : PDisk) (a at' : Int) (b : List Int) : Bool := (decide (a = 0) || decide (a = 1)) && inB at' 0 4096 && decide ((b.length : Int) ≤ 4096 - at')
def areaDk (d : PDisk) (a at' : Int) (b : List Int) : PDisk × Bool :=
  if diskB d = false then (zeroDk, false) else if putOkA d a at' b = false then (d, false) else match areaN d a b at'.toNat 64 with
    | some e => (e, true)
    | none => (d, false)
theorem areaN_succ {d : PDisk} {a : Int} {b : List Int} {at' k : Nat} {e : PDisk} (h : areaN d a b at' k = some e) : areaN d a b at' (k + 1) = if touch at' b.length k = true then (if e.late.length < 200 then some ⟨e.safe, e.late ++ [(secOf a k, newS e a b at' k)]⟩ else none) else some e := by
  simp [areaN, h]
theorem areaN_none {d : PDisk} {a : Int} {b : List Int} {at' k : Nat} (h : areaN d a b at' k = none) (m : Nat) : areaN d a b at' (k + m) = none := by
  induction m with
  | zero => exact h
  | succ m ih => rw [← Nat.add_assoc]; simp [areaN, ih]
theorem secOf_in {a : Int} (ha : a = 0 ∨ a = 1) {k : Nat} (hk : k < 64) : inB (secOf a k) 0 129 = true := by
  unfold secOf
  rcases ha with rfl | rfl
  · exact inB_yes (by omega) (by omega)
  · exact inB_yes (by omega) (by omega)
/-- What is put keeps the disk right. -/
theorem areaN_right {d : PDisk} (hd : diskB d = true) {a : Int} (ha : a = 0 ∨ a = 1) {b : List Int} {at' : Nat} : ∀ {k : Nat} {e : PDisk}, k ≤ 64 → areaN d a b at' k = some e → diskB e = true := by
  intro k
  induction k with
  | zero => intro e _ h; simp [areaN] at h; rw [← h]; exact hd
  | succ k ih =>
    intro e hk h
    cases hq : areaN d a b at' k with
    | none => simp [areaN, hq] at h
    | some e' =>
      have hr := ih (by omega) hq
      rw [areaN_succ hq] at h
      split at h
      · split at h
        · rename_i hl
          simp only [Option.some.injEq] at h
          rw [← h]
          exact right_snoc hr (secOf_in ha (by omega)) (newS_size _ _ _ _ _) hl
        · cases h
      · simp only [Option.some.injEq] at h
        rw [← h]; exact hr
theorem sector_put (d : PDisk) (x : Int) (s : ByteArray) (i : Int) : sectorD ⟨d.safe, d.late ++ [(x, s)]⟩ i = if x = i then s else sectorD d i := by
  unfold sectorD
  simp only [putAt_snoc]
  by_cases h : x = i
  · simp [h]
  · simp [h]
/-- Sectors that are not of this area, or not yet looked at, are as they were; those looked at have their new text. -/
theorem areaN_sector {d : PDisk} {a : Int} {b : List Int} {at' : Nat} : ∀ {k : Nat} {e : PDisk}, areaN d a b at' k = some e →
    (∀ x : Int, (∀ j, j < k → x ≠ secOf a j) → sectorD e x = sectorD d x) ∧ (∀ j, j < k → sectorD e (secOf a j) = if touch at' b.length j = true then newS d a b at' j else sectorD d (secOf a j)) := by
  intro k
  induction k with
  | zero => intro e h; simp [areaN] at h; rw [← h]; exact ⟨fun _ _ => rfl, fun j hj => absurd hj (by omega)⟩
  | succ k ih =>
    intro e h
    cases hq : areaN d a b at' k with
    | none => simp [areaN, hq] at h
    | some e' =>
      obtain ⟨i1, i2⟩ := ih hq
      rw [areaN_succ hq] at h
      have hk : sectorD e' (secOf a k) = sectorD d (secOf a k) := i1 _ (fun j hj => by unfold secOf; omega)
      have hn : newS e' a b at' k = newS d a b at' k := by unfold newS; rw [hk]
      split at h
      · rename_i ht
        split at h
        · simp only [Option.some.injEq] at h
          rw [← h]
          refine ⟨fun x hx => ?_, fun j hj => ?_⟩
          · rw [sector_put, if_neg (fun e => hx k (by omega) e.symm)]
            exact i1 x (fun j hj => hx j (by omega))
          · rw [sector_put]
            by_cases e : j = k
            · subst e; rw [if_pos rfl, if_pos ht, hn]
            · rw [if_neg (by unfold secOf; omega)]
              exact i2 j (by omega)
        · cases h
      · rename_i ht
        simp only [Option.some.injEq] at h
        rw [← h]
        refine ⟨fun x hx => i1 x (fun j hj => hx j (by omega)), fun j hj => ?_⟩
        by_cases e : j = k
        · subst e; rw [if_neg ht, hk]
        · exact i2 j (by omega)
end Go.Proofs.YtiejfnnokfedkaaDoor

/- The specification's HeadNow. No condition. -/
namespace Go.Proofs.YtiejfnnokfedkaaDoor
open Go.RowKit
set_option maxRecDepth 100000
set_option linter.unusedVariables false

/-- Which head counts. -/
def nowDk (d : PDisk) : PHead := if diskB d = false then zeroH else if (readDk (sectorD d 0)).1.no < (readDk (sectorD d 1)).1.no then (readDk (sectorD d 1)).1 else (readDk (sectorD d 0)).1
theorem sector_size {d : PDisk} (h : diskB d = true) {x : Int} (hx : 0 ≤ x ∧ x ≤ 129) : (sectorD d x).size = 64 := by
  have hl := diskB_len h
  have hp : ∀ ps : List (Int × ByteArray), (∀ p ∈ ps, p.2.size = 64) → ∀ s, putAt x ps = some s → s.size = 64 := by
    intro ps
    induction ps with
    | nil => intro _ s e; simp [putAt] at e
    | cons q ps ih =>
      intro hq s e
      rw [putAt] at e
      split at e
      · rename_i s' e'
        simp only [Option.some.injEq] at e
        subst e
        exact ih (fun p hp => hq p (List.mem_cons_of_mem _ hp)) _ e'
      · split at e
        · simp only [Option.some.injEq] at e
          subst e
          exact hq q (List.mem_cons_self ..)
        · cases e
  unfold sectorD
  cases e : putAt x d.late with
  | some s => exact hp d.late (fun p hpm => by obtain ⟨k, hk, rfl⟩ := List.getElem_of_mem hpm; exact (diskB_late h hk).2.2) s e
  | none =>
    have hk : x.toNat < d.safe.length := by omega
    simp only [Option.getD_none, List.getD_eq_getElem?_getD, List.getElem?_eq_getElem hk, Option.getD_some]
    exact diskB_safe h hk

set_option maxHeartbeats 1000000 in
set_option maxRecDepth 100000 in
theorem sheadNow_any {w : World} {v : Value} {d : PDisk} (h : DiskAt w v d) (hf : DiskFit d) : Calls Tryd.prog 14 #[v] w fun e w' => e = .returned (headV (nowDk d)) ∧ Below w.heap.size w w' := by
  have HD := (show Hid (DiskAt w v d) from h)
  have HF := (show Hid (DiskFit d) from hf)
  obtain ⟨sa, sn, sc, la, ln, lc, rfl, _, _⟩ := h
  obtain ⟨w1, hw1⟩ : ∃ y, y = (w.alloc (.cells #[.slice sa sn sc, .slice la ln lc] 34)).alloc (.cells #[.int .i64 0, .int .i64 0, .int .i64 0] 25) := ⟨_, rfl⟩
  have h1 : Hl w [(w.heap.size + 1, #[.int .i64 0, .int .i64 0, .int .i64 0], 25), (w.heap.size, #[.slice sa sn sc, .slice la ln lc], 34)] w1 := by
    have := ((Hl.refl w).new #[.slice sa sn sc, .slice la ln lc] 34).new #[.int .i64 0, .int .i64 0, .int .i64 0] 25
    rw [World.size_alloc] at this
    rw [hw1]; exact this
  have H1 := (show Hid _ from h1)
  clear h1 hf
  go_enter Tryd.func14, Tryd.ntmps14
  go_wp2_with fail
  go_at_call 38
  rw [← hw1]
  refine (sdiskOk_any (HD.out.below H1.out.1) HF.out).mono ?_
  rintro e w2 ⟨rfl, b2⟩
  clear hw1
  have H2 := (show Hid _ from H1.out.below b2)
  clear H1 b2
  cases hb : diskB d
  · have HR : Hid (nowDk d = zeroH) := (show nowDk d = zeroH by rw [nowDk, if_pos hb])
    clear hb
    obtain ⟨q1, q2, q3, q4, q5, q6⟩ := rk_three H2.out.at0
    go_wp2
    refine bodyPost_ret (results_cell_row rfl _ _ (w.heap.size + 1) 25 #[.int .i64 0, .int .i64 0, .int .i64 0] (0, 0) _ rfl (H2.out.set3 (by omega) (by simp) _ _ _).at0 Tryd.underlying25 rfl rfl) rfl ?_
    exact ⟨by rw [HR.out]; rfl, (H2.out.set3 (by omega) (by simp) _ _ _).1⟩
  · obtain ⟨s0, hs0⟩ : ∃ s, s = sectorD d 0 := ⟨_, rfl⟩
    obtain ⟨s1, hs1⟩ : ∃ s, s = sectorD d 1 := ⟨_, rfl⟩
    obtain ⟨⟨⟨a0, a1, a2⟩, k0⟩, ha⟩ : ∃ x, x = readDk s0 := ⟨_, rfl⟩
    obtain ⟨⟨⟨b0, b1, b2⟩, k1⟩, hb1⟩ : ∃ x, x = readDk s1 := ⟨_, rfl⟩
    have HR : Hid (nowDk d = if a0 < b0 then ⟨b0, b1, b2⟩ else ⟨a0, a1, a2⟩) := (show nowDk d = _ by rw [nowDk, if_neg (by rw [hb]; simp), ← hs0, ← hs1, ← ha, ← hb1])
    have hl := diskB_len hb
    have CO0 := (show Hid (∀ W, Below w.heap.size w W → Calls Tryd.prog 39 #[.agg #[.slice sa sn sc, .slice la ln lc], .int .i64 0] W fun e w' => e = .returned (.string s0) ∧ Below W.heap.size W w') from fun W b => by rw [hs0]; exact sl15Of_any (HD.out.below b) HF.out ⟨by omega, by omega⟩)
    have CO1 := (show Hid (∀ W, Below w.heap.size w W → Calls Tryd.prog 39 #[.agg #[.slice sa sn sc, .slice la ln lc], .int .i64 1] W fun e w' => e = .returned (.string s1) ∧ Below W.heap.size W w') from fun W b => by rw [hs1]; exact sl15Of_any (HD.out.below b) HF.out ⟨by omega, by omega⟩)
    have CR0 := (show Hid (∀ W, Calls Tryd.prog 22 #[.string s0] W fun e w' => e = .returned (.tuple #[.agg #[.int .i64 a0, .int .i64 a1, .int .i64 a2], .bool k0]) ∧ Below W.heap.size W w') from fun W => by
      have := sheadRead_any s0 W (by rw [hs0, sector_size hb ⟨by omega, by omega⟩]; omega)
      rw [← ha] at this; exact this)
    have CR1 := (show Hid (∀ W, Calls Tryd.prog 22 #[.string s1] W fun e w' => e = .returned (.tuple #[.agg #[.int .i64 b0, .int .i64 b1, .int .i64 b2], .bool k1]) ∧ Below W.heap.size W w') from fun W => by
      have := sheadRead_any s1 W (by rw [hs1, sector_size hb ⟨by omega, by omega⟩]; omega)
      rw [← hb1] at this; exact this)
    clear hs0 hs1 ha hb1 hb hl
    obtain ⟨q1, q2, _, _⟩ := rk_two H2.out.at1
    go_wp2_with fail
    go_at_call 39
    refine (CO0.out _ H2.out.1).mono ?_
    rintro e w3 ⟨rfl, b3⟩
    have H3 := (show Hid _ from H2.out.below b3)
    clear H2 b3 q1 q2 CO0
    go_wp2_with fail
    go_at_call 22
    refine (CR0.out _).mono ?_
    rintro e w4 ⟨rfl, b4⟩
    have H4 := (show Hid _ from H3.out.below b4)
    have H5 := (show Hid _ from H4.out.new #[.int .i64 a0, .int .i64 a1, .int .i64 a2] 25)
    obtain ⟨w5, hw5⟩ : ∃ y, y = w4.alloc (.cells #[.int .i64 a0, .int .i64 a1, .int .i64 a2] 25) := ⟨_, rfl⟩
    rw [← hw5] at H5
    obtain ⟨q1, q2, _, _⟩ := rk_two H5.out.at2
    clear H3 b4 CR0
    go_upto_region 4 with fail
    rw [← hw5]
    clear hw5
    go_wp2_with fail
    go_at_call 39
    refine (CO1.out _ H5.out.1).mono ?_
    rintro e w6 ⟨rfl, b6⟩
    have H6 := (show Hid _ from H5.out.below b6)
    clear H5 b6 q1 q2 CO1
    go_wp2_with fail
    go_at_call 22
    refine (CR1.out _).mono ?_
    rintro e w7 ⟨rfl, b7⟩
    have H7 := (show Hid _ from H6.out.below b7)
    have hn1 : w.heap.size + 1 < w4.heap.size := H4.out.lt (p := (w.heap.size + 1, #[.int .i64 0, .int .i64 0, .int .i64 0], 25)) (by simp)
    have hn2 : w4.heap.size < w7.heap.size := H7.out.lt (List.mem_cons_self ..)
    have H8 := (show Hid _ from H7.out.new #[.int .i64 b0, .int .i64 b1, .int .i64 b2] 25)
    obtain ⟨w8, hw8⟩ : ∃ y, y = w7.alloc (.cells #[.int .i64 b0, .int .i64 b1, .int .i64 b2] 25) := ⟨_, rfl⟩
    rw [← hw8] at H8
    obtain ⟨m1, m2, m3, _⟩ := rk_three H8.out.at0
    obtain ⟨n1, n2, n3, _⟩ := rk_three H8.out.at1
    obtain ⟨r1, r2, r3, r4, r5, r6⟩ := rk_three H8.out.at2
    have H9 := (show Hid (Hl w ((w.heap.size + 1, #[.int .i64 0, .int .i64 0, .int .i64 0], 25) :: []) w8) from ⟨H8.out.1, fun p hp => by
      simp only [List.mem_cons, List.not_mem_nil, or_false] at hp; rw [hp]; exact H8.out.at2⟩)
    clear H4 H6 H7 b7 CR1 H8 hn1 hn2
    by_cases hlt : a0 < b0
    · have HQ : Hid (nowDk d = ⟨b0, b1, b2⟩) := (show nowDk d = _ by rw [HR.out, if_pos hlt])
      clear HR
      go_upto_region 5 with fail
      rw [← hw8]
      clear hw8
      go_wp2
      refine bodyPost_ret (results_cell_row rfl _ _ (w.heap.size + 1) 25 #[.int .i64 b0, .int .i64 b1, .int .i64 b2] (0, 0) _ rfl (H9.out.set3 (by omega) (by simp) _ _ _).at0 Tryd.underlying25 rfl rfl) rfl ?_
      exact ⟨by rw [HQ.out]; rfl, (H9.out.set3 (by omega) (by simp) _ _ _).1⟩
    · have HQ : Hid (nowDk d = ⟨a0, a1, a2⟩) := (show nowDk d = _ by rw [HR.out, if_neg hlt])
      clear HR
      go_upto_region 5 with fail
      rw [← hw8]
      clear hw8
      go_wp2
      refine bodyPost_ret (results_cell_row rfl _ _ (w.heap.size + 1) 25 #[.int .i64 a0, .int .i64 a1, .int .i64 a2] (0, 0) _ rfl (H9.out.set3 (by omega) (by simp) _ _ _).at0 Tryd.underlying25 rfl rfl) rfl ?_
      exact ⟨by rw [HQ.out]; rfl, (H9.out.set3 (by omega) (by simp) _ _ _).1⟩
end Go.Proofs.YtiejfnnokfedkaaDoor

/- The draw of a head. No condition. -/
namespace Go.Proofs.YtiejfnnokfedkaaDoor
open Go.RowKit
set_option maxRecDepth 100000
set_option linter.unusedVariables false

/-- A head as it is drawn. -/
def headD (h : PHead) : Prop := -1 ≤ h.no ∧ h.no ≤ 1000000001 ∧ -1 ≤ h.area ∧ h.area ≤ 2 ∧ -1 ≤ h.en ∧ h.en ≤ 4097

set_option maxHeartbeats 1000000 in
set_option maxRecDepth 100000 in
theorem drawHead_any {w0 : World} {g : Nat} {v : Value} {xs : List Int} {w : World} (h : Cur w0 g v xs w) (hb : ∀ x ∈ xs, 0 ≤ x ∧ x ≤ 255) :
    Calls Tryd.prog 27 #[.pointer (some ⟨g, 0, none⟩)] w fun e w' => ∃ q : PHead, e = .returned (headV q) ∧ headD q ∧ Cur w0 g v xs w' ∧ w.grownBy w' (some g) := by
  have HB : Hid (∀ x ∈ xs, 0 ≤ x ∧ x ≤ 255) := hb
  have hgl := h.lt
  clear hb
  have h1 := (Dw.refl h).new #[.int .i64 0, .int .i64 0, .int .i64 0] 25
  obtain ⟨w1, hw1⟩ : ∃ y, y = w.alloc (.cells #[.int .i64 0, .int .i64 0, .int .i64 0] 25) := ⟨_, rfl⟩
  rw [← hw1] at h1
  have H1 := (show Hid _ from h1)
  clear h1
  go_enter Tryd.func27, Tryd.ntmps27
  go_wp2_with fail
  go_at_call 45
  rw [← hw1]
  refine (below_any 9 (by omega) H1.out.cur HB.out).mono ?_
  rintro e w2 ⟨x, rfl, x0, x9, _, k2, g2⟩
  replace x9 := x9 (by omega)
  have H2 := (show Hid _ from H1.out.cursor k2 g2)
  clear hw1 k2 g2 H1
  go_wp2_with fail
  go_at_call 45
  refine (below_any 2 (by omega) H2.out.cur HB.out).mono ?_
  rintro e w3 ⟨y, rfl, y0, y9, _, k3, g3⟩
  replace y9 := y9 (by omega)
  have H3 := (show Hid _ from H2.out.cursor k3 g3)
  clear k3 g3 H2
  go_wp2_with fail
  go_at_call 45
  refine (below_any 300 (by omega) H3.out.cur HB.out).mono ?_
  rintro e w4 ⟨z, rfl, z0, z9, _, k4, g4⟩
  replace z9 := z9 (by omega)
  have H4 := (show Hid _ from H3.out.cursor k4 g4)
  have hlt4 : w.heap.size < w4.heap.size := lt_of_block H4.out.at0
  have h5 := H4.out.new #[.int .i64 (1 + x), .int .i64 y, .int .i64 z] 25
  obtain ⟨w5, hw5⟩ : ∃ W, W = w4.alloc (.cells #[.int .i64 (1 + x), .int .i64 y, .int .i64 z] 25) := ⟨_, rfl⟩
  rw [← hw5] at h5
  have H5 := (show Hid _ from h5)
  clear k4 g4 H3 h5 H4
  go_wp2_with fail
  go_at_call 45
  rw [← hw5]
  refine (below_any 12 (by omega) H5.out.cur HB.out).mono ?_
  rintro e w6 ⟨s, rfl, s0, s9, _, k6, g6⟩
  replace s9 := s9 (by omega)
  have H6 := (show Hid _ from H5.out.cursor k6 g6)
  clear k6 g6 H5 hw5
  by_cases e0 : s = 0
  · subst e0
    clear s0 s9
    go_wp2_with fail
    go_at_call 47
    refine Calls.mono (pickL_any H6.out.cur HB.out [0, 1000000000, 1000000001, -1] (by simp) (by simp) _ rfl 4 rfl) ?_
    rintro e w7 ⟨q, rfl, hq, k7, g7⟩
    have H7 := (show Hid _ from H6.out.cursor k7 g7)
    have HQ := (show Hid (headD ⟨q, y, z⟩) from (show headD ⟨q, y, z⟩ by simp at hq; unfold headD; simp only; omega))
    clear k7 g7 H6 hq
    obtain ⟨m1, m2, m3, m4, m5, m6⟩ := rk_three H7.out.at0
    have H8 := (show Hid (Dw w0 g v xs w [(w4.heap.size, #[.int .i64 q, .int .i64 y, .int .i64 z], 25), (w.heap.size, #[.int .i64 0, .int .i64 0, .int .i64 0], 25)] [] _) from H7.out.set (by simp; omega) (by simp) 0 (.int .i64 q))
    obtain ⟨w8, hw8⟩ : ∃ W, W = w7.setCell ⟨w4.heap.size, 0, none⟩ (.int .i64 q) := ⟨_, rfl⟩
    rw [← hw8] at H8
    go_upto_region 9 with fail
    rw [← hw8]
    clear hw8 m1 m2 m3 m4 m5 m6 H7
    obtain ⟨m1, m2, m3, m4, m5, m6⟩ := rk_three H8.out.at0
    obtain ⟨r1, r2, r3, r4, r5, r6⟩ := rk_three H8.out.at1
    go_wp2
    have F := H8.out.swap.set3 (by simp; omega) (by simp) (.int .i64 q) (.int .i64 y) (.int .i64 z)
    (try simp only [Exit.inBlock, Exit.then])
    refine bodyPost_ret (results_cell_row rfl _ _ w.heap.size 25 #[.int .i64 q, .int .i64 y, .int .i64 z] (0, 0) _ rfl F.at0 Tryd.underlying25 rfl rfl) rfl ?_
    exact ⟨⟨q, y, z⟩, rfl, HQ.out, F.cur, F.gr⟩
  · have e0' : (s == 0) = false := beq_eq_false_iff_ne.mpr e0
    by_cases e1 : s = 1
    · subst e1
      go_wp2_with fail
      go_at_call 47
      refine Calls.mono (pickL_any H6.out.cur HB.out [-1, 2] (by simp) (by simp) _ rfl 2 rfl) ?_
      rintro e w7 ⟨q, rfl, hq, k7, g7⟩
      have H7 := (show Hid _ from H6.out.cursor k7 g7)
      have HQ := (show Hid (headD ⟨1 + x, q, z⟩) from (show headD ⟨1 + x, q, z⟩ by simp at hq; unfold headD; simp only; omega))
      clear k7 g7 H6 hq
      obtain ⟨m1, m2, m3, m4, m5, m6⟩ := rk_three H7.out.at0
      have H8 := (show Hid (Dw w0 g v xs w [(w4.heap.size, #[.int .i64 (1 + x), .int .i64 q, .int .i64 z], 25), (w.heap.size, #[.int .i64 0, .int .i64 0, .int .i64 0], 25)] [] _) from H7.out.set (by simp; omega) (by simp) 1 (.int .i64 q))
      obtain ⟨w8, hw8⟩ : ∃ W, W = w7.setCell ⟨w4.heap.size, 1, none⟩ (.int .i64 q) := ⟨_, rfl⟩
      rw [← hw8] at H8
      go_upto_region 9 with fail
      rw [← hw8]
      clear hw8 m1 m2 m3 m4 m5 m6 H7
      obtain ⟨m1, m2, m3, m4, m5, m6⟩ := rk_three H8.out.at0
      obtain ⟨r1, r2, r3, r4, r5, r6⟩ := rk_three H8.out.at1
      go_wp2
      have F := H8.out.swap.set3 (by simp; omega) (by simp) (.int .i64 (1 + x)) (.int .i64 q) (.int .i64 z)
      (try simp only [Exit.inBlock, Exit.then])
      refine bodyPost_ret (results_cell_row rfl _ _ w.heap.size 25 #[.int .i64 (1 + x), .int .i64 q, .int .i64 z] (0, 0) _ rfl F.at0 Tryd.underlying25 rfl rfl) rfl ?_
      exact ⟨⟨1 + x, q, z⟩, rfl, HQ.out, F.cur, F.gr⟩
    · have e1' : (s == 1) = false := beq_eq_false_iff_ne.mpr e1
      by_cases e2 : s = 2
      · subst e2
        go_wp2_with fail
        go_at_call 47
        refine Calls.mono (pickL_any H6.out.cur HB.out [-1, 4096, 4097] (by simp) (by simp) _ rfl 3 rfl) ?_
        rintro e w7 ⟨q, rfl, hq, k7, g7⟩
        have H7 := (show Hid _ from H6.out.cursor k7 g7)
        have HQ := (show Hid (headD ⟨1 + x, y, q⟩) from (show headD ⟨1 + x, y, q⟩ by simp at hq; unfold headD; simp only; omega))
        clear k7 g7 H6 hq
        obtain ⟨m1, m2, m3, m4, m5, m6⟩ := rk_three H7.out.at0
        have H8 := (show Hid (Dw w0 g v xs w [(w4.heap.size, #[.int .i64 (1 + x), .int .i64 y, .int .i64 q], 25), (w.heap.size, #[.int .i64 0, .int .i64 0, .int .i64 0], 25)] [] _) from H7.out.set (by simp; omega) (by simp) 2 (.int .i64 q))
        obtain ⟨w8, hw8⟩ : ∃ W, W = w7.setCell ⟨w4.heap.size, 2, none⟩ (.int .i64 q) := ⟨_, rfl⟩
        rw [← hw8] at H8
        go_upto_region 9 with fail
        rw [← hw8]
        clear hw8 m1 m2 m3 m4 m5 m6 H7
        obtain ⟨m1, m2, m3, m4, m5, m6⟩ := rk_three H8.out.at0
        obtain ⟨r1, r2, r3, r4, r5, r6⟩ := rk_three H8.out.at1
        go_wp2
        have F := H8.out.swap.set3 (by simp; omega) (by simp) (.int .i64 (1 + x)) (.int .i64 y) (.int .i64 q)
        (try simp only [Exit.inBlock, Exit.then])
        refine bodyPost_ret (results_cell_row rfl _ _ w.heap.size 25 #[.int .i64 (1 + x), .int .i64 y, .int .i64 q] (0, 0) _ rfl F.at0 Tryd.underlying25 rfl rfl) rfl ?_
        exact ⟨⟨1 + x, y, q⟩, rfl, HQ.out, F.cur, F.gr⟩
      · have e2' : (s == 2) = false := beq_eq_false_iff_ne.mpr e2
        obtain ⟨m1, m2, m3, m4, m5, m6⟩ := rk_three H6.out.at0
        obtain ⟨r1, r2, r3, r4, r5, r6⟩ := rk_three H6.out.at1
        go_wp2
        have F := H6.out.swap.set3 (by simp; omega) (by simp) (.int .i64 (1 + x)) (.int .i64 y) (.int .i64 z)
        (try simp only [Exit.inBlock, Exit.then])
        refine bodyPost_ret (results_cell_row rfl _ _ w.heap.size 25 #[.int .i64 (1 + x), .int .i64 y, .int .i64 z] (0, 0) _ rfl F.at0 Tryd.underlying25 rfl rfl) rfl ?_
        exact ⟨⟨1 + x, y, z⟩, rfl, by unfold headD; simp only; omega, F.cur, F.gr⟩
end Go.Proofs.YtiejfnnokfedkaaDoor

/- The specification's HeadPut. No condition. -/
namespace Go.Proofs.YtiejfnnokfedkaaDoor
open Go.RowKit
set_option maxRecDepth 100000
set_option linter.unusedVariables false

/-- A disk with a head put. -/
def headPutDk (d : PDisk) (h : PHead) : PDisk × Bool := if diskB d = false then (zeroDk, false) else if headB h = false then (d, false) else putDk d (h.no % 2) (packS h)
theorem OwnDk.based {B B' : Nat} {w : World} {v : Value} {d : PDisk} (h : OwnDk B w v d) (hB : B' ≤ B) : OwnDk B' w v d := by
  obtain ⟨sa, sn, sc, la, ln, lc, e, h1, h2⟩ := h
  exact ⟨sa, sn, sc, la, ln, lc, e, rk_base h1 hB, rk_base h2 hB⟩
theorem OwnDk.setD {B b k : Nat} {w : World} {v u : Value} {d : PDisk} (h : OwnDk B w v d) {cs : Array Value} {fr : Nat × Nat} (hb : w.heap[b]? = some (.cells cs 34 fr)) : OwnDk B (w.setCell ⟨b, k, none⟩ u) v d := by
  obtain ⟨sa, sn, sc, la, ln, lc, e, h1, h2⟩ := h
  exact ⟨sa, sn, sc, la, ln, lc, e, rk_set h1 hb (by decide), rk_set h2 hb (by decide)⟩
/-- A disk of the call's own is laid into the result's block. -/
theorem OwnDk.laid {w W : World} {L : List (Nat × Array Value × TypeId)} {N : Nat} {x y a b : Value} {d : PDisk} (h : Hl w ((N, #[x, y], 34) :: L) W) (hN : w.heap.size ≤ N) (hL : ∀ p ∈ L, p.1 ≠ N) (o : OwnDk w.heap.size W (.agg #[a, b]) d) :
    OwnDk w.heap.size ((W.setCell ⟨N, 0, none⟩ a).setCell ⟨N, 1, none⟩ b) (.agg #[a, b]) d ∧ Below w.heap.size w ((W.setCell ⟨N, 0, none⟩ a).setCell ⟨N, 1, none⟩ b) ∧ ((W.setCell ⟨N, 0, none⟩ a).setCell ⟨N, 1, none⟩ b).heap[N]? = some (.cells #[a, b] 34 (0, 0)) :=
  ⟨(o.setD h.at0).setD (h.set hN hL 0 a).at0, (h.set2 hN hL a b).1, (h.set2 hN hL a b).at0⟩

set_option maxHeartbeats 1000000 in
set_option maxRecDepth 100000 in
theorem sheadPut_any {w : World} {v : Value} {d : PDisk} (h : DiskAt w v d) (hf : DiskFit d) (hd : PHead) :
    Calls Tryd.prog 72 #[v, headV hd] w fun e w' => ∃ v', e = .returned (.tuple #[v', .bool (headPutDk d hd).2]) ∧ OwnDk w.heap.size w' v' (headPutDk d hd).1 ∧ Below w.heap.size w w' := by
  have HD := (show Hid (DiskAt w v d) from h)
  have HF := (show Hid (DiskFit d) from hf)
  obtain ⟨sa, sn, sc, la, ln, lc, rfl, _, _⟩ := h
  obtain ⟨no, ar, en⟩ := hd
  obtain ⟨⟨qd, qb⟩, hq⟩ : ∃ q, q = headPutDk d ⟨no, ar, en⟩ := ⟨_, rfl⟩
  have HQ := (show Hid (_ = _) from hq)
  rw [← hq]
  simp only
  clear hq
  show Calls Tryd.prog 72 #[.agg #[.slice sa sn sc, .slice la ln lc], .agg #[.int .i64 no, .int .i64 ar, .int .i64 en]] w _
  obtain ⟨w1, hw1⟩ : ∃ y, y = ((w.alloc (.cells #[.slice sa sn sc, .slice la ln lc] 34)).alloc (.cells #[.int .i64 no, .int .i64 ar, .int .i64 en] 25)).alloc (.cells #[.slice none 0 0, .slice none 0 0] 34) := ⟨_, rfl⟩
  have h1 : Hl w [(w.heap.size + 1 + 1, #[.slice none 0 0, .slice none 0 0], 34), (w.heap.size + 1, #[.int .i64 no, .int .i64 ar, .int .i64 en], 25), (w.heap.size, #[.slice sa sn sc, .slice la ln lc], 34)] w1 := by
    have := (((Hl.refl w).new #[.slice sa sn sc, .slice la ln lc] 34).new #[.int .i64 no, .int .i64 ar, .int .i64 en] 25).new #[.slice none 0 0, .slice none 0 0] 34
    rw [World.size_alloc, World.size_alloc] at this
    rw [hw1]; exact this
  have H1 := (show Hid _ from h1)
  clear h1 hf
  go_enter Tryd.func72, Tryd.ntmps72
  go_wp2_with fail
  go_at_call 38
  rw [← hw1]
  refine (sdiskOk_any (HD.out.below H1.out.1) HF.out).mono ?_
  rintro e w2 ⟨rfl, b2⟩
  clear hw1
  have H2 := (show Hid _ from H1.out.below b2)
  obtain ⟨r1, r2, r3, r4⟩ := rk_two H2.out.at0
  obtain ⟨c1, c2, c3, _⟩ := rk_three H2.out.at1
  obtain ⟨q1, q2, _, _⟩ := rk_two H2.out.at2
  clear H1 b2
  cases hb : diskB d
  · have HR : Hid ((qd, qb) = (zeroDk, false)) := (show _ = _ by rw [HQ.out, headPutDk, if_pos hb])
    cases HR.out
    clear hb HQ HR
    go_wp2
    have z := OwnDk.laid H2.out (by omega) (by simp; omega) (ownDk_nil _ _)
    refine bodyPost_ret (disk_res rfl rfl rfl z.2.2) rfl ?_
    exact ⟨_, rfl, z.1, z.2.1⟩
  · have HB := (show Hid (diskB d = true) from hb)
    clear hb
    have CP := sheadPack_any ⟨no, ar, en⟩
    obtain ⟨⟨ps, pb⟩, hp⟩ : ∃ q, q = packDk ⟨no, ar, en⟩ := ⟨_, rfl⟩
    rw [← hp] at CP
    simp only at CP
    have CQ := (show Hid (∀ W, Calls Tryd.prog 10 #[.agg #[.int .i64 no, .int .i64 ar, .int .i64 en]] W fun e w' => e = .returned (.tuple #[.string ps, .bool pb]) ∧ Below W.heap.size W w') from CP)
    have HP := (show Hid (_ = _) from hp)
    clear CP hp
    go_wp2_with fail
    go_at_call 10
    refine (CQ.out _).mono ?_
    rintro e w3 ⟨rfl, b3⟩
    have H3 := (show Hid _ from H2.out.below b3)
    clear H2 b3 CQ r1 r2 r3 r4 c1 c2 c3 q1 q2
    obtain ⟨c1, c2, c3, _⟩ := rk_three H3.out.at1
    obtain ⟨q1, q2, _, _⟩ := rk_two H3.out.at2
    cases hh : headB ⟨no, ar, en⟩
    · have e1 := HP.out
      rw [packDk, if_neg (by rw [hh]; simp)] at e1
      cases e1
      have HR : Hid ((qd, qb) = (d, false)) := (show _ = _ by rw [HQ.out, headPutDk, if_neg (by rw [HB.out]; simp), if_pos hh])
      cases HR.out
      have CC := (show Hid _ from sl15Copy_any (HD.out.below H3.out.1) HF.out)
      clear HP hh HQ HR
      go_wp2_with fail
      go_at_call 52
      refine Calls.mono CC.out ?_
      rintro e w4 ⟨v4, rfl, o4, b4⟩
      have H4 := (show Hid _ from H3.out.below b4)
      have O4 := (show Hid (OwnDk w.heap.size w4 v4 d) from o4.based H3.out.1.size)
      clear CC o4 b4 H3 c1 c2 c3 q1 q2
      obtain ⟨r1, r2, r3, r4⟩ := rk_two H4.out.at0
      obtain ⟨ta, tn, tc, ma, mn, mc, e4, _⟩ := O4.out
      subst e4
      go_wp2
      have z := OwnDk.laid H4.out (by omega) (by simp; omega) O4.out
      refine bodyPost_ret (disk_res rfl rfl rfl z.2.2) rfl ?_
      exact ⟨_, rfl, z.1, z.2.1⟩
    · have e1 := HP.out
      rw [packDk, if_pos hh] at e1
      cases e1
      have hin := headB_in hh
      simp only at hin
      obtain ⟨hn1, hn2, _⟩ := hin
      have HR : Hid ((qd, qb) = putDk d (no % 2) (packS ⟨no, ar, en⟩)) := (show _ = _ by rw [HQ.out, headPutDk, if_neg (by rw [HB.out]; simp), if_neg (by rw [hh]; simp)])
      have CC := sdiskPut_any (HD.out.below H3.out.1) HF.out (no % 2) (packS ⟨no, ar, en⟩) (by rw [packS_size]; omega)
      rw [← HR.out] at CC
      simp only at CC
      have CD := (show Hid _ from CC)
      obtain ⟨p, hp⟩ : ∃ p, p = packS ⟨no, ar, en⟩ := ⟨_, rfl⟩
      rw [← hp] at CD
      rw [← hp]
      have hm : no.tmod 2 = no % 2 := Int.tmod_eq_emod_of_nonneg (by omega)
      clear HP hh HQ HR CC hp
      go_wp2_with fail
      go_at_call 55
      refine Calls.mono CD.out ?_
      rintro e w4 ⟨v4, rfl, o4, b4⟩
      have H4 := (show Hid _ from H3.out.below b4)
      have O4 := (show Hid (OwnDk w.heap.size w4 v4 qd) from o4.based H3.out.1.size)
      clear CD o4 b4 H3 c1 c2 c3 q1 q2 hm
      obtain ⟨r1, r2, r3, r4⟩ := rk_two H4.out.at0
      obtain ⟨ta, tn, tc, ma, mn, mc, e4, _⟩ := O4.out
      subst e4
      go_wp2
      have z := OwnDk.laid H4.out (by omega) (by simp; omega) O4.out
      refine bodyPost_ret (disk_res rfl rfl rfl z.2.2) rfl ?_
      exact ⟨_, rfl, z.1, z.2.1⟩
end Go.Proofs.YtiejfnnokfedkaaDoor
