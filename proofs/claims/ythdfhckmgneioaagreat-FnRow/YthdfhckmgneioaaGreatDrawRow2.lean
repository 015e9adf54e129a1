/- The draw of a row: the walk of l10DrawRow. No condition. -/
import Derived.Test.YthdfhckmgneioaaGreatDrawRow
namespace Go.Proofs.YthdfhckmgneioaaGreat
open Go.RowKit
set_option maxRecDepth 100000
set_option linter.unusedVariables false

theorem ownN_one {B : Nat} {w : World} {u : Value} (h : OneTree B w u 1 (-1) ⟨#[]⟩ ⟨#[]⟩) : ∃ v, u = .agg #[v] ∧ OwnN B w v [⟨1, ⟨#[]⟩, [], ⟨#[]⟩, -1, []⟩] := by
  obtain ⟨v, rfl, ho⟩ := h
  exact ⟨v, rfl, [(⟨1, ⟨#[]⟩, [], ⟨#[]⟩, -1, []⟩, (.slice none 0 0, .slice none 0 0))], rfl, ho, fun q hq => by simp at hq; subst hq; exact ⟨World.ownsRow_nil _ _ _ _, World.ownsRow_nil _ _ _ _⟩⟩

theorem ownN_high {S r : Nat} {w : World} {v : Value} {ns : List PNode} (h : OwnN S w v ns) (hr : w.heap.size ≤ r) : OwnR S w v ns r := by
  obtain ⟨qs, h1, h2, h3⟩ := h
  exact ⟨qs, h1, h2, fun q hq => ⟨h3 q hq, fun e => by have := ((h3 q hq).2.lt r e).2; omega⟩⟩

set_option maxHeartbeats 4000000 in
set_option maxRecDepth 100000 in
theorem sdrawRow_any {w0 : World} {g : Nat} {cv : Value} {xs : List Int} {w : World} (hc : Cur w0 g cv xs w) (hb : ∀ x ∈ xs, 0 ≤ x ∧ x ≤ 255) :
    Calls Tryz.prog 30 #[.pointer (some ⟨g, 0, none⟩)] w fun e w' => ∃ nv rv ns row, e = .returned (.tuple #[.agg #[nv], rv]) ∧ OwnN w.heap.size w' nv ns ∧ Own w.heap.size 3 .i64 w' rv row ∧ (∀ n ∈ ns, NodeFit n) ∧ ns.length ≤ 100 ∧ row.length ≤ 100 ∧ parOf ns 0 = -1 ∧ Cur w0 g cv xs w' ∧ w.grownBy w' (some g) := by
  have HB := (show Hid (∀ x ∈ xs, 0 ≤ x ∧ x ≤ 255) from hb)
  have hgl := hc.lt
  have HC := (show Hid (Cur w0 g cv xs w) from hc)
  clear hb hc
  obtain ⟨ii, hii, hzi0, hzi1, hzi2⟩ := info_parts Tryz.infoIntRow
  go_enter Tryz.func30, Tryz.ntmps30
  go_wp2_with fail
  go_at_call 54
  refine Calls.mono (streeNew_any _) ?_
  rintro e w1 ⟨u1, rfl, one1, b1⟩
  obtain ⟨v1, rfl, own1⟩ := ownN_one one1
  obtain ⟨a1, n1, c1, rfl⟩ : ∃ a n c, v1 = .slice a n c := by obtain ⟨_, _, h, _⟩ := own1; exact own_slice h
  rw [World.size_alloc] at own1 b1
  have HW1 := (show Hid (OwnN (w.heap.size + 1) w1 (.slice a1 n1 c1) [⟨1, ⟨#[]⟩, [], ⟨#[]⟩, -1, []⟩]) from own1)
  have HB1 := (show Hid _ from b1)
  clear one1 own1 b1
  go_wp2
  obtain ⟨W4, hW4⟩ : ∃ W4, W4 = ((w1.alloc (.cells #[.slice a1 n1 c1] 26)).alloc (.cells #[] 3)).alloc (.cells #[.string ⟨#[104, 116, 109, 108]⟩, .string ⟨#[98, 111, 100, 121]⟩, .string ⟨#[112]⟩, .string ⟨#[108, 105]⟩, .string ⟨#[117, 108]⟩, .string ⟨#[98]⟩, .string ⟨#[100, 105, 118]⟩, .string ⟨#[98, 117, 116, 116, 111, 110]⟩, .string ⟨#[100, 100]⟩, .string ⟨#[111, 98, 106, 101, 99, 116]⟩, .string ⟨#[116, 97, 98, 108, 101]⟩, .string ⟨#[111, 112, 116, 105, 111, 110]⟩, .string ⟨#[105]⟩, .string ⟨#[111, 108]⟩, .string ⟨#[112]⟩, .string ⟨#[104, 49]⟩, .string ⟨#[97]⟩] 9) := ⟨_, rfl⟩
  have b0 : Below w.heap.size w (w.alloc (.cells #[.slice none 0 0] 26)) := (Below.refl _ _).alloc (Nat.le_refl _) _
  have hsz1 := HB1.out.size
  rw [World.size_alloc] at hsz1
  have bw1 : Below w.heap.size w w1 := b0.trans (HB1.out.mono (by omega))
  have b4 : Below w1.heap.size w1 W4 := by rw [hW4]; exact (((Below.refl _ w1).alloc (Nat.le_refl _) _).alloc (by simp) _).alloc (by simp; omega) _
  have gR1 : w1.heap[w.heap.size]? = some (.cells #[.slice none 0 0] 26 (0, 0)) := (HB1.out.block _ (by omega)).trans (World.alloc_heap_new _ _)
  have HD : Hid (DrW w0 w g cv xs w1.heap.size (w1.heap.size + 1 + 1) (.slice a1 n1 c1) [⟨1, ⟨#[]⟩, [], ⟨#[]⟩, -1, []⟩] (w1.heap.size + 1) 0 [] W4) := by
    refine ⟨HC.out.below (bw1.trans (b4.mono bw1.size)), (b4.block _ (by omega)).trans gR1, ?_, ?_, ?_, ?_, below_by g (bw1.trans (b4.mono bw1.size))⟩
    · rw [hW4, Below.heap_alloc _ _ _ (by simp only [World.size_alloc]; omega), Below.heap_alloc _ _ _ (by simp only [World.size_alloc]; omega)]
      exact World.alloc_heap_new _ _
    · rw [hW4]
      have := World.alloc_heap_new ((w1.alloc (.cells #[.slice a1 n1 c1] 26)).alloc (.cells #[] 3)) (.cells #[.string ⟨#[104, 116, 109, 108]⟩, .string ⟨#[98, 111, 100, 121]⟩, .string ⟨#[112]⟩, .string ⟨#[108, 105]⟩, .string ⟨#[117, 108]⟩, .string ⟨#[98]⟩, .string ⟨#[100, 105, 118]⟩, .string ⟨#[98, 117, 116, 116, 111, 110]⟩, .string ⟨#[100, 100]⟩, .string ⟨#[111, 98, 106, 101, 99, 116]⟩, .string ⟨#[116, 97, 98, 108, 101]⟩, .string ⟨#[111, 112, 116, 105, 111, 110]⟩, .string ⟨#[105]⟩, .string ⟨#[111, 108]⟩, .string ⟨#[112]⟩, .string ⟨#[104, 49]⟩, .string ⟨#[97]⟩] 9)
      rwa [World.size_alloc, World.size_alloc] at this
    · exact ((ownN_high HW1.out (show w1.heap.size ≤ w1.heap.size + 1 by omega)).base (by omega)).below b4
    · rw [hW4]
      have := (own_empty 3 .i64 (w1.alloc (.cells #[.slice a1 n1 c1] 26))).base (show w.heap.size ≤ _ by rw [World.size_alloc]; omega)
      rw [World.size_alloc] at this
      exact this.below ((Below.refl _ _).alloc (Nat.le_refl _) _)
  rw [← hW4]
  clear hW4 b4 gR1 bw1 b0 HW1 HB1 HC
  have hT : w.heap.size < w1.heap.size := by omega
  have hM : w.heap.size ≤ w1.heap.size + 1 + 1 := by omega
  obtain ⟨T, hTT⟩ : ∃ T, T = w1.heap.size := ⟨_, rfl⟩
  obtain ⟨M, hMM⟩ : ∃ M, M = w1.heap.size + 1 + 1 := ⟨_, rfl⟩
  obtain ⟨r0, hr0⟩ : ∃ r0, r0 = w1.heap.size + 1 := ⟨_, rfl⟩
  rw [← hMM] at HD hM ⊢
  rw [← hr0] at HD ⊢
  rw [← hTT] at HD hT ⊢
  clear hsz1 hMM hr0 hTT
  go_loopw [5, 7] (fun rv i wr => ∃ (k : Nat) (nv : Value) (ns : List PNode) (r rc : Nat) (row : List Int), k ≤ 8 ∧ i = .int .i64 k ∧ rv = .slice (some ⟨r, 0, none⟩) row.length rc ∧ Drawn ns row k ∧ DrW w0 w g cv xs T M nv ns r rc row wr) (fun _ i _ => 9 - (intOf i).toNat)
  case atStart => exact ⟨0, _, _, _, _, [], by omega, rfl, rfl, drawn_zero, HD.out⟩
  case round =>
    clear HD
    obtain ⟨k, nv, ns, r, rc, row, hk, rfl, rfl, hdr, hD⟩ := hrel
    have HDR := (show Hid (Drawn ns row k) from hdr)
    have HD := (show Hid (DrW w0 w g cv xs T M nv ns r rc row wr) from hD)
    clear hdr hD
    go_wp2_with fail
    go_at_call 32
    refine Calls.mono (below_any 9 (by omega) HD.out.cur HB.out) ?_
    rintro e W1 ⟨x, rfl, x0, x1, _, k1, g1⟩
    replace x1 := x1 (by omega)
    have HD1 := (show Hid _ from HD.out.cursor k1 g1 hgl hT hM)
    clear HD k1 g1
    by_cases hkx : (k : Int) < x
    · have hk7 : k ≤ 7 := by omega
      have hMg : M ≠ g := by omega
      go_wp2_with fail
      go_at_call 55
      refine Calls.mono (pickT_any HD1.out.cur HB.out M drawNames (by decide) (by decide) namesArr (by simp [namesArr]) 17 rfl HD1.out.bM hMg) ?_
      rintro e W2 ⟨t, rfl, ht, k2, g2⟩
      have hts := drawNames_small t ht
      have HD2 := (show Hid _ from HD1.out.cursor k2 g2 hgl hT hM)
      have HFT : Hid (∀ n ∈ ns, NodeFit n) := fun n hn => (HDR.out.mild n hn).fit (by omega)
      have HCNT := (show Hid (ns.length = k + 1) from HDR.out.cnt)
      obtain ⟨na, nn, nc, rfl⟩ : ∃ a n c, nv = .slice a n c := by obtain ⟨_, _, h, _⟩ := HD2.out.own; exact own_slice h
      have cT : W2.cell? ⟨T, 0, none⟩ = some (.slice na nn nc) := by have h := HD2.out.bT; simp only [World.cell?, h]; rfl
      clear HD1 k2 g2 ht
      by_cases hk0 : k = 0
      · have hk0' : ((k : Int) == 0) = true := by simp [hk0]
        have hrl0 : ¬ ((0 : Int) < (row.length : Int)) := by have := HDR.out.rowl; omega
        clear hk0
        go_wp2_with fail
        go_at_call 57
        refine Calls.mono (scopy_any HD2.out.own.toN.nodes HFT.out (by have := HCNT.out; omega)) ?_
        rintro e W3 ⟨v3, rfl, own3, b3⟩
        have HO3 := (show Hid _ from own3)
        have HB3 := (show Hid _ from b3)
        clear own3 b3
        go_wp2_with fail
        go_at_call 56
        refine Calls.mono (sadd_any HO3.out HB3.out.size (by have := HCNT.out; omega) (by have := HCNT.out; omega) 3 0 ⟨#[104, 116, 109, 108]⟩ ⟨#[]⟩ (rs := []) (sv_nil _) (by simp)) ?_
        rintro e W4 ⟨v4, rfl, own4, b4⟩
        rw [HCNT.out]
        obtain ⟨q4, cp4, rfl, hq4, hl4⟩ : ∃ g cap, v4 = .slice (some ⟨g, 0, none⟩) (ns ++ [(⟨3, ⟨#[104, 116, 109, 108]⟩, [], ⟨#[]⟩, -1, []⟩ : PNode)]).length cap ∧ W2.heap.size ≤ g ∧ g < W4.heap.size := by obtain ⟨_, _, h2, _⟩ := own4; exact one_form h2 (by simp)
        obtain ⟨L4, hL4⟩ : ∃ L4, L4 = (ns ++ [(⟨3, ⟨#[104, 116, 109, 108]⟩, [], ⟨#[]⟩, -1, []⟩ : PNode)]).length := ⟨_, rfl⟩
        have HL4 := (show Hid (L4 = (ns ++ [(⟨3, ⟨#[104, 116, 109, 108]⟩, [], ⟨#[]⟩, -1, []⟩ : PNode)]).length) from hL4)
        rw [← hL4] at own4 ⊢
        clear hL4
        have b24 : Below W2.heap.size W2 W4 := HB3.out.trans (b4.mono HB3.out.size)
        have HO4 := (show Hid (OwnN W2.heap.size W4 (.slice (some ⟨q4, 0, none⟩) L4 cp4) (ns ++ [(⟨3, ⟨#[104, 116, 109, 108]⟩, [], ⟨#[]⟩, -1, []⟩ : PNode)])) from own4)
        have HB4 := (show Hid (Below W2.heap.size W2 W4) from b24)
        clear own4 b4 b24 HO3 HB3
        have b5 : Below W4.heap.size W4 (W4.alloc (.cells #[.slice (some ⟨q4, 0, none⟩) L4 cp4] 26)) := (Below.refl _ _).alloc (Nat.le_refl _) _
        have CH := (show Hid _ from shang_any (c := k + 1) (p := 0) (HO4.out.below b5) (by have := HB4.out.size; rw [World.size_alloc]; omega) (by have := HCNT.out; simp only [List.length_append, List.length_singleton]; omega) (by have := HCNT.out; simp only [List.length_append, List.length_singleton]; omega) (by have := HCNT.out; simp only [List.length_append, List.length_singleton]; omega) (par_new (n := (⟨3, ⟨#[104, 116, 109, 108]⟩, [], ⟨#[]⟩, -1, []⟩ : PNode)) HCNT.out) (kids_few HDR.out (by omega) (by have := HCNT.out; omega)))
        have HB5 := (show Hid (Below W2.heap.size W2 (W4.alloc (.cells #[.slice (some ⟨q4, 0, none⟩) L4 cp4] 26))) from HB4.out.trans (b5.mono HB4.out.size))
        have c9 := cell_new W4 (.slice (some ⟨q4, 0, none⟩) L4 cp4) 26
        clear b5
        rw [show ((k + 1 : Nat) : Int) = (k : Int) + 1 by omega] at CH
        rw [show ((0 : Nat) : Int) = 0 from rfl] at CH
        go_wp2_with fail
        go_at_call 58
        refine Calls.mono CH.out ?_
        rintro e W6 ⟨rfl, own6, g6⟩
        have HD7 := (show Hid _ from HD2.out.tree HB5.out (p := q4) g6 hq4 own6 hgl hT hM)
        have e6T := (g6.block T (Nat.lt_of_lt_of_le (blk_lt HD2.out.bT) HB5.out.size) (fun e => by simp only [Value.ownBlock, Option.some.injEq] at e; have := blk_lt HD2.out.bT; omega)).trans ((HB5.out.block T (blk_lt HD2.out.bT)).trans HD2.out.bT)
        have y6 : W6.cell? ⟨T, 0, none⟩ = some (.slice na nn nc) := by simp only [World.cell?, e6T]; rfl
        have z6 : W6.frozen? ⟨T, 0, none⟩ = false := by simp [World.frozen?, e6T]
        have HDR7 := (show Hid _ from drawn_succ (nm := ⟨#[104, 116, 109, 108]⟩) (p := 0) HDR.out (by decide) (by have := HCNT.out; omega))
        clear CH own6 g6 e6T HO4 HB4 HB5 c9
        go_wp2_with fail
        go_at_call 59
        refine Calls.mono (once_any 9 (by omega) HD7.out.cur HB.out) ?_
        rintro e W8 ⟨bb, rfl, k8, g8⟩
        have HD8 := (show Hid _ from HD7.out.cursor k8 g8 hgl hT hM)
        clear HD7 k8 g8 y6 z6
        cases bb
        · skip
          have HD9 := (show Hid _ from HD8.out.below ((Below.refl _ _).alloc (Nat.le_refl _) (.cells #[.int .i64 ((k : Int) + 1)] 3)))
          have o9 := HD9.out.rw
          have hs9 := HD9.out.gr.size
          go_wp2_with (refine wpList_appB _ rfl (.tmp 54) (.tmp 56) 27 rfl w.heap.size 3 ii (.int .i64 0) 8 Tryz.underlying27 hii hzi0 hzi1 hzi2 rfl .i64 r rc row ⟨W8.heap.size, 0, none⟩ 1 [((k : Int) + 1)] rfl rfl o9 (sl_one _ _ _ _) (by simp; omega) (by unfold maxLen; simp; omega) hs9 ?_; intro r' cap' W10 o10 g10 hr10)
          have HDA := (show Hid _ from HD9.out.push g10 o10 hr10 hgl hT hM)
          have HDRA := (show Hid _ from drawn_row HDR7.out rfl HDR.out.rowl)
          rw [show ((k + 1 : Nat) : Int) = (k : Int) + 1 by omega] at HDRA
          clear HD8 HD9 o9 hs9 o10 g10 hr10
          go_roundw
          case rel => exact ⟨k + 1, _, _, r', cap', row ++ [((k : Int) + 1)], by omega, by go_num, by rw [List.length_append]; rfl, HDRA.out, HDA.out⟩
          case measure => simp [intOf]; omega
        · skip
          have HD9 := (show Hid _ from HD8.out.below ((Below.refl _ _).alloc (Nat.le_refl _) (.cells #[.int .i64 ((k : Int) + 1)] 3)))
          have o9 := HD9.out.rw
          have hs9 := HD9.out.gr.size
          go_wp2_with (refine wpList_appB _ rfl (.tmp 54) (.tmp 56) 27 rfl w.heap.size 3 ii (.int .i64 0) 8 Tryz.underlying27 hii hzi0 hzi1 hzi2 rfl .i64 r rc row ⟨W8.heap.size, 0, none⟩ 1 [((k : Int) + 1)] rfl rfl o9 (sl_one _ _ _ _) (by simp; omega) (by unfold maxLen; simp; omega) hs9 ?_; intro r' cap' W10 o10 g10 hr10)
          have HDA := (show Hid _ from HD9.out.push g10 o10 hr10 hgl hT hM)
          have HDRA := (show Hid _ from drawn_row HDR7.out rfl HDR.out.rowl)
          rw [show ((k + 1 : Nat) : Int) = (k : Int) + 1 by omega] at HDRA
          clear HD8 HD9 o9 hs9 o10 g10 hr10
          go_roundw
          case rel => exact ⟨k + 1, _, _, r', cap', row ++ [((k : Int) + 1)], by omega, by go_num, by rw [List.length_append]; rfl, HDRA.out, HDA.out⟩
          case measure => simp [intOf]; omega
      · have hk0' : ((k : Int) == 0) = false := by simp; omega
        clear hk0
        by_cases hrow : row = []
        · have hrl0 : ¬ ((0 : Int) < (row.length : Int)) := by rw [hrow]; decide
          clear hrow
          go_wp2_with fail
          go_at_call 57
          refine Calls.mono (scopy_any HD2.out.own.toN.nodes HFT.out (by have := HCNT.out; omega)) ?_
          rintro e W3 ⟨v3, rfl, own3, b3⟩
          have HO3 := (show Hid _ from own3)
          have HB3 := (show Hid _ from b3)
          clear own3 b3
          go_wp2_with fail
          go_at_call 56
          refine Calls.mono (sadd_any HO3.out HB3.out.size (by have := HCNT.out; omega) (by have := HCNT.out; omega) 3 0 t ⟨#[]⟩ (rs := []) (sv_nil _) (by simp)) ?_
          rintro e W4 ⟨v4, rfl, own4, b4⟩
          rw [HCNT.out]
          obtain ⟨q4, cp4, rfl, hq4, hl4⟩ : ∃ g cap, v4 = .slice (some ⟨g, 0, none⟩) (ns ++ [(⟨3, t, [], ⟨#[]⟩, -1, []⟩ : PNode)]).length cap ∧ W2.heap.size ≤ g ∧ g < W4.heap.size := by obtain ⟨_, _, h2, _⟩ := own4; exact one_form h2 (by simp)
          obtain ⟨L4, hL4⟩ : ∃ L4, L4 = (ns ++ [(⟨3, t, [], ⟨#[]⟩, -1, []⟩ : PNode)]).length := ⟨_, rfl⟩
          have HL4 := (show Hid (L4 = (ns ++ [(⟨3, t, [], ⟨#[]⟩, -1, []⟩ : PNode)]).length) from hL4)
          rw [← hL4] at own4 ⊢
          clear hL4
          have b24 : Below W2.heap.size W2 W4 := HB3.out.trans (b4.mono HB3.out.size)
          have HO4 := (show Hid (OwnN W2.heap.size W4 (.slice (some ⟨q4, 0, none⟩) L4 cp4) (ns ++ [(⟨3, t, [], ⟨#[]⟩, -1, []⟩ : PNode)])) from own4)
          have HB4 := (show Hid (Below W2.heap.size W2 W4) from b24)
          clear own4 b4 b24 HO3 HB3
          have b5 : Below W4.heap.size W4 (W4.alloc (.cells #[.slice (some ⟨q4, 0, none⟩) L4 cp4] 26)) := (Below.refl _ _).alloc (Nat.le_refl _) _
          have CH := (show Hid _ from shang_any (c := k + 1) (p := 0) (HO4.out.below b5) (by have := HB4.out.size; rw [World.size_alloc]; omega) (by have := HCNT.out; simp only [List.length_append, List.length_singleton]; omega) (by have := HCNT.out; simp only [List.length_append, List.length_singleton]; omega) (by have := HCNT.out; simp only [List.length_append, List.length_singleton]; omega) (par_new (n := (⟨3, t, [], ⟨#[]⟩, -1, []⟩ : PNode)) HCNT.out) (kids_few HDR.out (by omega) (by have := HCNT.out; omega)))
          have HB5 := (show Hid (Below W2.heap.size W2 (W4.alloc (.cells #[.slice (some ⟨q4, 0, none⟩) L4 cp4] 26))) from HB4.out.trans (b5.mono HB4.out.size))
          have c9 := cell_new W4 (.slice (some ⟨q4, 0, none⟩) L4 cp4) 26
          clear b5
          rw [show ((k + 1 : Nat) : Int) = (k : Int) + 1 by omega] at CH
          rw [show ((0 : Nat) : Int) = 0 from rfl] at CH
          go_wp2_with fail
          go_at_call 58
          refine Calls.mono CH.out ?_
          rintro e W6 ⟨rfl, own6, g6⟩
          have HD7 := (show Hid _ from HD2.out.tree HB5.out (p := q4) g6 hq4 own6 hgl hT hM)
          have e6T := (g6.block T (Nat.lt_of_lt_of_le (blk_lt HD2.out.bT) HB5.out.size) (fun e => by simp only [Value.ownBlock, Option.some.injEq] at e; have := blk_lt HD2.out.bT; omega)).trans ((HB5.out.block T (blk_lt HD2.out.bT)).trans HD2.out.bT)
          have y6 : W6.cell? ⟨T, 0, none⟩ = some (.slice na nn nc) := by simp only [World.cell?, e6T]; rfl
          have z6 : W6.frozen? ⟨T, 0, none⟩ = false := by simp [World.frozen?, e6T]
          have HDR7 := (show Hid _ from drawn_succ (nm := t) (p := 0) HDR.out hts (by have := HCNT.out; omega))
          clear CH own6 g6 e6T HO4 HB4 HB5 c9
          go_wp2_with fail
          go_at_call 59
          refine Calls.mono (once_any 9 (by omega) HD7.out.cur HB.out) ?_
          rintro e W8 ⟨bb, rfl, k8, g8⟩
          have HD8 := (show Hid _ from HD7.out.cursor k8 g8 hgl hT hM)
          clear HD7 k8 g8 y6 z6
          cases bb
          · skip
            have HD9 := (show Hid _ from HD8.out.below ((Below.refl _ _).alloc (Nat.le_refl _) (.cells #[.int .i64 ((k : Int) + 1)] 3)))
            have o9 := HD9.out.rw
            have hs9 := HD9.out.gr.size
            go_wp2_with (refine wpList_appB _ rfl (.tmp 54) (.tmp 56) 27 rfl w.heap.size 3 ii (.int .i64 0) 8 Tryz.underlying27 hii hzi0 hzi1 hzi2 rfl .i64 r rc row ⟨W8.heap.size, 0, none⟩ 1 [((k : Int) + 1)] rfl rfl o9 (sl_one _ _ _ _) (by simp; omega) (by unfold maxLen; simp; omega) hs9 ?_; intro r' cap' W10 o10 g10 hr10)
            have HDA := (show Hid _ from HD9.out.push g10 o10 hr10 hgl hT hM)
            have HDRA := (show Hid _ from drawn_row HDR7.out rfl HDR.out.rowl)
            rw [show ((k + 1 : Nat) : Int) = (k : Int) + 1 by omega] at HDRA
            clear HD8 HD9 o9 hs9 o10 g10 hr10
            go_roundw
            case rel => exact ⟨k + 1, _, _, r', cap', row ++ [((k : Int) + 1)], by omega, by go_num, by rw [List.length_append]; rfl, HDRA.out, HDA.out⟩
            case measure => simp [intOf]; omega
          · skip
            go_wp2
            go_roundw
            case rel => exact ⟨k + 1, _, _, r, rc, row, by omega, by go_num, rfl, HDR7.out, HD8.out⟩
            case measure => simp [intOf]; omega
        · obtain ⟨lj, hlj⟩ : ∃ lj, row.length = lj + 1 := ⟨row.length - 1, by have := List.length_pos_iff.mpr hrow; omega⟩
          have hjl : lj < row.length := by omega
          have hrs : (row.length : Int) - 1 = (lj : Int) := by omega
          have hin := HDR.out.rowin (row[lj]'hjl) (List.getElem_mem _)
          have hcn := HCNT.out
          obtain ⟨pp, hpp⟩ : ∃ pp : Nat, row[lj]'hjl = (pp : Int) := ⟨(row[lj]'hjl).toNat, by omega⟩
          have hpl : pp < ns.length := by rw [hpp] at hin; omega
          have HPP := (show Hid (row[lj]'hjl = (pp : Int)) from hpp)
          have hrg : (0 : Int) < (row.length : Int) := by omega
          have hrb : row.length ≤ 8 := by have := HDR.out.rowl; omega
          clear hin hpp hcn hrow hlj
          go_wp2_with fail
          go_at_call 57
          refine Calls.mono (scopy_any HD2.out.own.toN.nodes HFT.out (by have := HCNT.out; omega)) ?_
          rintro e W3 ⟨v3, rfl, own3, b3⟩
          have HO3 := (show Hid _ from own3)
          have HB3 := (show Hid _ from b3)
          clear own3 b3
          go_wp2_with fail
          go_at_call 56
          refine Calls.mono (sadd_any HO3.out HB3.out.size (by have := HCNT.out; omega) (by have := HCNT.out; omega) 3 0 t ⟨#[]⟩ (rs := []) (sv_nil _) (by simp)) ?_
          rintro e W4 ⟨v4, rfl, own4, b4⟩
          rw [HCNT.out]
          obtain ⟨q4, cp4, rfl, hq4, hl4⟩ : ∃ g cap, v4 = .slice (some ⟨g, 0, none⟩) (ns ++ [(⟨3, t, [], ⟨#[]⟩, -1, []⟩ : PNode)]).length cap ∧ W2.heap.size ≤ g ∧ g < W4.heap.size := by obtain ⟨_, _, h2, _⟩ := own4; exact one_form h2 (by simp)
          obtain ⟨L4, hL4⟩ : ∃ L4, L4 = (ns ++ [(⟨3, t, [], ⟨#[]⟩, -1, []⟩ : PNode)]).length := ⟨_, rfl⟩
          have HL4 := (show Hid (L4 = (ns ++ [(⟨3, t, [], ⟨#[]⟩, -1, []⟩ : PNode)]).length) from hL4)
          rw [← hL4] at own4 ⊢
          clear hL4
          have b24 : Below W2.heap.size W2 W4 := HB3.out.trans (b4.mono HB3.out.size)
          have HO4 := (show Hid (OwnN W2.heap.size W4 (.slice (some ⟨q4, 0, none⟩) L4 cp4) (ns ++ [(⟨3, t, [], ⟨#[]⟩, -1, []⟩ : PNode)])) from own4)
          have HB4 := (show Hid (Below W2.heap.size W2 W4) from b24)
          clear own4 b4 b24 HO3 HB3
          have b5 : Below W4.heap.size W4 (W4.alloc (.cells #[.slice (some ⟨q4, 0, none⟩) L4 cp4] 26)) := (Below.refl _ _).alloc (Nat.le_refl _) _
          have CH := (show Hid _ from shang_any (c := k + 1) (p := pp) (HO4.out.below b5) (by have := HB4.out.size; rw [World.size_alloc]; omega) (by have := HCNT.out; simp only [List.length_append, List.length_singleton]; omega) (by have := HCNT.out; simp only [List.length_append, List.length_singleton]; omega) (by have := HCNT.out; simp only [List.length_append, List.length_singleton]; omega) (par_new (n := (⟨3, t, [], ⟨#[]⟩, -1, []⟩ : PNode)) HCNT.out) (kids_few HDR.out (by omega) hpl))
          have HB5 := (show Hid (Below W2.heap.size W2 (W4.alloc (.cells #[.slice (some ⟨q4, 0, none⟩) L4 cp4] 26))) from HB4.out.trans (b5.mono HB4.out.size))
          have c9 := cell_new W4 (.slice (some ⟨q4, 0, none⟩) L4 cp4) 26
          clear b5
          rw [show ((k + 1 : Nat) : Int) = (k : Int) + 1 by omega] at CH
          have cr := row_cell ((HD2.out.below HB5.out).rw) lj hjl
          rw [HPP.out] at cr
          go_wp2_with fail
          go_at_call 58
          refine Calls.mono CH.out ?_
          rintro e W6 ⟨rfl, own6, g6⟩
          have HD7 := (show Hid _ from HD2.out.tree HB5.out (p := q4) g6 hq4 own6 hgl hT hM)
          have e6T := (g6.block T (Nat.lt_of_lt_of_le (blk_lt HD2.out.bT) HB5.out.size) (fun e => by simp only [Value.ownBlock, Option.some.injEq] at e; have := blk_lt HD2.out.bT; omega)).trans ((HB5.out.block T (blk_lt HD2.out.bT)).trans HD2.out.bT)
          have y6 : W6.cell? ⟨T, 0, none⟩ = some (.slice na nn nc) := by simp only [World.cell?, e6T]; rfl
          have z6 : W6.frozen? ⟨T, 0, none⟩ = false := by simp [World.frozen?, e6T]
          have HDR7 := (show Hid _ from drawn_succ (nm := t) (p := pp) HDR.out hts hpl)
          clear CH own6 g6 e6T HO4 HB4 HB5 c9
          go_wp2_with fail
          go_at_call 59
          refine Calls.mono (once_any 9 (by omega) HD7.out.cur HB.out) ?_
          rintro e W8 ⟨bb, rfl, k8, g8⟩
          have HD8 := (show Hid _ from HD7.out.cursor k8 g8 hgl hT hM)
          clear HD7 k8 g8 y6 z6
          cases bb
          · skip
            have HD9 := (show Hid _ from HD8.out.below ((Below.refl _ _).alloc (Nat.le_refl _) (.cells #[.int .i64 ((k : Int) + 1)] 3)))
            have o9 := HD9.out.rw
            have hs9 := HD9.out.gr.size
            go_wp2_with (refine wpList_appB _ rfl (.tmp 54) (.tmp 56) 27 rfl w.heap.size 3 ii (.int .i64 0) 8 Tryz.underlying27 hii hzi0 hzi1 hzi2 rfl .i64 r rc row ⟨W8.heap.size, 0, none⟩ 1 [((k : Int) + 1)] rfl rfl o9 (sl_one _ _ _ _) (by simp; omega) (by unfold maxLen; simp; omega) hs9 ?_; intro r' cap' W10 o10 g10 hr10)
            have HDA := (show Hid _ from HD9.out.push g10 o10 hr10 hgl hT hM)
            have HDRA := (show Hid _ from drawn_row HDR7.out rfl HDR.out.rowl)
            rw [show ((k + 1 : Nat) : Int) = (k : Int) + 1 by omega] at HDRA
            clear HD8 HD9 o9 hs9 o10 g10 hr10
            go_roundw
            case rel => exact ⟨k + 1, _, _, r', cap', row ++ [((k : Int) + 1)], by omega, by go_num, by rw [List.length_append]; rfl, HDRA.out, HDA.out⟩
            case measure => simp [intOf]; omega
          · skip
            go_wp2
            go_roundw
            case rel => exact ⟨k + 1, _, _, r, rc, row, by omega, by go_num, rfl, HDR7.out, HD8.out⟩
            case measure => simp [intOf]; omega
    · have HDN := (show Hid (Drawn ns row k) from HDR.out)
      obtain ⟨na, nn, nc, rfl⟩ : ∃ a n c, nv = .slice a n c := by obtain ⟨_, _, h, _⟩ := HD1.out.own; exact own_slice h
      go_wp2_with fail
      go_at_call 32
      refine Calls.mono (below_any 25 (by omega) HD1.out.cur HB.out) ?_
      rintro e W2 ⟨y, rfl, y0, y1, _, k2, g2⟩
      have HD2 := (show Hid _ from HD1.out.cursor k2 g2 hgl hT hM)
      have hrl := HDN.out.rowl
      clear HD1 k2 g2
      rcases (show y = 0 ∨ y = 1 ∨ y = 2 ∨ 2 < y by omega) with rfl | rfl | rfl | hy
      · skip
        have HD3 := (show Hid _ from HD2.out.below ((Below.refl _ _).alloc (Nat.le_refl _) (.cells #[.int .i64 0] 3)))
        have o3 := HD3.out.rw
        have hs3 := HD3.out.gr.size
        go_upto_region 24 with (refine wpList_appB _ rfl (.tmp 62) (.tmp 63) 27 rfl w.heap.size 3 ii (.int .i64 0) 8 Tryz.underlying27 hii hzi0 hzi1 hzi2 rfl .i64 r rc row ⟨W2.heap.size, 0, none⟩ 1 [(0 : Int)] rfl rfl o3 (sl_one _ _ _ _) (by first | omega | (simp; omega)) (by unfold maxLen; first | omega | (simp; omega)) hs3 ?_; intro r' cap' W4 o4 g4 hr4)
        have HD4 := (show Hid _ from HD3.out.push g4 o4 hr4 hgl hT hM)
        clear HD3 o3 hs3 o4 g4 hr4
        have k0 : W4.cell? ⟨T, 0, none⟩ = some (.slice na nn nc) := by have h := HD4.out.bT; simp only [World.cell?, h]; rfl
        have k1 : W4.cell? ⟨w.heap.size, 0, none⟩ = some (.slice none 0 0) := by have h := HD4.out.bR; simp only [World.cell?, h]; rfl
        have z1 : W4.frozen? ⟨w.heap.size, 0, none⟩ = false := by have h := HD4.out.bR; simp [World.frozen?, h]
        go_wp2
        have gs := setCell_at (k := 0) (u := .slice na nn nc) HD4.out.bR
        refine bodyPost_ret (draw_res rfl rfl gs) rfl ?_
        obtain ⟨f1, f2, f3, f4⟩ := HD4.out.fin hgl (.slice na nn nc)
        exact ⟨_, _, ns, row ++ [(0 : Int)], rfl, f1, (by first | exact f2 | (rw [List.length_append] at f2; exact f2)), fun n hn => (HDN.out.mild n hn).fit (by omega), by have := HDN.out.cnt; omega, by first | omega | (simp; omega), HDN.out.par0, f3, f4⟩
      · skip
        have HD3 := (show Hid _ from HD2.out)
        have o3 := HD3.out.rw
        have hs3 := HD3.out.gr.size
        go_upto_region 24 with (refine wpList_appB _ rfl (.tmp 67) (.tmp 68) 27 rfl w.heap.size 3 ii (.int .i64 0) 8 Tryz.underlying27 hii hzi0 hzi1 hzi2 rfl .i64 r rc row ⟨r, 0, none⟩ rc row rfl rfl o3 o3.sl (by first | omega | (simp; omega)) (by unfold maxLen; first | omega | (simp; omega)) hs3 ?_; intro r' cap' W4 o4 g4 hr4)
        have HD4 := (show Hid _ from HD3.out.push g4 o4 hr4 hgl hT hM)
        clear HD3 o3 hs3 o4 g4 hr4
        have k0 : W4.cell? ⟨T, 0, none⟩ = some (.slice na nn nc) := by have h := HD4.out.bT; simp only [World.cell?, h]; rfl
        have k1 : W4.cell? ⟨w.heap.size, 0, none⟩ = some (.slice none 0 0) := by have h := HD4.out.bR; simp only [World.cell?, h]; rfl
        have z1 : W4.frozen? ⟨w.heap.size, 0, none⟩ = false := by have h := HD4.out.bR; simp [World.frozen?, h]
        go_wp2
        have gs := setCell_at (k := 0) (u := .slice na nn nc) HD4.out.bR
        refine bodyPost_ret (draw_res rfl rfl gs) rfl ?_
        obtain ⟨f1, f2, f3, f4⟩ := HD4.out.fin hgl (.slice na nn nc)
        exact ⟨_, _, ns, row ++ row, rfl, f1, (by first | exact f2 | (rw [List.length_append] at f2; exact f2)), fun n hn => (HDN.out.mild n hn).fit (by omega), by have := HDN.out.cnt; omega, by first | omega | (simp; omega), HDN.out.par0, f3, f4⟩
      · go_wp2_with fail
        go_at_call 32
        refine Calls.mono (below_any 12 (by omega) HD2.out.cur HB.out) ?_
        rintro e W5 ⟨z, rfl, z0, z1, _, k5, g5⟩
        have HD5 := (show Hid _ from HD2.out.cursor k5 g5 hgl hT hM)
        replace z1 := z1 (by omega)
        clear HD2 k5 g5
        have HD3 := (show Hid _ from HD5.out.below ((Below.refl _ _).alloc (Nat.le_refl _) (.cells #[.int .i64 (z - 1)] 3)))
        have o3 := HD3.out.rw
        have hs3 := HD3.out.gr.size
        go_upto_region 24 with (refine wpList_appB _ rfl (.tmp 72) (.tmp 76) 27 rfl w.heap.size 3 ii (.int .i64 0) 8 Tryz.underlying27 hii hzi0 hzi1 hzi2 rfl .i64 r rc row ⟨W5.heap.size, 0, none⟩ 1 [z - 1] rfl rfl o3 (sl_one _ _ _ _) (by first | omega | (simp; omega)) (by unfold maxLen; first | omega | (simp; omega)) hs3 ?_; intro r' cap' W4 o4 g4 hr4)
        have HD4 := (show Hid _ from HD3.out.push g4 o4 hr4 hgl hT hM)
        clear HD3 o3 hs3 o4 g4 hr4
        have k0 : W4.cell? ⟨T, 0, none⟩ = some (.slice na nn nc) := by have h := HD4.out.bT; simp only [World.cell?, h]; rfl
        have k1 : W4.cell? ⟨w.heap.size, 0, none⟩ = some (.slice none 0 0) := by have h := HD4.out.bR; simp only [World.cell?, h]; rfl
        have z1 : W4.frozen? ⟨w.heap.size, 0, none⟩ = false := by have h := HD4.out.bR; simp [World.frozen?, h]
        go_wp2
        have gs := setCell_at (k := 0) (u := .slice na nn nc) HD4.out.bR
        refine bodyPost_ret (draw_res rfl rfl gs) rfl ?_
        obtain ⟨f1, f2, f3, f4⟩ := HD4.out.fin hgl (.slice na nn nc)
        exact ⟨_, _, ns, row ++ [z - 1], rfl, f1, (by first | exact f2 | (rw [List.length_append] at f2; exact f2)), fun n hn => (HDN.out.mild n hn).fit (by omega), by have := HDN.out.cnt; omega, by first | omega | (simp; omega), HDN.out.par0, f3, f4⟩
      · have n0 : (y == 0) = false := by simp; omega
        have n1 : (y == 1) = false := by simp; omega
        have n2 : (y == 2) = false := by simp; omega
        have k0 : W2.cell? ⟨T, 0, none⟩ = some (.slice na nn nc) := by have h := HD2.out.bT; simp only [World.cell?, h]; rfl
        have k1 : W2.cell? ⟨w.heap.size, 0, none⟩ = some (.slice none 0 0) := by have h := HD2.out.bR; simp only [World.cell?, h]; rfl
        have z1 : W2.frozen? ⟨w.heap.size, 0, none⟩ = false := by have h := HD2.out.bR; simp [World.frozen?, h]
        go_wp2
        have gs := setCell_at (k := 0) (u := .slice na nn nc) HD2.out.bR
        refine bodyPost_ret (draw_res rfl rfl gs) rfl ?_
        obtain ⟨f1, f2, f3, f4⟩ := HD2.out.fin hgl (.slice na nn nc)
        exact ⟨_, _, ns, row, rfl, f1, (by first | exact f2 | (rw [List.length_append] at f2; exact f2)), fun n hn => (HDN.out.mild n hn).fit (by omega), by have := HDN.out.cnt; omega, by first | omega | (simp; omega), HDN.out.par0, f3, f4⟩
end Go.Proofs.YthdfhckmgneioaaGreat
