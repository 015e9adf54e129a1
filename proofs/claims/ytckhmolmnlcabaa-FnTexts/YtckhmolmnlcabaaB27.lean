import Derived.Test.YtckhmolmnlcabaaB23
import Derived.Test.YtckhmolmnlcabaaB25
import Derived.Test.YtckhmolmnlcabaaB26
import Derived.Test.YtckhmolmnlcabaaB11
import Derived.Test.YtckhmolmnlcabaaB19
import Derived.Laws.Concat
import Derived.Test.YtckhmolmnlcabaaB22
/- The specification's l8Text and TextOf. No condition. -/
namespace Go.Proofs.Ytckhmolmnlcabaa
open Go.RowKit
set_option maxRecDepth 100000
set_option linter.unusedVariables false

def strL (l : List UInt8) : ByteArray := ⟨l.toArray⟩
theorem strL_app (a b : List UInt8) : strL a ++ strL b = strL (a ++ b) := ByteArray.mk_append_mk a b
theorem strL_size (a : List UInt8) : (strL a).size = a.length := rfl
theorem strL_data (s : ByteArray) : strL s.data.toList = s := rfl

set_option maxHeartbeats 2000000 in
set_option maxRecDepth 100000 in
theorem stext_any {ns : List PNode} (hlen : ns.length ≤ 1048576) : ∀ (f k : Nat), deepOk ns f k → (textL ns f k).length ≤ 1000000000 → ∀ (w : World) (v : Value), NodesAt w v ns →
    Calls Try.prog 18 #[.agg #[v], .int .i64 (k : Int)] w fun e w' => e = .returned (.string (strL (textL ns f k))) ∧ Below w.heap.size w w' := by
  intro f
  induction f with
  | zero => intro k h; exact h.elim
  | succ f ih =>
    intro k hk hsz w v hn
    have IH := (show Hid _ from ih)
    have hklt := hk.1
    have HK := (show Hid (∀ x ∈ kidsOf ns k, 0 ≤ x ∧ deepOk ns f x.toNat) from hk.2)
    have HSZ := (show Hid ((textL ns (f + 1) k).length ≤ 1000000000) from hsz)
    have HN := (show Hid (NodesAt w v ns) from hn)
    obtain ⟨a, cap, rfl, hc1, hc2, hcs⟩ := hn.slice
    obtain ⟨b, off, av, kv, rfl, hblt, c0, c1, c2, c3, c4, c5, hav, hkv⟩ := hcs k hklt
    obtain ⟨av1, av2, av3, rfl, _⟩ := hav
    obtain ⟨kv1, kv3, rfl, hkl1, hkl2, _, hkc⟩ := hkv
    have HKC := (show Hid (Cells .i64 w kv1 ns[k].kids) from hkc)
    have HTX : Hid (textL ns (f + 1) k = txL ns[k] ++ (kidsOf ns k).flatMap fun x => textL ns f x.toNat) := (by rw [textL, txAt_at hklt] : textL ns (f + 1) k = _)
    rw [kidsOf_at hklt] at HTX HK
    obtain ⟨nd, hnd⟩ : ∃ nd, nd = ns[k] := ⟨_, rfl⟩
    rw [← hnd] at c0 c1 c3 c4 c5 HKC HTX HK hkl1
    obtain ⟨k0, k1, rs, k3, k4, ks⟩ := nd
    simp only at c0 c1 c3 c4 c5 HKC HTX HK hkl1
    clear hkc ih hn hcs hnd hk hsz
    obtain ⟨w2, hw2⟩ : ∃ x, x = (w.alloc (.cells #[.slice (some ⟨b, off, none⟩) ns.length cap] 26)).alloc (.cells #[.int .i64 k0, .string k1, .slice av1 av2 av3, .string k3, .int .i64 k4, .slice kv1 ks.length kv3] 34) := ⟨_, rfl⟩
    have b2 : Below w.heap.size w w2 := by rw [hw2]; exact ((Below.refl _ w).alloc (Nat.le_refl _) _).alloc (by simp) _
    have gT : w2.heap[w.heap.size]? = some (.cells #[.slice (some ⟨b, off, none⟩) ns.length cap] 26 (0, 0)) := by rw [hw2, Below.heap_alloc _ _ _ (by simp)]; exact World.alloc_heap_new _ _
    have gN : w2.heap[w.heap.size + 1]? = some (.cells #[.int .i64 k0, .string k1, .slice av1 av2 av3, .string k3, .int .i64 k4, .slice kv1 ks.length kv3] 34 (0, 0)) := by
      rw [hw2]
      have := World.alloc_heap_new (w.alloc (.cells #[.slice (some ⟨b, off, none⟩) ns.length cap] 26)) (.cells #[.int .i64 k0, .string k1, .slice av1 av2 av3, .string k3, .int .i64 k4, .slice kv1 ks.length kv3] 34)
      rwa [World.size_alloc] at this
    have cT : w2.cell? ⟨w.heap.size, 0, none⟩ = some (.slice (some ⟨b, off, none⟩) ns.length cap) := by simp only [World.cell?, gT]; rfl
    have cN5 : w2.cell? ⟨w.heap.size + 1, 5, none⟩ = some (.slice kv1 ks.length kv3) := by simp only [World.cell?, gN]; rfl
    have lT := blk_lt gT
    have lN := blk_lt gN
    have B2 := (show Hid (Below w.heap.size w w2) from b2)
    have CT := (show Hid _ from cT)
    have CN5 := (show Hid _ from cN5)
    clear gT gN b2 cT cN5
    have hkm : ks.length < 9223372036854775808 := by unfold maxLen at hkl2; omega
    obtain ⟨own, hown⟩ : ∃ own, own = txL ⟨k0, k1, rs, k3, k4, ks⟩ := ⟨_, rfl⟩
    have HOWN := (show Hid (own = txL ⟨k0, k1, rs, k3, k4, ks⟩) from hown)
    rw [← hown] at HTX
    clear hown
    go_enter Try.func18, Try.ntmps18
    by_cases h4 : k0 = 4
    all_goals
      (try subst h4)
      go_wp2
      rw [← hw2]
      clear hw2 c0 c1 c2 c3 c4 c5
      go_loopw [6, 7] (fun o i wr => ∃ j : Nat, j ≤ ks.length ∧ i = .int .i64 j ∧ o = .string (strL (own ++ (ks.take j).flatMap fun x => textL ns f x.toNat)) ∧ Below w2.heap.size w2 wr) (fun _ i _ => ks.length - (intOf i).toNat)
      case atStart =>
        refine ⟨0, Nat.zero_le _, rfl, ?_, Below.refl _ _⟩
        rw [HOWN.out]
        simp [txL, strL]
        try simp [h4]
      case round =>
        obtain ⟨j, hj, rfl, rfl, bel⟩ := hrel
        have BEL := (show Hid (Below w2.heap.size w2 wr) from bel)
        have cN := (bel.cell (p := ⟨w.heap.size + 1, 5, none⟩) lN).trans CN5.out
        by_cases hlt : j < ks.length
        · have HT1 : Hid (ks.take (j + 1) = ks.take j ++ [ks[j]]) := take_snoc ks hlt
          obtain ⟨hx0, hdx⟩ := HK.out ks[j] (List.getElem_mem hlt)
          obtain ⟨x, hx⟩ : ∃ x, x = ks[j] := ⟨_, rfl⟩
          rw [← hx] at HT1 hx0 hdx
          obtain ⟨q, rfl⟩ : ∃ q : Nat, x = (q : Int) := ⟨x.toNat, by omega⟩
          rw [show ((q : Int)).toNat = q by simp] at hdx
          have hsp : (own ++ (ks.take j).flatMap (fun x => textL ns f x.toNat)).length + (textL ns f q).length ≤ 1000000000 := by
            have h1 := HSZ.out
            rw [HTX.out] at h1
            have h2 : ks = (ks.take j ++ [(q : Int)]) ++ ks.drop (j + 1) := by rw [← HT1.out]; exact (List.take_append_drop _ _).symm
            have h3 : (ks.flatMap fun x => textL ns f x.toNat).length = ((ks.take j).flatMap fun x => textL ns f x.toNat).length + (textL ns f q).length + ((ks.drop (j + 1)).flatMap fun x => textL ns f x.toNat).length := by
              conv => lhs; rw [h2]
              rw [List.flatMap_append, List.flatMap_append, List.flatMap_singleton, List.length_append, List.length_append, show ((q : Int)).toNat = q by simp]
            rw [List.length_append, h3] at h1
            rw [List.length_append]
            omega
          obtain ⟨kb, ko, rfl, ck⟩ := HKC.out j hlt
          have hkb := lt_of_cell6 ck
          rw [show ks.getD j 0 = (q : Int) by simp [List.getD_eq_getElem?_getD, hlt, ← hx]] at ck
          obtain ⟨s1, hs1⟩ : ∃ s1, s1 = strL (own ++ (ks.take j).flatMap fun x => textL ns f x.toNat) := ⟨_, rfl⟩
          obtain ⟨s2, hs2⟩ : ∃ s2, s2 = strL (textL ns f q) := ⟨_, rfl⟩
          have hz : s1.size + s2.size ≤ 9223372036854775807 := by rw [hs1, hs2, strL_size, strL_size]; omega
          have HE : Hid (s1 ++ s2 = strL (own ++ (ks.take (j + 1)).flatMap fun x => textL ns f x.toNat)) := (by
            rw [hs1, hs2, strL_app, HT1.out, List.flatMap_append, List.flatMap_singleton, show ((q : Int)).toNat = q by simp, List.append_assoc] : s1 ++ s2 = strL (own ++ (ks.take (j + 1)).flatMap fun x => textL ns f x.toNat))
          have CI := (show Hid (∀ n : Wd w2.heap.size w2, Calls Try.prog 18 #[.agg #[.slice (some ⟨b, off, none⟩) ns.length cap], .int .i64 (q : Int)] n.w fun e w' => e = .returned (.string s2) ∧ Below n.w.heap.size n.w w') from fun n => by rw [hs2]; exact IH.out q hdx (by omega) n.w _ (HN.out.below (B2.out.trans (n.below.mono B2.out.size))))
          rw [← hs1]
          have f0 : ∀ n : Wd w2.heap.size w2, n.w.cell? ⟨w.heap.size, 0, none⟩ = some (.slice (some ⟨b, off, none⟩) ns.length cap) := fun n => (n.below.cell (p := ⟨w.heap.size, 0, none⟩) lT).trans CT.out
          have f1 : ∀ n : Wd w2.heap.size w2, n.w.cell? ⟨w.heap.size + 1, 5, none⟩ = some (.slice (some ⟨kb, ko, none⟩) ks.length kv3) := fun n => (n.below.cell (p := ⟨w.heap.size + 1, 5, none⟩) lN).trans CN5.out
          have f2 : ∀ n : Wd w2.heap.size w2, n.w.cell? ⟨kb, ko + j, none⟩ = some (.int .i64 (q : Int)) := fun n => ((B2.out.trans (n.below.mono B2.out.size)).cell (p := ⟨kb, ko + j, none⟩) hkb).trans ck
          have hadd : ∀ W, (Op.stringOp .add s1 s2).run Try.prog W = .ok (.string (s1 ++ s2)) W := fun W => run_string_add_sum W s1 s2 hz
          have ne := Wd.any w2.heap.size w2
          clear hs1 hs2 hx hdx hsp ck hx0
          go_wp2
          refine wp_region_below (B := w2.heap.size) (w0 := w2) (by kernel_rfl) (by kernel_rfl) BEL.out ?_
          repeat (go_big_quiet_step ((go_at_call 18; exact quiet_below (CI.out _) (Nat.le_refl _))))
          refine wpQuiet_nil ?_
          intro wq hq
          replace hq := Wd.of hq
          clear f0 f1 f2 hadd
          go_wp2
          go_roundw
          case rel => exact ⟨j + 1, by omega, by go_num, by rw [HE.out], hq⟩
          case measure => simp [intOf]; omega
        · obtain rfl : j = ks.length := by omega
          go_wp2
          go_ret
          exact ⟨by rw [HTX.out, List.take_length]; rfl, B2.out.trans (BEL.out.mono B2.out.size)⟩

set_option maxRecDepth 100000 in
theorem stextOf_any {w : World} {v : Value} {ns : List PNode} (hn : NodesAt w v ns) (hfit : ∀ n ∈ ns, NodeFit n) (hlen : ns.length ≤ 1048576) (at' : Int) :
    Calls Try.prog 7 #[.agg #[v], .int .i64 at'] w fun e w' => ∃ s, e = .returned (.string s) ∧ ((STreeOkP ns ∧ 0 ≤ at' ∧ at' < ns.length → s = ⟨(textL ns ns.length at'.toNat).toArray⟩) ∧ (¬ (STreeOkP ns ∧ 0 ≤ at' ∧ at' < ns.length) → s = ⟨#[]⟩)) ∧ Below w.heap.size w w' := by
  have HN := (show Hid (NodesAt w v ns) from hn)
  have HFIT := (show Hid (∀ n ∈ ns, NodeFit n) from hfit)
  obtain ⟨a, cap, rfl, hc1, hc2, _⟩ := hn.slice
  clear hn hfit
  obtain ⟨w1, hw1⟩ : ∃ x, x = w.alloc (.cells #[.slice a ns.length cap] 26) := ⟨_, rfl⟩
  have b1 : Below w.heap.size w w1 := by rw [hw1]; exact (Below.refl _ _).alloc (Nat.le_refl _) _
  have g1 : w1.heap[w.heap.size]? = some (.cells #[.slice a ns.length cap] 26 (0, 0)) := by rw [hw1]; exact World.alloc_heap_new _ _
  have HG1 := (show Hid _ from g1)
  clear g1
  go_enter Try.func7, Try.ntmps7
  go_wp2_with fail
  go_at_call 8
  rw [← hw1]
  refine Calls.mono (streeOk_any (HN.out.below b1) HFIT.out hlen) ?_
  rintro e w2 ⟨r, rfl, hr, b2⟩
  clear hw1
  have hb2 := b1.trans (b2.mono b1.size)
  have g2 := (b2.block _ (blk_lt HG1.out)).trans HG1.out
  have k0 : w2.cell? ⟨w.heap.size, 0, none⟩ = some (.slice a ns.length cap) := by simp only [World.cell?, g2]; rfl
  have G2 := (show Hid _ from g2)
  clear g2 b2
  cases r
  · have HF : Hid (¬ STreeOkP ns) := fun h => by have := hr.mpr h; cases this
    clear hr
    go_wp2
    go_ret
    exact ⟨_, rfl, ⟨fun h => absurd h.1 HF.out, fun _ => rfl⟩, hb2⟩
  · have HT : Hid (STreeOkP ns) := hr.mp rfl
    clear hr
    go_wp2_with fail
    go_at_call 17
    refine Calls.mono (shas_any at' hlen) ?_
    rintro e w3 ⟨rfl, b3⟩
    have hb3 := hb2.trans (b3.mono hb2.size)
    have g3 := (b3.block _ (blk_lt G2.out)).trans G2.out
    have k3 : w3.cell? ⟨w.heap.size, 0, none⟩ = some (.slice a ns.length cap) := by simp only [World.cell?, g3]; rfl
    clear g3 b3 k0
    by_cases hin : 0 ≤ at' ∧ at' < ns.length
    · have hib : inB at' 0 ((ns.length : Int) - 1) = true := by simp [inB]; omega
      rw [hib]
      obtain ⟨k, rfl⟩ : ∃ k : Nat, at' = (k : Int) := ⟨at'.toNat, by omega⟩
      have hk : k < ns.length := by omega
      have CC := (show Hid _ from stext_any hlen ns.length k (tree_deep HT.out.1 hk) (by have := text_len HT.out.1 (fun n hn => (HFIT.out n hn).tx) hk; omega) w3 _ (HN.out.below hb3))
      clear hib hin
      go_wp2_with fail
      go_at_call 18
      refine Calls.mono CC.out ?_
      rintro e w4 ⟨rfl, b4⟩
      go_wp2
      go_ret
      exact ⟨_, rfl, ⟨fun _ => by simp [strL], fun h => absurd ⟨HT.out, by omega, by omega⟩ h⟩, hb3.trans (b4.mono hb3.size)⟩
    · have hib : inB at' 0 ((ns.length : Int) - 1) = false := by simp [inB]; omega
      rw [hib]
      have HF : Hid (¬ (0 ≤ at' ∧ at' < ns.length)) := hin
      clear hib hin
      go_wp2
      go_ret
      exact ⟨_, rfl, ⟨fun h => absurd h.2 HF.out, fun _ => rfl⟩, hb3⟩
end Go.Proofs.Ytckhmolmnlcabaa

/- The law FnTexts, walked, from its draw. No condition. -/
namespace Go.Proofs.Ytckhmolmnlcabaa
open Go.RowKit
set_option maxRecDepth 100000
set_option linter.unusedVariables false

set_option maxRecDepth 100000 in
theorem fnTexts_big {v : Value} {xs : List Int} (w : World) (h : Sl .u8 w v xs) (hl : 1048576 < xs.length) :
    Calls Try.prog 3 #[v] w fun e w' => e = .returned (.bool true) ∧ Below w.heap.size w w' := by
  have hbig := big_any h
  rw [decide_eq_true hl] at hbig
  clear h
  go_enter Try.func3, Try.ntmps3
  go_wp2_with fail
  go_at_call 4
  refine hbig.mono ?_
  rintro e w1 ⟨rfl, rfl⟩
  go_wp2
  go_ret
  exact ⟨rfl, Below.refl _ _⟩

set_option maxHeartbeats 4000000 in
set_option maxRecDepth 100000 in
theorem fnTexts_of {v : Value} {xs : List Int} (w : World) (h : Sl .u8 w v xs) (hl : ¬ 1048576 < xs.length)
    (hD : Calls Try.prog 5 #[v] w fun e w' => ∃ nv ns z, e = .returned (.tuple #[.agg #[nv], .int .i64 z]) ∧ OwnN w.heap.size w' nv ns ∧ OutT ns ∧ -1 ≤ z ∧ z ≤ 500 ∧ Below w.heap.size w w') :
    Calls Try.prog 3 #[v] w fun e w' => e = .returned (.bool true) ∧ Below w.heap.size w w' := by
  have hbig := big_any h
  rw [decide_eq_false hl] at hbig
  have HD := (show Hid _ from hD)
  have HBG := (show Hid _ from hbig)
  clear h hl hbig hD
  go_enter Try.func3, Try.ntmps3
  go_wp2_with fail
  go_at_call 4
  refine Calls.mono HBG.out ?_
  rintro e w0 ⟨rfl, rfl⟩
  clear HBG
  go_wp2_with fail
  go_at_call 5
  refine Calls.mono HD.out ?_
  rintro e w1 ⟨nv, ns, z, rfl, own1, hout, hz0, hz1, b1⟩
  clear HD
  obtain ⟨na, ncap, rfl, hc1, hc2, j1⟩ := own1.nodes.slice
  clear j1
  have hlen := hout.len
  have HFT := (show Hid (∀ n ∈ ns, NodeFit n) from hout.fit)
  have HPR := (show Hid (TreeOkP ns → parOf ns 0 = -1) from hout.par)
  obtain ⟨w2, hw2⟩ : ∃ w2, w2 = w1.alloc (.cells #[.slice na ns.length ncap] 26) := ⟨_, rfl⟩
  have b2 : Below w1.heap.size w1 w2 := by rw [hw2]; exact (Below.refl _ _).alloc (Nat.le_refl _) _
  have gT2 : w2.heap[w1.heap.size]? = some (.cells #[.slice na ns.length ncap] 26 (0, 0)) := by rw [hw2]; exact World.alloc_heap_new _ _
  have cT2 := (six_one gT2).1
  have HT2 := (show Hid _ from gT2)
  have HB2 := (show Hid (Below w0.heap.size w0 w2) from b1.trans (b2.mono b1.size))
  have HN2 := (show Hid (NodesAt w2 (.slice na ns.length ncap) ns) from own1.nodes.below b2)
  obtain ⟨T, hTT⟩ : ∃ T, T = w1.heap.size := ⟨_, rfl⟩
  rw [← hTT] at HT2 cT2
  clear b1 b2 gT2 own1 hout
  go_wp2_with fail
  go_at_call 6
  rw [← hw2, ← hTT]
  clear hw2 hTT
  refine Calls.mono (itextOf_any HN2.out HFT.out (by omega) z) ?_
  rintro e w3 ⟨s, rfl, hs, b3⟩
  have HN3 := (show Hid (NodesAt w3 (.slice na ns.length ncap) ns) from HN2.out.below b3)
  have HB3 := (show Hid (Below w0.heap.size w0 w3) from HB2.out.trans (b3.mono HB2.out.size))
  have gT3 := (b3.block _ (blk_lt HT2.out)).trans HT2.out
  have cT3 := (six_one gT3).1
  have HT3 := (show Hid _ from gT3)
  have HS := (show Hid _ from hs)
  clear b3 gT3 hs HT2 HN2 HB2 cT2
  go_wp2_with fail
  go_at_call 7
  refine Calls.mono (stextOf_any HN3.out HFT.out (by omega) z) ?_
  rintro e w4 ⟨s', rfl, hs', b4⟩
  obtain rfl : s' = s := by
    by_cases hr : TreeOkP ns ∧ 0 ≤ z ∧ z < ns.length
    · rw [hs'.1 ⟨⟨hr.1, HPR.out hr.1⟩, hr.2⟩, HS.out.1 hr]
    · rw [hs'.2 (fun h => hr ⟨h.1.1, h.2⟩), HS.out.2 hr]
  have HN4 := (show Hid (NodesAt w4 (.slice na ns.length ncap) ns) from HN3.out.below b4)
  have HB4 := (show Hid (Below w0.heap.size w0 w4) from HB3.out.trans (b4.mono HB3.out.size))
  have gT4 := (b4.block _ (blk_lt HT3.out)).trans HT3.out
  have cT4 := (six_one gT4).1
  have HT4 := (show Hid _ from gT4)
  clear b4 gT4 hs' HT3 HN3 HB3 cT3
  go_wp2_with fail
  go_at_call 8
  refine Calls.mono (streeOk_any HN4.out HFT.out (by omega)) ?_
  rintro e w5 ⟨r, rfl, hr, b5⟩
  have HN5 := (show Hid (NodesAt w5 (.slice na ns.length ncap) ns) from HN4.out.below b5)
  have HB5 := (show Hid (Below w0.heap.size w0 w5) from HB4.out.trans (b5.mono HB4.out.size))
  have gT5 := (b5.block _ (blk_lt HT4.out)).trans HT4.out
  have cT5 := (six_one gT5).1
  have HT5 := (show Hid _ from gT5)
  have HR := (show Hid (r = true ↔ STreeOkP ns) from hr)
  clear b5 gT5 hr HT4 HN4 HB4 cT4
  cases r
  · obtain rfl := HS.out.2 (fun h => by have := HR.out.2 ⟨h.1, HPR.out h.1⟩; cases this)
    go_wp2
    go_ret
    exact ⟨rfl, HB5.out⟩
  by_cases hz : z < 0
  · obtain rfl := HS.out.2 (fun h => by omega)
    go_wp2
    go_ret
    exact ⟨rfl, HB5.out⟩
  by_cases hzl : ¬ z < ns.length
  · obtain rfl := HS.out.2 (fun h => by omega)
    go_wp2
    go_ret
    exact ⟨rfl, HB5.out⟩
  obtain ⟨k, rfl⟩ : ∃ k : Nat, z = k := ⟨z.toNat, by omega⟩
  have hklt : k < ns.length := by omega
  have hok := (HR.out.1 rfl).1
  have hse := HS.out.1 ⟨hok, by omega, by omega⟩
  obtain ⟨f, hf⟩ : ∃ f, ns.length = f + 1 := ⟨ns.length - 1, by omega⟩
  have hk : deepOk ns (f + 1) k := hf ▸ tree_deep hok hklt
  have HSZ : Hid ((textL ns (f + 1) k).length ≤ 1000000000) := (by have := text_len hok (fun n hn => (HFT.out n hn).tx) hklt; rw [hf] at this; omega : (textL ns (f + 1) k).length ≤ 1000000000)
  have HK := (show Hid (∀ x ∈ kidsOf ns k, 0 ≤ x ∧ deepOk ns f x.toNat) from hk.2)
  have HSE : Hid (s' = strL (textL ns (f + 1) k)) := (by rw [hse, hf]; simp [strL] : s' = strL (textL ns (f + 1) k))
  have HOK := (show Hid (TreeOkP ns) from hok)
  have HF := (show Hid (ns.length = f + 1) from hf)
  obtain ⟨_, _, e1, _, _, hcs⟩ := HN5.out.slice
  cases e1
  obtain ⟨b, off, av, kv, rfl, hblt, c0, c1, c2, c3, c4, c5, hav, hkv⟩ := hcs k hklt
  obtain ⟨av1, av2, av3, rfl, _⟩ := hav
  obtain ⟨kv1, kv3, rfl, hkl1, hkl2, _, hkc⟩ := hkv
  have HKC := (show Hid (Cells .i64 w5 kv1 ns[k].kids) from hkc)
  have HTX : Hid (textL ns (f + 1) k = txL ns[k] ++ (kidsOf ns k).flatMap fun x => textL ns f x.toNat) := (by rw [textL, txAt_at hklt] : textL ns (f + 1) k = _)
  rw [kidsOf_at hklt] at HTX HK
  obtain ⟨nd, hnd⟩ : ∃ nd, nd = ns[k] := ⟨_, rfl⟩
  rw [← hnd] at c0 c1 c3 c4 c5 HKC HTX HK hkl1
  obtain ⟨k0, k1, rs, k3, k4, ks⟩ := nd
  simp only at c0 c1 c3 c4 c5 HKC HTX HK hkl1
  clear hkc hcs hnd hk hse hok hf HS HR
  obtain ⟨w6, hw6⟩ : ∃ x, x = w5.alloc (.cells #[.int .i64 k0, .string k1, .slice av1 av2 av3, .string k3, .int .i64 k4, .slice kv1 ks.length kv3] 34) := ⟨_, rfl⟩
  have b6 : Below w5.heap.size w5 w6 := by rw [hw6]; exact (Below.refl _ _).alloc (Nat.le_refl _) _
  have gN : w6.heap[w5.heap.size]? = some (.cells #[.int .i64 k0, .string k1, .slice av1 av2 av3, .string k3, .int .i64 k4, .slice kv1 ks.length kv3] 34 (0, 0)) := by rw [hw6]; exact World.alloc_heap_new _ _
  have gT := (b6.block _ (blk_lt HT5.out)).trans HT5.out
  have cT := (six_one gT).1
  have cN5 := (six_at gN).1.2.2.2.2.2
  have lT := blk_lt gT
  have lN := blk_lt gN
  obtain ⟨N, hN⟩ : ∃ N, N = w5.heap.size := ⟨_, rfl⟩
  rw [← hN] at cN5 lN
  have BW := (show Hid (Below w5.heap.size w5 w6) from b6)
  have HB6 := (show Hid (Below w0.heap.size w0 w6) from HB5.out.trans (b6.mono HB5.out.size))
  have HN6 := (show Hid (NodesAt w6 (.slice (some ⟨b, off, none⟩) ns.length ncap) ns) from HN5.out.below b6)
  have CT := (show Hid _ from cT)
  have CN5 := (show Hid _ from cN5)
  have TXT := (show Hid (∀ q, deepOk ns f q → ∀ W, Below w6.heap.size w6 W → Calls Try.prog 6 #[.agg #[.slice (some ⟨b, off, none⟩) ns.length ncap], .int .i64 (q : Int)] W fun e w' => e = .returned (.string (strL (textL ns f q))) ∧ Below W.heap.size W w') from fun q hq W hb => by
    refine Calls.mono (itextOf_any (HN6.out.below hb) HFT.out (by omega) (q : Int)) ?_
    rintro e W' ⟨t, rfl, ht, hb'⟩
    have hql : q < ns.length := by cases f with
      | zero => exact hq.elim
      | succ f => exact hq.1
    refine ⟨?_, hb'⟩
    rw [ht.1 ⟨HOK.out, by omega, by omega⟩]
    have := text_deep f ns.length q (by have := HF.out; omega) hq
    simp only [Int.toNat_natCast, this]
    rfl)
  clear gT gN b6 cT cN5 HT5 HN5
  have hkm : ks.length < 9223372036854775808 := by unfold maxLen at hkl2; omega
  obtain ⟨own, hown⟩ : ∃ own, own = txL ⟨k0, k1, rs, k3, k4, ks⟩ := ⟨_, rfl⟩
  have HOWN := (show Hid (own = txL ⟨k0, k1, rs, k3, k4, ks⟩) from hown)
  rw [← hown] at HTX
  clear hown
  by_cases h4 : k0 = 4
  all_goals
    (try subst h4)
    go_wp2
    rw [← hw6, ← hN]
    clear hw6 hN c0 c1 c2 c3 c4 c5 cT5
    go_loopw [7, 8] (fun o i wr => ∃ j : Nat, j ≤ ks.length ∧ i = .int .i64 j ∧ o = .string (strL (own ++ (ks.take j).flatMap fun x => textL ns f x.toNat)) ∧ Below w6.heap.size w6 wr) (fun _ i _ => ks.length - (intOf i).toNat)
    case atStart =>
      refine ⟨0, Nat.zero_le _, rfl, ?_, Below.refl _ _⟩
      rw [HOWN.out]
      simp [txL, strL]
      try simp [h4]
    case round =>
      obtain ⟨j, hj, rfl, rfl, bel⟩ := hrel
      have BEL := (show Hid (Below w6.heap.size w6 wr) from bel)
      have cN := (bel.cell (p := ⟨N, 5, none⟩) lN).trans CN5.out
      by_cases hlt : j < ks.length
      · have HT1 : Hid (ks.take (j + 1) = ks.take j ++ [ks[j]]) := take_snoc ks hlt
        obtain ⟨hx0, hdx⟩ := HK.out ks[j] (List.getElem_mem hlt)
        obtain ⟨x, hx⟩ : ∃ x, x = ks[j] := ⟨_, rfl⟩
        rw [← hx] at HT1 hx0 hdx
        obtain ⟨q, rfl⟩ : ∃ q : Nat, x = (q : Int) := ⟨x.toNat, by omega⟩
        rw [show ((q : Int)).toNat = q by simp] at hdx
        have hsp : (own ++ (ks.take j).flatMap (fun x => textL ns f x.toNat)).length + (textL ns f q).length ≤ 1000000000 := by
          have h1 := HSZ.out
          rw [HTX.out] at h1
          have h2 : ks = (ks.take j ++ [(q : Int)]) ++ ks.drop (j + 1) := by rw [← HT1.out]; exact (List.take_append_drop _ _).symm
          have h3 : (ks.flatMap fun x => textL ns f x.toNat).length = ((ks.take j).flatMap fun x => textL ns f x.toNat).length + (textL ns f q).length + ((ks.drop (j + 1)).flatMap fun x => textL ns f x.toNat).length := by
            conv => lhs; rw [h2]
            rw [List.flatMap_append, List.flatMap_append, List.flatMap_singleton, List.length_append, List.length_append, show ((q : Int)).toNat = q by simp]
          rw [List.length_append, h3] at h1
          rw [List.length_append]
          omega
        obtain ⟨kb, ko, rfl, ck⟩ := HKC.out j hlt
        have hkb := lt_of_cell6 ck
        rw [show ks.getD j 0 = (q : Int) by simp [List.getD_eq_getElem?_getD, hlt, ← hx]] at ck
        obtain ⟨s1, hs1⟩ : ∃ s1, s1 = strL (own ++ (ks.take j).flatMap fun x => textL ns f x.toNat) := ⟨_, rfl⟩
        obtain ⟨s2, hs2⟩ : ∃ s2, s2 = strL (textL ns f q) := ⟨_, rfl⟩
        have hz : s1.size + s2.size ≤ 9223372036854775807 := by rw [hs1, hs2, strL_size, strL_size]; omega
        have HE : Hid (s1 ++ s2 = strL (own ++ (ks.take (j + 1)).flatMap fun x => textL ns f x.toNat)) := (by
          rw [hs1, hs2, strL_app, HT1.out, List.flatMap_append, List.flatMap_singleton, show ((q : Int)).toNat = q by simp, List.append_assoc] : s1 ++ s2 = strL (own ++ (ks.take (j + 1)).flatMap fun x => textL ns f x.toNat))
        have CI := (show Hid (∀ n : Wd w6.heap.size w6, Calls Try.prog 6 #[.agg #[.slice (some ⟨b, off, none⟩) ns.length ncap], .int .i64 (q : Int)] n.w fun e w' => e = .returned (.string s2) ∧ Below n.w.heap.size n.w w') from fun n => by rw [hs2]; exact TXT.out q hdx n.w n.below)
        rw [← hs1]
        have f0 : ∀ n : Wd w6.heap.size w6, n.w.cell? ⟨T, 0, none⟩ = some (.slice (some ⟨b, off, none⟩) ns.length ncap) := fun n => (n.below.cell (p := ⟨T, 0, none⟩) lT).trans CT.out
        have f1 : ∀ n : Wd w6.heap.size w6, n.w.cell? ⟨N, 5, none⟩ = some (.slice (some ⟨kb, ko, none⟩) ks.length kv3) := fun n => (n.below.cell (p := ⟨N, 5, none⟩) lN).trans CN5.out
        have f2 : ∀ n : Wd w6.heap.size w6, n.w.cell? ⟨kb, ko + j, none⟩ = some (.int .i64 (q : Int)) := fun n => ((BW.out.trans (n.below.mono BW.out.size)).cell (p := ⟨kb, ko + j, none⟩) hkb).trans ck
        have hadd : ∀ W, (Op.stringOp .add s1 s2).run Try.prog W = .ok (.string (s1 ++ s2)) W := fun W => run_string_add_sum W s1 s2 hz
        have ne := Wd.any w6.heap.size w6
        clear hs1 hs2 hx hdx hsp ck hx0
        go_wp2
        refine wp_region_below (B := w6.heap.size) (w0 := w6) (by kernel_rfl) (by kernel_rfl) BEL.out ?_
        repeat (go_big_quiet_step ((go_at_call 6; exact quiet_below (CI.out _) (Nat.le_refl _))))
        refine wpQuiet_nil ?_
        intro wq hq
        replace hq := Wd.of hq
        clear f0 f1 f2 hadd
        go_wp2
        go_roundw
        case rel => exact ⟨j + 1, by omega, by go_num, by rw [HE.out], hq⟩
        case measure => simp [intOf]; omega
      · obtain rfl : j = ks.length := by omega
        have hfin : strL (own ++ (ks.take ks.length).flatMap fun x => textL ns f x.toNat) = s' := by rw [HSE.out, HTX.out, List.take_length]
        rw [hfin]
        clear hfin
        go_wp2
        go_ret
        exact ⟨rfl, HB6.out.trans (BEL.out.mono HB6.out.size)⟩
end Go.Proofs.Ytckhmolmnlcabaa

/- The law FnTexts, walked. No condition. -/
namespace Go.Proofs.Ytckhmolmnlcabaa
open Go.RowKit
set_option maxRecDepth 100000
set_option linter.unusedVariables false

theorem fnTexts_walk {v : Value} {xs : List Int} (w : World) (h : Sl .u8 w v xs) (hwf : ∀ n ∈ xs, (Lit.int .u8 n).wf = true) :
    Calls Try.prog 3 #[v] w fun e w' => e = .returned (.bool true) ∧ Below w.heap.size w w' := by
  by_cases hl : 1048576 < xs.length
  · exact fnTexts_big w h hl
  · exact fnTexts_of w h hl (drawTextOf_any h (byte_ok hwf) (by omega))
end Go.Proofs.Ytckhmolmnlcabaa
