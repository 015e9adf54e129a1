/- The specification's l8Text and TextOf. No condition. -/
import Derived.Test.YtogdbjafibejdaaGreatX36
import Derived.Test.YtogdbjafibejdaaGreatX27
import Derived.Test.YtogdbjafibejdaaGreatX28
import Derived.Test.YtogdbjafibejdaaGreatX12
import Derived.Test.YtogdbjafibejdaaGreatX20
import Derived.Laws.Concat
import Derived.Test.YtogdbjafibejdaaGreatX45
import Derived.Test.YtogdbjafibejdaaGreatX23
namespace Go.Proofs.YtogdbjafibejdaaGreat
open Go.RowKit
set_option maxRecDepth 100000
set_option linter.unusedVariables false

def strL (l : List UInt8) : ByteArray := ⟨l.toArray⟩
theorem strL_app (a b : List UInt8) : strL a ++ strL b = strL (a ++ b) := ByteArray.mk_append_mk a b
theorem strL_size (a : List UInt8) : (strL a).size = a.length := rfl
theorem strL_data (s : ByteArray) : strL s.data.toList = s := rfl

set_option maxHeartbeats 2000000 in
set_option maxRecDepth 100000 in
theorem stext_any {ns : List PNode} (hlen : ns.length ≤ 1048576) : ∀ (f k : Nat), deepOk ns f k → (textL ns f k).length ≤ 1000000000 → ∀ (w : World) (v : Value), NodesAt w v ns →
    Calls Tryz.prog 73 #[.agg #[v], .int .i64 (k : Int)] w fun e w' => e = .returned (.string (strL (textL ns f k))) ∧ Below w.heap.size w w' := by
  intro f
  induction f with
  | zero => intro k h; exact h.elim
  | succ f ih =>
    intro k hk hsz w v hn
    have IH := (show Hid _ from ih)
    have hklt := hk.1
    have HK := (show Hid (∀ x ∈ kidsOf ns k, 0 ≤ x ∧ deepOk ns f x.toNat) from hk.2)
    have HSZ := (show Hid ((textL ns (f + 1) k).length ≤ 1000000000) from hsz)
    have HN := (show Hid (NodesAt w v ns) from hn)
    obtain ⟨a, cap, rfl, hc1, hc2, hcs⟩ := hn.slice
    obtain ⟨b, off, av, kv, rfl, hblt, c0, c1, c2, c3, c4, c5, hav, hkv⟩ := hcs k hklt
    obtain ⟨av1, av2, av3, rfl, _⟩ := hav
    obtain ⟨kv1, kv3, rfl, hkl1, hkl2, _, hkc⟩ := hkv
    have HKC := (show Hid (Cells .i64 w kv1 ns[k].kids) from hkc)
    have HTX : Hid (textL ns (f + 1) k = txL ns[k] ++ (kidsOf ns k).flatMap fun x => textL ns f x.toNat) := (by rw [textL, txAt_at hklt] : textL ns (f + 1) k = _)
    rw [kidsOf_at hklt] at HTX HK
    obtain ⟨nd, hnd⟩ : ∃ nd, nd = ns[k] := ⟨_, rfl⟩
    rw [← hnd] at c0 c1 c3 c4 c5 HKC HTX HK hkl1
    obtain ⟨k0, k1, rs, k3, k4, ks⟩ := nd
    simp only at c0 c1 c3 c4 c5 HKC HTX HK hkl1
    clear hkc ih hn hcs hnd hk hsz
    obtain ⟨w2, hw2⟩ : ∃ x, x = (w.alloc (.cells #[.slice (some ⟨b, off, none⟩) ns.length cap] 26)).alloc (.cells #[.int .i64 k0, .string k1, .slice av1 av2 av3, .string k3, .int .i64 k4, .slice kv1 ks.length kv3] 36) := ⟨_, rfl⟩
    have b2 : Below w.heap.size w w2 := by rw [hw2]; exact ((Below.refl _ w).alloc (Nat.le_refl _) _).alloc (by simp) _
    have gT : w2.heap[w.heap.size]? = some (.cells #[.slice (some ⟨b, off, none⟩) ns.length cap] 26 (0, 0)) := by rw [hw2, Below.heap_alloc _ _ _ (by simp)]; exact World.alloc_heap_new _ _
    have gN : w2.heap[w.heap.size + 1]? = some (.cells #[.int .i64 k0, .string k1, .slice av1 av2 av3, .string k3, .int .i64 k4, .slice kv1 ks.length kv3] 36 (0, 0)) := by
      rw [hw2]
      have := World.alloc_heap_new (w.alloc (.cells #[.slice (some ⟨b, off, none⟩) ns.length cap] 26)) (.cells #[.int .i64 k0, .string k1, .slice av1 av2 av3, .string k3, .int .i64 k4, .slice kv1 ks.length kv3] 36)
      rwa [World.size_alloc] at this
    have cT : w2.cell? ⟨w.heap.size, 0, none⟩ = some (.slice (some ⟨b, off, none⟩) ns.length cap) := by simp only [World.cell?, gT]; rfl
    have cN5 : w2.cell? ⟨w.heap.size + 1, 5, none⟩ = some (.slice kv1 ks.length kv3) := by simp only [World.cell?, gN]; rfl
    have lT := blk_lt gT
    have lN := blk_lt gN
    have B2 := (show Hid (Below w.heap.size w w2) from b2)
    have CT := (show Hid _ from cT)
    have CN5 := (show Hid _ from cN5)
    clear gT gN b2 cT cN5
    have hkm : ks.length < 9223372036854775808 := by unfold maxLen at hkl2; omega
    obtain ⟨own, hown⟩ : ∃ own, own = txL ⟨k0, k1, rs, k3, k4, ks⟩ := ⟨_, rfl⟩
    have HOWN := (show Hid (own = txL ⟨k0, k1, rs, k3, k4, ks⟩) from hown)
    rw [← hown] at HTX
    clear hown
    go_enter Tryz.func73, Tryz.ntmps73
    by_cases h4 : k0 = 4
    all_goals
      (try subst h4)
      go_wp2
      rw [← hw2]
      clear hw2 c0 c1 c2 c3 c4 c5
      go_loopw [6, 7] (fun o i wr => ∃ j : Nat, j ≤ ks.length ∧ i = .int .i64 j ∧ o = .string (strL (own ++ (ks.take j).flatMap fun x => textL ns f x.toNat)) ∧ Below w2.heap.size w2 wr) (fun _ i _ => ks.length - (intOf i).toNat)
      case atStart =>
        refine ⟨0, Nat.zero_le _, rfl, ?_, Below.refl _ _⟩
        rw [HOWN.out]
        simp [txL, strL]
        try simp [h4]
      case round =>
        obtain ⟨j, hj, rfl, rfl, bel⟩ := hrel
        have BEL := (show Hid (Below w2.heap.size w2 wr) from bel)
        have cN := (bel.cell (p := ⟨w.heap.size + 1, 5, none⟩) lN).trans CN5.out
        by_cases hlt : j < ks.length
        · have HT1 : Hid (ks.take (j + 1) = ks.take j ++ [ks[j]]) := take_snoc ks hlt
          obtain ⟨hx0, hdx⟩ := HK.out ks[j] (List.getElem_mem hlt)
          obtain ⟨x, hx⟩ : ∃ x, x = ks[j] := ⟨_, rfl⟩
          rw [← hx] at HT1 hx0 hdx
          obtain ⟨q, rfl⟩ : ∃ q : Nat, x = (q : Int) := ⟨x.toNat, by omega⟩
          rw [show ((q : Int)).toNat = q by simp] at hdx
          have hsp : (own ++ (ks.take j).flatMap (fun x => textL ns f x.toNat)).length + (textL ns f q).length ≤ 1000000000 := by
            have h1 := HSZ.out
            rw [HTX.out] at h1
            have h2 : ks = (ks.take j ++ [(q : Int)]) ++ ks.drop (j + 1) := by rw [← HT1.out]; exact (List.take_append_drop _ _).symm
            have h3 : (ks.flatMap fun x => textL ns f x.toNat).length = ((ks.take j).flatMap fun x => textL ns f x.toNat).length + (textL ns f q).length + ((ks.drop (j + 1)).flatMap fun x => textL ns f x.toNat).length := by
              conv => lhs; rw [h2]
              rw [List.flatMap_append, List.flatMap_append, List.flatMap_singleton, List.length_append, List.length_append, show ((q : Int)).toNat = q by simp]
            rw [List.length_append, h3] at h1
            rw [List.length_append]
            omega
          obtain ⟨kb, ko, rfl, ck⟩ := HKC.out j hlt
          have hkb := lt_of_cell6 ck
          rw [show ks.getD j 0 = (q : Int) by simp [List.getD_eq_getElem?_getD, hlt, ← hx]] at ck
          obtain ⟨s1, hs1⟩ : ∃ s1, s1 = strL (own ++ (ks.take j).flatMap fun x => textL ns f x.toNat) := ⟨_, rfl⟩
          obtain ⟨s2, hs2⟩ : ∃ s2, s2 = strL (textL ns f q) := ⟨_, rfl⟩
          have hz : s1.size + s2.size ≤ 9223372036854775807 := by rw [hs1, hs2, strL_size, strL_size]; omega
          have HE : Hid (s1 ++ s2 = strL (own ++ (ks.take (j + 1)).flatMap fun x => textL ns f x.toNat)) := (by
            rw [hs1, hs2, strL_app, HT1.out, List.flatMap_append, List.flatMap_singleton, show ((q : Int)).toNat = q by simp, List.append_assoc] : s1 ++ s2 = strL (own ++ (ks.take (j + 1)).flatMap fun x => textL ns f x.toNat))
          have CI := (show Hid (∀ n : Wd w2.heap.size w2, Calls Tryz.prog 73 #[.agg #[.slice (some ⟨b, off, none⟩) ns.length cap], .int .i64 (q : Int)] n.w fun e w' => e = .returned (.string s2) ∧ Below n.w.heap.size n.w w') from fun n => by rw [hs2]; exact IH.out q hdx (by omega) n.w _ (HN.out.below (B2.out.trans (n.below.mono B2.out.size))))
          rw [← hs1]
          have f0 : ∀ n : Wd w2.heap.size w2, n.w.cell? ⟨w.heap.size, 0, none⟩ = some (.slice (some ⟨b, off, none⟩) ns.length cap) := fun n => (n.below.cell (p := ⟨w.heap.size, 0, none⟩) lT).trans CT.out
          have f1 : ∀ n : Wd w2.heap.size w2, n.w.cell? ⟨w.heap.size + 1, 5, none⟩ = some (.slice (some ⟨kb, ko, none⟩) ks.length kv3) := fun n => (n.below.cell (p := ⟨w.heap.size + 1, 5, none⟩) lN).trans CN5.out
          have f2 : ∀ n : Wd w2.heap.size w2, n.w.cell? ⟨kb, ko + j, none⟩ = some (.int .i64 (q : Int)) := fun n => ((B2.out.trans (n.below.mono B2.out.size)).cell (p := ⟨kb, ko + j, none⟩) hkb).trans ck
          have hadd : ∀ W, (Op.stringOp .add s1 s2).run Tryz.prog W = .ok (.string (s1 ++ s2)) W := fun W => run_string_add_sum W s1 s2 hz
          have ne := Wd.any w2.heap.size w2
          clear hs1 hs2 hx hdx hsp ck hx0
          go_wp2
          refine wp_region_below (B := w2.heap.size) (w0 := w2) (by kernel_rfl) (by kernel_rfl) BEL.out ?_
          repeat (go_big_quiet_step ((go_at_call 73; exact quiet_below (CI.out _) (Nat.le_refl _))))
          refine wpQuiet_nil ?_
          intro wq hq
          replace hq := Wd.of hq
          clear f0 f1 f2 hadd
          go_wp2
          go_roundw
          case rel => exact ⟨j + 1, by omega, by go_num, by rw [HE.out], hq⟩
          case measure => simp [intOf]; omega
        · obtain rfl : j = ks.length := by omega
          go_wp2
          go_ret
          exact ⟨by rw [HTX.out, List.take_length]; rfl, B2.out.trans (BEL.out.mono B2.out.size)⟩

set_option maxRecDepth 100000 in
theorem stextOf_any {w : World} {v : Value} {ns : List PNode} (hn : NodesAt w v ns) (hfit : ∀ n ∈ ns, NodeFit n) (hlen : ns.length ≤ 1048576) (at' : Int) :
    Calls Tryz.prog 21 #[.agg #[v], .int .i64 at'] w fun e w' => ∃ s, e = .returned (.string s) ∧ ((STreeOkP ns ∧ 0 ≤ at' ∧ at' < ns.length → s = ⟨(textL ns ns.length at'.toNat).toArray⟩) ∧ (¬ (STreeOkP ns ∧ 0 ≤ at' ∧ at' < ns.length) → s = ⟨#[]⟩)) ∧ Below w.heap.size w w' := by
  have HN := (show Hid (NodesAt w v ns) from hn)
  have HFIT := (show Hid (∀ n ∈ ns, NodeFit n) from hfit)
  obtain ⟨a, cap, rfl, hc1, hc2, _⟩ := hn.slice
  clear hn hfit
  obtain ⟨w1, hw1⟩ : ∃ x, x = w.alloc (.cells #[.slice a ns.length cap] 26) := ⟨_, rfl⟩
  have b1 : Below w.heap.size w w1 := by rw [hw1]; exact (Below.refl _ _).alloc (Nat.le_refl _) _
  have g1 : w1.heap[w.heap.size]? = some (.cells #[.slice a ns.length cap] 26 (0, 0)) := by rw [hw1]; exact World.alloc_heap_new _ _
  have HG1 := (show Hid _ from g1)
  clear g1
  go_enter Tryz.func21, Tryz.ntmps21
  go_wp2_with fail
  go_at_call 14
  rw [← hw1]
  refine Calls.mono (streeOk_any (HN.out.below b1) HFIT.out hlen) ?_
  rintro e w2 ⟨r, rfl, hr, b2⟩
  clear hw1
  have hb2 := b1.trans (b2.mono b1.size)
  have g2 := (b2.block _ (blk_lt HG1.out)).trans HG1.out
  have k0 : w2.cell? ⟨w.heap.size, 0, none⟩ = some (.slice a ns.length cap) := by simp only [World.cell?, g2]; rfl
  have G2 := (show Hid _ from g2)
  clear g2 b2
  cases r
  · have HF : Hid (¬ STreeOkP ns) := fun h => by have := hr.mpr h; cases this
    clear hr
    go_wp2
    go_ret
    exact ⟨_, rfl, ⟨fun h => absurd h.1 HF.out, fun _ => rfl⟩, hb2⟩
  · have HT : Hid (STreeOkP ns) := hr.mp rfl
    clear hr
    go_wp2_with fail
    go_at_call 52
    refine Calls.mono (shas_any at' hlen) ?_
    rintro e w3 ⟨rfl, b3⟩
    have hb3 := hb2.trans (b3.mono hb2.size)
    have g3 := (b3.block _ (blk_lt G2.out)).trans G2.out
    have k3 : w3.cell? ⟨w.heap.size, 0, none⟩ = some (.slice a ns.length cap) := by simp only [World.cell?, g3]; rfl
    clear g3 b3 k0
    by_cases hin : 0 ≤ at' ∧ at' < ns.length
    · have hib : inB at' 0 ((ns.length : Int) - 1) = true := by simp [inB]; omega
      rw [hib]
      obtain ⟨k, rfl⟩ : ∃ k : Nat, at' = (k : Int) := ⟨at'.toNat, by omega⟩
      have hk : k < ns.length := by omega
      have CC := (show Hid _ from stext_any hlen ns.length k (tree_deep HT.out.1 hk) (by have := text_len HT.out.1 (fun n hn => (HFIT.out n hn).tx) hk; omega) w3 _ (HN.out.below hb3))
      clear hib hin
      go_wp2_with fail
      go_at_call 73
      refine Calls.mono CC.out ?_
      rintro e w4 ⟨rfl, b4⟩
      go_wp2
      go_ret
      exact ⟨_, rfl, ⟨fun _ => by simp [strL], fun h => absurd ⟨HT.out, by omega, by omega⟩ h⟩, hb3.trans (b4.mono hb3.size)⟩
    · have hib : inB at' 0 ((ns.length : Int) - 1) = false := by simp [inB]; omega
      rw [hib]
      have HF : Hid (¬ (0 ≤ at' ∧ at' < ns.length)) := hin
      clear hib hin
      go_wp2
      go_ret
      exact ⟨_, rfl, ⟨fun h => absurd h.2 HF.out, fun _ => rfl⟩, hb3⟩
end Go.Proofs.YtogdbjafibejdaaGreat

/- The program's PrintOf. No condition. -/
namespace Go.Proofs.YtogdbjafibejdaaGreat
open Go.RowKit
set_option maxRecDepth 100000
set_option linter.unusedVariables false

set_option maxHeartbeats 1000000 in
set_option maxRecDepth 100000 in
theorem iprint_any {w : World} {v : Value} {ns : List PNode} (hn : NodesAt w v ns) (hfit : ∀ n ∈ ns, NodeFit n) (hlen : ns.length ≤ 1048576) :
    Calls Tryz.prog 26 #[.agg #[v]] w fun e w' => ∃ s, e = .returned (.string s) ∧ (TreeOkP ns → s = strL (printL ns ns.length 0)) ∧ (¬ TreeOkP ns → s = ⟨#[]⟩) ∧ Below w.heap.size w w' := by
  have HN := (show Hid (NodesAt w v ns) from hn)
  have HFIT := (show Hid (∀ n ∈ ns, NodeFit n) from hfit)
  obtain ⟨a, cap, rfl, hc1, hc2, _⟩ := hn.slice
  clear hn hfit
  obtain ⟨w1, hw1⟩ : ∃ x, x = w.alloc (.cells #[.slice a ns.length cap] 26) := ⟨_, rfl⟩
  have b1 : Below w.heap.size w w1 := by rw [hw1]; exact (Below.refl _ _).alloc (Nat.le_refl _) _
  have g1 : w1.heap[w.heap.size]? = some (.cells #[.slice a ns.length cap] 26 (0, 0)) := by rw [hw1]; exact World.alloc_heap_new _ _
  obtain ⟨T, hT⟩ : ∃ x, x = w.heap.size := ⟨_, rfl⟩
  rw [← hT] at g1
  have cT1 := (six_one g1).1
  have G1 := (show Hid _ from g1)
  have B1 := (show Hid (Below w.heap.size w w1) from b1)
  clear g1 b1
  go_enter Tryz.func26, Tryz.ntmps26
  go_upto_region 1 with fail
  rw [← hw1, ← hT]
  clear hw1 hT
  go_wp2_with fail
  go_at_call 15
  refine Calls.mono (itreeOk_any (HN.out.below B1.out) HFIT.out hlen) ?_
  rintro e w2 ⟨r, rfl, hr, b2⟩
  have B2 := (show Hid (Below w.heap.size w w2) from B1.out.trans (b2.mono B1.out.size))
  have g2 := (b2.block _ (blk_lt G1.out)).trans G1.out
  have cT2 := (six_one g2).1
  have HR := (show Hid (r = true ↔ TreeOkP ns) from hr)
  clear b2 g2 hr G1 B1 cT1
  cases r with
  | false =>
    go_wp2
    go_ret
    exact ⟨_, rfl, (fun h => by have := HR.out.mpr h; cases this), (fun _ => rfl), B2.out⟩
  | true =>
    have HOK := (show Hid (TreeOkP ns) from HR.out.mp rfl)
    have hn2 := HN.out.below B2.out
    obtain ⟨w3, hw3⟩ : ∃ x, x = w2.alloc (.cells #[.slice a ns.length cap, .pointer none, .slice none 0 0] 102) := ⟨_, rfl⟩
    have b3 : Below w2.heap.size w2 w3 := by rw [hw3]; exact (Below.refl _ _).alloc (Nat.le_refl _) _
    have g3 : w3.heap[w2.heap.size]? = some (.cells #[.slice a ns.length cap, .pointer none, .slice none 0 0] 102 (0, 0)) := by rw [hw3]; exact World.alloc_heap_new _ _
    have P3 := (show Hid (PrW w2 w2.heap.size (.slice a ns.length cap) [] w3) from ⟨b3, .inl ⟨Nat.le_refl _, _, g3, World.ownsRowF_of (World.ownsRow_nil _ _ _ _), by simp [Value.ownBlock], .inl rfl⟩⟩)
    have h1 := HOK.out.one
    have hsm := print_small HOK.out (k := 0) (by omega)
    have CK := (show Hid _ from prKids_any (b := w2.heap.size) hn2 hlen HOK.out ns.length 0 (tree_deep HOK.out (by omega)) w3 [] P3.out (by simp; omega))
    obtain ⟨out, hout⟩ : ∃ out, out = printL ns ns.length 0 := ⟨_, rfl⟩
    rw [← hout] at CK
    have HO := (show Hid (out = printL ns ns.length 0) from hout)
    obtain ⟨b, hb⟩ : ∃ b, b = w2.heap.size := ⟨_, rfl⟩
    rw [← hb] at CK
    have HB := (show Hid (b = w2.heap.size) from hb)
    clear hn2 b3 g3 HR hsm hout P3
    go_upto_region 4 with fail
    rw [← hw3, ← hb]
    clear hw3 hb
    go_wp2_with fail
    go_at_call 80
    refine Calls.mono CK.out ?_
    rintro e w4 ⟨rfl, h4, k4⟩
    rw [List.nil_append] at h4
    have P4 := (show Hid (PrW w2 b (.slice a ns.length cap) out w4) from h4)
    clear h4 k4 CK
    go_wp2_with fail
    go_at_call 77
    refine Calls.mono (prString_any P4.out.pr P4.out.bel.size) ?_
    rintro e w5 ⟨rfl, b5⟩
    have B5 := (show Hid (Below w.heap.size w w5) from B2.out.trans ((P4.out.bel.trans b5).mono B2.out.size))
    clear b5 P4
    go_wp2
    go_ret
    exact ⟨_, rfl, (fun _ => by rw [HO.out]; rfl), (fun h => absurd HOK.out h), B5.out⟩
end Go.Proofs.YtogdbjafibejdaaGreat
