/- The specification's l8Text and TextOf. No condition. -/
import Derived.Test.YtogdbjafibejdaaGreatU37
import Derived.Test.YtogdbjafibejdaaGreatU28
import Derived.Test.YtogdbjafibejdaaGreatU29
import Derived.Test.YtogdbjafibejdaaGreatU12
import Derived.Test.YtogdbjafibejdaaGreatU20
import Derived.Laws.Concat
import Derived.Test.YtogdbjafibejdaaGreatU24
import Derived.Test.YtogdbjafibejdaaGreatU40
import Derived.Test.YtogdbjafibejdaaGreatU41
import Derived.Test.YtogdbjafibejdaaGreatU43
namespace Go.Proofs.YtogdbjafibejdaaGreat
open Go.RowKit
set_option maxRecDepth 100000
set_option linter.unusedVariables false

def strL (l : List UInt8) : ByteArray := ⟨l.toArray⟩
theorem strL_app (a b : List UInt8) : strL a ++ strL b = strL (a ++ b) := ByteArray.mk_append_mk a b
theorem strL_size (a : List UInt8) : (strL a).size = a.length := rfl
theorem strL_data (s : ByteArray) : strL s.data.toList = s := rfl

set_option maxHeartbeats 2000000 in
set_option maxRecDepth 100000 in
theorem stext_any {ns : List PNode} (hlen : ns.length ≤ 1048576) : ∀ (f k : Nat), deepOk ns f k → (textL ns f k).length ≤ 1000000000 → ∀ (w : World) (v : Value), NodesAt w v ns →
    Calls Tryz.prog 73 #[.agg #[v], .int .i64 (k : Int)] w fun e w' => e = .returned (.string (strL (textL ns f k))) ∧ Below w.heap.size w w' := by
  intro f
  induction f with
  | zero => intro k h; exact h.elim
  | succ f ih =>
    intro k hk hsz w v hn
    have IH := (show Hid _ from ih)
    have hklt := hk.1
    have HK := (show Hid (∀ x ∈ kidsOf ns k, 0 ≤ x ∧ deepOk ns f x.toNat) from hk.2)
    have HSZ := (show Hid ((textL ns (f + 1) k).length ≤ 1000000000) from hsz)
    have HN := (show Hid (NodesAt w v ns) from hn)
    obtain ⟨a, cap, rfl, hc1, hc2, hcs⟩ := hn.slice
    obtain ⟨b, off, av, kv, rfl, hblt, c0, c1, c2, c3, c4, c5, hav, hkv⟩ := hcs k hklt
    obtain ⟨av1, av2, av3, rfl, _⟩ := hav
    obtain ⟨kv1, kv3, rfl, hkl1, hkl2, _, hkc⟩ := hkv
    have HKC := (show Hid (Cells .i64 w kv1 ns[k].kids) from hkc)
    have HTX : Hid (textL ns (f + 1) k = txL ns[k] ++ (kidsOf ns k).flatMap fun x => textL ns f x.toNat) := (by rw [textL, txAt_at hklt] : textL ns (f + 1) k = _)
    rw [kidsOf_at hklt] at HTX HK
    obtain ⟨nd, hnd⟩ : ∃ nd, nd = ns[k] := ⟨_, rfl⟩
    rw [← hnd] at c0 c1 c3 c4 c5 HKC HTX HK hkl1
    obtain ⟨k0, k1, rs, k3, k4, ks⟩ := nd
    simp only at c0 c1 c3 c4 c5 HKC HTX HK hkl1
    clear hkc ih hn hcs hnd hk hsz
    obtain ⟨w2, hw2⟩ : ∃ x, x = (w.alloc (.cells #[.slice (some ⟨b, off, none⟩) ns.length cap] 26)).alloc (.cells #[.int .i64 k0, .string k1, .slice av1 av2 av3, .string k3, .int .i64 k4, .slice kv1 ks.length kv3] 36) := ⟨_, rfl⟩
    have b2 : Below w.heap.size w w2 := by rw [hw2]; exact ((Below.refl _ w).alloc (Nat.le_refl _) _).alloc (by simp) _
    have gT : w2.heap[w.heap.size]? = some (.cells #[.slice (some ⟨b, off, none⟩) ns.length cap] 26 (0, 0)) := by rw [hw2, Below.heap_alloc _ _ _ (by simp)]; exact World.alloc_heap_new _ _
    have gN : w2.heap[w.heap.size + 1]? = some (.cells #[.int .i64 k0, .string k1, .slice av1 av2 av3, .string k3, .int .i64 k4, .slice kv1 ks.length kv3] 36 (0, 0)) := by
      rw [hw2]
      have := World.alloc_heap_new (w.alloc (.cells #[.slice (some ⟨b, off, none⟩) ns.length cap] 26)) (.cells #[.int .i64 k0, .string k1, .slice av1 av2 av3, .string k3, .int .i64 k4, .slice kv1 ks.length kv3] 36)
      rwa [World.size_alloc] at this
    have cT : w2.cell? ⟨w.heap.size, 0, none⟩ = some (.slice (some ⟨b, off, none⟩) ns.length cap) := by simp only [World.cell?, gT]; rfl
    have cN5 : w2.cell? ⟨w.heap.size + 1, 5, none⟩ = some (.slice kv1 ks.length kv3) := by simp only [World.cell?, gN]; rfl
    have lT := blk_lt gT
    have lN := blk_lt gN
    have B2 := (show Hid (Below w.heap.size w w2) from b2)
    have CT := (show Hid _ from cT)
    have CN5 := (show Hid _ from cN5)
    clear gT gN b2 cT cN5
    have hkm : ks.length < 9223372036854775808 := by unfold maxLen at hkl2; omega
    obtain ⟨own, hown⟩ : ∃ own, own = txL ⟨k0, k1, rs, k3, k4, ks⟩ := ⟨_, rfl⟩
    have HOWN := (show Hid (own = txL ⟨k0, k1, rs, k3, k4, ks⟩) from hown)
    rw [← hown] at HTX
    clear hown
    go_enter Tryz.func73, Tryz.ntmps73
    by_cases h4 : k0 = 4
    all_goals
      (try subst h4)
      go_wp2
      rw [← hw2]
      clear hw2 c0 c1 c2 c3 c4 c5
      go_loopw [6, 7] (fun o i wr => ∃ j : Nat, j ≤ ks.length ∧ i = .int .i64 j ∧ o = .string (strL (own ++ (ks.take j).flatMap fun x => textL ns f x.toNat)) ∧ Below w2.heap.size w2 wr) (fun _ i _ => ks.length - (intOf i).toNat)
      case atStart =>
        refine ⟨0, Nat.zero_le _, rfl, ?_, Below.refl _ _⟩
        rw [HOWN.out]
        simp [txL, strL]
        try simp [h4]
      case round =>
        obtain ⟨j, hj, rfl, rfl, bel⟩ := hrel
        have BEL := (show Hid (Below w2.heap.size w2 wr) from bel)
        have cN := (bel.cell (p := ⟨w.heap.size + 1, 5, none⟩) lN).trans CN5.out
        by_cases hlt : j < ks.length
        · have HT1 : Hid (ks.take (j + 1) = ks.take j ++ [ks[j]]) := take_snoc ks hlt
          obtain ⟨hx0, hdx⟩ := HK.out ks[j] (List.getElem_mem hlt)
          obtain ⟨x, hx⟩ : ∃ x, x = ks[j] := ⟨_, rfl⟩
          rw [← hx] at HT1 hx0 hdx
          obtain ⟨q, rfl⟩ : ∃ q : Nat, x = (q : Int) := ⟨x.toNat, by omega⟩
          rw [show ((q : Int)).toNat = q by simp] at hdx
          have hsp : (own ++ (ks.take j).flatMap (fun x => textL ns f x.toNat)).length + (textL ns f q).length ≤ 1000000000 := by
            have h1 := HSZ.out
            rw [HTX.out] at h1
            have h2 : ks = (ks.take j ++ [(q : Int)]) ++ ks.drop (j + 1) := by rw [← HT1.out]; exact (List.take_append_drop _ _).symm
            have h3 : (ks.flatMap fun x => textL ns f x.toNat).length = ((ks.take j).flatMap fun x => textL ns f x.toNat).length + (textL ns f q).length + ((ks.drop (j + 1)).flatMap fun x => textL ns f x.toNat).length := by
              conv => lhs; rw [h2]
              rw [List.flatMap_append, List.flatMap_append, List.flatMap_singleton, List.length_append, List.length_append, show ((q : Int)).toNat = q by simp]
            rw [List.length_append, h3] at h1
            rw [List.length_append]
            omega
          obtain ⟨kb, ko, rfl, ck⟩ := HKC.out j hlt
          have hkb := lt_of_cell6 ck
          rw [show ks.getD j 0 = (q : Int) by simp [List.getD_eq_getElem?_getD, hlt, ← hx]] at ck
          obtain ⟨s1, hs1⟩ : ∃ s1, s1 = strL (own ++ (ks.take j).flatMap fun x => textL ns f x.toNat) := ⟨_, rfl⟩
          obtain ⟨s2, hs2⟩ : ∃ s2, s2 = strL (textL ns f q) := ⟨_, rfl⟩
          have hz : s1.size + s2.size ≤ 9223372036854775807 := by rw [hs1, hs2, strL_size, strL_size]; omega
          have HE : Hid (s1 ++ s2 = strL (own ++ (ks.take (j + 1)).flatMap fun x => textL ns f x.toNat)) := (by
            rw [hs1, hs2, strL_app, HT1.out, List.flatMap_append, List.flatMap_singleton, show ((q : Int)).toNat = q by simp, List.append_assoc] : s1 ++ s2 = strL (own ++ (ks.take (j + 1)).flatMap fun x => textL ns f x.toNat))
          have CI := (show Hid (∀ n : Wd w2.heap.size w2, Calls Tryz.prog 73 #[.agg #[.slice (some ⟨b, off, none⟩) ns.length cap], .int .i64 (q : Int)] n.w fun e w' => e = .returned (.string s2) ∧ Below n.w.heap.size n.w w') from fun n => by rw [hs2]; exact IH.out q hdx (by omega) n.w _ (HN.out.below (B2.out.trans (n.below.mono B2.out.size))))
          rw [← hs1]
          have f0 : ∀ n : Wd w2.heap.size w2, n.w.cell? ⟨w.heap.size, 0, none⟩ = some (.slice (some ⟨b, off, none⟩) ns.length cap) := fun n => (n.below.cell (p := ⟨w.heap.size, 0, none⟩) lT).trans CT.out
          have f1 : ∀ n : Wd w2.heap.size w2, n.w.cell? ⟨w.heap.size + 1, 5, none⟩ = some (.slice (some ⟨kb, ko, none⟩) ks.length kv3) := fun n => (n.below.cell (p := ⟨w.heap.size + 1, 5, none⟩) lN).trans CN5.out
          have f2 : ∀ n : Wd w2.heap.size w2, n.w.cell? ⟨kb, ko + j, none⟩ = some (.int .i64 (q : Int)) := fun n => ((B2.out.trans (n.below.mono B2.out.size)).cell (p := ⟨kb, ko + j, none⟩) hkb).trans ck
          have hadd : ∀ W, (Op.stringOp .add s1 s2).run Tryz.prog W = .ok (.string (s1 ++ s2)) W := fun W => run_string_add_sum W s1 s2 hz
          have ne := Wd.any w2.heap.size w2
          clear hs1 hs2 hx hdx hsp ck hx0
          go_wp2
          refine wp_region_below (B := w2.heap.size) (w0 := w2) (by kernel_rfl) (by kernel_rfl) BEL.out ?_
          repeat (go_big_quiet_step ((go_at_call 73; exact quiet_below (CI.out _) (Nat.le_refl _))))
          refine wpQuiet_nil ?_
          intro wq hq
          replace hq := Wd.of hq
          clear f0 f1 f2 hadd
          go_wp2
          go_roundw
          case rel => exact ⟨j + 1, by omega, by go_num, by rw [HE.out], hq⟩
          case measure => simp [intOf]; omega
        · obtain rfl : j = ks.length := by omega
          go_wp2
          go_ret
          exact ⟨by rw [HTX.out, List.take_length]; rfl, B2.out.trans (BEL.out.mono B2.out.size)⟩

set_option maxRecDepth 100000 in
theorem stextOf_any {w : World} {v : Value} {ns : List PNode} (hn : NodesAt w v ns) (hfit : ∀ n ∈ ns, NodeFit n) (hlen : ns.length ≤ 1048576) (at' : Int) :
    Calls Tryz.prog 21 #[.agg #[v], .int .i64 at'] w fun e w' => ∃ s, e = .returned (.string s) ∧ ((STreeOkP ns ∧ 0 ≤ at' ∧ at' < ns.length → s = ⟨(textL ns ns.length at'.toNat).toArray⟩) ∧ (¬ (STreeOkP ns ∧ 0 ≤ at' ∧ at' < ns.length) → s = ⟨#[]⟩)) ∧ Below w.heap.size w w' := by
  have HN := (show Hid (NodesAt w v ns) from hn)
  have HFIT := (show Hid (∀ n ∈ ns, NodeFit n) from hfit)
  obtain ⟨a, cap, rfl, hc1, hc2, _⟩ := hn.slice
  clear hn hfit
  obtain ⟨w1, hw1⟩ : ∃ x, x = w.alloc (.cells #[.slice a ns.length cap] 26) := ⟨_, rfl⟩
  have b1 : Below w.heap.size w w1 := by rw [hw1]; exact (Below.refl _ _).alloc (Nat.le_refl _) _
  have g1 : w1.heap[w.heap.size]? = some (.cells #[.slice a ns.length cap] 26 (0, 0)) := by rw [hw1]; exact World.alloc_heap_new _ _
  have HG1 := (show Hid _ from g1)
  clear g1
  go_enter Tryz.func21, Tryz.ntmps21
  go_wp2_with fail
  go_at_call 14
  rw [← hw1]
  refine Calls.mono (streeOk_any (HN.out.below b1) HFIT.out hlen) ?_
  rintro e w2 ⟨r, rfl, hr, b2⟩
  clear hw1
  have hb2 := b1.trans (b2.mono b1.size)
  have g2 := (b2.block _ (blk_lt HG1.out)).trans HG1.out
  have k0 : w2.cell? ⟨w.heap.size, 0, none⟩ = some (.slice a ns.length cap) := by simp only [World.cell?, g2]; rfl
  have G2 := (show Hid _ from g2)
  clear g2 b2
  cases r
  · have HF : Hid (¬ STreeOkP ns) := fun h => by have := hr.mpr h; cases this
    clear hr
    go_wp2
    go_ret
    exact ⟨_, rfl, ⟨fun h => absurd h.1 HF.out, fun _ => rfl⟩, hb2⟩
  · have HT : Hid (STreeOkP ns) := hr.mp rfl
    clear hr
    go_wp2_with fail
    go_at_call 52
    refine Calls.mono (shas_any at' hlen) ?_
    rintro e w3 ⟨rfl, b3⟩
    have hb3 := hb2.trans (b3.mono hb2.size)
    have g3 := (b3.block _ (blk_lt G2.out)).trans G2.out
    have k3 : w3.cell? ⟨w.heap.size, 0, none⟩ = some (.slice a ns.length cap) := by simp only [World.cell?, g3]; rfl
    clear g3 b3 k0
    by_cases hin : 0 ≤ at' ∧ at' < ns.length
    · have hib : inB at' 0 ((ns.length : Int) - 1) = true := by simp [inB]; omega
      rw [hib]
      obtain ⟨k, rfl⟩ : ∃ k : Nat, at' = (k : Int) := ⟨at'.toNat, by omega⟩
      have hk : k < ns.length := by omega
      have CC := (show Hid _ from stext_any hlen ns.length k (tree_deep HT.out.1 hk) (by have := text_len HT.out.1 (fun n hn => (HFIT.out n hn).tx) hk; omega) w3 _ (HN.out.below hb3))
      clear hib hin
      go_wp2_with fail
      go_at_call 73
      refine Calls.mono CC.out ?_
      rintro e w4 ⟨rfl, b4⟩
      go_wp2
      go_ret
      exact ⟨_, rfl, ⟨fun _ => by simp [strL], fun h => absurd ⟨HT.out, by omega, by omega⟩ h⟩, hb3.trans (b4.mono hb3.size)⟩
    · have hib : inB at' 0 ((ns.length : Int) - 1) = false := by simp [inB]; omega
      rw [hib]
      have HF : Hid (¬ (0 ≤ at' ∧ at' < ns.length)) := hin
      clear hib hin
      go_wp2
      go_ret
      exact ⟨_, rfl, ⟨fun h => absurd h.2 HF.out, fun _ => rfl⟩, hb3⟩
end Go.Proofs.YtogdbjafibejdaaGreat

/- The law FnWrite, walked (written by mk/wwrite.py). No condition. -/
namespace Go.Proofs.YtogdbjafibejdaaGreat
open Go.RowKit
set_option maxRecDepth 100000
set_option linter.unusedVariables false

def cmtN : PNode := ⟨5, ⟨#[]⟩, [], ⟨#[120]⟩, -1, []⟩
theorem cmt_good : nodeB 5 ⟨#[]⟩ [] ⟨#[120]⟩ 0 = true := by kernel_rfl
theorem cmt_fit : NodeFit ⟨5, ⟨#[]⟩, [], ⟨#[120]⟩, -1, []⟩ := ⟨by decide, by decide, by simp, fun p hp => by simp at hp, by simp⟩
/-- The text behind a write is the text ahead of it and what is written. -/
theorem text_write {ns ms : List PNode} (h : STreeOkP ns) {p : Nat} (hp : p < ns.length) {s : ByteArray} (hse : empB s = false) (hu : utfOk (bs s) = true) (ht : TreeOkP ms)
    (hms : (∃ k, LastT ns p k ∧ ms = moreN ns k s) ∨ ((¬ ∃ k, LastT ns p k) ∧ ms = newN ns p s)) : textL ms ms.length p = textL ns ns.length p ++ s.data.toList ∧ p < ms.length := by
  rcases hms with ⟨k, hl, rfl⟩ | ⟨hn, rfl⟩
  · rw [moreN_len]
    exact ⟨text_more h.1 hp hl s, hp⟩
  · have h5 := ((new_ok h hp hse hu).mp ht).1
    have e : (newN ns p s).length = ns.length + 1 := by simp [newN, hangN_len]
    rw [e]
    exact ⟨text_new h hp hse hu h5, by omega⟩

set_option maxRecDepth 100000 in
theorem fnWrite_big {v : Value} {xs : List Int} (w : World) (h : Sl .u8 w v xs) (hl : 1048576 < xs.length) :
    Calls Tryz.prog 4 #[v] w fun e w' => e = .returned (.bool true) ∧ Below w.heap.size w w' := by
  have hbig := big_any h
  rw [decide_eq_true hl] at hbig
  clear h
  go_enter Tryz.func4, Tryz.ntmps4
  go_wp2_with fail
  go_at_call 10
  refine hbig.mono ?_
  rintro e w1 ⟨rfl, rfl⟩
  go_wp2
  go_ret
  exact ⟨rfl, Below.refl _ _⟩

set_option maxHeartbeats 4000000 in
set_option maxRecDepth 100000 in
theorem fnWrite_of {v : Value} {xs : List Int} (w : World) (h : Sl .u8 w v xs) (hl : ¬ 1048576 < xs.length)
    (hD : Calls Tryz.prog 18 #[v] w fun e w' => ∃ nv ns z s, e = .returned (.tuple #[.agg #[nv], .int .i64 z, .string s]) ∧ OwnN w.heap.size w' nv ns ∧ OutT ns ∧ (-1 ≤ z ∧ z ≤ 500) ∧ s.size ≤ 3001 ∧ Below w.heap.size w w') :
    Calls Tryz.prog 4 #[v] w fun e w' => e = .returned (.bool true) ∧ Below w.heap.size w w' := by
  have hbig := big_any h
  rw [decide_eq_false hl] at hbig
  have HD := (show Hid _ from hD)
  have HBG := (show Hid _ from hbig)
  clear h hl hbig hD
  go_enter Tryz.func4, Tryz.ntmps4
  go_wp2_with fail
  go_at_call 10
  refine Calls.mono HBG.out ?_
  rintro e w0 ⟨rfl, rfl⟩
  clear HBG
  go_wp2_with fail
  go_at_call 18
  refine Calls.mono HD.out ?_
  rintro e w1 ⟨nv, ns, z, s, rfl, own1, hout, ⟨hz0, hz1⟩, hss, b1⟩
  clear HD
  obtain ⟨na, ncap, rfl, hc1, hc2, j1⟩ := own1.nodes.slice
  clear j1
  have hlen := hout.len
  have HFT := (show Hid (∀ n ∈ ns, NodeFit n) from hout.fit)
  have HPR := (show Hid (TreeOkP ns → parOf ns 0 = -1) from hout.par)
  have NT1 := (show Hid (NodesAt w1 (.slice na ns.length ncap) ns) from own1.nodes)
  have B1 := (show Hid (Below w0.heap.size w0 w1) from b1)
  clear own1 hout b1
  obtain ⟨w2, hw2⟩ : ∃ x, x = w1.alloc (.cells #[.slice na ns.length ncap] 26) := ⟨_, rfl⟩
  have b2 : Below w1.heap.size w1 w2 := by rw [hw2]; exact (Below.refl _ _).alloc (Nat.le_refl _) _
  have gn2 : w2.heap[w1.heap.size]? = some (.cells #[.slice na ns.length ncap] 26 (0, 0)) := by rw [hw2]; exact World.alloc_heap_new _ _
  obtain ⟨T, hT⟩ : ∃ x, x = w1.heap.size := ⟨_, rfl⟩
  rw [← hT] at gn2
  have cT2 := (six_one gn2).1
  have GT2 := (show Hid (w2.heap[T]? = some (.cells #[.slice na ns.length ncap] 26 (0, 0))) from gn2)
  clear gn2
  have NT2 := (show Hid (NodesAt w2 (.slice na ns.length ncap) ns) from NT1.out.below b2)
  have B2 := (show Hid (Below w0.heap.size w0 w2) from B1.out.trans (b2.mono B1.out.size))
  clear NT1 b2 B1
  go_upto_region 4 with fail
  rw [← hw2, ← hT]
  clear hw2 hT
  by_cases hok : TreeOkP ns
  rotate_left
  · have HNO := (show Hid (¬ TreeOkP ns) from hok)
    clear hok
    go_wp2_with fail
    go_at_call 19
    refine Calls.mono (itreeWrite_no NT2.out HFT.out (by omega) z s HNO.out) ?_
    rintro e w3 ⟨rfl, b3⟩
    have gT3 := (b3.block _ (blk_lt GT2.out)).trans GT2.out
    have cT3 := (six_one gT3).1
    have GT3 := (show Hid (w3.heap[T]? = some (.cells #[.slice na ns.length ncap] 26 (0, 0))) from gT3)
    have NT3 := (show Hid (NodesAt w3 (.slice na ns.length ncap) ns) from NT2.out.below b3)
    have B3 := (show Hid (Below w0.heap.size w0 w3) from B2.out.trans (b3.mono B2.out.size))
    clear gT3 GT2 cT2 NT2 b3 B2
    obtain ⟨w4, hw4⟩ : ∃ x, x = w3.alloc (.cells #[.slice none 0 0] 26) := ⟨_, rfl⟩
    have b4 : Below w3.heap.size w3 w4 := by rw [hw4]; exact (Below.refl _ _).alloc (Nat.le_refl _) _
    have gn4 : w4.heap[w3.heap.size]? = some (.cells #[.slice none 0 0] 26 (0, 0)) := by rw [hw4]; exact World.alloc_heap_new _ _
    obtain ⟨X, hX⟩ : ∃ x, x = w3.heap.size := ⟨_, rfl⟩
    rw [← hX] at gn4
    have cX4 := (six_one gn4).1
    have GX4 := (show Hid (w4.heap[X]? = some (.cells #[.slice none 0 0] 26 (0, 0))) from gn4)
    clear gn4
    have gT4 := (b4.block _ (blk_lt GT3.out)).trans GT3.out
    have cT4 := (six_one gT4).1
    have GT4 := (show Hid (w4.heap[T]? = some (.cells #[.slice na ns.length ncap] 26 (0, 0))) from gT4)
    have NT4 := (show Hid (NodesAt w4 (.slice na ns.length ncap) ns) from NT3.out.below b4)
    have B4 := (show Hid (Below w0.heap.size w0 w4) from B3.out.trans (b4.mono B3.out.size))
    clear gT4 GT3 cT3 NT3 b4 B3
    go_upto_region 5 with fail
    rw [← hw4, ← hX]
    clear hw4 hX
    go_wp2_with fail
    go_at_call 20
    refine Calls.mono (streeWrite_any NT4.out HFT.out (by omega) z s (by omega)) ?_
    rintro e w5 ⟨ua, un, uc, r, rfl, hr, b5⟩
    obtain rfl : r = false := by
      cases r with
      | false => rfl
      | true => exact absurd (hr.mp rfl).1.1 HNO.out
    clear hr
    have gT5 := (b5.block _ (blk_lt GT4.out)).trans GT4.out
    have cT5 := (six_one gT5).1
    have GT5 := (show Hid (w5.heap[T]? = some (.cells #[.slice na ns.length ncap] 26 (0, 0))) from gT5)
    have gX5 := (b5.block _ (blk_lt GX4.out)).trans GX4.out
    have cX5 := (six_one gX5).1
    have GX5 := (show Hid (w5.heap[X]? = some (.cells #[.slice none 0 0] 26 (0, 0))) from gX5)
    have NT5 := (show Hid (NodesAt w5 (.slice na ns.length ncap) ns) from NT4.out.below b5)
    have B5 := (show Hid (Below w0.heap.size w0 w5) from B4.out.trans (b5.mono B4.out.size))
    clear gT5 GT4 cT4 gX5 GX4 cX4 NT4 b5 B4
    obtain ⟨w6, hw6⟩ : ∃ x, x = w5.alloc (.cells #[.slice ua un uc] 26) := ⟨_, rfl⟩
    have b6 : Below w5.heap.size w5 w6 := by rw [hw6]; exact (Below.refl _ _).alloc (Nat.le_refl _) _
    have gn6 : w6.heap[w5.heap.size]? = some (.cells #[.slice ua un uc] 26 (0, 0)) := by rw [hw6]; exact World.alloc_heap_new _ _
    obtain ⟨U, hU⟩ : ∃ x, x = w5.heap.size := ⟨_, rfl⟩
    rw [← hU] at gn6
    have cU6 := (six_one gn6).1
    have GU6 := (show Hid (w6.heap[U]? = some (.cells #[.slice ua un uc] 26 (0, 0))) from gn6)
    clear gn6
    have gT6 := (b6.block _ (blk_lt GT5.out)).trans GT5.out
    have cT6 := (six_one gT6).1
    have GT6 := (show Hid (w6.heap[T]? = some (.cells #[.slice na ns.length ncap] 26 (0, 0))) from gT6)
    have gX6 := (b6.block _ (blk_lt GX5.out)).trans GX5.out
    have cX6 := (six_one gX6).1
    have GX6 := (show Hid (w6.heap[X]? = some (.cells #[.slice none 0 0] 26 (0, 0))) from gX6)
    have NT6 := (show Hid (NodesAt w6 (.slice na ns.length ncap) ns) from NT5.out.below b6)
    have B6 := (show Hid (Below w0.heap.size w0 w6) from B5.out.trans (b6.mono B5.out.size))
    clear gT6 GT5 cT5 gX6 GX5 cX5 NT5 b6 B5
    go_upto_region 6 with fail
    rw [← hw6, ← hU]
    clear hw6 hU
    by_cases h0 : (0 : Int) = ns.length
    all_goals
      go_wp2
      go_ret
      exact ⟨by simp, B6.out⟩
  · have HOK := (show Hid (STreeOkP ns) from ⟨hok, HPR.out hok⟩)
    clear hok
    obtain ⟨ms, hms⟩ := write_ms ns z.toNat s
    have HMS := (show Hid _ from hms)
    have hfm := fit_write HOK.out.1 HFT.out z.toNat s (by omega) hms
    have HFX := (show Hid (∀ n ∈ ms, NodeFit n) from hfm.1)
    have hml := hfm.2
    clear hms hfm
    go_wp2_with fail
    go_at_call 19
    refine Calls.mono (itreeWrite_any NT2.out HFT.out (by omega) z s (by omega) HOK.out.1 HMS.out HFX.out (by omega)) ?_
    rintro e w3 ⟨xa, xn, xc, r, rfl, hr, hxn, hxl, b3⟩
    have HR := (show Hid (r = true ↔ WriteB ns z s) from hr.trans (write_iff HOK.out z s HMS.out).symm)
    have HRH := (show Hid _ from hr)
    have HXN := (show Hid (r = true → NodesAt w3 (.slice xa xn xc) ms) from hxn)
    have HXL := (show Hid (r = false → xn = ns.length) from hxl)
    clear hr hxn hxl
    have gT3 := (b3.block _ (blk_lt GT2.out)).trans GT2.out
    have cT3 := (six_one gT3).1
    have GT3 := (show Hid (w3.heap[T]? = some (.cells #[.slice na ns.length ncap] 26 (0, 0))) from gT3)
    have NT3 := (show Hid (NodesAt w3 (.slice na ns.length ncap) ns) from NT2.out.below b3)
    have B3 := (show Hid (Below w0.heap.size w0 w3) from B2.out.trans (b3.mono B2.out.size))
    clear gT3 GT2 cT2 NT2 b3 B2
    cases r
    · obtain rfl := HXL.out rfl
      clear HXL HXN
      obtain ⟨w4, hw4⟩ : ∃ x, x = w3.alloc (.cells #[.slice xa ns.length xc] 26) := ⟨_, rfl⟩
      have b4 : Below w3.heap.size w3 w4 := by rw [hw4]; exact (Below.refl _ _).alloc (Nat.le_refl _) _
      have gn4 : w4.heap[w3.heap.size]? = some (.cells #[.slice xa ns.length xc] 26 (0, 0)) := by rw [hw4]; exact World.alloc_heap_new _ _
      obtain ⟨X, hX⟩ : ∃ x, x = w3.heap.size := ⟨_, rfl⟩
      rw [← hX] at gn4
      have cX4 := (six_one gn4).1
      have GX4 := (show Hid (w4.heap[X]? = some (.cells #[.slice xa ns.length xc] 26 (0, 0))) from gn4)
      clear gn4
      have gT4 := (b4.block _ (blk_lt GT3.out)).trans GT3.out
      have cT4 := (six_one gT4).1
      have GT4 := (show Hid (w4.heap[T]? = some (.cells #[.slice na ns.length ncap] 26 (0, 0))) from gT4)
      have NT4 := (show Hid (NodesAt w4 (.slice na ns.length ncap) ns) from NT3.out.below b4)
      have B4 := (show Hid (Below w0.heap.size w0 w4) from B3.out.trans (b4.mono B3.out.size))
      clear gT4 GT3 cT3 NT3 b4 B3
      go_upto_region 5 with fail
      rw [← hw4, ← hX]
      clear hw4 hX
      go_wp2_with fail
      go_at_call 20
      refine Calls.mono (streeWrite_any NT4.out HFT.out (by omega) z s (by omega)) ?_
      rintro e w5 ⟨ua, un, uc, r, rfl, hr, b5⟩
      obtain rfl : r = false := by
        cases r with
        | false => rfl
        | true => exact absurd (HR.out.mpr (hr.mp rfl)) (by decide)
      clear hr
      have gT5 := (b5.block _ (blk_lt GT4.out)).trans GT4.out
      have cT5 := (six_one gT5).1
      have GT5 := (show Hid (w5.heap[T]? = some (.cells #[.slice na ns.length ncap] 26 (0, 0))) from gT5)
      have gX5 := (b5.block _ (blk_lt GX4.out)).trans GX4.out
      have cX5 := (six_one gX5).1
      have GX5 := (show Hid (w5.heap[X]? = some (.cells #[.slice xa ns.length xc] 26 (0, 0))) from gX5)
      have NT5 := (show Hid (NodesAt w5 (.slice na ns.length ncap) ns) from NT4.out.below b5)
      have B5 := (show Hid (Below w0.heap.size w0 w5) from B4.out.trans (b5.mono B4.out.size))
      clear gT5 GT4 cT4 gX5 GX4 cX4 NT4 b5 B4
      obtain ⟨w6, hw6⟩ : ∃ x, x = w5.alloc (.cells #[.slice ua un uc] 26) := ⟨_, rfl⟩
      have b6 : Below w5.heap.size w5 w6 := by rw [hw6]; exact (Below.refl _ _).alloc (Nat.le_refl _) _
      have gn6 : w6.heap[w5.heap.size]? = some (.cells #[.slice ua un uc] 26 (0, 0)) := by rw [hw6]; exact World.alloc_heap_new _ _
      obtain ⟨U, hU⟩ : ∃ x, x = w5.heap.size := ⟨_, rfl⟩
      rw [← hU] at gn6
      have cU6 := (six_one gn6).1
      have GU6 := (show Hid (w6.heap[U]? = some (.cells #[.slice ua un uc] 26 (0, 0))) from gn6)
      clear gn6
      have gT6 := (b6.block _ (blk_lt GT5.out)).trans GT5.out
      have cT6 := (six_one gT6).1
      have GT6 := (show Hid (w6.heap[T]? = some (.cells #[.slice na ns.length ncap] 26 (0, 0))) from gT6)
      have gX6 := (b6.block _ (blk_lt GX5.out)).trans GX5.out
      have cX6 := (six_one gX6).1
      have GX6 := (show Hid (w6.heap[X]? = some (.cells #[.slice xa ns.length xc] 26 (0, 0))) from gX6)
      have NT6 := (show Hid (NodesAt w6 (.slice na ns.length ncap) ns) from NT5.out.below b6)
      have B6 := (show Hid (Below w0.heap.size w0 w6) from B5.out.trans (b6.mono B5.out.size))
      clear gT6 GT5 cT5 gX6 GX5 cX5 NT5 b6 B5
      go_upto_region 6 with fail
      rw [← hw6, ← hU]
      clear hw6 hU
      go_wp2
      go_ret
      exact ⟨rfl, B6.out⟩
    · have hxn := HXN.out rfl
      obtain ⟨xa', xc', e0, hx1, hx2, _⟩ := hxn.slice
      cases e0
      have NX3 := (show Hid (NodesAt w3 (.slice xa ms.length xc) ms) from hxn)
      have HWB := (show Hid (WriteB ns z s) from HR.out.mp rfl)
      have HTM := (show Hid (TreeOkP ms) from (HRH.out.mp rfl).2)
      clear hxn HXN HXL HRH
      have hzr := HWB.out.2.1
      obtain ⟨zn, rfl⟩ : ∃ zn : Nat, z = zn := ⟨z.toNat, by omega⟩
      have hzl : zn < ns.length := by omega
      have HTW := (show Hid _ from text_write HOK.out hzl HWB.out.2.2.2.1 HWB.out.2.2.2.2.1 HTM.out (by simpa using HMS.out))
      have hm5 := HTM.out.most
      clear HMS
      obtain ⟨w4, hw4⟩ : ∃ x, x = w3.alloc (.cells #[.slice xa ms.length xc] 26) := ⟨_, rfl⟩
      have b4 : Below w3.heap.size w3 w4 := by rw [hw4]; exact (Below.refl _ _).alloc (Nat.le_refl _) _
      have gn4 : w4.heap[w3.heap.size]? = some (.cells #[.slice xa ms.length xc] 26 (0, 0)) := by rw [hw4]; exact World.alloc_heap_new _ _
      obtain ⟨X, hX⟩ : ∃ x, x = w3.heap.size := ⟨_, rfl⟩
      rw [← hX] at gn4
      have cX4 := (six_one gn4).1
      have GX4 := (show Hid (w4.heap[X]? = some (.cells #[.slice xa ms.length xc] 26 (0, 0))) from gn4)
      clear gn4
      have gT4 := (b4.block _ (blk_lt GT3.out)).trans GT3.out
      have cT4 := (six_one gT4).1
      have GT4 := (show Hid (w4.heap[T]? = some (.cells #[.slice na ns.length ncap] 26 (0, 0))) from gT4)
      have NT4 := (show Hid (NodesAt w4 (.slice na ns.length ncap) ns) from NT3.out.below b4)
      have NX4 := (show Hid (NodesAt w4 (.slice xa ms.length xc) ms) from NX3.out.below b4)
      have B4 := (show Hid (Below w0.heap.size w0 w4) from B3.out.trans (b4.mono B3.out.size))
      clear gT4 GT3 cT3 NT3 NX3 b4 B3
      go_upto_region 5 with fail
      rw [← hw4, ← hX]
      clear hw4 hX
      go_wp2_with fail
      go_at_call 20
      refine Calls.mono (streeWrite_any NT4.out HFT.out (by omega) (zn : Int) s (by omega)) ?_
      rintro e w5 ⟨ua, un, uc, r, rfl, hr, b5⟩
      obtain rfl : r = true := hr.mpr HWB.out
      clear hr
      have gT5 := (b5.block _ (blk_lt GT4.out)).trans GT4.out
      have cT5 := (six_one gT5).1
      have GT5 := (show Hid (w5.heap[T]? = some (.cells #[.slice na ns.length ncap] 26 (0, 0))) from gT5)
      have gX5 := (b5.block _ (blk_lt GX4.out)).trans GX4.out
      have cX5 := (six_one gX5).1
      have GX5 := (show Hid (w5.heap[X]? = some (.cells #[.slice xa ms.length xc] 26 (0, 0))) from gX5)
      have NT5 := (show Hid (NodesAt w5 (.slice na ns.length ncap) ns) from NT4.out.below b5)
      have NX5 := (show Hid (NodesAt w5 (.slice xa ms.length xc) ms) from NX4.out.below b5)
      have B5 := (show Hid (Below w0.heap.size w0 w5) from B4.out.trans (b5.mono B4.out.size))
      clear gT5 GT4 cT4 gX5 GX4 cX4 NT4 NX4 b5 B4
      obtain ⟨w6, hw6⟩ : ∃ x, x = w5.alloc (.cells #[.slice ua un uc] 26) := ⟨_, rfl⟩
      have b6 : Below w5.heap.size w5 w6 := by rw [hw6]; exact (Below.refl _ _).alloc (Nat.le_refl _) _
      have gn6 : w6.heap[w5.heap.size]? = some (.cells #[.slice ua un uc] 26 (0, 0)) := by rw [hw6]; exact World.alloc_heap_new _ _
      obtain ⟨U, hU⟩ : ∃ x, x = w5.heap.size := ⟨_, rfl⟩
      rw [← hU] at gn6
      have cU6 := (six_one gn6).1
      have GU6 := (show Hid (w6.heap[U]? = some (.cells #[.slice ua un uc] 26 (0, 0))) from gn6)
      clear gn6
      have gT6 := (b6.block _ (blk_lt GT5.out)).trans GT5.out
      have cT6 := (six_one gT6).1
      have GT6 := (show Hid (w6.heap[T]? = some (.cells #[.slice na ns.length ncap] 26 (0, 0))) from gT6)
      have gX6 := (b6.block _ (blk_lt GX5.out)).trans GX5.out
      have cX6 := (six_one gX6).1
      have GX6 := (show Hid (w6.heap[X]? = some (.cells #[.slice xa ms.length xc] 26 (0, 0))) from gX6)
      have NT6 := (show Hid (NodesAt w6 (.slice na ns.length ncap) ns) from NT5.out.below b6)
      have NX6 := (show Hid (NodesAt w6 (.slice xa ms.length xc) ms) from NX5.out.below b6)
      have B6 := (show Hid (Below w0.heap.size w0 w6) from B5.out.trans (b6.mono B5.out.size))
      clear gT6 GT5 cT5 gX6 GX5 cX5 NT5 NX5 b6 B5
      go_upto_region 6 with fail
      rw [← hw6, ← hU]
      clear hw6 hU
      obtain ⟨o1, ho1⟩ : ∃ o1, o1 = strL (textL ns ns.length zn) := ⟨_, rfl⟩
      have ho1s : o1.size ≤ 524288000 := by rw [ho1, strL_size]; exact text_len HOK.out.1 (fun n hn => (HFT.out n hn).tx) hzl
      have hnew : strL (textL ms ms.length zn) = o1 ++ s := by
        rw [HTW.out.1, ← strL_app, ← ho1, strL_data]
      have CA := (show Hid (∀ n : Wd w6.heap.size w6, Calls Tryz.prog 21 #[.agg #[.slice na ns.length ncap], .int .i64 (zn : Int)] n.w fun e w' => e = .returned (.string o1) ∧ Below n.w.heap.size n.w w') from fun n => by
        refine Calls.mono (stextOf_any (NT6.out.below n.below) HFT.out (by omega) (zn : Int)) ?_
        rintro e w' ⟨x, rfl, hx, b⟩
        refine ⟨?_, b⟩
        rw [hx.1 ⟨HOK.out, by omega, by omega⟩, ho1]
        rfl)
      have CB := (show Hid (∀ n : Wd w6.heap.size w6, Calls Tryz.prog 22 #[.agg #[.slice xa ms.length xc], .int .i64 (zn : Int)] n.w fun e w' => e = .returned (.string (o1 ++ s)) ∧ Below n.w.heap.size n.w w') from fun n => by
        refine Calls.mono (itextOf_any (NX6.out.below n.below) HFX.out (by omega) (zn : Int)) ?_
        rintro e w' ⟨x, rfl, hx, b⟩
        refine ⟨?_, b⟩
        rw [hx.1 ⟨HTM.out, by omega, by have := HTW.out.2; omega⟩, ← hnew]
        rfl)
      have HOS := (show Hid (o1.size ≤ 524288000) from ho1s)
      clear ho1 hnew ho1s
      have f0 : ∀ n : Wd w6.heap.size w6, n.w.cell? ⟨T, 0, none⟩ = some (.slice na ns.length ncap) := fun n => (n.below.cell (p := ⟨T, 0, none⟩) (blk_lt GT6.out)).trans cT6
      have f1 : ∀ n : Wd w6.heap.size w6, n.w.cell? ⟨X, 0, none⟩ = some (.slice xa ms.length xc) := fun n => (n.below.cell (p := ⟨X, 0, none⟩) (blk_lt GX6.out)).trans cX6
      have ne := Wd.any w6.heap.size w6
      go_upto_region 10 with fail
      refine wp_region_below (B := w6.heap.size) (w0 := w6) (by kernel_rfl) (by kernel_rfl) (Below.refl _ _) ?_
      repeat (go_big_quiet_step (first
        | (go_at_call 21; exact quiet_below (CA.out _) (Nat.le_refl _))
        | (go_at_call 22; exact quiet_below (CB.out _) (Nat.le_refl _))))
      refine wpQuiet_nil ?_
      intro w7 hq
      have b7 := Wd.of hq
      clear hq f0 f1 ne CA CB
      have gT7 := (b7.block _ (blk_lt GT6.out)).trans GT6.out
      have cT7 := (six_one gT7).1
      have GT7 := (show Hid (w7.heap[T]? = some (.cells #[.slice na ns.length ncap] 26 (0, 0))) from gT7)
      have gX7 := (b7.block _ (blk_lt GX6.out)).trans GX6.out
      have cX7 := (six_one gX7).1
      have GX7 := (show Hid (w7.heap[X]? = some (.cells #[.slice xa ms.length xc] 26 (0, 0))) from gX7)
      have gU7 := (b7.block _ (blk_lt GU6.out)).trans GU6.out
      have cU7 := (six_one gU7).1
      have GU7 := (show Hid (w7.heap[U]? = some (.cells #[.slice ua un uc] 26 (0, 0))) from gU7)
      have NT7 := (show Hid (NodesAt w7 (.slice na ns.length ncap) ns) from NT6.out.below b7)
      have NX7 := (show Hid (NodesAt w7 (.slice xa ms.length xc) ms) from NX6.out.below b7)
      have B7 := (show Hid (Below w0.heap.size w0 w7) from B6.out.trans (b7.mono B6.out.size))
      clear gT7 GT6 cT6 gX7 GX6 cX6 gU7 GU6 cU6 NT6 NX6 b7 B6
      have hadd : ∀ W, (Op.stringOp .add o1 s).run Tryz.prog W = .ok (.string (o1 ++ s)) W := fun W => run_string_add_sum W o1 s (by have := HOS.out; omega)
      go_wp2_with fail
      go_at_call 23
      refine Calls.mono (itreeAdd_s NX7.out HFX.out HTM.out (nm := ⟨#[]⟩) (rs := []) (sv_nil0 _) (by simp) cmt_fit) ?_
      rintro e w8 ⟨va7, vn7, vc7, r7, rfl, hh1, hh2, b8⟩
      have HH1 := (show Hid _ from hh1)
      have HH2 := (show Hid _ from hh2)
      clear hh1 hh2
      have gT8 := (b8.block _ (blk_lt GT7.out)).trans GT7.out
      have cT8 := (six_one gT8).1
      have GT8 := (show Hid (w8.heap[T]? = some (.cells #[.slice na ns.length ncap] 26 (0, 0))) from gT8)
      have gX8 := (b8.block _ (blk_lt GX7.out)).trans GX7.out
      have cX8 := (six_one gX8).1
      have GX8 := (show Hid (w8.heap[X]? = some (.cells #[.slice xa ms.length xc] 26 (0, 0))) from gX8)
      have gU8 := (b8.block _ (blk_lt GU7.out)).trans GU7.out
      have cU8 := (six_one gU8).1
      have GU8 := (show Hid (w8.heap[U]? = some (.cells #[.slice ua un uc] 26 (0, 0))) from gU8)
      have NT8 := (show Hid (NodesAt w8 (.slice na ns.length ncap) ns) from NT7.out.below b8)
      have NX8 := (show Hid (NodesAt w8 (.slice xa ms.length xc) ms) from NX7.out.below b8)
      have B8 := (show Hid (Below w0.heap.size w0 w8) from B7.out.trans (b8.mono B7.out.size))
      clear gT8 GT7 cT7 gX8 GX7 cX7 gU8 GU7 cU7 NT7 NX7 b8 B7
      by_cases hm : ms.length < 500
      · obtain ⟨rfl, hn7⟩ := HH1.out (tree_snoc HTM.out rfl rfl (by decide) cmt_good hm)
        clear HH1 HH2
        have hl7 : (ms ++ [(⟨5, ⟨#[]⟩, [], ⟨#[120]⟩, -1, []⟩ : PNode)]).length = ms.length + 1 := by simp
        obtain ⟨a7, c7, e7, hc7, hm7, j7⟩ := hn7.slice
        rw [hl7] at e7 hc7
        cases e7
        obtain ⟨ab, ao, _, _, rfl, hab, _, _, _, _, ap, _, _, _⟩ := j7 ms.length (by rw [hl7]; omega)
        have hap : (ms ++ [(⟨5, ⟨#[]⟩, [], ⟨#[120]⟩, -1, []⟩ : PNode)])[ms.length].parent = -1 := by simp
        rw [hap] at ap
        clear hap j7 hn7
        obtain ⟨w9, hw9⟩ : ∃ x, x = w8.alloc (.cells #[.slice (some ⟨ab, ao, none⟩) (ms.length + 1) vc7] 26) := ⟨_, rfl⟩
        have b9 : Below w8.heap.size w8 w9 := by rw [hw9]; exact (Below.refl _ _).alloc (Nat.le_refl _) _
        have gn9 : w9.heap[w8.heap.size]? = some (.cells #[.slice (some ⟨ab, ao, none⟩) (ms.length + 1) vc7] 26 (0, 0)) := by rw [hw9]; exact World.alloc_heap_new _ _
        obtain ⟨A, hA⟩ : ∃ x, x = w8.heap.size := ⟨_, rfl⟩
        rw [← hA] at gn9
        have cA9 := (six_one gn9).1
        have GA9 := (show Hid (w9.heap[A]? = some (.cells #[.slice (some ⟨ab, ao, none⟩) (ms.length + 1) vc7] 26 (0, 0))) from gn9)
        clear gn9
        have bA := b9
        have gT9 := (b9.block _ (blk_lt GT8.out)).trans GT8.out
        have cT9 := (six_one gT9).1
        have GT9 := (show Hid (w9.heap[T]? = some (.cells #[.slice na ns.length ncap] 26 (0, 0))) from gT9)
        have gX9 := (b9.block _ (blk_lt GX8.out)).trans GX8.out
        have cX9 := (six_one gX9).1
        have GX9 := (show Hid (w9.heap[X]? = some (.cells #[.slice xa ms.length xc] 26 (0, 0))) from gX9)
        have gU9 := (b9.block _ (blk_lt GU8.out)).trans GU8.out
        have cU9 := (six_one gU9).1
        have GU9 := (show Hid (w9.heap[U]? = some (.cells #[.slice ua un uc] 26 (0, 0))) from gU9)
        have NT9 := (show Hid (NodesAt w9 (.slice na ns.length ncap) ns) from NT8.out.below b9)
        have NX9 := (show Hid (NodesAt w9 (.slice xa ms.length xc) ms) from NX8.out.below b9)
        have B9 := (show Hid (Below w0.heap.size w0 w9) from B8.out.trans (b9.mono B8.out.size))
        clear gT9 GT8 cT8 gX9 GX8 cX8 gU9 GU8 cU8 NT8 NX8 b9 B8
        go_upto_region 12 with fail
        rw [← hw9, ← hA]
        clear hw9 hA
        have ap9 := (bA.cell (p := ⟨ab, ao + ms.length * 6 + 4, none⟩) (lt_of_cell ap)).trans ap
        clear ap bA
        go_wp2_with fail
        go_at_call 15
        refine Calls.mono (itreeOk_any NX9.out HFX.out (by omega)) ?_
        rintro e w10 ⟨r8, rfl, hr8, b10⟩
        obtain rfl : r8 = true := hr8.mpr HTM.out
        have apN := (b10.cell (p := ⟨ab, ao + ms.length * 6 + 4, none⟩) (lt_of_cell ap9)).trans ap9
        clear hr8 ap9
        have gT10 := (b10.block _ (blk_lt GT9.out)).trans GT9.out
        have cT10 := (six_one gT10).1
        have GT10 := (show Hid (w10.heap[T]? = some (.cells #[.slice na ns.length ncap] 26 (0, 0))) from gT10)
        have gX10 := (b10.block _ (blk_lt GX9.out)).trans GX9.out
        have cX10 := (six_one gX10).1
        have GX10 := (show Hid (w10.heap[X]? = some (.cells #[.slice xa ms.length xc] 26 (0, 0))) from gX10)
        have gU10 := (b10.block _ (blk_lt GU9.out)).trans GU9.out
        have cU10 := (six_one gU10).1
        have GU10 := (show Hid (w10.heap[U]? = some (.cells #[.slice ua un uc] 26 (0, 0))) from gU10)
        have gA10 := (b10.block _ (blk_lt GA9.out)).trans GA9.out
        have cA10 := (six_one gA10).1
        have GA10 := (show Hid (w10.heap[A]? = some (.cells #[.slice (some ⟨ab, ao, none⟩) (ms.length + 1) vc7] 26 (0, 0))) from gA10)
        have NT10 := (show Hid (NodesAt w10 (.slice na ns.length ncap) ns) from NT9.out.below b10)
        have NX10 := (show Hid (NodesAt w10 (.slice xa ms.length xc) ms) from NX9.out.below b10)
        have B10 := (show Hid (Below w0.heap.size w0 w10) from B9.out.trans (b10.mono B9.out.size))
        clear gT10 GT9 cT9 gX10 GX9 cX9 gU10 GU9 cU9 gA10 GA9 cA9 NT9 NX9 b10 B9
        go_wp2
        go_ret
        exact ⟨rfl, B10.out⟩
      · obtain rfl := HH2.out (tree_full hm)
        have HM5 := (show Hid (ms.length = 500) from (by omega : ms.length = 500))
        clear HH1 HH2 hm
        obtain ⟨w9, hw9⟩ : ∃ x, x = w8.alloc (.cells #[.slice va7 vn7 vc7] 26) := ⟨_, rfl⟩
        have b9 : Below w8.heap.size w8 w9 := by rw [hw9]; exact (Below.refl _ _).alloc (Nat.le_refl _) _
        have gn9 : w9.heap[w8.heap.size]? = some (.cells #[.slice va7 vn7 vc7] 26 (0, 0)) := by rw [hw9]; exact World.alloc_heap_new _ _
        obtain ⟨A, hA⟩ : ∃ x, x = w8.heap.size := ⟨_, rfl⟩
        rw [← hA] at gn9
        have cA9 := (six_one gn9).1
        have GA9 := (show Hid (w9.heap[A]? = some (.cells #[.slice va7 vn7 vc7] 26 (0, 0))) from gn9)
        clear gn9
        have bA := b9
        have gT9 := (b9.block _ (blk_lt GT8.out)).trans GT8.out
        have cT9 := (six_one gT9).1
        have GT9 := (show Hid (w9.heap[T]? = some (.cells #[.slice na ns.length ncap] 26 (0, 0))) from gT9)
        have gX9 := (b9.block _ (blk_lt GX8.out)).trans GX8.out
        have cX9 := (six_one gX9).1
        have GX9 := (show Hid (w9.heap[X]? = some (.cells #[.slice xa ms.length xc] 26 (0, 0))) from gX9)
        have gU9 := (b9.block _ (blk_lt GU8.out)).trans GU8.out
        have cU9 := (six_one gU9).1
        have GU9 := (show Hid (w9.heap[U]? = some (.cells #[.slice ua un uc] 26 (0, 0))) from gU9)
        have NT9 := (show Hid (NodesAt w9 (.slice na ns.length ncap) ns) from NT8.out.below b9)
        have NX9 := (show Hid (NodesAt w9 (.slice xa ms.length xc) ms) from NX8.out.below b9)
        have B9 := (show Hid (Below w0.heap.size w0 w9) from B8.out.trans (b9.mono B8.out.size))
        clear gT9 GT8 cT8 gX9 GX8 cX8 gU9 GU8 cU8 NT8 NX8 b9 B8
        go_upto_region 12 with fail
        rw [← hw9, ← hA]
        clear hw9 hA
        go_wp2_with fail
        go_at_call 15
        refine Calls.mono (itreeOk_any NX9.out HFX.out (by omega)) ?_
        rintro e w10 ⟨r8, rfl, hr8, b10⟩
        obtain rfl : r8 = true := hr8.mpr HTM.out
        clear hr8
        have gT10 := (b10.block _ (blk_lt GT9.out)).trans GT9.out
        have cT10 := (six_one gT10).1
        have GT10 := (show Hid (w10.heap[T]? = some (.cells #[.slice na ns.length ncap] 26 (0, 0))) from gT10)
        have gX10 := (b10.block _ (blk_lt GX9.out)).trans GX9.out
        have cX10 := (six_one gX10).1
        have GX10 := (show Hid (w10.heap[X]? = some (.cells #[.slice xa ms.length xc] 26 (0, 0))) from gX10)
        have gU10 := (b10.block _ (blk_lt GU9.out)).trans GU9.out
        have cU10 := (six_one gU10).1
        have GU10 := (show Hid (w10.heap[U]? = some (.cells #[.slice ua un uc] 26 (0, 0))) from gU10)
        have gA10 := (b10.block _ (blk_lt GA9.out)).trans GA9.out
        have cA10 := (six_one gA10).1
        have GA10 := (show Hid (w10.heap[A]? = some (.cells #[.slice va7 vn7 vc7] 26 (0, 0))) from gA10)
        have NT10 := (show Hid (NodesAt w10 (.slice na ns.length ncap) ns) from NT9.out.below b10)
        have NX10 := (show Hid (NodesAt w10 (.slice xa ms.length xc) ms) from NX9.out.below b10)
        have B10 := (show Hid (Below w0.heap.size w0 w10) from B9.out.trans (b10.mono B9.out.size))
        clear gT10 GT9 cT9 gX10 GX9 cX9 gU10 GU9 cU9 gA10 GA9 cA9 NT9 NX9 b10 B9
        have hmi : (ms.length : Int) = 500 := by have := HM5.out; omega
        go_wp2
        go_ret
        exact ⟨rfl, B10.out⟩

theorem fnWrite_walk {v : Value} {xs : List Int} (w : World) (h : Sl .u8 w v xs) (hwf : ∀ n ∈ xs, (Lit.int .u8 n).wf = true) :
    Calls Tryz.prog 4 #[v] w fun e w' => e = .returned (.bool true) ∧ Below w.heap.size w w' := by
  by_cases hl : 1048576 < xs.length
  · exact fnWrite_big w h hl
  · exact fnWrite_of w h hl (drawTreeWrite_any h (byte_ok hwf) (by omega))
end Go.Proofs.YtogdbjafibejdaaGreat
