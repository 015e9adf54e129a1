/- The specification's l8Print (written by mk/sprint.py). No condition. -/
import Derived.Test.YtogdbjafibejdaaGreatV42
import Derived.Test.YtogdbjafibejdaaGreatV45
import Derived.Test.YtogdbjafibejdaaGreatV44
import Derived.Test.YtogdbjafibejdaaGreatV26
import Derived.Test.YtogdbjafibejdaaGreatV34
import Derived.Test.YtogdbjafibejdaaGreatV23
import Derived.Deep.RegionHeld3
import Derived.Test.YtogdbjafibejdaaGreatV33
import Derived.Test.YtogdbjafibejdaaGreatV32
namespace Go.Proofs.YtogdbjafibejdaaGreat
open Go.RowKit
set_option maxRecDepth 100000
set_option linter.unusedVariables false

theorem str_of {s : ByteArray} {l : List UInt8} (h : s.data.toList = l) : s = strL l := by rw [← h]; exact (strL_data s).symm
theorem strL_list (l : List UInt8) : (strL l).data.toList = l := by simp [strL]
theorem open_le (up : ByteArray) (n : PNode) (inner : List UInt8) (h : n.kind = 3) : (openL n).length ≤ (nodeL up n inner).length := by
  unfold nodeL
  rw [if_neg (by omega), if_pos h]
  split
  · exact Nat.le_refl _
  · rw [List.length_append, List.length_append]; omega

set_option maxHeartbeats 4000000 in
set_option maxRecDepth 100000 in
theorem sprint_any {ns : List PNode} (hlen : ns.length ≤ 1048576) (hs : ∀ k (hk : k < ns.length), SmallN ns[k]) : ∀ (f k : Nat), deepOk ns f k → (printL ns f k).length ≤ 1000000000 → ∀ (w : World) (v : Value), NodesAt w v ns →
    Calls Tryz.prog 81 #[.agg #[v], .int .i64 (k : Int)] w fun e w' => e = .returned (.string (strL (printL ns f k))) ∧ Below w.heap.size w w' := by
  intro f
  induction f with
  | zero => intro k h; exact h.elim
  | succ f ih =>
    intro k hk hsz w v hn
    have IH := (show Hid _ from ih)
    have hklt := hk.1
    have HK := (show Hid (∀ x ∈ kidsOf ns k, 0 ≤ x ∧ deepOk ns f x.toNat) from hk.2)
    have HN := (show Hid (NodesAt w v ns) from hn)
    have HS := (show Hid (∀ k (hk : k < ns.length), SmallN ns[k]) from hs)
    obtain ⟨a, cap, rfl, hc1, hc2, hcs⟩ := hn.slice
    obtain ⟨b, off, av, kv, rfl, hblt, c0, c1, c2, c3, c4, c5, hav, hkv⟩ := hcs k hklt
    obtain ⟨kv1, kv3, rfl, hkl1, hkl2, _, hkc⟩ := hkv
    obtain ⟨ks, hks⟩ : ∃ ks, ks = ns[k].kids := ⟨_, rfl⟩
    rw [← hks] at hkc c5 hkl1
    have HKC := (show Hid (Cells .i64 w kv1 ks) from hkc)
    obtain ⟨up, hup⟩ : ∃ up, up = (ndAt ns k).name := ⟨_, rfl⟩
    have hupn : up = ns[k].name := by rw [hup, ndAt_at hklt]
    rw [← hupn] at c1
    obtain ⟨g, hg⟩ : ∃ g : Int → List UInt8, g = fun x => nodeL up (ndAt ns x.toNat) (printL ns f x.toNat) := ⟨_, rfl⟩
    have hpl : printL ns (f + 1) k = ks.flatMap g := by rw [printL, hg, hup, hks, kidsOf_at hklt]
    have HPL := (show Hid (printL ns (f + 1) k = ks.flatMap g) from hpl)
    have HSZ := (show Hid ((ks.flatMap g).length ≤ 1000000000) from by rw [← hpl]; exact hsz)
    have HG := (show Hid (g = fun x => nodeL up (ndAt ns x.toNat) (printL ns f x.toNat)) from hg)
    rw [kidsOf_at hklt, ← hks] at HK
    have HCS := (show Hid _ from hcs)
    -- a kid's cells
    have hkm : ks.length < 9223372036854775808 := by unfold maxLen at hkl2; omega
    obtain ⟨w2, hw2⟩ : ∃ x, x = w.alloc (.cells #[.slice (some ⟨b, off, none⟩) ns.length cap] 26) := ⟨_, rfl⟩
    have b2 : Below w.heap.size w w2 := by rw [hw2]; exact (Below.refl _ w).alloc (Nat.le_refl _) _
    have gT : w2.heap[w.heap.size]? = some (.cells #[.slice (some ⟨b, off, none⟩) ns.length cap] 26 (0, 0)) := by rw [hw2]; exact World.alloc_heap_new _ _
    obtain ⟨T0, hT0⟩ : ∃ x, x = w.heap.size := ⟨_, rfl⟩
    rw [← hT0] at gT
    have cT : w2.cell? ⟨T0, 0, none⟩ = some (.slice (some ⟨b, off, none⟩) ns.length cap) := by simp only [World.cell?, gT]; rfl
    have c5' := (b2.cell (p := ⟨b, off + k * 6 + 5, none⟩) hblt).trans c5
    have lT := blk_lt gT
    have B2 := (show Hid (Below w.heap.size w w2) from b2)
    have CT := (show Hid _ from cT)
    have C1 := (show Hid (w.cell? ⟨b, off + k * 6 + 1, none⟩ = some (.string up)) from c1)
    have hki : (k : Int) < ns.length := by omega
    clear hkc ih hn hcs hk hsz gT b2 c0 c1 c2 c3 c4 c5 hav hg hpl hup hupn hks hs
    go_enter Tryz.func81, Tryz.ntmps81
    go_upto_region 1 with fail
    rw [← hw2, ← hT0]
    clear hw2 hT0
    go_wp2
    go_loopw [5, 7] (fun o i wr => ∃ j : Nat, j ≤ ks.length ∧ i = .int .i64 j ∧ o = .string (strL ((ks.take j).flatMap g)) ∧ Hid (Below w2.heap.size w2 wr)) (fun _ i _ => ks.length - (intOf i).toNat)
    case atStart => exact ⟨0, Nat.zero_le _, rfl, rfl, Below.refl _ _⟩
    case round =>
      obtain ⟨j, hj, rfl, rfl, BEL⟩ := hrel
      have cTr := (BEL.out.cell (p := ⟨T0, 0, none⟩) lT).trans CT.out
      by_cases hlt : j < ks.length
      rotate_left
      · obtain rfl : j = ks.length := by omega
        have HFIN := (show Hid (strL ((ks.take ks.length).flatMap g) = strL (printL ns (f + 1) k)) from (by rw [HPL.out, List.take_length] : strL ((ks.take ks.length).flatMap g) = strL (printL ns (f + 1) k)))
        obtain ⟨s0, hs0⟩ : ∃ s0, s0 = strL ((ks.take ks.length).flatMap g) := ⟨_, rfl⟩
        rw [← hs0] at HFIN ⊢
        clear hs0
        go_wp2
        go_ret
        exact ⟨by rw [← HFIN.out]; rfl, B2.out.trans (BEL.out.mono B2.out.size)⟩
      obtain ⟨hx0, hdx⟩ := HK.out ks[j] (List.getElem_mem hlt)
      obtain ⟨kb, ko, rfl, ck⟩ := HKC.out j hlt
      have hkb := lt_of_cell6 ck
      rw [show ks.getD j 0 = ks[j] by simp [List.getD_eq_getElem?_getD, hlt]] at ck
      have HT1 : Hid ((ks.take (j + 1)).flatMap g = (ks.take j).flatMap g ++ g ks[j]) := (by rw [List.take_succ_eq_append_getElem hlt, List.flatMap_append, List.flatMap_singleton] : (ks.take (j + 1)).flatMap g = (ks.take j).flatMap g ++ g ks[j])
      have hsum : ((ks.take j).flatMap g).length + (g ks[j]).length ≤ 1000000000 := by
        have h1 := HSZ.out
        have h2 : ks = (ks.take j ++ [ks[j]]) ++ ks.drop (j + 1) := by rw [← List.take_succ_eq_append_getElem hlt, List.take_append_drop]
        have h3 : (ks.flatMap g).length = ((ks.take j).flatMap g).length + (g ks[j]).length + ((ks.drop (j + 1)).flatMap g).length := by
          conv => lhs; rw [h2]
          rw [List.flatMap_append, List.flatMap_append, List.flatMap_singleton, List.length_append, List.length_append]
        omega
      obtain ⟨x, hx⟩ : ∃ x, x = ks[j] := ⟨_, rfl⟩
      rw [← hx] at HT1 hx0 hdx hsum ck
      clear hx
      obtain ⟨q, rfl⟩ : ∃ q : Nat, x = (q : Int) := ⟨x.toNat, by omega⟩
      rw [Int.toNat_natCast] at hdx
      have hq := deepOk_lt hdx
      have hgq : g (q : Int) = nodeL up ns[q] (printL ns f q) := by rw [HG.out]; simp only [Int.toNat_natCast, ndAt_at hq]
      rw [hgq] at HT1 hsum
      obtain ⟨_, _, av, nv, e0, hql, d0, d1, d2, d3, d4, d5, hav, hnv⟩ := HCS.out q hq
      cases e0
      obtain ⟨av1, acap, rfl, ha1, ha2, ha3⟩ := hav.pair
      obtain ⟨nv1, mcap, rfl, hm1, hm2, _, _⟩ := hnv
      have hsm := HS.out q hq
      obtain ⟨nd, hnd⟩ : ∃ nd, nd = ns[q] := ⟨_, rfl⟩
      rw [← hnd] at d0 d1 d2 d3 d4 d5 ha1 ha3 hm1 hsm HT1 hsum
      have HSM := (show Hid (SmallN nd) from hsm)
      have hr20 := hsm.rs
      have hnm := hsm.nm
      have htx := hsm.tx
      obtain ⟨nk, nm, rs, tx, par, mks⟩ := nd
      simp only at d0 d1 d2 d3 d4 d5 ha1 ha3 hm1 hr20 hnm htx
      have HA3 := (show Hid (∀ j (hj : j < rs.length), ∃ xb xo, av1 = some ⟨xb, xo, none⟩ ∧ xb < w.heap.size ∧ w.cell? ⟨xb, xo + j * 2, none⟩ = some (.string rs[j].1) ∧ w.cell? ⟨xb, xo + j * 2 + 1, none⟩ = some (.string rs[j].2)) from ha3)
      have bwr := B2.out.trans (BEL.out.mono B2.out.size)
      have BWR := (show Hid (Below w.heap.size w wr) from bwr)
      have hqi : (q : Int) < ns.length := by omega
      have hji : (j : Int) < ks.length := by omega
      have HD := (show Hid (w.cell? ⟨kb, ko + j, none⟩ = some (.int .i64 (q : Int)) ∧ w.cell? ⟨b, off + q * 6, none⟩ = some (.int .i64 nk) ∧ w.cell? ⟨b, off + q * 6 + 1, none⟩ = some (.string nm) ∧ w.cell? ⟨b, off + q * 6 + 2, none⟩ = some (.slice av1 rs.length acap) ∧ w.cell? ⟨b, off + q * 6 + 3, none⟩ = some (.string tx) ∧ w.cell? ⟨b, off + q * 6 + 4, none⟩ = some (.int .i64 par) ∧ w.cell? ⟨b, off + q * 6 + 5, none⟩ = some (.slice nv1 mks.length mcap)) from ⟨ck, d0, d1, d2, d3, d4, d5⟩)
      have CTR := (show Hid _ from cTr)
      obtain ⟨A, hA⟩ : ∃ A, A = (ks.take j).flatMap g := ⟨_, rfl⟩
      rw [← hA] at HT1 hsum ⊢
      obtain ⟨s0, hs0⟩ : ∃ s0, s0 = strL A := ⟨_, rfl⟩
      rw [← hs0]
      have HS0 := (show Hid (s0 = strL A) from hs0)
      have hs0s : s0.size = A.length := by rw [hs0, strL_size]
      have hlnm : nm.data.toList.length = nm.size := by simp
      have hltx : tx.data.toList.length = tx.size := by simp
      have HSUM := (show Hid (A.length + (nodeL up ⟨nk, nm, rs, tx, par, mks⟩ (printL ns f q)).length ≤ 1000000000) from hsum)
      clear hA hs0 hnd hsm hav ha3 bwr cTr d0 d1 d2 d3 d4 d5 ck hgq hsum c5'
      have bT := CTR.out
      have u1 := (BWR.out.cell (p := ⟨kb, ko + j, none⟩) hkb).trans HD.out.1
      have y0 := (BWR.out.cell (p := ⟨b, off + q * 6, none⟩) hql).trans HD.out.2.1
      have y1 := (BWR.out.cell (p := ⟨b, off + q * 6 + 1, none⟩) hql).trans HD.out.2.2.1
      have y2 := (BWR.out.cell (p := ⟨b, off + q * 6 + 2, none⟩) hql).trans HD.out.2.2.2.1
      have y3 := (BWR.out.cell (p := ⟨b, off + q * 6 + 3, none⟩) hql).trans HD.out.2.2.2.2.1
      have y4 := (BWR.out.cell (p := ⟨b, off + q * 6 + 4, none⟩) hql).trans HD.out.2.2.2.2.2.1
      have y5 := (BWR.out.cell (p := ⟨b, off + q * 6 + 5, none⟩) hql).trans HD.out.2.2.2.2.2.2
      have lTr : T0 < wr.heap.size := Nat.lt_of_lt_of_le lT BEL.out.size
      have lkr : kb < wr.heap.size := Nat.lt_of_lt_of_le hkb BWR.out.size
      have lbr : b < wr.heap.size := Nat.lt_of_lt_of_le hql BWR.out.size
      have v0 := World.new_ne wr ⟨T0, 0, none⟩ bT
      have v1 := World.new_ne wr ⟨kb, ko + j, none⟩ u1
      have v2 := World.new_ne wr ⟨b, off + q * 6, none⟩ y0
      have v3 := World.new_ne wr ⟨b, off + q * 6 + 1, none⟩ y1
      have v4 := World.new_ne wr ⟨b, off + q * 6 + 2, none⟩ y2
      have v5 := World.new_ne wr ⟨b, off + q * 6 + 3, none⟩ y3
      have v6 := World.new_ne wr ⟨b, off + q * 6 + 4, none⟩ y4
      have v7 := World.new_ne wr ⟨b, off + q * 6 + 5, none⟩ y5
      go_upto_region 6 with fail
      go_region_held3 (fun w' => w'.cell? ⟨T0, 0, none⟩ = some (.slice (some ⟨b, off, none⟩) ns.length cap) ∧ w'.cell? ⟨kb, ko + j, none⟩ = some (.int .i64 (q : Int)) ∧ w'.cell? ⟨b, off + q * 6, none⟩ = some (.int .i64 nk) ∧ w'.cell? ⟨b, off + q * 6 + 1, none⟩ = some (.string nm) ∧ w'.cell? ⟨b, off + q * 6 + 2, none⟩ = some (.slice av1 rs.length acap) ∧ w'.cell? ⟨b, off + q * 6 + 3, none⟩ = some (.string tx) ∧ w'.cell? ⟨b, off + q * 6 + 4, none⟩ = some (.int .i64 par) ∧ w'.cell? ⟨b, off + q * 6 + 5, none⟩ = some (.slice nv1 mks.length mcap)) (go_keep) (fail)
      obtain ⟨w5, hw5⟩ : ∃ x, x = (wr.alloc (.cells #[.int .i64 nk, .string nm, .slice av1 rs.length acap, .string tx, .int .i64 par, .slice nv1 mks.length mcap] 36)).drew := ⟨_, rfl⟩
      have b5 : Below wr.heap.size wr w5 := by rw [hw5]; exact ((Below.refl _ _).alloc (Nat.le_refl _) _).trans (below_drewN 1)
      have g5 : w5.heap[wr.heap.size]? = some (.cells #[.int .i64 nk, .string nm, .slice av1 rs.length acap, .string tx, .int .i64 par, .slice nv1 mks.length mcap] 36 (0, 0)) := by rw [hw5]; exact World.alloc_heap_new _ _
      obtain ⟨N, hN⟩ : ∃ x, x = wr.heap.size := ⟨_, rfl⟩
      rw [← hN] at g5
      have G5 := (show Hid _ from g5)
      have B5 := (show Hid (Below w2.heap.size w2 w5) from BEL.out.trans (b5.mono BEL.out.size))
      have BW5 := (show Hid (Below w.heap.size w w5) from B2.out.trans (B5.out.mono B2.out.size))
      have cT5 := (B5.out.cell (p := ⟨T0, 0, none⟩) lT).trans CT.out
      obtain ⟨n0, n1, n2, n3, n4, n5⟩ := (six_at g5).1
      clear u1 y0 y1 y2 y3 y4 y5 b5 g5 BEL BWR CTR v0 v1 v2 v3 v4 v5 v6 v7 bT lTr lkr lbr
      go_upto_region 7 with fail
      rw [← hw5, ← hN]
      clear hw5 hN
      by_cases h2 : nk = 2
      · subst h2
        have hz0 : (⟨#[60, 33, 68, 79, 67, 84, 89, 80, 69, 32]⟩ : ByteArray).size = 10 := rfl
        have hz1 : (⟨#[62]⟩ : ByteArray).size = 1 := rfl
        have hsz0 := HSUM.out
        have ad1 : ∀ W, (Op.stringOp .add (s0) ⟨#[60, 33, 68, 79, 67, 84, 89, 80, 69, 32]⟩).run Tryz.prog W = .ok (.string (s0 ++ ⟨#[60, 33, 68, 79, 67, 84, 89, 80, 69, 32]⟩)) W := fun W => run_string_add_sum W _ _ (by first | omega | (simp only [ByteArray.size_append]; omega))
        have ad2 : ∀ W, (Op.stringOp .add (s0 ++ ⟨#[60, 33, 68, 79, 67, 84, 89, 80, 69, 32]⟩) nm).run Tryz.prog W = .ok (.string (s0 ++ ⟨#[60, 33, 68, 79, 67, 84, 89, 80, 69, 32]⟩ ++ nm)) W := fun W => run_string_add_sum W _ _ (by first | omega | (simp only [ByteArray.size_append]; omega))
        have ad3 : ∀ W, (Op.stringOp .add (s0 ++ ⟨#[60, 33, 68, 79, 67, 84, 89, 80, 69, 32]⟩ ++ nm) ⟨#[62]⟩).run Tryz.prog W = .ok (.string (s0 ++ ⟨#[60, 33, 68, 79, 67, 84, 89, 80, 69, 32]⟩ ++ nm ++ ⟨#[62]⟩)) W := fun W => run_string_add_sum W _ _ (by first | omega | (simp only [ByteArray.size_append]; omega))
        have HEQ := (show Hid ((s0 ++ ⟨#[60, 33, 68, 79, 67, 84, 89, 80, 69, 32]⟩ ++ nm ++ ⟨#[62]⟩) = strL ((ks.take (j + 1)).flatMap g)) from (by
          rw [HT1.out, HS0.out]
          refine str_of ?_
          simp [nodeL, dtL, strL_list] : (s0 ++ ⟨#[60, 33, 68, 79, 67, 84, 89, 80, 69, 32]⟩ ++ nm ++ ⟨#[62]⟩) = strL ((ks.take (j + 1)).flatMap g)))
        clear hz0 hz1 hsz0
        go_wp2
        go_roundw
        case rel => exact ⟨j + 1, by omega, by go_num, by rw [HEQ.out], B5.out⟩
        case measure => simp [intOf]; omega
      by_cases h5 : nk = 5
      · subst h5
        have hz0 : (⟨#[60, 33, 45, 45]⟩ : ByteArray).size = 4 := rfl
        have hz1 : (⟨#[45, 45, 62]⟩ : ByteArray).size = 3 := rfl
        have hsz0 := HSUM.out
        have ad1 : ∀ W, (Op.stringOp .add (s0) ⟨#[60, 33, 45, 45]⟩).run Tryz.prog W = .ok (.string (s0 ++ ⟨#[60, 33, 45, 45]⟩)) W := fun W => run_string_add_sum W _ _ (by first | omega | (simp only [ByteArray.size_append]; omega))
        have ad2 : ∀ W, (Op.stringOp .add (s0 ++ ⟨#[60, 33, 45, 45]⟩) tx).run Tryz.prog W = .ok (.string (s0 ++ ⟨#[60, 33, 45, 45]⟩ ++ tx)) W := fun W => run_string_add_sum W _ _ (by first | omega | (simp only [ByteArray.size_append]; omega))
        have ad3 : ∀ W, (Op.stringOp .add (s0 ++ ⟨#[60, 33, 45, 45]⟩ ++ tx) ⟨#[45, 45, 62]⟩).run Tryz.prog W = .ok (.string (s0 ++ ⟨#[60, 33, 45, 45]⟩ ++ tx ++ ⟨#[45, 45, 62]⟩)) W := fun W => run_string_add_sum W _ _ (by first | omega | (simp only [ByteArray.size_append]; omega))
        have HEQ := (show Hid ((s0 ++ ⟨#[60, 33, 45, 45]⟩ ++ tx ++ ⟨#[45, 45, 62]⟩) = strL ((ks.take (j + 1)).flatMap g)) from (by
          rw [HT1.out, HS0.out]
          refine str_of ?_
          simp [nodeL, coL, coR, strL_list] : (s0 ++ ⟨#[60, 33, 45, 45]⟩ ++ tx ++ ⟨#[45, 45, 62]⟩) = strL ((ks.take (j + 1)).flatMap g)))
        clear hz0 hz1 hsz0
        go_wp2
        go_roundw
        case rel => exact ⟨j + 1, by omega, by go_num, by rw [HEQ.out], B5.out⟩
        case measure => simp [intOf]; omega
      by_cases h4 : nk = 4
      · subst h4
        have cu := (BW5.out.cell (p := ⟨b, off + k * 6 + 1, none⟩) hblt).trans C1.out
        have CR := (show Hid (Calls Tryz.prog 127 #[.string up] w5 fun e w' => e = .returned (.bool (hasB raws up)) ∧ Below w5.heap.size w5 w') from sisRaw_any up w5)
        obtain ⟨rr, hrr⟩ : ∃ rr, rr = hasB raws up := ⟨_, rfl⟩
        rw [← hrr] at CR
        have HRR := (show Hid (rr = hasB raws up) from hrr)
        clear hrr
        go_wp2_with fail
        go_at_call 127
        refine Calls.mono CR.out ?_
        rintro e w6 ⟨rfl, b6⟩
        have B6 := (show Hid (Below w2.heap.size w2 w6) from B5.out.trans (b6.mono B5.out.size))
        have n3' := (b6.cell (p := ⟨N, 3, none⟩) (blk_lt G5.out)).trans n3
        clear b6 cu CR
        cases rr
        · have hel := esc_le false tx.data.toList
          obtain ⟨es, hes⟩ : ∃ es, es = lstr (esc false tx.data.toList) := ⟨_, rfl⟩
          have hess : es.size ≤ 18000 := by rw [hes]; show (esc false tx.data.toList).toArray.size ≤ 18000; simp; omega
          have CE := (show Hid (Calls Tryz.prog 125 #[.string tx, .bool false] w6 fun e w' => e = .returned (.string es) ∧ Below w6.heap.size w6 w') from by rw [hes]; exact sescape_any tx false w6 (by omega))
          have hsz0 := HSUM.out
          have ad1 : ∀ W, (Op.stringOp .add (s0) es).run Tryz.prog W = .ok (.string (s0 ++ es)) W := fun W => run_string_add_sum W _ _ (by first | omega | (simp only [ByteArray.size_append]; omega))
          have hnl : nodeL up ⟨4, nm, rs, tx, par, mks⟩ (printL ns f q) = esc false tx.data.toList := by simp [nodeL, ← HRR.out]
          have HEQ := (show Hid ((s0 ++ es) = strL ((ks.take (j + 1)).flatMap g)) from (by
            rw [HT1.out, HS0.out, hnl, hes]
            refine str_of ?_
            simp [lstr, strL_list] : (s0 ++ es) = strL ((ks.take (j + 1)).flatMap g)))
          clear hnl
          clear hes hess hsz0 hel
          go_wp2_with fail
          go_at_call 125
          refine Calls.mono CE.out ?_
          rintro e w7 ⟨rfl, b7⟩
          have B7 := (show Hid (Below w2.heap.size w2 w7) from B6.out.trans (b7.mono B6.out.size))
          clear b7
          go_wp2
          go_roundw
          case rel => exact ⟨j + 1, by omega, by go_num, by rw [HEQ.out], B7.out⟩
          case measure => simp [intOf]; omega
        · have hsz0 := HSUM.out
          have ad1 : ∀ W, (Op.stringOp .add (s0) tx).run Tryz.prog W = .ok (.string (s0 ++ tx)) W := fun W => run_string_add_sum W _ _ (by first | omega | (simp only [ByteArray.size_append]; omega))
          have hnl : nodeL up ⟨4, nm, rs, tx, par, mks⟩ (printL ns f q) = tx.data.toList := by simp [nodeL, ← HRR.out]
          have HEQ := (show Hid ((s0 ++ tx) = strL ((ks.take (j + 1)).flatMap g)) from (by
            rw [HT1.out, HS0.out, hnl]
            refine str_of ?_
            simp [strL_list] : (s0 ++ tx) = strL ((ks.take (j + 1)).flatMap g)))
          clear hnl
          clear hsz0
          go_wp2
          go_roundw
          case rel => exact ⟨j + 1, by omega, by go_num, by rw [HEQ.out], B6.out⟩
          case measure => simp [intOf]; omega
      by_cases h3 : nk = 3
      rotate_left
      · have HEQ := (show Hid (s0 = strL ((ks.take (j + 1)).flatMap g)) from (by
          rw [HT1.out, HS0.out]
          refine str_of ?_
          simp [nodeL, h2, h3, h4, h5, strL_list] : s0 = strL ((ks.take (j + 1)).flatMap g)))
        go_wp2
        go_roundw
        case rel => exact ⟨j + 1, by omega, by go_num, by rw [HEQ.out], B5.out⟩
        case measure => simp [intOf]; omega
      subst h3
      have hz0 : (⟨#[60]⟩ : ByteArray).size = 1 := rfl
      have hsz0 := HSUM.out
      have hopl := open_le up ⟨3, nm, rs, tx, par, mks⟩ (printL ns f q) rfl
      have hoz : (openL ⟨3, nm, rs, tx, par, mks⟩).length = 1 + nm.size + (rs.flatMap attrL).length + 1 := by simp only [openL, List.length_append, List.length_cons, List.length_nil, hlnm]
      have HOZ := (show Hid (A.length + nm.size + (rs.flatMap attrL).length ≤ 1000000000) from (by omega : A.length + nm.size + (rs.flatMap attrL).length ≤ 1000000000))
      have ada : ∀ W, (Op.stringOp .add (s0) ⟨#[60]⟩).run Tryz.prog W = .ok (.string (s0 ++ ⟨#[60]⟩)) W := fun W => run_string_add_sum W _ _ (by first | omega | (simp only [ByteArray.size_append]; omega))
      have adb : ∀ W, (Op.stringOp .add (s0 ++ ⟨#[60]⟩) nm).run Tryz.prog W = .ok (.string (s0 ++ ⟨#[60]⟩ ++ nm)) W := fun W => run_string_add_sum W _ _ (by first | omega | (simp only [ByteArray.size_append]; omega))
      obtain ⟨A1, hA1⟩ : ∃ A1, A1 = A ++ [60] ++ nm.data.toList := ⟨_, rfl⟩
      have HA1 := (show Hid (s0 ++ ⟨#[60]⟩ ++ nm = strL A1) from (by
        rw [HS0.out, hA1]
        refine str_of ?_
        simp [strL_list] : s0 ++ ⟨#[60]⟩ ++ nm = strL A1))
      have hA1s : A1.length = A.length + 1 + nm.size := by rw [hA1]; simp; omega
      have HA1D := (show Hid (A1 = A ++ [60] ++ nm.data.toList) from hA1)
      have HA1L := (show Hid (A1.length = A.length + 1 + nm.size) from hA1s)
      clear hA1 hsz0 hopl hoz hA1s hz0
      go_wp2
      go_loopw [5, 9] (fun o i wr => ∃ m : Nat, m ≤ rs.length ∧ i = .int .i64 m ∧ o = .string (strL (A1 ++ (rs.take m).flatMap attrL)) ∧ Hid (Below w5.heap.size w5 wr)) (fun _ i _ => rs.length - (intOf i).toNat)
      case atStart => exact ⟨0, Nat.zero_le _, rfl, by rw [HA1.out]; simp, Below.refl _ _⟩
      case round =>
        obtain ⟨m, hm, rfl, rfl, BL2⟩ := hrel
        have n1' := (BL2.out.cell (p := ⟨N, 1, none⟩) (blk_lt G5.out)).trans n1
        have n2' := (BL2.out.cell (p := ⟨N, 2, none⟩) (blk_lt G5.out)).trans n2
        by_cases hmt : m < rs.length
        · obtain ⟨xb, xo, rfl, hxl, x0, x1⟩ := HA3.out m hmt
          have HTM : Hid ((rs.take (m + 1)).flatMap attrL = (rs.take m).flatMap attrL ++ attrL rs[m]) := take_flat hmt
          have htl := take_le rs (m + 1)
          rw [HTM.out, List.length_append] at htl
          have hat := HSM.out.each rs[m] (List.getElem_mem hmt)
          obtain ⟨pp, hpp⟩ : ∃ pp, pp = rs[m] := ⟨_, rfl⟩
          rw [← hpp] at x0 x1 HTM htl hat
          clear hpp
          obtain ⟨an, ax⟩ := pp
          simp only at x0 x1
          have hax : an.size ≤ 3000 ∧ ax.size ≤ 3000 := by
            unfold attrOk at hat
            simp only [Bool.and_eq_true, decide_eq_true_eq] at hat
            refine ⟨?_, hat.1.1.2⟩
            have := hat.1.1.1
            unfold inB at this
            simp at this
            omega
          have hel := esc_le true ax.data.toList
          have hlax : ax.data.toList.length = ax.size := by simp
          obtain ⟨es, hes⟩ : ∃ es, es = lstr (esc true ax.data.toList) := ⟨_, rfl⟩
          have hess : es.size ≤ 18000 := by rw [hes]; show (esc true ax.data.toList).toArray.size ≤ 18000; simp; omega
          have CE := (show Hid (∀ n : Wd w5.heap.size w5, Calls Tryz.prog 125 #[.string ax, .bool true] n.w fun e w' => e = .returned (.string es) ∧ Below n.w.heap.size n.w w') from fun n => by rw [hes]; exact sescape_any ax true n.w (by omega))
          obtain ⟨c0, hc0⟩ : ∃ c0, c0 = strL (A1 ++ (rs.take m).flatMap attrL) := ⟨_, rfl⟩
          have hc0s : c0.size ≤ 1000001000 := by rw [hc0, strL_size, List.length_append]; have := HOZ.out; have := HA1L.out; omega
          have y0 : (⟨#[32]⟩ : ByteArray).size = 1 := rfl
          have y1 : (⟨#[61, 34]⟩ : ByteArray).size = 2 := rfl
          have y2 : (⟨#[34]⟩ : ByteArray).size = 1 := rfl
          have adc : ∀ W, (Op.stringOp .add (c0) ⟨#[32]⟩).run Tryz.prog W = .ok (.string (c0 ++ ⟨#[32]⟩)) W := fun W => run_string_add_sum W _ _ (by first | omega | (simp only [ByteArray.size_append]; omega))
          have add' : ∀ W, (Op.stringOp .add (c0 ++ ⟨#[32]⟩) an).run Tryz.prog W = .ok (.string (c0 ++ ⟨#[32]⟩ ++ an)) W := fun W => run_string_add_sum W _ _ (by first | omega | (simp only [ByteArray.size_append]; omega))
          have ade : ∀ W, (Op.stringOp .add (c0 ++ ⟨#[32]⟩ ++ an) ⟨#[61, 34]⟩).run Tryz.prog W = .ok (.string (c0 ++ ⟨#[32]⟩ ++ an ++ ⟨#[61, 34]⟩)) W := fun W => run_string_add_sum W _ _ (by first | omega | (simp only [ByteArray.size_append]; omega))
          have adf : ∀ W, (Op.stringOp .add (c0 ++ ⟨#[32]⟩ ++ an ++ ⟨#[61, 34]⟩) es).run Tryz.prog W = .ok (.string (c0 ++ ⟨#[32]⟩ ++ an ++ ⟨#[61, 34]⟩ ++ es)) W := fun W => run_string_add_sum W _ _ (by first | omega | (simp only [ByteArray.size_append]; omega))
          have adg : ∀ W, (Op.stringOp .add (c0 ++ ⟨#[32]⟩ ++ an ++ ⟨#[61, 34]⟩ ++ es) ⟨#[34]⟩).run Tryz.prog W = .ok (.string (c0 ++ ⟨#[32]⟩ ++ an ++ ⟨#[61, 34]⟩ ++ es ++ ⟨#[34]⟩)) W := fun W => run_string_add_sum W _ _ (by first | omega | (simp only [ByteArray.size_append]; omega))
          have HEQ2 := (show Hid (c0 ++ ⟨#[32]⟩ ++ an ++ ⟨#[61, 34]⟩ ++ es ++ ⟨#[34]⟩ = strL (A1 ++ (rs.take (m + 1)).flatMap attrL)) from (by
            rw [HTM.out, hc0, hes]
            refine str_of ?_
            simp [attrL, lstr, strL_list] : c0 ++ ⟨#[32]⟩ ++ an ++ ⟨#[61, 34]⟩ ++ es ++ ⟨#[34]⟩ = strL (A1 ++ (rs.take (m + 1)).flatMap attrL)))
          rw [← hc0]
          have hmi : (m : Int) < rs.length := by omega
          have f2 : ∀ n : Wd w5.heap.size w5, n.w.cell? ⟨N, 2, none⟩ = some (.slice (some ⟨xb, xo, none⟩) rs.length acap) := fun n => (n.below.cell (p := ⟨N, 2, none⟩) (blk_lt G5.out)).trans n2
          have fa : ∀ n : Wd w5.heap.size w5, n.w.cell? ⟨xb, xo + m * 2, none⟩ = some (.string an) := fun n => ((BW5.out.trans (n.below.mono BW5.out.size)).cell (p := ⟨xb, xo + m * 2, none⟩) hxl).trans x0
          have fb : ∀ n : Wd w5.heap.size w5, n.w.cell? ⟨xb, xo + m * 2 + 1, none⟩ = some (.string ax) := fun n => ((BW5.out.trans (n.below.mono BW5.out.size)).cell (p := ⟨xb, xo + m * 2 + 1, none⟩) hxl).trans x1
          have ne := Wd.any w5.heap.size w5
          clear hes hess hc0 hc0s y0 y1 y2 hat hax htl hel hlax x0 x1 n1'
          go_upto_region 15 with fail
          refine wp_region_below (B := w5.heap.size) (w0 := w5) (by kernel_rfl) (by kernel_rfl) BL2.out ?_
          repeat (go_big_quiet_step ((go_at_call 125; exact quiet_below (CE.out _) (Nat.le_refl _))))
          refine wpQuiet_nil ?_
          intro wq hq2
          have BQ := (show Hid (Below w5.heap.size w5 wq) from Wd.of hq2)
          clear hq2 f2 fa fb ne CE adc add' ade adf adg n2'
          go_wp2
          go_roundw
          case rel => exact ⟨m + 1, by omega, by go_num, by rw [HEQ2.out], BQ⟩
          case measure => simp [intOf]; omega
        · obtain rfl : m = rs.length := by omega
          have hoz := HOZ.out
          have hal := HA1L.out
          obtain ⟨c1, hc1⟩ : ∃ c1, c1 = strL (A1 ++ (rs.take rs.length).flatMap attrL) := ⟨_, rfl⟩
          have hc1s : c1.size ≤ 1000001000 := by rw [hc1, strL_size, List.length_append, List.take_length]; omega
          have y0 : (⟨#[62]⟩ : ByteArray).size = 1 := rfl
          have adh : ∀ W, (Op.stringOp .add (c1) ⟨#[62]⟩).run Tryz.prog W = .ok (.string (c1 ++ ⟨#[62]⟩)) W := fun W => run_string_add_sum W _ _ (by first | omega | (simp only [ByteArray.size_append]; omega))
          have hcop : c1 ++ ⟨#[62]⟩ = strL (A ++ openL ⟨3, nm, rs, tx, par, mks⟩) := by
            rw [hc1, HA1D.out]
            refine str_of ?_
            simp [openL, strL_list]
          rw [← hc1]
          have HCO := (show Hid (c1 ++ ⟨#[62]⟩ = strL (A ++ openL ⟨3, nm, rs, tx, par, mks⟩)) from hcop)
          have CV := (show Hid (∀ W, Calls Tryz.prog 126 #[.string nm] W fun e w' => e = .returned (.bool (hasB voids nm)) ∧ Below W.heap.size W w') from fun W => sisVoid_any nm W)
          have hss := HSUM.out
          obtain ⟨rv, hrv⟩ : ∃ rv, rv = hasB voids nm := ⟨_, rfl⟩
          rw [← hrv] at CV
          cases rv with
          | true =>
            have hnl : nodeL up ⟨3, nm, rs, tx, par, mks⟩ (printL ns f q) = openL ⟨3, nm, rs, tx, par, mks⟩ := by simp [nodeL, ← hrv]
            have HEQ := (show Hid (c1 ++ ⟨#[62]⟩ = strL ((ks.take (j + 1)).flatMap g)) from (by rw [HCO.out, HT1.out, hnl] : c1 ++ ⟨#[62]⟩ = strL ((ks.take (j + 1)).flatMap g)))
            clear hc1 hc1s y0 hcop hrv hnl hss hoz hal
            go_wp2_with fail
            go_at_call 126
            refine Calls.mono (CV.out _) ?_
            rintro e w6 ⟨rfl, b6⟩
            have B6 := (show Hid (Below w2.heap.size w2 w6) from (B5.out.trans (BL2.out.mono B5.out.size)).trans (b6.mono (Nat.le_trans B5.out.size BL2.out.size)))
            clear b6
            go_wp2
            go_roundw
            case rel => exact ⟨j + 1, by omega, by go_num, by rw [HEQ.out], B6.out⟩
            case measure => simp [intOf]; omega
          | false =>
            have hnl : nodeL up ⟨3, nm, rs, tx, par, mks⟩ (printL ns f q) = openL ⟨3, nm, rs, tx, par, mks⟩ ++ printL ns f q ++ closeL ⟨3, nm, rs, tx, par, mks⟩ := by simp [nodeL, ← hrv]
            rw [hnl, List.length_append, List.length_append] at hss
            have CI := (show Hid (∀ W, Below w.heap.size w W → Calls Tryz.prog 81 #[.agg #[.slice (some ⟨b, off, none⟩) ns.length cap], .int .i64 (q : Int)] W fun e w' => e = .returned (.string (strL (printL ns f q))) ∧ Below W.heap.size W w') from fun W hW => IH.out q hdx (by omega) W _ (HN.out.below hW))
            obtain ⟨c3, hc3⟩ : ∃ c3, c3 = strL (printL ns f q) := ⟨_, rfl⟩
            have hc3s : c3.size ≤ 1000000000 := by rw [hc3, strL_size]; omega
            rw [← hc3] at CI
            have y1 : (⟨#[60, 47]⟩ : ByteArray).size = 2 := rfl
            have adi : ∀ W, (Op.stringOp .add (c1 ++ ⟨#[62]⟩) c3).run Tryz.prog W = .ok (.string (c1 ++ ⟨#[62]⟩ ++ c3)) W := fun W => run_string_add_sum W _ _ (by first | omega | (simp only [ByteArray.size_append]; omega))
            have adj : ∀ W, (Op.stringOp .add (c1 ++ ⟨#[62]⟩ ++ c3) ⟨#[60, 47]⟩).run Tryz.prog W = .ok (.string (c1 ++ ⟨#[62]⟩ ++ c3 ++ ⟨#[60, 47]⟩)) W := fun W => run_string_add_sum W _ _ (by first | omega | (simp only [ByteArray.size_append]; omega))
            have adk : ∀ W, (Op.stringOp .add (c1 ++ ⟨#[62]⟩ ++ c3 ++ ⟨#[60, 47]⟩) nm).run Tryz.prog W = .ok (.string (c1 ++ ⟨#[62]⟩ ++ c3 ++ ⟨#[60, 47]⟩ ++ nm)) W := fun W => run_string_add_sum W _ _ (by first | omega | (simp only [ByteArray.size_append]; omega))
            have adl : ∀ W, (Op.stringOp .add (c1 ++ ⟨#[62]⟩ ++ c3 ++ ⟨#[60, 47]⟩ ++ nm) ⟨#[62]⟩).run Tryz.prog W = .ok (.string (c1 ++ ⟨#[62]⟩ ++ c3 ++ ⟨#[60, 47]⟩ ++ nm ++ ⟨#[62]⟩)) W := fun W => run_string_add_sum W _ _ (by first | omega | (simp only [ByteArray.size_append]; omega))
            have HEQ := (show Hid (c1 ++ ⟨#[62]⟩ ++ c3 ++ ⟨#[60, 47]⟩ ++ nm ++ ⟨#[62]⟩ = strL ((ks.take (j + 1)).flatMap g)) from (by
              rw [HCO.out, HT1.out, hnl, hc3]
              refine str_of ?_
              simp [closeL, strL_list] : c1 ++ ⟨#[62]⟩ ++ c3 ++ ⟨#[60, 47]⟩ ++ nm ++ ⟨#[62]⟩ = strL ((ks.take (j + 1)).flatMap g)))
            clear hc1 hc1s y0 y1 hcop hrv hnl hss hc3 hc3s hoz hal
            go_wp2_with fail
            go_at_call 126
            refine Calls.mono (CV.out _) ?_
            rintro e w6 ⟨rfl, b6⟩
            have B6 := (show Hid (Below w2.heap.size w2 w6) from (B5.out.trans (BL2.out.mono B5.out.size)).trans (b6.mono (Nat.le_trans B5.out.size BL2.out.size)))
            have BW6 := (show Hid (Below w.heap.size w w6) from B2.out.trans (B6.out.mono B2.out.size))
            have g6 := (b6.block _ (Nat.lt_of_lt_of_le (blk_lt G5.out) BL2.out.size)).trans ((BL2.out.block _ (blk_lt G5.out)).trans G5.out)
            have f0 : ∀ n : Wd w6.heap.size w6, n.w.cell? ⟨T0, 0, none⟩ = some (.slice (some ⟨b, off, none⟩) ns.length cap) := fun n => ((B6.out.trans (n.below.mono B6.out.size)).cell (p := ⟨T0, 0, none⟩) lT).trans CT.out
            have f1 : ∀ n : Wd w6.heap.size w6, n.w.cell? ⟨kb, ko + j, none⟩ = some (.int .i64 (q : Int)) := fun n => ((BW6.out.trans (n.below.mono BW6.out.size)).cell (p := ⟨kb, ko + j, none⟩) hkb).trans HD.out.1
            have f2 : ∀ n : Wd w6.heap.size w6, n.w.cell? ⟨N, 1, none⟩ = some (.string nm) := fun n => (n.below.cell (p := ⟨N, 1, none⟩) (blk_lt g6)).trans (six_at g6).1.2.1
            have CJ := (show Hid (∀ n : Wd w6.heap.size w6, Calls Tryz.prog 81 #[.agg #[.slice (some ⟨b, off, none⟩) ns.length cap], .int .i64 (q : Int)] n.w fun e w' => e = .returned (.string c3) ∧ Below n.w.heap.size n.w w') from fun n => CI.out n.w (BW6.out.trans (n.below.mono BW6.out.size)))
            have ne := Wd.any w6.heap.size w6
            clear b6 g6 CI
            go_upto_region 18 with fail
            refine wp_region_below (B := w6.heap.size) (w0 := w6) (by kernel_rfl) (by kernel_rfl) (Below.refl _ _) ?_
            repeat (go_big_quiet_step ((go_at_call 81; exact quiet_below (CJ.out _) (Nat.le_refl _))))
            refine wpQuiet_nil ?_
            intro wq hq2
            have BQ := (show Hid (Below w2.heap.size w2 wq) from B6.out.trans ((Wd.of hq2).mono B6.out.size))
            clear hq2 f0 f1 f2 ne CJ adi adj adk adl
            go_wp2
            go_roundw
            case rel => exact ⟨j + 1, by omega, by go_num, by rw [HEQ.out], BQ.out⟩
            case measure => simp [intOf]; omega

set_option maxHeartbeats 1000000 in
set_option maxRecDepth 100000 in
theorem sprintOf_any {w : World} {v : Value} {ns : List PNode} (hn : NodesAt w v ns) (hfit : ∀ n ∈ ns, NodeFit n) (hlen : ns.length ≤ 1048576) :
    Calls Tryz.prog 27 #[.agg #[v]] w fun e w' => ∃ s, e = .returned (.string s) ∧ (STreeOkP ns → s = strL (printL ns ns.length 0)) ∧ (¬ STreeOkP ns → s = ⟨#[]⟩) ∧ Below w.heap.size w w' := by
  have HN := (show Hid (NodesAt w v ns) from hn)
  have HFIT := (show Hid (∀ n ∈ ns, NodeFit n) from hfit)
  obtain ⟨a, cap, rfl, hc1, hc2, _⟩ := hn.slice
  clear hn hfit
  obtain ⟨w1, hw1⟩ : ∃ x, x = w.alloc (.cells #[.slice a ns.length cap] 26) := ⟨_, rfl⟩
  have b1 : Below w.heap.size w w1 := by rw [hw1]; exact (Below.refl _ _).alloc (Nat.le_refl _) _
  have g1 : w1.heap[w.heap.size]? = some (.cells #[.slice a ns.length cap] 26 (0, 0)) := by rw [hw1]; exact World.alloc_heap_new _ _
  obtain ⟨T, hT⟩ : ∃ x, x = w.heap.size := ⟨_, rfl⟩
  rw [← hT] at g1
  have cT1 := (six_one g1).1
  have G1 := (show Hid _ from g1)
  have B1 := (show Hid (Below w.heap.size w w1) from b1)
  clear g1 b1
  go_enter Tryz.func27, Tryz.ntmps27
  go_upto_region 1 with fail
  rw [← hw1, ← hT]
  clear hw1 hT
  go_wp2_with fail
  go_at_call 14
  refine Calls.mono (streeOk_any (HN.out.below B1.out) HFIT.out hlen) ?_
  rintro e w2 ⟨r, rfl, hr, b2⟩
  have B2 := (show Hid (Below w.heap.size w w2) from B1.out.trans (b2.mono B1.out.size))
  have g2 := (b2.block _ (blk_lt G1.out)).trans G1.out
  have cT2 := (six_one g2).1
  have HR := (show Hid (r = true ↔ STreeOkP ns) from hr)
  clear b2 g2 hr G1 B1 cT1
  cases r with
  | false =>
    go_wp2
    go_ret
    exact ⟨_, rfl, (fun h => by have := HR.out.mpr h; cases this), (fun _ => rfl), B2.out⟩
  | true =>
    have HOK := (show Hid (STreeOkP ns) from HR.out.mp rfl)
    have h1 := HOK.out.1.one
    have hsm := print_small HOK.out.1 (k := 0) (by omega)
    have CK := (show Hid _ from sprint_any hlen (small_all HOK.out.1) ns.length 0 (tree_deep HOK.out.1 (by omega)) (by omega) w2 _ (HN.out.below B2.out))
    clear HR hsm
    go_wp2_with fail
    go_at_call 81
    refine Calls.mono CK.out ?_
    rintro e w3 ⟨rfl, b3⟩
    have B3 := (show Hid (Below w.heap.size w w3) from B2.out.trans (b3.mono B2.out.size))
    clear b3 CK
    go_wp2
    go_ret
    exact ⟨_, rfl, (fun _ => rfl), (fun h => absurd HOK.out h), B3.out⟩
end Go.Proofs.YtogdbjafibejdaaGreat

/- The text below a node to which a text is written, in plain words. No condition. -/
namespace Go.Proofs.YtogdbjafibejdaaGreat
open Go.RowKit
set_option maxRecDepth 100000
set_option linter.unusedVariables false

theorem down_moreN (ns : List PNode) (k : Nat) (s : ByteArray) : ∀ f i, down (moreN ns k s) f i = down ns f i
  | 0, i => rfl
  | f + 1, i => by
    rw [down, down, kidsOf_moreN]
    congr 1
    exact congrArg (fun g => (kidsOf ns i).flatMap g) (funext fun x => down_moreN ns k s f x.toNat)
theorem txAt_moreN {ns : List PNode} {k : Nat} {s : ByteArray} (hk : k < ns.length) (h4 : ns[k].kind = 4) (j : Nat) : txAt (moreN ns k s) j = if k = j then txAt ns j ++ s.data.toList else txAt ns j := by
  by_cases hj : j < ns.length
  · have hj' : j < (moreN ns k s).length := by rw [moreN_len]; exact hj
    rw [txAt_at hj', txAt_at hj]
    by_cases e : k = j
    · subst e
      have : (moreN ns k s)[k] = setText ns[k] (ns[k].text ++ s) := by simp [moreN]
      rw [this]
      simp [txL, setText, h4]
    · have : (moreN ns k s)[j] = ns[j] := by simp [moreN, e]
      rw [this]; simp [e]
  · have hj' : ¬ j < (moreN ns k s).length := by rw [moreN_len]; exact hj
    have e : k ≠ j := by omega
    simp [txAt, e, List.getElem?_eq_none (Nat.le_of_not_lt hj), List.getElem?_eq_none (Nat.le_of_not_lt hj')]
theorem flat_but {L : List Int} {g g' : Int → List UInt8} (h : ∀ x ∈ L, g' x = g x) : L.flatMap g' = L.flatMap g := by
  induction L with
  | nil => rfl
  | cons a l ih => rw [List.flatMap_cons, List.flatMap_cons, h a (by simp), ih (fun x hx => h x (by simp [hx]))]

/-- More at the end of the last text below p. -/
theorem text_more {ns : List PNode} (h : TreeOkP ns) {p k : Nat} (hp : p < ns.length) (hl : LastT ns p k) (s : ByteArray) : textL (moreN ns k s) ns.length p = textL ns ns.length p ++ s.data.toList := by
  obtain ⟨pre, hkids, hk, h4⟩ := hl
  have h1 := h.one
  obtain ⟨f, hf⟩ : ∃ f, ns.length = f + 1 := ⟨ns.length - 1, by omega⟩
  have hkk : kidsOf ns k = [] := by
    have hg := h.good k hk
    unfold goodB nodeB at hg
    simp only [h4] at hg
    simp at hg
    rw [kidsOf_at hk]
    exact hg.2.2
  have hmem : (k : Int) ∈ kidsOf ns p := by rw [hkids]; simp
  obtain ⟨dp, hdp⟩ := h.linked p hp
  have hdk : dep ns (dp + 1) k := ⟨p, hdp, hmem⟩
  have hlt := dep_lt h.fit hdk
  obtain ⟨f', hf'⟩ : ∃ f', f = f' + 1 := ⟨f - 1, by omega⟩
  have hdn : down ns ns.length p = ((p : Int) :: pre.flatMap fun x => down ns f x.toNat) ++ [(k : Int)] := by
    rw [hf, down, hkids, List.flatMap_append]
    simp [hf', down, hkk]
  have hc := down_once h.fit hdp (tree_deep h hp) (dp + 1) k hdk
  rw [hdn, List.count_append] at hc
  simp only [List.count_singleton_self] at hc
  have hnot : (k : Int) ∉ ((p : Int) :: pre.flatMap fun x => down ns f x.toNat) := fun hm => by
    have := List.count_pos_iff.mpr hm
    omega
  rw [text_down, text_down, down_moreN, hdn, List.flatMap_append, List.flatMap_append]
  rw [flat_but (g := fun x => txAt ns x.toNat) (fun x hx => by
    rw [txAt_moreN hk h4]
    rw [if_neg]
    intro e
    obtain ⟨hx0, _⟩ := down_deeper h.fit ns.length dp p hdp x (by rw [hdn]; exact List.mem_append_left _ hx)
    exact hnot (by rw [show (k : Int) = x by omega]; exact hx))]
  simp only [List.flatMap_cons, List.flatMap_nil, List.append_nil, Int.toNat_natCast]
  rw [txAt_moreN hk h4, if_pos rfl]
  simp only [List.append_assoc]

theorem kidsOf_newN {ns : List PNode} (h : STreeOkP ns) {p : Nat} (hp : p < ns.length) {s : ByteArray} (ht : STreeOkP (ns ++ [txtN s])) (j : Nat) : kidsOf (newN ns p s) j = if p = j then kidsOf ns j ++ [(ns.length : Int)] else kidsOf ns j := by
  have hl : lessL (ns.length : Int) (kidsOf ns j) = kidsOf ns j := lessL_not (fun hm => by have := (fit_kid h.1.fit hm).2.2.1; omega)
  unfold newN
  rw [kidsOf_hangN ht (by simp) (by simp; omega), kidsOf_snoc rfl, hl]
theorem txAt_bare {ns ms : List PNode} {j : Nat} (h : bareAt ms j = bareAt ns j) : txAt ms j = txAt ns j := by
  unfold bareAt at h
  unfold txAt
  cases e1 : ms[j]? with
  | none =>
    cases e2 : ns[j]? with
    | none => rfl
    | some b => rw [e1, e2] at h; simp at h
  | some a =>
    cases e2 : ns[j]? with
    | none => rw [e1, e2] at h; simp at h
    | some b =>
      rw [e1, e2] at h
      simp [bareOf] at h
      simp [txL, h]
theorem txAt_newN (ns : List PNode) (p : Nat) (s : ByteArray) (j : Nat) : txAt (newN ns p s) j = if j = ns.length then s.data.toList else txAt ns j := by
  rw [newN, txAt_bare (bareAt_hangN _ _ _ _)]
  unfold txAt
  by_cases e : j < ns.length
  · rw [List.getElem?_append_left e, if_neg (by omega)]
  · by_cases e2 : j = ns.length
    · subst e2; simp [txL, txtN]
    · rw [if_neg e2, List.getElem?_eq_none (by simp; omega), List.getElem?_eq_none (by omega)]
theorem text_far {ns : List PNode} (h : STreeOkP ns) {p : Nat} (hp : p < ns.length) {s : ByteArray} (ht : STreeOkP (ns ++ [txtN s])) : ∀ g i, i < ns.length → (p : Int) ∉ down ns g i → textL (newN ns p s) g i = textL ns g i
  | 0, i, _, _ => rfl
  | g + 1, i, hi, hn => by
    rw [down] at hn
    have hne : p ≠ i := fun e => hn (by simp [e])
    rw [textL, textL, kidsOf_newN h hp ht, if_neg hne, txAt_newN, if_neg (by omega)]
    congr 1
    refine flat_but (fun x hx => ?_)
    obtain ⟨h1, h2, h3, _⟩ := fit_kid h.1.fit hx
    exact text_far h hp ht g x.toNat (by omega) (fun hm => hn (List.mem_cons_of_mem _ (List.mem_flatMap.mpr ⟨x, hx, hm⟩)))
/-- A new text below p. -/
theorem text_new {ns : List PNode} (h : STreeOkP ns) {p : Nat} (hp : p < ns.length) {s : ByteArray} (hs : empB s = false) (hu : utfOk (bs s) = true) (hl : ns.length < 500) : textL (newN ns p s) (ns.length + 1) p = textL ns ns.length p ++ s.data.toList := by
  have ht0 : TreeOkP (ns ++ [txtN s]) := tree_snoc h.1 rfl rfl (by show (4 : Int) ≠ 1; decide) (by simp [nodeB, txtN, hs, hu]; exact (empB_iff _).mpr rfl) hl
  have ht : STreeOkP (ns ++ [txtN s]) := ⟨ht0, by rw [parOf_snoc rfl]; exact h.2⟩
  have h1 := h.1.one
  obtain ⟨f, hf⟩ : ∃ f, ns.length = f + 1 := ⟨ns.length - 1, by omega⟩
  obtain ⟨dp, hdp⟩ := h.1.linked p hp
  have hdeep := tree_deep h.1 hp
  rw [textL, kidsOf_newN h hp ht, if_pos rfl, txAt_newN, if_neg (by omega), List.flatMap_append]
  have e1 : (kidsOf ns p).flatMap (fun x => textL (newN ns p s) ns.length x.toNat) = (kidsOf ns p).flatMap (fun x => textL ns f x.toNat) := by
    refine flat_but (fun x hx => ?_)
    obtain ⟨g1, g2, g3, g4⟩ := fit_kid h.1.fit hx
    have hdx : dep ns (dp + 1) x.toNat := ⟨p, hdp, by rw [Int.toNat_of_nonneg g2]; exact hx⟩
    rw [text_far h hp ht ns.length x.toNat (by omega) (fun hm => by
      obtain ⟨_, e, he, hde⟩ := down_deeper h.1.fit ns.length (dp + 1) x.toNat hdx _ hm
      have := dep_uniq h.1.fit e dp p (by simpa using hde) hdp
      omega)]
    rw [hf] at hdeep
    exact text_deep f ns.length x.toNat (by omega) (hdeep.2 x hx).2
  have e2 : textL (newN ns p s) ns.length ns.length = s.data.toList := by
    conv => lhs; rw [hf, textL]
    rw [← hf, kidsOf_newN h hp ht, if_neg (by omega), kidsOf_out (by omega), txAt_newN, if_pos rfl]
    simp
  rw [e1]
  simp only [List.flatMap_cons, List.flatMap_nil, List.append_nil, Int.toNat_natCast]
  rw [e2]
  conv => rhs; rw [hf, textL]
  simp only [List.append_assoc]
end Go.Proofs.YtogdbjafibejdaaGreat

/- A page to which a node is hung, or a text written, is printed so behind all, in plain words. No condition. -/
namespace Go.Proofs.YtogdbjafibejdaaGreat
open Go.RowKit
set_option maxRecDepth 100000
set_option linter.unusedVariables false

theorem nodeL_bare {n m : PNode} (h : bareOf m = bareOf n) (up : ByteArray) (inner : List UInt8) : nodeL up m inner = nodeL up n inner := by
  obtain ⟨a, b, c, d, e, f⟩ := n
  obtain ⟨a', b', c', d', e', f'⟩ := m
  simp only [bareOf, Prod.mk.injEq] at h
  obtain ⟨rfl, rfl, rfl, rfl⟩ := h
  rfl
theorem ndAt_bare {ns ms : List PNode} {j : Nat} (h : bareAt ms j = bareAt ns j) : bareOf (ndAt ms j) = bareOf (ndAt ns j) := by
  unfold bareAt at h
  unfold ndAt
  cases e1 : ms[j]? with
  | none =>
    cases e2 : ns[j]? with
    | none => rfl
    | some b => rw [e1, e2] at h; simp at h
  | some a =>
    cases e2 : ns[j]? with
    | none => rw [e1, e2] at h; simp at h
    | some b =>
      rw [e1, e2] at h
      simpa using h
theorem bare_name {n m : PNode} (h : bareOf m = bareOf n) : m.name = n.name := by
  simp only [bareOf, Prod.mk.injEq] at h
  exact h.2.1
/-- Below nodes of which all is the same, the same is printed. -/
theorem print_same {ns ms : List PNode} (P : Nat → Prop) (hP : ∀ i, P i → kidsOf ms i = kidsOf ns i ∧ bareAt ms i = bareAt ns i ∧ ∀ x ∈ kidsOf ns i, P x.toNat) : ∀ f i, P i → printL ms f i = printL ns f i
  | 0, _, _ => rfl
  | f + 1, i, h => by
    obtain ⟨h1, h2, h3⟩ := hP i h
    rw [printL, printL, h1, bare_name (ndAt_bare h2)]
    refine flat_same fun x hx => ?_
    rw [print_same P hP f x.toNat (h3 x hx), nodeL_bare (ndAt_bare (hP _ (h3 x hx)).2.1)]

theorem bareAt_left {ns : List PNode} {nd : PNode} {j : Nat} (h : j < ns.length) : bareAt (ns ++ [nd]) j = bareAt ns j := by
  unfold bareAt; rw [List.getElem?_append_left h]

theorem print_hang0 {ns : List PNode} (h : STreeOkP ns) {nd : PNode} (hk : nd.kids = []) (hp : nd.parent = -1) (ht : STreeOkP (ns ++ [nd])) :
    printL (hangN (ns ++ [nd]) ns.length 0) (ns.length + 1) 0 = printL ns ns.length 0 ++ nodeL (ndAt ns 0).name nd [] := by
  have h1 := h.1.one
  obtain ⟨ms, hms⟩ : ∃ ms, ms = hangN (ns ++ [nd]) ns.length 0 := ⟨_, rfl⟩
  have hkm : ∀ j, kidsOf ms j = if 0 = j then kidsOf ns j ++ [(ns.length : Int)] else kidsOf ns j := fun j => by
    have hl : lessL (ns.length : Int) (kidsOf ns j) = kidsOf ns j := lessL_not (fun hm => by have := (fit_kid h.1.fit hm).2.2.1; omega)
    rw [hms, kidsOf_hangN ht (by simp) (by simp), kidsOf_snoc hk, hl]
  have hbm : ∀ j, bareAt ms j = bareAt (ns ++ [nd]) j := fun j => by rw [hms, bareAt_hangN]
  have hb : ∀ j, j < ns.length → bareAt ms j = bareAt ns j := fun j hj => by rw [hbm, bareAt_left hj]
  have hsame := print_same (ns := ns) (ms := ms) (fun i => i < ns.length ∧ i ≠ 0) (fun i hi => ⟨by rw [hkm, if_neg (by omega)], hb i hi.1, fun x hx => by have := tree_kid h hx; constructor <;> omega⟩)
  rw [← hms]
  obtain ⟨f, hf⟩ : ∃ f, ns.length = f + 1 := ⟨ns.length - 1, by omega⟩
  have hdeep := tree_deep h.1 (k := 0) (by omega)
  rw [printL, hkm, if_pos rfl, List.flatMap_append, bare_name (ndAt_bare (hb 0 (by omega)))]
  have e1 : (kidsOf ns 0).flatMap (fun x => nodeL (ndAt ns 0).name (ndAt ms x.toNat) (printL ms ns.length x.toNat)) = printL ns ns.length 0 := by
    conv => rhs; rw [hf, printL]
    refine flat_same fun x hx => ?_
    have hx1 := tree_kid h hx
    rw [hsame _ _ ⟨by omega, by omega⟩, nodeL_bare (ndAt_bare (hb _ (by omega)))]
    rw [hf] at hdeep
    rw [hf, print_deep ns f (f + 1) x.toNat (by omega) (hdeep.2 x hx).2]
  rw [e1]
  congr 1
  simp only [List.flatMap_cons, List.flatMap_nil, List.append_nil, Int.toNat_natCast]
  have e2 : printL ms ns.length ns.length = [] := by
    conv => lhs; rw [hf, printL]
    rw [← hf, hkm, if_neg (by omega), kidsOf_out (by omega)]
    rfl
  have e3 : bareOf (ndAt ms ns.length) = bareOf nd := by
    rw [ndAt_bare (hbm ns.length)]
    simp [ndAt]
  rw [e2, nodeL_bare e3]

theorem esc_app (v : Bool) (s : List UInt8) (hs : s.head? ≠ some 160) : ∀ (n : Nat) (t : List UInt8), t.length ≤ n → esc v (t ++ s) = esc v t ++ esc v s := by
  intro n
  induction n with
  | zero => intro t h; have : t = [] := List.length_eq_zero_iff.mp (by omega); subst this; simp [esc]
  | succ n ih =>
    intro t h
    cases t with
    | nil => simp [esc]
    | cons b r =>
      by_cases hb : b = 194 ∧ r.head? = some 160
      · obtain ⟨rfl, hr⟩ := hb
        cases r with
        | nil => cases hr
        | cons c r =>
          simp only [List.head?_cons, Option.some.injEq] at hr
          subst hr
          rw [List.cons_append, List.cons_append, esc_hard, esc_hard, ih r (by simp at h; omega), List.append_assoc]
      · rw [List.cons_append, esc_cons v b r hb, esc_cons v b (r ++ s), ih r (by simpa using h), List.append_assoc]
        rintro ⟨rfl, e⟩
        cases r with
        | nil => exact hs (by simpa using e)
        | cons c r => exact hb ⟨rfl, by simpa using e⟩

theorem page_name {ns : List PNode} (h : TreeOkP ns) : hasB raws (ndAt ns 0).name = false := by
  have h1 := h.one
  have hg := h.good 0 (by omega)
  rw [ndAt_at (by omega)]
  unfold goodB at hg
  rw [Bool.and_eq_true] at hg
  have hk : ns[0].kind = 1 := by simpa using hg.1
  have hn := hg.2
  unfold nodeB at hn
  simp only [hk] at hn
  simp at hn
  have h0 : ns[0].name.size = 0 := (empB_iff _).mp (by simpa using hn.1.1)
  refine hasB_no (fun hm => ?_)
  have : ∀ t ∈ raws, t.size ≠ 0 := by decide
  exact this _ hm h0

theorem print_more0 {ns : List PNode} (h : STreeOkP ns) {k : Nat} (hl : LastT ns 0 k) (s : ByteArray) (hs : s.data.toList.head? ≠ some 160) :
    printL (moreN ns k s) ns.length 0 = printL ns ns.length 0 ++ esc false s.data.toList := by
  have h1 := h.1.one
  obtain ⟨pre, hkids, hk, h4⟩ := hl
  have hmem : (k : Int) ∈ kidsOf ns 0 := by rw [hkids]; simp
  have hfk := fit_kid h.1.fit hmem
  rw [Int.toNat_natCast] at hfk
  have hk1 := tree_kid h hmem
  have hb : ∀ j, j ≠ k → bareAt (moreN ns k s) j = bareAt ns j := fun j hj => by
    unfold bareAt moreN
    rw [List.getElem?_modify]
    simp [show ¬ k = j from fun e => hj e.symm]
  have hsame := print_same (ns := ns) (ms := moreN ns k s) (fun i => i ≠ 0 ∧ i ≠ k) (fun i hi => ⟨kidsOf_moreN _ _ _ _, hb i hi.2, fun x hx => by
    have h3 := tree_kid h hx
    refine ⟨by omega, fun e => ?_⟩
    have h5 := (fit_kid h.1.fit hx).2.2.2
    rw [e, hfk.2.2.2] at h5
    omega⟩)
  have hkk : kidsOf ns k = [] := by
    have hg := h.1.good k hk
    unfold goodB nodeB at hg
    simp only [h4] at hg
    simp at hg
    rw [kidsOf_at hk]
    exact hg.2.2
  obtain ⟨f, hf⟩ : ∃ f, ns.length = f + 1 := ⟨ns.length - 1, by omega⟩
  have hnd := (h.1.fit 0 (by omega)).1
  rw [hkids] at hnd
  have hnot : (k : Int) ∉ pre := fun hm => by
    have := (List.nodup_append.mp hnd).2.2 _ hm _ (List.mem_singleton_self _)
    exact this rfl
  rw [hf, printL, printL, kidsOf_moreN, hkids, List.flatMap_append, List.flatMap_append, bare_name (ndAt_bare (hb 0 (by omega))), List.append_assoc]
  congr 1
  · refine flat_same fun x hx => ?_
    have hx1 := tree_kid h (k := 0) (x := x) (by rw [hkids]; exact List.mem_append_left _ hx)
    have hxk : x.toNat ≠ k := fun e => hnot (by rw [show (k : Int) = x by omega]; exact hx)
    rw [hsame _ _ ⟨by omega, hxk⟩, nodeL_bare (ndAt_bare (hb _ hxk))]
  · simp only [List.flatMap_cons, List.flatMap_nil, List.append_nil, Int.toNat_natCast]
    have hpn := page_name h.1
    have hmk : k < (moreN ns k s).length := by rw [moreN_len]; exact hk
    have hat : (moreN ns k s)[k] = setText ns[k] (ns[k].text ++ s) := by simp [moreN]
    rw [ndAt_at hmk, hat, ndAt_at hk]
    have hda : (ns[k].text ++ s).data.toList = ns[k].text.data.toList ++ s.data.toList := by simp
    simp only [nodeL, setText, h4, hpn, hda]
    simp [esc_app false _ hs _ _ (Nat.le_refl _)]
end Go.Proofs.YtogdbjafibejdaaGreat
