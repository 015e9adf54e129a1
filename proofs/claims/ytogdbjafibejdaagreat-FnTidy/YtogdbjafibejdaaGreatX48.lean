/- The specification's l8Print (written by mk/sprint.py). No condition. -/
import Derived.Test.YtogdbjafibejdaaGreatX41
import Derived.Test.YtogdbjafibejdaaGreatX47
import Derived.Test.YtogdbjafibejdaaGreatX46
import Derived.Test.YtogdbjafibejdaaGreatX33
import Derived.Test.YtogdbjafibejdaaGreatX44
import Derived.Test.YtogdbjafibejdaaGreatX27
import Derived.Test.YtogdbjafibejdaaGreatX23
import Derived.Deep.RegionHeld3
import Derived.Test.YtogdbjafibejdaaGreatX24
import Derived.Test.YtogdbjafibejdaaGreatX37
import Derived.Test.YtogdbjafibejdaaGreatX38
namespace Go.Proofs.YtogdbjafibejdaaGreat
open Go.RowKit
set_option maxRecDepth 100000
set_option linter.unusedVariables false

theorem str_of {s : ByteArray} {l : List UInt8} (h : s.data.toList = l) : s = strL l := by rw [← h]; exact (strL_data s).symm
theorem strL_list (l : List UInt8) : (strL l).data.toList = l := by simp [strL]
theorem open_le (up : ByteArray) (n : PNode) (inner : List UInt8) (h : n.kind = 3) : (openL n).length ≤ (nodeL up n inner).length := by
  unfold nodeL
  rw [if_neg (by omega), if_pos h]
  split
  · exact Nat.le_refl _
  · rw [List.length_append, List.length_append]; omega

set_option maxHeartbeats 4000000 in
set_option maxRecDepth 100000 in
theorem sprint_any {ns : List PNode} (hlen : ns.length ≤ 1048576) (hs : ∀ k (hk : k < ns.length), SmallN ns[k]) : ∀ (f k : Nat), deepOk ns f k → (printL ns f k).length ≤ 1000000000 → ∀ (w : World) (v : Value), NodesAt w v ns →
    Calls Tryz.prog 81 #[.agg #[v], .int .i64 (k : Int)] w fun e w' => e = .returned (.string (strL (printL ns f k))) ∧ Below w.heap.size w w' := by
  intro f
  induction f with
  | zero => intro k h; exact h.elim
  | succ f ih =>
    intro k hk hsz w v hn
    have IH := (show Hid _ from ih)
    have hklt := hk.1
    have HK := (show Hid (∀ x ∈ kidsOf ns k, 0 ≤ x ∧ deepOk ns f x.toNat) from hk.2)
    have HN := (show Hid (NodesAt w v ns) from hn)
    have HS := (show Hid (∀ k (hk : k < ns.length), SmallN ns[k]) from hs)
    obtain ⟨a, cap, rfl, hc1, hc2, hcs⟩ := hn.slice
    obtain ⟨b, off, av, kv, rfl, hblt, c0, c1, c2, c3, c4, c5, hav, hkv⟩ := hcs k hklt
    obtain ⟨kv1, kv3, rfl, hkl1, hkl2, _, hkc⟩ := hkv
    obtain ⟨ks, hks⟩ : ∃ ks, ks = ns[k].kids := ⟨_, rfl⟩
    rw [← hks] at hkc c5 hkl1
    have HKC := (show Hid (Cells .i64 w kv1 ks) from hkc)
    obtain ⟨up, hup⟩ : ∃ up, up = (ndAt ns k).name := ⟨_, rfl⟩
    have hupn : up = ns[k].name := by rw [hup, ndAt_at hklt]
    rw [← hupn] at c1
    obtain ⟨g, hg⟩ : ∃ g : Int → List UInt8, g = fun x => nodeL up (ndAt ns x.toNat) (printL ns f x.toNat) := ⟨_, rfl⟩
    have hpl : printL ns (f + 1) k = ks.flatMap g := by rw [printL, hg, hup, hks, kidsOf_at hklt]
    have HPL := (show Hid (printL ns (f + 1) k = ks.flatMap g) from hpl)
    have HSZ := (show Hid ((ks.flatMap g).length ≤ 1000000000) from by rw [← hpl]; exact hsz)
    have HG := (show Hid (g = fun x => nodeL up (ndAt ns x.toNat) (printL ns f x.toNat)) from hg)
    rw [kidsOf_at hklt, ← hks] at HK
    have HCS := (show Hid _ from hcs)
    -- a kid's cells
    have hkm : ks.length < 9223372036854775808 := by unfold maxLen at hkl2; omega
    obtain ⟨w2, hw2⟩ : ∃ x, x = w.alloc (.cells #[.slice (some ⟨b, off, none⟩) ns.length cap] 26) := ⟨_, rfl⟩
    have b2 : Below w.heap.size w w2 := by rw [hw2]; exact (Below.refl _ w).alloc (Nat.le_refl _) _
    have gT : w2.heap[w.heap.size]? = some (.cells #[.slice (some ⟨b, off, none⟩) ns.length cap] 26 (0, 0)) := by rw [hw2]; exact World.alloc_heap_new _ _
    obtain ⟨T0, hT0⟩ : ∃ x, x = w.heap.size := ⟨_, rfl⟩
    rw [← hT0] at gT
    have cT : w2.cell? ⟨T0, 0, none⟩ = some (.slice (some ⟨b, off, none⟩) ns.length cap) := by simp only [World.cell?, gT]; rfl
    have c5' := (b2.cell (p := ⟨b, off + k * 6 + 5, none⟩) hblt).trans c5
    have lT := blk_lt gT
    have B2 := (show Hid (Below w.heap.size w w2) from b2)
    have CT := (show Hid _ from cT)
    have C1 := (show Hid (w.cell? ⟨b, off + k * 6 + 1, none⟩ = some (.string up)) from c1)
    have hki : (k : Int) < ns.length := by omega
    clear hkc ih hn hcs hk hsz gT b2 c0 c1 c2 c3 c4 c5 hav hg hpl hup hupn hks hs
    go_enter Tryz.func81, Tryz.ntmps81
    go_upto_region 1 with fail
    rw [← hw2, ← hT0]
    clear hw2 hT0
    go_wp2
    go_loopw [5, 7] (fun o i wr => ∃ j : Nat, j ≤ ks.length ∧ i = .int .i64 j ∧ o = .string (strL ((ks.take j).flatMap g)) ∧ Hid (Below w2.heap.size w2 wr)) (fun _ i _ => ks.length - (intOf i).toNat)
    case atStart => exact ⟨0, Nat.zero_le _, rfl, rfl, Below.refl _ _⟩
    case round =>
      obtain ⟨j, hj, rfl, rfl, BEL⟩ := hrel
      have cTr := (BEL.out.cell (p := ⟨T0, 0, none⟩) lT).trans CT.out
      by_cases hlt : j < ks.length
      rotate_left
      · obtain rfl : j = ks.length := by omega
        have HFIN := (show Hid (strL ((ks.take ks.length).flatMap g) = strL (printL ns (f + 1) k)) from (by rw [HPL.out, List.take_length] : strL ((ks.take ks.length).flatMap g) = strL (printL ns (f + 1) k)))
        obtain ⟨s0, hs0⟩ : ∃ s0, s0 = strL ((ks.take ks.length).flatMap g) := ⟨_, rfl⟩
        rw [← hs0] at HFIN ⊢
        clear hs0
        go_wp2
        go_ret
        exact ⟨by rw [← HFIN.out]; rfl, B2.out.trans (BEL.out.mono B2.out.size)⟩
      obtain ⟨hx0, hdx⟩ := HK.out ks[j] (List.getElem_mem hlt)
      obtain ⟨kb, ko, rfl, ck⟩ := HKC.out j hlt
      have hkb := lt_of_cell6 ck
      rw [show ks.getD j 0 = ks[j] by simp [List.getD_eq_getElem?_getD, hlt]] at ck
      have HT1 : Hid ((ks.take (j + 1)).flatMap g = (ks.take j).flatMap g ++ g ks[j]) := (by rw [List.take_succ_eq_append_getElem hlt, List.flatMap_append, List.flatMap_singleton] : (ks.take (j + 1)).flatMap g = (ks.take j).flatMap g ++ g ks[j])
      have hsum : ((ks.take j).flatMap g).length + (g ks[j]).length ≤ 1000000000 := by
        have h1 := HSZ.out
        have h2 : ks = (ks.take j ++ [ks[j]]) ++ ks.drop (j + 1) := by rw [← List.take_succ_eq_append_getElem hlt, List.take_append_drop]
        have h3 : (ks.flatMap g).length = ((ks.take j).flatMap g).length + (g ks[j]).length + ((ks.drop (j + 1)).flatMap g).length := by
          conv => lhs; rw [h2]
          rw [List.flatMap_append, List.flatMap_append, List.flatMap_singleton, List.length_append, List.length_append]
        omega
      obtain ⟨x, hx⟩ : ∃ x, x = ks[j] := ⟨_, rfl⟩
      rw [← hx] at HT1 hx0 hdx hsum ck
      clear hx
      obtain ⟨q, rfl⟩ : ∃ q : Nat, x = (q : Int) := ⟨x.toNat, by omega⟩
      rw [Int.toNat_natCast] at hdx
      have hq := deepOk_lt hdx
      have hgq : g (q : Int) = nodeL up ns[q] (printL ns f q) := by rw [HG.out]; simp only [Int.toNat_natCast, ndAt_at hq]
      rw [hgq] at HT1 hsum
      obtain ⟨_, _, av, nv, e0, hql, d0, d1, d2, d3, d4, d5, hav, hnv⟩ := HCS.out q hq
      cases e0
      obtain ⟨av1, acap, rfl, ha1, ha2, ha3⟩ := hav.pair
      obtain ⟨nv1, mcap, rfl, hm1, hm2, _, _⟩ := hnv
      have hsm := HS.out q hq
      obtain ⟨nd, hnd⟩ : ∃ nd, nd = ns[q] := ⟨_, rfl⟩
      rw [← hnd] at d0 d1 d2 d3 d4 d5 ha1 ha3 hm1 hsm HT1 hsum
      have HSM := (show Hid (SmallN nd) from hsm)
      have hr20 := hsm.rs
      have hnm := hsm.nm
      have htx := hsm.tx
      obtain ⟨nk, nm, rs, tx, par, mks⟩ := nd
      simp only at d0 d1 d2 d3 d4 d5 ha1 ha3 hm1 hr20 hnm htx
      have HA3 := (show Hid (∀ j (hj : j < rs.length), ∃ xb xo, av1 = some ⟨xb, xo, none⟩ ∧ xb < w.heap.size ∧ w.cell? ⟨xb, xo + j * 2, none⟩ = some (.string rs[j].1) ∧ w.cell? ⟨xb, xo + j * 2 + 1, none⟩ = some (.string rs[j].2)) from ha3)
      have bwr := B2.out.trans (BEL.out.mono B2.out.size)
      have BWR := (show Hid (Below w.heap.size w wr) from bwr)
      have hqi : (q : Int) < ns.length := by omega
      have hji : (j : Int) < ks.length := by omega
      have HD := (show Hid (w.cell? ⟨kb, ko + j, none⟩ = some (.int .i64 (q : Int)) ∧ w.cell? ⟨b, off + q * 6, none⟩ = some (.int .i64 nk) ∧ w.cell? ⟨b, off + q * 6 + 1, none⟩ = some (.string nm) ∧ w.cell? ⟨b, off + q * 6 + 2, none⟩ = some (.slice av1 rs.length acap) ∧ w.cell? ⟨b, off + q * 6 + 3, none⟩ = some (.string tx) ∧ w.cell? ⟨b, off + q * 6 + 4, none⟩ = some (.int .i64 par) ∧ w.cell? ⟨b, off + q * 6 + 5, none⟩ = some (.slice nv1 mks.length mcap)) from ⟨ck, d0, d1, d2, d3, d4, d5⟩)
      have CTR := (show Hid _ from cTr)
      obtain ⟨A, hA⟩ : ∃ A, A = (ks.take j).flatMap g := ⟨_, rfl⟩
      rw [← hA] at HT1 hsum ⊢
      obtain ⟨s0, hs0⟩ : ∃ s0, s0 = strL A := ⟨_, rfl⟩
      rw [← hs0]
      have HS0 := (show Hid (s0 = strL A) from hs0)
      have hs0s : s0.size = A.length := by rw [hs0, strL_size]
      have hlnm : nm.data.toList.length = nm.size := by simp
      have hltx : tx.data.toList.length = tx.size := by simp
      have HSUM := (show Hid (A.length + (nodeL up ⟨nk, nm, rs, tx, par, mks⟩ (printL ns f q)).length ≤ 1000000000) from hsum)
      clear hA hs0 hnd hsm hav ha3 bwr cTr d0 d1 d2 d3 d4 d5 ck hgq hsum c5'
      have bT := CTR.out
      have u1 := (BWR.out.cell (p := ⟨kb, ko + j, none⟩) hkb).trans HD.out.1
      have y0 := (BWR.out.cell (p := ⟨b, off + q * 6, none⟩) hql).trans HD.out.2.1
      have y1 := (BWR.out.cell (p := ⟨b, off + q * 6 + 1, none⟩) hql).trans HD.out.2.2.1
      have y2 := (BWR.out.cell (p := ⟨b, off + q * 6 + 2, none⟩) hql).trans HD.out.2.2.2.1
      have y3 := (BWR.out.cell (p := ⟨b, off + q * 6 + 3, none⟩) hql).trans HD.out.2.2.2.2.1
      have y4 := (BWR.out.cell (p := ⟨b, off + q * 6 + 4, none⟩) hql).trans HD.out.2.2.2.2.2.1
      have y5 := (BWR.out.cell (p := ⟨b, off + q * 6 + 5, none⟩) hql).trans HD.out.2.2.2.2.2.2
      have lTr : T0 < wr.heap.size := Nat.lt_of_lt_of_le lT BEL.out.size
      have lkr : kb < wr.heap.size := Nat.lt_of_lt_of_le hkb BWR.out.size
      have lbr : b < wr.heap.size := Nat.lt_of_lt_of_le hql BWR.out.size
      have v0 := World.new_ne wr ⟨T0, 0, none⟩ bT
      have v1 := World.new_ne wr ⟨kb, ko + j, none⟩ u1
      have v2 := World.new_ne wr ⟨b, off + q * 6, none⟩ y0
      have v3 := World.new_ne wr ⟨b, off + q * 6 + 1, none⟩ y1
      have v4 := World.new_ne wr ⟨b, off + q * 6 + 2, none⟩ y2
      have v5 := World.new_ne wr ⟨b, off + q * 6 + 3, none⟩ y3
      have v6 := World.new_ne wr ⟨b, off + q * 6 + 4, none⟩ y4
      have v7 := World.new_ne wr ⟨b, off + q * 6 + 5, none⟩ y5
      go_upto_region 6 with fail
      go_region_held3 (fun w' => w'.cell? ⟨T0, 0, none⟩ = some (.slice (some ⟨b, off, none⟩) ns.length cap) ∧ w'.cell? ⟨kb, ko + j, none⟩ = some (.int .i64 (q : Int)) ∧ w'.cell? ⟨b, off + q * 6, none⟩ = some (.int .i64 nk) ∧ w'.cell? ⟨b, off + q * 6 + 1, none⟩ = some (.string nm) ∧ w'.cell? ⟨b, off + q * 6 + 2, none⟩ = some (.slice av1 rs.length acap) ∧ w'.cell? ⟨b, off + q * 6 + 3, none⟩ = some (.string tx) ∧ w'.cell? ⟨b, off + q * 6 + 4, none⟩ = some (.int .i64 par) ∧ w'.cell? ⟨b, off + q * 6 + 5, none⟩ = some (.slice nv1 mks.length mcap)) (go_keep) (fail)
      obtain ⟨w5, hw5⟩ : ∃ x, x = (wr.alloc (.cells #[.int .i64 nk, .string nm, .slice av1 rs.length acap, .string tx, .int .i64 par, .slice nv1 mks.length mcap] 36)).drew := ⟨_, rfl⟩
      have b5 : Below wr.heap.size wr w5 := by rw [hw5]; exact ((Below.refl _ _).alloc (Nat.le_refl _) _).trans (below_drewN 1)
      have g5 : w5.heap[wr.heap.size]? = some (.cells #[.int .i64 nk, .string nm, .slice av1 rs.length acap, .string tx, .int .i64 par, .slice nv1 mks.length mcap] 36 (0, 0)) := by rw [hw5]; exact World.alloc_heap_new _ _
      obtain ⟨N, hN⟩ : ∃ x, x = wr.heap.size := ⟨_, rfl⟩
      rw [← hN] at g5
      have G5 := (show Hid _ from g5)
      have B5 := (show Hid (Below w2.heap.size w2 w5) from BEL.out.trans (b5.mono BEL.out.size))
      have BW5 := (show Hid (Below w.heap.size w w5) from B2.out.trans (B5.out.mono B2.out.size))
      have cT5 := (B5.out.cell (p := ⟨T0, 0, none⟩) lT).trans CT.out
      obtain ⟨n0, n1, n2, n3, n4, n5⟩ := (six_at g5).1
      clear u1 y0 y1 y2 y3 y4 y5 b5 g5 BEL BWR CTR v0 v1 v2 v3 v4 v5 v6 v7 bT lTr lkr lbr
      go_upto_region 7 with fail
      rw [← hw5, ← hN]
      clear hw5 hN
      by_cases h2 : nk = 2
      · subst h2
        have hz0 : (⟨#[60, 33, 68, 79, 67, 84, 89, 80, 69, 32]⟩ : ByteArray).size = 10 := rfl
        have hz1 : (⟨#[62]⟩ : ByteArray).size = 1 := rfl
        have hsz0 := HSUM.out
        have ad1 : ∀ W, (Op.stringOp .add (s0) ⟨#[60, 33, 68, 79, 67, 84, 89, 80, 69, 32]⟩).run Tryz.prog W = .ok (.string (s0 ++ ⟨#[60, 33, 68, 79, 67, 84, 89, 80, 69, 32]⟩)) W := fun W => run_string_add_sum W _ _ (by first | omega | (simp only [ByteArray.size_append]; omega))
        have ad2 : ∀ W, (Op.stringOp .add (s0 ++ ⟨#[60, 33, 68, 79, 67, 84, 89, 80, 69, 32]⟩) nm).run Tryz.prog W = .ok (.string (s0 ++ ⟨#[60, 33, 68, 79, 67, 84, 89, 80, 69, 32]⟩ ++ nm)) W := fun W => run_string_add_sum W _ _ (by first | omega | (simp only [ByteArray.size_append]; omega))
        have ad3 : ∀ W, (Op.stringOp .add (s0 ++ ⟨#[60, 33, 68, 79, 67, 84, 89, 80, 69, 32]⟩ ++ nm) ⟨#[62]⟩).run Tryz.prog W = .ok (.string (s0 ++ ⟨#[60, 33, 68, 79, 67, 84, 89, 80, 69, 32]⟩ ++ nm ++ ⟨#[62]⟩)) W := fun W => run_string_add_sum W _ _ (by first | omega | (simp only [ByteArray.size_append]; omega))
        have HEQ := (show Hid ((s0 ++ ⟨#[60, 33, 68, 79, 67, 84, 89, 80, 69, 32]⟩ ++ nm ++ ⟨#[62]⟩) = strL ((ks.take (j + 1)).flatMap g)) from (by
          rw [HT1.out, HS0.out]
          refine str_of ?_
          simp [nodeL, dtL, strL_list] : (s0 ++ ⟨#[60, 33, 68, 79, 67, 84, 89, 80, 69, 32]⟩ ++ nm ++ ⟨#[62]⟩) = strL ((ks.take (j + 1)).flatMap g)))
        clear hz0 hz1 hsz0
        go_wp2
        go_roundw
        case rel => exact ⟨j + 1, by omega, by go_num, by rw [HEQ.out], B5.out⟩
        case measure => simp [intOf]; omega
      by_cases h5 : nk = 5
      · subst h5
        have hz0 : (⟨#[60, 33, 45, 45]⟩ : ByteArray).size = 4 := rfl
        have hz1 : (⟨#[45, 45, 62]⟩ : ByteArray).size = 3 := rfl
        have hsz0 := HSUM.out
        have ad1 : ∀ W, (Op.stringOp .add (s0) ⟨#[60, 33, 45, 45]⟩).run Tryz.prog W = .ok (.string (s0 ++ ⟨#[60, 33, 45, 45]⟩)) W := fun W => run_string_add_sum W _ _ (by first | omega | (simp only [ByteArray.size_append]; omega))
        have ad2 : ∀ W, (Op.stringOp .add (s0 ++ ⟨#[60, 33, 45, 45]⟩) tx).run Tryz.prog W = .ok (.string (s0 ++ ⟨#[60, 33, 45, 45]⟩ ++ tx)) W := fun W => run_string_add_sum W _ _ (by first | omega | (simp only [ByteArray.size_append]; omega))
        have ad3 : ∀ W, (Op.stringOp .add (s0 ++ ⟨#[60, 33, 45, 45]⟩ ++ tx) ⟨#[45, 45, 62]⟩).run Tryz.prog W = .ok (.string (s0 ++ ⟨#[60, 33, 45, 45]⟩ ++ tx ++ ⟨#[45, 45, 62]⟩)) W := fun W => run_string_add_sum W _ _ (by first | omega | (simp only [ByteArray.size_append]; omega))
        have HEQ := (show Hid ((s0 ++ ⟨#[60, 33, 45, 45]⟩ ++ tx ++ ⟨#[45, 45, 62]⟩) = strL ((ks.take (j + 1)).flatMap g)) from (by
          rw [HT1.out, HS0.out]
          refine str_of ?_
          simp [nodeL, coL, coR, strL_list] : (s0 ++ ⟨#[60, 33, 45, 45]⟩ ++ tx ++ ⟨#[45, 45, 62]⟩) = strL ((ks.take (j + 1)).flatMap g)))
        clear hz0 hz1 hsz0
        go_wp2
        go_roundw
        case rel => exact ⟨j + 1, by omega, by go_num, by rw [HEQ.out], B5.out⟩
        case measure => simp [intOf]; omega
      by_cases h4 : nk = 4
      · subst h4
        have cu := (BW5.out.cell (p := ⟨b, off + k * 6 + 1, none⟩) hblt).trans C1.out
        have CR := (show Hid (Calls Tryz.prog 127 #[.string up] w5 fun e w' => e = .returned (.bool (hasB raws up)) ∧ Below w5.heap.size w5 w') from sisRaw_any up w5)
        obtain ⟨rr, hrr⟩ : ∃ rr, rr = hasB raws up := ⟨_, rfl⟩
        rw [← hrr] at CR
        have HRR := (show Hid (rr = hasB raws up) from hrr)
        clear hrr
        go_wp2_with fail
        go_at_call 127
        refine Calls.mono CR.out ?_
        rintro e w6 ⟨rfl, b6⟩
        have B6 := (show Hid (Below w2.heap.size w2 w6) from B5.out.trans (b6.mono B5.out.size))
        have n3' := (b6.cell (p := ⟨N, 3, none⟩) (blk_lt G5.out)).trans n3
        clear b6 cu CR
        cases rr
        · have hel := esc_le false tx.data.toList
          obtain ⟨es, hes⟩ : ∃ es, es = lstr (esc false tx.data.toList) := ⟨_, rfl⟩
          have hess : es.size ≤ 18000 := by rw [hes]; show (esc false tx.data.toList).toArray.size ≤ 18000; simp; omega
          have CE := (show Hid (Calls Tryz.prog 125 #[.string tx, .bool false] w6 fun e w' => e = .returned (.string es) ∧ Below w6.heap.size w6 w') from by rw [hes]; exact sescape_any tx false w6 (by omega))
          have hsz0 := HSUM.out
          have ad1 : ∀ W, (Op.stringOp .add (s0) es).run Tryz.prog W = .ok (.string (s0 ++ es)) W := fun W => run_string_add_sum W _ _ (by first | omega | (simp only [ByteArray.size_append]; omega))
          have hnl : nodeL up ⟨4, nm, rs, tx, par, mks⟩ (printL ns f q) = esc false tx.data.toList := by simp [nodeL, ← HRR.out]
          have HEQ := (show Hid ((s0 ++ es) = strL ((ks.take (j + 1)).flatMap g)) from (by
            rw [HT1.out, HS0.out, hnl, hes]
            refine str_of ?_
            simp [lstr, strL_list] : (s0 ++ es) = strL ((ks.take (j + 1)).flatMap g)))
          clear hnl
          clear hes hess hsz0 hel
          go_wp2_with fail
          go_at_call 125
          refine Calls.mono CE.out ?_
          rintro e w7 ⟨rfl, b7⟩
          have B7 := (show Hid (Below w2.heap.size w2 w7) from B6.out.trans (b7.mono B6.out.size))
          clear b7
          go_wp2
          go_roundw
          case rel => exact ⟨j + 1, by omega, by go_num, by rw [HEQ.out], B7.out⟩
          case measure => simp [intOf]; omega
        · have hsz0 := HSUM.out
          have ad1 : ∀ W, (Op.stringOp .add (s0) tx).run Tryz.prog W = .ok (.string (s0 ++ tx)) W := fun W => run_string_add_sum W _ _ (by first | omega | (simp only [ByteArray.size_append]; omega))
          have hnl : nodeL up ⟨4, nm, rs, tx, par, mks⟩ (printL ns f q) = tx.data.toList := by simp [nodeL, ← HRR.out]
          have HEQ := (show Hid ((s0 ++ tx) = strL ((ks.take (j + 1)).flatMap g)) from (by
            rw [HT1.out, HS0.out, hnl]
            refine str_of ?_
            simp [strL_list] : (s0 ++ tx) = strL ((ks.take (j + 1)).flatMap g)))
          clear hnl
          clear hsz0
          go_wp2
          go_roundw
          case rel => exact ⟨j + 1, by omega, by go_num, by rw [HEQ.out], B6.out⟩
          case measure => simp [intOf]; omega
      by_cases h3 : nk = 3
      rotate_left
      · have HEQ := (show Hid (s0 = strL ((ks.take (j + 1)).flatMap g)) from (by
          rw [HT1.out, HS0.out]
          refine str_of ?_
          simp [nodeL, h2, h3, h4, h5, strL_list] : s0 = strL ((ks.take (j + 1)).flatMap g)))
        go_wp2
        go_roundw
        case rel => exact ⟨j + 1, by omega, by go_num, by rw [HEQ.out], B5.out⟩
        case measure => simp [intOf]; omega
      subst h3
      have hz0 : (⟨#[60]⟩ : ByteArray).size = 1 := rfl
      have hsz0 := HSUM.out
      have hopl := open_le up ⟨3, nm, rs, tx, par, mks⟩ (printL ns f q) rfl
      have hoz : (openL ⟨3, nm, rs, tx, par, mks⟩).length = 1 + nm.size + (rs.flatMap attrL).length + 1 := by simp only [openL, List.length_append, List.length_cons, List.length_nil, hlnm]
      have HOZ := (show Hid (A.length + nm.size + (rs.flatMap attrL).length ≤ 1000000000) from (by omega : A.length + nm.size + (rs.flatMap attrL).length ≤ 1000000000))
      have ada : ∀ W, (Op.stringOp .add (s0) ⟨#[60]⟩).run Tryz.prog W = .ok (.string (s0 ++ ⟨#[60]⟩)) W := fun W => run_string_add_sum W _ _ (by first | omega | (simp only [ByteArray.size_append]; omega))
      have adb : ∀ W, (Op.stringOp .add (s0 ++ ⟨#[60]⟩) nm).run Tryz.prog W = .ok (.string (s0 ++ ⟨#[60]⟩ ++ nm)) W := fun W => run_string_add_sum W _ _ (by first | omega | (simp only [ByteArray.size_append]; omega))
      obtain ⟨A1, hA1⟩ : ∃ A1, A1 = A ++ [60] ++ nm.data.toList := ⟨_, rfl⟩
      have HA1 := (show Hid (s0 ++ ⟨#[60]⟩ ++ nm = strL A1) from (by
        rw [HS0.out, hA1]
        refine str_of ?_
        simp [strL_list] : s0 ++ ⟨#[60]⟩ ++ nm = strL A1))
      have hA1s : A1.length = A.length + 1 + nm.size := by rw [hA1]; simp; omega
      have HA1D := (show Hid (A1 = A ++ [60] ++ nm.data.toList) from hA1)
      have HA1L := (show Hid (A1.length = A.length + 1 + nm.size) from hA1s)
      clear hA1 hsz0 hopl hoz hA1s hz0
      go_wp2
      go_loopw [5, 9] (fun o i wr => ∃ m : Nat, m ≤ rs.length ∧ i = .int .i64 m ∧ o = .string (strL (A1 ++ (rs.take m).flatMap attrL)) ∧ Hid (Below w5.heap.size w5 wr)) (fun _ i _ => rs.length - (intOf i).toNat)
      case atStart => exact ⟨0, Nat.zero_le _, rfl, by rw [HA1.out]; simp, Below.refl _ _⟩
      case round =>
        obtain ⟨m, hm, rfl, rfl, BL2⟩ := hrel
        have n1' := (BL2.out.cell (p := ⟨N, 1, none⟩) (blk_lt G5.out)).trans n1
        have n2' := (BL2.out.cell (p := ⟨N, 2, none⟩) (blk_lt G5.out)).trans n2
        by_cases hmt : m < rs.length
        · obtain ⟨xb, xo, rfl, hxl, x0, x1⟩ := HA3.out m hmt
          have HTM : Hid ((rs.take (m + 1)).flatMap attrL = (rs.take m).flatMap attrL ++ attrL rs[m]) := take_flat hmt
          have htl := take_le rs (m + 1)
          rw [HTM.out, List.length_append] at htl
          have hat := HSM.out.each rs[m] (List.getElem_mem hmt)
          obtain ⟨pp, hpp⟩ : ∃ pp, pp = rs[m] := ⟨_, rfl⟩
          rw [← hpp] at x0 x1 HTM htl hat
          clear hpp
          obtain ⟨an, ax⟩ := pp
          simp only at x0 x1
          have hax : an.size ≤ 3000 ∧ ax.size ≤ 3000 := by
            unfold attrOk at hat
            simp only [Bool.and_eq_true, decide_eq_true_eq] at hat
            refine ⟨?_, hat.1.1.2⟩
            have := hat.1.1.1
            unfold inB at this
            simp at this
            omega
          have hel := esc_le true ax.data.toList
          have hlax : ax.data.toList.length = ax.size := by simp
          obtain ⟨es, hes⟩ : ∃ es, es = lstr (esc true ax.data.toList) := ⟨_, rfl⟩
          have hess : es.size ≤ 18000 := by rw [hes]; show (esc true ax.data.toList).toArray.size ≤ 18000; simp; omega
          have CE := (show Hid (∀ n : Wd w5.heap.size w5, Calls Tryz.prog 125 #[.string ax, .bool true] n.w fun e w' => e = .returned (.string es) ∧ Below n.w.heap.size n.w w') from fun n => by rw [hes]; exact sescape_any ax true n.w (by omega))
          obtain ⟨c0, hc0⟩ : ∃ c0, c0 = strL (A1 ++ (rs.take m).flatMap attrL) := ⟨_, rfl⟩
          have hc0s : c0.size ≤ 1000001000 := by rw [hc0, strL_size, List.length_append]; have := HOZ.out; have := HA1L.out; omega
          have y0 : (⟨#[32]⟩ : ByteArray).size = 1 := rfl
          have y1 : (⟨#[61, 34]⟩ : ByteArray).size = 2 := rfl
          have y2 : (⟨#[34]⟩ : ByteArray).size = 1 := rfl
          have adc : ∀ W, (Op.stringOp .add (c0) ⟨#[32]⟩).run Tryz.prog W = .ok (.string (c0 ++ ⟨#[32]⟩)) W := fun W => run_string_add_sum W _ _ (by first | omega | (simp only [ByteArray.size_append]; omega))
          have add' : ∀ W, (Op.stringOp .add (c0 ++ ⟨#[32]⟩) an).run Tryz.prog W = .ok (.string (c0 ++ ⟨#[32]⟩ ++ an)) W := fun W => run_string_add_sum W _ _ (by first | omega | (simp only [ByteArray.size_append]; omega))
          have ade : ∀ W, (Op.stringOp .add (c0 ++ ⟨#[32]⟩ ++ an) ⟨#[61, 34]⟩).run Tryz.prog W = .ok (.string (c0 ++ ⟨#[32]⟩ ++ an ++ ⟨#[61, 34]⟩)) W := fun W => run_string_add_sum W _ _ (by first | omega | (simp only [ByteArray.size_append]; omega))
          have adf : ∀ W, (Op.stringOp .add (c0 ++ ⟨#[32]⟩ ++ an ++ ⟨#[61, 34]⟩) es).run Tryz.prog W = .ok (.string (c0 ++ ⟨#[32]⟩ ++ an ++ ⟨#[61, 34]⟩ ++ es)) W := fun W => run_string_add_sum W _ _ (by first | omega | (simp only [ByteArray.size_append]; omega))
          have adg : ∀ W, (Op.stringOp .add (c0 ++ ⟨#[32]⟩ ++ an ++ ⟨#[61, 34]⟩ ++ es) ⟨#[34]⟩).run Tryz.prog W = .ok (.string (c0 ++ ⟨#[32]⟩ ++ an ++ ⟨#[61, 34]⟩ ++ es ++ ⟨#[34]⟩)) W := fun W => run_string_add_sum W _ _ (by first | omega | (simp only [ByteArray.size_append]; omega))
          have HEQ2 := (show Hid (c0 ++ ⟨#[32]⟩ ++ an ++ ⟨#[61, 34]⟩ ++ es ++ ⟨#[34]⟩ = strL (A1 ++ (rs.take (m + 1)).flatMap attrL)) from (by
            rw [HTM.out, hc0, hes]
            refine str_of ?_
            simp [attrL, lstr, strL_list] : c0 ++ ⟨#[32]⟩ ++ an ++ ⟨#[61, 34]⟩ ++ es ++ ⟨#[34]⟩ = strL (A1 ++ (rs.take (m + 1)).flatMap attrL)))
          rw [← hc0]
          have hmi : (m : Int) < rs.length := by omega
          have f2 : ∀ n : Wd w5.heap.size w5, n.w.cell? ⟨N, 2, none⟩ = some (.slice (some ⟨xb, xo, none⟩) rs.length acap) := fun n => (n.below.cell (p := ⟨N, 2, none⟩) (blk_lt G5.out)).trans n2
          have fa : ∀ n : Wd w5.heap.size w5, n.w.cell? ⟨xb, xo + m * 2, none⟩ = some (.string an) := fun n => ((BW5.out.trans (n.below.mono BW5.out.size)).cell (p := ⟨xb, xo + m * 2, none⟩) hxl).trans x0
          have fb : ∀ n : Wd w5.heap.size w5, n.w.cell? ⟨xb, xo + m * 2 + 1, none⟩ = some (.string ax) := fun n => ((BW5.out.trans (n.below.mono BW5.out.size)).cell (p := ⟨xb, xo + m * 2 + 1, none⟩) hxl).trans x1
          have ne := Wd.any w5.heap.size w5
          clear hes hess hc0 hc0s y0 y1 y2 hat hax htl hel hlax x0 x1 n1'
          go_upto_region 15 with fail
          refine wp_region_below (B := w5.heap.size) (w0 := w5) (by kernel_rfl) (by kernel_rfl) BL2.out ?_
          repeat (go_big_quiet_step ((go_at_call 125; exact quiet_below (CE.out _) (Nat.le_refl _))))
          refine wpQuiet_nil ?_
          intro wq hq2
          have BQ := (show Hid (Below w5.heap.size w5 wq) from Wd.of hq2)
          clear hq2 f2 fa fb ne CE adc add' ade adf adg n2'
          go_wp2
          go_roundw
          case rel => exact ⟨m + 1, by omega, by go_num, by rw [HEQ2.out], BQ⟩
          case measure => simp [intOf]; omega
        · obtain rfl : m = rs.length := by omega
          have hoz := HOZ.out
          have hal := HA1L.out
          obtain ⟨c1, hc1⟩ : ∃ c1, c1 = strL (A1 ++ (rs.take rs.length).flatMap attrL) := ⟨_, rfl⟩
          have hc1s : c1.size ≤ 1000001000 := by rw [hc1, strL_size, List.length_append, List.take_length]; omega
          have y0 : (⟨#[62]⟩ : ByteArray).size = 1 := rfl
          have adh : ∀ W, (Op.stringOp .add (c1) ⟨#[62]⟩).run Tryz.prog W = .ok (.string (c1 ++ ⟨#[62]⟩)) W := fun W => run_string_add_sum W _ _ (by first | omega | (simp only [ByteArray.size_append]; omega))
          have hcop : c1 ++ ⟨#[62]⟩ = strL (A ++ openL ⟨3, nm, rs, tx, par, mks⟩) := by
            rw [hc1, HA1D.out]
            refine str_of ?_
            simp [openL, strL_list]
          rw [← hc1]
          have HCO := (show Hid (c1 ++ ⟨#[62]⟩ = strL (A ++ openL ⟨3, nm, rs, tx, par, mks⟩)) from hcop)
          have CV := (show Hid (∀ W, Calls Tryz.prog 126 #[.string nm] W fun e w' => e = .returned (.bool (hasB voids nm)) ∧ Below W.heap.size W w') from fun W => sisVoid_any nm W)
          have hss := HSUM.out
          obtain ⟨rv, hrv⟩ : ∃ rv, rv = hasB voids nm := ⟨_, rfl⟩
          rw [← hrv] at CV
          cases rv with
          | true =>
            have hnl : nodeL up ⟨3, nm, rs, tx, par, mks⟩ (printL ns f q) = openL ⟨3, nm, rs, tx, par, mks⟩ := by simp [nodeL, ← hrv]
            have HEQ := (show Hid (c1 ++ ⟨#[62]⟩ = strL ((ks.take (j + 1)).flatMap g)) from (by rw [HCO.out, HT1.out, hnl] : c1 ++ ⟨#[62]⟩ = strL ((ks.take (j + 1)).flatMap g)))
            clear hc1 hc1s y0 hcop hrv hnl hss hoz hal
            go_wp2_with fail
            go_at_call 126
            refine Calls.mono (CV.out _) ?_
            rintro e w6 ⟨rfl, b6⟩
            have B6 := (show Hid (Below w2.heap.size w2 w6) from (B5.out.trans (BL2.out.mono B5.out.size)).trans (b6.mono (Nat.le_trans B5.out.size BL2.out.size)))
            clear b6
            go_wp2
            go_roundw
            case rel => exact ⟨j + 1, by omega, by go_num, by rw [HEQ.out], B6.out⟩
            case measure => simp [intOf]; omega
          | false =>
            have hnl : nodeL up ⟨3, nm, rs, tx, par, mks⟩ (printL ns f q) = openL ⟨3, nm, rs, tx, par, mks⟩ ++ printL ns f q ++ closeL ⟨3, nm, rs, tx, par, mks⟩ := by simp [nodeL, ← hrv]
            rw [hnl, List.length_append, List.length_append] at hss
            have CI := (show Hid (∀ W, Below w.heap.size w W → Calls Tryz.prog 81 #[.agg #[.slice (some ⟨b, off, none⟩) ns.length cap], .int .i64 (q : Int)] W fun e w' => e = .returned (.string (strL (printL ns f q))) ∧ Below W.heap.size W w') from fun W hW => IH.out q hdx (by omega) W _ (HN.out.below hW))
            obtain ⟨c3, hc3⟩ : ∃ c3, c3 = strL (printL ns f q) := ⟨_, rfl⟩
            have hc3s : c3.size ≤ 1000000000 := by rw [hc3, strL_size]; omega
            rw [← hc3] at CI
            have y1 : (⟨#[60, 47]⟩ : ByteArray).size = 2 := rfl
            have adi : ∀ W, (Op.stringOp .add (c1 ++ ⟨#[62]⟩) c3).run Tryz.prog W = .ok (.string (c1 ++ ⟨#[62]⟩ ++ c3)) W := fun W => run_string_add_sum W _ _ (by first | omega | (simp only [ByteArray.size_append]; omega))
            have adj : ∀ W, (Op.stringOp .add (c1 ++ ⟨#[62]⟩ ++ c3) ⟨#[60, 47]⟩).run Tryz.prog W = .ok (.string (c1 ++ ⟨#[62]⟩ ++ c3 ++ ⟨#[60, 47]⟩)) W := fun W => run_string_add_sum W _ _ (by first | omega | (simp only [ByteArray.size_append]; omega))
            have adk : ∀ W, (Op.stringOp .add (c1 ++ ⟨#[62]⟩ ++ c3 ++ ⟨#[60, 47]⟩) nm).run Tryz.prog W = .ok (.string (c1 ++ ⟨#[62]⟩ ++ c3 ++ ⟨#[60, 47]⟩ ++ nm)) W := fun W => run_string_add_sum W _ _ (by first | omega | (simp only [ByteArray.size_append]; omega))
            have adl : ∀ W, (Op.stringOp .add (c1 ++ ⟨#[62]⟩ ++ c3 ++ ⟨#[60, 47]⟩ ++ nm) ⟨#[62]⟩).run Tryz.prog W = .ok (.string (c1 ++ ⟨#[62]⟩ ++ c3 ++ ⟨#[60, 47]⟩ ++ nm ++ ⟨#[62]⟩)) W := fun W => run_string_add_sum W _ _ (by first | omega | (simp only [ByteArray.size_append]; omega))
            have HEQ := (show Hid (c1 ++ ⟨#[62]⟩ ++ c3 ++ ⟨#[60, 47]⟩ ++ nm ++ ⟨#[62]⟩ = strL ((ks.take (j + 1)).flatMap g)) from (by
              rw [HCO.out, HT1.out, hnl, hc3]
              refine str_of ?_
              simp [closeL, strL_list] : c1 ++ ⟨#[62]⟩ ++ c3 ++ ⟨#[60, 47]⟩ ++ nm ++ ⟨#[62]⟩ = strL ((ks.take (j + 1)).flatMap g)))
            clear hc1 hc1s y0 y1 hcop hrv hnl hss hc3 hc3s hoz hal
            go_wp2_with fail
            go_at_call 126
            refine Calls.mono (CV.out _) ?_
            rintro e w6 ⟨rfl, b6⟩
            have B6 := (show Hid (Below w2.heap.size w2 w6) from (B5.out.trans (BL2.out.mono B5.out.size)).trans (b6.mono (Nat.le_trans B5.out.size BL2.out.size)))
            have BW6 := (show Hid (Below w.heap.size w w6) from B2.out.trans (B6.out.mono B2.out.size))
            have g6 := (b6.block _ (Nat.lt_of_lt_of_le (blk_lt G5.out) BL2.out.size)).trans ((BL2.out.block _ (blk_lt G5.out)).trans G5.out)
            have f0 : ∀ n : Wd w6.heap.size w6, n.w.cell? ⟨T0, 0, none⟩ = some (.slice (some ⟨b, off, none⟩) ns.length cap) := fun n => ((B6.out.trans (n.below.mono B6.out.size)).cell (p := ⟨T0, 0, none⟩) lT).trans CT.out
            have f1 : ∀ n : Wd w6.heap.size w6, n.w.cell? ⟨kb, ko + j, none⟩ = some (.int .i64 (q : Int)) := fun n => ((BW6.out.trans (n.below.mono BW6.out.size)).cell (p := ⟨kb, ko + j, none⟩) hkb).trans HD.out.1
            have f2 : ∀ n : Wd w6.heap.size w6, n.w.cell? ⟨N, 1, none⟩ = some (.string nm) := fun n => (n.below.cell (p := ⟨N, 1, none⟩) (blk_lt g6)).trans (six_at g6).1.2.1
            have CJ := (show Hid (∀ n : Wd w6.heap.size w6, Calls Tryz.prog 81 #[.agg #[.slice (some ⟨b, off, none⟩) ns.length cap], .int .i64 (q : Int)] n.w fun e w' => e = .returned (.string c3) ∧ Below n.w.heap.size n.w w') from fun n => CI.out n.w (BW6.out.trans (n.below.mono BW6.out.size)))
            have ne := Wd.any w6.heap.size w6
            clear b6 g6 CI
            go_upto_region 18 with fail
            refine wp_region_below (B := w6.heap.size) (w0 := w6) (by kernel_rfl) (by kernel_rfl) (Below.refl _ _) ?_
            repeat (go_big_quiet_step ((go_at_call 81; exact quiet_below (CJ.out _) (Nat.le_refl _))))
            refine wpQuiet_nil ?_
            intro wq hq2
            have BQ := (show Hid (Below w2.heap.size w2 wq) from B6.out.trans ((Wd.of hq2).mono B6.out.size))
            clear hq2 f0 f1 f2 ne CJ adi adj adk adl
            go_wp2
            go_roundw
            case rel => exact ⟨j + 1, by omega, by go_num, by rw [HEQ.out], BQ.out⟩
            case measure => simp [intOf]; omega

set_option maxHeartbeats 1000000 in
set_option maxRecDepth 100000 in
theorem sprintOf_any {w : World} {v : Value} {ns : List PNode} (hn : NodesAt w v ns) (hfit : ∀ n ∈ ns, NodeFit n) (hlen : ns.length ≤ 1048576) :
    Calls Tryz.prog 27 #[.agg #[v]] w fun e w' => ∃ s, e = .returned (.string s) ∧ (STreeOkP ns → s = strL (printL ns ns.length 0)) ∧ (¬ STreeOkP ns → s = ⟨#[]⟩) ∧ Below w.heap.size w w' := by
  have HN := (show Hid (NodesAt w v ns) from hn)
  have HFIT := (show Hid (∀ n ∈ ns, NodeFit n) from hfit)
  obtain ⟨a, cap, rfl, hc1, hc2, _⟩ := hn.slice
  clear hn hfit
  obtain ⟨w1, hw1⟩ : ∃ x, x = w.alloc (.cells #[.slice a ns.length cap] 26) := ⟨_, rfl⟩
  have b1 : Below w.heap.size w w1 := by rw [hw1]; exact (Below.refl _ _).alloc (Nat.le_refl _) _
  have g1 : w1.heap[w.heap.size]? = some (.cells #[.slice a ns.length cap] 26 (0, 0)) := by rw [hw1]; exact World.alloc_heap_new _ _
  obtain ⟨T, hT⟩ : ∃ x, x = w.heap.size := ⟨_, rfl⟩
  rw [← hT] at g1
  have cT1 := (six_one g1).1
  have G1 := (show Hid _ from g1)
  have B1 := (show Hid (Below w.heap.size w w1) from b1)
  clear g1 b1
  go_enter Tryz.func27, Tryz.ntmps27
  go_upto_region 1 with fail
  rw [← hw1, ← hT]
  clear hw1 hT
  go_wp2_with fail
  go_at_call 14
  refine Calls.mono (streeOk_any (HN.out.below B1.out) HFIT.out hlen) ?_
  rintro e w2 ⟨r, rfl, hr, b2⟩
  have B2 := (show Hid (Below w.heap.size w w2) from B1.out.trans (b2.mono B1.out.size))
  have g2 := (b2.block _ (blk_lt G1.out)).trans G1.out
  have cT2 := (six_one g2).1
  have HR := (show Hid (r = true ↔ STreeOkP ns) from hr)
  clear b2 g2 hr G1 B1 cT1
  cases r with
  | false =>
    go_wp2
    go_ret
    exact ⟨_, rfl, (fun h => by have := HR.out.mpr h; cases this), (fun _ => rfl), B2.out⟩
  | true =>
    have HOK := (show Hid (STreeOkP ns) from HR.out.mp rfl)
    have h1 := HOK.out.1.one
    have hsm := print_small HOK.out.1 (k := 0) (by omega)
    have CK := (show Hid _ from sprint_any hlen (small_all HOK.out.1) ns.length 0 (tree_deep HOK.out.1 (by omega)) (by omega) w2 _ (HN.out.below B2.out))
    clear HR hsm
    go_wp2_with fail
    go_at_call 81
    refine Calls.mono CK.out ?_
    rintro e w3 ⟨rfl, b3⟩
    have B3 := (show Hid (Below w.heap.size w w3) from B2.out.trans (b3.mono B2.out.size))
    clear b3 CK
    go_wp2
    go_ret
    exact ⟨_, rfl, (fun _ => rfl), (fun h => absurd HOK.out h), B3.out⟩
end Go.Proofs.YtogdbjafibejdaaGreat

/- The law FnTidy, walked (written by mk/wtidy.py). No condition. -/
namespace Go.Proofs.YtogdbjafibejdaaGreat
open Go.RowKit
set_option maxRecDepth 100000
set_option linter.unusedVariables false

set_option maxRecDepth 100000 in
theorem fnTidy_big {v : Value} {xs : List Int} (w : World) (h : Sl .u8 w v xs) (hl : 1048576 < xs.length) :
    Calls Tryz.prog 5 #[v] w fun e w' => e = .returned (.bool true) ∧ Below w.heap.size w w' := by
  have hbig := big_any h
  rw [decide_eq_true hl] at hbig
  clear h
  go_enter Tryz.func5, Tryz.ntmps5
  go_wp2_with fail
  go_at_call 10
  refine hbig.mono ?_
  rintro e w1 ⟨rfl, rfl⟩
  go_wp2
  go_ret
  exact ⟨rfl, Below.refl _ _⟩

set_option maxHeartbeats 4000000 in
set_option maxRecDepth 100000 in
theorem fnTidy_of {v : Value} {xs : List Int} (w : World) (h : Sl .u8 w v xs) (hl : ¬ 1048576 < xs.length)
    (hD : Calls Tryz.prog 24 #[v] w fun e w' => ∃ nv ns, e = .returned (.agg #[nv]) ∧ OwnN w.heap.size w' nv ns ∧ OutT ns ∧ Below w.heap.size w w') :
    Calls Tryz.prog 5 #[v] w fun e w' => e = .returned (.bool true) ∧ Below w.heap.size w w' := by
  have hbig := big_any h
  rw [decide_eq_false hl] at hbig
  have HD := (show Hid _ from hD)
  have HBG := (show Hid _ from hbig)
  clear h hl hbig hD
  go_enter Tryz.func5, Tryz.ntmps5
  go_wp2_with fail
  go_at_call 10
  refine Calls.mono HBG.out ?_
  rintro e w0 ⟨rfl, rfl⟩
  clear HBG
  go_wp2_with fail
  go_at_call 24
  refine Calls.mono HD.out ?_
  rintro e w1 ⟨nv, ns, rfl, own1, hout, b1⟩
  clear HD
  obtain ⟨na, ncap, rfl, hc1, hc2, j1⟩ := own1.nodes.slice
  clear j1
  have hlen := hout.len
  have HFT := (show Hid (∀ n ∈ ns, NodeFit n) from hout.fit)
  have HPR := (show Hid (TreeOkP ns → parOf ns 0 = -1) from hout.par)
  have NT1 := (show Hid (NodesAt w1 (.slice na ns.length ncap) ns) from own1.nodes)
  have B1 := (show Hid (Below w0.heap.size w0 w1) from b1)
  clear own1 hout b1
  obtain ⟨w2, hw2⟩ : ∃ x, x = w1.alloc (.cells #[.slice na ns.length ncap] 26) := ⟨_, rfl⟩
  have b2 : Below w1.heap.size w1 w2 := by rw [hw2]; exact (Below.refl _ _).alloc (Nat.le_refl _) _
  have gn2 : w2.heap[w1.heap.size]? = some (.cells #[.slice na ns.length ncap] 26 (0, 0)) := by rw [hw2]; exact World.alloc_heap_new _ _
  obtain ⟨T, hT⟩ : ∃ x, x = w1.heap.size := ⟨_, rfl⟩
  rw [← hT] at gn2
  have cT2 := (six_one gn2).1
  have GT2 := (show Hid (w2.heap[T]? = some (.cells #[.slice na ns.length ncap] 26 (0, 0))) from gn2)
  clear gn2
  have NT2 := (show Hid (NodesAt w2 (.slice na ns.length ncap) ns) from NT1.out.below b2)
  have B2 := (show Hid (Below w0.heap.size w0 w2) from B1.out.trans (b2.mono B1.out.size))
  clear NT1 b2 B1
  go_upto_region 4 with fail
  rw [← hw2, ← hT]
  clear hw2 hT
  by_cases hok : TreeOkP ns
  rotate_left
  · have HNO := (show Hid (¬ TreeOkP ns) from hok)
    clear hok
    go_wp2_with fail
    go_at_call 25
    refine Calls.mono (itidy_any NT2.out HFT.out (by omega)) ?_
    rintro e w3 ⟨v', rfl, _, hv, b3⟩
    obtain rfl := hv HNO.out
    clear hv
    have gT3 := (b3.block _ (blk_lt GT2.out)).trans GT2.out
    have cT3 := (six_one gT3).1
    have GT3 := (show Hid (w3.heap[T]? = some (.cells #[.slice na ns.length ncap] 26 (0, 0))) from gT3)
    have NT3 := (show Hid (NodesAt w3 (.slice na ns.length ncap) ns) from NT2.out.below b3)
    have B3 := (show Hid (Below w0.heap.size w0 w3) from B2.out.trans (b3.mono B2.out.size))
    clear gT3 GT2 cT2 NT2 b3 B2
    obtain ⟨w4, hw4⟩ : ∃ x, x = w3.alloc (.cells #[.slice none 0 0] 26) := ⟨_, rfl⟩
    have b4 : Below w3.heap.size w3 w4 := by rw [hw4]; exact (Below.refl _ _).alloc (Nat.le_refl _) _
    have gn4 : w4.heap[w3.heap.size]? = some (.cells #[.slice none 0 0] 26 (0, 0)) := by rw [hw4]; exact World.alloc_heap_new _ _
    obtain ⟨U, hU⟩ : ∃ x, x = w3.heap.size := ⟨_, rfl⟩
    rw [← hU] at gn4
    have cU4 := (six_one gn4).1
    have GU4 := (show Hid (w4.heap[U]? = some (.cells #[.slice none 0 0] 26 (0, 0))) from gn4)
    clear gn4
    have gT4 := (b4.block _ (blk_lt GT3.out)).trans GT3.out
    have cT4 := (six_one gT4).1
    have GT4 := (show Hid (w4.heap[T]? = some (.cells #[.slice na ns.length ncap] 26 (0, 0))) from gT4)
    have NT4 := (show Hid (NodesAt w4 (.slice na ns.length ncap) ns) from NT3.out.below b4)
    have B4 := (show Hid (Below w0.heap.size w0 w4) from B3.out.trans (b4.mono B3.out.size))
    clear gT4 GT3 cT3 NT3 b4 B3
    go_upto_region 5 with fail
    rw [← hw4, ← hU]
    clear hw4 hU
    go_wp2_with fail
    go_at_call 14
    refine Calls.mono (streeOk_any NT4.out HFT.out (by omega)) ?_
    rintro e w5 ⟨r, rfl, hr, b5⟩
    obtain rfl : r = false := by
      cases r with
      | false => rfl
      | true => exact absurd (hr.mp rfl).1 HNO.out
    clear hr
    have gT5 := (b5.block _ (blk_lt GT4.out)).trans GT4.out
    have cT5 := (six_one gT5).1
    have GT5 := (show Hid (w5.heap[T]? = some (.cells #[.slice na ns.length ncap] 26 (0, 0))) from gT5)
    have gU5 := (b5.block _ (blk_lt GU4.out)).trans GU4.out
    have cU5 := (six_one gU5).1
    have GU5 := (show Hid (w5.heap[U]? = some (.cells #[.slice none 0 0] 26 (0, 0))) from gU5)
    have NT5 := (show Hid (NodesAt w5 (.slice na ns.length ncap) ns) from NT4.out.below b5)
    have B5 := (show Hid (Below w0.heap.size w0 w5) from B4.out.trans (b5.mono B4.out.size))
    clear gT5 GT4 cT4 gU5 GU4 cU4 NT4 b5 B4
    go_wp2_with fail
    go_at_call 16
    refine Calls.mono (itreeSame_no NT5.out HFT.out (by omega) HNO.out) ?_
    rintro e w6 ⟨rfl, b6⟩
    have gT6 := (b6.block _ (blk_lt GT5.out)).trans GT5.out
    have cT6 := (six_one gT6).1
    have GT6 := (show Hid (w6.heap[T]? = some (.cells #[.slice na ns.length ncap] 26 (0, 0))) from gT6)
    have gU6 := (b6.block _ (blk_lt GU5.out)).trans GU5.out
    have cU6 := (six_one gU6).1
    have GU6 := (show Hid (w6.heap[U]? = some (.cells #[.slice none 0 0] 26 (0, 0))) from gU6)
    have NT6 := (show Hid (NodesAt w6 (.slice na ns.length ncap) ns) from NT5.out.below b6)
    have B6 := (show Hid (Below w0.heap.size w0 w6) from B5.out.trans (b6.mono B5.out.size))
    clear gT6 GT5 cT5 gU6 GU5 cU5 NT5 b6 B5
    go_wp2
    go_ret
    exact ⟨rfl, B6.out⟩
  have HOK := (show Hid (STreeOkP ns) from ⟨hok, HPR.out hok⟩)
  clear hok
  have hd5 := down_few HOK.out.1 (k := 0) (by have := HOK.out.1.one; omega)
  have HFU := (show Hid (∀ n ∈ tidyN ns, NodeFit n) from tidyL_fit HFT.out _ (by omega))
  have HTO := (show Hid (STreeOkP (tidyN ns)) from tid_ok HOK.out)
  have htf := tid_few HOK.out
  have htm := HTO.out.1.most
  have hto1 := HTO.out.1.one
  clear hd5
  go_wp2_with fail
  go_at_call 25
  refine Calls.mono (itidy_any NT2.out HFT.out (by omega)) ?_
  rintro e w3 ⟨v', rfl, hv, _, b3⟩
  have hown := hv HOK.out.1
  clear hv
  obtain ⟨u, hu⟩ : ∃ u, u = tidyN ns := ⟨_, rfl⟩
  rw [← hu] at hown htf htm hto1
  have HU := (show Hid (u = tidyN ns) from hu)
  rw [← hu] at HFU HTO
  clear hu
  obtain ⟨ua, ucap, rfl, hu1, hu2, hus⟩ := hown.nodes.slice
  obtain ⟨ub, uo, _, _, rfl, _⟩ := hus 0 (by omega)
  have NU0 := (show Hid (NodesAt w3 (.slice (some ⟨ub, uo, none⟩) u.length ucap) u) from hown.nodes)
  clear hown hus
  have gT3 := (b3.block _ (blk_lt GT2.out)).trans GT2.out
  have cT3 := (six_one gT3).1
  have GT3 := (show Hid (w3.heap[T]? = some (.cells #[.slice na ns.length ncap] 26 (0, 0))) from gT3)
  have NT3 := (show Hid (NodesAt w3 (.slice na ns.length ncap) ns) from NT2.out.below b3)
  have B3 := (show Hid (Below w0.heap.size w0 w3) from B2.out.trans (b3.mono B2.out.size))
  clear gT3 GT2 cT2 NT2 b3 B2
  have NU3 := NU0
  clear NU0
  obtain ⟨w4, hw4⟩ : ∃ x, x = w3.alloc (.cells #[.slice (some ⟨ub, uo, none⟩) u.length ucap] 26) := ⟨_, rfl⟩
  have b4 : Below w3.heap.size w3 w4 := by rw [hw4]; exact (Below.refl _ _).alloc (Nat.le_refl _) _
  have gn4 : w4.heap[w3.heap.size]? = some (.cells #[.slice (some ⟨ub, uo, none⟩) u.length ucap] 26 (0, 0)) := by rw [hw4]; exact World.alloc_heap_new _ _
  obtain ⟨U, hU⟩ : ∃ x, x = w3.heap.size := ⟨_, rfl⟩
  rw [← hU] at gn4
  have cU4 := (six_one gn4).1
  have GU4 := (show Hid (w4.heap[U]? = some (.cells #[.slice (some ⟨ub, uo, none⟩) u.length ucap] 26 (0, 0))) from gn4)
  clear gn4
  have gT4 := (b4.block _ (blk_lt GT3.out)).trans GT3.out
  have cT4 := (six_one gT4).1
  have GT4 := (show Hid (w4.heap[T]? = some (.cells #[.slice na ns.length ncap] 26 (0, 0))) from gT4)
  have NT4 := (show Hid (NodesAt w4 (.slice na ns.length ncap) ns) from NT3.out.below b4)
  have NU4 := (show Hid (NodesAt w4 (.slice (some ⟨ub, uo, none⟩) u.length ucap) u) from NU3.out.below b4)
  have B4 := (show Hid (Below w0.heap.size w0 w4) from B3.out.trans (b4.mono B3.out.size))
  clear gT4 GT3 cT3 NT3 NU3 b4 B3
  go_upto_region 5 with fail
  rw [← hw4, ← hU]
  clear hw4 hU
  go_wp2_with fail
  go_at_call 14
  refine Calls.mono (streeOk_any NT4.out HFT.out (by omega)) ?_
  rintro e w5 ⟨r, rfl, hr, b5⟩
  obtain rfl : r = true := hr.mpr HOK.out
  clear hr
  have gT5 := (b5.block _ (blk_lt GT4.out)).trans GT4.out
  have cT5 := (six_one gT5).1
  have GT5 := (show Hid (w5.heap[T]? = some (.cells #[.slice na ns.length ncap] 26 (0, 0))) from gT5)
  have gU5 := (b5.block _ (blk_lt GU4.out)).trans GU4.out
  have cU5 := (six_one gU5).1
  have GU5 := (show Hid (w5.heap[U]? = some (.cells #[.slice (some ⟨ub, uo, none⟩) u.length ucap] 26 (0, 0))) from gU5)
  have NT5 := (show Hid (NodesAt w5 (.slice na ns.length ncap) ns) from NT4.out.below b5)
  have NU5 := (show Hid (NodesAt w5 (.slice (some ⟨ub, uo, none⟩) u.length ucap) u) from NU4.out.below b5)
  have B5 := (show Hid (Below w0.heap.size w0 w5) from B4.out.trans (b5.mono B4.out.size))
  clear gT5 GT4 cT4 gU5 GU4 cU4 NT4 NU4 b5 B4
  have BD := (show Hid (Below w5.heap.size w5 w5.drew) from below_drewN 1)
  have CO := (show Hid (∀ W, Below w5.heap.size w5 W → Calls Tryz.prog 15 #[.agg #[.slice (some ⟨ub, uo, none⟩) u.length ucap]] W fun e w' => e = .returned (.bool true) ∧ Below W.heap.size W w') from fun W b => (itreeOk_any (NU5.out.below b) HFU.out (by omega)).mono (by rintro e w' ⟨r, rfl, hr, b⟩; exact ⟨by rw [hr.mpr HTO.out.1], b⟩))
  have CS := (show Hid (∀ W, Below w5.heap.size w5 W → Calls Tryz.prog 16 #[.agg #[.slice na ns.length ncap], .agg #[.slice (some ⟨ub, uo, none⟩) u.length ucap]] W fun e w' => e = .returned (.bool true) ∧ Below W.heap.size W w') from fun W b => (itreeSame_of (fun h1 h2 h3 => itidy_any h1 h2 h3) (NT5.out.below b) (NU5.out.below b) HFT.out HFU.out (by omega) (by omega) HOK.out.1 HTO.out.1).mono (by
    rintro e w' ⟨r, rfl, hr, b⟩
    exact ⟨by rw [hr.mpr (by rw [HU.out]; exact (tid_again HOK.out).symm)], b⟩))
  have CY := (show Hid (∀ W, Below w5.heap.size w5 W → Calls Tryz.prog 25 #[.agg #[.slice (some ⟨ub, uo, none⟩) u.length ucap]] W fun e w' => ∃ (ya : Option Addr) (yc : Nat), e = .returned (.agg #[.slice ya u.length yc]) ∧ Below W.heap.size W w') from fun W b => (itidy_any (NU5.out.below b) HFU.out (by omega)).mono (by
    rintro e w' ⟨v', rfl, hv, _, b⟩
    obtain ⟨ya, yc, rfl, _⟩ := (hv HTO.out.1).nodes.slice
    refine ⟨ya, yc, ?_, b⟩
    have : (tidyN u).length = u.length := by rw [HU.out, tid_again HOK.out]
    rw [this]))
  have KC := (show Hid (∀ W, Below w5.heap.size w5 W → W.cell? ⟨T, 0, none⟩ = some (.slice na ns.length ncap) ∧ W.cell? ⟨U, 0, none⟩ = some (.slice (some ⟨ub, uo, none⟩) u.length ucap)) from fun W h => ⟨(h.cell (p := ⟨T, 0, none⟩) (blk_lt GT5.out)).trans cT5, (h.cell (p := ⟨U, 0, none⟩) (blk_lt GU5.out)).trans cU5⟩)
  have hfld : ∀ (x : Option Addr) (y z : Nat) (W : World), (Instr.field 26 (.agg #[.slice x y z]) 0).run Tryz.prog W = .ok (.slice x y z) W := fun _ _ _ _ => by kernel_rfl
  have hgt : ¬ (ns.length : Int) < (u.length : Int) := by omega
  have hgn : ¬ ns.length < u.length := by omega
  go_upto_region 7 with fail
  go_region_held3 (fun w' => w'.cell? ⟨T, 0, none⟩ = some (.slice na ns.length ncap) ∧ w'.cell? ⟨U, 0, none⟩ = some (.slice (some ⟨ub, uo, none⟩) u.length ucap))
    (with_reducible first | exact KC.out _ X3.out | exact KC.out _ X2.out | exact KC.out _ X1.out | exact KC.out _ BD.out)
    (first
      | (go_at_call 15
         with_reducible refine Calls.mono (CO.out w5.drew BD.out) ?_
         rintro e x1 ⟨rfl, b1⟩
         have X1 := (show Hid (Below w5.heap.size w5 x1) from BD.out.trans (b1.mono BD.out.size))
         clear b1)
      | (go_at_call 16
         with_reducible refine Calls.mono (CS.out x1 X1.out) ?_
         rintro e x2 ⟨rfl, b1⟩
         have X2 := (show Hid (Below w5.heap.size w5 x2) from X1.out.trans (b1.mono X1.out.size))
         clear b1)
      | (go_at_call 25
         with_reducible refine Calls.mono (CY.out x2 X2.out) ?_
         rintro e x3 ⟨ya, yc, rfl, b1⟩
         have X3 := (show Hid (Below w5.heap.size w5 x3) from X2.out.trans (b1.mono X2.out.size))
         clear b1)
      | fail)
  have HPAR := (show Hid (∀ m (hm : m < u.length), 1 ≤ m → ub < w5.heap.size ∧ ∃ par : Int, w5.cell? ⟨ub, uo + m * 6 + 4, none⟩ = some (.int .i64 par) ∧ ¬ par < 0 ∧ ¬ (m : Int) ≤ par) from fun m hm h1 => by
    obtain ⟨_, _, e, _, _, hcs⟩ := NU5.out.slice
    cases e
    obtain ⟨_, _, _, _, e2, hl, _, _, _, _, c4, _⟩ := hcs m hm
    cases e2
    have ht : 0 ≤ parOf u m ∧ parOf u m < m := by
      have := tid_order HOK.out (i := m) (by rw [← HU.out]; exact hm) h1
      rwa [← HU.out] at this
    rw [parOf_at hm] at ht
    exact ⟨hl, _, c4, by omega, by omega⟩)
  obtain ⟨tt, htt⟩ : ∃ tt, tt = strL (textL ns ns.length 0) := ⟨_, rfl⟩
  obtain ⟨pp, hpp⟩ : ∃ pp, pp = strL (printL ns ns.length 0) := ⟨_, rfl⟩
  have htu : strL (textL u u.length 0) = tt := by rw [htt, HU.out, tid_text0 HOK.out]
  have hpu : strL (printL u u.length 0) = pp := by rw [hpp, HU.out, tid_print0 HOK.out]
  have ho1 := HOK.out.1.one
  have CA := (show Hid (∀ n : Wd w5.heap.size w5, Calls Tryz.prog 22 #[.agg #[.slice (some ⟨ub, uo, none⟩) u.length ucap], .int .i64 0] n.w fun e w' => e = .returned (.string tt) ∧ Below n.w.heap.size n.w w') from fun n => (itextOf_any (NU5.out.below n.below) HFU.out (by omega) 0).mono (by
    rintro e w' ⟨x, rfl, hx, b⟩
    refine ⟨?_, b⟩
    rw [hx.1 ⟨HTO.out.1, by omega, by omega⟩, ← htu]
    rfl))
  have CB := (show Hid (∀ n : Wd w5.heap.size w5, Calls Tryz.prog 21 #[.agg #[.slice na ns.length ncap], .int .i64 0] n.w fun e w' => e = .returned (.string tt) ∧ Below n.w.heap.size n.w w') from fun n => (stextOf_any (NT5.out.below n.below) HFT.out (by omega) 0).mono (by
    rintro e w' ⟨x, rfl, hx, b⟩
    refine ⟨?_, b⟩
    rw [hx.1 ⟨HOK.out, by omega, by omega⟩, htt]
    rfl))
  have CP := (show Hid (∀ n : Wd w5.heap.size w5, Calls Tryz.prog 26 #[.agg #[.slice (some ⟨ub, uo, none⟩) u.length ucap]] n.w fun e w' => e = .returned (.string pp) ∧ Below n.w.heap.size n.w w') from fun n => (iprint_any (NU5.out.below n.below) HFU.out (by omega)).mono (by
    rintro e w' ⟨x, rfl, hx, _, b⟩
    exact ⟨by rw [hx HTO.out.1, hpu], b⟩))
  have CQ := (show Hid (∀ n : Wd w5.heap.size w5, Calls Tryz.prog 27 #[.agg #[.slice na ns.length ncap]] n.w fun e w' => e = .returned (.string pp) ∧ Below n.w.heap.size n.w w') from fun n => (sprintOf_any (NT5.out.below n.below) HFT.out (by omega)).mono (by
    rintro e w' ⟨x, rfl, hx, _, b⟩
    exact ⟨by rw [hx HOK.out, hpp], b⟩))
  clear htt hpp htu hpu CO CS CY hfld hgt hgn
  go_wp2
  go_loopw [5] (fun i wr => ∃ m : Nat, 1 ≤ m ∧ m ≤ u.length ∧ i = .int .i64 m ∧ Hid (Below w5.heap.size w5 wr)) (fun i _ => u.length - (intOf i).toNat)
  case atStart => exact ⟨1, Nat.le_refl _, hto1, rfl, X3.out⟩
  case round =>
    obtain ⟨m, hm1, hm2, rfl, BM⟩ := hrel
    have cUm := (KC.out wr BM.out).2
    by_cases hmt : m < u.length
    · obtain ⟨hub, par, cp, hp1, hp2⟩ := HPAR.out m hmt hm1
      have cpr := (BM.out.cell (p := ⟨ub, uo + m * 6 + 4, none⟩) hub).trans cp
      have hmi : (m : Int) < u.length := by omega
      have hms : m ≤ 500 := by omega
      clear cp
      go_wp2
      go_roundw
      case rel => exact ⟨m + 1, by omega, by omega, by go_num, BM⟩
      case measure => simp [intOf]; omega
    · obtain rfl : m = u.length := by omega
      have f0 : ∀ n : Wd w5.heap.size w5, n.w.cell? ⟨T, 0, none⟩ = some (.slice na ns.length ncap) := fun n => (KC.out n.w n.below).1
      have f1 : ∀ n : Wd w5.heap.size w5, n.w.cell? ⟨U, 0, none⟩ = some (.slice (some ⟨ub, uo, none⟩) u.length ucap) := fun n => (KC.out n.w n.below).2
      have ne := Wd.any w5.heap.size w5
      go_upto_region 14 with fail
      refine wp_region_below (B := w5.heap.size) (w0 := w5) (by kernel_rfl) (by kernel_rfl) BM.out ?_
      repeat (go_big_quiet_step (first
        | (go_at_call 22; exact quiet_below (CA.out _) (Nat.le_refl _))
        | (go_at_call 21; exact quiet_below (CB.out _) (Nat.le_refl _))
        | (go_at_call 26; exact quiet_below (CP.out _) (Nat.le_refl _))
        | (go_at_call 27; exact quiet_below (CQ.out _) (Nat.le_refl _))))
      refine wpQuiet_nil ?_
      intro wz hq
      have BZ := (show Hid (Below w0.heap.size w0 wz) from B5.out.trans ((Wd.of hq).mono B5.out.size))
      clear hq f0 f1 ne CA CB CP CQ
      go_wp2
      go_ret
      exact ⟨by simp, BZ.out⟩

theorem fnTidy_walk {v : Value} {xs : List Int} (w : World) (h : Sl .u8 w v xs) (hwf : ∀ n ∈ xs, (Lit.int .u8 n).wf = true) :
    Calls Tryz.prog 5 #[v] w fun e w' => e = .returned (.bool true) ∧ Below w.heap.size w w' := by
  by_cases hl : 1048576 < xs.length
  · exact fnTidy_big w h hl
  · exact fnTidy_of w h hl (drawTreeTidy_any h (byte_ok hwf) (by omega))
end Go.Proofs.YtogdbjafibejdaaGreat
