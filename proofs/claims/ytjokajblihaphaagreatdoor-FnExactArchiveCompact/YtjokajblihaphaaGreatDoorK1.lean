/- The program's IndexFind: the first that fits. -/
import Derived.Test.YtjokajblihaphaaGreatDoorU25
import Derived.Test.YtjokajblihaphaaGreatDoorU22
import Derived.Laws.ResultCell
import Derived.Test.YtjokajblihaphaaGreatDoorU43
import Derived.Test.YtjokajblihaphaaGreatDoorU51
import Derived.Test.YtjokajblihaphaaGreatDoorU40
import Derived.Test.YtjokajblihaphaaGreatDoorU26
import Derived.Test.YtjokajblihaphaaGreatDoorU41
import Derived.Test.YtjokajblihaphaaGreatDoorU32
import Derived.Test.YtjokajblihaphaaGreatDoorU37
import Derived.Deep.RegionHeld3
import Derived.Deep.CutRange
namespace Go.Proofs.YtjokajblihaphaaGreatDoor
open Go.RowKit
set_option maxRecDepth 100000
set_option linter.unusedVariables false
end Go.Proofs.YtjokajblihaphaaGreatDoor

/- The program's IndexPack. No condition. -/
namespace Go.Proofs.YtjokajblihaphaaGreatDoor
open Go.RowKit
set_option maxRecDepth 100000
set_option linter.unusedVariables false

set_option maxHeartbeats 400000 in
set_option maxRecDepth 100000 in
theorem iindexPack_any {v : Value} {ps : List (ByteArray × ByteArray)} {w : World} (h : Sv 2 w v (pairCells ps)) (hn : ps.length ≤ 1048576) (hs : ∀ p ∈ ps, p.1.size ≤ 1048576 ∧ p.2.size ≤ 1048576) :
    Calls Tryz.prog 56 #[v] w fun e w' => ∃ v', e = .returned (.tuple #[v', .bool (packX ps).2]) ∧ Own w.heap.size 5 .u8 w' v' (packX ps).1 ∧ Below w.heap.size w w' := by
  obtain ⟨a, ca, rfl, _, _, hca⟩ := h.pair
  have HC := (show Hid _ from hca)
  have HZ := (show Hid _ from hs)
  obtain ⟨i0, hi, hz0, hz1, hz2⟩ := info_parts Tryz.infoB
  clear h hca hs
  go_enter Tryz.func56, Tryz.ntmps56
  go_wp2_with fail
  have b1 : Below w.heap.size w (w.alloc (.cells #[] 5)) := (Below.refl _ _).alloc (Nat.le_refl _) _
  have o1 := own_empty 5 .u8 w
  go_loopw [4, 12] (fun z s wr => ∃ (k : Nat) (pre : List Int), k ≤ ps.length ∧ s = .int .i64 (k : Int) ∧ Own w.heap.size 5 .u8 wr z pre ∧ Hid ((packE (ps.drop k)).map (pre ++ ·) = packE ps) ∧ pre.length ≤ k * 1048663 ∧ Below w.heap.size w wr) (fun _ s _ => ps.length - (intOf s).toNat)
  case atStart => exact ⟨0, [], Nat.zero_le _, rfl, o1, (show _ = _ by cases h : packE ps <;> simp [h]), by simp, b1⟩
  case round =>
    clear b1 o1
    obtain ⟨k, pre, hk, rfl, o2, hF, hp, b2⟩ := hrel
    have O2 := (show Hid (Own w.heap.size 5 .u8 wr u4 pre) from o2)
    have B2 := (show Hid (Below w.heap.size w wr) from b2)
    clear o2 b2
    by_cases hlt : k < ps.length
    · have hlt' : (k : Int) < (ps.length : Int) := by omega
      obtain ⟨b1, o1, rfl, l1, c1, c2⟩ := HC.out k hlt
      have z1 := HZ.out _ (List.getElem_mem hlt)
      have HD := (show Hid _ from packE_drop hlt)
      obtain ⟨x, hx⟩ : ∃ x, x = ps[k] := ⟨_, rfl⟩
      rw [← hx] at c1 c2 z1 HD
      clear hx
      obtain ⟨xu, xb⟩ := x
      simp only at c1 c2 z1
      have HL := (show Hid (recB (recE (xu, xb)) = true → (recL (recE (xu, xb))).length ≤ 87 + xb.size) from fun e => recL_len e)
      have HP := (show Hid (packR ⟨1, xu, xb⟩ = if recB (recE (xu, xb)) = true then (recL (recE (xu, xb)), true) else ([], false)) from rfl)
      obtain ⟨L, hL⟩ : ∃ L, L = recL (recE (xu, xb)) := ⟨_, rfl⟩
      obtain ⟨ok, hok⟩ : ∃ ok, ok = recB (recE (xu, xb)) := ⟨_, rfl⟩
      rw [← hL, ← hok] at HD HL HP
      obtain ⟨w2, hw2⟩ : ∃ y, y = wr.alloc (.cells #[.string xu, .string xb] 77) := ⟨_, rfl⟩
      have b22 : Below wr.heap.size wr w2 := by rw [hw2]; exact (Below.refl _ _).alloc (Nat.le_refl _) _
      have CP := (show Hid (Calls Tryz.prog 83 #[.agg #[.int .i64 1, .string xu, .string xb]] w2 fun e w' => ∃ v, e = .returned (.tuple #[v, .bool (packR ⟨1, xu, xb⟩).2]) ∧ Own w2.heap.size 5 .u8 w' v (packR ⟨1, xu, xb⟩).1 ∧ Below w2.heap.size w2 w') from irecPack_any ⟨1, xu, xb⟩ w2 (by show xu.size ≤ _; omega) (by show xb.size ≤ _; omega))
      have BB := (show Hid (Below w.heap.size w w2 ∧ Own w.heap.size 5 .u8 w2 u4 pre) from ⟨B2.out.trans (b22.mono B2.out.size), O2.out.below b22⟩)
      have cc1 := (B2.out.cell (p := ⟨b1, o1 + k * 2, none⟩) l1).trans c1
      have cc2 := (B2.out.cell (p := ⟨b1, o1 + k * 2 + 1, none⟩) l1).trans c2
      clear hL hok c1 c2 b22
      cases ok
      · rw [if_neg (by decide)] at HD HP
        rw [HP.out] at CP
        have HR : Hid (packX ps = ([], false)) := (show packX ps = ([], false) by
          have := hF.out
          rw [HD.out] at this
          rw [packX, ← this]; rfl)
        clear HD HP HL hF
        go_wp2_with fail
        go_at_call 83
        rw [← hw2]
        clear hw2
        refine Calls.mono CP.out ?_
        rintro e w3 ⟨v3, rfl, o3, b3⟩
        have B3 := (show Hid (Below w.heap.size w w3) from BB.out.1.trans (b3.mono BB.out.1.size))
        clear b3 o3
        go_wp2
        go_ret2
        exact ⟨_, by rw [HR.out]; rfl, by rw [HR.out]; exact ⟨rfl, .inl ⟨rfl, rfl⟩⟩, B3.out⟩
      · rw [if_pos rfl] at HD HP
        rw [HP.out] at CP
        have hL := HL.out rfl
        have HH : Hid ((packE (ps.drop (k + 1))).map ((pre ++ L) ++ ·) = packE ps) := (show _ = _ by
          rw [← hF.out, HD.out]
          cases packE (ps.drop (k + 1)) <;> simp)
        have hk2 : k * 1048663 ≤ 1048576 * 1048663 := Nat.mul_le_mul_right _ (by omega)
        clear HD HP HL hF
        go_wp2_with fail
        go_at_call 83
        rw [← hw2]
        clear hw2
        refine Calls.mono CP.out ?_
        rintro e w3 ⟨v3, rfl, o3, b3⟩
        have B3 := (show Hid (Below w.heap.size w w3) from BB.out.1.trans (b3.mono BB.out.1.size))
        have O23 := (show Hid (Own w.heap.size 5 .u8 w3 u4 pre) from BB.out.2.below b3)
        have O3 := (show Hid (Own w2.heap.size 5 .u8 w3 v3 L) from o3)
        clear b3 o3
        go_wp2_with (at_builtin
                     refine wpList_app _ rfl (.tmp 27) (.tmp 28) 68 rfl w.heap.size 5 i0 (.int .u8 0) 1 Tryz.underlying68 hi hz0 hz1 hz2 rfl .u8 u4 v3 pre L rfl rfl O23.out O3.out.sl (by omega) (by unfold maxLen; omega) B3.out.size ?_
                     intro v5 w5 o5 g5
                     have B5 := (show Hid (Below w.heap.size w w5) from B3.out.grown g5 B3.out.size (fun r e => (World.ownsRow.lt O23.out r e).1))
                     have O5 := (show Hid (Own w.heap.size 5 .u8 w5 v5 (pre ++ L)) from o5)
                     clear o5 g5)
        go_roundw
        case rel => exact ⟨k + 1, pre ++ L, hlt, by go_num, O5.out, HH, by rw [List.length_append]; omega, B5.out⟩
        case measure => simp [intOf]; omega
    · obtain rfl : k = ps.length := by omega
      have hn' : ¬ ((ps.length : Int) < (ps.length : Int)) := by omega
      have HR : Hid (packX ps = (pre, true)) := (show packX ps = (pre, true) by
        have := hF.out
        rw [List.drop_length] at this
        rw [packX, ← this]; simp [packE])
      clear hF
      go_wp2
      go_ret2
      exact ⟨_, by rw [HR.out]; rfl, by rw [HR.out]; exact O2.out, B2.out⟩
end Go.Proofs.YtjokajblihaphaaGreatDoor

/- The shelf's compact, add, drop (written by mk/istep5.py). No condition. -/
namespace Go.Proofs.YtjokajblihaphaaGreatDoor
open Go.RowKit
set_option maxRecDepth 100000
set_option linter.unusedVariables false

def compactS (a : PArch) : PArch × Int := if a.up = false then (a, 2) else if (packX a.list).2 = false then (a, 5) else writeA a (1 - a.head.area) 0 (packX a.list).1
set_option maxHeartbeats 4000000 in
set_option maxRecDepth 100000 in
theorem ishCompact_any {B : Nat} {w : World} {N : Nat} {a : PArch} {m : Int} (h : Shelf B w N a m) (hA : archB a = true) (hs : Sent w) (hw : B ≤ w.heap.size) :
    Calls Tryz.prog 30 #[.pointer (some ⟨N, 0, none⟩)] w fun e w' => e = .returned (.int .i64 (compactS a).2) ∧ Shelf B w' N (compactS a).1 m ∧ w.grownBy w' (some N) := by
  obtain ⟨up, d, ⟨no, ar, en⟩, ls⟩ := a
  cases up
  · have H := (show Hid _ from h)
    obtain ⟨sa, sn, sc, la, ln, lc, q, r, ea, en', ec, st, hB, hN, hd, he⟩ := h
    simp only at hN hd he
    have S0 := (show Hid (Sf w N _ [] w) from Sf.refl hN)
    obtain ⟨c0, c1, c2, c3, c4, c5, c6, c7, c8, c9⟩ := rk_ten S0.out.sh
    clear hN hd he hB hA
    go_enter Tryz.func30, Tryz.ntmps30
    go_wp2
    go_ret
    exact ⟨rfl, H.out, World.grownBy.refl _ _⟩
  have H := (show Hid (Shelf B w N ⟨true, d, ⟨no, ar, en⟩, ls⟩ m) from h)
  obtain ⟨sa, sn, sc, la, ln, lc, q, r, ea, en', ec, st, hB, hN, hd, he⟩ := h
  simp only at hN hd he
  have HN := (show Hid (w.heap[N]? = some (.cells #[.slice sa sn sc, .slice la ln lc, .int .i32 m, .int .u32 q, .int .i64 r, .bool true, .int .i64 no, .int .i64 ar, .int .i64 en, .slice ea en' ec, st] 93 (0, 0))) from hN)
  have HD := (show Hid (OwnDy B w (.agg #[.slice sa sn sc, .slice la ln lc]) d) from hd)
  have HE := (show Hid (OwnEy B w (.slice ea en' ec) ls) from he)
  have HT := (show Hid (Sent w) from hs)
  have HBN := (show Hid (B ≤ N) from hB)
  obtain ⟨hl1, hl2⟩ := arch_list hA rfl
  obtain ⟨hh, hnow, _, _⟩ := archB_up hA rfl
  have hi := headB_in hh
  have hdk := (archB_disk hA).1
  simp only at hl1 hl2 hi hdk
  have HLB := (show Hid (∀ p ∈ ls, p.1.size ≤ 60 ∧ p.2.size ≤ 4096) from hl2)
  have HDK := (show Hid (diskB d = true) from hdk)
  have HWL := (show Hid ((packX ls).2 = true → stepsOk d (1 - ar) 0 (packX ls).1 ⟨no + 1, 1 - ar, 0 + (packX ls).1.length⟩ = true → wellA (step4 d (1 - ar) 0 (packX ls).1 ⟨no + 1, 1 - ar, 0 + (packX ls).1.length⟩) = true) from fun h1 h2 => well_compact (a := ⟨true, d, ⟨no, ar, en⟩, ls⟩) hA rfl h1 h2)
  have HQ := (show Hid (compactS ⟨true, d, ⟨no, ar, en⟩, ls⟩ = if (packX ls).2 = false then (⟨true, d, ⟨no, ar, en⟩, ls⟩, 5) else writeA ⟨true, d, ⟨no, ar, en⟩, ls⟩ (1 - ar) 0 (packX ls).1) from (show _ = _ by rw [compactS]; simp only; rw [if_neg (by decide)]))
  obtain ⟨⟨qa, qc⟩, hq⟩ : ∃ z, z = compactS ⟨true, d, ⟨no, ar, en⟩, ls⟩ := ⟨_, rfl⟩
  rw [← hq] at HQ
  rw [← hq]
  simp only
  have CP := (show Hid _ from iindexPack_any (OwnY.sv he) (by omega) (fun p hp => by have := hl2 p hp; omega))
  have hbx : (packX ls).2 = true → ∀ z ∈ (packX ls).1, 0 ≤ z ∧ z ≤ 255 := fun h => packX_byte h (fun p hp => by have := (hl2 p hp).2; omega)
  have hbl := packX_lenS (fun p hp => (hl2 p hp).2) hl1
  have HBX := (show Hid _ from hbx)
  have S0 := (show Hid (Sf w N #[.slice sa sn sc, .slice la ln lc, .int .i32 m, .int .u32 q, .int .i64 r, .bool true, .int .i64 no, .int .i64 ar, .int .i64 en, .slice ea en' ec, st] [] w) from Sf.refl hN)
  obtain ⟨c0, c1, c2, c3, c4, c5, c6, c7, c8, c9⟩ := rk_ten S0.out.sh
  obtain ⟨⟨bs', qb⟩, hp⟩ : ∃ z, z = packX ls := ⟨_, rfl⟩
  rw [← hp] at CP HBX hbl HWL HQ
  simp only at CP HBX hbl HWL HQ
  clear hN hd he hB hs hA hl1 hl2 hh hnow hdk hq hp hbx
  go_enter Tryz.func30, Tryz.ntmps30
  go_wp2_with fail
  go_at_call 56
  refine Calls.mono CP.out ?_
  rintro e w2 ⟨v2, rfl, o2, b2⟩
  have s2 := S0.out.below b2
  have S2 := (show Hid (Sf w N #[.slice sa sn sc, .slice la ln lc, .int .i32 m, .int .u32 q, .int .i64 r, .bool true, .int .i64 no, .int .i64 ar, .int .i64 en, .slice ea en' ec, st] [] w2) from s2)
  have T2 := (show Hid (Sent w2) from HT.out.below b2)
  have O2 := (show Hid (Own w.heap.size 5 .u8 w2 v2 bs') from o2)
  obtain ⟨ua, uc, eu, _⟩ := o2.sl
  subst eu
  clear b2 o2 CP s2
  clear c0 c1 c2 c3 c4 c5 c6 c7 c8 c9
  cases qb
  · have e1 := HQ.out
    rw [if_pos rfl] at e1
    cases e1
    go_wp2
    go_ret
    exact ⟨rfl, ⟨sa, sn, sc, la, ln, lc, q, r, ea, en', ec, st, HBN.out, S2.out.sh, S2.out.disk HN.out HD.out, S2.out.ents HN.out HE.out⟩, S2.out.gr⟩
  · have e1 := HQ.out
    rw [if_neg (by decide)] at e1
    have CW := ishWrite_any (x := 1 - ar) (y := 0) S2.out.sh (S2.out.disk HN.out HD.out) HDK.out (S2.out.ents HN.out HE.out) T2.out HBN.out (Nat.le_trans hw S2.out.gr.size) ⟨by omega, by omega⟩ ⟨by omega, by omega⟩ ⟨by omega, by omega⟩ O2.out (HBX.out rfl) hbl (HWL.out rfl)
    rw [← e1] at CW
    have CW := (show Hid _ from CW)
    obtain ⟨c0, c1, c2, c3, c4, c5, c6, c7, c8, c9⟩ := rk_ten S2.out.sh
    clear e1 HQ HWL HBX
    go_wp2_with fail
    go_at_call 57
    refine Calls.mono CW.out ?_
    rintro e w3 ⟨rfl, sh3, g3⟩
    have R := (show Hid _ from And.intro sh3 (grown_trans S2.out.gr g3))
    clear c0 c1 c2 c3 c4 c5 c6 c7 c8 c9
    clear sh3 g3 CW
    go_wp2
    go_ret
    exact ⟨rfl, R.out.1, R.out.2⟩
end Go.Proofs.YtjokajblihaphaaGreatDoor

/- The shelf's add and drop (written by mk/istep6.py). No condition. -/
namespace Go.Proofs.YtjokajblihaphaaGreatDoor
open Go.RowKit
set_option maxRecDepth 100000
set_option linter.unusedVariables false
end Go.Proofs.YtjokajblihaphaaGreatDoor

/- The program's ArchiveCrash, ArchiveOpen (written by mk/iar8.py). No condition. -/
namespace Go.Proofs.YtjokajblihaphaaGreatDoor
open Go.RowKit Go.MuLone
set_option maxRecDepth 100000
set_option linter.unusedVariables false
end Go.Proofs.YtjokajblihaphaaGreatDoor

/- worked with a closure that holds a box; the program's ArchiveDrop, ArchiveCompact (written by mk/istep7.py). No condition. -/
namespace Go.Proofs.YtjokajblihaphaaGreatDoor
open Go.RowKit Go.MuLone
set_option maxRecDepth 100000
set_option linter.unusedVariables false
def compactA (a : PArch) : PArch × Int := if archB a = false then (zeroA, 1) else compactS a
theorem worked_compact (a : PArch) : workedA a (compactS a) = compactA a := rfl
set_option maxHeartbeats 2000000 in
set_option maxRecDepth 100000 in
theorem iarCompact_any {w : World} {v : Value} {a : PArch} (h : ArAt w v a) (hf : ArFit a) (hs : Sent w) :
    Calls Tryz.prog 13 #[v] w fun e w' => ∃ v', e = .returned (.tuple #[v', .int .i64 (compactA a).2]) ∧ OwnAy w.heap.size w' v' (compactA a).1 ∧ Below w.heap.size w w' := by
  have HA := (show Hid (ArAt w v a) from h)
  obtain ⟨⟨ra, rc⟩, hra⟩ : ∃ x, x = compactA a := ⟨_, rfl⟩
  rw [← hra]
  simp only
  obtain ⟨sa, sn, sc, la, ln, lc, ea, en', ec, rfl, h1, h2⟩ := h
  have hl := ((Hl.refl w).new #[.bool a.up, .slice sa sn sc, .slice la ln lc, .int .i64 a.head.no, .int .i64 a.head.area, .int .i64 a.head.en, .slice ea en' ec] 38).new #[.bool false, .slice none 0 0, .slice none 0 0, .int .i64 0, .int .i64 0, .int .i64 0, .slice none 0 0] 38
  obtain ⟨w1, hw1⟩ : ∃ x, x = (w.alloc (.cells #[.bool a.up, .slice sa sn sc, .slice la ln lc, .int .i64 a.head.no, .int .i64 a.head.area, .int .i64 a.head.en, .slice ea en' ec] 38)).alloc (.cells #[.bool false, .slice none 0 0, .slice none 0 0, .int .i64 0, .int .i64 0, .int .i64 0, .slice none 0 0] 38) := ⟨_, rfl⟩
  rw [← hw1, World.size_alloc] at hl
  have HL := (show Hid (Hl w [(w.heap.size + 1, #[.bool false, .slice none 0 0, .slice none 0 0, .int .i64 0, .int .i64 0, .int .i64 0, .slice none 0 0], 38), (w.heap.size, #[.bool a.up, .slice sa sn sc, .slice la ln lc, .int .i64 a.head.no, .int .i64 a.head.area, .int .i64 a.head.en, .slice ea en' ec], 38)] w1) from hl)
  have CW := iworked_any (f := 30) (compactS a) (HA.out.below hl.1) hf (hs.below hl.1) (fun hb B W N s t l => ishCompact_any s hb t l) (run_callFunc_enter Tryz.func30 (by kernel_rfl) rfl)
  rw [worked_compact, ← hra] at CW
  have CW := (show Hid _ from CW)
  clear hl h1 h2 hf hs hra
  go_enter Tryz.func13, Tryz.ntmps13
  go_wp2_with fail
  go_at_call 20
  rw [← hw1]
  refine Calls.mono CW.out ?_
  rintro e w5 ⟨v5, rfl, o5, b5⟩
  have S5 := (show Hid (Hl w [(w.heap.size + 1, #[.bool false, .slice none 0 0, .slice none 0 0, .int .i64 0, .int .i64 0, .int .i64 0, .slice none 0 0], 38), (w.heap.size, #[.bool a.up, .slice sa sn sc, .slice la ln lc, .int .i64 a.head.no, .int .i64 a.head.area, .int .i64 a.head.en, .slice ea en' ec], 38)] w5) from HL.out.below b5)
  have O5 := (show Hid (OwnAy w.heap.size w5 v5 ra) from OwnAy.base o5 HL.out.1.size)
  clear b5 o5 HL hw1 CW
  obtain ⟨ya, yn, yc, za, zn, zc, fa, fn, fc, e5, _⟩ := O5.out
  subst e5
  obtain ⟨d0, d1, d2, d3, d4, d5, d6, _⟩ := rk_seven S5.out.at0
  have j0 := rk_thaw (k := 0) S5.out.at0
  have j1 := rk_thaw (k := 1) S5.out.at0
  have j2 := rk_thaw (k := 2) S5.out.at0
  have j3 := rk_thaw (k := 3) S5.out.at0
  have j4 := rk_thaw (k := 4) S5.out.at0
  have j5 := rk_thaw (k := 5) S5.out.at0
  have j6 := rk_thaw (k := 6) S5.out.at0
  have S9 := (show Hid _ from S5.out.set7 (Nat.le_succ _) (by simp) (.bool ra.up) (.slice ya yn yc) (.slice za zn zc) (.int .i64 ra.head.no) (.int .i64 ra.head.area) (.int .i64 ra.head.en) (.slice fa fn fc))
  have g9 := grown_set7 w5 (w.heap.size + 1) (.bool ra.up) (.slice ya yn yc) (.slice za zn zc) (.int .i64 ra.head.no) (.int .i64 ra.head.area) (.int .i64 ra.head.en) (.slice fa fn fc)
  have O9 := (show Hid _ from OwnAy.turned O5.out g9 (fun j e => by cases e; exact ⟨_, _, _, S5.out.at0, by decide, by decide, by decide⟩))
  clear g9 O5
  go_wp2
  refine bodyPost_ret (arch_res rfl rfl rfl S9.out.at0) rfl ?_
  exact ⟨_, rfl, O9.out, S9.out.1⟩

end Go.Proofs.YtjokajblihaphaaGreatDoor

/- The specification's ArchiveDrop and ArchiveCompact (written by mk/sstep4.py). No condition. -/
namespace Go.Proofs.YtjokajblihaphaaGreatDoor
open Go.RowKit
set_option maxRecDepth 100000
set_option linter.unusedVariables false

theorem done_compact (a : PArch) : doneA a (compactQ a) ⟨a.head.no + 1, 1 - a.head.area, (packX a.list).1.length⟩ (step4 a.disk (1 - a.head.area) 0 (packX a.list).1 ⟨a.head.no + 1, 1 - a.head.area, (packX a.list).1.length⟩) = compactA a := by
  unfold doneA compactA
  split
  · rfl
  · rename_i hA
    have hA : archB a = true := by simpa using hA
    cases hu : a.up
    · simp [compactQ, compactS, hu]
    · cases hp : (packX a.list).2
      · simp [compactQ, compactS, hu, hp]
      · cases hs : stepsOk a.disk (1 - a.head.area) 0 (packX a.list).1 ⟨a.head.no + 1, 1 - a.head.area, (packX a.list).1.length⟩
        · simp [compactQ, compactS, writeA, hu, hp, hs]
        · obtain ⟨h1, h2, h3, h4⟩ := archB_up hA hu
          have hn : nowDk (step4 a.disk (1 - a.head.area) 0 (packX a.list).1 ⟨a.head.no + 1, 1 - a.head.area, (packX a.list).1.length⟩) = ⟨a.head.no + 1, 1 - a.head.area, (packX a.list).1.length⟩ := steps_now hs (by rw [h2]; show a.head.no < a.head.no + 1; omega)
          simp [compactQ, compactS, writeA, hu, hp, hs, hn]
theorem compact_right {a : PArch} (hq : compactQ a = 0) : diskB (step4 a.disk (1 - a.head.area) 0 (packX a.list).1 ⟨a.head.no + 1, 1 - a.head.area, (packX a.list).1.length⟩) = true ∧ headB ⟨a.head.no + 1, 1 - a.head.area, (packX a.list).1.length⟩ = true := by
  unfold compactQ at hq
  split at hq
  · cases hq
  · split at hq
    · cases hq
    · split at hq
      · cases hq
      · rename_i h
        have h := steps_right (by simpa using h)
        exact ⟨h.2.2.2.1, h.2.2.2.2.2⟩
set_option maxHeartbeats 2000000 in
set_option maxRecDepth 100000 in
theorem sarCompact_any {w : World} {v : Value} {a : PArch} (h : ArAt w v a) (hf : ArFit a) :
    Calls Tryz.prog 12 #[v] w fun e w' => ∃ v', e = .returned (.tuple #[v', .int .i64 (compactA a).2]) ∧ OwnAy w.heap.size w' v' (compactA a).1 ∧ Below w.heap.size w w' := by
  have HA := (show Hid (ArAt w v a) from h)
  have HF := (show Hid (ArFit a) from hf)
  obtain ⟨⟨ra, rc⟩, hra⟩ : ∃ x, x = compactA a := ⟨_, rfl⟩
  rw [← hra]
  simp only
  obtain ⟨sa, sn, sc, la, ln, lc, ea, en', ec, rfl, h1, h2⟩ := h
  have hl := ((Hl.refl w).new #[.bool a.up, .slice sa sn sc, .slice la ln lc, .int .i64 a.head.no, .int .i64 a.head.area, .int .i64 a.head.en, .slice ea en' ec] 38).new #[.bool false, .slice none 0 0, .slice none 0 0, .int .i64 0, .int .i64 0, .int .i64 0, .slice none 0 0] 38
  obtain ⟨w1, hw1⟩ : ∃ x, x = (w.alloc (.cells #[.bool a.up, .slice sa sn sc, .slice la ln lc, .int .i64 a.head.no, .int .i64 a.head.area, .int .i64 a.head.en, .slice ea en' ec] 38)).alloc (.cells #[.bool false, .slice none 0 0, .slice none 0 0, .int .i64 0, .int .i64 0, .int .i64 0, .slice none 0 0] 38) := ⟨_, rfl⟩
  rw [← hw1, World.size_alloc] at hl
  have HL := (show Hid (Hl w [(w.heap.size + 1, #[.bool false, .slice none 0 0, .slice none 0 0, .int .i64 0, .int .i64 0, .int .i64 0, .slice none 0 0], 38), (w.heap.size, #[.bool a.up, .slice sa sn sc, .slice la ln lc, .int .i64 a.head.no, .int .i64 a.head.area, .int .i64 a.head.en, .slice ea en' ec], 38)] w1) from hl)
  have CW := sl18Done_any (kd := 3) (u2 := .string ⟨#[]⟩) (u3 := .slice none 0 0) (HA.out.below hl.1) hf (fun _ h => compact_right h) (fun hA W b => sl18WorkC_any ((HA.out.below hl.1).below b) hA)
  rw [done_compact, ← hra] at CW
  have CW := (show Hid _ from CW)
  clear hl h1 h2 hf hra
  go_enter Tryz.func12, Tryz.ntmps12
  go_wp2_with fail
  go_at_call 16
  rw [← hw1]
  refine Calls.mono CW.out ?_
  rintro e w5 ⟨v5, rfl, o5, b5⟩
  have S5 := (show Hid (Hl w [(w.heap.size + 1, #[.bool false, .slice none 0 0, .slice none 0 0, .int .i64 0, .int .i64 0, .int .i64 0, .slice none 0 0], 38), (w.heap.size, #[.bool a.up, .slice sa sn sc, .slice la ln lc, .int .i64 a.head.no, .int .i64 a.head.area, .int .i64 a.head.en, .slice ea en' ec], 38)] w5) from HL.out.below b5)
  have O5 := (show Hid (OwnAy w.heap.size w5 v5 ra) from OwnAy.base o5 HL.out.1.size)
  clear b5 o5 HL hw1 CW
  obtain ⟨ya, yn, yc, za, zn, zc, fa, fn, fc, e5, _⟩ := O5.out
  subst e5
  obtain ⟨d0, d1, d2, d3, d4, d5, d6, _⟩ := rk_seven S5.out.at0
  have j0 := rk_thaw (k := 0) S5.out.at0
  have j1 := rk_thaw (k := 1) S5.out.at0
  have j2 := rk_thaw (k := 2) S5.out.at0
  have j3 := rk_thaw (k := 3) S5.out.at0
  have j4 := rk_thaw (k := 4) S5.out.at0
  have j5 := rk_thaw (k := 5) S5.out.at0
  have j6 := rk_thaw (k := 6) S5.out.at0
  have S9 := (show Hid _ from S5.out.set7 (Nat.le_succ _) (by simp) (.bool ra.up) (.slice ya yn yc) (.slice za zn zc) (.int .i64 ra.head.no) (.int .i64 ra.head.area) (.int .i64 ra.head.en) (.slice fa fn fc))
  have g9 := grown_set7 w5 (w.heap.size + 1) (.bool ra.up) (.slice ya yn yc) (.slice za zn zc) (.int .i64 ra.head.no) (.int .i64 ra.head.area) (.int .i64 ra.head.en) (.slice fa fn fc)
  have O9 := (show Hid _ from OwnAy.turned O5.out g9 (fun j e => by cases e; exact ⟨_, _, _, S5.out.at0, by decide, by decide, by decide⟩))
  clear g9 O5
  go_wp2
  refine bodyPost_ret (arch_res rfl rfl rfl S9.out.at0) rfl ?_
  exact ⟨_, rfl, O9.out, S9.out.1⟩

end Go.Proofs.YtjokajblihaphaaGreatDoor

/- The exact law of ArchiveCompact (written by mk/wlawa.py's users). -/
namespace Go.Proofs.YtjokajblihaphaaGreatDoor
open Go.RowKit
set_option maxRecDepth 100000
set_option linter.unusedVariables false

theorem fit_doneA {a : PArch} {q : Int} {h : PHead} {d : PDisk} (hf : ArFit a) (hq : q = 0 → diskB d = true ∧ headB h = true) : ArFit (doneA a q h d).1 := by
  unfold doneA
  split
  · exact fit_zeroA
  · split
    · rename_i e
      exact fit_index (hq e).1 (hq e).2
    · exact hf
theorem fit_compactA {a : PArch} (hf : ArFit a) : ArFit (compactA a).1 := by
  rw [← done_compact]
  exact fit_doneA hf (fun e => compact_right e)
set_option maxHeartbeats 8000000 in
set_option maxRecDepth 100000 in
theorem fnExactArchiveCompact_walk {v : Value} {a : PArch} (w0 : World) (hs : Sent w0) (h : ArAt w0 v a) (hwf : (Lit.int .i64 a.head.no).wf = true ∧ (Lit.int .i64 a.head.area).wf = true ∧ (Lit.int .i64 a.head.en).wf = true) (h1 : ∀ s ∈ a.disk.safe, s.size ≤ maxLen) (h2 : ∀ p ∈ a.disk.late, p.2.size ≤ maxLen) (h3 : ∀ p ∈ a.list, p.1.size ≤ maxLen ∧ p.2.size ≤ maxLen) :
    Calls Tryz.prog 4 #[v] w0 fun e w' => e = .returned (.bool true) ∧ Below w0.heap.size w0 w' := by
  have HT := (show Hid (Sent w0) from hs)
  obtain ⟨sa, sn, sc, sA, sN, sC, sp, sq, sr, ev⟩ : ∃ sa sn sc sA sN sC sp sq sr, v = .agg #[.bool a.up, .slice sa sn sc, .slice sA sN sC, .int .i64 a.head.no, .int .i64 a.head.area, .int .i64 a.head.en, .slice sp sq sr] := by
    obtain ⟨_, _, _, _, _, _, _, _, _, e, _⟩ := h
    exact ⟨_, _, _, _, _, _, _, _, _, e⟩
  subst ev
  have HD := (show Hid (ArAt w0 (.agg #[.bool a.up, .slice sa sn sc, .slice sA sN sC, .int .i64 a.head.no, .int .i64 a.head.area, .int .i64 a.head.en, .slice sp sq sr]) a) from h)
  obtain ⟨w, hw⟩ : ∃ x, x = w0.alloc (.cells #[.bool a.up, .slice sa sn sc, .slice sA sN sC, .int .i64 a.head.no, .int .i64 a.head.area, .int .i64 a.head.en, .slice sp sq sr] 30) := ⟨_, rfl⟩
  have hl := (La.refl w0).new #[.bool a.up, .slice sa sn sc, .slice sA sN sC, .int .i64 a.head.no, .int .i64 a.head.area, .int .i64 a.head.en, .slice sp sq sr] 30
  rw [← hw] at hl
  have HL := (show Hid (La w0 [(w0.heap.size, #[.bool a.up, .slice sa sn sc, .slice sA sN sC, .int .i64 a.head.no, .int .i64 a.head.area, .int .i64 a.head.en, .slice sp sq sr], 30)] [] [] [] w) from hl)
  have CZ := (show Hid _ from szArchive_any (HD.out.below hl.hl.1) h1 h2 h3 1048576 (by decide) (by decide))
  clear hl h1 h2 h3 h hwf hs
  go_enter Tryz.func4, Tryz.ntmps4
  go_wp2_with fail
  go_at_call 5
  rw [← hw]
  refine Calls.mono CZ.out ?_
  rintro e w1 ⟨r, rfl, hr, b1⟩
  clear CZ hw
  rcases hr with hr | ⟨hr0, hf⟩
  · go_wp2
    go_ret
    exact ⟨rfl, (HL.out.below b1).hl.1⟩
  · have HF := (show Hid (ArFit a) from hf)
    clear hf
    have CTA := (show Hid (∀ L R Y S W, La w0 L R Y S W → Calls Tryz.prog 7 #[.agg #[.bool a.up, .slice sa sn sc, .slice sA sN sC, .int .i64 a.head.no, .int .i64 a.head.area, .int .i64 a.head.en, .slice sp sq sr]] W fun e W' => ∃ ta tn tc tA tN tC tp tq tr, e = .returned (.agg #[.bool a.up, .slice ta tn tc, .slice tA tN tC, .int .i64 a.head.no, .int .i64 a.head.area, .int .i64 a.head.en, .slice tp tq tr]) ∧ La w0 L R Y S W' ∧ OwnAy w0.heap.size W' (.agg #[.bool a.up, .slice ta tn tc, .slice tA tN tC, .int .i64 a.head.no, .int .i64 a.head.area, .int .i64 a.head.en, .slice tp tq tr]) a ∧ Below W.heap.size W W') from fun L R Y S W l => (l.toA HD.out HF.out).mono (by
      rintro e W' ⟨_, _, _, _, _, _, _, _, _, rfl, l', o, k⟩
      exact ⟨_, _, _, _, _, _, _, _, _, rfl, l', o.base l.hl.1.size, k⟩))
    have FQ := (show Hid (ArFit (compactA a).1) from fit_compactA HF.out)
    obtain ⟨⟨qa, qc⟩, hq⟩ : ∃ x, x = compactA a := ⟨_, rfl⟩
    rw [← hq] at FQ
    have CS := (show Hid (∀ L R Y S (W : World) (v : Value) (B : Nat), La w0 L R Y S W → B ≤ W.heap.size → ArAt W v a → Calls Tryz.prog 12 #[v] W fun e W' => ∃ xa xn xc xA xN xC xp xq xr, e = .returned (.tuple #[.agg #[.bool qa.up, .slice xa xn xc, .slice xA xN xC, .int .i64 qa.head.no, .int .i64 qa.head.area, .int .i64 qa.head.en, .slice xp xq xr], .int .i64 qc]) ∧ OwnAy B W' (.agg #[.bool qa.up, .slice xa xn xc, .slice xA xN xC, .int .i64 qa.head.no, .int .i64 qa.head.area, .int .i64 qa.head.en, .slice xp xq xr]) qa ∧ La w0 L R Y S W' ∧ Below W.heap.size W W') from fun L R Y S W v B l hB h => by
      have k := sarCompact_any h HF.out
      rw [← hq] at k
      exact k.mono (by
        rintro e W' ⟨v', rfl, o, b⟩
        have o' := o
        obtain ⟨_, _, _, _, _, _, _, _, _, rfl, _⟩ := o
        exact ⟨_, _, _, _, _, _, _, _, _, rfl, OwnAy.base o' hB, l.below b, b⟩))
    have CI := (show Hid (∀ L R Y S (W : World) (v : Value) (B : Nat), La w0 L R Y S W → B ≤ W.heap.size → ArAt W v a → Calls Tryz.prog 13 #[v] W fun e W' => ∃ xa xn xc xA xN xC xp xq xr, e = .returned (.tuple #[.agg #[.bool qa.up, .slice xa xn xc, .slice xA xN xC, .int .i64 qa.head.no, .int .i64 qa.head.area, .int .i64 qa.head.en, .slice xp xq xr], .int .i64 qc]) ∧ OwnAy B W' (.agg #[.bool qa.up, .slice xa xn xc, .slice xA xN xC, .int .i64 qa.head.no, .int .i64 qa.head.area, .int .i64 qa.head.en, .slice xp xq xr]) qa ∧ La w0 L R Y S W' ∧ Below W.heap.size W W') from fun L R Y S W v B l hB h => by
      have k := iarCompact_any h HF.out (HT.out.below l.hl.1)
      rw [← hq] at k
      exact k.mono (by
        rintro e W' ⟨v', rfl, o, b⟩
        have o' := o
        obtain ⟨_, _, _, _, _, _, _, _, _, rfl, _⟩ := o
        exact ⟨_, _, _, _, _, _, _, _, _, rfl, OwnAy.base o' hB, l.below b, b⟩))
    simp only at FQ
    have hqq : (qc != qc) = false := by simp
    have hk1 := arEnd_pos qa
    have hk2 : (arEnd qa != arEnd qa) = false := by simp
    have hk0 := arEnd_pos a
    clear hq
    have S_w1 := (show Hid (La w0 [(w0.heap.size, #[.bool a.up, .slice sa sn sc, .slice sA sN sC, .int .i64 a.head.no, .int .i64 a.head.area, .int .i64 a.head.en, .slice sp sq sr], 30)] [] [] [] w1) from HL.out.below b1)
    have Z0 := (show Hid (w0.heap.size ≤ w1.heap.size) from S_w1.out.hl.1.size)
    clear HL b1
    obtain ⟨c0_0, c0_1, c0_2, c0_3, c0_4, c0_5, c0_6, _⟩ := rk_seven (S_w1.out.hl.2 _ (List.mem_cons_self ..))
    go_wp2_with fail
    go_at_call 7
    refine (S_w1.out.toA HD.out HF.out).mono ?_
    rintro e w2 ⟨fa, fn, fc, fA, fN, fC, fp, fq, fr, rfl, lw2, ow2, bw2⟩
    have Z1 := (show Hid (w1.heap.size ≤ w2.heap.size) from bw2.size)
    have S_w2 := (show Hid (La w0 [(w0.heap.size, #[.bool a.up, .slice sa sn sc, .slice sA sN sC, .int .i64 a.head.no, .int .i64 a.head.area, .int .i64 a.head.en, .slice sp sq sr], 30)] [(w1.heap.size, w2.heap.size, .agg #[.bool a.up, .slice fa fn fc, .slice fA fN fC, .int .i64 a.head.no, .int .i64 a.head.area, .int .i64 a.head.en, .slice fp fq fr], a)] [] [] w2) from lw2.add ow2)
    clear S_w1 bw2
    clear c0_0 c0_1 c0_2 c0_3 c0_4 c0_5 c0_6
    clear lw2 ow2
    obtain ⟨c0_0, c0_1, c0_2, c0_3, c0_4, c0_5, c0_6, _⟩ := rk_seven (S_w2.out.hl.2 _ (List.mem_cons_self ..))
    go_wp2_with fail
    go_at_call 12
    refine (CS.out _ _ _ _ _ _ w2.heap.size S_w2.out (Nat.le_refl _) (S_w2.out.rows _ (List.mem_cons_self ..)).1.at).mono ?_
    rintro e w3 ⟨ba, bn, bc, bA, bN, bC, bp, bq, br, rfl, ow3, lw3, bw3⟩
    have Z2 := (show Hid (w2.heap.size ≤ w3.heap.size) from bw3.size)
    have S_w3 := (show Hid (La w0 [(w0.heap.size, #[.bool a.up, .slice sa sn sc, .slice sA sN sC, .int .i64 a.head.no, .int .i64 a.head.area, .int .i64 a.head.en, .slice sp sq sr], 30)] [(w2.heap.size, w3.heap.size, .agg #[.bool qa.up, .slice ba bn bc, .slice bA bN bC, .int .i64 qa.head.no, .int .i64 qa.head.area, .int .i64 qa.head.en, .slice bp bq br], qa), (w1.heap.size, w2.heap.size, .agg #[.bool a.up, .slice fa fn fc, .slice fA fN fC, .int .i64 a.head.no, .int .i64 a.head.area, .int .i64 a.head.en, .slice fp fq fr], a)] [] [] w3) from lw3.add ow3)
    clear S_w2 bw3
    clear c0_0 c0_1 c0_2 c0_3 c0_4 c0_5 c0_6
    clear lw3 ow3
    obtain ⟨w3a, hw3a⟩ : ∃ x, x = w3.alloc (.cells #[.bool qa.up, .slice ba bn bc, .slice bA bN bC, .int .i64 qa.head.no, .int .i64 qa.head.area, .int .i64 qa.head.en, .slice bp bq br] 38) := ⟨_, rfl⟩
    have Z3 := (show Hid (w3.heap.size < w3a.heap.size) from (show w3.heap.size < w3a.heap.size by rw [hw3a, World.size_alloc]; omega))
    obtain ⟨o0_0, o0_1, o0_2, o0_3, o0_4, o0_5, o0_6, _⟩ := rk_seven (S_w3.out.hl.2 _ (List.mem_cons_self ..))
    have o0_l := lt_of_block (S_w3.out.hl.2 _ (List.mem_cons_self ..))
    have S_w3a := (show Hid (La w0 [(w3.heap.size, #[.bool qa.up, .slice ba bn bc, .slice bA bN bC, .int .i64 qa.head.no, .int .i64 qa.head.area, .int .i64 qa.head.en, .slice bp bq br], 38), (w0.heap.size, #[.bool a.up, .slice sa sn sc, .slice sA sN sC, .int .i64 a.head.no, .int .i64 a.head.area, .int .i64 a.head.en, .slice sp sq sr], 30)] [(w2.heap.size, w3.heap.size, .agg #[.bool qa.up, .slice ba bn bc, .slice bA bN bC, .int .i64 qa.head.no, .int .i64 qa.head.area, .int .i64 qa.head.en, .slice bp bq br], qa), (w1.heap.size, w2.heap.size, .agg #[.bool a.up, .slice fa fn fc, .slice fA fN fC, .int .i64 a.head.no, .int .i64 a.head.area, .int .i64 a.head.en, .slice fp fq fr], a)] [] [] w3a) from by rw [hw3a]; exact S_w3.out.new #[.bool qa.up, .slice ba bn bc, .slice bA bN bC, .int .i64 qa.head.no, .int .i64 qa.head.area, .int .i64 qa.head.en, .slice bp bq br] 38)
    clear S_w3
    go_wp2_with fail
    go_at_call 7
    rw [← hw3a]
    clear hw3a
    refine (S_w3a.out.toA HD.out HF.out).mono ?_
    rintro e w4 ⟨xa, xn, xc, xA, xN, xC, xp, xq, xr, rfl, lw4, ow4, bw4⟩
    have Z4 := (show Hid (w3a.heap.size ≤ w4.heap.size) from bw4.size)
    have S_w4 := (show Hid (La w0 [(w3.heap.size, #[.bool qa.up, .slice ba bn bc, .slice bA bN bC, .int .i64 qa.head.no, .int .i64 qa.head.area, .int .i64 qa.head.en, .slice bp bq br], 38), (w0.heap.size, #[.bool a.up, .slice sa sn sc, .slice sA sN sC, .int .i64 a.head.no, .int .i64 a.head.area, .int .i64 a.head.en, .slice sp sq sr], 30)] [(w3a.heap.size, w4.heap.size, .agg #[.bool a.up, .slice xa xn xc, .slice xA xN xC, .int .i64 a.head.no, .int .i64 a.head.area, .int .i64 a.head.en, .slice xp xq xr], a), (w2.heap.size, w3.heap.size, .agg #[.bool qa.up, .slice ba bn bc, .slice bA bN bC, .int .i64 qa.head.no, .int .i64 qa.head.area, .int .i64 qa.head.en, .slice bp bq br], qa), (w1.heap.size, w2.heap.size, .agg #[.bool a.up, .slice fa fn fc, .slice fA fN fC, .int .i64 a.head.no, .int .i64 a.head.area, .int .i64 a.head.en, .slice fp fq fr], a)] [] [] w4) from lw4.add ow4)
    clear S_w3a bw4
    clear o0_0 o0_1 o0_2 o0_3 o0_4 o0_5 o0_6 o0_l
    clear lw4 ow4
    obtain ⟨w4a, hw4a⟩ : ∃ x, x = w4.alloc (.cells #[.bool a.up, .slice xa xn xc, .slice xA xN xC, .int .i64 a.head.no, .int .i64 a.head.area, .int .i64 a.head.en, .slice xp xq xr] 38) := ⟨_, rfl⟩
    have Z5 := (show Hid (w4.heap.size < w4a.heap.size) from (show w4.heap.size < w4a.heap.size by rw [hw4a, World.size_alloc]; omega))
    obtain ⟨o0_0, o0_1, o0_2, o0_3, o0_4, o0_5, o0_6, _⟩ := rk_seven (S_w4.out.hl.2 _ (List.mem_cons_self ..))
    have o0_l := lt_of_block (S_w4.out.hl.2 _ (List.mem_cons_self ..))
    obtain ⟨o1_0, o1_1, o1_2, o1_3, o1_4, o1_5, o1_6, _⟩ := rk_seven (S_w4.out.hl.2 _ (List.mem_cons_of_mem _ (List.mem_cons_self ..)))
    have o1_l := lt_of_block (S_w4.out.hl.2 _ (List.mem_cons_of_mem _ (List.mem_cons_self ..)))
    have S_w4a := (show Hid (La w0 [(w4.heap.size, #[.bool a.up, .slice xa xn xc, .slice xA xN xC, .int .i64 a.head.no, .int .i64 a.head.area, .int .i64 a.head.en, .slice xp xq xr], 38), (w3.heap.size, #[.bool qa.up, .slice ba bn bc, .slice bA bN bC, .int .i64 qa.head.no, .int .i64 qa.head.area, .int .i64 qa.head.en, .slice bp bq br], 38), (w0.heap.size, #[.bool a.up, .slice sa sn sc, .slice sA sN sC, .int .i64 a.head.no, .int .i64 a.head.area, .int .i64 a.head.en, .slice sp sq sr], 30)] [(w3a.heap.size, w4.heap.size, .agg #[.bool a.up, .slice xa xn xc, .slice xA xN xC, .int .i64 a.head.no, .int .i64 a.head.area, .int .i64 a.head.en, .slice xp xq xr], a), (w2.heap.size, w3.heap.size, .agg #[.bool qa.up, .slice ba bn bc, .slice bA bN bC, .int .i64 qa.head.no, .int .i64 qa.head.area, .int .i64 qa.head.en, .slice bp bq br], qa), (w1.heap.size, w2.heap.size, .agg #[.bool a.up, .slice fa fn fc, .slice fA fN fC, .int .i64 a.head.no, .int .i64 a.head.area, .int .i64 a.head.en, .slice fp fq fr], a)] [] [] w4a) from by rw [hw4a]; exact S_w4.out.new #[.bool a.up, .slice xa xn xc, .slice xA xN xC, .int .i64 a.head.no, .int .i64 a.head.area, .int .i64 a.head.en, .slice xp xq xr] 38)
    clear S_w4
    go_wp2_with fail
    go_at_call 13
    rw [← hw4a]
    clear hw4a
    refine (CI.out _ _ _ _ _ _ w4a.heap.size S_w4a.out (Nat.le_refl _) (S_w4a.out.rows _ (List.mem_cons_self ..)).1.at).mono ?_
    rintro e w5 ⟨ga, gn, gc, gA, gN, gC, gp, gq, gr, rfl, ow5, lw5, bw5⟩
    have Z6 := (show Hid (w4a.heap.size ≤ w5.heap.size) from bw5.size)
    have S_w5 := (show Hid (La w0 [(w4.heap.size, #[.bool a.up, .slice xa xn xc, .slice xA xN xC, .int .i64 a.head.no, .int .i64 a.head.area, .int .i64 a.head.en, .slice xp xq xr], 38), (w3.heap.size, #[.bool qa.up, .slice ba bn bc, .slice bA bN bC, .int .i64 qa.head.no, .int .i64 qa.head.area, .int .i64 qa.head.en, .slice bp bq br], 38), (w0.heap.size, #[.bool a.up, .slice sa sn sc, .slice sA sN sC, .int .i64 a.head.no, .int .i64 a.head.area, .int .i64 a.head.en, .slice sp sq sr], 30)] [(w4a.heap.size, w5.heap.size, .agg #[.bool qa.up, .slice ga gn gc, .slice gA gN gC, .int .i64 qa.head.no, .int .i64 qa.head.area, .int .i64 qa.head.en, .slice gp gq gr], qa), (w3a.heap.size, w4.heap.size, .agg #[.bool a.up, .slice xa xn xc, .slice xA xN xC, .int .i64 a.head.no, .int .i64 a.head.area, .int .i64 a.head.en, .slice xp xq xr], a), (w2.heap.size, w3.heap.size, .agg #[.bool qa.up, .slice ba bn bc, .slice bA bN bC, .int .i64 qa.head.no, .int .i64 qa.head.area, .int .i64 qa.head.en, .slice bp bq br], qa), (w1.heap.size, w2.heap.size, .agg #[.bool a.up, .slice fa fn fc, .slice fA fN fC, .int .i64 a.head.no, .int .i64 a.head.area, .int .i64 a.head.en, .slice fp fq fr], a)] [] [] w5) from lw5.add ow5)
    clear S_w4a bw5
    clear o0_0 o0_1 o0_2 o0_3 o0_4 o0_5 o0_6 o0_l o1_0 o1_1 o1_2 o1_3 o1_4 o1_5 o1_6 o1_l
    clear lw5 ow5
    obtain ⟨w5a, hw5a⟩ : ∃ x, x = w5.alloc (.cells #[.bool qa.up, .slice ga gn gc, .slice gA gN gC, .int .i64 qa.head.no, .int .i64 qa.head.area, .int .i64 qa.head.en, .slice gp gq gr] 38) := ⟨_, rfl⟩
    have Z7 := (show Hid (w5.heap.size < w5a.heap.size) from (show w5.heap.size < w5a.heap.size by rw [hw5a, World.size_alloc]; omega))
    obtain ⟨o0_0, o0_1, o0_2, o0_3, o0_4, o0_5, o0_6, _⟩ := rk_seven (S_w5.out.hl.2 _ (List.mem_cons_self ..))
    have o0_l := lt_of_block (S_w5.out.hl.2 _ (List.mem_cons_self ..))
    obtain ⟨o1_0, o1_1, o1_2, o1_3, o1_4, o1_5, o1_6, _⟩ := rk_seven (S_w5.out.hl.2 _ (List.mem_cons_of_mem _ (List.mem_cons_self ..)))
    have o1_l := lt_of_block (S_w5.out.hl.2 _ (List.mem_cons_of_mem _ (List.mem_cons_self ..)))
    obtain ⟨o2_0, o2_1, o2_2, o2_3, o2_4, o2_5, o2_6, _⟩ := rk_seven (S_w5.out.hl.2 _ (List.mem_cons_of_mem _ (List.mem_cons_of_mem _ (List.mem_cons_self ..))))
    have o2_l := lt_of_block (S_w5.out.hl.2 _ (List.mem_cons_of_mem _ (List.mem_cons_of_mem _ (List.mem_cons_self ..))))
    have S_w5a := (show Hid (La w0 [(w5.heap.size, #[.bool qa.up, .slice ga gn gc, .slice gA gN gC, .int .i64 qa.head.no, .int .i64 qa.head.area, .int .i64 qa.head.en, .slice gp gq gr], 38), (w4.heap.size, #[.bool a.up, .slice xa xn xc, .slice xA xN xC, .int .i64 a.head.no, .int .i64 a.head.area, .int .i64 a.head.en, .slice xp xq xr], 38), (w3.heap.size, #[.bool qa.up, .slice ba bn bc, .slice bA bN bC, .int .i64 qa.head.no, .int .i64 qa.head.area, .int .i64 qa.head.en, .slice bp bq br], 38), (w0.heap.size, #[.bool a.up, .slice sa sn sc, .slice sA sN sC, .int .i64 a.head.no, .int .i64 a.head.area, .int .i64 a.head.en, .slice sp sq sr], 30)] [(w4a.heap.size, w5.heap.size, .agg #[.bool qa.up, .slice ga gn gc, .slice gA gN gC, .int .i64 qa.head.no, .int .i64 qa.head.area, .int .i64 qa.head.en, .slice gp gq gr], qa), (w3a.heap.size, w4.heap.size, .agg #[.bool a.up, .slice xa xn xc, .slice xA xN xC, .int .i64 a.head.no, .int .i64 a.head.area, .int .i64 a.head.en, .slice xp xq xr], a), (w2.heap.size, w3.heap.size, .agg #[.bool qa.up, .slice ba bn bc, .slice bA bN bC, .int .i64 qa.head.no, .int .i64 qa.head.area, .int .i64 qa.head.en, .slice bp bq br], qa), (w1.heap.size, w2.heap.size, .agg #[.bool a.up, .slice fa fn fc, .slice fA fN fC, .int .i64 a.head.no, .int .i64 a.head.area, .int .i64 a.head.en, .slice fp fq fr], a)] [] [] w5a) from by rw [hw5a]; exact S_w5.out.new #[.bool qa.up, .slice ga gn gc, .slice gA gN gC, .int .i64 qa.head.no, .int .i64 qa.head.area, .int .i64 qa.head.en, .slice gp gq gr] 38)
    clear S_w5
    go_wp2_with fail
    go_at_call 9
    rw [← hw5a]
    clear hw5a
    refine (S_w5a.out.eqA (S_w5a.out.rows _ (List.mem_cons_self ..)).1.at (S_w5a.out.rows _ (List.mem_cons_of_mem _ (List.mem_cons_of_mem _ (List.mem_cons_self ..)))).1.at FQ.out).mono ?_
    rintro e w6 ⟨rfl, lw6, bw6⟩
    have Z8 := (show Hid (w5a.heap.size ≤ w6.heap.size) from bw6.size)
    have S_w6 := (show Hid (La w0 [(w5.heap.size, #[.bool qa.up, .slice ga gn gc, .slice gA gN gC, .int .i64 qa.head.no, .int .i64 qa.head.area, .int .i64 qa.head.en, .slice gp gq gr], 38), (w4.heap.size, #[.bool a.up, .slice xa xn xc, .slice xA xN xC, .int .i64 a.head.no, .int .i64 a.head.area, .int .i64 a.head.en, .slice xp xq xr], 38), (w3.heap.size, #[.bool qa.up, .slice ba bn bc, .slice bA bN bC, .int .i64 qa.head.no, .int .i64 qa.head.area, .int .i64 qa.head.en, .slice bp bq br], 38), (w0.heap.size, #[.bool a.up, .slice sa sn sc, .slice sA sN sC, .int .i64 a.head.no, .int .i64 a.head.area, .int .i64 a.head.en, .slice sp sq sr], 30)] [(w4a.heap.size, w5.heap.size, .agg #[.bool qa.up, .slice ga gn gc, .slice gA gN gC, .int .i64 qa.head.no, .int .i64 qa.head.area, .int .i64 qa.head.en, .slice gp gq gr], qa), (w3a.heap.size, w4.heap.size, .agg #[.bool a.up, .slice xa xn xc, .slice xA xN xC, .int .i64 a.head.no, .int .i64 a.head.area, .int .i64 a.head.en, .slice xp xq xr], a), (w2.heap.size, w3.heap.size, .agg #[.bool qa.up, .slice ba bn bc, .slice bA bN bC, .int .i64 qa.head.no, .int .i64 qa.head.area, .int .i64 qa.head.en, .slice bp bq br], qa), (w1.heap.size, w2.heap.size, .agg #[.bool a.up, .slice fa fn fc, .slice fA fN fC, .int .i64 a.head.no, .int .i64 a.head.area, .int .i64 a.head.en, .slice fp fq fr], a)] [] [] w6) from lw6)
    clear S_w5a bw6
    clear o0_0 o0_1 o0_2 o0_3 o0_4 o0_5 o0_6 o0_l o1_0 o1_1 o1_2 o1_3 o1_4 o1_5 o1_6 o1_l o2_0 o2_1 o2_2 o2_3 o2_4 o2_5 o2_6 o2_l
    clear lw6
    obtain ⟨c0_0, c0_1, c0_2, c0_3, c0_4, c0_5, c0_6, _⟩ := rk_seven (S_w6.out.hl.2 _ (List.mem_cons_self ..))
    obtain ⟨c1_0, c1_1, c1_2, c1_3, c1_4, c1_5, c1_6, _⟩ := rk_seven (S_w6.out.hl.2 _ (List.mem_cons_of_mem _ (List.mem_cons_self ..)))
    obtain ⟨c2_0, c2_1, c2_2, c2_3, c2_4, c2_5, c2_6, _⟩ := rk_seven (S_w6.out.hl.2 _ (List.mem_cons_of_mem _ (List.mem_cons_of_mem _ (List.mem_cons_self ..))))
    obtain ⟨c3_0, c3_1, c3_2, c3_3, c3_4, c3_5, c3_6, _⟩ := rk_seven (S_w6.out.hl.2 _ (List.mem_cons_of_mem _ (List.mem_cons_of_mem _ (List.mem_cons_of_mem _ (List.mem_cons_self ..)))))
    go_wp2_with fail
    clear c0_0 c0_1 c0_2 c0_3 c0_4 c0_5 c0_6 c1_0 c1_1 c1_2 c1_3 c1_4 c1_5 c1_6 c2_0 c2_1 c2_2 c2_3 c2_4 c2_5 c2_6 c3_0 c3_1 c3_2 c3_3 c3_4 c3_5 c3_6
    have KD := (show Hid (La w0 [(w5.heap.size, #[.bool qa.up, .slice ga gn gc, .slice gA gN gC, .int .i64 qa.head.no, .int .i64 qa.head.area, .int .i64 qa.head.en, .slice gp gq gr], 38), (w4.heap.size, #[.bool a.up, .slice xa xn xc, .slice xA xN xC, .int .i64 a.head.no, .int .i64 a.head.area, .int .i64 a.head.en, .slice xp xq xr], 38), (w3.heap.size, #[.bool qa.up, .slice ba bn bc, .slice bA bN bC, .int .i64 qa.head.no, .int .i64 qa.head.area, .int .i64 qa.head.en, .slice bp bq br], 38), (w0.heap.size, #[.bool a.up, .slice sa sn sc, .slice sA sN sC, .int .i64 a.head.no, .int .i64 a.head.area, .int .i64 a.head.en, .slice sp sq sr], 30)] [(w4a.heap.size, w5.heap.size, .agg #[.bool qa.up, .slice ga gn gc, .slice gA gN gC, .int .i64 qa.head.no, .int .i64 qa.head.area, .int .i64 qa.head.en, .slice gp gq gr], qa), (w3a.heap.size, w4.heap.size, .agg #[.bool a.up, .slice xa xn xc, .slice xA xN xC, .int .i64 a.head.no, .int .i64 a.head.area, .int .i64 a.head.en, .slice xp xq xr], a), (w2.heap.size, w3.heap.size, .agg #[.bool qa.up, .slice ba bn bc, .slice bA bN bC, .int .i64 qa.head.no, .int .i64 qa.head.area, .int .i64 qa.head.en, .slice bp bq br], qa), (w1.heap.size, w2.heap.size, .agg #[.bool a.up, .slice fa fn fc, .slice fA fN fC, .int .i64 a.head.no, .int .i64 a.head.area, .int .i64 a.head.en, .slice fp fq fr], a)] [] [] w6.drew) from S_w6.out.below (below_drewN 1))
    have HS := (show Hid (∀ W, La w0 [(w5.heap.size, #[.bool qa.up, .slice ga gn gc, .slice gA gN gC, .int .i64 qa.head.no, .int .i64 qa.head.area, .int .i64 qa.head.en, .slice gp gq gr], 38), (w4.heap.size, #[.bool a.up, .slice xa xn xc, .slice xA xN xC, .int .i64 a.head.no, .int .i64 a.head.area, .int .i64 a.head.en, .slice xp xq xr], 38), (w3.heap.size, #[.bool qa.up, .slice ba bn bc, .slice bA bN bC, .int .i64 qa.head.no, .int .i64 qa.head.area, .int .i64 qa.head.en, .slice bp bq br], 38), (w0.heap.size, #[.bool a.up, .slice sa sn sc, .slice sA sN sC, .int .i64 a.head.no, .int .i64 a.head.area, .int .i64 a.head.en, .slice sp sq sr], 30)] [(w4a.heap.size, w5.heap.size, .agg #[.bool qa.up, .slice ga gn gc, .slice gA gN gC, .int .i64 qa.head.no, .int .i64 qa.head.area, .int .i64 qa.head.en, .slice gp gq gr], qa), (w3a.heap.size, w4.heap.size, .agg #[.bool a.up, .slice xa xn xc, .slice xA xN xC, .int .i64 a.head.no, .int .i64 a.head.area, .int .i64 a.head.en, .slice xp xq xr], a), (w2.heap.size, w3.heap.size, .agg #[.bool qa.up, .slice ba bn bc, .slice bA bN bC, .int .i64 qa.head.no, .int .i64 qa.head.area, .int .i64 qa.head.en, .slice bp bq br], qa), (w1.heap.size, w2.heap.size, .agg #[.bool a.up, .slice fa fn fc, .slice fA fN fC, .int .i64 a.head.no, .int .i64 a.head.area, .int .i64 a.head.en, .slice fp fq fr], a)] [] [] W → W.cell? ⟨w5.heap.size, 0, none⟩ = some (.bool qa.up) ∧ W.cell? ⟨w5.heap.size, 1, none⟩ = some (.slice ga gn gc) ∧ W.cell? ⟨w5.heap.size, 2, none⟩ = some (.slice gA gN gC) ∧ W.cell? ⟨w5.heap.size, 3, none⟩ = some (.int .i64 qa.head.no) ∧ W.cell? ⟨w5.heap.size, 4, none⟩ = some (.int .i64 qa.head.area) ∧ W.cell? ⟨w5.heap.size, 5, none⟩ = some (.int .i64 qa.head.en) ∧ W.cell? ⟨w5.heap.size, 6, none⟩ = some (.slice gp gq gr) ∧ W.cell? ⟨w4.heap.size, 0, none⟩ = some (.bool a.up) ∧ W.cell? ⟨w4.heap.size, 1, none⟩ = some (.slice xa xn xc) ∧ W.cell? ⟨w4.heap.size, 2, none⟩ = some (.slice xA xN xC) ∧ W.cell? ⟨w4.heap.size, 3, none⟩ = some (.int .i64 a.head.no) ∧ W.cell? ⟨w4.heap.size, 4, none⟩ = some (.int .i64 a.head.area) ∧ W.cell? ⟨w4.heap.size, 5, none⟩ = some (.int .i64 a.head.en) ∧ W.cell? ⟨w4.heap.size, 6, none⟩ = some (.slice xp xq xr) ∧ W.cell? ⟨w3.heap.size, 0, none⟩ = some (.bool qa.up) ∧ W.cell? ⟨w3.heap.size, 1, none⟩ = some (.slice ba bn bc) ∧ W.cell? ⟨w3.heap.size, 2, none⟩ = some (.slice bA bN bC) ∧ W.cell? ⟨w3.heap.size, 3, none⟩ = some (.int .i64 qa.head.no) ∧ W.cell? ⟨w3.heap.size, 4, none⟩ = some (.int .i64 qa.head.area) ∧ W.cell? ⟨w3.heap.size, 5, none⟩ = some (.int .i64 qa.head.en) ∧ W.cell? ⟨w3.heap.size, 6, none⟩ = some (.slice bp bq br) ∧ W.cell? ⟨w0.heap.size, 0, none⟩ = some (.bool a.up) ∧ W.cell? ⟨w0.heap.size, 1, none⟩ = some (.slice sa sn sc) ∧ W.cell? ⟨w0.heap.size, 2, none⟩ = some (.slice sA sN sC) ∧ W.cell? ⟨w0.heap.size, 3, none⟩ = some (.int .i64 a.head.no) ∧ W.cell? ⟨w0.heap.size, 4, none⟩ = some (.int .i64 a.head.area) ∧ W.cell? ⟨w0.heap.size, 5, none⟩ = some (.int .i64 a.head.en) ∧ W.cell? ⟨w0.heap.size, 6, none⟩ = some (.slice sp sq sr) ∧ La w0 [(w5.heap.size, #[.bool qa.up, .slice ga gn gc, .slice gA gN gC, .int .i64 qa.head.no, .int .i64 qa.head.area, .int .i64 qa.head.en, .slice gp gq gr], 38), (w4.heap.size, #[.bool a.up, .slice xa xn xc, .slice xA xN xC, .int .i64 a.head.no, .int .i64 a.head.area, .int .i64 a.head.en, .slice xp xq xr], 38), (w3.heap.size, #[.bool qa.up, .slice ba bn bc, .slice bA bN bC, .int .i64 qa.head.no, .int .i64 qa.head.area, .int .i64 qa.head.en, .slice bp bq br], 38), (w0.heap.size, #[.bool a.up, .slice sa sn sc, .slice sA sN sC, .int .i64 a.head.no, .int .i64 a.head.area, .int .i64 a.head.en, .slice sp sq sr], 30)] [(w4a.heap.size, w5.heap.size, .agg #[.bool qa.up, .slice ga gn gc, .slice gA gN gC, .int .i64 qa.head.no, .int .i64 qa.head.area, .int .i64 qa.head.en, .slice gp gq gr], qa), (w3a.heap.size, w4.heap.size, .agg #[.bool a.up, .slice xa xn xc, .slice xA xN xC, .int .i64 a.head.no, .int .i64 a.head.area, .int .i64 a.head.en, .slice xp xq xr], a), (w2.heap.size, w3.heap.size, .agg #[.bool qa.up, .slice ba bn bc, .slice bA bN bC, .int .i64 qa.head.no, .int .i64 qa.head.area, .int .i64 qa.head.en, .slice bp bq br], qa), (w1.heap.size, w2.heap.size, .agg #[.bool a.up, .slice fa fn fc, .slice fA fN fC, .int .i64 a.head.no, .int .i64 a.head.area, .int .i64 a.head.en, .slice fp fq fr], a)] [] [] W) from fun W h => ⟨(rk_seven (h.hl.2 _ (List.mem_cons_self ..))).1, (rk_seven (h.hl.2 _ (List.mem_cons_self ..))).2.1, (rk_seven (h.hl.2 _ (List.mem_cons_self ..))).2.2.1, (rk_seven (h.hl.2 _ (List.mem_cons_self ..))).2.2.2.1, (rk_seven (h.hl.2 _ (List.mem_cons_self ..))).2.2.2.2.1, (rk_seven (h.hl.2 _ (List.mem_cons_self ..))).2.2.2.2.2.1, (rk_seven (h.hl.2 _ (List.mem_cons_self ..))).2.2.2.2.2.2.1, (rk_seven (h.hl.2 _ (List.mem_cons_of_mem _ (List.mem_cons_self ..)))).1, (rk_seven (h.hl.2 _ (List.mem_cons_of_mem _ (List.mem_cons_self ..)))).2.1, (rk_seven (h.hl.2 _ (List.mem_cons_of_mem _ (List.mem_cons_self ..)))).2.2.1, (rk_seven (h.hl.2 _ (List.mem_cons_of_mem _ (List.mem_cons_self ..)))).2.2.2.1, (rk_seven (h.hl.2 _ (List.mem_cons_of_mem _ (List.mem_cons_self ..)))).2.2.2.2.1, (rk_seven (h.hl.2 _ (List.mem_cons_of_mem _ (List.mem_cons_self ..)))).2.2.2.2.2.1, (rk_seven (h.hl.2 _ (List.mem_cons_of_mem _ (List.mem_cons_self ..)))).2.2.2.2.2.2.1, (rk_seven (h.hl.2 _ (List.mem_cons_of_mem _ (List.mem_cons_of_mem _ (List.mem_cons_self ..))))).1, (rk_seven (h.hl.2 _ (List.mem_cons_of_mem _ (List.mem_cons_of_mem _ (List.mem_cons_self ..))))).2.1, (rk_seven (h.hl.2 _ (List.mem_cons_of_mem _ (List.mem_cons_of_mem _ (List.mem_cons_self ..))))).2.2.1, (rk_seven (h.hl.2 _ (List.mem_cons_of_mem _ (List.mem_cons_of_mem _ (List.mem_cons_self ..))))).2.2.2.1, (rk_seven (h.hl.2 _ (List.mem_cons_of_mem _ (List.mem_cons_of_mem _ (List.mem_cons_self ..))))).2.2.2.2.1, (rk_seven (h.hl.2 _ (List.mem_cons_of_mem _ (List.mem_cons_of_mem _ (List.mem_cons_self ..))))).2.2.2.2.2.1, (rk_seven (h.hl.2 _ (List.mem_cons_of_mem _ (List.mem_cons_of_mem _ (List.mem_cons_self ..))))).2.2.2.2.2.2.1, (rk_seven (h.hl.2 _ (List.mem_cons_of_mem _ (List.mem_cons_of_mem _ (List.mem_cons_of_mem _ (List.mem_cons_self ..)))))).1, (rk_seven (h.hl.2 _ (List.mem_cons_of_mem _ (List.mem_cons_of_mem _ (List.mem_cons_of_mem _ (List.mem_cons_self ..)))))).2.1, (rk_seven (h.hl.2 _ (List.mem_cons_of_mem _ (List.mem_cons_of_mem _ (List.mem_cons_of_mem _ (List.mem_cons_self ..)))))).2.2.1, (rk_seven (h.hl.2 _ (List.mem_cons_of_mem _ (List.mem_cons_of_mem _ (List.mem_cons_of_mem _ (List.mem_cons_self ..)))))).2.2.2.1, (rk_seven (h.hl.2 _ (List.mem_cons_of_mem _ (List.mem_cons_of_mem _ (List.mem_cons_of_mem _ (List.mem_cons_self ..)))))).2.2.2.2.1, (rk_seven (h.hl.2 _ (List.mem_cons_of_mem _ (List.mem_cons_of_mem _ (List.mem_cons_of_mem _ (List.mem_cons_self ..)))))).2.2.2.2.2.1, (rk_seven (h.hl.2 _ (List.mem_cons_of_mem _ (List.mem_cons_of_mem _ (List.mem_cons_of_mem _ (List.mem_cons_self ..)))))).2.2.2.2.2.2.1, h⟩)
    have hw0 : w0.heap.size ≤ w6.heap.size := S_w6.out.hl.1.size
    go_region_held3 (fun w' => w'.cell? ⟨w5.heap.size, 0, none⟩ = some (.bool qa.up) ∧ w'.cell? ⟨w5.heap.size, 1, none⟩ = some (.slice ga gn gc) ∧ w'.cell? ⟨w5.heap.size, 2, none⟩ = some (.slice gA gN gC) ∧ w'.cell? ⟨w5.heap.size, 3, none⟩ = some (.int .i64 qa.head.no) ∧ w'.cell? ⟨w5.heap.size, 4, none⟩ = some (.int .i64 qa.head.area) ∧ w'.cell? ⟨w5.heap.size, 5, none⟩ = some (.int .i64 qa.head.en) ∧ w'.cell? ⟨w5.heap.size, 6, none⟩ = some (.slice gp gq gr) ∧ w'.cell? ⟨w4.heap.size, 0, none⟩ = some (.bool a.up) ∧ w'.cell? ⟨w4.heap.size, 1, none⟩ = some (.slice xa xn xc) ∧ w'.cell? ⟨w4.heap.size, 2, none⟩ = some (.slice xA xN xC) ∧ w'.cell? ⟨w4.heap.size, 3, none⟩ = some (.int .i64 a.head.no) ∧ w'.cell? ⟨w4.heap.size, 4, none⟩ = some (.int .i64 a.head.area) ∧ w'.cell? ⟨w4.heap.size, 5, none⟩ = some (.int .i64 a.head.en) ∧ w'.cell? ⟨w4.heap.size, 6, none⟩ = some (.slice xp xq xr) ∧ w'.cell? ⟨w3.heap.size, 0, none⟩ = some (.bool qa.up) ∧ w'.cell? ⟨w3.heap.size, 1, none⟩ = some (.slice ba bn bc) ∧ w'.cell? ⟨w3.heap.size, 2, none⟩ = some (.slice bA bN bC) ∧ w'.cell? ⟨w3.heap.size, 3, none⟩ = some (.int .i64 qa.head.no) ∧ w'.cell? ⟨w3.heap.size, 4, none⟩ = some (.int .i64 qa.head.area) ∧ w'.cell? ⟨w3.heap.size, 5, none⟩ = some (.int .i64 qa.head.en) ∧ w'.cell? ⟨w3.heap.size, 6, none⟩ = some (.slice bp bq br) ∧ w'.cell? ⟨w0.heap.size, 0, none⟩ = some (.bool a.up) ∧ w'.cell? ⟨w0.heap.size, 1, none⟩ = some (.slice sa sn sc) ∧ w'.cell? ⟨w0.heap.size, 2, none⟩ = some (.slice sA sN sC) ∧ w'.cell? ⟨w0.heap.size, 3, none⟩ = some (.int .i64 a.head.no) ∧ w'.cell? ⟨w0.heap.size, 4, none⟩ = some (.int .i64 a.head.area) ∧ w'.cell? ⟨w0.heap.size, 5, none⟩ = some (.int .i64 a.head.en) ∧ w'.cell? ⟨w0.heap.size, 6, none⟩ = some (.slice sp sq sr) ∧ La w0 [(w5.heap.size, #[.bool qa.up, .slice ga gn gc, .slice gA gN gC, .int .i64 qa.head.no, .int .i64 qa.head.area, .int .i64 qa.head.en, .slice gp gq gr], 38), (w4.heap.size, #[.bool a.up, .slice xa xn xc, .slice xA xN xC, .int .i64 a.head.no, .int .i64 a.head.area, .int .i64 a.head.en, .slice xp xq xr], 38), (w3.heap.size, #[.bool qa.up, .slice ba bn bc, .slice bA bN bC, .int .i64 qa.head.no, .int .i64 qa.head.area, .int .i64 qa.head.en, .slice bp bq br], 38), (w0.heap.size, #[.bool a.up, .slice sa sn sc, .slice sA sN sC, .int .i64 a.head.no, .int .i64 a.head.area, .int .i64 a.head.en, .slice sp sq sr], 30)] [(w4a.heap.size, w5.heap.size, .agg #[.bool qa.up, .slice ga gn gc, .slice gA gN gC, .int .i64 qa.head.no, .int .i64 qa.head.area, .int .i64 qa.head.en, .slice gp gq gr], qa), (w3a.heap.size, w4.heap.size, .agg #[.bool a.up, .slice xa xn xc, .slice xA xN xC, .int .i64 a.head.no, .int .i64 a.head.area, .int .i64 a.head.en, .slice xp xq xr], a), (w2.heap.size, w3.heap.size, .agg #[.bool qa.up, .slice ba bn bc, .slice bA bN bC, .int .i64 qa.head.no, .int .i64 qa.head.area, .int .i64 qa.head.en, .slice bp bq br], qa), (w1.heap.size, w2.heap.size, .agg #[.bool a.up, .slice fa fn fc, .slice fA fN fC, .int .i64 a.head.no, .int .i64 a.head.area, .int .i64 a.head.en, .slice fp fq fr], a)] [] [] w')
      (first | exact HS.out _ KD.out | exact HS.out _ Q0.out | exact HS.out _ Q1.out)
      (first
        | (go_at_call 7
           refine Calls.mono (CTA.out _ _ _ _ _ (‹_ ∧ _ ∧ _ ∧ _ ∧ _ ∧ _ ∧ _ ∧ _ ∧ _ ∧ _ ∧ _ ∧ _ ∧ _ ∧ _ ∧ _ ∧ _ ∧ _ ∧ _ ∧ _ ∧ _ ∧ _ ∧ _ ∧ _ ∧ _ ∧ _ ∧ _ ∧ _ ∧ _ ∧ La _ _ _ _ _ _›).2.2.2.2.2.2.2.2.2.2.2.2.2.2.2.2.2.2.2.2.2.2.2.2.2.2.2.2) ?_
           rintro e y0 ⟨ta, tn, tc, tA, tN, tC, tp, tq, tr, rfl, l0, o0, b0⟩
           have O0 := (show Hid (OwnAy w0.heap.size y0 (.agg #[.bool a.up, .slice ta tn tc, .slice tA tN tC, .int .i64 a.head.no, .int .i64 a.head.area, .int .i64 a.head.en, .slice tp tq tr]) a) from o0)
           clear o0
           have Q0 := (show Hid (La w0 [(w5.heap.size, #[.bool qa.up, .slice ga gn gc, .slice gA gN gC, .int .i64 qa.head.no, .int .i64 qa.head.area, .int .i64 qa.head.en, .slice gp gq gr], 38), (w4.heap.size, #[.bool a.up, .slice xa xn xc, .slice xA xN xC, .int .i64 a.head.no, .int .i64 a.head.area, .int .i64 a.head.en, .slice xp xq xr], 38), (w3.heap.size, #[.bool qa.up, .slice ba bn bc, .slice bA bN bC, .int .i64 qa.head.no, .int .i64 qa.head.area, .int .i64 qa.head.en, .slice bp bq br], 38), (w0.heap.size, #[.bool a.up, .slice sa sn sc, .slice sA sN sC, .int .i64 a.head.no, .int .i64 a.head.area, .int .i64 a.head.en, .slice sp sq sr], 30)] [(w4a.heap.size, w5.heap.size, .agg #[.bool qa.up, .slice ga gn gc, .slice gA gN gC, .int .i64 qa.head.no, .int .i64 qa.head.area, .int .i64 qa.head.en, .slice gp gq gr], qa), (w3a.heap.size, w4.heap.size, .agg #[.bool a.up, .slice xa xn xc, .slice xA xN xC, .int .i64 a.head.no, .int .i64 a.head.area, .int .i64 a.head.en, .slice xp xq xr], a), (w2.heap.size, w3.heap.size, .agg #[.bool qa.up, .slice ba bn bc, .slice bA bN bC, .int .i64 qa.head.no, .int .i64 qa.head.area, .int .i64 qa.head.en, .slice bp bq br], qa), (w1.heap.size, w2.heap.size, .agg #[.bool a.up, .slice fa fn fc, .slice fA fN fC, .int .i64 a.head.no, .int .i64 a.head.area, .int .i64 a.head.en, .slice fp fq fr], a)] [] [] y0) from l0)
           have z0 : w6.heap.size ≤ y0.heap.size := b0.size
           clear l0 b0)
        | (go_at_call 9
           refine Calls.mono (Q0.out.eqA (Q0.out.rows _ (List.mem_cons_of_mem _ (List.mem_cons_self ..))).1.at O0.out.at HF.out) ?_
           rintro e w7 ⟨rfl, l1, b1⟩
           have Q1 := (show Hid (La w0 [(w5.heap.size, #[.bool qa.up, .slice ga gn gc, .slice gA gN gC, .int .i64 qa.head.no, .int .i64 qa.head.area, .int .i64 qa.head.en, .slice gp gq gr], 38), (w4.heap.size, #[.bool a.up, .slice xa xn xc, .slice xA xN xC, .int .i64 a.head.no, .int .i64 a.head.area, .int .i64 a.head.en, .slice xp xq xr], 38), (w3.heap.size, #[.bool qa.up, .slice ba bn bc, .slice bA bN bC, .int .i64 qa.head.no, .int .i64 qa.head.area, .int .i64 qa.head.en, .slice bp bq br], 38), (w0.heap.size, #[.bool a.up, .slice sa sn sc, .slice sA sN sC, .int .i64 a.head.no, .int .i64 a.head.area, .int .i64 a.head.en, .slice sp sq sr], 30)] [(w4a.heap.size, w5.heap.size, .agg #[.bool qa.up, .slice ga gn gc, .slice gA gN gC, .int .i64 qa.head.no, .int .i64 qa.head.area, .int .i64 qa.head.en, .slice gp gq gr], qa), (w3a.heap.size, w4.heap.size, .agg #[.bool a.up, .slice xa xn xc, .slice xA xN xC, .int .i64 a.head.no, .int .i64 a.head.area, .int .i64 a.head.en, .slice xp xq xr], a), (w2.heap.size, w3.heap.size, .agg #[.bool qa.up, .slice ba bn bc, .slice bA bN bC, .int .i64 qa.head.no, .int .i64 qa.head.area, .int .i64 qa.head.en, .slice bp bq br], qa), (w1.heap.size, w2.heap.size, .agg #[.bool a.up, .slice fa fn fc, .slice fA fN fC, .int .i64 a.head.no, .int .i64 a.head.area, .int .i64 a.head.en, .slice fp fq fr], a)] [] [] w7) from l1)
           have z1 : w6.heap.size ≤ w7.heap.size := Nat.le_trans z0 b1.size
           clear l1 b1))
    have S_w7 := (show Hid (La w0 [(w5.heap.size, #[.bool qa.up, .slice ga gn gc, .slice gA gN gC, .int .i64 qa.head.no, .int .i64 qa.head.area, .int .i64 qa.head.en, .slice gp gq gr], 38), (w4.heap.size, #[.bool a.up, .slice xa xn xc, .slice xA xN xC, .int .i64 a.head.no, .int .i64 a.head.area, .int .i64 a.head.en, .slice xp xq xr], 38), (w3.heap.size, #[.bool qa.up, .slice ba bn bc, .slice bA bN bC, .int .i64 qa.head.no, .int .i64 qa.head.area, .int .i64 qa.head.en, .slice bp bq br], 38), (w0.heap.size, #[.bool a.up, .slice sa sn sc, .slice sA sN sC, .int .i64 a.head.no, .int .i64 a.head.area, .int .i64 a.head.en, .slice sp sq sr], 30)] [(w4a.heap.size, w5.heap.size, .agg #[.bool qa.up, .slice ga gn gc, .slice gA gN gC, .int .i64 qa.head.no, .int .i64 qa.head.area, .int .i64 qa.head.en, .slice gp gq gr], qa), (w3a.heap.size, w4.heap.size, .agg #[.bool a.up, .slice xa xn xc, .slice xA xN xC, .int .i64 a.head.no, .int .i64 a.head.area, .int .i64 a.head.en, .slice xp xq xr], a), (w2.heap.size, w3.heap.size, .agg #[.bool qa.up, .slice ba bn bc, .slice bA bN bC, .int .i64 qa.head.no, .int .i64 qa.head.area, .int .i64 qa.head.en, .slice bp bq br], qa), (w1.heap.size, w2.heap.size, .agg #[.bool a.up, .slice fa fn fc, .slice fA fN fC, .int .i64 a.head.no, .int .i64 a.head.area, .int .i64 a.head.en, .slice fp fq fr], a)] [] [] w7) from Q1.out)
    have Z9 := (show Hid (w6.heap.size ≤ w7.heap.size) from z1)
    clear Q1 Q0 O0 KD HS hw0 S_w6 z0 z1
    have T_w7 := (show Hid (La w0 [(w5.heap.size, #[.bool qa.up, .slice ga gn gc, .slice gA gN gC, .int .i64 qa.head.no, .int .i64 qa.head.area, .int .i64 qa.head.en, .slice gp gq gr], 38), (w4.heap.size, #[.bool a.up, .slice xa xn xc, .slice xA xN xC, .int .i64 a.head.no, .int .i64 a.head.area, .int .i64 a.head.en, .slice xp xq xr], 38), (w3.heap.size, #[.bool qa.up, .slice ba bn bc, .slice bA bN bC, .int .i64 qa.head.no, .int .i64 qa.head.area, .int .i64 qa.head.en, .slice bp bq br], 38), (w0.heap.size, #[.bool a.up, .slice sa sn sc, .slice sA sN sC, .int .i64 a.head.no, .int .i64 a.head.area, .int .i64 a.head.en, .slice sp sq sr], 30)] [(w3a.heap.size, w4.heap.size, .agg #[.bool a.up, .slice xa xn xc, .slice xA xN xC, .int .i64 a.head.no, .int .i64 a.head.area, .int .i64 a.head.en, .slice xp xq xr], a), (w4a.heap.size, w5.heap.size, .agg #[.bool qa.up, .slice ga gn gc, .slice gA gN gC, .int .i64 qa.head.no, .int .i64 qa.head.area, .int .i64 qa.head.en, .slice gp gq gr], qa), (w2.heap.size, w3.heap.size, .agg #[.bool qa.up, .slice ba bn bc, .slice bA bN bC, .int .i64 qa.head.no, .int .i64 qa.head.area, .int .i64 qa.head.en, .slice bp bq br], qa), (w1.heap.size, w2.heap.size, .agg #[.bool a.up, .slice fa fn fc, .slice fA fN fC, .int .i64 a.head.no, .int .i64 a.head.area, .int .i64 a.head.en, .slice fp fq fr], a)] [] [] w7) from S_w7.out.sub (by simp) (by simp) (by simp) (by simp))
    clear S_w7
    have S_w7 := T_w7
    clear T_w7
    have hlo : w0.heap.size ≤ w3a.heap.size := by have := Z0.out; have := Z1.out; have := Z2.out; have := Z3.out; have := Z4.out; have := Z5.out; have := Z6.out; have := Z7.out; have := Z8.out; have := Z9.out; omega
    have hR : ∀ r ∈ ([(w4a.heap.size, w5.heap.size, .agg #[.bool qa.up, .slice ga gn gc, .slice gA gN gC, .int .i64 qa.head.no, .int .i64 qa.head.area, .int .i64 qa.head.en, .slice gp gq gr], qa), (w2.heap.size, w3.heap.size, .agg #[.bool qa.up, .slice ba bn bc, .slice bA bN bC, .int .i64 qa.head.no, .int .i64 qa.head.area, .int .i64 qa.head.en, .slice bp bq br], qa), (w1.heap.size, w2.heap.size, .agg #[.bool a.up, .slice fa fn fc, .slice fA fN fC, .int .i64 a.head.no, .int .i64 a.head.area, .int .i64 a.head.en, .slice fp fq fr], a)] : List (Nat × Nat × Value × PArch)), r.2.1 ≤ w3a.heap.size ∨ w4.heap.size ≤ r.1 := by
      intro r hr
      simp only [List.mem_cons, List.not_mem_nil, or_false] at hr
      rcases hr with rfl | rfl | rfl
      · show w5.heap.size ≤ w3a.heap.size ∨ w4.heap.size ≤ w4a.heap.size
        have := Z0.out; have := Z1.out; have := Z2.out; have := Z3.out; have := Z4.out; have := Z5.out; have := Z6.out; have := Z7.out; have := Z8.out; have := Z9.out; omega
      · show w3.heap.size ≤ w3a.heap.size ∨ w4.heap.size ≤ w2.heap.size
        have := Z0.out; have := Z1.out; have := Z2.out; have := Z3.out; have := Z4.out; have := Z5.out; have := Z6.out; have := Z7.out; have := Z8.out; have := Z9.out; omega
      · show w2.heap.size ≤ w3a.heap.size ∨ w4.heap.size ≤ w1.heap.size
        have := Z0.out; have := Z1.out; have := Z2.out; have := Z3.out; have := Z4.out; have := Z5.out; have := Z6.out; have := Z7.out; have := Z8.out; have := Z9.out; omega
    have hS : ∀ r ∈ ([] : List (Nat × Nat × Value × List ByteArray)), r.2.1 ≤ w3a.heap.size ∨ w4.heap.size ≤ r.1 := by
      intro r hr
      cases hr
    have CM := (show Hid _ from S_w7.out.mkA HF.out hlo hR hS (by simp))
    clear hlo hR hS
    obtain ⟨c0_0, c0_1, c0_2, c0_3, c0_4, c0_5, c0_6, _⟩ := rk_seven (S_w7.out.hl.2 _ (List.mem_cons_self ..))
    obtain ⟨c1_0, c1_1, c1_2, c1_3, c1_4, c1_5, c1_6, _⟩ := rk_seven (S_w7.out.hl.2 _ (List.mem_cons_of_mem _ (List.mem_cons_self ..)))
    obtain ⟨c2_0, c2_1, c2_2, c2_3, c2_4, c2_5, c2_6, _⟩ := rk_seven (S_w7.out.hl.2 _ (List.mem_cons_of_mem _ (List.mem_cons_of_mem _ (List.mem_cons_self ..))))
    obtain ⟨c3_0, c3_1, c3_2, c3_3, c3_4, c3_5, c3_6, _⟩ := rk_seven (S_w7.out.hl.2 _ (List.mem_cons_of_mem _ (List.mem_cons_of_mem _ (List.mem_cons_of_mem _ (List.mem_cons_self ..)))))
    go_wp2_with fail
    go_at_call 10
    refine Calls.mono CM.out ?_
    rintro e w8 ⟨rfl, lw8, zw8⟩
    clear CM
    have Z10 := (show Hid (w7.heap.size ≤ w8.heap.size) from zw8)
    have S_w8 := (show Hid (La w0 [(w5.heap.size, #[.bool qa.up, .slice ga gn gc, .slice gA gN gC, .int .i64 qa.head.no, .int .i64 qa.head.area, .int .i64 qa.head.en, .slice gp gq gr], 38), (w4.heap.size, #[.bool a.up, .slice xa xn xc, .slice xA xN xC, .int .i64 a.head.no, .int .i64 a.head.area, .int .i64 a.head.en, .slice xp xq xr], 38), (w3.heap.size, #[.bool qa.up, .slice ba bn bc, .slice bA bN bC, .int .i64 qa.head.no, .int .i64 qa.head.area, .int .i64 qa.head.en, .slice bp bq br], 38), (w0.heap.size, #[.bool a.up, .slice sa sn sc, .slice sA sN sC, .int .i64 a.head.no, .int .i64 a.head.area, .int .i64 a.head.en, .slice sp sq sr], 30)] [(w3a.heap.size, w4.heap.size, .agg #[.bool a.up, .slice xa xn xc, .slice xA xN xC, .int .i64 a.head.no, .int .i64 a.head.area, .int .i64 a.head.en, .slice xp xq xr], (markA a)), (w4a.heap.size, w5.heap.size, .agg #[.bool qa.up, .slice ga gn gc, .slice gA gN gC, .int .i64 qa.head.no, .int .i64 qa.head.area, .int .i64 qa.head.en, .slice gp gq gr], qa), (w2.heap.size, w3.heap.size, .agg #[.bool qa.up, .slice ba bn bc, .slice bA bN bC, .int .i64 qa.head.no, .int .i64 qa.head.area, .int .i64 qa.head.en, .slice bp bq br], qa), (w1.heap.size, w2.heap.size, .agg #[.bool a.up, .slice fa fn fc, .slice fA fN fC, .int .i64 a.head.no, .int .i64 a.head.area, .int .i64 a.head.en, .slice fp fq fr], a)] [] [] w8) from lw8)
    clear S_w7 lw8 zw8
    clear c0_0 c0_1 c0_2 c0_3 c0_4 c0_5 c0_6 c1_0 c1_1 c1_2 c1_3 c1_4 c1_5 c1_6 c2_0 c2_1 c2_2 c2_3 c2_4 c2_5 c2_6 c3_0 c3_1 c3_2 c3_3 c3_4 c3_5 c3_6
    obtain ⟨c0_0, c0_1, c0_2, c0_3, c0_4, c0_5, c0_6, _⟩ := rk_seven (S_w8.out.hl.2 _ (List.mem_cons_self ..))
    obtain ⟨c1_0, c1_1, c1_2, c1_3, c1_4, c1_5, c1_6, _⟩ := rk_seven (S_w8.out.hl.2 _ (List.mem_cons_of_mem _ (List.mem_cons_self ..)))
    obtain ⟨c2_0, c2_1, c2_2, c2_3, c2_4, c2_5, c2_6, _⟩ := rk_seven (S_w8.out.hl.2 _ (List.mem_cons_of_mem _ (List.mem_cons_of_mem _ (List.mem_cons_self ..))))
    obtain ⟨c3_0, c3_1, c3_2, c3_3, c3_4, c3_5, c3_6, _⟩ := rk_seven (S_w8.out.hl.2 _ (List.mem_cons_of_mem _ (List.mem_cons_of_mem _ (List.mem_cons_of_mem _ (List.mem_cons_self ..)))))
    go_wp2_with fail
    go_at_call 9
    refine (S_w8.out.eqA (S_w8.out.rows _ (List.mem_cons_of_mem _ (List.mem_cons_self ..))).1.at (S_w8.out.rows _ (List.mem_cons_of_mem _ (List.mem_cons_of_mem _ (List.mem_cons_self ..)))).1.at FQ.out).mono ?_
    rintro e w9 ⟨rfl, lw9, bw9⟩
    have Z11 := (show Hid (w8.heap.size ≤ w9.heap.size) from bw9.size)
    have S_w9 := (show Hid (La w0 [(w5.heap.size, #[.bool qa.up, .slice ga gn gc, .slice gA gN gC, .int .i64 qa.head.no, .int .i64 qa.head.area, .int .i64 qa.head.en, .slice gp gq gr], 38), (w4.heap.size, #[.bool a.up, .slice xa xn xc, .slice xA xN xC, .int .i64 a.head.no, .int .i64 a.head.area, .int .i64 a.head.en, .slice xp xq xr], 38), (w3.heap.size, #[.bool qa.up, .slice ba bn bc, .slice bA bN bC, .int .i64 qa.head.no, .int .i64 qa.head.area, .int .i64 qa.head.en, .slice bp bq br], 38), (w0.heap.size, #[.bool a.up, .slice sa sn sc, .slice sA sN sC, .int .i64 a.head.no, .int .i64 a.head.area, .int .i64 a.head.en, .slice sp sq sr], 30)] [(w3a.heap.size, w4.heap.size, .agg #[.bool a.up, .slice xa xn xc, .slice xA xN xC, .int .i64 a.head.no, .int .i64 a.head.area, .int .i64 a.head.en, .slice xp xq xr], (markA a)), (w4a.heap.size, w5.heap.size, .agg #[.bool qa.up, .slice ga gn gc, .slice gA gN gC, .int .i64 qa.head.no, .int .i64 qa.head.area, .int .i64 qa.head.en, .slice gp gq gr], qa), (w2.heap.size, w3.heap.size, .agg #[.bool qa.up, .slice ba bn bc, .slice bA bN bC, .int .i64 qa.head.no, .int .i64 qa.head.area, .int .i64 qa.head.en, .slice bp bq br], qa), (w1.heap.size, w2.heap.size, .agg #[.bool a.up, .slice fa fn fc, .slice fA fN fC, .int .i64 a.head.no, .int .i64 a.head.area, .int .i64 a.head.en, .slice fp fq fr], a)] [] [] w9) from lw9)
    clear S_w8 bw9
    clear c0_0 c0_1 c0_2 c0_3 c0_4 c0_5 c0_6 c1_0 c1_1 c1_2 c1_3 c1_4 c1_5 c1_6 c2_0 c2_1 c2_2 c2_3 c2_4 c2_5 c2_6 c3_0 c3_1 c3_2 c3_3 c3_4 c3_5 c3_6
    clear lw9
    have T_w9 := (show Hid (La w0 [(w5.heap.size, #[.bool qa.up, .slice ga gn gc, .slice gA gN gC, .int .i64 qa.head.no, .int .i64 qa.head.area, .int .i64 qa.head.en, .slice gp gq gr], 38), (w4.heap.size, #[.bool a.up, .slice xa xn xc, .slice xA xN xC, .int .i64 a.head.no, .int .i64 a.head.area, .int .i64 a.head.en, .slice xp xq xr], 38), (w3.heap.size, #[.bool qa.up, .slice ba bn bc, .slice bA bN bC, .int .i64 qa.head.no, .int .i64 qa.head.area, .int .i64 qa.head.en, .slice bp bq br], 38), (w0.heap.size, #[.bool a.up, .slice sa sn sc, .slice sA sN sC, .int .i64 a.head.no, .int .i64 a.head.area, .int .i64 a.head.en, .slice sp sq sr], 30)] [(w4a.heap.size, w5.heap.size, .agg #[.bool qa.up, .slice ga gn gc, .slice gA gN gC, .int .i64 qa.head.no, .int .i64 qa.head.area, .int .i64 qa.head.en, .slice gp gq gr], qa), (w3a.heap.size, w4.heap.size, .agg #[.bool a.up, .slice xa xn xc, .slice xA xN xC, .int .i64 a.head.no, .int .i64 a.head.area, .int .i64 a.head.en, .slice xp xq xr], (markA a)), (w2.heap.size, w3.heap.size, .agg #[.bool qa.up, .slice ba bn bc, .slice bA bN bC, .int .i64 qa.head.no, .int .i64 qa.head.area, .int .i64 qa.head.en, .slice bp bq br], qa), (w1.heap.size, w2.heap.size, .agg #[.bool a.up, .slice fa fn fc, .slice fA fN fC, .int .i64 a.head.no, .int .i64 a.head.area, .int .i64 a.head.en, .slice fp fq fr], a)] [] [] w9) from S_w9.out.sub (by simp) (by simp) (by simp) (by simp))
    clear S_w9
    have S_w9 := T_w9
    clear T_w9
    have hlo : w0.heap.size ≤ w4a.heap.size := by have := Z0.out; have := Z1.out; have := Z2.out; have := Z3.out; have := Z4.out; have := Z5.out; have := Z6.out; have := Z7.out; have := Z8.out; have := Z9.out; have := Z10.out; have := Z11.out; omega
    have hR : ∀ r ∈ ([(w3a.heap.size, w4.heap.size, .agg #[.bool a.up, .slice xa xn xc, .slice xA xN xC, .int .i64 a.head.no, .int .i64 a.head.area, .int .i64 a.head.en, .slice xp xq xr], (markA a)), (w2.heap.size, w3.heap.size, .agg #[.bool qa.up, .slice ba bn bc, .slice bA bN bC, .int .i64 qa.head.no, .int .i64 qa.head.area, .int .i64 qa.head.en, .slice bp bq br], qa), (w1.heap.size, w2.heap.size, .agg #[.bool a.up, .slice fa fn fc, .slice fA fN fC, .int .i64 a.head.no, .int .i64 a.head.area, .int .i64 a.head.en, .slice fp fq fr], a)] : List (Nat × Nat × Value × PArch)), r.2.1 ≤ w4a.heap.size ∨ w5.heap.size ≤ r.1 := by
      intro r hr
      simp only [List.mem_cons, List.not_mem_nil, or_false] at hr
      rcases hr with rfl | rfl | rfl
      · show w4.heap.size ≤ w4a.heap.size ∨ w5.heap.size ≤ w3a.heap.size
        have := Z0.out; have := Z1.out; have := Z2.out; have := Z3.out; have := Z4.out; have := Z5.out; have := Z6.out; have := Z7.out; have := Z8.out; have := Z9.out; have := Z10.out; have := Z11.out; omega
      · show w3.heap.size ≤ w4a.heap.size ∨ w5.heap.size ≤ w2.heap.size
        have := Z0.out; have := Z1.out; have := Z2.out; have := Z3.out; have := Z4.out; have := Z5.out; have := Z6.out; have := Z7.out; have := Z8.out; have := Z9.out; have := Z10.out; have := Z11.out; omega
      · show w2.heap.size ≤ w4a.heap.size ∨ w5.heap.size ≤ w1.heap.size
        have := Z0.out; have := Z1.out; have := Z2.out; have := Z3.out; have := Z4.out; have := Z5.out; have := Z6.out; have := Z7.out; have := Z8.out; have := Z9.out; have := Z10.out; have := Z11.out; omega
    have hS : ∀ r ∈ ([] : List (Nat × Nat × Value × List ByteArray)), r.2.1 ≤ w4a.heap.size ∨ w5.heap.size ≤ r.1 := by
      intro r hr
      cases hr
    have CM := (show Hid _ from S_w9.out.mkA FQ.out hlo hR hS (by simp))
    clear hlo hR hS
    obtain ⟨c0_0, c0_1, c0_2, c0_3, c0_4, c0_5, c0_6, _⟩ := rk_seven (S_w9.out.hl.2 _ (List.mem_cons_self ..))
    obtain ⟨c1_0, c1_1, c1_2, c1_3, c1_4, c1_5, c1_6, _⟩ := rk_seven (S_w9.out.hl.2 _ (List.mem_cons_of_mem _ (List.mem_cons_self ..)))
    obtain ⟨c2_0, c2_1, c2_2, c2_3, c2_4, c2_5, c2_6, _⟩ := rk_seven (S_w9.out.hl.2 _ (List.mem_cons_of_mem _ (List.mem_cons_of_mem _ (List.mem_cons_self ..))))
    obtain ⟨c3_0, c3_1, c3_2, c3_3, c3_4, c3_5, c3_6, _⟩ := rk_seven (S_w9.out.hl.2 _ (List.mem_cons_of_mem _ (List.mem_cons_of_mem _ (List.mem_cons_of_mem _ (List.mem_cons_self ..)))))
    go_wp2_with fail
    go_at_call 10
    refine Calls.mono CM.out ?_
    rintro e w10 ⟨rfl, lw10, zw10⟩
    clear CM
    have Z12 := (show Hid (w9.heap.size ≤ w10.heap.size) from zw10)
    have S_w10 := (show Hid (La w0 [(w5.heap.size, #[.bool qa.up, .slice ga gn gc, .slice gA gN gC, .int .i64 qa.head.no, .int .i64 qa.head.area, .int .i64 qa.head.en, .slice gp gq gr], 38), (w4.heap.size, #[.bool a.up, .slice xa xn xc, .slice xA xN xC, .int .i64 a.head.no, .int .i64 a.head.area, .int .i64 a.head.en, .slice xp xq xr], 38), (w3.heap.size, #[.bool qa.up, .slice ba bn bc, .slice bA bN bC, .int .i64 qa.head.no, .int .i64 qa.head.area, .int .i64 qa.head.en, .slice bp bq br], 38), (w0.heap.size, #[.bool a.up, .slice sa sn sc, .slice sA sN sC, .int .i64 a.head.no, .int .i64 a.head.area, .int .i64 a.head.en, .slice sp sq sr], 30)] [(w4a.heap.size, w5.heap.size, .agg #[.bool qa.up, .slice ga gn gc, .slice gA gN gC, .int .i64 qa.head.no, .int .i64 qa.head.area, .int .i64 qa.head.en, .slice gp gq gr], (markA qa)), (w3a.heap.size, w4.heap.size, .agg #[.bool a.up, .slice xa xn xc, .slice xA xN xC, .int .i64 a.head.no, .int .i64 a.head.area, .int .i64 a.head.en, .slice xp xq xr], (markA a)), (w2.heap.size, w3.heap.size, .agg #[.bool qa.up, .slice ba bn bc, .slice bA bN bC, .int .i64 qa.head.no, .int .i64 qa.head.area, .int .i64 qa.head.en, .slice bp bq br], qa), (w1.heap.size, w2.heap.size, .agg #[.bool a.up, .slice fa fn fc, .slice fA fN fC, .int .i64 a.head.no, .int .i64 a.head.area, .int .i64 a.head.en, .slice fp fq fr], a)] [] [] w10) from lw10)
    clear S_w9 lw10 zw10
    clear c0_0 c0_1 c0_2 c0_3 c0_4 c0_5 c0_6 c1_0 c1_1 c1_2 c1_3 c1_4 c1_5 c1_6 c2_0 c2_1 c2_2 c2_3 c2_4 c2_5 c2_6 c3_0 c3_1 c3_2 c3_3 c3_4 c3_5 c3_6
    obtain ⟨c0_0, c0_1, c0_2, c0_3, c0_4, c0_5, c0_6, _⟩ := rk_seven (S_w10.out.hl.2 _ (List.mem_cons_self ..))
    obtain ⟨c1_0, c1_1, c1_2, c1_3, c1_4, c1_5, c1_6, _⟩ := rk_seven (S_w10.out.hl.2 _ (List.mem_cons_of_mem _ (List.mem_cons_self ..)))
    obtain ⟨c2_0, c2_1, c2_2, c2_3, c2_4, c2_5, c2_6, _⟩ := rk_seven (S_w10.out.hl.2 _ (List.mem_cons_of_mem _ (List.mem_cons_of_mem _ (List.mem_cons_self ..))))
    obtain ⟨c3_0, c3_1, c3_2, c3_3, c3_4, c3_5, c3_6, _⟩ := rk_seven (S_w10.out.hl.2 _ (List.mem_cons_of_mem _ (List.mem_cons_of_mem _ (List.mem_cons_of_mem _ (List.mem_cons_self ..)))))
    go_wp2_with fail
    go_at_call 11
    refine (S_w10.out.heldA (a := qa) (S_w10.out.rows _ (List.mem_cons_self ..)).1.at FQ.out).mono ?_
    rintro e w11 ⟨rfl, lw11, bw11⟩
    have Z13 := (show Hid (w10.heap.size ≤ w11.heap.size) from bw11.size)
    have S_w11 := (show Hid (La w0 [(w5.heap.size, #[.bool qa.up, .slice ga gn gc, .slice gA gN gC, .int .i64 qa.head.no, .int .i64 qa.head.area, .int .i64 qa.head.en, .slice gp gq gr], 38), (w4.heap.size, #[.bool a.up, .slice xa xn xc, .slice xA xN xC, .int .i64 a.head.no, .int .i64 a.head.area, .int .i64 a.head.en, .slice xp xq xr], 38), (w3.heap.size, #[.bool qa.up, .slice ba bn bc, .slice bA bN bC, .int .i64 qa.head.no, .int .i64 qa.head.area, .int .i64 qa.head.en, .slice bp bq br], 38), (w0.heap.size, #[.bool a.up, .slice sa sn sc, .slice sA sN sC, .int .i64 a.head.no, .int .i64 a.head.area, .int .i64 a.head.en, .slice sp sq sr], 30)] [(w4a.heap.size, w5.heap.size, .agg #[.bool qa.up, .slice ga gn gc, .slice gA gN gC, .int .i64 qa.head.no, .int .i64 qa.head.area, .int .i64 qa.head.en, .slice gp gq gr], (markA qa)), (w3a.heap.size, w4.heap.size, .agg #[.bool a.up, .slice xa xn xc, .slice xA xN xC, .int .i64 a.head.no, .int .i64 a.head.area, .int .i64 a.head.en, .slice xp xq xr], (markA a)), (w2.heap.size, w3.heap.size, .agg #[.bool qa.up, .slice ba bn bc, .slice bA bN bC, .int .i64 qa.head.no, .int .i64 qa.head.area, .int .i64 qa.head.en, .slice bp bq br], qa), (w1.heap.size, w2.heap.size, .agg #[.bool a.up, .slice fa fn fc, .slice fA fN fC, .int .i64 a.head.no, .int .i64 a.head.area, .int .i64 a.head.en, .slice fp fq fr], a)] [] [] w11) from lw11)
    clear S_w10 bw11
    clear c0_0 c0_1 c0_2 c0_3 c0_4 c0_5 c0_6 c1_0 c1_1 c1_2 c1_3 c1_4 c1_5 c1_6 c2_0 c2_1 c2_2 c2_3 c2_4 c2_5 c2_6 c3_0 c3_1 c3_2 c3_3 c3_4 c3_5 c3_6
    clear lw11
    obtain ⟨c0_0, c0_1, c0_2, c0_3, c0_4, c0_5, c0_6, _⟩ := rk_seven (S_w11.out.hl.2 _ (List.mem_cons_self ..))
    obtain ⟨c1_0, c1_1, c1_2, c1_3, c1_4, c1_5, c1_6, _⟩ := rk_seven (S_w11.out.hl.2 _ (List.mem_cons_of_mem _ (List.mem_cons_self ..)))
    obtain ⟨c2_0, c2_1, c2_2, c2_3, c2_4, c2_5, c2_6, _⟩ := rk_seven (S_w11.out.hl.2 _ (List.mem_cons_of_mem _ (List.mem_cons_of_mem _ (List.mem_cons_self ..))))
    obtain ⟨c3_0, c3_1, c3_2, c3_3, c3_4, c3_5, c3_6, _⟩ := rk_seven (S_w11.out.hl.2 _ (List.mem_cons_of_mem _ (List.mem_cons_of_mem _ (List.mem_cons_of_mem _ (List.mem_cons_self ..)))))
    go_wp2_with fail
    go_at_call 7
    refine (S_w11.out.toA HD.out HF.out).mono ?_
    rintro e w12 ⟨ua, un, uc, uA, uN, uC, up, uq, ur, rfl, lw12, ow12, bw12⟩
    have Z14 := (show Hid (w11.heap.size ≤ w12.heap.size) from bw12.size)
    have S_w12 := (show Hid (La w0 [(w5.heap.size, #[.bool qa.up, .slice ga gn gc, .slice gA gN gC, .int .i64 qa.head.no, .int .i64 qa.head.area, .int .i64 qa.head.en, .slice gp gq gr], 38), (w4.heap.size, #[.bool a.up, .slice xa xn xc, .slice xA xN xC, .int .i64 a.head.no, .int .i64 a.head.area, .int .i64 a.head.en, .slice xp xq xr], 38), (w3.heap.size, #[.bool qa.up, .slice ba bn bc, .slice bA bN bC, .int .i64 qa.head.no, .int .i64 qa.head.area, .int .i64 qa.head.en, .slice bp bq br], 38), (w0.heap.size, #[.bool a.up, .slice sa sn sc, .slice sA sN sC, .int .i64 a.head.no, .int .i64 a.head.area, .int .i64 a.head.en, .slice sp sq sr], 30)] [(w11.heap.size, w12.heap.size, .agg #[.bool a.up, .slice ua un uc, .slice uA uN uC, .int .i64 a.head.no, .int .i64 a.head.area, .int .i64 a.head.en, .slice up uq ur], a), (w4a.heap.size, w5.heap.size, .agg #[.bool qa.up, .slice ga gn gc, .slice gA gN gC, .int .i64 qa.head.no, .int .i64 qa.head.area, .int .i64 qa.head.en, .slice gp gq gr], (markA qa)), (w3a.heap.size, w4.heap.size, .agg #[.bool a.up, .slice xa xn xc, .slice xA xN xC, .int .i64 a.head.no, .int .i64 a.head.area, .int .i64 a.head.en, .slice xp xq xr], (markA a)), (w2.heap.size, w3.heap.size, .agg #[.bool qa.up, .slice ba bn bc, .slice bA bN bC, .int .i64 qa.head.no, .int .i64 qa.head.area, .int .i64 qa.head.en, .slice bp bq br], qa), (w1.heap.size, w2.heap.size, .agg #[.bool a.up, .slice fa fn fc, .slice fA fN fC, .int .i64 a.head.no, .int .i64 a.head.area, .int .i64 a.head.en, .slice fp fq fr], a)] [] [] w12) from lw12.add ow12)
    clear S_w11 bw12
    clear c0_0 c0_1 c0_2 c0_3 c0_4 c0_5 c0_6 c1_0 c1_1 c1_2 c1_3 c1_4 c1_5 c1_6 c2_0 c2_1 c2_2 c2_3 c2_4 c2_5 c2_6 c3_0 c3_1 c3_2 c3_3 c3_4 c3_5 c3_6
    clear lw12 ow12
    obtain ⟨c0_0, c0_1, c0_2, c0_3, c0_4, c0_5, c0_6, _⟩ := rk_seven (S_w12.out.hl.2 _ (List.mem_cons_self ..))
    obtain ⟨c1_0, c1_1, c1_2, c1_3, c1_4, c1_5, c1_6, _⟩ := rk_seven (S_w12.out.hl.2 _ (List.mem_cons_of_mem _ (List.mem_cons_self ..)))
    obtain ⟨c2_0, c2_1, c2_2, c2_3, c2_4, c2_5, c2_6, _⟩ := rk_seven (S_w12.out.hl.2 _ (List.mem_cons_of_mem _ (List.mem_cons_of_mem _ (List.mem_cons_self ..))))
    obtain ⟨c3_0, c3_1, c3_2, c3_3, c3_4, c3_5, c3_6, _⟩ := rk_seven (S_w12.out.hl.2 _ (List.mem_cons_of_mem _ (List.mem_cons_of_mem _ (List.mem_cons_of_mem _ (List.mem_cons_self ..)))))
    go_wp2_with fail
    go_at_call 13
    refine (CI.out _ _ _ _ _ _ w12.heap.size S_w12.out (Nat.le_refl _) (S_w12.out.rows _ (List.mem_cons_self ..)).1.at).mono ?_
    rintro e w13 ⟨ka, kn, kc, kA, kN, kC, kp, kq, kr, rfl, ow13, lw13, bw13⟩
    have Z15 := (show Hid (w12.heap.size ≤ w13.heap.size) from bw13.size)
    have S_w13 := (show Hid (La w0 [(w5.heap.size, #[.bool qa.up, .slice ga gn gc, .slice gA gN gC, .int .i64 qa.head.no, .int .i64 qa.head.area, .int .i64 qa.head.en, .slice gp gq gr], 38), (w4.heap.size, #[.bool a.up, .slice xa xn xc, .slice xA xN xC, .int .i64 a.head.no, .int .i64 a.head.area, .int .i64 a.head.en, .slice xp xq xr], 38), (w3.heap.size, #[.bool qa.up, .slice ba bn bc, .slice bA bN bC, .int .i64 qa.head.no, .int .i64 qa.head.area, .int .i64 qa.head.en, .slice bp bq br], 38), (w0.heap.size, #[.bool a.up, .slice sa sn sc, .slice sA sN sC, .int .i64 a.head.no, .int .i64 a.head.area, .int .i64 a.head.en, .slice sp sq sr], 30)] [(w12.heap.size, w13.heap.size, .agg #[.bool qa.up, .slice ka kn kc, .slice kA kN kC, .int .i64 qa.head.no, .int .i64 qa.head.area, .int .i64 qa.head.en, .slice kp kq kr], qa), (w11.heap.size, w12.heap.size, .agg #[.bool a.up, .slice ua un uc, .slice uA uN uC, .int .i64 a.head.no, .int .i64 a.head.area, .int .i64 a.head.en, .slice up uq ur], a), (w4a.heap.size, w5.heap.size, .agg #[.bool qa.up, .slice ga gn gc, .slice gA gN gC, .int .i64 qa.head.no, .int .i64 qa.head.area, .int .i64 qa.head.en, .slice gp gq gr], (markA qa)), (w3a.heap.size, w4.heap.size, .agg #[.bool a.up, .slice xa xn xc, .slice xA xN xC, .int .i64 a.head.no, .int .i64 a.head.area, .int .i64 a.head.en, .slice xp xq xr], (markA a)), (w2.heap.size, w3.heap.size, .agg #[.bool qa.up, .slice ba bn bc, .slice bA bN bC, .int .i64 qa.head.no, .int .i64 qa.head.area, .int .i64 qa.head.en, .slice bp bq br], qa), (w1.heap.size, w2.heap.size, .agg #[.bool a.up, .slice fa fn fc, .slice fA fN fC, .int .i64 a.head.no, .int .i64 a.head.area, .int .i64 a.head.en, .slice fp fq fr], a)] [] [] w13) from lw13.add ow13)
    clear S_w12 bw13
    clear c0_0 c0_1 c0_2 c0_3 c0_4 c0_5 c0_6 c1_0 c1_1 c1_2 c1_3 c1_4 c1_5 c1_6 c2_0 c2_1 c2_2 c2_3 c2_4 c2_5 c2_6 c3_0 c3_1 c3_2 c3_3 c3_4 c3_5 c3_6
    clear lw13 ow13
    obtain ⟨w13a, hw13a⟩ : ∃ x, x = w13.alloc (.cells #[.bool qa.up, .slice ka kn kc, .slice kA kN kC, .int .i64 qa.head.no, .int .i64 qa.head.area, .int .i64 qa.head.en, .slice kp kq kr] 38) := ⟨_, rfl⟩
    have Z16 := (show Hid (w13.heap.size < w13a.heap.size) from (show w13.heap.size < w13a.heap.size by rw [hw13a, World.size_alloc]; omega))
    obtain ⟨o0_0, o0_1, o0_2, o0_3, o0_4, o0_5, o0_6, _⟩ := rk_seven (S_w13.out.hl.2 _ (List.mem_cons_self ..))
    have o0_l := lt_of_block (S_w13.out.hl.2 _ (List.mem_cons_self ..))
    obtain ⟨o1_0, o1_1, o1_2, o1_3, o1_4, o1_5, o1_6, _⟩ := rk_seven (S_w13.out.hl.2 _ (List.mem_cons_of_mem _ (List.mem_cons_self ..)))
    have o1_l := lt_of_block (S_w13.out.hl.2 _ (List.mem_cons_of_mem _ (List.mem_cons_self ..)))
    obtain ⟨o2_0, o2_1, o2_2, o2_3, o2_4, o2_5, o2_6, _⟩ := rk_seven (S_w13.out.hl.2 _ (List.mem_cons_of_mem _ (List.mem_cons_of_mem _ (List.mem_cons_self ..))))
    have o2_l := lt_of_block (S_w13.out.hl.2 _ (List.mem_cons_of_mem _ (List.mem_cons_of_mem _ (List.mem_cons_self ..))))
    obtain ⟨o3_0, o3_1, o3_2, o3_3, o3_4, o3_5, o3_6, _⟩ := rk_seven (S_w13.out.hl.2 _ (List.mem_cons_of_mem _ (List.mem_cons_of_mem _ (List.mem_cons_of_mem _ (List.mem_cons_self ..)))))
    have o3_l := lt_of_block (S_w13.out.hl.2 _ (List.mem_cons_of_mem _ (List.mem_cons_of_mem _ (List.mem_cons_of_mem _ (List.mem_cons_self ..)))))
    have S_w13a := (show Hid (La w0 [(w13.heap.size, #[.bool qa.up, .slice ka kn kc, .slice kA kN kC, .int .i64 qa.head.no, .int .i64 qa.head.area, .int .i64 qa.head.en, .slice kp kq kr], 38), (w5.heap.size, #[.bool qa.up, .slice ga gn gc, .slice gA gN gC, .int .i64 qa.head.no, .int .i64 qa.head.area, .int .i64 qa.head.en, .slice gp gq gr], 38), (w4.heap.size, #[.bool a.up, .slice xa xn xc, .slice xA xN xC, .int .i64 a.head.no, .int .i64 a.head.area, .int .i64 a.head.en, .slice xp xq xr], 38), (w3.heap.size, #[.bool qa.up, .slice ba bn bc, .slice bA bN bC, .int .i64 qa.head.no, .int .i64 qa.head.area, .int .i64 qa.head.en, .slice bp bq br], 38), (w0.heap.size, #[.bool a.up, .slice sa sn sc, .slice sA sN sC, .int .i64 a.head.no, .int .i64 a.head.area, .int .i64 a.head.en, .slice sp sq sr], 30)] [(w12.heap.size, w13.heap.size, .agg #[.bool qa.up, .slice ka kn kc, .slice kA kN kC, .int .i64 qa.head.no, .int .i64 qa.head.area, .int .i64 qa.head.en, .slice kp kq kr], qa), (w11.heap.size, w12.heap.size, .agg #[.bool a.up, .slice ua un uc, .slice uA uN uC, .int .i64 a.head.no, .int .i64 a.head.area, .int .i64 a.head.en, .slice up uq ur], a), (w4a.heap.size, w5.heap.size, .agg #[.bool qa.up, .slice ga gn gc, .slice gA gN gC, .int .i64 qa.head.no, .int .i64 qa.head.area, .int .i64 qa.head.en, .slice gp gq gr], (markA qa)), (w3a.heap.size, w4.heap.size, .agg #[.bool a.up, .slice xa xn xc, .slice xA xN xC, .int .i64 a.head.no, .int .i64 a.head.area, .int .i64 a.head.en, .slice xp xq xr], (markA a)), (w2.heap.size, w3.heap.size, .agg #[.bool qa.up, .slice ba bn bc, .slice bA bN bC, .int .i64 qa.head.no, .int .i64 qa.head.area, .int .i64 qa.head.en, .slice bp bq br], qa), (w1.heap.size, w2.heap.size, .agg #[.bool a.up, .slice fa fn fc, .slice fA fN fC, .int .i64 a.head.no, .int .i64 a.head.area, .int .i64 a.head.en, .slice fp fq fr], a)] [] [] w13a) from by rw [hw13a]; exact S_w13.out.new #[.bool qa.up, .slice ka kn kc, .slice kA kN kC, .int .i64 qa.head.no, .int .i64 qa.head.area, .int .i64 qa.head.en, .slice kp kq kr] 38)
    clear S_w13
    go_wp2_with fail
    go_at_call 9
    rw [← hw13a]
    clear hw13a
    refine (S_w13a.out.eqA (S_w13a.out.rows _ (List.mem_cons_self ..)).1.at (S_w13a.out.rows _ (List.mem_cons_of_mem _ (List.mem_cons_of_mem _ (List.mem_cons_of_mem _ (List.mem_cons_of_mem _ (List.mem_cons_self ..)))))).1.at FQ.out).mono ?_
    rintro e w14 ⟨rfl, lw14, bw14⟩
    have Z17 := (show Hid (w13a.heap.size ≤ w14.heap.size) from bw14.size)
    have S_w14 := (show Hid (La w0 [(w13.heap.size, #[.bool qa.up, .slice ka kn kc, .slice kA kN kC, .int .i64 qa.head.no, .int .i64 qa.head.area, .int .i64 qa.head.en, .slice kp kq kr], 38), (w5.heap.size, #[.bool qa.up, .slice ga gn gc, .slice gA gN gC, .int .i64 qa.head.no, .int .i64 qa.head.area, .int .i64 qa.head.en, .slice gp gq gr], 38), (w4.heap.size, #[.bool a.up, .slice xa xn xc, .slice xA xN xC, .int .i64 a.head.no, .int .i64 a.head.area, .int .i64 a.head.en, .slice xp xq xr], 38), (w3.heap.size, #[.bool qa.up, .slice ba bn bc, .slice bA bN bC, .int .i64 qa.head.no, .int .i64 qa.head.area, .int .i64 qa.head.en, .slice bp bq br], 38), (w0.heap.size, #[.bool a.up, .slice sa sn sc, .slice sA sN sC, .int .i64 a.head.no, .int .i64 a.head.area, .int .i64 a.head.en, .slice sp sq sr], 30)] [(w12.heap.size, w13.heap.size, .agg #[.bool qa.up, .slice ka kn kc, .slice kA kN kC, .int .i64 qa.head.no, .int .i64 qa.head.area, .int .i64 qa.head.en, .slice kp kq kr], qa), (w11.heap.size, w12.heap.size, .agg #[.bool a.up, .slice ua un uc, .slice uA uN uC, .int .i64 a.head.no, .int .i64 a.head.area, .int .i64 a.head.en, .slice up uq ur], a), (w4a.heap.size, w5.heap.size, .agg #[.bool qa.up, .slice ga gn gc, .slice gA gN gC, .int .i64 qa.head.no, .int .i64 qa.head.area, .int .i64 qa.head.en, .slice gp gq gr], (markA qa)), (w3a.heap.size, w4.heap.size, .agg #[.bool a.up, .slice xa xn xc, .slice xA xN xC, .int .i64 a.head.no, .int .i64 a.head.area, .int .i64 a.head.en, .slice xp xq xr], (markA a)), (w2.heap.size, w3.heap.size, .agg #[.bool qa.up, .slice ba bn bc, .slice bA bN bC, .int .i64 qa.head.no, .int .i64 qa.head.area, .int .i64 qa.head.en, .slice bp bq br], qa), (w1.heap.size, w2.heap.size, .agg #[.bool a.up, .slice fa fn fc, .slice fA fN fC, .int .i64 a.head.no, .int .i64 a.head.area, .int .i64 a.head.en, .slice fp fq fr], a)] [] [] w14) from lw14)
    clear S_w13a bw14
    clear o0_0 o0_1 o0_2 o0_3 o0_4 o0_5 o0_6 o0_l o1_0 o1_1 o1_2 o1_3 o1_4 o1_5 o1_6 o1_l o2_0 o2_1 o2_2 o2_3 o2_4 o2_5 o2_6 o2_l o3_0 o3_1 o3_2 o3_3 o3_4 o3_5 o3_6 o3_l
    clear lw14
    obtain ⟨c0_0, c0_1, c0_2, c0_3, c0_4, c0_5, c0_6, _⟩ := rk_seven (S_w14.out.hl.2 _ (List.mem_cons_self ..))
    obtain ⟨c1_0, c1_1, c1_2, c1_3, c1_4, c1_5, c1_6, _⟩ := rk_seven (S_w14.out.hl.2 _ (List.mem_cons_of_mem _ (List.mem_cons_self ..)))
    obtain ⟨c2_0, c2_1, c2_2, c2_3, c2_4, c2_5, c2_6, _⟩ := rk_seven (S_w14.out.hl.2 _ (List.mem_cons_of_mem _ (List.mem_cons_of_mem _ (List.mem_cons_self ..))))
    obtain ⟨c3_0, c3_1, c3_2, c3_3, c3_4, c3_5, c3_6, _⟩ := rk_seven (S_w14.out.hl.2 _ (List.mem_cons_of_mem _ (List.mem_cons_of_mem _ (List.mem_cons_of_mem _ (List.mem_cons_self ..)))))
    obtain ⟨c4_0, c4_1, c4_2, c4_3, c4_4, c4_5, c4_6, _⟩ := rk_seven (S_w14.out.hl.2 _ (List.mem_cons_of_mem _ (List.mem_cons_of_mem _ (List.mem_cons_of_mem _ (List.mem_cons_of_mem _ (List.mem_cons_self ..))))))
    go_wp2_with fail
    go_at_call 11
    refine (S_w14.out.heldA (a := qa) (S_w14.out.rows _ (List.mem_cons_of_mem _ (List.mem_cons_of_mem _ (List.mem_cons_self ..)))).1.at FQ.out).mono ?_
    rintro e w15 ⟨rfl, lw15, bw15⟩
    have Z18 := (show Hid (w14.heap.size ≤ w15.heap.size) from bw15.size)
    have S_w15 := (show Hid (La w0 [(w13.heap.size, #[.bool qa.up, .slice ka kn kc, .slice kA kN kC, .int .i64 qa.head.no, .int .i64 qa.head.area, .int .i64 qa.head.en, .slice kp kq kr], 38), (w5.heap.size, #[.bool qa.up, .slice ga gn gc, .slice gA gN gC, .int .i64 qa.head.no, .int .i64 qa.head.area, .int .i64 qa.head.en, .slice gp gq gr], 38), (w4.heap.size, #[.bool a.up, .slice xa xn xc, .slice xA xN xC, .int .i64 a.head.no, .int .i64 a.head.area, .int .i64 a.head.en, .slice xp xq xr], 38), (w3.heap.size, #[.bool qa.up, .slice ba bn bc, .slice bA bN bC, .int .i64 qa.head.no, .int .i64 qa.head.area, .int .i64 qa.head.en, .slice bp bq br], 38), (w0.heap.size, #[.bool a.up, .slice sa sn sc, .slice sA sN sC, .int .i64 a.head.no, .int .i64 a.head.area, .int .i64 a.head.en, .slice sp sq sr], 30)] [(w12.heap.size, w13.heap.size, .agg #[.bool qa.up, .slice ka kn kc, .slice kA kN kC, .int .i64 qa.head.no, .int .i64 qa.head.area, .int .i64 qa.head.en, .slice kp kq kr], qa), (w11.heap.size, w12.heap.size, .agg #[.bool a.up, .slice ua un uc, .slice uA uN uC, .int .i64 a.head.no, .int .i64 a.head.area, .int .i64 a.head.en, .slice up uq ur], a), (w4a.heap.size, w5.heap.size, .agg #[.bool qa.up, .slice ga gn gc, .slice gA gN gC, .int .i64 qa.head.no, .int .i64 qa.head.area, .int .i64 qa.head.en, .slice gp gq gr], (markA qa)), (w3a.heap.size, w4.heap.size, .agg #[.bool a.up, .slice xa xn xc, .slice xA xN xC, .int .i64 a.head.no, .int .i64 a.head.area, .int .i64 a.head.en, .slice xp xq xr], (markA a)), (w2.heap.size, w3.heap.size, .agg #[.bool qa.up, .slice ba bn bc, .slice bA bN bC, .int .i64 qa.head.no, .int .i64 qa.head.area, .int .i64 qa.head.en, .slice bp bq br], qa), (w1.heap.size, w2.heap.size, .agg #[.bool a.up, .slice fa fn fc, .slice fA fN fC, .int .i64 a.head.no, .int .i64 a.head.area, .int .i64 a.head.en, .slice fp fq fr], a)] [] [] w15) from lw15)
    clear S_w14 bw15
    clear c0_0 c0_1 c0_2 c0_3 c0_4 c0_5 c0_6 c1_0 c1_1 c1_2 c1_3 c1_4 c1_5 c1_6 c2_0 c2_1 c2_2 c2_3 c2_4 c2_5 c2_6 c3_0 c3_1 c3_2 c3_3 c3_4 c3_5 c3_6 c4_0 c4_1 c4_2 c4_3 c4_4 c4_5 c4_6
    clear lw15
    go_wp2
    go_ret
    exact ⟨rfl, S_w15.out.hl.1⟩
end Go.Proofs.YtjokajblihaphaaGreatDoor
