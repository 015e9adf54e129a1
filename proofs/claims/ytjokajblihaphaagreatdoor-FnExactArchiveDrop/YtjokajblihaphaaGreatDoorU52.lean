/- The program's IndexFind: the first that fits. -/
import Derived.Test.YtjokajblihaphaaGreatDoorU25
import Derived.Test.YtjokajblihaphaaGreatDoorU22
import Derived.Laws.ResultCell
import Derived.Test.YtjokajblihaphaaGreatDoorU43
import Derived.Test.YtjokajblihaphaaGreatDoorU51
import Derived.Test.YtjokajblihaphaaGreatDoorU40
import Derived.Test.YtjokajblihaphaaGreatDoorU26
namespace Go.Proofs.YtjokajblihaphaaGreatDoor
open Go.RowKit
set_option maxRecDepth 100000
set_option linter.unusedVariables false

theorem idxFind1_any (g : Nat) (nm x y : ByteArray) (w : World) (hg : w.cell? ⟨g, 0, none⟩ = some (.string nm)) (hlt : g < w.heap.size) :
    Calls Tryz.prog 82 #[.agg #[.string x, .string y], .pointer (some ⟨g, 0, none⟩)] w fun e w' => e = .returned (.bool (decide (x = nm))) ∧ Below w.heap.size w w' := by
  have hb : Below w.heap.size w (w.alloc (.cells #[.string x, .string y] 77)) := (Below.refl _ _).alloc (Nat.le_refl _) _
  have hg2 := (hb.cell (p := ⟨g, 0, none⟩) hlt).trans hg
  by_cases hm : x = nm
  · rw [decide_eq_true hm]
    subst hm
    go_enter Tryz.func82, Tryz.ntmps82
    go_wp2
    go_ret
    exact ⟨rfl, hb⟩
  · rw [decide_eq_false hm]
    have hd := toList_ne hm
    go_enter Tryz.func82, Tryz.ntmps82
    go_wp2
    go_ret
    exact ⟨rfl, hb⟩

theorem firstE_res {tmps : Array Value} {w : World} {g : Nat} {x y : ByteArray} {b : Bool} (h4 : tmps.getD 4 undef = .pointer (some ⟨g, 0, none⟩)) (h5 : tmps.getD 5 undef = .bool b) (hb : w.heap[g]? = some (.cells #[.string x, .string y] 77 (0, 0))) :
    (results Tryz.f81 tmps).run Tryz.prog w = .ok (.tuple #[.agg #[.string x, .string y], .bool b]) w := by
  rw [results_cell_tmp (p := 4) (u := 5) (ty := 77) rfl, h4, h5]
  simp [asAddr, run_loadVar_row w g 77 77 #[.string x, .string y] (0, 0) _ hb Tryz.underlying77 rfl rfl, Result.andThen]

/-- The first of that name: its name. -/
def urlNm (rs : List (ByteArray × ByteArray)) (nm : ByteArray) : ByteArray := if (attrOf rs nm).2 then nm else ⟨#[]⟩

set_option maxHeartbeats 2000000 in
set_option maxRecDepth 100000 in
theorem firstUrl_any {v : Value} {rs : List (ByteArray × ByteArray)} {w : World} (h : Sv 2 w v (pairCells rs)) (g : Nat) (nm : ByteArray) (hg : w.cell? ⟨g, 0, none⟩ = some (.string nm)) (hgl : g < w.heap.size) (hn : rs.length ≤ 1099511627776) :
    Calls Tryz.prog 81 #[v, .func (.func 82) #[] #[.pointer (some ⟨g, 0, none⟩)]] w fun e w' => e = .returned (.tuple #[.agg #[.string (urlNm rs nm), .string (attrOf rs nm).1], .bool (attrOf rs nm).2]) ∧ Below w.heap.size w w' := by
  have HS := (show Hid (Sv 2 w v (pairCells rs)) from h)
  obtain ⟨a, ca, rfl, _, _, hca⟩ := h.pair
  clear h hca
  have HG := (show Hid (w.cell? ⟨g, 0, none⟩ = some (.string nm)) from hg)
  clear hg
  go_enter Tryz.func81, Tryz.ntmps81
  go_wp2
  obtain ⟨w0, hw0⟩ : ∃ w0, w0 = w.alloc (.cells #[.string ⟨#[]⟩, .string ⟨#[]⟩] 77) := ⟨_, rfl⟩
  have hsz0 : w0.heap.size = w.heap.size + 1 := by rw [hw0]; simp
  have bel0 : Below w.heap.size w w0 := by rw [hw0]; exact (Below.refl _ _).alloc (Nat.le_refl _) _
  have hres0 : w0.heap[w.heap.size]? = some (.cells #[.string ⟨#[]⟩, .string ⟨#[]⟩] 77 (0, 0)) := by rw [hw0]; exact World.alloc_heap_new _ _
  rw [← hw0]
  go_loopw [11] (fun i wr => ∃ k : Nat, k ≤ rs.length ∧ i = .int .i64 k ∧ attrOf (rs.drop k) nm = attrOf rs nm ∧ Below w0.heap.size w0 wr) (fun i _ => rs.length - (intOf i).toNat)
  case atStart => exact ⟨0, Nat.zero_le _, rfl, rfl, Below.refl _ _⟩
  case round =>
    obtain ⟨k, hk, rfl, he, bel⟩ := hrel
    have BW : Hid (Below w.heap.size w wr) := bel0.trans (bel.mono (by omega))
    have hresr : wr.heap[w.heap.size]? = some (.cells #[.string ⟨#[]⟩, .string ⟨#[]⟩] 77 (0, 0)) := by rw [bel.block _ (by omega)]; exact hres0
    have hwl : w.heap.size < wr.heap.size := by have := bel.size; omega
    by_cases hlt : k < rs.length
    · obtain ⟨_, _, ev, _, _, hca⟩ := (HS.out.below BW.out).pair
      cases ev
      obtain ⟨b1, o1, rfl, l1, c1, c2⟩ := hca k hlt
      rw [attrOf_drop hlt] at he
      obtain ⟨x, hx⟩ : ∃ x, x = rs[k] := ⟨_, rfl⟩
      rw [← hx] at c1 c2 he
      have HE := (show Hid _ from he)
      clear he hx hca
      obtain ⟨xn, xv⟩ := x
      simp only at c1 c2 HE
      have bx : Below wr.heap.size wr (wr.alloc (.cells #[.string xn, .string xv] 77)) := (Below.refl _ _).alloc (Nat.le_refl _) _
      have cc := idxFind1_any g nm xn xv (wr.alloc (.cells #[.string xn, .string xv] 77)) ((bx.cell (p := ⟨g, 0, none⟩) (by show g < wr.heap.size; omega)).trans ((BW.out.cell (p := ⟨g, 0, none⟩) hgl).trans HG.out)) (by simp; omega)
      have hxb : (wr.alloc (.cells #[.string xn, .string xv] 77)).heap[wr.heap.size]? = some (.cells #[.string xn, .string xv] 77 (0, 0)) := World.alloc_heap_new _ _
      have hrb : (wr.alloc (.cells #[.string xn, .string xv] 77)).heap[w.heap.size]? = some (.cells #[.string ⟨#[]⟩, .string ⟨#[]⟩] 77 (0, 0)) := by rw [bx.block _ hwl]; exact hresr
      have hsa : (wr.alloc (.cells #[.string xn, .string xv] 77)).heap.size = wr.heap.size + 1 := by simp
      by_cases hm : xn = nm
      · rw [decide_eq_true hm] at cc
        have HE2 : Hid (attrOf rs nm = (xv, true)) := by have := HE.out; rw [if_pos hm] at this; exact this.symm
        clear HE
        subst hm
        go_wp2_with fail
        go_at_call 82
        refine cc.mono ?_
        rintro e w2 ⟨rfl, b2⟩
        have hx2 := (b2.block wr.heap.size (by omega)).trans hxb
        have hr2 := (b2.block w.heap.size (by omega)).trans hrb
        have x0 : w2.cell? ⟨wr.heap.size, 0, none⟩ = some (.string xn) := by simp [World.cell?, hx2]
        have x1 : w2.cell? ⟨wr.heap.size, 1, none⟩ = some (.string xv) := by simp [World.cell?, hx2]
        have r0 : w2.cell? ⟨w.heap.size, 0, none⟩ = some (.string ⟨#[]⟩) := by simp [World.cell?, hr2]
        have r1 : w2.cell? ⟨w.heap.size, 1, none⟩ = some (.string ⟨#[]⟩) := by simp [World.cell?, hr2]
        have f0 : w2.frozen? ⟨w.heap.size, 0, none⟩ = false := by simp [World.frozen?, hr2]
        have f1 : w2.frozen? ⟨w.heap.size, 1, none⟩ = false := by simp [World.frozen?, hr2]
        have BW2 : Hid (Below w.heap.size w w2) := BW.out.trans ((bx.trans (b2.mono (by omega))).mono (by omega))
        have hr3 := (show Hid _ from rk_at (k := 1) (u := .string xv) (rk_at (k := 0) (u := .string xn) hr2))
        clear c1 c2 cc hx2 hr2 hxb hrb hresr
        go_wp2
        (try simp only [Exit.inBlock, Exit.then])
        refine bodyPost_ret (firstE_res (x := xn) (y := xv) (b := true) rfl rfl hr3.out) rfl ?_
        exact ⟨by unfold urlNm; rw [HE2.out]; rfl, (BW2.out.setCell (Nat.le_refl _) _).setCell (Nat.le_refl _) _⟩
      · rw [decide_eq_false hm] at cc
        have HE2 := HE.out
        rw [if_neg hm] at HE2
        have HE3 := (show Hid _ from HE2)
        clear HE HE2
        go_wp2_with fail
        go_at_call 82
        refine cc.mono ?_
        rintro e w2 ⟨rfl, b2⟩
        go_wp2
        go_roundw
        case rel => exact ⟨k + 1, by omega, by go_num, HE3.out, bel.trans ((bx.trans (b2.mono (by omega))).mono bel.size)⟩
        case measure => simp [intOf]; omega
    · have hke : k = rs.length := by omega
      rw [hke, List.drop_length] at he
      have HE := (show Hid _ from he)
      clear he
      have r0 : wr.cell? ⟨w.heap.size, 0, none⟩ = some (.string ⟨#[]⟩) := by simp only [World.cell?, hresr]; rfl
      have r1 : wr.cell? ⟨w.heap.size, 1, none⟩ = some (.string ⟨#[]⟩) := by simp only [World.cell?, hresr]; rfl
      have f0 : wr.frozen? ⟨w.heap.size, 0, none⟩ = false := by simp only [World.frozen?, hresr]; rfl
      have f1 : wr.frozen? ⟨w.heap.size, 1, none⟩ = false := by simp only [World.frozen?, hresr]; rfl
      have hr3 := (show Hid _ from rk_at (k := 1) (u := .string ⟨#[]⟩) (rk_at (k := 0) (u := .string ⟨#[]⟩) hresr))
      have hne : w.heap.size ≠ wr.heap.size := by omega
      clear hresr
      go_wp2
      (try simp only [Exit.inBlock, Exit.then])
      refine bodyPost_ret (firstE_res (x := ⟨#[]⟩) (y := ⟨#[]⟩) (b := false) rfl rfl ((heap_alloc_old _ _ (by simp; omega)).trans hr3.out)) rfl ?_
      exact ⟨by unfold urlNm; rw [← HE.out]; rfl, ((BW.out.setCell (Nat.le_refl _) _).setCell (Nat.le_refl _) _).alloc (by simp; omega) _⟩

set_option maxHeartbeats 2000000 in
set_option maxRecDepth 100000 in
theorem iidxFind_any {v : Value} {rs : List (ByteArray × ByteArray)} {w : World} (h : Sv 2 w v (pairCells rs)) (nm : ByteArray) (hn : rs.length ≤ 1099511627776) :
    Calls Tryz.prog 46 #[v, .string nm] w fun e w' => e = .returned (.tuple #[.string (attrOf rs nm).1, .bool (attrOf rs nm).2]) ∧ Below w.heap.size w w' := by
  have b1 : Below w.heap.size w (w.alloc (.cells #[.string nm] 9)) := (Below.refl _ _).alloc (Nat.le_refl _) _
  have cc := firstUrl_any (h.below b1) w.heap.size nm (by simp only [World.cell?, World.alloc_heap_new]; rfl) (by simp) hn
  obtain ⟨p, hp⟩ : ∃ p, p = attrOf rs nm := ⟨_, rfl⟩
  obtain ⟨q, hq⟩ : ∃ q, q = urlNm rs nm := ⟨_, rfl⟩
  rw [← hp, ← hq] at cc
  rw [← hp]
  clear hp hq h
  obtain ⟨pv, pb⟩ := p
  simp only at cc ⊢
  go_enter Tryz.func46, Tryz.ntmps46
  go_wp2_with fail
  go_at_call 81
  refine cc.mono ?_
  rintro e w2 ⟨rfl, b2⟩
  go_wp2
  go_ret2
  exact ⟨rfl, (b1.trans (b2.mono b1.size)).alloc (b1.trans (b2.mono b1.size)).size _⟩
end Go.Proofs.YtjokajblihaphaaGreatDoor

/- The program's IndexPack. No condition. -/
namespace Go.Proofs.YtjokajblihaphaaGreatDoor
open Go.RowKit
set_option maxRecDepth 100000
set_option linter.unusedVariables false

set_option maxHeartbeats 400000 in
set_option maxRecDepth 100000 in
theorem iindexPack_any {v : Value} {ps : List (ByteArray × ByteArray)} {w : World} (h : Sv 2 w v (pairCells ps)) (hn : ps.length ≤ 1048576) (hs : ∀ p ∈ ps, p.1.size ≤ 1048576 ∧ p.2.size ≤ 1048576) :
    Calls Tryz.prog 56 #[v] w fun e w' => ∃ v', e = .returned (.tuple #[v', .bool (packX ps).2]) ∧ Own w.heap.size 5 .u8 w' v' (packX ps).1 ∧ Below w.heap.size w w' := by
  obtain ⟨a, ca, rfl, _, _, hca⟩ := h.pair
  have HC := (show Hid _ from hca)
  have HZ := (show Hid _ from hs)
  obtain ⟨i0, hi, hz0, hz1, hz2⟩ := info_parts Tryz.infoB
  clear h hca hs
  go_enter Tryz.func56, Tryz.ntmps56
  go_wp2_with fail
  have b1 : Below w.heap.size w (w.alloc (.cells #[] 5)) := (Below.refl _ _).alloc (Nat.le_refl _) _
  have o1 := own_empty 5 .u8 w
  go_loopw [4, 12] (fun z s wr => ∃ (k : Nat) (pre : List Int), k ≤ ps.length ∧ s = .int .i64 (k : Int) ∧ Own w.heap.size 5 .u8 wr z pre ∧ Hid ((packE (ps.drop k)).map (pre ++ ·) = packE ps) ∧ pre.length ≤ k * 1048663 ∧ Below w.heap.size w wr) (fun _ s _ => ps.length - (intOf s).toNat)
  case atStart => exact ⟨0, [], Nat.zero_le _, rfl, o1, (show _ = _ by cases h : packE ps <;> simp [h]), by simp, b1⟩
  case round =>
    clear b1 o1
    obtain ⟨k, pre, hk, rfl, o2, hF, hp, b2⟩ := hrel
    have O2 := (show Hid (Own w.heap.size 5 .u8 wr u4 pre) from o2)
    have B2 := (show Hid (Below w.heap.size w wr) from b2)
    clear o2 b2
    by_cases hlt : k < ps.length
    · have hlt' : (k : Int) < (ps.length : Int) := by omega
      obtain ⟨b1, o1, rfl, l1, c1, c2⟩ := HC.out k hlt
      have z1 := HZ.out _ (List.getElem_mem hlt)
      have HD := (show Hid _ from packE_drop hlt)
      obtain ⟨x, hx⟩ : ∃ x, x = ps[k] := ⟨_, rfl⟩
      rw [← hx] at c1 c2 z1 HD
      clear hx
      obtain ⟨xu, xb⟩ := x
      simp only at c1 c2 z1
      have HL := (show Hid (recB (recE (xu, xb)) = true → (recL (recE (xu, xb))).length ≤ 87 + xb.size) from fun e => recL_len e)
      have HP := (show Hid (packR ⟨1, xu, xb⟩ = if recB (recE (xu, xb)) = true then (recL (recE (xu, xb)), true) else ([], false)) from rfl)
      obtain ⟨L, hL⟩ : ∃ L, L = recL (recE (xu, xb)) := ⟨_, rfl⟩
      obtain ⟨ok, hok⟩ : ∃ ok, ok = recB (recE (xu, xb)) := ⟨_, rfl⟩
      rw [← hL, ← hok] at HD HL HP
      obtain ⟨w2, hw2⟩ : ∃ y, y = wr.alloc (.cells #[.string xu, .string xb] 77) := ⟨_, rfl⟩
      have b22 : Below wr.heap.size wr w2 := by rw [hw2]; exact (Below.refl _ _).alloc (Nat.le_refl _) _
      have CP := (show Hid (Calls Tryz.prog 83 #[.agg #[.int .i64 1, .string xu, .string xb]] w2 fun e w' => ∃ v, e = .returned (.tuple #[v, .bool (packR ⟨1, xu, xb⟩).2]) ∧ Own w2.heap.size 5 .u8 w' v (packR ⟨1, xu, xb⟩).1 ∧ Below w2.heap.size w2 w') from irecPack_any ⟨1, xu, xb⟩ w2 (by show xu.size ≤ _; omega) (by show xb.size ≤ _; omega))
      have BB := (show Hid (Below w.heap.size w w2 ∧ Own w.heap.size 5 .u8 w2 u4 pre) from ⟨B2.out.trans (b22.mono B2.out.size), O2.out.below b22⟩)
      have cc1 := (B2.out.cell (p := ⟨b1, o1 + k * 2, none⟩) l1).trans c1
      have cc2 := (B2.out.cell (p := ⟨b1, o1 + k * 2 + 1, none⟩) l1).trans c2
      clear hL hok c1 c2 b22
      cases ok
      · rw [if_neg (by decide)] at HD HP
        rw [HP.out] at CP
        have HR : Hid (packX ps = ([], false)) := (show packX ps = ([], false) by
          have := hF.out
          rw [HD.out] at this
          rw [packX, ← this]; rfl)
        clear HD HP HL hF
        go_wp2_with fail
        go_at_call 83
        rw [← hw2]
        clear hw2
        refine Calls.mono CP.out ?_
        rintro e w3 ⟨v3, rfl, o3, b3⟩
        have B3 := (show Hid (Below w.heap.size w w3) from BB.out.1.trans (b3.mono BB.out.1.size))
        clear b3 o3
        go_wp2
        go_ret2
        exact ⟨_, by rw [HR.out]; rfl, by rw [HR.out]; exact ⟨rfl, .inl ⟨rfl, rfl⟩⟩, B3.out⟩
      · rw [if_pos rfl] at HD HP
        rw [HP.out] at CP
        have hL := HL.out rfl
        have HH : Hid ((packE (ps.drop (k + 1))).map ((pre ++ L) ++ ·) = packE ps) := (show _ = _ by
          rw [← hF.out, HD.out]
          cases packE (ps.drop (k + 1)) <;> simp)
        have hk2 : k * 1048663 ≤ 1048576 * 1048663 := Nat.mul_le_mul_right _ (by omega)
        clear HD HP HL hF
        go_wp2_with fail
        go_at_call 83
        rw [← hw2]
        clear hw2
        refine Calls.mono CP.out ?_
        rintro e w3 ⟨v3, rfl, o3, b3⟩
        have B3 := (show Hid (Below w.heap.size w w3) from BB.out.1.trans (b3.mono BB.out.1.size))
        have O23 := (show Hid (Own w.heap.size 5 .u8 w3 u4 pre) from BB.out.2.below b3)
        have O3 := (show Hid (Own w2.heap.size 5 .u8 w3 v3 L) from o3)
        clear b3 o3
        go_wp2_with (at_builtin
                     refine wpList_app _ rfl (.tmp 27) (.tmp 28) 68 rfl w.heap.size 5 i0 (.int .u8 0) 1 Tryz.underlying68 hi hz0 hz1 hz2 rfl .u8 u4 v3 pre L rfl rfl O23.out O3.out.sl (by omega) (by unfold maxLen; omega) B3.out.size ?_
                     intro v5 w5 o5 g5
                     have B5 := (show Hid (Below w.heap.size w w5) from B3.out.grown g5 B3.out.size (fun r e => (World.ownsRow.lt O23.out r e).1))
                     have O5 := (show Hid (Own w.heap.size 5 .u8 w5 v5 (pre ++ L)) from o5)
                     clear o5 g5)
        go_roundw
        case rel => exact ⟨k + 1, pre ++ L, hlt, by go_num, O5.out, HH, by rw [List.length_append]; omega, B5.out⟩
        case measure => simp [intOf]; omega
    · obtain rfl : k = ps.length := by omega
      have hn' : ¬ ((ps.length : Int) < (ps.length : Int)) := by omega
      have HR : Hid (packX ps = (pre, true)) := (show packX ps = (pre, true) by
        have := hF.out
        rw [List.drop_length] at this
        rw [packX, ← this]; simp [packE])
      clear hF
      go_wp2
      go_ret2
      exact ⟨_, by rw [HR.out]; rfl, by rw [HR.out]; exact O2.out, B2.out⟩
end Go.Proofs.YtjokajblihaphaaGreatDoor

/- The shelf's compact, add, drop (written by mk/istep5.py). No condition. -/
namespace Go.Proofs.YtjokajblihaphaaGreatDoor
open Go.RowKit
set_option maxRecDepth 100000
set_option linter.unusedVariables false

def compactS (a : PArch) : PArch × Int := if a.up = false then (a, 2) else if (packX a.list).2 = false then (a, 5) else writeA a (1 - a.head.area) 0 (packX a.list).1
def dropS (u : ByteArray) (a : PArch) : PArch × Int := if a.up = false then (a, 2) else if urlB u = false then (a, 3) else if (attrOf a.list u).2 = false then (a, 6) else writeA a a.head.area a.head.en (recL (dropR u))

set_option maxHeartbeats 4000000 in
set_option maxRecDepth 100000 in
theorem ishCompact_any {B : Nat} {w : World} {N : Nat} {a : PArch} {m : Int} (h : Shelf B w N a m) (hA : archB a = true) (hs : Sent w) (hw : B ≤ w.heap.size) :
    Calls Tryz.prog 30 #[.pointer (some ⟨N, 0, none⟩)] w fun e w' => e = .returned (.int .i64 (compactS a).2) ∧ Shelf B w' N (compactS a).1 m ∧ w.grownBy w' (some N) := by
  obtain ⟨up, d, ⟨no, ar, en⟩, ls⟩ := a
  cases up
  · have H := (show Hid _ from h)
    obtain ⟨sa, sn, sc, la, ln, lc, q, r, ea, en', ec, st, hB, hN, hd, he⟩ := h
    simp only at hN hd he
    have S0 := (show Hid (Sf w N _ [] w) from Sf.refl hN)
    obtain ⟨c0, c1, c2, c3, c4, c5, c6, c7, c8, c9⟩ := rk_ten S0.out.sh
    clear hN hd he hB hA
    go_enter Tryz.func30, Tryz.ntmps30
    go_wp2
    go_ret
    exact ⟨rfl, H.out, World.grownBy.refl _ _⟩
  have H := (show Hid (Shelf B w N ⟨true, d, ⟨no, ar, en⟩, ls⟩ m) from h)
  obtain ⟨sa, sn, sc, la, ln, lc, q, r, ea, en', ec, st, hB, hN, hd, he⟩ := h
  simp only at hN hd he
  have HN := (show Hid (w.heap[N]? = some (.cells #[.slice sa sn sc, .slice la ln lc, .int .i32 m, .int .u32 q, .int .i64 r, .bool true, .int .i64 no, .int .i64 ar, .int .i64 en, .slice ea en' ec, st] 93 (0, 0))) from hN)
  have HD := (show Hid (OwnDy B w (.agg #[.slice sa sn sc, .slice la ln lc]) d) from hd)
  have HE := (show Hid (OwnEy B w (.slice ea en' ec) ls) from he)
  have HT := (show Hid (Sent w) from hs)
  have HBN := (show Hid (B ≤ N) from hB)
  obtain ⟨hl1, hl2⟩ := arch_list hA rfl
  obtain ⟨hh, hnow, _, _⟩ := archB_up hA rfl
  have hi := headB_in hh
  have hdk := (archB_disk hA).1
  simp only at hl1 hl2 hi hdk
  have HLB := (show Hid (∀ p ∈ ls, p.1.size ≤ 60 ∧ p.2.size ≤ 4096) from hl2)
  have HDK := (show Hid (diskB d = true) from hdk)
  have HWL := (show Hid ((packX ls).2 = true → stepsOk d (1 - ar) 0 (packX ls).1 ⟨no + 1, 1 - ar, 0 + (packX ls).1.length⟩ = true → wellA (step4 d (1 - ar) 0 (packX ls).1 ⟨no + 1, 1 - ar, 0 + (packX ls).1.length⟩) = true) from fun h1 h2 => well_compact (a := ⟨true, d, ⟨no, ar, en⟩, ls⟩) hA rfl h1 h2)
  have HQ := (show Hid (compactS ⟨true, d, ⟨no, ar, en⟩, ls⟩ = if (packX ls).2 = false then (⟨true, d, ⟨no, ar, en⟩, ls⟩, 5) else writeA ⟨true, d, ⟨no, ar, en⟩, ls⟩ (1 - ar) 0 (packX ls).1) from (show _ = _ by rw [compactS]; simp only; rw [if_neg (by decide)]))
  obtain ⟨⟨qa, qc⟩, hq⟩ : ∃ z, z = compactS ⟨true, d, ⟨no, ar, en⟩, ls⟩ := ⟨_, rfl⟩
  rw [← hq] at HQ
  rw [← hq]
  simp only
  have CP := (show Hid _ from iindexPack_any (OwnY.sv he) (by omega) (fun p hp => by have := hl2 p hp; omega))
  have hbx : (packX ls).2 = true → ∀ z ∈ (packX ls).1, 0 ≤ z ∧ z ≤ 255 := fun h => packX_byte h (fun p hp => by have := (hl2 p hp).2; omega)
  have hbl := packX_lenS (fun p hp => (hl2 p hp).2) hl1
  have HBX := (show Hid _ from hbx)
  have S0 := (show Hid (Sf w N #[.slice sa sn sc, .slice la ln lc, .int .i32 m, .int .u32 q, .int .i64 r, .bool true, .int .i64 no, .int .i64 ar, .int .i64 en, .slice ea en' ec, st] [] w) from Sf.refl hN)
  obtain ⟨c0, c1, c2, c3, c4, c5, c6, c7, c8, c9⟩ := rk_ten S0.out.sh
  obtain ⟨⟨bs', qb⟩, hp⟩ : ∃ z, z = packX ls := ⟨_, rfl⟩
  rw [← hp] at CP HBX hbl HWL HQ
  simp only at CP HBX hbl HWL HQ
  clear hN hd he hB hs hA hl1 hl2 hh hnow hdk hq hp hbx
  go_enter Tryz.func30, Tryz.ntmps30
  go_wp2_with fail
  go_at_call 56
  refine Calls.mono CP.out ?_
  rintro e w2 ⟨v2, rfl, o2, b2⟩
  have s2 := S0.out.below b2
  have S2 := (show Hid (Sf w N #[.slice sa sn sc, .slice la ln lc, .int .i32 m, .int .u32 q, .int .i64 r, .bool true, .int .i64 no, .int .i64 ar, .int .i64 en, .slice ea en' ec, st] [] w2) from s2)
  have T2 := (show Hid (Sent w2) from HT.out.below b2)
  have O2 := (show Hid (Own w.heap.size 5 .u8 w2 v2 bs') from o2)
  obtain ⟨ua, uc, eu, _⟩ := o2.sl
  subst eu
  clear b2 o2 CP s2
  clear c0 c1 c2 c3 c4 c5 c6 c7 c8 c9
  cases qb
  · have e1 := HQ.out
    rw [if_pos rfl] at e1
    cases e1
    go_wp2
    go_ret
    exact ⟨rfl, ⟨sa, sn, sc, la, ln, lc, q, r, ea, en', ec, st, HBN.out, S2.out.sh, S2.out.disk HN.out HD.out, S2.out.ents HN.out HE.out⟩, S2.out.gr⟩
  · have e1 := HQ.out
    rw [if_neg (by decide)] at e1
    have CW := ishWrite_any (x := 1 - ar) (y := 0) S2.out.sh (S2.out.disk HN.out HD.out) HDK.out (S2.out.ents HN.out HE.out) T2.out HBN.out (Nat.le_trans hw S2.out.gr.size) ⟨by omega, by omega⟩ ⟨by omega, by omega⟩ ⟨by omega, by omega⟩ O2.out (HBX.out rfl) hbl (HWL.out rfl)
    rw [← e1] at CW
    have CW := (show Hid _ from CW)
    obtain ⟨c0, c1, c2, c3, c4, c5, c6, c7, c8, c9⟩ := rk_ten S2.out.sh
    clear e1 HQ HWL HBX
    go_wp2_with fail
    go_at_call 57
    refine Calls.mono CW.out ?_
    rintro e w3 ⟨rfl, sh3, g3⟩
    have R := (show Hid _ from And.intro sh3 (grown_trans S2.out.gr g3))
    clear c0 c1 c2 c3 c4 c5 c6 c7 c8 c9
    clear sh3 g3 CW
    go_wp2
    go_ret
    exact ⟨rfl, R.out.1, R.out.2⟩
end Go.Proofs.YtjokajblihaphaaGreatDoor

/- The shelf's add and drop (written by mk/istep6.py). No condition. -/
namespace Go.Proofs.YtjokajblihaphaaGreatDoor
open Go.RowKit
set_option maxRecDepth 100000
set_option linter.unusedVariables false

set_option maxHeartbeats 4000000 in
set_option maxRecDepth 100000 in
theorem ishAdd_any {B : Nat} {w : World} {N : Nat} {d : PDisk} {no ar en : Int} {ls : List (ByteArray × ByteArray)} {m : Int} {u : ByteArray} (h : Shelf B w N ⟨true, d, ⟨no, ar, en⟩, ls⟩ m) (hA : archB ⟨true, d, ⟨no, ar, en⟩, ls⟩ = true) (hs : Sent w) (hw : B ≤ w.heap.size) (hu : urlB u = true) (hul : u.size ≤ 60) :
    Calls Tryz.prog 47 #[.pointer (some ⟨N, 0, none⟩), .agg #[.int .i64 2, .string u, .string emptyS]] w fun e w' => e = .returned (.int .i64 (writeA ⟨true, d, ⟨no, ar, en⟩, ls⟩ ar en (recL (dropR u))).2) ∧ Shelf B w' N (writeA ⟨true, d, ⟨no, ar, en⟩, ls⟩ ar en (recL (dropR u))).1 m ∧ w.grownBy w' (some N) := by
  have H := (show Hid (Shelf B w N ⟨true, d, ⟨no, ar, en⟩, ls⟩ m) from h)
  obtain ⟨sa, sn, sc, la, ln, lc, q, r, ea, en', ec, st, hB, hN, hd, he⟩ := h
  simp only at hN hd he
  have HN := (show Hid (w.heap[N]? = some (.cells #[.slice sa sn sc, .slice la ln lc, .int .i32 m, .int .u32 q, .int .i64 r, .bool true, .int .i64 no, .int .i64 ar, .int .i64 en, .slice ea en' ec, st] 93 (0, 0))) from hN)
  have HD := (show Hid (OwnDy B w (.agg #[.slice sa sn sc, .slice la ln lc]) d) from hd)
  have HE := (show Hid (OwnEy B w (.slice ea en' ec) ls) from he)
  have HT := (show Hid (Sent w) from hs)
  have HBN := (show Hid (B ≤ N) from hB)
  obtain ⟨hh, hnow, _, _⟩ := archB_up hA rfl
  have hi := headB_in hh
  have hdk := (archB_disk hA).1
  simp only at hi hdk
  have HDK := (show Hid (diskB d = true) from hdk)
  have HWL := (show Hid (stepsOk d ar en (recL (dropR u)) ⟨no + 1, ar, en + (recL (dropR u)).length⟩ = true → wellA (step4 d ar en (recL (dropR u)) ⟨no + 1, ar, en + (recL (dropR u)).length⟩) = true) from fun h2 => well_drop (a := ⟨true, d, ⟨no, ar, en⟩, ls⟩) hA rfl hu h2)
  have hP : packR (dropR u) = ((recL (dropR u)), true) := by rw [packR, if_pos (drop_recB hu)]
  have CP := fun W => irecPack_any (dropR u) W (show u.size ≤ 1099511627776 by omega) (show (0 : Nat) ≤ 1099511627776 by omega)
  rw [hP] at CP
  have CP := (show Hid (∀ W, Calls Tryz.prog 83 #[.agg #[.int .i64 2, .string u, .string emptyS]] W fun e w' => ∃ v, e = .returned (.tuple #[v, .bool true]) ∧ Own W.heap.size 5 .u8 w' v (recL (dropR u)) ∧ Below W.heap.size W w') from CP)
  have hbl := drop_len hul
  have hbx := recL_byte (drop_recB hu) (show (dropR u).body.size ≤ 1048576 from Nat.zero_le _)
  have HBX := (show Hid _ from hbx)
  obtain ⟨b, hb⟩ : ∃ b, b = (recL (dropR u)) := ⟨_, rfl⟩
  rw [← hb] at HWL CP hbl HBX ⊢
  have s1 := (Sf.refl hN).new #[.int .i64 2, .string u, .string emptyS] 100
  obtain ⟨w1, hw1⟩ : ∃ z, z = w.alloc (.cells #[.int .i64 2, .string u, .string emptyS] 100) := ⟨_, rfl⟩
  rw [← hw1] at s1
  have S1 := (show Hid (Sf w N #[.slice sa sn sc, .slice la ln lc, .int .i32 m, .int .u32 q, .int .i64 r, .bool true, .int .i64 no, .int .i64 ar, .int .i64 en, .slice ea en' ec, st] [(w.heap.size, #[.int .i64 2, .string u, .string emptyS], 100)] w1) from s1)
  have B1 := (show Hid (Below w.heap.size w w1) from by rw [hw1]; exact (Below.refl _ _).alloc (Nat.le_refl _) _)
  clear hN hd he hB hs hA hh hnow hdk hP hb hbx s1 hu
  go_enter Tryz.func47, Tryz.ntmps47
  go_wp2_with fail
  go_at_call 83
  rw [← hw1]
  refine Calls.mono (CP.out w1) ?_
  rintro e w2 ⟨v2, rfl, o2, b2⟩
  have S2 := (show Hid (Sf w N #[.slice sa sn sc, .slice la ln lc, .int .i32 m, .int .u32 q, .int .i64 r, .bool true, .int .i64 no, .int .i64 ar, .int .i64 en, .slice ea en' ec, st] [] w2) from (S1.out.below b2).sub (by simp))
  have T2 := (show Hid (Sent w2) from (HT.out.below B1.out).below b2)
  have O2 := (show Hid (Own w1.heap.size 5 .u8 w2 v2 b) from o2)
  obtain ⟨ua, uc, eu, _⟩ := o2.sl
  subst eu
  clear b2 o2 CP hw1 S1 B1
  go_wp2_with fail
  refine region_tail 12 (by kernel_rfl) (by kernel_rfl) ?_
  intro w3 K3 hW3 hK3
  have ne := One.any w3
  have S3 := (show Hid (Sf w N #[.slice sa sn sc, .slice la ln lc, .int .i32 m, .int .u32 q, .int .i64 r, .bool true, .int .i64 no, .int .i64 ar, .int .i64 en, .slice ea en' ec, st] [] w3) from by rw [hW3.out]; exact S2.out.below (below_drewN 1))
  have T3 := (show Hid (Sent w3) from by rw [hW3.out]; exact T2.out.below (below_drewN 1))
  have O3 := (show Hid (Own w1.heap.size 5 .u8 w3 (.slice ua b.length uc) b) from by rw [hW3.out]; exact O2.out.below (below_drewN 1))
  have gg := fun n : One w3 => rk_ten (show n.w.heap[N]? = _ by rw [n.eq]; exact S3.out.sh)
  have g7 := fun n : One w3 => (gg n).2.2.2.2.2.2.2.1
  have g8 := fun n : One w3 => (gg n).2.2.2.2.2.2.2.2.1
  clear gg S2 T2 O2
  simp only [List.take_succ_cons, List.take_zero, List.drop_succ_cons, List.drop_zero] at hK3 ⊢
  repeat (go_big_quiet_step (fail))
  refine wpQuiet_nil ?_
  refine hK3.out _ ?_
  clear hK3 g7 g8
  have CW := (show Hid _ from ishWrite_any (x := ar) (y := en) S3.out.sh (S3.out.disk HN.out HD.out) HDK.out (S3.out.ents HN.out HE.out) T3.out HBN.out (Nat.le_trans hw S3.out.gr.size) ⟨by omega, by omega⟩ ⟨by omega, by omega⟩ ⟨by omega, by omega⟩ O3.out HBX.out (by omega) HWL.out)
  go_wp2_with fail
  go_at_call 57
  refine Calls.mono CW.out ?_
  rintro e w4 ⟨rfl, sh4, g4⟩
  have R := (show Hid _ from And.intro sh4 (grown_trans S3.out.gr g4))
  clear sh4 g4 CW
  go_wp2
  go_ret
  exact ⟨rfl, R.out.1, R.out.2⟩

set_option maxHeartbeats 4000000 in
set_option maxRecDepth 100000 in
theorem ishDrop_any {B : Nat} {w : World} {N : Nat} {a : PArch} {m : Int} {u : ByteArray} (h : Shelf B w N a m) (hA : archB a = true) (hs : Sent w) (hw : B ≤ w.heap.size) (hul : u.size ≤ 1099511627776) :
    Calls Tryz.prog 22 #[.pointer (some ⟨N, 0, none⟩), .string u] w fun e w' => e = .returned (.int .i64 (dropS u a).2) ∧ Shelf B w' N (dropS u a).1 m ∧ w.grownBy w' (some N) := by
  obtain ⟨up, d, ⟨no, ar, en⟩, ls⟩ := a
  cases up
  · have H := (show Hid _ from h)
    obtain ⟨sa, sn, sc, la, ln, lc, q, r, ea, en', ec, st, hB, hN, hd, he⟩ := h
    simp only at hN hd he
    have S0 := (show Hid (Sf w N _ [] w) from Sf.refl hN)
    obtain ⟨c0, c1, c2, c3, c4, c5, c6, c7, c8, c9⟩ := rk_ten S0.out.sh
    clear hN hd he hB hA
    go_enter Tryz.func22, Tryz.ntmps22
    go_wp2
    go_ret
    exact ⟨rfl, H.out, World.grownBy.refl _ _⟩
  obtain ⟨hl1, hl2⟩ := arch_list hA rfl
  simp only at hl1 hl2
  have H := (show Hid (Shelf B w N ⟨true, d, ⟨no, ar, en⟩, ls⟩ m) from h)
  obtain ⟨sa, sn, sc, la, ln, lc, q, r, ea, en', ec, st, hB, hN, hd, he⟩ := h
  simp only at hN hd he
  have HN := (show Hid (w.heap[N]? = some (.cells #[.slice sa sn sc, .slice la ln lc, .int .i32 m, .int .u32 q, .int .i64 r, .bool true, .int .i64 no, .int .i64 ar, .int .i64 en, .slice ea en' ec, st] 93 (0, 0))) from hN)
  have HD := (show Hid (OwnDy B w (.agg #[.slice sa sn sc, .slice la ln lc]) d) from hd)
  have HE := (show Hid (OwnEy B w (.slice ea en' ec) ls) from he)
  have HT := (show Hid (Sent w) from hs)
  have HBN := (show Hid (B ≤ N) from hB)
  have HA := (show Hid (archB ⟨true, d, ⟨no, ar, en⟩, ls⟩ = true) from hA)
  have HQ := (show Hid (dropS u ⟨true, d, ⟨no, ar, en⟩, ls⟩ = if urlB u = false then (⟨true, d, ⟨no, ar, en⟩, ls⟩, 3) else if (attrOf ls u).2 = false then (⟨true, d, ⟨no, ar, en⟩, ls⟩, 6) else writeA ⟨true, d, ⟨no, ar, en⟩, ls⟩ ar en (recL (dropR u))) from (show _ = _ by rw [dropS]; simp only; rw [if_neg (by decide)]))
  obtain ⟨⟨qa, qc⟩, hq⟩ : ∃ z, z = dropS u ⟨true, d, ⟨no, ar, en⟩, ls⟩ := ⟨_, rfl⟩
  rw [← hq] at HQ
  rw [← hq]
  simp only
  have CU := (show Hid _ from iurlOk_any u w hul)
  have CF := (show Hid (∀ W, Below w.heap.size w W → Calls Tryz.prog 46 #[.slice ea en' ec, .string u] W fun e w' => e = .returned (.tuple #[.string (attrOf ls u).1, .bool (attrOf ls u).2]) ∧ Below W.heap.size W w') from fun W b => iidxFind_any ((OwnY.sv HE.out).below b) u (by omega))
  have HSZ := (show Hid (urlB u = true → u.size ≤ 60) from fun h => by
    simp only [urlB, inB, Bool.and_eq_true, decide_eq_true_eq] at h
    omega)
  obtain ⟨⟨fs, fb⟩, hfd⟩ : ∃ z, z = attrOf ls u := ⟨_, rfl⟩
  rw [← hfd] at CF HQ
  simp only at CF HQ
  obtain ⟨ub, hub⟩ : ∃ z, z = urlB u := ⟨_, rfl⟩
  rw [← hub] at CU HQ HSZ
  have HUB := (show Hid (ub = urlB u) from hub)
  have S0 := (show Hid (Sf w N #[.slice sa sn sc, .slice la ln lc, .int .i32 m, .int .u32 q, .int .i64 r, .bool true, .int .i64 no, .int .i64 ar, .int .i64 en, .slice ea en' ec, st] [] w) from Sf.refl hN)
  obtain ⟨c0, c1, c2, c3, c4, c5, c6, c7, c8, c9⟩ := rk_ten S0.out.sh
  clear hN hd he hB hs hA hl1 hl2 hq hfd hub
  go_enter Tryz.func22, Tryz.ntmps22
  go_wp2_with fail
  go_at_call 45
  refine Calls.mono CU.out ?_
  rintro e w1 ⟨rfl, b1⟩
  have S1 := (show Hid (Sf w N #[.slice sa sn sc, .slice la ln lc, .int .i32 m, .int .u32 q, .int .i64 r, .bool true, .int .i64 no, .int .i64 ar, .int .i64 en, .slice ea en' ec, st] [] w1) from S0.out.below b1)
  have T1 := (show Hid (Sent w1) from HT.out.below b1)
  have CF1 := (show Hid _ from CF.out w1 b1)
  have B1 := (show Hid (Below w.heap.size w w1) from b1)
  clear b1 CU CF S0
  clear c0 c1 c2 c3 c4 c5 c6 c7 c8 c9
  cases ub
  · have e1 := HQ.out
    rw [if_pos rfl] at e1
    cases e1
    go_wp2
    go_ret
    exact ⟨rfl, H.out.below B1.out, S1.out.gr⟩
  · obtain ⟨c0, c1, c2, c3, c4, c5, c6, c7, c8, c9⟩ := rk_ten S1.out.sh
    go_wp2_with fail
    go_at_call 46
    refine Calls.mono CF1.out ?_
    rintro e w2 ⟨rfl, b2⟩
    have S2 := (show Hid (Sf w N #[.slice sa sn sc, .slice la ln lc, .int .i32 m, .int .u32 q, .int .i64 r, .bool true, .int .i64 no, .int .i64 ar, .int .i64 en, .slice ea en' ec, st] [] w2) from S1.out.below b2)
    have T2 := (show Hid (Sent w2) from T1.out.below b2)
    have SH2 := (show Hid (Shelf B w2 N ⟨true, d, ⟨no, ar, en⟩, ls⟩ m) from (H.out.below B1.out).below b2)
    clear b2 CF1 S1 T1
    clear c0 c1 c2 c3 c4 c5 c6 c7 c8 c9
    cases fb
    · have e1 := HQ.out
      rw [if_neg (by decide), if_pos rfl] at e1
      cases e1
      go_wp2
      go_ret
      exact ⟨rfl, SH2.out, S2.out.gr⟩
    · have e1 := HQ.out
      rw [if_neg (by decide), if_neg (by decide)] at e1
      have CA := ishAdd_any SH2.out HA.out T2.out (Nat.le_trans hw S2.out.gr.size) HUB.out.symm (HSZ.out (by trivial))
      rw [← e1] at CA
      have CA := (show Hid _ from CA)
      clear e1 HQ HSZ HUB
      go_wp2_with fail
      go_at_call 47
      refine Calls.mono CA.out ?_
      rintro e w3 ⟨rfl, sh3, g3⟩
      have R := (show Hid _ from And.intro sh3 (grown_trans S2.out.gr g3))
      clear sh3 g3 CA
      go_wp2
      go_ret
      exact ⟨rfl, R.out.1, R.out.2⟩

set_option maxHeartbeats 2000000 in
set_option maxRecDepth 100000 in
theorem iarDrop1_any {B : Nat} {w : World} {N X : Nat} {a : PArch} {m : Int} {u : ByteArray} (h : Shelf B w N a m) (hA : archB a = true) (hs : Sent w) (hw : B ≤ w.heap.size) (hul : u.size ≤ 1099511627776) (hX : w.heap[X]? = some (.cells #[.string u] 9 (0, 0))) :
    Calls Tryz.prog 21 #[.pointer (some ⟨N, 0, none⟩), .pointer (some ⟨X, 0, none⟩)] w fun e w' => e = .returned (.int .i64 (dropS u a).2) ∧ Shelf B w' N (dropS u a).1 m ∧ w.grownBy w' (some N) := by
  have CD := (show Hid _ from ishDrop_any h hA hs hw hul)
  have cX := rk_oneS hX
  clear h hA hs hw hul hX
  go_enter Tryz.func21, Tryz.ntmps21
  go_wp2_with fail
  go_at_call 22
  refine Calls.mono CD.out ?_
  rintro e w3 ⟨rfl, sh3, g3⟩
  have R := (show Hid _ from And.intro sh3 g3)
  clear sh3 g3 CD cX
  go_wp2
  go_ret
  exact ⟨rfl, R.out.1, R.out.2⟩
end Go.Proofs.YtjokajblihaphaaGreatDoor

/- The program's ArchiveCrash, ArchiveOpen (written by mk/iar8.py). No condition. -/
namespace Go.Proofs.YtjokajblihaphaaGreatDoor
open Go.RowKit Go.MuLone
set_option maxRecDepth 100000
set_option linter.unusedVariables false

theorem worked_crash (a : PArch) : workedA a (crashS a) = crashA a := rfl
theorem worked_open (a : PArch) : workedA a (openS a) = openA a := rfl

end Go.Proofs.YtjokajblihaphaaGreatDoor

/- worked with a closure that holds a box; the program's ArchiveDrop, ArchiveCompact (written by mk/istep7.py). No condition. -/
namespace Go.Proofs.YtjokajblihaphaaGreatDoor
open Go.RowKit Go.MuLone
set_option maxRecDepth 100000
set_option linter.unusedVariables false

/-- A deed that reads a text in the box X. -/
def DeedX (a : PArch) (q : PArch × Int) (f : FuncId) (X : Nat) (u : ByteArray) : Prop := ∀ (B : Nat) (W : World) (N : Nat), Shelf B W N a 1 → Sent W → B ≤ W.heap.size → W.heap[X]? = some (.cells #[.string u] 9 (0, 0)) → Calls Tryz.prog f #[.pointer (some ⟨N, 0, none⟩), .pointer (some ⟨X, 0, none⟩)] W fun e w' => e = .returned (.int .i64 q.2) ∧ Shelf B w' N q.1 1 ∧ W.grownBy w' (some N)
set_option maxHeartbeats 4000000 in
set_option maxRecDepth 100000 in
theorem iworkedX_any {w : World} {X : Nat} {u : ByteArray} {v : Value} {a : PArch} {f : FuncId} (q : PArch × Int) (h : ArAt w v a) (hf : ArFit a) (hs : Sent w) (hX : w.heap[X]? = some (.cells #[.string u] 9 (0, 0))) (hD : archB a = true → DeedX a q f X u) (he : ∀ (args : Array Value) (w : World), (callFunc f args).run Tryz.prog w = .ok (.enter f args) w) :
    Calls Tryz.prog 20 #[v, .func (.func f) #[] #[.pointer (some ⟨X, 0, none⟩)]] w fun e w' => ∃ v', e = .returned (.tuple #[v', .int .i64 (workedA a q).2]) ∧ OwnAy w.heap.size w' v' (workedA a q).1 ∧ Below w.heap.size w w' := by
  have HA := (show Hid (ArAt w v a) from h)
  have HF := (show Hid (ArFit a) from hf)
  have HT := (show Hid (Sent w) from hs)
  have HDD := (show Hid (archB a = true → DeedX a q f X u) from hD)
  have HX := (show Hid (w.heap[X]? = some (.cells #[.string u] 9 (0, 0))) from hX)
  clear hX
  obtain ⟨qb, hq⟩ : ∃ q, q = archB a := ⟨_, rfl⟩
  have HW : Hid (workedA a q = if qb = false then (zeroA, 1) else q) := (show _ = _ by rw [workedA, hq])
  obtain ⟨⟨ra, rc⟩, hra⟩ : ∃ x, x = workedA a q := ⟨_, rfl⟩
  rw [← hra] at HW
  rw [← hra]
  simp only
  rw [← hq] at HDD
  obtain ⟨sa, sn, sc, la, ln, lc, ea, en', ec, rfl, h1, h2⟩ := h
  have hl := ((Hl.refl w).new #[.bool a.up, .slice sa sn sc, .slice la ln lc, .int .i64 a.head.no, .int .i64 a.head.area, .int .i64 a.head.en, .slice ea en' ec] 38).new #[.bool false, .slice none 0 0, .slice none 0 0, .int .i64 0, .int .i64 0, .int .i64 0, .slice none 0 0] 38
  obtain ⟨w1, hw1⟩ : ∃ x, x = (w.alloc (.cells #[.bool a.up, .slice sa sn sc, .slice la ln lc, .int .i64 a.head.no, .int .i64 a.head.area, .int .i64 a.head.en, .slice ea en' ec] 38)).alloc (.cells #[.bool false, .slice none 0 0, .slice none 0 0, .int .i64 0, .int .i64 0, .int .i64 0, .slice none 0 0] 38) := ⟨_, rfl⟩
  rw [← hw1, World.size_alloc] at hl
  have HL := (show Hid (Hl w [(w.heap.size + 1, #[.bool false, .slice none 0 0, .slice none 0 0, .int .i64 0, .int .i64 0, .int .i64 0, .slice none 0 0], 38), (w.heap.size, #[.bool a.up, .slice sa sn sc, .slice la ln lc, .int .i64 a.head.no, .int .i64 a.head.area, .int .i64 a.head.en, .slice ea en' ec], 38)] w1) from hl)
  have CS := ishelfOf_any (HA.out.below hl.1) hf (hs.below hl.1)
  rw [← hq] at CS
  have CS := (show Hid _ from CS)
  clear hl h1 h2 hf hs hD hq hra
  go_enter_defers Tryz.func20, Tryz.ntmps20
  go_wp2_with fail
  go_at_call 41
  rw [← hw1]
  refine Calls.mono CS.out ?_
  rintro e w2 ⟨ho, b2⟩
  have S2 := (show Hid (Hl w [(w.heap.size + 1, #[.bool false, .slice none 0 0, .slice none 0 0, .int .i64 0, .int .i64 0, .int .i64 0, .slice none 0 0], 38), (w.heap.size, #[.bool a.up, .slice sa sn sc, .slice la ln lc, .int .i64 a.head.no, .int .i64 a.head.area, .int .i64 a.head.en, .slice ea en' ec], 38)] w2) from HL.out.below b2)
  have T2 := (show Hid (Sent w2) from HT.out.below S2.out.1)
  have Z1 := (show Hid (w.heap.size ≤ w1.heap.size) from HL.out.1.size)
  have Z2 := (show Hid (w1.heap.size ≤ w2.heap.size) from b2.size)
  clear hw1 CS b2 HL
  rcases ho with ⟨rfl, rfl⟩ | ⟨rfl, N, rfl, sh⟩
  · have e1 := HW.out
    rw [if_pos rfl] at e1
    cases e1
    clear HW HDD
    obtain ⟨d0, d1, d2, d3, d4, d5, d6, _⟩ := rk_seven S2.out.at0
    have j0 := rk_thaw (k := 0) S2.out.at0
    have j1 := rk_thaw (k := 1) S2.out.at0
    have j2 := rk_thaw (k := 2) S2.out.at0
    have j3 := rk_thaw (k := 3) S2.out.at0
    have j4 := rk_thaw (k := 4) S2.out.at0
    have j5 := rk_thaw (k := 5) S2.out.at0
    have j6 := rk_thaw (k := 6) S2.out.at0
    have S9 := (show Hid _ from S2.out.set7 (Nat.le_succ _) (by simp) (.bool false) (.slice none 0 0) (.slice none 0 0) (.int .i64 0) (.int .i64 0) (.int .i64 0) (.slice none 0 0))
    go_wp2
    exact ⟨_, arch_res rfl rfl rfl S9.out.at0, _, rfl, ⟨none, 0, 0, none, 0, 0, none, 0, 0, rfl, ⟨none, 0, 0, none, 0, 0, rfl, .inl ⟨rfl, rfl, none, rfl, fun _ => trivial⟩, .inl ⟨rfl, rfl, none, rfl, fun _ => trivial⟩⟩, .inl ⟨rfl, rfl, none, rfl, fun _ => trivial⟩⟩, S9.out.1⟩
  · have e1 := HW.out
    rw [if_neg (by decide)] at e1
    subst e1
    have SH := (show Hid (Shelf w1.heap.size w2 N a 0) from sh)
    have DD := (show Hid (DeedX a (ra, rc) f X u) from HDD.out rfl)
    obtain ⟨tu, k2, k3⟩ := sh.turn 1
    have hge := sh.ge
    clear HW HDD sh
    go_wp2_with fail
    go_at_call 42
    refine (lock_free muLib ⟨N, 2, none⟩ _ k2 k3).mono ?_
    rintro e w3 ⟨rfl, hw3⟩
    have SH3 := (show Hid (Shelf w1.heap.size w3 N a 1) from by rw [hw3]; exact tu)
    have g3 : w2.grownBy w3 (some N) := by rw [hw3]; exact grown_setCell _ _ _ _
    have S3 := (show Hid (Hl w [(w.heap.size + 1, #[.bool false, .slice none 0 0, .slice none 0 0, .int .i64 0, .int .i64 0, .int .i64 0, .slice none 0 0], 38), (w.heap.size, #[.bool a.up, .slice sa sn sc, .slice la ln lc, .int .i64 a.head.no, .int .i64 a.head.area, .int .i64 a.head.en, .slice ea en' ec], 38)] w3) from S2.out.shelf SH.out Z1.out g3 (by simp))
    have T3 := (show Hid (Sent w3) from SH.out.sent g3 T2.out)
    have Z3 := (show Hid (w1.heap.size ≤ w3.heap.size) from Nat.le_trans Z2.out g3.size)
    clear hw3 g3 tu k2 k3 S2 SH T2
    go_wp2_with fail
    refine Calls.mono (DD.out _ _ _ SH3.out T3.out Z3.out ((S3.out.1.block _ (lt_of_block HX.out)).trans HX.out)) ?_
    rintro e w4 ⟨rfl, sh4, g4⟩
    have SH4 := (show Hid (Shelf w1.heap.size w4 N ra 1) from sh4)
    have S4 := (show Hid (Hl w [(w.heap.size + 1, #[.bool false, .slice none 0 0, .slice none 0 0, .int .i64 0, .int .i64 0, .int .i64 0, .slice none 0 0], 38), (w.heap.size, #[.bool a.up, .slice sa sn sc, .slice la ln lc, .int .i64 a.head.no, .int .i64 a.head.area, .int .i64 a.head.en, .slice ea en' ec], 38)] w4) from S3.out.shelf SH3.out Z1.out g4 (by simp))
    have Z4 := (show Hid (w1.heap.size ≤ w4.heap.size) from Nat.le_trans Z3.out g4.size)
    clear sh4 g4 S3 SH3 T3 Z3 DD
    go_wp2_with fail
    go_at_call 44
    refine (ishArchive_any SH4.out Z4.out).mono ?_
    rintro e w5 ⟨v5, rfl, o5, b5⟩
    have S5 := (show Hid (Hl w [(w.heap.size + 1, #[.bool false, .slice none 0 0, .slice none 0 0, .int .i64 0, .int .i64 0, .int .i64 0, .slice none 0 0], 38), (w.heap.size, #[.bool a.up, .slice sa sn sc, .slice la ln lc, .int .i64 a.head.no, .int .i64 a.head.area, .int .i64 a.head.en, .slice ea en' ec], 38)] w5) from S4.out.below b5)
    have SH5 := (show Hid (Shelf w1.heap.size w5 N ra 1) from SH4.out.below b5)
    have O5 := (show Hid (OwnAy w1.heap.size w5 v5 ra) from o5)
    clear b5 o5 S4 SH4 Z4
    obtain ⟨ya, yn, yc, za, zn, zc, fa, fn, fc, e5, _⟩ := O5.out
    subst e5
    obtain ⟨d0, d1, d2, d3, d4, d5, d6, _⟩ := rk_seven S5.out.at0
    have j0 := rk_thaw (k := 0) S5.out.at0
    have j1 := rk_thaw (k := 1) S5.out.at0
    have j2 := rk_thaw (k := 2) S5.out.at0
    have j3 := rk_thaw (k := 3) S5.out.at0
    have j4 := rk_thaw (k := 4) S5.out.at0
    have j5 := rk_thaw (k := 5) S5.out.at0
    have j6 := rk_thaw (k := 6) S5.out.at0
    have hne := SH5.out.ne S5.out.at0 (by decide)
    have S9 := (show Hid _ from S5.out.set7 (Nat.le_succ _) (by simp) (.bool ra.up) (.slice ya yn yc) (.slice za zn zc) (.int .i64 ra.head.no) (.int .i64 ra.head.area) (.int .i64 ra.head.en) (.slice fa fn fc))
    have g9 := (show Hid _ from grown_set7 w5 (w.heap.size + 1) (.bool ra.up) (.slice ya yn yc) (.slice za zn zc) (.int .i64 ra.head.no) (.int .i64 ra.head.area) (.int .i64 ra.head.en) (.slice fa fn fc))
    have O9 := (show Hid _ from O5.out.turned g9.out (fun j e => by cases e; exact ⟨_, _, _, S5.out.at0, by decide, by decide, by decide⟩))
    have SH9 := (show Hid _ from SH5.out.past g9.out hne S5.out.at0 (by decide))
    clear O5 SH5
    go_wp2
    refine leaves_cons (f := 43) (args := #[.pointer (some ⟨N, 2, none⟩)]) (by simp) (by simp [go_sem]) ?_
    obtain ⟨_, k2, k3⟩ := Shelf.turn SH9.out 0
    refine (unlock_deferred muLib ⟨N, 2, none⟩ .returning _ k2 k3).mono ?_
    rintro e u' w7 ⟨rfl, rfl, hw7⟩
    have g7 := (show Hid (World.grownBy _ w7 (some N)) from by rw [hw7]; exact grown_setCell _ _ _ _)
    have S10 := (show Hid _ from S9.out.shelf SH9.out Z1.out g7.out (by simp))
    have O10 := (show Hid (OwnAy w1.heap.size w7 _ ra) from OwnAy.turned O9.out g7.out (fun j e => by
      cases e
      obtain ⟨_, _, _, _, _, _, _, _, _, _, _, _, _, hN, _⟩ := SH9.out
      exact ⟨_, _, _, hN, by decide, by decide, by decide⟩))
    exact ⟨_, arch_res rfl rfl rfl S10.out.at0, _, rfl, OwnAy.base O10.out Z1.out, S10.out.1⟩

def compactA (a : PArch) : PArch × Int := if archB a = false then (zeroA, 1) else compactS a
def dropA (u : ByteArray) (a : PArch) : PArch × Int := if archB a = false then (zeroA, 1) else dropS u a
theorem worked_compact (a : PArch) : workedA a (compactS a) = compactA a := rfl
theorem worked_drop (u : ByteArray) (a : PArch) : workedA a (dropS u a) = dropA u a := rfl
set_option maxHeartbeats 2000000 in
set_option maxRecDepth 100000 in
theorem iarCompact_any {w : World} {v : Value} {a : PArch} (h : ArAt w v a) (hf : ArFit a) (hs : Sent w) :
    Calls Tryz.prog 13 #[v] w fun e w' => ∃ v', e = .returned (.tuple #[v', .int .i64 (compactA a).2]) ∧ OwnAy w.heap.size w' v' (compactA a).1 ∧ Below w.heap.size w w' := by
  have HA := (show Hid (ArAt w v a) from h)
  obtain ⟨⟨ra, rc⟩, hra⟩ : ∃ x, x = compactA a := ⟨_, rfl⟩
  rw [← hra]
  simp only
  obtain ⟨sa, sn, sc, la, ln, lc, ea, en', ec, rfl, h1, h2⟩ := h
  have hl := ((Hl.refl w).new #[.bool a.up, .slice sa sn sc, .slice la ln lc, .int .i64 a.head.no, .int .i64 a.head.area, .int .i64 a.head.en, .slice ea en' ec] 38).new #[.bool false, .slice none 0 0, .slice none 0 0, .int .i64 0, .int .i64 0, .int .i64 0, .slice none 0 0] 38
  obtain ⟨w1, hw1⟩ : ∃ x, x = (w.alloc (.cells #[.bool a.up, .slice sa sn sc, .slice la ln lc, .int .i64 a.head.no, .int .i64 a.head.area, .int .i64 a.head.en, .slice ea en' ec] 38)).alloc (.cells #[.bool false, .slice none 0 0, .slice none 0 0, .int .i64 0, .int .i64 0, .int .i64 0, .slice none 0 0] 38) := ⟨_, rfl⟩
  rw [← hw1, World.size_alloc] at hl
  have HL := (show Hid (Hl w [(w.heap.size + 1, #[.bool false, .slice none 0 0, .slice none 0 0, .int .i64 0, .int .i64 0, .int .i64 0, .slice none 0 0], 38), (w.heap.size, #[.bool a.up, .slice sa sn sc, .slice la ln lc, .int .i64 a.head.no, .int .i64 a.head.area, .int .i64 a.head.en, .slice ea en' ec], 38)] w1) from hl)
  have CW := iworked_any (f := 30) (compactS a) (HA.out.below hl.1) hf (hs.below hl.1) (fun hb B W N s t l => ishCompact_any s hb t l) (run_callFunc_enter Tryz.func30 (by kernel_rfl) rfl)
  rw [worked_compact, ← hra] at CW
  have CW := (show Hid _ from CW)
  clear hl h1 h2 hf hs hra
  go_enter Tryz.func13, Tryz.ntmps13
  go_wp2_with fail
  go_at_call 20
  rw [← hw1]
  refine Calls.mono CW.out ?_
  rintro e w5 ⟨v5, rfl, o5, b5⟩
  have S5 := (show Hid (Hl w [(w.heap.size + 1, #[.bool false, .slice none 0 0, .slice none 0 0, .int .i64 0, .int .i64 0, .int .i64 0, .slice none 0 0], 38), (w.heap.size, #[.bool a.up, .slice sa sn sc, .slice la ln lc, .int .i64 a.head.no, .int .i64 a.head.area, .int .i64 a.head.en, .slice ea en' ec], 38)] w5) from HL.out.below b5)
  have O5 := (show Hid (OwnAy w.heap.size w5 v5 ra) from OwnAy.base o5 HL.out.1.size)
  clear b5 o5 HL hw1 CW
  obtain ⟨ya, yn, yc, za, zn, zc, fa, fn, fc, e5, _⟩ := O5.out
  subst e5
  obtain ⟨d0, d1, d2, d3, d4, d5, d6, _⟩ := rk_seven S5.out.at0
  have j0 := rk_thaw (k := 0) S5.out.at0
  have j1 := rk_thaw (k := 1) S5.out.at0
  have j2 := rk_thaw (k := 2) S5.out.at0
  have j3 := rk_thaw (k := 3) S5.out.at0
  have j4 := rk_thaw (k := 4) S5.out.at0
  have j5 := rk_thaw (k := 5) S5.out.at0
  have j6 := rk_thaw (k := 6) S5.out.at0
  have S9 := (show Hid _ from S5.out.set7 (Nat.le_succ _) (by simp) (.bool ra.up) (.slice ya yn yc) (.slice za zn zc) (.int .i64 ra.head.no) (.int .i64 ra.head.area) (.int .i64 ra.head.en) (.slice fa fn fc))
  have g9 := grown_set7 w5 (w.heap.size + 1) (.bool ra.up) (.slice ya yn yc) (.slice za zn zc) (.int .i64 ra.head.no) (.int .i64 ra.head.area) (.int .i64 ra.head.en) (.slice fa fn fc)
  have O9 := (show Hid _ from OwnAy.turned O5.out g9 (fun j e => by cases e; exact ⟨_, _, _, S5.out.at0, by decide, by decide, by decide⟩))
  clear g9 O5
  go_wp2
  refine bodyPost_ret (arch_res rfl rfl rfl S9.out.at0) rfl ?_
  exact ⟨_, rfl, O9.out, S9.out.1⟩

set_option maxHeartbeats 2000000 in
set_option maxRecDepth 100000 in
theorem iarDrop_any {w : World} {v : Value} {a : PArch} {u : ByteArray} (h : ArAt w v a) (hf : ArFit a) (hs : Sent w) (hul : u.size ≤ 1099511627776) :
    Calls Tryz.prog 8 #[v, .string u] w fun e w' => ∃ v', e = .returned (.tuple #[v', .int .i64 (dropA u a).2]) ∧ OwnAy w.heap.size w' v' (dropA u a).1 ∧ Below w.heap.size w w' := by
  have HA := (show Hid (ArAt w v a) from h)
  obtain ⟨⟨ra, rc⟩, hra⟩ : ∃ x, x = dropA u a := ⟨_, rfl⟩
  rw [← hra]
  simp only
  obtain ⟨sa, sn, sc, la, ln, lc, ea, en', ec, rfl, h1, h2⟩ := h
  have hl := (((Hl.refl w).new #[.bool a.up, .slice sa sn sc, .slice la ln lc, .int .i64 a.head.no, .int .i64 a.head.area, .int .i64 a.head.en, .slice ea en' ec] 38).new #[.string u] 9).new #[.bool false, .slice none 0 0, .slice none 0 0, .int .i64 0, .int .i64 0, .int .i64 0, .slice none 0 0] 38
  obtain ⟨w1, hw1⟩ : ∃ x, x = ((w.alloc (.cells #[.bool a.up, .slice sa sn sc, .slice la ln lc, .int .i64 a.head.no, .int .i64 a.head.area, .int .i64 a.head.en, .slice ea en' ec] 38)).alloc (.cells #[.string u] 9)).alloc (.cells #[.bool false, .slice none 0 0, .slice none 0 0, .int .i64 0, .int .i64 0, .int .i64 0, .slice none 0 0] 38) := ⟨_, rfl⟩
  rw [← hw1, World.size_alloc, World.size_alloc] at hl
  have HL := (show Hid (Hl w [(w.heap.size + 1 + 1, #[.bool false, .slice none 0 0, .slice none 0 0, .int .i64 0, .int .i64 0, .int .i64 0, .slice none 0 0], 38), (w.heap.size + 1, #[.string u], 9), (w.heap.size, #[.bool a.up, .slice sa sn sc, .slice la ln lc, .int .i64 a.head.no, .int .i64 a.head.area, .int .i64 a.head.en, .slice ea en' ec], 38)] w1) from hl)
  have CW := iworkedX_any (f := 21) (X := w.heap.size + 1) (u := u) (dropS u a) (HA.out.below hl.1) hf (hs.below hl.1) hl.at1 (fun hb B W N s t l x => iarDrop1_any s hb t l hul x) (run_callFunc_enter Tryz.func21 (by kernel_rfl) rfl)
  rw [worked_drop, ← hra] at CW
  have CW := (show Hid _ from CW)
  clear hl h1 h2 hf hs hra
  go_enter Tryz.func8, Tryz.ntmps8
  go_wp2_with fail
  go_at_call 20
  rw [← hw1]
  refine Calls.mono CW.out ?_
  rintro e w5 ⟨v5, rfl, o5, b5⟩
  have S5 := (show Hid (Hl w [(w.heap.size + 1 + 1, #[.bool false, .slice none 0 0, .slice none 0 0, .int .i64 0, .int .i64 0, .int .i64 0, .slice none 0 0], 38), (w.heap.size + 1, #[.string u], 9), (w.heap.size, #[.bool a.up, .slice sa sn sc, .slice la ln lc, .int .i64 a.head.no, .int .i64 a.head.area, .int .i64 a.head.en, .slice ea en' ec], 38)] w5) from HL.out.below b5)
  have O5 := (show Hid (OwnAy w.heap.size w5 v5 ra) from OwnAy.base o5 HL.out.1.size)
  clear b5 o5 HL hw1 CW
  obtain ⟨ya, yn, yc, za, zn, zc, fa, fn, fc, e5, _⟩ := O5.out
  subst e5
  obtain ⟨d0, d1, d2, d3, d4, d5, d6, _⟩ := rk_seven S5.out.at0
  have j0 := rk_thaw (k := 0) S5.out.at0
  have j1 := rk_thaw (k := 1) S5.out.at0
  have j2 := rk_thaw (k := 2) S5.out.at0
  have j3 := rk_thaw (k := 3) S5.out.at0
  have j4 := rk_thaw (k := 4) S5.out.at0
  have j5 := rk_thaw (k := 5) S5.out.at0
  have j6 := rk_thaw (k := 6) S5.out.at0
  have S9 := (show Hid _ from S5.out.set7 (by omega) (by simp; omega) (.bool ra.up) (.slice ya yn yc) (.slice za zn zc) (.int .i64 ra.head.no) (.int .i64 ra.head.area) (.int .i64 ra.head.en) (.slice fa fn fc))
  have g9 := grown_set7 w5 (w.heap.size + 1 + 1) (.bool ra.up) (.slice ya yn yc) (.slice za zn zc) (.int .i64 ra.head.no) (.int .i64 ra.head.area) (.int .i64 ra.head.en) (.slice fa fn fc)
  have O9 := (show Hid _ from OwnAy.turned O5.out g9 (fun j e => by cases e; exact ⟨_, _, _, S5.out.at0, by decide, by decide, by decide⟩))
  clear g9 O5
  go_wp2
  refine bodyPost_ret (arch_res rfl rfl rfl S9.out.at0) rfl ?_
  exact ⟨_, rfl, O9.out, S9.out.1⟩

end Go.Proofs.YtjokajblihaphaaGreatDoor
