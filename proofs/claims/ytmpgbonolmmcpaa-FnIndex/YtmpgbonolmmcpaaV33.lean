/- The program's IndexFind: the first that fits. -/
import Derived.Test.YtmpgbonolmmcpaaV18
import Derived.Test.YtmpgbonolmmcpaaV17
import Derived.Laws.ResultCell
import Derived.Test.YtmpgbonolmmcpaaV30
namespace Go.Proofs.Ytmpgbonolmmcpaa
open Go.RowKit
set_option maxRecDepth 100000
set_option linter.unusedVariables false

theorem idxFind1_any (g : Nat) (nm x y : ByteArray) (w : World) (hg : w.cell? ⟨g, 0, none⟩ = some (.string nm)) (hlt : g < w.heap.size) :
    Calls Try.prog 66 #[.agg #[.string x, .string y], .pointer (some ⟨g, 0, none⟩)] w fun e w' => e = .returned (.bool (decide (x = nm))) ∧ Below w.heap.size w w' := by
  have hb : Below w.heap.size w (w.alloc (.cells #[.string x, .string y] 41)) := (Below.refl _ _).alloc (Nat.le_refl _) _
  have hg2 := (hb.cell (p := ⟨g, 0, none⟩) hlt).trans hg
  by_cases hm : x = nm
  · rw [decide_eq_true hm]
    subst hm
    go_enter Try.func66, Try.ntmps66
    go_wp2
    go_ret
    exact ⟨rfl, hb⟩
  · rw [decide_eq_false hm]
    have hd := toList_ne hm
    go_enter Try.func66, Try.ntmps66
    go_wp2
    go_ret
    exact ⟨rfl, hb⟩

theorem firstE_res {tmps : Array Value} {w : World} {g : Nat} {x y : ByteArray} {b : Bool} (h4 : tmps.getD 4 undef = .pointer (some ⟨g, 0, none⟩)) (h5 : tmps.getD 5 undef = .bool b) (hb : w.heap[g]? = some (.cells #[.string x, .string y] 41 (0, 0))) :
    (results Try.f65 tmps).run Try.prog w = .ok (.tuple #[.agg #[.string x, .string y], .bool b]) w := by
  rw [results_cell_tmp (p := 4) (u := 5) (ty := 41) rfl, h4, h5]
  simp [asAddr, run_loadVar_row w g 41 41 #[.string x, .string y] (0, 0) _ hb Try.underlying41 rfl rfl, Result.andThen]

/-- The first of that name: its name. -/
def urlNm (rs : List (ByteArray × ByteArray)) (nm : ByteArray) : ByteArray := if (attrOf rs nm).2 then nm else ⟨#[]⟩

set_option maxHeartbeats 2000000 in
set_option maxRecDepth 100000 in
theorem firstUrl_any {v : Value} {rs : List (ByteArray × ByteArray)} {w : World} (h : Sv 2 w v (pairCells rs)) (g : Nat) (nm : ByteArray) (hg : w.cell? ⟨g, 0, none⟩ = some (.string nm)) (hgl : g < w.heap.size) (hn : rs.length ≤ 1099511627776) :
    Calls Try.prog 65 #[v, .func (.func 66) #[] #[.pointer (some ⟨g, 0, none⟩)]] w fun e w' => e = .returned (.tuple #[.agg #[.string (urlNm rs nm), .string (attrOf rs nm).1], .bool (attrOf rs nm).2]) ∧ Below w.heap.size w w' := by
  have HS := (show Hid (Sv 2 w v (pairCells rs)) from h)
  obtain ⟨a, ca, rfl, _, _, hca⟩ := h.pair
  clear h hca
  have HG := (show Hid (w.cell? ⟨g, 0, none⟩ = some (.string nm)) from hg)
  clear hg
  go_enter Try.func65, Try.ntmps65
  go_wp2
  obtain ⟨w0, hw0⟩ : ∃ w0, w0 = w.alloc (.cells #[.string ⟨#[]⟩, .string ⟨#[]⟩] 41) := ⟨_, rfl⟩
  have hsz0 : w0.heap.size = w.heap.size + 1 := by rw [hw0]; simp
  have bel0 : Below w.heap.size w w0 := by rw [hw0]; exact (Below.refl _ _).alloc (Nat.le_refl _) _
  have hres0 : w0.heap[w.heap.size]? = some (.cells #[.string ⟨#[]⟩, .string ⟨#[]⟩] 41 (0, 0)) := by rw [hw0]; exact World.alloc_heap_new _ _
  rw [← hw0]
  go_loopw [11] (fun i wr => ∃ k : Nat, k ≤ rs.length ∧ i = .int .i64 k ∧ attrOf (rs.drop k) nm = attrOf rs nm ∧ Below w0.heap.size w0 wr) (fun i _ => rs.length - (intOf i).toNat)
  case atStart => exact ⟨0, Nat.zero_le _, rfl, rfl, Below.refl _ _⟩
  case round =>
    obtain ⟨k, hk, rfl, he, bel⟩ := hrel
    have BW : Hid (Below w.heap.size w wr) := bel0.trans (bel.mono (by omega))
    have hresr : wr.heap[w.heap.size]? = some (.cells #[.string ⟨#[]⟩, .string ⟨#[]⟩] 41 (0, 0)) := by rw [bel.block _ (by omega)]; exact hres0
    have hwl : w.heap.size < wr.heap.size := by have := bel.size; omega
    by_cases hlt : k < rs.length
    · obtain ⟨_, _, ev, _, _, hca⟩ := (HS.out.below BW.out).pair
      cases ev
      obtain ⟨b1, o1, rfl, l1, c1, c2⟩ := hca k hlt
      rw [attrOf_drop hlt] at he
      obtain ⟨x, hx⟩ : ∃ x, x = rs[k] := ⟨_, rfl⟩
      rw [← hx] at c1 c2 he
      have HE := (show Hid _ from he)
      clear he hx hca
      obtain ⟨xn, xv⟩ := x
      simp only at c1 c2 HE
      have bx : Below wr.heap.size wr (wr.alloc (.cells #[.string xn, .string xv] 41)) := (Below.refl _ _).alloc (Nat.le_refl _) _
      have cc := idxFind1_any g nm xn xv (wr.alloc (.cells #[.string xn, .string xv] 41)) ((bx.cell (p := ⟨g, 0, none⟩) (by show g < wr.heap.size; omega)).trans ((BW.out.cell (p := ⟨g, 0, none⟩) hgl).trans HG.out)) (by simp; omega)
      have hxb : (wr.alloc (.cells #[.string xn, .string xv] 41)).heap[wr.heap.size]? = some (.cells #[.string xn, .string xv] 41 (0, 0)) := World.alloc_heap_new _ _
      have hrb : (wr.alloc (.cells #[.string xn, .string xv] 41)).heap[w.heap.size]? = some (.cells #[.string ⟨#[]⟩, .string ⟨#[]⟩] 41 (0, 0)) := by rw [bx.block _ hwl]; exact hresr
      have hsa : (wr.alloc (.cells #[.string xn, .string xv] 41)).heap.size = wr.heap.size + 1 := by simp
      by_cases hm : xn = nm
      · rw [decide_eq_true hm] at cc
        have HE2 : Hid (attrOf rs nm = (xv, true)) := by have := HE.out; rw [if_pos hm] at this; exact this.symm
        clear HE
        subst hm
        go_wp2_with fail
        go_at_call 66
        refine cc.mono ?_
        rintro e w2 ⟨rfl, b2⟩
        have hx2 := (b2.block wr.heap.size (by omega)).trans hxb
        have hr2 := (b2.block w.heap.size (by omega)).trans hrb
        have x0 : w2.cell? ⟨wr.heap.size, 0, none⟩ = some (.string xn) := by simp [World.cell?, hx2]
        have x1 : w2.cell? ⟨wr.heap.size, 1, none⟩ = some (.string xv) := by simp [World.cell?, hx2]
        have r0 : w2.cell? ⟨w.heap.size, 0, none⟩ = some (.string ⟨#[]⟩) := by simp [World.cell?, hr2]
        have r1 : w2.cell? ⟨w.heap.size, 1, none⟩ = some (.string ⟨#[]⟩) := by simp [World.cell?, hr2]
        have f0 : w2.frozen? ⟨w.heap.size, 0, none⟩ = false := by simp [World.frozen?, hr2]
        have f1 : w2.frozen? ⟨w.heap.size, 1, none⟩ = false := by simp [World.frozen?, hr2]
        have BW2 : Hid (Below w.heap.size w w2) := BW.out.trans ((bx.trans (b2.mono (by omega))).mono (by omega))
        have hr3 := (show Hid _ from rk_at (k := 1) (u := .string xv) (rk_at (k := 0) (u := .string xn) hr2))
        clear c1 c2 cc hx2 hr2 hxb hrb hresr
        go_wp2
        (try simp only [Exit.inBlock, Exit.then])
        refine bodyPost_ret (firstE_res (x := xn) (y := xv) (b := true) rfl rfl hr3.out) rfl ?_
        exact ⟨by unfold urlNm; rw [HE2.out]; rfl, (BW2.out.setCell (Nat.le_refl _) _).setCell (Nat.le_refl _) _⟩
      · rw [decide_eq_false hm] at cc
        have HE2 := HE.out
        rw [if_neg hm] at HE2
        have HE3 := (show Hid _ from HE2)
        clear HE HE2
        go_wp2_with fail
        go_at_call 66
        refine cc.mono ?_
        rintro e w2 ⟨rfl, b2⟩
        go_wp2
        go_roundw
        case rel => exact ⟨k + 1, by omega, by go_num, HE3.out, bel.trans ((bx.trans (b2.mono (by omega))).mono bel.size)⟩
        case measure => simp [intOf]; omega
    · have hke : k = rs.length := by omega
      rw [hke, List.drop_length] at he
      have HE := (show Hid _ from he)
      clear he
      have r0 : wr.cell? ⟨w.heap.size, 0, none⟩ = some (.string ⟨#[]⟩) := by simp only [World.cell?, hresr]; rfl
      have r1 : wr.cell? ⟨w.heap.size, 1, none⟩ = some (.string ⟨#[]⟩) := by simp only [World.cell?, hresr]; rfl
      have f0 : wr.frozen? ⟨w.heap.size, 0, none⟩ = false := by simp only [World.frozen?, hresr]; rfl
      have f1 : wr.frozen? ⟨w.heap.size, 1, none⟩ = false := by simp only [World.frozen?, hresr]; rfl
      have hr3 := (show Hid _ from rk_at (k := 1) (u := .string ⟨#[]⟩) (rk_at (k := 0) (u := .string ⟨#[]⟩) hresr))
      have hne : w.heap.size ≠ wr.heap.size := by omega
      clear hresr
      go_wp2
      (try simp only [Exit.inBlock, Exit.then])
      refine bodyPost_ret (firstE_res (x := ⟨#[]⟩) (y := ⟨#[]⟩) (b := false) rfl rfl ((heap_alloc_old _ _ (by simp; omega)).trans hr3.out)) rfl ?_
      exact ⟨by unfold urlNm; rw [← HE.out]; rfl, ((BW.out.setCell (Nat.le_refl _) _).setCell (Nat.le_refl _) _).alloc (by simp; omega) _⟩

set_option maxHeartbeats 2000000 in
set_option maxRecDepth 100000 in
theorem iidxFind_any {v : Value} {rs : List (ByteArray × ByteArray)} {w : World} (h : Sv 2 w v (pairCells rs)) (nm : ByteArray) (hn : rs.length ≤ 1099511627776) :
    Calls Try.prog 25 #[v, .string nm] w fun e w' => e = .returned (.tuple #[.string (attrOf rs nm).1, .bool (attrOf rs nm).2]) ∧ Below w.heap.size w w' := by
  have b1 : Below w.heap.size w (w.alloc (.cells #[.string nm] 9)) := (Below.refl _ _).alloc (Nat.le_refl _) _
  have cc := firstUrl_any (h.below b1) w.heap.size nm (by simp only [World.cell?, World.alloc_heap_new]; rfl) (by simp) hn
  obtain ⟨p, hp⟩ : ∃ p, p = attrOf rs nm := ⟨_, rfl⟩
  obtain ⟨q, hq⟩ : ∃ q, q = urlNm rs nm := ⟨_, rfl⟩
  rw [← hp, ← hq] at cc
  rw [← hp]
  clear hp hq h
  obtain ⟨pv, pb⟩ := p
  simp only at cc ⊢
  go_enter Try.func25, Try.ntmps25
  go_wp2_with fail
  go_at_call 65
  refine cc.mono ?_
  rintro e w2 ⟨rfl, b2⟩
  go_wp2
  go_ret2
  exact ⟨rfl, (b1.trans (b2.mono b1.size)).alloc (b1.trans (b2.mono b1.size)).size _⟩
end Go.Proofs.Ytmpgbonolmmcpaa

/- The program's IndexPack. No condition. -/
namespace Go.Proofs.Ytmpgbonolmmcpaa
open Go.RowKit
set_option maxRecDepth 100000
set_option linter.unusedVariables false

set_option maxHeartbeats 400000 in
set_option maxRecDepth 100000 in
theorem iindexPack_any {v : Value} {ps : List (ByteArray × ByteArray)} {w : World} (h : Sv 2 w v (pairCells ps)) (hn : ps.length ≤ 1048576) (hs : ∀ p ∈ ps, p.1.size ≤ 1048576 ∧ p.2.size ≤ 1048576) :
    Calls Try.prog 26 #[v] w fun e w' => ∃ v', e = .returned (.tuple #[v', .bool (packX ps).2]) ∧ Own w.heap.size 5 .u8 w' v' (packX ps).1 ∧ Below w.heap.size w w' := by
  obtain ⟨a, ca, rfl, _, _, hca⟩ := h.pair
  have HC := (show Hid _ from hca)
  have HZ := (show Hid _ from hs)
  obtain ⟨i0, hi, hz0, hz1, hz2⟩ := info_parts Try.infoB
  clear h hca hs
  go_enter Try.func26, Try.ntmps26
  go_wp2_with fail
  have b1 : Below w.heap.size w (w.alloc (.cells #[] 5)) := (Below.refl _ _).alloc (Nat.le_refl _) _
  have o1 := own_empty 5 .u8 w
  go_loopw [4, 12] (fun z s wr => ∃ (k : Nat) (pre : List Int), k ≤ ps.length ∧ s = .int .i64 (k : Int) ∧ Own w.heap.size 5 .u8 wr z pre ∧ Hid ((packE (ps.drop k)).map (pre ++ ·) = packE ps) ∧ pre.length ≤ k * 1048663 ∧ Below w.heap.size w wr) (fun _ s _ => ps.length - (intOf s).toNat)
  case atStart => exact ⟨0, [], Nat.zero_le _, rfl, o1, (show _ = _ by cases h : packE ps <;> simp [h]), by simp, b1⟩
  case round =>
    clear b1 o1
    obtain ⟨k, pre, hk, rfl, o2, hF, hp, b2⟩ := hrel
    have O2 := (show Hid (Own w.heap.size 5 .u8 wr u4 pre) from o2)
    have B2 := (show Hid (Below w.heap.size w wr) from b2)
    clear o2 b2
    by_cases hlt : k < ps.length
    · have hlt' : (k : Int) < (ps.length : Int) := by omega
      obtain ⟨b1, o1, rfl, l1, c1, c2⟩ := HC.out k hlt
      have z1 := HZ.out _ (List.getElem_mem hlt)
      have HD := (show Hid _ from packE_drop hlt)
      obtain ⟨x, hx⟩ : ∃ x, x = ps[k] := ⟨_, rfl⟩
      rw [← hx] at c1 c2 z1 HD
      clear hx
      obtain ⟨xu, xb⟩ := x
      simp only at c1 c2 z1
      have HL := (show Hid (recB (recE (xu, xb)) = true → (recL (recE (xu, xb))).length ≤ 87 + xb.size) from fun e => recL_len e)
      have HP := (show Hid (packR ⟨1, xu, xb⟩ = if recB (recE (xu, xb)) = true then (recL (recE (xu, xb)), true) else ([], false)) from rfl)
      obtain ⟨L, hL⟩ : ∃ L, L = recL (recE (xu, xb)) := ⟨_, rfl⟩
      obtain ⟨ok, hok⟩ : ∃ ok, ok = recB (recE (xu, xb)) := ⟨_, rfl⟩
      rw [← hL, ← hok] at HD HL HP
      obtain ⟨w2, hw2⟩ : ∃ y, y = wr.alloc (.cells #[.string xu, .string xb] 41) := ⟨_, rfl⟩
      have b22 : Below wr.heap.size wr w2 := by rw [hw2]; exact (Below.refl _ _).alloc (Nat.le_refl _) _
      have CP := (show Hid (Calls Try.prog 14 #[.agg #[.int .i64 1, .string xu, .string xb]] w2 fun e w' => ∃ v, e = .returned (.tuple #[v, .bool (packR ⟨1, xu, xb⟩).2]) ∧ Own w2.heap.size 5 .u8 w' v (packR ⟨1, xu, xb⟩).1 ∧ Below w2.heap.size w2 w') from irecPack_any ⟨1, xu, xb⟩ w2 (by show xu.size ≤ _; omega) (by show xb.size ≤ _; omega))
      have BB := (show Hid (Below w.heap.size w w2 ∧ Own w.heap.size 5 .u8 w2 u4 pre) from ⟨B2.out.trans (b22.mono B2.out.size), O2.out.below b22⟩)
      have cc1 := (B2.out.cell (p := ⟨b1, o1 + k * 2, none⟩) l1).trans c1
      have cc2 := (B2.out.cell (p := ⟨b1, o1 + k * 2 + 1, none⟩) l1).trans c2
      clear hL hok c1 c2 b22
      cases ok
      · rw [if_neg (by decide)] at HD HP
        rw [HP.out] at CP
        have HR : Hid (packX ps = ([], false)) := (show packX ps = ([], false) by
          have := hF.out
          rw [HD.out] at this
          rw [packX, ← this]; rfl)
        clear HD HP HL hF
        go_wp2_with fail
        go_at_call 14
        rw [← hw2]
        clear hw2
        refine Calls.mono CP.out ?_
        rintro e w3 ⟨v3, rfl, o3, b3⟩
        have B3 := (show Hid (Below w.heap.size w w3) from BB.out.1.trans (b3.mono BB.out.1.size))
        clear b3 o3
        go_wp2
        go_ret2
        exact ⟨_, by rw [HR.out]; rfl, by rw [HR.out]; exact ⟨rfl, .inl ⟨rfl, rfl⟩⟩, B3.out⟩
      · rw [if_pos rfl] at HD HP
        rw [HP.out] at CP
        have hL := HL.out rfl
        have HH : Hid ((packE (ps.drop (k + 1))).map ((pre ++ L) ++ ·) = packE ps) := (show _ = _ by
          rw [← hF.out, HD.out]
          cases packE (ps.drop (k + 1)) <;> simp)
        have hk2 : k * 1048663 ≤ 1048576 * 1048663 := Nat.mul_le_mul_right _ (by omega)
        clear HD HP HL hF
        go_wp2_with fail
        go_at_call 14
        rw [← hw2]
        clear hw2
        refine Calls.mono CP.out ?_
        rintro e w3 ⟨v3, rfl, o3, b3⟩
        have B3 := (show Hid (Below w.heap.size w w3) from BB.out.1.trans (b3.mono BB.out.1.size))
        have O23 := (show Hid (Own w.heap.size 5 .u8 w3 u4 pre) from BB.out.2.below b3)
        have O3 := (show Hid (Own w2.heap.size 5 .u8 w3 v3 L) from o3)
        clear b3 o3
        go_wp2_with (at_builtin
                     refine wpList_app _ rfl (.tmp 27) (.tmp 28) 22 rfl w.heap.size 5 i0 (.int .u8 0) 1 Try.underlying22 hi hz0 hz1 hz2 rfl .u8 u4 v3 pre L rfl rfl O23.out O3.out.sl (by omega) (by unfold maxLen; omega) B3.out.size ?_
                     intro v5 w5 o5 g5
                     have B5 := (show Hid (Below w.heap.size w w5) from B3.out.grown g5 B3.out.size (fun r e => (World.ownsRow.lt O23.out r e).1))
                     have O5 := (show Hid (Own w.heap.size 5 .u8 w5 v5 (pre ++ L)) from o5)
                     clear o5 g5)
        go_roundw
        case rel => exact ⟨k + 1, pre ++ L, hlt, by go_num, O5.out, HH, by rw [List.length_append]; omega, B5.out⟩
        case measure => simp [intOf]; omega
    · obtain rfl : k = ps.length := by omega
      have hn' : ¬ ((ps.length : Int) < (ps.length : Int)) := by omega
      have HR : Hid (packX ps = (pre, true)) := (show packX ps = (pre, true) by
        have := hF.out
        rw [List.drop_length] at this
        rw [packX, ← this]; simp [packE])
      clear hF
      go_wp2
      go_ret2
      exact ⟨_, by rw [HR.out]; rfl, by rw [HR.out]; exact O2.out, B2.out⟩
end Go.Proofs.Ytmpgbonolmmcpaa
