/- The program's index as a map: keep, drop, takeAll. -/
import Derived.Test.YtokkigfjabbdaaaGreatDoorU39
import Derived.Test.YtokkigfjabbdaaaGreatDoorU40
import Derived.Test.YtokkigfjabbdaaaGreatDoorU14
import Derived.Maps.AppendAt
import Derived.Maps.RangeWalk
import Derived.Test.YtokkigfjabbdaaaGreatDoorU20
import Derived.Test.YtokkigfjabbdaaaGreatDoorU0
import Derived.Test.YtokkigfjabbdaaaGreatDoorU4
import Derived.Test.YtokkigfjabbdaaaGreatDoorU23
import Derived.Test.YtokkigfjabbdaaaGreatDoorU28
namespace Go.Proofs.YtokkigfjabbdaaaGreatDoor
open Go.RowKit Go.Maps Go.Sort Go.ChangeMaps
set_option maxRecDepth 100000
set_option linter.unusedVariables false

/-- 'clear(m)'. -/
theorem clear_run {H : Type} {P : Program} {w : World} {t k e : TypeId} {R : Value → Option (DataW H × List MemPlace)} {b n : Nat} {D : DataW H} (hown : w.ownsMap P k R b n D) (ht : P.underlying t = some (.map k e)) :
    ∃ w', (∀ ty, (Builtin.clear_ #[t] ty #[.map (some b)]).run P w = .ok (.tuple #[]) w') ∧ w.mapTurned w' b := by
  obtain ⟨es, clock, hb, F, hs, rfl⟩ := hown
  refine ⟨setBlock w b (.map #[] clock), fun ty => ?_, ⟨es, clock, #[], clock, hb, rfl⟩⟩
  simp [Builtin.clear_, run_underlying ht, MapKept.run_getObj_map hb, MapKept.run_setObj_map _ hb, Result.andThen]
  rfl

theorem keepX_any {w : World} {b n : Nat} {D : DataW Unit} (hown : w.ownsMap Tryz.prog 9 entElem b n D) (hn : n < 1099511627776) (u bo : ByteArray) (hu : u.size ≤ maxLen) :
    Calls Tryz.prog 105 #[.map (some b), .string u, .agg #[.string u, .string bo]] w fun e w' => e = .returned (.tuple #[]) ∧ w'.ownsMap Tryz.prog 9 entElem b (n + 1) (D.put (.string u.data.toList) (entD u bo)) ∧ w.grownBy w' (some b) := by
  have hkey := keyOf_url hu
  have hnm : n < maxLen := by unfold maxLen; omega
  clear hn
  have hown1 := hown.alloc (.cells #[.string u, .string bo] 70)
  have g1 := World.grownBy_alloc w (.cells #[.string u, .string bo] 70) (some b)
  obtain ⟨c0, c1, _, _⟩ := rk_two (World.alloc_heap_new w (.cells #[.string u, .string bo] 70))
  go_enter Tryz.func105, Tryz.ntmps105
  go_wp2_with (at_mapUpdate; refine wpList_mapUpdate_own _ rfl _ _ _ 150 rfl 9 70 lawU Tryz.underlying150 entElem b n _ rfl hown1 hnm _ _ _ rfl rfl hkey _ [] (entElem_mk _ _) ?_; intro w1 own1 grow1)
  go_end0
  exact ⟨rfl, own1, grown_trans g1 grow1⟩

theorem dropX_any {w : World} {b n : Nat} {D : DataW Unit} (hown : w.ownsMap Tryz.prog 9 entElem b n D) (u : ByteArray) (hu : u.size ≤ maxLen) :
    Calls Tryz.prog 106 #[.map (some b), .string u] w fun e w' => e = .returned (.tuple #[]) ∧ w'.ownsMap Tryz.prog 9 entElem b n (D.del (.string u.data.toList)) ∧ w.grownBy w' (some b) := by
  have hkey := keyOf_url hu
  go_enter Tryz.func106, Tryz.ntmps106
  go_wp2_with (at_delete; refine wpList_delete_own _ rfl _ _ 150 9 rfl 70 lawU Tryz.underlying150 entElem b n _ rfl hown _ _ rfl hkey ?_; intro w1 own1 turn1)
  go_end0
  exact ⟨rfl, own1, turn1.grown⟩

/-- Texts of the call's own, sorted. -/
theorem sort_own {B : Nat} {w : World} {v : Value} {ss : List (List UInt8)} (hrow : w.ownsRow B 9 1 v ss.length (ss.map encStr)) (hnn : v ≠ .slice none 0 0) (hsz : ss.length < 4611686018427387904) :
    Calls Tryz.prog 132 #[v] w fun e w' => e = .returned (.tuple #[]) ∧ w'.ownsRow B 9 1 v ss.length ((ss.mergeSort fun x y => decide (x ≤ y)).map encStr) ∧ w.grownBy w' v.ownBlock := by
  rcases hrow.2 with ⟨hnil, _⟩ | ⟨g, cap, cur, rfl, hbase, hb, h1, h2, h3, h4⟩
  · exact absurd hnil hnn
  refine (sort_any g 0 cap ss w (holds_of_block hb (by simpa using h4)) (Array.getElem?_eq_some_iff.1 hb).1 hsz).mono ?_
  rintro e w' ⟨rfl, nn, os, rfl⟩
  exact ⟨rfl, ownsRow_sorted (by simp) hbase hb h1 h2 h3, grownBy_sorted _⟩
end Go.Proofs.YtokkigfjabbdaaaGreatDoor

/- The program's takeAll: the entries of the index, ascending. -/
namespace Go.Proofs.YtokkigfjabbdaaaGreatDoor
open Go.RowKit Go.Maps Go.Sort
set_option maxRecDepth 100000
set_option linter.unusedVariables false

theorem Tryz.infoStrX : (Tryz.prog.info? 9).map (fun i => (i.zero, i.size, i.bytes)) = some (some (.string ⟨#[]⟩), 1, 16) := by kernel_rfl
def mkEnt (p : ByteArray × ByteArray) : Value := .agg #[.string p.1, .string p.2]
theorem invU {key : Value} {kl : Lit} (h : keyOf Tryz.prog 9 key = some kl) : ∃ x, key = encStr x := by
  obtain ⟨x, hx, _⟩ := Maps.keyOf_str Tryz.underlying9 h
  exact ⟨x, hx⟩
theorem invE {v : Value} {y : DataW Unit × List MemPlace} (h : entElem v = some y) : ∃ c, v = mkEnt c := by
  obtain ⟨a, b, rfl, _⟩ := entElem_inv h
  exact ⟨(a, b), rfl⟩
theorem encStr_data (a : ByteArray) : encStr a.data.toList = .string a := by simp [encStr]
theorem zeroEnt (w : World) : (zeroValue 70).run Tryz.prog w = .ok (.agg #[.string ⟨#[]⟩, .string ⟨#[]⟩]) w := by kernel_rfl

/-- Two cells of a row more are filled. -/
theorem pair_fill {xs : List Value} {out : List (ByteArray × ByteArray)} {k : Nat} (hk : k < out.length) (hl : xs.length = out.length * 2) (h : xs.take (k * 2) = pairCells (out.take k)) :
    ((xs.set (k * 2) (.string out[k].1)).set (k * 2 + 1) (.string out[k].2)).take ((k + 1) * 2) = pairCells (out.take (k + 1)) := by
  rw [List.take_succ_eq_append_getElem hk, pairCells_app2, ← h]
  apply List.ext_getElem?
  intro j
  have h1 : (xs.take (k * 2)).length = k * 2 := by rw [List.length_take]; omega
  rw [List.getElem?_take]
  by_cases hj : j < (k + 1) * 2
  · rw [if_pos hj, List.getElem?_set, List.getElem?_set]
    by_cases e1 : k * 2 + 1 = j
    · subst e1
      rw [if_pos rfl, if_pos (by simp; omega), List.getElem?_append_right (by omega), h1]
      simp [pairCells]
    · rw [if_neg e1]
      by_cases e0 : k * 2 = j
      · subst e0
        rw [if_pos rfl, if_pos (by omega), List.getElem?_append_right (by omega), h1]
        simp [pairCells]
      · rw [if_neg e0, List.getElem?_append_left (by omega), List.getElem?_take, if_pos (by omega)]
  · rw [if_neg hj, List.getElem?_eq_none]
    rw [List.length_append, h1]
    simp [pairCells]
    omega

set_option maxHeartbeats 2000000 in
set_option maxRecDepth 100000 in
theorem takeAll_any {w : World} {b n B : Nat} {D : DataW Unit} {out : List (ByteArray × ByteArray)} (hown : w.ownsMap Tryz.prog 9 entElem b n D) (hD : IdxD D out) (ha : Asc out) (hn : n ≤ 1099511627776) (hB : B ≤ b) (hus : ∀ p ∈ out, p.1.size ≤ maxLen) :
    Calls Tryz.prog 107 #[.map (some b)] w fun e w' => ∃ v', e = .returned v' ∧ OwnPs B w' v' out ∧ Below B w w' := by
  obtain ⟨i0, hi, hz0, hz1, hz2⟩ := info_parts Tryz.infoStrX
  obtain ⟨i1, hj, hy0, hy1, hy2⟩ := info_parts Tryz.infoEnt
  have hbl := hown.lt
  have hsz := hown.size_le
  have HD := (show Hid (IdxD D out ∧ Asc out ∧ ∀ p ∈ out, p.1.size ≤ maxLen) from ⟨hD, ha, hus⟩)
  clear hD ha hus
  go_enter Tryz.func107, Tryz.ntmps107
  go_wp2_with (first
    | (at_len; refine wpList_len_own _ rfl _ 150 rfl 9 70 Tryz.underlying150 entElem b n _ rfl hown ?_)
    | (at_make; refine wpList_make_own _ rfl _ _ 22 rfl w.heap.size 9 i0 (.string ⟨#[]⟩) 1 Tryz.underlying22 hi hz0 hz1 _ _ _ (Maps.size D) rfl rfl rfl (by rw [hz2]; omega) (by unfold maxLen; omega) (Nat.le_refl _) ?_; intro w1 hrow1 hg1)
    | (at_range; refine wpList_range_own _ rfl _ 150 rfl 9 70 lawU Tryz.underlying150 _ b n _ rfl (hown.kept hg1 (by simp)) ?_; intro w0 hrg0 hg0 hs0))
  go_frame
  go_loopw [3] (fun v wr => ∃ (left : Lit → Bool) (cnt : Nat) (ss : List (List UInt8)), wr.ranges Tryz.prog 9 entElem b w1.heap.size n D left cnt ∧ ss.length + cnt ≤ Maps.size D ∧
      wr.ownsRow w.heap.size 9 1 v ss.length (ss.map encStr) ∧ v ≠ .slice none 0 0 ∧ Collected D left ss ∧ Below w.heap.size w wr)
    (fun _ wr => wr.rangeLeft b w1.heap.size)
  case atStart =>
    exact ⟨_, _, [], hrg0, by simp, hrow1.kept hg0 (Or.inr (by simp [Value.ownBlock])), by simp, Collected.start D,
      ((Below.refl _ _).grown hg1 (Nat.le_refl _) (fun j hj => by cases hj)).grown hg0 hg1.size (fun j hj => by cases hj)⟩
  case round =>
    obtain ⟨left, cnt, ss, hrg, hcs, hrow, hnn, hC, hnx⟩ := hrel
    clear hrg0 hg0 hs0 hrow1
    go_wp2_with (at_next; refine wpList_next_ranges _ rfl _ rfl 9 lawU entElem encStr mkEnt (fun key kl hk => invU hk) (fun v y hv => invE hv) b w1.heap.size n _ _ _ rfl hrg ?_ ?_)
    · -- nothing is left
      intro hc0 hl0
      have hkeys := (show Hid (ss.mergeSort (fun x y => decide (x ≤ y)) = keysX out) from keysX_sorted HD.out.1 HD.out.2.1 hl0 hC)
      have hsl : ss.length = out.length := by have := congrArg List.length hkeys.out; rw [List.length_mergeSort, keysX_len] at this; exact this
      have hsmall : out.length ≤ n := by omega
      have hne := row_ne_low hrow hbl
      have OM := (show Hid (wr.ownsMap Tryz.prog 9 entElem b n D) from hrg.owns)
      rcases hrow.2 with ⟨hnil, _⟩ | ⟨gu, capu, cur, hv, _⟩
      · exact absurd hnil hnn
      rw [hsl] at hv
      subst hv
      have CS := (show Hid (Calls Tryz.prog 132 #[.slice (some ⟨gu, 0, none⟩) out.length capu] wr _) from sort_own hrow hnn (by omega))
      have HR := (show Hid (gu < wr.heap.size ∧ w.heap.size ≤ gu) from ⟨(hrow.lt gu rfl).2, (hrow.lt gu rfl).1⟩)
      have hws := hnx.size
      have BN := (show Hid (Below w.heap.size w wr) from hnx)
      clear hrow hnn hC hrg hl0 hnx hcs hc0
      go_wp2_with fail
      go_at_call 132
      refine CS.out.mono ?_
      rintro e w3 ⟨rfl, row3, g3⟩
      have OM3 := (show Hid (w3.ownsMap Tryz.prog 9 entElem b n D) from OM.out.kept g3 hne)
      rw [hkeys.out, hsl] at row3
      have R3 := (show Hid (w3.ownsRow w.heap.size 9 1 (.slice (some ⟨gu, 0, none⟩) out.length capu) out.length ((keysX out).map encStr)) from row3)
      have B3 := (show Hid (Below w.heap.size w w3) from BN.out.grown g3 BN.out.size (fun j hj => by cases hj; exact HR.out.2))
      have hw3 : wr.heap.size ≤ w3.heap.size := g3.size
      have hgu := HR.out
      clear row3 g3 OM BN CS hne hkeys HR
      go_wp2_with (at_make; refine wpList_make_full _ rfl _ _ 37 rfl B 70 i1 (.agg #[.string ⟨#[]⟩, .string ⟨#[]⟩]) 2 Tryz.underlying37 hj hy0 hy1 _ _ _ _ out.length rfl rfl rfl rfl (by rw [hy2]; omega) (by unfold maxLen; omega) (by omega) ?_; intro w4 row4 g4)
      have OM4 := (show Hid (w4.ownsMap Tryz.prog 9 entElem b n D) from OM3.out.kept g4 (by simp))
      have R4 := (show Hid (w4.ownsRow w.heap.size 9 1 (.slice (some ⟨gu, 0, none⟩) out.length capu) out.length ((keysX out).map encStr)) from R3.out.kept g4 (Or.inr (by simp [Value.ownBlock])))
      have B4 := (show Hid (Below B w w4) from (B3.out.mono (by omega)).grown g4 (by have := B3.out.size; omega) (fun j hj => by cases hj))
      have hga : wr.heap.size ≤ w3.heap.size := hw3
      obtain ⟨ga, ega⟩ : ∃ ga, ga = w3.heap.size := ⟨_, rfl⟩
      rw [← ega] at row4 hga ⊢
      have R5 := (show Hid (w4.ownsRow B 70 2 (.slice (some ⟨ga, 0, none⟩) out.length out.length) out.length (madeCells (Value.agg #[.string ⟨#[]⟩, .string ⟨#[]⟩]).cells (out.length * 2)).toList) from row4)
      clear row4 g4 OM3 R3 B3 ega hw3
      go_loopw [28] (fun i wr => ∃ (k : Nat) (xs : List Value), k ≤ out.length ∧ i = .int .i64 k ∧ xs.length = out.length * 2 ∧ Hid (xs.take (k * 2) = pairCells (out.take k)) ∧ Hid (wr.ownsRow B 70 2 (.slice (some ⟨ga, 0, none⟩) out.length out.length) out.length xs) ∧ Hid (wr.ownsMap Tryz.prog 9 entElem b n D) ∧ Hid (wr.ownsRow w.heap.size 9 1 (.slice (some ⟨gu, 0, none⟩) out.length capu) out.length ((keysX out).map encStr)) ∧ Hid (Below B w wr)) (fun i _ => out.length - (intOf i).toNat)
      case atStart => exact ⟨0, _, Nat.zero_le _, rfl, by rw [Array.length_toList, size_madeCells], rfl, R5, OM4, R4, B4⟩
      case round =>
        clear R5 OM4 R4 B4
        obtain ⟨k, xs, hk, rfl, hxl, hxt, hR, hM, hU, hB'⟩ := hrel
        by_cases hlt : k < out.length
        · have cu : wr.cell? ⟨gu, k, none⟩ = some (.string out[k].1) := by
            rw [World.ownsRow.cellAt hU.out k (by omega), List.getElem?_map, keysX_at hlt]
            simp only [Option.map_some, encStr_data]
          have hat := HD.out.1.2 out[k].1 (entD ⟨#[]⟩ ⟨#[]⟩)
          rw [attrOf_at HD.out.2.1 hlt, if_pos rfl] at hat
          simp only at hat
          obtain ⟨v, ps, hrun, hv⟩ := hM.out.lookup lawU Tryz.underlying150 (zeroEnt _) (entElem_mk _ _) (keyOf_url (HD.out.2.2 _ (List.getElem_mem hlt)))
          rw [hat] at hv
          have hfill := (show Hid _ from pair_fill hlt hxl hxt.out)
          obtain ⟨p, hp⟩ : ∃ p, p = out[k] := ⟨_, rfl⟩
          rw [← hp] at cu hrun hv hfill
          clear hp hat hxt
          obtain ⟨u, bo⟩ := p
          simp only at cu hrun hv hfill
          obtain ⟨a', b', rfl, hz⟩ := entElem_inv hv
          simp only [Prod.mk.injEq] at hz
          obtain ⟨rfl, rfl⟩ := entD_inj hz.1
          clear hv hz
          have c0 := World.ownsRow.cellAt hR.out (k * 2) (by omega)
          have c1 := World.ownsRow.cellAt hR.out (k * 2 + 1) (by omega)
          have f0 := World.ownsRow.frozenAt hR.out (k * 2)
          have f1 := World.ownsRow.frozenAt hR.out (k * 2 + 1)
          rw [List.getElem?_eq_getElem (by omega)] at c0 c1
          obtain ⟨s1, t1⟩ := World.ownsRow.stored hR.out (k * 2) (.string u)
          obtain ⟨s2, t2⟩ := World.ownsRow.stored s1 (k * 2 + 1) (.string bo)
          have G := grown_trans t1 t2
          have NR := (show Hid _ from s2)
          have NM := (show Hid _ from hM.out.kept G (by simp; omega))
          have NU := (show Hid _ from hU.out.kept G (Or.inr (by simp [Value.ownBlock]; omega)))
          have NB := (show Hid (Below B w _) from hB'.out.grown G (by have := hB'.out.size; omega) (fun j hj => by cases hj; omega))
          clear s1 t1 s2 t2 G hR hM hU hB'
          go_wp2
          go_roundw
          case rel => exact ⟨k + 1, _, by omega, by go_num, by rw [List.length_set, List.length_set]; exact hxl, hfill, NR, NM, NU, NB⟩
          case measure => simp [intOf]; omega
        · have hke : k = out.length := by omega
          have hxe : xs = pairCells out := by
            have := hxt.out
            rw [hke, List.take_length, ← hxl, List.take_length] at this
            exact this
          obtain ⟨w5, hcl, turn5⟩ := clear_run hM.out Tryz.underlying150
          go_wp2
          go_ret
          have h5 := hR.out.kept turn5.grown (Or.inr (by simp [Value.ownBlock]; omega))
          rw [hxe] at h5
          exact ⟨_, rfl, h5, hB'.out.grown turn5.grown (by have := hB'.out.size; omega) (fun j hj => by cases hj; exact hB)⟩
    · intro x ca cb kl yd yp w2 cnt2 hkey hlk hv hat hrg2 hlt hg2 hs2 hen
      obtain ⟨x', ex, rfl, _⟩ := Maps.keyOf_str Tryz.underlying9 hkey
      obtain rfl : x = x' := encStr_inj ex
      have hrow2 := hrow.kept hg2 (Or.inr (row_ne_iter hrow hrg).symm)
      clear hs2
      go_wp2_with (at_builtin; refine wpList_append_own _ rfl _ _ 22 rfl w.heap.size 9 i0 (.string ⟨#[]⟩) 1 16 Tryz.underlying22 hi hz0 hz1 hz2 rfl (by decide) _ _ _ rfl (hrow2.alloc _) ⟨w2.heap.size, 0, none⟩ 1 1 [encStr x] rfl rfl (cell_one_new _ _ _) (by simp [Value.oneCell', encStr]) (by unfold maxLen at *; omega) (by omega) (by have := hnx.size; have := hg2.size; simp; omega) ?_; intro v' w3 hown' hg3 hnil3; go_frame)
      have hrg3 := (hrg2.alloc _).kept hg3 (row_ne_low hrow2 hbl) (row_ne_iter hrow2 hrg2)
      go_roundw
      case rel =>
        refine ⟨_, cnt2, ss ++ [x], hrg3, by simp; omega, by simpa using hown', fun hv' => by have := (hnil3.1 hv').2; omega, hC.step hlk hat, ?_⟩
        exact ((hnx.grown hg2 hnx.size (fun j hj => by cases hj; exact hg1.size)).alloc (by have := hnx.size; have := hg2.size; omega) _).grown hg3 (by have := hnx.size; have := hg2.size; simp; omega) (fun j hj => (hrow2.lt j hj).1)
      case measure => rw [hrg3.left_eq, hrg.left_eq]; exact hlt
end Go.Proofs.YtokkigfjabbdaaaGreatDoor

/- The exact laws of UrlOk and RecordPack from their contracts. -/
namespace Go.Proofs.YtokkigfjabbdaaaGreatDoor
open Go.RowKit
set_option maxRecDepth 100000
set_option linter.unusedVariables false

def UrlOkOk : Prop := ∀ (s : ByteArray) (w : World), s.size ≤ 1099511627776 → Calls Tryz.prog 151 #[.string s] w fun e w' => e = .returned (.bool (urlB s)) ∧ Below w.heap.size w w'
end Go.Proofs.YtokkigfjabbdaaaGreatDoor

/- The exact law of RecordPack from its contract. -/
namespace Go.Proofs.YtokkigfjabbdaaaGreatDoor
open Go.RowKit
set_option maxRecDepth 100000
set_option linter.unusedVariables false

theorem packR_len (r : PRec) : (packR r).1.length ≤ 27 + r.url.size + r.body.size := by
  unfold packR
  split
  · have h1 := form_len r.kind
    have h2 := textForm_len r.url
    have h3 := textForm_len r.body
    show (recL r).length ≤ _
    unfold recL
    rw [List.length_append, List.length_append]
    split
    · omega
    · rw [List.length_nil]; omega
  · simp

end Go.Proofs.YtokkigfjabbdaaaGreatDoor

/- The exact law of RecordRead from its contract. -/
namespace Go.Proofs.YtokkigfjabbdaaaGreatDoor
open Go.RowKit
set_option maxRecDepth 100000
set_option linter.unusedVariables false

end Go.Proofs.YtokkigfjabbdaaaGreatDoor

/- The laws' helpers on rows of records: held against each other, measured, copied. No condition. -/
namespace Go.Proofs.YtokkigfjabbdaaaGreatDoor
open Go.RowKit
set_option maxRecDepth 100000
set_option linter.unusedVariables false

end Go.Proofs.YtokkigfjabbdaaaGreatDoor
