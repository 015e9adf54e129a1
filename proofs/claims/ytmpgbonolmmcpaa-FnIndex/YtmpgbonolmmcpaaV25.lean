/- The program's index as a map: keep, drop, takeAll. -/
import Derived.Test.YtmpgbonolmmcpaaV23
import Derived.Test.YtmpgbonolmmcpaaV24
import Derived.Test.YtmpgbonolmmcpaaV14
import Derived.Maps.AppendAt
import Derived.Maps.RangeWalk
import Derived.Test.YtmpgbonolmmcpaaV21
import Derived.Test.YtmpgbonolmmcpaaV10
import Derived.Test.YtmpgbonolmmcpaaV17
import Derived.Test.YtmpgbonolmmcpaaV12
namespace Go.Proofs.Ytmpgbonolmmcpaa
open Go.RowKit Go.Maps Go.Sort Go.ChangeMaps
set_option maxRecDepth 100000
set_option linter.unusedVariables false

/-- 'clear(m)'. -/
theorem clear_run {H : Type} {P : Program} {w : World} {t k e : TypeId} {R : Value → Option (DataW H × List MemPlace)} {b n : Nat} {D : DataW H} (hown : w.ownsMap P k R b n D) (ht : P.underlying t = some (.map k e)) :
    ∃ w', (∀ ty, (Builtin.clear_ #[t] ty #[.map (some b)]).run P w = .ok (.tuple #[]) w') ∧ w.mapTurned w' b := by
  obtain ⟨es, clock, hb, F, hs, rfl⟩ := hown
  refine ⟨setBlock w b (.map #[] clock), fun ty => ?_, ⟨es, clock, #[], clock, hb, rfl⟩⟩
  simp [Builtin.clear_, run_underlying ht, MapKept.run_getObj_map hb, MapKept.run_setObj_map _ hb, Result.andThen]
  rfl

theorem keepX_any {w : World} {b n : Nat} {D : DataW Unit} (hown : w.ownsMap Try.prog 9 entElem b n D) (hn : n < 1099511627776) (u bo : ByteArray) (hu : u.size ≤ maxLen) :
    Calls Try.prog 62 #[.map (some b), .string u, .agg #[.string u, .string bo]] w fun e w' => e = .returned (.tuple #[]) ∧ w'.ownsMap Try.prog 9 entElem b (n + 1) (D.put (.string u.data.toList) (entD u bo)) ∧ w.grownBy w' (some b) := by
  have hkey := keyOf_url hu
  have hnm : n < maxLen := by unfold maxLen; omega
  clear hn
  have hown1 := hown.alloc (.cells #[.string u, .string bo] 41)
  have g1 := World.grownBy_alloc w (.cells #[.string u, .string bo] 41) (some b)
  obtain ⟨c0, c1, _, _⟩ := rk_two (World.alloc_heap_new w (.cells #[.string u, .string bo] 41))
  go_enter Try.func62, Try.ntmps62
  go_wp2_with (at_mapUpdate; refine wpList_mapUpdate_own _ rfl _ _ _ 80 rfl 9 41 lawU Try.underlying80 entElem b n _ rfl hown1 hnm _ _ _ rfl rfl hkey _ [] (entElem_mk _ _) ?_; intro w1 own1 grow1)
  go_end0
  exact ⟨rfl, own1, grown_trans g1 grow1⟩

theorem dropX_any {w : World} {b n : Nat} {D : DataW Unit} (hown : w.ownsMap Try.prog 9 entElem b n D) (u : ByteArray) (hu : u.size ≤ maxLen) :
    Calls Try.prog 63 #[.map (some b), .string u] w fun e w' => e = .returned (.tuple #[]) ∧ w'.ownsMap Try.prog 9 entElem b n (D.del (.string u.data.toList)) ∧ w.grownBy w' (some b) := by
  have hkey := keyOf_url hu
  go_enter Try.func63, Try.ntmps63
  go_wp2_with (at_delete; refine wpList_delete_own _ rfl _ _ 80 9 rfl 41 lawU Try.underlying80 entElem b n _ rfl hown _ _ rfl hkey ?_; intro w1 own1 turn1)
  go_end0
  exact ⟨rfl, own1, turn1.grown⟩

/-- Texts of the call's own, sorted. -/
theorem sort_own {B : Nat} {w : World} {v : Value} {ss : List (List UInt8)} (hrow : w.ownsRow B 9 1 v ss.length (ss.map encStr)) (hnn : v ≠ .slice none 0 0) (hsz : ss.length < 4611686018427387904) :
    Calls Try.prog 84 #[v] w fun e w' => e = .returned (.tuple #[]) ∧ w'.ownsRow B 9 1 v ss.length ((ss.mergeSort fun x y => decide (x ≤ y)).map encStr) ∧ w.grownBy w' v.ownBlock := by
  rcases hrow.2 with ⟨hnil, _⟩ | ⟨g, cap, cur, rfl, hbase, hb, h1, h2, h3, h4⟩
  · exact absurd hnil hnn
  refine (sort_any g 0 cap ss w (holds_of_block hb (by simpa using h4)) (Array.getElem?_eq_some_iff.1 hb).1 hsz).mono ?_
  rintro e w' ⟨rfl, nn, os, rfl⟩
  exact ⟨rfl, ownsRow_sorted (by simp) hbase hb h1 h2 h3, grownBy_sorted _⟩
end Go.Proofs.Ytmpgbonolmmcpaa

/- The program's takeAll: the entries of the index, ascending. -/
namespace Go.Proofs.Ytmpgbonolmmcpaa
open Go.RowKit Go.Maps Go.Sort
set_option maxRecDepth 100000
set_option linter.unusedVariables false

theorem Try.infoStrX : (Try.prog.info? 9).map (fun i => (i.zero, i.size, i.bytes)) = some (some (.string ⟨#[]⟩), 1, 16) := by kernel_rfl
def mkEnt (p : ByteArray × ByteArray) : Value := .agg #[.string p.1, .string p.2]
theorem invU {key : Value} {kl : Lit} (h : keyOf Try.prog 9 key = some kl) : ∃ x, key = encStr x := by
  obtain ⟨x, hx, _⟩ := Maps.keyOf_str Try.underlying9 h
  exact ⟨x, hx⟩
theorem invE {v : Value} {y : DataW Unit × List MemPlace} (h : entElem v = some y) : ∃ c, v = mkEnt c := by
  obtain ⟨a, b, rfl, _⟩ := entElem_inv h
  exact ⟨(a, b), rfl⟩
theorem encStr_data (a : ByteArray) : encStr a.data.toList = .string a := by simp [encStr]
theorem zeroEnt (w : World) : (zeroValue 41).run Try.prog w = .ok (.agg #[.string ⟨#[]⟩, .string ⟨#[]⟩]) w := by kernel_rfl

/-- Two cells of a row more are filled. -/
theorem pair_fill {xs : List Value} {out : List (ByteArray × ByteArray)} {k : Nat} (hk : k < out.length) (hl : xs.length = out.length * 2) (h : xs.take (k * 2) = pairCells (out.take k)) :
    ((xs.set (k * 2) (.string out[k].1)).set (k * 2 + 1) (.string out[k].2)).take ((k + 1) * 2) = pairCells (out.take (k + 1)) := by
  rw [List.take_succ_eq_append_getElem hk, pairCells_app2, ← h]
  apply List.ext_getElem?
  intro j
  have h1 : (xs.take (k * 2)).length = k * 2 := by rw [List.length_take]; omega
  rw [List.getElem?_take]
  by_cases hj : j < (k + 1) * 2
  · rw [if_pos hj, List.getElem?_set, List.getElem?_set]
    by_cases e1 : k * 2 + 1 = j
    · subst e1
      rw [if_pos rfl, if_pos (by simp; omega), List.getElem?_append_right (by omega), h1]
      simp [pairCells]
    · rw [if_neg e1]
      by_cases e0 : k * 2 = j
      · subst e0
        rw [if_pos rfl, if_pos (by omega), List.getElem?_append_right (by omega), h1]
        simp [pairCells]
      · rw [if_neg e0, List.getElem?_append_left (by omega), List.getElem?_take, if_pos (by omega)]
  · rw [if_neg hj, List.getElem?_eq_none]
    rw [List.length_append, h1]
    simp [pairCells]
    omega

set_option maxHeartbeats 2000000 in
set_option maxRecDepth 100000 in
theorem takeAll_any {w : World} {b n B : Nat} {D : DataW Unit} {out : List (ByteArray × ByteArray)} (hown : w.ownsMap Try.prog 9 entElem b n D) (hD : IdxD D out) (ha : Asc out) (hn : n ≤ 1099511627776) (hB : B ≤ b) (hus : ∀ p ∈ out, p.1.size ≤ maxLen) :
    Calls Try.prog 64 #[.map (some b)] w fun e w' => ∃ v', e = .returned v' ∧ OwnPs B w' v' out ∧ Below B w w' := by
  obtain ⟨i0, hi, hz0, hz1, hz2⟩ := info_parts Try.infoStrX
  obtain ⟨i1, hj, hy0, hy1, hy2⟩ := info_parts Try.infoEnt
  have hbl := hown.lt
  have hsz := hown.size_le
  have HD := (show Hid (IdxD D out ∧ Asc out ∧ ∀ p ∈ out, p.1.size ≤ maxLen) from ⟨hD, ha, hus⟩)
  clear hD ha hus
  go_enter Try.func64, Try.ntmps64
  go_wp2_with (first
    | (at_len; refine wpList_len_own _ rfl _ 80 rfl 9 41 Try.underlying80 entElem b n _ rfl hown ?_)
    | (at_make; refine wpList_make_own _ rfl _ _ 111 rfl w.heap.size 9 i0 (.string ⟨#[]⟩) 1 Try.underlying111 hi hz0 hz1 _ _ _ (Maps.size D) rfl rfl rfl (by rw [hz2]; omega) (by unfold maxLen; omega) (Nat.le_refl _) ?_; intro w1 hrow1 hg1)
    | (at_range; refine wpList_range_own _ rfl _ 80 rfl 9 41 lawU Try.underlying80 _ b n _ rfl (hown.kept hg1 (by simp)) ?_; intro w0 hrg0 hg0 hs0))
  go_frame
  go_loopw [3] (fun v wr => ∃ (left : Lit → Bool) (cnt : Nat) (ss : List (List UInt8)), wr.ranges Try.prog 9 entElem b w1.heap.size n D left cnt ∧ ss.length + cnt ≤ Maps.size D ∧
      wr.ownsRow w.heap.size 9 1 v ss.length (ss.map encStr) ∧ v ≠ .slice none 0 0 ∧ Collected D left ss ∧ Below w.heap.size w wr)
    (fun _ wr => wr.rangeLeft b w1.heap.size)
  case atStart =>
    exact ⟨_, _, [], hrg0, by simp, hrow1.kept hg0 (Or.inr (by simp [Value.ownBlock])), by simp, Collected.start D,
      ((Below.refl _ _).grown hg1 (Nat.le_refl _) (fun j hj => by cases hj)).grown hg0 hg1.size (fun j hj => by cases hj)⟩
  case round =>
    obtain ⟨left, cnt, ss, hrg, hcs, hrow, hnn, hC, hnx⟩ := hrel
    clear hrg0 hg0 hs0 hrow1
    go_wp2_with (at_next; refine wpList_next_ranges _ rfl _ rfl 9 lawU entElem encStr mkEnt (fun key kl hk => invU hk) (fun v y hv => invE hv) b w1.heap.size n _ _ _ rfl hrg ?_ ?_)
    · -- nothing is left
      intro hc0 hl0
      have hkeys := (show Hid (ss.mergeSort (fun x y => decide (x ≤ y)) = keysX out) from keysX_sorted HD.out.1 HD.out.2.1 hl0 hC)
      have hsl : ss.length = out.length := by have := congrArg List.length hkeys.out; rw [List.length_mergeSort, keysX_len] at this; exact this
      have hsmall : out.length ≤ n := by omega
      have hne := row_ne_low hrow hbl
      have OM := (show Hid (wr.ownsMap Try.prog 9 entElem b n D) from hrg.owns)
      rcases hrow.2 with ⟨hnil, _⟩ | ⟨gu, capu, cur, hv, _⟩
      · exact absurd hnil hnn
      rw [hsl] at hv
      subst hv
      have CS := (show Hid (Calls Try.prog 84 #[.slice (some ⟨gu, 0, none⟩) out.length capu] wr _) from sort_own hrow hnn (by omega))
      have HR := (show Hid (gu < wr.heap.size ∧ w.heap.size ≤ gu) from ⟨(hrow.lt gu rfl).2, (hrow.lt gu rfl).1⟩)
      have hws := hnx.size
      have BN := (show Hid (Below w.heap.size w wr) from hnx)
      clear hrow hnn hC hrg hl0 hnx hcs hc0
      go_wp2_with fail
      go_at_call 84
      refine CS.out.mono ?_
      rintro e w3 ⟨rfl, row3, g3⟩
      have OM3 := (show Hid (w3.ownsMap Try.prog 9 entElem b n D) from OM.out.kept g3 hne)
      rw [hkeys.out, hsl] at row3
      have R3 := (show Hid (w3.ownsRow w.heap.size 9 1 (.slice (some ⟨gu, 0, none⟩) out.length capu) out.length ((keysX out).map encStr)) from row3)
      have B3 := (show Hid (Below w.heap.size w w3) from BN.out.grown g3 BN.out.size (fun j hj => by cases hj; exact HR.out.2))
      have hw3 : wr.heap.size ≤ w3.heap.size := g3.size
      have hgu := HR.out
      clear row3 g3 OM BN CS hne hkeys HR
      go_wp2_with (at_make; refine wpList_make_full _ rfl _ _ 37 rfl B 41 i1 (.agg #[.string ⟨#[]⟩, .string ⟨#[]⟩]) 2 Try.underlying37 hj hy0 hy1 _ _ _ _ out.length rfl rfl rfl rfl (by rw [hy2]; omega) (by unfold maxLen; omega) (by omega) ?_; intro w4 row4 g4)
      have OM4 := (show Hid (w4.ownsMap Try.prog 9 entElem b n D) from OM3.out.kept g4 (by simp))
      have R4 := (show Hid (w4.ownsRow w.heap.size 9 1 (.slice (some ⟨gu, 0, none⟩) out.length capu) out.length ((keysX out).map encStr)) from R3.out.kept g4 (Or.inr (by simp [Value.ownBlock])))
      have B4 := (show Hid (Below B w w4) from (B3.out.mono (by omega)).grown g4 (by have := B3.out.size; omega) (fun j hj => by cases hj))
      have hga : wr.heap.size ≤ w3.heap.size := hw3
      obtain ⟨ga, ega⟩ : ∃ ga, ga = w3.heap.size := ⟨_, rfl⟩
      rw [← ega] at row4 hga ⊢
      have R5 := (show Hid (w4.ownsRow B 41 2 (.slice (some ⟨ga, 0, none⟩) out.length out.length) out.length (madeCells (Value.agg #[.string ⟨#[]⟩, .string ⟨#[]⟩]).cells (out.length * 2)).toList) from row4)
      clear row4 g4 OM3 R3 B3 ega hw3
      go_loopw [28] (fun i wr => ∃ (k : Nat) (xs : List Value), k ≤ out.length ∧ i = .int .i64 k ∧ xs.length = out.length * 2 ∧ Hid (xs.take (k * 2) = pairCells (out.take k)) ∧ Hid (wr.ownsRow B 41 2 (.slice (some ⟨ga, 0, none⟩) out.length out.length) out.length xs) ∧ Hid (wr.ownsMap Try.prog 9 entElem b n D) ∧ Hid (wr.ownsRow w.heap.size 9 1 (.slice (some ⟨gu, 0, none⟩) out.length capu) out.length ((keysX out).map encStr)) ∧ Hid (Below B w wr)) (fun i _ => out.length - (intOf i).toNat)
      case atStart => exact ⟨0, _, Nat.zero_le _, rfl, by rw [Array.length_toList, size_madeCells], rfl, R5, OM4, R4, B4⟩
      case round =>
        clear R5 OM4 R4 B4
        obtain ⟨k, xs, hk, rfl, hxl, hxt, hR, hM, hU, hB'⟩ := hrel
        by_cases hlt : k < out.length
        · have cu : wr.cell? ⟨gu, k, none⟩ = some (.string out[k].1) := by
            rw [World.ownsRow.cellAt hU.out k (by omega), List.getElem?_map, keysX_at hlt]
            simp only [Option.map_some, encStr_data]
          have hat := HD.out.1.2 out[k].1 (entD ⟨#[]⟩ ⟨#[]⟩)
          rw [attrOf_at HD.out.2.1 hlt, if_pos rfl] at hat
          simp only at hat
          obtain ⟨v, ps, hrun, hv⟩ := hM.out.lookup lawU Try.underlying80 (zeroEnt _) (entElem_mk _ _) (keyOf_url (HD.out.2.2 _ (List.getElem_mem hlt)))
          rw [hat] at hv
          have hfill := (show Hid _ from pair_fill hlt hxl hxt.out)
          obtain ⟨p, hp⟩ : ∃ p, p = out[k] := ⟨_, rfl⟩
          rw [← hp] at cu hrun hv hfill
          clear hp hat hxt
          obtain ⟨u, bo⟩ := p
          simp only at cu hrun hv hfill
          obtain ⟨a', b', rfl, hz⟩ := entElem_inv hv
          simp only [Prod.mk.injEq] at hz
          obtain ⟨rfl, rfl⟩ := entD_inj hz.1
          clear hv hz
          have c0 := World.ownsRow.cellAt hR.out (k * 2) (by omega)
          have c1 := World.ownsRow.cellAt hR.out (k * 2 + 1) (by omega)
          have f0 := World.ownsRow.frozenAt hR.out (k * 2)
          have f1 := World.ownsRow.frozenAt hR.out (k * 2 + 1)
          rw [List.getElem?_eq_getElem (by omega)] at c0 c1
          obtain ⟨s1, t1⟩ := World.ownsRow.stored hR.out (k * 2) (.string u)
          obtain ⟨s2, t2⟩ := World.ownsRow.stored s1 (k * 2 + 1) (.string bo)
          have G := grown_trans t1 t2
          have NR := (show Hid _ from s2)
          have NM := (show Hid _ from hM.out.kept G (by simp; omega))
          have NU := (show Hid _ from hU.out.kept G (Or.inr (by simp [Value.ownBlock]; omega)))
          have NB := (show Hid (Below B w _) from hB'.out.grown G (by have := hB'.out.size; omega) (fun j hj => by cases hj; omega))
          clear s1 t1 s2 t2 G hR hM hU hB'
          go_wp2
          go_roundw
          case rel => exact ⟨k + 1, _, by omega, by go_num, by rw [List.length_set, List.length_set]; exact hxl, hfill, NR, NM, NU, NB⟩
          case measure => simp [intOf]; omega
        · have hke : k = out.length := by omega
          have hxe : xs = pairCells out := by
            have := hxt.out
            rw [hke, List.take_length, ← hxl, List.take_length] at this
            exact this
          obtain ⟨w5, hcl, turn5⟩ := clear_run hM.out Try.underlying80
          go_wp2
          go_ret
          have h5 := hR.out.kept turn5.grown (Or.inr (by simp [Value.ownBlock]; omega))
          rw [hxe] at h5
          exact ⟨_, rfl, h5, hB'.out.grown turn5.grown (by have := hB'.out.size; omega) (fun j hj => by cases hj; exact hB)⟩
    · intro x ca cb kl yd yp w2 cnt2 hkey hlk hv hat hrg2 hlt hg2 hs2 hen
      obtain ⟨x', ex, rfl, _⟩ := Maps.keyOf_str Try.underlying9 hkey
      obtain rfl : x = x' := encStr_inj ex
      have hrow2 := hrow.kept hg2 (Or.inr (row_ne_iter hrow hrg).symm)
      clear hs2
      go_wp2_with (at_builtin; refine wpList_append_own _ rfl _ _ 111 rfl w.heap.size 9 i0 (.string ⟨#[]⟩) 1 16 Try.underlying111 hi hz0 hz1 hz2 rfl (by decide) _ _ _ rfl (hrow2.alloc _) ⟨w2.heap.size, 0, none⟩ 1 1 [encStr x] rfl rfl (cell_one_new _ _ _) (by simp [Value.oneCell', encStr]) (by unfold maxLen at *; omega) (by omega) (by have := hnx.size; have := hg2.size; simp; omega) ?_; intro v' w3 hown' hg3 hnil3; go_frame)
      have hrg3 := (hrg2.alloc _).kept hg3 (row_ne_low hrow2 hbl) (row_ne_iter hrow2 hrg2)
      go_roundw
      case rel =>
        refine ⟨_, cnt2, ss ++ [x], hrg3, by simp; omega, by simpa using hown', fun hv' => by have := (hnil3.1 hv').2; omega, hC.step hlk hat, ?_⟩
        exact ((hnx.grown hg2 hnx.size (fun j hj => by cases hj; exact hg1.size)).alloc (by have := hnx.size; have := hg2.size; omega) _).grown hg3 (by have := hnx.size; have := hg2.size; simp; omega) (fun j hj => (hrow2.lt j hj).1)
      case measure => rw [hrg3.left_eq, hrg.left_eq]; exact hlt
end Go.Proofs.Ytmpgbonolmmcpaa

/- The program's IndexOf. -/
namespace Go.Proofs.Ytmpgbonolmmcpaa
open Go.RowKit Go.Maps
set_option maxRecDepth 100000
set_option linter.unusedVariables false

theorem idxN_snoc (r : PRec) : ∀ (rs : List PRec) (out : List (ByteArray × ByteArray)), idxN (rs ++ [r]) out = insE r (decide (r.kind ≠ 1)) (idxN rs out) := by
  intro rs
  induction rs with
  | nil => intro out; rfl
  | cons q rs ih => intro out; rw [List.cons_append, idxN, ih, idxN]
theorem idxN_mem : ∀ (rs : List PRec) (out : List (ByteArray × ByteArray)) (p : ByteArray × ByteArray), p ∈ idxN rs out → p ∈ out ∨ ∃ r ∈ rs, p = (r.url, r.body) := by
  intro rs
  induction rs with
  | nil => intro out p h; exact .inl h
  | cons r rs ih =>
    intro out p h
    rcases ih _ p h with h | ⟨q, hq, e⟩
    · rcases insE_mem _ _ p h with ⟨_, e⟩ | ⟨h, _⟩
      · exact .inr ⟨r, List.mem_cons_self .., e⟩
      · exact .inl h
    · exact .inr ⟨q, List.mem_cons_of_mem _ hq, e⟩
theorem idxOf_small {rs : List PRec} (h : ShortR rs) : ∀ p ∈ idxOf rs, p.1.size ≤ 1048576 ∧ p.2.size ≤ 1048576 := by
  intro p hp
  rcases idxN_mem rs [] p hp with h' | ⟨r, hr, e⟩
  · cases h'
  · rw [e]; exact h.2 r hr

set_option maxHeartbeats 2000000 in
set_option maxRecDepth 100000 in
theorem iindexOf_any : IndexOfOk := by
  intro v rs w h hs
  obtain ⟨a, ca, rfl, _, _, hca⟩ := h.recs
  have HC := (show Hid (∀ k (hk : k < rs.length), ∃ b off, a = some ⟨b, off, none⟩ ∧ b < w.heap.size ∧ w.cell? ⟨b, off + k * 3, none⟩ = some (.int .i64 rs[k].kind) ∧ w.cell? ⟨b, off + k * 3 + 1, none⟩ = some (.string rs[k].url) ∧ w.cell? ⟨b, off + k * 3 + 2, none⟩ = some (.string rs[k].body)) from hca)
  have HS := (show Hid (ShortR rs) from hs)
  have hn := hs.1
  clear h hca hs
  have hmm := run_makeMap (P := Try.prog) 80 w
  go_enter Try.func22, Try.ntmps22
  go_wp2
  go_loopw [9] (fun i wr => ∃ (k m : Nat) (D : DataW Unit), k ≤ rs.length ∧ i = .int .i64 k ∧ m ≤ k ∧ Hid (wr.ownsMap Try.prog 9 entElem w.heap.size m D) ∧ Hid (IdxD D (idxN (rs.take k) [])) ∧ Hid (Below w.heap.size w wr)) (fun i _ => rs.length - (intOf i).toNat)
  case atStart => exact ⟨0, 0, .map [], Nat.zero_le _, rfl, Nat.le_refl _, World.ownsMap_made _ _ _ _, idxD_nil, (Below.refl _ _).alloc (Nat.le_refl _) _⟩
  case round =>
    obtain ⟨k, m, D, hk, rfl, hm, hM, hI, hB⟩ := hrel
    by_cases hlt : k < rs.length
    · obtain ⟨gb, go, rfl, gl, c0, c1, c2⟩ := HC.out k hlt
      have hus := (HS.out.2 rs[k] (List.getElem_mem hlt)).1
      have HT := (show Hid (idxN (rs.take (k + 1)) [] = insE rs[k] (decide (rs[k].kind ≠ 1)) (idxN (rs.take k) [])) from (show _ = _ by rw [List.take_succ_eq_append_getElem hlt, idxN_snoc]))
      obtain ⟨x, hx⟩ : ∃ x, x = rs[k] := ⟨_, rfl⟩
      rw [← hx] at c0 c1 c2 hus HT
      clear hx
      obtain ⟨kd, ur, bo⟩ := x
      simp only at c0 c1 c2 hus HT
      have hmx : ur.size ≤ maxLen := by unfold maxLen; omega
      replace c0 := (hB.out.cell (p := ⟨gb, go + k * 3, none⟩) gl).trans c0
      replace c1 := (hB.out.cell (p := ⟨gb, go + k * 3 + 1, none⟩) gl).trans c1
      replace c2 := (hB.out.cell (p := ⟨gb, go + k * 3 + 2, none⟩) gl).trans c2
      have hws := hB.out.size
      have hM1 := (show Hid _ from hM.out.alloc (.cells #[.int .i64 kd, .string ur, .string bo] 25))
      have hB1 := (show Hid _ from hB.out.alloc hws (.cells #[.int .i64 kd, .string ur, .string bo] 25))
      have hm2 : m < 1099511627776 := by omega
      by_cases hkd : kd = 1
      · subst hkd
        go_wp2_with fail
        go_at_call 62
        refine (keepX_any hM1.out hm2 ur bo hmx).mono ?_
        rintro e w2 ⟨rfl, own2, g2⟩
        have I2 := (show Hid _ from hI.out.keep ⟨1, ur, bo⟩)
        have O2 := (show Hid _ from own2)
        have B2 := (show Hid (Below w.heap.size w w2) from hB1.out.grown g2 (by have := hB1.out.size; omega) (fun j hj => by cases hj; exact Nat.le_refl _))
        clear own2 g2
        go_wp2
        go_roundw
        case rel => exact ⟨k + 1, m + 1, _, by omega, by go_num, by omega, O2, by rw [HT.out]; exact I2, B2⟩
        case measure => simp [intOf]; omega
      · have hkb : (kd == 1) = false := beq_eq_false_iff_ne.mpr hkd
        go_wp2_with fail
        go_at_call 63
        refine (dropX_any hM1.out ur hmx).mono ?_
        rintro e w2 ⟨rfl, own2, g2⟩
        have I2 := (show Hid _ from hI.out.drop ⟨kd, ur, bo⟩)
        have O2 := (show Hid _ from own2)
        have B2 := (show Hid (Below w.heap.size w w2) from hB1.out.grown g2 (by have := hB1.out.size; omega) (fun j hj => by cases hj; exact Nat.le_refl _))
        clear own2 g2
        go_wp2
        go_roundw
        case rel => exact ⟨k + 1, m, _, by omega, by go_num, by omega, O2, by rw [HT.out, decide_eq_true hkd]; exact I2, B2⟩
        case measure => simp [intOf]; omega
    · go_wp2_with fail
      go_at_call 64
      have hke : k = rs.length := by omega
      have hI2 : IdxD D (idxOf rs) := by have := hI.out; rwa [hke, List.take_length] at this
      refine (takeAll_any hM.out hI2 (idxOf_rise rs) (by omega) (Nat.le_refl _) (fun p hp => by have := (idxOf_small HS.out p hp).1; unfold maxLen; omega)).mono ?_
      rintro e w2 ⟨v', rfl, o2, b2⟩
      go_wp2
      go_ret
      exact ⟨v', rfl, o2, hB.out.trans b2⟩
end Go.Proofs.Ytmpgbonolmmcpaa

/- A record among the arguments: a struct of an int and two strings; and a slice of them. -/
namespace Go.Proofs.Ytmpgbonolmmcpaa
open Go.RowKit Go.ChangeShapes Go.WideShapes
set_option maxRecDepth 100000
set_option linter.unusedVariables false

section
variable {H : Type} {enc : TypeId × Value → H} {P : Program} {w : World} {base : Nat} {spare : Nat → Bool} {held : Bool}

theorem trod_rec {t : TypeId} {f0 f1 f2 : Field} {fuel : Nat} {cs : List Value} {x : DataW H × List MemPlace} (ht : P.underlying t = some (.struct #[f0, f1, f2])) (hc : P.cellsOf t = 3)
    (h0 : P.underlying f0.type = some (.int .i64)) (h1 : P.underlying f1.type = some .string) (h2 : P.underlying f2.type = some .string) (c0 : P.cellsOf f0.type = 1) (c1 : P.cellsOf f1.type = 1) (c2 : P.cellsOf f2.type = 1) (o0 : f0.offset = 0) (o1 : f1.offset = 1) (o2 : f2.offset = 2)
    (h : DataW.trod enc P w base spare held fuel t cs = some x) : ∃ p : PRec, cs = [.int .i64 p.kind, .string p.url, .string p.body] ∧ (Lit.int .i64 p.kind).wf = true ∧ p.url.size ≤ maxLen ∧ p.body.size ≤ maxLen := by
  obtain ⟨xs, n, _, _, hl, hx, hf⟩ := DataW.trod_struct ht h
  have e0 := hf 0 f0 rfl
  have e1 := hf 1 f1 rfl
  have e2 := hf 2 f2 rfl
  rw [c0, o0, List.drop_zero] at e0
  rw [c1, o1] at e1
  rw [c2, o2] at e2
  have hxs : xs.length = 3 := hx
  rw [List.getElem?_eq_getElem (by omega)] at e0 e1 e2
  rw [hc] at hl
  match cs, hl with
  | [u, v, y], _ =>
    simp only [List.drop_succ_cons, List.drop_zero, List.take_succ_cons, List.take_zero] at e0 e1 e2
    obtain ⟨a, ha, _, wa⟩ := DataW.trod_int h0 e0
    obtain ⟨b, hb, _, wb⟩ := DataW.trod_string h1 e1
    obtain ⟨c, hc, _, wc⟩ := DataW.trod_string h2 e2
    cases ha
    cases hb
    cases hc
    exact ⟨⟨a, b, c⟩, rfl, wa, wb, wc⟩
end

theorem rows_recs {rows : List (List Value)} (h : ∀ r ∈ rows, r.length = 3 ∧ ∃ p : PRec, r = [.int .i64 p.kind, .string p.url, .string p.body] ∧ (Lit.int .i64 p.kind).wf = true ∧ p.url.size ≤ maxLen ∧ p.body.size ≤ maxLen) :
    ∃ rs : List PRec, rows.flatten = recCells rs ∧ ∀ p ∈ rs, p.url.size ≤ maxLen ∧ p.body.size ≤ maxLen := by
  induction rows with
  | nil => exact ⟨[], rfl, fun p hp => by cases hp⟩
  | cons r rows ih =>
    obtain ⟨rs, h1, h2⟩ := ih (fun q hq => h q (List.mem_cons_of_mem _ hq))
    obtain ⟨_, p, rfl, hp⟩ := h r (List.mem_cons_self ..)
    refine ⟨p :: rs, ?_, fun q hq => ?_⟩
    · rw [List.flatten_cons, h1]; rfl
    · rcases List.mem_cons.mp hq with rfl | hq
      · exact hp.2
      · exact h2 q hq
end Go.Proofs.Ytmpgbonolmmcpaa

/- The exact law of IndexOf: the program keeps its contract. -/
namespace Go.Proofs.Ytmpgbonolmmcpaa
open Go.RowKit
set_option maxRecDepth 100000
set_option linter.unusedVariables false

theorem fnExactIndexOf_walk {v : Value} {rs : List PRec} (w : World) (h : Sv 3 w v (recCells rs)) (hs : ∀ p ∈ rs, p.url.size ≤ maxLen ∧ p.body.size ≤ maxLen) :
    Calls Try.prog 9 #[v] w fun e w' => e = .returned (.bool true) ∧ Below w.heap.size w w' :=
  fnExactIndexOf_of iindexOf_any w h hs
end Go.Proofs.Ytmpgbonolmmcpaa

/- The specification's SectorOf. No condition. -/
namespace Go.Proofs.Ytmpgbonolmmcpaa
open Go.RowKit
set_option maxRecDepth 100000
set_option linter.unusedVariables false

theorem sec_res {tmps : Array Value} {fn : Func} {w : World} {s : ByteArray} {b : Bool} {p q : Tmp} (h : fn.results = #[.tmp p, .tmp q]) (h1 : tmps.getD p undef = .string s) (h2 : tmps.getD q undef = .bool b) : (results fn tmps).run Try.prog w = .ok (.tuple #[.string s, .bool b]) w := by
  have h1' : tmps[p]?.getD undef = .string s := by simpa using h1
  have h2' : tmps[q]?.getD undef = .bool b := by simpa using h2
  simp [results, h, h1', h2', go_sem]

end Go.Proofs.Ytmpgbonolmmcpaa
