/- The program's HexText. No condition but that the text has at most 2^40 bytes. -/
import Derived.Test.YteddljmekpnojaaDoorU13
import Derived.Test.YteddljmekpnojaaDoorU16
import Derived.Test.YteddljmekpnojaaDoorU12
import Derived.Test.YteddljmekpnojaaDoorU6
import Derived.Lib.Hide
namespace Go.Proofs.YteddljmekpnojaaDoor
open Go.RowKit
set_option maxRecDepth 100000
set_option linter.unusedVariables false

/-- 'make([]T, 0, n)', its block told. -/
theorem wpList_mk0x {P : Program} (w : World) {ops : Array Oper} {rest : List Oper} {o : Oper} {a : Act} {Q : Exit → Act → World → Prop} (hg : o.guard = none)
    (l c : Operand) (t : TypeId) (hop : o.op = Op.makeSlice t l c) (e : TypeId) (i : TypeInfo) (z : Value) (h1 : P.underlying t = some (TypeDesc.slice e))
    (h2 : P.info? e = some i) (h3 : i.zero = some z) (h4 : i.size = 1) (K : IntKind) (C : Int) (n : Nat) (hl : a.eval l = Value.int .i64 0) (hc : a.eval c = Value.int .i64 C) (hC : C = ↑n)
    (b2 : i.bytes * n ≤ 281474976710656) (b3 : n ≤ maxLen)
    (hK : ∀ (w' : World), Own w.heap.size e K w' (.slice (some ⟨w.heap.size, 0, none⟩) 0 n) [] → Below w.heap.size w w' → wpList P ops Q rest (a.put o.dst (.slice (some ⟨w.heap.size, 0, none⟩) 0 n)) w') :
    wpList P ops Q (o :: rest) a w := by
  refine wpList_make_own w hg l c t hop w.heap.size e i z 1 h1 h2 h3 h4 .i64 .i64 C n hl hc hC b2 b3 (Nat.le_refl _) ?_
  intro w' ho' hg'
  exact hK w' ho' ((Below.refl _ _).grown hg' (Nat.le_refl _) (fun k hk => by cases hk))

/-- append within a region that draws its order, onto a row of the call's own whose block is known: where the new row lies. -/
theorem step_appT {P : Program} {ops : Array Oper} {o : Oper} {a : Act} {w : World} {K : Act → World → Prop} {Q : Exit → Act → World → Prop} {E : Prop}
    (hgd : o.guard = none) (s x : Operand) (t : TypeId) (ho : o.op = Op.call { callee := Callee.builtin Builtin.append, args := #[s, x], argTypes := #[t, t] }) (B : Nat) (e : TypeId) (i : TypeInfo)
    (z : Value) (bytes : Nat) (ht : P.underlying t = some (TypeDesc.slice e)) (hi : P.info? e = some i) (hz : i.zero = some z) (hsize : i.size = 1) (hby : i.bytes = bytes)
    (hzs : z.cells.size = 1) (J : IntKind) (r cap : Nat) (xs : List Int) (ad : Addr) (c : Nat) (ys : List Int) (hs : a.eval s = .slice (some ⟨r, 0, none⟩) xs.length cap) (hx : a.eval x = .slice (some ad) ys.length c) (hown : Own B e J w (.slice (some ⟨r, 0, none⟩) xs.length cap) xs) (hu : Sl J w (.slice (some ad) ys.length c) ys)
    (hb : (xs.length + ys.length) * bytes ≤ 140737488355328) (h63 : xs.length + ys.length ≤ maxLen) (hbase : B ≤ w.heap.size)
    (h : ∀ (r' cap' : Nat) (w' : World), Own B e J w' (.slice (some ⟨r', 0, none⟩) (xs.length + ys.length) cap') (xs ++ ys) → w.grownBy w' (some r) → (r' = r ∨ r' = w.heap.size) → K (a.put o.dst (.slice (some ⟨r', 0, none⟩) (xs.length + ys.length) cap')) w') :
    if Region.wanted o (yielded ops a.tmps) = true then Oper.wp P o a w K Q else E := by
  have hw : Region.wanted o (yielded ops a.tmps) = true := by simp [Region.wanted, hgd]
  rw [if_pos hw]
  obtain ⟨ao, cap0, e1, hlc, hcm, hnone, hc⟩ := hu
  cases e1
  obtain ⟨v', w', hr, h2, h3, h4⟩ := run_append_own (P := P) w B t o.type e i z 1 bytes ht hi hz hsize hby hzs (by decide) _ xs.length (xs.map (Value.int J)) hown ad ys.length c (ys.map (Value.int J)) (by simp) (Sl.news hc) (ints_oneCell J ys) h63 hb hbase
  obtain ⟨r', cap', rfl, hrr⟩ := run_blkT w B t o.type e i z 1 bytes ht hi hz hsize hby r xs.length cap (xs.map (Value.int J)) hown ad ys.length c (ys.map (Value.int J)) (by simp) (Sl.news hc) (ints_oneCell J ys) h63 hb hr
  have hk := h r' cap' w' (by unfold Own; rw [List.length_append, List.map_append]; exact h2) h3 hrr
  unfold Oper.wp
  simp [execOp, ho, resolve, invoke, builtin, hs, hx, hr, Result.andThen]
  exact hk

theorem digit_b (k : Nat) (hk : k < 16) : (((⟨#[48, 49, 50, 51, 52, 53, 54, 55, 56, 57, 97, 98, 99, 100, 101, 102]⟩ : ByteArray)[k]'hk).toNat : Int) = hexD k := by
  have hi := hexD_in (k := (k : Int)) (by omega) (by omega)
  rw [digit_at k hk]; omega

set_option maxHeartbeats 800000 in
set_option maxRecDepth 100000 in
theorem ihexText_any (s : ByteArray) (w : World) (hs : s.size ≤ 1099511627776) : Calls Tryd.prog 7 #[.string s] w fun e w' => e = .returned (.string (hexS s)) ∧ Below w.heap.size w w' := by
  have hl := bs_len s
  obtain ⟨i0, hi, hz0, hz1, hz2⟩ := info_parts Tryd.infoB
  by_cases hb : 3000 < s.size
  · have hq : hexS s = ⟨#[]⟩ := by rw [hexS, if_pos hb]
    go_enter Tryd.func7, Tryd.ntmps7
    go_wp2
    go_ret
    exact ⟨by rw [hq]; rfl, Below.refl _ _⟩
  · have HQ := (show Hid (hexS s = strOf (hexL (bs s))) from (show _ = _ by rw [hexS, if_neg hb]))
    go_enter Tryd.func7, Tryd.ntmps7
    go_wp2_with (at_make; refine wpList_mk0x _ rfl _ _ 22 rfl 5 i0 (.int .u8 0) Tryd.underlying22 hi hz0 hz1 .u8 _ (2 * s.size) rfl rfl (by omega) (by rw [hz2]; omega) (by unfold maxLen; omega) ?_; intro w1 o1 b1; refine Hid.out ?_)
    obtain ⟨cap, w2, hc, hk, hcap, hm, hb2⟩ := conv_str s w1 (by unfold maxLen; omega)
    have O2 := (show Hid (Own w.heap.size 5 .u8 w2 (.slice (some ⟨w.heap.size, 0, none⟩) 0 (2 * s.size)) []) from Own.below o1 hb2)
    have hlt1 : w.heap.size < w1.heap.size := by
      rcases o1.shape with ⟨e, _⟩ | ⟨g, c, e, _, h, _⟩
      · cases e
      · cases e; exact h
    have BL := (show Hid (Below w.heap.size w w2) from b1.trans (hb2.mono b1.size))
    have HK := (show Hid (Blk .u8 5 w2 w1.heap.size (bs s)) from hk)
    have HLT := (show Hid (w.heap.size < w1.heap.size) from hlt1)
    clear o1 hlt1 b1 hb2 hk
    refine Lib.hid ?_
    go_wp2
    go_loopw [3, 16] (fun u i wr => ∃ (k r c : Nat) (zs : List Int), k ≤ s.size ∧ i = .int .i64 k ∧ u = .slice (some ⟨r, 0, none⟩) zs.length c ∧ Hid (hexL ((bs s).take k) = zs) ∧ Hid (r ≠ w1.heap.size) ∧ Hid (Own w.heap.size 5 .u8 wr (.slice (some ⟨r, 0, none⟩) zs.length c) zs) ∧ Hid (Blk .u8 5 wr w1.heap.size (bs s)) ∧ Hid (Below w.heap.size w wr)) (fun _ i _ => s.size - (intOf i).toNat)
    case atStart => exact ⟨0, w.heap.size, 2 * s.size, [], Nat.zero_le _, rfl, rfl, rfl, (show w.heap.size ≠ w1.heap.size by have := HLT.out; omega), O2.out, HK.out, BL.out⟩
    case round =>
      clear hc
      obtain ⟨k, r, c, zs, hks, rfl, rfl, HZ, HR, OW, HB, BE⟩ := hrel
      by_cases hlt : k < s.size
      · have hat := HB.out.cell k (by omega)
        have hbk := bs_bound s k
        have hmm := hexL_take (xs := bs s) (k := k) (by omega)
        obtain ⟨y, hy⟩ : ∃ y, y = (bs s).getD k 0 := ⟨_, rfl⟩
        rw [← hy] at hat hbk hmm
        have hkl := hexL_len ((bs s).take k)
        rw [List.length_take, HZ.out] at hkl
        rw [HZ.out] at hmm
        have HM := (show Hid (zs ++ [hexD (y / 16), hexD (y % 16)] = hexL ((bs s).take (k + 1))) from hmm)
        obtain ⟨ya, hya⟩ : ∃ a : Nat, (a : Int) = y / 16 := ⟨(y / 16).toNat, by omega⟩
        obtain ⟨yb, hyb⟩ : ∃ a : Nat, (a : Int) = y % 16 := ⟨(y % 16).toNat, by omega⟩
        have ya1 : ya < 16 := by omega
        have yb1 : yb < 16 := by omega
        have hda := digit_b ya ya1
        have hdb := digit_b yb yb1
        have hq1 : IntKind.u8.wrap (ya : Int) = (ya : Int) := by rw [IntKind.wrap_u8]; omega
        have hq2 : y.tdiv 16 = (ya : Int) := by rw [Int.tdiv_eq_ediv_of_nonneg (by omega)]; omega
        have hq3 : y.tmod 16 = (yb : Int) := by rw [Int.tmod_eq_emod_of_nonneg (by omega)]; omega
        rw [← hya, ← hyb] at HM
        clear hy hmm hya hyb
        have hkl2 : zs.length ≤ 6000 := by omega
        have ya2 : (ya : Int) < 16 := by omega
        have yb2 : (yb : Int) < 16 := by omega
        clear hkl
        obtain ⟨za, hza⟩ : ∃ z, z = hexD ya := ⟨_, rfl⟩
        obtain ⟨zb, hzb⟩ : ∃ z, z = hexD yb := ⟨_, rfl⟩
        rw [← hza, ← hzb] at HM
        rw [← hza] at hda
        rw [← hzb] at hdb
        have OX := (show Hid (Own w.heap.size 5 .u8 (wr.alloc (.cells #[.int .u8 za, .int .u8 zb] 5)).drew _ zs) from Own.below (OW.out.alloc _) (below_drewN 1))
        have BX := (show Hid (Below w.heap.size w (wr.alloc (.cells #[.int .u8 za, .int .u8 zb] 5)).drew) from (BE.out.alloc BE.out.size _).trans (below_drewN 1))
        have SX := (show Hid (Sl .u8 (wr.alloc (.cells #[.int .u8 za, .int .u8 zb] 5)).drew (.slice (some ⟨wr.heap.size, 0, none⟩) 2 2) [za, zb]) from (two_bytes wr za zb).below (below_drewN 1))
        have HX := (show Hid (Blk .u8 5 (wr.alloc (.cells #[.int .u8 za, .int .u8 zb] 5)).drew w1.heap.size (bs s)) from (HB.out.below ((Below.refl _ _).alloc (Nat.le_refl _) _)).below (below_drewN 1))
        clear hza hzb OW BE
        go_wp2_with fail
        go_region_law (first
          | (with_reducible refine step_appT (w := (wr.alloc (Obj.cells #[.int .u8 za, .int .u8 zb] 5)).drew) ?_ (.tmp 20) (.tmp 27) 22 ?_ w.heap.size 5 i0 _ 1 ?_ hi hz0 hz1 hz2 ?_ .u8 r c zs ⟨wr.heap.size, 0, none⟩ 2 [za, zb] ?_ ?_ ?_ ?_ ?_ ?_ ?_ ?_
             · rfl
             · rfl
             · exact Tryd.underlying22
             · rfl
             · simp [Act.eval]
             · simp [Act.eval]
             · exact OX.out
             · exact SX.out
             · (simp; omega)
             · (unfold maxLen; simp; omega)
             · exact BX.out.size
             intro r' c' w9 o9 g9 hrr))
        all_goals go_wp2
        all_goals go_roundw
        all_goals first
          | (refine ⟨k + 1, r', c', zs ++ [za, zb], by omega, by go_num, by rw [List.length_append]; rfl, HM.out.symm, ?_, (show Own _ _ _ _ _ _ by rw [List.length_append]; exact o9), ?_, BX.out.grown g9 BX.out.size OX.out.grownAt⟩
             · show r' ≠ _
               rcases hrr with e | e
               · rw [e]; exact HR.out
               · have := HX.out.lt; omega
             · obtain ⟨cur, lo, hi', hh, hx1, hx2⟩ := HX.out
               exact ⟨cur, lo, hi', by rw [g9.block _ (lt_of_block hh) (fun e => by injection e with e; exact HR.out e.symm)]; exact hh, hx1, hx2⟩)
          | (simp [intOf]; omega)
      · have hke : k = s.size := by omega
        subst hke
        have ht : (bs s).take s.size = bs s := by rw [← hl]; exact List.take_length
        have hcv := conv_sl OW.out.sl
        have HZ2 := (show Hid (strOf zs = hexS s) from (show _ = _ by rw [HQ.out, ← HZ.out, ht]))
        clear ht
        go_wp2
        go_ret
        exact ⟨by rw [← HZ2.out]; rfl, BE.out⟩
end Go.Proofs.YteddljmekpnojaaDoor
