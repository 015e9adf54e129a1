/- The specification's DiskSync, DiskCrash, DiskNew. No condition. -/
import Derived.Test.YtjokajblihaphaaGreatDoorU19
import Derived.Test.YtjokajblihaphaaGreatDoorU9
import Derived.Test.YtjokajblihaphaaGreatDoorU5
import Derived.Test.YtjokajblihaphaaGreatDoorU8
namespace Go.Proofs.YtjokajblihaphaaGreatDoor
open Go.RowKit
set_option maxRecDepth 100000
set_option linter.unusedVariables false

theorem and_i64_nat (a b : Nat) (ha : a < 9223372036854775808) (hb : b < 9223372036854775808) : bits .and .i64 (a : Int) (b : Int) = ((a &&& b : Nat) : Int) := by
  have hx : a &&& b < 2 ^ 63 := Nat.and_lt_two_pow _ (by omega)
  have h1 : (BitVec.ofInt 64 (a : Int)).toNat = a := by
    rw [BitVec.ofInt_natCast, BitVec.toNat_ofNat]; exact Nat.mod_eq_of_lt (by omega)
  have h2 : (BitVec.ofInt 64 (b : Int)).toNat = b := by
    rw [BitVec.ofInt_natCast, BitVec.toNat_ofNat]; exact Nat.mod_eq_of_lt (by omega)
  show IntKind.i64.wrap ((BitVec.ofInt 64 (a : Int) &&& BitVec.ofInt 64 (b : Int)).toNat : Int) = _
  rw [BitVec.toNat_and, h1, h2, IntKind.wrap_i64]
  omega
theorem and_one_i64 (E : Int) (h0 : 0 ≤ E) (h1 : E ≤ 9223372036854775807) : bits BinOp.and IntKind.i64 E 1 = E % 2 := by
  have h := and_i64_nat E.toNat 1 (by omega) (by omega)
  rw [Nat.and_one_is_mod, Int.toNat_of_nonneg h0] at h
  have h2 : ((E.toNat % 2 : Nat) : Int) = E % 2 := by omega
  exact h.trans h2
theorem bit_run {keep : Int} (hk : 0 ≤ keep ∧ keep ≤ 2147483647) (k : Nat) : (bits BinOp.and IntKind.i64 (keep / 2 ^ (k % 31)) 1 == 1) = bitB keep k := by
  have hp : (0 : Int) < 2 ^ (k % 31) := by exact Int.pow_pos (by decide)
  have h0 : 0 ≤ keep / 2 ^ (k % 31) := Int.ediv_nonneg hk.1 (Int.le_of_lt hp)
  have h1 : keep / 2 ^ (k % 31) ≤ keep := Int.ediv_le_self _ hk.1
  rw [and_one_i64 _ h0 (by omega)]
  unfold bitB
  cases h : decide (keep / 2 ^ (k % 31) % 2 = 1)
  · simpa using h
  · simpa using h
/-- While the puts are done: k of them are. -/
structure DoneI (w : World) (d : PDisk) (keep : Int) (g8 c8 u : Nat) (sa : Option Addr) (sn sc : Nat) (la : Option Addr) (lc k : Nat) (W : World) : Prop where
  row : W.ownsRow w.heap.size 9 1 (.slice (some ⟨g8, 0, none⟩) d.safe.length c8) d.safe.length (strCells (doneN keep d.safe d.late k))
  arg : W.heap[w.heap.size]? = some (.cells #[.slice sa sn sc, .slice la d.late.length lc] 34 (0, 0))
  res : W.heap[w.heap.size + 1]? = some (.cells #[.slice none 0 0, .slice none 0 0] 34 (0, 0))
  out : W.heap[u]? = some (.cells #[.slice (some ⟨g8, 0, none⟩) d.safe.length c8, .slice none 0 0] 34 (0, 0))
  bel : Below w.heap.size w W

set_option maxHeartbeats 1000000 in
set_option maxRecDepth 100000 in
theorem sl15Done_any {w : World} {v : Value} {d : PDisk} (h : DiskAt w v d) (hf : DiskFit d) (hb : diskB d = true) (keep : Int) (hk : 0 ≤ keep ∧ keep ≤ 2147483647) :
    Calls Tryz.prog 134 #[v, .int .i64 keep] w fun e w' => ∃ v', e = .returned v' ∧ OwnDk w.heap.size w' v' (doneDk keep d) ∧ Below w.heap.size w w' := by
  obtain ⟨sa, sn, sc, la, ln, lc, rfl, h1, h2⟩ := h
  have f1 := hf.sl
  have f2 := hf.ll
  obtain ⟨iS, hiS, hs0, hs1, hs2⟩ := info_parts Tryz.infoStr
  obtain ⟨a2, c2, e2, _, _, hp⟩ := h2.put
  cases e2
  have H1 := (show Hid (Sv 1 w (.slice sa sn sc) (strCells d.safe)) from h1)
  have HP := (show Hid (∀ k (hk : k < d.late.length), ∃ b off, la = some ⟨b, off, none⟩ ∧ b < w.heap.size ∧ w.cell? ⟨b, off + k * 2, none⟩ = some (.int .i64 d.late[k].1) ∧ w.cell? ⟨b, off + k * 2 + 1, none⟩ = some (.string d.late[k].2)) from hp)
  have HB := (show Hid (diskB d = true) from hb)
  clear h1 h2 hp hb
  obtain ⟨W, hW⟩ : ∃ x, x = ((w.alloc (.cells #[.slice sa sn sc, .slice la d.late.length lc] 34)).alloc (.cells #[.slice none 0 0, .slice none 0 0] 34)) := ⟨_, rfl⟩
  have bW : Below w.heap.size w W := by rw [hW]; exact ((Below.refl _ _).alloc (Nat.le_refl _) _).alloc (by simp) _
  have hS : W.heap.size = w.heap.size + 1 + 1 := by rw [hW, World.size_alloc, World.size_alloc]
  have x1 : W.heap[w.heap.size]? = some (.cells #[.slice sa sn sc, .slice la d.late.length lc] 34 (0, 0)) := by rw [hW, Below.heap_alloc _ _ _ (by simp)]; exact World.alloc_heap_new _ _
  have x2 : W.heap[w.heap.size + 1]? = some (.cells #[.slice none 0 0, .slice none 0 0] 34 (0, 0)) := by
    rw [hW]
    have := World.alloc_heap_new (w.alloc (.cells #[.slice sa sn sc, .slice la d.late.length lc] 34)) (.cells #[.slice none 0 0, .slice none 0 0] 34)
    rwa [World.size_alloc] at this
  obtain ⟨W1, hW1⟩ : ∃ x, x = W.alloc (.cells #[] 9) := ⟨_, rfl⟩
  have b1 : Below W.heap.size W W1 := by rw [hW1]; exact (Below.refl _ _).alloc (Nat.le_refl _) _
  have o1 : W1.ownsRow w.heap.size 9 1 (.slice (some ⟨w.heap.size + 1 + 1, 0, none⟩) 0 0) 0 [] := by
    rw [hW1, ← hS]; exact empty_row W w.heap.size 9 1 bW.size
  have B1 := (show Hid (Below w.heap.size w W1) from bW.trans (b1.mono bW.size))
  have X := (show Hid (W1.heap[w.heap.size]? = some (.cells #[.slice sa sn sc, .slice la d.late.length lc] 34 (0, 0)) ∧ W1.heap[w.heap.size + 1]? = some (.cells #[.slice none 0 0, .slice none 0 0] 34 (0, 0))) from ⟨(b1.block _ (lt_of_block x1)).trans x1, (b1.block _ (lt_of_block x2)).trans x2⟩)
  have O1 := (show Hid (W1.ownsRow w.heap.size 9 1 (.slice (some ⟨w.heap.size + 1 + 1, 0, none⟩) 0 0) 0 []) from o1)
  clear bW hS x1 x2 b1 o1
  go_enter Tryz.func134, Tryz.ntmps134
  go_wp2_with (at_builtin
               rw [← hW, ← hW1]
               refine wpList_appV _ rfl (.tmp 7) (.tmp 9) 22 rfl w.heap.size 9 iS _ 1 16 Tryz.underlying22 hiS hs0 hs1 hs2 rfl (by decide) (.slice (some ⟨w.heap.size + 1 + 1, 0, none⟩) 0 0) (.slice sa sn sc) 0 d.safe.length [] (strCells d.safe) rfl rfl O1.out (H1.out.below B1.out) (by rw [strCells_len, Nat.mul_one]) (str_oneCell _) (by omega) (by unfold maxLen; omega) B1.out.size ?_
               intro v7 w7 o7 g7
               clear hW1
               rw [List.nil_append, Nat.zero_add] at o7
               have z1 := rk_keep O1.out g7 X.out.1 (by decide)
               have z2 := rk_keep O1.out g7 X.out.2 (by decide)
               have b7 : Below w.heap.size w w7 := B1.out.grown g7 B1.out.size (fun r e => (World.ownsRow.lt O1.out r e).1)
               obtain ⟨g8, c8, rfl, hg8, hl8⟩ := rk_form o7 (by have := (diskB_len HB.out).1; omega)
               obtain ⟨r1, r2, r3, r4⟩ := rk_two z2
               obtain ⟨q1, q2, _, _⟩ := rk_two z1
               have O7 := (show Hid (w7.ownsRow w.heap.size 9 1 (.slice (some ⟨g8, 0, none⟩) d.safe.length c8) d.safe.length (strCells d.safe)) from o7)
               have Z := (show Hid (w7.heap[w.heap.size]? = some (.cells #[.slice sa sn sc, .slice la d.late.length lc] 34 (0, 0)) ∧ w7.heap[w.heap.size + 1]? = some (.cells #[.slice none 0 0, .slice none 0 0] 34 (0, 0))) from ⟨z1, z2⟩)
               have B7 := (show Hid (Below w.heap.size w w7) from b7)
               clear o7 g7 z1 z2 b7)
  obtain ⟨w8, hw8⟩ : ∃ x, x = w7.alloc (.cells #[.slice (some ⟨g8, 0, none⟩) d.safe.length c8, .slice none 0 0] 34) := ⟨_, rfl⟩
  have b78 : Below w7.heap.size w7 w8 := by rw [hw8]; exact (Below.refl _ _).alloc (Nat.le_refl _) _
  have x8 : w8.heap[w7.heap.size]? = some (.cells #[.slice (some ⟨g8, 0, none⟩) d.safe.length c8, .slice none 0 0] 34 (0, 0)) := by rw [hw8]; exact World.alloc_heap_new _ _
  have I0 : Hid (DoneI w d keep g8 c8 w7.heap.size sa sn sc la lc 0 w8) := ⟨ownsRow_below O7.out b78, (b78.block _ (lt_of_block Z.out.1)).trans Z.out.1, (b78.block _ (lt_of_block Z.out.2)).trans Z.out.2, x8, B7.out.trans (b78.mono B7.out.size)⟩
  have hlw : w.heap.size + 1 < w7.heap.size := lt_of_block Z.out.2
  rw [← hw8]
  clear hw8 b78 x8 r1 r2 r3 r4 q1 q2
  go_loopw [6] (fun i wr => ∃ k : Nat, k ≤ d.late.length ∧ i = .int .i64 k ∧ DoneI w d keep g8 c8 w7.heap.size sa sn sc la lc k wr) (fun i _ => d.late.length - (intOf i).toNat)
  case atStart => exact ⟨0, Nat.zero_le _, rfl, I0.out⟩
  case round =>
    clear I0
    obtain ⟨k, hk', rfl, hI⟩ := hrel
    have HI := (show Hid (DoneI w d keep g8 c8 w7.heap.size sa sn sc la lc k wr) from hI)
    obtain ⟨q1, q2, _, _⟩ := rk_two hI.arg
    obtain ⟨u1, u2, _, _⟩ := rk_two hI.out
    clear hI
    by_cases hlt : k < d.late.length
    · obtain ⟨b, o, rfl, hb, c3, c4⟩ := HP.out k hlt
      have c3' := (HI.out.bel.cell (p := ⟨b, o + k * 2, none⟩) hb).trans c3
      have c4' := (HI.out.bel.cell (p := ⟨b, o + k * 2 + 1, none⟩) hb).trans c4
      have hr := diskB_late HB.out hlt
      have HN := (show Hid (doneN keep d.safe d.late (k + 1) = if bitB keep k then (doneN keep d.safe d.late k).set d.late[k].1.toNat d.late[k].2 else doneN keep d.safe d.late k) from doneN_succ hlt)
      obtain ⟨z, hz⟩ : ∃ z, z = d.late[k] := ⟨_, rfl⟩
      rw [← hz] at c3' c4' HN hr
      obtain ⟨za, zs⟩ := z
      simp only at c3' c4' HN hr
      clear hz c3 c4
      obtain ⟨m, rfl⟩ := Int.eq_ofNat_of_zero_le hr.1
      have h31 : ((k : Int)).tmod 31 = ((k % 31 : Nat) : Int) := by rw [Int.tmod_eq_emod_of_nonneg (by omega)]; omega
      have hbit := bit_run hk k
      have hl := doneN_len keep d.safe d.late k
      have hm : m < d.safe.length := by have := (diskB_len HB.out).1; omega
      cases hq : bitB keep k
      · rw [hq] at hbit
        have HN' : Hid (doneN keep d.safe d.late (k + 1) = doneN keep d.safe d.late k) := (show _ = _ by rw [HN.out, hq]; rfl)
        clear HN hq
        go_wp2
        go_roundw
        case rel => exact ⟨k + 1, by omega, by go_num, ⟨by rw [HN'.out]; exact HI.out.row, HI.out.arg, HI.out.res, HI.out.out, HI.out.bel⟩⟩
        case measure => simp [intOf]; omega
      · rw [hq] at hbit
        have HN' : Hid (doneN keep d.safe d.late (k + 1) = (doneN keep d.safe d.late k).set m zs) := (show _ = _ by rw [HN.out, hq]; simp)
        clear HN hq
        have hrow := HI.out.row
        obtain ⟨zz, hc1⟩ : ∃ z, wr.cell? ⟨g8, m, none⟩ = some z := by
          rw [hrow.cellAt m (by omega)]; exact ⟨_, List.getElem?_eq_getElem (by rw [strCells_len]; omega)⟩
        have f9 := hrow.frozenAt m
        have S1 := (show Hid _ from hrow.stored m (.string zs))
        clear hrow
        go_wp2
        go_region
        go_wp2
        go_roundw
        case rel =>
          have bd : Below (wr.setCell ⟨g8, m, none⟩ (.string zs)).heap.size (wr.setCell ⟨g8, m, none⟩ (.string zs)) (wr.setCell ⟨g8, m, none⟩ (.string zs)).drew := below_drewN 1
          obtain ⟨s1, s2⟩ := S1.out
          have k1 := rk_keep HI.out.row s2 HI.out.arg (by decide)
          have k2 := rk_keep HI.out.row s2 HI.out.res (by decide)
          have k3 := rk_keep HI.out.row s2 HI.out.out (by decide)
          refine ⟨k + 1, by omega, by go_num, ⟨?_, (bd.block _ (lt_of_block k1)).trans k1, (bd.block _ (lt_of_block k2)).trans k2, (bd.block _ (lt_of_block k3)).trans k3, ?_⟩⟩
          · rw [HN'.out, ← strCells_set]; exact ownsRow_below s1 bd
          · have b9 := HI.out.bel.grown s2 HI.out.bel.size (fun r e => by cases e; exact hg8)
            exact b9.trans (bd.mono b9.size)
        case measure => simp [intOf]; omega
    · have hke : k = d.late.length := by omega
      obtain ⟨r1, r2, r3, r4⟩ := rk_two HI.out.res
      go_wp2
      have z1 := rk_at (k := 0) (u := .slice (some ⟨g8, 0, none⟩) d.safe.length c8) HI.out.res
      have z2 := rk_at (k := 1) (u := .slice none 0 0) z1
      (try simp only [Exit.inBlock, Exit.then])
      refine bodyPost_ret (results_cell_row rfl _ _ (w.heap.size + 1) 34 #[.slice (some ⟨g8, 0, none⟩) d.safe.length c8, .slice none 0 0] (0, 0) _ rfl z2 Tryz.underlying34 rfl rfl) rfl ?_
      have hrow := HI.out.row
      rw [hke] at hrow
      have hrow2 := rk_set (k := 1) (u := .slice none 0 0) (rk_set (k := 0) (u := .slice (some ⟨g8, 0, none⟩) d.safe.length c8) hrow HI.out.res (by decide)) z1 (by decide)
      refine ⟨_, rfl, ⟨_, _, _, _, _, _, rfl, ?_, World.ownsRow_nil _ _ _ _⟩, (HI.out.bel.setCell (p := ⟨w.heap.size + 1, 0, none⟩) (Nat.le_succ _) _).setCell (p := ⟨w.heap.size + 1, 1, none⟩) (Nat.le_succ _) _⟩
      show World.ownsRow _ _ _ _ _ (doneN keep d.safe d.late d.late.length).length (strCells (doneN keep d.safe d.late d.late.length))
      rw [doneN_len]
      exact hrow2

set_option maxHeartbeats 1000000 in
set_option maxRecDepth 100000 in
theorem sdiskSync_any {w : World} {v : Value} {d : PDisk} (h : DiskAt w v d) (hf : DiskFit d) :
    Calls Tryz.prog 94 #[v] w fun e w' => ∃ v', e = .returned (.tuple #[v', .bool (syncDk d).2]) ∧ OwnDk w.heap.size w' v' (syncDk d).1 ∧ Below w.heap.size w w' := by
  have HD := (show Hid (DiskAt w v d) from h)
  have HF := (show Hid (DiskFit d) from hf)
  obtain ⟨sa, sn, sc, la, ln, lc, rfl, _, _⟩ := h
  clear hf
  obtain ⟨w1, hw1⟩ : ∃ x, x = (w.alloc (.cells #[.slice sa sn sc, .slice la ln lc] 34)).alloc (.cells #[.slice none 0 0, .slice none 0 0] 34) := ⟨_, rfl⟩
  have b1 : Below w.heap.size w w1 := by rw [hw1]; exact ((Below.refl _ _).alloc (Nat.le_refl _) _).alloc (by simp) _
  have x1 : w1.heap[w.heap.size]? = some (.cells #[.slice sa sn sc, .slice la ln lc] 34 (0, 0)) := by rw [hw1, Below.heap_alloc _ _ _ (by simp)]; exact World.alloc_heap_new _ _
  have x2 : w1.heap[w.heap.size + 1]? = some (.cells #[.slice none 0 0, .slice none 0 0] 34 (0, 0)) := by
    rw [hw1]
    have := World.alloc_heap_new (w.alloc (.cells #[.slice sa sn sc, .slice la ln lc] 34)) (.cells #[.slice none 0 0, .slice none 0 0] 34)
    rwa [World.size_alloc] at this
  have X1 := (show Hid _ from x1)
  have X2 := (show Hid _ from x2)
  have B1 := (show Hid (Below w.heap.size w w1) from b1)
  clear b1 x1 x2
  go_enter Tryz.func94, Tryz.ntmps94
  go_wp2_with fail
  go_at_call 59
  rw [← hw1]
  refine (sdiskOk_any (HD.out.below B1.out) HF.out).mono ?_
  rintro e w2 ⟨rfl, b2⟩
  clear hw1
  have B2 := (show Hid (Below w.heap.size w w2) from B1.out.trans (b2.mono B1.out.size))
  have y1 := (b2.block _ (lt_of_block X1.out)).trans X1.out
  have y2 := (b2.block _ (lt_of_block X2.out)).trans X2.out
  obtain ⟨q1, q2, _, _⟩ := rk_two y1
  obtain ⟨r1, r2, r3, r4⟩ := rk_two y2
  have Y1 := (show Hid _ from y1)
  have Y2 := (show Hid _ from y2)
  clear b2 y1 y2
  cases hb : diskB d
  · have HR : Hid (syncDk d = (zeroDk, false)) := (show syncDk d = (zeroDk, false) by rw [syncDk, if_pos hb])
    clear hb
    go_wp2
    have z2 := rk_at (k := 1) (u := .slice none 0 0) (rk_at (k := 0) (u := .slice none 0 0) Y2.out)
    refine bodyPost_ret (disk_res rfl rfl rfl z2) rfl ?_
    rw [HR.out]
    exact ⟨_, rfl, ownDk_nil _ _, ((B2.out.setCell (Nat.le_succ _) _).setCell (Nat.le_succ _) _)⟩
  · have HR : Hid (syncDk d = (doneDk 2147483647 d, true)) := (show syncDk d = (doneDk 2147483647 d, true) by rw [syncDk, if_neg (by rw [hb]; simp)])
    have CC := (show Hid _ from sl15Done_any (HD.out.below B2.out) HF.out hb 2147483647 (by decide))
    clear hb
    go_wp2_with fail
    go_at_call 134
    refine Calls.mono CC.out ?_
    rintro e w3 ⟨v3, rfl, o3, b3⟩
    clear CC
    have B3 := (show Hid (Below w.heap.size w w3) from B2.out.trans (b3.mono B2.out.size))
    have y2 := (b3.block _ (lt_of_block Y2.out)).trans Y2.out
    obtain ⟨ta, tn, tc, ma, mn, mc, rfl, o31, o32⟩ := o3
    obtain ⟨r1, r2, r3, r4⟩ := rk_two y2
    have Z2 := (show Hid _ from y2)
    have O1 := (show Hid _ from rk_base o31 B2.out.size)
    have O2 := (show Hid _ from rk_base o32 B2.out.size)
    clear o31 o32 b3 y2
    go_wp2
    have z1 := rk_at (k := 0) (u := .slice ta tn tc) Z2.out
    have z2 := rk_at (k := 1) (u := .slice ma mn mc) z1
    refine bodyPost_ret (disk_res rfl rfl rfl z2) rfl ?_
    rw [HR.out]
    exact ⟨_, rfl, ⟨_, _, _, _, _, _, rfl, rk_set (rk_set O1.out Z2.out (by decide)) z1 (by decide), rk_set (rk_set O2.out Z2.out (by decide)) z1 (by decide)⟩, (B3.out.setCell (p := ⟨w.heap.size + 1, 0, none⟩) (Nat.le_succ _) _).setCell (p := ⟨w.heap.size + 1, 1, none⟩) (Nat.le_succ _) _⟩

end Go.Proofs.YtjokajblihaphaaGreatDoor

/- The specification's DiskNew. No condition. -/
namespace Go.Proofs.YtjokajblihaphaaGreatDoor
open Go.RowKit
set_option maxRecDepth 100000
set_option linter.unusedVariables false

theorem sv_oneStr {w : World} {g : Nat} {s : ByteArray} {t : TypeId} (h : w.heap[g]? = some (.cells #[.string s] t (0, 0))) : Sv 1 w (.slice (some ⟨g, 0, none⟩) 1 1) (strCells [s]) := by
  obtain ⟨c0, _⟩ := rk_one h
  refine ⟨some ⟨g, 0, none⟩, 1, 1, rfl, rfl, Nat.le_refl _, by unfold maxLen; omega, (fun e => by cases e), fun i hi => ⟨g, 0, rfl, ?_⟩⟩
  have hi' : i < 1 := hi
  match i, hi' with
  | 0, _ => simpa [strCells] using c0

/-- While the texts of a new disk are laid: k of them are. -/
structure NewI (w : World) (k : Nat) (W : World) : Prop where
  cells : ∃ a n c, W.heap[w.heap.size + 1]? = some (.cells #[.slice a n c, .slice none 0 0] 34 (0, 0)) ∧ W.ownsRow w.heap.size 9 1 (.slice a n c) k (strCells (List.replicate k zeros64))
  res : W.heap[w.heap.size]? = some (.cells #[.slice none 0 0, .slice none 0 0] 34 (0, 0))
  bel : Below w.heap.size w W
end Go.Proofs.YtjokajblihaphaaGreatDoor

/- The contract of the draw of bytes: some bytes, in new memory. -/
namespace Go.Proofs.YtjokajblihaphaaGreatDoor
open Go.RowKit
set_option maxRecDepth 100000
set_option linter.unusedVariables false

theorem Sl.take {K : IntKind} {w : World} {a : Addr} {n cap r : Nat} {xs : List Int} (h : Sl K w (.slice (some a) n cap) xs) (hr : r ≤ xs.length) : Sl K w (.slice (some a) r cap) (xs.take r) := by
  obtain ⟨a', c', e, hl, hm, hnn, ha⟩ := h
  cases e
  have hlen : (xs.take r).length = r := by simp; omega
  refine ⟨some a, cap, by rw [hlen], by omega, hm, (fun h => by cases h), fun k hk => ?_⟩
  obtain ⟨b, off, e, c⟩ := ha k (by omega)
  refine ⟨b, off, e, ?_⟩
  have e2 : (xs.take r).getD k 0 = xs.getD k 0 := by simp [List.getD_eq_getElem?_getD, show k < r by omega]
  rw [e2]; exact c

theorem put_byte (x : Int) : ∀ y ∈ put x, 0 ≤ y ∧ y ≤ 255 := by
  have := pt_ok x
  exact enc_byte this.1 this.2.1

end Go.Proofs.YtjokajblihaphaaGreatDoor

/- The draws of chapter 15: a text of a sector, a place. No condition. -/
namespace Go.Proofs.YtjokajblihaphaaGreatDoor
open Go.RowKit
set_option maxRecDepth 100000
set_option linter.unusedVariables false

theorem Blk.kept {K : IntKind} {t : TypeId} {w w' : World} {b : Nat} {zs : List Int} {row : Option Nat} (h : Blk K t w b zs) (hg : w.grownBy w' row) (hne : some b ≠ row) : Blk K t w' b zs := by
  have hlt := h.lt
  obtain ⟨cur, lo, hi, hh, r⟩ := h
  exact ⟨cur, lo, hi, (hg.block b hlt hne).trans hh, r⟩
end Go.Proofs.YtjokajblihaphaaGreatDoor
