/- The program's DiskNew: slices.Repeat of one text. No condition. -/
import Derived.Test.YtbpncleapnohjaaU25
namespace Go.Proofs.Ytbpncleapnohjaa
open Go.RowKit
set_option maxRecDepth 100000
set_option linter.unusedVariables false

theorem mul64_any (w : World) : Calls Try.prog 63 #[.int .u64 1, .int .u64 130] w fun e w' => e = .returned (.tuple #[.int .u64 0, .int .u64 130]) ∧ w' = w := by
  go_enter Try.func63, Try.ntmps63
  go_wp2
  go_ret2
  exact ⟨rfl, rfl⟩
theorem mul_any (w : World) : Calls Try.prog 51 #[.int .u64 1, .int .u64 130] w fun e w' => e = .returned (.tuple #[.int .u64 0, .int .u64 130]) ∧ w' = w := by
  go_enter Try.func51, Try.ntmps51
  go_wp2_with fail
  go_at_call 63
  refine (mul64_any w).mono ?_
  rintro e w' ⟨rfl, rfl⟩
  go_wp2
  go_ret2
  exact ⟨rfl, rfl⟩

/-- A row of 130 texts of which n are as they shall be. -/
def RepI (w : World) (t : ByteArray) (n : Nat) (W : World) : Prop := ∃ cur : Array Value, W.heap[w.heap.size]? = some (.cells cur 9 (0, 0)) ∧ cur.size = 130 ∧ cur.toList.take n = List.replicate n (.string t) ∧ Below w.heap.size w W
theorem rep_put {cur : Array Value} {t : ByteArray} {n m : Nat} (hc : cur.size = 130) (h : cur.toList.take n = List.replicate n (.string t)) (hm : n + m ≤ 130) :
    (cur.toList.take n ++ List.replicate m (Value.string t) ++ cur.toList.drop (n + m)).toArray.size = 130 ∧ (cur.toList.take n ++ List.replicate m (Value.string t) ++ cur.toList.drop (n + m)).toArray.toList.take (n + m) = List.replicate (n + m) (.string t) := by
  have hl : cur.toList.length = 130 := by rw [Array.length_toList, hc]
  refine ⟨?_, ?_⟩
  · simp only [List.size_toArray, List.length_append, List.length_take, List.length_replicate, List.length_drop]; omega
  · have e : (List.replicate n (Value.string t) ++ List.replicate m (Value.string t)).length = n + m := by simp
    rw [h, ← e]
    show List.take _ (_ ++ _ ++ _) = _
    rw [List.take_left, e, List.replicate_append_replicate]
theorem rep_copy {w W : World} {t : ByteArray} {n : Nat} (h : RepI w t n W) (hn : n < 130) (ty : TypeId) :
    ∃ W', (Builtin.copy_ #[22, 22] ty #[.slice (some ⟨w.heap.size, n, none⟩) (130 - n) (130 - n), .slice (some ⟨w.heap.size, 0, none⟩) n 130]).run Try.prog W = .ok (goInt (Nat.min n (130 - n))) W' ∧ RepI w t (n + Nat.min n (130 - n)) W' := by
  obtain ⟨cur, hg, hc, ht, hb⟩ := h
  have hmin : n + Nat.min n (130 - n) ≤ 130 := by
    have := Nat.min_le_right n (130 - n)
    have e : Nat.min n (130 - n) = min n (130 - n) := rfl
    omega
  have hr := run_copy_row (P := Try.prog) W 22 22 ty 9 w.heap.size n (130 - n) (130 - n) ⟨w.heap.size, 0, none⟩ n 130 cur 9 (List.replicate (Nat.min n (130 - n)) (.string t)) Try.underlying22 (by kernel_rfl) hg (by simp) (fun j v hv => by
    have hj : j < Nat.min n (130 - n) := by have := (List.getElem?_eq_some_iff.1 hv).1; simpa using this
    have hjn : j < n := Nat.lt_of_lt_of_le hj (Nat.min_le_left _ _)
    have ev : v = .string t := by rw [List.getElem?_replicate_of_lt hj] at hv; exact (Option.some.inj hv).symm
    rw [Addr.add_mid, Nat.zero_add, cell_of_row W w.heap.size j cur _ _ hg, ev]
    have : (cur.toList.take n)[j]? = (List.replicate n (Value.string t))[j]? := by rw [ht]
    rw [List.getElem?_take_of_lt hjn, List.getElem?_replicate_of_lt hjn] at this
    simpa using this) (by rw [List.length_replicate, hc]; exact hmin) (fun v hv => by rw [List.eq_of_mem_replicate hv]; rfl)
  rw [List.length_replicate] at hr
  obtain ⟨p1, p2⟩ := rep_put hc ht hmin
  refine ⟨_, hr, _, setRow_heap _ _ _ _ _ _ hg, p1, p2, ?_⟩
  exact hb.grown (grown_setRow _ _ _) hb.size (fun r e => by cases e; exact Nat.le_refl _)

/-- The copy, as one step of a region that draws its order. -/
theorem step_copyR {ops : Array Oper} {o : Oper} {a : Act} {w W : World} {K : Act → World → Prop} {Q : Exit → Act → World → Prop} {E : Prop} {t : ByteArray} {n : Nat}
    (hg : o.guard = none) (d x : Operand) (hop : o.op = Op.call { callee := Callee.builtin Builtin.copy, args := #[d, x], argTypes := #[22, 22] })
    (hd : a.eval d = .slice (some ⟨w.heap.size, n, none⟩) (130 - n) (130 - n)) (hx : a.eval x = .slice (some ⟨w.heap.size, 0, none⟩) n 130) (h : RepI w t n W) (hn : n < 130)
    (hK : ∀ W', RepI w t (n + Nat.min n (130 - n)) W' → K (a.put o.dst (goInt (Nat.min n (130 - n)))) W') :
    if Region.wanted o (yielded ops a.tmps) = true then Oper.wp Try.prog o a W K Q else E := by
  have hw : Region.wanted o (yielded ops a.tmps) = true := by simp [Region.wanted, hg]
  rw [if_pos hw]
  obtain ⟨W', hr, hI⟩ := rep_copy h hn o.type
  unfold Oper.wp
  simp [execOp, hop, resolve, invoke, builtin, hd, hx, hr, Result.andThen]
  exact hK W' hI
theorem RepI.drew {w W : World} {t : ByteArray} {n : Nat} (h : RepI w t n W) : RepI w t n W.drew := by
  obtain ⟨cur, h1, h2, h3, h4⟩ := h
  exact ⟨cur, ((drew1 W).block _ (lt_of_block h1)).trans h1, h2, h3, h4.trans ((drew1 W).mono h4.size)⟩

set_option maxHeartbeats 1000000 in
set_option maxRecDepth 100000 in
theorem irepeat_any {w : World} {b : Nat} {t : ByteArray} (h : w.heap[b]? = some (.cells #[.string t] 9 (0, 0))) :
    Calls Try.prog 30 #[.slice (some ⟨b, 0, none⟩) 1 1, .int .i64 130] w fun e w' => ∃ v', e = .returned v' ∧ w'.ownsRow w.heap.size 9 1 v' 130 (strCells (List.replicate 130 t)) ∧ Below w.heap.size w w' := by
  have HB := (show Hid _ from h)
  clear h
  obtain ⟨i0, hi, hz0, hz1, hz2⟩ := info_parts Try.infoStr
  go_enter Try.func30, Try.ntmps30
  go_wp2_with (first
    | (go_at_call 51; refine (mul_any w).mono ?_; rintro e wz ⟨rfl, hz⟩; rw [hz]; clear hz wz)
    | (at_make; refine wpList_make_full _ rfl (.tmp 29) (.tmp 29) 22 rfl w.heap.size 9 i0 _ 1 Try.underlying22 hi hz0 hz1 .i64 .i64 _ _ 130 rfl rfl rfl rfl (by rw [hz2]; omega) (by unfold maxLen; omega) (Nat.le_refl _) ?_; intro w1 o1 g1))
  have b1 : Below w.heap.size w w1 := (Below.refl _ _).grown g1 (Nat.le_refl _) (fun k hk => by cases hk)
  obtain ⟨cur, hcur, hsz⟩ : ∃ cur : Array Value, w1.heap[w.heap.size]? = some (.cells cur 9 (0, 0)) ∧ cur.size = 130 := by
    obtain ⟨_, ⟨h, _⟩ | ⟨g, cap, cur, h, _, hh, _, _, hs, _⟩⟩ := o1
    · cases h
    · cases h; exact ⟨cur, hh, by omega⟩
  have hb1 := (b1.block _ (lt_of_block HB.out)).trans HB.out
  have hr := run_copy_row (P := Try.prog) w1 22 22 3 9 w.heap.size 0 130 130 ⟨b, 0, none⟩ 1 1 cur 9 [.string t] Try.underlying22 (by kernel_rfl) hcur rfl (fun j v hv => by
    have hj : j < 1 := by simpa using (List.getElem?_eq_some_iff.1 hv).1
    obtain rfl : j = 0 := by omega
    rw [Addr.add_mid, cell_of_row w1 b _ _ _ _ hb1]
    simpa using hv) (by rw [hsz]; simp) (fun v hv => by simp at hv; rw [hv]; rfl)
  rw [hr]
  obtain ⟨p1, p2⟩ := rep_put (t := t) (n := 0) (m := 1) hsz (by simp) (by decide)
  have I1 : Hid (RepI w t 1 (w1.setRow w.heap.size (cur.toList.take 0 ++ [Value.string t] ++ cur.toList.drop (0 + [Value.string t].length)).toArray)) := ⟨_, setRow_heap _ _ _ _ _ _ hcur, p1, p2, b1.grown (grown_setRow _ _ _) b1.size (fun r e => by cases e; exact Nat.le_refl _)⟩
  obtain ⟨w2, hw2⟩ : ∃ x, x = w1.setRow w.heap.size (cur.toList.take 0 ++ [Value.string t] ++ cur.toList.drop (0 + [Value.string t].length)).toArray := ⟨_, rfl⟩
  rw [← hw2] at I1
  rw [← hw2]
  clear hw2 hr p1 p2 hcur hsz hb1 b1 o1 g1 hi hz0 hz1 hz2
  go_wp2
  go_loopw [8] (fun i wr => ∃ k : Nat, 1 ≤ k ∧ k ≤ 130 ∧ i = .int .i64 k ∧ RepI w t k wr) (fun i _ => 130 - (intOf i).toNat)
  case atStart => exact ⟨1, by decide, by decide, rfl, I1.out⟩
  case round =>
    clear I1
    obtain ⟨k, hk1, hk2, rfl, hI⟩ := hrel
    have HI := (show Hid (RepI w t k wr) from hI)
    clear hI
    by_cases hlt : k < 130
    · have e1 : Nat.min k (130 - k) = min k (130 - k) := rfl
      have hm1 : 1 ≤ Nat.min k (130 - k) := by omega
      have hm2 : k + Nat.min k (130 - k) ≤ 130 := by omega
      obtain ⟨m, hm⟩ : ∃ m, m = Nat.min k (130 - k) := ⟨_, rfl⟩
      rw [← hm] at hm1 hm2
      have HM := (show Hid (m = Nat.min k (130 - k)) from hm)
      have hkI : (k : Int) ≤ 130 := by omega
      have hkn : ¬ (130 = k) := by omega
      have hwrap : IntKind.i64.wrap ((k : Int) + (m : Int)) = (k : Int) + (m : Int) := by rw [IntKind.wrap_i64]; omega
      clear hm e1
      go_wp2
      go_region_held3 (fun w' => True) (trivial)
        (first
          | (refine step_copyR (w := w) (t := t) (n := k) rfl (.tmp 41) (.tmp 44) rfl rfl rfl HI.out.drew hlt ?_
             intro w4 h4
             rw [← HM.out] at h4
             rw [← HM.out]
             have I4 := (show Hid (RepI w t (k + m) w4) from h4)
             clear h4))
      all_goals go_wp2
      all_goals go_roundw
      case rel => exact ⟨k + m, by omega, by omega, by go_num, I4.out⟩
      case measure => simp [intOf]; omega
    · obtain rfl : k = 130 := by omega
      go_wp2
      go_ret
      obtain ⟨cur, h1, h2, h3, h4⟩ := HI.out
      refine ⟨_, rfl, ⟨by simp [strCells], .inr ⟨w.heap.size, 130, cur, rfl, Nat.le_refl _, h1, Nat.le_refl _, by decide, h2, ?_⟩⟩, h4⟩
      rw [Nat.mul_one, h3]
      simp [strCells]

theorem zeros_row : Value.agg (secA zeros64) = .agg #[.int .u8 0, .int .u8 0, .int .u8 0, .int .u8 0, .int .u8 0, .int .u8 0, .int .u8 0, .int .u8 0, .int .u8 0, .int .u8 0, .int .u8 0, .int .u8 0, .int .u8 0, .int .u8 0, .int .u8 0, .int .u8 0, .int .u8 0, .int .u8 0, .int .u8 0, .int .u8 0, .int .u8 0, .int .u8 0, .int .u8 0, .int .u8 0, .int .u8 0, .int .u8 0, .int .u8 0, .int .u8 0, .int .u8 0, .int .u8 0, .int .u8 0, .int .u8 0, .int .u8 0, .int .u8 0, .int .u8 0, .int .u8 0, .int .u8 0, .int .u8 0, .int .u8 0, .int .u8 0, .int .u8 0, .int .u8 0, .int .u8 0, .int .u8 0, .int .u8 0, .int .u8 0, .int .u8 0, .int .u8 0, .int .u8 0, .int .u8 0, .int .u8 0, .int .u8 0, .int .u8 0, .int .u8 0, .int .u8 0, .int .u8 0, .int .u8 0, .int .u8 0, .int .u8 0, .int .u8 0, .int .u8 0, .int .u8 0, .int .u8 0, .int .u8 0] := by
  rw [secA, secL_zeros]
  rfl
set_option maxHeartbeats 1000000 in
set_option maxRecDepth 100000 in
theorem idiskNew_any (w : World) : Calls Try.prog 13 #[] w fun e w' => ∃ v', e = .returned v' ∧ OwnDk w.heap.size w' v' newDk ∧ Below w.heap.size w w' := by
  have CT := (show Hid (∀ w, Calls Try.prog 31 #[.agg #[.int .u8 0, .int .u8 0, .int .u8 0, .int .u8 0, .int .u8 0, .int .u8 0, .int .u8 0, .int .u8 0, .int .u8 0, .int .u8 0, .int .u8 0, .int .u8 0, .int .u8 0, .int .u8 0, .int .u8 0, .int .u8 0, .int .u8 0, .int .u8 0, .int .u8 0, .int .u8 0, .int .u8 0, .int .u8 0, .int .u8 0, .int .u8 0, .int .u8 0, .int .u8 0, .int .u8 0, .int .u8 0, .int .u8 0, .int .u8 0, .int .u8 0, .int .u8 0, .int .u8 0, .int .u8 0, .int .u8 0, .int .u8 0, .int .u8 0, .int .u8 0, .int .u8 0, .int .u8 0, .int .u8 0, .int .u8 0, .int .u8 0, .int .u8 0, .int .u8 0, .int .u8 0, .int .u8 0, .int .u8 0, .int .u8 0, .int .u8 0, .int .u8 0, .int .u8 0, .int .u8 0, .int .u8 0, .int .u8 0, .int .u8 0, .int .u8 0, .int .u8 0, .int .u8 0, .int .u8 0, .int .u8 0, .int .u8 0, .int .u8 0, .int .u8 0]] w fun e w' => e = .returned (.string zeros64) ∧ Below w.heap.size w w') from fun w => zeros_row ▸ itext_any zeros64 w zeros64_size)
  obtain ⟨z, hz⟩ : ∃ z, z = zeros64 := ⟨_, rfl⟩
  rw [← hz] at CT
  have HN : Hid (newDk = ⟨List.replicate 130 z, []⟩) := (show newDk = ⟨List.replicate 130 z, []⟩ by rw [hz]; rfl)
  clear hz
  obtain ⟨w1, hw1⟩ : ∃ x, x = w.alloc (.cells #[.slice none 0 0, .slice none 0 0] 25) := ⟨_, rfl⟩
  have b1 : Below w.heap.size w w1 := by rw [hw1]; exact (Below.refl _ _).alloc (Nat.le_refl _) _
  have x1 : w1.heap[w.heap.size]? = some (.cells #[.slice none 0 0, .slice none 0 0] 25 (0, 0)) := by rw [hw1]; exact World.alloc_heap_new _ _
  have B1 := (show Hid (Below w.heap.size w w1) from b1)
  have X1 := (show Hid _ from x1)
  clear b1 x1
  go_enter Try.func13, Try.ntmps13
  go_wp2_with fail
  go_at_call 31
  rw [← hw1]
  refine (CT.out w1).mono ?_
  rintro e w2 ⟨rfl, b2⟩
  clear hw1 CT
  have B2 := (show Hid (Below w.heap.size w w2) from B1.out.trans (b2.mono B1.out.size))
  have X2 := (show Hid (w2.heap[w.heap.size]? = some (.cells #[.slice none 0 0, .slice none 0 0] 25 (0, 0))) from (b2.block _ (lt_of_block X1.out)).trans X1.out)
  clear b2 X1
  obtain ⟨w3, hw3⟩ : ∃ x, x = w2.alloc (.cells #[.string z] 9) := ⟨_, rfl⟩
  have b3 : Below w2.heap.size w2 w3 := by rw [hw3]; exact (Below.refl _ _).alloc (Nat.le_refl _) _
  have x3 : w3.heap[w2.heap.size]? = some (.cells #[.string z] 9 (0, 0)) := by rw [hw3]; exact World.alloc_heap_new _ _
  have CR := (show Hid _ from irepeat_any x3)
  have B3 := (show Hid (Below w.heap.size w w3) from B2.out.trans (b3.mono B2.out.size))
  have X3 := (show Hid (w3.heap[w.heap.size]? = some (.cells #[.slice none 0 0, .slice none 0 0] 25 (0, 0))) from (b3.block _ (lt_of_block X2.out)).trans X2.out)
  clear b3 x3 X2
  go_wp2_with fail
  go_at_call 30
  rw [← hw3]
  refine Calls.mono CR.out ?_
  rintro e w4 ⟨v4, rfl, o4, b4⟩
  clear hw3 CR
  have B4 := (show Hid (Below w.heap.size w w4) from B3.out.trans (b4.mono B3.out.size))
  have x4 := (b4.block _ (lt_of_block X3.out)).trans X3.out
  obtain ⟨ta, tn, tc, rfl⟩ := rk_slice o4
  obtain ⟨r1, r2, r3, r4⟩ := rk_two x4
  have O4 := (show Hid (w4.ownsRow w.heap.size 9 1 (.slice ta tn tc) 130 (strCells (List.replicate 130 z))) from rk_base o4 B3.out.size)
  have X4 := (show Hid _ from x4)
  clear b4 x4 o4
  go_wp2
  have z1 := rk_at (k := 0) (u := .slice ta tn tc) X4.out
  have z2 := rk_at (k := 1) (u := .slice none 0 0) z1
  refine bodyPost_ret (results_cell_row rfl _ _ w.heap.size 25 #[.slice ta tn tc, .slice none 0 0] (0, 0) _ rfl z2 Try.underlying25 rfl rfl) rfl ?_
  rw [HN.out]
  refine ⟨_, rfl, ⟨_, _, _, _, _, _, rfl, ?_, World.ownsRow_nil _ _ _ _⟩, (B4.out.setCell (p := ⟨w.heap.size, 0, none⟩) (Nat.le_refl _) _).setCell (p := ⟨w.heap.size, 1, none⟩) (Nat.le_refl _) _⟩
  rw [List.length_replicate]
  exact rk_set (rk_set O4.out X4.out (by decide)) z1 (by decide)
end Go.Proofs.Ytbpncleapnohjaa

/- The program's DiskSync and DiskCrash. No condition. -/
namespace Go.Proofs.Ytbpncleapnohjaa
open Go.RowKit
set_option maxRecDepth 100000
set_option linter.unusedVariables false

set_option maxHeartbeats 1000000 in
set_option maxRecDepth 100000 in
theorem idiskSync_any {w : World} {v : Value} {d : PDisk} (h : DiskAt w v d) (hf : DiskFit d) :
    Calls Try.prog 14 #[v] w fun e w' => ∃ v', e = .returned (.tuple #[v', .bool (syncDk d).2]) ∧ OwnDk w.heap.size w' v' (syncDk d).1 ∧ Below w.heap.size w w' := by
  have HD := (show Hid (DiskAt w v d) from h)
  have HF := (show Hid (DiskFit d) from hf)
  obtain ⟨sa, sn, sc, la, ln, lc, rfl, _, _⟩ := h
  clear hf
  obtain ⟨w1, hw1⟩ : ∃ x, x = (w.alloc (.cells #[.slice sa sn sc, .slice la ln lc] 25)).alloc (.cells #[.slice none 0 0, .slice none 0 0] 25) := ⟨_, rfl⟩
  have b1 : Below w.heap.size w w1 := by rw [hw1]; exact ((Below.refl _ _).alloc (Nat.le_refl _) _).alloc (by simp) _
  have x1 : w1.heap[w.heap.size]? = some (.cells #[.slice sa sn sc, .slice la ln lc] 25 (0, 0)) := by rw [hw1, Below.heap_alloc _ _ _ (by simp)]; exact World.alloc_heap_new _ _
  have x2 : w1.heap[w.heap.size + 1]? = some (.cells #[.slice none 0 0, .slice none 0 0] 25 (0, 0)) := by
    rw [hw1]
    have := World.alloc_heap_new (w.alloc (.cells #[.slice sa sn sc, .slice la ln lc] 25)) (.cells #[.slice none 0 0, .slice none 0 0] 25)
    rwa [World.size_alloc] at this
  have X1 := (show Hid _ from x1)
  have X2 := (show Hid _ from x2)
  have B1 := (show Hid (Below w.heap.size w w1) from b1)
  clear b1 x1 x2
  go_enter Try.func14, Try.ntmps14
  go_wp2_with fail
  go_at_call 32
  rw [← hw1]
  refine (idiskOk_any (HD.out.below B1.out) HF.out).mono ?_
  rintro e w2 ⟨rfl, b2⟩
  clear hw1
  have B2 := (show Hid (Below w.heap.size w w2) from B1.out.trans (b2.mono B1.out.size))
  have y1 := (b2.block _ (lt_of_block X1.out)).trans X1.out
  have y2 := (b2.block _ (lt_of_block X2.out)).trans X2.out
  obtain ⟨q1, q2, _, _⟩ := rk_two y1
  obtain ⟨r1, r2, r3, r4⟩ := rk_two y2
  have Y2 := (show Hid _ from y2)
  clear b2 y1 y2 X1 X2
  cases hb : diskB d
  · have HR : Hid (syncDk d = (zeroDk, false)) := (show syncDk d = (zeroDk, false) by rw [syncDk, if_pos hb])
    clear hb
    go_wp2
    have z2 := rk_at (k := 1) (u := .slice none 0 0) (rk_at (k := 0) (u := .slice none 0 0) Y2.out)
    refine bodyPost_ret (disk_res rfl rfl rfl z2) rfl ?_
    rw [HR.out]
    exact ⟨_, rfl, ownDk_nil _ _, ((B2.out.setCell (Nat.le_succ _) _).setCell (Nat.le_succ _) _)⟩
  · have HR : Hid (syncDk d = (doneDk 2147483647 d, true)) := (show syncDk d = (doneDk 2147483647 d, true) by rw [syncDk, if_neg (by rw [hb]; simp)])
    have CC := (show Hid _ from isettledS_any (HD.out.below B2.out) HF.out hb)
    clear hb
    go_wp2_with fail
    go_at_call 33
    refine Calls.mono CC.out ?_
    rintro e w3 ⟨v3, rfl, o3, b3⟩
    clear CC r1 r2 r3 r4 q1 q2
    have B3 := (show Hid (Below w.heap.size w w3) from B2.out.trans (b3.mono B2.out.size))
    obtain ⟨ta, tn, tc, ma, mn, mc, rfl, o31, o32⟩ := o3
    have y2 := (b3.block _ (lt_of_block Y2.out)).trans Y2.out
    obtain ⟨r1, r2, r3, r4⟩ := rk_two y2
    have O1 := (show Hid (w3.ownsRow w.heap.size 9 1 (.slice ta tn tc) (doneDk 2147483647 d).safe.length (strCells (doneDk 2147483647 d).safe)) from rk_base o31 B2.out.size)
    have O2 := (show Hid (w3.ownsRow w.heap.size 65 2 (.slice ma mn mc) (doneDk 2147483647 d).late.length (putCells (doneDk 2147483647 d).late)) from rk_base o32 B2.out.size)
    have Z2 := (show Hid _ from y2)
    clear b3 o31 o32 y2
    go_wp2
    have z1 := rk_at (k := 0) (u := .slice ta tn tc) Z2.out
    have z2 := rk_at (k := 1) (u := .slice ma mn mc) z1
    refine bodyPost_ret (disk_res rfl rfl rfl z2) rfl ?_
    rw [HR.out]
    exact ⟨_, rfl, ⟨_, _, _, _, _, _, rfl, rk_set (rk_set O1.out Z2.out (by decide)) z1 (by decide), rk_set (rk_set O2.out Z2.out (by decide)) z1 (by decide)⟩, (B3.out.setCell (p := ⟨w.heap.size + 1, 0, none⟩) (Nat.le_succ _) _).setCell (p := ⟨w.heap.size + 1, 1, none⟩) (Nat.le_succ _) _⟩

end Go.Proofs.Ytbpncleapnohjaa
