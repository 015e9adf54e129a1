/- strings.IndexByte: the library's contract, laid by hand at this program; what it answers of the sixteen digits. No condition. -/
import Derived.Shelf.Small.Strs
import Derived.Test.YteddljmekpnojaaDoorU14
import Derived.Test.YteddljmekpnojaaDoorU17
import Derived.Test.YteddljmekpnojaaDoorU11
namespace Go.Proofs.YteddljmekpnojaaDoor
open Go.RowKit Go.Shelf
set_option maxRecDepth 100000
set_option linter.unusedVariables false

def idxBRen : Go.Shelf.Ren := ⟨fun | 137 => 19 | 217 => 26 | 266 => 30 | n => n, fun | 3 => 3 | 5 => 5 | 9 => 9 | n => n, fun  | n => n⟩
theorem idxBLays : Go.Proofs.Lays.n137 Tryd.prog idxBRen := {
  mixed := by kernel_rfl
  f137 := Tryd.func19.trans (congrArg some (by kernel_rfl))
  f217 := Tryd.func26.trans (congrArg some (by kernel_rfl))
  f266 := Tryd.func30.trans (congrArg some (by kernel_rfl))
  t3 := Tryd.underlying3
  a3 := Tryd.isAgg3
  z3 := Tryd.sizeOf3
  v3 := Tryd.zeroValue3
  t5 := Tryd.underlying5
  a5 := Tryd.isAgg5
  z5 := Tryd.sizeOf5
  v5 := Tryd.zeroValue5
  t9 := Tryd.underlying9
  a9 := Tryd.isAgg9
  z9 := Tryd.sizeOf9
  v9 := Tryd.zeroValue9 }

theorem indexB_digits (c : Nat) (h : c < 256) : Lib.indexByte [48, 49, 50, 51, 52, 53, 54, 55, 56, 57, 97, 98, 99, 100, 101, 102] c.toUInt8 = valD c := by
  have all : ∀ c : Fin 256, Lib.indexByte [48, 49, 50, 51, 52, 53, 54, 55, 56, 57, 97, 98, 99, 100, 101, 102] c.val.toUInt8 = valD (c.val : Int) := by decide +kernel
  exact all ⟨c, h⟩
theorem indexByte_any (b : Int) (w : World) (h0 : 0 ≤ b) (h1 : b ≤ 255) : Calls Tryd.prog 19 #[.string ⟨#[48, 49, 50, 51, 52, 53, 54, 55, 56, 57, 97, 98, 99, 100, 101, 102]⟩, .int .u8 b] w fun e w' => e = .returned (.int .i64 (valD b)) ∧ w' = w := by
  have h := Any.strings_IndexByte idxBLays ⟨#[48, 49, 50, 51, 52, 53, 54, 55, 56, 57, 97, 98, 99, 100, 101, 102]⟩ b w
  have e := indexB_digits b.toNat (by omega)
  rw [show ((b.toNat : Nat) : Int) = b by omega] at e
  have e2 : Lib.indexByte (⟨#[48, 49, 50, 51, 52, 53, 54, 55, 56, 57, 97, 98, 99, 100, 101, 102]⟩ : ByteArray).data.toList b.toNat.toUInt8 = valD b := e
  rw [e2] at h
  exact h
end Go.Proofs.YteddljmekpnojaaDoor

/- The program's HexBytes. No condition but that the text has at most 2^40 bytes. -/
namespace Go.Proofs.YteddljmekpnojaaDoor
open Go.RowKit
set_option maxRecDepth 100000
set_option linter.unusedVariables false

theorem toList_noX {a b : ByteArray} (h : a ≠ b) : (a.toList == b.toList) = false := by
  rw [beq_eq_false_iff_ne]
  exact fun e => h ((toList_eq_iff a b).mp e)
/-- What two digits each are read as, also where they are none. -/
def pairV (a b : Int) : Int := (16 * valD a + valD b) % 256
def pairsL : List Int → List Int
  | a :: b :: r => pairV a b :: pairsL r
  | _ => []
theorem pairsL_len : ∀ (n : Nat) (xs : List Int), xs.length ≤ n → (pairsL xs).length = xs.length / 2 := by
  intro n
  induction n with
  | zero => intro xs h; have : xs = [] := List.length_eq_zero_iff.mp (by omega)
            subst this; rfl
  | succ n ih =>
    intro xs h
    match xs, h with
    | [], _ => rfl
    | [_], _ => simp [pairsL]
    | a :: b :: r, h =>
      have := ih r (by simp only [List.length_cons] at h; omega)
      simp only [pairsL, List.length_cons, this]; omega
theorem pairsL_at : ∀ (k : Nat) (xs : List Int), 2 * k + 1 < xs.length → (pairsL xs).getD k 0 = pairV (xs.getD (2 * k) 0) (xs.getD (2 * k + 1) 0) := by
  intro k
  induction k with
  | zero =>
    intro xs h
    match xs, h with
    | a :: b :: r, _ => rfl
  | succ k ih =>
    intro xs h
    match xs, h with
    | a :: b :: r, h =>
      have := ih r (by simp only [List.length_cons] at h; omega)
      rw [show 2 * (k + 1) = 2 * k + 1 + 1 by omega]
      simpa [pairsL] using this
theorem pairsL_byte : ∀ (n : Nat) (xs : List Int), xs.length ≤ n → ∀ x ∈ pairsL xs, 0 ≤ x ∧ x ≤ 255 := by
  intro n
  induction n with
  | zero => intro xs h x hx; have : xs = [] := List.length_eq_zero_iff.mp (by omega)
            subst this; cases hx
  | succ n ih =>
    intro xs h x hx
    match xs, h, hx with
    | [], _, hx => cases hx
    | [_], _, hx => cases hx
    | a :: b :: r, h, hx =>
      rcases List.mem_cons.mp hx with rfl | hx
      · unfold pairV; omega
      · exact ih r (by simp only [List.length_cons] at h; omega) x hx
theorem unhex_pairs : ∀ (n : Nat) (xs l : List Int), xs.length ≤ n → unhexF xs = some l → l = pairsL xs := by
  intro n
  induction n with
  | zero => intro xs l h hu; have : xs = [] := List.length_eq_zero_iff.mp (by omega)
            subst this; cases hu; rfl
  | succ n ih =>
    intro xs l h hu
    match xs, h, hu with
    | [], _, hu => cases hu; rfl
    | [_], _, hu => cases hu
    | a :: b :: r, h, hu =>
      rw [unhexF] at hu
      split at hu
      · cases hu
      · rename_i hv
        cases hr : unhexF r with
        | none => rw [hr] at hu; cases hu
        | some l2 =>
          rw [hr, Option.map_some, Option.some.injEq] at hu
          have := ih r l2 (by simp only [List.length_cons] at h; omega) hr
          subst hu
          have va := valD_in a
          have vb := valD_in b
          rw [pairsL, this]
          unfold pairV
          congr 1
          omega
/-- What is read of s is right just where it is written again as s. -/
theorem unhexS_pairs (s : ByteArray) : unhexS s = if hexS (strOf (pairsL (bs s))) = s then (strOf (pairsL (bs s)), true) else (⟨#[]⟩, false) := by
  have hl := bs_len s
  have hpl := pairsL_len _ (bs s) (Nat.le_refl _)
  have hsz : (strOf (pairsL (bs s))).size = s.size / 2 := by rw [strOf_size, hpl, hl]
  split
  · rename_i h
    by_cases hb : 3000 < (strOf (pairsL (bs s))).size
    · rw [hexS, if_pos hb] at h
      exfalso
      have h0 : s.size = 0 := by rw [← h]; rfl
      omega
    · have := unhexS_hexS (s := strOf (pairsL (bs s))) (by omega)
      rw [h] at this
      exact this
  · rename_i h
    by_cases ho : s.size % 2 = 1 ∨ 6000 < s.size
    · rw [unhexS, if_pos ho]
    · cases hu : unhexF (bs s) with
      | none => rw [unhexS, if_neg ho, hu]
      | some l =>
        exfalso
        apply h
        have hp := unhex_pairs _ (bs s) l (Nat.le_refl _) hu
        subst hp
        obtain ⟨e1, e2, e3⟩ := hex_unhex _ (bs s) _ (Nat.le_refl _) hu
        rw [hexS, if_neg (by rw [hsz]; omega), bs_strOf e2, e1, strOf_bs]

/-- A row of noughts, read so far. -/
def readAt (k : Nat) (ps : List Int) : List Int := ps.take k ++ List.replicate (ps.length - k) 0
theorem readAt_len {k : Nat} {ps : List Int} (h : k ≤ ps.length) : (readAt k ps).length = ps.length := by simp [readAt]; omega
theorem readAt_set {k : Nat} {ps : List Int} (h : k < ps.length) : (readAt k ps).set k (ps.getD k 0) = readAt (k + 1) ps := by
  have hl : (ps.take k).length = k := by simp; omega
  have hg : ps.getD k 0 = ps[k] := by simp [List.getD_eq_getElem?_getD, h]
  rw [readAt, List.set_append_right _ _ (by omega), hl, Nat.sub_self, show ps.length - k = (ps.length - (k + 1)) + 1 by omega, List.replicate_succ, List.set_cons_zero, readAt, List.take_succ_eq_append_getElem h, hg, List.append_assoc]
  rfl
theorem blk_of_own {B : Nat} {e : TypeId} {K : IntKind} {w : World} {g n cap : Nat} {xs : List Int} (h : Own B e K w (.slice (some ⟨g, 0, none⟩) n cap) xs) : Blk K e w g xs := by
  rcases h.2 with ⟨e1, _⟩ | ⟨g', cap', cur, e1, hB, hh, hn, hm, hcs, ht⟩
  · cases e1
  · cases e1
    refine ⟨cur, 0, 0, hh, ?_, .inr rfl⟩
    intro j hj
    have e2 := congrArg (fun l : List Value => l[j]?) ht
    simp [hj] at e2
    simpa [hj] using e2

set_option maxHeartbeats 800000 in
set_option maxRecDepth 100000 in
theorem ihexBytes_any (s : ByteArray) (w : World) (hs : s.size ≤ 1099511627776) : Calls Tryd.prog 8 #[.string s] w fun e w' => e = .returned (.tuple #[.string (unhexS s).1, .bool (unhexS s).2]) ∧ Below w.heap.size w w' := by
  have hl := bs_len s
  obtain ⟨i0, hi, hz0, hz1, hz2⟩ := info_parts Tryd.infoB
  have hdv : (s.size : Int).tdiv 2 = ((s.size / 2 : Nat) : Int) := by rw [Int.tdiv_eq_ediv_of_nonneg (by omega)]; omega
  have hpl := pairsL_len _ (bs s) (Nat.le_refl _)
  rw [hl] at hpl
  have hn2 : s.size / 2 ≤ 1099511627776 := by omega
  obtain ⟨n, hn⟩ : ∃ n, n = s.size / 2 := ⟨_, rfl⟩
  rw [← hn] at hdv hpl hn2
  have HN := (show Hid (n = s.size / 2) from hn)
  have HPL := (show Hid ((pairsL (bs s)).length = n) from hpl)
  clear hn hpl
  go_enter Tryd.func8, Tryd.ntmps8
  go_wp2_with (at_make; refine wpList_mkn _ rfl _ _ 22 rfl 5 i0 .u8 Tryd.underlying22 hi hz0 hz1 _ _ n rfl rfl rfl rfl (by rw [hz2]; omega) (by unfold maxLen; omega) ?_; intro w1 o1 b1)
  have K1 := (show Hid (Blk .u8 5 w1 w.heap.size (readAt 0 (pairsL (bs s)))) from (show Blk _ _ _ _ _ by rw [readAt, List.take_zero, List.nil_append, HPL.out, Nat.sub_zero]; exact blk_of_own o1))
  have HB1 := (show Hid (Below w.heap.size w w1) from b1)
  clear o1 b1
  go_loopw [13] (fun i wr => ∃ (k : Nat), k ≤ n ∧ i = .int .i64 k ∧ Hid (Blk .u8 5 wr w.heap.size (readAt k (pairsL (bs s)))) ∧ Hid (Below w.heap.size w wr)) (fun i _ => n - (intOf i).toNat)
  case atStart => exact ⟨0, Nat.zero_le _, rfl, K1.out, HB1.out⟩
  case round =>
    clear K1 HB1
    obtain ⟨k, hks, rfl, HK, HB⟩ := hrel
    by_cases hlt : k < n
    · obtain ⟨m1, hm1⟩ : ∃ m, m = 2 * k := ⟨_, rfl⟩
      obtain ⟨m2, hm2⟩ : ∃ m, m = 2 * k + 1 := ⟨_, rfl⟩
      have hk1 : m1 < s.size := by have := HN.out; omega
      have hk2 : m2 < s.size := by have := HN.out; omega
      have hat1 := bs_at s m1 hk1
      have hat2 := bs_at s m2 hk2
      have hb1 := bs_bound s m1
      have hb2 := bs_bound s m2
      have HP := (show Hid ((pairsL (bs s)).getD k 0 = pairV ((bs s).getD m1 0) ((bs s).getD m2 0)) from (show _ = _ by rw [hm1, hm2]; exact pairsL_at k (bs s) (by rw [hl]; omega)))
      have hk1i : (m1 : Int) < (s.size : Int) := by omega
      have hk2i : (m2 : Int) < (s.size : Int) := by omega
      obtain ⟨ya, hya⟩ : ∃ y, y = (bs s).getD m1 0 := ⟨_, rfl⟩
      obtain ⟨yb, hyb⟩ : ∃ y, y = (bs s).getD m2 0 := ⟨_, rfl⟩
      rw [← hya] at hat1 hb1 HP
      rw [← hyb] at hat2 hb2 HP
      clear hya hyb
      have C1 := (show Hid (∀ W, Calls Tryd.prog 19 #[.string ⟨#[48, 49, 50, 51, 52, 53, 54, 55, 56, 57, 97, 98, 99, 100, 101, 102]⟩, .int .u8 ya] W fun e w' => e = .returned (.int .i64 (valD ya)) ∧ w' = W) from fun W => indexByte_any ya W hb1.1 hb1.2)
      have C2 := (show Hid (∀ W, Calls Tryd.prog 19 #[.string ⟨#[48, 49, 50, 51, 52, 53, 54, 55, 56, 57, 97, 98, 99, 100, 101, 102]⟩, .int .u8 yb] W fun e w' => e = .returned (.int .i64 (valD yb)) ∧ w' = W) from fun W => indexByte_any yb W hb2.1 hb2.2)
      have hv1 := valD_in ya
      have hv2 := valD_in yb
      unfold pairV at HP
      obtain ⟨v1, hv1e⟩ : ∃ z, z = valD ya := ⟨_, rfl⟩
      obtain ⟨v2, hv2e⟩ : ∃ z, z = valD yb := ⟨_, rfl⟩
      rw [← hv1e] at C1 hv1 HP
      rw [← hv2e] at C2 hv2 HP
      have hw1 : IntKind.i64.wrap (2 * (k : Int)) = (m1 : Int) := by rw [IntKind.wrap_i64]; omega
      have hw2 : IntKind.i64.wrap ((m1 : Int) + 1) = (m2 : Int) := by rw [IntKind.wrap_i64]; omega
      have hw3 : IntKind.i64.wrap (16 * v1) = 16 * v1 := by rw [IntKind.wrap_i64]; omega
      have hw4 : IntKind.i64.wrap (16 * v1 + v2) = 16 * v1 + v2 := by rw [IntKind.wrap_i64]; omega
      clear hv1e hv2e hm1 hm2
      go_wp2_with fail
      refine region_tail 17 (by kernel_rfl) (by kernel_rfl) ?_
      intro x1 K1 hX1 hK1
      have ne := One.any x1
      simp only [List.take_succ_cons, List.take_zero, List.drop_succ_cons, List.drop_zero] at hK1 ⊢
      repeat (go_big_quiet_step (first | (go_at_call 19; with_reducible exact quiet_one (C1.out _)) | (go_at_call 19; with_reducible exact quiet_one (C2.out _))))
      refine wpQuiet_nil ?_
      refine hK1.out _ ?_
      have KX := (show Hid (Blk .u8 5 x1 w.heap.size (readAt k (pairsL (bs s)))) from by rw [hX1.out]; exact HK.out.below (below_drewN 1))
      have BX := (show Hid (Below w.heap.size w x1) from by rw [hX1.out]; exact HB.out.trans (below_drewN 1))
      clear hK1 ne C1 C2 hX1 HK HB
      have hpn : (readAt k (pairsL (bs s))).length = n := by rw [readAt_len (by rw [HPL.out]; omega)]; exact HPL.out
      have f2 := KX.out.frozen k (by rw [hpn]; exact hlt)
      have c2 := KX.out.cell k (by rw [hpn]; exact hlt)
      have HS := (show Hid (Blk .u8 5 (x1.setCell ⟨w.heap.size, k, none⟩ (.int .u8 ((16 * v1 + v2) % 256))) w.heap.size (readAt (k + 1) (pairsL (bs s)))) from (show Blk _ _ _ _ _ by
        have h := KX.out.set k (by rw [hpn]; exact hlt) ((16 * v1 + v2) % 256)
        rw [← HP.out, readAt_set (by rw [HPL.out]; exact hlt), HP.out] at h
        exact h))
      have BS := (show Hid (Below w.heap.size w (x1.setCell ⟨w.heap.size, k, none⟩ (.int .u8 ((16 * v1 + v2) % 256)))) from BX.out.setCell (Nat.le_refl _) _)
      clear hpn KX BX HP
      go_wp2
      go_roundw
      case rel => exact ⟨k + 1, by omega, by go_num, HS.out, BS.out⟩
      case measure => simp [intOf]; omega
    · obtain rfl : k = n := by omega
      have hra : readAt k (pairsL (bs s)) = pairsL (bs s) := by rw [readAt, HPL.out, Nat.sub_self, ← HPL.out, List.take_length, List.replicate_zero, List.append_nil]
      rw [hra] at HK
      have hcv := conv_sl (HK.out.sl (n := k) (cap := k) HPL.out.symm (by rw [HPL.out]; omega) (by unfold maxLen; omega))
      have HU := (show Hid _ from unhexS_pairs s)
      have hts : (strOf (pairsL (bs s))).size ≤ 1099511627776 := by rw [strOf_size, HPL.out]; exact hn2
      obtain ⟨tx, htx⟩ : ∃ t, t = strOf (pairsL (bs s)) := ⟨_, rfl⟩
      rw [← htx] at hcv HU hts
      clear htx hra HK HPL
      go_wp2_with fail
      go_at_call 7
      refine (ihexText_any tx _ hts).mono ?_
      rintro e w9 ⟨rfl, b9⟩
      have B9 := (show Hid (Below w.heap.size w w9) from HB.out.trans (b9.mono HB.out.size))
      clear b9
      by_cases hq : hexS tx = s
      · rw [if_pos hq] at HU
        go_wp2
        refine bodyPost_ret (results_tmp2 rfl _ _ _) rfl ?_
        exact ⟨by rw [HU.out]; rfl, B9.out⟩
      · rw [if_neg hq] at HU
        have hqb := toList_noX hq
        go_wp2
        refine bodyPost_ret (results_tmp2 rfl _ _ _) rfl ?_
        exact ⟨by rw [HU.out]; rfl, B9.out⟩
end Go.Proofs.YteddljmekpnojaaDoor
