/- The specification's GetNum, at every list of bytes. -/
import Derived.Test.YtokkigfjabbdaaaGreatDoorRows
import Derived.Test.YtokkigfjabbdaaaGreatDoorU0
import Derived.Test.YtokkigfjabbdaaaGreatDoorU12
import Derived.OwnWalk
import Derived.Test.YtokkigfjabbdaaaGreatDoorU6
import Derived.Test.YtokkigfjabbdaaaGreatDoorU1
import Derived.Test.YtokkigfjabbdaaaGreatDoorU7
namespace Go.Proofs.YtokkigfjabbdaaaGreatDoor
open Go.RowKit
set_option maxRecDepth 100000
set_option linter.unusedVariables false

/-- What GetNum answers, of what is read at a place. -/
def numVal (i : Int) : Option (Int × Nat) → Value
  | some (y, n) => .tuple #[.int .i64 y, .int .i64 (i + n), .bool true]
  | none => .tuple #[.int .i64 0, .int .i64 0, .bool false]

theorem mul_eq7 {k : Nat} {acc d : Int} (hk : k ≤ 8) (h0 : 0 ≤ acc) (h1 : acc < 128 ^ k) (d0 : 0 ≤ d) (d1 : d < 128) : wrap64 (acc + wrap64 (d * 128 ^ k)) = acc + d * 128 ^ k := by
  have hs := acc_step (k := k) h0 h1 d0 d1
  have hp := pow_le7 hk
  have hq := pow_pos7 k
  rw [Int.pow_succ] at hs
  have e1 : 0 ≤ d * 128 ^ k := Int.mul_nonneg d0 (by omega)
  generalize d * 128 ^ k = q at *
  generalize (128 : Int) ^ k = p at *
  have w1 : wrap64 q = q := by unfold wrap64; omega
  rw [w1]
  unfold wrap64
  omega

theorem tup3 {a a' b b' : Int} {c : Bool} (ha : a = a') (hb : b = b') : Ending.returned (.tuple #[.int .i64 a, .int .i64 b, .bool c]) = .returned (.tuple #[.int .i64 a', .int .i64 b', .bool c]) := by rw [ha, hb]

theorem sgetNum_any {v : Value} {xs : List Int} {i : Int} {w : World} (h : Sl .u8 w v xs) (hb : ∀ x ∈ xs, 0 ≤ x ∧ x ≤ 255) (hn : xs.length ≤ 1099511627776) :
    Calls Tryz.prog 77 #[v, .int .i64 i] w fun e w' => e = .returned (numVal i (rdI xs i)) ∧ w' = w := by
  obtain ⟨a, ca, rfl, _, _, _, ha⟩ := h
  have HB : Hid (∀ x ∈ xs, 0 ≤ x ∧ x ≤ 255) := hb
  clear hb
  by_cases hi : i < 0
  · rw [rdI_neg hi]
    go_enter Tryz.func77, Tryz.ntmps77
    go_wp2
    go_ret3
    exact ⟨rfl, rfl⟩
  · by_cases hl : (xs.length : Int) ≤ i
    · rw [rdI_out hl]
      go_enter Tryz.func77, Tryz.ntmps77
      go_wp2
      go_ret3
      exact ⟨rfl, rfl⟩
    · obtain ⟨k0, rfl⟩ : ∃ k : Nat, i = k := ⟨i.toNat, by omega⟩
      rw [rdI_nat]
      have hk0 : k0 < xs.length := by omega
      obtain ⟨R, hR⟩ : ∃ R, R = rdA 9 0 0 (xs.drop k0) := ⟨_, rfl⟩
      rw [← hR]
      have HR := (show Hid (_ = _) from hR)
      clear hR
      go_enter Tryz.func77, Tryz.ntmps77
      go_wp2
      go_loop [7, 8, 9] (fun x u s => ∃ (k : Nat) (acc : Int), k ≤ 9 ∧ k0 + k ≤ xs.length ∧ s = .int .i64 k ∧ x = .int .i64 acc ∧ (∃ p : Int, u = .int .i64 p ∧ Hid (k ≤ 8 → p = 128 ^ k)) ∧ Hid (0 ≤ acc ∧ acc < 128 ^ k) ∧ Hid (rdA (9 - k) k acc (xs.drop (k0 + k)) = R)) (fun _ _ s => 9 - (intOf s).toNat)
      case atStart => exact ⟨0, 0, by omega, by omega, rfl, rfl, ⟨1, rfl, fun _ => by simp⟩, ⟨by omega, by simp⟩, HR.out.symm⟩
      case round =>
        clear HR
        obtain ⟨k, acc, hk, hkl, rfl, rfl, ⟨p, rfl, HP⟩, HA, HEQ⟩ := hrel
        by_cases hk9 : k < 9
        · by_cases hin : k0 + k < xs.length
          · obtain ⟨b1, o1, rfl, cx⟩ := ha (k0 + k) hin
            obtain ⟨d, hd⟩ : ∃ d, d = xs.getD (k0 + k) 0 := ⟨_, rfl⟩
            rw [← hd] at cx
            have hdb : 0 ≤ d ∧ d ≤ 255 := by
              rw [hd, List.getD_eq_getElem?_getD, List.getElem?_eq_getElem hin]
              exact HB.out _ (List.getElem_mem hin)
            have hdrop : xs.drop (k0 + k) = d :: xs.drop (k0 + k + 1) := by
              rw [hd, List.drop_eq_getElem_cons hin, List.getD_eq_getElem?_getD, List.getElem?_eq_getElem hin]
              rfl
            have HD := (show Hid (_ = _) from hdrop)
            clear hd hdrop ha
            have hin' : (k0 : Int) + k < xs.length := by omega
            by_cases hlt : d < 128
            · have hdm : d % 128 = d := by omega
              by_cases hbad : d = 0 ∧ 0 < k
              · obtain ⟨rfl, hkp⟩ := hbad
                have hkp' : (0 : Int) < k := by omega
                go_wp2
                go_ret3
                have e : R = none := by
                  rw [← HEQ.out, HD.out]
                  obtain ⟨m, hm⟩ : ∃ m, 9 - k = m + 1 := ⟨9 - k - 1, by omega⟩
                  rw [hm, rdA_bad (by omega) ⟨rfl, hkp⟩]
                rw [e]
                exact ⟨rfl, rfl⟩
              · have e : R = some (acc + d * 128 ^ k, k + 1) := by
                  rw [← HEQ.out, HD.out]
                  obtain ⟨m, hm⟩ : ∃ m, 9 - k = m + 1 := ⟨9 - k - 1, by omega⟩
                  rw [hm, rdA_end hlt hbad]
                have E := (show Hid (_ = _) from e)
                clear e
                by_cases hd0 : d = 0
                · have hkz : k = 0 := by omega
                  have hkn : ¬ ((0 : Int) < k) := by omega
                  have hkn' : decide ((0 : Int) < k) = false := by simp; omega
                  have HK := (show Hid (k = 0) from hkz)
                  subst hd0
                  clear hkz
                  go_wp2
                  go_ret3
                  rw [E.out]
                  have ha := HA.out
                  rw [HK.out] at ha
                  have ha0 : acc = 0 := by have := ha.2; simp at this; omega
                  refine ⟨tup3 ?_ (by omega), rfl⟩
                  rw [ha0]
                  simp [wrap64]
                · have e1 := mul_eq7 (k := k) (d := d) (by omega) HA.out.1 HA.out.2 hdb.1 hlt
                  rw [← HP.out (by omega)] at e1
                  have E1 := (show Hid (_ = _) from e1)
                  clear e1
                  go_wp2
                  go_ret3
                  rw [E.out]
                  exact ⟨tup3 (by rw [E1.out, HP.out (by omega)]) (by omega), rfl⟩
            · have e1 := mul_eq7 (k := k) (d := d % 128) (by omega) HA.out.1 HA.out.2 (by omega) (by omega)
              have e2 := acc_step (k := k) (d := d % 128) HA.out.1 HA.out.2 (by omega) (by omega)
              rw [← HP.out (by omega)] at e1
              have E1 := (show Hid (_ = _) from e1)
              have E2 := (show Hid (_ ∧ _) from e2)
              clear e1 e2
              go_wp2
              go_round
              case rel =>
                have hp := HP.out (by omega)
                refine ⟨k + 1, _, by omega, by omega, by go_num, rfl, ⟨_, rfl, fun h8 => ?_⟩, ?_, ?_⟩
                · have h7 := pow_le7 (k := k + 1) h8
                  have h6 := pow_pos7 (k + 1)
                  rw [hp, ← Int.pow_succ]
                  unfold wrap64
                  omega
                · rw [E1.out, hp]
                  exact E2.out
                · show rdA (9 - (k + 1)) (k + 1) _ _ = R
                  rw [E1.out, hp, ← HEQ.out, HD.out, ← Nat.add_assoc]
                  obtain ⟨m, hm⟩ : ∃ m, 9 - k = m + 1 := ⟨9 - k - 1, by omega⟩
                  have hm' : 9 - (k + 1) = m := by omega
                  rw [hm, hm', rdA_on (by omega)]
              case measure => simp [intOf]; omega
          · have hke : k0 + k = xs.length := by omega
            have hke' : (k0 : Int) + k = xs.length := by omega
            clear ha
            go_wp2
            go_ret3
            have e : R = none := by rw [← HEQ.out, List.drop_eq_nil_of_le (by omega), rdA_nil]
            rw [e]
            exact ⟨rfl, rfl⟩
        · have hke : k = 9 := by omega
          subst hke
          clear ha
          go_wp2
          go_ret3
          have e : R = none := by rw [← HEQ.out]; rfl
          rw [e]
          exact ⟨rfl, rfl⟩
end Go.Proofs.YtokkigfjabbdaaaGreatDoor

/- The specification's GetText, at every list of bytes. -/
namespace Go.Proofs.YtokkigfjabbdaaaGreatDoor
open Go.RowKit
set_option maxRecDepth 100000
set_option linter.unusedVariables false

/-- What GetText finds at a place: the bytes of the text, and the place behind it. -/
def rdT (xs : List Int) (i : Int) : Option (List Int × Int) :=
  match rdI xs i with
  | some (y, n) => if y ≤ xs.length - (i + n) then some ((xs.drop (i + n).toNat).take y.toNat, i + n + y) else none
  | none => none

/-- What GetText answers. -/
def textVal : Option (List Int × Int) → Value
  | some (t, j) => .tuple #[.string (strOf t), .int .i64 j, .bool true]
  | none => .tuple #[.string ByteArray.empty, .int .i64 0, .bool false]

theorem rdT_none {xs : List Int} {i : Int} (h : rdI xs i = none) : rdT xs i = none := by simp only [rdT, h]
theorem rdT_fit {xs : List Int} {i : Int} {k n p : Nat} (h : rdI xs i = some ((k : Int), n)) (hp : i + n = p) (hk : (k : Int) ≤ xs.length - (p : Int)) : rdT xs i = some ((xs.drop p).take k, (p : Int) + (k : Int)) := by
  simp only [rdT, h, hp, if_pos hk, Int.toNat_natCast]
theorem rdT_over {xs : List Int} {i : Int} {k n p : Nat} (h : rdI xs i = some ((k : Int), n)) (hp : i + n = p) (hk : ¬ (k : Int) ≤ xs.length - (p : Int)) : rdT xs i = none := by
  simp only [rdT, h, hp, if_neg hk]
/-- What is read of a number, in natural numbers. -/
theorem rdI_nats {xs : List Int} {i y : Int} {n : Nat} (h : rdI xs i = some (y, n)) (hb : ∀ x ∈ xs, 0 ≤ x ∧ x ≤ 255) :
    ∃ k p : Nat, y = k ∧ i + n = p ∧ p ≤ xs.length ∧ k ≤ 9223372036854775807 ∧ numVal i (rdI xs i) = .tuple #[.int .i64 k, .int .i64 p, .bool true] := by
  have hs := rdI_some h hb
  refine ⟨y.toNat, (i + n).toNat, by omega, by omega, by omega, by omega, ?_⟩
  have e1 : (y.toNat : Int) = y := by omega
  have e2 : ((i + n).toNat : Int) = i + n := by omega
  rw [h, e1, e2]
  rfl

/-- A part of a slice. -/
theorem sub_sl {K : IntKind} {w : World} {a : Option Addr} {xs : List Int} {ca p k : Nat} (h : Sl K w (.slice a xs.length ca) xs) (hk : p + k ≤ xs.length) (hc : ¬ ca = p) : Sl K w (.slice (Option.map (fun x => x.add p) a) k (ca - p)) ((xs.drop p).take k) := by
  obtain ⟨a', ca', e, h1, h2, h3, hcell⟩ := h
  cases e
  have hl : ((xs.drop p).take k).length = k := by simp; omega
  refine ⟨_, ca - p, by rw [hl], by rw [hl]; omega, by omega, ?_, fun j hj => ?_⟩
  · intro e
    have : a = none := by cases a <;> simp_all
    have := h3 this
    omega
  · rw [hl] at hj
    obtain ⟨b, off, rfl, c⟩ := hcell (p + j) (by omega)
    have ead : (⟨b, off, none⟩ : Addr).add p = ⟨b, off + p, none⟩ := by
      by_cases h0 : p = 0
      · subst h0; simp [Addr.add]
      · simp [Addr.add, h0]
    refine ⟨b, off + p, by simp [ead], ?_⟩
    have e1 : ((xs.drop p).take k).getD j 0 = xs.getD (p + j) 0 := by
      simp [List.getD_eq_getElem?_getD, List.getElem?_drop, hj]
    rw [e1, Nat.add_assoc]
    exact c
theorem sub_sl0 {K : IntKind} {w : World} (a : Option Addr) : Sl K w (.slice a 0 0) [] := ⟨a, 0, rfl, Nat.le_refl _, by unfold maxLen; omega, fun _ => rfl, fun j hj => absurd hj (Nat.not_lt_zero _)⟩

theorem sgetText_any {v : Value} {xs : List Int} {i : Int} {w : World} (h : Sl .u8 w v xs) (hb : ∀ x ∈ xs, 0 ≤ x ∧ x ≤ 255) (hn : xs.length ≤ 1099511627776) :
    Calls Tryz.prog 79 #[v, .int .i64 i] w fun e w' => e = .returned (textVal (rdT xs i)) ∧ w' = w := by
  have S1 := fun (w : World) (h : Sl .u8 w v xs) => sgetNum_any (i := i) h hb hn
  have h0 := h
  rcases hR : rdI xs i with _ | ⟨y, n⟩
  · rw [rdT_none hR]
    have e : numVal i (rdI xs i) = .tuple #[.int .i64 0, .int .i64 0, .bool false] := by rw [hR]; rfl
    rw [e] at S1
    have HS := (show Hid (∀ _ _, _) from S1)
    clear S1 hR e
    obtain ⟨a, ca, rfl, _, _, _, ha⟩ := h
    go_enter Tryz.func79, Tryz.ntmps79
    go_wp2_with fail
    go_at_call 77
    refine (HS.out _ h0).mono ?_
    rintro e w2 ⟨rfl, rfl⟩
    go_wp2
    go_ret3
    exact ⟨rfl, rfl⟩
  · obtain ⟨k, p, rfl, hp, hpl, hkm, e⟩ := rdI_nats hR hb
    rw [e] at S1
    have HS := (show Hid (∀ _ _, _) from S1)
    obtain ⟨a, ca, rfl, _, _, _, ha⟩ := h
    by_cases hk : (k : Int) ≤ xs.length - (p : Int)
    · rw [rdT_fit hR hp hk]
      clear S1 hR e hp
      go_enter Tryz.func79, Tryz.ntmps79
      go_wp2_with fail
      go_at_call 77
      refine (HS.out _ h0).mono ?_
      rintro e w2 ⟨rfl, rfl⟩
      have hk' : ¬ ((xs.length : Int) - (p : Int) < k) := by omega
      by_cases hca : ca = p
      · subst hca
        obtain rfl : k = 0 := by omega
        have cv := conv_sl (sub_sl0 (K := .u8) (w := w2) a)
        go_wp2
        go_ret3
        simp
        rfl
      · have cv := conv_sl (sub_sl h0 (p := p) (k := k) (by omega) hca)
        go_wp2
        go_ret3
        exact ⟨rfl, rfl⟩
    · rw [rdT_over hR hp hk]
      clear S1 hR e hp
      go_enter Tryz.func79, Tryz.ntmps79
      go_wp2_with fail
      go_at_call 77
      refine (HS.out _ h0).mono ?_
      rintro e w2 ⟨rfl, rfl⟩
      go_wp2
      go_ret3
      exact ⟨rfl, rfl⟩
end Go.Proofs.YtokkigfjabbdaaaGreatDoor

/- 'append(v, s...)' where v is the call's own and s a string. No condition. -/
namespace Go.Proofs.YtokkigfjabbdaaaGreatDoor
open Go.RowKit
set_option maxRecDepth 100000
set_option linter.unusedVariables false

theorem bs_cells (s : ByteArray) : (bs s).map (Value.int .u8) = (s.data.map (fun b => Value.int .u8 b.toNat)).toList := by
  simp [bs, Function.comp_def]

theorem first_str {P : Program} (w : World) (s : ByteArray) : (Builtin.firstCells 1 s.size (.string s)).run P w = .ok ((bs s).map (Value.int .u8)).toArray w := by
  rw [bs_cells]
  simp [Builtin.firstCells]
  apply Array.ext'
  simp

theorem run_append_str {P : Program} (w : World) (base : Nat) (t u ty e : TypeId) (i : TypeInfo) (z : Value) (ht : P.underlying t = some (.slice e)) (hu : P.underlying u = some .string)
    (hi : P.info? e = some i) (hz : i.zero = some z) (hsize : i.size = 1) (hby : i.bytes = 1) (hzs : z.cells.size = 1) (v : Value) (xs : List Int) (hown : Own base e .u8 w v xs) (hne : xs ≠ [])
    (s : ByteArray) (hb : xs.length + s.size ≤ 140737488355328) (hbase : base ≤ w.heap.size) :
    ∃ v' w', (Builtin.append_ #[t, u] ty #[v, .string s]).run P w = .ok v' w' ∧ Own base e .u8 w' v' (xs ++ bs s) ∧ w.grownBy w' v.ownBlock := by
  have h63 : xs.length + s.size ≤ maxLen := by unfold maxLen; omega
  obtain ⟨ys, hys⟩ : ∃ ys, ys = xs.map (Value.int .u8) := ⟨_, rfl⟩
  obtain ⟨news, hnw⟩ : ∃ ns, ns = (bs s).map (Value.int .u8) := ⟨_, rfl⟩
  have hnl : news.length = s.size := by rw [hnw, List.length_map, bs_len]
  have hyl : ys.length = xs.length := by rw [hys, List.length_map]
  have hpos : 0 < xs.length := List.length_pos_iff.mpr hne
  have h1 : ∀ u ∈ news, u.oneCell' = true := by rw [hnw]; exact ints_oneCell .u8 (bs s)
  have hlen : (ys ++ news).length = xs.length + s.size := by rw [List.length_append, hyl, hnl]
  have hxl : (xs ++ bs s).length = xs.length + s.size := by rw [List.length_append, bs_len]
  have hmap : (xs ++ bs s).map (Value.int .u8) = ys ++ news := by rw [List.map_append, ← hys, ← hnw]
  have hown' := hown
  unfold Own at hown ⊢
  rw [← hys] at hown
  rw [hmap, hxl]
  rcases hown.2 with ⟨rfl, h0⟩ | ⟨g, cap, cur, rfl, hbg, hg, hnc, hcm, hcs, htake⟩
  · omega
  · simp only [Nat.mul_one] at hcs htake
    by_cases hroom : xs.length + s.size ≤ cap
    · have hf := first_str (P := P) w s
      rw [← hnw] at hf
      have hfit : xs.length * 1 + news.length ≤ cur.size := by rw [hnl, hcs]; omega
      have hst := run_storeCells_at P g (xs.length * 1) e news 0 cur w hg (by simpa using hfit) h1
      simp only [Nat.add_zero, Nat.mul_one] at hst
      have hr : (Builtin.append_ #[t, u] ty #[.slice (some ⟨g, 0, none⟩) xs.length cap, .string s]).run P w = .ok (.slice (some ⟨g, 0, none⟩) (xs.length + s.size) cap) (w.setRow g (cur.toList.take xs.length ++ news ++ cur.toList.drop (xs.length + news.length)).toArray) := by
        simp [Builtin.append_, run_underlying ht, run_underlying hu, sizeOf, typeInfo, hi, hsize, Builtin.lenOf, hroom, hf, Addr.add_lit, hst]
      refine ⟨_, _, hr, ⟨by rw [hlen, Nat.mul_one], .inr ⟨g, cap, _, rfl, hbg, setRow_heap w g cur _ e _ hg, hroom, hcm, ?_, ?_⟩⟩, ⟨rfl, rfl, rfl, by simp, fun k _ hk => setRow_other w g k _ (fun e => hk (by simp [Value.ownBlock, e]))⟩⟩
      · simp only [List.size_toArray, List.length_append, List.length_take, List.length_drop, Array.length_toList]
        omega
      · simp only [Nat.mul_one]
        rw [htake, ← hlen]
        exact List.take_left
    · have holds : ∀ j u, ys[j]? = some u → w.cell? ((⟨g, 0, none⟩ : Addr).add j) = some u := hown.cells (g := g) rfl
      have hfo := run_firstCells_some (P := P) w.drew 1 xs.length ⟨g, 0, none⟩ xs.length cap ys (by rw [hyl, Nat.mul_one]) (by simpa using holds)
      have hf := first_str (P := P) w.drew s
      rw [← hnw] at hf
      have h63' : ¬ (9223372036854775807 < ((xs.length : Int) + (s.size : Int))) := by unfold maxLen at h63; omega
      have hfits := growslice_fits (need := xs.length + s.size) (old := cap) (bytes := 1) (by omega) (by omega)
      have h48' : ¬ (281474976710656 < Builtin.nextslicecap (xs.length + s.size) cap) := by omega
      have hge := grownCap_ge w (xs.length + s.size) cap e
      have hcm' : grownCap w (xs.length + s.size) cap e ≤ maxLen := grownCap_le_maxLen w (xs.length + s.size) cap e h63
      have hr : (Builtin.append_ #[t, u] ty #[.slice (some ⟨g, 0, none⟩) xs.length cap, .string s]).run P w = .ok (.slice (some ⟨w.heap.size, 0, none⟩) (xs.length + s.size) (grownCap w (xs.length + s.size) cap e))
          (w.drew.alloc (.cells (ys.toArray ++ news.toArray ++ Builtin.zeroCells z.cells (grownCap w (xs.length + s.size) cap e - (xs.length + s.size))) e)) := by
        simp [Builtin.append_, run_underlying ht, run_underlying hu, sizeOf, typeInfo, zeroValue, hi, hz, hsize, hby, Builtin.lenOf, hroom, h63', h48', Question.forced, hf, hfo, newRow, grownCap]
        congr 2
        apply Array.ext'
        simp [List.append_assoc]
      refine ⟨_, _, hr, ⟨by rw [hlen, Nat.mul_one], .inr ⟨w.heap.size, _, _, rfl, hbase, heap_alloc_new w.drew _, hge, hcm', ?_, ?_⟩⟩, ⟨rfl, rfl, rfl, by simp, fun k hk _ => Below.heap_alloc w.drew _ k hk⟩⟩
      · simp only [Array.size_append, List.size_toArray, size_zeroCells, hzs, hyl, hnl, Nat.mul_one]
        omega
      · simp only [Array.toList_append, List.append_assoc, Nat.mul_one]
        rw [← List.append_assoc, ← hlen]
        exact List.take_left

theorem wpList_app_str {P : Program} (w : World) {ops : Array Oper} {rest : List Oper} {o : Oper} {a : Act} {Q : Exit → Act → World → Prop} (hgd : o.guard = none)
    (s x : Operand) (t u : TypeId) (ho : o.op = Op.call { callee := Callee.builtin Builtin.append, args := #[s, x], argTypes := #[t, u] }) (B : Nat) (e : TypeId) (i : TypeInfo)
    (z : Value) (ht : P.underlying t = some (TypeDesc.slice e)) (hu : P.underlying u = some .string) (hi : P.info? e = some i) (hz : i.zero = some z) (hsize : i.size = 1) (hby : i.bytes = 1)
    (hzs : z.cells.size = 1) (v : Value) (st : ByteArray) (xs : List Int) (hs : a.eval s = v) (hx : a.eval x = .string st) (hown : Own B e .u8 w v xs) (hne : xs ≠ [])
    (hb : xs.length + st.size ≤ 140737488355328) (hbase : B ≤ w.heap.size)
    (h : ∀ (v' : Value) (w' : World), Own B e .u8 w' v' (xs ++ bs st) → w.grownBy w' v.ownBlock → wpList P ops Q rest (a.put o.dst v') w') :
    wpList P ops Q (o :: rest) a w := by
  obtain ⟨v', w', hr, h2, h3⟩ := run_append_str (P := P) w B t u o.type e i z ht hu hi hz hsize hby hzs v xs hown hne st hb hbase
  refine wpList_plain hgd fun _ hK => ?_
  unfold Oper.wp execOp
  simp only [ho, resolve, invoke, builtin, Sem.run_bind, Sem.run_pure, Result.andThen_ok, List.map_toArray, List.map_cons, List.map_nil, hs, hx, hr]
  exact hK _ _ (h v' w' h2 h3)
end Go.Proofs.YtokkigfjabbdaaaGreatDoor

/- Contracts of PutNum, the program's and the specification's, at every number. -/
namespace Go.Proofs.YtokkigfjabbdaaaGreatDoor
open Go.RowKit
set_option maxRecDepth 100000
set_option linter.unusedVariables false

theorem own_nil (B : Nat) (e : TypeId) (K : IntKind) (w : World) : Own B e K w (.slice none 0 0) [] := ⟨rfl, .inl ⟨rfl, rfl⟩⟩
theorem sl_byte1 (w : World) (t : TypeId) (x : Int) : Sl .u8 (w.alloc (.cells #[.int .u8 x] t)) (.slice (some ⟨w.heap.size, 0, none⟩) 1 1) [x] :=
  Own.sl (World.ownsRow_lit w #[.int .u8 x] 1 (Nat.le_refl _) (by unfold maxLen; omega) rfl : Own w.heap.size t .u8 _ _ [x])

theorem inum_any (x : Int) (w : World) (hx : x ≤ 9223372036854775807) :
    Calls Tryz.prog 144 #[.int .i64 x] w fun e w' => ∃ v, e = .returned v ∧ Own w.heap.size 5 .u8 w' v (form x) ∧ Below w.heap.size w w' := by
  unfold form
  by_cases h0 : x < 0
  · rw [if_pos h0]
    go_enter Tryz.func144, Tryz.ntmps144
    go_wp2
    go_ret
    exact ⟨_, rfl, own_nil _ _ _ _, Below.refl _ _⟩
  · rw [if_neg h0]
    have hb := bd_of (by omega) hx
    obtain ⟨i0, hi, hz0, hz1, hz2⟩ := info_parts Tryz.infoB
    have hown0 := own_empty 5 .u8 w
    have hbel0 : Below w.heap.size w (w.alloc (.cells #[] 5)) := (Below.refl _ _).alloc (Nat.le_refl _) _
    go_enter Tryz.func144, Tryz.ntmps144
    go_wp2
    go_loopw [0, 3] (fun y v wr => ∃ (z : Int) (m : Nat) (pre : List Int), y = .int .i64 z ∧ z ≤ x ∧ Bd m z ∧ pre.length + m = 8 ∧ pre ++ nf m z = nf 8 x ∧ Own w.heap.size 5 .u8 wr v pre ∧ Below w.heap.size w wr) (fun y _ _ => (intOf y).toNat)
    case atStart => exact ⟨x, 8, [], rfl, Int.le_refl _, hb, rfl, rfl, hown0, hbel0⟩
    case round =>
      clear hown0 hbel0 hb
      obtain ⟨z, m, pre, rfl, hzx, hb, hl, he, hown, hbel⟩ := hrel
      have hz0' := hb.1
      have hsz := hbel.size
      by_cases hlt : z < 128
      · rw [nf_lt hlt] at he
        have ez : z % 256 = z := by omega
        have hone := sl_byte1 (w := wr) 5 z
        go_wp2_with (at_builtin; refine wpList_app _ rfl _ _ 58 rfl w.heap.size 5 i0 (.int .u8 0) 1 Tryz.underlying58 hi hz0 hz1 hz2 rfl .u8 _ _ pre [z] rfl rfl (hown.alloc _) hone (by simp; omega) (by unfold maxLen; simp; omega) (by simp; omega) ?_; intro v' w3 o3 g3)
        go_ret
        rw [he] at o3
        exact ⟨_, rfl, o3, (hbel.alloc (by omega) _).grown g3 (by simp; omega) hown.grownAt⟩
      · obtain ⟨n, rfl, hb'⟩ := hb.next (by omega)
        rw [nf_ge (by omega)] at he
        have ez : (128 + z % 128) % 256 = 128 + z % 128 := by omega
        have hone := sl_byte1 (w := wr) 5 (128 + z % 128)
        go_wp2_with (at_builtin; refine wpList_app _ rfl _ _ 58 rfl w.heap.size 5 i0 (.int .u8 0) 1 Tryz.underlying58 hi hz0 hz1 hz2 rfl .u8 _ _ pre [128 + z % 128] rfl rfl (hown.alloc _) hone (by simp; omega) (by unfold maxLen; simp; omega) (by simp; omega) ?_; intro v' w3 o3 g3)
        go_roundw
        case rel => exact ⟨z / 128, n, pre ++ [128 + z % 128], by go_num, by omega, hb', by simp; omega, by rw [List.append_assoc]; exact he, o3, (hbel.alloc (by omega) _).grown g3 (by simp; omega) hown.grownAt⟩
        case measure => simp [intOf]; omega

theorem snum_any (x : Int) (w : World) (hx : x ≤ 9223372036854775807) :
    Calls Tryz.prog 92 #[.int .i64 x] w fun e w' => ∃ v, e = .returned v ∧ Own w.heap.size 5 .u8 w' v (form x) ∧ Below w.heap.size w w' := by
  unfold form
  by_cases h0 : x < 0
  · rw [if_pos h0]
    go_enter Tryz.func92, Tryz.ntmps92
    go_wp2
    go_ret
    exact ⟨_, rfl, own_empty _ _ _, (Below.refl _ _).alloc (Nat.le_refl _) _⟩
  · rw [if_neg h0]
    have hb := bd_of (by omega) hx
    obtain ⟨i0, hi, hz0, hz1, hz2⟩ := info_parts Tryz.infoB
    have hown0 := own_empty 5 .u8 w
    have hbel0 : Below w.heap.size w (w.alloc (.cells #[] 5)) := (Below.refl _ _).alloc (Nat.le_refl _) _
    go_enter Tryz.func92, Tryz.ntmps92
    go_wp2
    go_loopw [0, 3] (fun y v wr => ∃ (z : Int) (m : Nat) (pre : List Int), y = .int .i64 z ∧ z ≤ x ∧ Bd m z ∧ pre.length + m = 8 ∧ pre ++ nf m z = nf 8 x ∧ Own w.heap.size 5 .u8 wr v pre ∧ Below w.heap.size w wr) (fun y _ _ => (intOf y).toNat)
    case atStart => exact ⟨x, 8, [], rfl, Int.le_refl _, hb, rfl, rfl, hown0, hbel0⟩
    case round =>
      clear hown0 hbel0 hb
      obtain ⟨z, m, pre, rfl, hzx, hb, hl, he, hown, hbel⟩ := hrel
      have hz0' := hb.1
      have hsz := hbel.size
      by_cases hlt : z < 128
      · rw [nf_lt hlt] at he
        have ez : z % 256 = z := by omega
        have hone := sl_byte1 (w := wr) 5 z
        go_wp2_with (at_builtin; refine wpList_app _ rfl _ _ 58 rfl w.heap.size 5 i0 (.int .u8 0) 1 Tryz.underlying58 hi hz0 hz1 hz2 rfl .u8 _ _ pre [z] rfl rfl (hown.alloc _) hone (by simp; omega) (by unfold maxLen; simp; omega) (by simp; omega) ?_; intro v' w3 o3 g3)
        go_ret
        rw [he] at o3
        exact ⟨_, rfl, o3, (hbel.alloc (by omega) _).grown g3 (by simp; omega) hown.grownAt⟩
      · obtain ⟨n, rfl, hb'⟩ := hb.next (by omega)
        rw [nf_ge (by omega), Int.add_comm] at he
        have ez : (z % 128 + 128) % 256 = z % 128 + 128 := by omega
        have hone := sl_byte1 (w := wr) 5 (z % 128 + 128)
        go_wp2_with (at_builtin; refine wpList_app _ rfl _ _ 58 rfl w.heap.size 5 i0 (.int .u8 0) 1 Tryz.underlying58 hi hz0 hz1 hz2 rfl .u8 _ _ pre [z % 128 + 128] rfl rfl (hown.alloc _) hone (by simp; omega) (by unfold maxLen; simp; omega) (by simp; omega) ?_; intro v' w3 o3 g3)
        go_roundw
        case rel => exact ⟨z / 128, n, pre ++ [z % 128 + 128], by go_num, by omega, hb', by simp; omega, by rw [List.append_assoc]; exact he, o3, (hbel.alloc (by omega) _).grown g3 (by simp; omega) hown.grownAt⟩
        case measure => simp [intOf]; omega
end Go.Proofs.YtokkigfjabbdaaaGreatDoor

/- Contracts of PutText, the program's and the specification's, at every string of at most 2^40 bytes. -/
namespace Go.Proofs.YtokkigfjabbdaaaGreatDoor
open Go.RowKit
set_option maxRecDepth 100000
set_option linter.unusedVariables false

/-- What PutText answers. -/
def textForm (s : ByteArray) : List Int := form s.size ++ bs s
theorem textForm_len (s : ByteArray) : (textForm s).length ≤ 9 + s.size := by
  have := form_len s.size
  simp [textForm, bs_len]; omega
theorem form_ne (n : Nat) : form n ≠ [] := by
  have h := (nf_len 8 n).1
  unfold form
  rw [if_neg (by omega)]
  intro e
  rw [e] at h
  simp at h

theorem sputText_any (s : ByteArray) (w : World) (hs : s.size ≤ 1099511627776) :
    Calls Tryz.prog 94 #[.string s] w fun e w' => ∃ v, e = .returned v ∧ Own w.heap.size 5 .u8 w' v (textForm s) ∧ Below w.heap.size w w' := by
  obtain ⟨i0, hi, hz0, hz1, hz2⟩ := info_parts Tryz.infoB
  have hl := form_len s.size
  have hbl := bs_len s
  go_enter Tryz.func94, Tryz.ntmps94
  go_wp2_with fail
  go_at_call 92
  refine (snum_any s.size _ (by omega)).mono ?_
  rintro e w1 ⟨v1, rfl, o1, b1⟩
  obtain ⟨cap, w2, hc, hk, hcap, hm, hb⟩ := conv_str s w1 (by unfold maxLen; omega)
  have o2 := o1.below hb
  have b2 := b1.trans (hb.mono b1.size)
  have hsz := b2.size
  have hsl := hk.sl (n := s.size) (cap := cap) (by omega) (by omega) hm
  go_wp2_with (at_builtin; refine wpList_app _ rfl _ _ 58 rfl w.heap.size 5 i0 (.int .u8 0) 1 Tryz.underlying58 hi hz0 hz1 hz2 rfl .u8 _ _ (form s.size) (bs s) rfl rfl o2 hsl (by omega) (by unfold maxLen; omega) hsz ?_; intro v' w3 o3 g3)
  go_ret
  exact ⟨_, rfl, o3, b2.grown g3 hsz o2.grownAt⟩
end Go.Proofs.YtokkigfjabbdaaaGreatDoor

/- A number and a text are read from their forms as they were. No condition. -/
namespace Go.Proofs.YtokkigfjabbdaaaGreatDoor
open Go.RowKit
set_option maxRecDepth 100000
set_option linter.unusedVariables false

theorem parts128 (x p : Int) : x % 128 * p + x / 128 * (p * 128) = x * p := by
  have e : x = x % 128 + 128 * (x / 128) := by omega
  have e2 : x * p = (x % 128 + 128 * (x / 128)) * p := by rw [← e]
  rw [e2, Int.add_mul, Int.mul_comm p 128, ← Int.mul_assoc, Int.mul_comm (x / 128) 128]

theorem rdA_nf {m k : Nat} {x acc : Int} {rest : List Int} (h : Bd m x) (h0 : ¬ (x = 0 ∧ 0 < k)) : rdA (m + 1) k acc (nf m x ++ rest) = some (acc + x * 128 ^ k, k + (nf m x).length) := by
  induction m generalizing k x acc with
  | zero =>
    have h1 := h.2
    simp at h1
    have e : nf 0 x = [x] := rfl
    rw [e, List.singleton_append, rdA_end h1 h0]
    rfl
  | succ m ih =>
    by_cases hx : x < 128
    · rw [nf_lt hx, List.singleton_append, rdA_end hx h0]
      rfl
    · obtain ⟨n, e, hb⟩ := h.next (by omega)
      cases e
      have hx0 := h.1
      rw [nf_ge (by omega), List.cons_append, rdA_on (by omega), ih hb (by omega)]
      have e1 : (128 + x % 128) % 128 = x % 128 := by omega
      rw [e1, Int.pow_succ, Int.add_assoc, parts128, List.length_cons]
      congr 2
      omega

theorem rdI_form {x : Int} (h0 : 0 ≤ x) (h1 : x ≤ 9223372036854775807) (pre rest : List Int) : rdI (pre ++ form x ++ rest) (pre.length : Nat) = some (x, (form x).length) := by
  rw [rdI_nat, List.append_assoc, List.drop_left]
  unfold form
  rw [if_neg (by omega), rdA_nf (bd_of h0 h1) (by omega)]
  simp

theorem rdT_form (s : ByteArray) (hs : s.size ≤ 1099511627776) (rest : List Int) : rdT (textForm s ++ rest) 0 = some (bs s, ((textForm s).length : Int)) := by
  have hr := rdI_form (x := s.size) (by omega) (by omega) [] (bs s ++ rest)
  rw [List.nil_append, List.length_nil] at hr
  have e : textForm s ++ rest = form s.size ++ (bs s ++ rest) := by unfold textForm; rw [List.append_assoc]
  have hbl := bs_len s
  rw [e]
  have hlen : (form s.size ++ (bs s ++ rest)).length = (form s.size).length + s.size + rest.length := by simp [hbl]; omega
  have hf := rdT_fit (k := s.size) (n := (form s.size).length) (p := (form s.size).length) hr (by omega) (by rw [hlen]; omega)
  rw [show ((0 : Nat) : Int) = 0 from rfl] at hf
  have et : (bs s ++ rest).take s.size = bs s := by rw [← hbl, List.take_left]
  have el : ((textForm s).length : Int) = (form s.size).length + s.size := by
    unfold textForm
    rw [List.length_append, hbl]
    omega
  rw [hf, List.drop_left, et, el]
end Go.Proofs.YtokkigfjabbdaaaGreatDoor
