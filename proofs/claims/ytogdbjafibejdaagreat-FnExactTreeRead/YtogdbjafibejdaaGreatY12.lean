/- The contracts of UtfOk, the program's and the specification's, and of the comparison of bytes, at every slice of bytes. -/
import Derived.Test.YtogdbjafibejdaaGreatY11
import Derived.Test.YtogdbjafibejdaaGreatY4
import Derived.Laws.BytesString
import Derived.Laws.Cells
import Derived.Deep.QuietTactic
import Derived.BigQuiet
import Derived.Deep.RegionWith
import Derived.Test.YtogdbjafibejdaaGreatY9
namespace Go.Proofs.YtogdbjafibejdaaGreat
open Go.RowKit
set_option maxRecDepth 100000
set_option linter.unusedVariables false

def strOf (xs : List Int) : ByteArray := xs.foldl (fun r n => r.push (UInt8.ofNat n.toNat)) ByteArray.empty

theorem strOf_list (xs : List Int) (s : ByteArray) : (xs.foldl (fun r n => r.push (UInt8.ofNat n.toNat)) s).data.toList = s.data.toList ++ xs.map (fun n => UInt8.ofNat n.toNat) := by
  induction xs generalizing s with
  | nil => simp
  | cons x xs ih => rw [List.foldl_cons, ih]; simp [ByteArray.push]

theorem strOf_inj {xs ys : List Int} (hx : ∀ x ∈ xs, 0 ≤ x ∧ x ≤ 255) (hy : ∀ x ∈ ys, 0 ≤ x ∧ x ≤ 255) (h : strOf xs = strOf ys) : xs = ys := by
  have e := congrArg (fun s => s.data.toList) h
  simp only [strOf, strOf_list] at e
  have e' : xs.map (fun n => UInt8.ofNat n.toNat) = ys.map (fun n => UInt8.ofNat n.toNat) := by simpa using e
  have e2 := congrArg (List.map fun b : UInt8 => (b.toNat : Int)) e'
  rw [List.map_map, List.map_map] at e2
  have key : ∀ zs : List Int, (∀ x ∈ zs, 0 ≤ x ∧ x ≤ 255) → zs.map ((fun b : UInt8 => (b.toNat : Int)) ∘ fun n => UInt8.ofNat n.toNat) = zs := by
    intro zs hz
    conv => rhs; rw [← List.map_id zs]
    apply List.map_congr_left
    intro x hx
    have := hz x hx
    simp; omega
  rw [key xs hx, key ys hy] at e2
  exact e2

theorem toList_eq_iff (a b : ByteArray) : a.toList = b.toList ↔ a = b := by
  rw [ByteArray.toList_eq, ByteArray.toList_eq]
  constructor
  · intro h
    obtain ⟨⟨la⟩⟩ := a
    obtain ⟨⟨lb⟩⟩ := b
    have h' : la = lb := h
    rw [h']
  · intro h; rw [h]

theorem conv_sl {v : Value} {xs : List Int} {w : World} (h : Sl .u8 w v xs) : (convert 22 9 v).run Tryz.prog w = .ok (.string (strOf xs)) w := by
  obtain ⟨a, cap, rfl, h1, h2, h3, hc⟩ := h
  rw [run_convert_bytes_string w 22 9 5 a _ _ Tryz.underlying22 Tryz.underlying5 Tryz.underlying9]
  cases a with
  | none =>
    have := h3 rfl
    have hx : xs = [] := List.length_eq_zero_iff.mp (by omega)
    subst hx
    rfl
  | some a =>
    have hl := run_loadCells_list (P := Tryz.prog) (w := w) a (xs.map (Value.int .u8)) (Sl.news hc)
    rw [List.length_map] at hl
    exact run_bytesToString w a xs.length cap xs hl

theorem equal_any {v1 v2 : Value} {xs ys : List Int} {w : World} (h1 : Sl .u8 w v1 xs) (h2 : Sl .u8 w v2 ys) (hx : ∀ x ∈ xs, 0 ≤ x ∧ x ≤ 255) (hy : ∀ x ∈ ys, 0 ≤ x ∧ x ≤ 255) :
    Calls Tryz.prog 180 #[v1, v2] w fun e w' => e = .returned (.bool (decide (xs = ys))) ∧ w' = w := by
  have c1 := conv_sl h1
  have c2 := conv_sl h2
  obtain ⟨s1, hs1⟩ : ∃ s, s = strOf xs := ⟨_, rfl⟩
  obtain ⟨s2, hs2⟩ : ∃ s, s = strOf ys := ⟨_, rfl⟩
  rw [← hs1] at c1
  rw [← hs2] at c2
  have HE : Hid (xs = ys ↔ s1 = s2) := ⟨fun e => by rw [hs1, hs2, e], fun e => strOf_inj hx hy (by rw [← hs1, ← hs2, e])⟩
  clear hs1 hs2 h1 h2 hx hy
  go_enter Tryz.func180, Tryz.ntmps180
  go_wp2
  go_ret
  exact ⟨ret_bool (by rw [Bool.eq_iff_iff]; simp only [beq_iff_eq, decide_eq_true_eq]; rw [HE.out]; exact toList_eq_iff s1 s2), rfl⟩

theorem enc_byte {x : Int} (h0 : 0 ≤ x) (h1 : x ≤ 1114111) : ∀ y ∈ enc x, 0 ≤ y ∧ y ≤ 255 := by
  intro y hy
  by_cases a : x < 128
  · rw [enc1 a] at hy; simp at hy; omega
  by_cases b : x < 2048
  · rw [enc2 (by omega) b] at hy; simp at hy; omega
  by_cases c : x < 65536
  · rw [enc3 (by omega) c] at hy; simp at hy; omega
  · rw [enc4 (by omega)] at hy; simp at hy; omega
theorem puts_byte (xs : List Int) : ∀ y ∈ puts xs, 0 ≤ y ∧ y ≤ 255 := by
  intro y hy
  obtain ⟨x, _, hx⟩ := List.mem_flatMap.mp hy
  have := pt_ok x
  exact enc_byte this.1 this.2.1 y hx
theorem pointsPut_byte (xs : List Int) : ∀ y ∈ pointsPut xs, 0 ≤ y ∧ y ≤ 255 := by
  unfold pointsPut; split
  · exact puts_byte xs
  · intro y hy; cases hy

def utfOk (xs : List Int) : Bool := decide (xs.length ≤ 3000) && decide (pointsPut (utfRead xs) = xs)

theorem utfOk_yes {xs : List Int} (h : xs.length ≤ 3000) : utfOk xs = decide (pointsPut (utfRead xs) = xs) := by unfold utfOk; simp [h]
theorem utfOk_no {xs : List Int} (h : ¬ xs.length ≤ 3000) : utfOk xs = false := by unfold utfOk; simp [h]

theorem iutfOk_any {v : Value} {xs : List Int} {w : World} (h : Sl .u8 w v xs) (hb : ∀ x ∈ xs, 0 ≤ x ∧ x ≤ 255) (hn : xs.length ≤ 1099511627776) :
    Calls Tryz.prog 153 #[v] w fun e w' => e = .returned (.bool (utfOk xs)) ∧ Below w.heap.size w w' := by
  have h0 := h
  obtain ⟨a, ca, rfl, _, _, _, ha⟩ := h
  clear ha
  have HB : Hid (∀ x ∈ xs, 0 ≤ x ∧ x ≤ 255) := hb
  clear hb
  by_cases hlen : xs.length ≤ 3000
  · have hrl := utfRead_len xs
    obtain ⟨r, hr⟩ : ∃ r : Bool, r = decide (pointsPut (utfRead xs) = xs) := ⟨_, rfl⟩
    have HU : Hid (utfOk xs = r) := (by rw [hr]; exact utfOk_yes hlen : utfOk xs = r)
    rw [HU.out]
    go_enter Tryz.func153, Tryz.ntmps153
    go_wp2_with fail
    go_at_call 182
    refine (iread_any h0 HB.out (by omega)).mono ?_
    rintro e w1 ⟨v1, rfl, o1, b1⟩
    replace h0 := h0.below b1
    go_wp2_with fail
    go_at_call 181
    refine (iputs_any o1.sl (by omega)).mono ?_
    rintro e w2 ⟨v2, rfl, o2, b2⟩
    replace h0 := h0.below b2
    go_wp2_with fail
    go_at_call 180
    refine (equal_any o2.sl h0 (pointsPut_byte _) HB.out).mono ?_
    rintro e w3 ⟨rfl, rfl⟩
    rw [← hr]
    clear hr
    go_wp2
    go_ret
    exact ⟨rfl, b1.trans (b2.mono b1.size)⟩
  · have HU : Hid (utfOk xs = false) := (utfOk_no hlen : utfOk xs = false)
    rw [HU.out]
    go_enter Tryz.func153, Tryz.ntmps153
    go_wp2
    go_ret
    exact ⟨ret_bool (by simp; try omega), Below.refl _ _⟩

set_option maxHeartbeats 8000000 in
theorem sutfOk_any {v : Value} {xs : List Int} {w : World} (h : Sl .u8 w v xs) (hb : ∀ x ∈ xs, 0 ≤ x ∧ x ≤ 255) (hn : xs.length ≤ 1099511627776) :
    Calls Tryz.prog 119 #[v] w fun e w' => e = .returned (.bool (utfOk xs)) ∧ Below w.heap.size w w' := by
  have h0 := h
  obtain ⟨a, ca, rfl, _, _, _, ha⟩ := h
  clear ha
  have HB : Hid (∀ x ∈ xs, 0 ≤ x ∧ x ≤ 255) := hb
  clear hb
  by_cases hlen : xs.length ≤ 3000
  · have hrl := utfRead_len xs
    have hd : decide ((xs.length : Int) ≤ 3000) = true := by simp; omega
    have hlI : (xs.length : Int) ≤ 3000 := by omega
    rw [utfOk_yes hlen]
    obtain ⟨s1, hs1⟩ : ∃ s, s = strOf (pointsPut (utfRead xs)) := ⟨_, rfl⟩
    obtain ⟨s2, hs2⟩ : ∃ s, s = strOf xs := ⟨_, rfl⟩
    have HE : Hid (pointsPut (utfRead xs) = xs ↔ s1 = s2) := ⟨fun e => by rw [hs1, hs2, e], fun e => strOf_inj (pointsPut_byte _) HB.out (by rw [← hs1, ← hs2, e])⟩
    have b0 : Below w.heap.size w w.drew := (Below.refl _ _).drew
    have h1 := h0.below b0
    have c1 := conv_sl h1
    have HS1 : Hid (s1 = strOf (pointsPut (utfRead xs))) := hs1
    have HS2 : Hid (s2 = strOf xs) := hs2
    rw [← hs2] at c1
    clear hs1 hs2
    go_enter Tryz.func119, Tryz.ntmps119
    go_wp2
    go_region_with (first
      | (go_at_call 160; refine (sread_any h1 HB.out (by omega)).mono ?_; rintro e w1 ⟨v1, rfl, o1, b1⟩; have h2 := h1.below b1; have c2 := conv_sl h2; rw [← HS2.out] at c2)
      | (go_at_call 159; refine (sputs_any o1.sl (by omega)).mono ?_; rintro e w2 ⟨v2, rfl, o2, b2⟩; have h3 := h2.below b2; have c3 := conv_sl h3; rw [← HS2.out] at c3; have c4 := conv_sl o2.sl; rw [← HS1.out] at c4))
    all_goals
      go_wp2
      go_ret
      have hz : w.heap.size ≤ w1.heap.size := b1.size
      exact ⟨ret_bool (by rw [Bool.eq_iff_iff]; simp only [beq_iff_eq, decide_eq_true_eq]; rw [HE.out]; exact toList_eq_iff s1 s2), (b0.trans (b1.mono (Nat.le_refl _))).trans (b2.mono hz)⟩
  · have HU : Hid (utfOk xs = false) := (utfOk_no hlen : utfOk xs = false)
    rw [HU.out]
    have hd : decide ((xs.length : Int) ≤ 3000) = false := by simp; omega
    go_enter Tryz.func119, Tryz.ntmps119
    go_wp2
    go_quiet (fail)
    go_wp2
    go_ret
    exact ⟨rfl, below_drewN _⟩
end Go.Proofs.YtogdbjafibejdaaGreat

/- The specification's GetText, at every list of bytes. -/
namespace Go.Proofs.YtogdbjafibejdaaGreat
open Go.RowKit
set_option maxRecDepth 100000
set_option linter.unusedVariables false

def rdT (xs : List Int) (i : Int) : Option (List Int × Int) :=
  match rdI xs i with
  | some (y, n) => if y ≤ xs.length - (i + n) then some ((xs.drop (i + n).toNat).take y.toNat, i + n + y) else none
  | none => none

def textVal : Option (List Int × Int) → Value
  | some (t, j) => .tuple #[.string (strOf t), .int .i64 j, .bool true]
  | none => .tuple #[.string ByteArray.empty, .int .i64 0, .bool false]

theorem rdT_none {xs : List Int} {i : Int} (h : rdI xs i = none) : rdT xs i = none := by simp only [rdT, h]
theorem rdT_fit {xs : List Int} {i : Int} {k n p : Nat} (h : rdI xs i = some ((k : Int), n)) (hp : i + n = p) (hk : (k : Int) ≤ xs.length - (p : Int)) : rdT xs i = some ((xs.drop p).take k, (p : Int) + (k : Int)) := by
  simp only [rdT, h, hp, if_pos hk, Int.toNat_natCast]
theorem rdT_over {xs : List Int} {i : Int} {k n p : Nat} (h : rdI xs i = some ((k : Int), n)) (hp : i + n = p) (hk : ¬ (k : Int) ≤ xs.length - (p : Int)) : rdT xs i = none := by
  simp only [rdT, h, hp, if_neg hk]
theorem rdI_nats {xs : List Int} {i y : Int} {n : Nat} (h : rdI xs i = some (y, n)) (hb : ∀ x ∈ xs, 0 ≤ x ∧ x ≤ 255) :
    ∃ k p : Nat, y = k ∧ i + n = p ∧ p ≤ xs.length ∧ k ≤ 9223372036854775807 ∧ numVal i (rdI xs i) = .tuple #[.int .i64 k, .int .i64 p, .bool true] := by
  have hs := rdI_some h hb
  refine ⟨y.toNat, (i + n).toNat, by omega, by omega, by omega, by omega, ?_⟩
  have e1 : (y.toNat : Int) = y := by omega
  have e2 : ((i + n).toNat : Int) = i + n := by omega
  rw [h, e1, e2]
  rfl

theorem sub_sl {K : IntKind} {w : World} {a : Option Addr} {xs : List Int} {ca p k : Nat} (h : Sl K w (.slice a xs.length ca) xs) (hk : p + k ≤ xs.length) (hc : ¬ ca = p) : Sl K w (.slice (Option.map (fun x => x.add p) a) k (ca - p)) ((xs.drop p).take k) := by
  obtain ⟨a', ca', e, h1, h2, h3, hcell⟩ := h
  cases e
  have hl : ((xs.drop p).take k).length = k := by simp; omega
  refine ⟨_, ca - p, by rw [hl], by rw [hl]; omega, by omega, ?_, fun j hj => ?_⟩
  · intro e
    have : a = none := by cases a <;> simp_all
    have := h3 this
    omega
  · rw [hl] at hj
    obtain ⟨b, off, rfl, c⟩ := hcell (p + j) (by omega)
    have ead : (⟨b, off, none⟩ : Addr).add p = ⟨b, off + p, none⟩ := by
      by_cases h0 : p = 0
      · subst h0; simp [Addr.add]
      · simp [Addr.add, h0]
    refine ⟨b, off + p, by simp [ead], ?_⟩
    have e1 : ((xs.drop p).take k).getD j 0 = xs.getD (p + j) 0 := by
      simp [List.getD_eq_getElem?_getD, List.getElem?_drop, hj]
    rw [e1, Nat.add_assoc]
    exact c
theorem sub_sl0 {K : IntKind} {w : World} (a : Option Addr) : Sl K w (.slice a 0 0) [] := ⟨a, 0, rfl, Nat.le_refl _, by unfold maxLen; omega, fun _ => rfl, fun j hj => absurd hj (Nat.not_lt_zero _)⟩

theorem sgetText_any {v : Value} {xs : List Int} {i : Int} {w : World} (h : Sl .u8 w v xs) (hb : ∀ x ∈ xs, 0 ≤ x ∧ x ≤ 255) (hn : xs.length ≤ 1099511627776) :
    Calls Tryz.prog 96 #[v, .int .i64 i] w fun e w' => e = .returned (textVal (rdT xs i)) ∧ w' = w := by
  have S1 := fun (w : World) (h : Sl .u8 w v xs) => sgetNum_any (i := i) h hb hn
  have h0 := h
  rcases hR : rdI xs i with _ | ⟨y, n⟩
  · rw [rdT_none hR]
    have e : numVal i (rdI xs i) = .tuple #[.int .i64 0, .int .i64 0, .bool false] := by rw [hR]; rfl
    rw [e] at S1
    have HS := (show Hid (∀ _ _, _) from S1)
    clear S1 hR e
    obtain ⟨a, ca, rfl, _, _, _, ha⟩ := h
    go_enter Tryz.func96, Tryz.ntmps96
    go_wp2_with fail
    go_at_call 95
    refine (HS.out _ h0).mono ?_
    rintro e w2 ⟨rfl, rfl⟩
    go_wp2
    go_ret3
    exact ⟨rfl, rfl⟩
  · obtain ⟨k, p, rfl, hp, hpl, hkm, e⟩ := rdI_nats hR hb
    rw [e] at S1
    have HS := (show Hid (∀ _ _, _) from S1)
    obtain ⟨a, ca, rfl, _, _, _, ha⟩ := h
    by_cases hk : (k : Int) ≤ xs.length - (p : Int)
    · rw [rdT_fit hR hp hk]
      clear S1 hR e hp
      go_enter Tryz.func96, Tryz.ntmps96
      go_wp2_with fail
      go_at_call 95
      refine (HS.out _ h0).mono ?_
      rintro e w2 ⟨rfl, rfl⟩
      have hk' : ¬ ((xs.length : Int) - (p : Int) < k) := by omega
      by_cases hca : ca = p
      · subst hca
        obtain rfl : k = 0 := by omega
        have cv := conv_sl (sub_sl0 (K := .u8) (w := w2) a)
        go_wp2
        go_ret3
        simp
        rfl
      · have cv := conv_sl (sub_sl h0 (p := p) (k := k) (by omega) hca)
        go_wp2
        go_ret3
        exact ⟨rfl, rfl⟩
    · rw [rdT_over hR hp hk]
      clear S1 hR e hp
      go_enter Tryz.func96, Tryz.ntmps96
      go_wp2_with fail
      go_at_call 95
      refine (HS.out _ h0).mono ?_
      rintro e w2 ⟨rfl, rfl⟩
      go_wp2
      go_ret3
      exact ⟨rfl, rfl⟩
end Go.Proofs.YtogdbjafibejdaaGreat
