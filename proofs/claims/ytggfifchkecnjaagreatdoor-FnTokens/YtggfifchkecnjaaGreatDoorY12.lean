/- The contracts of UtfOk, the program's and the specification's, and of the comparison of bytes, at every slice of bytes. -/
import Derived.Test.YtggfifchkecnjaaGreatDoorY11
import Derived.Test.YtggfifchkecnjaaGreatDoorY6
import Derived.Laws.BytesString
import Derived.Laws.Cells
import Derived.Deep.QuietTactic
import Derived.BigQuiet
import Derived.Deep.RegionWith
namespace Go.Proofs.YtggfifchkecnjaaGreatDoor
open Go.RowKit
set_option maxRecDepth 100000
set_option linter.unusedVariables false

def strOf (xs : List Int) : ByteArray := xs.foldl (fun r n => r.push (UInt8.ofNat n.toNat)) ByteArray.empty

theorem strOf_list (xs : List Int) (s : ByteArray) : (xs.foldl (fun r n => r.push (UInt8.ofNat n.toNat)) s).data.toList = s.data.toList ++ xs.map (fun n => UInt8.ofNat n.toNat) := by
  induction xs generalizing s with
  | nil => simp
  | cons x xs ih => rw [List.foldl_cons, ih]; simp [ByteArray.push]

theorem strOf_inj {xs ys : List Int} (hx : ∀ x ∈ xs, 0 ≤ x ∧ x ≤ 255) (hy : ∀ x ∈ ys, 0 ≤ x ∧ x ≤ 255) (h : strOf xs = strOf ys) : xs = ys := by
  have e := congrArg (fun s => s.data.toList) h
  simp only [strOf, strOf_list] at e
  have e' : xs.map (fun n => UInt8.ofNat n.toNat) = ys.map (fun n => UInt8.ofNat n.toNat) := by simpa using e
  have e2 := congrArg (List.map fun b : UInt8 => (b.toNat : Int)) e'
  rw [List.map_map, List.map_map] at e2
  have key : ∀ zs : List Int, (∀ x ∈ zs, 0 ≤ x ∧ x ≤ 255) → zs.map ((fun b : UInt8 => (b.toNat : Int)) ∘ fun n => UInt8.ofNat n.toNat) = zs := by
    intro zs hz
    conv => rhs; rw [← List.map_id zs]
    apply List.map_congr_left
    intro x hx
    have := hz x hx
    simp; omega
  rw [key xs hx, key ys hy] at e2
  exact e2

theorem toList_eq_iff (a b : ByteArray) : a.toList = b.toList ↔ a = b := by
  rw [ByteArray.toList_eq, ByteArray.toList_eq]
  constructor
  · intro h
    obtain ⟨⟨la⟩⟩ := a
    obtain ⟨⟨lb⟩⟩ := b
    have h' : la = lb := h
    rw [h']
  · intro h; rw [h]

theorem conv_sl {v : Value} {xs : List Int} {w : World} (h : Sl .u8 w v xs) : (convert 22 9 v).run Tryz.prog w = .ok (.string (strOf xs)) w := by
  obtain ⟨a, cap, rfl, h1, h2, h3, hc⟩ := h
  rw [run_convert_bytes_string w 22 9 5 a _ _ Tryz.underlying22 Tryz.underlying5 Tryz.underlying9]
  cases a with
  | none =>
    have := h3 rfl
    have hx : xs = [] := List.length_eq_zero_iff.mp (by omega)
    subst hx
    rfl
  | some a =>
    have hl := run_loadCells_list (P := Tryz.prog) (w := w) a (xs.map (Value.int .u8)) (Sl.news hc)
    rw [List.length_map] at hl
    exact run_bytesToString w a xs.length cap xs hl

theorem equal_any {v1 v2 : Value} {xs ys : List Int} {w : World} (h1 : Sl .u8 w v1 xs) (h2 : Sl .u8 w v2 ys) (hx : ∀ x ∈ xs, 0 ≤ x ∧ x ≤ 255) (hy : ∀ x ∈ ys, 0 ≤ x ∧ x ≤ 255) :
    Calls Tryz.prog 95 #[v1, v2] w fun e w' => e = .returned (.bool (decide (xs = ys))) ∧ w' = w := by
  have c1 := conv_sl h1
  have c2 := conv_sl h2
  obtain ⟨s1, hs1⟩ : ∃ s, s = strOf xs := ⟨_, rfl⟩
  obtain ⟨s2, hs2⟩ : ∃ s, s = strOf ys := ⟨_, rfl⟩
  rw [← hs1] at c1
  rw [← hs2] at c2
  have HE : Hid (xs = ys ↔ s1 = s2) := ⟨fun e => by rw [hs1, hs2, e], fun e => strOf_inj hx hy (by rw [← hs1, ← hs2, e])⟩
  clear hs1 hs2 h1 h2 hx hy
  go_enter Tryz.func95, Tryz.ntmps95
  go_wp2
  go_ret
  exact ⟨ret_bool (by rw [Bool.eq_iff_iff]; simp only [beq_iff_eq, decide_eq_true_eq]; rw [HE.out]; exact toList_eq_iff s1 s2), rfl⟩

theorem enc_byte {x : Int} (h0 : 0 ≤ x) (h1 : x ≤ 1114111) : ∀ y ∈ enc x, 0 ≤ y ∧ y ≤ 255 := by
  intro y hy
  by_cases a : x < 128
  · rw [enc1 a] at hy; simp at hy; omega
  by_cases b : x < 2048
  · rw [enc2 (by omega) b] at hy; simp at hy; omega
  by_cases c : x < 65536
  · rw [enc3 (by omega) c] at hy; simp at hy; omega
  · rw [enc4 (by omega)] at hy; simp at hy; omega
theorem puts_byte (xs : List Int) : ∀ y ∈ puts xs, 0 ≤ y ∧ y ≤ 255 := by
  intro y hy
  obtain ⟨x, _, hx⟩ := List.mem_flatMap.mp hy
  have := pt_ok x
  exact enc_byte this.1 this.2.1 y hx
theorem pointsPut_byte (xs : List Int) : ∀ y ∈ pointsPut xs, 0 ≤ y ∧ y ≤ 255 := by
  unfold pointsPut; split
  · exact puts_byte xs
  · intro y hy; cases hy

def utfOk (xs : List Int) : Bool := decide (xs.length ≤ 3000) && decide (pointsPut (utfRead xs) = xs)

theorem utfOk_yes {xs : List Int} (h : xs.length ≤ 3000) : utfOk xs = decide (pointsPut (utfRead xs) = xs) := by unfold utfOk; simp [h]
theorem utfOk_no {xs : List Int} (h : ¬ xs.length ≤ 3000) : utfOk xs = false := by unfold utfOk; simp [h]

theorem iutfOk_any {v : Value} {xs : List Int} {w : World} (h : Sl .u8 w v xs) (hb : ∀ x ∈ xs, 0 ≤ x ∧ x ≤ 255) (hn : xs.length ≤ 1099511627776) :
    Calls Tryz.prog 52 #[v] w fun e w' => e = .returned (.bool (utfOk xs)) ∧ Below w.heap.size w w' := by
  have h0 := h
  obtain ⟨a, ca, rfl, _, _, _, ha⟩ := h
  clear ha
  have HB : Hid (∀ x ∈ xs, 0 ≤ x ∧ x ≤ 255) := hb
  clear hb
  by_cases hlen : xs.length ≤ 3000
  · have hrl := utfRead_len xs
    obtain ⟨r, hr⟩ : ∃ r : Bool, r = decide (pointsPut (utfRead xs) = xs) := ⟨_, rfl⟩
    have HU : Hid (utfOk xs = r) := (by rw [hr]; exact utfOk_yes hlen : utfOk xs = r)
    rw [HU.out]
    go_enter Tryz.func52, Tryz.ntmps52
    go_wp2_with fail
    go_at_call 26
    refine (iread_any h0 HB.out (by omega)).mono ?_
    rintro e w1 ⟨v1, rfl, o1, b1⟩
    replace h0 := h0.below b1
    go_wp2_with fail
    go_at_call 96
    refine (iputs_any o1.sl (by omega)).mono ?_
    rintro e w2 ⟨v2, rfl, o2, b2⟩
    replace h0 := h0.below b2
    go_wp2_with fail
    go_at_call 95
    refine (equal_any o2.sl h0 (pointsPut_byte _) HB.out).mono ?_
    rintro e w3 ⟨rfl, rfl⟩
    rw [← hr]
    clear hr
    go_wp2
    go_ret
    exact ⟨rfl, b1.trans (b2.mono b1.size)⟩
  · have HU : Hid (utfOk xs = false) := (utfOk_no hlen : utfOk xs = false)
    rw [HU.out]
    go_enter Tryz.func52, Tryz.ntmps52
    go_wp2
    go_ret
    exact ⟨ret_bool (by simp; try omega), Below.refl _ _⟩

set_option maxHeartbeats 8000000 in
theorem sutfOk_any {v : Value} {xs : List Int} {w : World} (h : Sl .u8 w v xs) (hb : ∀ x ∈ xs, 0 ≤ x ∧ x ≤ 255) (hn : xs.length ≤ 1099511627776) :
    Calls Tryz.prog 149 #[v] w fun e w' => e = .returned (.bool (utfOk xs)) ∧ Below w.heap.size w w' := by
  have h0 := h
  obtain ⟨a, ca, rfl, _, _, _, ha⟩ := h
  clear ha
  have HB : Hid (∀ x ∈ xs, 0 ≤ x ∧ x ≤ 255) := hb
  clear hb
  by_cases hlen : xs.length ≤ 3000
  · have hrl := utfRead_len xs
    have hd : decide ((xs.length : Int) ≤ 3000) = true := by simp; omega
    have hlI : (xs.length : Int) ≤ 3000 := by omega
    rw [utfOk_yes hlen]
    obtain ⟨s1, hs1⟩ : ∃ s, s = strOf (pointsPut (utfRead xs)) := ⟨_, rfl⟩
    obtain ⟨s2, hs2⟩ : ∃ s, s = strOf xs := ⟨_, rfl⟩
    have HE : Hid (pointsPut (utfRead xs) = xs ↔ s1 = s2) := ⟨fun e => by rw [hs1, hs2, e], fun e => strOf_inj (pointsPut_byte _) HB.out (by rw [← hs1, ← hs2, e])⟩
    have b0 : Below w.heap.size w w.drew := (Below.refl _ _).drew
    have h1 := h0.below b0
    have c1 := conv_sl h1
    have HS1 : Hid (s1 = strOf (pointsPut (utfRead xs))) := hs1
    have HS2 : Hid (s2 = strOf xs) := hs2
    rw [← hs2] at c1
    clear hs1 hs2
    go_enter Tryz.func149, Tryz.ntmps149
    go_wp2
    go_region_with (first
      | (go_at_call 156; refine (sread_any h1 HB.out (by omega)).mono ?_; rintro e w1 ⟨v1, rfl, o1, b1⟩; have h2 := h1.below b1; have c2 := conv_sl h2; rw [← HS2.out] at c2)
      | (go_at_call 155; refine (sputs_any o1.sl (by omega)).mono ?_; rintro e w2 ⟨v2, rfl, o2, b2⟩; have h3 := h2.below b2; have c3 := conv_sl h3; rw [← HS2.out] at c3; have c4 := conv_sl o2.sl; rw [← HS1.out] at c4))
    all_goals
      go_wp2
      go_ret
      have hz : w.heap.size ≤ w1.heap.size := b1.size
      exact ⟨ret_bool (by rw [Bool.eq_iff_iff]; simp only [beq_iff_eq, decide_eq_true_eq]; rw [HE.out]; exact toList_eq_iff s1 s2), (b0.trans (b1.mono (Nat.le_refl _))).trans (b2.mono hz)⟩
  · have HU : Hid (utfOk xs = false) := (utfOk_no hlen : utfOk xs = false)
    rw [HU.out]
    have hd : decide ((xs.length : Int) ≤ 3000) = false := by simp; omega
    go_enter Tryz.func149, Tryz.ntmps149
    go_wp2
    go_quiet (fail)
    go_wp2
    go_ret
    exact ⟨rfl, below_drewN _⟩
end Go.Proofs.YtggfifchkecnjaaGreatDoor
