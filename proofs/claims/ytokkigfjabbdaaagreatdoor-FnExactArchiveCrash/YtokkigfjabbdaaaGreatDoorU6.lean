/- The contracts of UtfOk, the program's and the specification's, and of the comparison of bytes, at every slice of bytes. -/
import Derived.Test.YtokkigfjabbdaaaGreatDoorU4
import Derived.Test.YtokkigfjabbdaaaGreatDoorU5
import Derived.Laws.BytesString
import Derived.Laws.Cells
import Derived.Deep.QuietTactic
import Derived.BigQuiet
import Derived.Deep.RegionWith
namespace Go.Proofs.YtokkigfjabbdaaaGreatDoor
open Go.RowKit
set_option maxRecDepth 100000
set_option linter.unusedVariables false

/-- Bytes as a string. -/
def strOf (xs : List Int) : ByteArray := xs.foldl (fun r n => r.push (UInt8.ofNat n.toNat)) ByteArray.empty

theorem strOf_list (xs : List Int) (s : ByteArray) : (xs.foldl (fun r n => r.push (UInt8.ofNat n.toNat)) s).data.toList = s.data.toList ++ xs.map (fun n => UInt8.ofNat n.toNat) := by
  induction xs generalizing s with
  | nil => simp
  | cons x xs ih => rw [List.foldl_cons, ih]; simp [ByteArray.push]

theorem strOf_inj {xs ys : List Int} (hx : ∀ x ∈ xs, 0 ≤ x ∧ x ≤ 255) (hy : ∀ x ∈ ys, 0 ≤ x ∧ x ≤ 255) (h : strOf xs = strOf ys) : xs = ys := by
  have e := congrArg (fun s => s.data.toList) h
  simp only [strOf, strOf_list] at e
  have e' : xs.map (fun n => UInt8.ofNat n.toNat) = ys.map (fun n => UInt8.ofNat n.toNat) := by simpa using e
  have e2 := congrArg (List.map fun b : UInt8 => (b.toNat : Int)) e'
  rw [List.map_map, List.map_map] at e2
  have key : ∀ zs : List Int, (∀ x ∈ zs, 0 ≤ x ∧ x ≤ 255) → zs.map ((fun b : UInt8 => (b.toNat : Int)) ∘ fun n => UInt8.ofNat n.toNat) = zs := by
    intro zs hz
    conv => rhs; rw [← List.map_id zs]
    apply List.map_congr_left
    intro x hx
    have := hz x hx
    simp; omega
  rw [key xs hx, key ys hy] at e2
  exact e2

theorem toList_eq_iff (a b : ByteArray) : a.toList = b.toList ↔ a = b := by
  rw [ByteArray.toList_eq, ByteArray.toList_eq]
  constructor
  · intro h
    obtain ⟨⟨la⟩⟩ := a
    obtain ⟨⟨lb⟩⟩ := b
    have h' : la = lb := h
    rw [h']
  · intro h; rw [h]

theorem conv_sl {v : Value} {xs : List Int} {w : World} (h : Sl .u8 w v xs) : (convert 58 9 v).run Tryz.prog w = .ok (.string (strOf xs)) w := by
  obtain ⟨a, cap, rfl, h1, h2, h3, hc⟩ := h
  rw [run_convert_bytes_string w 58 9 5 a _ _ Tryz.underlying58 Tryz.underlying5 Tryz.underlying9]
  cases a with
  | none =>
    have := h3 rfl
    have hx : xs = [] := List.length_eq_zero_iff.mp (by omega)
    subst hx
    rfl
  | some a =>
    have hl := run_loadCells_list (P := Tryz.prog) (w := w) a (xs.map (Value.int .u8)) (Sl.news hc)
    rw [List.length_map] at hl
    exact run_bytesToString w a xs.length cap xs hl

theorem enc_byte {x : Int} (h0 : 0 ≤ x) (h1 : x ≤ 1114111) : ∀ y ∈ enc x, 0 ≤ y ∧ y ≤ 255 := by
  intro y hy
  by_cases a : x < 128
  · rw [enc1 a] at hy; simp at hy; omega
  by_cases b : x < 2048
  · rw [enc2 (by omega) b] at hy; simp at hy; omega
  by_cases c : x < 65536
  · rw [enc3 (by omega) c] at hy; simp at hy; omega
  · rw [enc4 (by omega)] at hy; simp at hy; omega
theorem puts_byte (xs : List Int) : ∀ y ∈ puts xs, 0 ≤ y ∧ y ≤ 255 := by
  intro y hy
  obtain ⟨x, _, hx⟩ := List.mem_flatMap.mp hy
  have := pt_ok x
  exact enc_byte this.1 this.2.1 y hx
theorem pointsPut_byte (xs : List Int) : ∀ y ∈ pointsPut xs, 0 ≤ y ∧ y ≤ 255 := by
  unfold pointsPut; split
  · exact puts_byte xs
  · intro y hy; cases hy

/-- What UtfOk answers. -/
def utfOk (xs : List Int) : Bool := decide (xs.length ≤ 3000) && decide (pointsPut (utfRead xs) = xs)

theorem utfOk_yes {xs : List Int} (h : xs.length ≤ 3000) : utfOk xs = decide (pointsPut (utfRead xs) = xs) := by unfold utfOk; simp [h]
theorem utfOk_no {xs : List Int} (h : ¬ xs.length ≤ 3000) : utfOk xs = false := by unfold utfOk; simp [h]

end Go.Proofs.YtokkigfjabbdaaaGreatDoor
