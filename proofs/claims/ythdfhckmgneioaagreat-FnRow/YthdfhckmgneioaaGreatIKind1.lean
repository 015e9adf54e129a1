/- The lists of names of chapter 9, and the program's functions that answer them (written by mk/ikind.py). -/
import Derived.Test.YthdfhckmgneioaaGreatISet
namespace Go.Proofs.YthdfhckmgneioaaGreat
open Go.RowKit Go.Maps
set_option maxRecDepth 100000
set_option linter.unusedVariables false

def formats : List ByteArray := [⟨#[97]⟩, ⟨#[98]⟩, ⟨#[98, 105, 103]⟩, ⟨#[99, 111, 100, 101]⟩, ⟨#[101, 109]⟩, ⟨#[102, 111, 110, 116]⟩, ⟨#[105]⟩, ⟨#[110, 111, 98, 114]⟩, ⟨#[115]⟩, ⟨#[115, 109, 97, 108, 108]⟩, ⟨#[115, 116, 114, 105, 107, 101]⟩, ⟨#[115, 116, 114, 111, 110, 103]⟩, ⟨#[116, 116]⟩, ⟨#[117]⟩]
def blocks : List ByteArray := [⟨#[97, 100, 100, 114, 101, 115, 115]⟩, ⟨#[97, 114, 116, 105, 99, 108, 101]⟩, ⟨#[97, 115, 105, 100, 101]⟩, ⟨#[98, 108, 111, 99, 107, 113, 117, 111, 116, 101]⟩, ⟨#[99, 101, 110, 116, 101, 114]⟩, ⟨#[100, 101, 116, 97, 105, 108, 115]⟩, ⟨#[100, 105, 97, 108, 111, 103]⟩, ⟨#[100, 105, 114]⟩, ⟨#[100, 105, 118]⟩, ⟨#[100, 108]⟩, ⟨#[102, 105, 101, 108, 100, 115, 101, 116]⟩, ⟨#[102, 105, 103, 99, 97, 112, 116, 105, 111, 110]⟩, ⟨#[102, 105, 103, 117, 114, 101]⟩, ⟨#[102, 111, 111, 116, 101, 114]⟩, ⟨#[104, 101, 97, 100, 101, 114]⟩, ⟨#[104, 103, 114, 111, 117, 112]⟩, ⟨#[109, 97, 105, 110]⟩, ⟨#[109, 101, 110, 117]⟩, ⟨#[110, 97, 118]⟩, ⟨#[111, 108]⟩, ⟨#[112]⟩, ⟨#[115, 101, 97, 114, 99, 104]⟩, ⟨#[115, 101, 99, 116, 105, 111, 110]⟩, ⟨#[115, 117, 109, 109, 97, 114, 121]⟩, ⟨#[117, 108]⟩]
def headings : List ByteArray := [⟨#[104, 49]⟩, ⟨#[104, 50]⟩, ⟨#[104, 51]⟩, ⟨#[104, 52]⟩, ⟨#[104, 53]⟩, ⟨#[104, 54]⟩]
def heads : List ByteArray := [⟨#[98, 97, 115, 101]⟩, ⟨#[108, 105, 110, 107]⟩, ⟨#[109, 101, 116, 97]⟩, ⟨#[110, 111, 102, 114, 97, 109, 101, 115]⟩, ⟨#[115, 99, 114, 105, 112, 116]⟩, ⟨#[115, 116, 121, 108, 101]⟩, ⟨#[116, 105, 116, 108, 101]⟩]
def otherSpecials : List ByteArray := [⟨#[97, 112, 112, 108, 101, 116]⟩, ⟨#[97, 114, 101, 97]⟩, ⟨#[98, 111, 100, 121]⟩, ⟨#[98, 114]⟩, ⟨#[98, 117, 116, 116, 111, 110]⟩, ⟨#[100, 100]⟩, ⟨#[100, 116]⟩, ⟨#[101, 109, 98, 101, 100]⟩, ⟨#[104, 101, 97, 100]⟩, ⟨#[104, 114]⟩, ⟨#[104, 116, 109, 108]⟩, ⟨#[105, 102, 114, 97, 109, 101]⟩, ⟨#[105, 109, 103]⟩, ⟨#[105, 110, 112, 117, 116]⟩, ⟨#[108, 105]⟩, ⟨#[108, 105, 115, 116, 105, 110, 103]⟩, ⟨#[109, 97, 114, 113, 117, 101, 101]⟩, ⟨#[110, 111, 101, 109, 98, 101, 100]⟩, ⟨#[111, 98, 106, 101, 99, 116]⟩, ⟨#[112, 97, 114, 97, 109]⟩, ⟨#[112, 108, 97, 105, 110, 116, 101, 120, 116]⟩, ⟨#[112, 114, 101]⟩, ⟨#[115, 111, 117, 114, 99, 101]⟩, ⟨#[116, 97, 98, 108, 101]⟩, ⟨#[116, 100]⟩, ⟨#[116, 101, 120, 116, 97, 114, 101, 97]⟩, ⟨#[116, 104]⟩, ⟨#[116, 114]⟩, ⟨#[116, 114, 97, 99, 107]⟩, ⟨#[119, 98, 114]⟩, ⟨#[120, 109, 112]⟩]
def implieds : List ByteArray := [⟨#[100, 100]⟩, ⟨#[100, 116]⟩, ⟨#[108, 105]⟩, ⟨#[111, 112, 116, 103, 114, 111, 117, 112]⟩, ⟨#[111, 112, 116, 105, 111, 110]⟩, ⟨#[112]⟩]
def bounds : List ByteArray := [⟨#[97, 112, 112, 108, 101, 116]⟩, ⟨#[104, 116, 109, 108]⟩, ⟨#[109, 97, 114, 113, 117, 101, 101]⟩, ⟨#[111, 98, 106, 101, 99, 116]⟩, ⟨#[116, 97, 98, 108, 101]⟩, ⟨#[116, 100]⟩, ⟨#[116, 104]⟩]

def dialogB : ByteArray := ⟨#[100, 105, 97, 108, 111, 103]⟩
def searchB : ByteArray := ⟨#[115, 101, 97, 114, 99, 104]⟩

theorem formatsNames_any (w : World) : Calls Tryz.prog 78 #[] w fun e w' => e = .returned (.slice (some ⟨w.heap.size, 0, none⟩) 14 14) ∧ Txt w' w.heap.size formats ∧ w.heap.size < w'.heap.size ∧ Below w.heap.size w w' := by
  go_enter Tryz.func78, Tryz.ntmps78
  go_wp2
  go_ret
  exact ⟨rfl, txt_alloc w _ formats _ rfl, by simp, (Below.refl _ _).alloc (Nat.le_refl _) _⟩

theorem blocksNames_any (w : World) : Calls Tryz.prog 79 #[] w fun e w' => e = .returned (.slice (some ⟨w.heap.size, 0, none⟩) 25 25) ∧ Txt w' w.heap.size blocks ∧ w.heap.size < w'.heap.size ∧ Below w.heap.size w w' := by
  go_enter Tryz.func79, Tryz.ntmps79
  go_wp2
  go_ret
  exact ⟨rfl, txt_alloc w _ blocks _ rfl, by simp, (Below.refl _ _).alloc (Nat.le_refl _) _⟩

theorem headingsNames_any (w : World) : Calls Tryz.prog 80 #[] w fun e w' => e = .returned (.slice (some ⟨w.heap.size, 0, none⟩) 6 6) ∧ Txt w' w.heap.size headings ∧ w.heap.size < w'.heap.size ∧ Below w.heap.size w w' := by
  go_enter Tryz.func80, Tryz.ntmps80
  go_wp2
  go_ret
  exact ⟨rfl, txt_alloc w _ headings _ rfl, by simp, (Below.refl _ _).alloc (Nat.le_refl _) _⟩

theorem headsNames_any (w : World) : Calls Tryz.prog 81 #[] w fun e w' => e = .returned (.slice (some ⟨w.heap.size, 0, none⟩) 7 7) ∧ Txt w' w.heap.size heads ∧ w.heap.size < w'.heap.size ∧ Below w.heap.size w w' := by
  go_enter Tryz.func81, Tryz.ntmps81
  go_wp2
  go_ret
  exact ⟨rfl, txt_alloc w _ heads _ rfl, by simp, (Below.refl _ _).alloc (Nat.le_refl _) _⟩

theorem otherSpecialsNames_any (w : World) : Calls Tryz.prog 97 #[] w fun e w' => e = .returned (.slice (some ⟨w.heap.size, 0, none⟩) 31 31) ∧ Txt w' w.heap.size otherSpecials ∧ w.heap.size < w'.heap.size ∧ Below w.heap.size w w' := by
  go_enter Tryz.func97, Tryz.ntmps97
  go_wp2
  go_ret
  exact ⟨rfl, txt_alloc w _ otherSpecials _ rfl, by simp, (Below.refl _ _).alloc (Nat.le_refl _) _⟩

theorem impliedsNames_any (w : World) : Calls Tryz.prog 83 #[] w fun e w' => e = .returned (.slice (some ⟨w.heap.size, 0, none⟩) 6 6) ∧ Txt w' w.heap.size implieds ∧ w.heap.size < w'.heap.size ∧ Below w.heap.size w w' := by
  go_enter Tryz.func83, Tryz.ntmps83
  go_wp2
  go_ret
  exact ⟨rfl, txt_alloc w _ implieds _ rfl, by simp, (Below.refl _ _).alloc (Nat.le_refl _) _⟩

theorem boundsNames_any (w : World) : Calls Tryz.prog 62 #[] w fun e w' => e = .returned (.slice (some ⟨w.heap.size, 0, none⟩) 7 7) ∧ Txt w' w.heap.size bounds ∧ w.heap.size < w'.heap.size ∧ Below w.heap.size w w' := by
  go_enter Tryz.func62, Tryz.ntmps62
  go_wp2
  go_ret
  exact ⟨rfl, txt_alloc w _ bounds _ rfl, by simp, (Below.refl _ _).alloc (Nat.le_refl _) _⟩
end Go.Proofs.YthdfhckmgneioaaGreat
