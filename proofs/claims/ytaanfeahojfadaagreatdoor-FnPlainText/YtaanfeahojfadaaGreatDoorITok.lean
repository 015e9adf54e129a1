/- The contract of the program's TokenOk. -/
import Derived.Test.YtaanfeahojfadaaGreatDoorTok
namespace Go.Proofs.YtaanfeahojfadaaGreatDoor
open Go.RowKit
set_option maxRecDepth 100000
set_option linter.unusedVariables false

theorem doctypeNameOk_any (s : ByteArray) (w : World) (hs : s.size ≤ 1048576) : Calls Tryz.prog 30 #[.string s] w fun e w' => e = .returned (.bool (decide (s.size ≤ 60) && utfOk (bs s))) ∧ Below w.heap.size w w' := by
  have c1 := fun w => textOk_any s w (by omega)
  obtain ⟨u, eu⟩ : ∃ u, u = utfOk (bs s) := ⟨_, rfl⟩
  rw [← eu] at c1 ⊢
  have C1 := (show Hid _ from c1)
  clear c1 eu
  by_cases h60 : s.size ≤ 60
  · rw [decide_eq_true h60]
    go_enter Tryz.func30, Tryz.ntmps30
    go_wp2_with fail
    go_at_call 28
    refine (C1.out _).mono ?_
    rintro e w2 ⟨rfl, b2⟩
    go_wp2
    go_ret
    exact ⟨ret_bool (by simp), b2⟩
  · rw [decide_eq_false h60]
    go_enter Tryz.func30, Tryz.ntmps30
    go_wp2
    go_ret
    exact ⟨ret_bool (by simp), Below.refl _ _⟩

set_option maxHeartbeats 2000000 in
set_option maxRecDepth 100000 in
theorem itok_end {a : Option Addr} {n ca : Nat} {w : World} (nm tx : ByteArray) (sf : Bool) (hn : n ≤ 1048576) :
    Calls Tryz.prog 10 #[tokVal 1 nm (.slice a n ca) tx sf] w fun e w' => e = .returned (.bool (nm.toList.isEmpty && decide (n = 0) && tx.toList.isEmpty && !sf)) ∧ Below w.heap.size w w' := by
  have b1 : Below w.heap.size w ((w.alloc (.cells #[.int .i64 1, .string nm, (.slice a n ca), .string tx, .bool sf] 30)).alloc (.cells #[.int .i64 1, .string nm, (.slice a n ca), .string tx, .bool sf] 30)) := ((Below.refl _ _).alloc (Nat.le_refl _) _).alloc (by simp) _
  have CN := (show Hid (∀ w, Calls Tryz.prog 33 #[.agg #[.int .i64 1, .string nm, (.slice a n ca), .string tx, .bool sf]] w fun e w' => e = .returned (.bool (nm.toList.isEmpty && decide (n = 0) && tx.toList.isEmpty && !sf)) ∧ Below w.heap.size w w') from fun w => hasNothing_any 1 nm a n ca tx sf w (by omega))
  unfold tokVal
  obtain ⟨r, er⟩ : ∃ r, r = (nm.toList.isEmpty && decide (n = 0) && tx.toList.isEmpty && !sf) := ⟨_, rfl⟩
  rw [← er] at CN ⊢
  clear er
  go_enter Tryz.func10, Tryz.ntmps10
  go_wp2_with fail
  go_at_call 33
  refine (CN.out _).mono ?_
  rintro e w2 ⟨rfl, b2⟩
  go_wp2
  go_ret
  exact ⟨rfl, b1.trans (b2.mono b1.size)⟩

set_option maxHeartbeats 2000000 in
set_option maxRecDepth 100000 in
theorem itok_other {a : Option Addr} {n ca : Nat} {w : World} (k : Int) (nm tx : ByteArray) (sf : Bool) (hk : k ≠ 1 ∧ k ≠ 2 ∧ k ≠ 3 ∧ k ≠ 4 ∧ k ≠ 5 ∧ k ≠ 6) :
    Calls Tryz.prog 10 #[tokVal k nm (.slice a n ca) tx sf] w fun e w' => e = .returned (.bool false) ∧ Below w.heap.size w w' := by
  have b1 : Below w.heap.size w ((w.alloc (.cells #[.int .i64 k, .string nm, (.slice a n ca), .string tx, .bool sf] 30)).alloc (.cells #[.int .i64 k, .string nm, (.slice a n ca), .string tx, .bool sf] 30)) := ((Below.refl _ _).alloc (Nat.le_refl _) _).alloc (by simp) _
  unfold tokVal
  obtain ⟨k1, k2, k3, k4, k5, k6⟩ := hk
  have h1 : (k == 1) = false := by simpa using k1
  have h2 : (k == 2) = false := by simpa using k2
  have h3 : (k == 3) = false := by simpa using k3
  have h4 : (k == 4) = false := by simpa using k4
  have h5 : (k == 5) = false := by simpa using k5
  have h6 : (k == 6) = false := by simpa using k6
  go_enter Tryz.func10, Tryz.ntmps10
  go_wp2
  go_ret
  exact ⟨rfl, b1⟩

set_option maxHeartbeats 2000000 in
set_option maxRecDepth 100000 in
theorem itok_comment {a : Option Addr} {n ca : Nat} {w : World} (nm tx : ByteArray) (sf : Bool) (hn : n ≤ 1048576) (ht : tx.size ≤ 1048576) :
    Calls Tryz.prog 10 #[tokVal 3 nm (.slice a n ca) tx sf] w fun e w' => e = .returned (.bool (utfOk (bs tx) && (nm.toList.isEmpty && decide (n = 0) && (⟨#[]⟩ : ByteArray).toList.isEmpty && !sf))) ∧ Below w.heap.size w w' := by
  have b1 : Below w.heap.size w ((w.alloc (.cells #[.int .i64 3, .string nm, (.slice a n ca), .string tx, .bool sf] 30)).alloc (.cells #[.int .i64 3, .string nm, (.slice a n ca), .string tx, .bool sf] 30)) := ((Below.refl _ _).alloc (Nat.le_refl _) _).alloc (by simp) _
  have CN := (show Hid (∀ w, Calls Tryz.prog 33 #[.agg #[.int .i64 3, .string nm, (.slice a n ca), .string (⟨#[]⟩ : ByteArray), .bool sf]] w fun e w' => e = .returned (.bool (nm.toList.isEmpty && decide (n = 0) && (⟨#[]⟩ : ByteArray).toList.isEmpty && !sf)) ∧ Below w.heap.size w w') from fun w => hasNothing_any 3 nm a n ca (⟨#[]⟩ : ByteArray) sf w (by omega))
  unfold tokVal
  have c1 := fun w => textOk_any tx w (by omega)
  obtain ⟨u, eu⟩ : ∃ u, u = utfOk (bs tx) := ⟨_, rfl⟩
  rw [← eu] at c1 ⊢
  have C1 := (show Hid _ from c1)
  obtain ⟨r, er⟩ : ∃ r, r = (nm.toList.isEmpty && decide (n = 0) && (⟨#[]⟩ : ByteArray).toList.isEmpty && !sf) := ⟨_, rfl⟩
  rw [← er] at CN ⊢
  clear c1 eu er
  have hx0 : ((w.alloc (.cells #[.int .i64 3, .string nm, (.slice a n ca), .string tx, .bool sf] 30)).alloc (.cells #[.int .i64 3, .string nm, (.slice a n ca), .string tx, .bool sf] 30)).heap[w.heap.size + 1]? = some (.cells #[.int .i64 3, .string nm, (.slice a n ca), .string tx, .bool sf] 30 (0, 0)) := heap_alloc2_new _ _ _
  have HX0 := (show Hid _ from hx0)
  clear hx0
  go_enter Tryz.func10, Tryz.ntmps10
  go_wp2_with fail
  go_at_call 28
  refine (C1.out _).mono ?_
  rintro e w3 ⟨rfl, b3⟩
  have hx := (b3.block (w.heap.size + 1) (by simp)).trans HX0.out
  have x0 : w3.cell? ⟨w.heap.size + 1, 0, none⟩ = some (.int .i64 3) := by simp only [World.cell?, hx]; rfl
  have f0 : w3.frozen? ⟨w.heap.size + 1, 0, none⟩ = false := by simp only [World.frozen?, hx]; rfl
  have x1 : w3.cell? ⟨w.heap.size + 1, 1, none⟩ = some (.string nm) := by simp only [World.cell?, hx]; rfl
  have f1 : w3.frozen? ⟨w.heap.size + 1, 1, none⟩ = false := by simp only [World.frozen?, hx]; rfl
  have x2 : w3.cell? ⟨w.heap.size + 1, 2, none⟩ = some (.slice a n ca) := by simp only [World.cell?, hx]; rfl
  have f2 : w3.frozen? ⟨w.heap.size + 1, 2, none⟩ = false := by simp only [World.frozen?, hx]; rfl
  have x3 : w3.cell? ⟨w.heap.size + 1, 3, none⟩ = some (.string tx) := by simp only [World.cell?, hx]; rfl
  have f3 : w3.frozen? ⟨w.heap.size + 1, 3, none⟩ = false := by simp only [World.frozen?, hx]; rfl
  have x4 : w3.cell? ⟨w.heap.size + 1, 4, none⟩ = some (.bool sf) := by simp only [World.cell?, hx]; rfl
  have f4 : w3.frozen? ⟨w.heap.size + 1, 4, none⟩ = false := by simp only [World.frozen?, hx]; rfl
  replace b3 := b1.trans (b3.mono b1.size)
  have hlt := lt_of_block hx
  clear hx HX0
  cases u
  · go_wp2
    go_ret
    exact ⟨ret_bool (by simp), b3.setCell (Nat.le_succ _) _⟩
  · go_wp2_with fail
    go_at_call 33
    refine (CN.out _).mono ?_
    rintro e w4 ⟨rfl, b4⟩
    go_wp2
    go_ret
    exact ⟨ret_bool (by simp), (b3.setCell (Nat.le_succ _) _).trans (b4.mono (b3.setCell (Nat.le_succ _) _).size)⟩

set_option maxHeartbeats 2000000 in
set_option maxRecDepth 100000 in
theorem itok_doc {a : Option Addr} {n ca : Nat} {w : World} (nm tx : ByteArray) (sf : Bool) (hn : n ≤ 1048576) (ht : nm.size ≤ 1048576) :
    Calls Tryz.prog 10 #[tokVal 4 nm (.slice a n ca) tx sf] w fun e w' => e = .returned (.bool ((decide (nm.size ≤ 60) && utfOk (bs nm)) && ((⟨#[]⟩ : ByteArray).toList.isEmpty && decide (n = 0) && tx.toList.isEmpty && !sf))) ∧ Below w.heap.size w w' := by
  have b1 : Below w.heap.size w ((w.alloc (.cells #[.int .i64 4, .string nm, (.slice a n ca), .string tx, .bool sf] 30)).alloc (.cells #[.int .i64 4, .string nm, (.slice a n ca), .string tx, .bool sf] 30)) := ((Below.refl _ _).alloc (Nat.le_refl _) _).alloc (by simp) _
  have CN := (show Hid (∀ w, Calls Tryz.prog 33 #[.agg #[.int .i64 4, .string (⟨#[]⟩ : ByteArray), (.slice a n ca), .string tx, .bool sf]] w fun e w' => e = .returned (.bool ((⟨#[]⟩ : ByteArray).toList.isEmpty && decide (n = 0) && tx.toList.isEmpty && !sf)) ∧ Below w.heap.size w w') from fun w => hasNothing_any 4 (⟨#[]⟩ : ByteArray) a n ca tx sf w (by omega))
  unfold tokVal
  have c1 := fun w => doctypeNameOk_any nm w (by omega)
  obtain ⟨u, eu⟩ : ∃ u, u = (decide (nm.size ≤ 60) && utfOk (bs nm)) := ⟨_, rfl⟩
  rw [← eu] at c1 ⊢
  have C1 := (show Hid _ from c1)
  obtain ⟨r, er⟩ : ∃ r, r = ((⟨#[]⟩ : ByteArray).toList.isEmpty && decide (n = 0) && tx.toList.isEmpty && !sf) := ⟨_, rfl⟩
  rw [← er] at CN ⊢
  clear c1 eu er
  have hx0 : ((w.alloc (.cells #[.int .i64 4, .string nm, (.slice a n ca), .string tx, .bool sf] 30)).alloc (.cells #[.int .i64 4, .string nm, (.slice a n ca), .string tx, .bool sf] 30)).heap[w.heap.size + 1]? = some (.cells #[.int .i64 4, .string nm, (.slice a n ca), .string tx, .bool sf] 30 (0, 0)) := heap_alloc2_new _ _ _
  have HX0 := (show Hid _ from hx0)
  clear hx0
  go_enter Tryz.func10, Tryz.ntmps10
  go_wp2_with fail
  go_at_call 30
  refine (C1.out _).mono ?_
  rintro e w3 ⟨rfl, b3⟩
  have hx := (b3.block (w.heap.size + 1) (by simp)).trans HX0.out
  have x0 : w3.cell? ⟨w.heap.size + 1, 0, none⟩ = some (.int .i64 4) := by simp only [World.cell?, hx]; rfl
  have f0 : w3.frozen? ⟨w.heap.size + 1, 0, none⟩ = false := by simp only [World.frozen?, hx]; rfl
  have x1 : w3.cell? ⟨w.heap.size + 1, 1, none⟩ = some (.string nm) := by simp only [World.cell?, hx]; rfl
  have f1 : w3.frozen? ⟨w.heap.size + 1, 1, none⟩ = false := by simp only [World.frozen?, hx]; rfl
  have x2 : w3.cell? ⟨w.heap.size + 1, 2, none⟩ = some (.slice a n ca) := by simp only [World.cell?, hx]; rfl
  have f2 : w3.frozen? ⟨w.heap.size + 1, 2, none⟩ = false := by simp only [World.frozen?, hx]; rfl
  have x3 : w3.cell? ⟨w.heap.size + 1, 3, none⟩ = some (.string tx) := by simp only [World.cell?, hx]; rfl
  have f3 : w3.frozen? ⟨w.heap.size + 1, 3, none⟩ = false := by simp only [World.frozen?, hx]; rfl
  have x4 : w3.cell? ⟨w.heap.size + 1, 4, none⟩ = some (.bool sf) := by simp only [World.cell?, hx]; rfl
  have f4 : w3.frozen? ⟨w.heap.size + 1, 4, none⟩ = false := by simp only [World.frozen?, hx]; rfl
  replace b3 := b1.trans (b3.mono b1.size)
  have hlt := lt_of_block hx
  clear hx HX0
  cases u
  · go_wp2
    go_ret
    exact ⟨ret_bool (by simp), b3.setCell (Nat.le_succ _) _⟩
  · go_wp2_with fail
    go_at_call 33
    refine (CN.out _).mono ?_
    rintro e w4 ⟨rfl, b4⟩
    go_wp2
    go_ret
    exact ⟨ret_bool (by simp), (b3.setCell (Nat.le_succ _) _).trans (b4.mono (b3.setCell (Nat.le_succ _) _).size)⟩

set_option maxHeartbeats 2000000 in
set_option maxRecDepth 100000 in
theorem itok_close {a : Option Addr} {n ca : Nat} {w : World} (nm tx : ByteArray) (sf : Bool) (hn : n ≤ 1048576) (ht : nm.size ≤ 1048576) :
    Calls Tryz.prog 10 #[tokVal 6 nm (.slice a n ca) tx sf] w fun e w' => e = .returned (.bool (nameOk (bs nm) && ((⟨#[]⟩ : ByteArray).toList.isEmpty && decide (n = 0) && tx.toList.isEmpty && !sf))) ∧ Below w.heap.size w w' := by
  have b1 : Below w.heap.size w ((w.alloc (.cells #[.int .i64 6, .string nm, (.slice a n ca), .string tx, .bool sf] 30)).alloc (.cells #[.int .i64 6, .string nm, (.slice a n ca), .string tx, .bool sf] 30)) := ((Below.refl _ _).alloc (Nat.le_refl _) _).alloc (by simp) _
  have CN := (show Hid (∀ w, Calls Tryz.prog 33 #[.agg #[.int .i64 6, .string (⟨#[]⟩ : ByteArray), (.slice a n ca), .string tx, .bool sf]] w fun e w' => e = .returned (.bool ((⟨#[]⟩ : ByteArray).toList.isEmpty && decide (n = 0) && tx.toList.isEmpty && !sf)) ∧ Below w.heap.size w w') from fun w => hasNothing_any 6 (⟨#[]⟩ : ByteArray) a n ca tx sf w (by omega))
  unfold tokVal
  have c1 := fun w => inameOk_any nm w (by omega)
  obtain ⟨u, eu⟩ : ∃ u, u = nameOk (bs nm) := ⟨_, rfl⟩
  rw [← eu] at c1 ⊢
  have C1 := (show Hid _ from c1)
  obtain ⟨r, er⟩ : ∃ r, r = ((⟨#[]⟩ : ByteArray).toList.isEmpty && decide (n = 0) && tx.toList.isEmpty && !sf) := ⟨_, rfl⟩
  rw [← er] at CN ⊢
  clear c1 eu er
  have hx0 : ((w.alloc (.cells #[.int .i64 6, .string nm, (.slice a n ca), .string tx, .bool sf] 30)).alloc (.cells #[.int .i64 6, .string nm, (.slice a n ca), .string tx, .bool sf] 30)).heap[w.heap.size + 1]? = some (.cells #[.int .i64 6, .string nm, (.slice a n ca), .string tx, .bool sf] 30 (0, 0)) := heap_alloc2_new _ _ _
  have HX0 := (show Hid _ from hx0)
  clear hx0
  go_enter Tryz.func10, Tryz.ntmps10
  go_wp2_with fail
  go_at_call 31
  refine (C1.out _).mono ?_
  rintro e w3 ⟨rfl, b3⟩
  have hx := (b3.block (w.heap.size + 1) (by simp)).trans HX0.out
  have x0 : w3.cell? ⟨w.heap.size + 1, 0, none⟩ = some (.int .i64 6) := by simp only [World.cell?, hx]; rfl
  have f0 : w3.frozen? ⟨w.heap.size + 1, 0, none⟩ = false := by simp only [World.frozen?, hx]; rfl
  have x1 : w3.cell? ⟨w.heap.size + 1, 1, none⟩ = some (.string nm) := by simp only [World.cell?, hx]; rfl
  have f1 : w3.frozen? ⟨w.heap.size + 1, 1, none⟩ = false := by simp only [World.frozen?, hx]; rfl
  have x2 : w3.cell? ⟨w.heap.size + 1, 2, none⟩ = some (.slice a n ca) := by simp only [World.cell?, hx]; rfl
  have f2 : w3.frozen? ⟨w.heap.size + 1, 2, none⟩ = false := by simp only [World.frozen?, hx]; rfl
  have x3 : w3.cell? ⟨w.heap.size + 1, 3, none⟩ = some (.string tx) := by simp only [World.cell?, hx]; rfl
  have f3 : w3.frozen? ⟨w.heap.size + 1, 3, none⟩ = false := by simp only [World.frozen?, hx]; rfl
  have x4 : w3.cell? ⟨w.heap.size + 1, 4, none⟩ = some (.bool sf) := by simp only [World.cell?, hx]; rfl
  have f4 : w3.frozen? ⟨w.heap.size + 1, 4, none⟩ = false := by simp only [World.frozen?, hx]; rfl
  replace b3 := b1.trans (b3.mono b1.size)
  have hlt := lt_of_block hx
  clear hx HX0
  cases u
  · go_wp2
    go_ret
    exact ⟨ret_bool (by simp), b3.setCell (Nat.le_succ _) _⟩
  · go_wp2_with fail
    go_at_call 33
    refine (CN.out _).mono ?_
    rintro e w4 ⟨rfl, b4⟩
    go_wp2
    go_ret
    exact ⟨ret_bool (by simp), (b3.setCell (Nat.le_succ _) _).trans (b4.mono (b3.setCell (Nat.le_succ _) _).size)⟩
end Go.Proofs.YtaanfeahojfadaaGreatDoor
