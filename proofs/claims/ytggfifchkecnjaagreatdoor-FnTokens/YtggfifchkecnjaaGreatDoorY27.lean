/- The contract of the program's TokenOk. -/
import Derived.Test.YtggfifchkecnjaaGreatDoorY24
import Derived.Test.YtggfifchkecnjaaGreatDoorY21
import Derived.Test.YtggfifchkecnjaaGreatDoorY25
import Derived.Test.YtggfifchkecnjaaGreatDoorY22
import Derived.Test.YtggfifchkecnjaaGreatDoorY26
namespace Go.Proofs.YtggfifchkecnjaaGreatDoor
open Go.RowKit
set_option maxRecDepth 100000
set_option linter.unusedVariables false

theorem doctypeNameOk_any (s : ByteArray) (w : World) (hs : s.size ≤ 1048576) : Calls Tryz.prog 27 #[.string s] w fun e w' => e = .returned (.bool (decide (s.size ≤ 60) && utfOk (bs s))) ∧ Below w.heap.size w w' := by
  have c1 := fun w => textOk_any s w (by omega)
  obtain ⟨u, eu⟩ : ∃ u, u = utfOk (bs s) := ⟨_, rfl⟩
  rw [← eu] at c1 ⊢
  have C1 := (show Hid _ from c1)
  clear c1 eu
  by_cases h60 : s.size ≤ 60
  · rw [decide_eq_true h60]
    go_enter Tryz.func27, Tryz.ntmps27
    go_wp2_with fail
    go_at_call 25
    refine (C1.out _).mono ?_
    rintro e w2 ⟨rfl, b2⟩
    go_wp2
    go_ret
    exact ⟨ret_bool (by simp), b2⟩
  · rw [decide_eq_false h60]
    go_enter Tryz.func27, Tryz.ntmps27
    go_wp2
    go_ret
    exact ⟨ret_bool (by simp), Below.refl _ _⟩

set_option maxHeartbeats 2000000 in
set_option maxRecDepth 100000 in
theorem itok_end {a : Option Addr} {n ca : Nat} {w : World} (nm tx : ByteArray) (sf : Bool) (hn : n ≤ 1048576) :
    Calls Tryz.prog 9 #[tokVal 1 nm (.slice a n ca) tx sf] w fun e w' => e = .returned (.bool (nm.toList.isEmpty && decide (n = 0) && tx.toList.isEmpty && !sf)) ∧ Below w.heap.size w w' := by
  have b1 : Below w.heap.size w ((w.alloc (.cells #[.int .i64 1, .string nm, (.slice a n ca), .string tx, .bool sf] 30)).alloc (.cells #[.int .i64 1, .string nm, (.slice a n ca), .string tx, .bool sf] 30)) := ((Below.refl _ _).alloc (Nat.le_refl _) _).alloc (by simp) _
  have CN := (show Hid (∀ w, Calls Tryz.prog 30 #[.agg #[.int .i64 1, .string nm, (.slice a n ca), .string tx, .bool sf]] w fun e w' => e = .returned (.bool (nm.toList.isEmpty && decide (n = 0) && tx.toList.isEmpty && !sf)) ∧ Below w.heap.size w w') from fun w => hasNothing_any 1 nm a n ca tx sf w (by omega))
  unfold tokVal
  obtain ⟨r, er⟩ : ∃ r, r = (nm.toList.isEmpty && decide (n = 0) && tx.toList.isEmpty && !sf) := ⟨_, rfl⟩
  rw [← er] at CN ⊢
  clear er
  go_enter Tryz.func9, Tryz.ntmps9
  go_wp2_with fail
  go_at_call 30
  refine (CN.out _).mono ?_
  rintro e w2 ⟨rfl, b2⟩
  go_wp2
  go_ret
  exact ⟨rfl, b1.trans (b2.mono b1.size)⟩

set_option maxHeartbeats 2000000 in
set_option maxRecDepth 100000 in
theorem itok_other {a : Option Addr} {n ca : Nat} {w : World} (k : Int) (nm tx : ByteArray) (sf : Bool) (hk : k ≠ 1 ∧ k ≠ 2 ∧ k ≠ 3 ∧ k ≠ 4 ∧ k ≠ 5 ∧ k ≠ 6) :
    Calls Tryz.prog 9 #[tokVal k nm (.slice a n ca) tx sf] w fun e w' => e = .returned (.bool false) ∧ Below w.heap.size w w' := by
  have b1 : Below w.heap.size w ((w.alloc (.cells #[.int .i64 k, .string nm, (.slice a n ca), .string tx, .bool sf] 30)).alloc (.cells #[.int .i64 k, .string nm, (.slice a n ca), .string tx, .bool sf] 30)) := ((Below.refl _ _).alloc (Nat.le_refl _) _).alloc (by simp) _
  unfold tokVal
  obtain ⟨k1, k2, k3, k4, k5, k6⟩ := hk
  have h1 : (k == 1) = false := by simpa using k1
  have h2 : (k == 2) = false := by simpa using k2
  have h3 : (k == 3) = false := by simpa using k3
  have h4 : (k == 4) = false := by simpa using k4
  have h5 : (k == 5) = false := by simpa using k5
  have h6 : (k == 6) = false := by simpa using k6
  go_enter Tryz.func9, Tryz.ntmps9
  go_wp2
  go_ret
  exact ⟨rfl, b1⟩

set_option maxHeartbeats 2000000 in
set_option maxRecDepth 100000 in
theorem itok_comment {a : Option Addr} {n ca : Nat} {w : World} (nm tx : ByteArray) (sf : Bool) (hn : n ≤ 1048576) (ht : tx.size ≤ 1048576) :
    Calls Tryz.prog 9 #[tokVal 3 nm (.slice a n ca) tx sf] w fun e w' => e = .returned (.bool (utfOk (bs tx) && (nm.toList.isEmpty && decide (n = 0) && (⟨#[]⟩ : ByteArray).toList.isEmpty && !sf))) ∧ Below w.heap.size w w' := by
  have b1 : Below w.heap.size w ((w.alloc (.cells #[.int .i64 3, .string nm, (.slice a n ca), .string tx, .bool sf] 30)).alloc (.cells #[.int .i64 3, .string nm, (.slice a n ca), .string tx, .bool sf] 30)) := ((Below.refl _ _).alloc (Nat.le_refl _) _).alloc (by simp) _
  have CN := (show Hid (∀ w, Calls Tryz.prog 30 #[.agg #[.int .i64 3, .string nm, (.slice a n ca), .string (⟨#[]⟩ : ByteArray), .bool sf]] w fun e w' => e = .returned (.bool (nm.toList.isEmpty && decide (n = 0) && (⟨#[]⟩ : ByteArray).toList.isEmpty && !sf)) ∧ Below w.heap.size w w') from fun w => hasNothing_any 3 nm a n ca (⟨#[]⟩ : ByteArray) sf w (by omega))
  unfold tokVal
  have c1 := fun w => textOk_any tx w (by omega)
  obtain ⟨u, eu⟩ : ∃ u, u = utfOk (bs tx) := ⟨_, rfl⟩
  rw [← eu] at c1 ⊢
  have C1 := (show Hid _ from c1)
  obtain ⟨r, er⟩ : ∃ r, r = (nm.toList.isEmpty && decide (n = 0) && (⟨#[]⟩ : ByteArray).toList.isEmpty && !sf) := ⟨_, rfl⟩
  rw [← er] at CN ⊢
  clear c1 eu er
  have hx0 : ((w.alloc (.cells #[.int .i64 3, .string nm, (.slice a n ca), .string tx, .bool sf] 30)).alloc (.cells #[.int .i64 3, .string nm, (.slice a n ca), .string tx, .bool sf] 30)).heap[w.heap.size + 1]? = some (.cells #[.int .i64 3, .string nm, (.slice a n ca), .string tx, .bool sf] 30 (0, 0)) := heap_alloc2_new _ _ _
  have HX0 := (show Hid _ from hx0)
  clear hx0
  go_enter Tryz.func9, Tryz.ntmps9
  go_wp2_with fail
  go_at_call 25
  refine (C1.out _).mono ?_
  rintro e w3 ⟨rfl, b3⟩
  have hx := (b3.block (w.heap.size + 1) (by simp)).trans HX0.out
  have x0 : w3.cell? ⟨w.heap.size + 1, 0, none⟩ = some (.int .i64 3) := by simp only [World.cell?, hx]; rfl
  have f0 : w3.frozen? ⟨w.heap.size + 1, 0, none⟩ = false := by simp only [World.frozen?, hx]; rfl
  have x1 : w3.cell? ⟨w.heap.size + 1, 1, none⟩ = some (.string nm) := by simp only [World.cell?, hx]; rfl
  have f1 : w3.frozen? ⟨w.heap.size + 1, 1, none⟩ = false := by simp only [World.frozen?, hx]; rfl
  have x2 : w3.cell? ⟨w.heap.size + 1, 2, none⟩ = some (.slice a n ca) := by simp only [World.cell?, hx]; rfl
  have f2 : w3.frozen? ⟨w.heap.size + 1, 2, none⟩ = false := by simp only [World.frozen?, hx]; rfl
  have x3 : w3.cell? ⟨w.heap.size + 1, 3, none⟩ = some (.string tx) := by simp only [World.cell?, hx]; rfl
  have f3 : w3.frozen? ⟨w.heap.size + 1, 3, none⟩ = false := by simp only [World.frozen?, hx]; rfl
  have x4 : w3.cell? ⟨w.heap.size + 1, 4, none⟩ = some (.bool sf) := by simp only [World.cell?, hx]; rfl
  have f4 : w3.frozen? ⟨w.heap.size + 1, 4, none⟩ = false := by simp only [World.frozen?, hx]; rfl
  replace b3 := b1.trans (b3.mono b1.size)
  have hlt := lt_of_block hx
  clear hx HX0
  cases u
  · go_wp2
    go_ret
    exact ⟨ret_bool (by simp), b3.setCell (Nat.le_succ _) _⟩
  · go_wp2_with fail
    go_at_call 30
    refine (CN.out _).mono ?_
    rintro e w4 ⟨rfl, b4⟩
    go_wp2
    go_ret
    exact ⟨ret_bool (by simp), (b3.setCell (Nat.le_succ _) _).trans (b4.mono (b3.setCell (Nat.le_succ _) _).size)⟩

set_option maxHeartbeats 2000000 in
set_option maxRecDepth 100000 in
theorem itok_doc {a : Option Addr} {n ca : Nat} {w : World} (nm tx : ByteArray) (sf : Bool) (hn : n ≤ 1048576) (ht : nm.size ≤ 1048576) :
    Calls Tryz.prog 9 #[tokVal 4 nm (.slice a n ca) tx sf] w fun e w' => e = .returned (.bool ((decide (nm.size ≤ 60) && utfOk (bs nm)) && ((⟨#[]⟩ : ByteArray).toList.isEmpty && decide (n = 0) && tx.toList.isEmpty && !sf))) ∧ Below w.heap.size w w' := by
  have b1 : Below w.heap.size w ((w.alloc (.cells #[.int .i64 4, .string nm, (.slice a n ca), .string tx, .bool sf] 30)).alloc (.cells #[.int .i64 4, .string nm, (.slice a n ca), .string tx, .bool sf] 30)) := ((Below.refl _ _).alloc (Nat.le_refl _) _).alloc (by simp) _
  have CN := (show Hid (∀ w, Calls Tryz.prog 30 #[.agg #[.int .i64 4, .string (⟨#[]⟩ : ByteArray), (.slice a n ca), .string tx, .bool sf]] w fun e w' => e = .returned (.bool ((⟨#[]⟩ : ByteArray).toList.isEmpty && decide (n = 0) && tx.toList.isEmpty && !sf)) ∧ Below w.heap.size w w') from fun w => hasNothing_any 4 (⟨#[]⟩ : ByteArray) a n ca tx sf w (by omega))
  unfold tokVal
  have c1 := fun w => doctypeNameOk_any nm w (by omega)
  obtain ⟨u, eu⟩ : ∃ u, u = (decide (nm.size ≤ 60) && utfOk (bs nm)) := ⟨_, rfl⟩
  rw [← eu] at c1 ⊢
  have C1 := (show Hid _ from c1)
  obtain ⟨r, er⟩ : ∃ r, r = ((⟨#[]⟩ : ByteArray).toList.isEmpty && decide (n = 0) && tx.toList.isEmpty && !sf) := ⟨_, rfl⟩
  rw [← er] at CN ⊢
  clear c1 eu er
  have hx0 : ((w.alloc (.cells #[.int .i64 4, .string nm, (.slice a n ca), .string tx, .bool sf] 30)).alloc (.cells #[.int .i64 4, .string nm, (.slice a n ca), .string tx, .bool sf] 30)).heap[w.heap.size + 1]? = some (.cells #[.int .i64 4, .string nm, (.slice a n ca), .string tx, .bool sf] 30 (0, 0)) := heap_alloc2_new _ _ _
  have HX0 := (show Hid _ from hx0)
  clear hx0
  go_enter Tryz.func9, Tryz.ntmps9
  go_wp2_with fail
  go_at_call 27
  refine (C1.out _).mono ?_
  rintro e w3 ⟨rfl, b3⟩
  have hx := (b3.block (w.heap.size + 1) (by simp)).trans HX0.out
  have x0 : w3.cell? ⟨w.heap.size + 1, 0, none⟩ = some (.int .i64 4) := by simp only [World.cell?, hx]; rfl
  have f0 : w3.frozen? ⟨w.heap.size + 1, 0, none⟩ = false := by simp only [World.frozen?, hx]; rfl
  have x1 : w3.cell? ⟨w.heap.size + 1, 1, none⟩ = some (.string nm) := by simp only [World.cell?, hx]; rfl
  have f1 : w3.frozen? ⟨w.heap.size + 1, 1, none⟩ = false := by simp only [World.frozen?, hx]; rfl
  have x2 : w3.cell? ⟨w.heap.size + 1, 2, none⟩ = some (.slice a n ca) := by simp only [World.cell?, hx]; rfl
  have f2 : w3.frozen? ⟨w.heap.size + 1, 2, none⟩ = false := by simp only [World.frozen?, hx]; rfl
  have x3 : w3.cell? ⟨w.heap.size + 1, 3, none⟩ = some (.string tx) := by simp only [World.cell?, hx]; rfl
  have f3 : w3.frozen? ⟨w.heap.size + 1, 3, none⟩ = false := by simp only [World.frozen?, hx]; rfl
  have x4 : w3.cell? ⟨w.heap.size + 1, 4, none⟩ = some (.bool sf) := by simp only [World.cell?, hx]; rfl
  have f4 : w3.frozen? ⟨w.heap.size + 1, 4, none⟩ = false := by simp only [World.frozen?, hx]; rfl
  replace b3 := b1.trans (b3.mono b1.size)
  have hlt := lt_of_block hx
  clear hx HX0
  cases u
  · go_wp2
    go_ret
    exact ⟨ret_bool (by simp), b3.setCell (Nat.le_succ _) _⟩
  · go_wp2_with fail
    go_at_call 30
    refine (CN.out _).mono ?_
    rintro e w4 ⟨rfl, b4⟩
    go_wp2
    go_ret
    exact ⟨ret_bool (by simp), (b3.setCell (Nat.le_succ _) _).trans (b4.mono (b3.setCell (Nat.le_succ _) _).size)⟩

set_option maxHeartbeats 2000000 in
set_option maxRecDepth 100000 in
theorem itok_close {a : Option Addr} {n ca : Nat} {w : World} (nm tx : ByteArray) (sf : Bool) (hn : n ≤ 1048576) (ht : nm.size ≤ 1048576) :
    Calls Tryz.prog 9 #[tokVal 6 nm (.slice a n ca) tx sf] w fun e w' => e = .returned (.bool (nameOk (bs nm) && ((⟨#[]⟩ : ByteArray).toList.isEmpty && decide (n = 0) && tx.toList.isEmpty && !sf))) ∧ Below w.heap.size w w' := by
  have b1 : Below w.heap.size w ((w.alloc (.cells #[.int .i64 6, .string nm, (.slice a n ca), .string tx, .bool sf] 30)).alloc (.cells #[.int .i64 6, .string nm, (.slice a n ca), .string tx, .bool sf] 30)) := ((Below.refl _ _).alloc (Nat.le_refl _) _).alloc (by simp) _
  have CN := (show Hid (∀ w, Calls Tryz.prog 30 #[.agg #[.int .i64 6, .string (⟨#[]⟩ : ByteArray), (.slice a n ca), .string tx, .bool sf]] w fun e w' => e = .returned (.bool ((⟨#[]⟩ : ByteArray).toList.isEmpty && decide (n = 0) && tx.toList.isEmpty && !sf)) ∧ Below w.heap.size w w') from fun w => hasNothing_any 6 (⟨#[]⟩ : ByteArray) a n ca tx sf w (by omega))
  unfold tokVal
  have c1 := fun w => inameOk_any nm w (by omega)
  obtain ⟨u, eu⟩ : ∃ u, u = nameOk (bs nm) := ⟨_, rfl⟩
  rw [← eu] at c1 ⊢
  have C1 := (show Hid _ from c1)
  obtain ⟨r, er⟩ : ∃ r, r = ((⟨#[]⟩ : ByteArray).toList.isEmpty && decide (n = 0) && tx.toList.isEmpty && !sf) := ⟨_, rfl⟩
  rw [← er] at CN ⊢
  clear c1 eu er
  have hx0 : ((w.alloc (.cells #[.int .i64 6, .string nm, (.slice a n ca), .string tx, .bool sf] 30)).alloc (.cells #[.int .i64 6, .string nm, (.slice a n ca), .string tx, .bool sf] 30)).heap[w.heap.size + 1]? = some (.cells #[.int .i64 6, .string nm, (.slice a n ca), .string tx, .bool sf] 30 (0, 0)) := heap_alloc2_new _ _ _
  have HX0 := (show Hid _ from hx0)
  clear hx0
  go_enter Tryz.func9, Tryz.ntmps9
  go_wp2_with fail
  go_at_call 28
  refine (C1.out _).mono ?_
  rintro e w3 ⟨rfl, b3⟩
  have hx := (b3.block (w.heap.size + 1) (by simp)).trans HX0.out
  have x0 : w3.cell? ⟨w.heap.size + 1, 0, none⟩ = some (.int .i64 6) := by simp only [World.cell?, hx]; rfl
  have f0 : w3.frozen? ⟨w.heap.size + 1, 0, none⟩ = false := by simp only [World.frozen?, hx]; rfl
  have x1 : w3.cell? ⟨w.heap.size + 1, 1, none⟩ = some (.string nm) := by simp only [World.cell?, hx]; rfl
  have f1 : w3.frozen? ⟨w.heap.size + 1, 1, none⟩ = false := by simp only [World.frozen?, hx]; rfl
  have x2 : w3.cell? ⟨w.heap.size + 1, 2, none⟩ = some (.slice a n ca) := by simp only [World.cell?, hx]; rfl
  have f2 : w3.frozen? ⟨w.heap.size + 1, 2, none⟩ = false := by simp only [World.frozen?, hx]; rfl
  have x3 : w3.cell? ⟨w.heap.size + 1, 3, none⟩ = some (.string tx) := by simp only [World.cell?, hx]; rfl
  have f3 : w3.frozen? ⟨w.heap.size + 1, 3, none⟩ = false := by simp only [World.frozen?, hx]; rfl
  have x4 : w3.cell? ⟨w.heap.size + 1, 4, none⟩ = some (.bool sf) := by simp only [World.cell?, hx]; rfl
  have f4 : w3.frozen? ⟨w.heap.size + 1, 4, none⟩ = false := by simp only [World.frozen?, hx]; rfl
  replace b3 := b1.trans (b3.mono b1.size)
  have hlt := lt_of_block hx
  clear hx HX0
  cases u
  · go_wp2
    go_ret
    exact ⟨ret_bool (by simp), b3.setCell (Nat.le_succ _) _⟩
  · go_wp2_with fail
    go_at_call 30
    refine (CN.out _).mono ?_
    rintro e w4 ⟨rfl, b4⟩
    go_wp2
    go_ret
    exact ⟨ret_bool (by simp), (b3.setCell (Nat.le_succ _) _).trans (b4.mono (b3.setCell (Nat.le_succ _) _).size)⟩
end Go.Proofs.YtggfifchkecnjaaGreatDoor

/- The contract of the specification's TokenOk. -/
namespace Go.Proofs.YtggfifchkecnjaaGreatDoor
open Go.RowKit
set_option maxRecDepth 100000
set_option linter.unusedVariables false

end Go.Proofs.YtggfifchkecnjaaGreatDoor

/- The contract of the program's RefRead. -/
namespace Go.Proofs.YtggfifchkecnjaaGreatDoor
open Go.RowKit
set_option maxRecDepth 100000
set_option linter.unusedVariables false

theorem refList_low : ∀ r ∈ refList, 97 ≤ (bs r.1).getD 0 0 := by decide
theorem best_hash {xs : List Int} {k : Nat} (h : atL xs k = 35) : (best xs k refList).1.size = 0 := by
  obtain ⟨s1, s2, s3⟩ := best_spec xs k refList (⟨#[]⟩, 0) (best xs k refList) rfl
  rcases s1 with e | ⟨hm, hs⟩
  · rw [e]; rfl
  · exfalso
    have h0 := (refList_plain _ hm).2.2
    have := stands_iff.mp hs 0 (by rw [bs_len]; exact h0)
    have hf := refList_low _ hm
    rw [Nat.add_zero] at this
    omega

theorem nameAns_eq (xs : List Int) (k : Nat) (b : Bool) : (nameAns xs (k + 1) b = .tuple #[.int .i64 0, .int .i64 0, .bool false] ∧ refName xs k b = ([38], (k : Int) + 1)) ∨ ∃ p n, nameAns xs (k + 1) b = .tuple #[.int .i64 p, .int .i64 n, .bool true] ∧ refName xs k b = ([p], n) := by
  unfold nameAns refName
  simp only
  by_cases h0 : (best xs (k + 1) refList).1.size = 0
  · rw [if_pos (.inl h0), if_pos h0]; exact .inl ⟨rfl, rfl⟩
  · rw [if_neg h0]
    rcases hb : (b && (((bs (best xs (k + 1) refList).1).getD ((best xs (k + 1) refList).1.size - 1) 0 != 59) && (atL xs (k + 1 + (best xs (k + 1) refList).1.size) == 61 || (inB (atL xs (k + 1 + (best xs (k + 1) refList).1.size)) 65 90 || inB (atL xs (k + 1 + (best xs (k + 1) refList).1.size)) 97 122) || decide (0 ≤ digitOf (atL xs (k + 1 + (best xs (k + 1) refList).1.size)) 10)))) with _ | _
    · right
      rw [if_neg (by rintro (h | h); exact h0 h; cases h), if_neg (by rw [Bool.and_assoc, hb]; decide)]
      exact ⟨_, _, rfl, by push_cast; rfl⟩
    · left
      rw [if_pos (.inr rfl), if_pos (by rw [Bool.and_assoc, hb])]
      exact ⟨rfl, rfl⟩

set_option maxHeartbeats 4000000 in
set_option maxRecDepth 100000 in
theorem irefRead_none {v : Value} {xs : List Int} {w : World} (h : Sl .i64 w v xs) (i : Int) (b : Bool) (hn : xs.length ≤ 1048576) (hw : (Lit.int .i64 i).wf = true) (hi : 3000 < xs.length ∨ inB i 0 (xs.length - 1) = false ∨ xs.getD i.toNat 0 ≠ 38) :
    Calls Tryz.prog 112 #[v, .int .i64 i, .bool b] w (Reads w (refRead xs i b)) := by
  rw [refRead_none hi]
  obtain ⟨a, ca, rfl, _, _, _, ha⟩ := h
  by_cases h1 : 3000 < xs.length
  · clear ha
    go_enter Tryz.func112, Tryz.ntmps112
    go_wp2
    go_ret2
    exact ⟨_, rfl, own_empty _ _ _, (Below.refl _ _).alloc (Nat.le_refl _) _⟩
  by_cases h2 : i < 0
  · clear ha
    go_enter Tryz.func112, Tryz.ntmps112
    go_wp2
    go_ret2
    exact ⟨_, rfl, own_empty _ _ _, (Below.refl _ _).alloc (Nat.le_refl _) _⟩
  by_cases h3 : xs.length ≤ i
  · clear ha
    go_enter Tryz.func112, Tryz.ntmps112
    go_wp2
    go_ret2
    exact ⟨_, rfl, own_empty _ _ _, (Below.refl _ _).alloc (Nat.le_refl _) _⟩
  obtain ⟨k, rfl⟩ : ∃ k : Nat, i = k := ⟨i.toNat, by omega⟩
  have hk : k < xs.length := by omega
  have h4 : xs.getD k 0 ≠ 38 := by
    rcases hi with hi | hi | hi
    · exact absurd hi h1
    · rw [inB_yes (by omega) (by omega)] at hi; cases hi
    · rwa [Int.toNat_natCast] at hi
  obtain ⟨b1, o1, rfl, k1⟩ := ha k hk
  have e3 : (xs.getD k 0 != 38) = true := by simpa using h4
  obtain ⟨y, hy⟩ : ∃ y, y = xs.getD k 0 := ⟨_, rfl⟩
  rw [← hy] at k1 e3
  clear ha hy h4 hi
  go_enter Tryz.func112, Tryz.ntmps112
  go_wp2
  go_ret2
  exact ⟨_, rfl, own_empty _ _ _, (Below.refl _ _).alloc (Nat.le_refl _) _⟩

set_option maxHeartbeats 4000000 in
set_option maxRecDepth 100000 in
theorem irefRead_at {v : Value} {xs : List Int} {w : World} (ho : Older w) (h : Sl .i64 w v xs) (k : Nat) (b : Bool) (h1 : xs.length ≤ 3000) (hk : k < xs.length) (h3 : xs.getD k 0 = 38) :
    Calls Tryz.prog 112 #[v, .int .i64 k, .bool b] w (Reads w (refRead xs k b)) := by
  have c1 := refByNumber_any ho h (k + 1) h1 (by omega)
  have C2 := (show Hid (∀ w', Below w.heap.size w w' → Calls Tryz.prog 131 #[v, .int .i64 (k + 1 : Nat), .bool b] w' fun e w'' => e = .returned (nameAns xs (k + 1) b) ∧ Below w'.heap.size w' w'') from fun w' hb => refByName_any (h.below hb) (k + 1) b h1 (by omega))
  have e1 : ((k + 1 : Nat) : Int) = (k : Int) + 1 := by omega
  rw [e1] at c1 C2
  obtain ⟨a, ca, rfl, _, _, _, ha⟩ := h
  obtain ⟨b1, o1, rfl, k1⟩ := ha k hk
  rw [h3] at k1
  have hnum : ∀ p : Int × Int, 0 < p.2 → numAns p = .tuple #[.int .i64 p.1, .int .i64 p.2, .bool true] := fun p hp => by unfold numAns; rw [if_pos hp]
  have hnum0 : ∀ p : Int × Int, ¬ 0 < p.2 → numAns p = .tuple #[.int .i64 0, .int .i64 0, .bool false] := fun p hp => by unfold numAns; rw [if_neg hp]
  by_cases h35 : atL xs (k + 1) = 35
  · rw [refRead_num h1 hk h3 h35]
    rw [if_pos h35] at c1
    obtain ⟨p, hp⟩ : ∃ p, p = refNum xs (k + 2) := ⟨_, rfl⟩
    rw [← hp]
    rw [show k + 1 + 1 = k + 2 from rfl, ← hp] at c1
    by_cases hp2 : 0 < p.2
    · rw [hnum p hp2] at c1
      rw [if_pos hp2]
      clear ha h3 hnum hnum0 ho C2 h35 hp
      go_enter Tryz.func112, Tryz.ntmps112
      go_wp2_with fail
      go_at_call 130
      refine c1.mono ?_
      rintro e w2 ⟨rfl, b2⟩
      go_wp2
      go_ret2
      exact ⟨_, rfl, (own1 _ _).base b2.size, b2.alloc b2.size _⟩
    · rw [hnum0 p hp2] at c1
      rw [if_neg hp2]
      have c2 := C2.out
      have e2 : nameAns xs (k + 1) b = .tuple #[.int .i64 0, .int .i64 0, .bool false] := by unfold nameAns; simp only; rw [if_pos (.inl (best_hash h35))]
      rw [e2] at c2
      have C3 := (show Hid _ from c2)
      clear ha h3 hnum hnum0 ho C2 h35 hp c2 e2
      go_enter Tryz.func112, Tryz.ntmps112
      go_wp2_with fail
      go_at_call 130
      refine c1.mono ?_
      rintro e w2 ⟨rfl, b2⟩
      go_wp2_with fail
      go_at_call 131
      refine (C3.out _ b2).mono ?_
      rintro e w3 ⟨rfl, b3⟩
      have b4 := b2.trans (b3.mono b2.size)
      go_wp2
      go_ret2
      exact ⟨_, rfl, (own1 _ _).base b4.size, b4.alloc b4.size _⟩
  · rw [refRead_name h1 hk h3 h35]
    rw [if_neg h35] at c1
    rcases nameAns_eq xs k b with ⟨ea, er⟩ | ⟨p, n, ea, er⟩
    · rw [er]
      have c2 := C2.out
      rw [ea] at c2
      have C3 := (show Hid _ from c2)
      clear ha h3 hnum hnum0 ho C2 h35 c2 ea er
      go_enter Tryz.func112, Tryz.ntmps112
      go_wp2_with fail
      go_at_call 130
      refine c1.mono ?_
      rintro e w2 ⟨rfl, b2⟩
      go_wp2_with fail
      go_at_call 131
      refine (C3.out _ b2).mono ?_
      rintro e w3 ⟨rfl, b3⟩
      have b4 := b2.trans (b3.mono b2.size)
      go_wp2
      go_ret2
      exact ⟨_, rfl, (own1 _ _).base b4.size, b4.alloc b4.size _⟩
    · rw [er]
      have c2 := C2.out
      rw [ea] at c2
      have C3 := (show Hid _ from c2)
      clear ha h3 hnum hnum0 ho C2 h35 c2 ea er
      go_enter Tryz.func112, Tryz.ntmps112
      go_wp2_with fail
      go_at_call 130
      refine c1.mono ?_
      rintro e w2 ⟨rfl, b2⟩
      go_wp2_with fail
      go_at_call 131
      refine (C3.out _ b2).mono ?_
      rintro e w3 ⟨rfl, b3⟩
      have b4 := b2.trans (b3.mono b2.size)
      go_wp2
      go_ret2
      exact ⟨_, rfl, (own1 _ _).base b4.size, b4.alloc b4.size _⟩

theorem irefRead_any {v : Value} {xs : List Int} {w : World} (ho : Older w) (h : Sl .i64 w v xs) (i : Int) (b : Bool) (hw : (Lit.int .i64 i).wf = true) (hn : xs.length ≤ 1048576) :
    Calls Tryz.prog 112 #[v, .int .i64 i, .bool b] w (Reads w (refRead xs i b)) := by
  by_cases hi : 3000 < xs.length ∨ inB i 0 (xs.length - 1) = false ∨ xs.getD i.toNat 0 ≠ 38
  · exact irefRead_none h i b hn hw hi
  · have h1 : xs.length ≤ 3000 := by omega
    have h2 : inB i 0 (xs.length - 1) = true := by
      rcases h2 : inB i 0 (xs.length - 1) with _ | _
      · exact absurd (.inr (.inl h2)) hi
      · rfl
    have h3 : xs.getD i.toNat 0 = 38 := by
      by_cases h3 : xs.getD i.toNat 0 = 38
      · exact h3
      · exact absurd (.inr (.inr h3)) hi
    have h4 : 0 ≤ i ∧ i ≤ xs.length - 1 := by unfold inB at h2; simpa using h2
    obtain ⟨k, rfl⟩ : ∃ k : Nat, i = k := ⟨i.toNat, by omega⟩
    rw [Int.toNat_natCast] at h3
    exact irefRead_at ho h k b h1 (by omega) h3
end Go.Proofs.YtggfifchkecnjaaGreatDoor

/- The contract of the program's AttrAdd. -/
namespace Go.Proofs.YtggfifchkecnjaaGreatDoor
open Go.RowKit
set_option maxRecDepth 100000
set_option linter.unusedVariables false

theorem one_pair (w : World) (n v : ByteArray) : Sv 2 (w.alloc (.cells #[.string n, .string v] 81)) (.slice (some ⟨w.heap.size, 0, none⟩) 1 1) (pairCells [(n, v)]) := by
  refine ⟨some ⟨w.heap.size, 0, none⟩, 1, 1, rfl, rfl, Nat.le_refl _, by unfold maxLen; omega, (fun e => by cases e), fun i hi => ⟨w.heap.size, 0, rfl, ?_⟩⟩
  have hi2 : i < 2 := hi
  have hb := heap_alloc_new w (.cells #[.string n, .string v] 81)
  rcases (show i = 0 ∨ i = 1 by omega) with rfl | rfl
  · simp only [World.cell?, hb]; rfl
  · simp only [World.cell?, hb]; rfl

set_option maxHeartbeats 2000000 in
set_option maxRecDepth 100000 in
theorem attrAddOk : AttrAddOk := by
  intro v rs p w h hs hp1 hp2
  obtain ⟨pn, pv⟩ := p
  simp only at hp1 hp2
  have HS := (show Hid (Sv 2 w v (pairCells rs)) from h)
  have hlen := hs.1
  obtain ⟨a, ca, rfl, _, _, _⟩ := h.pair
  clear h
  obtain ⟨wx, hwx⟩ : ∃ wx, wx = w.alloc (.cells #[.string pn, .string pv] 81) := ⟨_, rfl⟩
  have bx : Below w.heap.size w wx := by rw [hwx]; exact (Below.refl _ _).alloc (Nat.le_refl _) _
  have hsx : wx.heap.size = w.heap.size + 1 := by rw [hwx]; simp
  have hxb : wx.heap[w.heap.size]? = some (.cells #[.string pn, .string pv] 81 (0, 0)) := by rw [hwx]; exact heap_alloc_new _ _
  have co := iattrOf_any (HS.out.below bx) pn (by omega)
  have CK := (show Hid (∀ w, Calls Tryz.prog 58 #[.agg #[.string pn, .string pv]] w fun e w' => e = .returned (.bool (attrOk (pn, pv))) ∧ Below w.heap.size w w') from fun w => iattrOk_any pn pv w hp1 hp2)
  obtain ⟨q, hq⟩ : ∃ q, q = attrOf rs pn := ⟨_, rfl⟩
  rw [← hq] at co
  obtain ⟨r, hr⟩ : ∃ r, r = attrOk (pn, pv) := ⟨_, rfl⟩
  rw [← hr] at CK
  have HA : Hid (attrAdd rs (pn, pv) = if q.2 || decide (20 ≤ rs.length) || !r then rs else rs ++ [(pn, pv)]) := by show _ = _; unfold attrAdd; rw [hq, hr]
  obtain ⟨qv, qb⟩ := q
  simp only at co HA
  have HXB := (show Hid _ from hxb)
  have HSX := (show Hid _ from hsx)
  have BX := (show Hid _ from bx)
  clear hq hr hxb hsx bx
  subst hwx
  have nilS : ∀ w : World, Sv 2 w (.slice none 0 0) [] := fun w => ⟨none, 0, 0, rfl, rfl, Nat.le_refl _, Nat.zero_le _, fun _ => rfl, fun i hi => absurd hi (by simp)⟩
  have NS := (show Hid _ from nilS)
  clear nilS
  have fin : ∀ (w3 w4 : World) (v' : Value) (n : Nat) (cs : List Value), Below w.heap.size w w3 → w4.ownsRow w3.heap.size 81 2 v' n cs → Below w3.heap.size w3 w4 → w4.ownsRow w.heap.size 81 2 v' n cs ∧ Below w.heap.size w w4 := fun w3 w4 v' n cs h1 h2 h3 => ⟨row_base h2 h1.size, h1.trans (h3.mono h1.size)⟩
  have FIN := (show Hid _ from fin)
  clear fin
  go_enter Tryz.func134, Tryz.ntmps134
  go_wp2_with fail
  go_at_call 57
  refine co.mono ?_
  rintro e w2 ⟨rfl, b2⟩
  have hx2 := (b2.block w.heap.size (by have := HSX.out; omega)).trans HXB.out
  have x0 : w2.cell? ⟨w.heap.size, 0, none⟩ = some (.string pn) := by simp [World.cell?, hx2]
  have x1 : w2.cell? ⟨w.heap.size, 1, none⟩ = some (.string pv) := by simp [World.cell?, hx2]
  replace b2 := BX.out.trans (b2.mono BX.out.size)
  have HX2 := (show Hid _ from hx2)
  clear co hx2
  cases qb
  · by_cases h20 : 20 ≤ rs.length
    · have HA2 : Hid (attrAdd rs (pn, pv) = rs) := HA.out.trans (if_pos (by simp [h20]))
      go_wp2_with fail
      go_at_call 145
      refine (with_none (HS.out.below b2) (NS.out _) hlen).mono ?_
      rintro e w3 ⟨v3, rfl, o3, b3⟩
      go_wp2
      go_ret
      refine ⟨_, rfl, ?_⟩
      rw [HA2.out]
      exact FIN.out _ _ _ _ _ b2 o3 b3
    · have h20' : rs.length < 20 := by omega
      go_wp2_with fail
      go_at_call 58
      refine (CK.out _).mono ?_
      rintro e w3 ⟨rfl, b3⟩
      have hx3 := (b3.block w.heap.size (lt_of_block HX2.out)).trans HX2.out
      have y0 : w3.cell? ⟨w.heap.size, 0, none⟩ = some (.string pn) := by simp [World.cell?, hx3]
      have y1 : w3.cell? ⟨w.heap.size, 1, none⟩ = some (.string pv) := by simp [World.cell?, hx3]
      replace b3 := b2.trans (b3.mono b2.size)
      clear hx3
      cases r
      · have HA2 : Hid (attrAdd rs (pn, pv) = rs) := HA.out.trans (if_pos (by simp))
        go_wp2_with fail
        go_at_call 145
        refine (with_none (HS.out.below b3) (NS.out _) hlen).mono ?_
        rintro e w4 ⟨v4, rfl, o4, b4⟩
        go_wp2
        go_ret
        refine ⟨_, rfl, ?_⟩
        rw [HA2.out]
        exact FIN.out _ _ _ _ _ b3 o4 b4
      · have HA2 : Hid (attrAdd rs (pn, pv) = rs ++ [(pn, pv)]) := HA.out.trans (if_neg (by simp; omega))
        have b4 := b3.alloc b3.size (.cells #[.string pn, .string pv] 81)
        go_wp2_with fail
        go_at_call 145
        refine (with_some (HS.out.below b4) (one_pair w3 pn pv) hlen (by simp) (by simp)).mono ?_
        rintro e w4 ⟨v4, rfl, o4, b5⟩
        go_wp2
        go_ret
        refine ⟨_, rfl, ?_⟩
        rw [HA2.out]
        exact FIN.out _ _ _ _ _ b4 o4 b5
  · have HA2 : Hid (attrAdd rs (pn, pv) = rs) := HA.out.trans (if_pos (by simp))
    go_wp2_with fail
    go_at_call 145
    refine (with_none (HS.out.below b2) (NS.out _) hlen).mono ?_
    rintro e w3 ⟨v3, rfl, o3, b3⟩
    go_wp2
    go_ret
    refine ⟨_, rfl, ?_⟩
    rw [HA2.out]
    exact FIN.out _ _ _ _ _ b2 o3 b3
end Go.Proofs.YtggfifchkecnjaaGreatDoor
