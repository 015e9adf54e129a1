/- The program's NextToken in plain text, and of a page that is too long. -/
import Derived.Test.YtaanfeahojfadaaGreatDoorICut4
import Derived.Test.YtaanfeahojfadaaGreatDoorITok2
import Derived.Test.YtaanfeahojfadaaGreatDoorPts
import Derived.Test.YtaanfeahojfadaaGreatDoorWTok
namespace Go.Proofs.YtaanfeahojfadaaGreatDoor
open Go.RowKit
set_option maxRecDepth 100000
set_option linter.unusedVariables false

theorem map_clean_at (xs : List Int) (i : Nat) (h : i < xs.length) : (xs.map clean).getD i 0 = clean xs[i] := by
  simp [List.getD_eq_getElem?_getD, h]

/-- A char that is right: the bytes of one point, that is no mark. -/
theorem char_ok {x : Int} (h : pointOk x = true) (hm : x ≠ 65279) : tokenOk 2 ⟨#[]⟩ [] (strOf (put x)) false = true := by
  have hb : bs (strOf (put x)) = put x := put_str x
  have e1 : puts [x] = put x := by simp [puts]
  have hl := put_len x
  have hu : utfOk (put x) = true := by
    rw [← e1]
    refine ok_other (fun p hp => by simp at hp; subst hp; exact h) (fun t e => hm (by injection e)) ?_ (by simp)
    rw [e1]; omega
  have hr : utfRead (put x) = [x] := by
    rw [← e1]
    refine again_other (fun p hp => by simp at hp; subst hp; exact h) (fun t e => hm (by injection e)) ?_
    rw [e1]; omega
  have e0 : (⟨#[]⟩ : ByteArray).toList.isEmpty = true := by unfold ByteArray.toList; rw [ByteArray.toList.loop]; rfl
  have hd : dec (put x) = [x] := by rw [← read_ok hu]; exact hr
  unfold tokenOk
  rw [if_neg (by decide), if_pos rfl, hb, hu, e0, hd]
  rfl

theorem clean_char {x : Int} (h : pointOk x = true) (hm : x ≠ 65279) : pointOk (clean x) = true ∧ clean x ≠ 65279 := by
  refine ⟨(clean_ok x).1, ?_⟩
  unfold clean
  split
  · decide
  · exact hm

/-- In plain text each point is a token. -/
theorem next_plain {v : Value} {xs : List Int} {w : World} (h : Sl .i64 w v xs) (i : Nat) (hi : i < xs.length) (hl : xs.length ≤ 3000) :
    Calls Tryz.prog 11 #[v, .int .i64 i, .int .i64 4, .string ⟨#[]⟩] w fun e w' => ∃ a c, e = .returned (.tuple #[tokVal 2 ⟨#[]⟩ (.slice a 0 c) (strOf (put (clean xs[i]))) false, .int .i64 ((i : Int) + 1)]) ∧ Sv 2 w' (.slice a 0 c) (pairCells []) ∧ Below w.heap.size w w' := by
  refine (nextToken_of h ⟨#[]⟩ (n := 4) (j := i + 1) (m := 2) (t := ⟨2, ⟨#[]⟩, [], strOf (put ((xs.map clean).getD i 0)), false⟩) hi hl ⟨by omega, by omega⟩ (fun w0 g v _ => goes_plain (by simpa using hi))).mono ?_
  rintro e w' ⟨u, rfl, ⟨va, rfl, row⟩, bel⟩
  rw [map_clean_at xs i hi]
  obtain ⟨a, c, rfl, _⟩ := (sv_of_own row).pair
  exact ⟨a, c, rfl, sv_of_own row, bel⟩

theorem next_long {v : Value} {xs : List Int} {w : World} (h : Sl .i64 w v xs) (hl : 3000 < xs.length) (hn : xs.length ≤ 1048576) :
    Calls Tryz.prog 11 #[v, .int .i64 0, .int .i64 4, .string ⟨#[]⟩] w fun e w' => e = .returned (.tuple #[tokVal 0 ⟨#[]⟩ (.slice none 0 0) ⟨#[]⟩ false, .int .i64 0]) ∧ Below w.heap.size w w' := by
  obtain ⟨a, ca, rfl, _, _, _, _⟩ := h
  rename_i x1 x2 x3 x4
  clear x1 x2 x3 x4
  have hb : (w.alloc (.cells #[.int .i64 0, .string ⟨#[]⟩, .slice none 0 0, .string ⟨#[]⟩, .bool false] 30)).heap[w.heap.size]? = some (.cells #[.int .i64 0, .string ⟨#[]⟩, .slice none 0 0, .string ⟨#[]⟩, .bool false] 30 (0, 0)) := heap_alloc_new _ _
  have hne : xs ≠ [] := by intro e; subst e; simp at hl
  have hne2 : ¬ ((xs.length : Int) ≤ 0) := by omega
  have hne3 : ¬ (xs.length ≤ 0) := by omega
  go_enter Tryz.func11, Tryz.ntmps11
  go_wp2
  (try simp only [Exit.inBlock, Exit.then])
  refine bodyPost_ret (tok_res (f := Tryz.f11) (p := 8) (q := 9) rfl rfl rfl hb) rfl ?_
  exact ⟨rfl, (Below.refl _ _).alloc (Nat.le_refl _) _⟩
end Go.Proofs.YtaanfeahojfadaaGreatDoor
