import Derived.Test.YtiojilmclocmkaaGreatDoorB17
import Derived.Test.YtiojilmclocmkaaGreatDoorB18
import Derived.Deep.RegionHeld
import Derived.Test.YtiojilmclocmkaaGreatDoorB14
import Derived.Test.YtiojilmclocmkaaGreatDoorB9
/- The exact law of TokenOk, walked. -/
namespace Go.Proofs.YtiojilmclocmkaaGreatDoor
open Go.RowKit
set_option maxRecDepth 100000
set_option linter.unusedVariables false

theorem cell_keep {w w' : World} {p : Addr} {x : Value} (h : w.cell? p = some x) (hb : Below w.heap.size w w') : w'.cell? p = some x := by
  have hl : p.block < w.heap.size := by
    by_cases hl : p.block < w.heap.size
    · exact hl
    · exfalso
      obtain ⟨b, o, t⟩ := p
      simp only at hl
      simp [World.cell?, Array.getElem?_eq_none (Nat.le_of_not_lt hl)] at h
  exact (hb.cell hl).trans h
theorem ten_keep {w w1 w2 : World} {g h : Nat} {x0 x1 x2 x3 x4 y0 y1 y2 y3 y4 : Value} (H : w1.cell? ⟨g, 0, none⟩ = some x0 ∧ w1.cell? ⟨g, 1, none⟩ = some x1 ∧ w1.cell? ⟨g, 2, none⟩ = some x2 ∧ w1.cell? ⟨g, 3, none⟩ = some x3 ∧ w1.cell? ⟨g, 4, none⟩ = some x4 ∧ w1.cell? ⟨h, 0, none⟩ = some y0 ∧ w1.cell? ⟨h, 1, none⟩ = some y1 ∧ w1.cell? ⟨h, 2, none⟩ = some y2 ∧ w1.cell? ⟨h, 3, none⟩ = some y3 ∧ w1.cell? ⟨h, 4, none⟩ = some y4 ∧ Below w.heap.size w w1) (hb : Below w1.heap.size w1 w2) : w2.cell? ⟨g, 0, none⟩ = some x0 ∧ w2.cell? ⟨g, 1, none⟩ = some x1 ∧ w2.cell? ⟨g, 2, none⟩ = some x2 ∧ w2.cell? ⟨g, 3, none⟩ = some x3 ∧ w2.cell? ⟨g, 4, none⟩ = some x4 ∧ w2.cell? ⟨h, 0, none⟩ = some y0 ∧ w2.cell? ⟨h, 1, none⟩ = some y1 ∧ w2.cell? ⟨h, 2, none⟩ = some y2 ∧ w2.cell? ⟨h, 3, none⟩ = some y3 ∧ w2.cell? ⟨h, 4, none⟩ = some y4 ∧ Below w.heap.size w w2 := by
  obtain ⟨a0, a1, a2, a3, a4, c0, c1, c2, c3, c4, b⟩ := H
  exact ⟨cell_keep a0 hb, cell_keep a1 hb, cell_keep a2 hb, cell_keep a3 hb, cell_keep a4 hb, cell_keep c0 hb, cell_keep c1 hb, cell_keep c2 hb, cell_keep c3 hb, cell_keep c4 hb, b.trans (hb.mono b.size)⟩

end Go.Proofs.YtiojilmclocmkaaGreatDoor

/- The program's NextToken in plain text, and of a page that is too long. -/
namespace Go.Proofs.YtiojilmclocmkaaGreatDoor
open Go.RowKit
set_option maxRecDepth 100000
set_option linter.unusedVariables false

theorem map_clean_at (xs : List Int) (i : Nat) (h : i < xs.length) : (xs.map clean).getD i 0 = clean xs[i] := by
  simp [List.getD_eq_getElem?_getD, h]

/-- A char that is right: the bytes of one point, that is no mark. -/
theorem char_ok {x : Int} (h : pointOk x = true) (hm : x ≠ 65279) : tokenOk 2 ⟨#[]⟩ [] (strOf (put x)) false = true := by
  have hb : bs (strOf (put x)) = put x := put_str x
  have e1 : puts [x] = put x := by simp [puts]
  have hl := put_len x
  have hu : utfOk (put x) = true := by
    rw [← e1]
    refine ok_other (fun p hp => by simp at hp; subst hp; exact h) (fun t e => hm (by injection e)) ?_ (by simp)
    rw [e1]; omega
  have hr : utfRead (put x) = [x] := by
    rw [← e1]
    refine again_other (fun p hp => by simp at hp; subst hp; exact h) (fun t e => hm (by injection e)) ?_
    rw [e1]; omega
  have e0 : (⟨#[]⟩ : ByteArray).toList.isEmpty = true := by unfold ByteArray.toList; rw [ByteArray.toList.loop]; rfl
  have hd : dec (put x) = [x] := by rw [← read_ok hu]; exact hr
  unfold tokenOk
  rw [if_neg (by decide), if_pos rfl, hb, hu, e0, hd]
  rfl

theorem clean_char {x : Int} (h : pointOk x = true) (hm : x ≠ 65279) : pointOk (clean x) = true ∧ clean x ≠ 65279 := by
  refine ⟨(clean_ok x).1, ?_⟩
  unfold clean
  split
  · decide
  · exact hm

/-- In plain text each point is a token. -/
theorem next_plain {v : Value} {xs : List Int} {w : World} (h : Sl .i64 w v xs) (i : Nat) (hi : i < xs.length) (hl : xs.length ≤ 3000) :
    Calls Tryz.prog 6 #[v, .int .i64 i, .int .i64 4, .string ⟨#[]⟩] w fun e w' => ∃ a c, e = .returned (.tuple #[tokVal 2 ⟨#[]⟩ (.slice a 0 c) (strOf (put (clean xs[i]))) false, .int .i64 ((i : Int) + 1)]) ∧ Sv 2 w' (.slice a 0 c) (pairCells []) ∧ Below w.heap.size w w' := by
  refine (nextToken_of h ⟨#[]⟩ (n := 4) (j := i + 1) (m := 2) (t := ⟨2, ⟨#[]⟩, [], strOf (put ((xs.map clean).getD i 0)), false⟩) hi hl ⟨by omega, by omega⟩ (fun w0 g v _ => goes_plain (by simpa using hi))).mono ?_
  rintro e w' ⟨u, rfl, ⟨va, rfl, row⟩, bel⟩
  rw [map_clean_at xs i hi]
  obtain ⟨a, c, rfl, _⟩ := (sv_of_own row).pair
  exact ⟨a, c, rfl, sv_of_own row, bel⟩

theorem next_long {v : Value} {xs : List Int} {w : World} (h : Sl .i64 w v xs) (hl : 3000 < xs.length) (hn : xs.length ≤ 1048576) :
    Calls Tryz.prog 6 #[v, .int .i64 0, .int .i64 4, .string ⟨#[]⟩] w fun e w' => e = .returned (.tuple #[tokVal 0 ⟨#[]⟩ (.slice none 0 0) ⟨#[]⟩ false, .int .i64 0]) ∧ Below w.heap.size w w' := by
  obtain ⟨a, ca, rfl, _, _, _, _⟩ := h
  rename_i x1 x2 x3 x4
  clear x1 x2 x3 x4
  have hb : (w.alloc (.cells #[.int .i64 0, .string ⟨#[]⟩, .slice none 0 0, .string ⟨#[]⟩, .bool false] 28)).heap[w.heap.size]? = some (.cells #[.int .i64 0, .string ⟨#[]⟩, .slice none 0 0, .string ⟨#[]⟩, .bool false] 28 (0, 0)) := heap_alloc_new _ _
  have hne : xs ≠ [] := by intro e; subst e; simp at hl
  have hne2 : ¬ ((xs.length : Int) ≤ 0) := by omega
  have hne3 : ¬ (xs.length ≤ 0) := by omega
  go_enter Tryz.func6, Tryz.ntmps6
  go_wp2
  (try simp only [Exit.inBlock, Exit.then])
  refine bodyPost_ret (tok_res (f := Tryz.f6) (p := 8) (q := 9) rfl rfl rfl hb) rfl ?_
  exact ⟨rfl, (Below.refl _ _).alloc (Nat.le_refl _) _⟩
end Go.Proofs.YtiojilmclocmkaaGreatDoor

/- The contracts of the draws of chapter 3: some number; some list of points with a place in it. -/
namespace Go.Proofs.YtiojilmclocmkaaGreatDoor
open Go.RowKit
set_option maxRecDepth 100000
set_option linter.unusedVariables false

set_option maxHeartbeats 1000000 in
set_option maxRecDepth 100000 in
theorem drawRef_any {w0 : World} {g : Nat} {v : Value} {xs : List Int} {w : World} (h : Cur w0 g v xs w) (hb : ∀ x ∈ xs, 0 ≤ x ∧ x ≤ 255) :
    Calls Tryz.prog 25 #[.pointer (some ⟨g, 0, none⟩)] w fun e w' => ∃ s : ByteArray, e = .returned (.string s) ∧ s.size ≤ 100 ∧ Cur w0 g v xs w' ∧ w.grownBy w' (some g) := by
  have HB : Hid (∀ x ∈ xs, 0 ≤ x ∧ x ≤ 255) := hb
  clear hb
  go_enter Tryz.func25, Tryz.ntmps25
  go_wp2_with fail
  go_at_call 26
  refine (pickS_any h HB.out [⟨#[38, 97, 109, 112, 59]⟩, ⟨#[38, 97, 109, 112]⟩, ⟨#[38, 97, 109, 112, 120]⟩, ⟨#[38, 108, 116, 61]⟩, ⟨#[38, 110, 111, 116, 105, 110, 59]⟩, ⟨#[38, 110, 111, 116, 105, 116]⟩, ⟨#[38, 110, 111, 116]⟩, ⟨#[38, 35, 54, 53, 59]⟩, ⟨#[38, 35, 120, 52, 49]⟩, ⟨#[38, 35, 88, 52, 97, 59]⟩, ⟨#[38, 35, 59]⟩, ⟨#[38, 35, 120, 59]⟩, ⟨#[38, 35, 49, 50, 56, 59]⟩, ⟨#[38, 35, 48, 59]⟩, ⟨#[38, 35, 120, 70, 70, 70, 70, 70, 70, 70, 70, 59]⟩, ⟨#[38, 35, 48, 48, 48, 48, 48, 48, 48, 48, 48, 54, 53, 59]⟩, ⟨#[38]⟩, ⟨#[38, 120, 59]⟩, ⟨#[38, 99, 111, 112, 121, 57]⟩, ⟨#[38, 115, 117, 112, 49, 59]⟩, ⟨#[38, 102, 114, 97, 99, 49, 50]⟩, ⟨#[38, 104, 101, 108, 108, 105, 112, 59]⟩, ⟨#[38, 35, 53, 53, 50, 57, 54, 59]⟩, ⟨#[38, 35, 49, 50, 51, 52, 53, 54, 55, 56, 59]⟩] (by simp) (by simp) _ rfl 24 rfl).mono ?_
  rintro e w1 ⟨t, rfl, ht, k1, g1⟩
  have hts : t.size ≤ 20 := by
    have : ∀ t ∈ ([⟨#[38, 97, 109, 112, 59]⟩, ⟨#[38, 97, 109, 112]⟩, ⟨#[38, 97, 109, 112, 120]⟩, ⟨#[38, 108, 116, 61]⟩, ⟨#[38, 110, 111, 116, 105, 110, 59]⟩, ⟨#[38, 110, 111, 116, 105, 116]⟩, ⟨#[38, 110, 111, 116]⟩, ⟨#[38, 35, 54, 53, 59]⟩, ⟨#[38, 35, 120, 52, 49]⟩, ⟨#[38, 35, 88, 52, 97, 59]⟩, ⟨#[38, 35, 59]⟩, ⟨#[38, 35, 120, 59]⟩, ⟨#[38, 35, 49, 50, 56, 59]⟩, ⟨#[38, 35, 48, 59]⟩, ⟨#[38, 35, 120, 70, 70, 70, 70, 70, 70, 70, 70, 59]⟩, ⟨#[38, 35, 48, 48, 48, 48, 48, 48, 48, 48, 48, 54, 53, 59]⟩, ⟨#[38]⟩, ⟨#[38, 120, 59]⟩, ⟨#[38, 99, 111, 112, 121, 57]⟩, ⟨#[38, 115, 117, 112, 49, 59]⟩, ⟨#[38, 102, 114, 97, 99, 49, 50]⟩, ⟨#[38, 104, 101, 108, 108, 105, 112, 59]⟩, ⟨#[38, 35, 53, 53, 50, 57, 54, 59]⟩, ⟨#[38, 35, 49, 50, 51, 52, 53, 54, 55, 56, 59]⟩] : List ByteArray), t.size ≤ 20 := by decide
    exact this t ht
  clear ht
  go_wp2
  go_ret
  exact ⟨t, rfl, by omega, k1, g1⟩

theorem l3Points_any (s : ByteArray) (w : World) (hs : s.size ≤ 1000000) : Calls Tryz.prog 10 #[.string s] w fun e w' => ∃ v zs, e = .returned v ∧ Own w.heap.size 3 .i64 w' v zs ∧ zs.length ≤ s.size ∧ Below w.heap.size w w' := by
  obtain ⟨cap, w1, hc, hk, hcap, hm, hb⟩ := conv_str s w (by unfold maxLen; omega)
  have hl := bs_len s
  have hsl := hk.sl (n := s.size) (cap := cap) (by omega) (by omega) hm
  have hu := l1Read_any hsl (bs_byte s) (by omega)
  have hd : (dec (bs s)).length ≤ s.size := by have := dec_len _ (bs s) (Nat.le_refl _); omega
  clear hk
  go_enter Tryz.func10, Tryz.ntmps10
  go_wp2_with fail
  go_at_call 24
  refine hu.mono ?_
  rintro e w2 ⟨v2, rfl, o2, b2⟩
  go_wp2
  go_ret
  exact ⟨_, _, rfl, o2.base hb.size, hd, hb.trans (b2.mono hb.size)⟩
end Go.Proofs.YtiojilmclocmkaaGreatDoor
