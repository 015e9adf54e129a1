/- The contract of the program's TokenOk, of a char and of an open tag, and of any token. -/
import Derived.Test.YtggfifchkecnjaaGreatDoorY27
namespace Go.Proofs.YtggfifchkecnjaaGreatDoor
open Go.RowKit
set_option maxRecDepth 100000
set_option linter.unusedVariables false

set_option maxHeartbeats 4000000 in
set_option maxRecDepth 100000 in
theorem itok_char {a : Option Addr} {n ca : Nat} {w : World} (nm tx : ByteArray) (sf : Bool) (hn : n ≤ 1048576) (ht : tx.size ≤ 1048576) :
    Calls Tryz.prog 9 #[tokVal 2 nm (.slice a n ca) tx sf] w fun e w' => e = .returned (.bool ((utfOk (bs tx) && decide ((utfRead (bs tx)).length = 1)) && (nm.toList.isEmpty && decide (n = 0) && (⟨#[]⟩ : ByteArray).toList.isEmpty && !sf))) ∧ Below w.heap.size w w' := by
  have b1 : Below w.heap.size w ((w.alloc (.cells #[.int .i64 2, .string nm, (.slice a n ca), .string tx, .bool sf] 30)).alloc (.cells #[.int .i64 2, .string nm, (.slice a n ca), .string tx, .bool sf] 30)) := ((Below.refl _ _).alloc (Nat.le_refl _) _).alloc (by simp) _
  have CN := (show Hid (∀ w, Calls Tryz.prog 30 #[.agg #[.int .i64 2, .string nm, (.slice a n ca), .string (⟨#[]⟩ : ByteArray), .bool sf]] w fun e w' => e = .returned (.bool (nm.toList.isEmpty && decide (n = 0) && (⟨#[]⟩ : ByteArray).toList.isEmpty && !sf)) ∧ Below w.heap.size w w') from fun w => hasNothing_any 2 nm a n ca (⟨#[]⟩ : ByteArray) sf w (by omega))
  unfold tokVal
  obtain ⟨r, er⟩ : ∃ r, r = (nm.toList.isEmpty && decide (n = 0) && (⟨#[]⟩ : ByteArray).toList.isEmpty && !sf) := ⟨_, rfl⟩
  rw [← er] at CN ⊢
  clear er
  have hx0 : ((w.alloc (.cells #[.int .i64 2, .string nm, (.slice a n ca), .string tx, .bool sf] 30)).alloc (.cells #[.int .i64 2, .string nm, (.slice a n ca), .string tx, .bool sf] 30)).heap[w.heap.size + 1]? = some (.cells #[.int .i64 2, .string nm, (.slice a n ca), .string tx, .bool sf] 30 (0, 0)) := heap_alloc2_new _ _ _
  have HX0 := (show Hid _ from hx0)
  have hy0 : ((w.alloc (.cells #[.int .i64 2, .string nm, (.slice a n ca), .string tx, .bool sf] 30)).alloc (.cells #[.int .i64 2, .string nm, (.slice a n ca), .string tx, .bool sf] 30)).heap[w.heap.size]? = some (.cells #[.int .i64 2, .string nm, (.slice a n ca), .string tx, .bool sf] 30 (0, 0)) := (heap_alloc_old _ _ (by simp)).trans (heap_alloc_new _ _)
  have HY0 := (show Hid _ from hy0)
  clear hx0 hy0
  have c1 := fun w => textOk_any tx w (by omega)
  obtain ⟨u, eu⟩ : ∃ u, u = utfOk (bs tx) := ⟨_, rfl⟩
  rw [← eu] at c1 ⊢
  have C1 := (show Hid _ from c1)
  obtain ⟨ds, hds⟩ : ∃ ds, ds = utfRead (bs tx) := ⟨_, rfl⟩
  rw [← hds]
  have HDS := (show Hid (ds = utfRead (bs tx)) from hds)
  clear c1 eu hds
  go_enter Tryz.func9, Tryz.ntmps9
  go_wp2_with fail
  go_at_call 25
  refine (C1.out _).mono ?_
  rintro e w3 ⟨rfl, b3⟩
  have hx := (b3.block (w.heap.size + 1) (by simp)).trans HX0.out
  have hy := (b3.block w.heap.size (by simp; omega)).trans HY0.out
  have x0 : w3.cell? ⟨w.heap.size + 1, 0, none⟩ = some (.int .i64 2) := by simp only [World.cell?, hx]; rfl
  have fx0 : w3.frozen? ⟨w.heap.size + 1, 0, none⟩ = false := by simp only [World.frozen?, hx]; rfl
  have x1 : w3.cell? ⟨w.heap.size + 1, 1, none⟩ = some (.string nm) := by simp only [World.cell?, hx]; rfl
  have fx1 : w3.frozen? ⟨w.heap.size + 1, 1, none⟩ = false := by simp only [World.frozen?, hx]; rfl
  have x2 : w3.cell? ⟨w.heap.size + 1, 2, none⟩ = some (.slice a n ca) := by simp only [World.cell?, hx]; rfl
  have fx2 : w3.frozen? ⟨w.heap.size + 1, 2, none⟩ = false := by simp only [World.frozen?, hx]; rfl
  have x3 : w3.cell? ⟨w.heap.size + 1, 3, none⟩ = some (.string tx) := by simp only [World.cell?, hx]; rfl
  have fx3 : w3.frozen? ⟨w.heap.size + 1, 3, none⟩ = false := by simp only [World.frozen?, hx]; rfl
  have x4 : w3.cell? ⟨w.heap.size + 1, 4, none⟩ = some (.bool sf) := by simp only [World.cell?, hx]; rfl
  have fx4 : w3.frozen? ⟨w.heap.size + 1, 4, none⟩ = false := by simp only [World.frozen?, hx]; rfl
  have y0 : w3.cell? ⟨w.heap.size, 0, none⟩ = some (.int .i64 2) := by simp only [World.cell?, hy]; rfl
  have y1 : w3.cell? ⟨w.heap.size, 1, none⟩ = some (.string nm) := by simp only [World.cell?, hy]; rfl
  have y2 : w3.cell? ⟨w.heap.size, 2, none⟩ = some (.slice a n ca) := by simp only [World.cell?, hy]; rfl
  have y3 : w3.cell? ⟨w.heap.size, 3, none⟩ = some (.string tx) := by simp only [World.cell?, hy]; rfl
  have y4 : w3.cell? ⟨w.heap.size, 4, none⟩ = some (.bool sf) := by simp only [World.cell?, hy]; rfl
  have HX := (show Hid _ from hx)
  replace b3 := b1.trans (b3.mono b1.size)
  have hlt := lt_of_block hx
  clear hx hy HX0 HY0
  cases u
  · go_wp2
    go_ret
    exact ⟨ret_bool (by simp), b3.setCell (Nat.le_succ _) _⟩
  · obtain ⟨cap, w4, hc, hkk, hcap, hm, hb⟩ := conv_str tx w3 (by unfold maxLen; omega)
    have hl := bs_len tx
    have hsl := hkk.sl (n := tx.size) (cap := cap) (by omega) (by omega) hm
    have hu := iread_any hsl (bs_byte tx) (by omega)
    have hdl := utfRead_len (bs tx)
    rw [← HDS.out] at hu hdl
    have hb4 := (hb.block (w.heap.size + 1) hlt).trans HX.out
    have b4 := b3.trans (hb.mono b3.size)
    have hlt4 := lt_of_block hb4
    have HB4 := (show Hid _ from hb4)
    clear hkk hsl hb hb4 HDS x0 x1 x2 x3 x4 fx0 fx1 fx2 fx3 fx4
    go_wp2_with fail
    go_at_call 26
    refine hu.mono ?_
    rintro e w5 ⟨v5, rfl, o5, b5⟩
    have hx := (b5.block (w.heap.size + 1) hlt4).trans HB4.out
    have x0 : w5.cell? ⟨w.heap.size + 1, 0, none⟩ = some (.int .i64 2) := by simp only [World.cell?, hx]; rfl
    have fx0 : w5.frozen? ⟨w.heap.size + 1, 0, none⟩ = false := by simp only [World.frozen?, hx]; rfl
    have x1 : w5.cell? ⟨w.heap.size + 1, 1, none⟩ = some (.string nm) := by simp only [World.cell?, hx]; rfl
    have fx1 : w5.frozen? ⟨w.heap.size + 1, 1, none⟩ = false := by simp only [World.frozen?, hx]; rfl
    have x2 : w5.cell? ⟨w.heap.size + 1, 2, none⟩ = some (.slice a n ca) := by simp only [World.cell?, hx]; rfl
    have fx2 : w5.frozen? ⟨w.heap.size + 1, 2, none⟩ = false := by simp only [World.frozen?, hx]; rfl
    have x3 : w5.cell? ⟨w.heap.size + 1, 3, none⟩ = some (.string tx) := by simp only [World.cell?, hx]; rfl
    have fx3 : w5.frozen? ⟨w.heap.size + 1, 3, none⟩ = false := by simp only [World.frozen?, hx]; rfl
    have x4 : w5.cell? ⟨w.heap.size + 1, 4, none⟩ = some (.bool sf) := by simp only [World.cell?, hx]; rfl
    have fx4 : w5.frozen? ⟨w.heap.size + 1, 4, none⟩ = false := by simp only [World.frozen?, hx]; rfl
    replace b5 := b4.trans (b5.mono b4.size)
    have hsh := o5.shape
    clear hx HB4 o5 b4 y0 y1 y2 y3 y4
    by_cases h1 : ds.length = 1
    · rcases hsh with ⟨rfl, hnil⟩ | ⟨gg, cg, rfl, _⟩
      · rw [hnil] at h1; simp at h1
      · have h1' : ((ds.length : Int) == 1) = true := by rw [beq_iff_eq]; omega
        go_wp2_with fail
        go_at_call 30
        refine (CN.out _).mono ?_
        rintro e w6 ⟨rfl, b6⟩
        go_wp2
        go_ret
        exact ⟨ret_bool (by simp [h1]), (b5.setCell (Nat.le_succ _) _).trans (b6.mono (b5.setCell (Nat.le_succ _) _).size)⟩
    · rcases hsh with ⟨rfl, hnil⟩ | ⟨gg, cg, rfl, _⟩
      · go_wp2
        go_ret
        exact ⟨ret_bool (by simp [h1]), b5.setCell (Nat.le_succ _) _⟩
      · have h1' : ((ds.length : Int) == 1) = false := by rw [beq_eq_false_iff_ne]; omega
        go_wp2
        go_ret
        exact ⟨ret_bool (by simp [h1]), b5.setCell (Nat.le_succ _) _⟩

set_option maxHeartbeats 4000000 in
set_option maxRecDepth 100000 in
theorem itok_open {a : Option Addr} {n ca : Nat} {rs : List (ByteArray × ByteArray)} {w : World} (h : Sv 2 w (.slice a n ca) (pairCells rs)) (nm tx : ByteArray) (sf : Bool) (hf : TokFit nm rs tx) :
    Calls Tryz.prog 9 #[tokVal 5 nm (.slice a n ca) tx sf] w fun e w' => e = .returned (.bool ((nameOk (bs nm) && attrsOk rs) && ((⟨#[]⟩ : ByteArray).toList.isEmpty && decide (0 = 0) && tx.toList.isEmpty && !false))) ∧ Below w.heap.size w w' := by
  have b1 : Below w.heap.size w ((w.alloc (.cells #[.int .i64 5, .string nm, (.slice a n ca), .string tx, .bool sf] 30)).alloc (.cells #[.int .i64 5, .string nm, (.slice a n ca), .string tx, .bool sf] 30)) := ((Below.refl _ _).alloc (Nat.le_refl _) _).alloc (by simp) _
  have CN := (show Hid (∀ w, Calls Tryz.prog 30 #[.agg #[.int .i64 5, .string (⟨#[]⟩ : ByteArray), (.slice none 0 0), .string tx, .bool false]] w fun e w' => e = .returned (.bool ((⟨#[]⟩ : ByteArray).toList.isEmpty && decide (0 = 0) && tx.toList.isEmpty && !false)) ∧ Below w.heap.size w w') from fun w => hasNothing_any 5 (⟨#[]⟩ : ByteArray) none 0 0 tx false w (by omega))
  unfold tokVal
  obtain ⟨r, er⟩ : ∃ r, r = ((⟨#[]⟩ : ByteArray).toList.isEmpty && decide (0 = 0) && tx.toList.isEmpty && !false) := ⟨_, rfl⟩
  rw [← er] at CN ⊢
  clear er
  have hx0 : ((w.alloc (.cells #[.int .i64 5, .string nm, (.slice a n ca), .string tx, .bool sf] 30)).alloc (.cells #[.int .i64 5, .string nm, (.slice a n ca), .string tx, .bool sf] 30)).heap[w.heap.size + 1]? = some (.cells #[.int .i64 5, .string nm, (.slice a n ca), .string tx, .bool sf] 30 (0, 0)) := heap_alloc2_new _ _ _
  have HX0 := (show Hid _ from hx0)
  have hy0 : ((w.alloc (.cells #[.int .i64 5, .string nm, (.slice a n ca), .string tx, .bool sf] 30)).alloc (.cells #[.int .i64 5, .string nm, (.slice a n ca), .string tx, .bool sf] 30)).heap[w.heap.size]? = some (.cells #[.int .i64 5, .string nm, (.slice a n ca), .string tx, .bool sf] 30 (0, 0)) := (heap_alloc_old _ _ (by simp)).trans (heap_alloc_new _ _)
  have HY0 := (show Hid _ from hy0)
  clear hx0 hy0
  have hnm := hf.hnm
  have hl := hf.hrs
  have CA := (show Hid (∀ w', Below w.heap.size w w' → Calls Tryz.prog 29 #[.slice a n ca] w' fun e w'' => e = .returned (.bool (attrsOk rs)) ∧ Below w'.heap.size w' w'') from fun w' hb => iattrsOk_any (h.below hb) (by omega) hf.each)
  have c1 := fun w => inameOk_any nm w (by omega)
  obtain ⟨u, eu⟩ : ∃ u, u = nameOk (bs nm) := ⟨_, rfl⟩
  rw [← eu] at c1 ⊢
  have C1 := (show Hid _ from c1)
  obtain ⟨t, et⟩ : ∃ t, t = attrsOk rs := ⟨_, rfl⟩
  rw [← et] at CA ⊢
  clear c1 eu et h hf
  go_enter Tryz.func9, Tryz.ntmps9
  go_wp2_with fail
  go_at_call 28
  refine (C1.out _).mono ?_
  rintro e w3 ⟨rfl, b3⟩
  have hx := (b3.block (w.heap.size + 1) (by simp)).trans HX0.out
  have hy := (b3.block w.heap.size (by simp; omega)).trans HY0.out
  have x0 : w3.cell? ⟨w.heap.size + 1, 0, none⟩ = some (.int .i64 5) := by simp only [World.cell?, hx]; rfl
  have fx0 : w3.frozen? ⟨w.heap.size + 1, 0, none⟩ = false := by simp only [World.frozen?, hx]; rfl
  have x1 : w3.cell? ⟨w.heap.size + 1, 1, none⟩ = some (.string nm) := by simp only [World.cell?, hx]; rfl
  have fx1 : w3.frozen? ⟨w.heap.size + 1, 1, none⟩ = false := by simp only [World.frozen?, hx]; rfl
  have x2 : w3.cell? ⟨w.heap.size + 1, 2, none⟩ = some (.slice a n ca) := by simp only [World.cell?, hx]; rfl
  have fx2 : w3.frozen? ⟨w.heap.size + 1, 2, none⟩ = false := by simp only [World.frozen?, hx]; rfl
  have x3 : w3.cell? ⟨w.heap.size + 1, 3, none⟩ = some (.string tx) := by simp only [World.cell?, hx]; rfl
  have fx3 : w3.frozen? ⟨w.heap.size + 1, 3, none⟩ = false := by simp only [World.frozen?, hx]; rfl
  have x4 : w3.cell? ⟨w.heap.size + 1, 4, none⟩ = some (.bool sf) := by simp only [World.cell?, hx]; rfl
  have fx4 : w3.frozen? ⟨w.heap.size + 1, 4, none⟩ = false := by simp only [World.frozen?, hx]; rfl
  have y0 : w3.cell? ⟨w.heap.size, 0, none⟩ = some (.int .i64 5) := by simp only [World.cell?, hy]; rfl
  have y1 : w3.cell? ⟨w.heap.size, 1, none⟩ = some (.string nm) := by simp only [World.cell?, hy]; rfl
  have y2 : w3.cell? ⟨w.heap.size, 2, none⟩ = some (.slice a n ca) := by simp only [World.cell?, hy]; rfl
  have y3 : w3.cell? ⟨w.heap.size, 3, none⟩ = some (.string tx) := by simp only [World.cell?, hy]; rfl
  have y4 : w3.cell? ⟨w.heap.size, 4, none⟩ = some (.bool sf) := by simp only [World.cell?, hy]; rfl
  have HX := (show Hid _ from hx)
  replace b3 := b1.trans (b3.mono b1.size)
  have hlt := lt_of_block hx
  clear hx hy HX0 HY0
  cases u
  · go_wp2
    go_ret
    exact ⟨ret_bool (by simp), ((b3.setCell (Nat.le_succ _) _).setCell (Nat.le_succ _) _).setCell (Nat.le_succ _) _⟩
  · clear x0 x1 x2 x3 x4 fx0 fx1 fx2 fx3 fx4
    go_wp2_with fail
    go_at_call 29
    refine (CA.out _ b3).mono ?_
    rintro e w4 ⟨rfl, b4⟩
    have hx := (b4.block (w.heap.size + 1) hlt).trans HX.out
    have x0 : w4.cell? ⟨w.heap.size + 1, 0, none⟩ = some (.int .i64 5) := by simp only [World.cell?, hx]; rfl
    have fx0 : w4.frozen? ⟨w.heap.size + 1, 0, none⟩ = false := by simp only [World.frozen?, hx]; rfl
    have x1 : w4.cell? ⟨w.heap.size + 1, 1, none⟩ = some (.string nm) := by simp only [World.cell?, hx]; rfl
    have fx1 : w4.frozen? ⟨w.heap.size + 1, 1, none⟩ = false := by simp only [World.frozen?, hx]; rfl
    have x2 : w4.cell? ⟨w.heap.size + 1, 2, none⟩ = some (.slice a n ca) := by simp only [World.cell?, hx]; rfl
    have fx2 : w4.frozen? ⟨w.heap.size + 1, 2, none⟩ = false := by simp only [World.frozen?, hx]; rfl
    have x3 : w4.cell? ⟨w.heap.size + 1, 3, none⟩ = some (.string tx) := by simp only [World.cell?, hx]; rfl
    have fx3 : w4.frozen? ⟨w.heap.size + 1, 3, none⟩ = false := by simp only [World.frozen?, hx]; rfl
    have x4 : w4.cell? ⟨w.heap.size + 1, 4, none⟩ = some (.bool sf) := by simp only [World.cell?, hx]; rfl
    have fx4 : w4.frozen? ⟨w.heap.size + 1, 4, none⟩ = false := by simp only [World.frozen?, hx]; rfl
    replace b4 := b3.trans (b4.mono b3.size)
    clear hx HX b3 y0 y1 y2 y3 y4
    cases t
    · go_wp2
      go_ret
      exact ⟨ret_bool (by simp), ((b4.setCell (Nat.le_succ _) _).setCell (Nat.le_succ _) _).setCell (Nat.le_succ _) _⟩
    · have bs4 := ((b4.setCell (p := ⟨w.heap.size + 1, 1, none⟩) (Nat.le_succ _) (.string ⟨#[]⟩)).setCell (p := ⟨w.heap.size + 1, 2, none⟩) (Nat.le_succ _) (.slice none 0 0)).setCell (p := ⟨w.heap.size + 1, 4, none⟩) (Nat.le_succ _) (.bool false)
      go_wp2_with fail
      go_at_call 30
      refine (CN.out _).mono ?_
      rintro e w5 ⟨rfl, b5⟩
      go_wp2
      go_ret
      exact ⟨ret_bool (by simp), bs4.trans (b5.mono bs4.size)⟩

theorem itokenOk_any {a : Option Addr} {ca : Nat} {rs : List (ByteArray × ByteArray)} {w : World} (h : Sv 2 w (.slice a rs.length ca) (pairCells rs)) (k : Int) (nm tx : ByteArray) (sf : Bool) (hf : TokFit nm rs tx) :
    Calls Tryz.prog 9 #[tokVal k nm (.slice a rs.length ca) tx sf] w fun e w' => e = .returned (.bool (tokenOk k nm rs tx sf)) ∧ Below w.heap.size w w' := by
  have e0 : (⟨#[]⟩ : ByteArray).toList.isEmpty = true := by unfold ByteArray.toList; rw [ByteArray.toList.loop]; rfl
  have use : ∀ b, Calls Tryz.prog 9 #[tokVal k nm (.slice a rs.length ca) tx sf] w (fun e w' => e = .returned (.bool b) ∧ Below w.heap.size w w') → b = tokenOk k nm rs tx sf → Calls Tryz.prog 9 #[tokVal k nm (.slice a rs.length ca) tx sf] w fun e w' => e = .returned (.bool (tokenOk k nm rs tx sf)) ∧ Below w.heap.size w w' := fun b h e => e ▸ h
  by_cases k1 : k = 1
  · subst k1
    refine use _ (itok_end nm tx sf hf.hrs) ?_
    unfold tokenOk; simp only [if_true]
    cases nm.toList.isEmpty <;> cases decide (rs.length = 0) <;> cases tx.toList.isEmpty <;> cases sf <;> rfl
  by_cases k2 : k = 2
  · subst k2
    refine use _ (itok_char nm tx sf hf.hrs hf.htx) ?_
    unfold tokenOk; rw [if_neg (by decide), if_pos rfl, e0]
    rcases hu : utfOk (bs tx) with _ | _
    · simp
    · rw [read_ok hu]
      cases nm.toList.isEmpty <;> cases decide (rs.length = 0) <;> cases decide ((dec (bs tx)).length = 1) <;> cases sf <;> rfl
  by_cases k3 : k = 3
  · subst k3
    refine use _ (itok_comment nm tx sf hf.hrs hf.htx) ?_
    unfold tokenOk; rw [if_neg (by decide), if_neg (by decide), if_pos rfl, e0]
    cases nm.toList.isEmpty <;> cases decide (rs.length = 0) <;> cases utfOk (bs tx) <;> cases sf <;> rfl
  by_cases k4 : k = 4
  · subst k4
    refine use _ (itok_doc nm tx sf hf.hrs hf.hnm) ?_
    unfold tokenOk; rw [if_neg (by decide), if_neg (by decide), if_neg (by decide), if_pos rfl, e0]
    cases tx.toList.isEmpty <;> cases decide (rs.length = 0) <;> cases utfOk (bs nm) <;> cases decide (nm.size ≤ 60) <;> cases sf <;> rfl
  by_cases k5 : k = 5
  · subst k5
    refine use _ (itok_open h nm tx sf hf) ?_
    unfold tokenOk; rw [if_neg (by decide), if_neg (by decide), if_neg (by decide), if_neg (by decide), if_pos rfl, e0]
    cases tx.toList.isEmpty <;> cases nameOk (bs nm) <;> cases attrsOk rs <;> rfl
  by_cases k6 : k = 6
  · subst k6
    refine use _ (itok_close nm tx sf hf.hrs hf.hnm) ?_
    unfold tokenOk; rw [if_neg (by decide), if_neg (by decide), if_neg (by decide), if_neg (by decide), if_neg (by decide), if_pos rfl, e0]
    cases tx.toList.isEmpty <;> cases decide (rs.length = 0) <;> cases nameOk (bs nm) <;> cases sf <;> rfl
  · refine use _ (itok_other k nm tx sf ⟨k1, k2, k3, k4, k5, k6⟩) ?_
    unfold tokenOk; rw [if_neg k1, if_neg k2, if_neg k3, if_neg k4, if_neg k5, if_neg k6]
end Go.Proofs.YtggfifchkecnjaaGreatDoor
