/- The contract of the draw of a list of points with a place in it. -/
import Derived.Test.YtggfifchkecnjaaDoorU12
import Derived.OwnWalk
import Derived.Test.YtggfifchkecnjaaDoorU7
import Derived.Test.YtggfifchkecnjaaDoorU8
import Derived.Test.YtggfifchkecnjaaDoorU10
import Derived.Test.YtggfifchkecnjaaDoorU4
namespace Go.Proofs.YtggfifchkecnjaaDoor
open Go.RowKit
set_option maxRecDepth 100000
set_option linter.unusedVariables false

/-- A slice of noughts that was just made, and its first cell written. -/
theorem made_first {B g n : Nat} {w : World} (h : Own B 3 .i64 w (.slice (some ⟨g, 0, none⟩) n n) (List.replicate n 0)) (hn : 0 < n) (x : Int) :
    w.cell? ⟨g, 0, none⟩ = some (.int .i64 0) ∧ w.frozen? ⟨g, 0, none⟩ = false ∧ Own B 3 .i64 (w.setCell ⟨g, 0, none⟩ (.int .i64 x)) (.slice (some ⟨g, 0, none⟩) n n) ((List.replicate n 0).set 0 x) ∧
      w.grownBy (w.setCell ⟨g, 0, none⟩ (.int .i64 x)) (some g) := by
  unfold Own at h ⊢
  rw [List.length_replicate] at h
  have hs := h.stored 0 (.int .i64 x)
  refine ⟨?_, h.frozenAt 0, ?_, hs.2⟩
  · rw [h.cellAt 0 (by omega)]
    simp [hn]
  · rw [List.length_set, List.length_replicate, List.map_set]; exact hs.1

end Go.Proofs.YtggfifchkecnjaaDoor

/- The draw of a page: some text none of whose bytes is above 195, and the points of such a text. -/
namespace Go.Proofs.YtggfifchkecnjaaDoor
open Go.RowKit
set_option maxRecDepth 100000
set_option linter.unusedVariables false

/-- No byte above 195. -/
abbrev lowS (s : ByteArray) : Prop := ∀ b ∈ s.data.toList, b ≤ 195
theorem lowS.add {s t : ByteArray} (h : lowS s) (k : lowS t) : lowS (s ++ t) := by
  intro b hb
  have e : (s ++ t).data.toList = s.data.toList ++ t.data.toList := by simp
  rw [e] at hb
  rcases List.mem_append.mp hb with hb | hb
  · exact h b hb
  · exact k b hb
theorem lowS.bs {s : ByteArray} (h : lowS s) : ∀ x ∈ bs s, 0 ≤ x ∧ x ≤ 195 := by
  intro x hx
  unfold Go.Proofs.YtggfifchkecnjaaDoor.bs at hx
  obtain ⟨b, hb, rfl⟩ := List.mem_map.mp hx
  have h1 := UInt8.le_iff_toNat_le.mp (h b hb)
  have h2 : (195 : UInt8).toNat = 195 := rfl
  omega
theorem step_low {b : Int} (h0 : 0 ≤ b) (h1 : b ≤ 195) (r : List Int) : (stepOf b r).1 ≠ 65279 := by
  unfold stepOf
  split
  · simp; omega
  split
  · rcases tail1 (b - 192) (loOf b) (hiOf b) r with e | ⟨c, c0, c1, e⟩
    · rw [e]; decide
    · rw [e]
      rw [hiOf_le (by omega) (by omega)] at c1
      omega
  split
  · omega
  split
  · omega
  · simp
theorem dec_low5 (n : Nat) (l : List Int) (h : l.length ≤ n) (hb : ∀ y ∈ l, 0 ≤ y ∧ y ≤ 195) : ∀ p ∈ dec l, p ≠ 65279 := by
  induction n generalizing l with
  | zero => have : l = [] := List.length_eq_zero_iff.mp (by omega)
            subst this; rw [dec_nil]; intro p hp; cases hp
  | succ n ih =>
    cases l with
    | nil => rw [dec_nil]; intro p hp; cases hp
    | cons b r =>
      rw [dec_cons]
      have h1 := stepOf_le b r
      intro p hp
      have hb0 := hb b (List.mem_cons_self ..)
      rcases List.mem_cons.mp hp with e | e
      · rw [e]; exact step_low hb0.1 hb0.2 r
      · exact ih (stepOf b r).2 (by simp at h; omega) (fun y hy => hb y (List.mem_cons_of_mem _ (stepOf_mem b r y hy))) p e


def pk0 : List ByteArray := [⟨#[38, 97, 109, 112, 59]⟩, ⟨#[38, 97, 109, 112]⟩, ⟨#[38, 97, 109, 112, 120]⟩, ⟨#[38, 108, 116, 61]⟩, ⟨#[38, 110, 111, 116, 105, 110, 59]⟩, ⟨#[38, 110, 111, 116, 105, 116]⟩, ⟨#[38, 110, 111, 116]⟩, ⟨#[38, 35, 54, 53, 59]⟩, ⟨#[38, 35, 120, 52, 49]⟩, ⟨#[38, 35, 88, 52, 97, 59]⟩, ⟨#[38, 35, 59]⟩, ⟨#[38, 35, 120, 59]⟩, ⟨#[38, 35, 49, 50, 56, 59]⟩, ⟨#[38, 35, 48, 59]⟩, ⟨#[38, 35, 120, 70, 70, 70, 70, 70, 70, 70, 70, 59]⟩, ⟨#[38, 35, 48, 48, 48, 48, 48, 48, 48, 48, 48, 54, 53, 59]⟩, ⟨#[38]⟩, ⟨#[38, 120, 59]⟩, ⟨#[38, 99, 111, 112, 121, 57]⟩, ⟨#[38, 115, 117, 112, 49, 59]⟩, ⟨#[38, 102, 114, 97, 99, 49, 50]⟩, ⟨#[38, 104, 101, 108, 108, 105, 112, 59]⟩, ⟨#[38, 35, 53, 53, 50, 57, 54, 59]⟩, ⟨#[38, 35, 49, 50, 51, 52, 53, 54, 55, 56, 59]⟩]

theorem pk0_low : ∀ t ∈ pk0, t.size ≤ 25 ∧ lowS t := by decide

def pk1 : List ByteArray := [⟨#[60, 33, 45, 45, 120, 45, 45, 62]⟩, ⟨#[60, 33, 45, 45, 62]⟩, ⟨#[60, 33, 45, 45, 45, 62]⟩, ⟨#[60, 33, 45, 45, 97, 45, 45, 33, 62]⟩, ⟨#[60, 33, 45, 45, 97, 45, 45]⟩, ⟨#[60, 33, 45, 45, 97, 45]⟩, ⟨#[60, 33, 100, 111, 99, 116, 121, 112, 101, 32, 104, 116, 109, 108, 62]⟩, ⟨#[60, 33, 68, 79, 67, 84, 89, 80, 69]⟩, ⟨#[60, 33, 120, 62]⟩, ⟨#[60, 63, 120, 62]⟩, ⟨#[60, 47, 62]⟩, ⟨#[60, 47, 32, 120, 62]⟩, ⟨#[60, 33, 45, 45]⟩, ⟨#[60, 33, 45, 120, 62]⟩]

theorem pk1_low : ∀ t ∈ pk1, t.size ≤ 25 ∧ lowS t := by decide

def pk2 : List ByteArray := [⟨#[60]⟩, ⟨#[60, 47]⟩, ⟨#[60, 49]⟩, ⟨#[60, 32, 97]⟩, ⟨#[0]⟩, ⟨#[60, 98]⟩, ⟨#[60, 47, 98]⟩, ⟨#[62]⟩, ⟨#[60, 97, 32, 98]⟩, ⟨#[60, 97, 32, 98, 61, 39]⟩, ⟨#[45, 45, 62]⟩]

theorem pk2_low : ∀ t ∈ pk2, t.size ≤ 25 ∧ lowS t := by decide

def pk3 : List ByteArray := [⟨#[60, 97, 32, 104, 114, 101, 102, 61, 120, 62]⟩, ⟨#[60, 97, 32, 104, 114, 101, 102, 61, 39, 120, 38, 97, 109, 112, 59, 121, 39, 32, 104, 114, 101, 102, 61, 50, 62]⟩, ⟨#[60, 65, 32, 66, 61, 34, 99, 38, 108, 116, 34, 62]⟩, ⟨#[60, 98, 114, 47, 62]⟩, ⟨#[60, 98, 114, 32, 47, 62]⟩, ⟨#[60, 97, 47, 98, 62]⟩, ⟨#[60, 97, 32, 61, 98, 62]⟩, ⟨#[60, 97, 32, 98, 61, 62]⟩, ⟨#[60, 97, 32, 98, 32, 61, 32, 99, 32, 100, 62]⟩, ⟨#[60, 97, 9, 98, 10, 61, 10, 99, 62]⟩, ⟨#[60, 112, 47, 32, 105, 100, 62]⟩]

theorem pk3_low : ∀ t ∈ pk3, t.size ≤ 25 ∧ lowS t := by decide

def pk4 : List ByteArray := [⟨#[112]⟩, ⟨#[98]⟩, ⟨#[105]⟩, ⟨#[97]⟩, ⟨#[100, 105, 118]⟩, ⟨#[116, 105, 116, 108, 101]⟩, ⟨#[66]⟩, ⟨#[108, 105]⟩, ⟨#[104, 49]⟩, ⟨#[98, 114]⟩, ⟨#[120]⟩, ⟨#[98, 111, 100, 121]⟩, ⟨#[104, 116, 109, 108]⟩, ⟨#[115, 99, 114, 105, 112, 116]⟩]

theorem pk4_low : ∀ t ∈ pk4, t.size ≤ 25 ∧ lowS t := by decide

def pk5 : List ByteArray := [⟨#[62]⟩, ⟨#[32, 62]⟩, ⟨#[32, 120, 61, 49, 62]⟩, ⟨#[47, 62]⟩]

theorem pk5_low : ∀ t ∈ pk5, t.size ≤ 25 ∧ lowS t := by decide

def pk6 : List ByteArray := [⟨#[112]⟩, ⟨#[98]⟩, ⟨#[105]⟩, ⟨#[97]⟩, ⟨#[100, 105, 118]⟩, ⟨#[116, 105, 116, 108, 101]⟩, ⟨#[66]⟩, ⟨#[108, 105]⟩, ⟨#[104, 49]⟩, ⟨#[98, 114]⟩, ⟨#[120]⟩, ⟨#[98, 111, 100, 121]⟩, ⟨#[104, 116, 109, 108]⟩, ⟨#[115, 99, 114, 105, 112, 116]⟩, ⟨#[101, 109]⟩, ⟨#[104, 114]⟩, ⟨#[110, 111, 98, 114]⟩, ⟨#[98, 117, 116, 116, 111, 110]⟩, ⟨#[100, 100]⟩, ⟨#[117, 108]⟩, ⟨#[111, 98, 106, 101, 99, 116]⟩, ⟨#[111, 112, 116, 105, 111, 110]⟩, ⟨#[112, 114, 101]⟩, ⟨#[116, 101, 120, 116, 97, 114, 101, 97]⟩, ⟨#[112, 108, 97, 105, 110, 116, 101, 120, 116]⟩, ⟨#[104, 101, 97, 100]⟩, ⟨#[116, 97, 98, 108, 101]⟩, ⟨#[105, 109, 103]⟩, ⟨#[105, 109, 97, 103, 101]⟩, ⟨#[115, 112, 97, 110]⟩, ⟨#[104, 50]⟩, ⟨#[102, 111, 110, 116]⟩, ⟨#[115, 116, 121, 108, 101]⟩]

theorem pk6_low : ∀ t ∈ pk6, t.size ≤ 25 ∧ lowS t := by decide

def pk7 : List ByteArray := [⟨#[62]⟩, ⟨#[62]⟩, ⟨#[62]⟩, ⟨#[32, 105, 100, 61, 49, 62]⟩]

theorem pk7_low : ∀ t ∈ pk7, t.size ≤ 25 ∧ lowS t := by decide

def pk8 : List ByteArray := [⟨#[97]⟩, ⟨#[32]⟩, ⟨#[10]⟩, ⟨#[120, 32, 121]⟩, ⟨#[195, 169]⟩, ⟨#[122]⟩]

theorem pk8_low : ∀ t ∈ pk8, t.size ≤ 25 ∧ lowS t := by decide


/-- One string of a list that is written out, none of whose bytes is above 195. -/
theorem pickLow_any {w0 : World} {g : Nat} {v : Value} {xs : List Int} {w : World} (h : Cur w0 g v xs w) (hb : ∀ x ∈ xs, 0 ≤ x ∧ x ≤ 255) (ts : List ByteArray) (hz : 0 < ts.length) (hz2 : ts.length ≤ 1000) (hl : ∀ t ∈ ts, t.size ≤ 25 ∧ lowS t) (cs : Array Value) (hcs : cs.toList = ts.map Value.string) (n : Nat) (hn : n = ts.length) :
    Calls Tryd.prog 14 #[.pointer (some ⟨g, 0, none⟩), .slice (some ⟨w.heap.size, 0, none⟩) n n] (w.alloc (.cells cs 9)) fun e w' => ∃ t, e = .returned (.string t) ∧ t.size ≤ 25 ∧ lowS t ∧ Cur w0 g v xs w' ∧ w.grownBy w' (some g) := by
  refine (pickS_any h hb ts hz hz2 cs hcs n hn).mono ?_
  rintro e w' ⟨t, rfl, ht, k, gr⟩
  exact ⟨t, rfl, (hl t ht).1, (hl t ht).2, k, gr⟩

end Go.Proofs.YtggfifchkecnjaaDoor

/- Escape, plain: a right text that is escaped is read back. No condition. -/
namespace Go.Proofs.YtggfifchkecnjaaDoor
open Go.RowKit
set_option maxRecDepth 100000
set_option linter.unusedVariables false

theorem bs_lstr (l : List UInt8) : bs (lstr l) = l.map toI := by unfold bs lstr; simp; intro a _; rfl
theorem escape_back {s : ByteArray} {v : Bool} (hok : utfOk (bs s) = true) (hlow : lowS s) (hsz : s.size ≤ 300) :
    ∃ ps : List Int, puts ps = bs s ∧ ps.length ≤ 300 ∧ utfRead (bs (lstr (esc v s.data.toList))) = ps.flatMap (escPt v) ∧ (ps.flatMap (escPt v)).length ≤ 3000 := by
  have hl : (bs s).length ≤ 300 := by rw [bs_len]; exact hsz
  rw [utfOk_yes (by omega)] at hok
  have hp : pointsPut (utfRead (bs s)) = bs s := of_decide_eq_true hok
  have hn3 := utfRead_len (bs s)
  have hpo : ∀ p ∈ utfRead (bs s), pointOk p = true := utfRead_ok (bs_byte s)
  obtain ⟨ps, hps⟩ : ∃ ps, ps = utfRead (bs s) := ⟨_, rfl⟩
  rw [← hps] at hp hn3 hpo
  unfold pointsPut at hp
  rw [if_pos hn3] at hp
  have h4 : ∀ l : List Int, l.length ≤ (puts l).length := by
    intro l
    induction l with
    | nil => exact Nat.le_refl _
    | cons x l ih =>
      have := (put_len x).1
      have e := puts_app [x] l
      rw [List.singleton_append] at e
      rw [e, List.length_append, List.length_cons]
      have e2 : puts [x] = put x := by simp [puts]
      rw [e2]
      omega
  have hn : ps.length ≤ 300 := by have := h4 ps; rw [hp] at this; omega
  have he : bs (lstr (esc v s.data.toList)) = puts (ps.flatMap (escPt v)) := by
    rw [bs_lstr]
    exact esc_puts v ps s.data.toList hpo hp.symm
  have hel : (puts (ps.flatMap (escPt v))).length ≤ 1800 := by
    rw [← he, bs_lstr, List.length_map]
    have := esc_size v s.data.toList.length s.data.toList (Nat.le_refl _)
    have h3 : s.data.toList.length = s.size := by simp
    omega
  have hPo := escPts_ok v ps hpo
  have hne : ∀ t, ps.flatMap (escPt v) ≠ 65279 :: t := by
    intro t e
    have hm : (65279 : Int) ∈ ps.flatMap (escPt v) := by rw [e]; exact List.mem_cons_self ..
    obtain ⟨q, hq, hm⟩ := List.mem_flatMap.mp hm
    obtain ⟨q0, _, _⟩ := (pointOk_iff q).mp (hpo q hq)
    have hq2 : q = 65279 := by
      by_cases hl : q < 128 ∨ q = 160
      · have := escPt_low v q q0 hl _ hm; omega
      · rw [escPt_high v q (by omega) (by omega), List.mem_singleton] at hm; exact hm.symm
    subst hq2
    have h239 : (239 : Int) ∈ bs s := by
      rw [← hp]
      exact List.mem_flatMap.mpr ⟨65279, hq, by rw [put_mark]; exact List.mem_cons_self ..⟩
    have := hlow.bs _ h239
    omega
  refine ⟨ps, hp, by omega, ?_, ?_⟩
  · rw [he]; exact again_other hPo hne (by omega)
  · have := h4 (ps.flatMap (escPt v))
    omega
theorem esc_at {v : Bool} {ps : List Int} {j : Nat} (h : j < ps.length) (hl : (ps.flatMap (escPt v)).length ≤ 3000) :
    ((ps.flatMap (escPt v)).getD (posE v ps j) 0 = ps[j] ∧ ps[j] ≠ 38 ∧ posE v ps (j + 1) = posE v ps j + 1) ∨
      ((ps.flatMap (escPt v)).getD (posE v ps j) 0 = 38 ∧ refRead (ps.flatMap (escPt v)) (posE v ps j : Nat) v = ([ps[j]], ((posE v ps (j + 1) : Nat) : Int)) ∧ posE v ps j < posE v ps (j + 1)) := by
  obtain ⟨r, e⟩ := posE_drop v ps j h
  have hs := posE_succ v ps j h
  have hlt := posE_lt v ps j h
  have hlen := (escPt_len v ps[j]).1
  have ha := at_of e 0 hlen
  rw [Nat.add_zero, atL_in hlt] at ha
  rcases escPt_self v ps[j] with ⟨h1, h2⟩ | ⟨h1, h2⟩
  · left
    rw [h1] at hs ha
    exact ⟨ha, h2, hs⟩
  · right
    refine ⟨by rw [ha]; exact h2, ?_, by omega⟩
    rw [ref_esc hl e h2, hs]
    congr 1
theorem posE_end {v : Bool} {ps : List Int} {j : Nat} (hj : j ≤ ps.length) (h : (ps.flatMap (escPt v)).length ≤ posE v ps j) : j = ps.length := by
  by_cases hlt : j < ps.length
  · have := posE_lt v ps j hlt; omega
  · omega
theorem posE_le (v : Bool) (ps : List Int) (j : Nat) : posE v ps j ≤ (ps.flatMap (escPt v)).length := by
  have e : ps.flatMap (escPt v) = (ps.take j).flatMap (escPt v) ++ (ps.drop j).flatMap (escPt v) := by rw [← List.flatMap_append, List.take_append_drop]
  rw [e, List.length_append]
  exact Nat.le_add_right _ _
end Go.Proofs.YtggfifchkecnjaaDoor
