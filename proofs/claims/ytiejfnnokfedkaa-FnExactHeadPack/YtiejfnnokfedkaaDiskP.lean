/- Disks in memory: slices of texts and of puts. No condition. -/
import Derived.Test.YtiejfnnokfedkaaHelpA
namespace Go.Proofs.Ytiejfnnokfedkaa
open Go.RowKit
set_option maxRecDepth 100000
set_option linter.unusedVariables false

/-- The cells of a list of texts. -/
def strCells (ss : List ByteArray) : List Value := ss.map Value.string
theorem strCells_len (ss : List ByteArray) : (strCells ss).length = ss.length := by simp [strCells]
theorem strCells_at (ss : List ByteArray) (k : Nat) (h : k < ss.length) : (strCells ss).getD k undef = .string ss[k] := by
  simp [strCells, List.getD_eq_getElem?_getD, h]
theorem strCells_set (ss : List ByteArray) (k : Nat) (s : ByteArray) : (strCells ss).set k (.string s) = strCells (ss.set k s) := by simp [strCells]
theorem strCells_app (ss ts : List ByteArray) : strCells (ss ++ ts) = strCells ss ++ strCells ts := by simp [strCells]
/-- The cells of a list of puts. -/
def putCells (ps : List (Int × ByteArray)) : List Value := ps.flatMap fun p => [.int .i64 p.1, .string p.2]
theorem putCells_len (ps : List (Int × ByteArray)) : (putCells ps).length = ps.length * 2 := by
  induction ps with
  | nil => rfl
  | cons r rs ih => simp only [putCells, List.flatMap_cons, List.length_append, List.length_cons, List.length_nil] at ih ⊢; omega
theorem putCells_app (ps qs : List (Int × ByteArray)) : putCells (ps ++ qs) = putCells ps ++ putCells qs := by simp [putCells]
theorem putCells_place (rs : List (Int × ByteArray)) (k : Nat) (h : k < rs.length) : (putCells rs).getD (k * 2) undef = .int .i64 rs[k].1 := by
  induction rs generalizing k with
  | nil => simp at h
  | cons r rs ih =>
    cases k with
    | zero => simp [putCells]
    | succ k =>
      have := ih k (by simpa using h)
      have e : (k + 1) * 2 = k * 2 + 1 + 1 := by omega
      simp only [putCells, List.flatMap_cons, List.cons_append, List.nil_append, e, List.getD_cons_succ, List.getElem_cons_succ] at this ⊢
      exact this
theorem putCells_text (rs : List (Int × ByteArray)) (k : Nat) (h : k < rs.length) : (putCells rs).getD (k * 2 + 1) undef = .string rs[k].2 := by
  induction rs generalizing k with
  | nil => simp at h
  | cons r rs ih =>
    cases k with
    | zero => simp [putCells]
    | succ k =>
      have := ih k (by simpa using h)
      have e : (k + 1) * 2 + 1 = k * 2 + 1 + 1 + 1 := by omega
      simp only [putCells, List.flatMap_cons, List.cons_append, List.nil_append, e, List.getD_cons_succ, List.getElem_cons_succ] at this ⊢
      exact this
theorem putCells_set (ls : List (Int × ByteArray)) (j : Nat) (a : Int) (p : ByteArray) (h : j < ls.length) : ((putCells ls).set (j * 2) (.int .i64 a)).set (j * 2 + 1) (.string p) = putCells (ls.set j (a, p)) := by
  induction ls generalizing j with
  | nil => simp at h
  | cons r rs ih =>
    cases j with
    | zero => simp [putCells]
    | succ j =>
      have e := ih j (by simpa using h)
      have e1 : (j + 1) * 2 = j * 2 + 1 + 1 := by omega
      have e2 : (j + 1) * 2 + 1 = j * 2 + 1 + 1 + 1 := by omega
      simp only [putCells, List.flatMap_cons, List.cons_append, List.nil_append, e1, List.set_cons_succ] at e ⊢
      rw [e]

/-- A cell of a slice of texts, by its number. -/
theorem Sv.str {w : World} {v : Value} {ss : List ByteArray} (h : Sv 1 w v (strCells ss)) : ∃ a cap, v = .slice a ss.length cap ∧ ss.length ≤ cap ∧ cap ≤ maxLen ∧
    ∀ k (hk : k < ss.length), ∃ b off, a = some ⟨b, off, none⟩ ∧ b < w.heap.size ∧ w.cell? ⟨b, off + k, none⟩ = some (.string ss[k]) := by
  obtain ⟨a, len, cap, rfl, h1, h2, h3, h4, hc⟩ := h
  have hl := strCells_len ss
  have hlen : len = ss.length := by omega
  subst hlen
  refine ⟨a, cap, rfl, h2, h3, fun k hk => ?_⟩
  obtain ⟨b, off, rfl, c0⟩ := hc k (by omega)
  rw [strCells_at _ _ hk] at c0
  have hlt : b < w.heap.size := by
    by_cases hlt : b < w.heap.size
    · exact hlt
    · exfalso; simp [World.cell?, Array.getElem?_eq_none (Nat.le_of_not_lt hlt)] at c0
  exact ⟨b, off, rfl, hlt, c0⟩
/-- A cell of a slice of puts, by its number. -/
theorem Sv.put {w : World} {v : Value} {rs : List (Int × ByteArray)} (h : Sv 2 w v (putCells rs)) : ∃ a cap, v = .slice a rs.length cap ∧ rs.length ≤ cap ∧ cap ≤ maxLen ∧
    ∀ k (hk : k < rs.length), ∃ b off, a = some ⟨b, off, none⟩ ∧ b < w.heap.size ∧ w.cell? ⟨b, off + k * 2, none⟩ = some (.int .i64 rs[k].1) ∧ w.cell? ⟨b, off + k * 2 + 1, none⟩ = some (.string rs[k].2) := by
  obtain ⟨a, len, cap, rfl, h1, h2, h3, h4, hc⟩ := h
  have hl := putCells_len rs
  have hlen : len = rs.length := by omega
  subst hlen
  refine ⟨a, cap, rfl, h2, h3, fun k hk => ?_⟩
  obtain ⟨b, off, rfl, c0⟩ := hc (k * 2) (by omega)
  obtain ⟨b', off', e, c1⟩ := hc (k * 2 + 1) (by omega)
  injection e with e
  cases e
  rw [putCells_place _ _ hk] at c0
  rw [putCells_text _ _ hk] at c1
  have hlt : b < w.heap.size := by
    by_cases hlt : b < w.heap.size
    · exact hlt
    · exfalso; simp [World.cell?, Array.getElem?_eq_none (Nat.le_of_not_lt hlt)] at c0
  exact ⟨b, off, rfl, hlt, c0, c1⟩

/-- A disk: its texts that are safe, and its puts. -/
structure PDisk where
  safe : List ByteArray
  late : List (Int × ByteArray)
/-- The value v is the disk d. -/
def DiskAt (w : World) (v : Value) (d : PDisk) : Prop := ∃ sa sn sc la ln lc, v = .agg #[.slice sa sn sc, .slice la ln lc] ∧ Sv 1 w (.slice sa sn sc) (strCells d.safe) ∧ Sv 2 w (.slice la ln lc) (putCells d.late)
theorem DiskAt.below {w w' : World} {v : Value} {d : PDisk} (h : DiskAt w v d) (hb : Below w.heap.size w w') : DiskAt w' v d := by
  obtain ⟨sa, sn, sc, la, ln, lc, e, h1, h2⟩ := h
  exact ⟨sa, sn, sc, la, ln, lc, e, h1.below hb, h2.below hb⟩
/-- So it is, in memory of the call's own. -/
def OwnDk (B : Nat) (w : World) (v : Value) (d : PDisk) : Prop := ∃ sa sn sc la ln lc, v = .agg #[.slice sa sn sc, .slice la ln lc] ∧ w.ownsRow B 9 1 (.slice sa sn sc) d.safe.length (strCells d.safe) ∧ w.ownsRow B 80 2 (.slice la ln lc) d.late.length (putCells d.late)
theorem OwnDk.at {B : Nat} {w : World} {v : Value} {d : PDisk} (h : OwnDk B w v d) : DiskAt w v d := by
  obtain ⟨sa, sn, sc, la, ln, lc, e, h1, h2⟩ := h
  exact ⟨sa, sn, sc, la, ln, lc, e, sv_of_own h1, sv_of_own h2⟩
theorem OwnDk.below {B : Nat} {w w' : World} {v : Value} {d : PDisk} (h : OwnDk B w v d) (hb : Below w.heap.size w w') : OwnDk B w' v d := by
  obtain ⟨sa, sn, sc, la, ln, lc, e, h1, h2⟩ := h
  exact ⟨sa, sn, sc, la, ln, lc, e, ownsRow_below h1 hb, ownsRow_below h2 hb⟩

/-- A disk that is right. -/
def diskB (d : PDisk) : Bool := decide (d.safe.length = 130) && decide (d.late.length ≤ 200) && d.safe.all (fun s => decide (s.size = 64)) && d.late.all (fun p => inB p.1 0 129 && decide (p.2.size = 64))
/-- Nothing of the disk is too long. -/
structure DiskFit (d : PDisk) : Prop where
  sl : d.safe.length ≤ 1048576
  ll : d.late.length ≤ 1048576
  st : ∀ s ∈ d.safe, s.size ≤ 1099511627776
  lt : ∀ p ∈ d.late, p.2.size ≤ 1099511627776
end Go.Proofs.Ytiejfnnokfedkaa
