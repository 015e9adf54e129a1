/- A region that draws its order, and whose calls may make memory but write nothing that was there: one walk, in the order of the text. -/
import Derived.Test.YtokkigfjabbdaaaGreatDoorU0
import Derived.BigQuiet
import Derived.Test.YtokkigfjabbdaaaGreatDoorU8
import Derived.Test.YtokkigfjabbdaaaGreatDoorU10
namespace Go.Proofs.YtokkigfjabbdaaaGreatDoor
open Go.RowKit
set_option maxRecDepth 100000
set_option linter.unusedVariables false

/-- A world in which the blocks below B are as in w0. -/
def Wd (B : Nat) (w0 : World) : Type := { w : World // Below B w0 w }
def Wd.w {B : Nat} {w0 : World} (n : Wd B w0) : World := n.1
theorem Wd.below {B : Nat} {w0 : World} (n : Wd B w0) : Below B w0 n.w := n.2
theorem Wd.of {B : Nat} {w0 w : World} (h : ∃ n : Wd B w0, w = n.w) : Below B w0 w := by
  obtain ⟨n, rfl⟩ := h
  exact n.below
theorem Wd.any (B : Nat) (w0 : World) : Nonempty (Wd B w0) := ⟨⟨w0, Below.refl _ _⟩⟩

theorem wp_region_below {P : Program} {id : Nat} {Q : Exit → Act → World → Prop} {a : Act} {w w0 : World} {B : Nat} {l : List Oper} (hm : P.follows .mixedOrders = true) (hB : Region.lexB .any l.toArray = true)
    (hb : Below B w0 w) (h : wpQuiet P l.toArray (fun w' => ∃ n : Wd B w0, w' = n.w) (fun a' => ∀ w', (∃ n : Wd B w0, w' = n.w) → Q .normal a' w') l a) : (Code.region id l.toArray true).wp P Q a w :=
  wp_region_quiet (C := fun w' => ∃ n : Wd B w0, w' = n.w) hm hB ⟨⟨_, hb.trans (below_drewN 1)⟩, rfl⟩ (by simpa using h)

theorem quiet_below {P : Program} {f : FuncId} {args : Array Value} {B : Nat} {w0 : World} {n : Wd B w0} {v : Value}
    (h : Calls P f args n.w fun e w' => e = .returned v ∧ Below n.w.heap.size n.w w') (hB : B ≤ w0.heap.size) : Calls P f args n.w fun e w'' => e = .returned v ∧ ∃ m : Wd B w0, w'' = m.w :=
  h.mono fun _ _ ⟨he, hb⟩ => ⟨he, ⟨_, n.below.trans (hb.mono (Nat.le_trans hB n.below.size))⟩, rfl⟩
end Go.Proofs.YtokkigfjabbdaaaGreatDoor

/- Contracts of the laws' helpers on lists of attributes: held against each other, measured. -/
namespace Go.Proofs.YtokkigfjabbdaaaGreatDoor
open Go.RowKit
set_option maxRecDepth 100000
set_option linter.unusedVariables false

theorem toList_ne {a b : ByteArray} (h : a ≠ b) : (a.toList == b.toList) = false := by
  rw [beq_eq_false_iff_ne]
  exact fun e => h ((toList_eq_iff a b).mp e)

theorem pairCells_name (rs : List (ByteArray × ByteArray)) (k : Nat) (h : k < rs.length) : (pairCells rs).getD (k * 2) undef = .string rs[k].1 := by
  induction rs generalizing k with
  | nil => simp at h
  | cons r rs ih =>
    cases k with
    | zero => simp [pairCells]
    | succ k =>
      have := ih k (by simpa using h)
      have e : (k + 1) * 2 = k * 2 + 1 + 1 := by omega
      simp only [pairCells, List.flatMap_cons, List.cons_append, List.nil_append, e, List.getD_cons_succ, List.getElem_cons_succ] at this ⊢
      exact this
theorem pairCells_value (rs : List (ByteArray × ByteArray)) (k : Nat) (h : k < rs.length) : (pairCells rs).getD (k * 2 + 1) undef = .string rs[k].2 := by
  induction rs generalizing k with
  | nil => simp at h
  | cons r rs ih =>
    cases k with
    | zero => simp [pairCells]
    | succ k =>
      have := ih k (by simpa using h)
      have e : (k + 1) * 2 + 1 = k * 2 + 1 + 1 + 1 := by omega
      simp only [pairCells, List.flatMap_cons, List.cons_append, List.nil_append, e, List.getD_cons_succ, List.getElem_cons_succ] at this ⊢
      exact this

/-- A cell of a slice of pairs, by its number. -/
theorem Sv.pair {w : World} {v : Value} {rs : List (ByteArray × ByteArray)} (h : Sv 2 w v (pairCells rs)) : ∃ a cap, v = .slice a rs.length cap ∧ rs.length ≤ cap ∧ cap ≤ maxLen ∧
    ∀ k (hk : k < rs.length), ∃ b off, a = some ⟨b, off, none⟩ ∧ b < w.heap.size ∧ w.cell? ⟨b, off + k * 2, none⟩ = some (.string rs[k].1) ∧ w.cell? ⟨b, off + k * 2 + 1, none⟩ = some (.string rs[k].2) := by
  obtain ⟨a, len, cap, rfl, h1, h2, h3, h4, hc⟩ := h
  have hl := pairCells_len rs
  have hlen : len = rs.length := by omega
  subst hlen
  refine ⟨a, cap, rfl, h2, h3, fun k hk => ?_⟩
  obtain ⟨b, off, rfl, c0⟩ := hc (k * 2) (by omega)
  obtain ⟨b', off', e, c1⟩ := hc (k * 2 + 1) (by omega)
  injection e with e
  cases e
  rw [pairCells_name _ _ hk] at c0
  rw [pairCells_value _ _ hk] at c1
  have hlt : b < w.heap.size := by
    by_cases hlt : b < w.heap.size
    · exact hlt
    · exfalso; simp [World.cell?, Array.getElem?_eq_none (Nat.le_of_not_lt hlt)] at c0
  exact ⟨b, off, rfl, hlt, c0, c1⟩

end Go.Proofs.YtokkigfjabbdaaaGreatDoor

/- Disks in memory: slices of texts and of puts. No condition. -/
namespace Go.Proofs.YtokkigfjabbdaaaGreatDoor
open Go.RowKit
set_option maxRecDepth 100000
set_option linter.unusedVariables false

/-- The cells of a list of texts. -/
def strCells (ss : List ByteArray) : List Value := ss.map Value.string
theorem strCells_len (ss : List ByteArray) : (strCells ss).length = ss.length := by simp [strCells]
theorem strCells_at (ss : List ByteArray) (k : Nat) (h : k < ss.length) : (strCells ss).getD k undef = .string ss[k] := by
  simp [strCells, List.getD_eq_getElem?_getD, h]
theorem strCells_set (ss : List ByteArray) (k : Nat) (s : ByteArray) : (strCells ss).set k (.string s) = strCells (ss.set k s) := by simp [strCells]
theorem strCells_app (ss ts : List ByteArray) : strCells (ss ++ ts) = strCells ss ++ strCells ts := by simp [strCells]
/-- The cells of a list of puts. -/
def putCells (ps : List (Int × ByteArray)) : List Value := ps.flatMap fun p => [.int .i64 p.1, .string p.2]
theorem putCells_len (ps : List (Int × ByteArray)) : (putCells ps).length = ps.length * 2 := by
  induction ps with
  | nil => rfl
  | cons r rs ih => simp only [putCells, List.flatMap_cons, List.length_append, List.length_cons, List.length_nil] at ih ⊢; omega
theorem putCells_app (ps qs : List (Int × ByteArray)) : putCells (ps ++ qs) = putCells ps ++ putCells qs := by simp [putCells]
theorem putCells_place (rs : List (Int × ByteArray)) (k : Nat) (h : k < rs.length) : (putCells rs).getD (k * 2) undef = .int .i64 rs[k].1 := by
  induction rs generalizing k with
  | nil => simp at h
  | cons r rs ih =>
    cases k with
    | zero => simp [putCells]
    | succ k =>
      have := ih k (by simpa using h)
      have e : (k + 1) * 2 = k * 2 + 1 + 1 := by omega
      simp only [putCells, List.flatMap_cons, List.cons_append, List.nil_append, e, List.getD_cons_succ, List.getElem_cons_succ] at this ⊢
      exact this
theorem putCells_text (rs : List (Int × ByteArray)) (k : Nat) (h : k < rs.length) : (putCells rs).getD (k * 2 + 1) undef = .string rs[k].2 := by
  induction rs generalizing k with
  | nil => simp at h
  | cons r rs ih =>
    cases k with
    | zero => simp [putCells]
    | succ k =>
      have := ih k (by simpa using h)
      have e : (k + 1) * 2 + 1 = k * 2 + 1 + 1 + 1 := by omega
      simp only [putCells, List.flatMap_cons, List.cons_append, List.nil_append, e, List.getD_cons_succ, List.getElem_cons_succ] at this ⊢
      exact this
theorem putCells_set (ls : List (Int × ByteArray)) (j : Nat) (a : Int) (p : ByteArray) (h : j < ls.length) : ((putCells ls).set (j * 2) (.int .i64 a)).set (j * 2 + 1) (.string p) = putCells (ls.set j (a, p)) := by
  induction ls generalizing j with
  | nil => simp at h
  | cons r rs ih =>
    cases j with
    | zero => simp [putCells]
    | succ j =>
      have e := ih j (by simpa using h)
      have e1 : (j + 1) * 2 = j * 2 + 1 + 1 := by omega
      have e2 : (j + 1) * 2 + 1 = j * 2 + 1 + 1 + 1 := by omega
      simp only [putCells, List.flatMap_cons, List.cons_append, List.nil_append, e1, List.set_cons_succ] at e ⊢
      rw [e]

/-- A cell of a slice of texts, by its number. -/
theorem Sv.str {w : World} {v : Value} {ss : List ByteArray} (h : Sv 1 w v (strCells ss)) : ∃ a cap, v = .slice a ss.length cap ∧ ss.length ≤ cap ∧ cap ≤ maxLen ∧
    ∀ k (hk : k < ss.length), ∃ b off, a = some ⟨b, off, none⟩ ∧ b < w.heap.size ∧ w.cell? ⟨b, off + k, none⟩ = some (.string ss[k]) := by
  obtain ⟨a, len, cap, rfl, h1, h2, h3, h4, hc⟩ := h
  have hl := strCells_len ss
  have hlen : len = ss.length := by omega
  subst hlen
  refine ⟨a, cap, rfl, h2, h3, fun k hk => ?_⟩
  obtain ⟨b, off, rfl, c0⟩ := hc k (by omega)
  rw [strCells_at _ _ hk] at c0
  have hlt : b < w.heap.size := by
    by_cases hlt : b < w.heap.size
    · exact hlt
    · exfalso; simp [World.cell?, Array.getElem?_eq_none (Nat.le_of_not_lt hlt)] at c0
  exact ⟨b, off, rfl, hlt, c0⟩
/-- A cell of a slice of puts, by its number. -/
theorem Sv.put {w : World} {v : Value} {rs : List (Int × ByteArray)} (h : Sv 2 w v (putCells rs)) : ∃ a cap, v = .slice a rs.length cap ∧ rs.length ≤ cap ∧ cap ≤ maxLen ∧
    ∀ k (hk : k < rs.length), ∃ b off, a = some ⟨b, off, none⟩ ∧ b < w.heap.size ∧ w.cell? ⟨b, off + k * 2, none⟩ = some (.int .i64 rs[k].1) ∧ w.cell? ⟨b, off + k * 2 + 1, none⟩ = some (.string rs[k].2) := by
  obtain ⟨a, len, cap, rfl, h1, h2, h3, h4, hc⟩ := h
  have hl := putCells_len rs
  have hlen : len = rs.length := by omega
  subst hlen
  refine ⟨a, cap, rfl, h2, h3, fun k hk => ?_⟩
  obtain ⟨b, off, rfl, c0⟩ := hc (k * 2) (by omega)
  obtain ⟨b', off', e, c1⟩ := hc (k * 2 + 1) (by omega)
  injection e with e
  cases e
  rw [putCells_place _ _ hk] at c0
  rw [putCells_text _ _ hk] at c1
  have hlt : b < w.heap.size := by
    by_cases hlt : b < w.heap.size
    · exact hlt
    · exfalso; simp [World.cell?, Array.getElem?_eq_none (Nat.le_of_not_lt hlt)] at c0
  exact ⟨b, off, rfl, hlt, c0, c1⟩

/-- A disk: its texts that are safe, and its puts. -/
structure PDisk where
  safe : List ByteArray
  late : List (Int × ByteArray)
/-- The value v is the disk d. -/
def DiskAt (w : World) (v : Value) (d : PDisk) : Prop := ∃ sa sn sc la ln lc, v = .agg #[.slice sa sn sc, .slice la ln lc] ∧ Sv 1 w (.slice sa sn sc) (strCells d.safe) ∧ Sv 2 w (.slice la ln lc) (putCells d.late)
theorem DiskAt.below {w w' : World} {v : Value} {d : PDisk} (h : DiskAt w v d) (hb : Below w.heap.size w w') : DiskAt w' v d := by
  obtain ⟨sa, sn, sc, la, ln, lc, e, h1, h2⟩ := h
  exact ⟨sa, sn, sc, la, ln, lc, e, h1.below hb, h2.below hb⟩
/-- So it is, in memory of the call's own. -/
def OwnDk (B : Nat) (w : World) (v : Value) (d : PDisk) : Prop := ∃ sa sn sc la ln lc, v = .agg #[.slice sa sn sc, .slice la ln lc] ∧ w.ownsRow B 9 1 (.slice sa sn sc) d.safe.length (strCells d.safe) ∧ w.ownsRow B 88 2 (.slice la ln lc) d.late.length (putCells d.late)
theorem OwnDk.at {B : Nat} {w : World} {v : Value} {d : PDisk} (h : OwnDk B w v d) : DiskAt w v d := by
  obtain ⟨sa, sn, sc, la, ln, lc, e, h1, h2⟩ := h
  exact ⟨sa, sn, sc, la, ln, lc, e, sv_of_own h1, sv_of_own h2⟩
theorem OwnDk.below {B : Nat} {w w' : World} {v : Value} {d : PDisk} (h : OwnDk B w v d) (hb : Below w.heap.size w w') : OwnDk B w' v d := by
  obtain ⟨sa, sn, sc, la, ln, lc, e, h1, h2⟩ := h
  exact ⟨sa, sn, sc, la, ln, lc, e, ownsRow_below h1 hb, ownsRow_below h2 hb⟩

/-- A disk that is right. -/
def diskB (d : PDisk) : Bool := decide (d.safe.length = 130) && decide (d.late.length ≤ 200) && d.safe.all (fun s => decide (s.size = 64)) && d.late.all (fun p => inB p.1 0 129 && decide (p.2.size = 64))
/-- Nothing of the disk is too long. -/
structure DiskFit (d : PDisk) : Prop where
  sl : d.safe.length ≤ 1048576
  ll : d.late.length ≤ 1048576
  st : ∀ s ∈ d.safe, s.size ≤ 1099511627776
  lt : ∀ p ∈ d.late, p.2.size ≤ 1099511627776
end Go.Proofs.YtokkigfjabbdaaaGreatDoor

/- Rows of the call's own that are kept while blocks of other kinds are turned; blocks of one or two cells. No condition. -/
namespace Go.Proofs.YtokkigfjabbdaaaGreatDoor
open Go.RowKit
set_option maxRecDepth 100000
set_option linter.unusedVariables false

/-- A row is kept where a block of another type is turned. -/
theorem rk_type {B e size n : Nat} {w w' : World} {v : Value} {xs : List Value} {row : Option Nat} (h : w.ownsRow B e size v n xs) (hg : w.grownBy w' row) (hr : ∀ r, row = some r → ∃ cs t fr, w.heap[r]? = some (.cells cs t fr) ∧ t ≠ e) : w'.ownsRow B e size v n xs := by
  refine h.kept hg ?_
  rcases h.2 with ⟨rfl, _⟩ | ⟨g, cap, cur, rfl, _, hh, _⟩
  · exact .inl rfl
  · refine .inr fun er => ?_
    obtain ⟨cs, t, fr, h1, h2⟩ := hr g er.symm
    rw [hh] at h1
    cases h1
    exact h2 rfl
theorem rk_set {B e size n b k : Nat} {w : World} {v u : Value} {xs : List Value} (h : w.ownsRow B e size v n xs) {cs : Array Value} {t : TypeId} {fr : Nat × Nat} (hb : w.heap[b]? = some (.cells cs t fr)) (ht : t ≠ e) : (w.setCell ⟨b, k, none⟩ u).ownsRow B e size v n xs :=
  rk_type h (grown_setCell w b k u) (fun r er => by cases er; exact ⟨_, _, _, hb, ht⟩)
theorem rk_base {B B' size n : Nat} {e : TypeId} {w : World} {v : Value} {xs : List Value} (h : w.ownsRow B e size v n xs) (hB : B' ≤ B) : w.ownsRow B' e size v n xs := by
  obtain ⟨hl, hv | ⟨g, cap, cur, hv, hb, r⟩⟩ := h
  · exact ⟨hl, .inl hv⟩
  · exact ⟨hl, .inr ⟨g, cap, cur, hv, Nat.le_trans hB hb, r⟩⟩
theorem rk_slice {B e size n : Nat} {w : World} {v : Value} {xs : List Value} (h : w.ownsRow B e size v n xs) : ∃ a m c, v = .slice a m c := by
  obtain ⟨_, ⟨hv, _⟩ | ⟨g, cap, cur, hv, _⟩⟩ := h
  · exact ⟨_, _, _, hv⟩
  · exact ⟨_, _, _, hv⟩
theorem rk_form {B : Nat} {w : World} {e size : Nat} {v : Value} {n : Nat} {xs : List Value} (h : w.ownsRow B e size v n xs) (hn : 0 < n) : ∃ g cap, v = .slice (some ⟨g, 0, none⟩) n cap ∧ B ≤ g ∧ g < w.heap.size := by
  have h' := h
  obtain ⟨_, ⟨hv, h0⟩ | ⟨g, cap, cur, hv, hB, hh, _⟩⟩ := h'
  · omega
  · exact ⟨g, cap, hv, hB, lt_of_block hh⟩
theorem rk_at {w : World} {b k : Nat} {cs : Array Value} {u : Value} {t : TypeId} (h : w.heap[b]? = some (.cells cs t (0, 0))) : (w.setCell ⟨b, k, none⟩ u).heap[b]? = some (.cells (cs.setIfInBounds k u) t (0, 0)) := by
  have hlt := lt_of_block h
  have h' : w.heap[b] = .cells cs t (0, 0) := by simpa [Array.getElem?_eq_getElem hlt] using h
  show (w.heap.modify b _)[b]? = _
  rw [Array.getElem?_eq_getElem (by simpa using hlt), Array.getElem_modify_self, h']
  rfl
/-- The block of a row of the call's own has the row's type. -/
theorem rk_kind {B e size n : Nat} {w : World} {v : Value} {xs : List Value} (h : w.ownsRow B e size v n xs) {r : Nat} (hr : v.ownBlock = some r) : ∃ cs fr, w.heap[r]? = some (.cells cs e fr) := by
  rcases h.2 with ⟨rfl, _⟩ | ⟨g, cap, cur, rfl, _, hh, _⟩
  · cases hr
  · cases hr; exact ⟨_, _, hh⟩
/-- What is of another type is kept where that row is turned. -/
theorem rk_keep {B e size n : Nat} {w w' : World} {v : Value} {xs : List Value} (h : w.ownsRow B e size v n xs) (g : w.grownBy w' v.ownBlock) {j : Nat} {cs : Array Value} {t : TypeId} {fr : Nat × Nat} (hj : w.heap[j]? = some (.cells cs t fr)) (ht : t ≠ e) : w'.heap[j]? = some (.cells cs t fr) := by
  refine (g.block j (lt_of_block hj) (fun er => ?_)).trans hj
  obtain ⟨c2, f2, h2⟩ := rk_kind h er.symm
  rw [hj] at h2
  cases h2
  exact ht rfl
theorem rk_other {B B' e e' size size' n n' : Nat} {w w' : World} {v u : Value} {xs ys : List Value} (h : w.ownsRow B e size v n xs) (g : w.grownBy w' v.ownBlock) (o : w.ownsRow B' e' size' u n' ys) (ht : e ≠ e') : w'.ownsRow B' e' size' u n' ys :=
  rk_type o g (fun r er => by obtain ⟨c, f, hh⟩ := rk_kind h er; exact ⟨c, e, f, hh, ht⟩)
theorem ret_text {a b : ByteArray} (h : a = b) : Ending.returned (.string a) = .returned (.string b) := by rw [h]
/-- Blocks of one and of two cells. -/
theorem rk_one {w : World} {b : Nat} {u : Value} {t : TypeId} (h : w.heap[b]? = some (.cells #[u] t (0, 0))) : w.cell? ⟨b, 0, none⟩ = some u ∧ w.frozen? ⟨b, 0, none⟩ = false := ⟨by simp only [World.cell?, h]; rfl, by simp only [World.frozen?, h]; rfl⟩
theorem rk_two {w : World} {b : Nat} {u v : Value} {t : TypeId} (h : w.heap[b]? = some (.cells #[u, v] t (0, 0))) : w.cell? ⟨b, 0, none⟩ = some u ∧ w.cell? ⟨b, 1, none⟩ = some v ∧ w.frozen? ⟨b, 0, none⟩ = false ∧ w.frozen? ⟨b, 1, none⟩ = false :=
  ⟨by simp only [World.cell?, h]; rfl, by simp only [World.cell?, h]; rfl, by simp only [World.frozen?, h]; rfl, by simp only [World.frozen?, h]; rfl⟩
end Go.Proofs.YtokkigfjabbdaaaGreatDoor
