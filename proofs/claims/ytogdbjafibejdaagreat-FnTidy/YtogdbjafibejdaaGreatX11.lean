/- Slices of structs among the arguments, opened as rows of cells; and a slice of pairs of strings. -/
import Derived.Test.YtogdbjafibejdaaGreatX10
import Derived.ChangeSlices
import Derived.ChangeArms
namespace Go.Proofs.YtogdbjafibejdaaGreat
open Go.RowKit Go.ChangeShapes Go.WideShapes
set_option maxRecDepth 100000
set_option linter.unusedVariables false

/-- The cells of a list of pairs of strings. -/
def pairCells (rs : List (ByteArray × ByteArray)) : List Value := rs.flatMap fun r => [.string r.1, .string r.2]
theorem pairCells_len (rs : List (ByteArray × ByteArray)) : (pairCells rs).length = rs.length * 2 := by
  induction rs with
  | nil => rfl
  | cons r rs ih => simp only [pairCells, List.flatMap_cons, List.length_append, List.length_cons, List.length_nil] at ih ⊢; omega

theorem flat_len {rows : List (List Value)} {n : Nat} (h : ∀ r ∈ rows, r.length = n) : rows.flatten.length = rows.length * n := by
  induction rows with
  | nil => simp
  | cons r rs ih =>
    rw [List.flatten_cons, List.length_append, ih (fun q hq => h q (List.mem_cons_of_mem _ hq)), h r (List.mem_cons_self ..), List.length_cons, Nat.succ_mul]
    omega
theorem flat_at {rows : List (List Value)} {n : Nat} (h : ∀ r ∈ rows, r.length = n) (i j : Nat) (hj : j < n) : rows.flatten[i * n + j]? = (rows[i]?).bind (fun r => r[j]?) := by
  induction rows generalizing i with
  | nil => simp
  | cons r rs ih =>
    have hr := h r (List.mem_cons_self ..)
    rw [List.flatten_cons]
    cases i with
    | zero => rw [Nat.zero_mul, Nat.zero_add, List.getElem?_append_left (by omega)]; simp
    | succ i =>
      have e : (i + 1) * n + j = r.length + (i * n + j) := by rw [hr, Nat.succ_mul]; omega
      rw [e, List.getElem?_append_right (by omega), Nat.add_sub_cancel_left, ih (fun q hq => h q (List.mem_cons_of_mem _ hq))]
      simp

theorem rows_of {Q : Nat → List Value → Prop} {len : Nat} (each : ∀ i, i < len → ∃ cs, Q i cs) : ∃ rows : List (List Value), rows.length = len ∧ ∀ i (hi : i < rows.length), Q i rows[i] := by
  induction len with
  | zero => exact ⟨[], rfl, fun i hi => absurd hi (by simp)⟩
  | succ k ih =>
    obtain ⟨rows, h1, h2⟩ := ih (fun i hi => each i (by omega))
    obtain ⟨cs, c1⟩ := each k (by omega)
    refine ⟨rows ++ [cs], by simp [h1], fun i hi => ?_⟩
    rw [List.length_append, List.length_singleton] at hi
    by_cases hik : i < rows.length
    · rw [List.getElem_append_left hik]; exact h2 i hik
    · have e : i = rows.length := by omega
      subst e
      rw [List.getElem_append_right (Nat.le_refl _)]
      simp only [Nat.sub_self, List.getElem_cons_zero]
      rw [h1]
      exact c1
theorem add_plain (b off i j : Nat) : ((⟨b, off, none⟩ : Addr).add i).add j = ⟨b, off + (i + j), none⟩ := by
  by_cases hi : i = 0
  · subst hi
    by_cases hj : j = 0
    · subst hj; simp [Addr.add]
    · simp [Addr.add, hj]
  · by_cases hj : j = 0
    · subst hj; simp [Addr.add, hi]
    · simp [Addr.add, hi, hj]; omega

section
variable {H : Type} {enc : TypeId × Value → H} {P : Program} {w : World} {base : Nat} {spare : Nat → Bool} {held : Bool}

/-- A slice, as rows of cells, each of which is read as its element's type. -/
theorem open_rows {t e : TypeId} {fuel n : Nat} {v : Value} {x : DataW H × List MemPlace} (R : List Value → Prop) (ht : P.underlying t = some (.slice e)) (hn : P.cellsOf e = n) (hpos : 0 < n)
    (hR : ∀ m cs y, DataW.trod enc P w base spare held m e cs = some y → R cs) (h : DataW.trod enc P w base spare held fuel t [v] = some x) :
    ∃ rows : List (List Value), Sv n w v rows.flatten ∧ ∀ r ∈ rows, r.length = n ∧ R r := by
  rcases DataW.trod_slice ht h with ⟨hv, _⟩ | ⟨a, len, cap, elems, rest, m, _, hv, _, hb, hl, hm, hlen, hel, _, _⟩
  · simp at hv
    subst hv
    exact ⟨[], ⟨none, 0, 0, rfl, by simp, Nat.le_refl _, Nat.zero_le _, fun _ => rfl, fun i hi => absurd hi (by simp)⟩, fun r hr => by cases hr⟩
  · simp at hv
    subst hv
    have each : ∀ i, i < len → ∃ cs : List Value, w.cells? base (a.add (i * n)) n = some cs ∧ cs.length = n ∧ R cs := fun i hi => by
      have hb := hel i hi
      rw [hn, List.getElem?_eq_getElem (by omega), Option.bind_eq_some_iff] at hb
      obtain ⟨cs, hcs, hy⟩ := hb
      exact ⟨cs, hcs, (World.cells?_some hcs).2.1, hR _ _ _ hy⟩
    obtain ⟨rows, hrl, hrows⟩ := rows_of each
    have hlens : ∀ r ∈ rows, r.length = n := fun r hr => by
      obtain ⟨i, hi, rfl⟩ := List.getElem_of_mem hr
      exact (hrows i hi).2.1
    refine ⟨rows, ⟨some a, len, cap, rfl, ?_, hl, hm, (fun e => by cases e), fun q hq => ?_⟩, fun r hr => ?_⟩
    · rw [flat_len hlens, hrl]
    · rw [flat_len hlens] at hq
      have hi : q / n < rows.length := by rw [Nat.div_lt_iff_lt_mul hpos]; exact hq
      have hj : q % n < n := Nat.mod_lt _ hpos
      have eq : q = q / n * n + q % n := by rw [Nat.mul_comm]; exact (Nat.div_add_mod q n).symm
      obtain ⟨c1, c2, _⟩ := hrows (q / n) hi
      have hc := (World.cells?_some c1).2.2 (q % n) hj
      have hfl := flat_at hlens (q / n) (q % n) hj
      rw [← eq, List.getElem?_eq_getElem hi, Option.bind_some] at hfl
      have hspot : a.spot = none := by
        obtain ⟨d1, d2, _⟩ := hrows 0 (Nat.lt_of_le_of_lt (Nat.zero_le _) hi)
        have hd := (World.cells?_some d1).2.2 0 hpos
        rw [Nat.zero_mul, List.getElem?_eq_getElem (by omega)] at hd
        simpa [Addr.add] using World.cell?_spot hd
      obtain ⟨b, off, spot⟩ := a
      simp only at hspot
      subst hspot
      refine ⟨b, off, rfl, ?_⟩
      rw [add_plain, ← eq] at hc
      have hqf : q < rows.flatten.length := by rw [flat_len hlens]; exact hq
      rw [hc, ← hfl, List.getD_eq_getElem?_getD, List.getElem?_eq_getElem hqf]
      rfl
    · obtain ⟨i, hi, rfl⟩ := List.getElem_of_mem hr
      exact ⟨(hrows i hi).2.1, (hrows i hi).2.2⟩

/-- What a struct of two strings is read from. -/
theorem trod_pair {t : TypeId} {f0 f1 : Field} {fuel : Nat} {cs : List Value} {x : DataW H × List MemPlace} (ht : P.underlying t = some (.struct #[f0, f1])) (hc : P.cellsOf t = 2)
    (h0 : P.underlying f0.type = some .string) (h1 : P.underlying f1.type = some .string) (c0 : P.cellsOf f0.type = 1) (c1 : P.cellsOf f1.type = 1) (o0 : f0.offset = 0) (o1 : f1.offset = 1)
    (h : DataW.trod enc P w base spare held fuel t cs = some x) : ∃ p : ByteArray × ByteArray, cs = [.string p.1, .string p.2] ∧ p.1.size ≤ maxLen ∧ p.2.size ≤ maxLen := by
  obtain ⟨xs, n, _, _, hl, hx, hf⟩ := DataW.trod_struct ht h
  have e0 := hf 0 f0 rfl
  have e1 := hf 1 f1 rfl
  rw [c0, o0, List.drop_zero] at e0
  rw [c1, o1] at e1
  have hxs : xs.length = 2 := hx
  rw [List.getElem?_eq_getElem (by omega)] at e0 e1
  obtain ⟨a, ha, _, sa⟩ := DataW.trod_string h0 e0
  obtain ⟨b, hb, _, sb⟩ := DataW.trod_string h1 e1
  rw [hc] at hl
  match cs, hl with
  | [u, v], _ =>
    simp at ha hb
    exact ⟨(a, b), by rw [ha, hb], sa, sb⟩
end

theorem rows_pairs {rows : List (List Value)} (h : ∀ r ∈ rows, r.length = 2 ∧ ∃ p : ByteArray × ByteArray, r = [.string p.1, .string p.2] ∧ p.1.size ≤ maxLen ∧ p.2.size ≤ maxLen) :
    ∃ rs : List (ByteArray × ByteArray), rows.flatten = pairCells rs ∧ ∀ p ∈ rs, p.1.size ≤ maxLen ∧ p.2.size ≤ maxLen := by
  induction rows with
  | nil => exact ⟨[], rfl, fun p hp => by cases hp⟩
  | cons r rows ih =>
    obtain ⟨rs, h1, h2⟩ := ih (fun q hq => h q (List.mem_cons_of_mem _ hq))
    obtain ⟨_, p, rfl, hp⟩ := h r (List.mem_cons_self ..)
    refine ⟨p :: rs, ?_, fun q hq => ?_⟩
    · rw [List.flatten_cons, h1]; rfl
    · rcases List.mem_cons.mp hq with rfl | hq
      · exact hp
      · exact h2 q hq
end Go.Proofs.YtogdbjafibejdaaGreat
