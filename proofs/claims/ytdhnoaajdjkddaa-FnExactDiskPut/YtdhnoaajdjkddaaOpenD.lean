/- A disk among the arguments: slices of texts and of puts. -/
import Derived.Test.YtdhnoaajdjkddaaDiskP
namespace Go.Proofs.Ytdhnoaajdjkddaa
open Go.RowKit Go.ChangeShapes Go.WideShapes
set_option maxRecDepth 100000
set_option linter.unusedVariables false

theorem rows_strs {rows : List (List Value)} (h : ∀ r ∈ rows, r.length = 1 ∧ ∃ s : ByteArray, r = [.string s] ∧ s.size ≤ maxLen) :
    ∃ ss : List ByteArray, rows.flatten = strCells ss ∧ ∀ s ∈ ss, s.size ≤ maxLen := by
  induction rows with
  | nil => exact ⟨[], rfl, fun p hp => by cases hp⟩
  | cons r rows ih =>
    obtain ⟨rs, h1, h2⟩ := ih (fun q hq => h q (List.mem_cons_of_mem _ hq))
    obtain ⟨_, p, rfl, hp⟩ := h r (List.mem_cons_self ..)
    refine ⟨p :: rs, ?_, fun q hq => ?_⟩
    · rw [List.flatten_cons, h1]; rfl
    · rcases List.mem_cons.mp hq with rfl | hq
      · exact hp
      · exact h2 q hq
theorem rows_puts {rows : List (List Value)} (h : ∀ r ∈ rows, r.length = 2 ∧ ∃ p : Int × ByteArray, r = [.int .i64 p.1, .string p.2] ∧ p.2.size ≤ maxLen) :
    ∃ rs : List (Int × ByteArray), rows.flatten = putCells rs ∧ ∀ p ∈ rs, p.2.size ≤ maxLen := by
  induction rows with
  | nil => exact ⟨[], rfl, fun p hp => by cases hp⟩
  | cons r rows ih =>
    obtain ⟨rs, h1, h2⟩ := ih (fun q hq => h q (List.mem_cons_of_mem _ hq))
    obtain ⟨_, p, rfl, hp⟩ := h r (List.mem_cons_self ..)
    refine ⟨p :: rs, ?_, fun q hq => ?_⟩
    · rw [List.flatten_cons, h1]; rfl
    · rcases List.mem_cons.mp hq with rfl | hq
      · exact hp
      · exact h2 q hq

section
variable {H : Type} {enc : TypeId × Value → H} {P : Program} {w : World} {base : Nat} {spare : Nat → Bool} {held : Bool}

theorem trod_put {t : TypeId} {f0 f1 : Field} {fuel : Nat} {cs : List Value} {x : DataW H × List MemPlace} (ht : P.underlying t = some (.struct #[f0, f1])) (hc : P.cellsOf t = 2)
    (h0 : P.underlying f0.type = some (.int .i64)) (h1 : P.underlying f1.type = some .string) (c0 : P.cellsOf f0.type = 1) (c1 : P.cellsOf f1.type = 1) (o0 : f0.offset = 0) (o1 : f1.offset = 1)
    (h : DataW.trod enc P w base spare held fuel t cs = some x) : ∃ p : Int × ByteArray, cs = [.int .i64 p.1, .string p.2] ∧ p.2.size ≤ maxLen := by
  obtain ⟨xs, n, _, _, hl, hx, hf⟩ := DataW.trod_struct ht h
  have e0 := hf 0 f0 rfl
  have e1 := hf 1 f1 rfl
  rw [c0, o0, List.drop_zero] at e0
  rw [c1, o1] at e1
  have hxs : xs.length = 2 := hx
  rw [List.getElem?_eq_getElem (by omega)] at e0 e1
  obtain ⟨a, ha, _, _⟩ := DataW.trod_int h0 e0
  obtain ⟨b, hb, _, sb⟩ := DataW.trod_string h1 e1
  rw [hc] at hl
  match cs, hl with
  | [u, v], _ =>
    simp at ha hb
    exact ⟨(a, b), by rw [ha, hb], sb⟩
theorem trod_one {t : TypeId} {fuel : Nat} {cs : List Value} {x : DataW H × List MemPlace} (ht : P.underlying t = some .string) (h : DataW.trod enc P w base spare held fuel t cs = some x) : ∃ s : ByteArray, cs = [.string s] ∧ s.size ≤ maxLen := by
  obtain ⟨a, ha, _, sa⟩ := DataW.trod_string ht h
  exact ⟨a, ha, sa⟩
theorem trod_disk {t es ep : TypeId} {f0 f1 g0 g1 : Field} {fuel : Nat} {cs : List Value} {x : DataW H × List MemPlace} (ht : P.underlying t = some (.struct #[f0, f1])) (hc : P.cellsOf t = 2)
    (h0 : P.underlying f0.type = some (.slice es)) (h1 : P.underlying f1.type = some (.slice ep)) (c0 : P.cellsOf f0.type = 1) (c1 : P.cellsOf f1.type = 1) (o0 : f0.offset = 0) (o1 : f1.offset = 1)
    (hes : P.underlying es = some .string) (hesc : P.cellsOf es = 1)
    (he : P.underlying ep = some (.struct #[g0, g1])) (hec : P.cellsOf ep = 2) (q0 : P.underlying g0.type = some (.int .i64)) (q1 : P.underlying g1.type = some .string) (r0 : P.cellsOf g0.type = 1) (r1 : P.cellsOf g1.type = 1) (p0 : g0.offset = 0) (p1 : g1.offset = 1)
    (h : DataW.trod enc P w base spare held fuel t cs = some x) :
    ∃ (va vb : Value) (d : PDisk), cs = [va, vb] ∧ DiskAt w (.agg #[va, vb]) d ∧ (∀ s ∈ d.safe, s.size ≤ maxLen) ∧ (∀ p ∈ d.late, p.2.size ≤ maxLen) := by
  obtain ⟨xs, n, _, _, hl, hx, hf⟩ := DataW.trod_struct ht h
  have e0 := hf 0 f0 rfl
  have e1 := hf 1 f1 rfl
  rw [c0, o0, List.drop_zero] at e0
  rw [c1, o1] at e1
  have hxs : xs.length = 2 := hx
  rw [List.getElem?_eq_getElem (by omega)] at e0 e1
  rw [hc] at hl
  match cs, hl with
  | [v0, v1], _ =>
    simp only [List.drop_succ_cons, List.drop_zero, List.take_succ_cons, List.take_zero] at e0 e1
    obtain ⟨rowsA, hsA, hrA⟩ := open_rows (n := 1) (fun cs => ∃ s : ByteArray, cs = [.string s] ∧ s.size ≤ maxLen) h0 hesc (by decide) (fun m cs y hy => trod_one hes hy) e0
    obtain ⟨rowsB, hsB, hrB⟩ := open_rows (n := 2) (fun cs => ∃ p : Int × ByteArray, cs = [.int .i64 p.1, .string p.2] ∧ p.2.size ≤ maxLen) h1 hec (by decide) (fun m cs y hy => trod_put he hec q0 q1 r0 r1 p0 p1 hy) e1
    obtain ⟨ss, eA, hss⟩ := rows_strs hrA
    obtain ⟨ps, eB, hps⟩ := rows_puts hrB
    rw [eA] at hsA
    rw [eB] at hsB
    have hsA' := hsA
    have hsB' := hsB
    obtain ⟨a, n1, c1', rfl, _⟩ := hsA'
    obtain ⟨b, n2, c2', rfl, _⟩ := hsB'
    exact ⟨_, _, ⟨ss, ps⟩, rfl, ⟨_, _, _, _, _, _, rfl, hsA, hsB⟩, hss, hps⟩
end
end Go.Proofs.Ytdhnoaajdjkddaa
