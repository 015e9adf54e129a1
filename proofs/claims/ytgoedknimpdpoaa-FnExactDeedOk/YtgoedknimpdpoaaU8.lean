/- Slices of structs among the arguments, opened as rows of cells; and a slice of pairs of strings. -/
import Derived.Test.YtgoedknimpdpoaaU7
import Derived.ChangeSlices
import Derived.ChangeArms
import Derived.Test.YtgoedknimpdpoaaU1
import Derived.Test.YtgoedknimpdpoaaU2
import Derived.Test.YtgoedknimpdpoaaU6
namespace Go.Proofs.Ytgoedknimpdpoaa
open Go.RowKit Go.ChangeShapes Go.WideShapes
set_option maxRecDepth 100000
set_option linter.unusedVariables false

/-- The cells of a list of pairs of strings. -/
def pairCells (rs : List (ByteArray × ByteArray)) : List Value := rs.flatMap fun r => [.string r.1, .string r.2]
theorem pairCells_len (rs : List (ByteArray × ByteArray)) : (pairCells rs).length = rs.length * 2 := by
  induction rs with
  | nil => rfl
  | cons r rs ih => simp only [pairCells, List.flatMap_cons, List.length_append, List.length_cons, List.length_nil] at ih ⊢; omega

theorem flat_len {rows : List (List Value)} {n : Nat} (h : ∀ r ∈ rows, r.length = n) : rows.flatten.length = rows.length * n := by
  induction rows with
  | nil => simp
  | cons r rs ih =>
    rw [List.flatten_cons, List.length_append, ih (fun q hq => h q (List.mem_cons_of_mem _ hq)), h r (List.mem_cons_self ..), List.length_cons, Nat.succ_mul]
    omega
theorem flat_at {rows : List (List Value)} {n : Nat} (h : ∀ r ∈ rows, r.length = n) (i j : Nat) (hj : j < n) : rows.flatten[i * n + j]? = (rows[i]?).bind (fun r => r[j]?) := by
  induction rows generalizing i with
  | nil => simp
  | cons r rs ih =>
    have hr := h r (List.mem_cons_self ..)
    rw [List.flatten_cons]
    cases i with
    | zero => rw [Nat.zero_mul, Nat.zero_add, List.getElem?_append_left (by omega)]; simp
    | succ i =>
      have e : (i + 1) * n + j = r.length + (i * n + j) := by rw [hr, Nat.succ_mul]; omega
      rw [e, List.getElem?_append_right (by omega), Nat.add_sub_cancel_left, ih (fun q hq => h q (List.mem_cons_of_mem _ hq))]
      simp

theorem rows_of {Q : Nat → List Value → Prop} {len : Nat} (each : ∀ i, i < len → ∃ cs, Q i cs) : ∃ rows : List (List Value), rows.length = len ∧ ∀ i (hi : i < rows.length), Q i rows[i] := by
  induction len with
  | zero => exact ⟨[], rfl, fun i hi => absurd hi (by simp)⟩
  | succ k ih =>
    obtain ⟨rows, h1, h2⟩ := ih (fun i hi => each i (by omega))
    obtain ⟨cs, c1⟩ := each k (by omega)
    refine ⟨rows ++ [cs], by simp [h1], fun i hi => ?_⟩
    rw [List.length_append, List.length_singleton] at hi
    by_cases hik : i < rows.length
    · rw [List.getElem_append_left hik]; exact h2 i hik
    · have e : i = rows.length := by omega
      subst e
      rw [List.getElem_append_right (Nat.le_refl _)]
      simp only [Nat.sub_self, List.getElem_cons_zero]
      rw [h1]
      exact c1
theorem add_plain (b off i j : Nat) : ((⟨b, off, none⟩ : Addr).add i).add j = ⟨b, off + (i + j), none⟩ := by
  by_cases hi : i = 0
  · subst hi
    by_cases hj : j = 0
    · subst hj; simp [Addr.add]
    · simp [Addr.add, hj]
  · by_cases hj : j = 0
    · subst hj; simp [Addr.add, hi]
    · simp [Addr.add, hi, hj]; omega

section
variable {H : Type} {enc : TypeId × Value → H} {P : Program} {w : World} {base : Nat} {spare : Nat → Bool} {held : Bool}

/-- A slice, as rows of cells, each of which is read as its element's type. -/
theorem open_rows {t e : TypeId} {fuel n : Nat} {v : Value} {x : DataW H × List MemPlace} (R : List Value → Prop) (ht : P.underlying t = some (.slice e)) (hn : P.cellsOf e = n) (hpos : 0 < n)
    (hR : ∀ m cs y, DataW.trod enc P w base spare held m e cs = some y → R cs) (h : DataW.trod enc P w base spare held fuel t [v] = some x) :
    ∃ rows : List (List Value), Sv n w v rows.flatten ∧ ∀ r ∈ rows, r.length = n ∧ R r := by
  rcases DataW.trod_slice ht h with ⟨hv, _⟩ | ⟨a, len, cap, elems, rest, m, _, hv, _, hb, hl, hm, hlen, hel, _, _⟩
  · simp at hv
    subst hv
    exact ⟨[], ⟨none, 0, 0, rfl, by simp, Nat.le_refl _, Nat.zero_le _, fun _ => rfl, fun i hi => absurd hi (by simp)⟩, fun r hr => by cases hr⟩
  · simp at hv
    subst hv
    have each : ∀ i, i < len → ∃ cs : List Value, w.cells? base (a.add (i * n)) n = some cs ∧ cs.length = n ∧ R cs := fun i hi => by
      have hb := hel i hi
      rw [hn, List.getElem?_eq_getElem (by omega), Option.bind_eq_some_iff] at hb
      obtain ⟨cs, hcs, hy⟩ := hb
      exact ⟨cs, hcs, (World.cells?_some hcs).2.1, hR _ _ _ hy⟩
    obtain ⟨rows, hrl, hrows⟩ := rows_of each
    have hlens : ∀ r ∈ rows, r.length = n := fun r hr => by
      obtain ⟨i, hi, rfl⟩ := List.getElem_of_mem hr
      exact (hrows i hi).2.1
    refine ⟨rows, ⟨some a, len, cap, rfl, ?_, hl, hm, (fun e => by cases e), fun q hq => ?_⟩, fun r hr => ?_⟩
    · rw [flat_len hlens, hrl]
    · rw [flat_len hlens] at hq
      have hi : q / n < rows.length := by rw [Nat.div_lt_iff_lt_mul hpos]; exact hq
      have hj : q % n < n := Nat.mod_lt _ hpos
      have eq : q = q / n * n + q % n := by rw [Nat.mul_comm]; exact (Nat.div_add_mod q n).symm
      obtain ⟨c1, c2, _⟩ := hrows (q / n) hi
      have hc := (World.cells?_some c1).2.2 (q % n) hj
      have hfl := flat_at hlens (q / n) (q % n) hj
      rw [← eq, List.getElem?_eq_getElem hi, Option.bind_some] at hfl
      have hspot : a.spot = none := by
        obtain ⟨d1, d2, _⟩ := hrows 0 (Nat.lt_of_le_of_lt (Nat.zero_le _) hi)
        have hd := (World.cells?_some d1).2.2 0 hpos
        rw [Nat.zero_mul, List.getElem?_eq_getElem (by omega)] at hd
        simpa [Addr.add] using World.cell?_spot hd
      obtain ⟨b, off, spot⟩ := a
      simp only at hspot
      subst hspot
      refine ⟨b, off, rfl, ?_⟩
      rw [add_plain, ← eq] at hc
      have hqf : q < rows.flatten.length := by rw [flat_len hlens]; exact hq
      rw [hc, ← hfl, List.getD_eq_getElem?_getD, List.getElem?_eq_getElem hqf]
      rfl
    · obtain ⟨i, hi, rfl⟩ := List.getElem_of_mem hr
      exact ⟨(hrows i hi).2.1, (hrows i hi).2.2⟩

/-- What a struct of two strings is read from. -/
theorem trod_pair {t : TypeId} {f0 f1 : Field} {fuel : Nat} {cs : List Value} {x : DataW H × List MemPlace} (ht : P.underlying t = some (.struct #[f0, f1])) (hc : P.cellsOf t = 2)
    (h0 : P.underlying f0.type = some .string) (h1 : P.underlying f1.type = some .string) (c0 : P.cellsOf f0.type = 1) (c1 : P.cellsOf f1.type = 1) (o0 : f0.offset = 0) (o1 : f1.offset = 1)
    (h : DataW.trod enc P w base spare held fuel t cs = some x) : ∃ p : ByteArray × ByteArray, cs = [.string p.1, .string p.2] ∧ p.1.size ≤ maxLen ∧ p.2.size ≤ maxLen := by
  obtain ⟨xs, n, _, _, hl, hx, hf⟩ := DataW.trod_struct ht h
  have e0 := hf 0 f0 rfl
  have e1 := hf 1 f1 rfl
  rw [c0, o0, List.drop_zero] at e0
  rw [c1, o1] at e1
  have hxs : xs.length = 2 := hx
  rw [List.getElem?_eq_getElem (by omega)] at e0 e1
  obtain ⟨a, ha, _, sa⟩ := DataW.trod_string h0 e0
  obtain ⟨b, hb, _, sb⟩ := DataW.trod_string h1 e1
  rw [hc] at hl
  match cs, hl with
  | [u, v], _ =>
    simp at ha hb
    exact ⟨(a, b), by rw [ha, hb], sa, sb⟩
end

theorem rows_pairs {rows : List (List Value)} (h : ∀ r ∈ rows, r.length = 2 ∧ ∃ p : ByteArray × ByteArray, r = [.string p.1, .string p.2] ∧ p.1.size ≤ maxLen ∧ p.2.size ≤ maxLen) :
    ∃ rs : List (ByteArray × ByteArray), rows.flatten = pairCells rs ∧ ∀ p ∈ rs, p.1.size ≤ maxLen ∧ p.2.size ≤ maxLen := by
  induction rows with
  | nil => exact ⟨[], rfl, fun p hp => by cases hp⟩
  | cons r rows ih =>
    obtain ⟨rs, h1, h2⟩ := ih (fun q hq => h q (List.mem_cons_of_mem _ hq))
    obtain ⟨_, p, rfl, hp⟩ := h r (List.mem_cons_self ..)
    refine ⟨p :: rs, ?_, fun q hq => ?_⟩
    · rw [List.flatten_cons, h1]; rfl
    · rcases List.mem_cons.mp hq with rfl | hq
      · exact hp
      · exact h2 q hq
end Go.Proofs.Ytgoedknimpdpoaa

/- Deeds, plainly; both DeedOks; the exact law of DeedOk. No condition. -/
namespace Go.Proofs.Ytgoedknimpdpoaa
open Go.RowKit
set_option maxRecDepth 100000
set_option linter.unusedVariables false

structure PDeed where
  kind : Int
  url : ByteArray
  page : ByteArray
  stepN : Int
  keepN : Int
def deedV (d : PDeed) : Value := .agg #[.int .i64 d.kind, .string d.url, .string d.page, .int .i64 d.stepN, .int .i64 d.keepN]
def noS : ByteArray := ⟨#[]⟩
def noB (s : ByteArray) : Bool := decide (s = noS)
/-- Step and Keep are right. -/
def tornB (s q : Int) : Bool := if s = 0 then decide (q = 0) else inB s 1 4 && inB q 0 2147483647
/-- A deed that is right. -/
def deedB (d : PDeed) : Bool :=
  if d.kind = 1 then decide ((d.url.size : Int) ≤ 60) && decide ((d.page.size : Int) ≤ 3000) && tornB d.stepN d.keepN
  else if d.kind = 2 then decide ((d.url.size : Int) ≤ 60) && noB d.page && tornB d.stepN d.keepN
  else if d.kind = 3 then noB d.url && noB d.page && tornB d.stepN d.keepN
  else if d.kind = 4 ∨ d.kind = 5 then noB d.url && noB d.page && decide (d.stepN = 0) && decide (d.keepN = 0)
  else false

theorem toListD_loop (s : ByteArray) : ∀ (n i : Nat) (r : List UInt8), s.size - i = n → (r ≠ [] ∨ 0 < n) → (ByteArray.toList.loop s i r).isEmpty = false
  | 0, i, r, h, hr => by
    rw [ByteArray.toList.loop]
    rw [if_neg (by omega)]
    rcases hr with hr | hr
    · cases r with
      | nil => exact absurd rfl hr
      | cons a l => simp
    · omega
  | n + 1, i, r, h, hr => by
    rw [ByteArray.toList.loop]
    rw [if_pos (by omega)]
    exact toListD_loop s n (i + 1) _ (by omega) (.inl (by simp))
theorem noS_of {s : ByteArray} (h : s.size = 0) : s = noS := by
  cases s with
  | mk d =>
    have : d = #[] := Array.size_eq_zero_iff.mp h
    rw [this]; rfl
theorem noS_isEmpty (s : ByteArray) : s.toList.isEmpty = noB s := by
  by_cases h : s = noS
  · rw [h]
    have : noB noS = true := by simp [noB]
    rw [this]
    unfold ByteArray.toList; rw [ByteArray.toList.loop]; rfl
  · have : noB s = false := by simp [noB, h]
    rw [this]
    exact toListD_loop s s.size 0 [] rfl (.inr (Nat.pos_of_ne_zero (fun e => h (noS_of e))))
theorem noB_size {s : ByteArray} (h : noB s = true) : s.size = 0 := by
  have : s = noS := by simpa [noB] using h
  rw [this]; rfl

def deedEq (a b : PDeed) : Bool := decide (a.kind = b.kind) && (decide (a.url = b.url) && (decide (a.page = b.page) && (decide (a.stepN = b.stepN) && decide (a.keepN = b.keepN))))
theorem deed_eql (a b : PDeed) (w : World) : (binOp .eql 26 (deedV a) (deedV b)).run Try.prog w = .ok (.bool (deedEq a b)) w := by
  obtain ⟨a1, a2, a3, a4, a5⟩ := a
  obtain ⟨b1, b2, b3, b4, b5⟩ := b
  have hu := Try.underlying26
  simp only [deedV, deedEq]
  rw [run_eql_struct, show (10000 : Nat) = 9999 + 1 from rfl, run_equalIn_agg w 9999 26 _ _ (by kernel_rfl) (by kernel_rfl)]
  simp only [Program.fieldsOf, hu]
  have h1 := fun (x y : Int) (w : World) => run_equalIn_int (P := Try.prog) w 9998 3 .i64 .i64 x y Try.underlying3
  have h2 := fun (x y : ByteArray) (w : World) => run_equalIn_string (P := Try.prog) w 9998 9 x y Try.underlying9
  have g3 := Try.isAgg3
  have g9 := Try.isAgg9
  by_cases c1 : a1 = b1 <;> by_cases c2 : a2 = b2 <;> by_cases c3 : a3 = b3 <;> by_cases c4 : a4 = b4 <;> by_cases c5 : a5 = b5 <;>
    simp [Op.eqFields, part, h1, h2, g3, g9, Result.andThen, toList_eq_iff, c1, c2, c3, c4, c5]

theorem retB {x y : Bool} (h : x = y) : Ending.returned (.bool x) = Ending.returned (.bool y) := by rw [h]
theorem deedEq_same (k : Int) (u p : ByteArray) (s q : Int) : deedEq ⟨k, u, p, s, q⟩ ⟨k, u, p, s, q⟩ = true := by simp [deedEq]
theorem deed_eql' (a1 : Int) (a2 a3 : ByteArray) (a4 a5 b1 : Int) (b2 b3 : ByteArray) (b4 b5 : Int) (w : World) :
    (binOp .eql 26 (.agg #[.int .i64 a1, .string a2, .string a3, .int .i64 a4, .int .i64 a5]) (.agg #[.int .i64 b1, .string b2, .string b3, .int .i64 b4, .int .i64 b5])).run Try.prog w = .ok (.bool (deedEq ⟨a1, a2, a3, a4, a5⟩ ⟨b1, b2, b3, b4, b5⟩)) w := deed_eql ⟨a1, a2, a3, a4, a5⟩ ⟨b1, b2, b3, b4, b5⟩ w

set_option maxHeartbeats 4000000 in
set_option maxRecDepth 100000 in
theorem istepOk_any (d : PDeed) (w : World) : Calls Try.prog 9 #[deedV d] w fun e w' => e = .returned (.bool (tornB d.stepN d.keepN)) ∧ Below w.heap.size w w' := by
  obtain ⟨k, u, p, s, q⟩ := d
  show Calls Try.prog 9 #[.agg #[.int .i64 k, .string u, .string p, .int .i64 s, .int .i64 q]] w _
  have b1 := (show Hid (Below w.heap.size w (w.alloc (.cells #[.int .i64 k, .string u, .string p, .int .i64 s, .int .i64 q] 26))) from (Below.refl _ _).alloc (Nat.le_refl _) _)
  simp only [tornB, inB]
  by_cases c0 : s = 0
  · subst c0
    rw [if_pos rfl]
    go_enter Try.func9, Try.ntmps9
    go_wp2
    go_ret
    exact ⟨by congr, b1.out⟩
  · rw [if_neg c0]
    by_cases c1 : 1 ≤ s
    · by_cases c2 : s ≤ 4
      · by_cases c3 : 0 ≤ q
        · go_enter Try.func9, Try.ntmps9
          go_wp2
          go_ret
          refine ⟨retB ?_, b1.out⟩
          rw [Bool.eq_iff_iff]
          simp
          omega
        · go_enter Try.func9, Try.ntmps9
          go_wp2
          go_ret
          refine ⟨retB ?_, b1.out⟩
          rw [Bool.eq_iff_iff]
          simp
          omega
      · go_enter Try.func9, Try.ntmps9
        go_wp2
        go_ret
        refine ⟨retB ?_, b1.out⟩
        rw [Bool.eq_iff_iff]
        simp
        omega
    · go_enter Try.func9, Try.ntmps9
      go_wp2
      go_ret
      refine ⟨retB ?_, b1.out⟩
      rw [Bool.eq_iff_iff]
      simp
      omega
theorem two_below (w : World) (X Y : Obj) : Below w.heap.size w ((w.alloc X).alloc Y) :=
  ((Below.refl _ _).alloc (Nat.le_refl _) _).alloc (by rw [World.size_alloc]; omega) _
end Go.Proofs.Ytgoedknimpdpoaa

/- Both DeedOks at every deed, and the exact law of DeedOk. No condition. -/
namespace Go.Proofs.Ytgoedknimpdpoaa
open Go.RowKit
set_option maxRecDepth 100000
set_option linter.unusedVariables false

set_option maxHeartbeats 8000000 in
set_option maxRecDepth 100000 in
theorem ideedOk_any (d : PDeed) (w : World) (hu : d.url.size ≤ 1099511627776) (hp : d.page.size ≤ 1099511627776) : Calls Try.prog 7 #[deedV d] w fun e w' => e = .returned (.bool (deedB d)) ∧ Below w.heap.size w w' := by
  have CT := (show Hid (∀ W, Calls Try.prog 9 #[deedV d] W fun e w' => e = .returned (.bool (tornB d.stepN d.keepN)) ∧ Below W.heap.size W w') from fun W => istepOk_any d W)
  obtain ⟨k, u, p, s, q⟩ := d
  simp only at hu hp CT
  obtain ⟨tb, ht⟩ : ∃ tb, tb = tornB s q := ⟨_, rfl⟩
  rw [← ht] at CT
  obtain ⟨nu, hnu⟩ : ∃ nu, nu = noB u := ⟨_, rfl⟩
  obtain ⟨np, hnp⟩ : ∃ np, np = noB p := ⟨_, rfl⟩
  have hue : u.toList.isEmpty = nu := by rw [noS_isEmpty, hnu]
  have hpe : p.toList.isEmpty = np := by rw [noS_isEmpty, hnp]
  simp only [deedB, ← ht, ← hnu, ← hnp]
  show Calls Try.prog 7 #[.agg #[.int .i64 k, .string u, .string p, .int .i64 s, .int .i64 q]] w _
  have b1 := (show Hid (Below w.heap.size w (w.alloc (.cells #[.int .i64 k, .string u, .string p, .int .i64 s, .int .i64 q] 26))) from (Below.refl _ _).alloc (Nat.le_refl _) _)
  clear hnu hnp ht
  by_cases k1 : k = 1
  · subst k1
    rw [if_pos rfl]
    by_cases c1 : (u.size : Int) ≤ 60
    · rw [decide_eq_true c1]
      by_cases c2 : (p.size : Int) ≤ 3000
      · rw [decide_eq_true c2]
        go_enter Try.func7, Try.ntmps7
        go_wp2_with fail
        go_at_call 9
        refine Calls.mono (CT.out _) ?_
        rintro e w2 ⟨rfl, b2⟩
        have B2 := (show Hid (Below w.heap.size w w2) from b1.out.trans (b2.mono b1.out.size))
        clear b2
        go_wp2
        go_ret
        exact ⟨retB (by simp), B2.out⟩
      · rw [decide_eq_false c2]
        go_enter Try.func7, Try.ntmps7
        go_wp2
        go_ret
        exact ⟨retB (by simp), b1.out⟩
    · rw [decide_eq_false c1]
      go_enter Try.func7, Try.ntmps7
      go_wp2
      go_ret
      exact ⟨retB (by simp), b1.out⟩
  rw [if_neg k1]
  by_cases k2 : k = 2
  · subst k2
    rw [if_pos rfl]
    by_cases c1 : (u.size : Int) ≤ 60
    · rw [decide_eq_true c1]
      cases np
      · go_enter Try.func7, Try.ntmps7
        go_wp2
        go_ret
        exact ⟨retB (by simp), b1.out⟩
      · go_enter Try.func7, Try.ntmps7
        go_wp2_with fail
        go_at_call 9
        refine Calls.mono (CT.out _) ?_
        rintro e w2 ⟨rfl, b2⟩
        have B2 := (show Hid (Below w.heap.size w w2) from b1.out.trans (b2.mono b1.out.size))
        clear b2
        go_wp2
        go_ret
        exact ⟨retB (by simp), B2.out⟩
    · rw [decide_eq_false c1]
      go_enter Try.func7, Try.ntmps7
      go_wp2
      go_ret
      exact ⟨retB (by simp), b1.out⟩
  rw [if_neg k2]
  by_cases k3 : k = 3
  · subst k3
    rw [if_pos rfl]
    cases nu
    · go_enter Try.func7, Try.ntmps7
      go_wp2
      go_ret
      exact ⟨retB (by simp), b1.out⟩
    · cases np
      · go_enter Try.func7, Try.ntmps7
        go_wp2
        go_ret
        exact ⟨retB (by simp), b1.out⟩
      · go_enter Try.func7, Try.ntmps7
        go_wp2_with fail
        go_at_call 9
        refine Calls.mono (CT.out _) ?_
        rintro e w2 ⟨rfl, b2⟩
        have B2 := (show Hid (Below w.heap.size w w2) from b1.out.trans (b2.mono b1.out.size))
        clear b2
        go_wp2
        go_ret
        exact ⟨retB (by simp), B2.out⟩
  rw [if_neg k3]
  by_cases k4 : k = 4
  · subst k4
    rw [if_pos (.inl rfl)]
    cases nu
    · go_enter Try.func7, Try.ntmps7
      go_wp2
      go_ret
      exact ⟨retB (by simp), b1.out⟩
    · cases np
      · go_enter Try.func7, Try.ntmps7
        go_wp2
        go_ret
        exact ⟨retB (by simp), b1.out⟩
      · by_cases c4 : s = 0
        · subst c4
          by_cases c5 : q = 0
          · subst c5
            go_enter Try.func7, Try.ntmps7
            go_wp2
            go_ret
            exact ⟨retB (by simp), b1.out⟩
          · rw [decide_eq_false c5]
            go_enter Try.func7, Try.ntmps7
            go_wp2
            go_ret
            exact ⟨retB (by simp), b1.out⟩
        · rw [decide_eq_false c4]
          go_enter Try.func7, Try.ntmps7
          go_wp2
          go_ret
          exact ⟨retB (by simp), b1.out⟩
  by_cases k5 : k = 5
  · subst k5
    rw [if_pos (.inr rfl)]
    cases nu
    · go_enter Try.func7, Try.ntmps7
      go_wp2
      go_ret
      exact ⟨retB (by simp), b1.out⟩
    · cases np
      · go_enter Try.func7, Try.ntmps7
        go_wp2
        go_ret
        exact ⟨retB (by simp), b1.out⟩
      · by_cases c4 : s = 0
        · subst c4
          by_cases c5 : q = 0
          · subst c5
            go_enter Try.func7, Try.ntmps7
            go_wp2
            go_ret
            exact ⟨retB (by simp), b1.out⟩
          · rw [decide_eq_false c5]
            go_enter Try.func7, Try.ntmps7
            go_wp2
            go_ret
            exact ⟨retB (by simp), b1.out⟩
        · rw [decide_eq_false c4]
          go_enter Try.func7, Try.ntmps7
          go_wp2
          go_ret
          exact ⟨retB (by simp), b1.out⟩
  rw [if_neg (by omega)]
  go_enter Try.func7, Try.ntmps7
  go_wp2
  go_ret
  exact ⟨retB (by rfl), b1.out⟩
end Go.Proofs.Ytgoedknimpdpoaa

/- The specification's DeedOk at every deed. No condition. -/
namespace Go.Proofs.Ytgoedknimpdpoaa
open Go.RowKit
set_option maxRecDepth 100000
set_option linter.unusedVariables false

set_option maxHeartbeats 8000000 in
set_option maxRecDepth 100000 in
theorem sdeedA (k : Int) (u p : ByteArray) (s q : Int) (w : World) (hu : u.size ≤ 1099511627776) (hp : p.size ≤ 1099511627776) (hs : s = 0) (hq : q = 0) : Calls Try.prog 5 #[.agg #[.int .i64 k, .string u, .string p, .int .i64 s, .int .i64 q]] w fun e w' => e = .returned (.bool (deedB ⟨k, u, p, s, q⟩)) ∧ Below w.heap.size w w' := by
  subst hs hq
  have ht : tornB 0 0 = true := by simp [tornB]
  obtain ⟨nu, hnu⟩ : ∃ nu, nu = noB u := ⟨_, rfl⟩
  obtain ⟨np, hnp⟩ : ∃ np, np = noB p := ⟨_, rfl⟩
  have hue : u.toList.isEmpty = nu := by rw [noS_isEmpty, hnu]
  have hpe : p.toList.isEmpty = np := by rw [noS_isEmpty, hnp]
  simp only [deedB, ht, ← hnu, ← hnp]
  clear hnu hnp ht
  by_cases k1 : k = 1
  · subst k1
    rw [if_pos rfl]
    by_cases c1 : (u.size : Int) ≤ 60
    · rw [decide_eq_true c1]
      by_cases c2 : (p.size : Int) ≤ 3000
      · rw [decide_eq_true c2]
        go_enter Try.func5, Try.ntmps5
        go_wp2
        go_ret
        exact ⟨retB (by simp), two_below _ _ _⟩
      · rw [decide_eq_false c2]
        go_enter Try.func5, Try.ntmps5
        go_wp2
        go_ret
        exact ⟨retB (by simp), two_below _ _ _⟩
    · rw [decide_eq_false c1]
      go_enter Try.func5, Try.ntmps5
      go_wp2
      go_ret
      exact ⟨retB (by simp), two_below _ _ _⟩
  rw [if_neg k1]
  by_cases k2 : k = 2
  · subst k2
    rw [if_pos rfl]
    by_cases c1 : (u.size : Int) ≤ 60
    · rw [decide_eq_true c1]
      cases np
      · go_enter Try.func5, Try.ntmps5
        go_wp2
        go_ret
        exact ⟨retB (by simp), two_below _ _ _⟩
      · go_enter Try.func5, Try.ntmps5
        go_wp2
        go_ret
        exact ⟨retB (by simp), two_below _ _ _⟩
    · rw [decide_eq_false c1]
      go_enter Try.func5, Try.ntmps5
      go_wp2
      go_ret
      exact ⟨retB (by simp), two_below _ _ _⟩
  rw [if_neg k2]
  by_cases k3 : k = 3
  · subst k3
    rw [if_pos rfl]
    cases nu
    · go_enter Try.func5, Try.ntmps5
      go_wp2
      go_ret
      exact ⟨retB (by simp), two_below _ _ _⟩
    · cases np
      · go_enter Try.func5, Try.ntmps5
        go_wp2
        go_ret
        exact ⟨retB (by simp), two_below _ _ _⟩
      · go_enter Try.func5, Try.ntmps5
        go_wp2
        go_ret
        exact ⟨retB (by simp), two_below _ _ _⟩
  rw [if_neg k3]
  by_cases k4 : k = 4
  · subst k4
    rw [if_pos (.inl rfl)]
    cases nu
    · go_enter Try.func5, Try.ntmps5
      go_wp2
      go_ret
      exact ⟨retB (by simp), two_below _ _ _⟩
    · cases np
      · go_enter Try.func5, Try.ntmps5
        go_wp2
        go_ret
        exact ⟨retB (by simp), two_below _ _ _⟩
      · go_enter Try.func5, Try.ntmps5
        go_wp2
        go_ret
        exact ⟨retB (by simp), two_below _ _ _⟩
  by_cases k5 : k = 5
  · subst k5
    rw [if_pos (.inr rfl)]
    cases nu
    · go_enter Try.func5, Try.ntmps5
      go_wp2
      go_ret
      exact ⟨retB (by simp), two_below _ _ _⟩
    · cases np
      · go_enter Try.func5, Try.ntmps5
        go_wp2
        go_ret
        exact ⟨retB (by simp), two_below _ _ _⟩
      · go_enter Try.func5, Try.ntmps5
        go_wp2
        go_ret
        exact ⟨retB (by simp), two_below _ _ _⟩
  rw [if_neg (by omega)]
  go_enter Try.func5, Try.ntmps5
  go_wp2
  go_ret
  exact ⟨retB (by simp), two_below _ _ _⟩
end Go.Proofs.Ytgoedknimpdpoaa

/- The specification's DeedOk at every deed. No condition. -/
namespace Go.Proofs.Ytgoedknimpdpoaa
open Go.RowKit
set_option maxRecDepth 100000
set_option linter.unusedVariables false

set_option maxHeartbeats 8000000 in
set_option maxRecDepth 100000 in
theorem sdeedB (k : Int) (u p : ByteArray) (s q : Int) (w : World) (hu : u.size ≤ 1099511627776) (hp : p.size ≤ 1099511627776) (hs : s = 0) (hq : q ≠ 0) : Calls Try.prog 5 #[.agg #[.int .i64 k, .string u, .string p, .int .i64 s, .int .i64 q]] w fun e w' => e = .returned (.bool (deedB ⟨k, u, p, s, q⟩)) ∧ Below w.heap.size w w' := by
  subst hs
  have h1 : inB 0 1 4 = false := by decide
  have ht : tornB 0 q = false := by simp [tornB, hq]
  obtain ⟨nu, hnu⟩ : ∃ nu, nu = noB u := ⟨_, rfl⟩
  obtain ⟨np, hnp⟩ : ∃ np, np = noB p := ⟨_, rfl⟩
  have hue : u.toList.isEmpty = nu := by rw [noS_isEmpty, hnu]
  have hpe : p.toList.isEmpty = np := by rw [noS_isEmpty, hnp]
  simp only [deedB, ht, ← hnu, ← hnp]
  clear hnu hnp ht
  by_cases k1 : k = 1
  · subst k1
    rw [if_pos rfl]
    go_enter Try.func5, Try.ntmps5
    go_wp2_with fail
    go_at_call 8
    refine (l1In_any _ _ _ _).mono ?_
    rintro e w2 ⟨he0, hw0⟩
    rw [h1] at he0
    subst he0 hw0
    go_wp2
    go_ret
    exact ⟨retB (by simp), two_below _ _ _⟩
  rw [if_neg k1]
  by_cases k2 : k = 2
  · subst k2
    rw [if_pos rfl]
    go_enter Try.func5, Try.ntmps5
    go_wp2_with fail
    go_at_call 8
    refine (l1In_any _ _ _ _).mono ?_
    rintro e w2 ⟨he0, hw0⟩
    rw [h1] at he0
    subst he0 hw0
    go_wp2
    go_ret
    exact ⟨retB (by simp), two_below _ _ _⟩
  rw [if_neg k2]
  by_cases k3 : k = 3
  · subst k3
    rw [if_pos rfl]
    go_enter Try.func5, Try.ntmps5
    go_wp2_with fail
    go_at_call 8
    refine (l1In_any _ _ _ _).mono ?_
    rintro e w2 ⟨he0, hw0⟩
    rw [h1] at he0
    subst he0 hw0
    go_wp2
    go_ret
    exact ⟨retB (by simp), two_below _ _ _⟩
  rw [if_neg k3]
  by_cases k4 : k = 4
  · subst k4
    rw [if_pos (.inl rfl)]
    cases nu
    · go_enter Try.func5, Try.ntmps5
      go_wp2_with fail
      go_at_call 8
      refine (l1In_any _ _ _ _).mono ?_
      rintro e w2 ⟨he0, hw0⟩
      rw [h1] at he0
      subst he0 hw0
      go_wp2
      go_ret
      exact ⟨retB (by simp), two_below _ _ _⟩
    · cases np
      · go_enter Try.func5, Try.ntmps5
        go_wp2_with fail
        go_at_call 8
        refine (l1In_any _ _ _ _).mono ?_
        rintro e w2 ⟨he0, hw0⟩
        rw [h1] at he0
        subst he0 hw0
        go_wp2
        go_ret
        exact ⟨retB (by simp), two_below _ _ _⟩
      · rw [decide_eq_false hq]
        go_enter Try.func5, Try.ntmps5
        go_wp2_with fail
        go_at_call 8
        refine (l1In_any _ _ _ _).mono ?_
        rintro e w2 ⟨he0, hw0⟩
        rw [h1] at he0
        subst he0 hw0
        go_wp2
        go_ret
        exact ⟨retB (by simp), two_below _ _ _⟩
  by_cases k5 : k = 5
  · subst k5
    rw [if_pos (.inr rfl)]
    cases nu
    · go_enter Try.func5, Try.ntmps5
      go_wp2_with fail
      go_at_call 8
      refine (l1In_any _ _ _ _).mono ?_
      rintro e w2 ⟨he0, hw0⟩
      rw [h1] at he0
      subst he0 hw0
      go_wp2
      go_ret
      exact ⟨retB (by simp), two_below _ _ _⟩
    · cases np
      · go_enter Try.func5, Try.ntmps5
        go_wp2_with fail
        go_at_call 8
        refine (l1In_any _ _ _ _).mono ?_
        rintro e w2 ⟨he0, hw0⟩
        rw [h1] at he0
        subst he0 hw0
        go_wp2
        go_ret
        exact ⟨retB (by simp), two_below _ _ _⟩
      · rw [decide_eq_false hq]
        go_enter Try.func5, Try.ntmps5
        go_wp2_with fail
        go_at_call 8
        refine (l1In_any _ _ _ _).mono ?_
        rintro e w2 ⟨he0, hw0⟩
        rw [h1] at he0
        subst he0 hw0
        go_wp2
        go_ret
        exact ⟨retB (by simp), two_below _ _ _⟩
  rw [if_neg (by omega)]
  go_enter Try.func5, Try.ntmps5
  go_wp2_with fail
  go_at_call 8
  refine (l1In_any _ _ _ _).mono ?_
  rintro e w2 ⟨he0, hw0⟩
  rw [h1] at he0
  subst he0 hw0
  go_wp2
  go_ret
  exact ⟨retB (by simp), two_below _ _ _⟩
end Go.Proofs.Ytgoedknimpdpoaa

/- The specification's DeedOk at every deed. No condition. -/
namespace Go.Proofs.Ytgoedknimpdpoaa
open Go.RowKit
set_option maxRecDepth 100000
set_option linter.unusedVariables false

set_option maxHeartbeats 8000000 in
set_option maxRecDepth 100000 in
theorem sdeedC (k : Int) (u p : ByteArray) (s q : Int) (w : World) (hu : u.size ≤ 1099511627776) (hp : p.size ≤ 1099511627776) (hs : s ≠ 0) (h1 : inB s 1 4 = false) : Calls Try.prog 5 #[.agg #[.int .i64 k, .string u, .string p, .int .i64 s, .int .i64 q]] w fun e w' => e = .returned (.bool (deedB ⟨k, u, p, s, q⟩)) ∧ Below w.heap.size w w' := by
  have ht : tornB s q = false := by simp [tornB, hs, h1]
  obtain ⟨nu, hnu⟩ : ∃ nu, nu = noB u := ⟨_, rfl⟩
  obtain ⟨np, hnp⟩ : ∃ np, np = noB p := ⟨_, rfl⟩
  have hue : u.toList.isEmpty = nu := by rw [noS_isEmpty, hnu]
  have hpe : p.toList.isEmpty = np := by rw [noS_isEmpty, hnp]
  simp only [deedB, ht, ← hnu, ← hnp]
  clear hnu hnp ht
  by_cases k1 : k = 1
  · subst k1
    rw [if_pos rfl]
    go_enter Try.func5, Try.ntmps5
    go_wp2_with fail
    go_at_call 8
    refine (l1In_any _ _ _ _).mono ?_
    rintro e w2 ⟨he0, hw0⟩
    rw [h1] at he0
    subst he0 hw0
    go_wp2
    go_ret
    exact ⟨retB (by simp), two_below _ _ _⟩
  rw [if_neg k1]
  by_cases k2 : k = 2
  · subst k2
    rw [if_pos rfl]
    go_enter Try.func5, Try.ntmps5
    go_wp2_with fail
    go_at_call 8
    refine (l1In_any _ _ _ _).mono ?_
    rintro e w2 ⟨he0, hw0⟩
    rw [h1] at he0
    subst he0 hw0
    go_wp2
    go_ret
    exact ⟨retB (by simp), two_below _ _ _⟩
  rw [if_neg k2]
  by_cases k3 : k = 3
  · subst k3
    rw [if_pos rfl]
    go_enter Try.func5, Try.ntmps5
    go_wp2_with fail
    go_at_call 8
    refine (l1In_any _ _ _ _).mono ?_
    rintro e w2 ⟨he0, hw0⟩
    rw [h1] at he0
    subst he0 hw0
    go_wp2
    go_ret
    exact ⟨retB (by simp), two_below _ _ _⟩
  rw [if_neg k3]
  by_cases k4 : k = 4
  · subst k4
    rw [if_pos (.inl rfl)]
    cases nu
    · go_enter Try.func5, Try.ntmps5
      go_wp2_with fail
      go_at_call 8
      refine (l1In_any _ _ _ _).mono ?_
      rintro e w2 ⟨he0, hw0⟩
      rw [h1] at he0
      subst he0 hw0
      go_wp2
      go_ret
      exact ⟨retB (by simp), two_below _ _ _⟩
    · cases np
      · go_enter Try.func5, Try.ntmps5
        go_wp2_with fail
        go_at_call 8
        refine (l1In_any _ _ _ _).mono ?_
        rintro e w2 ⟨he0, hw0⟩
        rw [h1] at he0
        subst he0 hw0
        go_wp2
        go_ret
        exact ⟨retB (by simp), two_below _ _ _⟩
      · rw [decide_eq_false hs]
        go_enter Try.func5, Try.ntmps5
        go_wp2_with fail
        go_at_call 8
        refine (l1In_any _ _ _ _).mono ?_
        rintro e w2 ⟨he0, hw0⟩
        rw [h1] at he0
        subst he0 hw0
        go_wp2
        go_ret
        exact ⟨retB (by simp), two_below _ _ _⟩
  by_cases k5 : k = 5
  · subst k5
    rw [if_pos (.inr rfl)]
    cases nu
    · go_enter Try.func5, Try.ntmps5
      go_wp2_with fail
      go_at_call 8
      refine (l1In_any _ _ _ _).mono ?_
      rintro e w2 ⟨he0, hw0⟩
      rw [h1] at he0
      subst he0 hw0
      go_wp2
      go_ret
      exact ⟨retB (by simp), two_below _ _ _⟩
    · cases np
      · go_enter Try.func5, Try.ntmps5
        go_wp2_with fail
        go_at_call 8
        refine (l1In_any _ _ _ _).mono ?_
        rintro e w2 ⟨he0, hw0⟩
        rw [h1] at he0
        subst he0 hw0
        go_wp2
        go_ret
        exact ⟨retB (by simp), two_below _ _ _⟩
      · rw [decide_eq_false hs]
        go_enter Try.func5, Try.ntmps5
        go_wp2_with fail
        go_at_call 8
        refine (l1In_any _ _ _ _).mono ?_
        rintro e w2 ⟨he0, hw0⟩
        rw [h1] at he0
        subst he0 hw0
        go_wp2
        go_ret
        exact ⟨retB (by simp), two_below _ _ _⟩
  rw [if_neg (by omega)]
  go_enter Try.func5, Try.ntmps5
  go_wp2_with fail
  go_at_call 8
  refine (l1In_any _ _ _ _).mono ?_
  rintro e w2 ⟨he0, hw0⟩
  rw [h1] at he0
  subst he0 hw0
  go_wp2
  go_ret
  exact ⟨retB (by simp), two_below _ _ _⟩
end Go.Proofs.Ytgoedknimpdpoaa
