/- Records, plainly. No condition. -/
import Derived.Test.YtbpncleapnohjaaU13
import Derived.Test.YtbpncleapnohjaaU15
import Derived.Test.YtbpncleapnohjaaU16
import Derived.Test.YtbpncleapnohjaaU19
import Derived.Test.YtbpncleapnohjaaU14
namespace Go.Proofs.Ytbpncleapnohjaa
open Go.RowKit
set_option maxRecDepth 100000
set_option linter.unusedVariables false

def emptyS : ByteArray := ⟨#[]⟩
/-- A url that is right. -/
def urlB (s : ByteArray) : Bool := inB s.size 1 60 && (bs s).all (fun x => decide (33 ≤ x) && decide (x ≤ 126))
structure PRec where
  kind : Int
  url : ByteArray
  body : ByteArray
def recV (r : PRec) : Value := .agg #[.int .i64 r.kind, .string r.url, .string r.body]
def zeroR : PRec := ⟨0, emptyS, emptyS⟩
/-- A record that is right. -/
def recB (r : PRec) : Bool := (decide (r.kind = 1) || decide (r.kind = 2)) && urlB r.url && !(decide (r.kind = 2) && decide (r.body ≠ emptyS))
def recL (r : PRec) : List Int := form r.kind ++ textForm r.url ++ (if r.kind = 1 then textForm r.body else [])
def packR (r : PRec) : List Int × Bool := if recB r = true then (recL r, true) else ([], false)
/-- What RecordRead answers. -/
def readR (xs : List Int) (i : Int) : PRec × Int × Bool :=
  match rdI xs i with
  | none => (zeroR, 0, false)
  | some (k, n) => match rdT xs (i + n) with
    | none => (zeroR, 0, false)
    | some (u, j) =>
      if k = 1 then
        match rdT xs j with
        | none => (zeroR, 0, false)
        | some (t, m) => if recB ⟨k, strOf u, strOf t⟩ = true then (⟨k, strOf u, strOf t⟩, m, true) else (zeroR, 0, false)
      else if recB ⟨k, strOf u, emptyS⟩ = true then (⟨k, strOf u, emptyS⟩, j, true) else (zeroR, 0, false)
end Go.Proofs.Ytbpncleapnohjaa

/- The specification's UrlOk and RecordPack. No condition. -/
namespace Go.Proofs.Ytbpncleapnohjaa
open Go.RowKit
set_option maxRecDepth 100000
set_option linter.unusedVariables false

/-- A byte that no url has. -/
def ubad (x : Int) : Bool := decide (x < 33) || decide (126 < x)
theorem urlB_eq (s : ByteArray) : urlB s = (inB s.size 1 60 && !((bs s).any ubad)) := by
  unfold urlB
  congr 1
  induction bs s with
  | nil => rfl
  | cons x xs ih =>
    rw [List.all_cons, List.any_cons, ih, Bool.not_or]
    congr 1
    by_cases h1 : 33 ≤ x
    · by_cases h2 : x ≤ 126
      · simp [ubad, h1, h2, Int.not_lt.mpr h1, Int.not_lt.mpr h2]
      · simp [ubad, h1, h2, Int.not_lt.mpr h1, Int.not_le.mp h2]
    · simp [ubad, h1, Int.not_le.mp h1]
theorem uany_succ {xs : List Int} {k : Nat} (h : k < xs.length) : (xs.take (k + 1)).any ubad = ((xs.take k).any ubad || ubad (xs.getD k 0)) := by
  rw [List.take_succ_eq_append_getElem h, List.any_append]
  simp [List.getD_eq_getElem?_getD, h]
theorem uany_of {xs : List Int} {k : Nat} (h : k < xs.length) (e : ubad (xs.getD k 0) = true) : xs.any ubad = true := by
  rw [List.any_eq_true]
  exact ⟨xs[k], List.getElem_mem h, by simpa [List.getD_eq_getElem?_getD, h] using e⟩

end Go.Proofs.Ytbpncleapnohjaa

/- The specification's RecordPack. No condition. -/
namespace Go.Proofs.Ytbpncleapnohjaa
open Go.RowKit
set_option maxRecDepth 100000
set_option linter.unusedVariables false

theorem toListR_loop (s : ByteArray) : ∀ (n i : Nat) (r : List UInt8), s.size - i = n → (r ≠ [] ∨ 0 < n) → (ByteArray.toList.loop s i r).isEmpty = false
  | 0, i, r, h, hr => by
    rw [ByteArray.toList.loop]
    rw [if_neg (by omega)]
    rcases hr with hr | hr
    · cases r with
      | nil => exact absurd rfl hr
      | cons a l => simp
    · omega
  | n + 1, i, r, h, hr => by
    rw [ByteArray.toList.loop]
    rw [if_pos (by omega)]
    exact toListR_loop s n (i + 1) _ (by omega) (.inl (by simp))
theorem emptyS_of {s : ByteArray} (h : s.size = 0) : s = emptyS := by
  cases s with
  | mk d =>
    have : d = #[] := Array.size_eq_zero_iff.mp h
    rw [this]; rfl
theorem emptyS_ne {s : ByteArray} (h : s ≠ emptyS) : s.toList.isEmpty = false := toListR_loop s s.size 0 [] rfl (.inr (Nat.pos_of_ne_zero (fun e => h (emptyS_of e))))
theorem emptyS_yes : emptyS.toList.isEmpty = true := by unfold ByteArray.toList; rw [ByteArray.toList.loop]; rfl
theorem recB_kind {r : PRec} (h : recB r = true) : (r.kind = 1 ∨ r.kind = 2) ∧ urlB r.url = true ∧ (r.kind = 2 → r.body = emptyS) := by
  simp only [recB, Bool.and_eq_true, Bool.or_eq_true, decide_eq_true_eq, Bool.not_eq_true', Bool.and_eq_false_iff, decide_eq_false_iff_not, ne_eq, Decidable.not_not] at h
  obtain ⟨⟨h1, h2⟩, h3⟩ := h
  exact ⟨h1, h2, fun e => h3.resolve_left (fun f => f e)⟩

end Go.Proofs.Ytbpncleapnohjaa

/- The specification's RecordRead. No condition. -/
namespace Go.Proofs.Ytbpncleapnohjaa
open Go.RowKit
set_option maxRecDepth 100000
set_option linter.unusedVariables false

theorem results_cell_tmp2 {fn : Func} {p u v : Tmp} {ty : TypeId} (h : fn.results = #[.cell p ty, .tmp u, .tmp v]) (tmps : Array Value) (P : Program) (w : World) :
    (results fn tmps).run P w = ((asAddr (tmps.getD p undef)).run P w).andThen fun a w₁ => ((loadVar ty a).run P w₁).andThen fun x w₂ => .ok (.tuple #[x, tmps.getD u undef, tmps.getD v undef]) w₂ := by
  simp only [results, h]
  simp [Sem.run_bind, Result.andThen]
theorem rdT_len {xs t : List Int} {i j : Int} (h : rdT xs i = some (t, j)) : t.length ≤ xs.length := by
  unfold rdT at h
  split at h
  · split at h
    · simp only [Option.some.injEq, Prod.mk.injEq] at h
      rw [← h.1, List.length_take, List.length_drop]; omega
    · cases h
  · cases h

end Go.Proofs.Ytbpncleapnohjaa

/- Rows of records, plainly. No condition. -/
namespace Go.Proofs.Ytbpncleapnohjaa
open Go.RowKit
set_option maxRecDepth 100000
set_option linter.unusedVariables false

def recCells (rs : List PRec) : List Value := rs.flatMap fun r => [.int .i64 r.kind, .string r.url, .string r.body]
theorem recCells_nil : recCells [] = [] := rfl
theorem recCells_cons (r : PRec) (rs : List PRec) : recCells (r :: rs) = .int .i64 r.kind :: .string r.url :: .string r.body :: recCells rs := rfl
theorem recCells_app (xs ys : List PRec) : recCells (xs ++ ys) = recCells xs ++ recCells ys := by simp [recCells]
theorem recCells_len (rs : List PRec) : (recCells rs).length = rs.length * 3 := by
  induction rs with
  | nil => rfl
  | cons r rs ih => rw [recCells_cons, List.length_cons, List.length_cons, List.length_cons, ih, List.length_cons]; omega
theorem rec_oneCell (rs : List PRec) : ∀ v ∈ recCells rs, v.oneCell' = true := by
  intro v hv
  obtain ⟨r, _, hr⟩ := List.mem_flatMap.mp hv
  simp only [List.mem_cons, List.not_mem_nil, or_false] at hr
  rcases hr with rfl | rfl | rfl <;> rfl
theorem rdT_some {xs t : List Int} {i j : Int} (h : rdT xs i = some (t, j)) (hb : ∀ x ∈ xs, 0 ≤ x ∧ x ≤ 255) : i < j ∧ j ≤ xs.length ∧ 0 ≤ i := by
  unfold rdT at h
  split at h
  · rename_i y n e
    obtain ⟨h1, h2, h3, h4, h5, h6, h7⟩ := rdI_some e hb
    split at h
    · simp only [Option.some.injEq, Prod.mk.injEq] at h
      omega
    · cases h
  · cases h
/-- What is read goes on. -/
theorem readR_next {xs : List Int} {i j : Int} {r : PRec} (h : readR xs i = (r, j, true)) (hb : ∀ x ∈ xs, 0 ≤ x ∧ x ≤ 255) : 0 ≤ i ∧ i < j ∧ j ≤ xs.length ∧ recB r = true ∧ r.url.size ≤ xs.length ∧ r.body.size ≤ xs.length := by
  unfold readR at h
  split at h
  · simp at h
  · rename_i k n e
    obtain ⟨h1, h2, h3, h4, h5, h6, h7⟩ := rdI_some e hb
    split at h
    · simp at h
    · rename_i u l e2
      have b2 := rdT_some e2 hb
      have l2 := rdT_len e2
      split at h
      · split at h
        · simp at h
        · rename_i t m e3
          have b3 := rdT_some e3 hb
          have l3 := rdT_len e3
          split at h
          · rename_i hr
            simp only [Prod.mk.injEq, and_true] at h
            obtain ⟨rfl, rfl⟩ := h
            exact ⟨h1, by omega, by omega, hr, by show (strOf u).size ≤ _; rw [strOf_size]; exact l2, by show (strOf t).size ≤ _; rw [strOf_size]; exact l3⟩
          · simp at h
      · split at h
        · rename_i hr
          simp only [Prod.mk.injEq, and_true] at h
          obtain ⟨rfl, rfl⟩ := h
          exact ⟨h1, by omega, by omega, hr, by show (strOf u).size ≤ _; rw [strOf_size]; exact l2, Nat.zero_le _⟩
        · simp at h
theorem readR_no {xs : List Int} {i : Int} (h : (readR xs i).2.2 = false) : readR xs i = (zeroR, 0, false) := by
  unfold readR at h ⊢
  split
  · rfl
  · rename_i k n e
    rw [e] at h
    simp only at h
    split
    · rfl
    · rename_i u l e2
      rw [e2] at h
      simp only at h
      split
      · rename_i hk
        rw [if_pos hk] at h
        split
        · rfl
        · rename_i t m e3
          rw [e3] at h
          simp only at h
          split
          · rename_i hr
            rw [if_pos hr] at h
            cases h
          · rfl
      · rename_i hk
        rw [if_neg hk] at h
        split
        · rename_i hr
          rw [if_pos hr] at h
          cases h
        · rfl
/-- The records from a place on. -/
def recsF (xs : List Int) : Nat → Nat → Option (List PRec)
  | 0, _ => none
  | f + 1, i => if i < xs.length then (if (readR xs i).2.2 = true then (recsF xs f (readR xs i).2.1.toNat).map ((readR xs i).1 :: ·) else none) else some []
def recsR (xs : List Int) : List PRec × Bool := match recsF xs (xs.length + 1) 0 with
  | some l => (l, true)
  | none => ([], false)
end Go.Proofs.Ytbpncleapnohjaa

/- Records, plainly: what is packed is read as it was, wherever it stands. No condition. -/
namespace Go.Proofs.Ytbpncleapnohjaa
open Go.RowKit
set_option maxRecDepth 100000
set_option linter.unusedVariables false

theorem rdT_at (s : ByteArray) (hs : s.size ≤ 1099511627776) (pre rest : List Int) : rdT (pre ++ textForm s ++ rest) (pre.length : Nat) = some (bs s, ((pre.length + (textForm s).length : Nat) : Int)) := by
  have e : pre ++ textForm s ++ rest = pre ++ form s.size ++ (bs s ++ rest) := by simp [textForm]
  have h1 : rdI (pre ++ textForm s ++ rest) (pre.length : Nat) = some ((s.size : Int), (form s.size).length) := by
    rw [e]; exact rdI_form (by omega) (by omega) pre _
  have hl : (bs s).length = s.size := bs_len s
  have h2 := rdT_fit (p := pre.length + (form s.size).length) h1 (by omega) (by simp [textForm, hl]; omega)
  rw [h2]
  have e3 : ((pre ++ textForm s ++ rest).drop (pre.length + (form s.size).length)).take s.size = bs s := by
    rw [e, List.drop_append_of_le_length (by simp), ← List.length_append, List.drop_length, List.nil_append, ← hl, List.take_left']
    rfl
  rw [e3]
  have e4 : (textForm s).length = (form s.size).length + s.size := by simp [textForm, hl]
  rw [e4]
  congr 2
  omega

/-- What is packed is read as it was. -/
theorem readR_of {r : PRec} (h : recB r = true) (hb : r.body.size ≤ 1099511627776) (pre rest : List Int) : readR (pre ++ recL r ++ rest) (pre.length : Nat) = (r, ((pre.length + (recL r).length : Nat) : Int), true) := by
  obtain ⟨k, u, t⟩ := r
  have hk : k = 1 ∨ (k = 2 ∧ t = emptyS) := by
    simp only [recB, Bool.and_eq_true, Bool.or_eq_true, decide_eq_true_eq, Bool.not_eq_true', Bool.and_eq_false_iff, decide_eq_false_iff_not, Decidable.not_not, ne_eq] at h
    obtain ⟨⟨h1 | h1, _⟩, h3⟩ := h
    · exact .inl h1
    · exact .inr ⟨h1, by rcases h3 with h3 | h3 <;> first | exact absurd h1 h3 | exact h3⟩
  have hu : u.size ≤ 1099511627776 := by
    simp only [recB, urlB, inB, Bool.and_eq_true, decide_eq_true_eq] at h
    omega
  simp only at hb
  rcases hk with rfl | ⟨rfl, rfl⟩
  · have eL : recL ⟨1, u, t⟩ = form 1 ++ textForm u ++ textForm t := by simp [recL]
    rw [eL]
    have h1 : rdI (pre ++ (form 1 ++ textForm u ++ textForm t) ++ rest) (pre.length : Nat) = some (1, (form 1).length) := by
      have e : pre ++ (form 1 ++ textForm u ++ textForm t) ++ rest = pre ++ form 1 ++ (textForm u ++ textForm t ++ rest) := by simp
      rw [e]; exact rdI_form (by omega) (by omega) pre _
    have h2 : rdT (pre ++ (form 1 ++ textForm u ++ textForm t) ++ rest) ((pre.length : Nat) + ((form 1).length : Nat) : Int) = some (bs u, ((pre.length + (form 1).length + (textForm u).length : Nat) : Int)) := by
      have e : pre ++ (form 1 ++ textForm u ++ textForm t) ++ rest = (pre ++ form 1) ++ textForm u ++ (textForm t ++ rest) := by simp
      have := rdT_at u hu (pre ++ form 1) (textForm t ++ rest)
      rw [← e, List.length_append] at this
      exact_mod_cast this
    have h3 : rdT (pre ++ (form 1 ++ textForm u ++ textForm t) ++ rest) ((pre.length + (form 1).length + (textForm u).length : Nat) : Int) = some (bs t, ((pre.length + (form 1).length + (textForm u).length + (textForm t).length : Nat) : Int)) := by
      have e : pre ++ (form 1 ++ textForm u ++ textForm t) ++ rest = (pre ++ form 1 ++ textForm u) ++ textForm t ++ rest := by simp
      have := rdT_at t hb (pre ++ form 1 ++ textForm u) rest
      rw [← e, List.length_append, List.length_append] at this
      exact this
    unfold readR
    simp only [h1, h2, h3, if_true, strOf_bs]
    rw [if_pos h]
    simp only [List.length_append, Nat.add_assoc]
  · have eL : recL ⟨2, u, emptyS⟩ = form 2 ++ textForm u := by simp [recL]
    rw [eL]
    have h1 : rdI (pre ++ (form 2 ++ textForm u) ++ rest) (pre.length : Nat) = some (2, (form 2).length) := by
      have e : pre ++ (form 2 ++ textForm u) ++ rest = pre ++ form 2 ++ (textForm u ++ rest) := by simp
      rw [e]; exact rdI_form (by omega) (by omega) pre _
    have h2 : rdT (pre ++ (form 2 ++ textForm u) ++ rest) ((pre.length : Nat) + ((form 2).length : Nat) : Int) = some (bs u, ((pre.length + (form 2).length + (textForm u).length : Nat) : Int)) := by
      have e : pre ++ (form 2 ++ textForm u) ++ rest = (pre ++ form 2) ++ textForm u ++ rest := by simp
      have := rdT_at u hu (pre ++ form 2) rest
      rw [← e, List.length_append] at this
      exact_mod_cast this
    unfold readR
    simp only [h1, h2, strOf_bs]
    rw [if_neg (by decide), if_pos h]
    simp only [List.length_append, Nat.add_assoc]
end Go.Proofs.Ytbpncleapnohjaa
