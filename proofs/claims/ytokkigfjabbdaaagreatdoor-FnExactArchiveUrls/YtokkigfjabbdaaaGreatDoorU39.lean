/- The index by a map, plainly: what the map says of an address is what the index says; its addresses, sorted, are the index's. No condition. -/
import Derived.Test.YtokkigfjabbdaaaGreatDoorU23
import Derived.Sort.KeysCollected
import Derived.Maps.OwnSet
import Derived.Maps.Views
namespace Go.Proofs.YtokkigfjabbdaaaGreatDoor
open Go.RowKit Go.Maps
set_option maxRecDepth 100000
set_option linter.unusedVariables false

theorem lawU : Keyed Tryz.prog 9 := string_keyed Tryz.underlying9
theorem keyOf_url {s : ByteArray} (h : s.size ≤ maxLen) : keyOf Tryz.prog 9 (.string s) = some (.string s.data.toList) := by
  simp [keyOf, Tryz.underlying9, mapKey, h]
/-- An entry, as a map's reader has it. -/
def entD (a b : ByteArray) : DataW Unit := .agg [.lit (.string a.data.toList), .lit (.string b.data.toList)]
def entElem : Value → Option (DataW Unit × List MemPlace)
  | .agg cs => match cs.toList with
    | [.string a, .string b] => some (entD a b, [])
    | _ => none
  | _ => none
theorem entElem_mk (a b : ByteArray) : entElem (.agg #[.string a, .string b]) = some (entD a b, []) := rfl
theorem entElem_inv {v : Value} {z : DataW Unit × List MemPlace} (h : entElem v = some z) : ∃ a b, v = .agg #[.string a, .string b] ∧ z = (entD a b, []) := by
  unfold entElem at h
  split at h
  · split at h
    · rename_i cs _ a b e
      refine ⟨a, b, ?_, by simpa using h.symm⟩
      congr 1
      exact Array.toList_inj.mp e
    · cases h
  · cases h
theorem data_inj {a b : ByteArray} (h : a.data.toList = b.data.toList) : a = b := by
  cases a; cases b
  congr 1
  exact Array.toList_inj.mp h
theorem entD_inj {a b a' b' : ByteArray} (h : entD a b = entD a' b') : a = a' ∧ b = b' := by
  simp only [entD, DataW.agg.injEq, List.cons.injEq, DataW.lit.injEq, Lit.string.injEq, and_true] at h
  exact ⟨data_inj h.1, data_inj h.2⟩
theorem lit_ne {s t : ByteArray} (h : s ≠ t) : (Lit.string s.data.toList) ≠ Lit.string t.data.toList := by
  intro e
  injection e with e
  exact h (data_inj e)

/-- What the map D says of an address is what the index says. -/
def IdxD (D : DataW Unit) (out : List (ByteArray × ByteArray)) : Prop := IsMap D ∧ ∀ (s : ByteArray) (zd : DataW Unit), D.atKey (.string s.data.toList) zd = if (attrOf out s).2 = true then entD s (attrOf out s).1 else zd
theorem idxD_nil : IdxD (.map []) [] := ⟨isMap_empty, fun s zd => by rw [atKey_of_not_has rfl]; rfl⟩
theorem IdxD.keep {D : DataW Unit} {out : List (ByteArray × ByteArray)} (h : IdxD D out) (r : PRec) : IdxD (D.put (.string r.url.data.toList) (entD r.url r.body)) (insE r false out) := by
  refine ⟨h.1.put _ _, fun s zd => ?_⟩
  by_cases hs : r.url = s
  · subst hs
    rw [atKey_put_same h.1 (show WideAt.IsKeyLit (.string _) from trivial), attrOf_insE_keep, if_pos rfl]
  · rw [atKey_put_other (lit_ne (fun e => hs e.symm)), attrOf_insE_ne hs, h.2]
theorem IdxD.drop {D : DataW Unit} {out : List (ByteArray × ByteArray)} (h : IdxD D out) (r : PRec) : IdxD (D.del (.string r.url.data.toList)) (insE r true out) := by
  refine ⟨h.1.del _, fun s zd => ?_⟩
  by_cases hs : r.url = s
  · subst hs
    rw [atKey_del_same, attrOf_insE_drop]
    rfl
  · rw [atKey_del_other (lit_ne (fun e => hs e.symm)), attrOf_insE_ne hs, h.2]
theorem IdxD.has {D : DataW Unit} {out : List (ByteArray × ByteArray)} (h : IdxD D out) (s : ByteArray) : Maps.has D (.string s.data.toList) = (attrOf out s).2 := by
  have h2 := h.2 s
  cases hb : (attrOf out s).2 with
  | true => rw [hb] at h2; exact has_true_of_atKey h2
  | false => rw [hb] at h2; exact has_false_of_atKey h2

theorem less_lt : ∀ (x y : List UInt8), Op.bytesLess x y = decide (x < y)
  | [], [] => by simp [Op.bytesLess]
  | _ :: _, [] => by simp [Op.bytesLess]
  | [], _ :: _ => by simp [Op.bytesLess]
  | a :: x, b :: y => by
    rw [Op.bytesLess, less_lt x y]
    simp only [List.cons_lt_cons_iff]
    by_cases h1 : a < b <;> by_cases h2 : a = b <;> by_cases h3 : x < y <;> simp [h1, h2, h3]
theorem slt_lt {a b : ByteArray} (h : slt a b = true) : a.data.toList < b.data.toList := by
  unfold slt at h
  rw [less_lt, ByteArray.toList_eq, ByteArray.toList_eq] at h
  exact of_decide_eq_true h
/-- The addresses of an index, as lists of bytes. -/
def keysX (out : List (ByteArray × ByteArray)) : List (List UInt8) := out.map (fun p => p.1.data.toList)
theorem keysX_lt {out : List (ByteArray × ByteArray)} (h : Asc out) : (keysX out).Pairwise (fun a b => a < b) := by
  unfold keysX
  exact List.pairwise_map.mpr (h.imp slt_lt)
theorem attrOf_mem {out : List (ByteArray × ByteArray)} {s : ByteArray} : (attrOf out s).2 = true ↔ s ∈ out.map (·.1) := by
  induction out with
  | nil => simp [attrOf]
  | cons p out ih =>
    rw [attrOf]
    by_cases hp : p.1 = s
    · rw [if_pos hp]; simp [hp]
    · rw [if_neg hp, ih, List.map_cons, List.mem_cons]
      exact ⟨.inr, fun h => h.resolve_left (fun e => hp e.symm)⟩
theorem keysX_mem {out : List (ByteArray × ByteArray)} {s : ByteArray} : s.data.toList ∈ keysX out ↔ (attrOf out s).2 = true := by
  rw [attrOf_mem]
  unfold keysX
  rw [List.mem_map, List.mem_map]
  constructor
  · rintro ⟨p, hp, e⟩
    exact ⟨p, hp, data_inj e⟩
  · rintro ⟨p, hp, e⟩
    exact ⟨p, hp, by rw [e]⟩
/-- The addresses that were collected, sorted, are the index's. -/
theorem keysX_sorted {D : DataW Unit} {out : List (ByteArray × ByteArray)} (h : IdxD D out) (ha : Asc out) {left : Lit → Bool} (hl : ∀ kl, left kl = false) {ss : List (List UInt8)} (hC : Collected D left ss) : ss.mergeSort (fun x y => decide (x ≤ y)) = keysX out := by
  have hlt := keysX_lt ha
  have hp : ss.Perm (keysX out) := by
    refine (List.perm_ext_iff_of_nodup hC.1 ?_).2 fun x => ?_
    · exact hlt.imp (fun {a b} hab e => by rw [e] at hab; exact absurd hab (List.lt_irrefl b))
    · obtain ⟨s, rfl⟩ : ∃ s : ByteArray, x = s.data.toList := ⟨⟨x.toArray⟩, rfl⟩
      rw [hC.2, h.has, hl, keysX_mem]
      simp
  have e := mergeSort_of_perm hp
  show ss.mergeSort leB = _
  rw [e]
  exact List.mergeSort_of_pairwise (hlt.imp (fun {a b} hab => by simp only [decide_eq_true_eq]; exact List.le_of_lt hab))
/-- The entry at a place of an ascending index is found. -/
theorem attrOf_at : ∀ {out : List (ByteArray × ByteArray)}, Asc out → ∀ {k : Nat} (hk : k < out.length), attrOf out out[k].1 = (out[k].2, true) := by
  intro out
  induction out with
  | nil => intro _ k hk; simp at hk
  | cons p out ih =>
    intro ha k hk
    obtain ⟨h1, h2⟩ := List.pairwise_cons.mp ha
    cases k with
    | zero => simp [attrOf]
    | succ k =>
      have hk' : k < out.length := by simpa using hk
      rw [List.getElem_cons_succ, attrOf, if_neg, ih h2 hk']
      intro e
      have := h1 _ (List.getElem_mem hk')
      rw [e, slt_irr] at this
      cases this
theorem keysX_at {out : List (ByteArray × ByteArray)} {k : Nat} (hk : k < out.length) : (keysX out)[k]? = some out[k].1.data.toList := by
  unfold keysX
  rw [List.getElem?_map, List.getElem?_eq_getElem hk]
  rfl
theorem keysX_len (out : List (ByteArray × ByteArray)) : (keysX out).length = out.length := by simp [keysX]
end Go.Proofs.YtokkigfjabbdaaaGreatDoor
