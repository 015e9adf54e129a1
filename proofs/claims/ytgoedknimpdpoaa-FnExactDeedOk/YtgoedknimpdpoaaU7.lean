/- Strings as lists of bytes, and the bytes that a conversion makes of one. No condition. -/
import Derived.Test.YtgoedknimpdpoaaU6
import Derived.Laws.IdiomStrings
import Derived.Test.YtgoedknimpdpoaaU2
namespace Go.Proofs.Ytgoedknimpdpoaa
open Go.RowKit
set_option maxRecDepth 100000
set_option linter.unusedVariables false

/-- The bytes of a string, as integers. -/
def bs (s : ByteArray) : List Int := s.data.toList.map fun b => (b.toNat : Int)

theorem bs_len (s : ByteArray) : (bs s).length = s.size := by simp [bs]
theorem bs_byte (s : ByteArray) : ∀ x ∈ bs s, 0 ≤ x ∧ x ≤ 255 := by
  intro x hx
  obtain ⟨b, _, rfl⟩ := List.mem_map.mp hx
  have := b.toNat_lt
  omega
theorem bs_at (s : ByteArray) (k : Nat) (h : k < s.size) : ((s[k]'h).toNat : Int) = (bs s).getD k 0 := by
  have h' : k < (bs s).length := by rw [bs_len]; exact h
  rw [List.getD_eq_getElem?_getD, List.getElem?_eq_getElem h']
  simp [bs]
  rfl
theorem bs_bound (s : ByteArray) (k : Nat) : 0 ≤ (bs s).getD k 0 ∧ (bs s).getD k 0 ≤ 255 := by
  by_cases h : k < (bs s).length
  · rw [List.getD_eq_getElem?_getD, List.getElem?_eq_getElem h]; exact bs_byte s _ (List.getElem_mem h)
  · rw [List.getD_eq_getElem?_getD, List.getElem?_eq_none (by omega)]; simp
theorem strOf_bs (s : ByteArray) : strOf (bs s) = s := by
  obtain ⟨⟨l⟩⟩ := s
  have e := strOf_list (bs ⟨⟨l⟩⟩) ByteArray.empty
  have e0 : ByteArray.empty.data.toList = [] := rfl
  rw [e0, List.nil_append] at e
  have e1 : (bs ⟨⟨l⟩⟩).map (fun n => UInt8.ofNat n.toNat) = l := by simp [bs, Function.comp_def]
  rw [e1] at e
  unfold strOf
  generalize List.foldl (fun r n => r.push (UInt8.ofNat n.toNat)) ByteArray.empty (bs ⟨⟨l⟩⟩) = z at e
  obtain ⟨⟨lz⟩⟩ := z
  have e2 : lz = l := e
  rw [e2]
theorem bs_strOf {xs : List Int} (h : ∀ x ∈ xs, 0 ≤ x ∧ x ≤ 255) : bs (strOf xs) = xs :=
  strOf_inj (bs_byte _) h (by rw [strOf_bs])

/-- Block g has the integers 'xs' in its first cells, which may be written. -/
def Blk (K : IntKind) (t : TypeId) (w : World) (g : Nat) (xs : List Int) : Prop :=
  ∃ (cur : Array Value) (lo hi : Nat), w.heap[g]? = some (.cells cur t (lo, hi)) ∧ (∀ j, j < xs.length → cur[j]? = some (.int K (xs.getD j 0))) ∧ (xs.length ≤ lo ∨ hi = 0)

theorem Blk.lt {K : IntKind} {t : TypeId} {w : World} {g : Nat} {xs : List Int} (h : Blk K t w g xs) : g < w.heap.size := by
  obtain ⟨cur, lo, hi, hh, _, _⟩ := h
  exact lt_of_block hh
theorem Blk.cell {K : IntKind} {t : TypeId} {w : World} {g : Nat} {xs : List Int} (h : Blk K t w g xs) (j : Nat) (hj : j < xs.length) : w.cell? ⟨g, j, none⟩ = some (.int K (xs.getD j 0)) := by
  obtain ⟨cur, lo, hi, hh, hc, _⟩ := h
  have e := hc j hj
  simp only [World.cell?, hh]
  simpa using e
theorem Blk.frozen {K : IntKind} {t : TypeId} {w : World} {g : Nat} {xs : List Int} (h : Blk K t w g xs) (j : Nat) (hj : j < xs.length) : w.frozen? ⟨g, j, none⟩ = false := by
  obtain ⟨cur, lo, hi, hh, _, hf⟩ := h
  simp only [World.frozen?, hh]
  rcases hf with hf | hf
  · have e : decide (lo ≤ j) = false := by simp; omega
    rw [e]; rfl
  · subst hf; simp
theorem Blk.below {K : IntKind} {t : TypeId} {w w' : World} {g : Nat} {xs : List Int} (h : Blk K t w g xs) (hb : Below w.heap.size w w') : Blk K t w' g xs := by
  have hlt := h.lt
  obtain ⟨cur, lo, hi, hh, hc, hf⟩ := h
  exact ⟨cur, lo, hi, by rw [hb.block g hlt]; exact hh, hc, hf⟩
theorem Blk.set {K : IntKind} {t : TypeId} {w : World} {g : Nat} {xs : List Int} (h : Blk K t w g xs) (j : Nat) (hj : j < xs.length) (x : Int) : Blk K t (w.setCell ⟨g, j, none⟩ (.int K x)) g (xs.set j x) := by
  have hlt := h.lt
  obtain ⟨cur, lo, hi, hh, hc, hf⟩ := h
  refine ⟨cur.setIfInBounds j (.int K x), lo, hi, ?_, ?_, by rw [List.length_set]; exact hf⟩
  · have h' : w.heap[g] = .cells cur t (lo, hi) := by simpa [Array.getElem?_eq_getElem hlt] using hh
    show (w.heap.modify g _)[g]? = _
    rw [Array.getElem?_eq_getElem (by simpa using hlt), Array.getElem_modify_self, h']
    rfl
  · intro i hi'
    rw [List.length_set] at hi'
    by_cases e : j = i
    · subst e
      have hs : j < cur.size := by
        have e := hc j hj
        by_cases hs : j < cur.size
        · exact hs
        · rw [Array.getElem?_eq_none (by omega)] at e; cases e
      rw [Array.getElem?_setIfInBounds_self_of_lt hs]
      simp [List.getD_eq_getElem?_getD, hj]
    · rw [Array.getElem?_setIfInBounds_ne e, hc i hi']
      simp [List.getD_eq_getElem?_getD, List.getElem?_set_ne e]
theorem Blk.sl {K : IntKind} {t : TypeId} {w : World} {g : Nat} {xs : List Int} (h : Blk K t w g xs) {n cap : Nat} (hn : n = xs.length) (hc : xs.length ≤ cap) (hm : cap ≤ maxLen) : Sl K w (.slice (some ⟨g, 0, none⟩) n cap) xs := by
  subst hn
  exact ⟨_, cap, rfl, hc, hm, (fun e => by cases e), fun k hk => ⟨g, 0, rfl, by rw [Nat.zero_add]; exact h.cell k hk⟩⟩

end Go.Proofs.Ytgoedknimpdpoaa

/- Slices of any values, several cells an element, and lists of references as such. No condition. -/
namespace Go.Proofs.Ytgoedknimpdpoaa
open Go.RowKit
set_option maxRecDepth 100000
set_option linter.unusedVariables false

/-- The slice value v has the cells 'cs', 'size' of them an element. -/
def Sv (size : Nat) (w : World) (v : Value) (cs : List Value) : Prop :=
  ∃ a len cap, v = .slice a len cap ∧ cs.length = len * size ∧ len ≤ cap ∧ cap ≤ maxLen ∧ (a = none → cap = 0) ∧
    ∀ i, i < cs.length → ∃ b off, a = some ⟨b, off, none⟩ ∧ w.cell? ⟨b, off + i, none⟩ = some (cs.getD i undef)

theorem Sv.below {size : Nat} {w w' : World} {v : Value} {cs : List Value} (h : Sv size w v cs) (hb : Below w.heap.size w w') : Sv size w' v cs := by
  obtain ⟨a, len, cap, e, h1, h2, h3, h4, hc⟩ := h
  refine ⟨a, len, cap, e, h1, h2, h3, h4, fun i hi => ?_⟩
  obtain ⟨b, off, e, c⟩ := hc i hi
  refine ⟨b, off, e, ?_⟩
  have hlt : b < w.heap.size := by
    by_cases hlt : b < w.heap.size
    · exact hlt
    · exfalso; simp [World.cell?, Array.getElem?_eq_none (Nat.le_of_not_lt hlt)] at c
  exact (hb.cell (p := ⟨b, off + i, none⟩) hlt).trans c

theorem sv_of_own {B size n : Nat} {e : TypeId} {w : World} {v : Value} {cs : List Value} (h : w.ownsRow B e size v n cs) : Sv size w v cs := by
  have h0 := h
  obtain ⟨hl, ⟨hv, hn⟩ | ⟨g, cap, cur, hv, hB, hh, hn, hm, hz, ht⟩⟩ := h
  · subst hn
    have hc : cs = [] := List.length_eq_zero_iff.mp (by omega)
    subst hc
    exact ⟨none, 0, 0, hv, by simp, Nat.le_refl _, Nat.zero_le _, fun _ => rfl, fun i hi => absurd hi (by simp)⟩
  · refine ⟨some ⟨g, 0, none⟩, n, cap, hv, hl, hn, hm, (fun e => by cases e), fun i hi => ⟨g, 0, rfl, ?_⟩⟩
    have e1 : cur[i]? = some (cs.getD i undef) := by
      have : (cur.toList.take (n * size))[i]? = some (cs.getD i undef) := by rw [ht]; simp [List.getD_eq_getElem?_getD, hi]
      rw [List.getElem?_take] at this
      simpa [show i < n * size by omega] using this
    simp only [World.cell?, hh, Nat.zero_add]
    simpa using e1

theorem ownsRow_below {B : Nat} {e : TypeId} {size n : Nat} {w w' : World} {v : Value} {cs : List Value} (h : w.ownsRow B e size v n cs) (hb : Below w.heap.size w w') : w'.ownsRow B e size v n cs := by
  obtain ⟨hl, hv | ⟨g, cap, cur, hv, hB, hh, r⟩⟩ := h
  · exact ⟨hl, .inl hv⟩
  · exact ⟨hl, .inr ⟨g, cap, cur, hv, hB, by rw [hb.block g (lt_of_block hh)]; exact hh, r⟩⟩

/-- The cells of a list of references. -/
def refCells (rs : List (ByteArray × Int)) : List Value := rs.flatMap fun r => [.string r.1, .int .i64 r.2]
theorem refCells_len (rs : List (ByteArray × Int)) : (refCells rs).length = rs.length * 2 := by
  induction rs with
  | nil => rfl
  | cons r rs ih => simp only [refCells, List.flatMap_cons, List.length_append, List.length_cons, List.length_nil] at ih ⊢; omega
theorem refCells_name (rs : List (ByteArray × Int)) (k : Nat) (h : k < rs.length) : (refCells rs).getD (k * 2) undef = .string rs[k].1 := by
  induction rs generalizing k with
  | nil => simp at h
  | cons r rs ih =>
    cases k with
    | zero => simp [refCells]
    | succ k =>
      have := ih k (by simpa using h)
      have e : (k + 1) * 2 = k * 2 + 1 + 1 := by omega
      simp only [refCells, List.flatMap_cons, List.cons_append, List.nil_append, e, List.getD_cons_succ, List.getElem_cons_succ] at this ⊢
      exact this
theorem refCells_point (rs : List (ByteArray × Int)) (k : Nat) (h : k < rs.length) : (refCells rs).getD (k * 2 + 1) undef = .int .i64 rs[k].2 := by
  induction rs generalizing k with
  | nil => simp at h
  | cons r rs ih =>
    cases k with
    | zero => simp [refCells]
    | succ k =>
      have := ih k (by simpa using h)
      have e : (k + 1) * 2 + 1 = k * 2 + 1 + 1 + 1 := by omega
      simp only [refCells, List.flatMap_cons, List.cons_append, List.nil_append, e, List.getD_cons_succ, List.getElem_cons_succ] at this ⊢
      exact this

/-- The names that stand for points, in the document's order. -/
def refList : List (ByteArray × Int) := [(⟨#[97, 109, 112]⟩, 38), (⟨#[97, 109, 112, 59]⟩, 38), (⟨#[99, 111, 112, 121]⟩, 169), (⟨#[99, 111, 112, 121, 59]⟩, 169), (⟨#[102, 114, 97, 99, 49, 50, 59]⟩, 189), (⟨#[103, 116]⟩, 62), (⟨#[103, 116, 59]⟩, 62), (⟨#[104, 101, 108, 108, 105, 112, 59]⟩, 8230), (⟨#[108, 116]⟩, 60), (⟨#[108, 116, 59]⟩, 60), (⟨#[109, 100, 97, 115, 104, 59]⟩, 8212), (⟨#[110, 98, 115, 112]⟩, 160), (⟨#[110, 98, 115, 112, 59]⟩, 160), (⟨#[110, 111, 116]⟩, 172), (⟨#[110, 111, 116, 59]⟩, 172), (⟨#[110, 111, 116, 105, 110, 59]⟩, 8713), (⟨#[113, 117, 111, 116]⟩, 34), (⟨#[113, 117, 111, 116, 59]⟩, 34), (⟨#[114, 101, 103]⟩, 174), (⟨#[114, 101, 103, 59]⟩, 174), (⟨#[115, 117, 112, 49]⟩, 185), (⟨#[115, 117, 112, 49, 59]⟩, 185), (⟨#[116, 105, 109, 101, 115, 59]⟩, 215), (⟨#[121, 101, 110, 59]⟩, 165)]
theorem refList_len : refList.length = 24 := rfl
theorem refList_size : ∀ r ∈ refList, r.1.size ≤ 7 := by decide

/-- The longest name that stands at a place; the first of them, if any. -/
def best (xs : List Int) (k : Nat) (rs : List (ByteArray × Int)) : ByteArray × Int :=
  rs.foldl (fun b r => if stands xs k (bs r.1) && decide (b.1.size < r.1.size) then r else b) (⟨#[]⟩, 0)
theorem best_succ (xs : List Int) (k : Nat) (rs : List (ByteArray × Int)) (j : Nat) (h : j < rs.length) :
    best xs k (rs.take (j + 1)) = if stands xs k (bs rs[j].1) && decide ((best xs k (rs.take j)).1.size < rs[j].1.size) then rs[j] else best xs k (rs.take j) := by
  unfold best
  rw [List.take_succ_eq_append_getElem h, List.foldl_append]
  rfl
theorem best_size (xs : List Int) (k : Nat) (rs : List (ByteArray × Int)) (h : ∀ r ∈ rs, r.1.size ≤ 7) : (best xs k rs).1.size ≤ 7 := by
  unfold best
  suffices ∀ (b : ByteArray × Int), b.1.size ≤ 7 → (rs.foldl (fun b r => if stands xs k (bs r.1) && decide (b.1.size < r.1.size) then r else b) b).1.size ≤ 7 from this _ (by decide)
  induction rs with
  | nil => intro b hb; exact hb
  | cons r rs ih =>
    intro b hb
    rw [List.foldl_cons]
    refine ih (fun r hr => h r (List.mem_cons_of_mem _ hr)) _ ?_
    split
    · exact h r (List.mem_cons_self ..)
    · exact hb

/-- What stands for the reference at a place, and the place behind it. -/
def refName (xs : List Int) (k : Nat) (value : Bool) : List Int × Int :=
  let r := best xs (k + 1) refList
  let n := r.1.size
  let c := atL xs (k + 1 + n)
  if n = 0 then ([38], (k : Int) + 1) else if value && ((bs r.1).getD (n - 1) 0 != 59) && (c == 61 || (inB c 65 90 || inB c 97 122) || decide (0 ≤ digitOf c 10)) then ([38], (k : Int) + 1) else ([r.2], (k : Int) + 1 + n)
def refRead (xs : List Int) (i : Int) (value : Bool) : List Int × Int :=
  if 3000 < xs.length ∨ inB i 0 (xs.length - 1) = false ∨ xs.getD i.toNat 0 ≠ 38 then ([], i)
  else if atL xs (i.toNat + 1) = 35 then
    let p := refNum xs (i.toNat + 2)
    if 0 < p.2 then ([p.1], p.2) else ([38], i + 1)
  else refName xs i.toNat value
end Go.Proofs.Ytgoedknimpdpoaa
