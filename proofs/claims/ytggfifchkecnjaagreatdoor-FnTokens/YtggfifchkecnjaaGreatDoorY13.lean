/- Strings as lists of bytes, and the bytes that a conversion makes of one. No condition. -/
import Derived.Test.YtggfifchkecnjaaGreatDoorY12
import Derived.Laws.IdiomStrings
namespace Go.Proofs.YtggfifchkecnjaaGreatDoor
open Go.RowKit
set_option maxRecDepth 100000
set_option linter.unusedVariables false

def bs (s : ByteArray) : List Int := s.data.toList.map fun b => (b.toNat : Int)

theorem bs_len (s : ByteArray) : (bs s).length = s.size := by simp [bs]
theorem bs_byte (s : ByteArray) : ∀ x ∈ bs s, 0 ≤ x ∧ x ≤ 255 := by
  intro x hx
  obtain ⟨b, _, rfl⟩ := List.mem_map.mp hx
  have := b.toNat_lt
  omega
theorem bs_at (s : ByteArray) (k : Nat) (h : k < s.size) : ((s[k]'h).toNat : Int) = (bs s).getD k 0 := by
  have h' : k < (bs s).length := by rw [bs_len]; exact h
  rw [List.getD_eq_getElem?_getD, List.getElem?_eq_getElem h']
  simp [bs]
  rfl
theorem bs_bound (s : ByteArray) (k : Nat) : 0 ≤ (bs s).getD k 0 ∧ (bs s).getD k 0 ≤ 255 := by
  by_cases h : k < (bs s).length
  · rw [List.getD_eq_getElem?_getD, List.getElem?_eq_getElem h]; exact bs_byte s _ (List.getElem_mem h)
  · rw [List.getD_eq_getElem?_getD, List.getElem?_eq_none (by omega)]; simp
theorem strOf_bs (s : ByteArray) : strOf (bs s) = s := by
  obtain ⟨⟨l⟩⟩ := s
  have e := strOf_list (bs ⟨⟨l⟩⟩) ByteArray.empty
  have e0 : ByteArray.empty.data.toList = [] := rfl
  rw [e0, List.nil_append] at e
  have e1 : (bs ⟨⟨l⟩⟩).map (fun n => UInt8.ofNat n.toNat) = l := by simp [bs, Function.comp_def]
  rw [e1] at e
  unfold strOf
  generalize List.foldl (fun r n => r.push (UInt8.ofNat n.toNat)) ByteArray.empty (bs ⟨⟨l⟩⟩) = z at e
  obtain ⟨⟨lz⟩⟩ := z
  have e2 : lz = l := e
  rw [e2]
theorem bs_strOf {xs : List Int} (h : ∀ x ∈ xs, 0 ≤ x ∧ x ≤ 255) : bs (strOf xs) = xs :=
  strOf_inj (bs_byte _) h (by rw [strOf_bs])

def Blk (K : IntKind) (t : TypeId) (w : World) (g : Nat) (xs : List Int) : Prop :=
  ∃ (cur : Array Value) (lo hi : Nat), w.heap[g]? = some (.cells cur t (lo, hi)) ∧ (∀ j, j < xs.length → cur[j]? = some (.int K (xs.getD j 0))) ∧ (xs.length ≤ lo ∨ hi = 0)

theorem Blk.lt {K : IntKind} {t : TypeId} {w : World} {g : Nat} {xs : List Int} (h : Blk K t w g xs) : g < w.heap.size := by
  obtain ⟨cur, lo, hi, hh, _, _⟩ := h
  exact lt_of_block hh
theorem Blk.cell {K : IntKind} {t : TypeId} {w : World} {g : Nat} {xs : List Int} (h : Blk K t w g xs) (j : Nat) (hj : j < xs.length) : w.cell? ⟨g, j, none⟩ = some (.int K (xs.getD j 0)) := by
  obtain ⟨cur, lo, hi, hh, hc, _⟩ := h
  have e := hc j hj
  simp only [World.cell?, hh]
  simpa using e
theorem Blk.frozen {K : IntKind} {t : TypeId} {w : World} {g : Nat} {xs : List Int} (h : Blk K t w g xs) (j : Nat) (hj : j < xs.length) : w.frozen? ⟨g, j, none⟩ = false := by
  obtain ⟨cur, lo, hi, hh, _, hf⟩ := h
  simp only [World.frozen?, hh]
  rcases hf with hf | hf
  · have e : decide (lo ≤ j) = false := by simp; omega
    rw [e]; rfl
  · subst hf; simp
theorem Blk.below {K : IntKind} {t : TypeId} {w w' : World} {g : Nat} {xs : List Int} (h : Blk K t w g xs) (hb : Below w.heap.size w w') : Blk K t w' g xs := by
  have hlt := h.lt
  obtain ⟨cur, lo, hi, hh, hc, hf⟩ := h
  exact ⟨cur, lo, hi, by rw [hb.block g hlt]; exact hh, hc, hf⟩
theorem Blk.set {K : IntKind} {t : TypeId} {w : World} {g : Nat} {xs : List Int} (h : Blk K t w g xs) (j : Nat) (hj : j < xs.length) (x : Int) : Blk K t (w.setCell ⟨g, j, none⟩ (.int K x)) g (xs.set j x) := by
  have hlt := h.lt
  obtain ⟨cur, lo, hi, hh, hc, hf⟩ := h
  refine ⟨cur.setIfInBounds j (.int K x), lo, hi, ?_, ?_, by rw [List.length_set]; exact hf⟩
  · have h' : w.heap[g] = .cells cur t (lo, hi) := by simpa [Array.getElem?_eq_getElem hlt] using hh
    show (w.heap.modify g _)[g]? = _
    rw [Array.getElem?_eq_getElem (by simpa using hlt), Array.getElem_modify_self, h']
    rfl
  · intro i hi'
    rw [List.length_set] at hi'
    by_cases e : j = i
    · subst e
      have hs : j < cur.size := by
        have e := hc j hj
        by_cases hs : j < cur.size
        · exact hs
        · rw [Array.getElem?_eq_none (by omega)] at e; cases e
      rw [Array.getElem?_setIfInBounds_self_of_lt hs]
      simp [List.getD_eq_getElem?_getD, hj]
    · rw [Array.getElem?_setIfInBounds_ne e, hc i hi']
      simp [List.getD_eq_getElem?_getD, List.getElem?_set_ne e]
theorem Blk.sl {K : IntKind} {t : TypeId} {w : World} {g : Nat} {xs : List Int} (h : Blk K t w g xs) {n cap : Nat} (hn : n = xs.length) (hc : xs.length ≤ cap) (hm : cap ≤ maxLen) : Sl K w (.slice (some ⟨g, 0, none⟩) n cap) xs := by
  subst hn
  exact ⟨_, cap, rfl, hc, hm, (fun e => by cases e), fun k hk => ⟨g, 0, rfl, by rw [Nat.zero_add]; exact h.cell k hk⟩⟩

theorem conv_str (s : ByteArray) (w : World) (hs : s.size ≤ maxLen) : ∃ (cap : Nat) (w1 : World), (convert 9 22 (.string s)).run Tryz.prog w = .ok (.slice (some ⟨w.heap.size, 0, none⟩) s.size cap) w1 ∧
    Blk .u8 5 w1 w.heap.size (bs s) ∧ s.size ≤ cap ∧ cap ≤ maxLen ∧ Below w.heap.size w w1 := by
  refine ⟨_, _, run_bytes_of_string w 9 22 5 s Tryz.underlying9 Tryz.underlying22 Tryz.underlying5, ⟨_, _, _, heap_alloc_new _ _, ?_, .inl ?_⟩, grownCap_ge _ _ _ _, grownCap_le_maxLen _ _ _ _ hs, ?_⟩
  · intro j hj
    rw [bs_len] at hj
    rw [bytesRow_at s _ j hj, ← bs_at s j hj]
    rfl
  · rw [bs_len]; simp [bytesRow]
  · exact (below_drewN 1).alloc (Nat.le_refl _) _
end Go.Proofs.YtggfifchkecnjaaGreatDoor
