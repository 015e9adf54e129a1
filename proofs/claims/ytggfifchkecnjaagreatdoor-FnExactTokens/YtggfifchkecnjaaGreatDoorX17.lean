/- Slices of structs among the arguments, opened as rows of cells; and a slice of pairs of strings. -/
import Derived.Test.YtggfifchkecnjaaGreatDoorX14
import Derived.ChangeSlices
import Derived.ChangeArms
import Derived.Test.YtggfifchkecnjaaGreatDoorX16
import Derived.Test.YtggfifchkecnjaaGreatDoorX3
namespace Go.Proofs.YtggfifchkecnjaaGreatDoor
open Go.RowKit Go.ChangeShapes Go.WideShapes
set_option maxRecDepth 100000
set_option linter.unusedVariables false

def pairCells (rs : List (ByteArray × ByteArray)) : List Value := rs.flatMap fun r => [.string r.1, .string r.2]
theorem pairCells_len (rs : List (ByteArray × ByteArray)) : (pairCells rs).length = rs.length * 2 := by
  induction rs with
  | nil => rfl
  | cons r rs ih => simp only [pairCells, List.flatMap_cons, List.length_append, List.length_cons, List.length_nil] at ih ⊢; omega

section
variable {H : Type} {enc : TypeId × Value → H} {P : Program} {w : World} {base : Nat} {spare : Nat → Bool} {held : Bool}
end
end Go.Proofs.YtggfifchkecnjaaGreatDoor

/- Contracts of the specification's NameOk, at every string of at most 2^40 bytes. -/
namespace Go.Proofs.YtggfifchkecnjaaGreatDoor
open Go.RowKit
set_option maxRecDepth 100000
set_option linter.unusedVariables false

theorem l1Ok_any (s : ByteArray) (w : World) (hs : s.size ≤ 1099511627776) : Calls Tryz.prog 137 #[.string s] w fun e w' => e = .returned (.bool (utfOk (bs s))) ∧ Below w.heap.size w w' := by
  obtain ⟨cap, w1, hc, hk, hcap, hm, hb⟩ := conv_str s w (by unfold maxLen; omega)
  have hl := bs_len s
  have hsl := hk.sl (n := s.size) (cap := cap) (by omega) (by omega) hm
  have hu := sutfOk_any hsl (bs_byte s) (by omega)
  clear hk
  go_enter Tryz.func137, Tryz.ntmps137
  go_wp2_with fail
  go_at_call 149
  refine hu.mono ?_
  rintro e w2 ⟨rfl, b2⟩
  go_wp2
  go_ret
  exact ⟨rfl, hb.trans (b2.mono hb.size)⟩

end Go.Proofs.YtggfifchkecnjaaGreatDoor

/- The law on append, said of slices of any values, several cells an element, that the call itself made. No condition. -/
namespace Go.Proofs.YtggfifchkecnjaaGreatDoor
open Go.RowKit
set_option maxRecDepth 100000
set_option linter.unusedVariables false

theorem wpList_appV {P : Program} (w : World) {ops : Array Oper} {rest : List Oper} {o : Oper} {a : Act} {Q : Exit → Act → World → Prop} (hgd : o.guard = none)
    (s x : Operand) (t : TypeId) (ho : o.op = Op.call { callee := Callee.builtin Builtin.append, args := #[s, x], argTypes := #[t, t] }) (B : Nat) (e : TypeId) (i : TypeInfo)
    (z : Value) (size bytes : Nat) (ht : P.underlying t = some (TypeDesc.slice e)) (hi : P.info? e = some i) (hz : i.zero = some z) (hsize : i.size = size) (hby : i.bytes = bytes)
    (hzs : z.cells.size = size) (hpos : 0 < size) (v u : Value) (n m : Nat) (xs ys : List Value) (hs : a.eval s = v) (hx : a.eval x = u) (hown : w.ownsRow B e size v n xs) (hu : Sv size w u ys) (hm : ys.length = m * size)
    (h1 : ∀ y ∈ ys, y.oneCell' = true) (hb : (n + m) * bytes ≤ 140737488355328) (h63 : n + m ≤ maxLen) (hbase : B ≤ w.heap.size)
    (h : ∀ (v' : Value) (w' : World), w'.ownsRow B e size v' (n + m) (xs ++ ys) → w.grownBy w' v.ownBlock → wpList P ops Q rest (a.put o.dst v') w') :
    wpList P ops Q (o :: rest) a w := by
  obtain ⟨ao, len, cap, rfl, hl, hlc, hcm, hnone, hc⟩ := hu
  have hlm : len = m := Nat.eq_of_mul_eq_mul_right hpos (hl.symm.trans hm)
  subst hlm
  cases ao with
  | none =>
    have hc0 := hnone rfl
    subst hc0
    have hl0 : len = 0 := by omega
    subst hl0
    have hy : ys = [] := List.length_eq_zero_iff.mp (by omega)
    subst hy
    refine wpList_append_own_none hgd s x t ho B e i size ht hi v n _ hs hown hx (h v w ?_ (World.grownBy.refl _ _))
    rw [List.append_nil]; exact hown
  | some ad =>
    refine wpList_append_own w hgd s x t ho B e i z size bytes ht hi hz hsize hby hzs hpos v n _ hs hown ad len cap ys hx hl ?_ h1 h63 hb hbase ?_
    · intro j y hy
      have hj : j < ys.length := by
        by_cases hj : j < ys.length
        · exact hj
        · rw [List.getElem?_eq_none (Nat.le_of_not_lt hj)] at hy; cases hy
      obtain ⟨b, off, e, c⟩ := hc j hj
      cases e
      have e2 : ys.getD j undef = y := by rw [List.getD_eq_getElem?_getD, hy]; rfl
      rw [e2] at c
      rw [← c]
      by_cases h0 : j = 0
      · subst h0; simp [Addr.add]
      · simp [Addr.add, h0]
    · intro v' w' ho' hg' _
      exact h v' w' ho' hg'
theorem empty_row (w : World) (B : Nat) (e : TypeId) (size : Nat) (hB : B ≤ w.heap.size) : (w.alloc (.cells #[] e)).ownsRow B e size (.slice (some ⟨w.heap.size, 0, none⟩) 0 0) 0 [] := by
  refine ⟨by simp, .inr ⟨w.heap.size, 0, #[], rfl, hB, heap_alloc_new _ _, Nat.le_refl _, Nat.zero_le _, by simp, by simp⟩⟩
end Go.Proofs.YtggfifchkecnjaaGreatDoor

/- What a reference takes is just what it tells: of plain lists. -/
namespace Go.Proofs.YtggfifchkecnjaaGreatDoor
open Go.RowKit
set_option maxRecDepth 100000
set_option linter.unusedVariables false

theorem pointOk_refNumber (x : Int) : pointOk (refNumber x) = true ∧ refNumber x ≠ 0 := by
  unfold refNumber
  by_cases h : x = 0 ∨ pointOk x = false
  · rw [if_pos h]; decide
  · rw [if_neg h]
    by_cases h1 : 128 ≤ x ∧ x ≤ 159
    · rw [inB_yes h1.1 h1.2, if_pos rfl]
      have hk : (x - 128).toNat < 32 := by omega
      generalize (x - 128).toNat = k at hk
      have : ∀ k : Fin 32, pointOk (oldPoints.getD k.1 0) = true ∧ oldPoints.getD k.1 0 ≠ 0 := by decide
      exact this ⟨k, hk⟩
    · rw [inB_no (by omega), if_neg (by decide)]
      refine ⟨?_, fun e => h (.inl e)⟩
      rcases hp : pointOk x with _ | _
      · exact absurd (.inr hp) h
      · rfl

theorem digs_eq {b : Int} {l : List Int} {m : Nat} (h : ∀ k, k < m → 0 ≤ digitOf (l.getD k (-1)) b) (he : digitOf (l.getD m (-1)) b < 0) : digs b l = (List.range m).map fun k => digitOf (l.getD k (-1)) b := by
  induction m generalizing l with
  | zero =>
    cases l with
    | nil => rfl
    | cons c cs => unfold digs; rw [if_neg (by simp at he; omega)]; rfl
  | succ m ih =>
    cases l with
    | nil => have := h 0 (by omega); have := digitOf_neg b; simp at *; omega
    | cons c cs =>
      have h0 := h 0 (by omega)
      unfold digs
      rw [if_pos (by simpa using h0), List.range_succ_eq_map, List.map_cons, List.map_map]
      have e := ih (l := cs) (fun k hk => by have := h (k + 1) (by omega); simpa using this) (by simpa using he)
      rw [e]
      simp [Function.comp_def]

def cut (xs : List Int) (n : Nat) : List Int := xs.take n ++ [32]
theorem cut_lt {xs : List Int} {n j : Nat} (hn : n ≤ xs.length) (hj : j < n) : atL (cut xs n) j = atL xs j := by
  have h1 : j < (xs.take n).length := by simp; omega
  simp only [atL, cut, List.getD_eq_getElem?_getD]
  rw [List.getElem?_append_left h1, List.getElem?_take_of_lt hj]
theorem cut_at {xs : List Int} {n : Nat} (hn : n ≤ xs.length) : atL (cut xs n) n = 32 := by
  have h1 : (xs.take n).length = n := by simp; omega
  simp only [atL, cut, List.getD_eq_getElem?_getD]
  rw [List.getElem?_append_right (by omega), h1, Nat.sub_self]
  rfl
theorem drop_getD (xs : List Int) (f k : Nat) : (xs.drop f).getD k (-1) = atL xs (f + k) := by simp [atL, List.getD_eq_getElem?_getD, List.getElem?_drop]
theorem atL_lt {xs : List Int} {j : Nat} (h : atL xs j ≠ -1) : j < xs.length := by
  by_cases hj : j < xs.length
  · exact hj
  · exact absurd (atL_out (by omega)) h

theorem refDigits_cut {xs : List Int} {b : Int} (hb : b = 10 ∨ b = 16) {f n : Nat} {x : Int} (h : refDigits xs b f = (x, (n : Int))) (h0 : 0 < n) : f < n ∧ n ≤ xs.length ∧ refDigits (cut xs n) b f = (x, (n : Int)) := by
  unfold refDigits at h
  simp only at h
  by_cases hd : digs b (xs.drop f) = []
  · rw [if_pos hd] at h
    have := (Prod.mk.inj h).2
    omega
  · rw [if_neg hd] at h
    obtain ⟨hx, hn⟩ := Prod.mk.inj h
    have hlen : 0 < (digs b (xs.drop f)).length := List.length_pos_iff.mpr hd
    obtain ⟨m, hm⟩ : ∃ m, m = (digs b (xs.drop f)).length := ⟨_, rfl⟩
    have hdl := digs_le b (xs.drop f)
    rw [List.length_drop] at hdl
    have hat : ∀ k, k < m → 0 ≤ digitOf (atL xs (f + k)) b := fun k hk => by have := (digs_at b (xs.drop f) k (by omega)).2; rw [drop_getD] at this; exact this
    have hend := digs_end b (xs.drop f)
    rw [drop_getD, ← hm] at hend
    rw [← hm] at hn hlen hdl
    have hfm : f + m ≤ xs.length := by omega
    have hnn : n = f + m + (if atL xs (f + m) = 59 then 1 else 0) := by omega
    have hnle : n ≤ xs.length := by
      rw [hnn]
      by_cases h59 : atL xs (f + m) = 59
      · rw [if_pos h59]
        have := atL_lt (xs := xs) (j := f + m) (by rw [h59]; decide)
        omega
      · rw [if_neg h59]; omega
    have hfmn : f + m ≤ n := by omega
    refine ⟨by omega, hnle, ?_⟩
    have hat2 : ∀ k, k < m → atL (cut xs n) (f + k) = atL xs (f + k) := fun k hk => cut_lt hnle (by omega)
    have hend2 : digitOf (atL (cut xs n) (f + m)) b < 0 ∧ (atL (cut xs n) (f + m) = 59 ↔ atL xs (f + m) = 59) := by
      by_cases h59 : atL xs (f + m) = 59
      · rw [if_pos h59] at hnn
        rw [cut_lt hnle (by omega)]
        exact ⟨hend, Iff.rfl⟩
      · rw [if_neg h59] at hnn
        have e : f + m = n := by omega
        rw [e, cut_at hnle]
        refine ⟨?_, ?_⟩
        · rcases hb with rfl | rfl <;> decide
        · rw [← e]; exact ⟨fun h => absurd h (by decide), fun h => absurd h h59⟩
    have d1 := digs_eq (b := b) (l := xs.drop f) (m := m) (fun k hk => by rw [drop_getD]; exact hat k hk) (by rw [drop_getD]; exact hend)
    have d2 := digs_eq (b := b) (l := (cut xs n).drop f) (m := m) (fun k hk => by rw [drop_getD, hat2 k hk]; exact hat k hk) (by rw [drop_getD]; exact hend2.1)
    have e12 : digs b ((cut xs n).drop f) = digs b (xs.drop f) := by
      rw [d1, d2]
      apply List.map_congr_left
      intro k hk
      rw [drop_getD, drop_getD, hat2 k (List.mem_range.mp hk)]
    unfold refDigits
    simp only
    rw [e12, if_neg hd, ← hm, hx]
    congr 1
    by_cases h59 : atL xs (f + m) = 59
    · rw [if_pos (hend2.2.mpr h59)]; rw [if_pos h59] at hnn; rw [hnn]
    · rw [if_neg (fun e => h59 (hend2.2.mp e))]; rw [if_neg h59] at hnn; rw [hnn]
end Go.Proofs.YtggfifchkecnjaaGreatDoor

/- The contract of the specification's Refs. -/
namespace Go.Proofs.YtggfifchkecnjaaGreatDoor
open Go.RowKit
set_option maxRecDepth 100000
set_option linter.unusedVariables false

def RefsAt (w : World) (g : Nat) : Prop := ∀ k (hk : k < refList.length), w.cell? ⟨g, k * 2, none⟩ = some (.string refList[k].1) ∧ w.cell? ⟨g, k * 2 + 1, none⟩ = some (.int .i64 refList[k].2)
theorem RefsAt.lt {w : World} {g : Nat} (h : RefsAt w g) : g < w.heap.size := by
  by_cases hl : g < w.heap.size
  · exact hl
  · have := (h 0 (by decide)).1
    simp [World.cell?, Array.getElem?_eq_none (Nat.le_of_not_lt hl)] at this
theorem RefsAt.below {w w' : World} {g : Nat} (h : RefsAt w g) (hb : Below w.heap.size w w') : RefsAt w' g := fun k hk =>
  ⟨(hb.cell (p := ⟨g, k * 2, none⟩) h.lt).trans (h k hk).1, (hb.cell (p := ⟨g, k * 2 + 1, none⟩) h.lt).trans (h k hk).2⟩
theorem RefsAt.same {w w' : World} {g : Nat} (h : RefsAt w g) (e : w'.heap[g]? = w.heap[g]?) : RefsAt w' g := fun k hk => by
  have := h k hk
  simp only [World.cell?, e] at this ⊢
  exact this
theorem RefsAt.set {w : World} {g b k : Nat} {u : Value} (h : RefsAt w g) (hne : g ≠ b) : RefsAt (w.setCell ⟨b, k, none⟩ u) g :=
  h.same (Below.heap_setCell w _ u g hne)
theorem RefsAt.of {w : World} {g : Nat} {cur : Array Value} {t : TypeId} {fr : Nat × Nat} (h : w.heap[g]? = some (.cells cur t fr)) (hc : cur.toList = refCells refList) : RefsAt w g := fun k hk => by
  have at' : ∀ i, i < (refCells refList).length → w.cell? ⟨g, i, none⟩ = some ((refCells refList).getD i undef) := fun i hi => by
    have : cur.toList[i]? = some ((refCells refList).getD i undef) := by rw [hc]; simp [List.getD_eq_getElem?_getD, hi]
    simp only [World.cell?, h]
    simpa using this
  have hl := refCells_len refList
  exact ⟨by rw [at' (k * 2) (by omega), refCells_name _ _ hk], by rw [at' (k * 2 + 1) (by omega), refCells_point _ _ hk]⟩

set_option maxHeartbeats 4000000 in
set_option maxRecDepth 100000 in
theorem srefs_any (w : World) : Calls Tryz.prog 80 #[] w fun e w' => e = .returned (.slice (some ⟨w.heap.size, 0, none⟩) 24 24) ∧ RefsAt w' w.heap.size ∧ Below w.heap.size w w' := by
  go_enter Tryz.func80, Tryz.ntmps80
  go_wp2
  go_ret
  exact ⟨rfl, RefsAt.of (heap_alloc_new _ _) (by kernel_rfl), (Below.refl _ _).alloc (Nat.le_refl _) _⟩
end Go.Proofs.YtggfifchkecnjaaGreatDoor
