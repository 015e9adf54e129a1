/- Heads, plainly. No condition. -/
import Derived.Test.YtokkigfjabbdaaaGreatDoorU12
import Derived.Test.YtokkigfjabbdaaaGreatDoorU13
import Derived.Test.YtokkigfjabbdaaaGreatDoorU9
import Derived.Test.YtokkigfjabbdaaaGreatDoorU1
namespace Go.Proofs.YtokkigfjabbdaaaGreatDoor
open Go.RowKit
set_option maxRecDepth 100000
set_option linter.unusedVariables false

structure PHead where
  no : Int
  area : Int
  en : Int
def headV (h : PHead) : Value := .agg #[.int .i64 h.no, .int .i64 h.area, .int .i64 h.en]
def zeroH : PHead := ⟨0, 0, 0⟩
/-- A head that is right. -/
def headB (h : PHead) : Bool := inB h.no 1 1000000000 && inB h.area 0 1 && inB h.en 0 4096
theorem headB_in {h : PHead} (e : headB h = true) : 1 ≤ h.no ∧ h.no ≤ 1000000000 ∧ 0 ≤ h.area ∧ h.area ≤ 1 ∧ 0 ≤ h.en ∧ h.en ≤ 4096 := by
  simp only [headB, inB, Bool.and_eq_true, decide_eq_true_eq] at e
  omega
def formsL (h : PHead) : List Int := form h.no ++ form h.area ++ form h.en
theorem formsL_len (h : PHead) : (formsL h).length ≤ 27 := by
  have h1 := form_len h.no
  have h2 := form_len h.area
  have h3 := form_len h.en
  simp only [formsL, List.length_append]; omega
/-- The bytes of a head's sector. -/
def packL (h : PHead) : List Int := formsL h ++ List.replicate (64 - (formsL h).length) 0
theorem packL_len (h : PHead) : (packL h).length = 64 := by
  have := formsL_len h
  simp only [packL, List.length_append, List.length_replicate]; omega
theorem packL_byte {h : PHead} (hb : headB h = true) : ∀ y ∈ packL h, 0 ≤ y ∧ y ≤ 255 := by
  have hi := headB_in hb
  intro y hy
  simp only [packL, formsL, List.mem_append] at hy
  rcases hy with ((hy | hy) | hy) | hy
  · exact form_byte (by omega) y hy
  · exact form_byte (by omega) y hy
  · exact form_byte (by omega) y hy
  · rw [List.eq_of_mem_replicate hy]; omega
def packS (h : PHead) : ByteArray := strOf (packL h)
theorem packS_bs {h : PHead} (hb : headB h = true) : bs (packS h) = packL h := bs_strOf (packL_byte hb)
def packDk (h : PHead) : ByteArray × Bool := if headB h = true then (packS h, true) else (⟨#[]⟩, false)
/-- What GetNum answers. -/
def gv (i : Int) : Option (Int × Nat) → Int × Int × Bool
  | some (y, n) => (y, i + n, true)
  | none => (0, 0, false)
def readT (xs : List Int) : PHead × Bool × Bool × Bool :=
  let a := gv 0 (rdI xs 0)
  let b := gv a.2.1 (rdI xs a.2.1)
  let c := gv b.2.1 (rdI xs b.2.1)
  (⟨a.1, b.1, c.1⟩, a.2.2, b.2.2, c.2.2)
def readDk (s : ByteArray) : PHead × Bool :=
  if ((readT (bs s)).2.1 && (readT (bs s)).2.2.1 && (readT (bs s)).2.2.2 && headB (readT (bs s)).1 && decide (packS (readT (bs s)).1 = s)) = true then ((readT (bs s)).1, true) else (zeroH, false)
theorem readT_pack {h : PHead} (hb : headB h = true) : readT (packL h) = (h, true, true, true) := by
  have hi := headB_in hb
  have r1 := rdI_form (x := h.no) (by omega) (by omega) [] (form h.area ++ form h.en ++ List.replicate (64 - (formsL h).length) 0)
  have r2 := rdI_form (x := h.area) (by omega) (by omega) (form h.no) (form h.en ++ List.replicate (64 - (formsL h).length) 0)
  have r3 := rdI_form (x := h.en) (by omega) (by omega) (form h.no ++ form h.area) (List.replicate (64 - (formsL h).length) 0)
  have e1 : [] ++ form h.no ++ (form h.area ++ form h.en ++ List.replicate (64 - (formsL h).length) 0) = packL h := by simp [packL, formsL]
  have e2 : form h.no ++ form h.area ++ (form h.en ++ List.replicate (64 - (formsL h).length) 0) = packL h := by simp [packL, formsL]
  have e3 : form h.no ++ form h.area ++ form h.en ++ List.replicate (64 - (formsL h).length) 0 = packL h := by simp [packL, formsL]
  rw [e1] at r1
  rw [e2] at r2
  rw [e3] at r3
  simp only [List.length_nil, List.length_append] at r1 r2 r3
  have c0 : ((0 : Nat) : Int) = 0 := rfl
  rw [c0] at r1
  unfold readT
  simp only [r1, gv]
  rw [show (0 : Int) + ((form h.no).length : Int) = (((form h.no).length : Nat) : Int) by omega, r2]
  simp only
  rw [show (((form h.no).length : Nat) : Int) + ((form h.area).length : Int) = (((form h.no).length + (form h.area).length : Nat) : Int) by omega, r3]
theorem read_pack {h : PHead} (hb : headB h = true) : readDk (packS h) = (h, true) := by
  unfold readDk
  rw [packS_bs hb, readT_pack hb]
  simp [hb]
theorem read_some {s : ByteArray} (h : (readDk s).2 = true) : headB (readDk s).1 = true ∧ packS (readDk s).1 = s := by
  unfold readDk at h ⊢
  split at h
  · rename_i e
    rw [if_pos e]
    simp only [Bool.and_eq_true, decide_eq_true_eq] at e
    exact ⟨e.1.2, e.2⟩
  · cases h
theorem read_none {s : ByteArray} (h : (readDk s).2 = false) : readDk s = (zeroH, false) := by
  unfold readDk at h ⊢
  split at h
  · cases h
  · rename_i e; rw [if_neg e]
/-- A text is read just where a right head packs to it. -/
theorem read_iff {s : ByteArray} {h : PHead} : readDk s = (h, true) ↔ headB h = true ∧ packS h = s := by
  constructor
  · intro e
    have := read_some (s := s) (by rw [e])
    rw [e] at this
    exact this
  · rintro ⟨h1, rfl⟩
    exact read_pack h1
theorem packS_size (h : PHead) : (packS h).size = 64 := by rw [packS, strOf_size, packL_len]
end Go.Proofs.YtokkigfjabbdaaaGreatDoor

/- The law on append, said of slices of any values, several cells an element, that the call itself made. No condition. -/
namespace Go.Proofs.YtokkigfjabbdaaaGreatDoor
open Go.RowKit
set_option maxRecDepth 100000
set_option linter.unusedVariables false

/-- 'v = append(v, u...)', v the call's own, u whatever slice, m its length. -/
theorem wpList_appV {P : Program} (w : World) {ops : Array Oper} {rest : List Oper} {o : Oper} {a : Act} {Q : Exit → Act → World → Prop} (hgd : o.guard = none)
    (s x : Operand) (t : TypeId) (ho : o.op = Op.call { callee := Callee.builtin Builtin.append, args := #[s, x], argTypes := #[t, t] }) (B : Nat) (e : TypeId) (i : TypeInfo)
    (z : Value) (size bytes : Nat) (ht : P.underlying t = some (TypeDesc.slice e)) (hi : P.info? e = some i) (hz : i.zero = some z) (hsize : i.size = size) (hby : i.bytes = bytes)
    (hzs : z.cells.size = size) (hpos : 0 < size) (v u : Value) (n m : Nat) (xs ys : List Value) (hs : a.eval s = v) (hx : a.eval x = u) (hown : w.ownsRow B e size v n xs) (hu : Sv size w u ys) (hm : ys.length = m * size)
    (h1 : ∀ y ∈ ys, y.oneCell' = true) (hb : (n + m) * bytes ≤ 140737488355328) (h63 : n + m ≤ maxLen) (hbase : B ≤ w.heap.size)
    (h : ∀ (v' : Value) (w' : World), w'.ownsRow B e size v' (n + m) (xs ++ ys) → w.grownBy w' v.ownBlock → wpList P ops Q rest (a.put o.dst v') w') :
    wpList P ops Q (o :: rest) a w := by
  obtain ⟨ao, len, cap, rfl, hl, hlc, hcm, hnone, hc⟩ := hu
  have hlm : len = m := Nat.eq_of_mul_eq_mul_right hpos (hl.symm.trans hm)
  subst hlm
  cases ao with
  | none =>
    have hc0 := hnone rfl
    subst hc0
    have hl0 : len = 0 := by omega
    subst hl0
    have hy : ys = [] := List.length_eq_zero_iff.mp (by omega)
    subst hy
    refine wpList_append_own_none hgd s x t ho B e i size ht hi v n _ hs hown hx (h v w ?_ (World.grownBy.refl _ _))
    rw [List.append_nil]; exact hown
  | some ad =>
    refine wpList_append_own w hgd s x t ho B e i z size bytes ht hi hz hsize hby hzs hpos v n _ hs hown ad len cap ys hx hl ?_ h1 h63 hb hbase ?_
    · intro j y hy
      have hj : j < ys.length := by
        by_cases hj : j < ys.length
        · exact hj
        · rw [List.getElem?_eq_none (Nat.le_of_not_lt hj)] at hy; cases hy
      obtain ⟨b, off, e, c⟩ := hc j hj
      cases e
      have e2 : ys.getD j undef = y := by rw [List.getD_eq_getElem?_getD, hy]; rfl
      rw [e2] at c
      rw [← c]
      by_cases h0 : j = 0
      · subst h0; simp [Addr.add]
      · simp [Addr.add, h0]
    · intro v' w' ho' hg' _
      exact h v' w' ho' hg'
theorem empty_row (w : World) (B : Nat) (e : TypeId) (size : Nat) (hB : B ≤ w.heap.size) : (w.alloc (.cells #[] e)).ownsRow B e size (.slice (some ⟨w.heap.size, 0, none⟩) 0 0) 0 [] := by
  refine ⟨by simp, .inr ⟨w.heap.size, 0, #[], rfl, hB, heap_alloc_new _ _, Nat.le_refl _, Nat.zero_le _, by simp, by simp⟩⟩
end Go.Proofs.YtokkigfjabbdaaaGreatDoor
