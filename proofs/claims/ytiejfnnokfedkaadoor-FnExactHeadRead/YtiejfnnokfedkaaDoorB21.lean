import Derived.Test.YtiejfnnokfedkaaDoorB20
import Derived.Lib.BufferWrite
import Derived.Deep.MidRow
import Derived.Stop.BytesEq
import Derived.Test.YtiejfnnokfedkaaDoorB19
/- The program's sectors as arrays (written by mk/isec.py). No condition. -/
namespace Go.Proofs.YtiejfnnokfedkaaDoor
open Go.RowKit
set_option maxRecDepth 100000
set_option linter.unusedVariables false

/-- The cells of a sector. -/
def secL (s : ByteArray) : List Value := (bs s).map (Value.int .u8)
def secA (s : ByteArray) : Array Value := (secL s).toArray
theorem secL_len (s : ByteArray) : (secL s).length = s.size := by simp [secL, bs_len]
theorem secA_size (s : ByteArray) : (secA s).size = s.size := by simp [secA, secL_len]
theorem secL_one (s : ByteArray) : ∀ v ∈ secL s, v.oneCell' = true := by
  intro v hv
  obtain ⟨x, _, rfl⟩ := List.mem_map.mp hv
  rfl
theorem secA_one (s : ByteArray) : (secA s).all (·.oneCell') = true := all_oneCell_toArray (secL_one s)
theorem secL_bytes (s : ByteArray) : Lib.byteCells s.data.toList = secL s := by simp [Lib.byteCells, secL, bs]

/-- 'copy(v[:], s)', v an array as long as s. -/
theorem run_copyS {P : Program} (w : World) (dT sT ty e : TypeId) (g n : Nat) (s : ByteArray) (cur : Array Value) (t : TypeId)
    (hu : P.underlying dT = some (TypeDesc.slice e)) (hsz : Option.map (fun x => x.size) (P.info? e) = some 1) (hg : w.heap[g]? = some (.cells cur t (0, 0))) (hn : s.size = n) (hc : cur.size = n) :
    (Builtin.copy_ #[dT, sT] ty #[.slice (some ⟨g, 0, none⟩) n n, .string s]).run P w = .ok (goInt n) (w.setRow g (secA s)) := by
  have hr := Lib.run_copy_row_string (P := P) w dT sT ty e g 0 n n s cur t hu hsz hg (by omega) (by omega)
  have hrow : (cur.toList.take 0 ++ Lib.byteCells s.data.toList ++ cur.toList.drop (0 + s.size)).toArray = secA s := by
    rw [secL_bytes, List.take_zero, List.nil_append, List.drop_of_length_le (by rw [Array.length_toList]; omega), List.append_nil]
    rfl
  rw [hrow, hn] at hr
  exact hr
theorem grown_setRow (w : World) (g : Nat) (cs : Array Value) : w.grownBy (w.setRow g cs) (some g) := ⟨rfl, rfl, rfl, by simp, fun k _ hk => setRow_other w g k _ (fun e => hk (by rw [e]))⟩

theorem run_storeAt_row {P : Program} (w : World) (g : Nat) (t ty : TypeId) (old cells : Array Value) (hg : w.heap[g]? = some (.cells old t (0, 0))) (hi : (P.info? ty).map (·.size) = some cells.size)
    (ho : old.size = cells.size) (h1 : cells.all (·.oneCell') = true) :
    (Instr.storeAt ty (.pointer (some ⟨g, 0, none⟩)) (.agg cells)).run P w = .ok () (w.setRow g cells) := by
  simp only [Instr.storeAt, Instr.sureAddr, Sem.run_bind, Sem.run_pure, Result.andThen_ok, run_storeVar_row w g t ty old cells hg hi ho h1]
theorem run_loadAt_row {P : Program} (w : World) (g : Nat) (t ty : TypeId) (cs : Array Value) (fr : Nat × Nat) (d : TypeDesc) (hg : w.heap[g]? = some (.cells cs t fr))
    (hu : P.underlying ty = some d) (hd : (match d with | .struct _ | .array _ _ => true | _ => false) = true) (hi : (P.info? ty).map (·.size) = some cs.size) :
    (Instr.loadAt ty (.pointer (some ⟨g, 0, none⟩))).run P w = .ok (.agg cs) w := by
  simp only [Instr.loadAt, Instr.sureAddr, Sem.run_bind, Sem.run_pure, Result.andThen_ok, run_loadVar_row w g t ty cs fr d hg hu hd hi]
theorem secSize {s : ByteArray} (hs : s.size = 64) : (Tryd.prog.info? 59).map (·.size) = some (secA s).size := by
  rw [secA_size, hs]; kernel_rfl

set_option maxRecDepth 100000 in
theorem isectorFrom_any (s : ByteArray) (w : World) (hs : s.size = 64) : Calls Tryd.prog 51 #[.string s] w fun e w' => e = .returned (.agg (secA s)) ∧ Below w.heap.size w w' := by
  obtain ⟨w1, hw1⟩ : ∃ x, x = (w.alloc (.cells #[.int .u8 0, .int .u8 0, .int .u8 0, .int .u8 0, .int .u8 0, .int .u8 0, .int .u8 0, .int .u8 0, .int .u8 0, .int .u8 0, .int .u8 0, .int .u8 0, .int .u8 0, .int .u8 0, .int .u8 0, .int .u8 0, .int .u8 0, .int .u8 0, .int .u8 0, .int .u8 0, .int .u8 0, .int .u8 0, .int .u8 0, .int .u8 0, .int .u8 0, .int .u8 0, .int .u8 0, .int .u8 0, .int .u8 0, .int .u8 0, .int .u8 0, .int .u8 0, .int .u8 0, .int .u8 0, .int .u8 0, .int .u8 0, .int .u8 0, .int .u8 0, .int .u8 0, .int .u8 0, .int .u8 0, .int .u8 0, .int .u8 0, .int .u8 0, .int .u8 0, .int .u8 0, .int .u8 0, .int .u8 0, .int .u8 0, .int .u8 0, .int .u8 0, .int .u8 0, .int .u8 0, .int .u8 0, .int .u8 0, .int .u8 0, .int .u8 0, .int .u8 0, .int .u8 0, .int .u8 0, .int .u8 0, .int .u8 0, .int .u8 0, .int .u8 0] 59)).alloc (.cells #[.int .u8 0, .int .u8 0, .int .u8 0, .int .u8 0, .int .u8 0, .int .u8 0, .int .u8 0, .int .u8 0, .int .u8 0, .int .u8 0, .int .u8 0, .int .u8 0, .int .u8 0, .int .u8 0, .int .u8 0, .int .u8 0, .int .u8 0, .int .u8 0, .int .u8 0, .int .u8 0, .int .u8 0, .int .u8 0, .int .u8 0, .int .u8 0, .int .u8 0, .int .u8 0, .int .u8 0, .int .u8 0, .int .u8 0, .int .u8 0, .int .u8 0, .int .u8 0, .int .u8 0, .int .u8 0, .int .u8 0, .int .u8 0, .int .u8 0, .int .u8 0, .int .u8 0, .int .u8 0, .int .u8 0, .int .u8 0, .int .u8 0, .int .u8 0, .int .u8 0, .int .u8 0, .int .u8 0, .int .u8 0, .int .u8 0, .int .u8 0, .int .u8 0, .int .u8 0, .int .u8 0, .int .u8 0, .int .u8 0, .int .u8 0, .int .u8 0, .int .u8 0, .int .u8 0, .int .u8 0, .int .u8 0, .int .u8 0, .int .u8 0, .int .u8 0] 59) := ⟨_, rfl⟩
  have b1 : Below w.heap.size w w1 := by rw [hw1]; exact ((Below.refl _ _).alloc (Nat.le_refl _) _).alloc (by simp) _
  have x1 : w1.heap[w.heap.size]? = some (.cells #[.int .u8 0, .int .u8 0, .int .u8 0, .int .u8 0, .int .u8 0, .int .u8 0, .int .u8 0, .int .u8 0, .int .u8 0, .int .u8 0, .int .u8 0, .int .u8 0, .int .u8 0, .int .u8 0, .int .u8 0, .int .u8 0, .int .u8 0, .int .u8 0, .int .u8 0, .int .u8 0, .int .u8 0, .int .u8 0, .int .u8 0, .int .u8 0, .int .u8 0, .int .u8 0, .int .u8 0, .int .u8 0, .int .u8 0, .int .u8 0, .int .u8 0, .int .u8 0, .int .u8 0, .int .u8 0, .int .u8 0, .int .u8 0, .int .u8 0, .int .u8 0, .int .u8 0, .int .u8 0, .int .u8 0, .int .u8 0, .int .u8 0, .int .u8 0, .int .u8 0, .int .u8 0, .int .u8 0, .int .u8 0, .int .u8 0, .int .u8 0, .int .u8 0, .int .u8 0, .int .u8 0, .int .u8 0, .int .u8 0, .int .u8 0, .int .u8 0, .int .u8 0, .int .u8 0, .int .u8 0, .int .u8 0, .int .u8 0, .int .u8 0, .int .u8 0] 59 (0, 0)) := by rw [hw1, Below.heap_alloc _ _ _ (by simp)]; exact World.alloc_heap_new _ _
  have x2 : w1.heap[w.heap.size + 1]? = some (.cells #[.int .u8 0, .int .u8 0, .int .u8 0, .int .u8 0, .int .u8 0, .int .u8 0, .int .u8 0, .int .u8 0, .int .u8 0, .int .u8 0, .int .u8 0, .int .u8 0, .int .u8 0, .int .u8 0, .int .u8 0, .int .u8 0, .int .u8 0, .int .u8 0, .int .u8 0, .int .u8 0, .int .u8 0, .int .u8 0, .int .u8 0, .int .u8 0, .int .u8 0, .int .u8 0, .int .u8 0, .int .u8 0, .int .u8 0, .int .u8 0, .int .u8 0, .int .u8 0, .int .u8 0, .int .u8 0, .int .u8 0, .int .u8 0, .int .u8 0, .int .u8 0, .int .u8 0, .int .u8 0, .int .u8 0, .int .u8 0, .int .u8 0, .int .u8 0, .int .u8 0, .int .u8 0, .int .u8 0, .int .u8 0, .int .u8 0, .int .u8 0, .int .u8 0, .int .u8 0, .int .u8 0, .int .u8 0, .int .u8 0, .int .u8 0, .int .u8 0, .int .u8 0, .int .u8 0, .int .u8 0, .int .u8 0, .int .u8 0, .int .u8 0, .int .u8 0] 59 (0, 0)) := by
    rw [hw1]
    have := World.alloc_heap_new (w.alloc (.cells #[.int .u8 0, .int .u8 0, .int .u8 0, .int .u8 0, .int .u8 0, .int .u8 0, .int .u8 0, .int .u8 0, .int .u8 0, .int .u8 0, .int .u8 0, .int .u8 0, .int .u8 0, .int .u8 0, .int .u8 0, .int .u8 0, .int .u8 0, .int .u8 0, .int .u8 0, .int .u8 0, .int .u8 0, .int .u8 0, .int .u8 0, .int .u8 0, .int .u8 0, .int .u8 0, .int .u8 0, .int .u8 0, .int .u8 0, .int .u8 0, .int .u8 0, .int .u8 0, .int .u8 0, .int .u8 0, .int .u8 0, .int .u8 0, .int .u8 0, .int .u8 0, .int .u8 0, .int .u8 0, .int .u8 0, .int .u8 0, .int .u8 0, .int .u8 0, .int .u8 0, .int .u8 0, .int .u8 0, .int .u8 0, .int .u8 0, .int .u8 0, .int .u8 0, .int .u8 0, .int .u8 0, .int .u8 0, .int .u8 0, .int .u8 0, .int .u8 0, .int .u8 0, .int .u8 0, .int .u8 0, .int .u8 0, .int .u8 0, .int .u8 0, .int .u8 0] 59)) (.cells #[.int .u8 0, .int .u8 0, .int .u8 0, .int .u8 0, .int .u8 0, .int .u8 0, .int .u8 0, .int .u8 0, .int .u8 0, .int .u8 0, .int .u8 0, .int .u8 0, .int .u8 0, .int .u8 0, .int .u8 0, .int .u8 0, .int .u8 0, .int .u8 0, .int .u8 0, .int .u8 0, .int .u8 0, .int .u8 0, .int .u8 0, .int .u8 0, .int .u8 0, .int .u8 0, .int .u8 0, .int .u8 0, .int .u8 0, .int .u8 0, .int .u8 0, .int .u8 0, .int .u8 0, .int .u8 0, .int .u8 0, .int .u8 0, .int .u8 0, .int .u8 0, .int .u8 0, .int .u8 0, .int .u8 0, .int .u8 0, .int .u8 0, .int .u8 0, .int .u8 0, .int .u8 0, .int .u8 0, .int .u8 0, .int .u8 0, .int .u8 0, .int .u8 0, .int .u8 0, .int .u8 0, .int .u8 0, .int .u8 0, .int .u8 0, .int .u8 0, .int .u8 0, .int .u8 0, .int .u8 0, .int .u8 0, .int .u8 0, .int .u8 0, .int .u8 0] 59)
    rwa [World.size_alloc] at this
  have X1 := (show Hid _ from x1)
  have X2 := (show Hid _ from x2)
  have B1 := (show Hid (Below w.heap.size w w1) from b1)
  have hsz := secSize hs
  have HSZ := (show Hid _ from hsz)
  clear b1 x1 x2 hsz
  go_enter Tryd.func51, Tryd.ntmps51
  go_wp2_with fail
  rw [← hw1, run_copyS w1 22 9 3 5 (w.heap.size + 1) 64 s _ 59 Tryd.underlying22 (by kernel_rfl) X2.out hs rfl]
  clear hw1
  obtain ⟨w2, hw2⟩ : ∃ y, y = w1.setRow (w.heap.size + 1) (secA s) := ⟨_, rfl⟩
  rw [← hw2]
  have g2 : w1.grownBy w2 (some (w.heap.size + 1)) := by rw [hw2]; exact grown_setRow _ _ _
  have y2 : w2.heap[w.heap.size + 1]? = some (.cells (secA s) 59 (0, 0)) := by rw [hw2]; exact setRow_heap _ _ _ _ _ _ X2.out
  have y1 := (g2.block _ (lt_of_block X1.out) (by simp)).trans X1.out
  have Y2 := (show Hid _ from y2)
  have Y1 := (show Hid _ from y1)
  have B2 := (show Hid (Below w.heap.size w w2) from B1.out.grown g2 B1.out.size (fun r e => by cases e; exact Nat.le_succ _))
  clear y1 y2 g2 hw2
  go_wp2_with (first
    | refine wpList_load_row rfl 59 (.tmp 3) rfl (w.heap.size + 1) rfl 59 (secA s) (0, 0) _ Y2.out Tryd.underlying59 rfl HSZ.out ?_
    | refine wpList_store_row rfl 59 (.tmp 2) (.tmp 7) rfl w.heap.size (secA s) rfl rfl 59 _ Y1.out HSZ.out (by rw [secA_size, hs]; rfl) (secA_one s) ?_)
  refine bodyPost_ret (results_cell_row rfl _ _ w.heap.size 59 (secA s) (0, 0) _ rfl (setRow_heap _ _ _ _ _ _ Y1.out) Tryd.underlying59 rfl HSZ.out) rfl ?_
  exact ⟨rfl, B2.out.grown (grown_setRow _ _ _) B2.out.size (fun r e => by cases e; exact Nat.le_refl _)⟩

set_option maxRecDepth 100000 in
theorem itext_any (s : ByteArray) (w : World) (hs : s.size = 64) : Calls Tryd.prog 32 #[.agg (secA s)] w fun e w' => e = .returned (.string s) ∧ Below w.heap.size w w' := by
  have b1 : Below w.heap.size w (w.alloc (.cells (secA s) 59)) := (Below.refl _ _).alloc (Nat.le_refl _) _
  have hsl : Sl .u8 (w.alloc (.cells (secA s) 59)) (.slice (some ⟨w.heap.size, 0, none⟩) 64 64) (bs s) := by
    refine Blk.sl (t := 59) ⟨_, _, _, World.alloc_heap_new _ _, ?_, .inr rfl⟩ (by rw [bs_len, hs]) (by rw [bs_len, hs]; exact Nat.le_refl _) (by unfold maxLen; omega)
    intro j hj
    have hj' : j < (secL s).length := by rw [secL_len]; rw [bs_len] at hj; exact hj
    simp [secA, secL, List.getElem?_eq_getElem hj, List.getD_eq_getElem?_getD]
  have hc := conv_sl hsl
  rw [strOf_bs] at hc
  clear hsl
  go_enter Tryd.func32, Tryd.ntmps32
  go_wp2
  go_ret
  exact ⟨rfl, b1⟩

/-- The cells of a row of sectors. -/
def secCells (ts : List ByteArray) : List Value := ts.flatMap secL
theorem secCells_cons (t : ByteArray) (ts : List ByteArray) : secCells (t :: ts) = secL t ++ secCells ts := rfl
theorem secCells_len {ts : List ByteArray} (h : ∀ t ∈ ts, t.size = 64) : (secCells ts).length = ts.length * 64 := by
  induction ts with
  | nil => rfl
  | cons t ts ih =>
    rw [secCells_cons, List.length_append, secL_len, h t (by simp), ih (fun t ht => h t (by simp [ht])), List.length_cons]
    omega
theorem secCells_at {ts : List ByteArray} (h : ∀ t ∈ ts, t.size = 64) {k : Nat} (hk : k < ts.length) {j : Nat} (hj : j < 64) : (secCells ts)[k * 64 + j]? = (secL ts[k])[j]? := by
  induction ts generalizing k with
  | nil => simp at hk
  | cons t ts ih =>
    have ht := h t (by simp)
    rw [secCells_cons]
    cases k with
    | zero => rw [List.getElem?_append_left (by rw [secL_len, ht]; omega), Nat.zero_mul, Nat.zero_add]; rfl
    | succ k =>
      rw [List.getElem?_append_right (by rw [secL_len, ht]; omega), secL_len, ht, show (k + 1) * 64 + j - 64 = k * 64 + j by omega, ih (fun t ht => h t (by simp [ht])) (by simpa using hk)]
      rfl
theorem secCells_one (ts : List ByteArray) : ∀ v ∈ secCells ts, v.oneCell' = true := by
  intro v hv
  obtain ⟨t, _, ht⟩ := List.mem_flatMap.mp hv
  exact secL_one t v ht

/-- Cells that are laid over others from a place on. -/
def setL (xs : List Value) : Nat → List Value → List Value
  | _, [] => xs
  | o, c :: cs => setL (xs.set o c) (o + 1) cs
theorem setL_append (us xs : List Value) (o : Nat) (cs : List Value) : setL (us ++ xs) (us.length + o) cs = us ++ setL xs o cs := by
  induction cs generalizing xs o with
  | nil => rfl
  | cons c cs ih =>
    rw [setL, setL, List.set_append_right _ _ (by omega), show us.length + o - us.length = o by omega, show us.length + o + 1 = us.length + (o + 1) by omega, ih]
theorem setL_front (us xs : List Value) (cs : List Value) (h : us.length = cs.length) : setL (us ++ xs) 0 cs = cs ++ xs := by
  induction cs generalizing us with
  | nil => rw [List.length_eq_zero_iff.mp h]; rfl
  | cons c cs ih =>
    cases us with
    | nil => simp at h
    | cons a us =>
      have e := setL_append [c] (us ++ xs) 0 cs
      simp only [List.length_singleton, Nat.add_zero, List.singleton_append] at e
      rw [setL, List.cons_append, List.set_cons_zero, Nat.zero_add, e, ih us (by simpa using h), List.cons_append]
theorem setL_sec {ts : List ByteArray} (h : ∀ t ∈ ts, t.size = 64) {k : Nat} (hk : k < ts.length) {t : ByteArray} (ht : t.size = 64) : setL (secCells ts) (k * 64) (secL t) = secCells (ts.set k t) := by
  induction ts generalizing k with
  | nil => simp at hk
  | cons x ts ih =>
    have hx := h x (by simp)
    cases k with
    | zero => rw [secCells_cons, Nat.zero_mul, setL_front _ _ _ (by rw [secL_len, secL_len, hx, ht]), List.set_cons_zero, secCells_cons]
    | succ k =>
      have e := setL_append (secL x) (secCells ts) (k * 64) (secL t)
      rw [secL_len, hx, show 64 + k * 64 = (k + 1) * 64 by omega] at e
      rw [secCells_cons, e, ih (fun t ht => h t (by simp [ht])) (by simpa using hk), List.set_cons_succ, secCells_cons]

/-- A row of sectors of the call's own. -/
abbrev OwnK (B : Nat) (w : World) (g n cap : Nat) (ts : List ByteArray) : Prop := w.ownsRow B 59 64 (.slice (some ⟨g, 0, none⟩) n cap) n (secCells ts)
theorem ownsRow_setCells {B e size g n cap : Nat} {w : World} {xs : List Value} (h : w.ownsRow B e size (.slice (some ⟨g, 0, none⟩) n cap) n xs) (o : Nat) (cs : List Value) :
    (w.setCells g o cs).ownsRow B e size (.slice (some ⟨g, 0, none⟩) n cap) n (setL xs o cs) ∧ w.grownBy (w.setCells g o cs) (some g) := by
  induction cs generalizing w xs o with
  | nil => exact ⟨h, World.grownBy.refl _ _⟩
  | cons c cs ih =>
    obtain ⟨h1, g1⟩ := h.stored o c
    obtain ⟨h2, g2⟩ := ih h1 (o + 1)
    exact ⟨h2, grown_trans g1 g2⟩
theorem OwnK.range {B g n cap : Nat} {w : World} {ts : List ByteArray} (h : OwnK B w g n cap ts) (hs : ∀ t ∈ ts, t.size = 64) {k : Nat} (hk : k < ts.length) : w.rangeAt g (k * 64) (secL ts[k]) := by
  intro j v hv
  have hj : j < 64 := by
    have := (List.getElem?_eq_some_iff.1 hv).1
    rwa [secL_len, hs _ (List.getElem_mem hk)] at this
  have hl := h.1
  rw [secCells_len hs] at hl
  have hn : n = ts.length := by omega
  rw [h.cellAt (k * 64 + j) (by omega), secCells_at hs hk hj, hv]
theorem OwnK.there {B g n cap : Nat} {w : World} {ts : List ByteArray} (h : OwnK B w g n cap ts) (hs : ∀ t ∈ ts, t.size = 64) {k : Nat} (hk : k < ts.length) : w.there g (k * 64) 64 := by
  intro j hj
  have hl := h.1
  rw [secCells_len hs] at hl
  have hn : n = ts.length := by omega
  refine ⟨?_, h.frozenAt _⟩
  rw [h.cellAt (k * 64 + j) (by omega), secCells_at hs hk hj, List.getElem?_eq_getElem (by rw [secL_len, hs _ (List.getElem_mem hk)]; exact hj)]
  rfl
theorem OwnK.load {B g n cap : Nat} {w : World} {ts : List ByteArray} (h : OwnK B w g n cap ts) (hs : ∀ t ∈ ts, t.size = 64) {k : Nat} (hk : k < ts.length) :
    (Instr.loadAt 59 (.pointer (some ⟨g, k * 64, none⟩))).run Tryd.prog w = .ok (.agg (secA ts[k])) w :=
  run_loadAt_mid w g (k * 64) 59 (secL ts[k]) _ (h.range hs hk) Tryd.underlying59 rfl (by rw [secL_len, hs _ (List.getElem_mem hk)]; kernel_rfl)
theorem OwnK.store {B g n cap : Nat} {w : World} {ts : List ByteArray} (h : OwnK B w g n cap ts) (hs : ∀ t ∈ ts, t.size = 64) {k : Nat} (hk : k < ts.length) {t : ByteArray} (ht : t.size = 64) :
    (Instr.storeAt 59 (.pointer (some ⟨g, k * 64, none⟩)) (.agg (secA t))).run Tryd.prog w = .ok () (w.setCells g (k * 64) (secL t)) := by
  have := run_storeAt_mid (P := Tryd.prog) w g (k * 64) 59 (secA t) (by rw [secA_size, ht]; exact h.there hs hk) (secSize ht) (secA_one t)
  simpa [secA] using this
theorem OwnK.stored {B g n cap : Nat} {w : World} {ts : List ByteArray} (h : OwnK B w g n cap ts) (hs : ∀ t ∈ ts, t.size = 64) {k : Nat} (hk : k < ts.length) {t : ByteArray} (ht : t.size = 64) :
    OwnK B (w.setCells g (k * 64) (secL t)) g n cap (ts.set k t) ∧ w.grownBy (w.setCells g (k * 64) (secL t)) (some g) := by
  have := ownsRow_setCells h (k * 64) (secL t)
  rw [setL_sec hs hk ht] at this
  exact this
theorem secA_inj {s t : ByteArray} (h : bs s = bs t) : s = t := by rw [← strOf_bs s, ← strOf_bs t, h]
/-- Two sectors compared. -/
theorem sec_neq (s t : ByteArray) (hs : s.size = 64) (ht : t.size = 64) (w : World) : (binOp .neq 59 (.agg (secA s)) (.agg (secA t))).run Tryd.prog w = .ok (.bool (decide (s ≠ t))) w := by
  have e1 : secA s = (s.data.toList.map Extern.Stop.cell).toArray := by simp [secA, secL, bs, Extern.Stop.cell]
  have e2 : secA t = (t.data.toList.map Extern.Stop.cell).toArray := by simp [secA, secL, bs, Extern.Stop.cell]
  rw [run_neq_struct, e1, e2, run_equalIn_bytes w 9998 59 5 64 Tryd.underlying59 Tryd.underlying5 (fun w => by simp [sizeOf, typeInfo]; first | rfl | kernel_rfl) _ _ (by rw [Array.length_toList]; exact hs) (by rw [Array.length_toList]; exact ht)]
  by_cases h : s = t
  · subst h; simp
  · have : ¬ s.data = t.data := fun e => h (by cases s; cases t; simpa using e)
    simp [h, this]
end Go.Proofs.YtiejfnnokfedkaaDoor

/- The program's HeadPack. No condition. -/
namespace Go.Proofs.YtiejfnnokfedkaaDoor
open Go.RowKit
set_option maxRecDepth 100000
set_option linter.unusedVariables false

/-- A copy, as one step of a region that draws its order. -/
theorem step_copyI {ops : Array Oper} {o : Oper} {a : Act} {W : World} {K : Act → World → Prop} {Q : Exit → Act → World → Prop} {E : Prop}
    (hg : o.guard = none) (d x : Operand) (dT sT : TypeId) (hop : o.op = Op.call { callee := Callee.builtin Builtin.copy, args := #[d, x], argTypes := #[dT, sT] })
    (vd vx r : Value) (W' : World) (hd : a.eval d = vd) (hx : a.eval x = vx) (hr : ∀ ty, (Builtin.copy_ #[dT, sT] ty #[vd, vx]).run Tryd.prog W = .ok r W') (hK : K (a.put o.dst r) W') :
    if Region.wanted o (yielded ops a.tmps) = true then Oper.wp Tryd.prog o a W K Q else E := by
  have hw : Region.wanted o (yielded ops a.tmps) = true := by simp [Region.wanted, hg]
  rw [if_pos hw]
  unfold Oper.wp
  simp [execOp, hop, resolve, invoke, builtin, hd, hx, hr, Result.andThen]
  exact hK
theorem zeroCells64 : (#[.int .u8 0, .int .u8 0, .int .u8 0, .int .u8 0, .int .u8 0, .int .u8 0, .int .u8 0, .int .u8 0, .int .u8 0, .int .u8 0, .int .u8 0, .int .u8 0, .int .u8 0, .int .u8 0, .int .u8 0, .int .u8 0, .int .u8 0, .int .u8 0, .int .u8 0, .int .u8 0, .int .u8 0, .int .u8 0, .int .u8 0, .int .u8 0, .int .u8 0, .int .u8 0, .int .u8 0, .int .u8 0, .int .u8 0, .int .u8 0, .int .u8 0, .int .u8 0, .int .u8 0, .int .u8 0, .int .u8 0, .int .u8 0, .int .u8 0, .int .u8 0, .int .u8 0, .int .u8 0, .int .u8 0, .int .u8 0, .int .u8 0, .int .u8 0, .int .u8 0, .int .u8 0, .int .u8 0, .int .u8 0, .int .u8 0, .int .u8 0, .int .u8 0, .int .u8 0, .int .u8 0, .int .u8 0, .int .u8 0, .int .u8 0, .int .u8 0, .int .u8 0, .int .u8 0, .int .u8 0, .int .u8 0, .int .u8 0, .int .u8 0, .int .u8 0] : Array Value).toList = List.replicate 64 (Value.int .u8 0) := rfl
theorem pack_row {h : PHead} (hb : headB h = true) : ((#[.int .u8 0, .int .u8 0, .int .u8 0, .int .u8 0, .int .u8 0, .int .u8 0, .int .u8 0, .int .u8 0, .int .u8 0, .int .u8 0, .int .u8 0, .int .u8 0, .int .u8 0, .int .u8 0, .int .u8 0, .int .u8 0, .int .u8 0, .int .u8 0, .int .u8 0, .int .u8 0, .int .u8 0, .int .u8 0, .int .u8 0, .int .u8 0, .int .u8 0, .int .u8 0, .int .u8 0, .int .u8 0, .int .u8 0, .int .u8 0, .int .u8 0, .int .u8 0, .int .u8 0, .int .u8 0, .int .u8 0, .int .u8 0, .int .u8 0, .int .u8 0, .int .u8 0, .int .u8 0, .int .u8 0, .int .u8 0, .int .u8 0, .int .u8 0, .int .u8 0, .int .u8 0, .int .u8 0, .int .u8 0, .int .u8 0, .int .u8 0, .int .u8 0, .int .u8 0, .int .u8 0, .int .u8 0, .int .u8 0, .int .u8 0, .int .u8 0, .int .u8 0, .int .u8 0, .int .u8 0, .int .u8 0, .int .u8 0, .int .u8 0, .int .u8 0] : Array Value).toList.take 0 ++ (formsL h).map (Value.int .u8) ++ (#[.int .u8 0, .int .u8 0, .int .u8 0, .int .u8 0, .int .u8 0, .int .u8 0, .int .u8 0, .int .u8 0, .int .u8 0, .int .u8 0, .int .u8 0, .int .u8 0, .int .u8 0, .int .u8 0, .int .u8 0, .int .u8 0, .int .u8 0, .int .u8 0, .int .u8 0, .int .u8 0, .int .u8 0, .int .u8 0, .int .u8 0, .int .u8 0, .int .u8 0, .int .u8 0, .int .u8 0, .int .u8 0, .int .u8 0, .int .u8 0, .int .u8 0, .int .u8 0, .int .u8 0, .int .u8 0, .int .u8 0, .int .u8 0, .int .u8 0, .int .u8 0, .int .u8 0, .int .u8 0, .int .u8 0, .int .u8 0, .int .u8 0, .int .u8 0, .int .u8 0, .int .u8 0, .int .u8 0, .int .u8 0, .int .u8 0, .int .u8 0, .int .u8 0, .int .u8 0, .int .u8 0, .int .u8 0, .int .u8 0, .int .u8 0, .int .u8 0, .int .u8 0, .int .u8 0, .int .u8 0, .int .u8 0, .int .u8 0, .int .u8 0, .int .u8 0] : Array Value).toList.drop (0 + (formsL h).length)).toArray = secA (packS h) := by
  rw [zeroCells64, secA, secL, packS_bs hb, packL, List.take_zero, List.nil_append, Nat.zero_add, List.drop_replicate, List.map_append, List.map_replicate]

theorem form_pos {x : Int} (h : 0 ≤ x) : 0 < (form x).length := by
  rw [form, if_neg (by omega)]
  by_cases h' : x < 128
  · rw [nf_lt h']; simp
  · rw [nf_ge (by omega)]; simp
theorem iconcat3 {W : World} {v1 v2 v3 : Value} {x y z : List Int} (s1 : Sl .u8 W v1 x) (s2 : Sl .u8 W v2 y) (s3 : Sl .u8 W v3 z) (h1 : x.length ≤ 9) (h2 : y.length ≤ 9) (h3 : z.length ≤ 9) (h0 : 0 < x.length) :
    Calls Tryd.prog 30 #[.slice (some ⟨W.heap.size, 0, none⟩) 3 3] (W.alloc (.cells #[v1, v2, v3] 22)) fun e w' => ∃ v', e = .returned v' ∧ Own W.heap.size 5 .u8 w' v' (x ++ y ++ z) ∧ Below W.heap.size W w' := by
  have b1 : Below W.heap.size W (W.alloc (.cells #[v1, v2, v3] 22)) := (Below.refl _ _).alloc (Nat.le_refl _) _
  obtain ⟨c1, c2, c3, _⟩ := rk_three (World.alloc_heap_new W (.cells #[v1, v2, v3] 22))
  have hc := iconcat_any (w := W.alloc (.cells #[v1, v2, v3] 22)) (b := W.heap.size) (ps := [(v1, x), (v2, y), (v3, z)]) (by simp) (fun k hk => by
    match k, hk with
    | 0, _ => exact ⟨c1, s1.below b1⟩
    | 1, _ => exact ⟨c2, s2.below b1⟩
    | 2, _ => exact ⟨c3, s3.below b1⟩) (by simp) (fun p hp => by
      simp only [List.mem_cons, List.not_mem_nil, or_false] at hp
      rcases hp with rfl | rfl | rfl
      · exact Nat.le_trans h1 (by decide)
      · exact Nat.le_trans h2 (by decide)
      · exact Nat.le_trans h3 (by decide)) (by show 0 < (x ++ (y ++ (z ++ []))).length; rw [List.length_append]; omega)
  have e1 : catP [(v1, x), (v2, y), (v3, z)] = x ++ y ++ z := by simp [catP]
  rw [e1] at hc
  refine Calls.mono hc ?_
  rintro e w' ⟨v', rfl, o, b⟩
  exact ⟨v', rfl, o.base b1.size, b1.trans (b.mono b1.size)⟩
theorem copy_pack {h : PHead} (hb : headB h = true) {W : World} {g : Nat} (hg : W.heap[g]? = some (.cells #[.int .u8 0, .int .u8 0, .int .u8 0, .int .u8 0, .int .u8 0, .int .u8 0, .int .u8 0, .int .u8 0, .int .u8 0, .int .u8 0, .int .u8 0, .int .u8 0, .int .u8 0, .int .u8 0, .int .u8 0, .int .u8 0, .int .u8 0, .int .u8 0, .int .u8 0, .int .u8 0, .int .u8 0, .int .u8 0, .int .u8 0, .int .u8 0, .int .u8 0, .int .u8 0, .int .u8 0, .int .u8 0, .int .u8 0, .int .u8 0, .int .u8 0, .int .u8 0, .int .u8 0, .int .u8 0, .int .u8 0, .int .u8 0, .int .u8 0, .int .u8 0, .int .u8 0, .int .u8 0, .int .u8 0, .int .u8 0, .int .u8 0, .int .u8 0, .int .u8 0, .int .u8 0, .int .u8 0, .int .u8 0, .int .u8 0, .int .u8 0, .int .u8 0, .int .u8 0, .int .u8 0, .int .u8 0, .int .u8 0, .int .u8 0, .int .u8 0, .int .u8 0, .int .u8 0, .int .u8 0, .int .u8 0, .int .u8 0, .int .u8 0, .int .u8 0] 59 (0, 0))) {a : Option Addr} {n c : Nat} (hs : Sl .u8 W (.slice a n c) (formsL h)) (ty : TypeId) :
    (Builtin.copy_ #[22, 22] ty #[.slice (some ⟨g, 0, none⟩) 64 64, .slice a n c]).run Tryd.prog W = .ok (goInt (formsL h).length) (W.setRow g (secA (packS h))) := by
  obtain ⟨a', c', e, h1, h2, h3, h4⟩ := hs
  cases e
  have hl := formsL_len h
  have hp : 0 < (formsL h).length := by
    have := form_pos (x := h.no) (by have := headB_in hb; omega)
    simp only [formsL, List.length_append]; omega
  obtain ⟨b, off, rfl, _⟩ := h4 0 hp
  have hr := run_copy_row (P := Tryd.prog) W 22 22 ty 5 g 0 64 64 ⟨b, off, none⟩ (formsL h).length c #[.int .u8 0, .int .u8 0, .int .u8 0, .int .u8 0, .int .u8 0, .int .u8 0, .int .u8 0, .int .u8 0, .int .u8 0, .int .u8 0, .int .u8 0, .int .u8 0, .int .u8 0, .int .u8 0, .int .u8 0, .int .u8 0, .int .u8 0, .int .u8 0, .int .u8 0, .int .u8 0, .int .u8 0, .int .u8 0, .int .u8 0, .int .u8 0, .int .u8 0, .int .u8 0, .int .u8 0, .int .u8 0, .int .u8 0, .int .u8 0, .int .u8 0, .int .u8 0, .int .u8 0, .int .u8 0, .int .u8 0, .int .u8 0, .int .u8 0, .int .u8 0, .int .u8 0, .int .u8 0, .int .u8 0, .int .u8 0, .int .u8 0, .int .u8 0, .int .u8 0, .int .u8 0, .int .u8 0, .int .u8 0, .int .u8 0, .int .u8 0, .int .u8 0, .int .u8 0, .int .u8 0, .int .u8 0, .int .u8 0, .int .u8 0, .int .u8 0, .int .u8 0, .int .u8 0, .int .u8 0, .int .u8 0, .int .u8 0, .int .u8 0, .int .u8 0] 59 ((formsL h).map (Value.int .u8)) Tryd.underlying22 (by kernel_rfl) hg (by rw [List.length_map]; exact (Nat.min_eq_left (by omega)).symm) (Sl.news h4) (by rw [List.length_map]; show 0 + (formsL h).length ≤ 64; omega) (ints_oneCell _ _)
  rw [List.length_map] at hr
  rw [hr, pack_row hb]
theorem setRow_cell {w : World} {g b k : Nat} {cs : Array Value} (h : b ≠ g) : (w.setRow g cs).cell? ⟨b, k, none⟩ = w.cell? ⟨b, k, none⟩ := by
  simp only [World.cell?, setRow_other w g b cs h]

set_option maxHeartbeats 1000000 in
set_option maxRecDepth 100000 in
theorem iheadPack_all (h : PHead) (w : World) :
    Calls Tryd.prog 9 #[headV h] w fun e w' => e = .returned (.tuple #[.string (packDk h).1, .bool (packDk h).2]) ∧ Below w.heap.size w w' := by
  have CR := (show Hid _ from iisRight_any h)
  have HB := (show Hid (headB h = true → packDk h = (packS h, true)) from fun e => by rw [packDk, if_pos e])
  have HN := (show Hid (headB h = false → packDk h = (⟨#[]⟩, false)) from fun e => by rw [packDk, if_neg (by rw [e]; decide)])
  obtain ⟨no, ar, en⟩ := h
  unfold headV at CR ⊢
  simp only at CR ⊢
  obtain ⟨w1, hw1⟩ : ∃ y, y = w.alloc (.cells #[.int .i64 no, .int .i64 ar, .int .i64 en] 25) := ⟨_, rfl⟩
  have h1 := (show Hid _ from (Hl.refl w).new #[.int .i64 no, .int .i64 ar, .int .i64 en] 25)
  rw [← hw1] at h1
  go_enter Tryd.func9, Tryd.ntmps9
  go_wp2_with fail
  go_at_call 29
  rw [← hw1]
  refine Calls.mono (CR.out w1) ?_
  rintro e w2 ⟨rfl, b2⟩
  have h2 := (show Hid _ from h1.out.below b2)
  clear hw1 h1 b2 CR
  cases hb : headB ⟨no, ar, en⟩
  · have HR := (show Hid _ from HN.out hb)
    clear hb HB HN
    go_wp2
    go_ret2
    exact ⟨by rw [HR.out]; rfl, h2.out.1⟩
  · have HR := (show Hid _ from HB.out hb)
    have HQ := (show Hid _ from hb)
    clear hb HB HN
    obtain ⟨c1, c2, c3, _⟩ := rk_three h2.out.at0
    obtain ⟨w3, hw3⟩ : ∃ y, y = w2.alloc (.cells #[.int .u8 0, .int .u8 0, .int .u8 0, .int .u8 0, .int .u8 0, .int .u8 0, .int .u8 0, .int .u8 0, .int .u8 0, .int .u8 0, .int .u8 0, .int .u8 0, .int .u8 0, .int .u8 0, .int .u8 0, .int .u8 0, .int .u8 0, .int .u8 0, .int .u8 0, .int .u8 0, .int .u8 0, .int .u8 0, .int .u8 0, .int .u8 0, .int .u8 0, .int .u8 0, .int .u8 0, .int .u8 0, .int .u8 0, .int .u8 0, .int .u8 0, .int .u8 0, .int .u8 0, .int .u8 0, .int .u8 0, .int .u8 0, .int .u8 0, .int .u8 0, .int .u8 0, .int .u8 0, .int .u8 0, .int .u8 0, .int .u8 0, .int .u8 0, .int .u8 0, .int .u8 0, .int .u8 0, .int .u8 0, .int .u8 0, .int .u8 0, .int .u8 0, .int .u8 0, .int .u8 0, .int .u8 0, .int .u8 0, .int .u8 0, .int .u8 0, .int .u8 0, .int .u8 0, .int .u8 0, .int .u8 0, .int .u8 0, .int .u8 0, .int .u8 0] 59) := ⟨_, rfl⟩
    have h3 := (show Hid _ from h2.out.new #[.int .u8 0, .int .u8 0, .int .u8 0, .int .u8 0, .int .u8 0, .int .u8 0, .int .u8 0, .int .u8 0, .int .u8 0, .int .u8 0, .int .u8 0, .int .u8 0, .int .u8 0, .int .u8 0, .int .u8 0, .int .u8 0, .int .u8 0, .int .u8 0, .int .u8 0, .int .u8 0, .int .u8 0, .int .u8 0, .int .u8 0, .int .u8 0, .int .u8 0, .int .u8 0, .int .u8 0, .int .u8 0, .int .u8 0, .int .u8 0, .int .u8 0, .int .u8 0, .int .u8 0, .int .u8 0, .int .u8 0, .int .u8 0, .int .u8 0, .int .u8 0, .int .u8 0, .int .u8 0, .int .u8 0, .int .u8 0, .int .u8 0, .int .u8 0, .int .u8 0, .int .u8 0, .int .u8 0, .int .u8 0, .int .u8 0, .int .u8 0, .int .u8 0, .int .u8 0, .int .u8 0, .int .u8 0, .int .u8 0, .int .u8 0, .int .u8 0, .int .u8 0, .int .u8 0, .int .u8 0, .int .u8 0, .int .u8 0, .int .u8 0, .int .u8 0] 59)
    rw [← hw3] at h3
    have hi := headB_in HQ.out
    simp only at hi
    obtain ⟨i1, i2, i3, i4, i5, i6⟩ := hi
    have L1 := (show Hid _ from form_len no)
    have L2 := (show Hid _ from form_len ar)
    have L3 := (show Hid _ from form_len en)
    have P1 := (show Hid _ from form_pos (x := no) (by omega))
    have C1 := (show Hid (∀ W, Calls Tryd.prog 31 #[.int .i64 no] W fun e w' => ∃ v, e = .returned v ∧ Own W.heap.size 5 .u8 w' v (form no) ∧ Below W.heap.size W w') from fun W => inum_any no W (by omega))
    have C2 := (show Hid (∀ W, Calls Tryd.prog 31 #[.int .i64 ar] W fun e w' => ∃ v, e = .returned v ∧ Own W.heap.size 5 .u8 w' v (form ar) ∧ Below W.heap.size W w') from fun W => inum_any ar W (by omega))
    have C3 := (show Hid (∀ W, Calls Tryd.prog 31 #[.int .i64 en] W fun e w' => ∃ v, e = .returned v ∧ Own W.heap.size 5 .u8 w' v (form en) ∧ Below W.heap.size W w') from fun W => inum_any en W (by omega))
    have HS := (show Hid (∀ W, Below w3.heap.size w3 W → W.cell? ⟨w.heap.size, 0, none⟩ = some (.int .i64 no) ∧ W.cell? ⟨w.heap.size, 1, none⟩ = some (.int .i64 ar) ∧ W.cell? ⟨w.heap.size, 2, none⟩ = some (.int .i64 en)) from fun W b => by
      obtain ⟨p0, p1, p2, _⟩ := rk_three (h3.out.below b).at1
      exact ⟨p0, p1, p2⟩)
    have KD := (show Hid (Below w3.heap.size w3 w3.drew) from below_drewN 1)
    go_upto_region 4 with fail
    rw [← hw3]
    clear hw3
    obtain ⟨d1, d2, d3⟩ := HS.out _ (Below.refl _ _)
    go_region_held3 (fun w' => w'.cell? ⟨w.heap.size, 0, none⟩ = some (.int .i64 no) ∧ w'.cell? ⟨w.heap.size, 1, none⟩ = some (.int .i64 ar) ∧ w'.cell? ⟨w.heap.size, 2, none⟩ = some (.int .i64 en))
      (first | exact HS.out _ KD.out | exact HS.out _ B4.out | exact HS.out _ B5.out | exact HS.out _ B6.out | exact HS.out _ (B6.out.alloc B6.out.size _) | exact HS.out _ B8.out | exact HS9.out)
      (first
        | (go_at_call 31
           with_reducible refine Calls.mono (C1.out _) ?_
           rintro e w4 ⟨v4, rfl, o4, b4⟩
           obtain ⟨a4, c4, e4, _⟩ := o4.sl
           subst e4
           have B4 := (show Hid (Below w3.heap.size w3 w4) from KD.out.trans (b4.mono KD.out.size))
           have O4 := (show Hid (Own w3.heap.size 5 .u8 w4 (.slice a4 (form no).length c4) (form no)) from o4.base KD.out.size)
           clear b4 o4)
        | (go_at_call 31
           with_reducible refine Calls.mono (C2.out _) ?_
           rintro e w5 ⟨v5, rfl, o5, b5⟩
           obtain ⟨a5, c5, e5, _⟩ := o5.sl
           subst e5
           have B5 := (show Hid (Below w3.heap.size w3 w5) from B4.out.trans (b5.mono B4.out.size))
           have O5 := (show Hid (Own w4.heap.size 5 .u8 w5 (.slice a5 (form ar).length c5) (form ar) ∧ Own w3.heap.size 5 .u8 w5 (.slice a4 (form no).length c4) (form no)) from ⟨o5, O4.out.below b5⟩)
           clear b5 o5)
        | (go_at_call 31
           with_reducible refine Calls.mono (C3.out _) ?_
           rintro e w6 ⟨v6, rfl, o6, b6⟩
           obtain ⟨a6, c6, e6, _⟩ := o6.sl
           subst e6
           have B6 := (show Hid (Below w3.heap.size w3 w6) from B5.out.trans (b6.mono B5.out.size))
           have O6 := (show Hid (Own w5.heap.size 5 .u8 w6 (.slice a6 (form en).length c6) (form en) ∧ Own w4.heap.size 5 .u8 w6 (.slice a5 (form ar).length c5) (form ar) ∧ Own w3.heap.size 5 .u8 w6 (.slice a4 (form no).length c4) (form no)) from ⟨o6, O5.out.1.below b6, O5.out.2.below b6⟩)
           clear b6 o6)
        | (go_at_call 30
           with_reducible refine Calls.mono (iconcat3 O6.out.2.2.sl O6.out.2.1.sl O6.out.1.sl L1.out L2.out L3.out P1.out) ?_
           rintro e w8 ⟨v8, rfl, o8, b8⟩
           obtain ⟨a8, c8, e8, _⟩ := o8.sl
           obtain ⟨n8, hn8⟩ : ∃ n, n = (form no ++ form ar ++ form en).length := ⟨_, rfl⟩
           rw [← hn8] at e8
           subst e8
           have B8 := (show Hid (Below w3.heap.size w3 w8) from B6.out.trans (b8.mono B6.out.size))
           have cp := copy_pack HQ.out (h3.out.below B8.out).at0 (show Sl .u8 w8 (.slice a8 n8 c8) (formsL ⟨no, ar, en⟩) from o8.sl) 3
           obtain ⟨w9, hw9⟩ : ∃ y, y = w8.setRow w2.heap.size (secA (packS ⟨no, ar, en⟩)) := ⟨_, rfl⟩
           rw [← hw9] at cp
           have h9 := (show Hid (w9.heap[w2.heap.size]? = some (.cells (secA (packS ⟨no, ar, en⟩)) 59 (0, 0)) ∧ Below w.heap.size w w9) from by
             rw [hw9]
             exact ⟨setRow_heap _ _ _ _ _ _ (h3.out.below B8.out).at0, ((h3.out.below B8.out).1).grown (grown_setRow _ _ _) ((h3.out.below B8.out).1).size (fun r e => by cases e; exact h2.out.1.size)⟩)
           have HS9 := (show Hid (w9.cell? ⟨w.heap.size, 0, none⟩ = some (.int .i64 no) ∧ w9.cell? ⟨w.heap.size, 1, none⟩ = some (.int .i64 ar) ∧ w9.cell? ⟨w.heap.size, 2, none⟩ = some (.int .i64 en)) from by
             have hne : w.heap.size ≠ w2.heap.size := Nat.ne_of_lt (lt_of_block h2.out.at0)
             rw [hw9, setRow_cell hne, setRow_cell hne, setRow_cell hne]
             exact HS.out _ B8.out)
           clear b8 o8 hn8 hw9))
    have hsz := secSize (s := packS ⟨no, ar, en⟩) (packS_size _)
    have HSZ := (show Hid _ from hsz)
    clear hsz HS9 HS cp
    have CX := (show Hid _ from itext_any (packS ⟨no, ar, en⟩) w9 (packS_size _))
    go_wp2_with (first
      | refine wpList_load_row rfl 59 (.tmp 4) rfl w2.heap.size rfl 59 (secA (packS ⟨no, ar, en⟩)) (0, 0) _ h9.out.1 Tryd.underlying59 rfl HSZ.out ?_
      | (go_at_call 32
         refine Calls.mono CX.out ?_
         rintro e wx ⟨rfl, bx⟩))
    go_ret2
    exact ⟨by rw [HR.out]; rfl, h9.out.2.trans (bx.mono h9.out.2.size)⟩
theorem iheadPack_any (h : PHead) (w : World) (x1 : (Lit.int .i64 h.no).wf = true) (x2 : (Lit.int .i64 h.area).wf = true) (x3 : (Lit.int .i64 h.en).wf = true) :
    Calls Tryd.prog 9 #[headV h] w fun e w' => e = .returned (.tuple #[.string (packDk h).1, .bool (packDk h).2]) ∧ Below w.heap.size w w' := iheadPack_all h w
end Go.Proofs.YtiejfnnokfedkaaDoor
