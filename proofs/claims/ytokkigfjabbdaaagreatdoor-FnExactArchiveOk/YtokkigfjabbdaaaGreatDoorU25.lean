/- The program's sectors as arrays (written by mk/isec.py). No condition. -/
import Derived.Test.YtokkigfjabbdaaaGreatDoorU24
import Derived.Lib.BufferWrite
import Derived.Deep.MidRow
import Derived.Stop.BytesEq
namespace Go.Proofs.YtokkigfjabbdaaaGreatDoor
open Go.RowKit
set_option maxRecDepth 100000
set_option linter.unusedVariables false

/-- The cells of a sector. -/
def secL (s : ByteArray) : List Value := (bs s).map (Value.int .u8)
def secA (s : ByteArray) : Array Value := (secL s).toArray
theorem secL_len (s : ByteArray) : (secL s).length = s.size := by simp [secL, bs_len]
theorem secA_size (s : ByteArray) : (secA s).size = s.size := by simp [secA, secL_len]
theorem secL_one (s : ByteArray) : ∀ v ∈ secL s, v.oneCell' = true := by
  intro v hv
  obtain ⟨x, _, rfl⟩ := List.mem_map.mp hv
  rfl
theorem secA_one (s : ByteArray) : (secA s).all (·.oneCell') = true := all_oneCell_toArray (secL_one s)
theorem secL_bytes (s : ByteArray) : Lib.byteCells s.data.toList = secL s := by simp [Lib.byteCells, secL, bs]

/-- 'copy(v[:], s)', v an array as long as s. -/
theorem run_copyS {P : Program} (w : World) (dT sT ty e : TypeId) (g n : Nat) (s : ByteArray) (cur : Array Value) (t : TypeId)
    (hu : P.underlying dT = some (TypeDesc.slice e)) (hsz : Option.map (fun x => x.size) (P.info? e) = some 1) (hg : w.heap[g]? = some (.cells cur t (0, 0))) (hn : s.size = n) (hc : cur.size = n) :
    (Builtin.copy_ #[dT, sT] ty #[.slice (some ⟨g, 0, none⟩) n n, .string s]).run P w = .ok (goInt n) (w.setRow g (secA s)) := by
  have hr := Lib.run_copy_row_string (P := P) w dT sT ty e g 0 n n s cur t hu hsz hg (by omega) (by omega)
  have hrow : (cur.toList.take 0 ++ Lib.byteCells s.data.toList ++ cur.toList.drop (0 + s.size)).toArray = secA s := by
    rw [secL_bytes, List.take_zero, List.nil_append, List.drop_of_length_le (by rw [Array.length_toList]; omega), List.append_nil]
    rfl
  rw [hrow, hn] at hr
  exact hr
theorem grown_setRow (w : World) (g : Nat) (cs : Array Value) : w.grownBy (w.setRow g cs) (some g) := ⟨rfl, rfl, rfl, by simp, fun k _ hk => setRow_other w g k _ (fun e => hk (by rw [e]))⟩

theorem run_storeAt_row {P : Program} (w : World) (g : Nat) (t ty : TypeId) (old cells : Array Value) (hg : w.heap[g]? = some (.cells old t (0, 0))) (hi : (P.info? ty).map (·.size) = some cells.size)
    (ho : old.size = cells.size) (h1 : cells.all (·.oneCell') = true) :
    (Instr.storeAt ty (.pointer (some ⟨g, 0, none⟩)) (.agg cells)).run P w = .ok () (w.setRow g cells) := by
  simp only [Instr.storeAt, Instr.sureAddr, Sem.run_bind, Sem.run_pure, Result.andThen_ok, run_storeVar_row w g t ty old cells hg hi ho h1]
theorem run_loadAt_row {P : Program} (w : World) (g : Nat) (t ty : TypeId) (cs : Array Value) (fr : Nat × Nat) (d : TypeDesc) (hg : w.heap[g]? = some (.cells cs t fr))
    (hu : P.underlying ty = some d) (hd : (match d with | .struct _ | .array _ _ => true | _ => false) = true) (hi : (P.info? ty).map (·.size) = some cs.size) :
    (Instr.loadAt ty (.pointer (some ⟨g, 0, none⟩))).run P w = .ok (.agg cs) w := by
  simp only [Instr.loadAt, Instr.sureAddr, Sem.run_bind, Sem.run_pure, Result.andThen_ok, run_loadVar_row w g t ty cs fr d hg hu hd hi]
theorem secSize {s : ByteArray} (hs : s.size = 64) : (Tryz.prog.info? 164).map (·.size) = some (secA s).size := by
  rw [secA_size, hs]; kernel_rfl

set_option maxRecDepth 100000 in
theorem isectorFrom_any (s : ByteArray) (w : World) (hs : s.size = 64) : Calls Tryz.prog 118 #[.string s] w fun e w' => e = .returned (.agg (secA s)) ∧ Below w.heap.size w w' := by
  obtain ⟨w1, hw1⟩ : ∃ x, x = (w.alloc (.cells #[.int .u8 0, .int .u8 0, .int .u8 0, .int .u8 0, .int .u8 0, .int .u8 0, .int .u8 0, .int .u8 0, .int .u8 0, .int .u8 0, .int .u8 0, .int .u8 0, .int .u8 0, .int .u8 0, .int .u8 0, .int .u8 0, .int .u8 0, .int .u8 0, .int .u8 0, .int .u8 0, .int .u8 0, .int .u8 0, .int .u8 0, .int .u8 0, .int .u8 0, .int .u8 0, .int .u8 0, .int .u8 0, .int .u8 0, .int .u8 0, .int .u8 0, .int .u8 0, .int .u8 0, .int .u8 0, .int .u8 0, .int .u8 0, .int .u8 0, .int .u8 0, .int .u8 0, .int .u8 0, .int .u8 0, .int .u8 0, .int .u8 0, .int .u8 0, .int .u8 0, .int .u8 0, .int .u8 0, .int .u8 0, .int .u8 0, .int .u8 0, .int .u8 0, .int .u8 0, .int .u8 0, .int .u8 0, .int .u8 0, .int .u8 0, .int .u8 0, .int .u8 0, .int .u8 0, .int .u8 0, .int .u8 0, .int .u8 0, .int .u8 0, .int .u8 0] 164)).alloc (.cells #[.int .u8 0, .int .u8 0, .int .u8 0, .int .u8 0, .int .u8 0, .int .u8 0, .int .u8 0, .int .u8 0, .int .u8 0, .int .u8 0, .int .u8 0, .int .u8 0, .int .u8 0, .int .u8 0, .int .u8 0, .int .u8 0, .int .u8 0, .int .u8 0, .int .u8 0, .int .u8 0, .int .u8 0, .int .u8 0, .int .u8 0, .int .u8 0, .int .u8 0, .int .u8 0, .int .u8 0, .int .u8 0, .int .u8 0, .int .u8 0, .int .u8 0, .int .u8 0, .int .u8 0, .int .u8 0, .int .u8 0, .int .u8 0, .int .u8 0, .int .u8 0, .int .u8 0, .int .u8 0, .int .u8 0, .int .u8 0, .int .u8 0, .int .u8 0, .int .u8 0, .int .u8 0, .int .u8 0, .int .u8 0, .int .u8 0, .int .u8 0, .int .u8 0, .int .u8 0, .int .u8 0, .int .u8 0, .int .u8 0, .int .u8 0, .int .u8 0, .int .u8 0, .int .u8 0, .int .u8 0, .int .u8 0, .int .u8 0, .int .u8 0, .int .u8 0] 164) := ⟨_, rfl⟩
  have b1 : Below w.heap.size w w1 := by rw [hw1]; exact ((Below.refl _ _).alloc (Nat.le_refl _) _).alloc (by simp) _
  have x1 : w1.heap[w.heap.size]? = some (.cells #[.int .u8 0, .int .u8 0, .int .u8 0, .int .u8 0, .int .u8 0, .int .u8 0, .int .u8 0, .int .u8 0, .int .u8 0, .int .u8 0, .int .u8 0, .int .u8 0, .int .u8 0, .int .u8 0, .int .u8 0, .int .u8 0, .int .u8 0, .int .u8 0, .int .u8 0, .int .u8 0, .int .u8 0, .int .u8 0, .int .u8 0, .int .u8 0, .int .u8 0, .int .u8 0, .int .u8 0, .int .u8 0, .int .u8 0, .int .u8 0, .int .u8 0, .int .u8 0, .int .u8 0, .int .u8 0, .int .u8 0, .int .u8 0, .int .u8 0, .int .u8 0, .int .u8 0, .int .u8 0, .int .u8 0, .int .u8 0, .int .u8 0, .int .u8 0, .int .u8 0, .int .u8 0, .int .u8 0, .int .u8 0, .int .u8 0, .int .u8 0, .int .u8 0, .int .u8 0, .int .u8 0, .int .u8 0, .int .u8 0, .int .u8 0, .int .u8 0, .int .u8 0, .int .u8 0, .int .u8 0, .int .u8 0, .int .u8 0, .int .u8 0, .int .u8 0] 164 (0, 0)) := by rw [hw1, Below.heap_alloc _ _ _ (by simp)]; exact World.alloc_heap_new _ _
  have x2 : w1.heap[w.heap.size + 1]? = some (.cells #[.int .u8 0, .int .u8 0, .int .u8 0, .int .u8 0, .int .u8 0, .int .u8 0, .int .u8 0, .int .u8 0, .int .u8 0, .int .u8 0, .int .u8 0, .int .u8 0, .int .u8 0, .int .u8 0, .int .u8 0, .int .u8 0, .int .u8 0, .int .u8 0, .int .u8 0, .int .u8 0, .int .u8 0, .int .u8 0, .int .u8 0, .int .u8 0, .int .u8 0, .int .u8 0, .int .u8 0, .int .u8 0, .int .u8 0, .int .u8 0, .int .u8 0, .int .u8 0, .int .u8 0, .int .u8 0, .int .u8 0, .int .u8 0, .int .u8 0, .int .u8 0, .int .u8 0, .int .u8 0, .int .u8 0, .int .u8 0, .int .u8 0, .int .u8 0, .int .u8 0, .int .u8 0, .int .u8 0, .int .u8 0, .int .u8 0, .int .u8 0, .int .u8 0, .int .u8 0, .int .u8 0, .int .u8 0, .int .u8 0, .int .u8 0, .int .u8 0, .int .u8 0, .int .u8 0, .int .u8 0, .int .u8 0, .int .u8 0, .int .u8 0, .int .u8 0] 164 (0, 0)) := by
    rw [hw1]
    have := World.alloc_heap_new (w.alloc (.cells #[.int .u8 0, .int .u8 0, .int .u8 0, .int .u8 0, .int .u8 0, .int .u8 0, .int .u8 0, .int .u8 0, .int .u8 0, .int .u8 0, .int .u8 0, .int .u8 0, .int .u8 0, .int .u8 0, .int .u8 0, .int .u8 0, .int .u8 0, .int .u8 0, .int .u8 0, .int .u8 0, .int .u8 0, .int .u8 0, .int .u8 0, .int .u8 0, .int .u8 0, .int .u8 0, .int .u8 0, .int .u8 0, .int .u8 0, .int .u8 0, .int .u8 0, .int .u8 0, .int .u8 0, .int .u8 0, .int .u8 0, .int .u8 0, .int .u8 0, .int .u8 0, .int .u8 0, .int .u8 0, .int .u8 0, .int .u8 0, .int .u8 0, .int .u8 0, .int .u8 0, .int .u8 0, .int .u8 0, .int .u8 0, .int .u8 0, .int .u8 0, .int .u8 0, .int .u8 0, .int .u8 0, .int .u8 0, .int .u8 0, .int .u8 0, .int .u8 0, .int .u8 0, .int .u8 0, .int .u8 0, .int .u8 0, .int .u8 0, .int .u8 0, .int .u8 0] 164)) (.cells #[.int .u8 0, .int .u8 0, .int .u8 0, .int .u8 0, .int .u8 0, .int .u8 0, .int .u8 0, .int .u8 0, .int .u8 0, .int .u8 0, .int .u8 0, .int .u8 0, .int .u8 0, .int .u8 0, .int .u8 0, .int .u8 0, .int .u8 0, .int .u8 0, .int .u8 0, .int .u8 0, .int .u8 0, .int .u8 0, .int .u8 0, .int .u8 0, .int .u8 0, .int .u8 0, .int .u8 0, .int .u8 0, .int .u8 0, .int .u8 0, .int .u8 0, .int .u8 0, .int .u8 0, .int .u8 0, .int .u8 0, .int .u8 0, .int .u8 0, .int .u8 0, .int .u8 0, .int .u8 0, .int .u8 0, .int .u8 0, .int .u8 0, .int .u8 0, .int .u8 0, .int .u8 0, .int .u8 0, .int .u8 0, .int .u8 0, .int .u8 0, .int .u8 0, .int .u8 0, .int .u8 0, .int .u8 0, .int .u8 0, .int .u8 0, .int .u8 0, .int .u8 0, .int .u8 0, .int .u8 0, .int .u8 0, .int .u8 0, .int .u8 0, .int .u8 0] 164)
    rwa [World.size_alloc] at this
  have X1 := (show Hid _ from x1)
  have X2 := (show Hid _ from x2)
  have B1 := (show Hid (Below w.heap.size w w1) from b1)
  have hsz := secSize hs
  have HSZ := (show Hid _ from hsz)
  clear b1 x1 x2 hsz
  go_enter Tryz.func118, Tryz.ntmps118
  go_wp2_with fail
  rw [← hw1, run_copyS w1 58 9 3 5 (w.heap.size + 1) 64 s _ 164 Tryz.underlying58 (by kernel_rfl) X2.out hs rfl]
  clear hw1
  obtain ⟨w2, hw2⟩ : ∃ y, y = w1.setRow (w.heap.size + 1) (secA s) := ⟨_, rfl⟩
  rw [← hw2]
  have g2 : w1.grownBy w2 (some (w.heap.size + 1)) := by rw [hw2]; exact grown_setRow _ _ _
  have y2 : w2.heap[w.heap.size + 1]? = some (.cells (secA s) 164 (0, 0)) := by rw [hw2]; exact setRow_heap _ _ _ _ _ _ X2.out
  have y1 := (g2.block _ (lt_of_block X1.out) (by simp)).trans X1.out
  have Y2 := (show Hid _ from y2)
  have Y1 := (show Hid _ from y1)
  have B2 := (show Hid (Below w.heap.size w w2) from B1.out.grown g2 B1.out.size (fun r e => by cases e; exact Nat.le_succ _))
  clear y1 y2 g2 hw2
  go_wp2_with (first
    | refine wpList_load_row rfl 164 (.tmp 3) rfl (w.heap.size + 1) rfl 164 (secA s) (0, 0) _ Y2.out Tryz.underlying164 rfl HSZ.out ?_
    | refine wpList_store_row rfl 164 (.tmp 2) (.tmp 7) rfl w.heap.size (secA s) rfl rfl 164 _ Y1.out HSZ.out (by rw [secA_size, hs]; rfl) (secA_one s) ?_)
  refine bodyPost_ret (results_cell_row rfl _ _ w.heap.size 164 (secA s) (0, 0) _ rfl (setRow_heap _ _ _ _ _ _ Y1.out) Tryz.underlying164 rfl HSZ.out) rfl ?_
  exact ⟨rfl, B2.out.grown (grown_setRow _ _ _) B2.out.size (fun r e => by cases e; exact Nat.le_refl _)⟩

set_option maxRecDepth 100000 in
theorem itext_any (s : ByteArray) (w : World) (hs : s.size = 64) : Calls Tryz.prog 145 #[.agg (secA s)] w fun e w' => e = .returned (.string s) ∧ Below w.heap.size w w' := by
  have b1 : Below w.heap.size w (w.alloc (.cells (secA s) 164)) := (Below.refl _ _).alloc (Nat.le_refl _) _
  have hsl : Sl .u8 (w.alloc (.cells (secA s) 164)) (.slice (some ⟨w.heap.size, 0, none⟩) 64 64) (bs s) := by
    refine Blk.sl (t := 164) ⟨_, _, _, World.alloc_heap_new _ _, ?_, .inr rfl⟩ (by rw [bs_len, hs]) (by rw [bs_len, hs]; exact Nat.le_refl _) (by unfold maxLen; omega)
    intro j hj
    have hj' : j < (secL s).length := by rw [secL_len]; rw [bs_len] at hj; exact hj
    simp [secA, secL, List.getElem?_eq_getElem hj, List.getD_eq_getElem?_getD]
  have hc := conv_sl hsl
  rw [strOf_bs] at hc
  clear hsl
  go_enter Tryz.func145, Tryz.ntmps145
  go_wp2
  go_ret
  exact ⟨rfl, b1⟩

/-- The cells of a row of sectors. -/
def secCells (ts : List ByteArray) : List Value := ts.flatMap secL
theorem secCells_cons (t : ByteArray) (ts : List ByteArray) : secCells (t :: ts) = secL t ++ secCells ts := rfl
theorem secCells_len {ts : List ByteArray} (h : ∀ t ∈ ts, t.size = 64) : (secCells ts).length = ts.length * 64 := by
  induction ts with
  | nil => rfl
  | cons t ts ih =>
    rw [secCells_cons, List.length_append, secL_len, h t (by simp), ih (fun t ht => h t (by simp [ht])), List.length_cons]
    omega
theorem secCells_at {ts : List ByteArray} (h : ∀ t ∈ ts, t.size = 64) {k : Nat} (hk : k < ts.length) {j : Nat} (hj : j < 64) : (secCells ts)[k * 64 + j]? = (secL ts[k])[j]? := by
  induction ts generalizing k with
  | nil => simp at hk
  | cons t ts ih =>
    have ht := h t (by simp)
    rw [secCells_cons]
    cases k with
    | zero => rw [List.getElem?_append_left (by rw [secL_len, ht]; omega), Nat.zero_mul, Nat.zero_add]; rfl
    | succ k =>
      rw [List.getElem?_append_right (by rw [secL_len, ht]; omega), secL_len, ht, show (k + 1) * 64 + j - 64 = k * 64 + j by omega, ih (fun t ht => h t (by simp [ht])) (by simpa using hk)]
      rfl
theorem secCells_one (ts : List ByteArray) : ∀ v ∈ secCells ts, v.oneCell' = true := by
  intro v hv
  obtain ⟨t, _, ht⟩ := List.mem_flatMap.mp hv
  exact secL_one t v ht

/-- Cells that are laid over others from a place on. -/
def setL (xs : List Value) : Nat → List Value → List Value
  | _, [] => xs
  | o, c :: cs => setL (xs.set o c) (o + 1) cs
theorem setL_append (us xs : List Value) (o : Nat) (cs : List Value) : setL (us ++ xs) (us.length + o) cs = us ++ setL xs o cs := by
  induction cs generalizing xs o with
  | nil => rfl
  | cons c cs ih =>
    rw [setL, setL, List.set_append_right _ _ (by omega), show us.length + o - us.length = o by omega, show us.length + o + 1 = us.length + (o + 1) by omega, ih]
theorem setL_front (us xs : List Value) (cs : List Value) (h : us.length = cs.length) : setL (us ++ xs) 0 cs = cs ++ xs := by
  induction cs generalizing us with
  | nil => rw [List.length_eq_zero_iff.mp h]; rfl
  | cons c cs ih =>
    cases us with
    | nil => simp at h
    | cons a us =>
      have e := setL_append [c] (us ++ xs) 0 cs
      simp only [List.length_singleton, Nat.add_zero, List.singleton_append] at e
      rw [setL, List.cons_append, List.set_cons_zero, Nat.zero_add, e, ih us (by simpa using h), List.cons_append]
theorem setL_sec {ts : List ByteArray} (h : ∀ t ∈ ts, t.size = 64) {k : Nat} (hk : k < ts.length) {t : ByteArray} (ht : t.size = 64) : setL (secCells ts) (k * 64) (secL t) = secCells (ts.set k t) := by
  induction ts generalizing k with
  | nil => simp at hk
  | cons x ts ih =>
    have hx := h x (by simp)
    cases k with
    | zero => rw [secCells_cons, Nat.zero_mul, setL_front _ _ _ (by rw [secL_len, secL_len, hx, ht]), List.set_cons_zero, secCells_cons]
    | succ k =>
      have e := setL_append (secL x) (secCells ts) (k * 64) (secL t)
      rw [secL_len, hx, show 64 + k * 64 = (k + 1) * 64 by omega] at e
      rw [secCells_cons, e, ih (fun t ht => h t (by simp [ht])) (by simpa using hk), List.set_cons_succ, secCells_cons]

/-- A row of sectors of the call's own. -/
abbrev OwnK (B : Nat) (w : World) (g n cap : Nat) (ts : List ByteArray) : Prop := w.ownsRow B 164 64 (.slice (some ⟨g, 0, none⟩) n cap) n (secCells ts)
theorem ownsRow_setCells {B e size g n cap : Nat} {w : World} {xs : List Value} (h : w.ownsRow B e size (.slice (some ⟨g, 0, none⟩) n cap) n xs) (o : Nat) (cs : List Value) :
    (w.setCells g o cs).ownsRow B e size (.slice (some ⟨g, 0, none⟩) n cap) n (setL xs o cs) ∧ w.grownBy (w.setCells g o cs) (some g) := by
  induction cs generalizing w xs o with
  | nil => exact ⟨h, World.grownBy.refl _ _⟩
  | cons c cs ih =>
    obtain ⟨h1, g1⟩ := h.stored o c
    obtain ⟨h2, g2⟩ := ih h1 (o + 1)
    exact ⟨h2, grown_trans g1 g2⟩
theorem OwnK.range {B g n cap : Nat} {w : World} {ts : List ByteArray} (h : OwnK B w g n cap ts) (hs : ∀ t ∈ ts, t.size = 64) {k : Nat} (hk : k < ts.length) : w.rangeAt g (k * 64) (secL ts[k]) := by
  intro j v hv
  have hj : j < 64 := by
    have := (List.getElem?_eq_some_iff.1 hv).1
    rwa [secL_len, hs _ (List.getElem_mem hk)] at this
  have hl := h.1
  rw [secCells_len hs] at hl
  have hn : n = ts.length := by omega
  rw [h.cellAt (k * 64 + j) (by omega), secCells_at hs hk hj, hv]
theorem OwnK.there {B g n cap : Nat} {w : World} {ts : List ByteArray} (h : OwnK B w g n cap ts) (hs : ∀ t ∈ ts, t.size = 64) {k : Nat} (hk : k < ts.length) : w.there g (k * 64) 64 := by
  intro j hj
  have hl := h.1
  rw [secCells_len hs] at hl
  have hn : n = ts.length := by omega
  refine ⟨?_, h.frozenAt _⟩
  rw [h.cellAt (k * 64 + j) (by omega), secCells_at hs hk hj, List.getElem?_eq_getElem (by rw [secL_len, hs _ (List.getElem_mem hk)]; exact hj)]
  rfl
theorem OwnK.load {B g n cap : Nat} {w : World} {ts : List ByteArray} (h : OwnK B w g n cap ts) (hs : ∀ t ∈ ts, t.size = 64) {k : Nat} (hk : k < ts.length) :
    (Instr.loadAt 164 (.pointer (some ⟨g, k * 64, none⟩))).run Tryz.prog w = .ok (.agg (secA ts[k])) w :=
  run_loadAt_mid w g (k * 64) 164 (secL ts[k]) _ (h.range hs hk) Tryz.underlying164 rfl (by rw [secL_len, hs _ (List.getElem_mem hk)]; kernel_rfl)
theorem OwnK.store {B g n cap : Nat} {w : World} {ts : List ByteArray} (h : OwnK B w g n cap ts) (hs : ∀ t ∈ ts, t.size = 64) {k : Nat} (hk : k < ts.length) {t : ByteArray} (ht : t.size = 64) :
    (Instr.storeAt 164 (.pointer (some ⟨g, k * 64, none⟩)) (.agg (secA t))).run Tryz.prog w = .ok () (w.setCells g (k * 64) (secL t)) := by
  have := run_storeAt_mid (P := Tryz.prog) w g (k * 64) 164 (secA t) (by rw [secA_size, ht]; exact h.there hs hk) (secSize ht) (secA_one t)
  simpa [secA] using this
theorem OwnK.stored {B g n cap : Nat} {w : World} {ts : List ByteArray} (h : OwnK B w g n cap ts) (hs : ∀ t ∈ ts, t.size = 64) {k : Nat} (hk : k < ts.length) {t : ByteArray} (ht : t.size = 64) :
    OwnK B (w.setCells g (k * 64) (secL t)) g n cap (ts.set k t) ∧ w.grownBy (w.setCells g (k * 64) (secL t)) (some g) := by
  have := ownsRow_setCells h (k * 64) (secL t)
  rw [setL_sec hs hk ht] at this
  exact this
theorem secA_inj {s t : ByteArray} (h : bs s = bs t) : s = t := by rw [← strOf_bs s, ← strOf_bs t, h]
/-- Two sectors compared. -/
theorem sec_neq (s t : ByteArray) (hs : s.size = 64) (ht : t.size = 64) (w : World) : (binOp .neq 164 (.agg (secA s)) (.agg (secA t))).run Tryz.prog w = .ok (.bool (decide (s ≠ t))) w := by
  have e1 : secA s = (s.data.toList.map Extern.Stop.cell).toArray := by simp [secA, secL, bs, Extern.Stop.cell]
  have e2 : secA t = (t.data.toList.map Extern.Stop.cell).toArray := by simp [secA, secL, bs, Extern.Stop.cell]
  rw [run_neq_struct, e1, e2, run_equalIn_bytes w 9998 164 5 64 Tryz.underlying164 Tryz.underlying5 (fun w => by simp [sizeOf, typeInfo]; first | rfl | kernel_rfl) _ _ (by rw [Array.length_toList]; exact hs) (by rw [Array.length_toList]; exact ht)]
  by_cases h : s = t
  · subst h; simp
  · have : ¬ s.data = t.data := fun e => h (by cases s; cases t; simpa using e)
    simp [h, this]
end Go.Proofs.YtokkigfjabbdaaaGreatDoor

/- The program's rows of sectors: sectorsFrom. No condition. -/
namespace Go.Proofs.YtokkigfjabbdaaaGreatDoor
open Go.RowKit
set_option maxRecDepth 100000
set_option linter.unusedVariables false

theorem secL_zeros : secL zeros64 = List.replicate 64 (.int .u8 0) := by
  have e : bs zeros64 = List.replicate 64 0 := by decide +kernel
  rw [secL, e]; rfl
theorem made_sec (n : Nat) : (madeCells (Value.agg (Array.replicate 64 (.int .u8 0))).cells (n * 64)).toList = secCells (List.replicate n zeros64) := by
  have hs : ∀ t ∈ List.replicate n zeros64, t.size = 64 := fun t ht => by rw [List.eq_of_mem_replicate ht]; exact zeros64_size
  apply List.ext_getElem?
  intro j
  by_cases hj : j < n * 64
  · have e : j = j / 64 * 64 + j % 64 := by omega
    rw [e, secCells_at hs (by rw [List.length_replicate]; omega) (by omega), ← e, List.getElem_replicate, secL_zeros, List.getElem?_replicate_of_lt (by omega)]
    have hm : j % 64 < 64 := by omega
    simp [madeCells, hj, Value.cells, hm]
  · rw [List.getElem?_eq_none (by simp [madeCells]; omega), List.getElem?_eq_none (by rw [secCells_len hs, List.length_replicate]; omega)]

/-- 'row[k] = t', t a sector. -/
theorem wpList_storeK {ops : Array Oper} {rest : List Oper} {op : Oper} {a : Act} {w : World} {Q : Exit → Act → World → Prop} (hgd : op.guard = none) (x y : Operand) (ho : op.op = .store 164 x y)
    {B g n cap : Nat} {ts : List ByteArray} (h : OwnK B w g n cap ts) (hs : ∀ t ∈ ts, t.size = 64) {k : Nat} (hk : k < ts.length) {t : ByteArray} (ht : t.size = 64)
    (hx : a.eval x = .pointer (some ⟨g, k * 64, none⟩)) (hy : a.eval y = .agg (secA t))
    (hK : ∀ w', OwnK B w' g n cap (ts.set k t) → w.grownBy w' (some g) → wpList Tryz.prog ops Q rest (a.put op.dst undef) w') : wpList Tryz.prog ops Q (op :: rest) a w := by
  have e : (secA t).toList = secL t := by simp [secA]
  refine wpList_store_mid hgd 164 x y ho g (k * 64) (secA t) hx hy (by rw [secA_size, ht]; exact h.there hs hk) (secSize ht) (secA_one t) ?_
  rw [e]
  obtain ⟨h1, h2⟩ := h.stored hs hk ht
  exact hK _ h1 h2
theorem sizes_set {ts : List ByteArray} (hs : ∀ t ∈ ts, t.size = 64) {k : Nat} {t : ByteArray} (ht : t.size = 64) : ∀ x ∈ ts.set k t, x.size = 64 := by
  intro x hx
  rcases List.mem_or_eq_of_mem_set hx with h | h
  · exact hs x h
  · rw [h]; exact ht

end Go.Proofs.YtokkigfjabbdaaaGreatDoor
