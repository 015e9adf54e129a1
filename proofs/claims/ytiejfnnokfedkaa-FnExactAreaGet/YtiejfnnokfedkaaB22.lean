import Derived.Test.YtiejfnnokfedkaaB20
import Derived.Lib.BufferWrite
import Derived.Deep.MidRow
import Derived.Stop.BytesEq
import Derived.Test.YtiejfnnokfedkaaB21
import Derived.Test.YtiejfnnokfedkaaB18
import Derived.Test.YtiejfnnokfedkaaB19
import Derived.Test.YtiejfnnokfedkaaB11
/- The program's sectors as arrays (written by mk/isec.py). No condition. -/
namespace Go.Proofs.Ytiejfnnokfedkaa
open Go.RowKit
set_option maxRecDepth 100000
set_option linter.unusedVariables false

/-- The cells of a sector. -/
def secL (s : ByteArray) : List Value := (bs s).map (Value.int .u8)
def secA (s : ByteArray) : Array Value := (secL s).toArray
theorem secL_len (s : ByteArray) : (secL s).length = s.size := by simp [secL, bs_len]
theorem secA_size (s : ByteArray) : (secA s).size = s.size := by simp [secA, secL_len]
theorem secL_one (s : ByteArray) : ∀ v ∈ secL s, v.oneCell' = true := by
  intro v hv
  obtain ⟨x, _, rfl⟩ := List.mem_map.mp hv
  rfl
theorem secA_one (s : ByteArray) : (secA s).all (·.oneCell') = true := all_oneCell_toArray (secL_one s)
theorem secL_bytes (s : ByteArray) : Lib.byteCells s.data.toList = secL s := by simp [Lib.byteCells, secL, bs]

/-- 'copy(v[:], s)', v an array as long as s. -/
theorem run_copyS {P : Program} (w : World) (dT sT ty e : TypeId) (g n : Nat) (s : ByteArray) (cur : Array Value) (t : TypeId)
    (hu : P.underlying dT = some (TypeDesc.slice e)) (hsz : Option.map (fun x => x.size) (P.info? e) = some 1) (hg : w.heap[g]? = some (.cells cur t (0, 0))) (hn : s.size = n) (hc : cur.size = n) :
    (Builtin.copy_ #[dT, sT] ty #[.slice (some ⟨g, 0, none⟩) n n, .string s]).run P w = .ok (goInt n) (w.setRow g (secA s)) := by
  have hr := Lib.run_copy_row_string (P := P) w dT sT ty e g 0 n n s cur t hu hsz hg (by omega) (by omega)
  have hrow : (cur.toList.take 0 ++ Lib.byteCells s.data.toList ++ cur.toList.drop (0 + s.size)).toArray = secA s := by
    rw [secL_bytes, List.take_zero, List.nil_append, List.drop_of_length_le (by rw [Array.length_toList]; omega), List.append_nil]
    rfl
  rw [hrow, hn] at hr
  exact hr
theorem grown_setRow (w : World) (g : Nat) (cs : Array Value) : w.grownBy (w.setRow g cs) (some g) := ⟨rfl, rfl, rfl, by simp, fun k _ hk => setRow_other w g k _ (fun e => hk (by rw [e]))⟩

theorem run_storeAt_row {P : Program} (w : World) (g : Nat) (t ty : TypeId) (old cells : Array Value) (hg : w.heap[g]? = some (.cells old t (0, 0))) (hi : (P.info? ty).map (·.size) = some cells.size)
    (ho : old.size = cells.size) (h1 : cells.all (·.oneCell') = true) :
    (Instr.storeAt ty (.pointer (some ⟨g, 0, none⟩)) (.agg cells)).run P w = .ok () (w.setRow g cells) := by
  simp only [Instr.storeAt, Instr.sureAddr, Sem.run_bind, Sem.run_pure, Result.andThen_ok, run_storeVar_row w g t ty old cells hg hi ho h1]
theorem run_loadAt_row {P : Program} (w : World) (g : Nat) (t ty : TypeId) (cs : Array Value) (fr : Nat × Nat) (d : TypeDesc) (hg : w.heap[g]? = some (.cells cs t fr))
    (hu : P.underlying ty = some d) (hd : (match d with | .struct _ | .array _ _ => true | _ => false) = true) (hi : (P.info? ty).map (·.size) = some cs.size) :
    (Instr.loadAt ty (.pointer (some ⟨g, 0, none⟩))).run P w = .ok (.agg cs) w := by
  simp only [Instr.loadAt, Instr.sureAddr, Sem.run_bind, Sem.run_pure, Result.andThen_ok, run_loadVar_row w g t ty cs fr d hg hu hd hi]
theorem secSize {s : ByteArray} (hs : s.size = 64) : (Try.prog.info? 55).map (·.size) = some (secA s).size := by
  rw [secA_size, hs]; kernel_rfl

set_option maxRecDepth 100000 in
theorem isectorFrom_any (s : ByteArray) (w : World) (hs : s.size = 64) : Calls Try.prog 53 #[.string s] w fun e w' => e = .returned (.agg (secA s)) ∧ Below w.heap.size w w' := by
  obtain ⟨w1, hw1⟩ : ∃ x, x = (w.alloc (.cells #[.int .u8 0, .int .u8 0, .int .u8 0, .int .u8 0, .int .u8 0, .int .u8 0, .int .u8 0, .int .u8 0, .int .u8 0, .int .u8 0, .int .u8 0, .int .u8 0, .int .u8 0, .int .u8 0, .int .u8 0, .int .u8 0, .int .u8 0, .int .u8 0, .int .u8 0, .int .u8 0, .int .u8 0, .int .u8 0, .int .u8 0, .int .u8 0, .int .u8 0, .int .u8 0, .int .u8 0, .int .u8 0, .int .u8 0, .int .u8 0, .int .u8 0, .int .u8 0, .int .u8 0, .int .u8 0, .int .u8 0, .int .u8 0, .int .u8 0, .int .u8 0, .int .u8 0, .int .u8 0, .int .u8 0, .int .u8 0, .int .u8 0, .int .u8 0, .int .u8 0, .int .u8 0, .int .u8 0, .int .u8 0, .int .u8 0, .int .u8 0, .int .u8 0, .int .u8 0, .int .u8 0, .int .u8 0, .int .u8 0, .int .u8 0, .int .u8 0, .int .u8 0, .int .u8 0, .int .u8 0, .int .u8 0, .int .u8 0, .int .u8 0, .int .u8 0] 55)).alloc (.cells #[.int .u8 0, .int .u8 0, .int .u8 0, .int .u8 0, .int .u8 0, .int .u8 0, .int .u8 0, .int .u8 0, .int .u8 0, .int .u8 0, .int .u8 0, .int .u8 0, .int .u8 0, .int .u8 0, .int .u8 0, .int .u8 0, .int .u8 0, .int .u8 0, .int .u8 0, .int .u8 0, .int .u8 0, .int .u8 0, .int .u8 0, .int .u8 0, .int .u8 0, .int .u8 0, .int .u8 0, .int .u8 0, .int .u8 0, .int .u8 0, .int .u8 0, .int .u8 0, .int .u8 0, .int .u8 0, .int .u8 0, .int .u8 0, .int .u8 0, .int .u8 0, .int .u8 0, .int .u8 0, .int .u8 0, .int .u8 0, .int .u8 0, .int .u8 0, .int .u8 0, .int .u8 0, .int .u8 0, .int .u8 0, .int .u8 0, .int .u8 0, .int .u8 0, .int .u8 0, .int .u8 0, .int .u8 0, .int .u8 0, .int .u8 0, .int .u8 0, .int .u8 0, .int .u8 0, .int .u8 0, .int .u8 0, .int .u8 0, .int .u8 0, .int .u8 0] 55) := ⟨_, rfl⟩
  have b1 : Below w.heap.size w w1 := by rw [hw1]; exact ((Below.refl _ _).alloc (Nat.le_refl _) _).alloc (by simp) _
  have x1 : w1.heap[w.heap.size]? = some (.cells #[.int .u8 0, .int .u8 0, .int .u8 0, .int .u8 0, .int .u8 0, .int .u8 0, .int .u8 0, .int .u8 0, .int .u8 0, .int .u8 0, .int .u8 0, .int .u8 0, .int .u8 0, .int .u8 0, .int .u8 0, .int .u8 0, .int .u8 0, .int .u8 0, .int .u8 0, .int .u8 0, .int .u8 0, .int .u8 0, .int .u8 0, .int .u8 0, .int .u8 0, .int .u8 0, .int .u8 0, .int .u8 0, .int .u8 0, .int .u8 0, .int .u8 0, .int .u8 0, .int .u8 0, .int .u8 0, .int .u8 0, .int .u8 0, .int .u8 0, .int .u8 0, .int .u8 0, .int .u8 0, .int .u8 0, .int .u8 0, .int .u8 0, .int .u8 0, .int .u8 0, .int .u8 0, .int .u8 0, .int .u8 0, .int .u8 0, .int .u8 0, .int .u8 0, .int .u8 0, .int .u8 0, .int .u8 0, .int .u8 0, .int .u8 0, .int .u8 0, .int .u8 0, .int .u8 0, .int .u8 0, .int .u8 0, .int .u8 0, .int .u8 0, .int .u8 0] 55 (0, 0)) := by rw [hw1, Below.heap_alloc _ _ _ (by simp)]; exact World.alloc_heap_new _ _
  have x2 : w1.heap[w.heap.size + 1]? = some (.cells #[.int .u8 0, .int .u8 0, .int .u8 0, .int .u8 0, .int .u8 0, .int .u8 0, .int .u8 0, .int .u8 0, .int .u8 0, .int .u8 0, .int .u8 0, .int .u8 0, .int .u8 0, .int .u8 0, .int .u8 0, .int .u8 0, .int .u8 0, .int .u8 0, .int .u8 0, .int .u8 0, .int .u8 0, .int .u8 0, .int .u8 0, .int .u8 0, .int .u8 0, .int .u8 0, .int .u8 0, .int .u8 0, .int .u8 0, .int .u8 0, .int .u8 0, .int .u8 0, .int .u8 0, .int .u8 0, .int .u8 0, .int .u8 0, .int .u8 0, .int .u8 0, .int .u8 0, .int .u8 0, .int .u8 0, .int .u8 0, .int .u8 0, .int .u8 0, .int .u8 0, .int .u8 0, .int .u8 0, .int .u8 0, .int .u8 0, .int .u8 0, .int .u8 0, .int .u8 0, .int .u8 0, .int .u8 0, .int .u8 0, .int .u8 0, .int .u8 0, .int .u8 0, .int .u8 0, .int .u8 0, .int .u8 0, .int .u8 0, .int .u8 0, .int .u8 0] 55 (0, 0)) := by
    rw [hw1]
    have := World.alloc_heap_new (w.alloc (.cells #[.int .u8 0, .int .u8 0, .int .u8 0, .int .u8 0, .int .u8 0, .int .u8 0, .int .u8 0, .int .u8 0, .int .u8 0, .int .u8 0, .int .u8 0, .int .u8 0, .int .u8 0, .int .u8 0, .int .u8 0, .int .u8 0, .int .u8 0, .int .u8 0, .int .u8 0, .int .u8 0, .int .u8 0, .int .u8 0, .int .u8 0, .int .u8 0, .int .u8 0, .int .u8 0, .int .u8 0, .int .u8 0, .int .u8 0, .int .u8 0, .int .u8 0, .int .u8 0, .int .u8 0, .int .u8 0, .int .u8 0, .int .u8 0, .int .u8 0, .int .u8 0, .int .u8 0, .int .u8 0, .int .u8 0, .int .u8 0, .int .u8 0, .int .u8 0, .int .u8 0, .int .u8 0, .int .u8 0, .int .u8 0, .int .u8 0, .int .u8 0, .int .u8 0, .int .u8 0, .int .u8 0, .int .u8 0, .int .u8 0, .int .u8 0, .int .u8 0, .int .u8 0, .int .u8 0, .int .u8 0, .int .u8 0, .int .u8 0, .int .u8 0, .int .u8 0] 55)) (.cells #[.int .u8 0, .int .u8 0, .int .u8 0, .int .u8 0, .int .u8 0, .int .u8 0, .int .u8 0, .int .u8 0, .int .u8 0, .int .u8 0, .int .u8 0, .int .u8 0, .int .u8 0, .int .u8 0, .int .u8 0, .int .u8 0, .int .u8 0, .int .u8 0, .int .u8 0, .int .u8 0, .int .u8 0, .int .u8 0, .int .u8 0, .int .u8 0, .int .u8 0, .int .u8 0, .int .u8 0, .int .u8 0, .int .u8 0, .int .u8 0, .int .u8 0, .int .u8 0, .int .u8 0, .int .u8 0, .int .u8 0, .int .u8 0, .int .u8 0, .int .u8 0, .int .u8 0, .int .u8 0, .int .u8 0, .int .u8 0, .int .u8 0, .int .u8 0, .int .u8 0, .int .u8 0, .int .u8 0, .int .u8 0, .int .u8 0, .int .u8 0, .int .u8 0, .int .u8 0, .int .u8 0, .int .u8 0, .int .u8 0, .int .u8 0, .int .u8 0, .int .u8 0, .int .u8 0, .int .u8 0, .int .u8 0, .int .u8 0, .int .u8 0, .int .u8 0] 55)
    rwa [World.size_alloc] at this
  have X1 := (show Hid _ from x1)
  have X2 := (show Hid _ from x2)
  have B1 := (show Hid (Below w.heap.size w w1) from b1)
  have hsz := secSize hs
  have HSZ := (show Hid _ from hsz)
  clear b1 x1 x2 hsz
  go_enter Try.func53, Try.ntmps53
  go_wp2_with fail
  rw [← hw1, run_copyS w1 43 9 3 5 (w.heap.size + 1) 64 s _ 55 Try.underlying43 (by kernel_rfl) X2.out hs rfl]
  clear hw1
  obtain ⟨w2, hw2⟩ : ∃ y, y = w1.setRow (w.heap.size + 1) (secA s) := ⟨_, rfl⟩
  rw [← hw2]
  have g2 : w1.grownBy w2 (some (w.heap.size + 1)) := by rw [hw2]; exact grown_setRow _ _ _
  have y2 : w2.heap[w.heap.size + 1]? = some (.cells (secA s) 55 (0, 0)) := by rw [hw2]; exact setRow_heap _ _ _ _ _ _ X2.out
  have y1 := (g2.block _ (lt_of_block X1.out) (by simp)).trans X1.out
  have Y2 := (show Hid _ from y2)
  have Y1 := (show Hid _ from y1)
  have B2 := (show Hid (Below w.heap.size w w2) from B1.out.grown g2 B1.out.size (fun r e => by cases e; exact Nat.le_succ _))
  clear y1 y2 g2 hw2
  go_wp2_with (first
    | refine wpList_load_row rfl 55 (.tmp 3) rfl (w.heap.size + 1) rfl 55 (secA s) (0, 0) _ Y2.out Try.underlying55 rfl HSZ.out ?_
    | refine wpList_store_row rfl 55 (.tmp 2) (.tmp 7) rfl w.heap.size (secA s) rfl rfl 55 _ Y1.out HSZ.out (by rw [secA_size, hs]; rfl) (secA_one s) ?_)
  refine bodyPost_ret (results_cell_row rfl _ _ w.heap.size 55 (secA s) (0, 0) _ rfl (setRow_heap _ _ _ _ _ _ Y1.out) Try.underlying55 rfl HSZ.out) rfl ?_
  exact ⟨rfl, B2.out.grown (grown_setRow _ _ _) B2.out.size (fun r e => by cases e; exact Nat.le_refl _)⟩

set_option maxRecDepth 100000 in
theorem itext_any (s : ByteArray) (w : World) (hs : s.size = 64) : Calls Try.prog 30 #[.agg (secA s)] w fun e w' => e = .returned (.string s) ∧ Below w.heap.size w w' := by
  have b1 : Below w.heap.size w (w.alloc (.cells (secA s) 55)) := (Below.refl _ _).alloc (Nat.le_refl _) _
  have hsl : Sl .u8 (w.alloc (.cells (secA s) 55)) (.slice (some ⟨w.heap.size, 0, none⟩) 64 64) (bs s) := by
    refine Blk.sl (t := 55) ⟨_, _, _, World.alloc_heap_new _ _, ?_, .inr rfl⟩ (by rw [bs_len, hs]) (by rw [bs_len, hs]; exact Nat.le_refl _) (by unfold maxLen; omega)
    intro j hj
    have hj' : j < (secL s).length := by rw [secL_len]; rw [bs_len] at hj; exact hj
    simp [secA, secL, List.getElem?_eq_getElem hj, List.getD_eq_getElem?_getD]
  have hc := conv_sl hsl
  rw [strOf_bs] at hc
  clear hsl
  go_enter Try.func30, Try.ntmps30
  go_wp2
  go_ret
  exact ⟨rfl, b1⟩

/-- The cells of a row of sectors. -/
def secCells (ts : List ByteArray) : List Value := ts.flatMap secL
theorem secCells_cons (t : ByteArray) (ts : List ByteArray) : secCells (t :: ts) = secL t ++ secCells ts := rfl
theorem secCells_len {ts : List ByteArray} (h : ∀ t ∈ ts, t.size = 64) : (secCells ts).length = ts.length * 64 := by
  induction ts with
  | nil => rfl
  | cons t ts ih =>
    rw [secCells_cons, List.length_append, secL_len, h t (by simp), ih (fun t ht => h t (by simp [ht])), List.length_cons]
    omega
theorem secCells_at {ts : List ByteArray} (h : ∀ t ∈ ts, t.size = 64) {k : Nat} (hk : k < ts.length) {j : Nat} (hj : j < 64) : (secCells ts)[k * 64 + j]? = (secL ts[k])[j]? := by
  induction ts generalizing k with
  | nil => simp at hk
  | cons t ts ih =>
    have ht := h t (by simp)
    rw [secCells_cons]
    cases k with
    | zero => rw [List.getElem?_append_left (by rw [secL_len, ht]; omega), Nat.zero_mul, Nat.zero_add]; rfl
    | succ k =>
      rw [List.getElem?_append_right (by rw [secL_len, ht]; omega), secL_len, ht, show (k + 1) * 64 + j - 64 = k * 64 + j by omega, ih (fun t ht => h t (by simp [ht])) (by simpa using hk)]
      rfl
theorem secCells_one (ts : List ByteArray) : ∀ v ∈ secCells ts, v.oneCell' = true := by
  intro v hv
  obtain ⟨t, _, ht⟩ := List.mem_flatMap.mp hv
  exact secL_one t v ht

/-- Cells that are laid over others from a place on. -/
def setL (xs : List Value) : Nat → List Value → List Value
  | _, [] => xs
  | o, c :: cs => setL (xs.set o c) (o + 1) cs
theorem setL_append (us xs : List Value) (o : Nat) (cs : List Value) : setL (us ++ xs) (us.length + o) cs = us ++ setL xs o cs := by
  induction cs generalizing xs o with
  | nil => rfl
  | cons c cs ih =>
    rw [setL, setL, List.set_append_right _ _ (by omega), show us.length + o - us.length = o by omega, show us.length + o + 1 = us.length + (o + 1) by omega, ih]
theorem setL_front (us xs : List Value) (cs : List Value) (h : us.length = cs.length) : setL (us ++ xs) 0 cs = cs ++ xs := by
  induction cs generalizing us with
  | nil => rw [List.length_eq_zero_iff.mp h]; rfl
  | cons c cs ih =>
    cases us with
    | nil => simp at h
    | cons a us =>
      have e := setL_append [c] (us ++ xs) 0 cs
      simp only [List.length_singleton, Nat.add_zero, List.singleton_append] at e
      rw [setL, List.cons_append, List.set_cons_zero, Nat.zero_add, e, ih us (by simpa using h), List.cons_append]
theorem setL_sec {ts : List ByteArray} (h : ∀ t ∈ ts, t.size = 64) {k : Nat} (hk : k < ts.length) {t : ByteArray} (ht : t.size = 64) : setL (secCells ts) (k * 64) (secL t) = secCells (ts.set k t) := by
  induction ts generalizing k with
  | nil => simp at hk
  | cons x ts ih =>
    have hx := h x (by simp)
    cases k with
    | zero => rw [secCells_cons, Nat.zero_mul, setL_front _ _ _ (by rw [secL_len, secL_len, hx, ht]), List.set_cons_zero, secCells_cons]
    | succ k =>
      have e := setL_append (secL x) (secCells ts) (k * 64) (secL t)
      rw [secL_len, hx, show 64 + k * 64 = (k + 1) * 64 by omega] at e
      rw [secCells_cons, e, ih (fun t ht => h t (by simp [ht])) (by simpa using hk), List.set_cons_succ, secCells_cons]

/-- A row of sectors of the call's own. -/
abbrev OwnK (B : Nat) (w : World) (g n cap : Nat) (ts : List ByteArray) : Prop := w.ownsRow B 55 64 (.slice (some ⟨g, 0, none⟩) n cap) n (secCells ts)
theorem ownsRow_setCells {B e size g n cap : Nat} {w : World} {xs : List Value} (h : w.ownsRow B e size (.slice (some ⟨g, 0, none⟩) n cap) n xs) (o : Nat) (cs : List Value) :
    (w.setCells g o cs).ownsRow B e size (.slice (some ⟨g, 0, none⟩) n cap) n (setL xs o cs) ∧ w.grownBy (w.setCells g o cs) (some g) := by
  induction cs generalizing w xs o with
  | nil => exact ⟨h, World.grownBy.refl _ _⟩
  | cons c cs ih =>
    obtain ⟨h1, g1⟩ := h.stored o c
    obtain ⟨h2, g2⟩ := ih h1 (o + 1)
    exact ⟨h2, grown_trans g1 g2⟩
theorem OwnK.range {B g n cap : Nat} {w : World} {ts : List ByteArray} (h : OwnK B w g n cap ts) (hs : ∀ t ∈ ts, t.size = 64) {k : Nat} (hk : k < ts.length) : w.rangeAt g (k * 64) (secL ts[k]) := by
  intro j v hv
  have hj : j < 64 := by
    have := (List.getElem?_eq_some_iff.1 hv).1
    rwa [secL_len, hs _ (List.getElem_mem hk)] at this
  have hl := h.1
  rw [secCells_len hs] at hl
  have hn : n = ts.length := by omega
  rw [h.cellAt (k * 64 + j) (by omega), secCells_at hs hk hj, hv]
theorem OwnK.there {B g n cap : Nat} {w : World} {ts : List ByteArray} (h : OwnK B w g n cap ts) (hs : ∀ t ∈ ts, t.size = 64) {k : Nat} (hk : k < ts.length) : w.there g (k * 64) 64 := by
  intro j hj
  have hl := h.1
  rw [secCells_len hs] at hl
  have hn : n = ts.length := by omega
  refine ⟨?_, h.frozenAt _⟩
  rw [h.cellAt (k * 64 + j) (by omega), secCells_at hs hk hj, List.getElem?_eq_getElem (by rw [secL_len, hs _ (List.getElem_mem hk)]; exact hj)]
  rfl
theorem OwnK.load {B g n cap : Nat} {w : World} {ts : List ByteArray} (h : OwnK B w g n cap ts) (hs : ∀ t ∈ ts, t.size = 64) {k : Nat} (hk : k < ts.length) :
    (Instr.loadAt 55 (.pointer (some ⟨g, k * 64, none⟩))).run Try.prog w = .ok (.agg (secA ts[k])) w :=
  run_loadAt_mid w g (k * 64) 55 (secL ts[k]) _ (h.range hs hk) Try.underlying55 rfl (by rw [secL_len, hs _ (List.getElem_mem hk)]; kernel_rfl)
theorem OwnK.store {B g n cap : Nat} {w : World} {ts : List ByteArray} (h : OwnK B w g n cap ts) (hs : ∀ t ∈ ts, t.size = 64) {k : Nat} (hk : k < ts.length) {t : ByteArray} (ht : t.size = 64) :
    (Instr.storeAt 55 (.pointer (some ⟨g, k * 64, none⟩)) (.agg (secA t))).run Try.prog w = .ok () (w.setCells g (k * 64) (secL t)) := by
  have := run_storeAt_mid (P := Try.prog) w g (k * 64) 55 (secA t) (by rw [secA_size, ht]; exact h.there hs hk) (secSize ht) (secA_one t)
  simpa [secA] using this
theorem OwnK.stored {B g n cap : Nat} {w : World} {ts : List ByteArray} (h : OwnK B w g n cap ts) (hs : ∀ t ∈ ts, t.size = 64) {k : Nat} (hk : k < ts.length) {t : ByteArray} (ht : t.size = 64) :
    OwnK B (w.setCells g (k * 64) (secL t)) g n cap (ts.set k t) ∧ w.grownBy (w.setCells g (k * 64) (secL t)) (some g) := by
  have := ownsRow_setCells h (k * 64) (secL t)
  rw [setL_sec hs hk ht] at this
  exact this
theorem secA_inj {s t : ByteArray} (h : bs s = bs t) : s = t := by rw [← strOf_bs s, ← strOf_bs t, h]
/-- Two sectors compared. -/
theorem sec_neq (s t : ByteArray) (hs : s.size = 64) (ht : t.size = 64) (w : World) : (binOp .neq 55 (.agg (secA s)) (.agg (secA t))).run Try.prog w = .ok (.bool (decide (s ≠ t))) w := by
  have e1 : secA s = (s.data.toList.map Extern.Stop.cell).toArray := by simp [secA, secL, bs, Extern.Stop.cell]
  have e2 : secA t = (t.data.toList.map Extern.Stop.cell).toArray := by simp [secA, secL, bs, Extern.Stop.cell]
  rw [run_neq_struct, e1, e2, run_equalIn_bytes w 9998 55 5 64 Try.underlying55 Try.underlying5 (fun w => by simp [sizeOf, typeInfo]; first | rfl | kernel_rfl) _ _ (by rw [Array.length_toList]; exact hs) (by rw [Array.length_toList]; exact ht)]
  by_cases h : s = t
  · subst h; simp
  · have : ¬ s.data = t.data := fun e => h (by cases s; cases t; simpa using e)
    simp [h, this]
end Go.Proofs.Ytiejfnnokfedkaa

/- The program's SectorOf. No condition. -/
namespace Go.Proofs.Ytiejfnnokfedkaa
open Go.RowKit
set_option maxRecDepth 100000
set_option linter.unusedVariables false

theorem sectorOf1_any (g : Nat) (x y : Int) (s : ByteArray) (w : World) (hg : w.cell? ⟨g, 0, none⟩ = some (.int .i64 y)) (hlt : g < w.heap.size) :
    Calls Try.prog 67 #[.agg #[.int .i64 x, .string s], .pointer (some ⟨g, 0, none⟩)] w fun e w' => e = .returned (.bool (decide (x = y))) ∧ Below w.heap.size w w' := by
  have hb : Below w.heap.size w (w.alloc (.cells #[.int .i64 x, .string s] 80)) := (Below.refl _ _).alloc (Nat.le_refl _) _
  have hg2 := (hb.cell (p := ⟨g, 0, none⟩) hlt).trans hg
  by_cases hm : x = y
  · rw [decide_eq_true hm]
    subst hm
    go_enter Try.func67, Try.ntmps67
    go_wp2
    go_ret
    exact ⟨rfl, hb⟩
  · rw [decide_eq_false hm]
    have hn : (x == y) = false := by simp [hm]
    go_enter Try.func67, Try.ntmps67
    go_wp2
    go_ret
    exact ⟨rfl, hb⟩

set_option maxHeartbeats 2000000 in
set_option maxRecDepth 100000 in
theorem lastPut_any {v : Value} {ps : List (Int × ByteArray)} {w : World} (h : Sv 2 w v (putCells ps)) (g : Nat) (y : Int) (hg : w.cell? ⟨g, 0, none⟩ = some (.int .i64 y)) (hgl : g < w.heap.size) (hn : ps.length ≤ 1048576) :
    Calls Try.prog 66 #[v, .func (.func 67) #[] #[.pointer (some ⟨g, 0, none⟩)]] w fun e w' => ∃ r : Int, e = .returned (.int .i64 r) ∧ ((r = -1 ∧ putAt y ps = none) ∨ (∃ k, ∃ hk : k < ps.length, r = (k : Int) ∧ putAt y ps = some ps[k].2)) ∧ Below w.heap.size w w' := by
  obtain ⟨a2, c2, e2, _, _, hp⟩ := h.put
  subst e2
  have HP := (show Hid (∀ k (hk : k < ps.length), ∃ b off, a2 = some ⟨b, off, none⟩ ∧ b < w.heap.size ∧ w.cell? ⟨b, off + k * 2, none⟩ = some (.int .i64 ps[k].1) ∧ w.cell? ⟨b, off + k * 2 + 1, none⟩ = some (.string ps[k].2)) from hp)
  have HG := (show Hid (w.cell? ⟨g, 0, none⟩ = some (.int .i64 y)) from hg)
  clear h hp hg
  go_enter Try.func66, Try.ntmps66
  go_wp2
  go_loopw [5] (fun i wr => ∃ k : Nat, k ≤ ps.length ∧ i = .int .i64 ((k : Int) - 1) ∧ putAt y ps = putAt y (ps.take k) ∧ Below w.heap.size w wr) (fun i _ => (intOf i + 1).toNat)
  case atStart => exact ⟨ps.length, Nat.le_refl _, by go_num, by rw [List.take_length], Below.refl _ _⟩
  case round =>
    obtain ⟨k, hk, rfl, he, bel⟩ := hrel
    have HE := (show Hid (putAt y ps = putAt y (ps.take k)) from he)
    clear he
    cases k with
    | zero =>
      have HR : Hid (putAt y ps = none) := (show putAt y ps = none by rw [HE.out]; simp [putAt])
      have e0 : ((0 : Nat) : Int) - 1 = -1 := by omega
      rw [e0]
      clear HE e0
      go_wp2
      go_ret
      exact ⟨-1, rfl, .inl ⟨rfl, HR.out⟩, bel⟩
    | succ k =>
      have hk' : k < ps.length := by omega
      obtain ⟨b2, o2, rfl, hb2, c3, c4⟩ := HP.out k hk'
      have c3' := (bel.cell (p := ⟨b2, o2 + k * 2, none⟩) hb2).trans c3
      have c4' := (bel.cell (p := ⟨b2, o2 + k * 2 + 1, none⟩) hb2).trans c4
      have HT := (show Hid (putAt y ps = if ps[k].1 = y then some ps[k].2 else putAt y (ps.take k)) from HE.out.trans (putAt_take hk'))
      have ek : ((k + 1 : Nat) : Int) - 1 = (k : Int) := by omega
      rw [ek]
      have KF := (show Hid (ps[k].1 = y → ∃ k', ∃ hk : k' < ps.length, (k : Int) = (k' : Int) ∧ putAt y ps = some ps[k'].2) from fun e => ⟨k, hk', rfl, by rw [HT.out, if_pos e]⟩)
      have KN := (show Hid (ps[k].1 ≠ y → putAt y ps = putAt y (ps.take k)) from fun e => by rw [HT.out, if_neg e])
      obtain ⟨z, hz⟩ : ∃ z, z = ps[k] := ⟨_, rfl⟩
      rw [← hz] at c3' c4' KF KN
      obtain ⟨za, zs⟩ := z
      simp only at c3' c4' KF KN
      have CC := (show Hid _ from sectorOf1_any g za y zs wr ((bel.cell (p := ⟨g, 0, none⟩) hgl).trans HG.out) (Nat.lt_of_lt_of_le hgl bel.size))
      clear hz c3 c4 HT HE ek
      go_wp2_with fail
      go_at_call 67
      refine Calls.mono CC.out ?_
      rintro e w2 ⟨rfl, b2⟩
      replace b2 := bel.trans (b2.mono bel.size)
      clear CC c3' c4'
      by_cases e : za = y
      · have KF' := (show Hid _ from KF.out e)
        have hd : decide (za = y) = true := decide_eq_true e
        rw [hd]
        clear KF KN e hd
        go_wp2
        go_ret
        exact ⟨(k : Int), rfl, .inr KF'.out, b2⟩
      · have KN' := (show Hid _ from KN.out e)
        have hd : decide (za = y) = false := decide_eq_false e
        rw [hd]
        clear KF KN e hd
        go_wp2
        go_roundw
        case rel => exact ⟨k, by omega, by go_num, KN'.out, b2⟩
        case measure => simp [intOf]

set_option maxHeartbeats 2000000 in
set_option maxRecDepth 100000 in
theorem isectorOf_any {w : World} {v : Value} {d : PDisk} (h : DiskAt w v d) (hf : DiskFit d) (x : Int) :
    Calls Try.prog 52 #[v, .int .i64 x] w fun e w' => e = .returned (.tuple #[.string (sectorDk d x).1, .bool (sectorDk d x).2]) ∧ Below w.heap.size w w' := by
  have HD := (show Hid (DiskAt w v d) from h)
  have HF := (show Hid (DiskFit d) from hf)
  have f1 := hf.sl
  have f2 := hf.ll
  obtain ⟨sa, sn, sc, la, ln, lc, rfl, h1, h2⟩ := h
  obtain ⟨_, _, e1, _, _, _⟩ := h1.str
  cases e1
  obtain ⟨_, _, e2, _, _, _⟩ := h2.put
  cases e2
  have H1 := (show Hid (Sv 1 w (.slice sa d.safe.length sc) (strCells d.safe)) from h1)
  have H2 := (show Hid (Sv 2 w (.slice la d.late.length lc) (putCells d.late)) from h2)
  clear h1 h2 hf
  obtain ⟨w1, hw1⟩ : ∃ y, y = (w.alloc (.cells #[.slice sa d.safe.length sc, .slice la d.late.length lc] 36)).alloc (.cells #[.int .i64 x] 3) := ⟨_, rfl⟩
  have b1 : Below w.heap.size w w1 := by rw [hw1]; exact ((Below.refl _ _).alloc (Nat.le_refl _) _).alloc (by simp) _
  have x1 : w1.heap[w.heap.size]? = some (.cells #[.slice sa d.safe.length sc, .slice la d.late.length lc] 36 (0, 0)) := by rw [hw1, Below.heap_alloc _ _ _ (by simp)]; exact World.alloc_heap_new _ _
  have x2 : w1.heap[w.heap.size + 1]? = some (.cells #[.int .i64 x] 3 (0, 0)) := by
    rw [hw1]
    have := World.alloc_heap_new (w.alloc (.cells #[.slice sa d.safe.length sc, .slice la d.late.length lc] 36)) (.cells #[.int .i64 x] 3)
    rwa [World.size_alloc] at this
  have X1 := (show Hid _ from x1)
  have X2 := (show Hid _ from x2)
  have B1 := (show Hid (Below w.heap.size w w1) from b1)
  clear b1 x1 x2
  go_enter Try.func52, Try.ntmps52
  go_wp2_with fail
  go_at_call 48
  rw [← hw1]
  refine (idiskOk_any (HD.out.below B1.out) HF.out).mono ?_
  rintro e w2 ⟨rfl, b2⟩
  clear hw1
  have B2 := (show Hid (Below w.heap.size w w2) from B1.out.trans (b2.mono B1.out.size))
  have y1 := (b2.block _ (lt_of_block X1.out)).trans X1.out
  have y2 := (b2.block _ (lt_of_block X2.out)).trans X2.out
  obtain ⟨q1, q2, _, _⟩ := rk_two y1
  have r1 : w2.cell? ⟨w.heap.size + 1, 0, none⟩ = some (.int .i64 x) := by simp only [World.cell?, y2]; rfl
  have Y1 := (show Hid _ from y1)
  have Y2 := (show Hid _ from y2)
  clear b2 y1 y2 X1 X2
  cases hb : diskB d
  · have HR : Hid (sectorDk d x = (⟨#[]⟩, false)) := (show sectorDk d x = (⟨#[]⟩, false) by rw [sectorDk, if_pos (.inl hb)])
    clear hb
    go_wp2
    go_ret2
    exact ⟨by rw [HR.out]; rfl, B2.out⟩
  · have HB := (show Hid (diskB d = true) from hb)
    clear hb
    go_wp2_with fail
    go_at_call 65
    refine (ihasSector_any x w2).mono ?_
    rintro e w3 ⟨rfl, e3⟩
    subst e3
    cases hi : inB x 0 129
    · have HR : Hid (sectorDk d x = (⟨#[]⟩, false)) := (show sectorDk d x = (⟨#[]⟩, false) by rw [sectorDk, if_pos (.inr hi)])
      clear hi
      go_wp2
      go_ret2
      exact ⟨by rw [HR.out]; rfl, B2.out⟩
    · have HR : Hid (sectorDk d x = (sectorD d x, true)) := (show sectorDk d x = (sectorD d x, true) by rw [sectorDk, if_neg (by rw [HB.out, hi]; simp)])
      have hx : 0 ≤ x ∧ x < 130 := by simp [inB] at hi; omega
      obtain ⟨m, rfl⟩ := Int.eq_ofNat_of_zero_le hx.1
      have hm : m < d.safe.length := by have := (diskB_len HB.out).1; omega
      clear hi hx
      have CC := (show Hid _ from lastPut_any (H2.out.below B2.out) (w.heap.size + 1) (m : Int) r1 (lt_of_block Y2.out) f2)
      go_wp2_with fail
      go_at_call 66
      refine Calls.mono CC.out ?_
      rintro e w4 ⟨r, rfl, hr, b4⟩
      clear CC
      have B4 := (show Hid (Below w.heap.size w w4) from B2.out.trans (b4.mono B2.out.size))
      have z1 := (b4.block _ (lt_of_block Y1.out)).trans Y1.out
      have z2 := (b4.block _ (lt_of_block Y2.out)).trans Y2.out
      obtain ⟨q1, q2, _, _⟩ := rk_two z1
      have r1 : w4.cell? ⟨w.heap.size + 1, 0, none⟩ = some (.int .i64 (m : Int)) := by simp only [World.cell?, z2]; rfl
      obtain ⟨_, _, e1, _, _, hs⟩ := (H1.out.below B4.out).str
      cases e1
      obtain ⟨_, _, e2, _, _, hp⟩ := (H2.out.below B4.out).put
      cases e2
      have HV : Hid (sectorD d m = (putAt m d.late).getD d.safe[m]) := (show sectorD d m = (putAt m d.late).getD d.safe[m] by simp [sectorD, List.getD_eq_getElem?_getD, hm])
      rcases hr with ⟨rfl, hn⟩ | ⟨k, hk, rfl, hn⟩
      · obtain ⟨b, o, rfl, hb, c⟩ := hs m hm
        have HW : Hid (sectorDk d m = (d.safe[m], true)) := (show sectorDk d m = (d.safe[m], true) by rw [HR.out, HV.out, hn]; rfl)
        obtain ⟨y, hy⟩ : ∃ y, y = d.safe[m] := ⟨_, rfl⟩
        rw [← hy] at c HW
        clear hn HV HR z1 z2 hs hp b4 hy
        go_wp2
        go_ret2
        exact ⟨by rw [HW.out]; rfl, B4.out⟩
      · obtain ⟨b, o, rfl, hb, c, c'⟩ := hp k hk
        have HW : Hid (sectorDk d m = (d.late[k].2, true)) := (show sectorDk d m = (d.late[k].2, true) by rw [HR.out, HV.out, hn]; rfl)
        obtain ⟨y, hy⟩ : ∃ y, y = d.late[k].2 := ⟨_, rfl⟩
        rw [← hy] at c' HW
        clear hn HV HR z1 z2 hs hp b4 hy c
        go_wp2
        go_ret2
        exact ⟨by rw [HW.out]; rfl, B4.out⟩
theorem sectorOfOk_any (w : World) (v : Value) (d : PDisk) (x : Int) (h : DiskAt w v d) (hf : DiskFit d) : Calls Try.prog 52 #[v, .int .i64 x] w fun e w' => e = .returned (.tuple #[.string (sectorDk d x).1, .bool (sectorDk d x).2]) ∧ Below w.heap.size w w' := isectorOf_any h hf x
end Go.Proofs.Ytiejfnnokfedkaa

/- The program's AreaGet. No condition. -/
namespace Go.Proofs.Ytiejfnnokfedkaa
open Go.RowKit
set_option maxRecDepth 100000
set_option linter.unusedVariables false

/-- 'copy(v[o:], s)', s a text of any length. -/
theorem run_copy_strM {P : Program} (w : World) (dT sT ty elem : TypeId) (g o dLen dCap : Nat) (s : ByteArray) (cur : Array Value) (t : TypeId) (m : Nat)
    (hu : P.underlying dT = some (.slice elem)) (hs : (P.info? elem).map (·.size) = some 1) (hg : w.heap[g]? = some (.cells cur t (0, 0))) (hm : m = Nat.min s.size dLen) (hfit : o + m ≤ cur.size) :
    (Builtin.copy_ #[dT, sT] ty #[.slice (some ⟨g, o, none⟩) dLen dCap, .string s]).run P w =
      .ok (goInt m) (w.setRow g (cur.toList.take o ++ (secL s).take m ++ cur.toList.drop (o + m)).toArray) := by
  have hml : m ≤ s.size := by rw [hm]; exact Nat.min_le_left _ _
  have hlen : ((secL s).take m).length = m := by rw [List.length_take, secL_len]; omega
  have hst := run_storeCells_at P g o t ((secL s).take m) 0 cur w hg (by rw [hlen]; simpa using hfit) (fun v hv => secL_one s v (List.mem_of_mem_take hv))
  rw [hlen] at hst
  simp only [Nat.add_zero] at hst
  have htk : List.take m (List.map (fun b : UInt8 => Value.int IntKind.u8 (b.toNat : Int)) s.data.toList) = (secL s).take m := by
    rw [← secL_bytes]; rfl
  cases hq : P.info? elem with
  | none => simp [hq] at hs
  | some i =>
    simp [Builtin.copy_, run_underlying hu, Builtin.lenOf, Builtin.firstCells, sizeOf, typeInfo, hq, ← hm]
    rw [htk, hst]
    simp [Result.andThen]

theorem span_get (d : PDisk) (a at' n : Int) : getOk d a at' n = (diskB d && spanB a at' n) := by
  have : (decide (a = 0) || decide (a = 1)) = inB a 0 1 := by
    by_cases h0 : a = 0
    · subst h0; rfl
    · by_cases h1 : a = 1
      · subst h1; rfl
      · rw [inB_no (by omega)]; simp [h0, h1]
  unfold getOk spanB
  rw [this]; simp [Bool.and_assoc]

/-- What is got in one round. -/
theorem getL_more {d : PDisk} {a : Int} {at' k m : Nat} (h : (at' + k) % 64 + m ≤ 64) (hs : (sectorD d (secOf a ((at' + k) / 64))).size = 64) :
    getL d a at' (k + m) = getL d a at' k ++ ((bs (sectorD d (secOf a ((at' + k) / 64)))).drop ((at' + k) % 64)).take m := by
  induction m with
  | zero => simp
  | succ m ih =>
    have e : k + (m + 1) = (k + m) + 1 := by omega
    rw [e, getL_succ, ih (by omega), List.append_assoc]
    congr 1
    have hl : m < ((bs (sectorD d (secOf a ((at' + k) / 64)))).drop ((at' + k) % 64)).length := by rw [List.length_drop, bs_len, hs]; omega
    rw [List.take_succ_eq_append_getElem hl]
    congr 1
    have e1 : (at' + (k + m)) / 64 = (at' + k) / 64 := by omega
    have e2 : (at' + (k + m)) % 64 = (at' + k) % 64 + m := by omega
    rw [byteD, e1, e2, List.getElem_drop, List.getD_eq_getElem?_getD, List.getElem?_eq_getElem (by rw [bs_len, hs]; omega)]
    rfl

theorem secL_ext {T : ByteArray} {x : Nat} (hT : T.size = 64) : secL (T.extract x 64) = ((bs T).drop x).map (Value.int .u8) := by
  have e : (T.extract x 64).data.toList = T.data.toList.drop x := by
    rw [← Lib.toList_data, Lib.extract_toList, List.take_of_length_le]
    rw [List.length_drop]
    have : T.data.toList.length = T.size := rfl
    omega
  simp only [secL, bs, e, List.map_drop]
theorem copy_get {B g N j x m : Nat} {W : World} {L : List Int} {T : ByteArray} (ho : Own B 5 .u8 W (.slice (some ⟨g, 0, none⟩) N N) (L ++ List.replicate (N - j) 0)) (hL : L.length = j) (hj : j < N) (hT : T.size = 64) (hx : x ≤ 64) (hm : m = min (64 - x) (N - j)) (ty : TypeId) :
    ∃ W', (Builtin.copy_ #[43, 9] ty #[.slice (some ⟨g, j, none⟩) (N - j) (N - j), .string (T.extract x 64)]).run Try.prog W = .ok (goInt m) W' ∧ Own B 5 .u8 W' (.slice (some ⟨g, 0, none⟩) N N) (L ++ ((bs T).drop x).take m ++ List.replicate (N - (j + m)) 0) ∧ W.grownBy W' (some g) := by
  have hmn : m ≤ N - j := by rw [hm]; exact Nat.min_le_right _ _
  have hmx : m ≤ 64 - x := by rw [hm]; exact Nat.min_le_left _ _
  obtain ⟨hl, ⟨hv, h0⟩ | ⟨g', cap, cur, hv, hB, hh, hn, hc, hs, ht⟩⟩ := ho
  · cases hv
  · injection hv with h1 h2 h3
    injection h1 with h1
    injection h1 with h1 _ _
    subst h1 h3
    have hlN : (L ++ List.replicate (N - j) 0).length = N := by rw [List.length_append, List.length_replicate]; omega
    rw [hlN] at ht
    rw [Nat.mul_one] at hs
    rw [Nat.mul_one, List.take_of_length_le (by rw [Array.length_toList, hs]; exact Nat.le_refl _)] at ht
    have hsz : (T.extract x 64).size = 64 - x := by simp [hT]
    have hr := run_copy_strM (P := Try.prog) W 43 9 ty 5 g j (N - j) (N - j) (T.extract x 64) cur 5 m Try.underlying43 (by kernel_rfl) hh (by rw [hsz]; exact hm) (by omega)
    refine ⟨_, hr, ?_, grown_setRow _ _ _⟩
    have hlb : (bs T).length = 64 := by rw [bs_len, hT]
    have e1 : cur.toList.take j = L.map (Value.int .u8) := by rw [ht, List.map_append, List.take_append_of_le_length (by simp [hL]), List.take_of_length_le (by simp [hL])]
    have e2 : cur.toList.drop (j + m) = List.replicate (N - (j + m)) (Value.int .u8 0) := by
      rw [ht, List.map_append, List.drop_append, List.drop_of_length_le (by simp [hL]), List.nil_append, List.map_replicate, List.drop_replicate, List.length_map, hL]
      congr 1; omega
    have e3 : (cur.toList.take j ++ (secL (T.extract x 64)).take m ++ cur.toList.drop (j + m)) = (L ++ ((bs T).drop x).take m ++ List.replicate (N - (j + m)) 0).map (Value.int .u8) := by
      rw [e1, e2, secL_ext hT]; simp [List.map_take]
    have e4 : (L ++ ((bs T).drop x).take m ++ List.replicate (N - (j + m)) 0).length = N := by
      simp only [List.length_append, List.length_take, List.length_drop, List.length_replicate, hL, hlb]; omega
    rw [e3]
    unfold Own
    rw [e4]
    refine ⟨by rw [List.length_map, e4, Nat.mul_one], .inr ⟨g, N, _, rfl, hB, setRow_heap _ _ _ _ _ _ hh, Nat.le_refl _, hc, by simp only [List.size_toArray, List.length_map, e4, Nat.mul_one], ?_⟩⟩
    show List.take (N * 1) (List.map _ _) = _
    rw [List.take_of_length_le (by rw [List.length_map, e4, Nat.mul_one]; exact Nat.le_refl _)]

set_option maxHeartbeats 400000 in
set_option maxRecDepth 100000 in
theorem iareaGet_any (w : World) (v : Value) (d : PDisk) (ar at' n : Int) (hd : DiskAt w v d) (hf : DiskFit d) (x1 : (Lit.int .i64 ar).wf = true) (x2 : (Lit.int .i64 at').wf = true) (x3 : (Lit.int .i64 n).wf = true) :
    Calls Try.prog 23 #[v, .int .i64 ar, .int .i64 at', .int .i64 n] w fun e w' => ∃ u, e = .returned (.tuple #[u, .bool (getDk d ar at' n).2]) ∧ Own w.heap.size 5 .u8 w' u (getDk d ar at' n).1 ∧ Below w.heap.size w w' := by
  have HD := (show Hid (DiskAt w v d) from hd)
  have HF := (show Hid (DiskFit d) from hf)
  obtain ⟨sa, sn, sc, la, ln, lc, rfl, _, _⟩ := hd
  clear hf
  have HG : Hid (getDk d ar at' n = if (diskB d && spanB ar at' n) = true then (getL d ar at'.toNat n.toNat, true) else ([], false)) := (show getDk d ar at' n = _ by rw [getDk, span_get])
  obtain ⟨w1, hw1⟩ : ∃ y, y = w.alloc (.cells #[.slice sa sn sc, .slice la ln lc] 36) := ⟨_, rfl⟩
  have h1 := (Hl.refl w).new #[.slice sa sn sc, .slice la ln lc] 36
  rw [← hw1] at h1
  have H1 := (show Hid _ from h1)
  clear h1
  go_enter Try.func23, Try.ntmps23
  go_wp2_with fail
  go_at_call 48
  rw [← hw1]
  refine (idiskOk_any (HD.out.below H1.out.1) HF.out).mono ?_
  rintro e w2 ⟨rfl, b2⟩
  have H2 := (show Hid _ from H1.out.below b2)
  clear hw1 H1 b2
  cases hb : diskB d
  · have HR : Hid (getDk d ar at' n = ([], false)) := (show getDk d ar at' n = ([], false) by rw [HG.out, hb]; rfl)
    clear hb
    go_wp2
    go_ret2
    exact ⟨_, by rw [HR.out]; rfl, by rw [HR.out]; exact own_nil _ _ _ _, H2.out.1⟩
  · have HB := (show Hid _ from hb)
    clear hb
    go_wp2_with fail
    go_at_call 50
    refine (ispanOk_any ar at' n w2).mono ?_
    rintro e w3 ⟨rfl, e3⟩
    replace e3 := e3.symm
    subst e3
    cases hp : spanB ar at' n
    · have HR : Hid (getDk d ar at' n = ([], false)) := (show getDk d ar at' n = ([], false) by rw [HG.out, hp]; simp)
      clear hp
      go_wp2
      go_ret2
      exact ⟨_, by rw [HR.out]; rfl, by rw [HR.out]; exact own_nil _ _ _ _, H2.out.1⟩
    · have HR : Hid (getDk d ar at' n = (getL d ar at'.toNat n.toNat, true)) := (show getDk d ar at' n = (getL d ar at'.toNat n.toNat, true) by rw [HG.out, hp, HB.out]; rfl)
      have hsp : (ar = 0 ∨ ar = 1) ∧ 0 ≤ at' ∧ at' ≤ 4096 ∧ 0 ≤ n ∧ n ≤ 4096 - at' := by
        simp only [spanB, inB, Bool.and_eq_true, decide_eq_true_eq] at hp
        omega
      obtain ⟨ha, q1, q2, q3, q4⟩ := hsp
      obtain ⟨A, rfl⟩ := Int.eq_ofNat_of_zero_le q1
      obtain ⟨N, rfl⟩ := Int.eq_ofNat_of_zero_le q3
      rw [Int.toNat_natCast, Int.toNat_natCast] at HR
      clear HG hp q1 q3 x1 x2 x3
      have hA : A ≤ 4096 := by omega
      have hN : A + N ≤ 4096 := by omega
      clear q2 q4
      obtain ⟨i0, hi, hz0, hz1, hz2⟩ := info_parts Try.infoB
      have hs2 := H2.out.1.size
      go_wp2_with (at_make
                   refine wpList_mkn _ rfl (.tmp 24) (.tmp 24) 43 rfl 5 i0 .u8 Try.underlying43 hi hz0 hz1 (N : Int) (N : Int) N rfl rfl rfl rfl (by rw [hz2]; omega) (by unfold maxLen; omega) ?_
                   intro w3 o3 b3)
      have H3 := (show Hid _ from H2.out.below b3)
      have HS2 := (show Hid (w.heap.size ≤ w2.heap.size) from hs2)
      have HS3 := (show Hid (w.heap.size < w2.heap.size) from lt_of_block H2.out.at0)
      have O3 := (show Hid (Own w2.heap.size 5 .u8 w3 (.slice (some ⟨w2.heap.size, 0, none⟩) N N) (List.replicate N 0)) from o3)
      clear o3 b3
      go_loopw [11] (fun k wr => ∃ j : Nat, j ≤ N ∧ k = .int .i64 (j : Int) ∧ Own w2.heap.size 5 .u8 wr (.slice (some ⟨w2.heap.size, 0, none⟩) N N) (getL d ar A j ++ List.replicate (N - j) 0) ∧ Hl w [(w.heap.size, #[.slice sa sn sc, .slice la ln lc], 36)] wr) (fun k _ => N - (intOf k).toNat)
      case atStart => exact ⟨0, Nat.zero_le _, rfl, by simpa [getL] using O3.out, H3.out⟩
      case round =>
        clear O3 H3 hs2
        obtain ⟨j, hj, rfl, o4, h4⟩ := hrel
        by_cases hlt : j < N
        · have hlt' : (j : Int) < (N : Int) := by omega
          obtain ⟨X, hX⟩ : ∃ X, X = secOf ar ((A + j) / 64) := ⟨_, rfl⟩
          have hin : inB X 0 129 = true := by rw [hX]; exact secOf_in ha (by omega)
          have K1 := (show Hid (∀ W, Calls Try.prog 51 #[.int .i64 ar, .int .i64 ((A : Int) + (j : Int))] W fun e w' => e = .returned (.int .i64 X) ∧ w' = W) from fun W => by
            have C1 := isectorAt_any ar (A + j) W ha (by omega)
            have e1 : 2 + 64 * ar + (((A + j) / 64 : Nat) : Int) = X := hX.symm
            rw [e1, show ((A + j : Nat) : Int) = (A : Int) + (j : Int) by omega] at C1
            exact C1)
          have K2 := (show Hid (∀ W, Below wr.heap.size wr W → Calls Try.prog 52 #[.agg #[.slice sa sn sc, .slice la ln lc], .int .i64 X] W fun e w' => e = .returned (.tuple #[.string (sectorD d X), .bool true]) ∧ Below W.heap.size W w') from fun W b => by
            have C2 := isectorOf_any (HD.out.below (h4.1.trans (b.mono h4.1.size))) HF.out X
            have e2 : sectorDk d X = (sectorD d X, true) := by rw [sectorDk, if_neg (by rw [HB.out, hin]; simp)]
            rw [e2] at C2
            exact C2)
          have hT := sector_size HB.out (x := X) (by simp only [inB, Bool.and_eq_true, decide_eq_true_eq] at hin; omega)
          obtain ⟨T, hTT⟩ : ∃ T, T = sectorD d X := ⟨_, rfl⟩
          rw [← hTT] at K2 hT
          have HT := (show Hid _ from hT)
          have HX := (show Hid (X = secOf ar ((A + j) / 64)) from hX)
          have HTT := (show Hid (T = sectorD d X) from hTT)
          clear hX hTT
          have O4 := (show Hid (Own w2.heap.size 5 .u8 wr (.slice (some ⟨w2.heap.size, 0, none⟩) N N) (getL d ar A j ++ List.replicate (N - j) 0)) from o4)
          have H4 := (show Hid (Hl w _ wr) from h4)
          have HS := (show Hid (∀ W, Below wr.heap.size wr W → W.cell? ⟨w.heap.size, 0, none⟩ = some (.slice sa sn sc) ∧ W.cell? ⟨w.heap.size, 1, none⟩ = some (.slice la ln lc)) from fun W b => by
            obtain ⟨p0, p1, _⟩ := rk_two (H4.out.below b).at0
            exact ⟨p0, p1⟩)
          have KD := (show Hid (Below wr.heap.size wr wr.drew) from below_drewN 1)
          obtain ⟨d1, d2⟩ := HS.out _ (Below.refl _ _)
          clear o4 h4 hT hin
          have hwx : IntKind.i64.wrap ((A : Int) + (j : Int)) = (A : Int) + (j : Int) := by simp only [IntKind.wrap, IntKind.bits, IntKind.signed]; simp; omega
          go_wp2_with fail
          go_region_held3 (fun w' => w'.cell? ⟨w.heap.size, 0, none⟩ = some (.slice sa sn sc) ∧ w'.cell? ⟨w.heap.size, 1, none⟩ = some (.slice la ln lc))
            (first | exact HS.out _ KD.out | exact HS.out _ B5.out)
            (first
            | (go_at_call 51
               with_reducible refine Calls.mono (K1.out _) ?_
               rintro e w5 ⟨rfl, e5⟩
               subst e5)
            | (go_at_call 52
               with_reducible refine Calls.mono (K2.out _ KD.out) ?_
               rintro e w5 ⟨rfl, b5⟩
               have B5 := (show Hid (Below wr.heap.size wr w5) from KD.out.trans (b5.mono KD.out.size))
               clear b5))
          clear K1 K2 HS KD d1 d2
          go_wp2_with fail
          obtain ⟨x, hx⟩ : ∃ x : Nat, x = (A + j) % 64 := ⟨_, rfl⟩
          have HXX := (show Hid (x = (A + j) % 64) from hx)
          have m1 : ((A : Int) + (j : Int)) % 64 = (x : Int) := by omega
          have m2 : Int.tmod ((A : Int) + (j : Int)) 64 = (x : Int) := by rw [Int.tmod_eq_emod_of_nonneg (by omega)]; exact m1
          have m3 : (0 : Int) ≤ (x : Int) := by omega
          have m4 : (x : Int) ≤ 64 := by omega
          have m5 : x ≤ 64 := by omega
          clear hx
          have hTs := HT.out
          obtain ⟨m, hm⟩ : ∃ m, m = min (64 - x) (N - j) := ⟨_, rfl⟩
          have hx2 : x < 64 := by have := HXX.out; omega
          have hm1 : 1 ≤ m := by omega
          have hm2 : x + m ≤ 64 := by omega
          have hm3 : j + m ≤ N := by omega
          have KE := (show Hid (Below wr.heap.size wr w5.drew) from B5.out.trans ((below_drewN 1).mono B5.out.size))
          obtain ⟨w6, cp, o6, g6⟩ := copy_get (O4.out.below KE.out) (getL_len d ar A j) hlt hTs m5 hm 3
          have H6 := (show Hid (Hl w _ w6) from (H4.out.below KE.out).past g6 (fun r e => by
            cases e
            refine ⟨HS2.out, fun p hp => ?_⟩
            simp only [List.mem_cons, List.not_mem_nil, or_false] at hp
            rw [hp]
            exact Nat.ne_of_lt HS3.out))
          have O6 := (show Hid (Own w2.heap.size 5 .u8 w6 (.slice (some ⟨w2.heap.size, 0, none⟩) N N) (getL d ar A (j + m) ++ List.replicate (N - (j + m)) 0)) from by
            have hgm := getL_more (d := d) (a := ar) (at' := A) (k := j) (m := m) (by rw [← HXX.out]; exact hm2) (by rw [← HX.out, ← HTT.out]; exact hTs)
            rw [← HX.out, ← HTT.out, ← HXX.out] at hgm
            rw [hgm]; exact o6)
          have hjm : IntKind.i64.wrap ((j : Int) + (m : Int)) = (j : Int) + (m : Int) := by simp only [IntKind.wrap, IntKind.bits, IntKind.signed]; simp; omega
          clear o6 g6 KE hm B5 H4 O4
          go_region_held3 (fun _ => True) (trivial) (fail)
          go_wp2
          go_roundw
          case rel => exact ⟨j + m, hm3, by go_num, O6.out, H6.out⟩
          case measure => simp [intOf]; omega
        · have hje : j = N := by omega
          subst hje
          have hn' : ¬ ((j : Int) < (j : Int)) := by omega
          have O4 := (show Hid (Own w2.heap.size 5 .u8 wr (.slice (some ⟨w2.heap.size, 0, none⟩) j j) (getL d ar A j)) from by
            rw [Nat.sub_self, List.replicate_zero, List.append_nil] at o4; exact o4)
          have H4 := (show Hid (Hl w _ wr) from h4)
          clear o4 h4
          go_wp2
          go_ret2
          exact ⟨_, by rw [HR.out]; rfl, by rw [HR.out]; exact O4.out.base HS2.out, H4.out.1⟩
end Go.Proofs.Ytiejfnnokfedkaa

/- A disk among the arguments: slices of texts and of puts. -/
namespace Go.Proofs.Ytiejfnnokfedkaa
open Go.RowKit Go.ChangeShapes Go.WideShapes
set_option maxRecDepth 100000
set_option linter.unusedVariables false

theorem rows_strs {rows : List (List Value)} (h : ∀ r ∈ rows, r.length = 1 ∧ ∃ s : ByteArray, r = [.string s] ∧ s.size ≤ maxLen) :
    ∃ ss : List ByteArray, rows.flatten = strCells ss ∧ ∀ s ∈ ss, s.size ≤ maxLen := by
  induction rows with
  | nil => exact ⟨[], rfl, fun p hp => by cases hp⟩
  | cons r rows ih =>
    obtain ⟨rs, h1, h2⟩ := ih (fun q hq => h q (List.mem_cons_of_mem _ hq))
    obtain ⟨_, p, rfl, hp⟩ := h r (List.mem_cons_self ..)
    refine ⟨p :: rs, ?_, fun q hq => ?_⟩
    · rw [List.flatten_cons, h1]; rfl
    · rcases List.mem_cons.mp hq with rfl | hq
      · exact hp
      · exact h2 q hq
theorem rows_puts {rows : List (List Value)} (h : ∀ r ∈ rows, r.length = 2 ∧ ∃ p : Int × ByteArray, r = [.int .i64 p.1, .string p.2] ∧ p.2.size ≤ maxLen) :
    ∃ rs : List (Int × ByteArray), rows.flatten = putCells rs ∧ ∀ p ∈ rs, p.2.size ≤ maxLen := by
  induction rows with
  | nil => exact ⟨[], rfl, fun p hp => by cases hp⟩
  | cons r rows ih =>
    obtain ⟨rs, h1, h2⟩ := ih (fun q hq => h q (List.mem_cons_of_mem _ hq))
    obtain ⟨_, p, rfl, hp⟩ := h r (List.mem_cons_self ..)
    refine ⟨p :: rs, ?_, fun q hq => ?_⟩
    · rw [List.flatten_cons, h1]; rfl
    · rcases List.mem_cons.mp hq with rfl | hq
      · exact hp
      · exact h2 q hq

section
variable {H : Type} {enc : TypeId × Value → H} {P : Program} {w : World} {base : Nat} {spare : Nat → Bool} {held : Bool}

theorem trod_put {t : TypeId} {f0 f1 : Field} {fuel : Nat} {cs : List Value} {x : DataW H × List MemPlace} (ht : P.underlying t = some (.struct #[f0, f1])) (hc : P.cellsOf t = 2)
    (h0 : P.underlying f0.type = some (.int .i64)) (h1 : P.underlying f1.type = some .string) (c0 : P.cellsOf f0.type = 1) (c1 : P.cellsOf f1.type = 1) (o0 : f0.offset = 0) (o1 : f1.offset = 1)
    (h : DataW.trod enc P w base spare held fuel t cs = some x) : ∃ p : Int × ByteArray, cs = [.int .i64 p.1, .string p.2] ∧ p.2.size ≤ maxLen := by
  obtain ⟨xs, n, _, _, hl, hx, hf⟩ := DataW.trod_struct ht h
  have e0 := hf 0 f0 rfl
  have e1 := hf 1 f1 rfl
  rw [c0, o0, List.drop_zero] at e0
  rw [c1, o1] at e1
  have hxs : xs.length = 2 := hx
  rw [List.getElem?_eq_getElem (by omega)] at e0 e1
  obtain ⟨a, ha, _, _⟩ := DataW.trod_int h0 e0
  obtain ⟨b, hb, _, sb⟩ := DataW.trod_string h1 e1
  rw [hc] at hl
  match cs, hl with
  | [u, v], _ =>
    simp at ha hb
    exact ⟨(a, b), by rw [ha, hb], sb⟩
theorem trod_one {t : TypeId} {fuel : Nat} {cs : List Value} {x : DataW H × List MemPlace} (ht : P.underlying t = some .string) (h : DataW.trod enc P w base spare held fuel t cs = some x) : ∃ s : ByteArray, cs = [.string s] ∧ s.size ≤ maxLen := by
  obtain ⟨a, ha, _, sa⟩ := DataW.trod_string ht h
  exact ⟨a, ha, sa⟩
theorem trod_disk {t es ep : TypeId} {f0 f1 g0 g1 : Field} {fuel : Nat} {cs : List Value} {x : DataW H × List MemPlace} (ht : P.underlying t = some (.struct #[f0, f1])) (hc : P.cellsOf t = 2)
    (h0 : P.underlying f0.type = some (.slice es)) (h1 : P.underlying f1.type = some (.slice ep)) (c0 : P.cellsOf f0.type = 1) (c1 : P.cellsOf f1.type = 1) (o0 : f0.offset = 0) (o1 : f1.offset = 1)
    (hes : P.underlying es = some .string) (hesc : P.cellsOf es = 1)
    (he : P.underlying ep = some (.struct #[g0, g1])) (hec : P.cellsOf ep = 2) (q0 : P.underlying g0.type = some (.int .i64)) (q1 : P.underlying g1.type = some .string) (r0 : P.cellsOf g0.type = 1) (r1 : P.cellsOf g1.type = 1) (p0 : g0.offset = 0) (p1 : g1.offset = 1)
    (h : DataW.trod enc P w base spare held fuel t cs = some x) :
    ∃ (va vb : Value) (d : PDisk), cs = [va, vb] ∧ DiskAt w (.agg #[va, vb]) d ∧ (∀ s ∈ d.safe, s.size ≤ maxLen) ∧ (∀ p ∈ d.late, p.2.size ≤ maxLen) := by
  obtain ⟨xs, n, _, _, hl, hx, hf⟩ := DataW.trod_struct ht h
  have e0 := hf 0 f0 rfl
  have e1 := hf 1 f1 rfl
  rw [c0, o0, List.drop_zero] at e0
  rw [c1, o1] at e1
  have hxs : xs.length = 2 := hx
  rw [List.getElem?_eq_getElem (by omega)] at e0 e1
  rw [hc] at hl
  match cs, hl with
  | [v0, v1], _ =>
    simp only [List.drop_succ_cons, List.drop_zero, List.take_succ_cons, List.take_zero] at e0 e1
    obtain ⟨rowsA, hsA, hrA⟩ := open_rows (n := 1) (fun cs => ∃ s : ByteArray, cs = [.string s] ∧ s.size ≤ maxLen) h0 hesc (by decide) (fun m cs y hy => trod_one hes hy) e0
    obtain ⟨rowsB, hsB, hrB⟩ := open_rows (n := 2) (fun cs => ∃ p : Int × ByteArray, cs = [.int .i64 p.1, .string p.2] ∧ p.2.size ≤ maxLen) h1 hec (by decide) (fun m cs y hy => trod_put he hec q0 q1 r0 r1 p0 p1 hy) e1
    obtain ⟨ss, eA, hss⟩ := rows_strs hrA
    obtain ⟨ps, eB, hps⟩ := rows_puts hrB
    rw [eA] at hsA
    rw [eB] at hsB
    have hsA' := hsA
    have hsB' := hsB
    obtain ⟨a, n1, c1', rfl, _⟩ := hsA'
    obtain ⟨b, n2, c2', rfl, _⟩ := hsB'
    exact ⟨_, _, ⟨ss, ps⟩, rfl, ⟨_, _, _, _, _, _, rfl, hsA, hsB⟩, hss, hps⟩
end
end Go.Proofs.Ytiejfnnokfedkaa

/- The exact law of AreaGet: the program keeps its contract. -/
namespace Go.Proofs.Ytiejfnnokfedkaa
open Go.RowKit
set_option maxRecDepth 100000
set_option linter.unusedVariables false

theorem fnExactAreaGet_walk {v : Value} {d : PDisk} {ar at' n : Int} (w0 : World) (h : DiskAt w0 v d) (hs : ∀ s ∈ d.safe, s.size ≤ maxLen) (hp : ∀ p ∈ d.late, p.2.size ≤ maxLen) (k0 : (Lit.int .i64 ar).wf = true) (k1 : (Lit.int .i64 at').wf = true) (k2 : (Lit.int .i64 n).wf = true) :
    Calls Try.prog 6 #[v, .int .i64 ar, .int .i64 at', .int .i64 n] w0 fun e w' => e = .returned (.bool true) ∧ Below w0.heap.size w0 w' :=
  fnExactAreaGet_of (fun w v d ar at' n hd hf x1 x2 x3 => iareaGet_any w v d ar at' n hd hf x1 x2 x3) w0 h hs hp k0 k1 k2
end Go.Proofs.Ytiejfnnokfedkaa
