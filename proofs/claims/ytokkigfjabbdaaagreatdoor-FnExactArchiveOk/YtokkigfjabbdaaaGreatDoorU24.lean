/- The program's copies of rows (written by mk/icopyr.py). No condition. -/
import Derived.Test.YtokkigfjabbdaaaGreatDoorU23
import Derived.Test.YtokkigfjabbdaaaGreatDoorU16
namespace Go.Proofs.YtokkigfjabbdaaaGreatDoor
open Go.RowKit
set_option maxRecDepth 100000
set_option linter.unusedVariables false

/-- A row of the call's own, or one that is empty and has no room. -/
def OwnZ (B e size : Nat) (w : World) (v : Value) (n : Nat) (xs : List Value) : Prop := w.ownsRow B e size v n xs ∨ (n = 0 ∧ xs = [] ∧ ∃ a, v = .slice (some a) 0 0)

/-- 's = append(s[:0:0], u...)'. -/
theorem wpList_app0 {P : Program} (w : World) {ops : Array Oper} {rest : List Oper} {o : Oper} {a : Act} {Q : Exit → Act → World → Prop} (hgd : o.guard = none)
    (s x : Operand) (t : TypeId) (ho : o.op = Op.call { callee := Callee.builtin Builtin.append, args := #[s, x], argTypes := #[t, t] }) (B : Nat) (e : TypeId) (i : TypeInfo)
    (z : Value) (size bytes : Nat) (ht : P.underlying t = some (TypeDesc.slice e)) (hi : P.info? e = some i) (hz : i.zero = some z) (hsize : i.size = size) (hby : i.bytes = bytes)
    (hzs : z.cells.size = size) (hpos : 0 < size) (ad bd : Addr) (m cap : Nat) (ys : List Value) (hs : a.eval s = .slice (some ad) 0 0) (hx : a.eval x = .slice (some bd) m cap) (hu : Sv size w (.slice (some bd) m cap) ys)
    (hb : m * bytes ≤ 140737488355328) (h63 : m ≤ maxLen) (hbase : B ≤ w.heap.size)
    (h : ∀ (v' : Value) (w' : World), OwnZ B e size w' v' m ys → Below w.heap.size w w' → wpList P ops Q rest (a.put o.dst v') w') :
    wpList P ops Q (o :: rest) a w := by
  subst hsize
  subst hby
  obtain ⟨ao, len, cap', ev, hl, hlc, hcm, hnone, hc⟩ := hu
  cases ev
  have hnews : ∀ j y, ys[j]? = some y → w.cell? (bd.add j) = some y := by
    intro j y hy
    have hj : j < ys.length := by
      by_cases hj : j < ys.length
      · exact hj
      · rw [List.getElem?_eq_none (Nat.le_of_not_lt hj)] at hy; cases hy
    obtain ⟨b, off, e, c⟩ := hc j hj
    cases e
    have e2 : ys.getD j undef = y := by rw [List.getD_eq_getElem?_getD, hy]; rfl
    rw [e2] at c
    rw [← c]
    by_cases h0 : j = 0
    · subst h0; simp [Addr.add]
    · simp [Addr.add, h0]
  refine wpList_plain hgd fun K hK => ?_
  by_cases hm : m = 0
  · subst hm
    have hy : ys = [] := List.length_eq_zero_iff.mp (by omega)
    subst hy
    have hr : (Builtin.append_ #[t, t] o.type #[.slice (some ad) 0 0, .slice (some bd) 0 cap]).run P w = .ok (.slice (some ad) 0 0) w := by
      simp [Builtin.append_, run_underlying ht, sizeOf, typeInfo, hi, Builtin.lenOf, Builtin.firstCells, loadCells, loadCellsFrom, storeCells]
    unfold Oper.wp execOp
    simp only [ho, resolve, invoke, builtin, Sem.run_bind, Sem.run_pure, Result.andThen_ok, List.map_toArray, List.map_cons, List.map_nil, hs, hx, hr]
    exact hK _ _ (h _ _ (.inr ⟨rfl, rfl, ad, rfl⟩) (Below.refl _ _))
  · have hr := run_append_grow (P := P) w t o.type e i z ht hi hz ad 0 0 [] (by simp) (fun j y hy => by simp at hy) bd m cap ys hl hnews (by omega) (by simp only [maxLen] at h63; omega) (growslice_fits (by omega) (by rw [Nat.zero_add]; exact hb))
    simp only [Nat.zero_add, Array.empty_append] at hr
    unfold Oper.wp execOp
    simp only [ho, resolve, invoke, builtin, Sem.run_bind, Sem.run_pure, Result.andThen_ok, List.map_toArray, List.map_cons, List.map_nil, hs, hx, hr]
    have hge := grownCap_ge w m 0 e
    have hgm := grownCap_le_maxLen w m 0 e h63
    refine hK _ _ (h _ _ (.inl ⟨hl, .inr ⟨w.heap.size, _, _, rfl, hbase, heap_alloc_new w.drew _, hge, hgm, ?_, ?_⟩⟩) ?_)
    · simp only [Array.size_append, List.size_toArray, size_zeroCells, hzs, hl]
      rw [← Nat.add_mul]
      congr 1
      omega
    · simp only [Array.toList_append]
      rw [← hl]
      exact List.take_left
    · exact ⟨rfl, rfl, rfl, by simp, fun k hk => (Below.heap_alloc w.drew _ k hk)⟩

/-- What an append onto a row turns: that row's block, if it has one, and it is of the row's type. -/
structure GrewZ (B e : Nat) (w w' : World) (row : Option Nat) : Prop where
  grown : w.grownBy w' row
  kind : ∀ r, row = some r → B ≤ r ∧ ∃ cs fr, w.heap[r]? = some (.cells cs e fr)
theorem GrewZ.keep {B e : Nat} {w w' : World} {row : Option Nat} (h : GrewZ B e w w' row) {j : Nat} {cs : Array Value} {t : TypeId} {fr : Nat × Nat} (hj : w.heap[j]? = some (.cells cs t fr)) (ht : t ≠ e) : w'.heap[j]? = some (.cells cs t fr) := by
  refine (h.grown.block j (lt_of_block hj) (fun er => ?_)).trans hj
  obtain ⟨_, c2, f2, h2⟩ := h.kind j er.symm
  rw [hj] at h2
  cases h2
  exact ht rfl
theorem GrewZ.row {B e B' e' size n : Nat} {w w' : World} {row : Option Nat} {v : Value} {xs : List Value} (h : GrewZ B e w w' row) (o : w.ownsRow B' e' size v n xs) (ht : e ≠ e') : w'.ownsRow B' e' size v n xs :=
  rk_type o h.grown (fun r er => by obtain ⟨_, c, f, hh⟩ := h.kind r er; exact ⟨c, e, f, hh, ht⟩)
theorem GrewZ.rowZ {B e B' e' size n : Nat} {w w' : World} {row : Option Nat} {v : Value} {xs : List Value} (h : GrewZ B e w w' row) (o : OwnZ B' e' size w v n xs) (ht : e ≠ e') : OwnZ B' e' size w' v n xs := by
  rcases o with o | o
  · exact .inl (h.row o ht)
  · exact .inr o
theorem GrewZ.below {B e : Nat} {w0 w w' : World} {row : Option Nat} (h : GrewZ B e w w' row) (b : Below B w0 w) (hB : B ≤ w.heap.size) : Below B w0 w' :=
  b.grown h.grown hB (fun r er => (h.kind r er).1)
/-- 'v = append(v, u...)', v as a copy of a row is, u some. -/
theorem wpList_appZ {P : Program} (w : World) {ops : Array Oper} {rest : List Oper} {o : Oper} {a : Act} {Q : Exit → Act → World → Prop} (hgd : o.guard = none)
    (s x : Operand) (t : TypeId) (ho : o.op = Op.call { callee := Callee.builtin Builtin.append, args := #[s, x], argTypes := #[t, t] }) (B : Nat) (e : TypeId) (i : TypeInfo)
    (z : Value) (size bytes : Nat) (ht : P.underlying t = some (TypeDesc.slice e)) (hi : P.info? e = some i) (hz : i.zero = some z) (hsize : i.size = size) (hby : i.bytes = bytes)
    (hzs : z.cells.size = size) (hpos : 0 < size) (v : Value) (n : Nat) (xs : List Value) (bd : Addr) (m cap : Nat) (ys : List Value) (hs : a.eval s = v) (hx : a.eval x = .slice (some bd) m cap) (hown : OwnZ B e size w v n xs) (hu : Sv size w (.slice (some bd) m cap) ys)
    (hm : 0 < m) (h1 : ∀ y ∈ ys, y.oneCell' = true) (hb : (n + m) * bytes ≤ 140737488355328) (h63 : n + m ≤ maxLen) (hbase : B ≤ w.heap.size)
    (h : ∀ (v' : Value) (w' : World) (row : Option Nat), w'.ownsRow B e size v' (n + m) (xs ++ ys) → GrewZ B e w w' row → wpList P ops Q rest (a.put o.dst v') w') :
    wpList P ops Q (o :: rest) a w := by
  have hl : ys.length = m * size := by
    obtain ⟨_, _, _, ev, hl, _⟩ := hu
    cases ev; exact hl
  rcases hown with hown | ⟨rfl, rfl, ad, rfl⟩
  · exact wpList_appV w hgd s x t ho B e i z size bytes ht hi hz hsize hby hzs hpos v _ n m xs ys hs hx hown hu hl h1 hb h63 hbase fun v' w' o' g' => h v' w' _ o' ⟨g', fun r er => ⟨(World.ownsRow.lt hown r er).1, rk_kind hown er⟩⟩
  · refine wpList_app0 w hgd s x t ho B e i z size bytes ht hi hz hsize hby hzs hpos ad bd m cap ys hs hx hu (by simpa using hb) (by simpa using h63) hbase fun v' w' o' b' => ?_
    rcases o' with o' | ⟨h0, _⟩
    · exact h v' w' none (by simpa using o') ⟨⟨b'.os, b'.tape, b'.output, b'.size, fun k hk _ => b'.block k hk⟩, fun r er => by cases er⟩
    · omega
theorem Tryz.infoSec : (Tryz.prog.info? 164).map (fun i => (i.zero, i.size, i.bytes)) = some (some (.agg (Array.replicate 64 (.int .u8 0))), 64, 64) := by kernel_rfl

set_option maxRecDepth 100000 in
theorem icopyS_any {w : World} {v : Value} {xs : List Value} {m : Nat} (h : Sv 1 w v xs) (hm : xs.length = m * 1) (hn : m ≤ 1048576) :
    Calls Tryz.prog 83 #[v] w fun e w' => ∃ v', e = .returned v' ∧ OwnZ w.heap.size 9 1 w' v' m xs ∧ Below w.heap.size w w' := by
  obtain ⟨i0, hi, hz0, hz1, hz2⟩ := info_parts Tryz.infoStr
  have H := (show Hid (Sv 1 w v xs) from h)
  obtain ⟨a, len, cap, rfl, hl, hlc, hcm, hnone, hc⟩ := h
  have hlm : len = m := by omega
  subst hlm
  clear hl hc
  cases a with
  | none =>
    have hc0 := hnone rfl
    subst hc0
    have hl0 : len = 0 := by omega
    subst hl0
    have HX : Hid (xs = []) := (show xs = [] from List.length_eq_zero_iff.mp (by omega))
    clear hm hnone
    go_enter Tryz.func83, Tryz.ntmps83
    go_wp2
    go_ret
    rw [HX.out]
    exact ⟨_, rfl, .inl (World.ownsRow_nil _ _ _ _), Below.refl _ _⟩
  | some a =>
    go_enter Tryz.func83, Tryz.ntmps83
    go_wp2_with (at_builtin
                 refine wpList_app0 _ rfl (.tmp 4) (.tmp 5) 22 rfl w.heap.size 9 i0 _ 1 16 Tryz.underlying22 hi hz0 hz1 hz2 (by decide) (by decide) a a len cap xs rfl rfl H.out (by omega) (by unfold maxLen; omega) (Nat.le_refl _) ?_
                 intro v2 w2 o2 b2)
    go_ret
    exact ⟨_, rfl, o2, b2⟩

set_option maxRecDepth 100000 in
theorem icopyP_any {w : World} {v : Value} {xs : List Value} {m : Nat} (h : Sv 2 w v xs) (hm : xs.length = m * 2) (hn : m ≤ 1048576) :
    Calls Tryz.prog 84 #[v] w fun e w' => ∃ v', e = .returned v' ∧ OwnZ w.heap.size 88 2 w' v' m xs ∧ Below w.heap.size w w' := by
  obtain ⟨i0, hi, hz0, hz1, hz2⟩ := info_parts Tryz.infoPut
  have H := (show Hid (Sv 2 w v xs) from h)
  obtain ⟨a, len, cap, rfl, hl, hlc, hcm, hnone, hc⟩ := h
  have hlm : len = m := by omega
  subst hlm
  clear hl hc
  cases a with
  | none =>
    have hc0 := hnone rfl
    subst hc0
    have hl0 : len = 0 := by omega
    subst hl0
    have HX : Hid (xs = []) := (show xs = [] from List.length_eq_zero_iff.mp (by omega))
    clear hm hnone
    go_enter Tryz.func84, Tryz.ntmps84
    go_wp2
    go_ret
    rw [HX.out]
    exact ⟨_, rfl, .inl (World.ownsRow_nil _ _ _ _), Below.refl _ _⟩
  | some a =>
    go_enter Tryz.func84, Tryz.ntmps84
    go_wp2_with (at_builtin
                 refine wpList_app0 _ rfl (.tmp 4) (.tmp 5) 33 rfl w.heap.size 88 i0 _ 2 24 Tryz.underlying33 hi hz0 hz1 hz2 (by decide) (by decide) a a len cap xs rfl rfl H.out (by omega) (by unfold maxLen; omega) (Nat.le_refl _) ?_
                 intro v2 w2 o2 b2)
    go_ret
    exact ⟨_, rfl, o2, b2⟩

end Go.Proofs.YtokkigfjabbdaaaGreatDoor
