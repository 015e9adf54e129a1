/- errors.Is of the program's one sentinel: of itself, and of none. No condition. -/
import Derived.Test.YtokkigfjabbdaaaGreatDoorRows
import Derived.Test.YtokkigfjabbdaaaGreatDoorU0
import Derived.LaidEql
import Derived.Stop.Asserts
import Derived.RowKitTokens
import Derived.Test.YtokkigfjabbdaaaGreatDoorU30
import Derived.Test.YtokkigfjabbdaaaGreatDoorU31
import Derived.Test.YtokkigfjabbdaaaGreatDoorU23
import Derived.Test.YtokkigfjabbdaaaGreatDoorU29
import Derived.Test.YtokkigfjabbdaaaGreatDoorU18
import Derived.Test.YtokkigfjabbdaaaGreatDoorU25
import Derived.Test.YtokkigfjabbdaaaGreatDoorU19
namespace Go.Proofs.YtokkigfjabbdaaaGreatDoor
open Go.RowKit Go.Extern.Stop Go.Stop Go.Extern
set_option maxRecDepth 100000
set_option linter.unusedVariables false

theorem isTypeOf (v : Value) (w : World) : (Extern.ReflectliteType.typeOf #[.iface 225 v]).run Tryz.prog w = .ok (.iface 189 (.agg #[.pointer (some ⟨1, 225, none⟩)])) w := by kernel_rfl
/-- What the model answers to Comparable. -/
def cmpFn : Array Value → Sem Value := Extern.ReflectliteType.method fun t => do Extern.Rtype.noPackHeld "Comparable" t; pure (.bool (← typeInfo t).comparable)
theorem isComparable (w : World) : (cmpFn #[.agg #[.pointer (some ⟨1, 225, none⟩)]]).run Tryz.prog w = .ok (.bool true) w := by kernel_rfl
theorem isComp : (Tryz.prog.info? 225).map (·.comparable) = some true := by kernel_rfl
theorem isSize : (Tryz.prog.info? 251).map (·.size) = some 1 := by kernel_rfl
theorem isMethod (v : Value) (w : World) : (Go.method 362 189 v "Comparable").run Tryz.prog w = .ok (190, v) w := by kernel_rfl

/-- errors.Is(x, x). -/
theorem is_same (a : Addr) (w : World) :
    Calls Tryz.prog 98 #[.iface 225 (.pointer (some a)), .iface 225 (.pointer (some a))] w fun e w' => e = .returned (.bool true) ∧ w' = w := by
  obtain ⟨i, hi, hcmp⟩ := Option.map_eq_some_iff.1 isComp
  obtain ⟨j, hj, hjs⟩ := Option.map_eq_some_iff.1 isSize
  have h8 := @run_callFunc_extern Tryz.prog 123 _ Extern.ReflectliteType.typeOf Tryz.func123 (by kernel_rfl) (by kernel_rfl) (by kernel_rfl) (by kernel_rfl)
  have h32 := @run_callFunc_extern Tryz.prog 190 _ cmpFn Tryz.func190 (by kernel_rfl) (by kernel_rfl) (by kernel_rfl) (by kernel_rfl)
  have tT := isTypeOf
  have cT := isComparable
  have mR := isMethod
  have heq := run_eql_iface_ptr_same (P := Tryz.prog) w a Tryz.underlying141 Tryz.underlying225 hi hcmp hj
  go_enter Tryz.func98, Tryz.ntmps98
  go_wp2
  refine wp_loop_rounds 1 ?_
  rw [rounds_succ]
  go_wp2
  go_ret
  exact ⟨rfl, rfl⟩

/-- errors.Is(nil, x). -/
theorem is_nil (b : Addr) (w : World) :
    Calls Tryz.prog 98 #[.nilIface, .iface 225 (.pointer (some b))] w fun e w' => e = .returned (.bool false) ∧ w' = w := by
  have hn := run_eql_iface_nil_left (P := Tryz.prog) w 225 (.pointer (some b)) Tryz.underlying141
  go_enter Tryz.func98, Tryz.ntmps98
  go_wp2
  go_ret
  exact ⟨rfl, rfl⟩
end Go.Proofs.YtokkigfjabbdaaaGreatDoor

/- The program's headIn: the head of a sector, and an error where there is none. -/
namespace Go.Proofs.YtokkigfjabbdaaaGreatDoor
open Go.RowKit
set_option maxRecDepth 100000
set_option linter.unusedVariables false

/-- Three numbers, one behind the other. -/
def read3 (xs : List Int) : Option PHead :=
  match rdI xs 0 with
  | none => none
  | some (a, n) => match rdI xs (0 + (n : Int)) with
    | none => none
    | some (b, m) => match rdI xs (0 + (n : Int) + (m : Int)) with
      | none => none
      | some (c, _) => some ⟨a, b, c⟩
theorem read3_1 {xs : List Int} (h : rdI xs 0 = none) : read3 xs = none := by simp [read3, h]
theorem read3_2 {xs : List Int} {a : Int} {n : Nat} (h : rdI xs 0 = some (a, n)) (h2 : rdI xs (0 + (n : Int)) = none) : read3 xs = none := by
  unfold read3; rw [h]; simp only; rw [h2]
theorem read3_3 {xs : List Int} {a b : Int} {n m : Nat} (h : rdI xs 0 = some (a, n)) (h2 : rdI xs (0 + (n : Int)) = some (b, m)) (h3 : rdI xs (0 + (n : Int) + (m : Int)) = none) : read3 xs = none := by
  unfold read3; rw [h]; simp only; rw [h2]; simp only; rw [h3]
theorem read3_ok {xs : List Int} {a b c : Int} {n m k : Nat} (h : rdI xs 0 = some (a, n)) (h2 : rdI xs (0 + (n : Int)) = some (b, m)) (h3 : rdI xs (0 + (n : Int) + (m : Int)) = some (c, k)) : read3 xs = some ⟨a, b, c⟩ := by
  unfold read3; rw [h]; simp only; rw [h2]; simp only; rw [h3]

theorem Only.setK {g x : Nat} {w w' : World} (h : Only g x w w') (k : Nat) (u : Value) : Only g x w (w'.setCell ⟨x, k, none⟩ u) :=
  ⟨by simp [World.setCell]; exact h.1, fun j hj h1 h2 => (Below.heap_setCell _ _ _ j (fun e => h2 (by rw [e]))).trans (h.2 j hj h1 h2)⟩
theorem closeEnd {w0 w w4 : World} {g r x : Nat} {xs : List Int} {y z u : Int} (hy : read3 xs = some ⟨y, z, u⟩) (hG : w.grownBy w4 (some g)) (hR : Box w4 r 166 (.pointer (some ⟨g, 0, none⟩))) (hX : w4.heap[x]? = some (.cells #[.int .i64 0, .int .i64 0, .int .i64 0] 36 (0, 0))) (hB : Below w0.heap.size w0 w4) (h3 : r ≠ x) (h4 : w0.heap.size ≤ x)
    (W : World) (hW : W = ((w4.setCell ⟨x, 0, none⟩ (.int .i64 y)).setCell ⟨x, 1, none⟩ (.int .i64 z)).setCell ⟨x, 2, none⟩ (.int .i64 u)) :
    ((∃ q, read3 xs = some q ∧ Ending.returned (.tuple #[]) = .returned (.tuple #[]) ∧ W.heap[x]? = some (.cells #[.int .i64 q.no, .int .i64 q.area, .int .i64 q.en] 36 (0, 0)) ∧ Box W r 166 (.pointer (some ⟨g, 0, none⟩))) ∨ (read3 xs = none ∧ Bad (Ending.returned (.tuple #[])))) ∧ Only g x w W ∧ Below w0.heap.size w0 W := by
  subst hW
  have s1 := rk_at (k := 0) (u := .int .i64 y) hX
  have s2 := rk_at (k := 1) (u := .int .i64 z) s1
  have s3 := rk_at (k := 2) (u := .int .i64 u) s2
  have ne : ∀ (W : World) (k : Nat) (v : Value), Box W r 166 (.pointer (some ⟨g, 0, none⟩)) → Box (W.setCell ⟨x, k, none⟩ v) r 166 (.pointer (some ⟨g, 0, none⟩)) := fun W k v h => h.grown (grown_setCell W x k v) (fun e => h3 (by injection e with e; exact e.symm))
  exact ⟨.inl ⟨_, hy, rfl, s3, ne _ _ _ (ne _ _ _ (ne _ _ _ hR))⟩, (((only_grown hG).setK 0 _).setK 1 _).setK 2 _, ((hB.setCell (p := ⟨x, 0, none⟩) h4 _).setCell (p := ⟨x, 1, none⟩) h4 _).setCell (p := ⟨x, 2, none⟩) h4 _⟩

set_option maxHeartbeats 4000000 in
set_option maxRecDepth 100000 in
theorem closeHead_any {w0 : World} {g r x : Nat} {v : Value} {xs : List Int} {w : World} (h : Rdr w0 g v xs 0 w) (hb : ∀ x ∈ xs, 0 ≤ x ∧ x ≤ 255) (hr : Box w r 166 (.pointer (some ⟨g, 0, none⟩))) (hx : w.heap[x]? = some (.cells #[.int .i64 0, .int .i64 0, .int .i64 0] 36 (0, 0)))
    (h1 : r ≠ g) (h2 : x ≠ g) (h3 : r ≠ x) (h4 : w0.heap.size ≤ x) :
    Calls Tryz.prog 120 #[.pointer (some ⟨r, 0, none⟩), .pointer (some ⟨x, 0, none⟩)] w fun e w' =>
      ((∃ q, read3 xs = some q ∧ e = .returned (.tuple #[]) ∧ w'.heap[x]? = some (.cells #[.int .i64 q.no, .int .i64 q.area, .int .i64 q.en] 36 (0, 0)) ∧ Box w' r 166 (.pointer (some ⟨g, 0, none⟩))) ∨ (read3 xs = none ∧ Bad e)) ∧ Only g x w w' ∧ Below w0.heap.size w0 w' := by
  obtain ⟨cr, _⟩ := hr.cell
  have H := (show Hid (Rdr w0 g v xs 0 w) from h)
  have HB := (show Hid _ from hb)
  have HX := (show Hid _ from hx)
  have HR := (show Hid (Box w r 166 (.pointer (some ⟨g, 0, none⟩))) from hr)
  clear h hb hx hr
  go_enter Tryz.func120, Tryz.ntmps120
  go_wp2_with fail
  have KD := (show Hid (Below w.heap.size w w.drew) from below_drewN 1)
  have HS0 := (show Hid (w.drew.cell? ⟨r, 0, none⟩ = some (.pointer (some ⟨g, 0, none⟩))) from cr)
  have GD := (show Hid (w.grownBy w.drew (some g)) from grown_drewN w 1 (some g))
  have N1 := (show Hid (Calls Tryz.prog 121 #[.pointer (some ⟨g, 0, none⟩)] w.drew _) from num_any (H.out.below KD.out) HB.out)
  have X0 := (show Hid (w.drew.heap[x]? = some (.cells #[.int .i64 0, .int .i64 0, .int .i64 0] 36 (0, 0))) from HX.out)
  have NG := (show Hid (g ≠ r ∧ g ≠ x ∧ r ≠ x) from ⟨fun e => h1 e.symm, fun e => h2 e.symm, h3⟩)
  go_region_with (first
      | (go_at_call 121
         with_reducible refine Calls.mono N1.out ?_
         rintro e w2 ⟨⟨y, n, hy, rfl, r2⟩ | ⟨hy, ⟨t, s, rfl⟩, j, r2⟩, g2⟩
         rotate_left
         · exact ⟨rfl, .inr ⟨read3_1 hy, _, _, rfl⟩, only_grown (grown_trans GD.out g2), r2.2.2.1⟩
         have G2 := (show Hid (w.grownBy w2 (some g)) from grown_trans GD.out g2)
         have HR2 := (show Hid (Box w2 r 166 (.pointer (some ⟨g, 0, none⟩))) from HR.out.grown G2.out (fun e => NG.out.1 (by injection e)))
         have cr2 := HR2.out.cell.1
         have Y1 := (show Hid (rdI xs 0 = some (y, n)) from hy)
         have N2 := (show Hid (Calls Tryz.prog 121 #[.pointer (some ⟨g, 0, none⟩)] w2 _) from num_any r2 HB.out)
         clear hy r2 g2)
      | (go_at_call 121
         with_reducible refine Calls.mono N2.out ?_
         rintro e w3 ⟨⟨z, m, hy, rfl, r2⟩ | ⟨hy, ⟨t, s, rfl⟩, j, r2⟩, g2⟩
         rotate_left
         · exact ⟨rfl, .inr ⟨read3_2 Y1.out hy, _, _, rfl⟩, only_grown (grown_trans G2.out g2), r2.2.2.1⟩
         have G3 := (show Hid (w.grownBy w3 (some g)) from grown_trans G2.out g2)
         have HR3 := (show Hid (Box w3 r 166 (.pointer (some ⟨g, 0, none⟩))) from HR.out.grown G3.out (fun e => NG.out.1 (by injection e)))
         have cr3 := HR3.out.cell.1
         have Y2 := (show Hid (rdI xs (0 + (n : Int)) = some (z, m)) from hy)
         have N3 := (show Hid (Calls Tryz.prog 121 #[.pointer (some ⟨g, 0, none⟩)] w3 _) from num_any r2 HB.out)
         clear hy r2 g2)
      | (go_at_call 121
         with_reducible refine Calls.mono N3.out ?_
         rintro e w4 ⟨⟨u, k, hy, rfl, r2⟩ | ⟨hy, ⟨t, s, rfl⟩, j, r2⟩, g2⟩
         rotate_left
         · exact ⟨rfl, .inr ⟨read3_3 Y1.out Y2.out hy, _, _, rfl⟩, only_grown (grown_trans G3.out g2), r2.2.2.1⟩
         have G4 := (show Hid (w.grownBy w4 (some g)) from grown_trans G3.out g2)
         have HR4 := (show Hid (Box w4 r 166 (.pointer (some ⟨g, 0, none⟩))) from HR.out.grown G4.out (fun e => NG.out.1 (by injection e)))
         have cr4 := HR4.out.cell.1
         have X4 := (show Hid (w4.heap[x]? = some (.cells #[.int .i64 0, .int .i64 0, .int .i64 0] 36 (0, 0))) from (G4.out.block x (lt_of_block HX.out) (fun e => NG.out.2.1 (by injection e with e; exact e.symm))).trans HX.out)
         obtain ⟨_, _, _, f1, f2, f3⟩ := rk_three X4.out
         have Y3 := (show Hid (read3 xs = some ⟨y, z, u⟩) from read3_ok Y1.out Y2.out hy)
         have B4 := (show Hid (Below w0.heap.size w0 w4) from r2.2.2.1)
         clear hy r2 g2))
  all_goals
    go_end0
    exact closeEnd Y3.out G4.out HR4.out X4.out B4.out NG.out.2.2 h4 _ rfl
end Go.Proofs.YtokkigfjabbdaaaGreatDoor

/- The program's SectorOf. No condition. -/
namespace Go.Proofs.YtokkigfjabbdaaaGreatDoor
open Go.RowKit
set_option maxRecDepth 100000
set_option linter.unusedVariables false

theorem sectorOf1_any (g : Nat) (x y : Int) (s : ByteArray) (w : World) (hg : w.cell? ⟨g, 0, none⟩ = some (.int .i64 y)) (hlt : g < w.heap.size) :
    Calls Tryz.prog 117 #[.agg #[.int .i64 x, .string s], .pointer (some ⟨g, 0, none⟩)] w fun e w' => e = .returned (.bool (decide (x = y))) ∧ Below w.heap.size w w' := by
  have hb : Below w.heap.size w (w.alloc (.cells #[.int .i64 x, .string s] 88)) := (Below.refl _ _).alloc (Nat.le_refl _) _
  have hg2 := (hb.cell (p := ⟨g, 0, none⟩) hlt).trans hg
  by_cases hm : x = y
  · rw [decide_eq_true hm]
    subst hm
    go_enter Tryz.func117, Tryz.ntmps117
    go_wp2
    go_ret
    exact ⟨rfl, hb⟩
  · rw [decide_eq_false hm]
    have hn : (x == y) = false := by simp [hm]
    go_enter Tryz.func117, Tryz.ntmps117
    go_wp2
    go_ret
    exact ⟨rfl, hb⟩

set_option maxHeartbeats 2000000 in
set_option maxRecDepth 100000 in
theorem lastPut_any {v : Value} {ps : List (Int × ByteArray)} {w : World} (h : Sv 2 w v (putCells ps)) (g : Nat) (y : Int) (hg : w.cell? ⟨g, 0, none⟩ = some (.int .i64 y)) (hgl : g < w.heap.size) (hn : ps.length ≤ 1048576) :
    Calls Tryz.prog 116 #[v, .func (.func 117) #[] #[.pointer (some ⟨g, 0, none⟩)]] w fun e w' => ∃ r : Int, e = .returned (.int .i64 r) ∧ ((r = -1 ∧ putAt y ps = none) ∨ (∃ k, ∃ hk : k < ps.length, r = (k : Int) ∧ putAt y ps = some ps[k].2)) ∧ Below w.heap.size w w' := by
  obtain ⟨a2, c2, e2, _, _, hp⟩ := h.put
  subst e2
  have HP := (show Hid (∀ k (hk : k < ps.length), ∃ b off, a2 = some ⟨b, off, none⟩ ∧ b < w.heap.size ∧ w.cell? ⟨b, off + k * 2, none⟩ = some (.int .i64 ps[k].1) ∧ w.cell? ⟨b, off + k * 2 + 1, none⟩ = some (.string ps[k].2)) from hp)
  have HG := (show Hid (w.cell? ⟨g, 0, none⟩ = some (.int .i64 y)) from hg)
  clear h hp hg
  go_enter Tryz.func116, Tryz.ntmps116
  go_wp2
  go_loopw [5] (fun i wr => ∃ k : Nat, k ≤ ps.length ∧ i = .int .i64 ((k : Int) - 1) ∧ putAt y ps = putAt y (ps.take k) ∧ Below w.heap.size w wr) (fun i _ => (intOf i + 1).toNat)
  case atStart => exact ⟨ps.length, Nat.le_refl _, by go_num, by rw [List.take_length], Below.refl _ _⟩
  case round =>
    obtain ⟨k, hk, rfl, he, bel⟩ := hrel
    have HE := (show Hid (putAt y ps = putAt y (ps.take k)) from he)
    clear he
    cases k with
    | zero =>
      have HR : Hid (putAt y ps = none) := (show putAt y ps = none by rw [HE.out]; simp [putAt])
      have e0 : ((0 : Nat) : Int) - 1 = -1 := by omega
      rw [e0]
      clear HE e0
      go_wp2
      go_ret
      exact ⟨-1, rfl, .inl ⟨rfl, HR.out⟩, bel⟩
    | succ k =>
      have hk' : k < ps.length := by omega
      obtain ⟨b2, o2, rfl, hb2, c3, c4⟩ := HP.out k hk'
      have c3' := (bel.cell (p := ⟨b2, o2 + k * 2, none⟩) hb2).trans c3
      have c4' := (bel.cell (p := ⟨b2, o2 + k * 2 + 1, none⟩) hb2).trans c4
      have HT := (show Hid (putAt y ps = if ps[k].1 = y then some ps[k].2 else putAt y (ps.take k)) from HE.out.trans (putAt_take hk'))
      have ek : ((k + 1 : Nat) : Int) - 1 = (k : Int) := by omega
      rw [ek]
      have KF := (show Hid (ps[k].1 = y → ∃ k', ∃ hk : k' < ps.length, (k : Int) = (k' : Int) ∧ putAt y ps = some ps[k'].2) from fun e => ⟨k, hk', rfl, by rw [HT.out, if_pos e]⟩)
      have KN := (show Hid (ps[k].1 ≠ y → putAt y ps = putAt y (ps.take k)) from fun e => by rw [HT.out, if_neg e])
      obtain ⟨z, hz⟩ : ∃ z, z = ps[k] := ⟨_, rfl⟩
      rw [← hz] at c3' c4' KF KN
      obtain ⟨za, zs⟩ := z
      simp only at c3' c4' KF KN
      have CC := (show Hid _ from sectorOf1_any g za y zs wr ((bel.cell (p := ⟨g, 0, none⟩) hgl).trans HG.out) (Nat.lt_of_lt_of_le hgl bel.size))
      clear hz c3 c4 HT HE ek
      go_wp2_with fail
      go_at_call 117
      refine Calls.mono CC.out ?_
      rintro e w2 ⟨rfl, b2⟩
      replace b2 := bel.trans (b2.mono bel.size)
      clear CC c3' c4'
      by_cases e : za = y
      · have KF' := (show Hid _ from KF.out e)
        have hd : decide (za = y) = true := decide_eq_true e
        rw [hd]
        clear KF KN e hd
        go_wp2
        go_ret
        exact ⟨(k : Int), rfl, .inr KF'.out, b2⟩
      · have KN' := (show Hid _ from KN.out e)
        have hd : decide (za = y) = false := decide_eq_false e
        rw [hd]
        clear KF KN e hd
        go_wp2
        go_roundw
        case rel => exact ⟨k, by omega, by go_num, KN'.out, b2⟩
        case measure => simp [intOf]

set_option maxHeartbeats 2000000 in
set_option maxRecDepth 100000 in
theorem isectorOf_any {w : World} {v : Value} {d : PDisk} (h : DiskAt w v d) (hf : DiskFit d) (x : Int) :
    Calls Tryz.prog 96 #[v, .int .i64 x] w fun e w' => e = .returned (.tuple #[.string (sectorDk d x).1, .bool (sectorDk d x).2]) ∧ Below w.heap.size w w' := by
  have HD := (show Hid (DiskAt w v d) from h)
  have HF := (show Hid (DiskFit d) from hf)
  have f1 := hf.sl
  have f2 := hf.ll
  obtain ⟨sa, sn, sc, la, ln, lc, rfl, h1, h2⟩ := h
  obtain ⟨_, _, e1, _, _, _⟩ := h1.str
  cases e1
  obtain ⟨_, _, e2, _, _, _⟩ := h2.put
  cases e2
  have H1 := (show Hid (Sv 1 w (.slice sa d.safe.length sc) (strCells d.safe)) from h1)
  have H2 := (show Hid (Sv 2 w (.slice la d.late.length lc) (putCells d.late)) from h2)
  clear h1 h2 hf
  obtain ⟨w1, hw1⟩ : ∃ y, y = (w.alloc (.cells #[.slice sa d.safe.length sc, .slice la d.late.length lc] 35)).alloc (.cells #[.int .i64 x] 3) := ⟨_, rfl⟩
  have b1 : Below w.heap.size w w1 := by rw [hw1]; exact ((Below.refl _ _).alloc (Nat.le_refl _) _).alloc (by simp) _
  have x1 : w1.heap[w.heap.size]? = some (.cells #[.slice sa d.safe.length sc, .slice la d.late.length lc] 35 (0, 0)) := by rw [hw1, Below.heap_alloc _ _ _ (by simp)]; exact World.alloc_heap_new _ _
  have x2 : w1.heap[w.heap.size + 1]? = some (.cells #[.int .i64 x] 3 (0, 0)) := by
    rw [hw1]
    have := World.alloc_heap_new (w.alloc (.cells #[.slice sa d.safe.length sc, .slice la d.late.length lc] 35)) (.cells #[.int .i64 x] 3)
    rwa [World.size_alloc] at this
  have X1 := (show Hid _ from x1)
  have X2 := (show Hid _ from x2)
  have B1 := (show Hid (Below w.heap.size w w1) from b1)
  clear b1 x1 x2
  go_enter Tryz.func96, Tryz.ntmps96
  go_wp2_with fail
  go_at_call 64
  rw [← hw1]
  refine (idiskOk_any (HD.out.below B1.out) HF.out).mono ?_
  rintro e w2 ⟨rfl, b2⟩
  clear hw1
  have B2 := (show Hid (Below w.heap.size w w2) from B1.out.trans (b2.mono B1.out.size))
  have y1 := (b2.block _ (lt_of_block X1.out)).trans X1.out
  have y2 := (b2.block _ (lt_of_block X2.out)).trans X2.out
  obtain ⟨q1, q2, _, _⟩ := rk_two y1
  have r1 : w2.cell? ⟨w.heap.size + 1, 0, none⟩ = some (.int .i64 x) := by simp only [World.cell?, y2]; rfl
  have Y1 := (show Hid _ from y1)
  have Y2 := (show Hid _ from y2)
  clear b2 y1 y2 X1 X2
  cases hb : diskB d
  · have HR : Hid (sectorDk d x = (⟨#[]⟩, false)) := (show sectorDk d x = (⟨#[]⟩, false) by rw [sectorDk, if_pos (.inl hb)])
    clear hb
    go_wp2
    go_ret2
    exact ⟨by rw [HR.out]; rfl, B2.out⟩
  · have HB := (show Hid (diskB d = true) from hb)
    clear hb
    go_wp2_with fail
    go_at_call 95
    refine (ihasSector_any x w2).mono ?_
    rintro e w3 ⟨rfl, e3⟩
    subst e3
    cases hi : inB x 0 129
    · have HR : Hid (sectorDk d x = (⟨#[]⟩, false)) := (show sectorDk d x = (⟨#[]⟩, false) by rw [sectorDk, if_pos (.inr hi)])
      clear hi
      go_wp2
      go_ret2
      exact ⟨by rw [HR.out]; rfl, B2.out⟩
    · have HR : Hid (sectorDk d x = (sectorD d x, true)) := (show sectorDk d x = (sectorD d x, true) by rw [sectorDk, if_neg (by rw [HB.out, hi]; simp)])
      have hx : 0 ≤ x ∧ x < 130 := by simp [inB] at hi; omega
      obtain ⟨m, rfl⟩ := Int.eq_ofNat_of_zero_le hx.1
      have hm : m < d.safe.length := by have := (diskB_len HB.out).1; omega
      clear hi hx
      have CC := (show Hid _ from lastPut_any (H2.out.below B2.out) (w.heap.size + 1) (m : Int) r1 (lt_of_block Y2.out) f2)
      go_wp2_with fail
      go_at_call 116
      refine Calls.mono CC.out ?_
      rintro e w4 ⟨r, rfl, hr, b4⟩
      clear CC
      have B4 := (show Hid (Below w.heap.size w w4) from B2.out.trans (b4.mono B2.out.size))
      have z1 := (b4.block _ (lt_of_block Y1.out)).trans Y1.out
      have z2 := (b4.block _ (lt_of_block Y2.out)).trans Y2.out
      obtain ⟨q1, q2, _, _⟩ := rk_two z1
      have r1 : w4.cell? ⟨w.heap.size + 1, 0, none⟩ = some (.int .i64 (m : Int)) := by simp only [World.cell?, z2]; rfl
      obtain ⟨_, _, e1, _, _, hs⟩ := (H1.out.below B4.out).str
      cases e1
      obtain ⟨_, _, e2, _, _, hp⟩ := (H2.out.below B4.out).put
      cases e2
      have HV : Hid (sectorD d m = (putAt m d.late).getD d.safe[m]) := (show sectorD d m = (putAt m d.late).getD d.safe[m] by simp [sectorD, List.getD_eq_getElem?_getD, hm])
      rcases hr with ⟨rfl, hn⟩ | ⟨k, hk, rfl, hn⟩
      · obtain ⟨b, o, rfl, hb, c⟩ := hs m hm
        have HW : Hid (sectorDk d m = (d.safe[m], true)) := (show sectorDk d m = (d.safe[m], true) by rw [HR.out, HV.out, hn]; rfl)
        obtain ⟨y, hy⟩ : ∃ y, y = d.safe[m] := ⟨_, rfl⟩
        rw [← hy] at c HW
        clear hn HV HR z1 z2 hs hp b4 hy
        go_wp2
        go_ret2
        exact ⟨by rw [HW.out]; rfl, B4.out⟩
      · obtain ⟨b, o, rfl, hb, c, c'⟩ := hp k hk
        have HW : Hid (sectorDk d m = (d.late[k].2, true)) := (show sectorDk d m = (d.late[k].2, true) by rw [HR.out, HV.out, hn]; rfl)
        obtain ⟨y, hy⟩ : ∃ y, y = d.late[k].2 := ⟨_, rfl⟩
        rw [← hy] at c' HW
        clear hn HV HR z1 z2 hs hp b4 hy c
        go_wp2
        go_ret2
        exact ⟨by rw [HW.out]; rfl, B4.out⟩
theorem sectorOfOk_any (w : World) (v : Value) (d : PDisk) (x : Int) (h : DiskAt w v d) (hf : DiskFit d) : Calls Tryz.prog 96 #[v, .int .i64 x] w fun e w' => e = .returned (.tuple #[.string (sectorDk d x).1, .bool (sectorDk d x).2]) ∧ Below w.heap.size w w' := isectorOf_any h hf x
end Go.Proofs.YtokkigfjabbdaaaGreatDoor

/- The program's AreaGet. No condition. -/
namespace Go.Proofs.YtokkigfjabbdaaaGreatDoor
open Go.RowKit
set_option maxRecDepth 100000
set_option linter.unusedVariables false

/-- 'copy(v[o:], s)', s a text of any length. -/
theorem run_copy_strM {P : Program} (w : World) (dT sT ty elem : TypeId) (g o dLen dCap : Nat) (s : ByteArray) (cur : Array Value) (t : TypeId) (m : Nat)
    (hu : P.underlying dT = some (.slice elem)) (hs : (P.info? elem).map (·.size) = some 1) (hg : w.heap[g]? = some (.cells cur t (0, 0))) (hm : m = Nat.min s.size dLen) (hfit : o + m ≤ cur.size) :
    (Builtin.copy_ #[dT, sT] ty #[.slice (some ⟨g, o, none⟩) dLen dCap, .string s]).run P w =
      .ok (goInt m) (w.setRow g (cur.toList.take o ++ (secL s).take m ++ cur.toList.drop (o + m)).toArray) := by
  have hml : m ≤ s.size := by rw [hm]; exact Nat.min_le_left _ _
  have hlen : ((secL s).take m).length = m := by rw [List.length_take, secL_len]; omega
  have hst := run_storeCells_at P g o t ((secL s).take m) 0 cur w hg (by rw [hlen]; simpa using hfit) (fun v hv => secL_one s v (List.mem_of_mem_take hv))
  rw [hlen] at hst
  simp only [Nat.add_zero] at hst
  have htk : List.take m (List.map (fun b : UInt8 => Value.int IntKind.u8 (b.toNat : Int)) s.data.toList) = (secL s).take m := by
    rw [← secL_bytes]; rfl
  cases hq : P.info? elem with
  | none => simp [hq] at hs
  | some i =>
    simp [Builtin.copy_, run_underlying hu, Builtin.lenOf, Builtin.firstCells, sizeOf, typeInfo, hq, ← hm]
    rw [htk, hst]
    simp [Result.andThen]

theorem span_get (d : PDisk) (a at' n : Int) : getOk d a at' n = (diskB d && spanB a at' n) := by
  have : (decide (a = 0) || decide (a = 1)) = inB a 0 1 := by
    by_cases h0 : a = 0
    · subst h0; rfl
    · by_cases h1 : a = 1
      · subst h1; rfl
      · rw [inB_no (by omega)]; simp [h0, h1]
  unfold getOk spanB
  rw [this]; simp [Bool.and_assoc]

/-- What is got in one round. -/
theorem getL_more {d : PDisk} {a : Int} {at' k m : Nat} (h : (at' + k) % 64 + m ≤ 64) (hs : (sectorD d (secOf a ((at' + k) / 64))).size = 64) :
    getL d a at' (k + m) = getL d a at' k ++ ((bs (sectorD d (secOf a ((at' + k) / 64)))).drop ((at' + k) % 64)).take m := by
  induction m with
  | zero => simp
  | succ m ih =>
    have e : k + (m + 1) = (k + m) + 1 := by omega
    rw [e, getL_succ, ih (by omega), List.append_assoc]
    congr 1
    have hl : m < ((bs (sectorD d (secOf a ((at' + k) / 64)))).drop ((at' + k) % 64)).length := by rw [List.length_drop, bs_len, hs]; omega
    rw [List.take_succ_eq_append_getElem hl]
    congr 1
    have e1 : (at' + (k + m)) / 64 = (at' + k) / 64 := by omega
    have e2 : (at' + (k + m)) % 64 = (at' + k) % 64 + m := by omega
    rw [byteD, e1, e2, List.getElem_drop, List.getD_eq_getElem?_getD, List.getElem?_eq_getElem (by rw [bs_len, hs]; omega)]
    rfl

theorem secL_ext {T : ByteArray} {x : Nat} (hT : T.size = 64) : secL (T.extract x 64) = ((bs T).drop x).map (Value.int .u8) := by
  have e : (T.extract x 64).data.toList = T.data.toList.drop x := by
    rw [← Lib.toList_data, Lib.extract_toList, List.take_of_length_le]
    rw [List.length_drop]
    have : T.data.toList.length = T.size := rfl
    omega
  simp only [secL, bs, e, List.map_drop]
theorem copy_get {B g N j x m : Nat} {W : World} {L : List Int} {T : ByteArray} (ho : Own B 5 .u8 W (.slice (some ⟨g, 0, none⟩) N N) (L ++ List.replicate (N - j) 0)) (hL : L.length = j) (hj : j < N) (hT : T.size = 64) (hx : x ≤ 64) (hm : m = min (64 - x) (N - j)) (ty : TypeId) :
    ∃ W', (Builtin.copy_ #[58, 9] ty #[.slice (some ⟨g, j, none⟩) (N - j) (N - j), .string (T.extract x 64)]).run Tryz.prog W = .ok (goInt m) W' ∧ Own B 5 .u8 W' (.slice (some ⟨g, 0, none⟩) N N) (L ++ ((bs T).drop x).take m ++ List.replicate (N - (j + m)) 0) ∧ W.grownBy W' (some g) := by
  have hmn : m ≤ N - j := by rw [hm]; exact Nat.min_le_right _ _
  have hmx : m ≤ 64 - x := by rw [hm]; exact Nat.min_le_left _ _
  obtain ⟨hl, ⟨hv, h0⟩ | ⟨g', cap, cur, hv, hB, hh, hn, hc, hs, ht⟩⟩ := ho
  · cases hv
  · injection hv with h1 h2 h3
    injection h1 with h1
    injection h1 with h1 _ _
    subst h1 h3
    have hlN : (L ++ List.replicate (N - j) 0).length = N := by rw [List.length_append, List.length_replicate]; omega
    rw [hlN] at ht
    rw [Nat.mul_one] at hs
    rw [Nat.mul_one, List.take_of_length_le (by rw [Array.length_toList, hs]; exact Nat.le_refl _)] at ht
    have hsz : (T.extract x 64).size = 64 - x := by simp [hT]
    have hr := run_copy_strM (P := Tryz.prog) W 58 9 ty 5 g j (N - j) (N - j) (T.extract x 64) cur 5 m Tryz.underlying58 (by kernel_rfl) hh (by rw [hsz]; exact hm) (by omega)
    refine ⟨_, hr, ?_, grown_setRow _ _ _⟩
    have hlb : (bs T).length = 64 := by rw [bs_len, hT]
    have e1 : cur.toList.take j = L.map (Value.int .u8) := by rw [ht, List.map_append, List.take_append_of_le_length (by simp [hL]), List.take_of_length_le (by simp [hL])]
    have e2 : cur.toList.drop (j + m) = List.replicate (N - (j + m)) (Value.int .u8 0) := by
      rw [ht, List.map_append, List.drop_append, List.drop_of_length_le (by simp [hL]), List.nil_append, List.map_replicate, List.drop_replicate, List.length_map, hL]
      congr 1; omega
    have e3 : (cur.toList.take j ++ (secL (T.extract x 64)).take m ++ cur.toList.drop (j + m)) = (L ++ ((bs T).drop x).take m ++ List.replicate (N - (j + m)) 0).map (Value.int .u8) := by
      rw [e1, e2, secL_ext hT]; simp [List.map_take]
    have e4 : (L ++ ((bs T).drop x).take m ++ List.replicate (N - (j + m)) 0).length = N := by
      simp only [List.length_append, List.length_take, List.length_drop, List.length_replicate, hL, hlb]; omega
    rw [e3]
    unfold Own
    rw [e4]
    refine ⟨by rw [List.length_map, e4, Nat.mul_one], .inr ⟨g, N, _, rfl, hB, setRow_heap _ _ _ _ _ _ hh, Nat.le_refl _, hc, by simp only [List.size_toArray, List.length_map, e4, Nat.mul_one], ?_⟩⟩
    show List.take (N * 1) (List.map _ _) = _
    rw [List.take_of_length_le (by rw [List.length_map, e4, Nat.mul_one]; exact Nat.le_refl _)]

set_option maxHeartbeats 400000 in
set_option maxRecDepth 100000 in
theorem iareaGet_any (w : World) (v : Value) (d : PDisk) (ar at' n : Int) (hd : DiskAt w v d) (hf : DiskFit d) (x1 : (Lit.int .i64 ar).wf = true) (x2 : (Lit.int .i64 at').wf = true) (x3 : (Lit.int .i64 n).wf = true) :
    Calls Tryz.prog 100 #[v, .int .i64 ar, .int .i64 at', .int .i64 n] w fun e w' => ∃ u, e = .returned (.tuple #[u, .bool (getDk d ar at' n).2]) ∧ Own w.heap.size 5 .u8 w' u (getDk d ar at' n).1 ∧ Below w.heap.size w w' := by
  have HD := (show Hid (DiskAt w v d) from hd)
  have HF := (show Hid (DiskFit d) from hf)
  obtain ⟨sa, sn, sc, la, ln, lc, rfl, _, _⟩ := hd
  clear hf
  have HG : Hid (getDk d ar at' n = if (diskB d && spanB ar at' n) = true then (getL d ar at'.toNat n.toNat, true) else ([], false)) := (show getDk d ar at' n = _ by rw [getDk, span_get])
  obtain ⟨w1, hw1⟩ : ∃ y, y = w.alloc (.cells #[.slice sa sn sc, .slice la ln lc] 35) := ⟨_, rfl⟩
  have h1 := (Hl.refl w).new #[.slice sa sn sc, .slice la ln lc] 35
  rw [← hw1] at h1
  have H1 := (show Hid _ from h1)
  clear h1
  go_enter Tryz.func100, Tryz.ntmps100
  go_wp2_with fail
  go_at_call 64
  rw [← hw1]
  refine (idiskOk_any (HD.out.below H1.out.1) HF.out).mono ?_
  rintro e w2 ⟨rfl, b2⟩
  have H2 := (show Hid _ from H1.out.below b2)
  clear hw1 H1 b2
  cases hb : diskB d
  · have HR : Hid (getDk d ar at' n = ([], false)) := (show getDk d ar at' n = ([], false) by rw [HG.out, hb]; rfl)
    clear hb
    go_wp2
    go_ret2
    exact ⟨_, by rw [HR.out]; rfl, by rw [HR.out]; exact own_nil _ _ _ _, H2.out.1⟩
  · have HB := (show Hid _ from hb)
    clear hb
    go_wp2_with fail
    go_at_call 126
    refine (ispanOk_any ar at' n w2).mono ?_
    rintro e w3 ⟨rfl, e3⟩
    replace e3 := e3.symm
    subst e3
    cases hp : spanB ar at' n
    · have HR : Hid (getDk d ar at' n = ([], false)) := (show getDk d ar at' n = ([], false) by rw [HG.out, hp]; simp)
      clear hp
      go_wp2
      go_ret2
      exact ⟨_, by rw [HR.out]; rfl, by rw [HR.out]; exact own_nil _ _ _ _, H2.out.1⟩
    · have HR : Hid (getDk d ar at' n = (getL d ar at'.toNat n.toNat, true)) := (show getDk d ar at' n = (getL d ar at'.toNat n.toNat, true) by rw [HG.out, hp, HB.out]; rfl)
      have hsp : (ar = 0 ∨ ar = 1) ∧ 0 ≤ at' ∧ at' ≤ 4096 ∧ 0 ≤ n ∧ n ≤ 4096 - at' := by
        simp only [spanB, inB, Bool.and_eq_true, decide_eq_true_eq] at hp
        omega
      obtain ⟨ha, q1, q2, q3, q4⟩ := hsp
      obtain ⟨A, rfl⟩ := Int.eq_ofNat_of_zero_le q1
      obtain ⟨N, rfl⟩ := Int.eq_ofNat_of_zero_le q3
      rw [Int.toNat_natCast, Int.toNat_natCast] at HR
      clear HG hp q1 q3 x1 x2 x3
      have hA : A ≤ 4096 := by omega
      have hN : A + N ≤ 4096 := by omega
      clear q2 q4
      obtain ⟨i0, hi, hz0, hz1, hz2⟩ := info_parts Tryz.infoB
      have hs2 := H2.out.1.size
      go_wp2_with (at_make
                   refine wpList_mkn _ rfl (.tmp 24) (.tmp 24) 58 rfl 5 i0 .u8 Tryz.underlying58 hi hz0 hz1 (N : Int) (N : Int) N rfl rfl rfl rfl (by rw [hz2]; omega) (by unfold maxLen; omega) ?_
                   intro w3 o3 b3)
      have H3 := (show Hid _ from H2.out.below b3)
      have HS2 := (show Hid (w.heap.size ≤ w2.heap.size) from hs2)
      have HS3 := (show Hid (w.heap.size < w2.heap.size) from lt_of_block H2.out.at0)
      have O3 := (show Hid (Own w2.heap.size 5 .u8 w3 (.slice (some ⟨w2.heap.size, 0, none⟩) N N) (List.replicate N 0)) from o3)
      clear o3 b3
      go_loopw [11] (fun k wr => ∃ j : Nat, j ≤ N ∧ k = .int .i64 (j : Int) ∧ Own w2.heap.size 5 .u8 wr (.slice (some ⟨w2.heap.size, 0, none⟩) N N) (getL d ar A j ++ List.replicate (N - j) 0) ∧ Hl w [(w.heap.size, #[.slice sa sn sc, .slice la ln lc], 35)] wr) (fun k _ => N - (intOf k).toNat)
      case atStart => exact ⟨0, Nat.zero_le _, rfl, by simpa [getL] using O3.out, H3.out⟩
      case round =>
        clear O3 H3 hs2
        obtain ⟨j, hj, rfl, o4, h4⟩ := hrel
        by_cases hlt : j < N
        · have hlt' : (j : Int) < (N : Int) := by omega
          obtain ⟨X, hX⟩ : ∃ X, X = secOf ar ((A + j) / 64) := ⟨_, rfl⟩
          have hin : inB X 0 129 = true := by rw [hX]; exact secOf_in ha (by omega)
          have K1 := (show Hid (∀ W, Calls Tryz.prog 127 #[.int .i64 ar, .int .i64 ((A : Int) + (j : Int))] W fun e w' => e = .returned (.int .i64 X) ∧ w' = W) from fun W => by
            have C1 := isectorAt_any ar (A + j) W ha (by omega)
            have e1 : 2 + 64 * ar + (((A + j) / 64 : Nat) : Int) = X := hX.symm
            rw [e1, show ((A + j : Nat) : Int) = (A : Int) + (j : Int) by omega] at C1
            exact C1)
          have K2 := (show Hid (∀ W, Below wr.heap.size wr W → Calls Tryz.prog 96 #[.agg #[.slice sa sn sc, .slice la ln lc], .int .i64 X] W fun e w' => e = .returned (.tuple #[.string (sectorD d X), .bool true]) ∧ Below W.heap.size W w') from fun W b => by
            have C2 := isectorOf_any (HD.out.below (h4.1.trans (b.mono h4.1.size))) HF.out X
            have e2 : sectorDk d X = (sectorD d X, true) := by rw [sectorDk, if_neg (by rw [HB.out, hin]; simp)]
            rw [e2] at C2
            exact C2)
          have hT := sector_size HB.out (x := X) (by simp only [inB, Bool.and_eq_true, decide_eq_true_eq] at hin; omega)
          obtain ⟨T, hTT⟩ : ∃ T, T = sectorD d X := ⟨_, rfl⟩
          rw [← hTT] at K2 hT
          have HT := (show Hid _ from hT)
          have HX := (show Hid (X = secOf ar ((A + j) / 64)) from hX)
          have HTT := (show Hid (T = sectorD d X) from hTT)
          clear hX hTT
          have O4 := (show Hid (Own w2.heap.size 5 .u8 wr (.slice (some ⟨w2.heap.size, 0, none⟩) N N) (getL d ar A j ++ List.replicate (N - j) 0)) from o4)
          have H4 := (show Hid (Hl w _ wr) from h4)
          have HS := (show Hid (∀ W, Below wr.heap.size wr W → W.cell? ⟨w.heap.size, 0, none⟩ = some (.slice sa sn sc) ∧ W.cell? ⟨w.heap.size, 1, none⟩ = some (.slice la ln lc)) from fun W b => by
            obtain ⟨p0, p1, _⟩ := rk_two (H4.out.below b).at0
            exact ⟨p0, p1⟩)
          have KD := (show Hid (Below wr.heap.size wr wr.drew) from below_drewN 1)
          obtain ⟨d1, d2⟩ := HS.out _ (Below.refl _ _)
          clear o4 h4 hT hin
          have hwx : IntKind.i64.wrap ((A : Int) + (j : Int)) = (A : Int) + (j : Int) := by simp only [IntKind.wrap, IntKind.bits, IntKind.signed]; simp; omega
          go_wp2_with fail
          go_region_held3 (fun w' => w'.cell? ⟨w.heap.size, 0, none⟩ = some (.slice sa sn sc) ∧ w'.cell? ⟨w.heap.size, 1, none⟩ = some (.slice la ln lc))
            (first | exact HS.out _ KD.out | exact HS.out _ B5.out)
            (first
            | (go_at_call 127
               with_reducible refine Calls.mono (K1.out _) ?_
               rintro e w5 ⟨rfl, e5⟩
               subst e5)
            | (go_at_call 96
               with_reducible refine Calls.mono (K2.out _ KD.out) ?_
               rintro e w5 ⟨rfl, b5⟩
               have B5 := (show Hid (Below wr.heap.size wr w5) from KD.out.trans (b5.mono KD.out.size))
               clear b5))
          clear K1 K2 HS KD d1 d2
          go_wp2_with fail
          obtain ⟨x, hx⟩ : ∃ x : Nat, x = (A + j) % 64 := ⟨_, rfl⟩
          have HXX := (show Hid (x = (A + j) % 64) from hx)
          have m1 : ((A : Int) + (j : Int)) % 64 = (x : Int) := by omega
          have m2 : Int.tmod ((A : Int) + (j : Int)) 64 = (x : Int) := by rw [Int.tmod_eq_emod_of_nonneg (by omega)]; exact m1
          have m3 : (0 : Int) ≤ (x : Int) := by omega
          have m4 : (x : Int) ≤ 64 := by omega
          have m5 : x ≤ 64 := by omega
          clear hx
          have hTs := HT.out
          obtain ⟨m, hm⟩ : ∃ m, m = min (64 - x) (N - j) := ⟨_, rfl⟩
          have hx2 : x < 64 := by have := HXX.out; omega
          have hm1 : 1 ≤ m := by omega
          have hm2 : x + m ≤ 64 := by omega
          have hm3 : j + m ≤ N := by omega
          have KE := (show Hid (Below wr.heap.size wr w5.drew) from B5.out.trans ((below_drewN 1).mono B5.out.size))
          obtain ⟨w6, cp, o6, g6⟩ := copy_get (O4.out.below KE.out) (getL_len d ar A j) hlt hTs m5 hm 3
          have H6 := (show Hid (Hl w _ w6) from (H4.out.below KE.out).past g6 (fun r e => by
            cases e
            refine ⟨HS2.out, fun p hp => ?_⟩
            simp only [List.mem_cons, List.not_mem_nil, or_false] at hp
            rw [hp]
            exact Nat.ne_of_lt HS3.out))
          have O6 := (show Hid (Own w2.heap.size 5 .u8 w6 (.slice (some ⟨w2.heap.size, 0, none⟩) N N) (getL d ar A (j + m) ++ List.replicate (N - (j + m)) 0)) from by
            have hgm := getL_more (d := d) (a := ar) (at' := A) (k := j) (m := m) (by rw [← HXX.out]; exact hm2) (by rw [← HX.out, ← HTT.out]; exact hTs)
            rw [← HX.out, ← HTT.out, ← HXX.out] at hgm
            rw [hgm]; exact o6)
          have hjm : IntKind.i64.wrap ((j : Int) + (m : Int)) = (j : Int) + (m : Int) := by simp only [IntKind.wrap, IntKind.bits, IntKind.signed]; simp; omega
          clear o6 g6 KE hm B5 H4 O4
          go_region_held3 (fun _ => True) (trivial) (fail)
          go_wp2
          go_roundw
          case rel => exact ⟨j + m, hm3, by go_num, O6.out, H6.out⟩
          case measure => simp [intOf]; omega
        · have hje : j = N := by omega
          subst hje
          have hn' : ¬ ((j : Int) < (j : Int)) := by omega
          have O4 := (show Hid (Own w2.heap.size 5 .u8 wr (.slice (some ⟨w2.heap.size, 0, none⟩) j j) (getL d ar A j)) from by
            rw [Nat.sub_self, List.replicate_zero, List.append_nil] at o4; exact o4)
          have H4 := (show Hid (Hl w _ wr) from h4)
          clear o4 h4
          go_wp2
          go_ret2
          exact ⟨_, by rw [HR.out]; rfl, by rw [HR.out]; exact O4.out.base HS2.out, H4.out.1⟩
end Go.Proofs.YtokkigfjabbdaaaGreatDoor

/- What headIn reads, plainly; a text of any length as a sector. No condition. -/
namespace Go.Proofs.YtokkigfjabbdaaaGreatDoor
open Go.RowKit
set_option maxRecDepth 100000
set_option linter.unusedVariables false

/-- A text as a sector: what stands beyond is left out, what lacks is 0. -/
def padL (s : ByteArray) : List Int := (bs s).take 64 ++ List.replicate (64 - s.size) 0
def padS (s : ByteArray) : ByteArray := strOf (padL s)
theorem padL_len (s : ByteArray) : (padL s).length = 64 := by
  simp only [padL, List.length_append, List.length_take, List.length_replicate, bs_len]; omega
theorem padL_byte (s : ByteArray) : ∀ y ∈ padL s, 0 ≤ y ∧ y ≤ 255 := by
  intro y hy
  rcases List.mem_append.mp hy with h | h
  · exact bs_byte s y (List.mem_of_mem_take h)
  · rw [List.eq_of_mem_replicate h]; omega
theorem padS_bs (s : ByteArray) : bs (padS s) = padL s := bs_strOf (padL_byte s)
theorem padS_size (s : ByteArray) : (padS s).size = 64 := by rw [padS, strOf_size, padL_len]

theorem read3_of {xs : List Int} {h : PHead} (e : readT xs = (h, true, true, true)) : read3 xs = some h := by
  unfold readT at e
  cases h1 : rdI xs 0 with
  | none =>
    simp only [h1, gv] at e
    exact absurd (Prod.mk.inj (Prod.mk.inj e).2).1 (by decide)
  | some p =>
    obtain ⟨a, n⟩ := p
    simp only [h1, gv] at e
    cases h2 : rdI xs (0 + (n : Int)) with
    | none =>
      simp only [h2] at e
      exact absurd (Prod.mk.inj (Prod.mk.inj (Prod.mk.inj e).2).2).1 (by decide)
    | some p =>
      obtain ⟨b, m⟩ := p
      simp only [h2] at e
      cases h3 : rdI xs (0 + (n : Int) + (m : Int)) with
      | none =>
        simp only [h3] at e
        exact absurd (Prod.mk.inj (Prod.mk.inj (Prod.mk.inj e).2).2).2 (by decide)
      | some p =>
        obtain ⟨c, k⟩ := p
        simp only [h3] at e
        rw [read3_ok h1 h2 h3, ← (Prod.mk.inj e).1]
/-- What headIn answers. -/
def headQ (s : ByteArray) : PHead × Bool :=
  match read3 (padL s) with
  | some h => if (headB h && decide (packS h = s)) = true then (h, true) else (zeroH, false)
  | none => (zeroH, false)
theorem headQ_eq (s : ByteArray) : headQ s = readDk s := by
  by_cases hr : (readDk s).2 = true
  · obtain ⟨h1, h2⟩ := read_some hr
    obtain ⟨q, hq⟩ : ∃ q, q = (readDk s).1 := ⟨_, rfl⟩
    rw [← hq] at h1 h2
    have hbs : bs s = packL q := by rw [← h2, packS_bs h1]
    have hsz : s.size = 64 := by rw [← h2, packS_size]
    have hp : padL s = packL q := by
      rw [padL, hsz, hbs, List.take_of_length_le (by rw [packL_len]; exact Nat.le_refl _), Nat.sub_self, List.replicate_zero, List.append_nil]
    have h3 := read3_of (readT_pack h1)
    rw [headQ, hp, h3]
    simp only
    rw [if_pos (by rw [h1, h2]; simp)]
    exact Prod.ext hq hr.symm
  · have hr' : (readDk s).2 = false := by simpa using hr
    rw [read_none hr', headQ]
    cases h3 : read3 (padL s) with
    | none => rfl
    | some q =>
      simp only
      by_cases c : (headB q && decide (packS q = s)) = true
      · exfalso
        simp only [Bool.and_eq_true, decide_eq_true_eq] at c
        rw [read_iff.mpr c] at hr'
        cases hr'
      · rw [if_neg c]

/-- 'copy(v[:], s)', v an array of 64 bytes 0, s a text of any length. -/
theorem copy_pad {W : World} {g : Nat} {cur : Array Value} (hc : cur.toList = List.replicate 64 (Value.int .u8 0)) (hg : W.heap[g]? = some (.cells cur 164 (0, 0))) (s : ByteArray) (ty : TypeId) :
    (Builtin.copy_ #[58, 9] ty #[.slice (some ⟨g, 0, none⟩) 64 64, .string s]).run Tryz.prog W = .ok (goInt (min s.size 64 : Nat)) (W.setRow g (secA (padS s))) := by
  have hcs : cur.size = 64 := by rw [← Array.length_toList, hc, List.length_replicate]
  have hr := run_copy_strM (P := Tryz.prog) W 58 9 ty 5 g 0 64 64 s cur 164 (min s.size 64) Tryz.underlying58 (by kernel_rfl) hg rfl (by omega)
  have hrow : (cur.toList.take 0 ++ (secL s).take (min s.size 64) ++ cur.toList.drop (0 + min s.size 64)).toArray = secA (padS s) := by
    have e2 : secA (padS s) = ((padL s).map (Value.int .u8)).toArray := by rw [secA, secL, padS_bs]
    rw [e2, hc, padL, List.take_zero, List.nil_append, Nat.zero_add, List.drop_replicate, List.map_append, List.map_replicate, List.map_take, secL]
    congr 2
    · by_cases h : s.size ≤ 64
      · rw [Nat.min_eq_left h, List.take_of_length_le (by rw [List.length_map, bs_len]; exact Nat.le_refl _), List.take_of_length_le (by rw [List.length_map, bs_len]; exact h)]
      · rw [Nat.min_eq_right (by omega)]
    · congr 1; omega
  rw [hrow] at hr
  exact hr
set_option maxRecDepth 100000 in
theorem isectorFrom_pad (s : ByteArray) (w : World) : Calls Tryz.prog 118 #[.string s] w fun e w' => e = .returned (.agg (secA (padS s))) ∧ Below w.heap.size w w' := by
  obtain ⟨w1, hw1⟩ : ∃ x, x = (w.alloc (.cells #[.int .u8 0, .int .u8 0, .int .u8 0, .int .u8 0, .int .u8 0, .int .u8 0, .int .u8 0, .int .u8 0, .int .u8 0, .int .u8 0, .int .u8 0, .int .u8 0, .int .u8 0, .int .u8 0, .int .u8 0, .int .u8 0, .int .u8 0, .int .u8 0, .int .u8 0, .int .u8 0, .int .u8 0, .int .u8 0, .int .u8 0, .int .u8 0, .int .u8 0, .int .u8 0, .int .u8 0, .int .u8 0, .int .u8 0, .int .u8 0, .int .u8 0, .int .u8 0, .int .u8 0, .int .u8 0, .int .u8 0, .int .u8 0, .int .u8 0, .int .u8 0, .int .u8 0, .int .u8 0, .int .u8 0, .int .u8 0, .int .u8 0, .int .u8 0, .int .u8 0, .int .u8 0, .int .u8 0, .int .u8 0, .int .u8 0, .int .u8 0, .int .u8 0, .int .u8 0, .int .u8 0, .int .u8 0, .int .u8 0, .int .u8 0, .int .u8 0, .int .u8 0, .int .u8 0, .int .u8 0, .int .u8 0, .int .u8 0, .int .u8 0, .int .u8 0] 164)).alloc (.cells #[.int .u8 0, .int .u8 0, .int .u8 0, .int .u8 0, .int .u8 0, .int .u8 0, .int .u8 0, .int .u8 0, .int .u8 0, .int .u8 0, .int .u8 0, .int .u8 0, .int .u8 0, .int .u8 0, .int .u8 0, .int .u8 0, .int .u8 0, .int .u8 0, .int .u8 0, .int .u8 0, .int .u8 0, .int .u8 0, .int .u8 0, .int .u8 0, .int .u8 0, .int .u8 0, .int .u8 0, .int .u8 0, .int .u8 0, .int .u8 0, .int .u8 0, .int .u8 0, .int .u8 0, .int .u8 0, .int .u8 0, .int .u8 0, .int .u8 0, .int .u8 0, .int .u8 0, .int .u8 0, .int .u8 0, .int .u8 0, .int .u8 0, .int .u8 0, .int .u8 0, .int .u8 0, .int .u8 0, .int .u8 0, .int .u8 0, .int .u8 0, .int .u8 0, .int .u8 0, .int .u8 0, .int .u8 0, .int .u8 0, .int .u8 0, .int .u8 0, .int .u8 0, .int .u8 0, .int .u8 0, .int .u8 0, .int .u8 0, .int .u8 0, .int .u8 0] 164) := ⟨_, rfl⟩
  have b1 : Below w.heap.size w w1 := by rw [hw1]; exact ((Below.refl _ _).alloc (Nat.le_refl _) _).alloc (by simp) _
  have x1 : w1.heap[w.heap.size]? = some (.cells #[.int .u8 0, .int .u8 0, .int .u8 0, .int .u8 0, .int .u8 0, .int .u8 0, .int .u8 0, .int .u8 0, .int .u8 0, .int .u8 0, .int .u8 0, .int .u8 0, .int .u8 0, .int .u8 0, .int .u8 0, .int .u8 0, .int .u8 0, .int .u8 0, .int .u8 0, .int .u8 0, .int .u8 0, .int .u8 0, .int .u8 0, .int .u8 0, .int .u8 0, .int .u8 0, .int .u8 0, .int .u8 0, .int .u8 0, .int .u8 0, .int .u8 0, .int .u8 0, .int .u8 0, .int .u8 0, .int .u8 0, .int .u8 0, .int .u8 0, .int .u8 0, .int .u8 0, .int .u8 0, .int .u8 0, .int .u8 0, .int .u8 0, .int .u8 0, .int .u8 0, .int .u8 0, .int .u8 0, .int .u8 0, .int .u8 0, .int .u8 0, .int .u8 0, .int .u8 0, .int .u8 0, .int .u8 0, .int .u8 0, .int .u8 0, .int .u8 0, .int .u8 0, .int .u8 0, .int .u8 0, .int .u8 0, .int .u8 0, .int .u8 0, .int .u8 0] 164 (0, 0)) := by rw [hw1, Below.heap_alloc _ _ _ (by simp)]; exact World.alloc_heap_new _ _
  have x2 : w1.heap[w.heap.size + 1]? = some (.cells #[.int .u8 0, .int .u8 0, .int .u8 0, .int .u8 0, .int .u8 0, .int .u8 0, .int .u8 0, .int .u8 0, .int .u8 0, .int .u8 0, .int .u8 0, .int .u8 0, .int .u8 0, .int .u8 0, .int .u8 0, .int .u8 0, .int .u8 0, .int .u8 0, .int .u8 0, .int .u8 0, .int .u8 0, .int .u8 0, .int .u8 0, .int .u8 0, .int .u8 0, .int .u8 0, .int .u8 0, .int .u8 0, .int .u8 0, .int .u8 0, .int .u8 0, .int .u8 0, .int .u8 0, .int .u8 0, .int .u8 0, .int .u8 0, .int .u8 0, .int .u8 0, .int .u8 0, .int .u8 0, .int .u8 0, .int .u8 0, .int .u8 0, .int .u8 0, .int .u8 0, .int .u8 0, .int .u8 0, .int .u8 0, .int .u8 0, .int .u8 0, .int .u8 0, .int .u8 0, .int .u8 0, .int .u8 0, .int .u8 0, .int .u8 0, .int .u8 0, .int .u8 0, .int .u8 0, .int .u8 0, .int .u8 0, .int .u8 0, .int .u8 0, .int .u8 0] 164 (0, 0)) := by
    rw [hw1]
    have := World.alloc_heap_new (w.alloc (.cells #[.int .u8 0, .int .u8 0, .int .u8 0, .int .u8 0, .int .u8 0, .int .u8 0, .int .u8 0, .int .u8 0, .int .u8 0, .int .u8 0, .int .u8 0, .int .u8 0, .int .u8 0, .int .u8 0, .int .u8 0, .int .u8 0, .int .u8 0, .int .u8 0, .int .u8 0, .int .u8 0, .int .u8 0, .int .u8 0, .int .u8 0, .int .u8 0, .int .u8 0, .int .u8 0, .int .u8 0, .int .u8 0, .int .u8 0, .int .u8 0, .int .u8 0, .int .u8 0, .int .u8 0, .int .u8 0, .int .u8 0, .int .u8 0, .int .u8 0, .int .u8 0, .int .u8 0, .int .u8 0, .int .u8 0, .int .u8 0, .int .u8 0, .int .u8 0, .int .u8 0, .int .u8 0, .int .u8 0, .int .u8 0, .int .u8 0, .int .u8 0, .int .u8 0, .int .u8 0, .int .u8 0, .int .u8 0, .int .u8 0, .int .u8 0, .int .u8 0, .int .u8 0, .int .u8 0, .int .u8 0, .int .u8 0, .int .u8 0, .int .u8 0, .int .u8 0] 164)) (.cells #[.int .u8 0, .int .u8 0, .int .u8 0, .int .u8 0, .int .u8 0, .int .u8 0, .int .u8 0, .int .u8 0, .int .u8 0, .int .u8 0, .int .u8 0, .int .u8 0, .int .u8 0, .int .u8 0, .int .u8 0, .int .u8 0, .int .u8 0, .int .u8 0, .int .u8 0, .int .u8 0, .int .u8 0, .int .u8 0, .int .u8 0, .int .u8 0, .int .u8 0, .int .u8 0, .int .u8 0, .int .u8 0, .int .u8 0, .int .u8 0, .int .u8 0, .int .u8 0, .int .u8 0, .int .u8 0, .int .u8 0, .int .u8 0, .int .u8 0, .int .u8 0, .int .u8 0, .int .u8 0, .int .u8 0, .int .u8 0, .int .u8 0, .int .u8 0, .int .u8 0, .int .u8 0, .int .u8 0, .int .u8 0, .int .u8 0, .int .u8 0, .int .u8 0, .int .u8 0, .int .u8 0, .int .u8 0, .int .u8 0, .int .u8 0, .int .u8 0, .int .u8 0, .int .u8 0, .int .u8 0, .int .u8 0, .int .u8 0, .int .u8 0, .int .u8 0] 164)
    rwa [World.size_alloc] at this
  have X1 := (show Hid _ from x1)
  have X2 := (show Hid _ from x2)
  have B1 := (show Hid (Below w.heap.size w w1) from b1)
  have hsz := secSize (padS_size s)
  have HSZ := (show Hid _ from hsz)
  clear b1 x1 x2 hsz
  go_enter Tryz.func118, Tryz.ntmps118
  go_wp2_with fail
  rw [← hw1, copy_pad zeroCells64 X2.out s 3]
  clear hw1
  obtain ⟨w2, hw2⟩ : ∃ y, y = w1.setRow (w.heap.size + 1) (secA (padS s)) := ⟨_, rfl⟩
  rw [← hw2]
  have g2 : w1.grownBy w2 (some (w.heap.size + 1)) := by rw [hw2]; exact grown_setRow _ _ _
  have y2 : w2.heap[w.heap.size + 1]? = some (.cells (secA (padS s)) 164 (0, 0)) := by rw [hw2]; exact setRow_heap _ _ _ _ _ _ X2.out
  have y1 := (g2.block _ (lt_of_block X1.out) (by simp)).trans X1.out
  have Y2 := (show Hid _ from y2)
  have Y1 := (show Hid _ from y1)
  have B2 := (show Hid (Below w.heap.size w w2) from B1.out.grown g2 B1.out.size (fun r e => by cases e; exact Nat.le_succ _))
  clear y1 y2 g2 hw2
  go_wp2_with (first
    | refine wpList_load_row rfl 164 (.tmp 3) rfl (w.heap.size + 1) rfl 164 (secA (padS s)) (0, 0) _ Y2.out Tryz.underlying164 rfl HSZ.out ?_
    | refine wpList_store_row rfl 164 (.tmp 2) (.tmp 7) rfl w.heap.size (secA (padS s)) rfl rfl 164 _ Y1.out HSZ.out (by rw [secA_size, padS_size]; rfl) (secA_one (padS s)) ?_)
  refine bodyPost_ret (results_cell_row rfl _ _ w.heap.size 164 (secA (padS s)) (0, 0) _ rfl (setRow_heap _ _ _ _ _ _ Y1.out) Tryz.underlying164 rfl HSZ.out) rfl ?_
  exact ⟨rfl, B2.out.grown (grown_setRow _ _ _) B2.out.size (fun r e => by cases e; exact Nat.le_refl _)⟩

end Go.Proofs.YtokkigfjabbdaaaGreatDoor
