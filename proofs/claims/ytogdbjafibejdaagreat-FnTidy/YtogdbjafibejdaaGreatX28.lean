/- 'copy' of rows of several cells an element. -/
import Derived.Test.YtogdbjafibejdaaGreatX13
import Derived.Laws.CopyOwn
import Derived.Test.YtogdbjafibejdaaGreatX11
import Derived.Test.YtogdbjafibejdaaGreatX0
import Derived.Test.YtogdbjafibejdaaGreatX1
import Derived.Test.YtogdbjafibejdaaGreatX2
import Derived.Test.YtogdbjafibejdaaGreatX24
import Derived.Test.YtogdbjafibejdaaGreatX27
import Derived.Test.YtogdbjafibejdaaGreatX12
import Derived.Test.YtogdbjafibejdaaGreatX8
namespace Go.Proofs.YtogdbjafibejdaaGreat
open Go.RowKit
set_option maxRecDepth 100000
set_option linter.unusedVariables false

theorem run_copy_rows {P : Program} (w : World) (dT sT ty elem : TypeId) (g o dLen dCap : Nat) (a : Addr) (sLen sCap : Nat) (cur : Array Value) (t : TypeId) (cs : List Value) (sz : Nat)
    (hu : P.underlying dT = some (.slice elem)) (hs : (P.info? elem).map (·.size) = some sz)
    (hg : w.heap[g]? = some (.cells cur t (0, 0))) (hn : cs.length = Nat.min sLen dLen * sz)
    (hsrc : ∀ j v, cs[j]? = some v → w.cell? (a.add j) = some v) (hfit : o + cs.length ≤ cur.size) (h1 : ∀ v ∈ cs, v.oneCell' = true) :
    (Builtin.copy_ #[dT, sT] ty #[.slice (some ⟨g, o, none⟩) dLen dCap, .slice (some a) sLen sCap]).run P w =
      .ok (goInt (Nat.min sLen dLen)) (w.setRow g (cur.toList.take o ++ cs ++ cur.toList.drop (o + cs.length)).toArray) := by
  have hl := run_loadCells_list (P := P) w a cs hsrc
  have hst := run_storeCells_at P g o t cs 0 cur w hg (by simpa using hfit) h1
  cases hq : P.info? elem with
  | none => simp [hq] at hs
  | some i =>
    have hi : i.size = sz := by simpa [hq] using hs
    simp [Builtin.copy_, run_underlying hu, Builtin.lenOf, Builtin.firstCells, sizeOf, typeInfo, hq, hi, ← hn, hl, hst]

theorem splice_take {α : Type} {L cs : List α} {o n : Nat} (h1 : o + cs.length ≤ n) (h2 : n ≤ L.length) : (L.take o ++ cs ++ L.drop (o + cs.length)).take n = (L.take n).take o ++ cs ++ (L.take n).drop (o + cs.length) := by
  have hA : (L.take o ++ cs).length = o + cs.length := by simp; omega
  rw [List.take_append, hA, List.take_of_length_le (by omega), List.take_take, Nat.min_eq_left (by omega : o ≤ n), List.drop_take]

/-- A copy into a row of the call's own, from its element j on. -/
theorem copy_into {P : Program} {w : World} {u : Value} {dT sT ty elem : TypeId} {B g n cap j m : Nat} {zs cs : List Value} (hu : P.underlying dT = some (.slice elem)) (hs : (P.info? elem).map (·.size) = some 2)
    (hown : w.ownsRow B elem 2 (.slice (some ⟨g, 0, none⟩) n cap) n zs) (hj : j + m ≤ n) (hsrc : Sv 2 w u cs) (hm : cs.length = m * 2) (h1 : ∀ v ∈ cs, v.oneCell' = true) :
    ∃ w', (Builtin.copy_ #[dT, sT] ty #[.slice (some ⟨g, j * 2, none⟩) (n - j) (cap - j), u]).run P w = .ok (goInt m) w' ∧ w'.ownsRow B elem 2 (.slice (some ⟨g, 0, none⟩) n cap) n (zs.take (j * 2) ++ cs ++ zs.drop (j * 2 + m * 2)) ∧ w.grownBy w' (some g) := by
  obtain ⟨a, len, cap', rfl, h2, h3, h4, h5, hc⟩ := hsrc
  obtain rfl : len = m := by omega
  obtain ⟨hl, ⟨hv, _⟩ | ⟨g', c', cur, hv, hB, hh, hn, hmx, hsz, ht⟩⟩ := hown
  · cases hv
  · cases hv
    cases a with
    | none =>
      have e0 := h5 rfl
      obtain rfl : cap' = 0 := e0
      obtain rfl : len = 0 := by omega
      have hcs : cs = [] := List.length_eq_zero_iff.mp (by omega)
      subst hcs
      refine ⟨w, run_copy_nil P w dT sT ty elem ⟨g, j * 2, none⟩ (n - j) (cap - j) hu (by rw [hs]; rfl), ⟨by simp; omega, .inr ⟨g, cap, cur, rfl, hB, hh, hn, hmx, hsz, by rw [ht]; simp⟩⟩, World.grownBy.refl _ _⟩
    | some ad =>
      have hmin : Nat.min len (n - j) = len := Nat.min_eq_left (by omega)
      have hrun := run_copy_rows (P := P) w dT sT ty elem g (j * 2) (n - j) (cap - j) ad len cap' cur elem cs 2 hu hs hh (by rw [hmin]; exact h2) (fun i v hv => by
        have hi : i < cs.length := (List.getElem?_eq_some_iff.mp hv).1
        obtain ⟨b, off, e, c⟩ := hc i hi
        cases e
        have : cs.getD i undef = v := by rw [List.getD_eq_getElem?_getD, hv]; rfl
        rw [this] at c
        have hadd : (⟨b, off, none⟩ : Addr).add i = ⟨b, off + i, none⟩ := by unfold Addr.add; split <;> simp_all
        rw [hadd]; exact c) (by omega) h1
      rw [hmin] at hrun
      refine ⟨_, hrun, ⟨by simp; omega, .inr ⟨g, cap, _, rfl, hB, setRow_heap w g cur _ elem (0, 0) hh, hn, hmx, ?_, ?_⟩⟩, ⟨rfl, rfl, rfl, by simp [World.setRow], fun i hi hne => ?_⟩⟩
      · simp; omega
      · have hcl : cur.toList.length = cap * 2 := by simpa using hsz
        rw [List.toList_toArray, splice_take (by omega) (by omega), ht, hm]
      · have hig : i ≠ g := fun e => hne (by rw [e])
        show (w.heap.modify g _)[i]? = _
        rw [Array.getElem?_modify, if_neg (fun e => hig e.symm)]

theorem wpList_cpV {P : Program} {w : World} {ops : Array Oper} {rest : List Oper} {o : Oper} {a : Act} {Q : Exit → Act → World → Prop} (hgd : o.guard = none)
    (d s : Operand) (dT sT : TypeId) (ho : o.op = Op.call { callee := Callee.builtin Builtin.copy, args := #[d, s], argTypes := #[dT, sT] }) (elem : TypeId)
    (hu : P.underlying dT = some (.slice elem)) (hs : (P.info? elem).map (·.size) = some 2) (B g n cap j m : Nat) (u : Value) (zs cs : List Value)
    (hd : a.eval d = .slice (some ⟨g, j * 2, none⟩) (n - j) (cap - j)) (hv : a.eval s = u) (hown : w.ownsRow B elem 2 (.slice (some ⟨g, 0, none⟩) n cap) n zs) (hj : j + m ≤ n) (hsrc : Sv 2 w u cs) (hm : cs.length = m * 2) (h1 : ∀ v ∈ cs, v.oneCell' = true)
    (h : ∀ w', w'.ownsRow B elem 2 (.slice (some ⟨g, 0, none⟩) n cap) n (zs.take (j * 2) ++ cs ++ zs.drop (j * 2 + m * 2)) → w.grownBy w' (some g) → wpList P ops Q rest (a.put o.dst (goInt m)) w') : wpList P ops Q (o :: rest) a w := by
  refine wpList_plain hgd fun K hK => ?_
  obtain ⟨w', hrun, h2, h3⟩ := copy_into (ty := o.type) (dT := dT) (sT := sT) hu hs hown hj hsrc hm h1
  unfold Oper.wp
  simp [execOp, ho, resolve, invoke, builtin, hd, hv, hrun, Result.andThen]
  exact hK _ _ (h w' h2 h3)

/-- A copy of nothing into a piece of no element. -/
theorem wpList_cpZ {P : Program} {w : World} {ops : Array Oper} {rest : List Oper} {o : Oper} {a : Act} {Q : Exit → Act → World → Prop} (hgd : o.guard = none)
    (d s : Operand) (dT sT : TypeId) (ho : o.op = Op.call { callee := Callee.builtin Builtin.copy, args := #[d, s], argTypes := #[dT, sT] }) (elem : TypeId)
    (hu : P.underlying dT = some (.slice elem)) (hs : (P.info? elem).map (·.size) = some 2) (B g n cap : Nat) (u : Value) (zs : List Value)
    (hd : a.eval d = .slice (some ⟨g, 0, none⟩) 0 0) (hv : a.eval s = u) (hown : w.ownsRow B elem 2 (.slice (some ⟨g, 0, none⟩) n cap) n zs) (hsrc : Sv 2 w u [])
    (h : wpList P ops Q rest (a.put o.dst (goInt 0)) w) : wpList P ops Q (o :: rest) a w := by
  refine wpList_plain hgd fun K hK => ?_
  have hrun : (Builtin.copy_ #[dT, sT] o.type #[.slice (some ⟨g, 0, none⟩) 0 0, u]).run P w = .ok (goInt 0) w := by
    obtain ⟨ad, len, cap', rfl, h2, h3, h4, h5, hc⟩ := hsrc
    obtain rfl : len = 0 := by have h2' : (0 : Nat) = len * 2 := h2; omega
    cases ad with
    | none =>
      obtain rfl : cap' = 0 := h5 rfl
      exact run_copy_nil P w dT sT o.type elem ⟨g, 0, none⟩ 0 0 hu (by rw [hs]; rfl)
    | some ad =>
      obtain ⟨hl, ⟨hv', _⟩ | ⟨g', c', cur, hv', hB, hh, hn, hmx, hsz, ht⟩⟩ := hown
      · cases hv'
      · cases hv'
        have := run_copy_rows (P := P) w dT sT o.type elem g 0 0 0 ad 0 cap' cur elem [] 2 hu hs hh rfl (fun i v hv => by simp at hv) (by simp) (fun v hv => by cases hv)
        rw [this]
        simp [setRow_self w g cur elem (0, 0) hh]
  unfold Oper.wp
  simp [execOp, ho, resolve, invoke, builtin, hd, hv, hrun, Result.andThen]
  exact hK _ _ h

theorem pairs_oneCell (rs : List (ByteArray × ByteArray)) : ∀ v ∈ pairCells rs, v.oneCell' = true := by
  intro v hv
  unfold pairCells at hv
  obtain ⟨r, _, hr⟩ := List.mem_flatMap.mp hv
  simp only [List.mem_cons, List.not_mem_nil, or_false] at hr
  rcases hr with rfl | rfl <;> rfl
end Go.Proofs.YtogdbjafibejdaaGreat

/- What stands ahead of the last bar: the specification's l11From and FmtClear, the program's lastBar, first and FmtClear, of every list. -/
namespace Go.Proofs.YtogdbjafibejdaaGreat
open Go.RowKit
set_option maxRecDepth 100000
set_option linter.unusedVariables false

/-- The place behind the last bar among the first n. -/
def barAt (xs : List Int) : Nat → Nat
  | 0 => 0
  | n + 1 => if xs.getD n 0 = -1 then n + 1 else barAt xs n
theorem barAt_le (xs : List Int) (n : Nat) : barAt xs n ≤ n := by
  induction n with
  | zero => exact Nat.le_refl _
  | succ n ih => unfold barAt; split <;> omega
theorem barAt_no {xs : List Int} {n : Nat} (h : ¬ xs.getD n 0 = -1) : barAt xs (n + 1) = barAt xs n := by rw [barAt, if_neg h]
theorem barAt_yes {xs : List Int} {n : Nat} (h : xs.getD n 0 = -1) : barAt xs (n + 1) = n + 1 := by rw [barAt, if_pos h]
def clearL (xs : List Int) : List Int := xs.take (barAt xs xs.length - 1)
theorem clearL_len (xs : List Int) : (clearL xs).length ≤ xs.length := by simp [clearL]; omega
theorem sl_take {K : IntKind} {w : World} {a : Option Addr} {xs : List Int} {ca k : Nat} (h : Sl K w (.slice a xs.length ca) xs) (hk : k ≤ xs.length) : Sl K w (.slice a k ca) (xs.take k) := by
  obtain ⟨a', ca', e, h1, h2, h3, h4⟩ := h
  cases e
  have hl : (xs.take k).length = k := by simp; omega
  refine ⟨a, ca, by rw [hl], by omega, h2, h3, ?_⟩
  intro j hj
  rw [hl] at hj
  obtain ⟨b, off, e, c⟩ := h4 j (by omega)
  refine ⟨b, off, e, ?_⟩
  rw [c]
  simp [List.getD_eq_getElem?_getD, hj]

theorem barIf (n : Nat) : (if (n : Int) - 1 > 0 then (n : Int) - 1 else 0) = ((n - 1 : Nat) : Int) := by split <;> omega

end Go.Proofs.YtogdbjafibejdaaGreat

/- The specification's functions on a row of open elements. No condition. -/
namespace Go.Proofs.YtogdbjafibejdaaGreat
open Go.RowKit
set_option maxRecDepth 100000
set_option linter.unusedVariables false

theorem shas_any {w : World} {a : Option Addr} {n cap : Nat} (x : Int) (hn : n ≤ 1048576) :
    Calls Tryz.prog 52 #[.agg #[.slice a n cap], .int .i64 x] w fun e w' => e = .returned (.bool (inB x 0 ((n : Int) - 1))) ∧ Below w.heap.size w w' := by
  have CI := (show Hid _ from fun w => l1In_any x 0 ((n : Int) - 1) w)
  have b1 : Below w.heap.size w (w.alloc (.cells #[.slice a n cap] 26)) := (Below.refl _ _).alloc (Nat.le_refl _) _
  go_enter Tryz.func52, Tryz.ntmps52
  go_wp2_with fail
  go_at_call 57
  refine Calls.mono (CI.out _) ?_
  rintro e w1 ⟨rfl, rfl⟩
  go_wp2
  go_ret
  exact ⟨rfl, b1⟩

/-- The first k of a row are elements, none of them twice. -/
def RowK (ns : List PNode) (row : List Int) (k : Nat) : Prop := ∀ i (h : i < row.length), i < k → elB ns row[i] = true ∧ ∀ j (hj : j < i), row[j] ≠ row[i]
theorem rowK_zero (ns : List PNode) (row : List Int) : RowK ns row 0 := fun i _ h => absurd h (Nat.not_lt_zero i)
theorem rowK_succ {ns : List PNode} {row : List Int} {k : Nat} (h : RowK ns row k) (hk : k < row.length) (he : elB ns row[k] = true) (ho : ∀ j (hj : j < k), row[j] ≠ row[k]) : RowK ns row (k + 1) := fun i hi hik => by
  by_cases e : i = k
  · subst e; exact ⟨he, ho⟩
  · exact h i hi (by omega)
theorem rowK_all {ns : List PNode} {row : List Int} (h : RowK ns row row.length) (hl : row.length ≤ 40) : RowP ns row := ⟨hl, fun i hi => (h i hi hi).1, fun i k hi hk => (h i hi hi).2 k hk⟩

end Go.Proofs.YtogdbjafibejdaaGreat

/- The program's functions on a row of open elements: what a row is. No condition. -/
namespace Go.Proofs.YtogdbjafibejdaaGreat
open Go.RowKit
set_option maxRecDepth 100000
set_option linter.unusedVariables false

end Go.Proofs.YtogdbjafibejdaaGreat

/- The program's openRowOf. No condition. -/
namespace Go.Proofs.YtogdbjafibejdaaGreat
open Go.RowKit
set_option maxRecDepth 100000
set_option linter.unusedVariables false

end Go.Proofs.YtogdbjafibejdaaGreat

/- The specification's StackOk, OpenAt and PopTo. No condition. -/
namespace Go.Proofs.YtogdbjafibejdaaGreat
open Go.RowKit
set_option maxRecDepth 100000
set_option linter.unusedVariables false

def named (ns : List PNode) (nm : ByteArray) (x : Int) : Bool := decide (nmOf ns x = nm)

/-- What is left of the row: all of it, or what stands ahead of the last one of that name, but not less than one. -/
def popL (ns : List PNode) (nm : ByteArray) (row : List Int) : List Int :=
  if lastAt (named ns nm) row row.length = 0 then row else row.take (max (lastAt (named ns nm) row row.length - 1) 1)

end Go.Proofs.YtogdbjafibejdaaGreat
