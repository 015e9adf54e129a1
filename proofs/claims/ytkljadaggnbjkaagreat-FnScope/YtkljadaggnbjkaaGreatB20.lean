import Derived.Test.YtkljadaggnbjkaaGreatB14
import Derived.Laws.CopyOwn
import Derived.Test.YtkljadaggnbjkaaGreatOpenS
import Derived.Test.YtkljadaggnbjkaaGreatB0
import Derived.Test.YtkljadaggnbjkaaGreatGrow
import Derived.Test.YtkljadaggnbjkaaGreatB2
import Derived.Test.YtkljadaggnbjkaaGreatB16
import Derived.Test.YtkljadaggnbjkaaGreatSTree
import Derived.Test.YtkljadaggnbjkaaGreatB11
import Derived.Test.YtkljadaggnbjkaaGreatB18
import Derived.Test.YtkljadaggnbjkaaGreatStr
/- 'copy' of rows of several cells an element. -/
namespace Go.Proofs.YtkljadaggnbjkaaGreat
open Go.RowKit
set_option maxRecDepth 100000
set_option linter.unusedVariables false

theorem run_copy_rows {P : Program} (w : World) (dT sT ty elem : TypeId) (g o dLen dCap : Nat) (a : Addr) (sLen sCap : Nat) (cur : Array Value) (t : TypeId) (cs : List Value) (sz : Nat)
    (hu : P.underlying dT = some (.slice elem)) (hs : (P.info? elem).map (·.size) = some sz)
    (hg : w.heap[g]? = some (.cells cur t (0, 0))) (hn : cs.length = Nat.min sLen dLen * sz)
    (hsrc : ∀ j v, cs[j]? = some v → w.cell? (a.add j) = some v) (hfit : o + cs.length ≤ cur.size) (h1 : ∀ v ∈ cs, v.oneCell' = true) :
    (Builtin.copy_ #[dT, sT] ty #[.slice (some ⟨g, o, none⟩) dLen dCap, .slice (some a) sLen sCap]).run P w =
      .ok (goInt (Nat.min sLen dLen)) (w.setRow g (cur.toList.take o ++ cs ++ cur.toList.drop (o + cs.length)).toArray) := by
  have hl := run_loadCells_list (P := P) w a cs hsrc
  have hst := run_storeCells_at P g o t cs 0 cur w hg (by simpa using hfit) h1
  cases hq : P.info? elem with
  | none => simp [hq] at hs
  | some i =>
    have hi : i.size = sz := by simpa [hq] using hs
    simp [Builtin.copy_, run_underlying hu, Builtin.lenOf, Builtin.firstCells, sizeOf, typeInfo, hq, hi, ← hn, hl, hst]

theorem splice_take {α : Type} {L cs : List α} {o n : Nat} (h1 : o + cs.length ≤ n) (h2 : n ≤ L.length) : (L.take o ++ cs ++ L.drop (o + cs.length)).take n = (L.take n).take o ++ cs ++ (L.take n).drop (o + cs.length) := by
  have hA : (L.take o ++ cs).length = o + cs.length := by simp; omega
  rw [List.take_append, hA, List.take_of_length_le (by omega), List.take_take, Nat.min_eq_left (by omega : o ≤ n), List.drop_take]

/-- A copy into a row of the call's own, from its element j on. -/
theorem copy_into {P : Program} {w : World} {u : Value} {dT sT ty elem : TypeId} {B g n cap j m : Nat} {zs cs : List Value} (hu : P.underlying dT = some (.slice elem)) (hs : (P.info? elem).map (·.size) = some 2)
    (hown : w.ownsRow B elem 2 (.slice (some ⟨g, 0, none⟩) n cap) n zs) (hj : j + m ≤ n) (hsrc : Sv 2 w u cs) (hm : cs.length = m * 2) (h1 : ∀ v ∈ cs, v.oneCell' = true) :
    ∃ w', (Builtin.copy_ #[dT, sT] ty #[.slice (some ⟨g, j * 2, none⟩) (n - j) (cap - j), u]).run P w = .ok (goInt m) w' ∧ w'.ownsRow B elem 2 (.slice (some ⟨g, 0, none⟩) n cap) n (zs.take (j * 2) ++ cs ++ zs.drop (j * 2 + m * 2)) ∧ w.grownBy w' (some g) := by
  obtain ⟨a, len, cap', rfl, h2, h3, h4, h5, hc⟩ := hsrc
  obtain rfl : len = m := by omega
  obtain ⟨hl, ⟨hv, _⟩ | ⟨g', c', cur, hv, hB, hh, hn, hmx, hsz, ht⟩⟩ := hown
  · cases hv
  · cases hv
    cases a with
    | none =>
      have e0 := h5 rfl
      obtain rfl : cap' = 0 := e0
      obtain rfl : len = 0 := by omega
      have hcs : cs = [] := List.length_eq_zero_iff.mp (by omega)
      subst hcs
      refine ⟨w, run_copy_nil P w dT sT ty elem ⟨g, j * 2, none⟩ (n - j) (cap - j) hu (by rw [hs]; rfl), ⟨by simp; omega, .inr ⟨g, cap, cur, rfl, hB, hh, hn, hmx, hsz, by rw [ht]; simp⟩⟩, World.grownBy.refl _ _⟩
    | some ad =>
      have hmin : Nat.min len (n - j) = len := Nat.min_eq_left (by omega)
      have hrun := run_copy_rows (P := P) w dT sT ty elem g (j * 2) (n - j) (cap - j) ad len cap' cur elem cs 2 hu hs hh (by rw [hmin]; exact h2) (fun i v hv => by
        have hi : i < cs.length := (List.getElem?_eq_some_iff.mp hv).1
        obtain ⟨b, off, e, c⟩ := hc i hi
        cases e
        have : cs.getD i undef = v := by rw [List.getD_eq_getElem?_getD, hv]; rfl
        rw [this] at c
        have hadd : (⟨b, off, none⟩ : Addr).add i = ⟨b, off + i, none⟩ := by unfold Addr.add; split <;> simp_all
        rw [hadd]; exact c) (by omega) h1
      rw [hmin] at hrun
      refine ⟨_, hrun, ⟨by simp; omega, .inr ⟨g, cap, _, rfl, hB, setRow_heap w g cur _ elem (0, 0) hh, hn, hmx, ?_, ?_⟩⟩, ⟨rfl, rfl, rfl, by simp [World.setRow], fun i hi hne => ?_⟩⟩
      · simp; omega
      · have hcl : cur.toList.length = cap * 2 := by simpa using hsz
        rw [List.toList_toArray, splice_take (by omega) (by omega), ht, hm]
      · have hig : i ≠ g := fun e => hne (by rw [e])
        show (w.heap.modify g _)[i]? = _
        rw [Array.getElem?_modify, if_neg (fun e => hig e.symm)]

theorem wpList_cpV {P : Program} {w : World} {ops : Array Oper} {rest : List Oper} {o : Oper} {a : Act} {Q : Exit → Act → World → Prop} (hgd : o.guard = none)
    (d s : Operand) (dT sT : TypeId) (ho : o.op = Op.call { callee := Callee.builtin Builtin.copy, args := #[d, s], argTypes := #[dT, sT] }) (elem : TypeId)
    (hu : P.underlying dT = some (.slice elem)) (hs : (P.info? elem).map (·.size) = some 2) (B g n cap j m : Nat) (u : Value) (zs cs : List Value)
    (hd : a.eval d = .slice (some ⟨g, j * 2, none⟩) (n - j) (cap - j)) (hv : a.eval s = u) (hown : w.ownsRow B elem 2 (.slice (some ⟨g, 0, none⟩) n cap) n zs) (hj : j + m ≤ n) (hsrc : Sv 2 w u cs) (hm : cs.length = m * 2) (h1 : ∀ v ∈ cs, v.oneCell' = true)
    (h : ∀ w', w'.ownsRow B elem 2 (.slice (some ⟨g, 0, none⟩) n cap) n (zs.take (j * 2) ++ cs ++ zs.drop (j * 2 + m * 2)) → w.grownBy w' (some g) → wpList P ops Q rest (a.put o.dst (goInt m)) w') : wpList P ops Q (o :: rest) a w := by
  refine wpList_plain hgd fun K hK => ?_
  obtain ⟨w', hrun, h2, h3⟩ := copy_into (ty := o.type) (dT := dT) (sT := sT) hu hs hown hj hsrc hm h1
  unfold Oper.wp
  simp [execOp, ho, resolve, invoke, builtin, hd, hv, hrun, Result.andThen]
  exact hK _ _ (h w' h2 h3)

/-- A copy of nothing into a piece of no element. -/
theorem wpList_cpZ {P : Program} {w : World} {ops : Array Oper} {rest : List Oper} {o : Oper} {a : Act} {Q : Exit → Act → World → Prop} (hgd : o.guard = none)
    (d s : Operand) (dT sT : TypeId) (ho : o.op = Op.call { callee := Callee.builtin Builtin.copy, args := #[d, s], argTypes := #[dT, sT] }) (elem : TypeId)
    (hu : P.underlying dT = some (.slice elem)) (hs : (P.info? elem).map (·.size) = some 2) (B g n cap : Nat) (u : Value) (zs : List Value)
    (hd : a.eval d = .slice (some ⟨g, 0, none⟩) 0 0) (hv : a.eval s = u) (hown : w.ownsRow B elem 2 (.slice (some ⟨g, 0, none⟩) n cap) n zs) (hsrc : Sv 2 w u [])
    (h : wpList P ops Q rest (a.put o.dst (goInt 0)) w) : wpList P ops Q (o :: rest) a w := by
  refine wpList_plain hgd fun K hK => ?_
  have hrun : (Builtin.copy_ #[dT, sT] o.type #[.slice (some ⟨g, 0, none⟩) 0 0, u]).run P w = .ok (goInt 0) w := by
    obtain ⟨ad, len, cap', rfl, h2, h3, h4, h5, hc⟩ := hsrc
    obtain rfl : len = 0 := by have h2' : (0 : Nat) = len * 2 := h2; omega
    cases ad with
    | none =>
      obtain rfl : cap' = 0 := h5 rfl
      exact run_copy_nil P w dT sT o.type elem ⟨g, 0, none⟩ 0 0 hu (by rw [hs]; rfl)
    | some ad =>
      obtain ⟨hl, ⟨hv', _⟩ | ⟨g', c', cur, hv', hB, hh, hn, hmx, hsz, ht⟩⟩ := hown
      · cases hv'
      · cases hv'
        have := run_copy_rows (P := P) w dT sT o.type elem g 0 0 0 ad 0 cap' cur elem [] 2 hu hs hh rfl (fun i v hv => by simp at hv) (by simp) (fun v hv => by cases hv)
        rw [this]
        simp [setRow_self w g cur elem (0, 0) hh]
  unfold Oper.wp
  simp [execOp, ho, resolve, invoke, builtin, hd, hv, hrun, Result.andThen]
  exact hK _ _ h

theorem pairs_oneCell (rs : List (ByteArray × ByteArray)) : ∀ v ∈ pairCells rs, v.oneCell' = true := by
  intro v hv
  unfold pairCells at hv
  obtain ⟨r, _, hr⟩ := List.mem_flatMap.mp hv
  simp only [List.mem_cons, List.not_mem_nil, or_false] at hr
  rcases hr with rfl | rfl <;> rfl
end Go.Proofs.YtkljadaggnbjkaaGreat

/- What stands ahead of the last bar: the specification's l11From and FmtClear, the program's lastBar, first and FmtClear, of every list. -/
namespace Go.Proofs.YtkljadaggnbjkaaGreat
open Go.RowKit
set_option maxRecDepth 100000
set_option linter.unusedVariables false

/-- The place behind the last bar among the first n. -/
def barAt (xs : List Int) : Nat → Nat
  | 0 => 0
  | n + 1 => if xs.getD n 0 = -1 then n + 1 else barAt xs n
theorem barAt_le (xs : List Int) (n : Nat) : barAt xs n ≤ n := by
  induction n with
  | zero => exact Nat.le_refl _
  | succ n ih => unfold barAt; split <;> omega
theorem barAt_no {xs : List Int} {n : Nat} (h : ¬ xs.getD n 0 = -1) : barAt xs (n + 1) = barAt xs n := by rw [barAt, if_neg h]
theorem barAt_yes {xs : List Int} {n : Nat} (h : xs.getD n 0 = -1) : barAt xs (n + 1) = n + 1 := by rw [barAt, if_pos h]
def clearL (xs : List Int) : List Int := xs.take (barAt xs xs.length - 1)
theorem clearL_len (xs : List Int) : (clearL xs).length ≤ xs.length := by simp [clearL]; omega
theorem sl_take {K : IntKind} {w : World} {a : Option Addr} {xs : List Int} {ca k : Nat} (h : Sl K w (.slice a xs.length ca) xs) (hk : k ≤ xs.length) : Sl K w (.slice a k ca) (xs.take k) := by
  obtain ⟨a', ca', e, h1, h2, h3, h4⟩ := h
  cases e
  have hl : (xs.take k).length = k := by simp; omega
  refine ⟨a, ca, by rw [hl], by omega, h2, h3, ?_⟩
  intro j hj
  rw [hl] at hj
  obtain ⟨b, off, e, c⟩ := h4 j (by omega)
  refine ⟨b, off, e, ?_⟩
  rw [c]
  simp [List.getD_eq_getElem?_getD, hj]

theorem smax_any (x y : Int) (w : World) :
    Calls Tryz.prog 46 #[.int .i64 x, .int .i64 y] w fun e w' => e = .returned (.int .i64 (if x > y then x else y)) ∧ w' = w := by
  by_cases h : x > y
  · rw [if_pos h]
    go_enter Tryz.func46, Tryz.ntmps46
    go_wp2
    go_ret
    exact ⟨rfl, rfl⟩
  · rw [if_neg h]
    go_enter Tryz.func46, Tryz.ntmps46
    go_wp2
    go_ret
    exact ⟨rfl, rfl⟩

set_option maxRecDepth 100000 in
theorem iwith_none {v : Value} {xs : List Int} {w : World} (h : Sl .i64 w v xs) (hn : xs.length ≤ 1048576) :
    Calls Tryz.prog 20 #[v, .slice none 0 0] w fun e w' => ∃ v', e = .returned v' ∧ Own w.heap.size 3 .i64 w' v' xs ∧ Below w.heap.size w w' := by
  have HS := (show Hid (Sl .i64 w v xs) from h)
  obtain ⟨a, ca, rfl, _, _, _, ha⟩ := h
  clear ha
  obtain ⟨i0, hi, hz0, hz1, hz2⟩ := info_parts Tryz.infoI
  go_enter Tryz.func20, Tryz.ntmps20
  go_wp2_with (first
    | (at_make; refine wpList_mkn _ rfl (.tmp 10) (.tmp 10) 43 rfl 3 i0 .i64 Tryz.underlying43 hi hz0 hz1 xs.length xs.length xs.length rfl rfl rfl rfl (by rw [hz2]; omega) (by unfold maxLen; omega) ?_; intro w1 o1 b1)
    | (refine wpList_cp rfl (.tmp 12) (.tmp 13) 43 rfl 3 Tryz.underlying43 Tryz.sizeI w.heap.size .i64 _ _ _ xs rfl rfl o1 (HS.out.below b1) (by simp) ?_; intro w2 o2 g2; have b2 := b1.grown g2 b1.size o1.grownAt)
    | (refine wpList_copy_nothing rfl (.tmp 18) (.tmp 19) 43 27 rfl 3 Tryz.underlying43 Tryz.sizeI _ _ 0 _ 0 0 rfl rfl rfl ?_))
  go_ret
  exact ⟨_, rfl, o2, b2⟩

set_option maxRecDepth 100000 in
theorem ifirst_any {v : Value} {xs : List Int} {w : World} (h : Sl .i64 w v xs) (hn : xs.length ≤ 1048576) (k : Nat) (hk : k ≤ xs.length) :
    Calls Tryz.prog 73 #[v, .int .i64 k] w fun e w' => ∃ v', e = .returned v' ∧ Own w.heap.size 3 .i64 w' v' (xs.take k) ∧ Below w.heap.size w w' := by
  have HS := (show Hid (Sl .i64 w v xs) from h)
  obtain ⟨a, ca, rfl, _, _, _, ha⟩ := h
  clear ha
  go_enter Tryz.func73, Tryz.ntmps73
  go_wp2_with fail
  go_at_call 20
  have ht := sl_take HS.out hk
  have hl : (xs.take k).length = k := by simp; omega
  refine (iwith_none ht (by omega)).mono ?_
  rintro e w1 ⟨v1, rfl, o1, b1⟩
  go_wp2
  go_ret
  exact ⟨_, rfl, o1, b1⟩

set_option maxRecDepth 100000 in
theorem ifirst_one {a : Option Addr} {ca : Nat} {w : World} (h : Sl .i64 w (.slice a 0 ca) []) :
    Calls Tryz.prog 73 #[.slice a 0 ca, .int .i64 1] w fun e w' => ∃ v', e = .returned v' ∧ Own w.heap.size 3 .i64 w' v' [] ∧ Below w.heap.size w w' := by
  have HS := (show Hid (Sl .i64 w (.slice a 0 ca) []) from h)
  clear h
  go_enter Tryz.func73, Tryz.ntmps73
  go_wp2_with fail
  go_at_call 20
  refine (iwith_none HS.out (by simp)).mono ?_
  rintro e w1 ⟨v1, rfl, o1, b1⟩
  go_wp2
  go_ret
  exact ⟨_, rfl, o1, b1⟩

theorem barIf (n : Nat) : (if (n : Int) - 1 > 0 then (n : Int) - 1 else 0) = ((n - 1 : Nat) : Int) := by split <;> omega

end Go.Proofs.YtkljadaggnbjkaaGreat

/- The specification's functions on a row of open elements. No condition. -/
namespace Go.Proofs.YtkljadaggnbjkaaGreat
open Go.RowKit
set_option maxRecDepth 100000
set_option linter.unusedVariables false

theorem shas_any {w : World} {a : Option Addr} {n cap : Nat} (x : Int) (hn : n ≤ 1048576) :
    Calls Tryz.prog 77 #[.agg #[.slice a n cap], .int .i64 x] w fun e w' => e = .returned (.bool (inB x 0 ((n : Int) - 1))) ∧ Below w.heap.size w w' := by
  have CI := (show Hid _ from fun w => l1In_any x 0 ((n : Int) - 1) w)
  have b1 : Below w.heap.size w (w.alloc (.cells #[.slice a n cap] 26)) := (Below.refl _ _).alloc (Nat.le_refl _) _
  go_enter Tryz.func77, Tryz.ntmps77
  go_wp2_with fail
  go_at_call 35
  refine Calls.mono (CI.out _) ?_
  rintro e w1 ⟨rfl, rfl⟩
  go_wp2
  go_ret
  exact ⟨rfl, b1⟩

theorem selement_any {w : World} {v : Value} {ns : List PNode} (hn : NodesAt w v ns) (hlen : ns.length ≤ 1048576) (x : Int) :
    Calls Tryz.prog 50 #[.agg #[v], .int .i64 x] w fun e w' => e = .returned (.bool (elB ns x)) ∧ Below w.heap.size w w' := by
  obtain ⟨a, cap, rfl, hc1, hc2, hcs⟩ := hn.slice
  have HCS := (show Hid _ from hcs)
  have b1 : Below w.heap.size w (w.alloc (.cells #[.slice a ns.length cap] 26)) := (Below.refl _ _).alloc (Nat.le_refl _) _
  have g1 : (w.alloc (.cells #[.slice a ns.length cap] 26)).heap[w.heap.size]? = some (.cells #[.slice a ns.length cap] 26 (0, 0)) := World.alloc_heap_new _ _
  have CH := (show Hid _ from fun w => shas_any (w := w) (a := a) (cap := cap) x hlen)
  have HG1 := (show Hid _ from g1)
  have HB1 := (show Hid _ from b1)
  clear hcs hn g1 b1
  go_enter Tryz.func50, Tryz.ntmps50
  go_wp2_with fail
  go_at_call 77
  refine Calls.mono (CH.out _) ?_
  rintro e w2 ⟨rfl, b2⟩
  have hb := HB1.out.trans (b2.mono HB1.out.size)
  have c1 : w2.cell? ⟨w.heap.size, 0, none⟩ = some (.slice a ns.length cap) := by
    have := (b2.block _ (blk_lt HG1.out)).trans HG1.out
    simp only [World.cell?, this]; rfl
  have HB := (show Hid _ from hb)
  clear b2 HG1 HB1 CH
  cases hi : inB x 0 ((ns.length : Int) - 1) with
  | false =>
    have HE : Hid (elB ns x = false) := by rw [elB, hi]; rfl
    clear hi
    go_wp2
    go_ret
    exact ⟨by rw [HE.out]; rfl, HB.out⟩
  | true =>
    obtain ⟨k, rfl, hk⟩ := inB_at hi
    have HE : Hid (elB ns (k : Int) = decide (ns[k].kind = 3)) := by rw [elB, hi, kdOf_at hk]; rfl
    obtain ⟨b, off, av, kv, rfl, hblt, d0, _⟩ := HCS.out k hk
    replace d0 := (hb.cell (p := ⟨b, off + k * 6, none⟩) hblt).trans d0
    obtain ⟨q, hq⟩ : ∃ q, q = ns[k].kind := ⟨_, rfl⟩
    rw [← hq] at d0 HE
    clear hi hq hb
    go_wp2
    go_ret
    exact ⟨by rw [HE.out]; rfl, HB.out⟩

/-- The first k of a row are elements, none of them twice. -/
def RowK (ns : List PNode) (row : List Int) (k : Nat) : Prop := ∀ i (h : i < row.length), i < k → elB ns row[i] = true ∧ ∀ j (hj : j < i), row[j] ≠ row[i]
theorem rowK_zero (ns : List PNode) (row : List Int) : RowK ns row 0 := fun i _ h => absurd h (Nat.not_lt_zero i)
theorem rowK_succ {ns : List PNode} {row : List Int} {k : Nat} (h : RowK ns row k) (hk : k < row.length) (he : elB ns row[k] = true) (ho : ∀ j (hj : j < k), row[j] ≠ row[k]) : RowK ns row (k + 1) := fun i hi hik => by
  by_cases e : i = k
  · subst e; exact ⟨he, ho⟩
  · exact h i hi (by omega)
theorem rowK_all {ns : List PNode} {row : List Int} (h : RowK ns row row.length) (hl : row.length ≤ 40) : RowP ns row := ⟨hl, fun i hi => (h i hi hi).1, fun i k hi hk => (h i hi hi).2 k hk⟩

set_option maxHeartbeats 1000000 in
set_option maxRecDepth 100000 in
theorem srow_any {w : World} {v rv : Value} {ns : List PNode} {row : List Int} (hn : NodesAt w v ns) (hlen : ns.length ≤ 1048576) (hr : Sl .i64 w rv row) (hrl : row.length ≤ 1048576) :
    Calls Tryz.prog 26 #[.agg #[v], rv] w fun e w' => ∃ r, e = .returned (.bool r) ∧ (r = true ↔ RowP ns row) ∧ Below w.heap.size w w' := by
  have HN := (show Hid (NodesAt w v ns) from hn)
  have HR := (show Hid (Sl .i64 w rv row) from hr)
  obtain ⟨a, cap, rfl, hc1, hc2, _⟩ := hn.slice
  obtain ⟨ra, rc, rfl, _, _, _, hra⟩ := hr
  have HRA := (show Hid _ from hra)
  clear hn hra
  by_cases h40 : 40 < row.length
  · have HF : Hid (¬ RowP ns row) := fun h => by have := h.len; omega
    go_enter Tryz.func26, Tryz.ntmps26
    go_wp2
    go_ret
    exact ⟨false, rfl, by simpa using HF.out, (Below.refl _ _).alloc (Nat.le_refl _) _⟩
  obtain ⟨w1, hw1⟩ : ∃ w1, w1 = w.alloc (.cells #[.slice a ns.length cap] 26) := ⟨_, rfl⟩
  have b1 : Below w.heap.size w w1 := by rw [hw1]; exact (Below.refl _ _).alloc (Nat.le_refl _) _
  have g1 : w1.heap[w.heap.size]? = some (.cells #[.slice a ns.length cap] 26 (0, 0)) := by rw [hw1]; exact World.alloc_heap_new _ _
  have cT : w1.cell? ⟨w.heap.size, 0, none⟩ = some (.slice a ns.length cap) := by simp only [World.cell?, g1]; rfl
  have hs1 := blk_lt g1
  have HCT := (show Hid _ from cT)
  have ne := Wd.any w1.heap.size w1
  go_enter Tryz.func26, Tryz.ntmps26
  go_wp2
  rw [← hw1]
  clear hw1 g1 cT
  go_loopw [5] (fun i wr => ∃ k : Nat, k ≤ row.length ∧ i = .int .i64 k ∧ RowK ns row k ∧ Below w1.heap.size w1 wr) (fun i _ => row.length - (intOf i).toNat)
  case atStart => exact ⟨0, Nat.zero_le _, rfl, rowK_zero _ _, Below.refl _ _⟩
  case round =>
    obtain ⟨k, hk, rfl, hK, bel⟩ := hrel
    have HK := (show Hid (RowK ns row k) from hK)
    have hb := b1.trans (bel.mono b1.size)
    clear hK
    by_cases hlt : k < row.length
    · obtain ⟨rb, ro, rfl, c1⟩ := HRA.out k hlt
      have hrb := lt_of_cell c1
      have HX : Hid (row.getD k 0 = row[k]) := (show row.getD k 0 = row[k] by simp [List.getD_eq_getElem?_getD, hlt])
      rw [HX.out] at c1
      have f1 : ∀ n : Wd w1.heap.size w1, n.w.cell? ⟨rb, ro + k, none⟩ = some (.int .i64 row[k]) := fun n => ((b1.trans (n.below.mono b1.size)).cell (p := ⟨rb, ro + k, none⟩) hrb).trans c1
      have f0 : ∀ n : Wd w1.heap.size w1, n.w.cell? ⟨w.heap.size, 0, none⟩ = some (.slice a ns.length cap) := fun n => (n.below.cell (p := ⟨w.heap.size, 0, none⟩) hs1).trans HCT.out
      have CE := (show Hid (∀ n : Wd w1.heap.size w1, Calls Tryz.prog 50 #[.agg #[.slice a ns.length cap], .int .i64 row[k]] n.w fun e w' => e = .returned (.bool (elB ns row[k])) ∧ Below n.w.heap.size n.w w') from fun n => selement_any (HN.out.below (b1.trans (n.below.mono b1.size))) hlen _)
      obtain ⟨x, hx⟩ : ∃ x, x = row[k] := ⟨_, rfl⟩
      obtain ⟨el, hel⟩ : ∃ el, el = elB ns row[k] := ⟨_, rfl⟩
      rw [← hel] at CE
      rw [← hx] at f1 CE
      have HEL := (show Hid (el = elB ns row[k]) from hel)
      have HXX := (show Hid (x = row[k]) from hx)
      clear hx hel c1
      go_wp2
      refine wp_region_below (by kernel_rfl) (by kernel_rfl) bel ?_
      repeat (go_big_quiet_step ((go_at_call 50; exact quiet_below (CE.out _) (Nat.le_refl _))))
      refine wpQuiet_nil ?_
      intro wq hq
      replace hq := Wd.of hq
      cases el
      · have HF : Hid (¬ RowP ns row) := fun h => by have := h.el k hlt; rw [← HEL.out] at this; cases this
        go_wp2
        go_ret
        exact ⟨false, rfl, by simpa using HF.out, b1.trans (hq.mono b1.size)⟩
      · go_wp2
        go_loopw [6] (fun j ws => ∃ l : Nat, l ≤ k ∧ j = .int .i64 l ∧ (∀ m (hm : m < l) (hmr : m < row.length), row[m] ≠ row[k]) ∧ Below w1.heap.size w1 ws) (fun j _ => k - (intOf j).toNat)
        case atStart => exact ⟨0, Nat.zero_le _, rfl, fun m hm => absurd hm (Nat.not_lt_zero m), hq⟩
        case round =>
          obtain ⟨l, hl, rfl, hM, bel2⟩ := hrel
          have HM := (show Hid (∀ m (hm : m < l) (hmr : m < row.length), row[m] ≠ row[k]) from hM)
          clear hM
          by_cases hlk : l < k
          · obtain ⟨_, _, e2, c2⟩ := HRA.out l (by omega)
            cases e2
            have HY : Hid (row.getD l 0 = row[l]'(by omega)) := (show row.getD l 0 = row[l]'(by omega) by simp [List.getD_eq_getElem?_getD, show l < row.length by omega])
            rw [HY.out] at c2
            have f2 : ∀ n : Wd w1.heap.size w1, n.w.cell? ⟨rb, ro + l, none⟩ = some (.int .i64 (row[l]'(by omega))) := fun n => ((b1.trans (n.below.mono b1.size)).cell (p := ⟨rb, ro + l, none⟩) hrb).trans c2
            obtain ⟨y, hy⟩ : ∃ y, y = row[l]'(by omega) := ⟨_, rfl⟩
            rw [← hy] at f2
            have HYY := (show Hid (y = row[l]'(by omega)) from hy)
            clear hy c2
            obtain ⟨q, hq'⟩ : ∃ q, q = (y == x) := ⟨_, rfl⟩
            have HQ := (show Hid (q = (y == x)) from hq')
            go_wp2
            refine wp_region_below (by kernel_rfl) (by kernel_rfl) bel2 ?_
            repeat (go_big_quiet_step (fail))
            refine wpQuiet_nil ?_
            intro wq2 hq2
            replace hq2 := Wd.of hq2
            rw [← hq']
            clear hq'
            cases q
            · have HNE : Hid (row[l]'(by omega) ≠ row[k]) := fun e => by have := HQ.out; rw [HYY.out, HXX.out, e] at this; simp at this
              go_wp2
              go_roundw
              case rel =>
                refine ⟨l + 1, by omega, by go_num, fun m hm hmr => ?_, hq2⟩
                by_cases e : m = l
                · subst e; exact HNE.out
                · exact HM.out m (by omega) hmr
              case measure => simp [intOf]; omega
            · have HF : Hid (¬ RowP ns row) := fun h => by
                have := HQ.out
                rw [HYY.out, HXX.out] at this
                exact h.once k l hlt hlk (by simpa using this.symm)
              go_wp2
              go_ret
              exact ⟨false, rfl, by simpa using HF.out, b1.trans (hq2.mono b1.size)⟩
          · have hlk' : l = k := by omega
            have HS : Hid (RowK ns row (k + 1)) := rowK_succ HK.out hlt HEL.out.symm (fun j hj => HM.out j (by omega) (by omega))
            go_wp2
            go_roundw
            case rel => exact ⟨k + 1, by omega, by go_num, HS.out, bel2⟩
            case measure => simp [intOf]; omega
    · have hke : k = row.length := by omega
      have HP : Hid (RowP ns row) := rowK_all (by rw [← hke]; exact HK.out) (by omega)
      go_wp2
      go_ret
      exact ⟨true, rfl, by simpa using HP.out, hb⟩
end Go.Proofs.YtkljadaggnbjkaaGreat

/- The program's functions on a row of open elements: what a row is. No condition. -/
namespace Go.Proofs.YtkljadaggnbjkaaGreat
open Go.RowKit
set_option maxRecDepth 100000
set_option linter.unusedVariables false

set_option maxRecDepth 100000 in
theorem index_any {v : Value} {xs : List Int} {w : World} (h : Sl .i64 w v xs) (hn : xs.length ≤ 1048576) (x : Int) :
    Calls Tryz.prog 87 #[v, .int .i64 x] w fun e w' => ∃ r : Int, e = .returned (.int .i64 r) ∧ (0 ≤ r ↔ ∃ j, ∃ h : j < xs.length, xs[j] = x) ∧ Below w.heap.size w w' := by
  obtain ⟨a, ca, rfl, _, _, _, ha⟩ := h
  go_enter Tryz.func87, Tryz.ntmps87
  go_wp2
  go_loopw [8] (fun i wr => ∃ k : Nat, k ≤ xs.length ∧ i = .int .i64 k ∧ (∀ j (h : j < xs.length), j < k → xs[j] ≠ x) ∧ ∃ n, wr = w.drewN n) (fun i _ => xs.length - (intOf i).toNat)
  case atStart => exact ⟨0, Nat.zero_le _, rfl, fun j _ hj => absurd hj (Nat.not_lt_zero j), 0, rfl⟩
  case round =>
    obtain ⟨k, hk, rfl, hN, n, rfl⟩ := hrel
    have HN := (show Hid (∀ j (h : j < xs.length), j < k → xs[j] ≠ x) from hN)
    clear hN
    by_cases hlt : k < xs.length
    · obtain ⟨b1, o1, rfl, c1⟩ := ha k hlt
      have HX : Hid (xs.getD k 0 = xs[k]) := (show xs.getD k 0 = xs[k] by simp [List.getD_eq_getElem?_getD, hlt])
      rw [HX.out] at c1
      obtain ⟨y, hy⟩ : ∃ y, y = xs[k] := ⟨_, rfl⟩
      rw [← hy] at c1
      have HY := (show Hid (y = xs[k]) from hy)
      clear ha hy
      by_cases hq : x = y
      · have HR : Hid (0 ≤ (k : Int) ↔ ∃ j, ∃ h : j < xs.length, xs[j] = x) := ⟨fun _ => ⟨k, hlt, by rw [hq, HY.out]⟩, fun _ => Int.natCast_nonneg _⟩
        subst hq
        go_wp2
        go_ret
        exact ⟨_, rfl, HR.out, below_drewN n⟩
      · have hq1 : (x == y) = false := by simp [hq]
        have HS : Hid (∀ j (h : j < xs.length), j < k + 1 → xs[j] ≠ x) := fun j h hj => by
          by_cases e : j = k
          · subst e; rw [← HY.out]; exact fun e => hq e.symm
          · exact HN.out j h (by omega)
        clear hq
        go_wp2
        go_roundw
        case rel => exact ⟨k + 1, by omega, by go_num, HS.out, n, rfl⟩
        case measure => simp [intOf]; omega
    · have HR : Hid (0 ≤ (-1 : Int) ↔ ∃ j, ∃ h : j < xs.length, xs[j] = x) := ⟨fun h => absurd h (by decide), fun ⟨j, h, e⟩ => absurd e (HN.out j h (by omega))⟩
      clear ha
      go_wp2
      go_ret
      exact ⟨_, rfl, HR.out, below_drewN n⟩

theorem contains_any {v : Value} {xs : List Int} {w : World} (h : Sl .i64 w v xs) (hn : xs.length ≤ 1048576) (x : Int) :
    Calls Tryz.prog 69 #[v, .int .i64 x] w fun e w' => ∃ r, e = .returned (.bool r) ∧ (r = true ↔ ∃ j, ∃ h : j < xs.length, xs[j] = x) ∧ Below w.heap.size w w' := by
  have HS := (show Hid (Sl .i64 w v xs) from h)
  obtain ⟨a, ca, rfl, _, _, _, ha⟩ := h
  clear ha
  go_enter Tryz.func69, Tryz.ntmps69
  go_wp2_with fail
  go_at_call 87
  refine (index_any HS.out hn x).mono ?_
  rintro e w1 ⟨r, rfl, hr, b1⟩
  have HR := (show Hid _ from hr)
  clear hr
  go_wp2
  go_ret
  exact ⟨decide (0 ≤ r), rfl, by rw [decide_eq_true_iff]; exact HR.out, b1⟩

set_option maxHeartbeats 1000000 in
set_option maxRecDepth 100000 in
theorem ifits_any {w : World} {A : Nat} {v rv : Value} {ns : List PNode} {row : List Int} (hn : NodesAt w v ns) (hlen : ns.length ≤ 1048576) (cA : w.cell? ⟨A, 0, none⟩ = some v) (hr : Sl .i64 w rv row) (hrl : row.length ≤ 1048576) :
    Calls Tryz.prog 42 #[.agg #[rv, .pointer (some ⟨A, 0, none⟩)]] w fun e w' => ∃ r, e = .returned (.bool r) ∧ (r = true ↔ RowP ns row) ∧ Below w.heap.size w w' := by
  have HR := (show Hid (Sl .i64 w rv row) from hr)
  have hAlt := lt_of_cell cA
  obtain ⟨a, cap, rfl, hc1, hc2, hcs⟩ := hn.slice
  have HCS := (show Hid _ from hcs)
  have HCA := (show Hid _ from cA)
  obtain ⟨ra, rc, rfl, _, _, _, hra⟩ := hr
  have HRA := (show Hid _ from hra)
  clear hn hra hcs cA
  by_cases h40 : 40 < row.length
  · have HF : Hid (¬ RowP ns row) := fun h => by have := h.len; omega
    go_enter Tryz.func42, Tryz.ntmps42
    go_wp2
    go_ret
    exact ⟨false, rfl, by simpa using HF.out, (Below.refl _ _).alloc (Nat.le_refl _) _⟩
  obtain ⟨w1, hw1⟩ : ∃ w1, w1 = w.alloc (.cells #[.slice ra row.length rc, .pointer (some ⟨A, 0, none⟩)] 46) := ⟨_, rfl⟩
  have b1 : Below w.heap.size w w1 := by rw [hw1]; exact (Below.refl _ _).alloc (Nat.le_refl _) _
  have g1 : w1.heap[w.heap.size]? = some (.cells #[.slice ra row.length rc, .pointer (some ⟨A, 0, none⟩)] 46 (0, 0)) := by rw [hw1]; exact World.alloc_heap_new _ _
  have HG1 := (show Hid _ from g1)
  clear g1
  go_enter Tryz.func42, Tryz.ntmps42
  go_wp2
  rw [← hw1]
  clear hw1
  go_loopw [12] (fun i wr => ∃ k : Nat, k ≤ row.length ∧ i = .int .i64 k ∧ RowK ns row k ∧ Below w1.heap.size w1 wr) (fun i _ => row.length - (intOf i).toNat)
  case atStart => exact ⟨0, Nat.zero_le _, rfl, rowK_zero _ _, Below.refl _ _⟩
  case round =>
    obtain ⟨k, hk, rfl, hK, bel⟩ := hrel
    have HK := (show Hid (RowK ns row k) from hK)
    have hb := b1.trans (bel.mono b1.size)
    clear hK
    by_cases hlt : k < row.length
    · obtain ⟨rb, ro, rfl, c1⟩ := HRA.out k hlt
      have hrb := lt_of_cell c1
      have HX : Hid (row.getD k 0 = row[k]) := (show row.getD k 0 = row[k] by simp [List.getD_eq_getElem?_getD, hlt])
      rw [HX.out] at c1
      replace c1 := (hb.cell (p := ⟨rb, ro + k, none⟩) hrb).trans c1
      have gr := (bel.block _ (blk_lt HG1.out)).trans HG1.out
      have r0 : wr.cell? ⟨w.heap.size, 0, none⟩ = some (.slice (some ⟨rb, ro, none⟩) row.length rc) := by simp only [World.cell?, gr]; rfl
      have r1 : wr.cell? ⟨w.heap.size, 1, none⟩ = some (.pointer (some ⟨A, 0, none⟩)) := by simp only [World.cell?, gr]; rfl
      have cA : wr.cell? ⟨A, 0, none⟩ = some (.slice a ns.length cap) := (hb.cell (p := ⟨A, 0, none⟩) hAlt).trans HCA.out
      have CH := (show Hid _ from fun x => ihas_any cA x)
      obtain ⟨x, hx⟩ : ∃ x, x = row[k] := ⟨_, rfl⟩
      rw [← hx] at c1
      have HXX := (show Hid (x = row[k]) from hx)
      clear hx gr
      by_cases hin : 0 ≤ x ∧ x < ns.length
      · have CH1 := (show Hid _ from CH.out x)
        rw [decide_eq_true hin] at CH1
        clear CH
        obtain ⟨m, rfl⟩ : ∃ m : Nat, x = (m : Int) := ⟨x.toNat, by omega⟩
        have hm : m < ns.length := by omega
        have HEL : Hid (elB ns row[k] = decide (ns[m].kind = 3)) := (show elB ns row[k] = decide (ns[m].kind = 3) by rw [← HXX.out, elB, inB_yes (by omega) (by omega), kdOf_at hm]; rfl)
        obtain ⟨b, off, av, kv, rfl, hblt, d0, _⟩ := HCS.out m hm
        replace d0 := (hb.cell (p := ⟨b, off + m * 6, none⟩) hblt).trans d0
        obtain ⟨q, hq⟩ : ∃ q, q = ns[m].kind := ⟨_, rfl⟩
        rw [← hq] at d0 HEL
        clear hq hin
        by_cases hq3 : q = 3
        · subst hq3
          have HE : Hid (elB ns row[k] = true) := HEL.out
          clear HEL
          have ht := sl_take (HR.out.below hb) (k := k) (by omega)
          have hl : (row.take k).length = k := by simp; omega
          have CC := (show Hid _ from contains_any ht (by omega) (m : Int))
          go_wp2_with (first
            | (go_at_call 68; refine Calls.mono CH1.out ?_; rintro e w2 ⟨rfl, rfl⟩)
            | fail)
          go_at_call 69
          refine Calls.mono CC.out ?_
          rintro e w2 ⟨r, rfl, hr, b2⟩
          have HRR := (show Hid _ from hr)
          clear hr
          cases r
          · have HS : Hid (RowK ns row (k + 1)) := rowK_succ HK.out hlt HE.out (fun j hj e => by
              have := HRR.out.mpr ⟨j, by omega, by rw [List.getElem_take, e, HXX.out]⟩
              cases this)
            go_wp2
            go_roundw
            case rel => exact ⟨k + 1, by omega, by go_num, HS.out, bel.trans (b2.mono bel.size)⟩
            case measure => simp [intOf]; omega
          · have HF : Hid (¬ RowP ns row) := fun h => by
              obtain ⟨j, hj, e⟩ := HRR.out.mp rfl
              rw [List.getElem_take, HXX.out] at e
              exact h.once k j hlt (by omega) e
            go_wp2
            go_ret
            exact ⟨false, rfl, by simpa using HF.out, hb.trans (b2.mono hb.size)⟩
        · have HF : Hid (¬ RowP ns row) := fun h => by have := h.el k hlt; rw [HEL.out, decide_eq_false hq3] at this; cases this
          have hq4 : (q != 3) = true := by simp [hq3]
          clear hq3
          go_wp2_with (first
            | (go_at_call 68; refine Calls.mono CH1.out ?_; rintro e w2 ⟨rfl, rfl⟩)
            | fail)
          go_ret
          exact ⟨false, rfl, by simpa using HF.out, hb⟩
      · have CH1 := (show Hid _ from CH.out x)
        rw [decide_eq_false hin] at CH1
        have HF : Hid (¬ RowP ns row) := fun h => by
          have := h.el k hlt
          rw [← HXX.out, elB, inB_no (by omega)] at this
          cases this
        clear CH hin
        go_wp2_with (first
          | (go_at_call 68; refine Calls.mono CH1.out ?_; rintro e w2 ⟨rfl, rfl⟩)
          | fail)
        go_ret
        exact ⟨false, rfl, by simpa using HF.out, hb⟩
    · have hke : k = row.length := by omega
      have HP : Hid (RowP ns row) := rowK_all (by rw [← hke]; exact HK.out) (by omega)
      go_wp2
      go_ret
      exact ⟨true, rfl, by simpa using HP.out, hb⟩
end Go.Proofs.YtkljadaggnbjkaaGreat

/- The program's openRowOf. No condition. -/
namespace Go.Proofs.YtkljadaggnbjkaaGreat
open Go.RowKit
set_option maxRecDepth 100000
set_option linter.unusedVariables false

theorem row_res {tmps : Array Value} {w : World} {g : Nat} {a : Option Addr} {n c : Nat} {p : Option Addr} {b : Bool} (h4 : tmps.getD 4 undef = .pointer (some ⟨g, 0, none⟩)) (h5 : tmps.getD 5 undef = .bool b) (hb : w.heap[g]? = some (.cells #[.slice a n c, .pointer p] 46 (0, 0))) :
    (results Tryz.f19 tmps).run Tryz.prog w = .ok (.tuple #[.agg #[.slice a n c, .pointer p], .bool b]) w := by
  rw [results_cell_tmp (p := 4) (u := 5) (ty := 46) rfl, h4, h5]
  simp [asAddr, run_loadVar_row w g 46 46 #[.slice a n c, .pointer p] (0, 0) _ hb Tryz.underlying46 rfl rfl, Result.andThen]

set_option maxHeartbeats 1000000 in
set_option maxRecDepth 100000 in
theorem iopenRow_any {w : World} {v rv : Value} {ns : List PNode} {row : List Int} (hn : NodesAt w v ns) (hfit : ∀ n ∈ ns, NodeFit n) (hlen : ns.length ≤ 1048576) (hr : Sl .i64 w rv row) (hrl : row.length ≤ 1048576) :
    Calls Tryz.prog 19 #[.agg #[v], rv] w fun e w' => ∃ A r, e = .returned (.tuple #[.agg #[rv, .pointer (some ⟨A, 0, none⟩)], .bool r]) ∧ w'.cell? ⟨A, 0, none⟩ = some v ∧ (r = true ↔ TreeOkP ns ∧ RowP ns row) ∧ Below w.heap.size w w' := by
  have HN := (show Hid (NodesAt w v ns) from hn)
  have HR := (show Hid (Sl .i64 w rv row) from hr)
  have HFIT := (show Hid _ from hfit)
  obtain ⟨a, cap, rfl, hc1, hc2, _⟩ := hn.slice
  obtain ⟨ra, rc, rfl, _, _, _, hra⟩ := hr
  clear hn hra hfit
  obtain ⟨w4, hw4⟩ : ∃ w4, w4 = (((w.alloc (.cells #[.slice a ns.length cap] 26)).alloc (.cells #[.slice none 0 0, .pointer none] 46)).alloc (.cells #[.slice a ns.length cap] 69)).alloc (.cells #[.slice ra row.length rc, .pointer (some ⟨w.heap.size + 1 + 1, 0, none⟩)] 46) := ⟨_, rfl⟩
  have hs4 : w4.heap.size = w.heap.size + 1 + 1 + 1 + 1 := by rw [hw4]; simp only [World.size_alloc]
  have b4 : Below w.heap.size w w4 := by rw [hw4]; exact ((((Below.refl _ w).alloc (Nat.le_refl _) _).alloc (by simp) _).alloc (by simp; omega) _).alloc (by simp; omega) _
  have g0 : w4.heap[w.heap.size]? = some (.cells #[.slice a ns.length cap] 26 (0, 0)) := by
    rw [hw4, Below.heap_alloc _ _ _ (by simp only [World.size_alloc]; omega), Below.heap_alloc _ _ _ (by simp only [World.size_alloc]; omega), Below.heap_alloc _ _ _ (by simp only [World.size_alloc]; omega)]
    exact World.alloc_heap_new _ _
  have g1 : w4.heap[w.heap.size + 1]? = some (.cells #[.slice none 0 0, .pointer none] 46 (0, 0)) := by
    rw [hw4, Below.heap_alloc _ _ _ (by simp only [World.size_alloc]; omega), Below.heap_alloc _ _ _ (by simp only [World.size_alloc]; omega)]
    have := World.alloc_heap_new (w.alloc (.cells #[.slice a ns.length cap] 26)) (.cells #[.slice none 0 0, .pointer none] 46)
    rwa [World.size_alloc] at this
  have g2 : w4.heap[w.heap.size + 1 + 1]? = some (.cells #[.slice a ns.length cap] 69 (0, 0)) := by
    rw [hw4, Below.heap_alloc _ _ _ (by simp)]
    have := World.alloc_heap_new ((w.alloc (.cells #[.slice a ns.length cap] 26)).alloc (.cells #[.slice none 0 0, .pointer none] 46)) (.cells #[.slice a ns.length cap] 69)
    rwa [World.size_alloc, World.size_alloc] at this
  have g3 : w4.heap[w.heap.size + 1 + 1 + 1]? = some (.cells #[.slice ra row.length rc, .pointer (some ⟨w.heap.size + 1 + 1, 0, none⟩)] 46 (0, 0)) := by
    rw [hw4]
    have := World.alloc_heap_new (((w.alloc (.cells #[.slice a ns.length cap] 26)).alloc (.cells #[.slice none 0 0, .pointer none] 46)).alloc (.cells #[.slice a ns.length cap] 69)) (.cells #[.slice ra row.length rc, .pointer (some ⟨w.heap.size + 1 + 1, 0, none⟩)] 46)
    rwa [World.size_alloc, World.size_alloc, World.size_alloc] at this
  obtain ⟨r1, hr1⟩ : ∃ r1 : Bool, (r1 = true ↔ RowP ns row) := by
    by_cases h : RowP ns row
    · exact ⟨true, by simpa using h⟩
    · exact ⟨false, by simpa using h⟩
  obtain ⟨r2, hr2⟩ : ∃ r2 : Bool, (r2 = true ↔ TreeOkP ns) := by
    by_cases h : TreeOkP ns
    · exact ⟨true, by simpa using h⟩
    · exact ⟨false, by simpa using h⟩
  have bd : Below w4.heap.size w4 w4.drew := below_drewN 1
  have G1 := (show Hid _ from g1)
  have G2 := (show Hid _ from g2)
  have G3 := (show Hid _ from g3)
  have G0 := (show Hid _ from g0)
  have CF := (show Hid (∀ w', Below w4.heap.size w4 w' → Calls Tryz.prog 42 #[.agg #[.slice ra row.length rc, .pointer (some ⟨w.heap.size + 1 + 1, 0, none⟩)]] w' fun e w'' => e = .returned (.bool r1) ∧ Below w'.heap.size w' w'') from fun w' hb => by
    have hbw := b4.trans (hb.mono b4.size)
    have cA : w'.cell? ⟨w.heap.size + 1 + 1, 0, none⟩ = some (.slice a ns.length cap) := by
      have := (hb.block _ (blk_lt G2.out)).trans G2.out
      simp only [World.cell?, this]; rfl
    refine Calls.mono (ifits_any (HN.out.below hbw) hlen cA (HR.out.below hbw) hrl) ?_
    rintro e w'' ⟨r, rfl, hr, b⟩
    exact ⟨by rw [Bool.eq_iff_iff.mpr (hr.trans hr1.symm)], b⟩)
  have CT := (show Hid (∀ w', Below w4.heap.size w4 w' → Calls Tryz.prog 43 #[.agg #[.slice a ns.length cap]] w' fun e w'' => e = .returned (.bool r2) ∧ Below w'.heap.size w' w'') from fun w' hb => by
    have hbw := b4.trans (hb.mono b4.size)
    refine Calls.mono (itreeOk_any (HN.out.below hbw) HFIT.out hlen) ?_
    rintro e w'' ⟨r, rfl, hr, b⟩
    exact ⟨by rw [Bool.eq_iff_iff.mpr (hr.trans hr2.symm)], b⟩)
  have c30 : w4.cell? ⟨w.heap.size + 1 + 1 + 1, 0, none⟩ = some (.slice ra row.length rc) := by simp only [World.cell?, g3]; rfl
  have c31 : w4.cell? ⟨w.heap.size + 1 + 1 + 1, 1, none⟩ = some (.pointer (some ⟨w.heap.size + 1 + 1, 0, none⟩)) := by simp only [World.cell?, g3]; rfl
  clear g0 g1 g2 g3
  have HR1 := (show Hid _ from hr1)
  have HR2 := (show Hid _ from hr2)
  have HS4 := (show Hid _ from hs4)
  clear hr1 hr2 hs4
  go_enter Tryz.func19, Tryz.ntmps19
  go_wp2
  rw [← hw4]
  clear hw4
  cases r1
  · go_region_with (first
      | (go_at_call 42; refine Calls.mono (CF.out _ bd) ?_; rintro e w5 ⟨rfl, b5⟩
         have c50 : w5.cell? ⟨w.heap.size + 1 + 1 + 1, 0, none⟩ = some (.slice ra row.length rc) := (b5.cell (p := ⟨w.heap.size + 1 + 1 + 1, 0, none⟩) (blk_lt G3.out)).trans c30
         have c51 : w5.cell? ⟨w.heap.size + 1 + 1 + 1, 1, none⟩ = some (.pointer (some ⟨w.heap.size + 1 + 1, 0, none⟩)) := (b5.cell (p := ⟨w.heap.size + 1 + 1 + 1, 1, none⟩) (blk_lt G3.out)).trans c31
         have g51 := (b5.block _ (blk_lt G1.out)).trans G1.out
         have k0 : w5.cell? ⟨w.heap.size + 1, 0, none⟩ = some (.slice none 0 0) := by simp only [World.cell?, g51]; rfl
         have k1 : w5.cell? ⟨w.heap.size + 1, 1, none⟩ = some (.pointer none) := by simp only [World.cell?, g51]; rfl
         have z0 : w5.frozen? ⟨w.heap.size + 1, 0, none⟩ = false := by simp [World.frozen?, g51]
         have z1 : w5.frozen? ⟨w.heap.size + 1, 1, none⟩ = false := by simp [World.frozen?, g51]
         have hg5 := (show Hid _ from g51)
         clear g51))
    all_goals
      go_wp2
      have ga := setCell_at (k := 0) (u := .slice ra row.length rc) hg5.out
      have gb := setCell_at (k := 1) (u := .pointer (some ⟨w.heap.size + 1 + 1, 0, none⟩)) ga
      have hgl := blk_lt hg5.out
      have b6 : Below w.heap.size w ((w5.setCell ⟨w.heap.size + 1, 0, none⟩ (.slice ra row.length rc)).setCell ⟨w.heap.size + 1, 1, none⟩ (.pointer (some ⟨w.heap.size + 1 + 1, 0, none⟩))) := ((b4.trans ((bd.trans (b5.mono bd.size)).mono b4.size)).setCell (p := ⟨w.heap.size + 1, 0, none⟩) (by simp) _).setCell (p := ⟨w.heap.size + 1, 1, none⟩) (by simp) _
      refine bodyPost_ret (row_res rfl rfl gb) rfl ?_
      refine ⟨w.heap.size + 1 + 1, _, rfl, ?_, ?_, b6⟩
      · have g2' := (b5.block _ (blk_lt G2.out)).trans G2.out
        have e1 := Below.heap_setCell w5 ⟨w.heap.size + 1, 0, none⟩ (.slice ra row.length rc) (w.heap.size + 1 + 1) (by show w.heap.size + 1 + 1 ≠ w.heap.size + 1; omega)
        have e2 := Below.heap_setCell (w5.setCell ⟨w.heap.size + 1, 0, none⟩ (.slice ra row.length rc)) ⟨w.heap.size + 1, 1, none⟩ (.pointer (some ⟨w.heap.size + 1 + 1, 0, none⟩)) (w.heap.size + 1 + 1) (by show w.heap.size + 1 + 1 ≠ w.heap.size + 1; omega)
        have e3 := e2.trans (e1.trans g2')
        simp only [World.cell?, e3]; rfl
      · exact ⟨fun h => (by cases h), fun h => (by have := HR1.out.mpr h.2; cases this)⟩
  · have HT : Hid (RowP ns row) := HR1.out.mp rfl
    clear HR1
    go_region_with (first
      | (go_at_call 42; refine Calls.mono (CF.out _ bd) ?_; rintro e w6 ⟨rfl, b6'⟩
         have b6 : Below w4.heap.size w4 w6 := bd.trans (b6'.mono bd.size)
         have c60 : w6.cell? ⟨w.heap.size + 1 + 1 + 1, 0, none⟩ = some (.slice ra row.length rc) := (b6.cell (p := ⟨w.heap.size + 1 + 1 + 1, 0, none⟩) (blk_lt G3.out)).trans c30
         have c61 : w6.cell? ⟨w.heap.size + 1 + 1 + 1, 1, none⟩ = some (.pointer (some ⟨w.heap.size + 1 + 1, 0, none⟩)) := (b6.cell (p := ⟨w.heap.size + 1 + 1 + 1, 1, none⟩) (blk_lt G3.out)).trans c31
         have g6 := (b6.block _ (blk_lt G0.out)).trans G0.out
         have k6 : w6.cell? ⟨w.heap.size, 0, none⟩ = some (.slice a ns.length cap) := by simp only [World.cell?, g6]; rfl
         clear b6' g6)
      | (go_at_call 43; refine Calls.mono (CT.out _ b6) ?_; rintro e w5 ⟨rfl, b5'⟩
         have b5 : Below w4.heap.size w4 w5 := b6.trans (b5'.mono b6.size)
         have c50 : w5.cell? ⟨w.heap.size + 1 + 1 + 1, 0, none⟩ = some (.slice ra row.length rc) := (b5.cell (p := ⟨w.heap.size + 1 + 1 + 1, 0, none⟩) (blk_lt G3.out)).trans c30
         have c51 : w5.cell? ⟨w.heap.size + 1 + 1 + 1, 1, none⟩ = some (.pointer (some ⟨w.heap.size + 1 + 1, 0, none⟩)) := (b5.cell (p := ⟨w.heap.size + 1 + 1 + 1, 1, none⟩) (blk_lt G3.out)).trans c31
         have g51 := (b5.block _ (blk_lt G1.out)).trans G1.out
         have k0 : w5.cell? ⟨w.heap.size + 1, 0, none⟩ = some (.slice none 0 0) := by simp only [World.cell?, g51]; rfl
         have k1 : w5.cell? ⟨w.heap.size + 1, 1, none⟩ = some (.pointer none) := by simp only [World.cell?, g51]; rfl
         have z0 : w5.frozen? ⟨w.heap.size + 1, 0, none⟩ = false := by simp [World.frozen?, g51]
         have z1 : w5.frozen? ⟨w.heap.size + 1, 1, none⟩ = false := by simp [World.frozen?, g51]
         have hg5 := (show Hid _ from g51)
         clear g51 b5'))
    all_goals
      go_wp2
      have ga := setCell_at (k := 0) (u := .slice ra row.length rc) hg5.out
      have gb := setCell_at (k := 1) (u := .pointer (some ⟨w.heap.size + 1 + 1, 0, none⟩)) ga
      have hgl := blk_lt hg5.out
      have b7 : Below w.heap.size w ((w5.setCell ⟨w.heap.size + 1, 0, none⟩ (.slice ra row.length rc)).setCell ⟨w.heap.size + 1, 1, none⟩ (.pointer (some ⟨w.heap.size + 1 + 1, 0, none⟩))) := ((b4.trans (b5.mono b4.size)).setCell (p := ⟨w.heap.size + 1, 0, none⟩) (by simp) _).setCell (p := ⟨w.heap.size + 1, 1, none⟩) (by simp) _
      refine bodyPost_ret (row_res rfl rfl gb) rfl ?_
      refine ⟨w.heap.size + 1 + 1, _, rfl, ?_, ?_, b7⟩
      · have g2' := (b5.block _ (blk_lt G2.out)).trans G2.out
        have e1 := Below.heap_setCell w5 ⟨w.heap.size + 1, 0, none⟩ (.slice ra row.length rc) (w.heap.size + 1 + 1) (by show w.heap.size + 1 + 1 ≠ w.heap.size + 1; omega)
        have e2 := Below.heap_setCell (w5.setCell ⟨w.heap.size + 1, 0, none⟩ (.slice ra row.length rc)) ⟨w.heap.size + 1, 1, none⟩ (.pointer (some ⟨w.heap.size + 1 + 1, 0, none⟩)) (w.heap.size + 1 + 1) (by show w.heap.size + 1 + 1 ≠ w.heap.size + 1; omega)
        have e3 := e2.trans (e1.trans g2')
        simp only [World.cell?, e3]; rfl
      · exact ⟨fun h => ⟨HR2.out.mp h, HT.out⟩, fun h => HR2.out.mpr h.1⟩
end Go.Proofs.YtkljadaggnbjkaaGreat

/- The specification's StackOk, OpenAt and PopTo. No condition. -/
namespace Go.Proofs.YtkljadaggnbjkaaGreat
open Go.RowKit
set_option maxRecDepth 100000
set_option linter.unusedVariables false

theorem sstackOk_any {w : World} {v rv : Value} {ns : List PNode} {row : List Int} (hn : NodesAt w v ns) (hfit : ∀ n ∈ ns, NodeFit n) (hlen : ns.length ≤ 1048576) (hr : Sl .i64 w rv row) (hrl : row.length ≤ 1048576) :
    Calls Tryz.prog 11 #[.agg #[v], rv] w fun e w' => ∃ r, e = .returned (.bool r) ∧ (r = true ↔ STreeOkP ns ∧ RowP ns row) ∧ Below w.heap.size w w' := by
  have HN := (show Hid (NodesAt w v ns) from hn)
  have HR := (show Hid (Sl .i64 w rv row) from hr)
  have HFIT := (show Hid _ from hfit)
  obtain ⟨a, cap, rfl, hc1, hc2, _⟩ := hn.slice
  obtain ⟨ra, rc, rfl, _, _, _, hra⟩ := hr
  clear hn hra hfit
  obtain ⟨w1, hw1⟩ : ∃ w1, w1 = w.alloc (.cells #[.slice a ns.length cap] 26) := ⟨_, rfl⟩
  have b1 : Below w.heap.size w w1 := by rw [hw1]; exact (Below.refl _ _).alloc (Nat.le_refl _) _
  have g1 : w1.heap[w.heap.size]? = some (.cells #[.slice a ns.length cap] 26 (0, 0)) := by rw [hw1]; exact World.alloc_heap_new _ _
  have HG1 := (show Hid _ from g1)
  clear g1
  go_enter Tryz.func11, Tryz.ntmps11
  go_wp2_with fail
  go_at_call 25
  rw [← hw1]
  clear hw1
  refine Calls.mono (streeOk_any (HN.out.below b1) HFIT.out hlen) ?_
  rintro e w2 ⟨r1, rfl, hr1, b2⟩
  have HR1 := (show Hid _ from hr1)
  have hb := b1.trans (b2.mono b1.size)
  have cT : w2.cell? ⟨w.heap.size, 0, none⟩ = some (.slice a ns.length cap) := by
    have := (b2.block _ (blk_lt HG1.out)).trans HG1.out
    simp only [World.cell?, this]; rfl
  clear hr1 b2
  cases r1
  · go_wp2
    go_ret
    exact ⟨false, rfl, ⟨fun h => (by cases h), fun h => (by have := HR1.out.mpr h.1; cases this)⟩, hb⟩
  · have HT : Hid (STreeOkP ns) := HR1.out.mp rfl
    clear HR1
    go_wp2_with fail
    go_at_call 26
    refine Calls.mono (srow_any (HN.out.below hb) hlen (HR.out.below hb) hrl) ?_
    rintro e w3 ⟨r2, rfl, hr2, b3⟩
    have HR2 := (show Hid _ from hr2)
    clear hr2
    go_wp2
    go_ret
    exact ⟨r2, rfl, ⟨fun h => ⟨HT.out, HR2.out.mp h⟩, fun h => HR2.out.mpr h.2⟩, hb.trans (b3.mono hb.size)⟩

def named (ns : List PNode) (nm : ByteArray) (x : Int) : Bool := decide (nmOf ns x = nm)

set_option maxHeartbeats 1000000 in
set_option maxRecDepth 100000 in
theorem sat_any {w : World} {v rv : Value} {ns : List PNode} {row : List Int} (hn : NodesAt w v ns) (hlen : ns.length ≤ 1048576) (hr : Sl .i64 w rv row) (hrow : RowP ns row) (nm : ByteArray) :
    Calls Tryz.prog 45 #[.agg #[v], rv, .string nm] w fun e w' => e = .returned (.int .i64 ((lastAt (named ns nm) row row.length : Int) - 1)) ∧ Below w.heap.size w w' := by
  have HR := (show Hid (RowP ns row) from hrow)
  have hrl := hrow.len
  obtain ⟨a, cap, rfl, hc1, hc2, hcs⟩ := hn.slice
  obtain ⟨ra, rc, rfl, _, _, _, hra⟩ := hr
  have HRA := (show Hid _ from hra)
  have HCS := (show Hid _ from hcs)
  clear hn hra hcs hrow
  obtain ⟨w1, hw1⟩ : ∃ w1, w1 = w.alloc (.cells #[.slice a ns.length cap] 26) := ⟨_, rfl⟩
  have b1 : Below w.heap.size w w1 := by rw [hw1]; exact (Below.refl _ _).alloc (Nat.le_refl _) _
  have g1 : w1.heap[w.heap.size]? = some (.cells #[.slice a ns.length cap] 26 (0, 0)) := by rw [hw1]; exact World.alloc_heap_new _ _
  have cT : w1.cell? ⟨w.heap.size, 0, none⟩ = some (.slice a ns.length cap) := by simp only [World.cell?, g1]; rfl
  have hs1 := blk_lt g1
  have HCT := (show Hid _ from cT)
  have ne := Wd.any w1.heap.size w1
  go_enter Tryz.func45, Tryz.ntmps45
  go_wp2
  rw [← hw1]
  clear hw1 g1 cT
  go_loopw [7] (fun i wr => ∃ k : Nat, k ≤ row.length ∧ i = .int .i64 ((k : Int) - 1) ∧ lastAt (named ns nm) row row.length = lastAt (named ns nm) row k ∧ Below w1.heap.size w1 wr) (fun i _ => (intOf i + 1).toNat)
  case atStart => exact ⟨row.length, Nat.le_refl _, by go_num, rfl, Below.refl _ _⟩
  case round =>
    obtain ⟨k, hk, rfl, he, bel⟩ := hrel
    have HE := (show Hid (lastAt (named ns nm) row row.length = lastAt (named ns nm) row k) from he)
    clear he
    cases k with
    | zero =>
      go_wp2
      go_ret
      exact ⟨by rw [HE.out]; rfl, b1.trans (bel.mono b1.size)⟩
    | succ k =>
      have hs : ((k + 1 : Nat) : Int) - 1 = (k : Int) := by omega
      have hlt : k < row.length := by omega
      obtain ⟨rb, ro, rfl, c1⟩ := HRA.out k hlt
      have hrb := lt_of_cell c1
      have HX : Hid (row.getD k 0 = row[k]) := (show row.getD k 0 = row[k] by simp [List.getD_eq_getElem?_getD, hlt])
      obtain ⟨m, hm, hmlt⟩ := elB_at (HR.out.el k hlt)
      have HG : Hid (row.getD k 0 = (m : Int)) := HX.out.trans hm
      rw [HG.out] at c1
      obtain ⟨b, off, av, kv, rfl, hblt, _, d1, _⟩ := HCS.out m hmlt
      have HNM : Hid (named ns nm (row.getD k 0) = decide (ns[m].name = nm)) := (show named ns nm (row.getD k 0) = decide (ns[m].name = nm) by rw [HG.out, named, nmOf_at hmlt])
      obtain ⟨y, hy⟩ : ∃ y, y = ns[m].name := ⟨_, rfl⟩
      rw [← hy] at d1 HNM
      have f0 : ∀ n : Wd w1.heap.size w1, n.w.cell? ⟨w.heap.size, 0, none⟩ = some (.slice (some ⟨b, off, none⟩) ns.length cap) := fun n => (n.below.cell (p := ⟨w.heap.size, 0, none⟩) hs1).trans HCT.out
      have f1 : ∀ n : Wd w1.heap.size w1, n.w.cell? ⟨rb, ro + k, none⟩ = some (.int .i64 m) := fun n => ((b1.trans (n.below.mono b1.size)).cell (p := ⟨rb, ro + k, none⟩) hrb).trans c1
      have f2 : ∀ n : Wd w1.heap.size w1, n.w.cell? ⟨b, off + m * 6 + 1, none⟩ = some (.string y) := fun n => ((b1.trans (n.below.mono b1.size)).cell (p := ⟨b, off + m * 6 + 1, none⟩) hblt).trans d1
      rw [hs]
      clear hy c1 d1 hm hs
      by_cases hq : y = nm
      · have HY : Hid (named ns nm (row.getD k 0) = true) := HNM.out.trans (decide_eq_true hq)
        subst hq
        go_wp2
        refine wp_region_below (by kernel_rfl) (by kernel_rfl) bel ?_
        repeat (go_big_quiet_step (fail))
        refine wpQuiet_nil ?_
        intro wq hq
        replace hq := Wd.of hq
        go_wp2
        go_ret
        exact ⟨by rw [HE.out, lastAt_yes HY.out]; simp, b1.trans (hq.mono b1.size)⟩
      · have HY : Hid (named ns nm (row.getD k 0) = false) := HNM.out.trans (decide_eq_false hq)
        have hd := toList_ne hq
        go_wp2
        refine wp_region_below (by kernel_rfl) (by kernel_rfl) bel ?_
        repeat (go_big_quiet_step (fail))
        refine wpQuiet_nil ?_
        intro wq hq
        replace hq := Wd.of hq
        go_wp2
        go_roundw
        case rel => exact ⟨k, by omega, by go_num, by rw [HE.out, lastAt_no HY.out], hq⟩
        case measure => simp [intOf]

theorem sopenAt_any {w : World} {v rv : Value} {ns : List PNode} {row : List Int} (hn : NodesAt w v ns) (hfit : ∀ n ∈ ns, NodeFit n) (hlen : ns.length ≤ 1048576) (hr : Sl .i64 w rv row) (hrl : row.length ≤ 1048576) (nm : ByteArray) :
    Calls Tryz.prog 22 #[.agg #[v], rv, .string nm] w fun e w' => ∃ r : Int, e = .returned (.int .i64 r) ∧ (STreeOkP ns ∧ RowP ns row → r = (lastAt (named ns nm) row row.length : Int) - 1) ∧ (¬ (STreeOkP ns ∧ RowP ns row) → r = -1) ∧ Below w.heap.size w w' := by
  have HN := (show Hid (NodesAt w v ns) from hn)
  have HR := (show Hid (Sl .i64 w rv row) from hr)
  have HFIT := (show Hid _ from hfit)
  obtain ⟨a, cap, rfl, hc1, hc2, _⟩ := hn.slice
  obtain ⟨ra, rc, rfl, _, _, _, hra⟩ := hr
  clear hn hra hfit
  obtain ⟨w1, hw1⟩ : ∃ w1, w1 = w.alloc (.cells #[.slice a ns.length cap] 26) := ⟨_, rfl⟩
  have b1 : Below w.heap.size w w1 := by rw [hw1]; exact (Below.refl _ _).alloc (Nat.le_refl _) _
  have g1 : w1.heap[w.heap.size]? = some (.cells #[.slice a ns.length cap] 26 (0, 0)) := by rw [hw1]; exact World.alloc_heap_new _ _
  have HG1 := (show Hid _ from g1)
  clear g1
  go_enter Tryz.func22, Tryz.ntmps22
  go_wp2_with fail
  go_at_call 11
  rw [← hw1]
  clear hw1
  refine Calls.mono (sstackOk_any (HN.out.below b1) HFIT.out hlen (HR.out.below b1) hrl) ?_
  rintro e w2 ⟨r1, rfl, hr1, b2⟩
  have hb := b1.trans (b2.mono b1.size)
  have cT : w2.cell? ⟨w.heap.size, 0, none⟩ = some (.slice a ns.length cap) := by
    have := (b2.block _ (blk_lt HG1.out)).trans HG1.out
    simp only [World.cell?, this]; rfl
  clear b2
  cases r1
  · have HF : Hid (¬ (STreeOkP ns ∧ RowP ns row)) := fun h => by have := hr1.mpr h; cases this
    clear hr1
    go_wp2
    go_ret
    exact ⟨-1, rfl, fun h => absurd h HF.out, fun _ => rfl, hb⟩
  · have HT : Hid (STreeOkP ns ∧ RowP ns row) := hr1.mp rfl
    clear hr1
    go_wp2_with fail
    go_at_call 45
    refine Calls.mono (sat_any (HN.out.below hb) hlen (HR.out.below hb) HT.out.2 nm) ?_
    rintro e w3 ⟨rfl, b3⟩
    go_wp2
    go_ret
    exact ⟨_, rfl, fun _ => rfl, fun h => absurd HT.out h, hb.trans (b3.mono hb.size)⟩

/-- What is left of the row: all of it, or what stands ahead of the last one of that name, but not less than one. -/
def popL (ns : List PNode) (nm : ByteArray) (row : List Int) : List Int :=
  if lastAt (named ns nm) row row.length = 0 then row else row.take (max (lastAt (named ns nm) row row.length - 1) 1)

set_option maxRecDepth 100000 in
theorem sto_any {w : World} {v rv : Value} {ns : List PNode} {row : List Int} (hn : NodesAt w v ns) (hlen : ns.length ≤ 1048576) (hr : Sl .i64 w rv row) (hrow : RowP ns row) (nm : ByteArray) :
    Calls Tryz.prog 23 #[.agg #[v], rv, .string nm] w fun e w' => ∃ v', e = .returned v' ∧ Own w.heap.size 3 .i64 w' v' (popL ns nm row) ∧ Below w.heap.size w w' := by
  have HN := (show Hid (NodesAt w v ns) from hn)
  have HR := (show Hid (Sl .i64 w rv row) from hr)
  have HRW := (show Hid (RowP ns row) from hrow)
  have hrl := hrow.len
  have hla := lastAt_le (named ns nm) row row.length
  obtain ⟨i0, hi, hz0, hz1, hz2⟩ := info_parts Tryz.infoI
  obtain ⟨a, cap, rfl, hc1, hc2, _⟩ := hn.slice
  obtain ⟨ra, rc, rfl, _, _, _, hra⟩ := hr
  clear hn hra hrow
  obtain ⟨w1, hw1⟩ : ∃ w1, w1 = w.alloc (.cells #[.slice a ns.length cap] 26) := ⟨_, rfl⟩
  have b1 : Below w.heap.size w w1 := by rw [hw1]; exact (Below.refl _ _).alloc (Nat.le_refl _) _
  go_enter Tryz.func23, Tryz.ntmps23
  go_wp2_with fail
  go_at_call 45
  rw [← hw1]
  clear hw1
  refine Calls.mono (sat_any (HN.out.below b1) hlen (HR.out.below b1) HRW.out nm) ?_
  rintro e w2 ⟨rfl, b2⟩
  have hb := b1.trans (b2.mono b1.size)
  clear b2
  obtain ⟨p, hp⟩ : ∃ p, p = lastAt (named ns nm) row row.length := ⟨_, rfl⟩
  have HP := (show Hid _ from hp)
  rw [← hp] at hla ⊢
  clear hp
  have ba : Below w.heap.size w (w2.alloc (.cells #[] 3)) := hb.alloc hb.size _
  have oa : Own w.heap.size 3 .i64 (w2.alloc (.cells #[] 3)) (.slice (some ⟨w2.heap.size, 0, none⟩) 0 0) [] := (own_empty _ _ w2).base hb.size
  have ra2 := HR.out.below ba
  by_cases h0 : p = 0
  · have HL : Hid (popL ns nm row = row) := (show popL ns nm row = row by rw [popL, if_pos (by rw [← HP.out]; exact h0)])
    subst h0
    go_wp2_with (refine wpList_app _ rfl (.tmp 14) (.tmp 15) 27 rfl w.heap.size 3 i0 (.int .i64 0) 8 Tryz.underlying27 hi hz0 hz1 hz2 rfl .i64 _ _ [] row rfl rfl oa ra2 (by simp; omega) (by unfold maxLen; simp; omega) ba.size ?_; intro v' w3 o3 g3)
    go_ret
    exact ⟨_, rfl, by rw [HL.out]; exact o3, ba.grown g3 ba.size oa.grownAt⟩
  · have HL : Hid (popL ns nm row = row.take (max (p - 1) 1)) := (show popL ns nm row = row.take (max (p - 1) 1) by rw [popL, if_neg (by rw [← HP.out]; exact h0), ← HP.out])
    have hp1 : ¬ ((p : Int) - 1 < 0) := by omega
    have MX := (show Hid _ from smax_any ((p : Int) - 1) 1)
    rw [show (if (p : Int) - 1 > 1 then (p : Int) - 1 else 1) = ((max (p - 1) 1 : Nat) : Int) by split <;> omega] at MX
    obtain ⟨q, hq⟩ : ∃ q, q = max (p - 1) 1 := ⟨_, rfl⟩
    have hql : q ≤ row.length := by omega
    rw [← hq] at MX HL
    clear hq
    go_wp2_with fail
    go_at_call 46
    refine Calls.mono (MX.out _) ?_
    rintro e w3 ⟨rfl, rfl⟩
    have hl : (row.take q).length = q := by simp; omega
    have ht := sl_take ra2 hql
    go_wp2_with (refine wpList_app _ rfl (.tmp 17) (.tmp 21) 27 rfl w.heap.size 3 i0 (.int .i64 0) 8 Tryz.underlying27 hi hz0 hz1 hz2 rfl .i64 _ _ [] (row.take q) rfl rfl oa ht (by simp; omega) (by unfold maxLen; simp; omega) ba.size ?_; intro v' w3 o3 g3)
    go_ret
    exact ⟨_, rfl, by rw [HL.out]; exact o3, ba.grown g3 ba.size oa.grownAt⟩

set_option maxRecDepth 100000 in
theorem spopTo_any {w : World} {v rv : Value} {ns : List PNode} {row : List Int} (hn : NodesAt w v ns) (hfit : ∀ n ∈ ns, NodeFit n) (hlen : ns.length ≤ 1048576) (hr : Sl .i64 w rv row) (hrl : row.length ≤ 1048576) (nm : ByteArray) :
    Calls Tryz.prog 9 #[.agg #[v], rv, .string nm] w fun e w' => ∃ v' ys, e = .returned v' ∧ Own w.heap.size 3 .i64 w' v' ys ∧ (STreeOkP ns ∧ RowP ns row → ys = popL ns nm row) ∧ (¬ (STreeOkP ns ∧ RowP ns row) → ys = row) ∧ Below w.heap.size w w' := by
  have HN := (show Hid (NodesAt w v ns) from hn)
  have HR := (show Hid (Sl .i64 w rv row) from hr)
  have HFIT := (show Hid _ from hfit)
  obtain ⟨i0, hi, hz0, hz1, hz2⟩ := info_parts Tryz.infoI
  obtain ⟨a, cap, rfl, hc1, hc2, _⟩ := hn.slice
  obtain ⟨ra, rc, rfl, _, _, _, hra⟩ := hr
  clear hn hra hfit
  obtain ⟨w1, hw1⟩ : ∃ w1, w1 = w.alloc (.cells #[.slice a ns.length cap] 26) := ⟨_, rfl⟩
  have b1 : Below w.heap.size w w1 := by rw [hw1]; exact (Below.refl _ _).alloc (Nat.le_refl _) _
  have g1 : w1.heap[w.heap.size]? = some (.cells #[.slice a ns.length cap] 26 (0, 0)) := by rw [hw1]; exact World.alloc_heap_new _ _
  have HG1 := (show Hid _ from g1)
  clear g1
  go_enter Tryz.func9, Tryz.ntmps9
  go_wp2_with fail
  go_at_call 22
  rw [← hw1]
  clear hw1
  refine Calls.mono (sopenAt_any (HN.out.below b1) HFIT.out hlen (HR.out.below b1) hrl nm) ?_
  rintro e w2 ⟨r1, rfl, hr1, hr2, b2⟩
  have hb := b1.trans (b2.mono b1.size)
  have cT : w2.cell? ⟨w.heap.size, 0, none⟩ = some (.slice a ns.length cap) := by
    have := (b2.block _ (blk_lt HG1.out)).trans HG1.out
    simp only [World.cell?, this]; rfl
  clear b2
  have HR1 := (show Hid _ from hr1)
  have HR2 := (show Hid _ from hr2)
  clear hr1 hr2
  have ba : Below w.heap.size w (w2.alloc (.cells #[] 3)) := hb.alloc hb.size _
  have oa : Own w.heap.size 3 .i64 (w2.alloc (.cells #[] 3)) (.slice (some ⟨w2.heap.size, 0, none⟩) 0 0) [] := (own_empty _ _ w2).base hb.size
  have ra2 := HR.out.below ba
  by_cases hr : r1 < 0
  · have HL : Hid (STreeOkP ns ∧ RowP ns row → row = popL ns nm row) := fun h => by
      have := HR1.out h
      have h0 : lastAt (named ns nm) row row.length = 0 := by omega
      rw [popL, if_pos h0]
    go_wp2_with (refine wpList_app _ rfl (.tmp 12) (.tmp 13) 27 rfl w.heap.size 3 i0 (.int .i64 0) 8 Tryz.underlying27 hi hz0 hz1 hz2 rfl .i64 _ _ [] row rfl rfl oa ra2 (by simp; omega) (by unfold maxLen; simp; omega) ba.size ?_; intro v' w3 o3 g3)
    go_ret
    exact ⟨_, _, rfl, o3, HL.out, fun _ => rfl, ba.grown g3 ba.size oa.grownAt⟩
  · have HT : Hid (STreeOkP ns ∧ RowP ns row) := by
      by_cases h : STreeOkP ns ∧ RowP ns row
      · exact h
      · exact absurd (show r1 < 0 by rw [HR2.out h]; decide) hr
    clear oa ba ra2
    go_wp2_with fail
    go_at_call 23
    refine Calls.mono (sto_any (HN.out.below hb) hlen (HR.out.below hb) HT.out.2 nm) ?_
    rintro e w3 ⟨v3, rfl, o3, b3⟩
    go_wp2
    go_ret
    exact ⟨_, _, rfl, o3.base hb.size, fun _ => rfl, fun h => absurd HT.out h, hb.trans (b3.mono hb.size)⟩
end Go.Proofs.YtkljadaggnbjkaaGreat
