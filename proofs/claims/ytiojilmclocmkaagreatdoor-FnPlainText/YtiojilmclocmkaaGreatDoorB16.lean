import Derived.Test.YtiojilmclocmkaaGreatDoorB13
import Derived.Laws.CopyOwn
import Derived.Test.YtiojilmclocmkaaGreatDoorOpenS
import Derived.Test.YtiojilmclocmkaaGreatDoorB14
import Derived.Test.YtiojilmclocmkaaGreatDoorB11
/- 'copy' of rows of several cells an element. -/
namespace Go.Proofs.YtiojilmclocmkaaGreatDoor
open Go.RowKit
set_option maxRecDepth 100000
set_option linter.unusedVariables false

theorem run_copy_rows {P : Program} (w : World) (dT sT ty elem : TypeId) (g o dLen dCap : Nat) (a : Addr) (sLen sCap : Nat) (cur : Array Value) (t : TypeId) (cs : List Value) (sz : Nat)
    (hu : P.underlying dT = some (.slice elem)) (hs : (P.info? elem).map (·.size) = some sz)
    (hg : w.heap[g]? = some (.cells cur t (0, 0))) (hn : cs.length = Nat.min sLen dLen * sz)
    (hsrc : ∀ j v, cs[j]? = some v → w.cell? (a.add j) = some v) (hfit : o + cs.length ≤ cur.size) (h1 : ∀ v ∈ cs, v.oneCell' = true) :
    (Builtin.copy_ #[dT, sT] ty #[.slice (some ⟨g, o, none⟩) dLen dCap, .slice (some a) sLen sCap]).run P w =
      .ok (goInt (Nat.min sLen dLen)) (w.setRow g (cur.toList.take o ++ cs ++ cur.toList.drop (o + cs.length)).toArray) := by
  have hl := run_loadCells_list (P := P) w a cs hsrc
  have hst := run_storeCells_at P g o t cs 0 cur w hg (by simpa using hfit) h1
  cases hq : P.info? elem with
  | none => simp [hq] at hs
  | some i =>
    have hi : i.size = sz := by simpa [hq] using hs
    simp [Builtin.copy_, run_underlying hu, Builtin.lenOf, Builtin.firstCells, sizeOf, typeInfo, hq, hi, ← hn, hl, hst]

theorem splice_take {α : Type} {L cs : List α} {o n : Nat} (h1 : o + cs.length ≤ n) (h2 : n ≤ L.length) : (L.take o ++ cs ++ L.drop (o + cs.length)).take n = (L.take n).take o ++ cs ++ (L.take n).drop (o + cs.length) := by
  have hA : (L.take o ++ cs).length = o + cs.length := by simp; omega
  rw [List.take_append, hA, List.take_of_length_le (by omega), List.take_take, Nat.min_eq_left (by omega : o ≤ n), List.drop_take]

/-- A copy into a row of the call's own, from its element j on. -/
theorem copy_into {P : Program} {w : World} {u : Value} {dT sT ty elem : TypeId} {B g n cap j m : Nat} {zs cs : List Value} (hu : P.underlying dT = some (.slice elem)) (hs : (P.info? elem).map (·.size) = some 2)
    (hown : w.ownsRow B elem 2 (.slice (some ⟨g, 0, none⟩) n cap) n zs) (hj : j + m ≤ n) (hsrc : Sv 2 w u cs) (hm : cs.length = m * 2) (h1 : ∀ v ∈ cs, v.oneCell' = true) :
    ∃ w', (Builtin.copy_ #[dT, sT] ty #[.slice (some ⟨g, j * 2, none⟩) (n - j) (cap - j), u]).run P w = .ok (goInt m) w' ∧ w'.ownsRow B elem 2 (.slice (some ⟨g, 0, none⟩) n cap) n (zs.take (j * 2) ++ cs ++ zs.drop (j * 2 + m * 2)) ∧ w.grownBy w' (some g) := by
  obtain ⟨a, len, cap', rfl, h2, h3, h4, h5, hc⟩ := hsrc
  obtain rfl : len = m := by omega
  obtain ⟨hl, ⟨hv, _⟩ | ⟨g', c', cur, hv, hB, hh, hn, hmx, hsz, ht⟩⟩ := hown
  · cases hv
  · cases hv
    cases a with
    | none =>
      have e0 := h5 rfl
      obtain rfl : cap' = 0 := e0
      obtain rfl : len = 0 := by omega
      have hcs : cs = [] := List.length_eq_zero_iff.mp (by omega)
      subst hcs
      refine ⟨w, run_copy_nil P w dT sT ty elem ⟨g, j * 2, none⟩ (n - j) (cap - j) hu (by rw [hs]; rfl), ⟨by simp; omega, .inr ⟨g, cap, cur, rfl, hB, hh, hn, hmx, hsz, by rw [ht]; simp⟩⟩, World.grownBy.refl _ _⟩
    | some ad =>
      have hmin : Nat.min len (n - j) = len := Nat.min_eq_left (by omega)
      have hrun := run_copy_rows (P := P) w dT sT ty elem g (j * 2) (n - j) (cap - j) ad len cap' cur elem cs 2 hu hs hh (by rw [hmin]; exact h2) (fun i v hv => by
        have hi : i < cs.length := (List.getElem?_eq_some_iff.mp hv).1
        obtain ⟨b, off, e, c⟩ := hc i hi
        cases e
        have : cs.getD i undef = v := by rw [List.getD_eq_getElem?_getD, hv]; rfl
        rw [this] at c
        have hadd : (⟨b, off, none⟩ : Addr).add i = ⟨b, off + i, none⟩ := by unfold Addr.add; split <;> simp_all
        rw [hadd]; exact c) (by omega) h1
      rw [hmin] at hrun
      refine ⟨_, hrun, ⟨by simp; omega, .inr ⟨g, cap, _, rfl, hB, setRow_heap w g cur _ elem (0, 0) hh, hn, hmx, ?_, ?_⟩⟩, ⟨rfl, rfl, rfl, by simp [World.setRow], fun i hi hne => ?_⟩⟩
      · simp; omega
      · have hcl : cur.toList.length = cap * 2 := by simpa using hsz
        rw [List.toList_toArray, splice_take (by omega) (by omega), ht, hm]
      · have hig : i ≠ g := fun e => hne (by rw [e])
        show (w.heap.modify g _)[i]? = _
        rw [Array.getElem?_modify, if_neg (fun e => hig e.symm)]

theorem wpList_cpV {P : Program} {w : World} {ops : Array Oper} {rest : List Oper} {o : Oper} {a : Act} {Q : Exit → Act → World → Prop} (hgd : o.guard = none)
    (d s : Operand) (dT sT : TypeId) (ho : o.op = Op.call { callee := Callee.builtin Builtin.copy, args := #[d, s], argTypes := #[dT, sT] }) (elem : TypeId)
    (hu : P.underlying dT = some (.slice elem)) (hs : (P.info? elem).map (·.size) = some 2) (B g n cap j m : Nat) (u : Value) (zs cs : List Value)
    (hd : a.eval d = .slice (some ⟨g, j * 2, none⟩) (n - j) (cap - j)) (hv : a.eval s = u) (hown : w.ownsRow B elem 2 (.slice (some ⟨g, 0, none⟩) n cap) n zs) (hj : j + m ≤ n) (hsrc : Sv 2 w u cs) (hm : cs.length = m * 2) (h1 : ∀ v ∈ cs, v.oneCell' = true)
    (h : ∀ w', w'.ownsRow B elem 2 (.slice (some ⟨g, 0, none⟩) n cap) n (zs.take (j * 2) ++ cs ++ zs.drop (j * 2 + m * 2)) → w.grownBy w' (some g) → wpList P ops Q rest (a.put o.dst (goInt m)) w') : wpList P ops Q (o :: rest) a w := by
  refine wpList_plain hgd fun K hK => ?_
  obtain ⟨w', hrun, h2, h3⟩ := copy_into (ty := o.type) (dT := dT) (sT := sT) hu hs hown hj hsrc hm h1
  unfold Oper.wp
  simp [execOp, ho, resolve, invoke, builtin, hd, hv, hrun, Result.andThen]
  exact hK _ _ (h w' h2 h3)

/-- A copy of nothing into a piece of no element. -/
theorem wpList_cpZ {P : Program} {w : World} {ops : Array Oper} {rest : List Oper} {o : Oper} {a : Act} {Q : Exit → Act → World → Prop} (hgd : o.guard = none)
    (d s : Operand) (dT sT : TypeId) (ho : o.op = Op.call { callee := Callee.builtin Builtin.copy, args := #[d, s], argTypes := #[dT, sT] }) (elem : TypeId)
    (hu : P.underlying dT = some (.slice elem)) (hs : (P.info? elem).map (·.size) = some 2) (B g n cap : Nat) (u : Value) (zs : List Value)
    (hd : a.eval d = .slice (some ⟨g, 0, none⟩) 0 0) (hv : a.eval s = u) (hown : w.ownsRow B elem 2 (.slice (some ⟨g, 0, none⟩) n cap) n zs) (hsrc : Sv 2 w u [])
    (h : wpList P ops Q rest (a.put o.dst (goInt 0)) w) : wpList P ops Q (o :: rest) a w := by
  refine wpList_plain hgd fun K hK => ?_
  have hrun : (Builtin.copy_ #[dT, sT] o.type #[.slice (some ⟨g, 0, none⟩) 0 0, u]).run P w = .ok (goInt 0) w := by
    obtain ⟨ad, len, cap', rfl, h2, h3, h4, h5, hc⟩ := hsrc
    obtain rfl : len = 0 := by have h2' : (0 : Nat) = len * 2 := h2; omega
    cases ad with
    | none =>
      obtain rfl : cap' = 0 := h5 rfl
      exact run_copy_nil P w dT sT o.type elem ⟨g, 0, none⟩ 0 0 hu (by rw [hs]; rfl)
    | some ad =>
      obtain ⟨hl, ⟨hv', _⟩ | ⟨g', c', cur, hv', hB, hh, hn, hmx, hsz, ht⟩⟩ := hown
      · cases hv'
      · cases hv'
        have := run_copy_rows (P := P) w dT sT o.type elem g 0 0 0 ad 0 cap' cur elem [] 2 hu hs hh rfl (fun i v hv => by simp at hv) (by simp) (fun v hv => by cases hv)
        rw [this]
        simp [setRow_self w g cur elem (0, 0) hh]
  unfold Oper.wp
  simp [execOp, ho, resolve, invoke, builtin, hd, hv, hrun, Result.andThen]
  exact hK _ _ h

theorem pairs_oneCell (rs : List (ByteArray × ByteArray)) : ∀ v ∈ pairCells rs, v.oneCell' = true := by
  intro v hv
  unfold pairCells at hv
  obtain ⟨r, _, hr⟩ := List.mem_flatMap.mp hv
  simp only [List.mem_cons, List.not_mem_nil, or_false] at hr
  rcases hr with rfl | rfl <;> rfl
end Go.Proofs.YtiojilmclocmkaaGreatDoor

/- The exact laws of AttrsOk, AttrOf and AttrsSame, walked from contracts of the program's functions. -/
namespace Go.Proofs.YtiojilmclocmkaaGreatDoor
open Go.RowKit
set_option maxRecDepth 100000
set_option linter.unusedVariables false

/-- Every text of a list is short. -/
def Short (rs : List (ByteArray × ByteArray)) : Prop := rs.length ≤ 1048576 ∧ ∀ p ∈ rs, p.1.size ≤ 1099511627776 ∧ p.2.size ≤ 1099511627776

/-- What is asked of the program's functions. -/
def AttrsOkOk : Prop := ∀ (v : Value) (rs : List (ByteArray × ByteArray)) (w : World), Sv 2 w v (pairCells rs) → Short rs → Calls Tryz.prog 21 #[v] w fun e w' => e = .returned (.bool (attrsOk rs)) ∧ Below w.heap.size w w'
def AttrOfOk : Prop := ∀ (v : Value) (rs : List (ByteArray × ByteArray)) (nm : ByteArray) (w : World), Sv 2 w v (pairCells rs) → Short rs → nm.size ≤ 1099511627776 → Calls Tryz.prog 36 #[v, .string nm] w fun e w' => e = .returned (.tuple #[.string (attrOf rs nm).1, .bool (attrOf rs nm).2]) ∧ Below w.heap.size w w'
theorem short_of {rs : List (ByteArray × ByteArray)} {l r : Int} (hl : l ≤ 1048576) (h : (rs.length : Int) ≤ l ∧ ∀ p ∈ rs, (p.1.size : Int) + p.2.size ≤ l) : Short rs :=
  ⟨by have := h.1; omega, fun p hp => by have := h.2 p hp; omega⟩

end Go.Proofs.YtiojilmclocmkaaGreatDoor

/- Contracts of the laws' marks of a list of attributes. -/
namespace Go.Proofs.YtiojilmclocmkaaGreatDoor
open Go.RowKit
set_option maxRecDepth 100000
set_option linter.unusedVariables false

/-- The marks that are laid over a list of pairs, from k on. -/
def markPairs (k : Int) (n : Nat) : List (ByteArray × ByteArray) := (List.range n).map fun i : Nat => (mt (k + 2 * (i : Int)), mt (k + 2 * (i : Int) + 1))
theorem markPairs_len (k : Int) (n : Nat) : (markPairs k n).length = n := by simp [markPairs]
theorem markPairs_at (k : Int) (n i : Nat) (h : i < (markPairs k n).length) : (markPairs k n)[i] = (mt (k + 2 * (i : Int)), mt (k + 2 * (i : Int) + 1)) := by simp [markPairs]
theorem markPairs_succ (k : Int) (rs : List (ByteArray × ByteArray)) (i : Nat) (h : i < rs.length) :
    (markPairs k i ++ rs.drop i).set i (mt (k + 2 * (i : Int)), mt (k + 2 * (i : Int) + 1)) = markPairs k (i + 1) ++ rs.drop (i + 1) := by
  rw [List.set_append_right _ _ (by rw [markPairs_len]; exact Nat.le_refl _), markPairs_len, Nat.sub_self, List.drop_eq_getElem_cons h, List.set_cons_zero]
  simp [markPairs, List.range_succ]

theorem pairCells_set (ls : List (ByteArray × ByteArray)) (j : Nat) (a p : ByteArray) (h : j < ls.length) : ((pairCells ls).set (j * 2) (.string a)).set (j * 2 + 1) (.string p) = pairCells (ls.set j (a, p)) := by
  induction ls generalizing j with
  | nil => simp at h
  | cons r rs ih =>
    cases j with
    | zero => simp [pairCells]
    | succ j =>
      have e := ih j (by simpa using h)
      have e1 : (j + 1) * 2 = j * 2 + 1 + 1 := by omega
      have e2 : (j + 1) * 2 + 1 = j * 2 + 1 + 1 + 1 := by omega
      simp only [pairCells, List.flatMap_cons, List.cons_append, List.nil_append, e1, List.set_cons_succ] at e ⊢
      rw [e]

end Go.Proofs.YtiojilmclocmkaaGreatDoor

/- What the exact law of AttrAdd asks of the program's function, and rows of values that are apart. -/
namespace Go.Proofs.YtiojilmclocmkaaGreatDoor
open Go.RowKit
set_option maxRecDepth 100000
set_option linter.unusedVariables false

theorem row_ne {B size size' n n' : Nat} {e e' : TypeId} {w w' : World} {v v' : Value} {xs ys : List Value} (h : w.ownsRow B e size v n xs) (h' : w'.ownsRow w.heap.size e' size' v' n' ys) :
    ∀ k j, v.ownBlock = some k → v'.ownBlock = some j → k ≠ j := fun k j hk hj => by
  have a := (World.ownsRow.lt h k hk).2
  have b := (World.ownsRow.lt h' j hj).1
  omega
theorem row_kept {B size n : Nat} {e : TypeId} {w w' : World} {v v1 : Value} {xs : List Value} (h : w.ownsRow B e size v n xs) (hg : w.grownBy w' v1.ownBlock)
    (hne : ∀ k j, v.ownBlock = some k → v1.ownBlock = some j → k ≠ j) : w'.ownsRow B e size v n xs := by
  by_cases h0 : v.ownBlock = none
  · exact World.ownsRow.kept h hg (.inl h0)
  · obtain ⟨k, hk⟩ := Option.ne_none_iff_exists'.mp h0
    by_cases h1 : v1.ownBlock = none
    · exact World.ownsRow.kept h hg (.inr (by rw [h1]; exact h0))
    · obtain ⟨j, hj⟩ := Option.ne_none_iff_exists'.mp h1
      exact World.ownsRow.kept h hg (.inr (by rw [hk, hj]; intro e; exact hne k j hk hj (Option.some.inj e)))
theorem row_base {B B' size n : Nat} {e : TypeId} {w : World} {v : Value} {xs : List Value} (h : w.ownsRow B e size v n xs) (hB : B' ≤ B) : w.ownsRow B' e size v n xs := by
  obtain ⟨hl, hv | ⟨g, cap, cur, hv, hb, r⟩⟩ := h
  · exact ⟨hl, .inl hv⟩
  · exact ⟨hl, .inr ⟨g, cap, cur, hv, Nat.le_trans hB hb, r⟩⟩

def AttrAddOk : Prop := ∀ (v : Value) (rs : List (ByteArray × ByteArray)) (p : ByteArray × ByteArray) (w : World), Sv 2 w v (pairCells rs) → Short rs → p.1.size ≤ 1099511627776 → p.2.size ≤ 1099511627776 →
  Calls Tryz.prog 92 #[v, .agg #[.string p.1, .string p.2]] w fun e w' => ∃ v', e = .returned v' ∧ w'.ownsRow w.heap.size 65 2 v' (attrAdd rs p).length (pairCells (attrAdd rs p)) ∧ Below w.heap.size w w'

theorem attrAdd_len (rs : List (ByteArray × ByteArray)) (p : ByteArray × ByteArray) : (attrAdd rs p).length ≤ rs.length + 1 := by unfold attrAdd; split <;> simp
end Go.Proofs.YtiojilmclocmkaaGreatDoor

/- Contracts of the program's list with more behind it, and of AttrAdd. -/
namespace Go.Proofs.YtiojilmclocmkaaGreatDoor
open Go.RowKit
set_option maxRecDepth 100000
set_option linter.unusedVariables false

theorem Tryz.sizeA : (Tryz.prog.info? 65).map (·.size) = some 2 := by kernel_rfl
theorem made_len (c : Array Value) (n : Nat) (h : c.size = 2) : (madeCells c (n * 2)).toList.length = n * 2 := by simp [madeCells]

set_option maxHeartbeats 2000000 in
set_option maxRecDepth 100000 in
theorem with_none {l m : Value} {rs : List (ByteArray × ByteArray)} {w : World} (h : Sv 2 w l (pairCells rs)) (hm : Sv 2 w m []) (hn : rs.length ≤ 1048576) :
    Calls Tryz.prog 102 #[l, m] w fun e w' => ∃ v', e = .returned v' ∧ w'.ownsRow w.heap.size 65 2 v' rs.length (pairCells rs) ∧ Below w.heap.size w w' := by
  have HL := (show Hid (Sv 2 w l (pairCells rs)) from h)
  have HM := (show Hid (Sv 2 w m []) from hm)
  obtain ⟨a, ca, rfl, _, _, _⟩ := h.pair
  obtain ⟨b, len, cb, rfl, hlen, _, _, _, _⟩ := hm
  obtain rfl : len = 0 := by have h2' : (0 : Nat) = len * 2 := hlen; omega
  obtain ⟨i0, hi, hz0, hz1, hz2⟩ := info_parts Tryz.infoA
  clear h hlen
  go_enter Tryz.func102, Tryz.ntmps102
  go_wp2_with (first
    | (at_make; refine wpList_make_full _ rfl (.tmp 10) (.tmp 10) 79 rfl w.heap.size 65 i0 _ 2 Tryz.underlying79 hi hz0 hz1 .i64 .i64 _ _ rs.length rfl rfl rfl rfl (by rw [hz2]; omega) (by unfold maxLen; omega) (Nat.le_refl _) ?_; intro w1 o1 g1; have b1 : Below w.heap.size w w1 := (Below.refl _ _).grown g1 (Nat.le_refl _) (fun k hk => by cases hk))
    | (refine wpList_cpV rfl (.tmp 12) (.tmp 13) 79 79 rfl 65 Tryz.underlying79 Tryz.sizeA w.heap.size w.heap.size rs.length rs.length 0 rs.length _ _ (pairCells rs) rfl rfl o1 (by omega) (HL.out.below b1) (pairCells_len rs) (pairs_oneCell _) ?_; intro w2 o2 g2; have b2 := b1.grown g2 b1.size (fun k hk => by cases hk; exact Nat.le_refl _))
    | (refine wpList_cpZ rfl (.tmp 18) (.tmp 19) 79 26 rfl 65 Tryz.underlying79 Tryz.sizeA w.heap.size w.heap.size rs.length rs.length _ _ rfl rfl o2 (HM.out.below b2) ?_))
  go_ret
  refine ⟨_, rfl, ?_, b2⟩
  have e : (madeCells (Value.agg #[Value.string ⟨#[]⟩, Value.string ⟨#[]⟩]).cells (rs.length * 2)).toList.length = rs.length * 2 := by rw [made_len _ _ rfl]
  rw [Nat.zero_mul, Nat.zero_add, List.take_zero, List.nil_append, List.drop_eq_nil_of_le (by omega), List.append_nil] at o2
  exact o2

set_option maxHeartbeats 2000000 in
set_option maxRecDepth 100000 in
theorem with_some {l m : Value} {rs qs : List (ByteArray × ByteArray)} {w : World} (h : Sv 2 w l (pairCells rs)) (hm : Sv 2 w m (pairCells qs)) (hn : rs.length ≤ 1048576) (hq : qs.length ≤ 1048576) (hq0 : 0 < qs.length) :
    Calls Tryz.prog 102 #[l, m] w fun e w' => ∃ v', e = .returned v' ∧ w'.ownsRow w.heap.size 65 2 v' (rs ++ qs).length (pairCells (rs ++ qs)) ∧ Below w.heap.size w w' := by
  have HL := (show Hid (Sv 2 w l (pairCells rs)) from h)
  have HM := (show Hid (Sv 2 w m (pairCells qs)) from hm)
  obtain ⟨a, ca, rfl, _, _, _⟩ := h.pair
  obtain ⟨b, cb, rfl, _, _, _⟩ := hm.pair
  obtain ⟨i0, hi, hz0, hz1, hz2⟩ := info_parts Tryz.infoA
  obtain ⟨N, hN⟩ : ∃ N, N = rs.length + qs.length := ⟨_, rfl⟩
  have hNi : (rs.length : Int) + (qs.length : Int) = (N : Int) := by omega
  have hNb : N ≤ 2097152 := by omega
  have hNr : ¬ N = rs.length := by omega
  have hNl : rs.length ≤ N := by omega
  have HN := (show Hid (N = rs.length + qs.length) from hN)
  clear h hm hN
  go_enter Tryz.func102, Tryz.ntmps102
  go_wp2_with (first
    | (at_make; refine wpList_make_full _ rfl (.tmp 10) (.tmp 10) 79 rfl w.heap.size 65 i0 _ 2 Tryz.underlying79 hi hz0 hz1 .i64 .i64 _ _ N rfl rfl rfl rfl (by rw [hz2]; omega) (by unfold maxLen; omega) (Nat.le_refl _) ?_; intro w1 o1 g1; have b1 : Below w.heap.size w w1 := (Below.refl _ _).grown g1 (Nat.le_refl _) (fun k hk => by cases hk))
    | (refine wpList_cpV rfl (.tmp 12) (.tmp 13) 79 79 rfl 65 Tryz.underlying79 Tryz.sizeA w.heap.size w.heap.size N N 0 rs.length _ _ (pairCells rs) rfl rfl o1 (by have := HN.out; omega) (HL.out.below b1) (pairCells_len rs) (pairs_oneCell _) ?_; intro w2 o2 g2; have b2 := b1.grown g2 b1.size (fun k hk => by cases hk; exact Nat.le_refl _))
    | (refine wpList_cpV rfl (.tmp 18) (.tmp 19) 79 26 rfl 65 Tryz.underlying79 Tryz.sizeA w.heap.size w.heap.size N N rs.length qs.length _ _ (pairCells qs) rfl rfl o2 (by have := HN.out; omega) (HM.out.below b2) (pairCells_len qs) (pairs_oneCell _) ?_; intro w3 o3 g3; have b3 := b2.grown g3 b2.size (fun k hk => by cases hk; exact Nat.le_refl _)))
  go_ret
  refine ⟨_, rfl, ?_, b3⟩
  have e : (madeCells (Value.agg #[Value.string ⟨#[]⟩, Value.string ⟨#[]⟩]).cells (N * 2)).toList.length = N * 2 := by rw [made_len _ _ rfl]
  have lr := pairCells_len rs
  have lq := pairCells_len qs
  have hN := HN.out
  generalize (madeCells (Value.agg #[Value.string ⟨#[]⟩, Value.string ⟨#[]⟩]).cells (N * 2)).toList = Z at o3 e
  have e3 : ((Z.take (0 * 2) ++ pairCells rs ++ Z.drop (0 * 2 + rs.length * 2)).take (rs.length * 2) ++ pairCells qs ++ (Z.take (0 * 2) ++ pairCells rs ++ Z.drop (0 * 2 + rs.length * 2)).drop (rs.length * 2 + qs.length * 2)) = pairCells (rs ++ qs) := by
    rw [Nat.zero_mul, Nat.zero_add, List.take_zero, List.nil_append, List.take_append_of_le_length (by omega), List.take_of_length_le (by omega), List.drop_eq_nil_of_le (by simp; omega), List.append_nil]
    simp [pairCells]
  rw [e3] at o3
  rw [List.length_append, ← hN]
  exact o3
end Go.Proofs.YtiojilmclocmkaaGreatDoor

/- The contract of the program's AttrAdd. -/
namespace Go.Proofs.YtiojilmclocmkaaGreatDoor
open Go.RowKit
set_option maxRecDepth 100000
set_option linter.unusedVariables false

theorem one_pair (w : World) (n v : ByteArray) : Sv 2 (w.alloc (.cells #[.string n, .string v] 65)) (.slice (some ⟨w.heap.size, 0, none⟩) 1 1) (pairCells [(n, v)]) := by
  refine ⟨some ⟨w.heap.size, 0, none⟩, 1, 1, rfl, rfl, Nat.le_refl _, by unfold maxLen; omega, (fun e => by cases e), fun i hi => ⟨w.heap.size, 0, rfl, ?_⟩⟩
  have hi2 : i < 2 := hi
  have hb := heap_alloc_new w (.cells #[.string n, .string v] 65)
  rcases (show i = 0 ∨ i = 1 by omega) with rfl | rfl
  · simp only [World.cell?, hb]; rfl
  · simp only [World.cell?, hb]; rfl

set_option maxHeartbeats 2000000 in
set_option maxRecDepth 100000 in
theorem attrAddOk : AttrAddOk := by
  intro v rs p w h hs hp1 hp2
  obtain ⟨pn, pv⟩ := p
  simp only at hp1 hp2
  have HS := (show Hid (Sv 2 w v (pairCells rs)) from h)
  have hlen := hs.1
  obtain ⟨a, ca, rfl, _, _, _⟩ := h.pair
  clear h
  obtain ⟨wx, hwx⟩ : ∃ wx, wx = w.alloc (.cells #[.string pn, .string pv] 65) := ⟨_, rfl⟩
  have bx : Below w.heap.size w wx := by rw [hwx]; exact (Below.refl _ _).alloc (Nat.le_refl _) _
  have hsx : wx.heap.size = w.heap.size + 1 := by rw [hwx]; simp
  have hxb : wx.heap[w.heap.size]? = some (.cells #[.string pn, .string pv] 65 (0, 0)) := by rw [hwx]; exact heap_alloc_new _ _
  have co := iattrOf_any (HS.out.below bx) pn (by omega)
  have CK := (show Hid (∀ w, Calls Tryz.prog 37 #[.agg #[.string pn, .string pv]] w fun e w' => e = .returned (.bool (attrOk (pn, pv))) ∧ Below w.heap.size w w') from fun w => iattrOk_any pn pv w hp1 hp2)
  obtain ⟨q, hq⟩ : ∃ q, q = attrOf rs pn := ⟨_, rfl⟩
  rw [← hq] at co
  obtain ⟨r, hr⟩ : ∃ r, r = attrOk (pn, pv) := ⟨_, rfl⟩
  rw [← hr] at CK
  have HA : Hid (attrAdd rs (pn, pv) = if q.2 || decide (20 ≤ rs.length) || !r then rs else rs ++ [(pn, pv)]) := by show _ = _; unfold attrAdd; rw [hq, hr]
  obtain ⟨qv, qb⟩ := q
  simp only at co HA
  have HXB := (show Hid _ from hxb)
  have HSX := (show Hid _ from hsx)
  have BX := (show Hid _ from bx)
  clear hq hr hxb hsx bx
  subst hwx
  have nilS : ∀ w : World, Sv 2 w (.slice none 0 0) [] := fun w => ⟨none, 0, 0, rfl, rfl, Nat.le_refl _, Nat.zero_le _, fun _ => rfl, fun i hi => absurd hi (by simp)⟩
  have NS := (show Hid _ from nilS)
  clear nilS
  have fin : ∀ (w3 w4 : World) (v' : Value) (n : Nat) (cs : List Value), Below w.heap.size w w3 → w4.ownsRow w3.heap.size 65 2 v' n cs → Below w3.heap.size w3 w4 → w4.ownsRow w.heap.size 65 2 v' n cs ∧ Below w.heap.size w w4 := fun w3 w4 v' n cs h1 h2 h3 => ⟨row_base h2 h1.size, h1.trans (h3.mono h1.size)⟩
  have FIN := (show Hid _ from fin)
  clear fin
  go_enter Tryz.func92, Tryz.ntmps92
  go_wp2_with fail
  go_at_call 36
  refine co.mono ?_
  rintro e w2 ⟨rfl, b2⟩
  have hx2 := (b2.block w.heap.size (by have := HSX.out; omega)).trans HXB.out
  have x0 : w2.cell? ⟨w.heap.size, 0, none⟩ = some (.string pn) := by simp [World.cell?, hx2]
  have x1 : w2.cell? ⟨w.heap.size, 1, none⟩ = some (.string pv) := by simp [World.cell?, hx2]
  replace b2 := BX.out.trans (b2.mono BX.out.size)
  have HX2 := (show Hid _ from hx2)
  clear co hx2
  cases qb
  · by_cases h20 : 20 ≤ rs.length
    · have HA2 : Hid (attrAdd rs (pn, pv) = rs) := HA.out.trans (if_pos (by simp [h20]))
      go_wp2_with fail
      go_at_call 102
      refine (with_none (HS.out.below b2) (NS.out _) hlen).mono ?_
      rintro e w3 ⟨v3, rfl, o3, b3⟩
      go_wp2
      go_ret
      refine ⟨_, rfl, ?_⟩
      rw [HA2.out]
      exact FIN.out _ _ _ _ _ b2 o3 b3
    · have h20' : rs.length < 20 := by omega
      go_wp2_with fail
      go_at_call 37
      refine (CK.out _).mono ?_
      rintro e w3 ⟨rfl, b3⟩
      have hx3 := (b3.block w.heap.size (lt_of_block HX2.out)).trans HX2.out
      have y0 : w3.cell? ⟨w.heap.size, 0, none⟩ = some (.string pn) := by simp [World.cell?, hx3]
      have y1 : w3.cell? ⟨w.heap.size, 1, none⟩ = some (.string pv) := by simp [World.cell?, hx3]
      replace b3 := b2.trans (b3.mono b2.size)
      clear hx3
      cases r
      · have HA2 : Hid (attrAdd rs (pn, pv) = rs) := HA.out.trans (if_pos (by simp))
        go_wp2_with fail
        go_at_call 102
        refine (with_none (HS.out.below b3) (NS.out _) hlen).mono ?_
        rintro e w4 ⟨v4, rfl, o4, b4⟩
        go_wp2
        go_ret
        refine ⟨_, rfl, ?_⟩
        rw [HA2.out]
        exact FIN.out _ _ _ _ _ b3 o4 b4
      · have HA2 : Hid (attrAdd rs (pn, pv) = rs ++ [(pn, pv)]) := HA.out.trans (if_neg (by simp; omega))
        have b4 := b3.alloc b3.size (.cells #[.string pn, .string pv] 65)
        go_wp2_with fail
        go_at_call 102
        refine (with_some (HS.out.below b4) (one_pair w3 pn pv) hlen (by simp) (by simp)).mono ?_
        rintro e w4 ⟨v4, rfl, o4, b5⟩
        go_wp2
        go_ret
        refine ⟨_, rfl, ?_⟩
        rw [HA2.out]
        exact FIN.out _ _ _ _ _ b4 o4 b5
  · have HA2 : Hid (attrAdd rs (pn, pv) = rs) := HA.out.trans (if_pos (by simp))
    go_wp2_with fail
    go_at_call 102
    refine (with_none (HS.out.below b2) (NS.out _) hlen).mono ?_
    rintro e w3 ⟨v3, rfl, o3, b3⟩
    go_wp2
    go_ret
    refine ⟨_, rfl, ?_⟩
    rw [HA2.out]
    exact FIN.out _ _ _ _ _ b2 o3 b3
end Go.Proofs.YtiojilmclocmkaaGreatDoor
