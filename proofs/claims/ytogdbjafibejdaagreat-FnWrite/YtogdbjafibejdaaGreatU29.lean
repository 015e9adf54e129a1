/- 'copy' of rows of several cells an element. -/
import Derived.Test.YtogdbjafibejdaaGreatU13
import Derived.Laws.CopyOwn
import Derived.Test.YtogdbjafibejdaaGreatU11
import Derived.Test.YtogdbjafibejdaaGreatU0
import Derived.Test.YtogdbjafibejdaaGreatU1
import Derived.Test.YtogdbjafibejdaaGreatU2
import Derived.Test.YtogdbjafibejdaaGreatU28
import Derived.Test.YtogdbjafibejdaaGreatU12
namespace Go.Proofs.YtogdbjafibejdaaGreat
open Go.RowKit
set_option maxRecDepth 100000
set_option linter.unusedVariables false

theorem run_copy_rows {P : Program} (w : World) (dT sT ty elem : TypeId) (g o dLen dCap : Nat) (a : Addr) (sLen sCap : Nat) (cur : Array Value) (t : TypeId) (cs : List Value) (sz : Nat)
    (hu : P.underlying dT = some (.slice elem)) (hs : (P.info? elem).map (·.size) = some sz)
    (hg : w.heap[g]? = some (.cells cur t (0, 0))) (hn : cs.length = Nat.min sLen dLen * sz)
    (hsrc : ∀ j v, cs[j]? = some v → w.cell? (a.add j) = some v) (hfit : o + cs.length ≤ cur.size) (h1 : ∀ v ∈ cs, v.oneCell' = true) :
    (Builtin.copy_ #[dT, sT] ty #[.slice (some ⟨g, o, none⟩) dLen dCap, .slice (some a) sLen sCap]).run P w =
      .ok (goInt (Nat.min sLen dLen)) (w.setRow g (cur.toList.take o ++ cs ++ cur.toList.drop (o + cs.length)).toArray) := by
  have hl := run_loadCells_list (P := P) w a cs hsrc
  have hst := run_storeCells_at P g o t cs 0 cur w hg (by simpa using hfit) h1
  cases hq : P.info? elem with
  | none => simp [hq] at hs
  | some i =>
    have hi : i.size = sz := by simpa [hq] using hs
    simp [Builtin.copy_, run_underlying hu, Builtin.lenOf, Builtin.firstCells, sizeOf, typeInfo, hq, hi, ← hn, hl, hst]

theorem splice_take {α : Type} {L cs : List α} {o n : Nat} (h1 : o + cs.length ≤ n) (h2 : n ≤ L.length) : (L.take o ++ cs ++ L.drop (o + cs.length)).take n = (L.take n).take o ++ cs ++ (L.take n).drop (o + cs.length) := by
  have hA : (L.take o ++ cs).length = o + cs.length := by simp; omega
  rw [List.take_append, hA, List.take_of_length_le (by omega), List.take_take, Nat.min_eq_left (by omega : o ≤ n), List.drop_take]

/-- A copy into a row of the call's own, from its element j on. -/
theorem copy_into {P : Program} {w : World} {u : Value} {dT sT ty elem : TypeId} {B g n cap j m : Nat} {zs cs : List Value} (hu : P.underlying dT = some (.slice elem)) (hs : (P.info? elem).map (·.size) = some 2)
    (hown : w.ownsRow B elem 2 (.slice (some ⟨g, 0, none⟩) n cap) n zs) (hj : j + m ≤ n) (hsrc : Sv 2 w u cs) (hm : cs.length = m * 2) (h1 : ∀ v ∈ cs, v.oneCell' = true) :
    ∃ w', (Builtin.copy_ #[dT, sT] ty #[.slice (some ⟨g, j * 2, none⟩) (n - j) (cap - j), u]).run P w = .ok (goInt m) w' ∧ w'.ownsRow B elem 2 (.slice (some ⟨g, 0, none⟩) n cap) n (zs.take (j * 2) ++ cs ++ zs.drop (j * 2 + m * 2)) ∧ w.grownBy w' (some g) := by
  obtain ⟨a, len, cap', rfl, h2, h3, h4, h5, hc⟩ := hsrc
  obtain rfl : len = m := by omega
  obtain ⟨hl, ⟨hv, _⟩ | ⟨g', c', cur, hv, hB, hh, hn, hmx, hsz, ht⟩⟩ := hown
  · cases hv
  · cases hv
    cases a with
    | none =>
      have e0 := h5 rfl
      obtain rfl : cap' = 0 := e0
      obtain rfl : len = 0 := by omega
      have hcs : cs = [] := List.length_eq_zero_iff.mp (by omega)
      subst hcs
      refine ⟨w, run_copy_nil P w dT sT ty elem ⟨g, j * 2, none⟩ (n - j) (cap - j) hu (by rw [hs]; rfl), ⟨by simp; omega, .inr ⟨g, cap, cur, rfl, hB, hh, hn, hmx, hsz, by rw [ht]; simp⟩⟩, World.grownBy.refl _ _⟩
    | some ad =>
      have hmin : Nat.min len (n - j) = len := Nat.min_eq_left (by omega)
      have hrun := run_copy_rows (P := P) w dT sT ty elem g (j * 2) (n - j) (cap - j) ad len cap' cur elem cs 2 hu hs hh (by rw [hmin]; exact h2) (fun i v hv => by
        have hi : i < cs.length := (List.getElem?_eq_some_iff.mp hv).1
        obtain ⟨b, off, e, c⟩ := hc i hi
        cases e
        have : cs.getD i undef = v := by rw [List.getD_eq_getElem?_getD, hv]; rfl
        rw [this] at c
        have hadd : (⟨b, off, none⟩ : Addr).add i = ⟨b, off + i, none⟩ := by unfold Addr.add; split <;> simp_all
        rw [hadd]; exact c) (by omega) h1
      rw [hmin] at hrun
      refine ⟨_, hrun, ⟨by simp; omega, .inr ⟨g, cap, _, rfl, hB, setRow_heap w g cur _ elem (0, 0) hh, hn, hmx, ?_, ?_⟩⟩, ⟨rfl, rfl, rfl, by simp [World.setRow], fun i hi hne => ?_⟩⟩
      · simp; omega
      · have hcl : cur.toList.length = cap * 2 := by simpa using hsz
        rw [List.toList_toArray, splice_take (by omega) (by omega), ht, hm]
      · have hig : i ≠ g := fun e => hne (by rw [e])
        show (w.heap.modify g _)[i]? = _
        rw [Array.getElem?_modify, if_neg (fun e => hig e.symm)]

theorem wpList_cpV {P : Program} {w : World} {ops : Array Oper} {rest : List Oper} {o : Oper} {a : Act} {Q : Exit → Act → World → Prop} (hgd : o.guard = none)
    (d s : Operand) (dT sT : TypeId) (ho : o.op = Op.call { callee := Callee.builtin Builtin.copy, args := #[d, s], argTypes := #[dT, sT] }) (elem : TypeId)
    (hu : P.underlying dT = some (.slice elem)) (hs : (P.info? elem).map (·.size) = some 2) (B g n cap j m : Nat) (u : Value) (zs cs : List Value)
    (hd : a.eval d = .slice (some ⟨g, j * 2, none⟩) (n - j) (cap - j)) (hv : a.eval s = u) (hown : w.ownsRow B elem 2 (.slice (some ⟨g, 0, none⟩) n cap) n zs) (hj : j + m ≤ n) (hsrc : Sv 2 w u cs) (hm : cs.length = m * 2) (h1 : ∀ v ∈ cs, v.oneCell' = true)
    (h : ∀ w', w'.ownsRow B elem 2 (.slice (some ⟨g, 0, none⟩) n cap) n (zs.take (j * 2) ++ cs ++ zs.drop (j * 2 + m * 2)) → w.grownBy w' (some g) → wpList P ops Q rest (a.put o.dst (goInt m)) w') : wpList P ops Q (o :: rest) a w := by
  refine wpList_plain hgd fun K hK => ?_
  obtain ⟨w', hrun, h2, h3⟩ := copy_into (ty := o.type) (dT := dT) (sT := sT) hu hs hown hj hsrc hm h1
  unfold Oper.wp
  simp [execOp, ho, resolve, invoke, builtin, hd, hv, hrun, Result.andThen]
  exact hK _ _ (h w' h2 h3)

/-- A copy of nothing into a piece of no element. -/
theorem wpList_cpZ {P : Program} {w : World} {ops : Array Oper} {rest : List Oper} {o : Oper} {a : Act} {Q : Exit → Act → World → Prop} (hgd : o.guard = none)
    (d s : Operand) (dT sT : TypeId) (ho : o.op = Op.call { callee := Callee.builtin Builtin.copy, args := #[d, s], argTypes := #[dT, sT] }) (elem : TypeId)
    (hu : P.underlying dT = some (.slice elem)) (hs : (P.info? elem).map (·.size) = some 2) (B g n cap : Nat) (u : Value) (zs : List Value)
    (hd : a.eval d = .slice (some ⟨g, 0, none⟩) 0 0) (hv : a.eval s = u) (hown : w.ownsRow B elem 2 (.slice (some ⟨g, 0, none⟩) n cap) n zs) (hsrc : Sv 2 w u [])
    (h : wpList P ops Q rest (a.put o.dst (goInt 0)) w) : wpList P ops Q (o :: rest) a w := by
  refine wpList_plain hgd fun K hK => ?_
  have hrun : (Builtin.copy_ #[dT, sT] o.type #[.slice (some ⟨g, 0, none⟩) 0 0, u]).run P w = .ok (goInt 0) w := by
    obtain ⟨ad, len, cap', rfl, h2, h3, h4, h5, hc⟩ := hsrc
    obtain rfl : len = 0 := by have h2' : (0 : Nat) = len * 2 := h2; omega
    cases ad with
    | none =>
      obtain rfl : cap' = 0 := h5 rfl
      exact run_copy_nil P w dT sT o.type elem ⟨g, 0, none⟩ 0 0 hu (by rw [hs]; rfl)
    | some ad =>
      obtain ⟨hl, ⟨hv', _⟩ | ⟨g', c', cur, hv', hB, hh, hn, hmx, hsz, ht⟩⟩ := hown
      · cases hv'
      · cases hv'
        have := run_copy_rows (P := P) w dT sT o.type elem g 0 0 0 ad 0 cap' cur elem [] 2 hu hs hh rfl (fun i v hv => by simp at hv) (by simp) (fun v hv => by cases hv)
        rw [this]
        simp [setRow_self w g cur elem (0, 0) hh]
  unfold Oper.wp
  simp [execOp, ho, resolve, invoke, builtin, hd, hv, hrun, Result.andThen]
  exact hK _ _ h

theorem pairs_oneCell (rs : List (ByteArray × ByteArray)) : ∀ v ∈ pairCells rs, v.oneCell' = true := by
  intro v hv
  unfold pairCells at hv
  obtain ⟨r, _, hr⟩ := List.mem_flatMap.mp hv
  simp only [List.mem_cons, List.not_mem_nil, or_false] at hr
  rcases hr with rfl | rfl <;> rfl
end Go.Proofs.YtogdbjafibejdaaGreat

/- What stands ahead of the last bar: the specification's l11From and FmtClear, the program's lastBar, first and FmtClear, of every list. -/
namespace Go.Proofs.YtogdbjafibejdaaGreat
open Go.RowKit
set_option maxRecDepth 100000
set_option linter.unusedVariables false

/-- The place behind the last bar among the first n. -/
def barAt (xs : List Int) : Nat → Nat
  | 0 => 0
  | n + 1 => if xs.getD n 0 = -1 then n + 1 else barAt xs n
theorem barAt_le (xs : List Int) (n : Nat) : barAt xs n ≤ n := by
  induction n with
  | zero => exact Nat.le_refl _
  | succ n ih => unfold barAt; split <;> omega
theorem barAt_no {xs : List Int} {n : Nat} (h : ¬ xs.getD n 0 = -1) : barAt xs (n + 1) = barAt xs n := by rw [barAt, if_neg h]
theorem barAt_yes {xs : List Int} {n : Nat} (h : xs.getD n 0 = -1) : barAt xs (n + 1) = n + 1 := by rw [barAt, if_pos h]
def clearL (xs : List Int) : List Int := xs.take (barAt xs xs.length - 1)
theorem clearL_len (xs : List Int) : (clearL xs).length ≤ xs.length := by simp [clearL]; omega
theorem sl_take {K : IntKind} {w : World} {a : Option Addr} {xs : List Int} {ca k : Nat} (h : Sl K w (.slice a xs.length ca) xs) (hk : k ≤ xs.length) : Sl K w (.slice a k ca) (xs.take k) := by
  obtain ⟨a', ca', e, h1, h2, h3, h4⟩ := h
  cases e
  have hl : (xs.take k).length = k := by simp; omega
  refine ⟨a, ca, by rw [hl], by omega, h2, h3, ?_⟩
  intro j hj
  rw [hl] at hj
  obtain ⟨b, off, e, c⟩ := h4 j (by omega)
  refine ⟨b, off, e, ?_⟩
  rw [c]
  simp [List.getD_eq_getElem?_getD, hj]

theorem barIf (n : Nat) : (if (n : Int) - 1 > 0 then (n : Int) - 1 else 0) = ((n - 1 : Nat) : Int) := by split <;> omega

end Go.Proofs.YtogdbjafibejdaaGreat

/- The specification's functions on a row of open elements. No condition. -/
namespace Go.Proofs.YtogdbjafibejdaaGreat
open Go.RowKit
set_option maxRecDepth 100000
set_option linter.unusedVariables false

theorem shas_any {w : World} {a : Option Addr} {n cap : Nat} (x : Int) (hn : n ≤ 1048576) :
    Calls Tryz.prog 52 #[.agg #[.slice a n cap], .int .i64 x] w fun e w' => e = .returned (.bool (inB x 0 ((n : Int) - 1))) ∧ Below w.heap.size w w' := by
  have CI := (show Hid _ from fun w => l1In_any x 0 ((n : Int) - 1) w)
  have b1 : Below w.heap.size w (w.alloc (.cells #[.slice a n cap] 26)) := (Below.refl _ _).alloc (Nat.le_refl _) _
  go_enter Tryz.func52, Tryz.ntmps52
  go_wp2_with fail
  go_at_call 57
  refine Calls.mono (CI.out _) ?_
  rintro e w1 ⟨rfl, rfl⟩
  go_wp2
  go_ret
  exact ⟨rfl, b1⟩

/-- The first k of a row are elements, none of them twice. -/
def RowK (ns : List PNode) (row : List Int) (k : Nat) : Prop := ∀ i (h : i < row.length), i < k → elB ns row[i] = true ∧ ∀ j (hj : j < i), row[j] ≠ row[i]
theorem rowK_zero (ns : List PNode) (row : List Int) : RowK ns row 0 := fun i _ h => absurd h (Nat.not_lt_zero i)
theorem rowK_succ {ns : List PNode} {row : List Int} {k : Nat} (h : RowK ns row k) (hk : k < row.length) (he : elB ns row[k] = true) (ho : ∀ j (hj : j < k), row[j] ≠ row[k]) : RowK ns row (k + 1) := fun i hi hik => by
  by_cases e : i = k
  · subst e; exact ⟨he, ho⟩
  · exact h i hi (by omega)
theorem rowK_all {ns : List PNode} {row : List Int} (h : RowK ns row row.length) (hl : row.length ≤ 40) : RowP ns row := ⟨hl, fun i hi => (h i hi hi).1, fun i k hi hk => (h i hi hi).2 k hk⟩

end Go.Proofs.YtogdbjafibejdaaGreat

/- The specification's l6Below: whether a node is another one, or stands below it. No condition. -/
namespace Go.Proofs.YtogdbjafibejdaaGreat
open Go.RowKit
set_option maxRecDepth 100000
set_option linter.unusedVariables false

/-- How deep a node stands. -/
theorem depths {ns : List PNode} (h : TreeOkP ns) : ∃ F : Nat → Nat, ∀ i p : Nat, i < ns.length → parOf ns i = (p : Int) → F p < F i ∧ p < ns.length ∧ (i : Int) ∈ kidsOf ns p := by
  refine ⟨fun i => if hi : i < ns.length then (h.linked i hi).choose else 0, fun i p hi hp => ?_⟩
  have hd := (h.linked i hi).choose_spec
  generalize he : (h.linked i hi).choose = d at hd
  cases d with
  | zero => have := hd.2; omega
  | succ d =>
    obtain ⟨q, hq, hk⟩ := hd
    obtain ⟨h1, _, _, h4⟩ := fit_kid h.fit hk
    have e : q = p := by simp at h4; omega
    subst e
    refine ⟨?_, h1, hk⟩
    simp only [hi, h1, dif_pos]
    rw [he, dep_uniq h.fit _ _ _ (h.linked q h1).choose_spec hq]
    omega
def hgt (F : Nat → Nat) (x : Int) : Nat := if x < 0 then 0 else F x.toNat + 1
theorem hgt_nat (F : Nat → Nat) (n : Nat) : hgt F (n : Int) = F n + 1 := by unfold hgt; rw [if_neg (by omega)]; simp
theorem hgt_neg (F : Nat → Nat) : hgt F (-1) = 0 := rfl
theorem bel_step {ns : List PNode} (h : TreeOkP ns) {c i : Nat} (hne : i ≠ c) : (∃ d, belD ns c d i) ↔ ∃ p : Nat, (i : Int) ∈ kidsOf ns p ∧ ∃ d, belD ns c d p := by
  constructor
  · rintro ⟨d, hd⟩
    cases d with
    | zero => exact absurd hd hne
    | succ d => obtain ⟨q, hq, hk⟩ := hd; exact ⟨q, hk, d, hq⟩
  · rintro ⟨p, hk, d, hd⟩
    exact ⟨d + 1, p, hd, hk⟩

set_option maxHeartbeats 2000000 in
set_option maxRecDepth 100000 in
theorem sbelow_any {w : World} {v : Value} {ns : List PNode} (hn : NodesAt w v ns) (hlen : ns.length ≤ 1048576) (ok : TreeOkP ns) {c p : Nat} (hp : p < ns.length) (hc : c < ns.length) :
    Calls Tryz.prog 54 #[.agg #[v], .int .i64 (p : Int), .int .i64 (c : Int)] w fun e w' => ∃ r : Bool, e = .returned (.bool r) ∧ (r = true ↔ ∃ d, belD ns c d p) ∧ Below w.heap.size w w' := by
  obtain ⟨a, cap, rfl, hc1, hc2, hcs⟩ := hn.slice
  obtain ⟨b, off, _, _, rfl, hblt, _⟩ := hcs p hp
  have HCS := (show Hid _ from hcs)
  have HOK := (show Hid (TreeOkP ns) from ok)
  obtain ⟨F, hF⟩ := depths ok
  have HF := (show Hid _ from hF)
  clear hn hcs hF ok
  obtain ⟨W, hW⟩ : ∃ W, W = w.alloc (.cells #[.slice (some ⟨b, off, none⟩) ns.length cap] 26) := ⟨_, rfl⟩
  have bW : Below w.heap.size w W := by rw [hW]; exact (Below.refl _ w).alloc (Nat.le_refl _) _
  have gW : W.heap[w.heap.size]? = some (.cells #[.slice (some ⟨b, off, none⟩) ns.length cap] 26 (0, 0)) := by rw [hW]; exact World.alloc_heap_new _ _
  have cT : W.cell? ⟨w.heap.size, 0, none⟩ = some (.slice (some ⟨b, off, none⟩) ns.length cap) := by simp only [World.cell?, gW]; rfl
  have BW := (show Hid _ from bW)
  clear gW bW
  go_enter Tryz.func54, Tryz.ntmps54
  go_wp2
  rw [← hW]
  clear hW
  go_loopw [1] (fun u wr => Hid (wr = W) ∧ ∃ x : Int, u = .int .i64 x ∧ -1 ≤ x ∧ x < ns.length ∧ ((∃ d, belD ns c d p) ↔ 0 ≤ x ∧ ∃ d, belD ns c d x.toNat)) (fun u _ => hgt F (intOf u))
  case atStart => exact ⟨rfl, p, rfl, by omega, by omega, by simp⟩
  case round =>
    obtain ⟨hwr, x, rfl, hx1, hx2, hx3⟩ := hrel
    obtain rfl := hwr.out
    clear hwr
    have HX3 := (show Hid _ from hx3)
    clear hx3
    by_cases h0 : 0 ≤ x
    · obtain ⟨xn, rfl⟩ : ∃ xn : Nat, x = xn := ⟨x.toNat, by omega⟩
      by_cases hxc : xn = c
      · subst hxc
        go_wp2
        go_ret
        refine ⟨true, rfl, ⟨fun _ => HX3.out.mpr ⟨by omega, 0, by simp [belD]⟩, fun _ => rfl⟩, BW.out⟩
      · have hxl : xn < ns.length := by omega
        have hxi : ¬ ((xn : Int) = (c : Int)) := by omega
        obtain ⟨_, _, _, _, e4, _, _, _, _, _, cP, _⟩ := HCS.out xn hxl
        cases e4
        replace cP := (BW.out.cell (p := ⟨b, off + xn * 6 + 4, none⟩) hblt).trans cP
        obtain ⟨q, hq⟩ : ∃ q, q = ns[xn].parent := ⟨_, rfl⟩
        have HQ : Hid (parOf ns xn = q) := (show parOf ns xn = q by rw [hq]; exact parOf_at hxl)
        rw [← hq] at cP
        clear hq
        have HPQ : Hid (q = -1 ∨ ∃ pq : Nat, q = pq ∧ F pq < F xn ∧ pq < ns.length ∧ (xn : Int) ∈ kidsOf ns pq) := by
          obtain ⟨d, hd⟩ := HOK.out.linked xn hxl
          cases d with
          | zero => exact .inl (HQ.out.symm.trans hd.2)
          | succ d =>
            obtain ⟨pp, _, hk⟩ := hd
            obtain ⟨_, _, _, h4⟩ := fit_kid HOK.out.fit hk
            have h4' : parOf ns xn = (pp : Int) := by simpa using h4
            exact .inr ⟨pp, HQ.out.symm.trans h4', HF.out xn pp hxl h4'⟩
        go_wp2
        go_roundw
        case rel =>
          refine ⟨(show Hid True from trivial), q, rfl, ?_⟩
          rcases HPQ.out with rfl | ⟨pq, rfl, h1, h2, h3⟩
          · refine ⟨by omega, by omega, HX3.out.trans ⟨fun h => ?_, fun h => absurd h.1 (by omega)⟩⟩
            obtain ⟨p', hk', _⟩ := (bel_step HOK.out hxc).mp (by simpa using h.2)
            have := kid_par HOK.out.fit hk'
            have := HQ.out
            omega
          · refine ⟨by omega, by omega, HX3.out.trans ⟨fun h => ⟨by omega, ?_⟩, fun h => ⟨by omega, ?_⟩⟩⟩
            · obtain ⟨p', hk', hd⟩ := (bel_step HOK.out hxc).mp (by simpa using h.2)
              have e1 := kid_par HOK.out.fit hk'
              have e2 := HQ.out
              have e : p' = pq := by omega
              subst e
              simpa using hd
            · have := (bel_step HOK.out hxc).mpr ⟨pq, h3, by simpa using h.2⟩
              simpa using this
        case measure =>
          rcases HPQ.out with rfl | ⟨pq, rfl, h1, h2, h3⟩
          · show hgt F (-1) < hgt F (xn : Int); rw [hgt_neg, hgt_nat]; omega
          · show hgt F (pq : Int) < hgt F (xn : Int); rw [hgt_nat, hgt_nat]; omega
            go_goals
    · have h1 : x = -1 := by omega
      subst h1
      go_wp2
      go_ret
      exact .inl ⟨rfl, fun d hd => absurd (HX3.out.mp ⟨d, hd⟩).1 (by omega), BW.out⟩
end Go.Proofs.YtogdbjafibejdaaGreat

/- The program's functions on a row of open elements: what a row is. No condition. -/
namespace Go.Proofs.YtogdbjafibejdaaGreat
open Go.RowKit
set_option maxRecDepth 100000
set_option linter.unusedVariables false

end Go.Proofs.YtogdbjafibejdaaGreat

/- The program's openRowOf. No condition. -/
namespace Go.Proofs.YtogdbjafibejdaaGreat
open Go.RowKit
set_option maxRecDepth 100000
set_option linter.unusedVariables false

end Go.Proofs.YtogdbjafibejdaaGreat
