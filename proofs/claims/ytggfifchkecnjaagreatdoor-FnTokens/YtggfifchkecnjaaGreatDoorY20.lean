/- 'copy' of rows of several cells an element. -/
import Derived.Test.YtggfifchkecnjaaGreatDoorY17
import Derived.Laws.CopyOwn
import Derived.Test.YtggfifchkecnjaaGreatDoorY7
import Derived.Test.YtggfifchkecnjaaGreatDoorY18
import Derived.Test.YtggfifchkecnjaaGreatDoorY8
import Derived.Test.YtggfifchkecnjaaGreatDoorY16
namespace Go.Proofs.YtggfifchkecnjaaGreatDoor
open Go.RowKit
set_option maxRecDepth 100000
set_option linter.unusedVariables false

theorem run_copy_rows {P : Program} (w : World) (dT sT ty elem : TypeId) (g o dLen dCap : Nat) (a : Addr) (sLen sCap : Nat) (cur : Array Value) (t : TypeId) (cs : List Value) (sz : Nat)
    (hu : P.underlying dT = some (.slice elem)) (hs : (P.info? elem).map (·.size) = some sz)
    (hg : w.heap[g]? = some (.cells cur t (0, 0))) (hn : cs.length = Nat.min sLen dLen * sz)
    (hsrc : ∀ j v, cs[j]? = some v → w.cell? (a.add j) = some v) (hfit : o + cs.length ≤ cur.size) (h1 : ∀ v ∈ cs, v.oneCell' = true) :
    (Builtin.copy_ #[dT, sT] ty #[.slice (some ⟨g, o, none⟩) dLen dCap, .slice (some a) sLen sCap]).run P w =
      .ok (goInt (Nat.min sLen dLen)) (w.setRow g (cur.toList.take o ++ cs ++ cur.toList.drop (o + cs.length)).toArray) := by
  have hl := run_loadCells_list (P := P) w a cs hsrc
  have hst := run_storeCells_at P g o t cs 0 cur w hg (by simpa using hfit) h1
  cases hq : P.info? elem with
  | none => simp [hq] at hs
  | some i =>
    have hi : i.size = sz := by simpa [hq] using hs
    simp [Builtin.copy_, run_underlying hu, Builtin.lenOf, Builtin.firstCells, sizeOf, typeInfo, hq, hi, ← hn, hl, hst]

theorem splice_take {α : Type} {L cs : List α} {o n : Nat} (h1 : o + cs.length ≤ n) (h2 : n ≤ L.length) : (L.take o ++ cs ++ L.drop (o + cs.length)).take n = (L.take n).take o ++ cs ++ (L.take n).drop (o + cs.length) := by
  have hA : (L.take o ++ cs).length = o + cs.length := by simp; omega
  rw [List.take_append, hA, List.take_of_length_le (by omega), List.take_take, Nat.min_eq_left (by omega : o ≤ n), List.drop_take]

theorem copy_into {P : Program} {w : World} {u : Value} {dT sT ty elem : TypeId} {B g n cap j m : Nat} {zs cs : List Value} (hu : P.underlying dT = some (.slice elem)) (hs : (P.info? elem).map (·.size) = some 2)
    (hown : w.ownsRow B elem 2 (.slice (some ⟨g, 0, none⟩) n cap) n zs) (hj : j + m ≤ n) (hsrc : Sv 2 w u cs) (hm : cs.length = m * 2) (h1 : ∀ v ∈ cs, v.oneCell' = true) :
    ∃ w', (Builtin.copy_ #[dT, sT] ty #[.slice (some ⟨g, j * 2, none⟩) (n - j) (cap - j), u]).run P w = .ok (goInt m) w' ∧ w'.ownsRow B elem 2 (.slice (some ⟨g, 0, none⟩) n cap) n (zs.take (j * 2) ++ cs ++ zs.drop (j * 2 + m * 2)) ∧ w.grownBy w' (some g) := by
  obtain ⟨a, len, cap', rfl, h2, h3, h4, h5, hc⟩ := hsrc
  obtain rfl : len = m := by omega
  obtain ⟨hl, ⟨hv, _⟩ | ⟨g', c', cur, hv, hB, hh, hn, hmx, hsz, ht⟩⟩ := hown
  · cases hv
  · cases hv
    cases a with
    | none =>
      have e0 := h5 rfl
      obtain rfl : cap' = 0 := e0
      obtain rfl : len = 0 := by omega
      have hcs : cs = [] := List.length_eq_zero_iff.mp (by omega)
      subst hcs
      refine ⟨w, run_copy_nil P w dT sT ty elem ⟨g, j * 2, none⟩ (n - j) (cap - j) hu (by rw [hs]; rfl), ⟨by simp; omega, .inr ⟨g, cap, cur, rfl, hB, hh, hn, hmx, hsz, by rw [ht]; simp⟩⟩, World.grownBy.refl _ _⟩
    | some ad =>
      have hmin : Nat.min len (n - j) = len := Nat.min_eq_left (by omega)
      have hrun := run_copy_rows (P := P) w dT sT ty elem g (j * 2) (n - j) (cap - j) ad len cap' cur elem cs 2 hu hs hh (by rw [hmin]; exact h2) (fun i v hv => by
        have hi : i < cs.length := (List.getElem?_eq_some_iff.mp hv).1
        obtain ⟨b, off, e, c⟩ := hc i hi
        cases e
        have : cs.getD i undef = v := by rw [List.getD_eq_getElem?_getD, hv]; rfl
        rw [this] at c
        have hadd : (⟨b, off, none⟩ : Addr).add i = ⟨b, off + i, none⟩ := by unfold Addr.add; split <;> simp_all
        rw [hadd]; exact c) (by omega) h1
      rw [hmin] at hrun
      refine ⟨_, hrun, ⟨by simp; omega, .inr ⟨g, cap, _, rfl, hB, setRow_heap w g cur _ elem (0, 0) hh, hn, hmx, ?_, ?_⟩⟩, ⟨rfl, rfl, rfl, by simp [World.setRow], fun i hi hne => ?_⟩⟩
      · simp; omega
      · have hcl : cur.toList.length = cap * 2 := by simpa using hsz
        rw [List.toList_toArray, splice_take (by omega) (by omega), ht, hm]
      · have hig : i ≠ g := fun e => hne (by rw [e])
        show (w.heap.modify g _)[i]? = _
        rw [Array.getElem?_modify, if_neg (fun e => hig e.symm)]

theorem wpList_cpV {P : Program} {w : World} {ops : Array Oper} {rest : List Oper} {o : Oper} {a : Act} {Q : Exit → Act → World → Prop} (hgd : o.guard = none)
    (d s : Operand) (dT sT : TypeId) (ho : o.op = Op.call { callee := Callee.builtin Builtin.copy, args := #[d, s], argTypes := #[dT, sT] }) (elem : TypeId)
    (hu : P.underlying dT = some (.slice elem)) (hs : (P.info? elem).map (·.size) = some 2) (B g n cap j m : Nat) (u : Value) (zs cs : List Value)
    (hd : a.eval d = .slice (some ⟨g, j * 2, none⟩) (n - j) (cap - j)) (hv : a.eval s = u) (hown : w.ownsRow B elem 2 (.slice (some ⟨g, 0, none⟩) n cap) n zs) (hj : j + m ≤ n) (hsrc : Sv 2 w u cs) (hm : cs.length = m * 2) (h1 : ∀ v ∈ cs, v.oneCell' = true)
    (h : ∀ w', w'.ownsRow B elem 2 (.slice (some ⟨g, 0, none⟩) n cap) n (zs.take (j * 2) ++ cs ++ zs.drop (j * 2 + m * 2)) → w.grownBy w' (some g) → wpList P ops Q rest (a.put o.dst (goInt m)) w') : wpList P ops Q (o :: rest) a w := by
  refine wpList_plain hgd fun K hK => ?_
  obtain ⟨w', hrun, h2, h3⟩ := copy_into (ty := o.type) (dT := dT) (sT := sT) hu hs hown hj hsrc hm h1
  unfold Oper.wp
  simp [execOp, ho, resolve, invoke, builtin, hd, hv, hrun, Result.andThen]
  exact hK _ _ (h w' h2 h3)

theorem wpList_cpZ {P : Program} {w : World} {ops : Array Oper} {rest : List Oper} {o : Oper} {a : Act} {Q : Exit → Act → World → Prop} (hgd : o.guard = none)
    (d s : Operand) (dT sT : TypeId) (ho : o.op = Op.call { callee := Callee.builtin Builtin.copy, args := #[d, s], argTypes := #[dT, sT] }) (elem : TypeId)
    (hu : P.underlying dT = some (.slice elem)) (hs : (P.info? elem).map (·.size) = some 2) (B g n cap : Nat) (u : Value) (zs : List Value)
    (hd : a.eval d = .slice (some ⟨g, 0, none⟩) 0 0) (hv : a.eval s = u) (hown : w.ownsRow B elem 2 (.slice (some ⟨g, 0, none⟩) n cap) n zs) (hsrc : Sv 2 w u [])
    (h : wpList P ops Q rest (a.put o.dst (goInt 0)) w) : wpList P ops Q (o :: rest) a w := by
  refine wpList_plain hgd fun K hK => ?_
  have hrun : (Builtin.copy_ #[dT, sT] o.type #[.slice (some ⟨g, 0, none⟩) 0 0, u]).run P w = .ok (goInt 0) w := by
    obtain ⟨ad, len, cap', rfl, h2, h3, h4, h5, hc⟩ := hsrc
    obtain rfl : len = 0 := by have h2' : (0 : Nat) = len * 2 := h2; omega
    cases ad with
    | none =>
      obtain rfl : cap' = 0 := h5 rfl
      exact run_copy_nil P w dT sT o.type elem ⟨g, 0, none⟩ 0 0 hu (by rw [hs]; rfl)
    | some ad =>
      obtain ⟨hl, ⟨hv', _⟩ | ⟨g', c', cur, hv', hB, hh, hn, hmx, hsz, ht⟩⟩ := hown
      · cases hv'
      · cases hv'
        have := run_copy_rows (P := P) w dT sT o.type elem g 0 0 0 ad 0 cap' cur elem [] 2 hu hs hh rfl (fun i v hv => by simp at hv) (by simp) (fun v hv => by cases hv)
        rw [this]
        simp [setRow_self w g cur elem (0, 0) hh]
  unfold Oper.wp
  simp [execOp, ho, resolve, invoke, builtin, hd, hv, hrun, Result.andThen]
  exact hK _ _ h

theorem pairs_oneCell (rs : List (ByteArray × ByteArray)) : ∀ v ∈ pairCells rs, v.oneCell' = true := by
  intro v hv
  unfold pairCells at hv
  obtain ⟨r, _, hr⟩ := List.mem_flatMap.mp hv
  simp only [List.mem_cons, List.not_mem_nil, or_false] at hr
  rcases hr with rfl | rfl <;> rfl
end Go.Proofs.YtggfifchkecnjaaGreatDoor

/- The contract of the specification's RefRead. -/
namespace Go.Proofs.YtggfifchkecnjaaGreatDoor
open Go.RowKit
set_option maxRecDepth 100000
set_option linter.unusedVariables false

theorem own1 (w : World) (x : Int) : Own w.heap.size 3 .i64 (w.alloc (.cells #[.int .i64 x] 3)) (.slice (some ⟨w.heap.size, 0, none⟩) 1 1) [x] :=
  World.ownsRow_lit w #[.int .i64 x] 1 (Nat.le_refl _) (by unfold maxLen; omega) rfl

def Reads (w : World) (res : List Int × Int) (e : Ending) (w' : World) : Prop :=
  ∃ v, e = .returned (.tuple #[v, .int .i64 res.2]) ∧ Own w.heap.size 3 .i64 w' v res.1 ∧ Below w.heap.size w w'

theorem refRead_none {xs : List Int} {i : Int} {b : Bool} (h : 3000 < xs.length ∨ inB i 0 (xs.length - 1) = false ∨ xs.getD i.toNat 0 ≠ 38) : refRead xs i b = ([], i) := by unfold refRead; rw [if_pos h]

set_option maxHeartbeats 4000000 in
set_option maxRecDepth 100000 in
theorem srefRead_none {v : Value} {xs : List Int} {w : World} (h : Sl .i64 w v xs) (i : Int) (b : Bool) (hn : xs.length ≤ 1099511627776) (hi : 3000 < xs.length ∨ inB i 0 (xs.length - 1) = false ∨ xs.getD i.toNat 0 ≠ 38) :
    Calls Tryz.prog 44 #[v, .int .i64 i, .bool b] w (Reads w (refRead xs i b)) := by
  rw [refRead_none hi]
  have c1 := fun w => l1In_any i 0 (xs.length - 1) w
  obtain ⟨a, ca, rfl, _, _, _, ha⟩ := h
  by_cases h1 : 3000 < xs.length
  · clear ha
    go_enter Tryz.func44, Tryz.ntmps44
    go_wp2
    go_ret2
    exact ⟨_, rfl, own_empty _ _ _, (Below.refl _ _).alloc (Nat.le_refl _) _⟩
  · rcases h2 : inB i 0 (xs.length - 1) with _ | _
    · rw [h2] at c1
      clear ha
      go_enter Tryz.func44, Tryz.ntmps44
      go_wp2_with fail
      go_at_call 42
      refine (c1 _).mono ?_
      rintro e w1 ⟨rfl, rfl⟩
      go_wp2
      go_ret2
      exact ⟨_, rfl, own_empty _ _ _, (Below.refl _ _).alloc (Nat.le_refl _) _⟩
    · rw [h2] at c1
      have h3 : xs.getD i.toNat 0 ≠ 38 := by
        rcases hi with hi | hi | hi
        · exact absurd hi h1
        · rw [h2] at hi; cases hi
        · exact hi
      have h4 : 0 ≤ i ∧ i ≤ xs.length - 1 := by unfold inB at h2; simpa using h2
      obtain ⟨k, rfl⟩ : ∃ k : Nat, i = k := ⟨i.toNat, by omega⟩
      have hk : k < xs.length := by omega
      obtain ⟨b1, o1, rfl, k1⟩ := ha k hk
      rw [Int.toNat_natCast] at h3
      have e3 : (xs.getD k 0 != 38) = true := by simpa using h3
      obtain ⟨y, hy⟩ : ∃ y, y = xs.getD k 0 := ⟨_, rfl⟩
      rw [← hy] at k1 e3
      clear ha hy h3 h2 hi
      go_enter Tryz.func44, Tryz.ntmps44
      go_wp2_with fail
      go_at_call 42
      refine (c1 _).mono ?_
      rintro e w1 ⟨rfl, rfl⟩
      go_wp2
      go_ret2
      exact ⟨_, rfl, own_empty _ _ _, (Below.refl _ _).alloc (Nat.le_refl _) _⟩
end Go.Proofs.YtggfifchkecnjaaGreatDoor

/- A token among the arguments, opened as its five cells. -/
namespace Go.Proofs.YtggfifchkecnjaaGreatDoor
open Go.RowKit Go.ChangeShapes Go.WideShapes
set_option maxRecDepth 100000
set_option linter.unusedVariables false

section
variable {H : Type} {enc : TypeId × Value → H} {P : Program} {w : World} {base : Nat} {spare : Nat → Bool} {held : Bool}
end
end Go.Proofs.YtggfifchkecnjaaGreatDoor

/- The contracts of the program's hasPoint and digitsFrom. -/
namespace Go.Proofs.YtggfifchkecnjaaGreatDoor
open Go.RowKit
set_option maxRecDepth 100000
set_option linter.unusedVariables false

theorem hasPoint_any {v : Value} {xs : List Int} {w : World} (h : Sl .i64 w v xs) (k : Nat) (x : Int) (hx : 0 ≤ x) (hn : xs.length ≤ 1099511627776) :
    Calls Tryz.prog 139 #[v, .int .i64 k, .int .i64 x] w fun e w' => e = .returned (.bool (atL xs k == x)) ∧ w' = w := by
  obtain ⟨a, ca, rfl, _, _, _, ha⟩ := h
  by_cases hk : k < xs.length
  · rw [atL_in hk]
    obtain ⟨b1, o1, rfl, c1⟩ := ha k hk
    clear ha
    obtain ⟨y, hy⟩ : ∃ y, y = xs.getD k 0 := ⟨_, rfl⟩
    rw [← hy] at c1 ⊢
    clear hy
    go_enter Tryz.func139, Tryz.ntmps139
    go_wp2
    go_ret
    exact ⟨rfl, rfl⟩
  · rw [atL_out (by omega)]
    have e : ((-1 : Int) == x) = false := by simp; omega
    rw [e]
    clear ha e
    go_enter Tryz.func139, Tryz.ntmps139
    go_wp2
    go_ret
    exact ⟨rfl, rfl⟩

theorem digitOf_zero {x b : Int} (hb : b = 10 ∨ b = 16) (h : 0 ≤ digitOf x b) : digitOf x b = 0 ↔ x = 48 := by
  unfold digitOf at *
  by_cases h1 : 48 ≤ x ∧ x ≤ 57
  · rw [inB_yes h1.1 h1.2] at *
    rcases hb with rfl | rfl <;> simp <;> omega
  · rw [inB_no (x := x) (lo := 48) (hi := 57) (by omega)] at *
    rcases hb with rfl | rfl
    · simp at h
    · by_cases h2 : 65 ≤ x ∧ x ≤ 70
      · rw [inB_yes h2.1 h2.2] at *; simp; omega
      · rw [inB_no (x := x) (lo := 65) (hi := 70) (by omega)] at *
        by_cases h3 : 97 ≤ x ∧ x ≤ 102
        · rw [inB_yes h3.1 h3.2] at *; simp; omega
        · rw [inB_no (x := x) (lo := 97) (hi := 102) (by omega)] at *; simp at h

def digNum (xs : List Int) (b : Int) (k : Nat) : Int := let p := digVal b (digs b (xs.drop k)); if 7 < p.2 then 1114112 else p.1

set_option maxHeartbeats 4000000 in
set_option maxRecDepth 100000 in
theorem digitsFrom_any {v : Value} {xs : List Int} {w : World} (h : Sl .i64 w v xs) (f : Nat) (b : Int) (hb : b = 10 ∨ b = 16) (hn : xs.length ≤ 3000) (hf : f ≤ 3002) :
    Calls Tryz.prog 140 #[v, .int .i64 f, .int .i64 b] w fun e w' => e = .returned (.tuple #[.int .i64 (digNum xs b f), .int .i64 (f + (digs b (xs.drop f)).length : Nat)]) ∧ Below w.heap.size w w' := by
  have h0 := h
  have HS := (show Hid (Sl .i64 w v xs) from h)
  obtain ⟨a, ca, rfl, _, _, _, ha⟩ := h
  have hbb : 10 ≤ b ∧ b ≤ 16 := by omega
  clear ha h0
  go_enter Tryz.func140, Tryz.ntmps140
  go_wp2
  go_loopw [1, 8, 9] (fun i u n wr => ∃ k m : Nat, k ≤ (digs b (xs.drop f)).length ∧ m = f + k ∧ i = .int .i64 m ∧ u = .int .i64 (digVal b ((digs b (xs.drop f)).take k)).1 ∧ n = .int .i64 (digVal b ((digs b (xs.drop f)).take k)).2 ∧ Below w.heap.size w wr) (fun i _ _ _ => f + (digs b (xs.drop f)).length - (intOf i).toNat)
  case atStart => exact ⟨0, f, Nat.zero_le _, rfl, rfl, rfl, rfl, Below.refl _ _⟩
  case round =>
    obtain ⟨k, m, hk, hm, rfl, rfl, rfl, bel⟩ := hrel
    have hdl := digs_le b (xs.drop f)
    rw [List.length_drop] at hdl
    have hpos := digVal_ok hb (xs.drop f) k
    have hcnt : (digVal b ((digs b (xs.drop f)).take k)).2 ≤ 0 + ((digs b (xs.drop f)).take k).length := digVal_count _ (0, 0)
    have hlt' : ((digs b (xs.drop f)).take k).length ≤ xs.length := by simp; omega
    obtain ⟨p, hp⟩ : ∃ p, p = digVal b ((digs b (xs.drop f)).take k) := ⟨_, rfl⟩
    rw [← hp] at hpos hcnt
    have hat : (xs.drop f).getD k (-1) = atL xs m := by rw [hm]; simp [atL, List.getD_eq_getElem?_getD, List.getElem?_drop]
    by_cases hlt : k < (digs b (xs.drop f)).length
    · have hd := digs_at b (xs.drop f) k hlt
      have hml : m < xs.length := by rw [hm]; omega
      have hle := digitOf_le (atL xs m) b hb
      have hstep := digVal_succ b (digs b (xs.drop f)) k hlt
      rw [hat] at hd
      rw [← hp, hd.1] at hstep
      have hz := digitOf_zero hb hd.2
      obtain ⟨_, _, ev, _, _, _, ha⟩ := HS.out.below bel
      cases ev
      obtain ⟨b1, o1, rfl, c1⟩ := ha m hml
      clear ha
      rw [← atL_in hml] at c1
      obtain ⟨d, hdd⟩ : ∃ d, d = digitOf (atL xs m) b := ⟨_, rfl⟩
      have c2 := fun w => idigit_any (atL xs m) b w
      obtain ⟨c, hc⟩ : ∃ c, c = atL xs m := ⟨_, rfl⟩
      rw [← hdd] at hd hle hstep c2 hz
      rw [← hc] at c1 c2 hz
      have C2 := (show Hid _ from c2)
      have HSt := (show Hid _ from hstep)
      have HK : Hid (k + 1 ≤ (digs b (xs.drop f)).length) := hlt
      have HM : Hid (m = f + k) := hm
      have d0 := hd.2
      have hmb : m ≤ 3000 := by omega
      obtain ⟨px, pn⟩ := p
      simp only at hpos hcnt
      have HP := (show Hid _ from hp)
      have hbx : b * px = px * b := Int.mul_comm _ _
      have hpx : 0 ≤ px * b ∧ px * b < 268435456 * 16 := by
        rcases hb with rfl | rfl <;> omega
      have hcb := c1
      clear c2 hstep hm hd hdd hc hlt hat hp hb
      rw [← HP.out]
      simp only
      obtain ⟨q, hq⟩ : ∃ q, q = px * b := ⟨_, rfl⟩
      rw [← hq] at hbx hpx
      have HC : Hid (∀ w', Below wr.heap.size wr w' → w'.cell? ⟨b1, o1 + m, none⟩ = some (.int .i64 c)) := fun w' hb' => (hb'.cell (p := ⟨b1, o1 + m, none⟩) (by
        by_cases hl : b1 < wr.heap.size
        · exact hl
        · exfalso; simp [World.cell?, Array.getElem?_eq_none (Nat.le_of_not_lt hl)] at c1)).trans c1
      go_wp2_with fail
      go_at_call 150
      refine (C2.out _).mono ?_
      rintro e w1 ⟨rfl, bw⟩
      have c2 := HC.out _ bw
      rcases (show (0 < pn) ∨ (pn = 0 ∧ 0 < d) ∨ (pn = 0 ∧ d = 0) by omega) with hc | ⟨rfl, hc⟩ | ⟨rfl, rfl⟩
      · by_cases h7 : pn + 1 ≤ 7
        · go_wp2_with fail
          go_at_call 150
          refine (C2.out _).mono ?_
          rintro e w2 ⟨rfl, bw2⟩
          go_wp2
          go_roundw
          case rel => exact ⟨k + 1, m + 1, HK.out, by rw [HM.out]; omega, by go_num, by rw [HSt.out, digStep_inc (.inl hc) h7, Int.mul_comm], by rw [HSt.out, digStep_inc (.inl hc) h7]; go_num, (bel.trans (bw.mono bel.size)).trans (bw2.mono ((bel.trans (bw.mono bel.size)).size))⟩
          case measure => have := HM.out; have := HK.out; simp [intOf]; omega
        · go_wp2
          go_roundw
          case rel => exact ⟨k + 1, m + 1, HK.out, by rw [HM.out]; omega, by go_num, by rw [HSt.out, digStep_over (.inl hc) h7], by rw [HSt.out, digStep_over (.inl hc) h7]; go_num, (bel.trans (bw.mono bel.size))⟩
          case measure => have := HM.out; have := HK.out; simp [intOf]; omega
      · have hc48 : (c != 48) = true := by simp; intro e; have := hz.mpr e; omega
        go_wp2_with fail
        go_at_call 150
        refine (C2.out _).mono ?_
        rintro e w2 ⟨rfl, bw2⟩
        go_wp2
        go_roundw
        case rel => exact ⟨k + 1, m + 1, HK.out, by rw [HM.out]; omega, by go_num, by rw [HSt.out, digStep_inc (.inr hc) (by omega), Int.mul_comm], by rw [HSt.out, digStep_inc (.inr hc) (by omega)]; go_num, (bel.trans (bw.mono bel.size)).trans (bw2.mono ((bel.trans (bw.mono bel.size)).size))⟩
        case measure => have := HM.out; have := HK.out; simp [intOf]; omega
      · obtain rfl : c = 48 := hz.mp rfl
        go_wp2_with fail
        go_at_call 150
        refine (C2.out _).mono ?_
        rintro e w2 ⟨rfl, bw2⟩
        go_wp2
        go_roundw
        case rel => exact ⟨k + 1, m + 1, HK.out, by rw [HM.out]; omega, by go_num, by rw [HSt.out, digStep_nought, Int.mul_comm]; go_num, by rw [HSt.out, digStep_nought]; go_num, (bel.trans (bw.mono bel.size)).trans (bw2.mono ((bel.trans (bw.mono bel.size)).size))⟩
        case measure => have := HM.out; have := HK.out; simp [intOf]; omega
    · have hkk : k = (digs b (xs.drop f)).length := by omega
      have hend := digs_end b (xs.drop f)
      rw [← hkk, hat] at hend
      rw [hkk, List.take_length] at hp
      have hmb : m ≤ 6002 := by omega
      have hmf : f + (digs b (xs.drop f)).length = m := by rw [← hkk]; exact hm.symm
      have hres : digNum xs b f = if 7 < p.2 then 1114112 else p.1 := by unfold digNum; simp only; rw [← hp]
      have HR : Hid (digNum xs b f = (if 7 < p.2 then 1114112 else p.1) ∧ f + (digs b (xs.drop f)).length = m) := ⟨hres, hmf⟩
      have hp' : digVal b ((digs b (xs.drop f)).take k) = p := by rw [hkk, List.take_length]; exact hp.symm
      rw [hp']
      obtain ⟨px, pn⟩ := p
      simp only at hpos hcnt HR ⊢
      by_cases hml : m < xs.length
      · have c2 := fun w => idigit_any (atL xs m) b w
        obtain ⟨_, _, ev, _, _, _, ha⟩ := HS.out.below bel
        cases ev
        obtain ⟨b1, o1, rfl, c1⟩ := ha m hml
        rw [← atL_in hml] at c1
        obtain ⟨d, hdd⟩ : ∃ d, d = digitOf (atL xs m) b := ⟨_, rfl⟩
        obtain ⟨c, hc⟩ : ∃ c, c = atL xs m := ⟨_, rfl⟩
        rw [← hdd] at hend c2
        rw [← hc] at c1 c2
        have C2 := (show Hid _ from c2)
        clear c2 hm hdd hc hlt hat hp hp' hres hkk hmf hb ha hk hlt' hdl hcnt
        go_wp2_with fail
        go_at_call 150
        refine (C2.out _).mono ?_
        rintro e w1 ⟨rfl, bw⟩
        by_cases h7 : 7 < pn
        · have hr := HR.out; rw [if_pos h7] at hr; have HR2 := (show Hid _ from hr); clear hr
          go_wp2
          go_ret2
          exact ⟨by rw [HR2.out.1, HR2.out.2]; rfl, bel.trans (bw.mono bel.size)⟩
        · have hr := HR.out; rw [if_neg h7] at hr; have HR2 := (show Hid _ from hr); clear hr
          go_wp2
          go_ret2
          exact ⟨by rw [HR2.out.1, HR2.out.2]; rfl, bel.trans (bw.mono bel.size)⟩
      · clear hm hlt hat hp hp' hres hkk hmf hb hk hlt' hdl hcnt hend
        by_cases h7 : 7 < pn
        · have hr := HR.out; rw [if_pos h7] at hr; have HR2 := (show Hid _ from hr); clear hr
          go_wp2
          go_ret2
          exact ⟨by rw [HR2.out.1, HR2.out.2]; rfl, bel⟩
        · have hr := HR.out; rw [if_neg h7] at hr; have HR2 := (show Hid _ from hr); clear hr
          go_wp2
          go_ret2
          exact ⟨by rw [HR2.out.1, HR2.out.2]; rfl, bel⟩
end Go.Proofs.YtggfifchkecnjaaGreatDoor

/- The contracts of the program's nameStands and goesOn. -/
namespace Go.Proofs.YtggfifchkecnjaaGreatDoor
open Go.RowKit
set_option maxRecDepth 100000
set_option linter.unusedVariables false

theorem stands_short {xs nm : List Int} {k : Nat} (h : xs.length < k + nm.length) (hp : ∀ x ∈ nm, 0 ≤ x) (hne : 0 < nm.length) (hk : k ≤ xs.length) : stands xs k nm = false := by
  refine stands_no (i := xs.length - k) (by omega) ?_
  rw [atL_out (by omega)]
  have hi : xs.length - k < nm.length := by omega
  have e : nm.getD (xs.length - k) 0 = nm[xs.length - k] := by simp [List.getD_eq_getElem?_getD, hi]
  have := hp _ (List.getElem_mem hi)
  omega

set_option maxHeartbeats 2000000 in
set_option maxRecDepth 100000 in
theorem nameStands_any {v : Value} {xs : List Int} {w : World} (h : Sl .i64 w v xs) (k : Nat) (s : ByteArray) (hn : xs.length ≤ 3000) (hk : k ≤ xs.length) (hs : s.size ≤ 3000) :
    Calls Tryz.prog 143 #[v, .int .i64 k, .string s] w fun e w' => e = .returned (.bool (stands xs k (bs s))) ∧ ∃ n, w' = w.drewN n := by
  have hl := bs_len s
  have HS := (show Hid (Sl .i64 w v xs) from h)
  obtain ⟨a, ca, rfl, _, _, _, ha⟩ := h
  clear ha
  by_cases hsh : xs.length < k + s.size
  · have e := stands_short (xs := xs) (nm := bs s) (k := k) (by omega) (fun x hx => (bs_byte s x hx).1) (by omega) hk
    rw [e]
    clear e
    go_enter Tryz.func143, Tryz.ntmps143
    go_wp2
    go_ret
    exact ⟨rfl, 0, rfl⟩
  go_enter Tryz.func143, Tryz.ntmps143
  go_wp2
  go_loopw [17] (fun i wr => ∃ j : Nat, j ≤ s.size ∧ i = .int .i64 j ∧ (∀ t, t < j → atL xs (k + t) = (bs s).getD t 0) ∧ ∃ n, wr = w.drewN n) (fun i _ => s.size - (intOf i).toNat)
  case atStart => exact ⟨0, Nat.zero_le _, rfl, fun t ht => absurd ht (by omega), 0, rfl⟩
  case round =>
    obtain ⟨j, hj, rfl, hall, hw⟩ := hrel
    have h' : Sl .i64 wr (.slice a xs.length ca) xs := by obtain ⟨n, rfl⟩ := hw; exact HS.out.below (below_drewN n)
    have HW := (show Hid (∃ n, wr = w.drewN n) from hw)
    clear hw
    have HA := (show Hid _ from hall)
    clear hall
    by_cases hlt : j < s.size
    · have hat := bs_at s j hlt
      have hbk := bs_bound s j
      obtain ⟨m, hm⟩ : ∃ m : Nat, m = k + j := ⟨_, rfl⟩
      have hme : (k : Int) + (j : Int) = (m : Int) := by omega
      have hml : m < xs.length := by omega
      obtain ⟨_, _, ev, _, _, _, ha⟩ := h'
      cases ev
      obtain ⟨b1, o1, rfl, c1⟩ := ha m hml
      rw [← atL_in hml] at c1
      have HN : Hid (atL xs m ≠ (bs s).getD j 0 → stands xs k (bs s) = false) := fun e => stands_no (i := j) (by omega) (by rw [← hm]; exact e)
      have HY : Hid (atL xs m = (bs s).getD j 0 → ∀ t, t < j + 1 → atL xs (k + t) = (bs s).getD t 0) := fun e t ht => by
        by_cases htj : t = j
        · subst htj; rw [← hm]; exact e
        · exact HA.out t (by omega)
      obtain ⟨x, hx⟩ : ∃ x, x = (bs s).getD j 0 := ⟨_, rfl⟩
      obtain ⟨c, hc⟩ : ∃ c, c = atL xs m := ⟨_, rfl⟩
      rw [← hx] at hat hbk HN HY
      rw [← hc] at c1 HN HY
      have hwx : IntKind.i64.wrap x = x := wrap_byte hbk.1 hbk.2
      clear hx hc hm ha
      by_cases hcx : c = x
      · subst hcx
        go_wp2
        go_quiet (fail)
        go_wp2
        go_roundw
        case rel => exact ⟨j + 1, by omega, by go_num, HY.out (by simp), by obtain ⟨n, hn⟩ := HW.out; exact ⟨n + nq, by rw [hn, World.drewN_drewN]⟩⟩
        case measure => simp [intOf]; omega
      · have e : (c != x) = true := by simpa using hcx
        go_wp2
        go_quiet (fail)
        go_wp2
        go_ret
        exact ⟨ret_bool (HN.out hcx).symm, by obtain ⟨n, hn⟩ := HW.out; exact ⟨n + nq, by rw [hn, World.drewN_drewN]⟩⟩
    · go_wp2
      go_ret
      exact ⟨ret_bool (by rw [stands_yes (fun i hi => HA.out i (by omega))]), HW.out⟩

set_option maxHeartbeats 2000000 in
set_option maxRecDepth 100000 in
theorem goesOn_any {v : Value} {xs : List Int} {w : World} (h : Sl .i64 w v xs) (m : Nat) (s : ByteArray) (hn : xs.length ≤ 3000) (hm : m ≤ xs.length) (hs : s.size ≤ 3000) (h0 : 0 < s.size) :
    Calls Tryz.prog 144 #[.string s, v, .int .i64 m] w fun e w' => e = .returned (.bool (((bs s).getD (s.size - 1) 0 != 59) && (atL xs m == 61 || (inB (atL xs m) 65 90 || inB (atL xs m) 97 122) || decide (0 ≤ digitOf (atL xs m) 10)))) ∧ Below w.heap.size w w' := by
  obtain ⟨j, hj⟩ : ∃ j : Nat, s.size = j + 1 := ⟨s.size - 1, by omega⟩
  have hat := bs_at s j (by omega)
  have hbd := bs_bound s j
  have ej : s.size - 1 = j := by omega
  have ej2 : (s.size : Int) - 1 = (j : Int) := by omega
  rw [ej]
  obtain ⟨y, hy⟩ : ∃ y, y = (bs s).getD j 0 := ⟨_, rfl⟩
  rw [← hy] at hat hbd ⊢
  obtain ⟨a, ca, rfl, _, _, _, ha⟩ := h
  have hjs : j < s.size := by omega
  by_cases h59 : y = 59
  · subst h59
    clear ha hy
    go_enter Tryz.func144, Tryz.ntmps144
    go_wp2
    go_ret
    exact ⟨rfl, Below.refl _ _⟩
  have e59 : (y == 59) = false := by simpa using h59
  have e59' : (y != 59) = true := by simpa using h59
  rw [e59', Bool.true_and]
  by_cases hml : m < xs.length
  · have em : ((m : Int) == (xs.length : Int)) = false := by simp; omega
    obtain ⟨b1, o1, rfl, c1⟩ := ha m hml
    rw [← atL_in hml] at c1
    obtain ⟨c, hc⟩ : ∃ c, c = atL xs m := ⟨_, rfl⟩
    rw [← hc] at c1 ⊢
    have ca1 := fun w => ialpha_any c w
    have cd1 := fun w => idigit_any c 10 w
    obtain ⟨al, hal⟩ : ∃ al, al = (inB c 65 90 || inB c 97 122) := ⟨_, rfl⟩
    obtain ⟨dg, hdg⟩ : ∃ dg, dg = digitOf c 10 := ⟨_, rfl⟩
    rw [← hal] at ca1 ⊢
    rw [← hdg] at cd1 ⊢
    have CA := (show Hid _ from ca1)
    have CD := (show Hid _ from cd1)
    clear ha hc hal hdg ca1 cd1 hy
    by_cases h61 : c = 61
    · subst h61
      go_enter Tryz.func144, Tryz.ntmps144
      go_wp2
      go_ret
      exact ⟨rfl, Below.refl _ _⟩
    · have e61 : (c == 61) = false := by simpa using h61
      rw [e61, Bool.false_or]
      cases al
      · rw [Bool.false_or]
        go_enter Tryz.func144, Tryz.ntmps144
        go_wp2_with fail
        go_at_call 113
        refine (CA.out _).mono ?_
        rintro e w1 ⟨rfl, b1⟩
        go_wp2_with fail
        go_at_call 150
        refine (CD.out _).mono ?_
        rintro e w2 ⟨rfl, b2⟩
        go_wp2
        go_ret
        exact ⟨rfl, b1.trans (b2.mono b1.size)⟩
      · go_enter Tryz.func144, Tryz.ntmps144
        go_wp2_with fail
        go_at_call 113
        refine (CA.out _).mono ?_
        rintro e w1 ⟨rfl, b1⟩
        go_wp2
        go_ret
        exact ⟨rfl, b1⟩
  · have em : (m : Int) = (xs.length : Int) := by omega
    rw [atL_out (by omega)]
    rw [show ((-1 : Int) == 61 || (inB (-1) 65 90 || inB (-1) 97 122) || decide (0 ≤ digitOf (-1) 10)) = false by decide]
    clear ha hy
    rw [em]
    go_enter Tryz.func144, Tryz.ntmps144
    go_wp2
    go_ret
    exact ⟨rfl, Below.refl _ _⟩
end Go.Proofs.YtggfifchkecnjaaGreatDoor
