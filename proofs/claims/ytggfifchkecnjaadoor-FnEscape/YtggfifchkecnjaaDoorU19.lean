/- The contract of the specification's RefRead, where a name may stand. -/
import Derived.Test.YtggfifchkecnjaaDoorU18
import Derived.Test.YtggfifchkecnjaaDoorU0
import Derived.Test.YtggfifchkecnjaaDoorU17
import Derived.Test.YtggfifchkecnjaaDoorU16
import Derived.Test.YtggfifchkecnjaaDoorU13
import Derived.Test.YtggfifchkecnjaaDoorU14
import Derived.Test.YtggfifchkecnjaaDoorU12
namespace Go.Proofs.YtggfifchkecnjaaDoor
open Go.RowKit
set_option maxRecDepth 100000
set_option linter.unusedVariables false

theorem block_set {w : World} {b k : Nat} {cs : Array Value} {u : Value} {t : TypeId} (h : w.heap[b]? = some (.cells cs t (0, 0))) : (w.setCell ⟨b, k, none⟩ u).heap[b]? = some (.cells (cs.setIfInBounds k u) t (0, 0)) := by
  have hlt := lt_of_block h
  have h' : w.heap[b] = .cells cs t (0, 0) := by simpa [Array.getElem?_eq_getElem hlt] using h
  show (w.heap.modify b _)[b]? = _
  rw [Array.getElem?_eq_getElem (by simpa using hlt), Array.getElem_modify_self, h']
  rfl
theorem refName_zero {xs : List Int} {k : Nat} {b : Bool} (h : (best xs (k + 1) refList).1.size = 0) : refName xs k b = ([38], (k : Int) + 1) := by
  unfold refName; simp only; rw [if_pos h]
theorem refName_bar {xs : List Int} {k : Nat} {b : Bool} {r : ByteArray × Int} {c y : Int} (hr : r = best xs (k + 1) refList) (h : r.1.size ≠ 0) (hy : y = (bs r.1).getD (r.1.size - 1) 0) (hc : c = atL xs (k + 1 + r.1.size))
    (hb : (b && (y != 59) && (c == 61 || (inB c 65 90 || inB c 97 122) || decide (0 ≤ digitOf c 10))) = true) : refName xs k b = ([38], (k : Int) + 1) := by
  unfold refName; simp only; rw [← hr, ← hy, ← hc, if_neg h, if_pos hb]
theorem refName_hit {xs : List Int} {k : Nat} {b : Bool} {r : ByteArray × Int} {c y : Int} (hr : r = best xs (k + 1) refList) (h : r.1.size ≠ 0) (hy : y = (bs r.1).getD (r.1.size - 1) 0) (hc : c = atL xs (k + 1 + r.1.size))
    (hb : (b && (y != 59) && (c == 61 || (inB c 65 90 || inB c 97 122) || decide (0 ≤ digitOf c 10))) = false) : refName xs k b = ([r.2], (k : Int) + 1 + r.1.size) := by
  unfold refName; simp only; rw [← hr, ← hy, ← hc, if_neg h, if_neg (by rw [hb]; decide)]

end Go.Proofs.YtggfifchkecnjaaDoor

/- The law FnExactRefRead, walked from a contract of the program's RefRead: at every list, place and bool it returns true and writes nothing that was there. -/
namespace Go.Proofs.YtggfifchkecnjaaDoor
open Go.RowKit
set_option maxRecDepth 100000
set_option linter.unusedVariables false

theorem refRead_len (xs : List Int) (i : Int) (b : Bool) : (refRead xs i b).1.length ≤ 1 := by
  unfold refRead
  split
  · simp
  · split
    · simp only; split <;> simp
    · unfold refName
      simp only
      split
      · simp
      · split <;> simp

/-- What is asked of the program's RefRead, in every world that turns nothing of 'W'. -/
def RefReadOk (W : World) : Prop := ∀ (v : Value) (xs : List Int) (w : World), Below W.heap.size W w → Sl .i64 w v xs → ∀ (i : Int) (b : Bool), (Lit.int .i64 i).wf = true → xs.length ≤ 1048576 → Calls Tryd.prog 10 #[v, .int .i64 i, .bool b] w (Reads w (refRead xs i b))

end Go.Proofs.YtggfifchkecnjaaDoor

/- What a reference takes is just what it tells: names, and the whole of it. -/
namespace Go.Proofs.YtggfifchkecnjaaDoor
open Go.RowKit
set_option maxRecDepth 100000
set_option linter.unusedVariables false

theorem refNum_cut {xs : List Int} {k n : Nat} {x : Int} (h : refNum xs k = (x, (n : Int))) (h0 : 0 < n) : k < n ∧ n ≤ xs.length ∧ refNum (cut xs n) k = (x, (n : Int)) := by
  unfold refNum at h
  by_cases hx : atL xs k = 120 ∨ atL xs k = 88
  · rw [if_pos hx] at h
    obtain ⟨h1, h2, h3⟩ := refDigits_cut (.inr rfl) h h0
    have hk : k < n := by omega
    refine ⟨hk, h2, ?_⟩
    unfold refNum
    rw [cut_lt h2 hk, if_pos hx]; exact h3
  · rw [if_neg hx] at h
    obtain ⟨h1, h2, h3⟩ := refDigits_cut (.inl rfl) h h0
    refine ⟨h1, h2, ?_⟩
    unfold refNum
    rw [cut_lt h2 h1, if_neg hx]; exact h3
theorem refNum_place (xs : List Int) (k : Nat) : ∃ n : Nat, (refNum xs k).2 = (n : Int) := by
  have key : ∀ b f, ∃ n : Nat, (refDigits xs b f).2 = (n : Int) := fun b f => by
    unfold refDigits
    simp only
    split
    · exact ⟨0, rfl⟩
    · exact ⟨_, rfl⟩
  unfold refNum
  split
  · exact key _ _
  · exact key _ _
theorem refNum_point (xs : List Int) (k : Nat) (h : 0 < (refNum xs k).2) : pointOk (refNum xs k).1 = true := by
  have key : ∀ b f, 0 < (refDigits xs b f).2 → pointOk (refDigits xs b f).1 = true := fun b f h => by
    unfold refDigits at h ⊢
    simp only at h ⊢
    by_cases hd : digs b (xs.drop f) = []
    · rw [if_pos hd] at h; exact absurd h (by decide)
    · rw [if_neg hd]; exact (pointOk_refNumber _).1
  unfold refNum at h ⊢
  by_cases hx : atL xs k = 120 ∨ atL xs k = 88
  · rw [if_pos hx] at h ⊢; exact key _ _ h
  · rw [if_neg hx] at h ⊢; exact key _ _ h

/-- The best of a list is one of it that stands, or none; and none that stands is longer. -/
theorem best_spec (xs : List Int) (k : Nat) (rs : List (ByteArray × Int)) (b0 : ByteArray × Int) (f : ByteArray × Int) (hf : f = rs.foldl (fun b r => if stands xs k (bs r.1) && decide (b.1.size < r.1.size) then r else b) b0) :
    (f = b0 ∨ (f ∈ rs ∧ stands xs k (bs f.1) = true)) ∧ b0.1.size ≤ f.1.size ∧ ∀ r ∈ rs, stands xs k (bs r.1) = true → r.1.size ≤ f.1.size := by
  induction rs generalizing b0 with
  | nil => subst hf; exact ⟨.inl rfl, Nat.le_refl _, fun r hr => by cases hr⟩
  | cons r rs ih =>
    rw [List.foldl_cons] at hf
    obtain ⟨h1, h2, h3⟩ := ih _ hf
    by_cases hc : (stands xs k (bs r.1) && decide (b0.1.size < r.1.size)) = true
    · rw [if_pos hc] at h1 h2
      simp only [Bool.and_eq_true, decide_eq_true_eq] at hc
      refine ⟨?_, by omega, ?_⟩
      · rcases h1 with rfl | ⟨h1, h1'⟩
        · exact .inr ⟨List.mem_cons_self .., hc.1⟩
        · exact .inr ⟨List.mem_cons_of_mem _ h1, h1'⟩
      · intro q hq hs
        rcases List.mem_cons.mp hq with rfl | hq
        · exact h2
        · exact h3 q hq hs
    · rw [if_neg hc] at h1 h2
      refine ⟨?_, h2, ?_⟩
      · rcases h1 with rfl | ⟨h1, h1'⟩
        · exact .inl rfl
        · exact .inr ⟨List.mem_cons_of_mem _ h1, h1'⟩
      · intro q hq hs
        rcases List.mem_cons.mp hq with rfl | hq
        · have : ¬ b0.1.size < q.1.size := fun h => hc (by simp [hs, h])
          omega
        · exact h3 q hq hs

theorem stands_iff {xs nm : List Int} {k : Nat} : stands xs k nm = true ↔ ∀ i, i < nm.length → atL xs (k + i) = nm.getD i 0 := by
  unfold stands
  rw [List.all_eq_true]
  constructor
  · intro h i hi; simpa using h i (List.mem_range.mpr hi)
  · intro h i hi; simpa using h i (List.mem_range.mp hi)
theorem refList_plain : ∀ r ∈ refList, (∀ i, i < 7 → (bs r.1).getD i 0 ≠ 32) ∧ pointOk r.2 = true ∧ 0 < r.1.size := by
  have h : ∀ r ∈ refList, (∀ i : Fin 7, (bs r.1).getD i.1 0 ≠ 32) ∧ pointOk r.2 = true ∧ 0 < r.1.size := by decide
  intro r hr
  obtain ⟨h1, h2⟩ := h r hr
  exact ⟨fun i hi => h1 ⟨i, hi⟩, h2⟩
theorem stands_len {xs : List Int} {k : Nat} {s : ByteArray} (h : stands xs k (bs s) = true) (h0 : 0 < s.size) : k + s.size ≤ xs.length := by
  have hl := bs_len s
  have := stands_iff.mp h (s.size - 1) (by omega)
  have hb := (bs_bound s (s.size - 1)).1
  have := atL_lt (xs := xs) (j := k + (s.size - 1)) (by omega)
  omega

theorem best_cut {xs : List Int} {k n : Nat} (h0 : 0 < (best xs k refList).1.size) (hn : n = k + (best xs k refList).1.size) (hnl : n ≤ xs.length) : best (cut xs n) k refList = best xs k refList := by
  obtain ⟨h1, h2, h3⟩ := best_spec xs k refList (⟨#[]⟩, 0) (best xs k refList) rfl
  have hst : ∀ r ∈ refList, stands (cut xs n) k (bs r.1) = stands xs k (bs r.1) := by
    intro r hr
    have hl := bs_len r.1
    by_cases hs : r.1.size ≤ (best xs k refList).1.size
    · rw [Bool.eq_iff_iff, stands_iff, stands_iff]
      constructor
      · intro h i hi
        rw [← cut_lt hnl (by omega)]; exact h i hi
      · intro h i hi
        rw [cut_lt hnl (by omega)]; exact h i hi
    · have e1 : stands xs k (bs r.1) = false := by
        rcases he : stands xs k (bs r.1) with _ | _
        · rfl
        · exact absurd (h3 r hr he) hs
      rw [e1]
      rcases he : stands (cut xs n) k (bs r.1) with _ | _
      · rfl
      · have := stands_iff.mp he (best xs k refList).1.size (by omega)
        rw [← hn, cut_at hnl] at this
        have hsz := refList_size r hr
        exact absurd this.symm ((refList_plain r hr).1 _ (by omega))
  unfold best
  have key : ∀ (rs : List (ByteArray × Int)) (b0 : ByteArray × Int), (∀ r ∈ rs, stands (cut xs n) k (bs r.1) = stands xs k (bs r.1)) →
      rs.foldl (fun b r => if stands (cut xs n) k (bs r.1) && decide (b.1.size < r.1.size) then r else b) b0 = rs.foldl (fun b r => if stands xs k (bs r.1) && decide (b.1.size < r.1.size) then r else b) b0 := by
    intro rs
    induction rs with
    | nil => intro b0 _; rfl
    | cons r rs ih =>
      intro b0 hr
      rw [List.foldl_cons, List.foldl_cons, hr r (List.mem_cons_self ..)]
      exact ih _ (fun q hq => hr q (List.mem_cons_of_mem _ hq))
  exact key refList _ hst

theorem cut_len {xs : List Int} {n : Nat} (h : n ≤ xs.length) : (cut xs n).length = n + 1 := by simp [cut]; omega
theorem cut_get {xs : List Int} {n j : Nat} (hn : n ≤ xs.length) (hj : j < n) : (cut xs n).getD j 0 = xs.getD j 0 := by
  rw [← atL_in (xs := xs) (by omega), ← cut_lt hn hj, atL_in (by rw [cut_len hn]; omega)]

/-- What a call answers that takes something: one point; and what is taken is just what is told. -/
theorem refRead_law {xs : List Int} {i : Int} {b : Bool} (hne : (refRead xs i b).1 ≠ []) : ∃ (k n : Nat) (y : Int), i = k ∧ k < xs.length ∧ refRead xs i b = ([y], (n : Int)) ∧ pointOk y = true ∧ k < n ∧ n ≤ xs.length ∧
    ((n = k + 1 ∧ y = 38) ∨ (n + 1 ≤ 3000 → refRead (cut xs n) k b = ([y], (n : Int)))) := by
  by_cases hi : 3000 < xs.length ∨ inB i 0 (xs.length - 1) = false ∨ xs.getD i.toNat 0 ≠ 38
  · rw [refRead_none hi] at hne; exact absurd rfl hne
  · have h1 : xs.length ≤ 3000 := by omega
    have h2 : inB i 0 (xs.length - 1) = true := by
      rcases h2 : inB i 0 (xs.length - 1) with _ | _
      · exact absurd (.inr (.inl h2)) hi
      · rfl
    have h3 : xs.getD i.toNat 0 = 38 := by
      by_cases h3 : xs.getD i.toNat 0 = 38
      · exact h3
      · exact absurd (.inr (.inr h3)) hi
    have h4 : 0 ≤ i ∧ i ≤ xs.length - 1 := by unfold inB at h2; simpa using h2
    obtain ⟨k, rfl⟩ : ∃ k : Nat, i = k := ⟨i.toNat, by omega⟩
    rw [Int.toNat_natCast] at h3
    have hk : k < xs.length := by omega
    by_cases h5 : atL xs (k + 1) = 35
    · rw [refRead_num h1 hk h3 h5]
      by_cases hp : 0 < (refNum xs (k + 2)).2
      · rw [if_pos hp]
        obtain ⟨n, hn⟩ := refNum_place xs (k + 2)
        have hpt := refNum_point xs (k + 2) hp
        have hn0 : 0 < n := by omega
        obtain ⟨c1, c2, c3⟩ := refNum_cut (xs := xs) (k := k + 2) (n := n) (x := (refNum xs (k + 2)).1) (by rw [← hn]) hn0
        refine ⟨k, n, _, rfl, hk, by rw [hn], hpt, by omega, c2, .inr fun h30 => ?_⟩
        rw [refRead_num (by rw [cut_len c2]; omega) (by rw [cut_len c2]; omega) (by rw [cut_get c2 (by omega)]; exact h3) (by rw [cut_lt c2 (by omega)]; exact h5), c3, if_pos (by simp only; omega)]
      · rw [if_neg hp]
        exact ⟨k, k + 1, 38, rfl, hk, by push_cast; rfl, by decide, by omega, by omega, .inl ⟨rfl, rfl⟩⟩
    · rw [refRead_name h1 hk h3 h5]
      obtain ⟨r, hr⟩ : ∃ r, r = best xs (k + 1) refList := ⟨_, rfl⟩
      by_cases hz : r.1.size = 0
      · rw [refName_zero (by rw [← hr]; exact hz)]
        exact ⟨k, k + 1, 38, rfl, hk, by push_cast; rfl, by decide, by omega, by omega, .inl ⟨rfl, rfl⟩⟩
      · rcases hbar : (b && (((bs r.1).getD (r.1.size - 1) 0) != 59) && (atL xs (k + 1 + r.1.size) == 61 || (inB (atL xs (k + 1 + r.1.size)) 65 90 || inB (atL xs (k + 1 + r.1.size)) 97 122) || decide (0 ≤ digitOf (atL xs (k + 1 + r.1.size)) 10))) with _ | _
        · rw [refName_hit hr hz rfl rfl hbar]
          obtain ⟨s1, s2, s3⟩ := best_spec xs (k + 1) refList (⟨#[]⟩, 0) (best xs (k + 1) refList) rfl
          rw [← hr] at s1
          have hmem : r ∈ refList ∧ stands xs (k + 1) (bs r.1) = true := by
            rcases s1 with s1 | s1
            · rw [s1] at hz; exact absurd rfl hz
            · exact s1
          have hnl := stands_len hmem.2 (by omega)
          have hbc := best_cut (xs := xs) (k := k + 1) (n := k + 1 + r.1.size) (by rw [← hr]; omega) (by rw [← hr]) hnl
          refine ⟨k, k + 1 + r.1.size, r.2, rfl, hk, by push_cast; rfl, (refList_plain r hmem.1).2.1, by omega, hnl, .inr fun h30 => ?_⟩
          rw [refRead_name (by rw [cut_len hnl]; omega) (by rw [cut_len hnl]; omega) (by rw [cut_get hnl (by omega)]; exact h3) (by rw [cut_lt hnl (by omega)]; exact h5)]
          have h32 : (b && (((bs r.1).getD (r.1.size - 1) 0) != 59) && ((32 : Int) == 61 || (inB 32 65 90 || inB 32 97 122) || decide (0 ≤ digitOf 32 10))) = false := by
            have : ((32 : Int) == 61 || (inB 32 65 90 || inB 32 97 122) || decide (0 ≤ digitOf 32 10)) = false := by decide
            rw [this, Bool.and_false]
          rw [refName_hit (r := r) (c := 32) (hr.trans hbc.symm) hz rfl (cut_at hnl).symm h32]
          push_cast; rfl
        · rw [refName_bar hr hz rfl rfl hbar]
          exact ⟨k, k + 1, 38, rfl, hk, by push_cast; rfl, by decide, by omega, by omega, .inl ⟨rfl, rfl⟩⟩
end Go.Proofs.YtggfifchkecnjaaDoor

/- The contract of the program's refByName: the longest name that stands at a place, whatever the map's order. -/
namespace Go.Proofs.YtggfifchkecnjaaDoor
open Go.RowKit Go.Maps
set_option maxRecDepth 100000
set_option linter.unusedVariables false

theorem invS {key : Value} {kl : Lit} (h : keyOf Tryd.prog 9 key = some kl) : ∃ s, key = .string s := Maps.keyOf_string_inv Tryd.underlying9 h
theorem invI {v : Value} {y : DataW Unit × List MemPlace} (h : plainElem Tryd.prog 3 v = some y) : ∃ c, v = .int .i64 c := by obtain ⟨c, rfl, _⟩ := plainElem_int_inv Tryd.underlying3 h; exact ⟨c, rfl⟩

theorem grown_draws {w : World} (n : Nat) (row : Option Nat) : w.grownBy (w.drewN n) row := ⟨rfl, rfl, rfl, Nat.le_refl _, fun _ _ _ => rfl⟩

/-- The key of a name. -/
def keyR (s : ByteArray) : Lit := .string s.data.toList
theorem keyR_inj {s t : ByteArray} (h : keyR s = keyR t) : s = t := by
  obtain ⟨⟨l⟩⟩ := s
  obtain ⟨⟨m⟩⟩ := t
  have e : l = m := by simpa [keyR] using h
  rw [e]
theorem keyR_same {s : ByteArray} {kl : Lit} (h : (keyR s).sameKey kl = true) : kl = keyR s := by
  unfold keyR Lit.sameKey at *
  cases kl <;> simp_all
theorem keyR_self (s : ByteArray) : (keyR s).sameKey (keyR s) = true := by simp [keyR, Lit.sameKey]
theorem refMap_at : ∀ r ∈ refList, ∀ zd : DataW Unit, refMap.atKey (keyR r.1) zd = .lit (.int .i64 r.2) := by
  intro r hr zd
  have e : refList.map (fun r => refMap.atKey (keyR r.1) zd) = refList.map (fun r => .lit (.int .i64 r.2)) := by rfl
  exact List.map_inj_left.mp e r hr
theorem refMap_has {kl : Lit} (h : Maps.has refMap kl = true) : ∃ r ∈ refList, kl = keyR r.1 := by
  unfold refMap at h
  rw [Maps.has_eq, List.any_map, List.any_eq_true] at h
  obtain ⟨r, hr, e⟩ := h
  exact ⟨r, hr, keyR_same e⟩
theorem refMap_hit {s : ByteArray} {c : Int} (h : Maps.has refMap (keyR s) = true) (hat : ∀ zd : DataW Unit, refMap.atKey (keyR s) zd = .lit (.int .i64 c)) : (s, c) ∈ refList := by
  obtain ⟨r, hr, e⟩ := refMap_has h
  have e1 := keyR_inj e
  subst e1
  have e2 := (hat .nil).symm.trans (refMap_at r hr .nil)
  have e3 : c = r.2 := by simpa using e2
  rw [e3]; exact hr
theorem refList_once : ∀ r ∈ refList, ∀ q ∈ refList, r.1 = q.1 → r = q := by decide

theorem toList_loop (s : ByteArray) : ∀ (n i : Nat) (r : List UInt8), s.size - i = n → (r ≠ [] ∨ 0 < n) → (ByteArray.toList.loop s i r).isEmpty = false
  | 0, i, r, h, hr => by
    rw [ByteArray.toList.loop]
    rw [if_neg (by omega)]
    rcases hr with hr | hr
    · cases r with
      | nil => exact absurd rfl hr
      | cons a l => simp
    · omega
  | n + 1, i, r, h, hr => by
    rw [ByteArray.toList.loop]
    rw [if_pos (by omega)]
    exact toList_loop s n (i + 1) _ (by omega) (.inl (by simp))
theorem refList_full : ∀ r ∈ refList, r.1.toList.isEmpty = false := fun r hr => toList_loop r.1 r.1.size 0 [] rfl (.inr (refList_plain r hr).2.2)

/-- The longest of some names that stand at a place. -/
structure Longest (xs : List Int) (k : Nat) (left : Lit → Bool) (r : ByteArray × Int) : Prop where
  one : r = (⟨#[]⟩, 0) ∨ r ∈ refList ∧ stands xs k (bs r.1) = true
  top : ∀ q ∈ refList, left (keyR q.1) = false → stands xs k (bs q.1) = true → q.1.size ≤ r.1.size

theorem stands_one {xs : List Int} {k : Nat} {s t : ByteArray} (hs : stands xs k (bs s) = true) (ht : stands xs k (bs t) = true) (e : s.size = t.size) : s = t := by
  have e1 : bs s = bs t := by
    refine List.ext_getElem (by rw [bs_len, bs_len, e]) fun i h1 h2 => ?_
    have a1 := stands_iff.mp hs i h1
    have a2 := stands_iff.mp ht i h2
    simp only [List.getD_eq_getElem?_getD, List.getElem?_eq_getElem h1, List.getElem?_eq_getElem h2, Option.getD_some] at a1 a2
    omega
  rw [← strOf_bs s, ← strOf_bs t, e1]

theorem Longest.best {xs : List Int} {k : Nat} {left : Lit → Bool} {r : ByteArray × Int} (h : Longest xs k left r) (hl : ∀ kl, left kl = false) : r = best xs k refList := by
  obtain ⟨s1, s2, s3⟩ := best_spec xs k refList (⟨#[]⟩, 0) (Go.Proofs.YtggfifchkecnjaaDoor.best xs k refList) rfl
  generalize Go.Proofs.YtggfifchkecnjaaDoor.best xs k refList = q at s1 s2 s3
  rcases h.one with e | ⟨hm, hs⟩
  · rcases s1 with e' | ⟨hm', hs'⟩
    · rw [e, e']
    · have := h.top q hm' (hl _) hs'
      have h0 := (refList_plain q hm').2.2
      rw [e] at this
      have this' : q.1.size ≤ 0 := this
      omega
  · have h0 := (refList_plain r hm).2.2
    have t1 := s3 r hm hs
    rcases s1 with e' | ⟨hm', hs'⟩
    · rw [e'] at t1
      have t1' : r.1.size ≤ 0 := t1
      omega
    · have t2 := h.top q hm' (hl _) hs'
      exact refList_once r hm q hm' (stands_one hs hs' (by omega))

theorem Longest.skip {xs : List Int} {k : Nat} {left : Lit → Bool} {r : ByteArray × Int} (h : Longest xs k left r) {x : ByteArray} (hx : stands xs k (bs x) = true → x.size ≤ r.1.size) : Longest xs k (fun z => left z && !z.sameKey (keyR x)) r := by
  refine ⟨h.one, fun q hq hl hs => ?_⟩
  rcases e : left (keyR q.1) with _ | _
  · exact h.top q hq e hs
  · rw [e] at hl
    have h1 : (keyR q.1).sameKey (keyR x) = true := by simpa using hl
    have h2 := keyR_inj (keyR_same h1)
    rw [← h2] at hs ⊢
    exact hx hs
theorem Longest.take {xs : List Int} {k : Nat} {left : Lit → Bool} {r : ByteArray × Int} (h : Longest xs k left r) {x : ByteArray} {c : Int} (hm : (x, c) ∈ refList) (hs : stands xs k (bs x) = true) (hlt : r.1.size < x.size) : Longest xs k (fun z => left z && !z.sameKey (keyR x)) (x, c) := by
  refine ⟨.inr ⟨hm, hs⟩, fun q hq hl hs => ?_⟩
  show q.1.size ≤ x.size
  rcases e : left (keyR q.1) with _ | _
  · have := h.top q hq e hs; omega
  · rw [e] at hl
    have h1 : (keyR q.1).sameKey (keyR x) = true := by simpa using hl
    have h2 := keyR_inj (keyR_same h1)
    rw [h2]; exact Nat.le_refl _

/-- What refByName answers. -/
def nameAns (xs : List Int) (k : Nat) (value : Bool) : Value :=
  let r := best xs k refList
  let c := atL xs (k + r.1.size)
  if r.1.size = 0 ∨ (value && (((bs r.1).getD (r.1.size - 1) 0 != 59) && (c == 61 || (inB c 65 90 || inB c 97 122) || decide (0 ≤ digitOf c 10)))) = true then .tuple #[.int .i64 0, .int .i64 0, .bool false]
  else .tuple #[.int .i64 r.2, .int .i64 (k + r.1.size : Nat), .bool true]

set_option maxHeartbeats 4000000 in
set_option maxRecDepth 100000 in
theorem refByName_any {v : Value} {xs : List Int} {w : World} (h : Sl .i64 w v xs) (k : Nat) (b : Bool) (hn : xs.length ≤ 3000) (hk : k ≤ xs.length) :
    Calls Tryd.prog 23 #[v, .int .i64 k, .bool b] w fun e w' => e = .returned (nameAns xs k b) ∧ Below w.heap.size w w' := by
  have HS := (show Hid (Sl .i64 w v xs) from h)
  clear h
  go_enter Tryd.func23, Tryd.ntmps23
  go_wp2_with fail
  go_at_call 33
  refine (pointsByName_any _).mono ?_
  rintro e w1 ⟨rfl, hown, b1⟩
  go_wp2_with (first
    | (at_range; refine wpList_range_own _ rfl _ 61 rfl 9 3 lawS Tryd.underlying61 _ w.heap.size 24 _ rfl hown ?_; intro w0 hrg0 hg0 hs0)
    | go_in)
  go_frame
  have hlt1 := hown.lt
  obtain ⟨g, hg⟩ : ∃ g, g = w1.heap.size := ⟨_, rfl⟩
  rw [← hg] at hrg0 hs0 hlt1 ⊢
  have HG := (show Hid (g = w1.heap.size) from hg)
  clear hg
  go_loopw [9, 10] (fun u p wr => ∃ (left : Lit → Bool) (cnt : Nat) (q : ByteArray × Int), u = .string q.1 ∧ p = .int .i64 q.2 ∧ wr.ranges Tryd.prog 9 (plainElem Tryd.prog 3) w.heap.size g 24 refMap left cnt ∧
      (∀ kl, left kl = true → Maps.has refMap kl = true) ∧ Longest xs k left q ∧ Below w.heap.size w wr) (fun _ _ wr => wr.rangeLeft w.heap.size g)
  case atStart =>
    refine ⟨_, _, (⟨#[]⟩, 0), rfl, rfl, hrg0, fun kl h => h, ⟨.inl rfl, fun q hq hl _ => ?_⟩, b1.grown hg0 b1.size (fun j hj => by cases hj)⟩
    exfalso
    have : Maps.has refMap (keyR q.1) = true := by
      unfold refMap
      rw [Maps.has_eq, List.any_map, List.any_eq_true]
      exact ⟨q, hq, keyR_self _⟩
    rw [this] at hl; cases hl
  case round =>
    clear hrg0 hg0 hs0 hown
    obtain ⟨left, cnt, q, rfl, rfl, hrg, hin, hlo, bel⟩ := hrel
    have HIN := (show Hid _ from hin)
    have HLO := (show Hid _ from hlo)
    clear hin hlo
    go_wp2_with (first
      | (at_next; refine wpList_next_ranges _ rfl _ rfl 9 lawS (plainElem Tryd.prog 3) Value.string (Value.int .i64) (fun _ _ h => invS h) (fun _ _ h => invI h) w.heap.size g 24 refMap left cnt rfl hrg ?_ ?_)
      | go_in)
    · intro hc0 hl0
      have hq := HLO.out.best hl0
      have HA : Hid (nameAns xs k b = if q.1.size = 0 ∨ (b && (((bs q.1).getD (q.1.size - 1) 0 != 59) && (atL xs (k + q.1.size) == 61 || (inB (atL xs (k + q.1.size)) 65 90 || inB (atL xs (k + q.1.size)) 97 122) || decide (0 ≤ digitOf (atL xs (k + q.1.size)) 10)))) = true then .tuple #[.int .i64 0, .int .i64 0, .bool false]
        else .tuple #[.int .i64 q.2, .int .i64 (k + q.1.size : Nat), .bool true]) := by show _ = _; unfold nameAns; simp only; rw [← hq]
      have hone := HLO.out.one
      have hz : q.1.size ≤ 7 ∧ (q.1.size ≠ 0 → k + q.1.size ≤ xs.length) ∧ (q.1 = ⟨#[]⟩ ↔ q.1.size = 0) ∧ (q.1.size ≠ 0 → q.1.toList.isEmpty = false) := by
        rcases hone with e | ⟨hm, hs⟩
        · rw [e]; exact ⟨by decide, fun h => absurd rfl h, by decide, fun h => absurd rfl h⟩
        · have h0 := (refList_plain q hm).2.2
          exact ⟨refList_size q hm, fun _ => stands_len hs h0, ⟨fun e => by rw [e]; rfl, fun e => by omega⟩, fun _ => refList_full q hm⟩
      obtain ⟨z1, z2, z3, z4⟩ := hz
      have CG := (show Hid (0 < q.1.size → Calls Tryd.prog 35 #[.string q.1, v, .int .i64 (k + q.1.size : Nat)] wr _) from fun h => goesOn_any (HS.out.below (bel.mono (by exact Nat.le_refl _))) (k + q.1.size) q.1 hn (z2 (by omega)) (by omega) h)
      obtain ⟨qn, qp⟩ := q
      simp only at HA z1 z2 z3 z4 CG
      clear hq hone HLO HIN hrg hl0
      by_cases hq0 : qn.size = 0
      · obtain rfl := z3.mpr hq0
        clear CG z1 z2 z3 z4
        have HA2 := (show Hid _ from HA.out.trans (if_pos (.inl rfl)))
        clear HA
        go_wp2
        go_ret3
        exact ⟨by rw [HA2.out]; rfl, bel⟩
      · have hne : qn.toList.isEmpty = false := z4 hq0
        obtain ⟨m, hm⟩ : ∃ m : Nat, m = k + qn.size := ⟨_, rfl⟩
        have hm2 : (k : Int) + (qn.size : Int) = (m : Int) := by omega
        have cg := CG.out (by omega)
        rw [← hm] at cg HA
        obtain ⟨r, hr⟩ : ∃ r, r = (((bs qn).getD (qn.size - 1) 0 != 59) && (atL xs m == 61 || (inB (atL xs m) 65 90 || inB (atL xs m) 97 122) || decide (0 ≤ digitOf (atL xs m) 10))) := ⟨_, rfl⟩
        rw [← hr] at cg HA
        have hmb : m ≤ 3010 := by omega
        clear CG z1 z2 z3 z4 hr hm
        cases b
        · have HA2 := (show Hid _ from HA.out.trans (if_neg (by rintro (h | h); exact hq0 h; simp at h)))
          clear HA cg
          go_wp2
          go_ret3
          exact ⟨by rw [HA2.out]; rfl, bel⟩
        · cases r
          · have HA2 := (show Hid _ from HA.out.trans (if_neg (by rintro (h | h); exact hq0 h; simp at h)))
            clear HA
            go_wp2_with fail
            go_at_call 35
            refine cg.mono ?_
            rintro e w3 ⟨rfl, b3⟩
            go_wp2
            go_ret3
            exact ⟨by rw [HA2.out]; rfl, bel.trans (b3.mono bel.size)⟩
          · have HA2 := (show Hid _ from HA.out.trans (if_pos (.inr rfl)))
            clear HA
            go_wp2_with fail
            go_at_call 35
            refine cg.mono ?_
            rintro e w3 ⟨rfl, b3⟩
            go_wp2
            go_ret3
            exact ⟨by rw [HA2.out]; rfl, bel.trans (b3.mono bel.size)⟩
    · intro x c kl ya yb w2 cnt1 hkey hlk hv hat hrg1 hlt hg1 hs1 hen
      obtain ⟨c', ec, ey, hwc⟩ := plainElem_int_inv Tryd.underlying3 hv
      cases ec
      cases ey
      have ekl : kl = keyR x := by
        simp only [keyOf, Tryd.underlying9, mapKey] at hkey
        split at hkey
        · exact (Option.some.inj hkey).symm
        · cases hkey
      subst ekl
      have hmem := refMap_hit (HIN.out _ hlk) hat
      have hxz := refList_size _ hmem
      simp only at hxz
      have bel2 : Below w.heap.size w w2 := bel.grown hg1 bel.size (fun j hj => by cases hj; omega)
      have cs := nameStands_any (HS.out.below bel2) k x hn hk (by omega)
      have HR : Hid (w2.ranges Tryd.prog 9 (plainElem Tryd.prog 3) w.heap.size g 24 refMap (fun z => left z && !z.sameKey (keyR x)) cnt1) := hrg1
      have HI2 : Hid (∀ kl, (left kl && !kl.sameKey (keyR x)) = true → Maps.has refMap kl = true) := fun kl h => HIN.out kl (by simp only [Bool.and_eq_true] at h; exact h.1)
      have HM := (show Hid _ from hmem)
      have hqz : q.1.size ≤ 7 := by
        rcases HLO.out.one with e | ⟨hm, _⟩
        · rw [e]; decide
        · exact refList_size q hm
      have HLE := (show Hid _ from (show w2.rangeLeft w.heap.size g < wr.rangeLeft w.heap.size g by rw [hrg1.left_eq, hrg.left_eq]; exact hlt))
      clear hkey hlk hv hat hrg1 hlt hmem hrg HIN
      obtain ⟨qn, qp⟩ := q
      simp only at hqz HLO
      by_cases hsz : qn.size < x.size
      · obtain ⟨p, hp⟩ : ∃ p, p = stands xs k (bs x) := ⟨_, rfl⟩
        rw [← hp] at cs
        have HP := (show Hid _ from hp)
        clear hp
        cases p
        · have HL2 := (show Hid _ from HLO.out.skip (x := x) (fun h => by rw [← HP.out] at h; cases h))
          clear HLO
          go_wp2_with fail
          go_at_call 34
          refine cs.mono ?_
          rintro e w3 ⟨rfl, n3, rfl⟩
          go_wp2
          go_roundw
          case rel => exact ⟨_, cnt1, (qn, qp), rfl, rfl, HR.out.kept (grown_draws n3 none) (by simp) (by simp), HI2.out, HL2.out, bel2.trans (below_drewN n3)⟩
          case measure => exact HLE.out
        · have HL2 := (show Hid _ from HLO.out.take HM.out HP.out.symm hsz)
          clear HLO
          go_wp2_with fail
          go_at_call 34
          refine cs.mono ?_
          rintro e w3 ⟨rfl, n3, rfl⟩
          go_wp2
          go_roundw
          case rel => exact ⟨_, cnt1, (x, c), rfl, rfl, HR.out.kept (grown_draws n3 none) (by simp) (by simp), HI2.out, HL2.out, bel2.trans (below_drewN n3)⟩
          case measure => exact HLE.out
      · have HL2 := (show Hid _ from HLO.out.skip (x := x) (fun h => by simp only; omega))
        clear HLO cs
        go_wp2
        go_roundw
        case rel => exact ⟨_, cnt1, (qn, qp), rfl, rfl, HR.out, HI2.out, HL2.out, bel2⟩
        case measure => exact HLE.out
end Go.Proofs.YtggfifchkecnjaaDoor

/- The contract of the program's RefRead. -/
namespace Go.Proofs.YtggfifchkecnjaaDoor
open Go.RowKit
set_option maxRecDepth 100000
set_option linter.unusedVariables false

theorem refList_low : ∀ r ∈ refList, 97 ≤ (bs r.1).getD 0 0 := by decide
theorem best_hash {xs : List Int} {k : Nat} (h : atL xs k = 35) : (best xs k refList).1.size = 0 := by
  obtain ⟨s1, s2, s3⟩ := best_spec xs k refList (⟨#[]⟩, 0) (best xs k refList) rfl
  rcases s1 with e | ⟨hm, hs⟩
  · rw [e]; rfl
  · exfalso
    have h0 := (refList_plain _ hm).2.2
    have := stands_iff.mp hs 0 (by rw [bs_len]; exact h0)
    have hf := refList_low _ hm
    rw [Nat.add_zero] at this
    omega

/-- What refByName answers is what the plain function says. -/
theorem nameAns_eq (xs : List Int) (k : Nat) (b : Bool) : (nameAns xs (k + 1) b = .tuple #[.int .i64 0, .int .i64 0, .bool false] ∧ refName xs k b = ([38], (k : Int) + 1)) ∨ ∃ p n, nameAns xs (k + 1) b = .tuple #[.int .i64 p, .int .i64 n, .bool true] ∧ refName xs k b = ([p], n) := by
  unfold nameAns refName
  simp only
  by_cases h0 : (best xs (k + 1) refList).1.size = 0
  · rw [if_pos (.inl h0), if_pos h0]; exact .inl ⟨rfl, rfl⟩
  · rw [if_neg h0]
    rcases hb : (b && (((bs (best xs (k + 1) refList).1).getD ((best xs (k + 1) refList).1.size - 1) 0 != 59) && (atL xs (k + 1 + (best xs (k + 1) refList).1.size) == 61 || (inB (atL xs (k + 1 + (best xs (k + 1) refList).1.size)) 65 90 || inB (atL xs (k + 1 + (best xs (k + 1) refList).1.size)) 97 122) || decide (0 ≤ digitOf (atL xs (k + 1 + (best xs (k + 1) refList).1.size)) 10)))) with _ | _
    · right
      rw [if_neg (by rintro (h | h); exact h0 h; cases h), if_neg (by rw [Bool.and_assoc, hb]; decide)]
      exact ⟨_, _, rfl, by push_cast; rfl⟩
    · left
      rw [if_pos (.inr rfl), if_pos (by rw [Bool.and_assoc, hb])]
      exact ⟨rfl, rfl⟩

set_option maxHeartbeats 4000000 in
set_option maxRecDepth 100000 in
theorem irefRead_none {v : Value} {xs : List Int} {w : World} (h : Sl .i64 w v xs) (i : Int) (b : Bool) (hn : xs.length ≤ 1048576) (hw : (Lit.int .i64 i).wf = true) (hi : 3000 < xs.length ∨ inB i 0 (xs.length - 1) = false ∨ xs.getD i.toNat 0 ≠ 38) :
    Calls Tryd.prog 10 #[v, .int .i64 i, .bool b] w (Reads w (refRead xs i b)) := by
  rw [refRead_none hi]
  obtain ⟨a, ca, rfl, _, _, _, ha⟩ := h
  by_cases h1 : 3000 < xs.length
  · clear ha
    go_enter Tryd.func10, Tryd.ntmps10
    go_wp2
    go_ret2
    exact ⟨_, rfl, own_empty _ _ _, (Below.refl _ _).alloc (Nat.le_refl _) _⟩
  by_cases h2 : i < 0
  · clear ha
    go_enter Tryd.func10, Tryd.ntmps10
    go_wp2
    go_ret2
    exact ⟨_, rfl, own_empty _ _ _, (Below.refl _ _).alloc (Nat.le_refl _) _⟩
  by_cases h3 : xs.length ≤ i
  · clear ha
    go_enter Tryd.func10, Tryd.ntmps10
    go_wp2
    go_ret2
    exact ⟨_, rfl, own_empty _ _ _, (Below.refl _ _).alloc (Nat.le_refl _) _⟩
  obtain ⟨k, rfl⟩ : ∃ k : Nat, i = k := ⟨i.toNat, by omega⟩
  have hk : k < xs.length := by omega
  have h4 : xs.getD k 0 ≠ 38 := by
    rcases hi with hi | hi | hi
    · exact absurd hi h1
    · rw [inB_yes (by omega) (by omega)] at hi; cases hi
    · rwa [Int.toNat_natCast] at hi
  obtain ⟨b1, o1, rfl, k1⟩ := ha k hk
  have e3 : (xs.getD k 0 != 38) = true := by simpa using h4
  obtain ⟨y, hy⟩ : ∃ y, y = xs.getD k 0 := ⟨_, rfl⟩
  rw [← hy] at k1 e3
  clear ha hy h4 hi
  go_enter Tryd.func10, Tryd.ntmps10
  go_wp2
  go_ret2
  exact ⟨_, rfl, own_empty _ _ _, (Below.refl _ _).alloc (Nat.le_refl _) _⟩

set_option maxHeartbeats 4000000 in
set_option maxRecDepth 100000 in
theorem irefRead_at {v : Value} {xs : List Int} {w : World} (ho : Older w) (h : Sl .i64 w v xs) (k : Nat) (b : Bool) (h1 : xs.length ≤ 3000) (hk : k < xs.length) (h3 : xs.getD k 0 = 38) :
    Calls Tryd.prog 10 #[v, .int .i64 k, .bool b] w (Reads w (refRead xs k b)) := by
  have c1 := refByNumber_any ho h (k + 1) h1 (by omega)
  have C2 := (show Hid (∀ w', Below w.heap.size w w' → Calls Tryd.prog 23 #[v, .int .i64 (k + 1 : Nat), .bool b] w' fun e w'' => e = .returned (nameAns xs (k + 1) b) ∧ Below w'.heap.size w' w'') from fun w' hb => refByName_any (h.below hb) (k + 1) b h1 (by omega))
  have e1 : ((k + 1 : Nat) : Int) = (k : Int) + 1 := by omega
  rw [e1] at c1 C2
  obtain ⟨a, ca, rfl, _, _, _, ha⟩ := h
  obtain ⟨b1, o1, rfl, k1⟩ := ha k hk
  rw [h3] at k1
  have hnum : ∀ p : Int × Int, 0 < p.2 → numAns p = .tuple #[.int .i64 p.1, .int .i64 p.2, .bool true] := fun p hp => by unfold numAns; rw [if_pos hp]
  have hnum0 : ∀ p : Int × Int, ¬ 0 < p.2 → numAns p = .tuple #[.int .i64 0, .int .i64 0, .bool false] := fun p hp => by unfold numAns; rw [if_neg hp]
  by_cases h35 : atL xs (k + 1) = 35
  · rw [refRead_num h1 hk h3 h35]
    rw [if_pos h35] at c1
    obtain ⟨p, hp⟩ : ∃ p, p = refNum xs (k + 2) := ⟨_, rfl⟩
    rw [← hp]
    rw [show k + 1 + 1 = k + 2 from rfl, ← hp] at c1
    by_cases hp2 : 0 < p.2
    · rw [hnum p hp2] at c1
      rw [if_pos hp2]
      clear ha h3 hnum hnum0 ho C2 h35 hp
      go_enter Tryd.func10, Tryd.ntmps10
      go_wp2_with fail
      go_at_call 22
      refine c1.mono ?_
      rintro e w2 ⟨rfl, b2⟩
      go_wp2
      go_ret2
      exact ⟨_, rfl, (own1 _ _).base b2.size, b2.alloc b2.size _⟩
    · rw [hnum0 p hp2] at c1
      rw [if_neg hp2]
      have c2 := C2.out
      have e2 : nameAns xs (k + 1) b = .tuple #[.int .i64 0, .int .i64 0, .bool false] := by unfold nameAns; simp only; rw [if_pos (.inl (best_hash h35))]
      rw [e2] at c2
      have C3 := (show Hid _ from c2)
      clear ha h3 hnum hnum0 ho C2 h35 hp c2 e2
      go_enter Tryd.func10, Tryd.ntmps10
      go_wp2_with fail
      go_at_call 22
      refine c1.mono ?_
      rintro e w2 ⟨rfl, b2⟩
      go_wp2_with fail
      go_at_call 23
      refine (C3.out _ b2).mono ?_
      rintro e w3 ⟨rfl, b3⟩
      have b4 := b2.trans (b3.mono b2.size)
      go_wp2
      go_ret2
      exact ⟨_, rfl, (own1 _ _).base b4.size, b4.alloc b4.size _⟩
  · rw [refRead_name h1 hk h3 h35]
    rw [if_neg h35] at c1
    rcases nameAns_eq xs k b with ⟨ea, er⟩ | ⟨p, n, ea, er⟩
    · rw [er]
      have c2 := C2.out
      rw [ea] at c2
      have C3 := (show Hid _ from c2)
      clear ha h3 hnum hnum0 ho C2 h35 c2 ea er
      go_enter Tryd.func10, Tryd.ntmps10
      go_wp2_with fail
      go_at_call 22
      refine c1.mono ?_
      rintro e w2 ⟨rfl, b2⟩
      go_wp2_with fail
      go_at_call 23
      refine (C3.out _ b2).mono ?_
      rintro e w3 ⟨rfl, b3⟩
      have b4 := b2.trans (b3.mono b2.size)
      go_wp2
      go_ret2
      exact ⟨_, rfl, (own1 _ _).base b4.size, b4.alloc b4.size _⟩
    · rw [er]
      have c2 := C2.out
      rw [ea] at c2
      have C3 := (show Hid _ from c2)
      clear ha h3 hnum hnum0 ho C2 h35 c2 ea er
      go_enter Tryd.func10, Tryd.ntmps10
      go_wp2_with fail
      go_at_call 22
      refine c1.mono ?_
      rintro e w2 ⟨rfl, b2⟩
      go_wp2_with fail
      go_at_call 23
      refine (C3.out _ b2).mono ?_
      rintro e w3 ⟨rfl, b3⟩
      have b4 := b2.trans (b3.mono b2.size)
      go_wp2
      go_ret2
      exact ⟨_, rfl, (own1 _ _).base b4.size, b4.alloc b4.size _⟩

theorem irefRead_any {v : Value} {xs : List Int} {w : World} (ho : Older w) (h : Sl .i64 w v xs) (i : Int) (b : Bool) (hw : (Lit.int .i64 i).wf = true) (hn : xs.length ≤ 1048576) :
    Calls Tryd.prog 10 #[v, .int .i64 i, .bool b] w (Reads w (refRead xs i b)) := by
  by_cases hi : 3000 < xs.length ∨ inB i 0 (xs.length - 1) = false ∨ xs.getD i.toNat 0 ≠ 38
  · exact irefRead_none h i b hn hw hi
  · have h1 : xs.length ≤ 3000 := by omega
    have h2 : inB i 0 (xs.length - 1) = true := by
      rcases h2 : inB i 0 (xs.length - 1) with _ | _
      · exact absurd (.inr (.inl h2)) hi
      · rfl
    have h3 : xs.getD i.toNat 0 = 38 := by
      by_cases h3 : xs.getD i.toNat 0 = 38
      · exact h3
      · exact absurd (.inr (.inr h3)) hi
    have h4 : 0 ≤ i ∧ i ≤ xs.length - 1 := by unfold inB at h2; simpa using h2
    obtain ⟨k, rfl⟩ : ∃ k : Nat, i = k := ⟨i.toNat, by omega⟩
    rw [Int.toNat_natCast] at h3
    exact irefRead_at ho h k b h1 (by omega) h3
end Go.Proofs.YtggfifchkecnjaaDoor

/- The law FnEscape, walked, where the program's table lies as its text lays it. -/
namespace Go.Proofs.YtggfifchkecnjaaDoor
open Go.RowKit
set_option maxRecDepth 100000
set_option linter.unusedVariables false

theorem wf_i64 {x : Int} (h0 : -9223372036854775808 ≤ x) (h1 : x ≤ 9223372036854775807) : (Lit.int .i64 x).wf = true := by
  have e1 : IntKind.i64.min = -9223372036854775808 := by decide
  have e2 : IntKind.i64.max = 9223372036854775807 := by decide
  simp only [Lit.wf, e1, e2, Bool.and_eq_true, decide_eq_true_eq]
  exact ⟨h0, h1⟩

set_option maxHeartbeats 2000000 in
set_option maxRecDepth 100000 in
theorem fnEscape_walk {v : Value} {xs : List Int} (w : World) (ho : Older w) (h : Sl .u8 w v xs) (hwf : ∀ n ∈ xs, (Lit.int .u8 n).wf = true) :
    Calls Tryd.prog 3 #[v] w fun e w' => e = .returned (.bool true) ∧ Below w.heap.size w w' := by
  have HB : Hid (∀ x ∈ xs, 0 ≤ x ∧ x ≤ 255) := byte_ok hwf
  have HO := (show Hid (Older w) from ho)
  clear hwf ho
  obtain ⟨i0, hi, hz0, hz1, hz2⟩ := info_parts Tryd.infoI
  have hbig := big_any h
  by_cases hl : 1048576 < xs.length
  · rw [decide_eq_true hl] at hbig
    go_enter Tryd.func3, Tryd.ntmps3
    go_wp2_with fail
    go_at_call 4
    refine hbig.mono ?_
    rintro e w1 ⟨rfl, rfl⟩
    go_wp2
    go_ret
    exact ⟨rfl, Below.refl _ _⟩
  rw [decide_eq_false hl] at hbig
  go_enter Tryd.func3, Tryd.ntmps3
  go_wp2_with fail
  go_at_call 4
  refine hbig.mono ?_
  rintro e w1 ⟨rfl, rfl⟩
  clear hbig
  go_wp2_with fail
  go_at_call 5
  refine (drawEscape_any h HB.out (by omega)).mono ?_
  rintro e w2 ⟨s, b, rfl, hs, hlow, b2⟩
  have HLOW := (show Hid (lowS s) from hlow)
  have HE1 := (show Hid (∀ W, Calls Tryd.prog 6 #[.string s, .bool b] W _) from fun W => iescape_any s b W (by omega))
  have HE2 := (show Hid (∀ W, Calls Tryd.prog 7 #[.string s, .bool b] W _) from fun W => sescape_any s b W (by omega))
  clear hlow
  go_wp2_with fail
  go_at_call 6
  refine Calls.mono (HE1.out _) ?_
  rintro e w3 ⟨rfl, b3⟩
  replace b3 := b2.trans (b3.mono b2.size)
  clear b2
  go_wp2_with fail
  go_at_call 7
  refine Calls.mono (HE2.out _) ?_
  rintro e w4 ⟨rfl, b4⟩
  replace b4 := b3.trans (b4.mono b3.size)
  clear b3 HE1 HE2
  obtain ⟨t, ht⟩ : ∃ t, t = lstr (esc b s.data.toList) := ⟨_, rfl⟩
  rw [← ht]
  have HT := (show Hid (t = lstr (esc b s.data.toList)) from ht)
  have hsz : t.size = (esc b s.data.toList).length := by rw [ht]; unfold lstr; simp [ByteArray.size]
  have htl : t.size ≤ 1800 := by
    have := esc_size b s.data.toList.length s.data.toList (Nat.le_refl _)
    have h3 : s.data.toList.length = s.size := by simp
    omega
  clear ht hsz
  have HPL := (show Hid (∀ k (hk : k < t.size), (b = true → ((t[k]'hk).toNat : Int) ≠ 34) ∧ (b = false → ((t[k]'hk).toNat : Int) ≠ 60 ∧ ((t[k]'hk).toNat : Int) ≠ 62)) from fun k hk => by
    have hm : t[k]'hk ∈ esc b s.data.toList := by
      have e : t.data.toList = esc b s.data.toList := by rw [HT.out]; rfl
      rw [← e]
      exact Array.mem_toList_iff.mpr (Array.getElem_mem hk)
    have hp := esc_plain b s.data.toList.length s.data.toList (Nat.le_refl _) _ hm
    obtain ⟨y, hy⟩ : ∃ y, y = t[k]'hk := ⟨_, rfl⟩
    rw [← hy] at hp ⊢
    unfold plainB at hp
    have key : ∀ n : Nat, n < 256 → (y.toNat : Int) = n → y = UInt8.ofNat n := fun n hn e => u8_eq (by omega) hn
    constructor
    · rintro rfl e
      rw [key 34 (by decide) e] at hp
      exact absurd hp (by decide)
    · rintro rfl
      constructor
      · intro e
        rw [key 60 (by decide) e] at hp
        exact absurd hp (by decide)
      · intro e
        rw [key 62 (by decide) e] at hp
        exact absurd hp (by decide))
  have HS := (show Hid (s.size ≤ 300) from hs)
  have hs4 := b4.size
  go_wp2
  go_loop [6] (fun i => ∃ k : Nat, k ≤ t.size ∧ i = .int .i64 k) (fun i => t.size - (intOf i).toNat)
  case atStart => exact ⟨0, Nat.zero_le _, rfl⟩
  case round =>
    obtain ⟨k, hk, rfl⟩ := hrel
    by_cases hlt : k < t.size
    · obtain ⟨hp1, hp2⟩ := HPL.out k hlt
      obtain ⟨y, hy⟩ : ∃ y : Int, y = ((t[k]'hlt).toNat : Int) := ⟨_, rfl⟩
      rw [← hy] at hp1 hp2
      replace hy := hy.symm
      cases b
      · obtain ⟨h60, h62⟩ := hp2 rfl
        have n0 : (y == 60) = false := by simp [h60]
        have n1 : (y == 62) = false := by simp [h62]
        clear hp1 hp2 h60 h62
        go_wp2
        go_round
        case rel => exact ⟨k + 1, by omega, by go_num⟩
        case measure => simp [intOf]; omega
      · have h34 := hp1 rfl
        have n0 : (y == 34) = false := by simp [h34]
        clear hp1 hp2 h34
        go_wp2
        go_round
        case rel => exact ⟨k + 1, by omega, by go_num⟩
        case measure => simp [intOf]; omega
    · obtain ⟨cap, w5, hc, hkb, hcap, hm, hb5⟩ := conv_str s w4 (by unfold maxLen; omega)
      have hl := bs_len s
      have hsl := hkb.sl (n := s.size) (cap := cap) (by omega) (by omega) hm
      have hu := sutfOk_any hsl (bs_byte s) (by omega)
      clear hkb hsl
      obtain ⟨u, eu⟩ : ∃ u, u = utfOk (bs s) := ⟨_, rfl⟩
      rw [← eu] at hu
      have EU := (show Hid (u = utfOk (bs s)) from eu)
      clear eu
      go_wp2_with fail
      go_at_call 8
      refine hu.mono ?_
      rintro e w6 ⟨rfl, b6⟩
      clear hu hc
      replace b6 := b4.trans ((hb5.trans (b6.mono hb5.size)).mono hs4)
      clear b4 hb5
      cases u
      · by_cases h0 : 0 < s.size
        · by_cases hge : s.size ≤ t.size
          · go_wp2
            go_ret
            exact ⟨ret_bool (by simp), b6⟩
          · go_wp2
            go_ret
            exact ⟨ret_bool (by simp), b6⟩
        · go_wp2
          go_ret
          exact ⟨ret_bool (by simp), b6⟩
      · obtain ⟨ps, hps, hpl, hrd, hfl⟩ := escape_back (v := b) EU.out.symm HLOW.out HS.out
        rw [← HT.out] at hrd
        obtain ⟨L, hL⟩ : ∃ L, L = ps.flatMap (escPt b) := ⟨_, rfl⟩
        rw [← hL] at hrd hfl
        obtain ⟨cap2, w7, hc2, hkb, hcap2, hm2, hb7⟩ := conv_str t w6 (by unfold maxLen; omega)
        have hl2 := bs_len t
        have hsl := hkb.sl (n := t.size) (cap := cap2) (by omega) (by omega) hm2
        have hr := sread_any hsl (bs_byte t) (by omega)
        rw [hrd] at hr
        have HPS := (show Hid (puts ps = bs s) from hps)
        have HL := (show Hid (L = ps.flatMap (escPt b)) from hL)
        clear hkb hsl hrd hps hL
        go_wp2_with fail
        go_at_call 9
        refine hr.mono ?_
        rintro e w8 ⟨v8, rfl, o8, b8⟩
        clear hr hc2
        replace b8 := b6.trans ((hb7.trans (b8.mono hb7.size)).mono b6.size)
        clear b6 hb7
        have s8 := o8.sl
        clear o8
        have S8 := (show Hid (Sl .i64 w8 v8 L) from s8)
        obtain ⟨la, lc, rfl, _, _, _, hla⟩ := s8
        clear hla
        have hs8 := b8.size
        have o9 := own_empty 3 .i64 w8
        go_wp2
        go_loopw [8, 9] (fun u i wr => ∃ (j : Nat), j ≤ ps.length ∧ i = .int .i64 (posE b ps j : Nat) ∧ Own w8.heap.size 3 .i64 wr u (ps.take j) ∧ Below w8.heap.size w8 wr) (fun _ i _ => L.length - (intOf i).toNat)
        case atStart => exact ⟨0, Nat.zero_le _, rfl, o9, (Below.refl _ _).alloc (Nat.le_refl _) _⟩
        case round =>
          clear o9
          obtain ⟨j, hj, rfl, own, bel⟩ := hrel
          have hpe : posE b ps ps.length = L.length := by rw [HL.out]; exact posE_all b ps
          have hple : posE b ps j ≤ L.length := by rw [HL.out]; exact posE_le b ps j
          have hend : L.length ≤ posE b ps j → j = ps.length := by rw [HL.out]; exact posE_end hj
          have hat := fun (h : j < ps.length) => esc_at (v := b) h (by rw [← HL.out]; exact hfl)
          rw [← HL.out] at hat
          have sL := S8.out.below bel
          obtain ⟨_, _, e, _, _, _, hcell⟩ := sL
          cases e
          obtain ⟨p, hp⟩ : ∃ p, p = posE b ps j := ⟨_, rfl⟩
          rw [← hp] at hple hend hat ⊢
          by_cases hlt : p < L.length
          · have hjl : j < ps.length := by
              by_cases h : j < ps.length
              · exact h
              · exfalso
                have : j = ps.length := by omega
                rw [this] at hp
                omega
            obtain ⟨cb, co, rfl, cc⟩ := hcell p hlt
            clear hcell
            have htk := List.take_succ_eq_append_getElem hjl
            have htl2 : (ps.take j).length = j := by rw [List.length_take]; omega
            replace hat := hat hjl
            have hq : posE b ps (j + 1) ≤ L.length := by rw [HL.out]; exact posE_le b ps (j + 1)
            obtain ⟨q, hqq⟩ : ∃ q, q = posE b ps (j + 1) := ⟨_, rfl⟩
            rw [← hqq] at hat hq
            obtain ⟨pv, hpv⟩ : ∃ x, x = ps[j] := ⟨_, rfl⟩
            rw [← hpv] at hat htk
            have HQ := (show Hid (q = posE b ps (j + 1)) from hqq)
            have HTK := (show Hid (ps.take (j + 1) = ps.take j ++ [pv]) from htk)
            obtain ⟨outs, ho⟩ : ∃ o, o = ps.take j := ⟨_, rfl⟩
            rw [← ho] at own htl2
            have HO2 := (show Hid (outs = ps.take j) from ho)
            have hbs := bel.size
            clear hend hpe hp hqq htk hpv ho
            rcases hat with ⟨h1, h2, h3⟩ | ⟨h1, h2, h3⟩
            · rw [h1] at cc
              have n38 : (pv != 38) = true := by simp [h2]
              clear h1 h2
              go_wp2_with (at_builtin; refine wpList_app _ rfl (.tmp 88) (.tmp 93) 27 rfl w8.heap.size 3 i0 (.int .i64 0) 8 Tryd.underlying27 hi hz0 hz1 hz2 rfl .i64 _ _ outs [pv] rfl rfl (own.below ((Below.refl _ _).alloc (Nat.le_refl _) _)) (sl_one _ _ _ _) (by simp; omega) (by unfold maxLen; simp; omega) (by simp; omega) ?_; intro v' w10 o10 g10)
              go_roundw
              case rel => exact ⟨j + 1, by omega, by rw [← HQ.out, h3]; go_num, by rw [HTK.out, ← HO2.out]; exact o10, (bel.alloc hbs _).grown g10 (by simp; omega) (fun k hk => by have := (own.lt k hk).1; omega)⟩
              case measure => simp [intOf]; omega
            · rw [h1] at cc
              have hrr := irefRead_any (HO.out.below (b8.trans (bel.mono hs8))) (S8.out.below bel) (p : Int) b (wf_i64 (by omega) (by omega)) (by omega)
              rw [h2] at hrr
              clear h1 h2
              go_wp2_with fail
              go_at_call 10
              refine hrr.mono ?_
              rintro e w9 ⟨x, rfl, ox, bx⟩
              clear hrr
              replace own := own.below bx
              replace bel := bel.trans (bx.mono hbs)
              replace hbs := bel.size
              have hle : ¬ ((q : Int) ≤ (p : Int)) := by omega
              go_wp2_with (at_builtin; refine wpList_app _ rfl (.tmp 107) (.tmp 108) 27 rfl w8.heap.size 3 i0 (.int .i64 0) 8 Tryd.underlying27 hi hz0 hz1 hz2 rfl .i64 _ _ outs [pv] rfl rfl own ox.sl (by simp; omega) (by unfold maxLen; simp; omega) (by omega) ?_; intro v' w10 o10 g10)
              go_roundw
              case rel => exact ⟨j + 1, by omega, by rw [← HQ.out], by rw [HTK.out, ← HO2.out]; exact o10, bel.grown g10 hbs (fun k hk => by have := (own.lt k hk).1; omega)⟩
              case measure => simp [intOf]; omega
          · have hjn := hend (by omega)
            have own2 := own.sl
            rw [hjn, List.take_length] at own2

            have hpp := iputs_any own2 (by omega)
            have hpq : pointsPut ps = bs s := by unfold pointsPut; rw [if_pos (by omega)]; exact HPS.out
            rw [hpq] at hpp
            clear hcell hat hend hpe hp hjn own own2
            go_wp2_with fail
            go_at_call 11
            refine hpp.mono ?_
            rintro e w9 ⟨x, rfl, ox, bx⟩
            have hcv := conv_sl ox.sl
            rw [strOf_bs] at hcv
            replace bel := b8.trans ((bel.trans (bx.mono bel.size)).mono hs8)
            go_wp2
            go_ret
            exact ⟨rfl, bel⟩
end Go.Proofs.YtggfifchkecnjaaDoor
