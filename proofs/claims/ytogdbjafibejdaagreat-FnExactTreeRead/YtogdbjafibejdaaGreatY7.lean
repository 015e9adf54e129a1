/- A region that draws its order within a round, in which all but the last operations only read: one walk, and the last ones in their order, whatever they do. No condition. -/
import Derived.Test.YtogdbjafibejdaaGreatY2
import Derived.Test.YtogdbjafibejdaaGreatY4
import Derived.RangeFuncCalls
import Derived.Test.YtogdbjafibejdaaGreatRows
import Derived.Test.YtogdbjafibejdaaGreatY3
namespace Go.Proofs.YtogdbjafibejdaaGreat
open Go.RowKit
set_option maxRecDepth 100000
set_option linter.unusedVariables false

theorem operIn_of_still {n l0 : Nat} {P : Program} {o : Oper} {a : Act} {w : World} {K0 : Act → Prop} {K : Act → World → Prop} {Q : Exit → Act → World → Prop} (hd : noDefer o = true) (h : o.still P a w K0) (hK : ∀ a, K0 a → K a w) : o.wpIn (Fence.wide.inRound l0) n P a w K Q := by
  refine ⟨fun f _ => trivial, ?_⟩
  rw [Fence.inRound_round, Oper.semAt_some l0 _ _ (noDefer_ne hd)]
  unfold Oper.still at h
  generalize (execOp a.eval o).run P w = r at *
  cases r with
  | ok x w' =>
    cases x <;> simp only [Oper.stillUpon] at h
    case value v =>
      obtain ⟨rfl, h⟩ := h
      exact hK _ h
    case skip =>
      obtain ⟨rfl, h⟩ := h
      exact hK _ h
    case enter f args =>
      obtain ⟨rfl, v, hc, h⟩ := h
      refine ⟨(fun h => by cases h), (CallsIn.inRound l0 (callsIn_wide.2 hc)).mono ?_⟩
      rintro e w'' ⟨rfl, rfl⟩
      exact hK _ h
  | halt x w' => simp only [Oper.stillUpon] at h
theorem opIn_of_st {n l0 : Nat} {P : Program} {ops : Array Oper} {i : Nat} {a : Act} {w : World} {K0 : Act → Prop} {K : Act → World → Prop} {Q : Exit → Act → World → Prop} (hd : ∀ o ∈ ops, noDefer o = true) (h : stOp P ops w i K0 a) (hK : ∀ a, K0 a → K a w) : wpOpIn (Fence.wide.inRound l0) n P ops Q i K a w := by
  unfold stOp at h
  unfold wpOpIn
  split
  · rename_i ho; simp only [ho] at h; exact hK _ h
  · rename_i o ho
    simp only [ho] at h
    split
    · rename_i hw
      simp only [hw, if_true] at h
      exact operIn_of_still (hd o (Array.mem_of_getElem? ho)) h hK
    · rename_i hw
      simp only [hw] at h
      exact ⟨fun f _ => trivial, hK _ h⟩
theorem anyIn_of_head {m l0 n g : Nat} {P : Program} {md : Region.Mode} {ops : Array Oper} {w : World} {L : Array Bool → Act → Prop} {Q : Exit → Act → World → Prop} (hd : ∀ o ∈ ops, noDefer o = true) (hL : ∀ listed a, L listed a → wpAnyIn (Fence.wide.inRound l0) m P md ops Q g listed a w) :
    ∀ (f : Nat) (listed : Array Bool) (a : Act), wpAnyL P md ops w n L f listed a → wpAnyIn (Fence.wide.inRound l0) m P md ops Q (f + g) listed a w
  | 0, listed, a, h => by rw [Nat.zero_add]; exact hL _ _ h
  | f + 1, listed, a, h => by
    rw [show f + 1 + g = (f + g) + 1 by omega]
    exact ⟨fun h0 => absurd h0 h.1, fun i hi => opIn_of_st hd (h.2 i hi).2 (fun a' h' => anyIn_of_head hd hL f _ a' h')⟩
theorem anyIn_of_seq {F : Fence} {m : Nat} {P : Program} {md : Region.Mode} {ops : Array Oper} {Q : Exit → Act → World → Prop} : ∀ (l : List Oper) (k : Nat) (listed : Array Bool) (a : Act) (w : World), (∀ j, l[j]? = ops[k + j]?) →
    Region.seqB md ops l.length k listed = true → wpListIn F m P ops Q l a w → wpAnyIn F m P md ops Q l.length listed a w
  | [], _, _, _, _, _, hB, h => ⟨by simpa [Region.seqB] using hB, h⟩
  | o :: l, k, listed, a, w, hl, hB, h => by
    have h0 : ops[k]? = some o := by simpa using (hl 0).symm
    simp only [List.length_cons, Region.seqB, Bool.and_eq_true, decide_eq_true_eq] at hB
    refine ⟨fun h1 => (by rw [hB.1] at h1; cases h1), fun i hi => ?_⟩
    rw [hB.1] at hi
    have hik : i = k := by simpa using hi
    subst hik
    have hw : wpOpIn F m P ops Q i (wpListIn F m P ops Q l) a w := by unfold wpOpIn; simp only [h0]; exact h
    exact wpOpIn_mono (fun a' w' h' => anyIn_of_seq l (i + 1) _ a' w' (fun j => by have := hl (j + 1); simpa [Nat.add_assoc, Nat.add_comm 1 j] using this) hB.2 h') hw
theorem region_tail_round {m l0 : Nat} {P : Program} {id : Nat} {Q : Exit → Act → World → Prop} {a : Act} {w : World} {l : List Oper} (n : Nat) (hd : (l.all noDefer) = true) (hm : P.follows .mixedOrders = true) (hB : Region.lexTailB .any l.toArray n = true)
    (h : ∀ (w1 : World) (K : Act → Prop), Hid (w1 = w.drew) → Hid (∀ a', wpListIn (Fence.wide.inRound l0) m P l.toArray Q (l.drop n) a' w1 → K a') → wpQuiet P l.toArray (fun w' => ∃ n : One w1, w' = n.w) K (l.take n) a) : (Code.region id l.toArray true).wpIn (Fence.wide.inRound l0) m P Q a w := by
  have hd' : ∀ o ∈ l.toArray, noDefer o = true := fun o ho => List.all_eq_true.mp hd o (by simpa using ho)
  have hs := still_of_quiet _ _ (h w.drew _ rfl (fun _ h => h))
  simp only [Region.lexTailB, Bool.and_eq_true, decide_eq_true_eq] at hB
  obtain ⟨⟨⟨⟨hsel, hn⟩, hsk⟩, hc⟩, hlex⟩ := hB
  have hn' : n < l.length := by simpa using hn
  have htl : (l.take n).length = n := by simp; omega
  have hdl : (l.drop n).length = l.toArray.size - n := by simp
  have inv0 : HeadInv .any l.toArray n (Array.replicate l.toArray.size false) :=
    ⟨by simp, fun j oj _ hl => (by rw [getD_replicate_false] at hl; cases hl), fun t _ ht => getD_in (by simpa using ht) (getD_replicate_false _ _)⟩
  have H := wpAnyL_lex (md := .any) (g := l.toArray.size - n) hsel hsk hc hn (l.take n) 0 _ a (fun j hj => by
    have hj' : j < n := by rw [htl] at hj; exact hj
    simp [hj']) (by simpa using htl) inv0 (by rw [htl]; exact hlex) hs
  refine wpIn_region_any hm ?_
  have := anyIn_of_head (l0 := l0) (m := m) (Q := Q) (g := l.toArray.size - n) hd' (fun listed a' hL => by
    have := anyIn_of_seq (F := Fence.wide.inRound l0) (m := m) (md := .any) (Q := Q) (l.drop n) n listed a' w.drew (fun j => by simp [List.getElem?_drop]) (by rw [hdl]; exact hL.1) hL.2
    rwa [hdl] at this) _ _ _ H
  rw [htl, show n + (l.toArray.size - n) = l.toArray.size by omega] at this
  exact this
end Go.Proofs.YtogdbjafibejdaaGreat

/- Contracts of PutNum, the program's and the specification's, at every number. -/
namespace Go.Proofs.YtogdbjafibejdaaGreat
open Go.RowKit
set_option maxRecDepth 100000
set_option linter.unusedVariables false

theorem own_nil (B : Nat) (e : TypeId) (K : IntKind) (w : World) : Own B e K w (.slice none 0 0) [] := ⟨rfl, .inl ⟨rfl, rfl⟩⟩
theorem sl_byte1 (w : World) (t : TypeId) (x : Int) : Sl .u8 (w.alloc (.cells #[.int .u8 x] t)) (.slice (some ⟨w.heap.size, 0, none⟩) 1 1) [x] :=
  Own.sl (World.ownsRow_lit w #[.int .u8 x] 1 (Nat.le_refl _) (by unfold maxLen; omega) rfl : Own w.heap.size t .u8 _ _ [x])

theorem inum_any (x : Int) (w : World) (hx : x ≤ 9223372036854775807) :
    Calls Tryz.prog 166 #[.int .i64 x] w fun e w' => ∃ v, e = .returned v ∧ Own w.heap.size 5 .u8 w' v (form x) ∧ Below w.heap.size w w' := by
  unfold form
  by_cases h0 : x < 0
  · rw [if_pos h0]
    go_enter Tryz.func166, Tryz.ntmps166
    go_wp2
    go_ret
    exact ⟨_, rfl, own_nil _ _ _ _, Below.refl _ _⟩
  · rw [if_neg h0]
    have hb := bd_of (by omega) hx
    obtain ⟨i0, hi, hz0, hz1, hz2⟩ := info_parts Tryz.infoB
    have hown0 := own_empty 5 .u8 w
    have hbel0 : Below w.heap.size w (w.alloc (.cells #[] 5)) := (Below.refl _ _).alloc (Nat.le_refl _) _
    go_enter Tryz.func166, Tryz.ntmps166
    go_wp2
    go_loopw [0, 3] (fun y v wr => ∃ (z : Int) (m : Nat) (pre : List Int), y = .int .i64 z ∧ z ≤ x ∧ Bd m z ∧ pre.length + m = 8 ∧ pre ++ nf m z = nf 8 x ∧ Own w.heap.size 5 .u8 wr v pre ∧ Below w.heap.size w wr) (fun y _ _ => (intOf y).toNat)
    case atStart => exact ⟨x, 8, [], rfl, Int.le_refl _, hb, rfl, rfl, hown0, hbel0⟩
    case round =>
      clear hown0 hbel0 hb
      obtain ⟨z, m, pre, rfl, hzx, hb, hl, he, hown, hbel⟩ := hrel
      have hz0' := hb.1
      have hsz := hbel.size
      by_cases hlt : z < 128
      · rw [nf_lt hlt] at he
        have ez : z % 256 = z := by omega
        have hone := sl_byte1 (w := wr) 5 z
        go_wp2_with (at_builtin; refine wpList_app _ rfl _ _ 22 rfl w.heap.size 5 i0 (.int .u8 0) 1 Tryz.underlying22 hi hz0 hz1 hz2 rfl .u8 _ _ pre [z] rfl rfl (hown.alloc _) hone (by simp; omega) (by unfold maxLen; simp; omega) (by simp; omega) ?_; intro v' w3 o3 g3)
        go_ret
        rw [he] at o3
        exact ⟨_, rfl, o3, (hbel.alloc (by omega) _).grown g3 (by simp; omega) hown.grownAt⟩
      · obtain ⟨n, rfl, hb'⟩ := hb.next (by omega)
        rw [nf_ge (by omega)] at he
        have ez : (128 + z % 128) % 256 = 128 + z % 128 := by omega
        have hone := sl_byte1 (w := wr) 5 (128 + z % 128)
        go_wp2_with (at_builtin; refine wpList_app _ rfl _ _ 22 rfl w.heap.size 5 i0 (.int .u8 0) 1 Tryz.underlying22 hi hz0 hz1 hz2 rfl .u8 _ _ pre [128 + z % 128] rfl rfl (hown.alloc _) hone (by simp; omega) (by unfold maxLen; simp; omega) (by simp; omega) ?_; intro v' w3 o3 g3)
        go_roundw
        case rel => exact ⟨z / 128, n, pre ++ [128 + z % 128], by go_num, by omega, hb', by simp; omega, by rw [List.append_assoc]; exact he, o3, (hbel.alloc (by omega) _).grown g3 (by simp; omega) hown.grownAt⟩
        case measure => simp [intOf]; omega

theorem snum_any (x : Int) (w : World) (hx : x ≤ 9223372036854775807) :
    Calls Tryz.prog 88 #[.int .i64 x] w fun e w' => ∃ v, e = .returned v ∧ Own w.heap.size 5 .u8 w' v (form x) ∧ Below w.heap.size w w' := by
  unfold form
  by_cases h0 : x < 0
  · rw [if_pos h0]
    go_enter Tryz.func88, Tryz.ntmps88
    go_wp2
    go_ret
    exact ⟨_, rfl, own_empty _ _ _, (Below.refl _ _).alloc (Nat.le_refl _) _⟩
  · rw [if_neg h0]
    have hb := bd_of (by omega) hx
    obtain ⟨i0, hi, hz0, hz1, hz2⟩ := info_parts Tryz.infoB
    have hown0 := own_empty 5 .u8 w
    have hbel0 : Below w.heap.size w (w.alloc (.cells #[] 5)) := (Below.refl _ _).alloc (Nat.le_refl _) _
    go_enter Tryz.func88, Tryz.ntmps88
    go_wp2
    go_loopw [0, 3] (fun y v wr => ∃ (z : Int) (m : Nat) (pre : List Int), y = .int .i64 z ∧ z ≤ x ∧ Bd m z ∧ pre.length + m = 8 ∧ pre ++ nf m z = nf 8 x ∧ Own w.heap.size 5 .u8 wr v pre ∧ Below w.heap.size w wr) (fun y _ _ => (intOf y).toNat)
    case atStart => exact ⟨x, 8, [], rfl, Int.le_refl _, hb, rfl, rfl, hown0, hbel0⟩
    case round =>
      clear hown0 hbel0 hb
      obtain ⟨z, m, pre, rfl, hzx, hb, hl, he, hown, hbel⟩ := hrel
      have hz0' := hb.1
      have hsz := hbel.size
      by_cases hlt : z < 128
      · rw [nf_lt hlt] at he
        have ez : z % 256 = z := by omega
        have hone := sl_byte1 (w := wr) 5 z
        go_wp2_with (at_builtin; refine wpList_app _ rfl _ _ 22 rfl w.heap.size 5 i0 (.int .u8 0) 1 Tryz.underlying22 hi hz0 hz1 hz2 rfl .u8 _ _ pre [z] rfl rfl (hown.alloc _) hone (by simp; omega) (by unfold maxLen; simp; omega) (by simp; omega) ?_; intro v' w3 o3 g3)
        go_ret
        rw [he] at o3
        exact ⟨_, rfl, o3, (hbel.alloc (by omega) _).grown g3 (by simp; omega) hown.grownAt⟩
      · obtain ⟨n, rfl, hb'⟩ := hb.next (by omega)
        rw [nf_ge (by omega), Int.add_comm] at he
        have ez : (z % 128 + 128) % 256 = z % 128 + 128 := by omega
        have hone := sl_byte1 (w := wr) 5 (z % 128 + 128)
        go_wp2_with (at_builtin; refine wpList_app _ rfl _ _ 22 rfl w.heap.size 5 i0 (.int .u8 0) 1 Tryz.underlying22 hi hz0 hz1 hz2 rfl .u8 _ _ pre [z % 128 + 128] rfl rfl (hown.alloc _) hone (by simp; omega) (by unfold maxLen; simp; omega) (by simp; omega) ?_; intro v' w3 o3 g3)
        go_roundw
        case rel => exact ⟨z / 128, n, pre ++ [z % 128 + 128], by go_num, by omega, hb', by simp; omega, by rw [List.append_assoc]; exact he, o3, (hbel.alloc (by omega) _).grown g3 (by simp; omega) hown.grownAt⟩
        case measure => simp [intOf]; omega
end Go.Proofs.YtogdbjafibejdaaGreat
