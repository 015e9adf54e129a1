/- A region that draws its order, in which all but the last operations only read: one walk, and the last ones in their order, whatever they do. No condition. -/
import Derived.Test.YteddljmekpnojaaDoorU0
import Derived.StillTail
import Derived.BigQuiet
import Derived.Test.YteddljmekpnojaaDoorU13
import Derived.Test.YteddljmekpnojaaDoorU7
import Derived.Test.YteddljmekpnojaaDoorU4
import Derived.Test.YteddljmekpnojaaDoorU5
import Derived.Test.YteddljmekpnojaaDoorU8
namespace Go.Proofs.YteddljmekpnojaaDoor
open Go.RowKit
set_option maxRecDepth 100000
set_option linter.unusedVariables false

/-- Just one world. -/
def One (w1 : World) : Type := { w : World // w = w1 }
def One.w {w1 : World} (n : One w1) : World := n.1
theorem One.eq {w1 : World} (n : One w1) : n.w = w1 := n.2
theorem One.any (w1 : World) : Nonempty (One w1) := ⟨⟨w1, rfl⟩⟩

theorem still_of_quiet {P : Program} {ops : Array Oper} {w1 : World} {Q : Act → Prop} : ∀ (l : List Oper) (a : Act),
    wpQuiet P ops (fun w' => ∃ n : One w1, w' = n.w) Q l a → wpStill P ops w1 Q l a := by
  intro l
  induction l with
  | nil => exact fun a h => h
  | cons o rest ih =>
    intro a h
    unfold wpQuiet at h
    unfold wpStill
    by_cases hw : Region.wanted o (yielded ops a.tmps) = true
    · rw [if_pos hw] at h ⊢
      obtain ⟨v, h1, h2⟩ := h
      have h3 := h1 w1 ⟨⟨w1, rfl⟩, rfl⟩
      have h4 := ih _ h2
      unfold Oper.quietAt at h3
      unfold Oper.still
      generalize (execOp a.eval o).run P w1 = r at *
      cases r with
      | ok n w' =>
        cases n <;> simp only [Oper.quietUpon] at h3 <;> simp only [Oper.stillUpon]
        case value u =>
          obtain ⟨e1, e2⟩ := h3
          exact ⟨e1, by rw [e2]; exact h4⟩
        case skip =>
          obtain ⟨e1, e2⟩ := h3
          exact ⟨e1, by rw [← e2]; exact h4⟩
        case enter f args =>
          obtain ⟨e1, hc⟩ := h3
          exact ⟨e1, v, hc.mono (fun e w'' ⟨he, n, hn⟩ => ⟨he, hn.trans n.eq⟩), h4⟩
      | halt x w' => simp only [Oper.quietUpon] at h3
    · rw [if_neg hw] at h ⊢
      exact ih _ h

theorem region_tail {P : Program} {id : Nat} {Q : Exit → Act → World → Prop} {a : Act} {w : World} {l : List Oper} (n : Nat) (hm : P.follows .mixedOrders = true) (hB : Region.lexTailB .any l.toArray n = true)
    (h : ∀ (w1 : World) (K : Act → Prop), Hid (w1 = w.drew) → Hid (∀ a', wpList P l.toArray Q (l.drop n) a' w1 → K a') → wpQuiet P l.toArray (fun w' => ∃ n : One w1, w' = n.w) K (l.take n) a) : (Code.region id l.toArray true).wp P Q a w :=
  wp_region_still_tail n hm hB (still_of_quiet _ _ (h w.drew _ rfl (fun _ h => h)))
end Go.Proofs.YteddljmekpnojaaDoor

/- Digits as bytes, plainly; the specification's HexBytes. No condition. -/
namespace Go.Proofs.YteddljmekpnojaaDoor
open Go.RowKit
set_option maxRecDepth 100000
set_option linter.unusedVariables false

def valD (b : Int) : Int := if 48 ≤ b ∧ b ≤ 57 then b - 48 else if 97 ≤ b ∧ b ≤ 102 then b - 87 else -1
/-- The bytes of which the list is the digits. -/
def unhexF : List Int → Option (List Int)
  | [] => some []
  | [_] => none
  | a :: b :: r => if valD a < 0 ∨ valD b < 0 then none else (unhexF r).map ((16 * valD a + valD b) :: ·)
def unhexS (s : ByteArray) : ByteArray × Bool := if s.size % 2 = 1 ∨ 6000 < s.size then (⟨#[]⟩, false) else match unhexF (bs s) with
  | none => (⟨#[]⟩, false)
  | some l => (strOf l, true)
theorem valD_in (b : Int) : -1 ≤ valD b ∧ valD b ≤ 15 := by
  unfold valD
  split
  · omega
  · split <;> omega
theorem unhex_on {xs : List Int} {i : Nat} (h : i + 1 < xs.length) : unhexF (xs.drop i) = if valD (xs.getD i 0) < 0 ∨ valD (xs.getD (i + 1) 0) < 0 then none else (unhexF (xs.drop (i + 2))).map ((16 * valD (xs.getD i 0) + valD (xs.getD (i + 1) 0)) :: ·) := by
  have e1 : xs.drop i = xs.getD i 0 :: xs.drop (i + 1) := by
    rw [List.drop_eq_getElem_cons (by omega)]
    simp [show i < xs.length by omega]
  have e2 : xs.drop (i + 1) = xs.getD (i + 1) 0 :: xs.drop (i + 2) := by
    rw [List.drop_eq_getElem_cons (by omega)]
    simp [h]
  rw [e1, e2, unhexF]

set_option maxRecDepth 100000 in
theorem l20Value_any (b : Int) (w : World) (h0 : 0 ≤ b) (h1 : b ≤ 255) : Calls Tryd.prog 22 #[.int .u8 b] w fun e w' => e = .returned (.int .i64 (valD b)) ∧ w' = w := by
  by_cases ha : 65 ≤ b ∧ b ≤ 70
  · have hv : valD b = -1 := by unfold valD; rw [if_neg (by omega), if_neg (by omega)]
    obtain ⟨ha1, ha2⟩ := ha
    go_enter Tryd.func22, Tryd.ntmps22
    go_wp2
    go_ret
    exact ⟨by rw [hv]; rfl, rfl⟩
  · have hv : digitOf b 16 = valD b := by
      unfold digitOf valD
      simp only [inB, Bool.and_eq_true, decide_eq_true_eq]
      rw [if_neg (by omega)]
      split
      · rfl
      · rw [if_neg (by omega)]
        split
        · rename_i h; rw [if_pos h.2]
        · rename_i h; rw [if_neg (fun k => h ⟨by trivial, k⟩)]
    have CD := (show Hid (∀ W, Calls Tryd.prog 28 #[.int .i64 b, .int .i64 16] W fun e w' => e = .returned (.int .i64 (valD b)) ∧ w' = W) from fun W => by rw [← hv]; exact sdigit_any b 16 W)
    clear hv
    by_cases hb : 65 ≤ b
    · have hc : ¬ b ≤ 70 := by omega
      go_enter Tryd.func22, Tryd.ntmps22
      go_wp2_with fail
      go_at_call 28
      refine Calls.mono (CD.out _) ?_
      rintro e w' ⟨rfl, ew⟩
      go_wp2
      go_ret
      exact ⟨rfl, rfl⟩
    · go_enter Tryd.func22, Tryd.ntmps22
      go_wp2_with fail
      go_at_call 28
      refine Calls.mono (CD.out _) ?_
      rintro e w' ⟨rfl, ew⟩
      go_wp2
      go_ret
      exact ⟨rfl, rfl⟩
theorem quiet_one {P : Program} {f : FuncId} {args : Array Value} {w1 : World} {n : One w1} {v : Value} (h : Calls P f args n.w fun e w' => e = .returned v ∧ w' = n.w) : Calls P f args n.w fun e w' => e = .returned v ∧ ∃ n : One w1, w' = n.w :=
  h.mono (fun e w' ⟨he, hw⟩ => ⟨he, n, hw⟩)

set_option maxHeartbeats 2000000 in
set_option maxRecDepth 100000 in
theorem shexBytes_any (s : ByteArray) (w : World) (hs : s.size ≤ 1099511627776) : Calls Tryd.prog 10 #[.string s] w fun e w' => e = .returned (.tuple #[.string (unhexS s).1, .bool (unhexS s).2]) ∧ Below w.heap.size w w' := by
  have hl := bs_len s
  obtain ⟨i0, hi, hz0, hz1, hz2⟩ := info_parts Tryd.infoB
  have o1 := own_empty 5 .u8 w
  have ba : Below w.heap.size w (w.alloc (.cells #[] 5)) := (Below.refl _ _).alloc (Nat.le_refl _) _
  have hmod : Int.tmod (s.size : Int) 2 = ((s.size % 2 : Nat) : Int) := by rw [Int.tmod_eq_emod_of_nonneg (by omega)]; omega
  by_cases hodd : s.size % 2 = 1
  · have hq : unhexS s = (⟨#[]⟩, false) := by rw [unhexS, if_pos (.inl hodd)]
    rw [hodd] at hmod
    rw [hq]
    go_enter Tryd.func10, Tryd.ntmps10
    go_wp2
    refine bodyPost_ret (results_tmp2 rfl _ _ _) rfl ?_
    exact ⟨rfl, ba⟩
  · have hev : s.size % 2 = 0 := by omega
    rw [hev] at hmod
    by_cases hb : 6000 < s.size
    · have hq : unhexS s = (⟨#[]⟩, false) := by rw [unhexS, if_pos (.inr hb)]
      rw [hq]
      go_enter Tryd.func10, Tryd.ntmps10
      go_wp2
      refine bodyPost_ret (results_tmp2 rfl _ _ _) rfl ?_
      exact ⟨rfl, ba⟩
    · have HQ := (show Hid (unhexS s = match unhexF (bs s) with
        | none => (⟨#[]⟩, false)
        | some l => (strOf l, true)) from (show _ = _ by rw [unhexS, if_neg (by omega)]))
      obtain ⟨⟨qs, qb⟩, hqq⟩ : ∃ z, z = unhexS s := ⟨_, rfl⟩
      rw [← hqq] at HQ ⊢
      clear hqq
      go_enter Tryd.func10, Tryd.ntmps10
      go_wp2
      go_loopw [4, 5] (fun u i wr => ∃ (k : Nat) (out : List Int), k ≤ s.size ∧ k % 2 = 0 ∧ i = .int .i64 k ∧ out.length ≤ k ∧ (∀ x ∈ out, 0 ≤ x ∧ x ≤ 255) ∧ Own w.heap.size 5 .u8 wr u out ∧ unhexF (bs s) = (unhexF ((bs s).drop k)).map (out ++ ·) ∧ Below w.heap.size w wr) (fun _ i _ => s.size - (intOf i).toNat)
      case atStart => exact ⟨0, [], Nat.zero_le _, rfl, rfl, Nat.le_refl _, (by intro x hx; cases hx), o1, by simp, ba⟩
      case round =>
        clear o1 ba
        obtain ⟨k, out, hks, hkm, rfl, hol, hob, own, hun, bel⟩ := hrel
        by_cases hlt : k < s.size
        · have hlt2 : k + 1 < s.size := by omega
          have hat1 := bs_at s k hlt
          have hat2 := bs_at s (k + 1) hlt2
          have hb1 := bs_bound s k
          have hb2 := bs_bound s (k + 1)
          have hon := unhex_on (xs := bs s) (i := k) (by omega)
          obtain ⟨y1, hy1⟩ : ∃ y, y = (bs s).getD k 0 := ⟨_, rfl⟩
          obtain ⟨y2, hy2⟩ : ∃ y, y = (bs s).getD (k + 1) 0 := ⟨_, rfl⟩
          rw [← hy1] at hat1 hb1
          rw [← hy2] at hat2 hb2
          rw [← hy1, ← hy2] at hon
          rw [hon] at hun
          have C1 := (show Hid (∀ W, Calls Tryd.prog 22 #[.int .u8 y1] W fun e w' => e = .returned (.int .i64 (valD y1)) ∧ w' = W) from fun W => l20Value_any y1 W hb1.1 hb1.2)
          have C2 := (show Hid (∀ W, Calls Tryd.prog 22 #[.int .u8 y2] W fun e w' => e = .returned (.int .i64 (valD y2)) ∧ w' = W) from fun W => l20Value_any y2 W hb2.1 hb2.2)
          have hv1 := valD_in y1
          have hv2 := valD_in y2
          obtain ⟨v1, hv1e⟩ : ∃ z, z = valD y1 := ⟨_, rfl⟩
          obtain ⟨v2, hv2e⟩ : ∃ z, z = valD y2 := ⟨_, rfl⟩
          rw [← hv1e] at C1 hv1 hun
          rw [← hv2e] at C2 hv2 hun
          have HUN := (show Hid _ from hun)
          have OW := (show Hid (Own w.heap.size 5 .u8 wr _ out) from own)
          have BL := (show Hid (Below w.heap.size w wr) from bel)
          have hw3 : IntKind.i64.wrap ((k : Int) + 1) = (k : Int) + 1 := by rw [IntKind.wrap_i64]; omega
          clear hy1 hy2 hon hun hv1e hv2e own bel
          go_wp2_with fail
          refine region_tail 9 (by kernel_rfl) (by kernel_rfl) ?_
          intro x1 K1 hX1 hK1
          have ne := One.any x1
          simp only [List.take_succ_cons, List.take_zero, List.drop_succ_cons, List.drop_zero] at hK1 ⊢
          repeat (go_big_quiet_step (first | (go_at_call 22; with_reducible exact quiet_one (C1.out _)) | (go_at_call 22; with_reducible exact quiet_one (C2.out _))))
          refine wpQuiet_nil ?_
          refine hK1.out _ ?_
          have OX := (show Hid (Own w.heap.size 5 .u8 x1 _ out) from by rw [hX1.out]; exact Own.below OW.out (below_drewN 1))
          have BX := (show Hid (Below w.heap.size w x1) from by rw [hX1.out]; exact BL.out.trans (below_drewN 1))
          clear hK1 ne C1 C2 hX1 OW BL
          have hsz := BX.out.size
          by_cases hn1 : v1 < 0
          · have e1 := HUN.out
            rw [if_pos (.inl hn1), Option.map_none] at e1
            rw [e1] at HQ
            have e2 := HQ.out
            cases e2
            clear HQ HUN e1
            go_wp2
            refine bodyPost_ret (results_tmp2 rfl _ _ _) rfl ?_
            exact ⟨rfl, BX.out⟩
          · by_cases hn2 : v2 < 0
            · have e1 := HUN.out
              rw [if_pos (.inr hn2), Option.map_none] at e1
              rw [e1] at HQ
              have e2 := HQ.out
              cases e2
              clear HQ HUN e1
              go_wp2
              refine bodyPost_ret (results_tmp2 rfl _ _ _) rfl ?_
              exact ⟨rfl, BX.out⟩
            · have HU2 := (show Hid (unhexF (bs s) = (unhexF ((bs s).drop (k + 2))).map ((out ++ [16 * v1 + v2]) ++ ·)) from (show _ = _ by
                have e1 := HUN.out
                rw [if_neg (by omega), Option.map_map] at e1
                rw [e1]
                congr 1
                funext l
                simp))
              clear HUN
              obtain ⟨z, hz⟩ : ∃ z, z = 16 * v1 + v2 := ⟨_, rfl⟩
              rw [← hz] at HU2
              have hzb : 0 ≤ z ∧ z ≤ 255 := by omega
              have hone := one_byte x1 z
              rw [hz] at hone
              go_wp2_with (at_builtin; refine wpList_app _ rfl (.tmp 39) (.tmp 45) 22 rfl w.heap.size 5 i0 (.int .u8 0) 1 Tryd.underlying22 hi hz0 hz1 hz2 rfl .u8 _ _ out [16 * v1 + v2] rfl rfl (OX.out.alloc _) hone (by simp; omega) (by unfold maxLen; simp; omega) (by simp; omega) ?_; intro v' w9 o9 g9)
              go_roundw
              case rel => exact ⟨k + 2, out ++ [z], by omega, by omega, by go_num, by simp; omega, (by
                intro x hx
                rcases List.mem_append.mp hx with hx | hx
                · exact hob x hx
                · rw [List.mem_singleton.mp hx]; exact hzb), by rw [hz]; exact o9, HU2.out, (BX.out.alloc hsz _).grown g9 (by simp; omega) OX.out.grownAt⟩
              case measure => simp [intOf]; omega
        · have hke : k = s.size := by omega
          subst hke
          have e0 : (bs s).drop s.size = [] := by rw [← hl]; exact List.drop_length
          have e1 : unhexF (bs s) = some out := by rw [hun, e0]; simp [unhexF]
          rw [e1] at HQ
          have e2 := HQ.out
          cases e2
          have hcv := conv_sl own.sl
          clear HQ e1 hun
          go_wp2
          refine bodyPost_ret (results_tmp2 rfl _ _ _) rfl ?_
          exact ⟨rfl, bel⟩
end Go.Proofs.YteddljmekpnojaaDoor

/- The exact laws of NumText, HexText and HexBytes from the program's contracts. -/
namespace Go.Proofs.YteddljmekpnojaaDoor
open Go.RowKit
set_option maxRecDepth 100000
set_option linter.unusedVariables false

def NumTextOk (w : World) : Prop := ∀ (n : Int) (W : World), (Lit.int .i64 n).wf = true → Below w.heap.size w W → Calls Tryd.prog 12 #[.int .i64 n] W fun e w' => e = .returned (.string (numS n)) ∧ Below W.heap.size W w'
def HexTextOk : Prop := ∀ (s : ByteArray) (w : World), s.size ≤ 1099511627776 → Calls Tryd.prog 7 #[.string s] w fun e w' => e = .returned (.string (hexS s)) ∧ Below w.heap.size w w'
def HexBytesOk : Prop := ∀ (s : ByteArray) (w : World), s.size ≤ 1099511627776 → Calls Tryd.prog 8 #[.string s] w fun e w' => e = .returned (.tuple #[.string (unhexS s).1, .bool (unhexS s).2]) ∧ Below w.heap.size w w'

set_option maxRecDepth 100000 in
theorem fnExactNumText_of {n : Int} (w : World) (H : NumTextOk w) (hn : (Lit.int .i64 n).wf = true) :
    Calls Tryd.prog 4 #[.int .i64 n] w fun e w' => e = .returned (.bool true) ∧ Below w.heap.size w w' := by
  have CS := (show Hid (∀ W, Calls Tryd.prog 13 #[.int .i64 n] W fun e w' => e = .returned (.string (numS n)) ∧ Below W.heap.size W w') from fun W => snumText_any n W hn)
  have CI := (show Hid (∀ W, Below w.heap.size w W → Calls Tryd.prog 12 #[.int .i64 n] W fun e w' => e = .returned (.string (numS n)) ∧ Below W.heap.size W w') from fun W hb => H n W hn hb)
  obtain ⟨q, hq⟩ : ∃ q, q = numS n := ⟨_, rfl⟩
  rw [← hq] at CS CI
  clear hq H
  go_enter Tryd.func4, Tryd.ntmps4
  go_wp2_with fail
  go_at_call 13
  refine Calls.mono (CS.out _) ?_
  rintro e w1 ⟨rfl, b1⟩
  have B1 := (show Hid _ from b1)
  go_wp2_with fail
  go_at_call 12
  refine Calls.mono (CI.out _ B1.out) ?_
  rintro e w2 ⟨rfl, b2⟩
  have B2 := (show Hid (Below w.heap.size w w2) from B1.out.trans (b2.mono B1.out.size))
  clear b1 b2 B1
  go_wp2
  go_ret
  exact ⟨rfl, B2.out⟩

end Go.Proofs.YteddljmekpnojaaDoor

/- Plainly: digits that are read are written as they were, and the other way round. No condition. -/
namespace Go.Proofs.YteddljmekpnojaaDoor
open Go.RowKit
set_option maxRecDepth 100000
set_option linter.unusedVariables false

theorem valD_hexD {k : Int} (h0 : 0 ≤ k) (h1 : k < 16) : valD (hexD k) = k := by
  unfold hexD
  split
  · unfold valD; rw [if_pos (by omega)]; omega
  · unfold valD; rw [if_neg (by omega), if_pos (by omega)]; omega
theorem hexD_valD {b : Int} (h : 0 ≤ valD b) : hexD (valD b) = b := by
  unfold valD at h ⊢
  split
  · unfold hexD; rw [if_pos (by omega)]; omega
  · split
    · unfold hexD; rw [if_neg (by omega)]; omega
    · rename_i h1 h2; rw [if_neg h1, if_neg h2] at h; omega
theorem unhex_hex : ∀ (xs : List Int), (∀ x ∈ xs, 0 ≤ x ∧ x ≤ 255) → unhexF (hexL xs) = some xs := by
  intro xs
  induction xs with
  | nil => intro _; rfl
  | cons x xs ih =>
    intro h
    have hx := h x (List.mem_cons_self ..)
    have e : hexL (x :: xs) = hexD (x / 16) :: hexD (x % 16) :: hexL xs := rfl
    rw [e, unhexF, valD_hexD (by omega) (by omega), valD_hexD (by omega) (by omega), if_neg (by omega), ih (fun y hy => h y (List.mem_cons_of_mem _ hy))]
    simp; omega
theorem hex_unhex : ∀ (n : Nat) (ys xs : List Int), ys.length ≤ n → unhexF ys = some xs → hexL xs = ys ∧ (∀ x ∈ xs, 0 ≤ x ∧ x ≤ 255) ∧ 2 * xs.length = ys.length := by
  intro n
  induction n with
  | zero =>
    intro ys xs hl h
    have : ys = [] := List.length_eq_zero_iff.mp (by omega)
    subst this
    cases h
    exact ⟨rfl, (fun x hx => by cases hx), rfl⟩
  | succ n ih =>
    intro ys xs hl h
    match ys, hl, h with
    | [], _, h => cases h; exact ⟨rfl, (fun x hx => by cases hx), rfl⟩
    | [_], _, h => cases h
    | a :: b :: r, hl, h =>
      rw [unhexF] at h
      split at h
      · cases h
      · rename_i hv
        cases hr : unhexF r with
        | none => rw [hr] at h; cases h
        | some l =>
          rw [hr, Option.map_some, Option.some.injEq] at h
          obtain ⟨h1, h2, h3⟩ := ih r l (by simp only [List.length_cons] at hl; omega) hr
          have va := valD_in a
          have vb := valD_in b
          subst h
          refine ⟨?_, fun x hx => ?_, by simp only [List.length_cons]; omega⟩
          · have e : hexL ((16 * valD a + valD b) :: l) = hexD ((16 * valD a + valD b) / 16) :: hexD ((16 * valD a + valD b) % 16) :: hexL l := rfl
            rw [e, h1, show (16 * valD a + valD b) / 16 = valD a by omega, show (16 * valD a + valD b) % 16 = valD b by omega, hexD_valD (by omega), hexD_valD (by omega)]
          · rcases List.mem_cons.mp hx with rfl | hx
            · omega
            · exact h2 x hx
theorem hexL_byte : ∀ (xs : List Int), (∀ x ∈ xs, 0 ≤ x ∧ x ≤ 255) → ∀ y ∈ hexL xs, 0 ≤ y ∧ y ≤ 255 := by
  intro xs h y hy
  unfold hexL at hy
  obtain ⟨x, hx, hy⟩ := List.mem_flatMap.mp hy
  have hb := h x hx
  have h1 := hexD_in (k := x / 16) (by omega) (by omega)
  have h2 := hexD_in (k := x % 16) (by omega) (by omega)
  simp only [List.mem_cons, List.not_mem_nil, or_false] at hy
  rcases hy with rfl | rfl <;> omega
theorem unhexS_hexS {s : ByteArray} (h : s.size ≤ 3000) : unhexS (hexS s) = (s, true) := by
  have hb := hexL_byte (bs s) (bs_byte s)
  have e : hexS s = strOf (hexL (bs s)) := by rw [hexS, if_neg (by omega)]
  have hl := bs_len s
  have hz : (strOf (hexL (bs s))).size = 2 * s.size := by rw [strOf_size, hexL_len, hl]
  rw [e, unhexS, if_neg (by omega), bs_strOf hb, unhex_hex (bs s) (bs_byte s)]
  show (strOf (bs s), true) = _
  rw [strOf_bs]
theorem hexS_unhexS {t : ByteArray} (h : (unhexS t).2 = true) : hexS (unhexS t).1 = t := by
  unfold unhexS at h ⊢
  split at h
  · cases h
  · rename_i hc
    rw [if_neg hc]
    cases hu : unhexF (bs t) with
    | none => rw [hu] at h; cases h
    | some l =>
      simp only
      obtain ⟨h1, h2, h3⟩ := hex_unhex _ (bs t) l (Nat.le_refl _) hu
      have hl := bs_len t
      rw [hexS, if_neg (by rw [strOf_size]; omega), bs_strOf h2, h1, strOf_bs]
end Go.Proofs.YteddljmekpnojaaDoor

/- The contract of the draw of bytes: some bytes, in new memory. -/
namespace Go.Proofs.YteddljmekpnojaaDoor
open Go.RowKit
set_option maxRecDepth 100000
set_option linter.unusedVariables false

theorem Sl.take {K : IntKind} {w : World} {a : Addr} {n cap r : Nat} {xs : List Int} (h : Sl K w (.slice (some a) n cap) xs) (hr : r ≤ xs.length) : Sl K w (.slice (some a) r cap) (xs.take r) := by
  obtain ⟨a', c', e, hl, hm, hnn, ha⟩ := h
  cases e
  have hlen : (xs.take r).length = r := by simp; omega
  refine ⟨some a, cap, by rw [hlen], by omega, hm, (fun h => by cases h), fun k hk => ?_⟩
  obtain ⟨b, off, e, c⟩ := ha k (by omega)
  refine ⟨b, off, e, ?_⟩
  have e2 : (xs.take r).getD k 0 = xs.getD k 0 := by simp [List.getD_eq_getElem?_getD, show k < r by omega]
  rw [e2]; exact c

theorem put_byte (x : Int) : ∀ y ∈ put x, 0 ≤ y ∧ y ≤ 255 := by
  have := pt_ok x
  exact enc_byte this.1 this.2.1

/-- One number of a list that is written out. -/
theorem pickL_any {w0 : World} {g : Nat} {v : Value} {xs : List Int} {w : World} (h : Cur w0 g v xs w) (hb : ∀ x ∈ xs, 0 ≤ x ∧ x ≤ 255) (zs : List Int) (hz : 0 < zs.length) (hz2 : zs.length ≤ 1000) (cs : Array Value) (hcs : cs.toList = zs.map (Value.int .i64)) (n : Nat) (hn : n = zs.length) :
    Calls Tryd.prog 23 #[.pointer (some ⟨g, 0, none⟩), .slice (some ⟨w.heap.size, 0, none⟩) n n] (w.alloc (.cells cs 3)) fun e w' => ∃ x : Int, e = .returned (.int .i64 x) ∧ x ∈ zs ∧ Cur w0 g v xs w' ∧ w.grownBy w' (some g) := by
  have hsz : cs.size = zs.length := by have := congrArg List.length hcs; simpa using this
  have hown : Own w.heap.size 3 .i64 (w.alloc (.cells cs 3)) (.slice (some ⟨w.heap.size, 0, none⟩) n n) zs := by
    have h1 := World.ownsRow_lit (base := w.heap.size) (e := 3) (size := 1) w cs n (Nat.le_refl _) (by unfold maxLen; omega) (by omega)
    rw [hcs] at h1
    unfold Own
    rw [← hn]; exact h1
  refine (pick_any (h.below ((Below.refl _ _).alloc (Nat.le_refl _) _)) hb hown.sl hz hz2 (fun w' hg => (own_past hown hg h.lt).sl)).mono ?_
  rintro e w3 ⟨z, rfl, hz, k3, g3⟩
  exact ⟨z, rfl, hz, k3, grown_trans (World.grownBy_alloc _ _ _) g3⟩

end Go.Proofs.YteddljmekpnojaaDoor

/- The draws of chapter 20's numbers and texts. No condition. -/
namespace Go.Proofs.YteddljmekpnojaaDoor
open Go.RowKit
set_option maxRecDepth 100000
set_option linter.unusedVariables false

set_option maxHeartbeats 1000000 in
set_option maxRecDepth 100000 in
theorem drawNumText_any {v : Value} {xs : List Int} {w : World} (h : Sl .u8 w v xs) (hb : ∀ x ∈ xs, 0 ≤ x ∧ x ≤ 255) (hn : xs.length ≤ 1099511627776) :
    Calls Tryd.prog 11 #[v] w fun e w' => ∃ x : Int, e = .returned (.int .i64 x) ∧ -9223372036854775808 ≤ x ∧ x ≤ 9223372036854775807 ∧ Below w.heap.size w w' := by
  have HB : Hid (∀ x ∈ xs, 0 ≤ x ∧ x ≤ 255) := hb
  clear hb
  go_enter Tryd.func11, Tryd.ntmps11
  go_wp2_with fail
  go_at_call 14
  refine (new_any h HB.out hn).mono ?_
  rintro e w1 ⟨rfl, k1, b1⟩
  go_wp2_with fail
  go_at_call 16
  refine (below_any _ (by omega) k1 HB.out).mono ?_
  rintro e w2 ⟨x, rfl, x0, x1, x2, k2, g2⟩
  replace x1 := x1 (by omega)
  clear x2
  go_wp2_with fail
  go_at_call 16
  refine (below_any _ (by omega) k2 HB.out).mono ?_
  rintro e w3 ⟨y, rfl, y0, y1, y2, k3, g3⟩
  replace y1 := y1 (by omega)
  clear y2
  go_wp2_with fail
  go_at_call 23
  refine (pickL_any k3 HB.out [0, -1, 10, -10, 9223372036854775807, -9223372036854775808, x, -y] (by simp) (by simp) _ rfl 8 rfl).mono ?_
  rintro e w4 ⟨z, rfl, hz, k4, g4⟩
  have hzb : -9223372036854775808 ≤ z ∧ z ≤ 9223372036854775807 := by
    simp only [List.mem_cons, List.not_mem_nil, or_false] at hz
    omega
  clear hz
  have g5 := grown_trans (grown_trans g2 g3) g4
  go_wp2
  go_ret
  exact ⟨_, rfl, hzb.1, hzb.2, b1.grown g5 b1.size (fun k hk => by cases hk; exact Nat.le_refl _)⟩

set_option maxHeartbeats 1000000 in
set_option maxRecDepth 100000 in
theorem drawHexText_any {v : Value} {xs : List Int} {w : World} (h : Sl .u8 w v xs) (hb : ∀ x ∈ xs, 0 ≤ x ∧ x ≤ 255) (hn : xs.length ≤ 1099511627776) :
    Calls Tryd.prog 6 #[v] w fun e w' => ∃ s : ByteArray, e = .returned (.string s) ∧ s.size ≤ 10000 ∧ Below w.heap.size w w' := by
  have HB : Hid (∀ x ∈ xs, 0 ≤ x ∧ x ≤ 255) := hb
  obtain ⟨ib, hib, hb0, hb1, hb2⟩ := info_parts Tryd.infoB
  clear hb
  go_enter Tryd.func6, Tryd.ntmps6
  go_wp2_with fail
  go_at_call 14
  refine (new_any h HB.out hn).mono ?_
  rintro e w1 ⟨rfl, k1, b1⟩
  have h1 := h.below b1
  go_wp2_with fail
  go_at_call 15
  refine (once_any _ (by omega) k1 HB.out).mono ?_
  rintro e w2 ⟨q, rfl, k2, g2⟩
  have b2 := b1.grown g2 b1.size (fun k hk => by cases hk; exact Nat.le_refl _)
  cases q
  · have h2 := h.below b2
    go_wp2_with fail
    go_at_call 18
    refine (size_any h2 hn 12 (by omega)).mono ?_
    rintro e w3 ⟨⟨x, rfl, x0, x1⟩, rfl⟩
    obtain ⟨m, rfl⟩ : ∃ m : Nat, x = m := ⟨x.toNat, by omega⟩
    go_wp2_with fail
    go_at_call 17
    refine (drawBytes_any k2 HB.out m (by omega)).mono ?_
    rintro e w4 ⟨u, zs, rfl, o4, hzl, hzb, k4, g4⟩
    have b4 := b1.grown (grown_trans g2 g4) b1.size (fun k hk => by cases hk; exact Nat.le_refl _)
    have cv := conv_sl o4.sl
    have hss := strOf_size zs
    obtain ⟨t, ht⟩ : ∃ t, t = strOf zs := ⟨_, rfl⟩
    rw [← ht] at cv hss
    clear ht o4 k4 g4 hzb k1 k2 h1 b1 b2 g2 h2
    go_wp2
    go_ret
    exact ⟨_, rfl, by omega, b4⟩
  · go_wp2_with fail
    go_at_call 16
    refine (below_any _ (by omega) k2 HB.out).mono ?_
    rintro e w3 ⟨x, rfl, x0, x1, x2, k3, g3⟩
    replace x1 := x1 (by omega)
    clear x2
    obtain ⟨m, rfl⟩ : ∃ m : Nat, x = m := ⟨x.toNat, by omega⟩
    have b3 := b1.grown (grown_trans g2 g3) b1.size (fun k hk => by cases hk; exact Nat.le_refl _)
    have hss := strOf_size (List.replicate (3000 + m) (0 : Int))
    rw [List.length_replicate] at hss
    have hN : (3000 : Int) + (m : Int) = ((3000 + m : Nat) : Int) := by omega
    obtain ⟨N, hNe⟩ : ∃ N, N = 3000 + m := ⟨_, rfl⟩
    rw [← hNe] at hss hN
    have hNb : N ≤ 3001 := by omega
    clear k1 k2 k3 g2 g3 b1 b2 h1 hNe
    go_wp2_with (at_make; refine wpList_mkn _ rfl _ _ 22 rfl 5 ib .u8 Tryd.underlying22 hib hb0 hb1 _ _ N rfl rfl rfl rfl (by rw [hb2]; omega) (by unfold maxLen; omega) ?_; intro wm om bm; have hcv := conv_sl om.sl)
    go_ret
    exact ⟨_, rfl, by omega, b3.trans (bm.mono b3.size)⟩

theorem hexS_size (s : ByteArray) : (hexS s).size ≤ 2 * s.size := by
  unfold hexS
  split
  · exact Nat.zero_le _
  · rw [strOf_size, hexL_len, bs_len]; exact Nat.le_refl _

set_option maxHeartbeats 1000000 in
set_option maxRecDepth 100000 in
theorem drawHexBytes_any {v : Value} {xs : List Int} {w : World} (h : Sl .u8 w v xs) (hb : ∀ x ∈ xs, 0 ≤ x ∧ x ≤ 255) (hn : xs.length ≤ 1099511627776) :
    Calls Tryd.prog 9 #[v] w fun e w' => ∃ s : ByteArray, e = .returned (.string s) ∧ s.size ≤ 10000 ∧ Below w.heap.size w w' := by
  have HB : Hid (∀ x ∈ xs, 0 ≤ x ∧ x ≤ 255) := hb
  obtain ⟨ib, hib, hb0, hb1, hb2⟩ := info_parts Tryd.infoB
  clear hb
  go_enter Tryd.func9, Tryd.ntmps9
  go_wp2_with fail
  go_at_call 14
  refine (new_any h HB.out hn).mono ?_
  rintro e w1 ⟨rfl, k1, b1⟩
  go_wp2_with fail
  go_at_call 17
  refine (drawBytes_any k1 HB.out 6 (by omega)).mono ?_
  rintro e w4 ⟨u, zs, rfl, o4, hzl, hzb, k4, g4⟩
  have b4 := b1.grown g4 b1.size (fun k hk => by cases hk; exact Nat.le_refl _)
  have cv := conv_sl o4.sl
  have hss := strOf_size zs
  obtain ⟨t, ht⟩ : ∃ t, t = strOf zs := ⟨_, rfl⟩
  rw [← ht] at cv hss
  clear ht o4 g4 hzb k1 b1
  go_wp2_with fail
  go_at_call 20
  refine (shexText_any t w4 (by omega)).mono ?_
  rintro e w5 ⟨rfl, b5⟩
  have hts := hexS_size t
  obtain ⟨s0, hs0⟩ : ∃ z, z = hexS t := ⟨_, rfl⟩
  rw [← hs0] at hts ⊢
  have k5 := k4.below b5
  have b5' := b4.trans (b5.mono b4.size)
  have hsz : s0.size ≤ 12 := by omega
  clear hs0 cv k4 b4 b5 hts hss
  go_wp2_with fail
  go_at_call 15
  refine (once_any _ (by omega) k5 HB.out).mono ?_
  rintro e w6 ⟨q, rfl, k6, g6⟩
  have b6 := b5'.grown g6 b5'.size (fun k hk => by cases hk; exact Nat.le_refl _)
  clear k5 g6 b5'
  cases q
  · go_wp2_with fail
    go_at_call 15
    refine (once_any _ (by omega) k6 HB.out).mono ?_
    rintro e w8 ⟨q8, rfl, k8, g8⟩
    have b8 := b6.grown g8 b6.size (fun k hk => by cases hk; exact Nat.le_refl _)
    cases q8
    · go_wp2
      go_ret
      exact ⟨_, rfl, by omega, b8⟩
    · go_wp2_with fail
      go_at_call 16
      refine (below_any _ (by omega) k8 HB.out).mono ?_
      rintro e w9 ⟨x, rfl, x0, x1, x2, k9, g9⟩
      replace x1 := x1 (by omega)
      clear x2
      obtain ⟨m, rfl⟩ : ∃ m : Nat, x = m := ⟨x.toNat, by omega⟩
      have b9 := b8.grown g9 b8.size (fun k hk => by cases hk; exact Nat.le_refl _)
      have hss := strOf_size (List.replicate (6000 + 2 * m) (0 : Int))
      rw [List.length_replicate] at hss
      have hN : (6000 : Int) + 2 * (m : Int) = ((6000 + 2 * m : Nat) : Int) := by omega
      obtain ⟨N, hNe⟩ : ∃ N, N = 6000 + 2 * m := ⟨_, rfl⟩
      rw [← hNe] at hss hN
      have hNb : N ≤ 6002 := by omega
      clear k8 k9 g8 g9 b8 hNe
      go_wp2_with (at_make; refine wpList_mkn _ rfl _ _ 22 rfl 5 ib .u8 Tryd.underlying22 hib hb0 hb1 _ _ N rfl rfl rfl rfl (by rw [hb2]; omega) (by unfold maxLen; omega) ?_; intro wm om bm; have hcv := conv_sl om.sl)
      go_ret
      exact ⟨_, rfl, by omega, b9.trans (bm.mono b9.size)⟩
  · go_wp2_with fail
    go_at_call 21
    refine (pickS_any k6 HB.out [⟨#[]⟩, ⟨#[48]⟩, ⟨#[48, 103]⟩, ⟨#[65, 66]⟩, ⟨#[97, 98]⟩, ⟨#[48, 48, 102, 102]⟩, ⟨#[97, 32, 98]⟩] (by simp) (by simp) _ rfl 7 rfl).mono ?_
    rintro e w7 ⟨s1, rfl, hs1, k7, g7⟩
    have hsz1 : s1.size ≤ 12 := by
      simp only [List.mem_cons, List.not_mem_nil, or_false] at hs1
      rcases hs1 with rfl | rfl | rfl | rfl | rfl | rfl | rfl <;> decide
    have b7 := b6.grown g7 b6.size (fun k hk => by cases hk; exact Nat.le_refl _)
    clear hs1 k6 g7 b6
    go_wp2_with fail
    go_at_call 15
    refine (once_any _ (by omega) k7 HB.out).mono ?_
    rintro e w8 ⟨q8, rfl, k8, g8⟩
    have b8 := b7.grown g8 b7.size (fun k hk => by cases hk; exact Nat.le_refl _)
    cases q8
    · go_wp2
      go_ret
      exact ⟨_, rfl, by omega, b8⟩
    · go_wp2_with fail
      go_at_call 16
      refine (below_any _ (by omega) k8 HB.out).mono ?_
      rintro e w9 ⟨x, rfl, x0, x1, x2, k9, g9⟩
      replace x1 := x1 (by omega)
      clear x2
      obtain ⟨m, rfl⟩ : ∃ m : Nat, x = m := ⟨x.toNat, by omega⟩
      have b9 := b8.grown g9 b8.size (fun k hk => by cases hk; exact Nat.le_refl _)
      have hss := strOf_size (List.replicate (6000 + 2 * m) (0 : Int))
      rw [List.length_replicate] at hss
      have hN : (6000 : Int) + 2 * (m : Int) = ((6000 + 2 * m : Nat) : Int) := by omega
      obtain ⟨N, hNe⟩ : ∃ N, N = 6000 + 2 * m := ⟨_, rfl⟩
      rw [← hNe] at hss hN
      have hNb : N ≤ 6002 := by omega
      clear k8 k9 g8 g9 b8 hNe
      go_wp2_with (at_make; refine wpList_mkn _ rfl _ _ 22 rfl 5 ib .u8 Tryd.underlying22 hib hb0 hb1 _ _ N rfl rfl rfl rfl (by rw [hb2]; omega) (by unfold maxLen; omega) ?_; intro wm om bm; have hcv := conv_sl om.sl)
      go_ret
      exact ⟨_, rfl, by omega, b9.trans (bm.mono b9.size)⟩
end Go.Proofs.YteddljmekpnojaaDoor
