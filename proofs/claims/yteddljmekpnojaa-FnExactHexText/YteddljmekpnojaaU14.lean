/- A region that draws its order, in which all but the last operations only read: one walk, and the last ones in their order, whatever they do. No condition. -/
import Derived.Test.YteddljmekpnojaaU0
import Derived.StillTail
import Derived.BigQuiet
import Derived.Test.YteddljmekpnojaaU13
namespace Go.Proofs.Yteddljmekpnojaa
open Go.RowKit
set_option maxRecDepth 100000
set_option linter.unusedVariables false

/-- Just one world. -/
def One (w1 : World) : Type := { w : World // w = w1 }
def One.w {w1 : World} (n : One w1) : World := n.1
theorem One.eq {w1 : World} (n : One w1) : n.w = w1 := n.2
theorem One.any (w1 : World) : Nonempty (One w1) := ⟨⟨w1, rfl⟩⟩

theorem still_of_quiet {P : Program} {ops : Array Oper} {w1 : World} {Q : Act → Prop} : ∀ (l : List Oper) (a : Act),
    wpQuiet P ops (fun w' => ∃ n : One w1, w' = n.w) Q l a → wpStill P ops w1 Q l a := by
  intro l
  induction l with
  | nil => exact fun a h => h
  | cons o rest ih =>
    intro a h
    unfold wpQuiet at h
    unfold wpStill
    by_cases hw : Region.wanted o (yielded ops a.tmps) = true
    · rw [if_pos hw] at h ⊢
      obtain ⟨v, h1, h2⟩ := h
      have h3 := h1 w1 ⟨⟨w1, rfl⟩, rfl⟩
      have h4 := ih _ h2
      unfold Oper.quietAt at h3
      unfold Oper.still
      generalize (execOp a.eval o).run P w1 = r at *
      cases r with
      | ok n w' =>
        cases n <;> simp only [Oper.quietUpon] at h3 <;> simp only [Oper.stillUpon]
        case value u =>
          obtain ⟨e1, e2⟩ := h3
          exact ⟨e1, by rw [e2]; exact h4⟩
        case skip =>
          obtain ⟨e1, e2⟩ := h3
          exact ⟨e1, by rw [← e2]; exact h4⟩
        case enter f args =>
          obtain ⟨e1, hc⟩ := h3
          exact ⟨e1, v, hc.mono (fun e w'' ⟨he, n, hn⟩ => ⟨he, hn.trans n.eq⟩), h4⟩
      | halt x w' => simp only [Oper.quietUpon] at h3
    · rw [if_neg hw] at h ⊢
      exact ih _ h

theorem region_tail {P : Program} {id : Nat} {Q : Exit → Act → World → Prop} {a : Act} {w : World} {l : List Oper} (n : Nat) (hm : P.follows .mixedOrders = true) (hB : Region.lexTailB .any l.toArray n = true)
    (h : ∀ (w1 : World) (K : Act → Prop), Hid (w1 = w.drew) → Hid (∀ a', wpList P l.toArray Q (l.drop n) a' w1 → K a') → wpQuiet P l.toArray (fun w' => ∃ n : One w1, w' = n.w) K (l.take n) a) : (Code.region id l.toArray true).wp P Q a w :=
  wp_region_still_tail n hm hB (still_of_quiet _ _ (h w.drew _ rfl (fun _ h => h)))
end Go.Proofs.Yteddljmekpnojaa

/- Digits as bytes, plainly; the specification's HexBytes. No condition. -/
namespace Go.Proofs.Yteddljmekpnojaa
open Go.RowKit
set_option maxRecDepth 100000
set_option linter.unusedVariables false

def valD (b : Int) : Int := if 48 ≤ b ∧ b ≤ 57 then b - 48 else if 97 ≤ b ∧ b ≤ 102 then b - 87 else -1
/-- The bytes of which the list is the digits. -/
def unhexF : List Int → Option (List Int)
  | [] => some []
  | [_] => none
  | a :: b :: r => if valD a < 0 ∨ valD b < 0 then none else (unhexF r).map ((16 * valD a + valD b) :: ·)
def unhexS (s : ByteArray) : ByteArray × Bool := if s.size % 2 = 1 ∨ 6000 < s.size then (⟨#[]⟩, false) else match unhexF (bs s) with
  | none => (⟨#[]⟩, false)
  | some l => (strOf l, true)
theorem valD_in (b : Int) : -1 ≤ valD b ∧ valD b ≤ 15 := by
  unfold valD
  split
  · omega
  · split <;> omega
theorem unhex_on {xs : List Int} {i : Nat} (h : i + 1 < xs.length) : unhexF (xs.drop i) = if valD (xs.getD i 0) < 0 ∨ valD (xs.getD (i + 1) 0) < 0 then none else (unhexF (xs.drop (i + 2))).map ((16 * valD (xs.getD i 0) + valD (xs.getD (i + 1) 0)) :: ·) := by
  have e1 : xs.drop i = xs.getD i 0 :: xs.drop (i + 1) := by
    rw [List.drop_eq_getElem_cons (by omega)]
    simp [show i < xs.length by omega]
  have e2 : xs.drop (i + 1) = xs.getD (i + 1) 0 :: xs.drop (i + 2) := by
    rw [List.drop_eq_getElem_cons (by omega)]
    simp [h]
  rw [e1, e2, unhexF]

set_option maxRecDepth 100000 in
theorem l20Value_any (b : Int) (w : World) (h0 : 0 ≤ b) (h1 : b ≤ 255) : Calls Try.prog 10 #[.int .u8 b] w fun e w' => e = .returned (.int .i64 (valD b)) ∧ w' = w := by
  by_cases ha : 65 ≤ b ∧ b ≤ 70
  · have hv : valD b = -1 := by unfold valD; rw [if_neg (by omega), if_neg (by omega)]
    obtain ⟨ha1, ha2⟩ := ha
    go_enter Try.func10, Try.ntmps10
    go_wp2
    go_ret
    exact ⟨by rw [hv]; rfl, rfl⟩
  · have hv : digitOf b 16 = valD b := by
      unfold digitOf valD
      simp only [inB, Bool.and_eq_true, decide_eq_true_eq]
      rw [if_neg (by omega)]
      split
      · rfl
      · rw [if_neg (by omega)]
        split
        · rename_i h; rw [if_pos h.2]
        · rename_i h; rw [if_neg (fun k => h ⟨by trivial, k⟩)]
    have CD := (show Hid (∀ W, Calls Try.prog 12 #[.int .i64 b, .int .i64 16] W fun e w' => e = .returned (.int .i64 (valD b)) ∧ w' = W) from fun W => by rw [← hv]; exact sdigit_any b 16 W)
    clear hv
    by_cases hb : 65 ≤ b
    · have hc : ¬ b ≤ 70 := by omega
      go_enter Try.func10, Try.ntmps10
      go_wp2_with fail
      go_at_call 12
      refine Calls.mono (CD.out _) ?_
      rintro e w' ⟨rfl, ew⟩
      go_wp2
      go_ret
      exact ⟨rfl, rfl⟩
    · go_enter Try.func10, Try.ntmps10
      go_wp2_with fail
      go_at_call 12
      refine Calls.mono (CD.out _) ?_
      rintro e w' ⟨rfl, ew⟩
      go_wp2
      go_ret
      exact ⟨rfl, rfl⟩
theorem quiet_one {P : Program} {f : FuncId} {args : Array Value} {w1 : World} {n : One w1} {v : Value} (h : Calls P f args n.w fun e w' => e = .returned v ∧ w' = n.w) : Calls P f args n.w fun e w' => e = .returned v ∧ ∃ n : One w1, w' = n.w :=
  h.mono (fun e w' ⟨he, hw⟩ => ⟨he, n, hw⟩)

set_option maxHeartbeats 2000000 in
set_option maxRecDepth 100000 in
theorem shexBytes_any (s : ByteArray) (w : World) (hs : s.size ≤ 1099511627776) : Calls Try.prog 7 #[.string s] w fun e w' => e = .returned (.tuple #[.string (unhexS s).1, .bool (unhexS s).2]) ∧ Below w.heap.size w w' := by
  have hl := bs_len s
  obtain ⟨i0, hi, hz0, hz1, hz2⟩ := info_parts Try.infoB
  have o1 := own_empty 5 .u8 w
  have ba : Below w.heap.size w (w.alloc (.cells #[] 5)) := (Below.refl _ _).alloc (Nat.le_refl _) _
  have hmod : Int.tmod (s.size : Int) 2 = ((s.size % 2 : Nat) : Int) := by rw [Int.tmod_eq_emod_of_nonneg (by omega)]; omega
  by_cases hodd : s.size % 2 = 1
  · have hq : unhexS s = (⟨#[]⟩, false) := by rw [unhexS, if_pos (.inl hodd)]
    rw [hodd] at hmod
    rw [hq]
    go_enter Try.func7, Try.ntmps7
    go_wp2
    refine bodyPost_ret (results_tmp2 rfl _ _ _) rfl ?_
    exact ⟨rfl, ba⟩
  · have hev : s.size % 2 = 0 := by omega
    rw [hev] at hmod
    by_cases hb : 6000 < s.size
    · have hq : unhexS s = (⟨#[]⟩, false) := by rw [unhexS, if_pos (.inr hb)]
      rw [hq]
      go_enter Try.func7, Try.ntmps7
      go_wp2
      refine bodyPost_ret (results_tmp2 rfl _ _ _) rfl ?_
      exact ⟨rfl, ba⟩
    · have HQ := (show Hid (unhexS s = match unhexF (bs s) with
        | none => (⟨#[]⟩, false)
        | some l => (strOf l, true)) from (show _ = _ by rw [unhexS, if_neg (by omega)]))
      obtain ⟨⟨qs, qb⟩, hqq⟩ : ∃ z, z = unhexS s := ⟨_, rfl⟩
      rw [← hqq] at HQ ⊢
      clear hqq
      go_enter Try.func7, Try.ntmps7
      go_wp2
      go_loopw [4, 5] (fun u i wr => ∃ (k : Nat) (out : List Int), k ≤ s.size ∧ k % 2 = 0 ∧ i = .int .i64 k ∧ out.length ≤ k ∧ (∀ x ∈ out, 0 ≤ x ∧ x ≤ 255) ∧ Own w.heap.size 5 .u8 wr u out ∧ unhexF (bs s) = (unhexF ((bs s).drop k)).map (out ++ ·) ∧ Below w.heap.size w wr) (fun _ i _ => s.size - (intOf i).toNat)
      case atStart => exact ⟨0, [], Nat.zero_le _, rfl, rfl, Nat.le_refl _, (by intro x hx; cases hx), o1, by simp, ba⟩
      case round =>
        clear o1 ba
        obtain ⟨k, out, hks, hkm, rfl, hol, hob, own, hun, bel⟩ := hrel
        by_cases hlt : k < s.size
        · have hlt2 : k + 1 < s.size := by omega
          have hat1 := bs_at s k hlt
          have hat2 := bs_at s (k + 1) hlt2
          have hb1 := bs_bound s k
          have hb2 := bs_bound s (k + 1)
          have hon := unhex_on (xs := bs s) (i := k) (by omega)
          obtain ⟨y1, hy1⟩ : ∃ y, y = (bs s).getD k 0 := ⟨_, rfl⟩
          obtain ⟨y2, hy2⟩ : ∃ y, y = (bs s).getD (k + 1) 0 := ⟨_, rfl⟩
          rw [← hy1] at hat1 hb1
          rw [← hy2] at hat2 hb2
          rw [← hy1, ← hy2] at hon
          rw [hon] at hun
          have C1 := (show Hid (∀ W, Calls Try.prog 10 #[.int .u8 y1] W fun e w' => e = .returned (.int .i64 (valD y1)) ∧ w' = W) from fun W => l20Value_any y1 W hb1.1 hb1.2)
          have C2 := (show Hid (∀ W, Calls Try.prog 10 #[.int .u8 y2] W fun e w' => e = .returned (.int .i64 (valD y2)) ∧ w' = W) from fun W => l20Value_any y2 W hb2.1 hb2.2)
          have hv1 := valD_in y1
          have hv2 := valD_in y2
          obtain ⟨v1, hv1e⟩ : ∃ z, z = valD y1 := ⟨_, rfl⟩
          obtain ⟨v2, hv2e⟩ : ∃ z, z = valD y2 := ⟨_, rfl⟩
          rw [← hv1e] at C1 hv1 hun
          rw [← hv2e] at C2 hv2 hun
          have HUN := (show Hid _ from hun)
          have OW := (show Hid (Own w.heap.size 5 .u8 wr _ out) from own)
          have BL := (show Hid (Below w.heap.size w wr) from bel)
          have hw3 : IntKind.i64.wrap ((k : Int) + 1) = (k : Int) + 1 := by rw [IntKind.wrap_i64]; omega
          clear hy1 hy2 hon hun hv1e hv2e own bel
          go_wp2_with fail
          refine region_tail 9 (by kernel_rfl) (by kernel_rfl) ?_
          intro x1 K1 hX1 hK1
          have ne := One.any x1
          simp only [List.take_succ_cons, List.take_zero, List.drop_succ_cons, List.drop_zero] at hK1 ⊢
          repeat (go_big_quiet_step (first | (go_at_call 10; with_reducible exact quiet_one (C1.out _)) | (go_at_call 10; with_reducible exact quiet_one (C2.out _))))
          refine wpQuiet_nil ?_
          refine hK1.out _ ?_
          have OX := (show Hid (Own w.heap.size 5 .u8 x1 _ out) from by rw [hX1.out]; exact Own.below OW.out (below_drewN 1))
          have BX := (show Hid (Below w.heap.size w x1) from by rw [hX1.out]; exact BL.out.trans (below_drewN 1))
          clear hK1 ne C1 C2 hX1 OW BL
          have hsz := BX.out.size
          by_cases hn1 : v1 < 0
          · have e1 := HUN.out
            rw [if_pos (.inl hn1), Option.map_none] at e1
            rw [e1] at HQ
            have e2 := HQ.out
            cases e2
            clear HQ HUN e1
            go_wp2
            refine bodyPost_ret (results_tmp2 rfl _ _ _) rfl ?_
            exact ⟨rfl, BX.out⟩
          · by_cases hn2 : v2 < 0
            · have e1 := HUN.out
              rw [if_pos (.inr hn2), Option.map_none] at e1
              rw [e1] at HQ
              have e2 := HQ.out
              cases e2
              clear HQ HUN e1
              go_wp2
              refine bodyPost_ret (results_tmp2 rfl _ _ _) rfl ?_
              exact ⟨rfl, BX.out⟩
            · have HU2 := (show Hid (unhexF (bs s) = (unhexF ((bs s).drop (k + 2))).map ((out ++ [16 * v1 + v2]) ++ ·)) from (show _ = _ by
                have e1 := HUN.out
                rw [if_neg (by omega), Option.map_map] at e1
                rw [e1]
                congr 1
                funext l
                simp))
              clear HUN
              obtain ⟨z, hz⟩ : ∃ z, z = 16 * v1 + v2 := ⟨_, rfl⟩
              rw [← hz] at HU2
              have hzb : 0 ≤ z ∧ z ≤ 255 := by omega
              have hone := one_byte x1 z
              rw [hz] at hone
              go_wp2_with (at_builtin; refine wpList_app _ rfl (.tmp 39) (.tmp 45) 26 rfl w.heap.size 5 i0 (.int .u8 0) 1 Try.underlying26 hi hz0 hz1 hz2 rfl .u8 _ _ out [16 * v1 + v2] rfl rfl (OX.out.alloc _) hone (by simp; omega) (by unfold maxLen; simp; omega) (by simp; omega) ?_; intro v' w9 o9 g9)
              go_roundw
              case rel => exact ⟨k + 2, out ++ [z], by omega, by omega, by go_num, by simp; omega, (by
                intro x hx
                rcases List.mem_append.mp hx with hx | hx
                · exact hob x hx
                · rw [List.mem_singleton.mp hx]; exact hzb), by rw [hz]; exact o9, HU2.out, (BX.out.alloc hsz _).grown g9 (by simp; omega) OX.out.grownAt⟩
              case measure => simp [intOf]; omega
        · have hke : k = s.size := by omega
          subst hke
          have e0 : (bs s).drop s.size = [] := by rw [← hl]; exact List.drop_length
          have e1 : unhexF (bs s) = some out := by rw [hun, e0]; simp [unhexF]
          rw [e1] at HQ
          have e2 := HQ.out
          cases e2
          have hcv := conv_sl own.sl
          clear HQ e1 hun
          go_wp2
          refine bodyPost_ret (results_tmp2 rfl _ _ _) rfl ?_
          exact ⟨rfl, bel⟩
end Go.Proofs.Yteddljmekpnojaa

/- The exact laws of NumText, HexText and HexBytes from the program's contracts. -/
namespace Go.Proofs.Yteddljmekpnojaa
open Go.RowKit
set_option maxRecDepth 100000
set_option linter.unusedVariables false

def HexTextOk : Prop := ∀ (s : ByteArray) (w : World), s.size ≤ 1099511627776 → Calls Try.prog 6 #[.string s] w fun e w' => e = .returned (.string (hexS s)) ∧ Below w.heap.size w w'
def HexBytesOk : Prop := ∀ (s : ByteArray) (w : World), s.size ≤ 1099511627776 → Calls Try.prog 8 #[.string s] w fun e w' => e = .returned (.tuple #[.string (unhexS s).1, .bool (unhexS s).2]) ∧ Below w.heap.size w w'

set_option maxRecDepth 100000 in
theorem fnExactHexText_of (H : HexTextOk) {s : ByteArray} (w : World) (hs : s.size ≤ maxLen) :
    Calls Try.prog 3 #[.string s] w fun e w' => e = .returned (.bool true) ∧ Below w.heap.size w w' := by
  by_cases hle : s.size ≤ 1048576
  · have CS := (show Hid (∀ W, Calls Try.prog 5 #[.string s] W fun e w' => e = .returned (.string (hexS s)) ∧ Below W.heap.size W w') from fun W => shexText_any s W (by omega))
    have CI := (show Hid (∀ W, Calls Try.prog 6 #[.string s] W fun e w' => e = .returned (.string (hexS s)) ∧ Below W.heap.size W w') from fun W => H s W (by omega))
    obtain ⟨q, hq⟩ : ∃ q, q = hexS s := ⟨_, rfl⟩
    rw [← hq] at CS CI
    clear hq H
    go_enter Try.func3, Try.ntmps3
    go_wp2_with fail
    go_at_call 5
    refine Calls.mono (CS.out _) ?_
    rintro e w1 ⟨rfl, b1⟩
    have B1 := (show Hid _ from b1)
    go_wp2_with fail
    go_at_call 6
    refine Calls.mono (CI.out _) ?_
    rintro e w2 ⟨rfl, b2⟩
    have B2 := (show Hid (Below w.heap.size w w2) from B1.out.trans (b2.mono B1.out.size))
    clear b1 b2 B1
    go_wp2
    go_ret
    exact ⟨rfl, B2.out⟩
  · go_enter Try.func3, Try.ntmps3
    go_wp2
    go_ret
    exact ⟨rfl, Below.refl _ _⟩

set_option maxRecDepth 100000 in
theorem fnExactHexBytes_of (H : HexBytesOk) {s : ByteArray} (w : World) (hs : s.size ≤ maxLen) :
    Calls Try.prog 4 #[.string s] w fun e w' => e = .returned (.bool true) ∧ Below w.heap.size w w' := by
  by_cases hle : s.size ≤ 1048576
  · have CS := (show Hid (∀ W, Calls Try.prog 7 #[.string s] W fun e w' => e = .returned (.tuple #[.string (unhexS s).1, .bool (unhexS s).2]) ∧ Below W.heap.size W w') from fun W => shexBytes_any s W (by omega))
    have CI := (show Hid (∀ W, Calls Try.prog 8 #[.string s] W fun e w' => e = .returned (.tuple #[.string (unhexS s).1, .bool (unhexS s).2]) ∧ Below W.heap.size W w') from fun W => H s W (by omega))
    obtain ⟨⟨q, qb⟩, hq⟩ : ∃ q, q = unhexS s := ⟨_, rfl⟩
    rw [← hq] at CS CI
    simp only at CS CI
    have hqq : (qb != qb) = false := by cases qb <;> rfl
    clear hq H
    go_enter Try.func4, Try.ntmps4
    go_wp2_with fail
    go_at_call 7
    refine Calls.mono (CS.out _) ?_
    rintro e w1 ⟨rfl, b1⟩
    have B1 := (show Hid _ from b1)
    go_wp2_with fail
    go_at_call 8
    refine Calls.mono (CI.out _) ?_
    rintro e w2 ⟨rfl, b2⟩
    have B2 := (show Hid (Below w.heap.size w w2) from B1.out.trans (b2.mono B1.out.size))
    clear b1 b2 B1
    go_wp2
    go_ret
    exact ⟨rfl, B2.out⟩
  · go_enter Try.func4, Try.ntmps4
    go_wp2
    go_ret
    exact ⟨rfl, Below.refl _ _⟩
end Go.Proofs.Yteddljmekpnojaa
