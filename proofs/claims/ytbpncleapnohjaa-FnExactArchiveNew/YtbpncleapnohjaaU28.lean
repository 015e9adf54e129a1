/- The laws' toArchive. No condition. -/
import Derived.Test.YtbpncleapnohjaaU27
import Derived.Test.YtbpncleapnohjaaU16
import Derived.Test.YtbpncleapnohjaaU24
import Derived.Test.YtbpncleapnohjaaU19
import Derived.Test.YtbpncleapnohjaaU26
namespace Go.Proofs.Ytbpncleapnohjaa
open Go.RowKit
set_option maxRecDepth 100000
set_option linter.unusedVariables false

/-- A block of an archive is turned. -/
theorem OwnDk.setA {B b k : Nat} {w : World} {v u : Value} {d : PDisk} (h : OwnDk B w v d) {cs : Array Value} {fr : Nat × Nat} (hb : w.heap[b]? = some (.cells cs 30 fr)) : OwnDk B (w.setCell ⟨b, k, none⟩ u) v d := by
  obtain ⟨sa, sn, sc, la, ln, lc, e, h1, h2⟩ := h
  exact ⟨sa, sn, sc, la, ln, lc, e, rk_set h1 hb (by decide), rk_set h2 hb (by decide)⟩
theorem Hl.set7 {w W : World} {L : List (Nat × Array Value × TypeId)} {N : Nat} {x0 x1 x2 x3 x4 x5 x6 : Value} {t : TypeId} (h : Hl w ((N, #[x0, x1, x2, x3, x4, x5, x6], t) :: L) W) (hN : w.heap.size ≤ N) (hL : ∀ p ∈ L, p.1 ≠ N) (a0 a1 a2 a3 a4 a5 a6 : Value) : Hl w ((N, #[a0, a1, a2, a3, a4, a5, a6], t) :: L) (((((((W.setCell ⟨N, 0, none⟩ a0).setCell ⟨N, 1, none⟩ a1).setCell ⟨N, 2, none⟩ a2).setCell ⟨N, 3, none⟩ a3).setCell ⟨N, 4, none⟩ a4).setCell ⟨N, 5, none⟩ a5).setCell ⟨N, 6, none⟩ a6) := by
  have h1 : Hl w ((N, #[a0, x1, x2, x3, x4, x5, x6], t) :: L) (W.setCell ⟨N, 0, none⟩ a0) := h.set hN hL 0 a0
  have h2 : Hl w ((N, #[a0, a1, x2, x3, x4, x5, x6], t) :: L) ((W.setCell ⟨N, 0, none⟩ a0).setCell ⟨N, 1, none⟩ a1) := h1.set hN hL 1 a1
  have h3 : Hl w ((N, #[a0, a1, a2, x3, x4, x5, x6], t) :: L) (((W.setCell ⟨N, 0, none⟩ a0).setCell ⟨N, 1, none⟩ a1).setCell ⟨N, 2, none⟩ a2) := h2.set hN hL 2 a2
  have h4 : Hl w ((N, #[a0, a1, a2, a3, x4, x5, x6], t) :: L) ((((W.setCell ⟨N, 0, none⟩ a0).setCell ⟨N, 1, none⟩ a1).setCell ⟨N, 2, none⟩ a2).setCell ⟨N, 3, none⟩ a3) := h3.set hN hL 3 a3
  have h5 : Hl w ((N, #[a0, a1, a2, a3, a4, x5, x6], t) :: L) (((((W.setCell ⟨N, 0, none⟩ a0).setCell ⟨N, 1, none⟩ a1).setCell ⟨N, 2, none⟩ a2).setCell ⟨N, 3, none⟩ a3).setCell ⟨N, 4, none⟩ a4) := h4.set hN hL 4 a4
  have h6 : Hl w ((N, #[a0, a1, a2, a3, a4, a5, x6], t) :: L) ((((((W.setCell ⟨N, 0, none⟩ a0).setCell ⟨N, 1, none⟩ a1).setCell ⟨N, 2, none⟩ a2).setCell ⟨N, 3, none⟩ a3).setCell ⟨N, 4, none⟩ a4).setCell ⟨N, 5, none⟩ a5) := h5.set hN hL 5 a5
  exact h6.set hN hL 6 a6
/-- Rows are kept when an archive's block is turned as a whole. -/
theorem own_set7 {w W : World} {L : List (Nat × Array Value × TypeId)} {N : Nat} {x0 x1 x2 x3 x4 x5 x6 : Value} (h : Hl w ((N, #[x0, x1, x2, x3, x4, x5, x6], 30) :: L) W) (hN : w.heap.size ≤ N) (hL : ∀ p ∈ L, p.1 ≠ N) (a0 a1 a2 a3 a4 a5 a6 : Value) {B B' e size n : Nat} {v v' : Value} {d : PDisk} {xs : List Value} (o : OwnDk B W v d) (p : W.ownsRow B' e size v' n xs) (he : 30 ≠ e) :
    OwnDk B (((((((W.setCell ⟨N, 0, none⟩ a0).setCell ⟨N, 1, none⟩ a1).setCell ⟨N, 2, none⟩ a2).setCell ⟨N, 3, none⟩ a3).setCell ⟨N, 4, none⟩ a4).setCell ⟨N, 5, none⟩ a5).setCell ⟨N, 6, none⟩ a6) v d ∧
    (((((((W.setCell ⟨N, 0, none⟩ a0).setCell ⟨N, 1, none⟩ a1).setCell ⟨N, 2, none⟩ a2).setCell ⟨N, 3, none⟩ a3).setCell ⟨N, 4, none⟩ a4).setCell ⟨N, 5, none⟩ a5).setCell ⟨N, 6, none⟩ a6).ownsRow B' e size v' n xs := by
  have h1 := h.set hN hL 0 a0
  have h2 := h1.set hN hL 1 a1
  have h3 := h2.set hN hL 2 a2
  have h4 := h3.set hN hL 3 a3
  have h5 := h4.set hN hL 4 a4
  have h6 := h5.set hN hL 5 a5
  exact ⟨((((((o.setA h.at0).setA h1.at0).setA h2.at0).setA h3.at0).setA h4.at0).setA h5.at0).setA h6.at0, rk_set (rk_set (rk_set (rk_set (rk_set (rk_set (rk_set p h.at0 he) h1.at0 he) h2.at0 he) h3.at0 he) h4.at0 he) h5.at0 he) h6.at0 he⟩

end Go.Proofs.Ytbpncleapnohjaa

/- What a law on archives holds while it goes on: the calls. No condition. -/
namespace Go.Proofs.Ytbpncleapnohjaa
open Go.RowKit
set_option maxRecDepth 100000
set_option linter.unusedVariables false

theorem lawA_open : (0 : Nat) = 0 := rfl
section
variable {w : World} {L : List (Nat × Array Value × TypeId)} {R : List (Nat × Nat × Value × PArch)} {Y : List (Nat × Nat × Value × List Int)} {S : List (Nat × Nat × Value × List ByteArray)} {W : World}
theorem La.eqA {u v : Value} {a : PArch} (h : La w L R Y S W) (hu : ArAt W u a) (hv : ArAt W v a) (hf : ArFit a) : Calls Try.prog 6 #[u, v] W fun e W' => e = .returned (.bool true) ∧ La w L R Y S W' ∧ Below W.heap.size W W' := by
  refine (eqArchive_any hu hv hf).mono ?_
  rintro e W' ⟨rfl, b⟩
  exact ⟨rfl, h.below b, b⟩
theorem La.heldA {v : Value} {a : PArch} (h : La w L R Y S W) (hv : ArAt W v (markA a)) (hf : ArFit a) : Calls Try.prog 8 #[v, .int .i64 1] W fun e W' => e = .returned (.int .i64 (arEnd a)) ∧ La w L R Y S W' ∧ Below W.heap.size W W' := by
  refine (heldArchive_any hv hf).mono ?_
  rintro e W' ⟨rfl, b⟩
  exact ⟨rfl, h.below b, b⟩
theorem La.mkA {lo hi : Nat} {v : Value} {a : PArch} (h : La w L ((lo, hi, v, a) :: R) Y S W) (hf : ArFit a) (hlo : w.heap.size ≤ lo) (hR : ∀ r ∈ R, r.2.1 ≤ lo ∨ hi ≤ r.1) (hS : ∀ r ∈ S, r.2.1 ≤ lo ∨ hi ≤ r.1) (hL : ∀ p ∈ L, p.2.2 ≠ 9 ∧ p.2.2 ≠ 65 ∧ p.2.2 ≠ 60) :
    Calls Try.prog 7 #[v, .int .i64 1] W fun e W' => e = .returned (.int .i64 (arEnd a)) ∧ La w L ((lo, hi, v, markA a) :: R) Y S W' ∧ W.heap.size ≤ W'.heap.size := by
  refine (markArchive_any (h.rows _ (List.mem_cons_self ..)).1 hf).mono ?_
  rintro e W' ⟨rfl, o, f⟩
  exact ⟨rfl, h.fr hlo hR hS hL o f, f.size⟩
theorem lawA_end : (0 : Nat) = 0 := rfl
end
theorem arEnd_pos (a : PArch) : ¬ (arEnd a < 0) := by unfold arEnd; omega
end Go.Proofs.Ytbpncleapnohjaa

/- The program's small questions on heads and areas. No condition. -/
namespace Go.Proofs.Ytbpncleapnohjaa
open Go.RowKit
set_option maxRecDepth 100000
set_option linter.unusedVariables false

theorem iisArea_any (x : Int) (w : World) : Calls Try.prog 58 #[.int .i64 x] w fun e w' => e = .returned (.bool (inB x 0 1)) ∧ w' = w := by
  by_cases h1 : 0 ≤ x
  · by_cases h2 : x < 2
    · rw [inB_yes h1 (by omega)]
      go_enter Try.func58, Try.ntmps58
      go_wp2
      go_ret
      exact ⟨rfl, rfl⟩
    · have : inB x 0 1 = false := by simp [inB]; omega
      rw [this]
      go_enter Try.func58, Try.ntmps58
      go_wp2
      go_ret
      exact ⟨rfl, rfl⟩
  · have : inB x 0 1 = false := by simp [inB]; omega
    rw [this]
    go_enter Try.func58, Try.ntmps58
    go_wp2
    go_ret
    exact ⟨rfl, rfl⟩

set_option maxRecDepth 100000 in
theorem iisRight_any (h : PHead) (w : World) : Calls Try.prog 46 #[headV h] w fun e w' => e = .returned (.bool (headB h)) ∧ Below w.heap.size w w' := by
  obtain ⟨no, ar, en⟩ := h
  unfold headV
  simp only
  have b1 : Below w.heap.size w (w.alloc (.cells #[.int .i64 no, .int .i64 ar, .int .i64 en] 27)) := (Below.refl _ _).alloc (Nat.le_refl _) _
  have B1 := (show Hid _ from b1)
  clear b1
  obtain ⟨r, hr⟩ : ∃ r, r = headB ⟨no, ar, en⟩ := ⟨_, rfl⟩
  rw [← hr]
  have HR := (show Hid (r = (inB no 1 1000000000 && inB ar 0 1 && inB en 0 4096)) from hr)
  have CA := (show Hid _ from iisArea_any ar)
  clear hr
  by_cases h1 : 1 ≤ no
  · by_cases h2 : no ≤ 1000000000
    · cases hq : inB ar 0 1
      · rw [hq] at CA
        have HF : Hid (r = false) := (show r = false by rw [HR.out, hq]; simp)
        clear HR hq
        go_enter Try.func46, Try.ntmps46
        go_wp2_with fail
        go_at_call 58
        refine (CA.out _).mono ?_
        rintro e w2 ⟨rfl, e2⟩
        subst e2
        go_wp2
        go_ret
        exact ⟨ret_bool HF.out.symm, B1.out⟩
      · rw [hq] at CA
        by_cases h3 : 0 ≤ en
        · by_cases h4 : en ≤ 4096
          · have HF : Hid (r = true) := (show r = true by rw [HR.out, hq, inB_yes h1 h2, inB_yes h3 h4]; rfl)
            clear HR hq
            go_enter Try.func46, Try.ntmps46
            go_wp2_with fail
            go_at_call 58
            refine (CA.out _).mono ?_
            rintro e w2 ⟨rfl, e2⟩
            subst e2
            go_wp2
            go_ret
            exact ⟨ret_bool HF.out.symm, B1.out⟩
          · have HF : Hid (r = false) := (show r = false by rw [HR.out, inB_no (x := en) (lo := 0) (hi := 4096) (by omega)]; simp)
            clear HR hq
            go_enter Try.func46, Try.ntmps46
            go_wp2_with fail
            go_at_call 58
            refine (CA.out _).mono ?_
            rintro e w2 ⟨rfl, e2⟩
            subst e2
            go_wp2
            go_ret
            exact ⟨ret_bool ((decide_eq_false (by omega)).trans HF.out.symm), B1.out⟩
        · have HF : Hid (r = false) := (show r = false by rw [HR.out, inB_no (x := en) (lo := 0) (hi := 4096) (by omega)]; simp)
          clear HR hq
          go_enter Try.func46, Try.ntmps46
          go_wp2_with fail
          go_at_call 58
          refine (CA.out _).mono ?_
          rintro e w2 ⟨rfl, e2⟩
          subst e2
          go_wp2
          go_ret
          exact ⟨ret_bool HF.out.symm, B1.out⟩
    · have HF : Hid (r = false) := (show r = false by rw [HR.out, inB_no (x := no) (lo := 1) (hi := 1000000000) (by omega)]; simp)
      clear HR CA
      go_enter Try.func46, Try.ntmps46
      go_wp2
      go_ret
      exact ⟨ret_bool HF.out.symm, B1.out⟩
  · have HF : Hid (r = false) := (show r = false by rw [HR.out, inB_no (x := no) (lo := 1) (hi := 1000000000) (by omega)]; simp)
    clear HR CA
    go_enter Try.func46, Try.ntmps46
    go_wp2
    go_ret
    exact ⟨ret_bool HF.out.symm, B1.out⟩

/-- What spanOk answers. -/
def spanB (a at' n : Int) : Bool := inB a 0 1 && inB at' 0 4096 && inB n 0 (4096 - at')
end Go.Proofs.Ytbpncleapnohjaa

/- slices.Grow and slices.Concat of three. No condition. -/
namespace Go.Proofs.Ytbpncleapnohjaa
open Go.RowKit
set_option maxRecDepth 100000
set_option linter.unusedVariables false

set_option maxRecDepth 100000 in
theorem igrow_any (n : Nat) (w : World) (h0 : 0 < n) (h1 : n ≤ 1000) :
    Calls Try.prog 59 #[.slice none 0 0, .int .i64 (n : Int)] w fun e w' => ∃ v', e = .returned v' ∧ Own w.heap.size 5 .u8 w' v' [] ∧ Below w.heap.size w w' := by
  obtain ⟨i0, hi, hz0, hz1, hz2⟩ := info_parts Try.infoB
  have hb5 : Try.t5.bytes = 1 := rfl
  have hp : ¬ ((n : Int) < 0) := by omega
  have hq : (0 : Int) < (n : Int) := by omega
  go_enter Try.func59, Try.ntmps59
  go_wp2_with fail
  · exfalso; have hn := nextslicecap_zero h0; rename_i h _ _ _; simp only [hb5, hn] at *; omega
  · go_ret
    have hge := grownCap_ge w n 0 5
    have hm := grownCap_le_maxLen w n 0 5 (by unfold maxLen; omega)
    have o1 := World.ownsRow_made (e := 5) (size := 1) w (Builtin.zeroCells #[Value.int IntKind.u8 0] n ++ Builtin.zeroCells #[Value.int IntKind.u8 0] (grownCap w n 0 5 - n)) (grownCap w n 0 5) (Nat.le_refl _) hm (by rw [Array.size_append, size_zeroCells, size_zeroCells]; simp; omega)
    exact ⟨_, rfl, Own.below (show Own w.heap.size 5 .u8 _ _ [] from o1) (below_drewN 1), ((Below.refl _ _).alloc (Nat.le_refl _) _).trans (below_drewN 1)⟩

def catP (ps : List (Value × List Int)) : List Int := ps.flatMap (·.2)
theorem catP_take {ps : List (Value × List Int)} {k : Nat} (hk : k < ps.length) : catP (ps.take (k + 1)) = catP (ps.take k) ++ ps[k].2 := by
  unfold catP; rw [List.take_succ_eq_append_getElem hk, List.flatMap_append]; simp
theorem catP_len {ps : List (Value × List Int)} (h : ∀ p ∈ ps, p.2.length ≤ 300) : (catP ps).length ≤ ps.length * 300 := by
  induction ps with
  | nil => simp [catP]
  | cons p ps ih =>
    have e : catP (p :: ps) = p.2 ++ catP ps := rfl
    have h1 := h p (by simp)
    have h2 := ih (fun q hq => h q (by simp [hq]))
    rw [e, List.length_append, List.length_cons]; omega

set_option maxRecDepth 100000 in
theorem iconcat_any {w : World} {b : Nat} {ps : List (Value × List Int)} (hb : b < w.heap.size) (hc : ∀ k (hk : k < ps.length), w.cell? ⟨b, k, none⟩ = some ps[k].1 ∧ Sl .u8 w ps[k].1 ps[k].2) (hl : ps.length ≤ 3) (hs : ∀ p ∈ ps, p.2.length ≤ 300) (hpos : 0 < (catP ps).length) :
    Calls Try.prog 47 #[.slice (some ⟨b, 0, none⟩) ps.length ps.length] w fun e w' => ∃ v', e = .returned v' ∧ Own w.heap.size 5 .u8 w' v' (catP ps) ∧ Below w.heap.size w w' := by
  have HC := (show Hid (∀ k (hk : k < ps.length), w.cell? ⟨b, k, none⟩ = some ps[k].1 ∧ Sl .u8 w ps[k].1 ps[k].2) from hc)
  have HS := (show Hid _ from hs)
  clear hc hs
  go_enter Try.func47, Try.ntmps47
  go_wp2
  go_loopw [3, 11] (fun z i wr => ∃ k : Nat, k ≤ ps.length ∧ i = .int .i64 (k : Int) ∧ z = .int .i64 ((catP (ps.take k)).length : Int) ∧ Hid (w = wr)) (fun _ i _ => ps.length - (intOf i).toNat)
  case atStart => exact ⟨0, Nat.zero_le _, rfl, rfl, rfl⟩
  case round =>
    obtain ⟨k, hk, rfl, rfl, hw⟩ := hrel
    have ew := hw.out
    subst ew
    by_cases hlt : k < ps.length
    · obtain ⟨c1, s1⟩ := HC.out k hlt
      have hl1 := HS.out _ (List.getElem_mem hlt)
      have hl2 := catP_len (ps := ps.take k) (fun p hp => HS.out p (List.mem_of_mem_take hp))
      have e3 : (catP (ps.take (k + 1))).length = (catP (ps.take k)).length + ps[k].2.length := by rw [catP_take hlt, List.length_append]
      have E3 := (show Hid _ from e3)
      rw [List.length_take] at hl2
      obtain ⟨a, ca, e1, _, _, _, _⟩ := s1
      rw [e1] at c1
      have hlt' : (k : Int) < (ps.length : Int) := by omega
      obtain ⟨m, hm⟩ : ∃ m, m = ps[k].2.length := ⟨_, rfl⟩
      obtain ⟨t, ht⟩ : ∃ t, t = (catP (ps.take k)).length := ⟨_, rfl⟩
      rw [← hm] at c1 hl1 E3
      rw [← ht] at hl2 E3
      rw [← ht]
      have ht2 : t ≤ 900 := by omega
      clear e1 e3 hm ht hl2
      go_wp2
      go_roundw
      case rel => exact ⟨k + 1, hlt, by go_num, by rw [E3.out]; go_num, trivial⟩
      case measure => simp [intOf]; omega
    · have hke : k = ps.length := by omega
      subst hke
      rw [List.take_length]
      have hc2 := catP_len (ps := ps) (fun p hp => HS.out p hp)
      go_wp2_with fail
      go_at_call 59
      refine (igrow_any _ _ hpos (by omega)).mono ?_
      rintro e w2 ⟨v2, rfl, o2, b2⟩
      have hb2 := b2.size
      obtain ⟨i0, hi, hz0, hz1, hz2⟩ := info_parts Try.infoB
      have O2 := (show Hid (Own w.heap.size 5 .u8 w2 v2 [] ∧ Below w.heap.size w w2) from ⟨o2, b2⟩)
      clear o2 b2 hw hlt hk
      go_wp2
      go_loopw [6, 27] (fun z i wq => ∃ k : Nat, k ≤ ps.length ∧ i = .int .i64 (k : Int) ∧ Own w.heap.size 5 .u8 wq z (catP (ps.take k)) ∧ Below w.heap.size w wq) (fun _ i _ => ps.length - (intOf i).toNat)
      case atStart => exact ⟨0, Nat.zero_le _, rfl, O2.out.1, O2.out.2⟩
      case round =>
        obtain ⟨k, hk, rfl, o3, b3⟩ := hrel
        by_cases hlt : k < ps.length
        · obtain ⟨c1, s1⟩ := HC.out k hlt
          have hl1 := HS.out _ (List.getElem_mem hlt)
          have hl2 := catP_len (ps := ps.take k) (fun p hp => HS.out p (List.mem_of_mem_take hp))
          rw [List.length_take] at hl2
          have hlt' : (k : Int) < (ps.length : Int) := by omega
          have c2 := (b3.cell (p := ⟨b, k, none⟩) hb).trans c1
          have S2 := (show Hid _ from s1.below b3)
          have CT := (show Hid _ from catP_take hlt)
          have O3 := (show Hid (Own _ 5 .u8 _ _ _) from o3)
          have B3 := (show Hid (Below _ _ _) from b3)
          have hb3 := b3.size
          obtain ⟨p, hp⟩ : ∃ p, p = ps[k] := ⟨_, rfl⟩
          rw [← hp] at c2 S2 hl1 CT
          obtain ⟨pv, pl⟩ := p
          simp only at c2 S2 hl1 CT
          obtain ⟨tl, ht⟩ : ∃ t, t = catP (ps.take k) := ⟨_, rfl⟩
          rw [← ht] at O3 CT hl2
          have ht2 : tl.length ≤ 900 := by omega
          clear o3 b3 c1 s1 hp ht hl2
          go_wp2_with (at_builtin
                       refine wpList_app _ rfl _ _ 67 rfl w.heap.size 5 i0 (.int .u8 0) 1 Try.underlying67 hi hz0 hz1 hz2 rfl .u8 _ _ tl pl rfl rfl O3.out S2.out (by omega) (by unfold maxLen; omega) hb3 ?_
                       intro v' w4 o4 g4)
          go_roundw
          case rel => exact ⟨k + 1, hlt, by go_num, by rw [CT.out]; exact o4, B3.out.grown g4 hb3 O3.out.grownAt⟩
          case measure => simp [intOf]; omega
        · have hke : k = ps.length := by omega
          subst hke
          rw [List.take_length] at o3
          have O3 := (show Hid (Own _ 5 .u8 _ _ _) from o3)
          have B3 := (show Hid (Below _ _ _) from b3)
          clear o3 b3
          go_wp2
          go_ret
          exact ⟨_, rfl, O3.out, B3.out⟩
end Go.Proofs.Ytbpncleapnohjaa

/- The program's HeadPack. No condition. -/
namespace Go.Proofs.Ytbpncleapnohjaa
open Go.RowKit
set_option maxRecDepth 100000
set_option linter.unusedVariables false

/-- A copy, as one step of a region that draws its order. -/
theorem step_copyI {ops : Array Oper} {o : Oper} {a : Act} {W : World} {K : Act → World → Prop} {Q : Exit → Act → World → Prop} {E : Prop}
    (hg : o.guard = none) (d x : Operand) (dT sT : TypeId) (hop : o.op = Op.call { callee := Callee.builtin Builtin.copy, args := #[d, x], argTypes := #[dT, sT] })
    (vd vx r : Value) (W' : World) (hd : a.eval d = vd) (hx : a.eval x = vx) (hr : ∀ ty, (Builtin.copy_ #[dT, sT] ty #[vd, vx]).run Try.prog W = .ok r W') (hK : K (a.put o.dst r) W') :
    if Region.wanted o (yielded ops a.tmps) = true then Oper.wp Try.prog o a W K Q else E := by
  have hw : Region.wanted o (yielded ops a.tmps) = true := by simp [Region.wanted, hg]
  rw [if_pos hw]
  unfold Oper.wp
  simp [execOp, hop, resolve, invoke, builtin, hd, hx, hr, Result.andThen]
  exact hK
theorem zeroCells64 : (#[.int .u8 0, .int .u8 0, .int .u8 0, .int .u8 0, .int .u8 0, .int .u8 0, .int .u8 0, .int .u8 0, .int .u8 0, .int .u8 0, .int .u8 0, .int .u8 0, .int .u8 0, .int .u8 0, .int .u8 0, .int .u8 0, .int .u8 0, .int .u8 0, .int .u8 0, .int .u8 0, .int .u8 0, .int .u8 0, .int .u8 0, .int .u8 0, .int .u8 0, .int .u8 0, .int .u8 0, .int .u8 0, .int .u8 0, .int .u8 0, .int .u8 0, .int .u8 0, .int .u8 0, .int .u8 0, .int .u8 0, .int .u8 0, .int .u8 0, .int .u8 0, .int .u8 0, .int .u8 0, .int .u8 0, .int .u8 0, .int .u8 0, .int .u8 0, .int .u8 0, .int .u8 0, .int .u8 0, .int .u8 0, .int .u8 0, .int .u8 0, .int .u8 0, .int .u8 0, .int .u8 0, .int .u8 0, .int .u8 0, .int .u8 0, .int .u8 0, .int .u8 0, .int .u8 0, .int .u8 0, .int .u8 0, .int .u8 0, .int .u8 0, .int .u8 0] : Array Value).toList = List.replicate 64 (Value.int .u8 0) := rfl
theorem pack_row {h : PHead} (hb : headB h = true) : ((#[.int .u8 0, .int .u8 0, .int .u8 0, .int .u8 0, .int .u8 0, .int .u8 0, .int .u8 0, .int .u8 0, .int .u8 0, .int .u8 0, .int .u8 0, .int .u8 0, .int .u8 0, .int .u8 0, .int .u8 0, .int .u8 0, .int .u8 0, .int .u8 0, .int .u8 0, .int .u8 0, .int .u8 0, .int .u8 0, .int .u8 0, .int .u8 0, .int .u8 0, .int .u8 0, .int .u8 0, .int .u8 0, .int .u8 0, .int .u8 0, .int .u8 0, .int .u8 0, .int .u8 0, .int .u8 0, .int .u8 0, .int .u8 0, .int .u8 0, .int .u8 0, .int .u8 0, .int .u8 0, .int .u8 0, .int .u8 0, .int .u8 0, .int .u8 0, .int .u8 0, .int .u8 0, .int .u8 0, .int .u8 0, .int .u8 0, .int .u8 0, .int .u8 0, .int .u8 0, .int .u8 0, .int .u8 0, .int .u8 0, .int .u8 0, .int .u8 0, .int .u8 0, .int .u8 0, .int .u8 0, .int .u8 0, .int .u8 0, .int .u8 0, .int .u8 0] : Array Value).toList.take 0 ++ (formsL h).map (Value.int .u8) ++ (#[.int .u8 0, .int .u8 0, .int .u8 0, .int .u8 0, .int .u8 0, .int .u8 0, .int .u8 0, .int .u8 0, .int .u8 0, .int .u8 0, .int .u8 0, .int .u8 0, .int .u8 0, .int .u8 0, .int .u8 0, .int .u8 0, .int .u8 0, .int .u8 0, .int .u8 0, .int .u8 0, .int .u8 0, .int .u8 0, .int .u8 0, .int .u8 0, .int .u8 0, .int .u8 0, .int .u8 0, .int .u8 0, .int .u8 0, .int .u8 0, .int .u8 0, .int .u8 0, .int .u8 0, .int .u8 0, .int .u8 0, .int .u8 0, .int .u8 0, .int .u8 0, .int .u8 0, .int .u8 0, .int .u8 0, .int .u8 0, .int .u8 0, .int .u8 0, .int .u8 0, .int .u8 0, .int .u8 0, .int .u8 0, .int .u8 0, .int .u8 0, .int .u8 0, .int .u8 0, .int .u8 0, .int .u8 0, .int .u8 0, .int .u8 0, .int .u8 0, .int .u8 0, .int .u8 0, .int .u8 0, .int .u8 0, .int .u8 0, .int .u8 0, .int .u8 0] : Array Value).toList.drop (0 + (formsL h).length)).toArray = secA (packS h) := by
  rw [zeroCells64, secA, secL, packS_bs hb, packL, List.take_zero, List.nil_append, Nat.zero_add, List.drop_replicate, List.map_append, List.map_replicate]

theorem form_pos {x : Int} (h : 0 ≤ x) : 0 < (form x).length := by
  rw [form, if_neg (by omega)]
  by_cases h' : x < 128
  · rw [nf_lt h']; simp
  · rw [nf_ge (by omega)]; simp
theorem iconcat3 {W : World} {v1 v2 v3 : Value} {x y z : List Int} (s1 : Sl .u8 W v1 x) (s2 : Sl .u8 W v2 y) (s3 : Sl .u8 W v3 z) (h1 : x.length ≤ 9) (h2 : y.length ≤ 9) (h3 : z.length ≤ 9) (h0 : 0 < x.length) :
    Calls Try.prog 47 #[.slice (some ⟨W.heap.size, 0, none⟩) 3 3] (W.alloc (.cells #[v1, v2, v3] 67)) fun e w' => ∃ v', e = .returned v' ∧ Own W.heap.size 5 .u8 w' v' (x ++ y ++ z) ∧ Below W.heap.size W w' := by
  have b1 : Below W.heap.size W (W.alloc (.cells #[v1, v2, v3] 67)) := (Below.refl _ _).alloc (Nat.le_refl _) _
  obtain ⟨c1, c2, c3, _⟩ := rk_three (World.alloc_heap_new W (.cells #[v1, v2, v3] 67))
  have hc := iconcat_any (w := W.alloc (.cells #[v1, v2, v3] 67)) (b := W.heap.size) (ps := [(v1, x), (v2, y), (v3, z)]) (by simp) (fun k hk => by
    match k, hk with
    | 0, _ => exact ⟨c1, s1.below b1⟩
    | 1, _ => exact ⟨c2, s2.below b1⟩
    | 2, _ => exact ⟨c3, s3.below b1⟩) (by simp) (fun p hp => by
      simp only [List.mem_cons, List.not_mem_nil, or_false] at hp
      rcases hp with rfl | rfl | rfl
      · exact Nat.le_trans h1 (by decide)
      · exact Nat.le_trans h2 (by decide)
      · exact Nat.le_trans h3 (by decide)) (by show 0 < (x ++ (y ++ (z ++ []))).length; rw [List.length_append]; omega)
  have e1 : catP [(v1, x), (v2, y), (v3, z)] = x ++ y ++ z := by simp [catP]
  rw [e1] at hc
  refine Calls.mono hc ?_
  rintro e w' ⟨v', rfl, o, b⟩
  exact ⟨v', rfl, o.base b1.size, b1.trans (b.mono b1.size)⟩
theorem copy_pack {h : PHead} (hb : headB h = true) {W : World} {g : Nat} (hg : W.heap[g]? = some (.cells #[.int .u8 0, .int .u8 0, .int .u8 0, .int .u8 0, .int .u8 0, .int .u8 0, .int .u8 0, .int .u8 0, .int .u8 0, .int .u8 0, .int .u8 0, .int .u8 0, .int .u8 0, .int .u8 0, .int .u8 0, .int .u8 0, .int .u8 0, .int .u8 0, .int .u8 0, .int .u8 0, .int .u8 0, .int .u8 0, .int .u8 0, .int .u8 0, .int .u8 0, .int .u8 0, .int .u8 0, .int .u8 0, .int .u8 0, .int .u8 0, .int .u8 0, .int .u8 0, .int .u8 0, .int .u8 0, .int .u8 0, .int .u8 0, .int .u8 0, .int .u8 0, .int .u8 0, .int .u8 0, .int .u8 0, .int .u8 0, .int .u8 0, .int .u8 0, .int .u8 0, .int .u8 0, .int .u8 0, .int .u8 0, .int .u8 0, .int .u8 0, .int .u8 0, .int .u8 0, .int .u8 0, .int .u8 0, .int .u8 0, .int .u8 0, .int .u8 0, .int .u8 0, .int .u8 0, .int .u8 0, .int .u8 0, .int .u8 0, .int .u8 0, .int .u8 0] 53 (0, 0))) {a : Option Addr} {n c : Nat} (hs : Sl .u8 W (.slice a n c) (formsL h)) (ty : TypeId) :
    (Builtin.copy_ #[67, 67] ty #[.slice (some ⟨g, 0, none⟩) 64 64, .slice a n c]).run Try.prog W = .ok (goInt (formsL h).length) (W.setRow g (secA (packS h))) := by
  obtain ⟨a', c', e, h1, h2, h3, h4⟩ := hs
  cases e
  have hl := formsL_len h
  have hp : 0 < (formsL h).length := by
    have := form_pos (x := h.no) (by have := headB_in hb; omega)
    simp only [formsL, List.length_append]; omega
  obtain ⟨b, off, rfl, _⟩ := h4 0 hp
  have hr := run_copy_row (P := Try.prog) W 67 67 ty 5 g 0 64 64 ⟨b, off, none⟩ (formsL h).length c #[.int .u8 0, .int .u8 0, .int .u8 0, .int .u8 0, .int .u8 0, .int .u8 0, .int .u8 0, .int .u8 0, .int .u8 0, .int .u8 0, .int .u8 0, .int .u8 0, .int .u8 0, .int .u8 0, .int .u8 0, .int .u8 0, .int .u8 0, .int .u8 0, .int .u8 0, .int .u8 0, .int .u8 0, .int .u8 0, .int .u8 0, .int .u8 0, .int .u8 0, .int .u8 0, .int .u8 0, .int .u8 0, .int .u8 0, .int .u8 0, .int .u8 0, .int .u8 0, .int .u8 0, .int .u8 0, .int .u8 0, .int .u8 0, .int .u8 0, .int .u8 0, .int .u8 0, .int .u8 0, .int .u8 0, .int .u8 0, .int .u8 0, .int .u8 0, .int .u8 0, .int .u8 0, .int .u8 0, .int .u8 0, .int .u8 0, .int .u8 0, .int .u8 0, .int .u8 0, .int .u8 0, .int .u8 0, .int .u8 0, .int .u8 0, .int .u8 0, .int .u8 0, .int .u8 0, .int .u8 0, .int .u8 0, .int .u8 0, .int .u8 0, .int .u8 0] 53 ((formsL h).map (Value.int .u8)) Try.underlying67 (by kernel_rfl) hg (by rw [List.length_map]; exact (Nat.min_eq_left (by omega)).symm) (Sl.news h4) (by rw [List.length_map]; show 0 + (formsL h).length ≤ 64; omega) (ints_oneCell _ _)
  rw [List.length_map] at hr
  rw [hr, pack_row hb]
theorem setRow_cell {w : World} {g b k : Nat} {cs : Array Value} (h : b ≠ g) : (w.setRow g cs).cell? ⟨b, k, none⟩ = w.cell? ⟨b, k, none⟩ := by
  simp only [World.cell?, setRow_other w g b cs h]

set_option maxHeartbeats 1000000 in
set_option maxRecDepth 100000 in
theorem iheadPack_all (h : PHead) (w : World) :
    Calls Try.prog 28 #[headV h] w fun e w' => e = .returned (.tuple #[.string (packDk h).1, .bool (packDk h).2]) ∧ Below w.heap.size w w' := by
  have CR := (show Hid _ from iisRight_any h)
  have HB := (show Hid (headB h = true → packDk h = (packS h, true)) from fun e => by rw [packDk, if_pos e])
  have HN := (show Hid (headB h = false → packDk h = (⟨#[]⟩, false)) from fun e => by rw [packDk, if_neg (by rw [e]; decide)])
  obtain ⟨no, ar, en⟩ := h
  unfold headV at CR ⊢
  simp only at CR ⊢
  obtain ⟨w1, hw1⟩ : ∃ y, y = w.alloc (.cells #[.int .i64 no, .int .i64 ar, .int .i64 en] 27) := ⟨_, rfl⟩
  have h1 := (show Hid _ from (Hl.refl w).new #[.int .i64 no, .int .i64 ar, .int .i64 en] 27)
  rw [← hw1] at h1
  go_enter Try.func28, Try.ntmps28
  go_wp2_with fail
  go_at_call 46
  rw [← hw1]
  refine Calls.mono (CR.out w1) ?_
  rintro e w2 ⟨rfl, b2⟩
  have h2 := (show Hid _ from h1.out.below b2)
  clear hw1 h1 b2 CR
  cases hb : headB ⟨no, ar, en⟩
  · have HR := (show Hid _ from HN.out hb)
    clear hb HB HN
    go_wp2
    go_ret2
    exact ⟨by rw [HR.out]; rfl, h2.out.1⟩
  · have HR := (show Hid _ from HB.out hb)
    have HQ := (show Hid _ from hb)
    clear hb HB HN
    obtain ⟨c1, c2, c3, _⟩ := rk_three h2.out.at0
    obtain ⟨w3, hw3⟩ : ∃ y, y = w2.alloc (.cells #[.int .u8 0, .int .u8 0, .int .u8 0, .int .u8 0, .int .u8 0, .int .u8 0, .int .u8 0, .int .u8 0, .int .u8 0, .int .u8 0, .int .u8 0, .int .u8 0, .int .u8 0, .int .u8 0, .int .u8 0, .int .u8 0, .int .u8 0, .int .u8 0, .int .u8 0, .int .u8 0, .int .u8 0, .int .u8 0, .int .u8 0, .int .u8 0, .int .u8 0, .int .u8 0, .int .u8 0, .int .u8 0, .int .u8 0, .int .u8 0, .int .u8 0, .int .u8 0, .int .u8 0, .int .u8 0, .int .u8 0, .int .u8 0, .int .u8 0, .int .u8 0, .int .u8 0, .int .u8 0, .int .u8 0, .int .u8 0, .int .u8 0, .int .u8 0, .int .u8 0, .int .u8 0, .int .u8 0, .int .u8 0, .int .u8 0, .int .u8 0, .int .u8 0, .int .u8 0, .int .u8 0, .int .u8 0, .int .u8 0, .int .u8 0, .int .u8 0, .int .u8 0, .int .u8 0, .int .u8 0, .int .u8 0, .int .u8 0, .int .u8 0, .int .u8 0] 53) := ⟨_, rfl⟩
    have h3 := (show Hid _ from h2.out.new #[.int .u8 0, .int .u8 0, .int .u8 0, .int .u8 0, .int .u8 0, .int .u8 0, .int .u8 0, .int .u8 0, .int .u8 0, .int .u8 0, .int .u8 0, .int .u8 0, .int .u8 0, .int .u8 0, .int .u8 0, .int .u8 0, .int .u8 0, .int .u8 0, .int .u8 0, .int .u8 0, .int .u8 0, .int .u8 0, .int .u8 0, .int .u8 0, .int .u8 0, .int .u8 0, .int .u8 0, .int .u8 0, .int .u8 0, .int .u8 0, .int .u8 0, .int .u8 0, .int .u8 0, .int .u8 0, .int .u8 0, .int .u8 0, .int .u8 0, .int .u8 0, .int .u8 0, .int .u8 0, .int .u8 0, .int .u8 0, .int .u8 0, .int .u8 0, .int .u8 0, .int .u8 0, .int .u8 0, .int .u8 0, .int .u8 0, .int .u8 0, .int .u8 0, .int .u8 0, .int .u8 0, .int .u8 0, .int .u8 0, .int .u8 0, .int .u8 0, .int .u8 0, .int .u8 0, .int .u8 0, .int .u8 0, .int .u8 0, .int .u8 0, .int .u8 0] 53)
    rw [← hw3] at h3
    have hi := headB_in HQ.out
    simp only at hi
    obtain ⟨i1, i2, i3, i4, i5, i6⟩ := hi
    have L1 := (show Hid _ from form_len no)
    have L2 := (show Hid _ from form_len ar)
    have L3 := (show Hid _ from form_len en)
    have P1 := (show Hid _ from form_pos (x := no) (by omega))
    have C1 := (show Hid (∀ W, Calls Try.prog 48 #[.int .i64 no] W fun e w' => ∃ v, e = .returned v ∧ Own W.heap.size 5 .u8 w' v (form no) ∧ Below W.heap.size W w') from fun W => inum_any no W (by omega))
    have C2 := (show Hid (∀ W, Calls Try.prog 48 #[.int .i64 ar] W fun e w' => ∃ v, e = .returned v ∧ Own W.heap.size 5 .u8 w' v (form ar) ∧ Below W.heap.size W w') from fun W => inum_any ar W (by omega))
    have C3 := (show Hid (∀ W, Calls Try.prog 48 #[.int .i64 en] W fun e w' => ∃ v, e = .returned v ∧ Own W.heap.size 5 .u8 w' v (form en) ∧ Below W.heap.size W w') from fun W => inum_any en W (by omega))
    have HS := (show Hid (∀ W, Below w3.heap.size w3 W → W.cell? ⟨w.heap.size, 0, none⟩ = some (.int .i64 no) ∧ W.cell? ⟨w.heap.size, 1, none⟩ = some (.int .i64 ar) ∧ W.cell? ⟨w.heap.size, 2, none⟩ = some (.int .i64 en)) from fun W b => by
      obtain ⟨p0, p1, p2, _⟩ := rk_three (h3.out.below b).at1
      exact ⟨p0, p1, p2⟩)
    have KD := (show Hid (Below w3.heap.size w3 w3.drew) from below_drewN 1)
    go_upto_region 4 with fail
    rw [← hw3]
    clear hw3
    obtain ⟨d1, d2, d3⟩ := HS.out _ (Below.refl _ _)
    go_region_held3 (fun w' => w'.cell? ⟨w.heap.size, 0, none⟩ = some (.int .i64 no) ∧ w'.cell? ⟨w.heap.size, 1, none⟩ = some (.int .i64 ar) ∧ w'.cell? ⟨w.heap.size, 2, none⟩ = some (.int .i64 en))
      (first | exact HS.out _ KD.out | exact HS.out _ B4.out | exact HS.out _ B5.out | exact HS.out _ B6.out | exact HS.out _ (B6.out.alloc B6.out.size _) | exact HS.out _ B8.out | exact HS9.out)
      (first
        | (go_at_call 48
           with_reducible refine Calls.mono (C1.out _) ?_
           rintro e w4 ⟨v4, rfl, o4, b4⟩
           obtain ⟨a4, c4, e4, _⟩ := o4.sl
           subst e4
           have B4 := (show Hid (Below w3.heap.size w3 w4) from KD.out.trans (b4.mono KD.out.size))
           have O4 := (show Hid (Own w3.heap.size 5 .u8 w4 (.slice a4 (form no).length c4) (form no)) from o4.base KD.out.size)
           clear b4 o4)
        | (go_at_call 48
           with_reducible refine Calls.mono (C2.out _) ?_
           rintro e w5 ⟨v5, rfl, o5, b5⟩
           obtain ⟨a5, c5, e5, _⟩ := o5.sl
           subst e5
           have B5 := (show Hid (Below w3.heap.size w3 w5) from B4.out.trans (b5.mono B4.out.size))
           have O5 := (show Hid (Own w4.heap.size 5 .u8 w5 (.slice a5 (form ar).length c5) (form ar) ∧ Own w3.heap.size 5 .u8 w5 (.slice a4 (form no).length c4) (form no)) from ⟨o5, O4.out.below b5⟩)
           clear b5 o5)
        | (go_at_call 48
           with_reducible refine Calls.mono (C3.out _) ?_
           rintro e w6 ⟨v6, rfl, o6, b6⟩
           obtain ⟨a6, c6, e6, _⟩ := o6.sl
           subst e6
           have B6 := (show Hid (Below w3.heap.size w3 w6) from B5.out.trans (b6.mono B5.out.size))
           have O6 := (show Hid (Own w5.heap.size 5 .u8 w6 (.slice a6 (form en).length c6) (form en) ∧ Own w4.heap.size 5 .u8 w6 (.slice a5 (form ar).length c5) (form ar) ∧ Own w3.heap.size 5 .u8 w6 (.slice a4 (form no).length c4) (form no)) from ⟨o6, O5.out.1.below b6, O5.out.2.below b6⟩)
           clear b6 o6)
        | (go_at_call 47
           with_reducible refine Calls.mono (iconcat3 O6.out.2.2.sl O6.out.2.1.sl O6.out.1.sl L1.out L2.out L3.out P1.out) ?_
           rintro e w8 ⟨v8, rfl, o8, b8⟩
           obtain ⟨a8, c8, e8, _⟩ := o8.sl
           obtain ⟨n8, hn8⟩ : ∃ n, n = (form no ++ form ar ++ form en).length := ⟨_, rfl⟩
           rw [← hn8] at e8
           subst e8
           have B8 := (show Hid (Below w3.heap.size w3 w8) from B6.out.trans (b8.mono B6.out.size))
           have cp := copy_pack HQ.out (h3.out.below B8.out).at0 (show Sl .u8 w8 (.slice a8 n8 c8) (formsL ⟨no, ar, en⟩) from o8.sl) 3
           obtain ⟨w9, hw9⟩ : ∃ y, y = w8.setRow w2.heap.size (secA (packS ⟨no, ar, en⟩)) := ⟨_, rfl⟩
           rw [← hw9] at cp
           have h9 := (show Hid (w9.heap[w2.heap.size]? = some (.cells (secA (packS ⟨no, ar, en⟩)) 53 (0, 0)) ∧ Below w.heap.size w w9) from by
             rw [hw9]
             exact ⟨setRow_heap _ _ _ _ _ _ (h3.out.below B8.out).at0, ((h3.out.below B8.out).1).grown (grown_setRow _ _ _) ((h3.out.below B8.out).1).size (fun r e => by cases e; exact h2.out.1.size)⟩)
           have HS9 := (show Hid (w9.cell? ⟨w.heap.size, 0, none⟩ = some (.int .i64 no) ∧ w9.cell? ⟨w.heap.size, 1, none⟩ = some (.int .i64 ar) ∧ w9.cell? ⟨w.heap.size, 2, none⟩ = some (.int .i64 en)) from by
             have hne : w.heap.size ≠ w2.heap.size := Nat.ne_of_lt (lt_of_block h2.out.at0)
             rw [hw9, setRow_cell hne, setRow_cell hne, setRow_cell hne]
             exact HS.out _ B8.out)
           clear b8 o8 hn8 hw9))
    have hsz := secSize (s := packS ⟨no, ar, en⟩) (packS_size _)
    have HSZ := (show Hid _ from hsz)
    clear hsz HS9 HS cp
    have CX := (show Hid _ from itext_any (packS ⟨no, ar, en⟩) w9 (packS_size _))
    go_wp2_with (first
      | refine wpList_load_row rfl 53 (.tmp 4) rfl w2.heap.size rfl 53 (secA (packS ⟨no, ar, en⟩)) (0, 0) _ h9.out.1 Try.underlying53 rfl HSZ.out ?_
      | (go_at_call 31
         refine Calls.mono CX.out ?_
         rintro e wx ⟨rfl, bx⟩))
    go_ret2
    exact ⟨by rw [HR.out]; rfl, h9.out.2.trans (bx.mono h9.out.2.size)⟩
theorem iheadPack_any (h : PHead) (w : World) (x1 : (Lit.int .i64 h.no).wf = true) (x2 : (Lit.int .i64 h.area).wf = true) (x3 : (Lit.int .i64 h.en).wf = true) :
    Calls Try.prog 28 #[headV h] w fun e w' => e = .returned (.tuple #[.string (packDk h).1, .bool (packDk h).2]) ∧ Below w.heap.size w w' := iheadPack_all h w
end Go.Proofs.Ytbpncleapnohjaa

/- The program's HeadPut. No condition. -/
namespace Go.Proofs.Ytbpncleapnohjaa
open Go.RowKit
set_option maxRecDepth 100000
set_option linter.unusedVariables false

theorem headPut_eq (d : PDisk) (h : PHead) : putDk d (Int.tmod h.no 2) (packDk h).1 = headPutDk d h := by
  unfold headPutDk
  by_cases hb : diskB d = false
  · rw [if_pos hb, putDk, if_pos hb]
  · rw [if_neg hb]
    by_cases hh : headB h = false
    · rw [if_pos hh, packDk, if_neg (by rw [hh]; decide), putDk, if_neg hb, if_pos (.inr (.inl (by decide)))]
    · have hh' : headB h = true := by simpa using hh
      have hi := headB_in hh'
      rw [if_neg hh, packDk, if_pos hh', Int.tmod_eq_emod_of_nonneg (by omega)]

set_option maxHeartbeats 1000000 in
set_option maxRecDepth 100000 in
theorem iheadPut_any (w : World) (v : Value) (d : PDisk) (h : PHead) (hd : DiskAt w v d) (hf : DiskFit d) (x1 : (Lit.int .i64 h.no).wf = true) (x2 : (Lit.int .i64 h.area).wf = true) (x3 : (Lit.int .i64 h.en).wf = true) :
    Calls Try.prog 12 #[v, headV h] w fun e w' => ∃ v', e = .returned (.tuple #[v', .bool (headPutDk d h).2]) ∧ OwnDz w.heap.size w' v' (headPutDk d h).1 ∧ Below w.heap.size w w' := by
  rw [← headPut_eq]
  have CP := (show Hid (∀ W, Calls Try.prog 28 #[headV h] W fun e w' => e = .returned (.tuple #[.string (packDk h).1, .bool (packDk h).2]) ∧ Below W.heap.size W w') from fun W => iheadPack_any h W x1 x2 x3)
  have hsz : (packDk h).1.size ≤ 1099511627776 := by
    unfold packDk
    split
    · rw [packS_size]; omega
    · exact Nat.zero_le _
  obtain ⟨⟨ps, pb⟩, hp⟩ : ∃ p, p = packDk h := ⟨_, rfl⟩
  rw [← hp] at CP hsz ⊢
  simp only at CP hsz ⊢
  obtain ⟨no, ar, en⟩ := h
  have HD := (show Hid (DiskAt w v d) from hd)
  have HF := (show Hid (DiskFit d) from hf)
  obtain ⟨sa, sn, sc, la, ln, lc, rfl, _, _⟩ := hd
  have HZ := (show Hid _ from hsz)
  clear hf x2 x3 hp hsz
  unfold headV at CP ⊢
  simp only at CP x1 ⊢
  obtain ⟨w1, hw1⟩ : ∃ y, y = ((w.alloc (.cells #[.slice sa sn sc, .slice la ln lc] 25)).alloc (.cells #[.int .i64 no, .int .i64 ar, .int .i64 en] 27)).alloc (.cells #[.slice none 0 0, .slice none 0 0] 25) := ⟨_, rfl⟩
  have h1 := (((Hl.refl w).new #[.slice sa sn sc, .slice la ln lc] 25).new #[.int .i64 no, .int .i64 ar, .int .i64 en] 27).new #[.slice none 0 0, .slice none 0 0] 25
  rw [← hw1, World.size_alloc, World.size_alloc] at h1
  have H1 := (show Hid _ from h1)
  clear h1
  go_enter Try.func12, Try.ntmps12
  go_wp2_with fail
  go_at_call 28
  rw [← hw1]
  refine Calls.mono (CP.out w1) ?_
  rintro e w2 ⟨rfl, b2⟩
  have H2 := (show Hid _ from H1.out.below b2)
  clear hw1 H1 b2 CP
  obtain ⟨c1, c2, c3, _⟩ := rk_three H2.out.at1
  obtain ⟨d1, d2, _, _⟩ := rk_two H2.out.at2
  have CD := (show Hid _ from idiskPut_any w2 _ d (Int.tmod no 2) ps (HD.out.below H2.out.1) HF.out HZ.out)
  go_wp2_with (go_at_call 29
               refine Calls.mono CD.out ?_
               rintro e w3 ⟨v3, rfl, o3, b3⟩
               have H3 := (show Hid _ from H2.out.below b3)
               obtain ⟨ta, tn, tc, ma, mn, mc, rfl, p1, p2⟩ := o3
               have O3 := (show Hid (_ ∧ _) from And.intro p1 p2)
               obtain ⟨r1, r2, r3, r4⟩ := rk_two H3.out.at0
               have S3 := (show Hid (w.heap.size ≤ w2.heap.size) from H2.out.1.size)
               clear b3 p1 p2 CD)
  have H4 := H3.out.set2 (by omega) (by
    intro p hp
    simp only [List.mem_cons, List.not_mem_nil, or_false] at hp
    rcases hp with rfl | rfl
    · show w.heap.size + 1 ≠ w.heap.size + 1 + 1; omega
    · show w.heap.size ≠ w.heap.size + 1 + 1; omega) (.slice ta tn tc) (.slice ma mn mc)
  refine bodyPost_ret (disk_res rfl rfl rfl H4.at0) rfl ?_
  have s1 := rk_at (k := 0) (u := .slice ta tn tc) H3.out.at0
  refine ⟨_, rfl, ⟨_, _, _, _, _, _, rfl, ((O3.out.1.base S3.out).set H3.out.at0 (by decide)).set s1 (by decide), ((O3.out.2.base S3.out).set H3.out.at0 (by decide)).set s1 (by decide)⟩, H4.1⟩
end Go.Proofs.Ytbpncleapnohjaa
