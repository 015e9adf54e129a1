/- slices.Grow and slices.Concat of three. No condition. -/
import Derived.Test.YtokkigfjabbdaaaGreatDoorU29
import Derived.Test.YtokkigfjabbdaaaGreatDoorU25
import Derived.Test.YtokkigfjabbdaaaGreatDoorU19
namespace Go.Proofs.YtokkigfjabbdaaaGreatDoor
open Go.RowKit
set_option maxRecDepth 100000
set_option linter.unusedVariables false

set_option maxRecDepth 100000 in
theorem igrow_any (n : Nat) (w : World) (h0 : 0 < n) (h1 : n ≤ 1000) :
    Calls Tryz.prog 150 #[.slice none 0 0, .int .i64 (n : Int)] w fun e w' => ∃ v', e = .returned v' ∧ Own w.heap.size 5 .u8 w' v' [] ∧ Below w.heap.size w w' := by
  obtain ⟨i0, hi, hz0, hz1, hz2⟩ := info_parts Tryz.infoB
  have hb5 : Tryz.t5.bytes = 1 := rfl
  have hp : ¬ ((n : Int) < 0) := by omega
  have hq : (0 : Int) < (n : Int) := by omega
  go_enter Tryz.func150, Tryz.ntmps150
  go_wp2_with fail
  · exfalso; have hn := nextslicecap_zero h0; rename_i h _ _ _; simp only [hb5, hn] at *; omega
  · go_ret
    have hge := grownCap_ge w n 0 5
    have hm := grownCap_le_maxLen w n 0 5 (by unfold maxLen; omega)
    have o1 := World.ownsRow_made (e := 5) (size := 1) w (Builtin.zeroCells #[Value.int IntKind.u8 0] n ++ Builtin.zeroCells #[Value.int IntKind.u8 0] (grownCap w n 0 5 - n)) (grownCap w n 0 5) (Nat.le_refl _) hm (by rw [Array.size_append, size_zeroCells, size_zeroCells]; simp; omega)
    exact ⟨_, rfl, Own.below (show Own w.heap.size 5 .u8 _ _ [] from o1) (below_drewN 1), ((Below.refl _ _).alloc (Nat.le_refl _) _).trans (below_drewN 1)⟩

def catP (ps : List (Value × List Int)) : List Int := ps.flatMap (·.2)
theorem catP_take {ps : List (Value × List Int)} {k : Nat} (hk : k < ps.length) : catP (ps.take (k + 1)) = catP (ps.take k) ++ ps[k].2 := by
  unfold catP; rw [List.take_succ_eq_append_getElem hk, List.flatMap_append]; simp
theorem catP_len {ps : List (Value × List Int)} (h : ∀ p ∈ ps, p.2.length ≤ 300) : (catP ps).length ≤ ps.length * 300 := by
  induction ps with
  | nil => simp [catP]
  | cons p ps ih =>
    have e : catP (p :: ps) = p.2 ++ catP ps := rfl
    have h1 := h p (by simp)
    have h2 := ih (fun q hq => h q (by simp [hq]))
    rw [e, List.length_append, List.length_cons]; omega

set_option maxRecDepth 100000 in
theorem iconcat_any {w : World} {b : Nat} {ps : List (Value × List Int)} (hb : b < w.heap.size) (hc : ∀ k (hk : k < ps.length), w.cell? ⟨b, k, none⟩ = some ps[k].1 ∧ Sl .u8 w ps[k].1 ps[k].2) (hl : ps.length ≤ 3) (hs : ∀ p ∈ ps, p.2.length ≤ 300) (hpos : 0 < (catP ps).length) :
    Calls Tryz.prog 143 #[.slice (some ⟨b, 0, none⟩) ps.length ps.length] w fun e w' => ∃ v', e = .returned v' ∧ Own w.heap.size 5 .u8 w' v' (catP ps) ∧ Below w.heap.size w w' := by
  have HC := (show Hid (∀ k (hk : k < ps.length), w.cell? ⟨b, k, none⟩ = some ps[k].1 ∧ Sl .u8 w ps[k].1 ps[k].2) from hc)
  have HS := (show Hid _ from hs)
  clear hc hs
  go_enter Tryz.func143, Tryz.ntmps143
  go_wp2
  go_loopw [3, 11] (fun z i wr => ∃ k : Nat, k ≤ ps.length ∧ i = .int .i64 (k : Int) ∧ z = .int .i64 ((catP (ps.take k)).length : Int) ∧ Hid (w = wr)) (fun _ i _ => ps.length - (intOf i).toNat)
  case atStart => exact ⟨0, Nat.zero_le _, rfl, rfl, rfl⟩
  case round =>
    obtain ⟨k, hk, rfl, rfl, hw⟩ := hrel
    have ew := hw.out
    subst ew
    by_cases hlt : k < ps.length
    · obtain ⟨c1, s1⟩ := HC.out k hlt
      have hl1 := HS.out _ (List.getElem_mem hlt)
      have hl2 := catP_len (ps := ps.take k) (fun p hp => HS.out p (List.mem_of_mem_take hp))
      have e3 : (catP (ps.take (k + 1))).length = (catP (ps.take k)).length + ps[k].2.length := by rw [catP_take hlt, List.length_append]
      have E3 := (show Hid _ from e3)
      rw [List.length_take] at hl2
      obtain ⟨a, ca, e1, _, _, _, _⟩ := s1
      rw [e1] at c1
      have hlt' : (k : Int) < (ps.length : Int) := by omega
      obtain ⟨m, hm⟩ : ∃ m, m = ps[k].2.length := ⟨_, rfl⟩
      obtain ⟨t, ht⟩ : ∃ t, t = (catP (ps.take k)).length := ⟨_, rfl⟩
      rw [← hm] at c1 hl1 E3
      rw [← ht] at hl2 E3
      rw [← ht]
      have ht2 : t ≤ 900 := by omega
      clear e1 e3 hm ht hl2
      go_wp2
      go_roundw
      case rel => exact ⟨k + 1, hlt, by go_num, by rw [E3.out]; go_num, trivial⟩
      case measure => simp [intOf]; omega
    · have hke : k = ps.length := by omega
      subst hke
      rw [List.take_length]
      have hc2 := catP_len (ps := ps) (fun p hp => HS.out p hp)
      go_wp2_with fail
      go_at_call 150
      refine (igrow_any _ _ hpos (by omega)).mono ?_
      rintro e w2 ⟨v2, rfl, o2, b2⟩
      have hb2 := b2.size
      obtain ⟨i0, hi, hz0, hz1, hz2⟩ := info_parts Tryz.infoB
      have O2 := (show Hid (Own w.heap.size 5 .u8 w2 v2 [] ∧ Below w.heap.size w w2) from ⟨o2, b2⟩)
      clear o2 b2 hw hlt hk
      go_wp2
      go_loopw [6, 27] (fun z i wq => ∃ k : Nat, k ≤ ps.length ∧ i = .int .i64 (k : Int) ∧ Own w.heap.size 5 .u8 wq z (catP (ps.take k)) ∧ Below w.heap.size w wq) (fun _ i _ => ps.length - (intOf i).toNat)
      case atStart => exact ⟨0, Nat.zero_le _, rfl, O2.out.1, O2.out.2⟩
      case round =>
        obtain ⟨k, hk, rfl, o3, b3⟩ := hrel
        by_cases hlt : k < ps.length
        · obtain ⟨c1, s1⟩ := HC.out k hlt
          have hl1 := HS.out _ (List.getElem_mem hlt)
          have hl2 := catP_len (ps := ps.take k) (fun p hp => HS.out p (List.mem_of_mem_take hp))
          rw [List.length_take] at hl2
          have hlt' : (k : Int) < (ps.length : Int) := by omega
          have c2 := (b3.cell (p := ⟨b, k, none⟩) hb).trans c1
          have S2 := (show Hid _ from s1.below b3)
          have CT := (show Hid _ from catP_take hlt)
          have O3 := (show Hid (Own _ 5 .u8 _ _ _) from o3)
          have B3 := (show Hid (Below _ _ _) from b3)
          have hb3 := b3.size
          obtain ⟨p, hp⟩ : ∃ p, p = ps[k] := ⟨_, rfl⟩
          rw [← hp] at c2 S2 hl1 CT
          obtain ⟨pv, pl⟩ := p
          simp only at c2 S2 hl1 CT
          obtain ⟨tl, ht⟩ : ∃ t, t = catP (ps.take k) := ⟨_, rfl⟩
          rw [← ht] at O3 CT hl2
          have ht2 : tl.length ≤ 900 := by omega
          clear o3 b3 c1 s1 hp ht hl2
          go_wp2_with (at_builtin
                       refine wpList_app _ rfl _ _ 58 rfl w.heap.size 5 i0 (.int .u8 0) 1 Tryz.underlying58 hi hz0 hz1 hz2 rfl .u8 _ _ tl pl rfl rfl O3.out S2.out (by omega) (by unfold maxLen; omega) hb3 ?_
                       intro v' w4 o4 g4)
          go_roundw
          case rel => exact ⟨k + 1, hlt, by go_num, by rw [CT.out]; exact o4, B3.out.grown g4 hb3 O3.out.grownAt⟩
          case measure => simp [intOf]; omega
        · have hke : k = ps.length := by omega
          subst hke
          rw [List.take_length] at o3
          have O3 := (show Hid (Own _ 5 .u8 _ _ _) from o3)
          have B3 := (show Hid (Below _ _ _) from b3)
          clear o3 b3
          go_wp2
          go_ret
          exact ⟨_, rfl, O3.out, B3.out⟩
end Go.Proofs.YtokkigfjabbdaaaGreatDoor

/- The program's HeadPack. No condition. -/
namespace Go.Proofs.YtokkigfjabbdaaaGreatDoor
open Go.RowKit
set_option maxRecDepth 100000
set_option linter.unusedVariables false

/-- A copy, as one step of a region that draws its order. -/
theorem step_copyI {ops : Array Oper} {o : Oper} {a : Act} {W : World} {K : Act → World → Prop} {Q : Exit → Act → World → Prop} {E : Prop}
    (hg : o.guard = none) (d x : Operand) (dT sT : TypeId) (hop : o.op = Op.call { callee := Callee.builtin Builtin.copy, args := #[d, x], argTypes := #[dT, sT] })
    (vd vx r : Value) (W' : World) (hd : a.eval d = vd) (hx : a.eval x = vx) (hr : ∀ ty, (Builtin.copy_ #[dT, sT] ty #[vd, vx]).run Tryz.prog W = .ok r W') (hK : K (a.put o.dst r) W') :
    if Region.wanted o (yielded ops a.tmps) = true then Oper.wp Tryz.prog o a W K Q else E := by
  have hw : Region.wanted o (yielded ops a.tmps) = true := by simp [Region.wanted, hg]
  rw [if_pos hw]
  unfold Oper.wp
  simp [execOp, hop, resolve, invoke, builtin, hd, hx, hr, Result.andThen]
  exact hK
theorem zeroCells64 : (#[.int .u8 0, .int .u8 0, .int .u8 0, .int .u8 0, .int .u8 0, .int .u8 0, .int .u8 0, .int .u8 0, .int .u8 0, .int .u8 0, .int .u8 0, .int .u8 0, .int .u8 0, .int .u8 0, .int .u8 0, .int .u8 0, .int .u8 0, .int .u8 0, .int .u8 0, .int .u8 0, .int .u8 0, .int .u8 0, .int .u8 0, .int .u8 0, .int .u8 0, .int .u8 0, .int .u8 0, .int .u8 0, .int .u8 0, .int .u8 0, .int .u8 0, .int .u8 0, .int .u8 0, .int .u8 0, .int .u8 0, .int .u8 0, .int .u8 0, .int .u8 0, .int .u8 0, .int .u8 0, .int .u8 0, .int .u8 0, .int .u8 0, .int .u8 0, .int .u8 0, .int .u8 0, .int .u8 0, .int .u8 0, .int .u8 0, .int .u8 0, .int .u8 0, .int .u8 0, .int .u8 0, .int .u8 0, .int .u8 0, .int .u8 0, .int .u8 0, .int .u8 0, .int .u8 0, .int .u8 0, .int .u8 0, .int .u8 0, .int .u8 0, .int .u8 0] : Array Value).toList = List.replicate 64 (Value.int .u8 0) := rfl
theorem pack_row {h : PHead} (hb : headB h = true) : ((#[.int .u8 0, .int .u8 0, .int .u8 0, .int .u8 0, .int .u8 0, .int .u8 0, .int .u8 0, .int .u8 0, .int .u8 0, .int .u8 0, .int .u8 0, .int .u8 0, .int .u8 0, .int .u8 0, .int .u8 0, .int .u8 0, .int .u8 0, .int .u8 0, .int .u8 0, .int .u8 0, .int .u8 0, .int .u8 0, .int .u8 0, .int .u8 0, .int .u8 0, .int .u8 0, .int .u8 0, .int .u8 0, .int .u8 0, .int .u8 0, .int .u8 0, .int .u8 0, .int .u8 0, .int .u8 0, .int .u8 0, .int .u8 0, .int .u8 0, .int .u8 0, .int .u8 0, .int .u8 0, .int .u8 0, .int .u8 0, .int .u8 0, .int .u8 0, .int .u8 0, .int .u8 0, .int .u8 0, .int .u8 0, .int .u8 0, .int .u8 0, .int .u8 0, .int .u8 0, .int .u8 0, .int .u8 0, .int .u8 0, .int .u8 0, .int .u8 0, .int .u8 0, .int .u8 0, .int .u8 0, .int .u8 0, .int .u8 0, .int .u8 0, .int .u8 0] : Array Value).toList.take 0 ++ (formsL h).map (Value.int .u8) ++ (#[.int .u8 0, .int .u8 0, .int .u8 0, .int .u8 0, .int .u8 0, .int .u8 0, .int .u8 0, .int .u8 0, .int .u8 0, .int .u8 0, .int .u8 0, .int .u8 0, .int .u8 0, .int .u8 0, .int .u8 0, .int .u8 0, .int .u8 0, .int .u8 0, .int .u8 0, .int .u8 0, .int .u8 0, .int .u8 0, .int .u8 0, .int .u8 0, .int .u8 0, .int .u8 0, .int .u8 0, .int .u8 0, .int .u8 0, .int .u8 0, .int .u8 0, .int .u8 0, .int .u8 0, .int .u8 0, .int .u8 0, .int .u8 0, .int .u8 0, .int .u8 0, .int .u8 0, .int .u8 0, .int .u8 0, .int .u8 0, .int .u8 0, .int .u8 0, .int .u8 0, .int .u8 0, .int .u8 0, .int .u8 0, .int .u8 0, .int .u8 0, .int .u8 0, .int .u8 0, .int .u8 0, .int .u8 0, .int .u8 0, .int .u8 0, .int .u8 0, .int .u8 0, .int .u8 0, .int .u8 0, .int .u8 0, .int .u8 0, .int .u8 0, .int .u8 0] : Array Value).toList.drop (0 + (formsL h).length)).toArray = secA (packS h) := by
  rw [zeroCells64, secA, secL, packS_bs hb, packL, List.take_zero, List.nil_append, Nat.zero_add, List.drop_replicate, List.map_append, List.map_replicate]

theorem form_pos {x : Int} (h : 0 ≤ x) : 0 < (form x).length := by
  rw [form, if_neg (by omega)]
  by_cases h' : x < 128
  · rw [nf_lt h']; simp
  · rw [nf_ge (by omega)]; simp
theorem iconcat3 {W : World} {v1 v2 v3 : Value} {x y z : List Int} (s1 : Sl .u8 W v1 x) (s2 : Sl .u8 W v2 y) (s3 : Sl .u8 W v3 z) (h1 : x.length ≤ 9) (h2 : y.length ≤ 9) (h3 : z.length ≤ 9) (h0 : 0 < x.length) :
    Calls Tryz.prog 143 #[.slice (some ⟨W.heap.size, 0, none⟩) 3 3] (W.alloc (.cells #[v1, v2, v3] 58)) fun e w' => ∃ v', e = .returned v' ∧ Own W.heap.size 5 .u8 w' v' (x ++ y ++ z) ∧ Below W.heap.size W w' := by
  have b1 : Below W.heap.size W (W.alloc (.cells #[v1, v2, v3] 58)) := (Below.refl _ _).alloc (Nat.le_refl _) _
  obtain ⟨c1, c2, c3, _⟩ := rk_three (World.alloc_heap_new W (.cells #[v1, v2, v3] 58))
  have hc := iconcat_any (w := W.alloc (.cells #[v1, v2, v3] 58)) (b := W.heap.size) (ps := [(v1, x), (v2, y), (v3, z)]) (by simp) (fun k hk => by
    match k, hk with
    | 0, _ => exact ⟨c1, s1.below b1⟩
    | 1, _ => exact ⟨c2, s2.below b1⟩
    | 2, _ => exact ⟨c3, s3.below b1⟩) (by simp) (fun p hp => by
      simp only [List.mem_cons, List.not_mem_nil, or_false] at hp
      rcases hp with rfl | rfl | rfl
      · exact Nat.le_trans h1 (by decide)
      · exact Nat.le_trans h2 (by decide)
      · exact Nat.le_trans h3 (by decide)) (by show 0 < (x ++ (y ++ (z ++ []))).length; rw [List.length_append]; omega)
  have e1 : catP [(v1, x), (v2, y), (v3, z)] = x ++ y ++ z := by simp [catP]
  rw [e1] at hc
  refine Calls.mono hc ?_
  rintro e w' ⟨v', rfl, o, b⟩
  exact ⟨v', rfl, o.base b1.size, b1.trans (b.mono b1.size)⟩
theorem copy_pack {h : PHead} (hb : headB h = true) {W : World} {g : Nat} (hg : W.heap[g]? = some (.cells #[.int .u8 0, .int .u8 0, .int .u8 0, .int .u8 0, .int .u8 0, .int .u8 0, .int .u8 0, .int .u8 0, .int .u8 0, .int .u8 0, .int .u8 0, .int .u8 0, .int .u8 0, .int .u8 0, .int .u8 0, .int .u8 0, .int .u8 0, .int .u8 0, .int .u8 0, .int .u8 0, .int .u8 0, .int .u8 0, .int .u8 0, .int .u8 0, .int .u8 0, .int .u8 0, .int .u8 0, .int .u8 0, .int .u8 0, .int .u8 0, .int .u8 0, .int .u8 0, .int .u8 0, .int .u8 0, .int .u8 0, .int .u8 0, .int .u8 0, .int .u8 0, .int .u8 0, .int .u8 0, .int .u8 0, .int .u8 0, .int .u8 0, .int .u8 0, .int .u8 0, .int .u8 0, .int .u8 0, .int .u8 0, .int .u8 0, .int .u8 0, .int .u8 0, .int .u8 0, .int .u8 0, .int .u8 0, .int .u8 0, .int .u8 0, .int .u8 0, .int .u8 0, .int .u8 0, .int .u8 0, .int .u8 0, .int .u8 0, .int .u8 0, .int .u8 0] 164 (0, 0))) {a : Option Addr} {n c : Nat} (hs : Sl .u8 W (.slice a n c) (formsL h)) (ty : TypeId) :
    (Builtin.copy_ #[58, 58] ty #[.slice (some ⟨g, 0, none⟩) 64 64, .slice a n c]).run Tryz.prog W = .ok (goInt (formsL h).length) (W.setRow g (secA (packS h))) := by
  obtain ⟨a', c', e, h1, h2, h3, h4⟩ := hs
  cases e
  have hl := formsL_len h
  have hp : 0 < (formsL h).length := by
    have := form_pos (x := h.no) (by have := headB_in hb; omega)
    simp only [formsL, List.length_append]; omega
  obtain ⟨b, off, rfl, _⟩ := h4 0 hp
  have hr := run_copy_row (P := Tryz.prog) W 58 58 ty 5 g 0 64 64 ⟨b, off, none⟩ (formsL h).length c #[.int .u8 0, .int .u8 0, .int .u8 0, .int .u8 0, .int .u8 0, .int .u8 0, .int .u8 0, .int .u8 0, .int .u8 0, .int .u8 0, .int .u8 0, .int .u8 0, .int .u8 0, .int .u8 0, .int .u8 0, .int .u8 0, .int .u8 0, .int .u8 0, .int .u8 0, .int .u8 0, .int .u8 0, .int .u8 0, .int .u8 0, .int .u8 0, .int .u8 0, .int .u8 0, .int .u8 0, .int .u8 0, .int .u8 0, .int .u8 0, .int .u8 0, .int .u8 0, .int .u8 0, .int .u8 0, .int .u8 0, .int .u8 0, .int .u8 0, .int .u8 0, .int .u8 0, .int .u8 0, .int .u8 0, .int .u8 0, .int .u8 0, .int .u8 0, .int .u8 0, .int .u8 0, .int .u8 0, .int .u8 0, .int .u8 0, .int .u8 0, .int .u8 0, .int .u8 0, .int .u8 0, .int .u8 0, .int .u8 0, .int .u8 0, .int .u8 0, .int .u8 0, .int .u8 0, .int .u8 0, .int .u8 0, .int .u8 0, .int .u8 0, .int .u8 0] 164 ((formsL h).map (Value.int .u8)) Tryz.underlying58 (by kernel_rfl) hg (by rw [List.length_map]; exact (Nat.min_eq_left (by omega)).symm) (Sl.news h4) (by rw [List.length_map]; show 0 + (formsL h).length ≤ 64; omega) (ints_oneCell _ _)
  rw [List.length_map] at hr
  rw [hr, pack_row hb]
theorem setRow_cell {w : World} {g b k : Nat} {cs : Array Value} (h : b ≠ g) : (w.setRow g cs).cell? ⟨b, k, none⟩ = w.cell? ⟨b, k, none⟩ := by
  simp only [World.cell?, setRow_other w g b cs h]

set_option maxHeartbeats 1000000 in
set_option maxRecDepth 100000 in
theorem iheadPack_all (h : PHead) (w : World) :
    Calls Tryz.prog 122 #[headV h] w fun e w' => e = .returned (.tuple #[.string (packDk h).1, .bool (packDk h).2]) ∧ Below w.heap.size w w' := by
  have CR := (show Hid _ from iisRight_any h)
  have HB := (show Hid (headB h = true → packDk h = (packS h, true)) from fun e => by rw [packDk, if_pos e])
  have HN := (show Hid (headB h = false → packDk h = (⟨#[]⟩, false)) from fun e => by rw [packDk, if_neg (by rw [e]; decide)])
  obtain ⟨no, ar, en⟩ := h
  unfold headV at CR ⊢
  simp only at CR ⊢
  obtain ⟨w1, hw1⟩ : ∃ y, y = w.alloc (.cells #[.int .i64 no, .int .i64 ar, .int .i64 en] 36) := ⟨_, rfl⟩
  have h1 := (show Hid _ from (Hl.refl w).new #[.int .i64 no, .int .i64 ar, .int .i64 en] 36)
  rw [← hw1] at h1
  go_enter Tryz.func122, Tryz.ntmps122
  go_wp2_with fail
  go_at_call 87
  rw [← hw1]
  refine Calls.mono (CR.out w1) ?_
  rintro e w2 ⟨rfl, b2⟩
  have h2 := (show Hid _ from h1.out.below b2)
  clear hw1 h1 b2 CR
  cases hb : headB ⟨no, ar, en⟩
  · have HR := (show Hid _ from HN.out hb)
    clear hb HB HN
    go_wp2
    go_ret2
    exact ⟨by rw [HR.out]; rfl, h2.out.1⟩
  · have HR := (show Hid _ from HB.out hb)
    have HQ := (show Hid _ from hb)
    clear hb HB HN
    obtain ⟨c1, c2, c3, _⟩ := rk_three h2.out.at0
    obtain ⟨w3, hw3⟩ : ∃ y, y = w2.alloc (.cells #[.int .u8 0, .int .u8 0, .int .u8 0, .int .u8 0, .int .u8 0, .int .u8 0, .int .u8 0, .int .u8 0, .int .u8 0, .int .u8 0, .int .u8 0, .int .u8 0, .int .u8 0, .int .u8 0, .int .u8 0, .int .u8 0, .int .u8 0, .int .u8 0, .int .u8 0, .int .u8 0, .int .u8 0, .int .u8 0, .int .u8 0, .int .u8 0, .int .u8 0, .int .u8 0, .int .u8 0, .int .u8 0, .int .u8 0, .int .u8 0, .int .u8 0, .int .u8 0, .int .u8 0, .int .u8 0, .int .u8 0, .int .u8 0, .int .u8 0, .int .u8 0, .int .u8 0, .int .u8 0, .int .u8 0, .int .u8 0, .int .u8 0, .int .u8 0, .int .u8 0, .int .u8 0, .int .u8 0, .int .u8 0, .int .u8 0, .int .u8 0, .int .u8 0, .int .u8 0, .int .u8 0, .int .u8 0, .int .u8 0, .int .u8 0, .int .u8 0, .int .u8 0, .int .u8 0, .int .u8 0, .int .u8 0, .int .u8 0, .int .u8 0, .int .u8 0] 164) := ⟨_, rfl⟩
    have h3 := (show Hid _ from h2.out.new #[.int .u8 0, .int .u8 0, .int .u8 0, .int .u8 0, .int .u8 0, .int .u8 0, .int .u8 0, .int .u8 0, .int .u8 0, .int .u8 0, .int .u8 0, .int .u8 0, .int .u8 0, .int .u8 0, .int .u8 0, .int .u8 0, .int .u8 0, .int .u8 0, .int .u8 0, .int .u8 0, .int .u8 0, .int .u8 0, .int .u8 0, .int .u8 0, .int .u8 0, .int .u8 0, .int .u8 0, .int .u8 0, .int .u8 0, .int .u8 0, .int .u8 0, .int .u8 0, .int .u8 0, .int .u8 0, .int .u8 0, .int .u8 0, .int .u8 0, .int .u8 0, .int .u8 0, .int .u8 0, .int .u8 0, .int .u8 0, .int .u8 0, .int .u8 0, .int .u8 0, .int .u8 0, .int .u8 0, .int .u8 0, .int .u8 0, .int .u8 0, .int .u8 0, .int .u8 0, .int .u8 0, .int .u8 0, .int .u8 0, .int .u8 0, .int .u8 0, .int .u8 0, .int .u8 0, .int .u8 0, .int .u8 0, .int .u8 0, .int .u8 0, .int .u8 0] 164)
    rw [← hw3] at h3
    have hi := headB_in HQ.out
    simp only at hi
    obtain ⟨i1, i2, i3, i4, i5, i6⟩ := hi
    have L1 := (show Hid _ from form_len no)
    have L2 := (show Hid _ from form_len ar)
    have L3 := (show Hid _ from form_len en)
    have P1 := (show Hid _ from form_pos (x := no) (by omega))
    have C1 := (show Hid (∀ W, Calls Tryz.prog 144 #[.int .i64 no] W fun e w' => ∃ v, e = .returned v ∧ Own W.heap.size 5 .u8 w' v (form no) ∧ Below W.heap.size W w') from fun W => inum_any no W (by omega))
    have C2 := (show Hid (∀ W, Calls Tryz.prog 144 #[.int .i64 ar] W fun e w' => ∃ v, e = .returned v ∧ Own W.heap.size 5 .u8 w' v (form ar) ∧ Below W.heap.size W w') from fun W => inum_any ar W (by omega))
    have C3 := (show Hid (∀ W, Calls Tryz.prog 144 #[.int .i64 en] W fun e w' => ∃ v, e = .returned v ∧ Own W.heap.size 5 .u8 w' v (form en) ∧ Below W.heap.size W w') from fun W => inum_any en W (by omega))
    have HS := (show Hid (∀ W, Below w3.heap.size w3 W → W.cell? ⟨w.heap.size, 0, none⟩ = some (.int .i64 no) ∧ W.cell? ⟨w.heap.size, 1, none⟩ = some (.int .i64 ar) ∧ W.cell? ⟨w.heap.size, 2, none⟩ = some (.int .i64 en)) from fun W b => by
      obtain ⟨p0, p1, p2, _⟩ := rk_three (h3.out.below b).at1
      exact ⟨p0, p1, p2⟩)
    have KD := (show Hid (Below w3.heap.size w3 w3.drew) from below_drewN 1)
    go_upto_region 4 with fail
    rw [← hw3]
    clear hw3
    obtain ⟨d1, d2, d3⟩ := HS.out _ (Below.refl _ _)
    go_region_held3 (fun w' => w'.cell? ⟨w.heap.size, 0, none⟩ = some (.int .i64 no) ∧ w'.cell? ⟨w.heap.size, 1, none⟩ = some (.int .i64 ar) ∧ w'.cell? ⟨w.heap.size, 2, none⟩ = some (.int .i64 en))
      (first | exact HS.out _ KD.out | exact HS.out _ B4.out | exact HS.out _ B5.out | exact HS.out _ B6.out | exact HS.out _ (B6.out.alloc B6.out.size _) | exact HS.out _ B8.out | exact HS9.out)
      (first
        | (go_at_call 144
           with_reducible refine Calls.mono (C1.out _) ?_
           rintro e w4 ⟨v4, rfl, o4, b4⟩
           obtain ⟨a4, c4, e4, _⟩ := o4.sl
           subst e4
           have B4 := (show Hid (Below w3.heap.size w3 w4) from KD.out.trans (b4.mono KD.out.size))
           have O4 := (show Hid (Own w3.heap.size 5 .u8 w4 (.slice a4 (form no).length c4) (form no)) from o4.base KD.out.size)
           clear b4 o4)
        | (go_at_call 144
           with_reducible refine Calls.mono (C2.out _) ?_
           rintro e w5 ⟨v5, rfl, o5, b5⟩
           obtain ⟨a5, c5, e5, _⟩ := o5.sl
           subst e5
           have B5 := (show Hid (Below w3.heap.size w3 w5) from B4.out.trans (b5.mono B4.out.size))
           have O5 := (show Hid (Own w4.heap.size 5 .u8 w5 (.slice a5 (form ar).length c5) (form ar) ∧ Own w3.heap.size 5 .u8 w5 (.slice a4 (form no).length c4) (form no)) from ⟨o5, O4.out.below b5⟩)
           clear b5 o5)
        | (go_at_call 144
           with_reducible refine Calls.mono (C3.out _) ?_
           rintro e w6 ⟨v6, rfl, o6, b6⟩
           obtain ⟨a6, c6, e6, _⟩ := o6.sl
           subst e6
           have B6 := (show Hid (Below w3.heap.size w3 w6) from B5.out.trans (b6.mono B5.out.size))
           have O6 := (show Hid (Own w5.heap.size 5 .u8 w6 (.slice a6 (form en).length c6) (form en) ∧ Own w4.heap.size 5 .u8 w6 (.slice a5 (form ar).length c5) (form ar) ∧ Own w3.heap.size 5 .u8 w6 (.slice a4 (form no).length c4) (form no)) from ⟨o6, O5.out.1.below b6, O5.out.2.below b6⟩)
           clear b6 o6)
        | (go_at_call 143
           with_reducible refine Calls.mono (iconcat3 O6.out.2.2.sl O6.out.2.1.sl O6.out.1.sl L1.out L2.out L3.out P1.out) ?_
           rintro e w8 ⟨v8, rfl, o8, b8⟩
           obtain ⟨a8, c8, e8, _⟩ := o8.sl
           obtain ⟨n8, hn8⟩ : ∃ n, n = (form no ++ form ar ++ form en).length := ⟨_, rfl⟩
           rw [← hn8] at e8
           subst e8
           have B8 := (show Hid (Below w3.heap.size w3 w8) from B6.out.trans (b8.mono B6.out.size))
           have cp := copy_pack HQ.out (h3.out.below B8.out).at0 (show Sl .u8 w8 (.slice a8 n8 c8) (formsL ⟨no, ar, en⟩) from o8.sl) 3
           obtain ⟨w9, hw9⟩ : ∃ y, y = w8.setRow w2.heap.size (secA (packS ⟨no, ar, en⟩)) := ⟨_, rfl⟩
           rw [← hw9] at cp
           have h9 := (show Hid (w9.heap[w2.heap.size]? = some (.cells (secA (packS ⟨no, ar, en⟩)) 164 (0, 0)) ∧ Below w.heap.size w w9) from by
             rw [hw9]
             exact ⟨setRow_heap _ _ _ _ _ _ (h3.out.below B8.out).at0, ((h3.out.below B8.out).1).grown (grown_setRow _ _ _) ((h3.out.below B8.out).1).size (fun r e => by cases e; exact h2.out.1.size)⟩)
           have HS9 := (show Hid (w9.cell? ⟨w.heap.size, 0, none⟩ = some (.int .i64 no) ∧ w9.cell? ⟨w.heap.size, 1, none⟩ = some (.int .i64 ar) ∧ w9.cell? ⟨w.heap.size, 2, none⟩ = some (.int .i64 en)) from by
             have hne : w.heap.size ≠ w2.heap.size := Nat.ne_of_lt (lt_of_block h2.out.at0)
             rw [hw9, setRow_cell hne, setRow_cell hne, setRow_cell hne]
             exact HS.out _ B8.out)
           clear b8 o8 hn8 hw9))
    have hsz := secSize (s := packS ⟨no, ar, en⟩) (packS_size _)
    have HSZ := (show Hid _ from hsz)
    clear hsz HS9 HS cp
    have CX := (show Hid _ from itext_any (packS ⟨no, ar, en⟩) w9 (packS_size _))
    go_wp2_with (first
      | refine wpList_load_row rfl 164 (.tmp 4) rfl w2.heap.size rfl 164 (secA (packS ⟨no, ar, en⟩)) (0, 0) _ h9.out.1 Tryz.underlying164 rfl HSZ.out ?_
      | (go_at_call 145
         refine Calls.mono CX.out ?_
         rintro e wx ⟨rfl, bx⟩))
    go_ret2
    exact ⟨by rw [HR.out]; rfl, h9.out.2.trans (bx.mono h9.out.2.size)⟩
theorem iheadPack_any (h : PHead) (w : World) (x1 : (Lit.int .i64 h.no).wf = true) (x2 : (Lit.int .i64 h.area).wf = true) (x3 : (Lit.int .i64 h.en).wf = true) :
    Calls Tryz.prog 122 #[headV h] w fun e w' => e = .returned (.tuple #[.string (packDk h).1, .bool (packDk h).2]) ∧ Below w.heap.size w w' := iheadPack_all h w
end Go.Proofs.YtokkigfjabbdaaaGreatDoor
