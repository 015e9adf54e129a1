/- The specification's l18Work for a compact and for a drop (written by mk/sstep2.py). No condition. -/
import Derived.Test.YtjokajblihaphaaGreatDoorU40
import Derived.Test.YtjokajblihaphaaGreatDoorU25
import Derived.Test.YtjokajblihaphaaGreatDoorU23
import Derived.Test.YtjokajblihaphaaGreatDoorU26
namespace Go.Proofs.YtjokajblihaphaaGreatDoor
open Go.RowKit
set_option maxRecDepth 100000
set_option linter.unusedVariables false

theorem results_tmp_cell_tmp {fn : Func} {p u v : Tmp} {ty : TypeId} (h : fn.results = #[.tmp u, .cell p ty, .tmp v]) (tmps : Array Value) (P : Program) (w : World) :
    (results fn tmps).run P w = ((asAddr (tmps.getD p undef)).run P w).andThen fun a w₁ => ((loadVar ty a).run P w₁).andThen fun x w₂ => .ok (.tuple #[tmps.getD u undef, x, tmps.getD v undef]) w₂ := by
  simp only [results, h]
  simp [Sem.run_bind, Result.andThen]
theorem work_res {fn : Func} {p u v : Tmp} (hr : fn.results = #[.tmp u, .cell p 35, .tmp v]) {tmps : Array Value} {w : World} {g : Nat} {a b c r q : Value} (h4 : tmps.getD p undef = .pointer (some ⟨g, 0, none⟩)) (h5 : tmps.getD u undef = r) (h6 : tmps.getD v undef = q) (hb : w.heap[g]? = some (.cells #[a, b, c] 35 (0, 0))) :
    (results fn tmps).run Tryz.prog w = .ok (.tuple #[r, .agg #[a, b, c], q]) w := by
  rw [results_tmp_cell_tmp (p := p) (u := u) (v := v) (ty := 35) hr, h4, h5, h6]
  simp [asAddr, run_loadVar_row w g 35 35 #[a, b, c] (0, 0) _ hb Tryz.underlying35 rfl rfl, Result.andThen]
/-- What l18Work answers: a code, and where that is ArDone the disks and the head. -/
def WorkOut (w : World) (q : Int) (h : PHead) (d : PDisk) (e : Ending) (W : World) : Prop := ∃ sa sn sc n a z, e = .returned (.tuple #[.slice sa sn sc, .agg #[.int .i64 n, .int .i64 a, .int .i64 z], .int .i64 q]) ∧ (q = 0 → (⟨n, a, z⟩ : PHead) = h ∧ StepsRow w.heap.size W (.slice sa sn sc) d) ∧ Below w.heap.size w W
def compactQ (a : PArch) : Int := if a.up = false then 2 else if (packX a.list).2 = false then 5 else if stepsOk a.disk (1 - a.head.area) 0 (packX a.list).1 ⟨a.head.no + 1, 1 - a.head.area, (packX a.list).1.length⟩ = false then 5 else 0
def dropQ (u : ByteArray) (a : PArch) : Int := if a.up = false then 2 else if urlB u = false then 3 else if (attrOf a.list u).2 = false then 6 else if stepsOk a.disk a.head.area a.head.en (recL (dropR u)) ⟨a.head.no + 1, a.head.area, a.head.en + (recL (dropR u)).length⟩ = false then 5 else 0
theorem StepsRow.below {B : Nat} {W W' : World} {v : Value} {d : PDisk} (h : StepsRow B W v d) (b : Below W.heap.size W W') : StepsRow B W' v d := by
  obtain ⟨a1, b1, a2, b2, a3, b3, sa, sn, sc, la, ln, lc, o, p⟩ := h
  exact ⟨a1, b1, a2, b2, a3, b3, sa, sn, sc, la, ln, lc, ownsRow_below o b, OwnDy.below p b⟩
theorem StepsRow.base {B B' : Nat} {W : World} {v : Value} {d : PDisk} (h : StepsRow B W v d) (hB : B' ≤ B) : StepsRow B' W v d := by
  obtain ⟨a1, b1, a2, b2, a3, b3, sa, sn, sc, la, ln, lc, o, p⟩ := h
  exact ⟨a1, b1, a2, b2, a3, b3, sa, sn, sc, la, ln, lc, rk_base o hB, OwnDy.base p hB⟩
theorem StepsRow.set {B N k : Nat} {W : World} {v x : Value} {d : PDisk} {cs : Array Value} (h : StepsRow B W v d) (hb : W.heap[N]? = some (.cells cs 35 (0, 0))) : StepsRow B (W.setCell ⟨N, k, none⟩ x) v d := by
  obtain ⟨a1, b1, a2, b2, a3, b3, sa, sn, sc, la, ln, lc, o, p⟩ := h
  exact ⟨a1, b1, a2, b2, a3, b3, sa, sn, sc, la, ln, lc, rk_set o hb (by decide), OwnDy.turned p (grown_setCell _ _ _ _) (fun j e => by cases e; exact ⟨_, _, _, hb, by decide, by decide⟩)⟩
theorem StepsRow.set3 {B N : Nat} {W : World} {v x y z x' y' z' : Value} {d : PDisk} (h : StepsRow B W v d) (hb : W.heap[N]? = some (.cells #[x, y, z] 35 (0, 0))) : StepsRow B (((W.setCell ⟨N, 0, none⟩ x').setCell ⟨N, 1, none⟩ y').setCell ⟨N, 2, none⟩ z') v d := by
  have h1 := rk_at (k := 0) (u := x') hb
  have h2 := rk_at (k := 1) (u := y') h1
  exact ((h.set hb).set h1).set h2
theorem Hl.set1of3 {w W : World} {L : List (Nat × Array Value × TypeId)} {N : Nat} {x y z : Value} {t : TypeId} (h : Hl w ((N, #[x, y, z], t) :: L) W) (hN : w.heap.size ≤ N) (hL : ∀ p ∈ L, p.1 ≠ N) (a : Value) : Hl w ((N, #[a, y, z], t) :: L) (W.setCell ⟨N, 0, none⟩ a) := h.set hN hL 0 a
theorem Hl.set2of3 {w W : World} {L : List (Nat × Array Value × TypeId)} {N : Nat} {x y z : Value} {t : TypeId} (h : Hl w ((N, #[x, y, z], t) :: L) W) (hN : w.heap.size ≤ N) (hL : ∀ p ∈ L, p.1 ≠ N) (a : Value) : Hl w ((N, #[x, a, z], t) :: L) (W.setCell ⟨N, 1, none⟩ a) := h.set hN hL 1 a
theorem Hl.set3of3 {w W : World} {L : List (Nat × Array Value × TypeId)} {N : Nat} {x y z : Value} {t : TypeId} (h : Hl w ((N, #[x, y, z], t) :: L) W) (hN : w.heap.size ≤ N) (hL : ∀ p ∈ L, p.1 ≠ N) (a : Value) : Hl w ((N, #[x, y, a], t) :: L) (W.setCell ⟨N, 2, none⟩ a) := h.set hN hL 2 a

set_option maxHeartbeats 4000000 in
set_option maxRecDepth 100000 in
theorem sl18WorkC_any {w : World} {v u3 : Value} {a : PArch} (h : ArAt w v a) (hA : archB a = true) :
    Calls Tryz.prog 35 #[v, .int .i64 3, .string ⟨#[]⟩, u3] w fun e w' => WorkOut w (compactQ a) ⟨a.head.no + 1, 1 - a.head.area, (packX a.list).1.length⟩ (step4 a.disk (1 - a.head.area) 0 (packX a.list).1 ⟨a.head.no + 1, 1 - a.head.area, (packX a.list).1.length⟩) e w' := by
  obtain ⟨up, d, ⟨no, ar, en⟩, ls⟩ := a
  obtain ⟨sa, sn, sc, la, ln, lc, ea, en', ec, rfl, h1, h2⟩ := h
  simp only at h1 h2
  have HD := (show Hid (DiskAt w (.agg #[.slice sa sn sc, .slice la ln lc]) d) from h1)
  have HE := (show Hid (Sv 2 w (.slice ea en' ec) (pairCells ls)) from h2)
  have HA := (show Hid (archB ⟨up, d, ⟨no, ar, en⟩, ls⟩ = true) from hA)
  clear h1 h2 hA
  have HQ := (show Hid (compactQ ⟨up, d, ⟨no, ar, en⟩, ls⟩ = if up = false then 2 else if (packX ls).2 = false then 5 else if stepsOk d (1 - ar) 0 (packX ls).1 ⟨no + 1, 1 - ar, (packX ls).1.length⟩ = false then 5 else 0) from (show _ = _ from rfl))
  obtain ⟨q, hq⟩ : ∃ z, z = compactQ ⟨up, d, ⟨no, ar, en⟩, ls⟩ := ⟨_, rfl⟩
  rw [← hq] at HQ
  rw [← hq]
  simp only
  obtain ⟨D4, hD4⟩ : ∃ z, z = step4 d (1 - ar) 0 (packX ls).1 ⟨no + 1, 1 - ar, (packX ls).1.length⟩ := ⟨_, rfl⟩
  have HD4 := (show Hid (D4 = step4 d (1 - ar) 0 (packX ls).1 ⟨no + 1, 1 - ar, (packX ls).1.length⟩) from hD4)
  rw [← hD4]
  obtain ⟨⟨b, pb⟩, hp⟩ : ∃ z, z = packX ls := ⟨_, rfl⟩
  have HP := (show Hid ((b, pb) = packX ls) from hp)
  rw [← hp] at HQ HD4 ⊢
  simp only at HQ HD4 ⊢
  clear hq hD4 hp
  have hl := ((Hl.refl w).new #[.bool up, .slice sa sn sc, .slice la ln lc, .int .i64 no, .int .i64 ar, .int .i64 en, .slice ea en' ec] 38).new #[.int .i64 0, .int .i64 0, .int .i64 0] 35
  rw [World.size_alloc] at hl
  obtain ⟨w0, hw0⟩ : ∃ z, z = (w.alloc (.cells #[.bool up, .slice sa sn sc, .slice la ln lc, .int .i64 no, .int .i64 ar, .int .i64 en, .slice ea en' ec] 38)).alloc (.cells #[.int .i64 0, .int .i64 0, .int .i64 0] 35) := ⟨_, rfl⟩
  have hsz : w0.heap.size = w.heap.size + 1 + 1 := by rw [hw0]; simp
  rw [← hw0] at hl
  have H0 := (show Hid (Hl w [(w.heap.size + 1, #[.int .i64 0, .int .i64 0, .int .i64 0], 35), (w.heap.size, #[.bool up, .slice sa sn sc, .slice la ln lc, .int .i64 no, .int .i64 ar, .int .i64 en, .slice ea en' ec], 38)] w0) from hl)
  have HSZ := (show Hid (w0.heap.size = w.heap.size + 1 + 1) from hsz)
  have KD := (show Hid (Below w0.heap.size w0 w0.drew) from below_drewN 1)
  have KS := (show Hid (∀ W, Below w0.heap.size w0 W → W.cell? ⟨w.heap.size, 3, none⟩ = some (.int .i64 no) ∧ W.cell? ⟨w.heap.size, 4, none⟩ = some (.int .i64 ar) ∧ W.cell? ⟨w.heap.size, 5, none⟩ = some (.int .i64 en) ∧ Below w0.heap.size w0 W) from fun W h => ⟨(rk_seven (H0.out.below h).at1).2.2.2.1, (rk_seven (H0.out.below h).at1).2.2.2.2.1, (rk_seven (H0.out.below h).at1).2.2.2.2.2.1, h⟩)
  have K1 := (show Hid (∀ X, Below w0.heap.size w0 (w0.drew.alloc X)) from fun X => KD.out.alloc (Nat.le_refl _) _)
  have K2 := (show Hid (∀ X Y, Below w0.heap.size w0 ((w0.drew.alloc X).alloc Y)) from fun X Y => (K1.out X).alloc (by rw [World.size_alloc]; exact Nat.le_succ _) _)
  have pa := ((H0.out.new #[] 34).new #[.int .i64 no, .int .i64 ar, .int .i64 en] 35).below (below_drewN 1)
  have pb := ((H0.out.new #[.int .i64 no, .int .i64 ar, .int .i64 en] 35).new #[] 34).swap.below (below_drewN 1)
  rw [World.size_alloc] at pa pb
  have PA := (show Hid _ from pa)
  have PB := (show Hid _ from pb)
  clear pa pb
  clear hl hsz
  go_enter Tryz.func35, Tryz.ntmps35
  go_upto_region 1 with fail
  rw [← hw0]
  clear hw0
  go_cut [11, 12] from 28 to 152 (fun s11 s12 wx => ∃ E T, s11 = .slice (some ⟨E, 0, none⟩) 0 0 ∧ s12 = .pointer (some ⟨T, 0, none⟩) ∧ w.heap.size + 1 < T ∧ Hl w [(T, #[.int .i64 no, .int .i64 ar, .int .i64 en], 35), (E, #[], 34), (w.heap.size + 1, #[.int .i64 0, .int .i64 0, .int .i64 0], 35), (w.heap.size, #[.bool up, .slice sa sn sc, .slice la ln lc, .int .i64 no, .int .i64 ar, .int .i64 en, .slice ea en' ec], 38)] wx)
  case first =>
    go_region_held3 (fun w' => w'.cell? ⟨w.heap.size, 3, none⟩ = some (.int .i64 no) ∧ w'.cell? ⟨w.heap.size, 4, none⟩ = some (.int .i64 ar) ∧ w'.cell? ⟨w.heap.size, 5, none⟩ = some (.int .i64 en) ∧ Below w0.heap.size w0 w')
      (first | exact KS.out _ KD.out | exact KS.out _ (K1.out _) | exact KS.out _ (K2.out _ _))
      (fail)
    all_goals go_wp2
    all_goals go_meet
    all_goals
      case rel =>
        first
          | exact ⟨_, _, rfl, rfl, (by have := HSZ.out; simp; omega), PA.out⟩
          | exact ⟨_, _, rfl, rfl, (by have := HSZ.out; simp; omega), PB.out⟩
  case rest =>
    obtain ⟨w1, rfl⟩ : ∃ z, z = wc := ⟨_, rfl⟩
    obtain ⟨E, T, rfl, rfl, hT, hc⟩ := hcut
    have H1 := (show Hid (Hl w [(T, #[.int .i64 no, .int .i64 ar, .int .i64 en], 35), (w.heap.size + 1, #[.int .i64 0, .int .i64 0, .int .i64 0], 35), (w.heap.size, #[.bool up, .slice sa sn sc, .slice la ln lc, .int .i64 no, .int .i64 ar, .int .i64 en, .slice ea en' ec], 38)] w1) from hc.sub (by simp))
    clear hc KD KS K1 K2 PA PB H0 HSZ
    cases up
    · obtain ⟨c0, c1, c2, c3, c4, c5, c6, _⟩ := rk_seven H1.out.at2
      have e1 := HQ.out
      rw [if_pos rfl] at e1
      subst e1
      go_wp2_with fail
      refine region_tail 3 (by kernel_rfl) (by kernel_rfl) ?_
      intro w8 K8 hW8 hK8
      have ne := One.any w8
      have S8 := (show Hid (Hl w [(T, #[.int .i64 no, .int .i64 ar, .int .i64 en], 35), (w.heap.size + 1, #[.int .i64 0, .int .i64 0, .int .i64 0], 35), (w.heap.size, #[.bool false, .slice sa sn sc, .slice la ln lc, .int .i64 no, .int .i64 ar, .int .i64 en, .slice ea en' ec], 38)] w8) from by rw [hW8.out]; exact H1.out.below (below_drewN 1))
      have gg := fun n : One w8 => rk_three (show n.w.heap[T]? = _ by rw [n.eq]; exact S8.out.at0)
      have g0 := fun n : One w8 => (gg n).1
      have g1 := fun n : One w8 => (gg n).2.1
      have g2 := fun n : One w8 => (gg n).2.2.1
      clear gg H1
      simp only [List.take_succ_cons, List.take_zero, List.drop_succ_cons, List.drop_zero] at hK8 ⊢
      repeat (go_big_quiet_step (fail))
      refine wpQuiet_nil ?_
      refine hK8.out _ ?_
      clear hK8 g0 g1 g2
      obtain ⟨m1, m2, m3, m4, m5, m6⟩ := rk_three S8.out.at1
      have S9 := (show Hid _ from (S8.out.swap.sub (L' := [(w.heap.size + 1, #[.int .i64 0, .int .i64 0, .int .i64 0], 35)]) (by simp)).set3 (by omega) (by simp) (.int .i64 no) (.int .i64 ar) (.int .i64 en))
      go_wp2
      refine bodyPost_ret (work_res rfl rfl rfl rfl S9.out.at0) rfl ?_
      exact ⟨_, _, _, _, _, _, rfl, (fun e => absurd e (by decide)), S9.out.1⟩
    · obtain ⟨hl1, hl2⟩ := arch_list HA.out rfl
      obtain ⟨hh, _, _, _⟩ := archB_up HA.out rfl
      have hi := headB_in hh
      have hdk := (archB_disk HA.out).1
      simp only at hl1 hl2 hi hdk
      have HDK := (show Hid (diskB d = true) from hdk)
      have HBX := (show Hid ((packX ls).2 = true → ∀ z ∈ (packX ls).1, 0 ≤ z ∧ z ≤ 255) from fun h => packX_byte h (fun p hp => by have := (hl2 p hp).2; omega))
      have HB0 := (show Hid ((packX ls).2 = false → (packX ls).1 = []) from fun h => packX_no h)
      have hbl := packX_lenS (fun p hp => (hl2 p hp).2) hl1
      have CP := (show Hid (∀ W, Below w.heap.size w W → Calls Tryz.prog 66 #[.slice ea en' ec] W fun e w' => ∃ v', e = .returned (.tuple #[v', .bool (packX ls).2]) ∧ Own W.heap.size 5 .u8 w' v' (packX ls).1 ∧ Below W.heap.size W w') from fun W bb => sindexPack_any (HE.out.below bb) (by omega) (fun p hp => by have := hl2 p hp; omega))
      have e1 := HQ.out
      rw [if_neg (by decide)] at e1
      have HQ := (show Hid _ from e1)
      rw [← HP.out] at CP HBX HB0 hbl
      simp only at CP HBX HB0 hbl
      clear hl1 hl2 hh hdk e1 HP HA HE
      obtain ⟨c0, c1, c2, c3, c4, c5, c6, _⟩ := rk_seven H1.out.at2
      obtain ⟨m1, m2, m3, m4, m5, m6⟩ := rk_three H1.out.at0
      have h2 := H1.out.set1of3 (by omega) (by simp; omega) (.int .i64 (no + 1))
      have h3 := (h2.new #[.int .i64 2, .string ⟨#[]⟩, .string ⟨#[]⟩] 100).tail
      obtain ⟨w2, hw2⟩ : ∃ z, z = (w1.setCell ⟨T, 0, none⟩ (.int .i64 (no + 1))).alloc (.cells #[.int .i64 2, .string ⟨#[]⟩, .string ⟨#[]⟩] 100) := ⟨_, rfl⟩
      rw [← hw2] at h3
      have H2 := (show Hid (Hl w [(T, #[.int .i64 (no + 1), .int .i64 ar, .int .i64 en], 35), (w.heap.size + 1, #[.int .i64 0, .int .i64 0, .int .i64 0], 35), (w.heap.size, #[.bool true, .slice sa sn sc, .slice la ln lc, .int .i64 no, .int .i64 ar, .int .i64 en, .slice ea en' ec], 38)] w2) from h3)
      clear h2 h3
      go_upto_region 13 with fail
      rw [← hw2]
      clear hw2 c0 c1 c2 c3 c4 c5 c6 m1 m2 m3 m4 m5 m6 H1
      obtain ⟨c0, c1, c2, c3, c4, c5, c6, _⟩ := rk_seven H2.out.at2
      go_wp2_with fail
      go_at_call 66
      refine Calls.mono (CP.out w2 H2.out.1) ?_
      rintro e w3 ⟨v3, rfl, o3, b3⟩
      have H3 := (show Hid (Hl w [(T, #[.int .i64 (no + 1), .int .i64 ar, .int .i64 en], 35), (w.heap.size + 1, #[.int .i64 0, .int .i64 0, .int .i64 0], 35), (w.heap.size, #[.bool true, .slice sa sn sc, .slice la ln lc, .int .i64 no, .int .i64 ar, .int .i64 en, .slice ea en' ec], 38)] w3) from H2.out.below b3)
      have O3 := (show Hid (Own w2.heap.size 5 .u8 w3 v3 b) from o3)
      obtain ⟨ua, uc, eu, _⟩ := o3.sl
      subst eu
      clear b3 o3 CP c0 c1 c2 c3 c4 c5 c6 H2
      obtain ⟨c0, c1, c2, c3, c4, c5, c6, _⟩ := rk_seven H3.out.at2
      obtain ⟨m1, m2, m3, m4, m5, m6⟩ := rk_three H3.out.at0
      have h4 := H3.out.set2of3 (by omega) (by simp; omega) (.int .i64 (1 - ar))
      have o4 := rk_set (k := 1) (u := .int .i64 (1 - ar)) O3.out H3.out.at0 (by decide)
      have h5 := h4.set3of3 (by omega) (by simp; omega) (.int .i64 (b.length : Int))
      have o5 := rk_set (k := 2) (u := .int .i64 (b.length : Int)) o4 h4.at0 (by decide)
      obtain ⟨w4, hw4⟩ : ∃ z, z = (w3.setCell ⟨T, 1, none⟩ (.int .i64 (1 - ar))).setCell ⟨T, 2, none⟩ (.int .i64 (b.length : Int)) := ⟨_, rfl⟩
      rw [← hw4] at h5 o5
      have H4 := (show Hid (Hl w [(T, #[.int .i64 (no + 1), .int .i64 (1 - ar), .int .i64 (b.length : Int)], 35), (w.heap.size + 1, #[.int .i64 0, .int .i64 0, .int .i64 0], 35), (w.heap.size, #[.bool true, .slice sa sn sc, .slice la ln lc, .int .i64 no, .int .i64 ar, .int .i64 en, .slice ea en' ec], 38)] w4) from h5)
      have O4 := (show Hid (Own w2.heap.size 5 .u8 w4 (.slice ua b.length uc) b) from o5)
      clear h4 o4 h5 o5
      go_upto_region 16 with fail
      rw [← hw4]
      clear hw4 c0 c1 c2 c3 c4 c5 c6 m1 m2 m3 m4 m5 m6 H3 O3
      obtain ⟨c0, c1, c2, c3, c4, c5, c6, _⟩ := rk_seven H4.out.at2
      obtain ⟨m1, m2, m3, m4, m5, m6⟩ := rk_three H4.out.at0
      have hby : ∀ z ∈ b, 0 ≤ z ∧ z ≤ 255 := by
        cases pb
        · have e0 : b = [] := HB0.out rfl
          rw [e0]; intro z hz; cases hz
        · exact HBX.out rfl
      have CS := sl18Steps_any (x := 1 - ar) (y := 0) (no := no + 1) (ar := 1 - ar) (en := (b.length : Int)) (HD.out.below H4.out.1) (fit_right HDK.out) O4.out.sl hby hbl
      rw [← HD4.out] at CS
      have CS := (show Hid _ from CS)
      clear hby
      obtain ⟨sb, hsb⟩ : ∃ z, z = stepsOk d (1 - ar) 0 b ⟨no + 1, 1 - ar, (b.length : Int)⟩ := ⟨_, rfl⟩
      rw [← hsb] at CS HQ
      clear hsb
      go_wp2_with fail
      go_at_call 67
      refine Calls.mono CS.out ?_
      rintro e w5 ⟨fa, fn, fc, rfl, hrow, b5⟩
      have H5 := (show Hid (Hl w [(T, #[.int .i64 (no + 1), .int .i64 (1 - ar), .int .i64 (b.length : Int)], 35), (w.heap.size + 1, #[.int .i64 0, .int .i64 0, .int .i64 0], 35), (w.heap.size, #[.bool true, .slice sa sn sc, .slice la ln lc, .int .i64 no, .int .i64 ar, .int .i64 en, .slice ea en' ec], 38)] w5) from H4.out.below b5)
      have RR := (show Hid (sb = true → StepsRow w.heap.size w5 (.slice fa fn fc) D4) from fun h => StepsRow.base (hrow h) H4.out.1.size)
      clear b5 hrow CS c0 c1 c2 c3 c4 c5 c6 m1 m2 m3 m4 m5 m6 H4 O4
      cases pb
      · have e1 := HQ.out
        rw [if_pos rfl] at e1
        subst e1
        go_wp2_with fail
        refine region_tail 3 (by kernel_rfl) (by kernel_rfl) ?_
        intro w8 K8 hW8 hK8
        have ne := One.any w8
        have S8 := (show Hid (Hl w [(T, #[.int .i64 (no + 1), .int .i64 (1 - ar), .int .i64 (b.length : Int)], 35), (w.heap.size + 1, #[.int .i64 0, .int .i64 0, .int .i64 0], 35), (w.heap.size, #[.bool true, .slice sa sn sc, .slice la ln lc, .int .i64 no, .int .i64 ar, .int .i64 en, .slice ea en' ec], 38)] w8) from by rw [hW8.out]; exact H5.out.below (below_drewN 1))
        have gg := fun n : One w8 => rk_three (show n.w.heap[T]? = _ by rw [n.eq]; exact S8.out.at0)
        have g0 := fun n : One w8 => (gg n).1
        have g1 := fun n : One w8 => (gg n).2.1
        have g2 := fun n : One w8 => (gg n).2.2.1
        clear gg H5
        simp only [List.take_succ_cons, List.take_zero, List.drop_succ_cons, List.drop_zero] at hK8 ⊢
        repeat (go_big_quiet_step (fail))
        refine wpQuiet_nil ?_
        refine hK8.out _ ?_
        clear hK8 g0 g1 g2
        obtain ⟨m1, m2, m3, m4, m5, m6⟩ := rk_three S8.out.at1
        have S9 := (show Hid _ from (S8.out.swap.sub (L' := [(w.heap.size + 1, #[.int .i64 0, .int .i64 0, .int .i64 0], 35)]) (by simp)).set3 (by omega) (by simp) (.int .i64 (no + 1)) (.int .i64 (1 - ar)) (.int .i64 (b.length : Int)))
        go_wp2
        refine bodyPost_ret (work_res rfl rfl rfl rfl S9.out.at0) rfl ?_
        exact ⟨_, _, _, _, _, _, rfl, (fun e => absurd e (by decide)), S9.out.1⟩
      · cases sb
        · have e1 := HQ.out
          rw [if_neg (by decide), if_pos rfl] at e1
          subst e1
          go_wp2_with fail
          refine region_tail 3 (by kernel_rfl) (by kernel_rfl) ?_
          intro w8 K8 hW8 hK8
          have ne := One.any w8
          have S8 := (show Hid (Hl w [(T, #[.int .i64 (no + 1), .int .i64 (1 - ar), .int .i64 (b.length : Int)], 35), (w.heap.size + 1, #[.int .i64 0, .int .i64 0, .int .i64 0], 35), (w.heap.size, #[.bool true, .slice sa sn sc, .slice la ln lc, .int .i64 no, .int .i64 ar, .int .i64 en, .slice ea en' ec], 38)] w8) from by rw [hW8.out]; exact H5.out.below (below_drewN 1))
          have gg := fun n : One w8 => rk_three (show n.w.heap[T]? = _ by rw [n.eq]; exact S8.out.at0)
          have g0 := fun n : One w8 => (gg n).1
          have g1 := fun n : One w8 => (gg n).2.1
          have g2 := fun n : One w8 => (gg n).2.2.1
          clear gg H5
          simp only [List.take_succ_cons, List.take_zero, List.drop_succ_cons, List.drop_zero] at hK8 ⊢
          repeat (go_big_quiet_step (fail))
          refine wpQuiet_nil ?_
          refine hK8.out _ ?_
          clear hK8 g0 g1 g2
          obtain ⟨m1, m2, m3, m4, m5, m6⟩ := rk_three S8.out.at1
          have S9 := (show Hid _ from (S8.out.swap.sub (L' := [(w.heap.size + 1, #[.int .i64 0, .int .i64 0, .int .i64 0], 35)]) (by simp)).set3 (by omega) (by simp) (.int .i64 (no + 1)) (.int .i64 (1 - ar)) (.int .i64 (b.length : Int)))
          go_wp2
          refine bodyPost_ret (work_res rfl rfl rfl rfl S9.out.at0) rfl ?_
          exact ⟨_, _, _, _, _, _, rfl, (fun e => absurd e (by decide)), S9.out.1⟩
        · have e1 := HQ.out
          rw [if_neg (by decide), if_neg (by decide)] at e1
          subst e1
          have RW := (show Hid (StepsRow w.heap.size w5 (.slice fa fn fc) D4) from RR.out rfl)
          go_wp2_with fail
          refine region_tail 3 (by kernel_rfl) (by kernel_rfl) ?_
          intro w8 K8 hW8 hK8
          have ne := One.any w8
          have S8 := (show Hid (Hl w [(T, #[.int .i64 (no + 1), .int .i64 (1 - ar), .int .i64 (b.length : Int)], 35), (w.heap.size + 1, #[.int .i64 0, .int .i64 0, .int .i64 0], 35), (w.heap.size, #[.bool true, .slice sa sn sc, .slice la ln lc, .int .i64 no, .int .i64 ar, .int .i64 en, .slice ea en' ec], 38)] w8) from by rw [hW8.out]; exact H5.out.below (below_drewN 1))
          have R8 := (show Hid (StepsRow w.heap.size w8 (.slice fa fn fc) D4) from by rw [hW8.out]; exact StepsRow.below RW.out (below_drewN 1))
          have gg := fun n : One w8 => rk_three (show n.w.heap[T]? = _ by rw [n.eq]; exact S8.out.at0)
          have g0 := fun n : One w8 => (gg n).1
          have g1 := fun n : One w8 => (gg n).2.1
          have g2 := fun n : One w8 => (gg n).2.2.1
          clear gg H5
          simp only [List.take_succ_cons, List.take_zero, List.drop_succ_cons, List.drop_zero] at hK8 ⊢
          repeat (go_big_quiet_step (fail))
          refine wpQuiet_nil ?_
          refine hK8.out _ ?_
          clear hK8 g0 g1 g2
          obtain ⟨m1, m2, m3, m4, m5, m6⟩ := rk_three S8.out.at1
          have S9 := (show Hid _ from (S8.out.swap.sub (L' := [(w.heap.size + 1, #[.int .i64 0, .int .i64 0, .int .i64 0], 35)]) (by simp)).set3 (by omega) (by simp) (.int .i64 (no + 1)) (.int .i64 (1 - ar)) (.int .i64 (b.length : Int)))
          have R9 := (show Hid _ from StepsRow.set3 (x' := .int .i64 (no + 1)) (y' := .int .i64 (1 - ar)) (z' := .int .i64 (b.length : Int)) R8.out S8.out.at1)
          go_wp2
          refine bodyPost_ret (work_res rfl rfl rfl rfl S9.out.at0) rfl ?_
          exact ⟨_, _, _, _, _, _, rfl, fun _ => ⟨rfl, R9.out⟩, S9.out.1⟩

set_option maxHeartbeats 4000000 in
set_option maxRecDepth 100000 in
theorem sl18WorkD_any {w : World} {v u3 : Value} {a : PArch} {u : ByteArray} (h : ArAt w v a) (hA : archB a = true) (hul : u.size ≤ 1099511627776) :
    Calls Tryz.prog 35 #[v, .int .i64 2, .string u, u3] w fun e w' => WorkOut w (dropQ u a) ⟨a.head.no + 1, a.head.area, a.head.en + (recL (dropR u)).length⟩ (step4 a.disk a.head.area a.head.en (recL (dropR u)) ⟨a.head.no + 1, a.head.area, a.head.en + (recL (dropR u)).length⟩) e w' := by
  obtain ⟨up, d, ⟨no, ar, en⟩, ls⟩ := a
  obtain ⟨sa, sn, sc, la, ln, lc, ea, en', ec, rfl, h1, h2⟩ := h
  simp only at h1 h2
  have HD := (show Hid (DiskAt w (.agg #[.slice sa sn sc, .slice la ln lc]) d) from h1)
  have HE := (show Hid (Sv 2 w (.slice ea en' ec) (pairCells ls)) from h2)
  have HA := (show Hid (archB ⟨up, d, ⟨no, ar, en⟩, ls⟩ = true) from hA)
  clear h1 h2 hA
  have HQ := (show Hid (dropQ u ⟨up, d, ⟨no, ar, en⟩, ls⟩ = if up = false then 2 else if urlB u = false then 3 else if (attrOf ls u).2 = false then 6 else if stepsOk d ar en (recL (dropR u)) ⟨no + 1, ar, en + (recL (dropR u)).length⟩ = false then 5 else 0) from (show _ = _ from rfl))
  obtain ⟨q, hq⟩ : ∃ z, z = dropQ u ⟨up, d, ⟨no, ar, en⟩, ls⟩ := ⟨_, rfl⟩
  rw [← hq] at HQ
  rw [← hq]
  simp only
  obtain ⟨D4, hD4⟩ : ∃ z, z = step4 d ar en (recL (dropR u)) ⟨no + 1, ar, en + (recL (dropR u)).length⟩ := ⟨_, rfl⟩
  have HD4 := (show Hid (D4 = step4 d ar en (recL (dropR u)) ⟨no + 1, ar, en + (recL (dropR u)).length⟩) from hD4)
  rw [← hD4]
  obtain ⟨b, hp⟩ : ∃ z, z = (recL (dropR u)) := ⟨_, rfl⟩
  have HP := (show Hid (b = (recL (dropR u))) from hp)
  rw [← hp] at HQ HD4 ⊢
  obtain ⟨ub, hub⟩ : ∃ z, z = urlB u := ⟨_, rfl⟩
  have HUB := (show Hid (ub = urlB u) from hub)
  rw [← hub] at HQ
  obtain ⟨⟨fs, fb⟩, hfd⟩ : ∃ z, z = attrOf ls u := ⟨_, rfl⟩
  have HFD := (show Hid ((fs, fb) = attrOf ls u) from hfd)
  rw [← hfd] at HQ
  simp only at HQ
  clear hq hD4 hp hub hfd
  have hl := ((Hl.refl w).new #[.bool up, .slice sa sn sc, .slice la ln lc, .int .i64 no, .int .i64 ar, .int .i64 en, .slice ea en' ec] 38).new #[.int .i64 0, .int .i64 0, .int .i64 0] 35
  rw [World.size_alloc] at hl
  obtain ⟨w0, hw0⟩ : ∃ z, z = (w.alloc (.cells #[.bool up, .slice sa sn sc, .slice la ln lc, .int .i64 no, .int .i64 ar, .int .i64 en, .slice ea en' ec] 38)).alloc (.cells #[.int .i64 0, .int .i64 0, .int .i64 0] 35) := ⟨_, rfl⟩
  have hsz : w0.heap.size = w.heap.size + 1 + 1 := by rw [hw0]; simp
  rw [← hw0] at hl
  have H0 := (show Hid (Hl w [(w.heap.size + 1, #[.int .i64 0, .int .i64 0, .int .i64 0], 35), (w.heap.size, #[.bool up, .slice sa sn sc, .slice la ln lc, .int .i64 no, .int .i64 ar, .int .i64 en, .slice ea en' ec], 38)] w0) from hl)
  have HSZ := (show Hid (w0.heap.size = w.heap.size + 1 + 1) from hsz)
  have KD := (show Hid (Below w0.heap.size w0 w0.drew) from below_drewN 1)
  have KS := (show Hid (∀ W, Below w0.heap.size w0 W → W.cell? ⟨w.heap.size, 3, none⟩ = some (.int .i64 no) ∧ W.cell? ⟨w.heap.size, 4, none⟩ = some (.int .i64 ar) ∧ W.cell? ⟨w.heap.size, 5, none⟩ = some (.int .i64 en) ∧ Below w0.heap.size w0 W) from fun W h => ⟨(rk_seven (H0.out.below h).at1).2.2.2.1, (rk_seven (H0.out.below h).at1).2.2.2.2.1, (rk_seven (H0.out.below h).at1).2.2.2.2.2.1, h⟩)
  have K1 := (show Hid (∀ X, Below w0.heap.size w0 (w0.drew.alloc X)) from fun X => KD.out.alloc (Nat.le_refl _) _)
  have K2 := (show Hid (∀ X Y, Below w0.heap.size w0 ((w0.drew.alloc X).alloc Y)) from fun X Y => (K1.out X).alloc (by rw [World.size_alloc]; exact Nat.le_succ _) _)
  have pa := ((H0.out.new #[] 34).new #[.int .i64 no, .int .i64 ar, .int .i64 en] 35).below (below_drewN 1)
  have pb := ((H0.out.new #[.int .i64 no, .int .i64 ar, .int .i64 en] 35).new #[] 34).swap.below (below_drewN 1)
  rw [World.size_alloc] at pa pb
  have PA := (show Hid _ from pa)
  have PB := (show Hid _ from pb)
  clear pa pb
  clear hl hsz
  go_enter Tryz.func35, Tryz.ntmps35
  go_upto_region 1 with fail
  rw [← hw0]
  clear hw0
  go_cut [11, 12] from 28 to 152 (fun s11 s12 wx => ∃ E T, s11 = .slice (some ⟨E, 0, none⟩) 0 0 ∧ s12 = .pointer (some ⟨T, 0, none⟩) ∧ w.heap.size + 1 < T ∧ Hl w [(T, #[.int .i64 no, .int .i64 ar, .int .i64 en], 35), (E, #[], 34), (w.heap.size + 1, #[.int .i64 0, .int .i64 0, .int .i64 0], 35), (w.heap.size, #[.bool up, .slice sa sn sc, .slice la ln lc, .int .i64 no, .int .i64 ar, .int .i64 en, .slice ea en' ec], 38)] wx)
  case first =>
    go_region_held3 (fun w' => w'.cell? ⟨w.heap.size, 3, none⟩ = some (.int .i64 no) ∧ w'.cell? ⟨w.heap.size, 4, none⟩ = some (.int .i64 ar) ∧ w'.cell? ⟨w.heap.size, 5, none⟩ = some (.int .i64 en) ∧ Below w0.heap.size w0 w')
      (first | exact KS.out _ KD.out | exact KS.out _ (K1.out _) | exact KS.out _ (K2.out _ _))
      (fail)
    all_goals go_wp2
    all_goals go_meet
    all_goals
      case rel =>
        first
          | exact ⟨_, _, rfl, rfl, (by have := HSZ.out; simp; omega), PA.out⟩
          | exact ⟨_, _, rfl, rfl, (by have := HSZ.out; simp; omega), PB.out⟩
  case rest =>
    obtain ⟨w1, rfl⟩ : ∃ z, z = wc := ⟨_, rfl⟩
    obtain ⟨E, T, rfl, rfl, hT, hc⟩ := hcut
    have H1 := (show Hid (Hl w [(T, #[.int .i64 no, .int .i64 ar, .int .i64 en], 35), (w.heap.size + 1, #[.int .i64 0, .int .i64 0, .int .i64 0], 35), (w.heap.size, #[.bool up, .slice sa sn sc, .slice la ln lc, .int .i64 no, .int .i64 ar, .int .i64 en, .slice ea en' ec], 38)] w1) from hc.sub (by simp))
    clear hc KD KS K1 K2 PA PB H0 HSZ
    cases up
    · obtain ⟨c0, c1, c2, c3, c4, c5, c6, _⟩ := rk_seven H1.out.at2
      have e1 := HQ.out
      rw [if_pos rfl] at e1
      subst e1
      go_wp2_with fail
      refine region_tail 3 (by kernel_rfl) (by kernel_rfl) ?_
      intro w8 K8 hW8 hK8
      have ne := One.any w8
      have S8 := (show Hid (Hl w [(T, #[.int .i64 no, .int .i64 ar, .int .i64 en], 35), (w.heap.size + 1, #[.int .i64 0, .int .i64 0, .int .i64 0], 35), (w.heap.size, #[.bool false, .slice sa sn sc, .slice la ln lc, .int .i64 no, .int .i64 ar, .int .i64 en, .slice ea en' ec], 38)] w8) from by rw [hW8.out]; exact H1.out.below (below_drewN 1))
      have gg := fun n : One w8 => rk_three (show n.w.heap[T]? = _ by rw [n.eq]; exact S8.out.at0)
      have g0 := fun n : One w8 => (gg n).1
      have g1 := fun n : One w8 => (gg n).2.1
      have g2 := fun n : One w8 => (gg n).2.2.1
      clear gg H1
      simp only [List.take_succ_cons, List.take_zero, List.drop_succ_cons, List.drop_zero] at hK8 ⊢
      repeat (go_big_quiet_step (fail))
      refine wpQuiet_nil ?_
      refine hK8.out _ ?_
      clear hK8 g0 g1 g2
      obtain ⟨m1, m2, m3, m4, m5, m6⟩ := rk_three S8.out.at1
      have S9 := (show Hid _ from (S8.out.swap.sub (L' := [(w.heap.size + 1, #[.int .i64 0, .int .i64 0, .int .i64 0], 35)]) (by simp)).set3 (by omega) (by simp) (.int .i64 no) (.int .i64 ar) (.int .i64 en))
      go_wp2
      refine bodyPost_ret (work_res rfl rfl rfl rfl S9.out.at0) rfl ?_
      exact ⟨_, _, _, _, _, _, rfl, (fun e => absurd e (by decide)), S9.out.1⟩
    · obtain ⟨hl1, hl2⟩ := arch_list HA.out rfl
      obtain ⟨hh, _, _, _⟩ := archB_up HA.out rfl
      have hi := headB_in hh
      have hdk := (archB_disk HA.out).1
      simp only at hl1 hl2 hi hdk
      have HDK := (show Hid (diskB d = true) from hdk)
      have CU := (show Hid (∀ W, Calls Tryz.prog 68 #[.string u] W fun e w' => e = .returned (.bool ub) ∧ w' = W) from fun W => by rw [HUB.out]; exact surlOk_any u W hul)
      have CF := (show Hid (∀ W, Below w.heap.size w W → Calls Tryz.prog 71 #[.slice ea en' ec, .string u] W fun e w' => e = .returned (.tuple #[.string fs, .bool fb]) ∧ w' = W) from fun W bb => by
        have := sindexFind_any (HE.out.below bb) u (by omega)
        rw [← HFD.out] at this
        exact this)
      have HUZ := (show Hid (ub = true → recB (dropR u) = true ∧ u.size ≤ 60) from fun h => by
        rw [HUB.out] at h
        refine ⟨drop_recB h, ?_⟩
        simp only [urlB, inB, Bool.and_eq_true, decide_eq_true_eq] at h
        omega)
      have e1 := HQ.out
      rw [if_neg (by decide)] at e1
      have HQ := (show Hid _ from e1)
      clear hl1 hl2 hh hdk e1 HA HE HUB HFD
      obtain ⟨c0, c1, c2, c3, c4, c5, c6, _⟩ := rk_seven H1.out.at2
      obtain ⟨m1, m2, m3, m4, m5, m6⟩ := rk_three H1.out.at0
      have h2 := H1.out.set1of3 (by omega) (by simp; omega) (.int .i64 (no + 1))
      have h3 := h2.new #[.int .i64 2, .string u, .string ⟨#[]⟩] 100
      have hTl := h2.lt (List.mem_cons_self ..)
      have hAl := h2.lt (p := (w.heap.size + 1, #[.int .i64 0, .int .i64 0, .int .i64 0], 35)) (by simp)
      obtain ⟨R, hR⟩ : ∃ z, z = (w1.setCell ⟨T, 0, none⟩ (.int .i64 (no + 1))).heap.size := ⟨_, rfl⟩
      have hRs : w1.heap.size = R := by rw [hR]; simp [World.setCell]
      obtain ⟨w2, hw2⟩ : ∃ z, z = (w1.setCell ⟨T, 0, none⟩ (.int .i64 (no + 1))).alloc (.cells #[.int .i64 2, .string u, .string ⟨#[]⟩] 100) := ⟨_, rfl⟩
      rw [← hw2, ← hR] at h3
      rw [← hR] at hTl hAl
      have HRT := (show Hid (T < R ∧ w.heap.size + 1 < R) from ⟨hTl, hAl⟩)
      have HRS := (show Hid (w1.heap.size = R) from hRs)
      have H2 := (show Hid (Hl w [(T, #[.int .i64 (no + 1), .int .i64 ar, .int .i64 en], 35), (w.heap.size + 1, #[.int .i64 0, .int .i64 0, .int .i64 0], 35), (R, #[.int .i64 2, .string u, .string ⟨#[]⟩], 100), (w.heap.size, #[.bool true, .slice sa sn sc, .slice la ln lc, .int .i64 no, .int .i64 ar, .int .i64 en, .slice ea en' ec], 38)] w2) from h3.sub (by simp))
      clear h2 h3 hR hTl hAl hRs
      go_upto_region 7 with fail
      rw [← hw2, HRS.out]
      clear hw2 c0 c1 c2 c3 c4 c5 c6 m1 m2 m3 m4 m5 m6 H1 HRS
      go_wp2_with fail
      go_at_call 68
      refine Calls.mono (CU.out w2) ?_
      rintro e w3 ⟨rfl, ew⟩
      have ew := ew.symm
      subst ew
      cases ub
      · have e1 := HQ.out
        rw [if_pos rfl] at e1
        subst e1
        go_wp2_with fail
        refine region_tail 3 (by kernel_rfl) (by kernel_rfl) ?_
        intro w8 K8 hW8 hK8
        have ne := One.any w8
        have S8 := (show Hid (Hl w [(T, #[.int .i64 (no + 1), .int .i64 ar, .int .i64 en], 35), (w.heap.size + 1, #[.int .i64 0, .int .i64 0, .int .i64 0], 35), (R, #[.int .i64 2, .string u, .string ⟨#[]⟩], 100), (w.heap.size, #[.bool true, .slice sa sn sc, .slice la ln lc, .int .i64 no, .int .i64 ar, .int .i64 en, .slice ea en' ec], 38)] w8) from by rw [hW8.out]; exact H2.out.below (below_drewN 1))
        have gg := fun n : One w8 => rk_three (show n.w.heap[T]? = _ by rw [n.eq]; exact S8.out.at0)
        have g0 := fun n : One w8 => (gg n).1
        have g1 := fun n : One w8 => (gg n).2.1
        have g2 := fun n : One w8 => (gg n).2.2.1
        clear gg H2
        simp only [List.take_succ_cons, List.take_zero, List.drop_succ_cons, List.drop_zero] at hK8 ⊢
        repeat (go_big_quiet_step (fail))
        refine wpQuiet_nil ?_
        refine hK8.out _ ?_
        clear hK8 g0 g1 g2
        obtain ⟨m1, m2, m3, m4, m5, m6⟩ := rk_three S8.out.at1
        have S9 := (show Hid _ from (S8.out.swap.sub (L' := [(w.heap.size + 1, #[.int .i64 0, .int .i64 0, .int .i64 0], 35)]) (by simp)).set3 (by omega) (by simp) (.int .i64 (no + 1)) (.int .i64 ar) (.int .i64 en))
        go_wp2
        refine bodyPost_ret (work_res rfl rfl rfl rfl S9.out.at0) rfl ?_
        exact ⟨_, _, _, _, _, _, rfl, (fun e => absurd e (by decide)), S9.out.1⟩
      · have e1 := HQ.out
        rw [if_neg (by decide)] at e1
        have HQ := (show Hid _ from e1)
        obtain ⟨hrb, hus⟩ := HUZ.out rfl
        have hP : packR (dropR u) = (b, true) := by rw [HP.out, packR, if_pos hrb]
        have CP := fun W => srecPack_any (dropR u) W (show u.size ≤ 1099511627776 by omega) (show (0 : Nat) ≤ 1099511627776 by omega)
        rw [hP] at CP
        have CP := (show Hid (∀ W, Calls Tryz.prog 72 #[.agg #[.int .i64 2, .string u, .string ⟨#[]⟩]] W fun e w' => ∃ v, e = .returned (.tuple #[v, .bool true]) ∧ Own W.heap.size 5 .u8 w' v b ∧ Below W.heap.size W w') from CP)
        have hby : ∀ z ∈ b, 0 ≤ z ∧ z ≤ 255 := by rw [HP.out]; exact recL_byte hrb (show (dropR u).body.size ≤ 1048576 from Nat.zero_le _)
        have hbl : b.length ≤ 1048576 := by rw [HP.out]; exact drop_len hus
        have HBY := (show Hid _ from hby)
        clear e1 hrb hus hP hby HUZ HP
        obtain ⟨c0, c1, c2, c3, c4, c5, c6, _⟩ := rk_seven (H2.out.at3)
        go_wp2_with fail
        go_at_call 71
        refine Calls.mono (CF.out w2 H2.out.1) ?_
        rintro e w3 ⟨rfl, ew⟩
        have ew := ew.symm
        subst ew
        clear c0 c1 c2 c3 c4 c5 c6
        cases fb
        · have e1 := HQ.out
          rw [if_pos rfl] at e1
          subst e1
          go_wp2_with fail
          refine region_tail 3 (by kernel_rfl) (by kernel_rfl) ?_
          intro w8 K8 hW8 hK8
          have ne := One.any w8
          have S8 := (show Hid (Hl w [(T, #[.int .i64 (no + 1), .int .i64 ar, .int .i64 en], 35), (w.heap.size + 1, #[.int .i64 0, .int .i64 0, .int .i64 0], 35), (R, #[.int .i64 2, .string u, .string ⟨#[]⟩], 100), (w.heap.size, #[.bool true, .slice sa sn sc, .slice la ln lc, .int .i64 no, .int .i64 ar, .int .i64 en, .slice ea en' ec], 38)] w8) from by rw [hW8.out]; exact H2.out.below (below_drewN 1))
          have gg := fun n : One w8 => rk_three (show n.w.heap[T]? = _ by rw [n.eq]; exact S8.out.at0)
          have g0 := fun n : One w8 => (gg n).1
          have g1 := fun n : One w8 => (gg n).2.1
          have g2 := fun n : One w8 => (gg n).2.2.1
          clear gg H2
          simp only [List.take_succ_cons, List.take_zero, List.drop_succ_cons, List.drop_zero] at hK8 ⊢
          repeat (go_big_quiet_step (fail))
          refine wpQuiet_nil ?_
          refine hK8.out _ ?_
          clear hK8 g0 g1 g2
          obtain ⟨m1, m2, m3, m4, m5, m6⟩ := rk_three S8.out.at1
          have S9 := (show Hid _ from (S8.out.swap.sub (L' := [(w.heap.size + 1, #[.int .i64 0, .int .i64 0, .int .i64 0], 35)]) (by simp)).set3 (by omega) (by simp) (.int .i64 (no + 1)) (.int .i64 ar) (.int .i64 en))
          go_wp2
          refine bodyPost_ret (work_res rfl rfl rfl rfl S9.out.at0) rfl ?_
          exact ⟨_, _, _, _, _, _, rfl, (fun e => absurd e (by decide)), S9.out.1⟩
        · have e1 := HQ.out
          rw [if_neg (by decide)] at e1
          have HQ := (show Hid _ from e1)
          clear e1
          obtain ⟨r1, r2, r3, _⟩ := rk_three H2.out.at2
          go_wp2_with fail
          go_at_call 72
          refine Calls.mono (CP.out w2) ?_
          rintro e w3 ⟨v3, rfl, o3, b3⟩
          have H3 := (show Hid (Hl w [(T, #[.int .i64 (no + 1), .int .i64 ar, .int .i64 en], 35), (w.heap.size + 1, #[.int .i64 0, .int .i64 0, .int .i64 0], 35), (R, #[.int .i64 2, .string u, .string ⟨#[]⟩], 100), (w.heap.size, #[.bool true, .slice sa sn sc, .slice la ln lc, .int .i64 no, .int .i64 ar, .int .i64 en, .slice ea en' ec], 38)] w3) from H2.out.below b3)
          have O3 := (show Hid (Own w2.heap.size 5 .u8 w3 v3 b) from o3)
          obtain ⟨ua, uc, eu, _⟩ := o3.sl
          subst eu
          clear b3 o3 CP r1 r2 r3 H2
          obtain ⟨c0, c1, c2, c3, c4, c5, c6, _⟩ := rk_seven H3.out.at3
          obtain ⟨m1, m2, m3, m4, m5, m6⟩ := rk_three H3.out.at0
          have hTR := HRT.out
          have h5 := H3.out.set3of3 (by omega) (by simp; omega) (.int .i64 (en + (b.length : Int)))
          have o5 := rk_set (k := 2) (u := .int .i64 (en + (b.length : Int))) O3.out H3.out.at0 (by decide)
          obtain ⟨w4, hw4⟩ : ∃ z, z = w3.setCell ⟨T, 2, none⟩ (.int .i64 (en + (b.length : Int))) := ⟨_, rfl⟩
          rw [← hw4] at h5 o5
          have H4 := (show Hid (Hl w [(T, #[.int .i64 (no + 1), .int .i64 ar, .int .i64 (en + (b.length : Int))], 35), (w.heap.size + 1, #[.int .i64 0, .int .i64 0, .int .i64 0], 35), (R, #[.int .i64 2, .string u, .string ⟨#[]⟩], 100), (w.heap.size, #[.bool true, .slice sa sn sc, .slice la ln lc, .int .i64 no, .int .i64 ar, .int .i64 en, .slice ea en' ec], 38)] w4) from h5)
          have O4 := (show Hid (Own w2.heap.size 5 .u8 w4 (.slice ua b.length uc) b) from o5)
          clear h5 o5 hTR
          go_upto_region 30 with fail
          rw [← hw4]
          clear hw4 c0 c1 c2 c3 c4 c5 c6 m1 m2 m3 m4 m5 m6 H3 O3
          obtain ⟨c0, c1, c2, c3, c4, c5, c6, _⟩ := rk_seven H4.out.at3
          obtain ⟨m1, m2, m3, m4, m5, m6⟩ := rk_three H4.out.at0
          have CS := sl18Steps_any (x := ar) (y := en) (no := no + 1) (ar := ar) (en := en + (b.length : Int)) (HD.out.below H4.out.1) (fit_right HDK.out) O4.out.sl HBY.out (by omega)
          rw [← HD4.out] at CS
          have CS := (show Hid _ from CS)
          obtain ⟨sb, hsb⟩ : ∃ z, z = stepsOk d ar en b ⟨no + 1, ar, en + (b.length : Int)⟩ := ⟨_, rfl⟩
          rw [← hsb] at CS HQ
          clear hsb
          go_wp2_with fail
          go_at_call 67
          refine Calls.mono CS.out ?_
          rintro e w5 ⟨fa, fn, fc, rfl, hrow, b5⟩
          have H5 := (show Hid (Hl w [(T, #[.int .i64 (no + 1), .int .i64 ar, .int .i64 (en + (b.length : Int))], 35), (w.heap.size + 1, #[.int .i64 0, .int .i64 0, .int .i64 0], 35), (R, #[.int .i64 2, .string u, .string ⟨#[]⟩], 100), (w.heap.size, #[.bool true, .slice sa sn sc, .slice la ln lc, .int .i64 no, .int .i64 ar, .int .i64 en, .slice ea en' ec], 38)] w5) from H4.out.below b5)
          have RR := (show Hid (sb = true → StepsRow w.heap.size w5 (.slice fa fn fc) D4) from fun h => StepsRow.base (hrow h) H4.out.1.size)
          clear b5 hrow CS c0 c1 c2 c3 c4 c5 c6 m1 m2 m3 m4 m5 m6 H4 O4
          cases sb
          · have e1 := HQ.out
            rw [if_pos rfl] at e1
            subst e1
            go_wp2_with fail
            refine region_tail 3 (by kernel_rfl) (by kernel_rfl) ?_
            intro w8 K8 hW8 hK8
            have ne := One.any w8
            have S8 := (show Hid (Hl w [(T, #[.int .i64 (no + 1), .int .i64 ar, .int .i64 (en + (b.length : Int))], 35), (w.heap.size + 1, #[.int .i64 0, .int .i64 0, .int .i64 0], 35), (R, #[.int .i64 2, .string u, .string ⟨#[]⟩], 100), (w.heap.size, #[.bool true, .slice sa sn sc, .slice la ln lc, .int .i64 no, .int .i64 ar, .int .i64 en, .slice ea en' ec], 38)] w8) from by rw [hW8.out]; exact H5.out.below (below_drewN 1))
            have gg := fun n : One w8 => rk_three (show n.w.heap[T]? = _ by rw [n.eq]; exact S8.out.at0)
            have g0 := fun n : One w8 => (gg n).1
            have g1 := fun n : One w8 => (gg n).2.1
            have g2 := fun n : One w8 => (gg n).2.2.1
            clear gg H5
            simp only [List.take_succ_cons, List.take_zero, List.drop_succ_cons, List.drop_zero] at hK8 ⊢
            repeat (go_big_quiet_step (fail))
            refine wpQuiet_nil ?_
            refine hK8.out _ ?_
            clear hK8 g0 g1 g2
            obtain ⟨m1, m2, m3, m4, m5, m6⟩ := rk_three S8.out.at1
            have S9 := (show Hid _ from (S8.out.swap.sub (L' := [(w.heap.size + 1, #[.int .i64 0, .int .i64 0, .int .i64 0], 35)]) (by simp)).set3 (by omega) (by simp) (.int .i64 (no + 1)) (.int .i64 ar) (.int .i64 (en + (b.length : Int))))
            go_wp2
            refine bodyPost_ret (work_res rfl rfl rfl rfl S9.out.at0) rfl ?_
            exact ⟨_, _, _, _, _, _, rfl, (fun e => absurd e (by decide)), S9.out.1⟩
          · have e1 := HQ.out
            rw [if_neg (by decide)] at e1
            subst e1
            have RW := (show Hid (StepsRow w.heap.size w5 (.slice fa fn fc) D4) from RR.out rfl)
            go_wp2_with fail
            refine region_tail 3 (by kernel_rfl) (by kernel_rfl) ?_
            intro w8 K8 hW8 hK8
            have ne := One.any w8
            have S8 := (show Hid (Hl w [(T, #[.int .i64 (no + 1), .int .i64 ar, .int .i64 (en + (b.length : Int))], 35), (w.heap.size + 1, #[.int .i64 0, .int .i64 0, .int .i64 0], 35), (R, #[.int .i64 2, .string u, .string ⟨#[]⟩], 100), (w.heap.size, #[.bool true, .slice sa sn sc, .slice la ln lc, .int .i64 no, .int .i64 ar, .int .i64 en, .slice ea en' ec], 38)] w8) from by rw [hW8.out]; exact H5.out.below (below_drewN 1))
            have R8 := (show Hid (StepsRow w.heap.size w8 (.slice fa fn fc) D4) from by rw [hW8.out]; exact StepsRow.below RW.out (below_drewN 1))
            have gg := fun n : One w8 => rk_three (show n.w.heap[T]? = _ by rw [n.eq]; exact S8.out.at0)
            have g0 := fun n : One w8 => (gg n).1
            have g1 := fun n : One w8 => (gg n).2.1
            have g2 := fun n : One w8 => (gg n).2.2.1
            clear gg H5
            simp only [List.take_succ_cons, List.take_zero, List.drop_succ_cons, List.drop_zero] at hK8 ⊢
            repeat (go_big_quiet_step (fail))
            refine wpQuiet_nil ?_
            refine hK8.out _ ?_
            clear hK8 g0 g1 g2
            obtain ⟨m1, m2, m3, m4, m5, m6⟩ := rk_three S8.out.at1
            have S9 := (show Hid _ from (S8.out.swap.sub (L' := [(w.heap.size + 1, #[.int .i64 0, .int .i64 0, .int .i64 0], 35)]) (by simp)).set3 (by omega) (by simp) (.int .i64 (no + 1)) (.int .i64 ar) (.int .i64 (en + (b.length : Int))))
            have R9 := (show Hid _ from StepsRow.set3 (x' := .int .i64 (no + 1)) (y' := .int .i64 ar) (z' := .int .i64 (en + (b.length : Int))) R8.out S8.out.at1)
            go_wp2
            refine bodyPost_ret (work_res rfl rfl rfl rfl S9.out.at0) rfl ?_
            exact ⟨_, _, _, _, _, _, rfl, fun _ => ⟨rfl, R9.out⟩, S9.out.1⟩
end Go.Proofs.YtjokajblihaphaaGreatDoor

/- The specification's l18Done, ArchiveDrop, ArchiveCompact (written by mk/sstep3.py). No condition. -/
namespace Go.Proofs.YtjokajblihaphaaGreatDoor
open Go.RowKit
set_option maxRecDepth 100000
set_option linter.unusedVariables false

theorem grown_cellS {w w' : World} {g b k : Nat} (h : w.grownBy w' (some g)) (hne : b ≠ g) (hb : b < w.heap.size) : w'.cell? ⟨b, k, none⟩ = w.cell? ⟨b, k, none⟩ := World.cell?_of_block (h.block _ hb (fun e => hne (Option.some.inj e)))
/-- What l18Done answers, from l18Work's code, head and last disk. -/
def doneA (a : PArch) (q : Int) (h : PHead) (d : PDisk) : PArch × Int := if archB a = false then (zeroA, 1) else if q = 0 then (⟨true, d, h, indexA d h⟩, 0) else (a, q)
theorem row_four {B : Nat} {W : World} {t : TypeId} {fa : Option Addr} {fn fc : Nat} {a1 b1 a2 b2 a3 b3 a4 b4 : Value} (h : W.ownsRow B t 2 (.slice fa fn fc) 4 [a1, b1, a2, b2, a3, b3, a4, b4]) : ∃ g, fa = some ⟨g, 0, none⟩ ∧ fn = 4 ∧ W.cell? ⟨g, 6, none⟩ = some a4 ∧ W.cell? ⟨g, 7, none⟩ = some b4 ∧ g < W.heap.size ∧ ∃ cur, W.heap[g]? = some (.cells cur t (0, 0)) := by
  obtain ⟨_, ⟨_, h⟩ | ⟨g, cap, cur, e, _, hg, _, _, _, hx⟩⟩ := h
  · cases h
  · cases e
    have k6 : cur.toList[6]? = some a4 := by
      have := congrArg (fun l => l[6]?) hx
      simpa [List.getElem?_take] using this
    have k7 : cur.toList[7]? = some b4 := by
      have := congrArg (fun l => l[7]?) hx
      simpa [List.getElem?_take] using this
    refine ⟨g, rfl, rfl, ?_, ?_, lt_of_block hg, cur, hg⟩
    · simp only [World.cell?, hg]
      simpa using k6
    · simp only [World.cell?, hg]
      simpa using k7

set_option maxHeartbeats 4000000 in
set_option maxRecDepth 100000 in
theorem sl18Done_any {w : World} {v u2 u3 : Value} {a : PArch} {kd q : Int} {h4 : PHead} {d4 : PDisk} (h : ArAt w v a) (hf : ArFit a) (hq : archB a = true → q = 0 → diskB d4 = true ∧ headB h4 = true) (hW : archB a = true → ∀ W, Below w.heap.size w W → Calls Tryz.prog 35 #[v, .int .i64 kd, u2, u3] W fun e w' => WorkOut W q h4 d4 e w') :
    Calls Tryz.prog 16 #[v, .int .i64 kd, u2, u3] w fun e w' => ∃ v', e = .returned (.tuple #[v', .int .i64 (doneA a q h4 d4).2]) ∧ OwnAy w.heap.size w' v' (doneA a q h4 d4).1 ∧ Below w.heap.size w w' := by
  have HA := (show Hid (ArAt w v a) from h)
  have HF := (show Hid (ArFit a) from hf)
  have HW := (show Hid _ from hW)
  have HQ4 := (show Hid _ from hq)
  obtain ⟨⟨ra, rc⟩, hra⟩ : ∃ x, x = doneA a q h4 d4 := ⟨_, rfl⟩
  have HQ := (show Hid ((ra, rc) = doneA a q h4 d4) from hra)
  rw [← hra]
  simp only
  obtain ⟨qb, hqb⟩ : ∃ z, z = archB a := ⟨_, rfl⟩
  obtain ⟨sa, sn, sc, la, ln, lc, ea, en', ec, rfl, h1, h2⟩ := h
  have hl := ((Hl.refl w).new #[.bool a.up, .slice sa sn sc, .slice la ln lc, .int .i64 a.head.no, .int .i64 a.head.area, .int .i64 a.head.en, .slice ea en' ec] 38).new #[.bool false, .slice none 0 0, .slice none 0 0, .int .i64 0, .int .i64 0, .int .i64 0, .slice none 0 0] 38
  obtain ⟨w1, hw1⟩ : ∃ x, x = (w.alloc (.cells #[.bool a.up, .slice sa sn sc, .slice la ln lc, .int .i64 a.head.no, .int .i64 a.head.area, .int .i64 a.head.en, .slice ea en' ec] 38)).alloc (.cells #[.bool false, .slice none 0 0, .slice none 0 0, .int .i64 0, .int .i64 0, .int .i64 0, .slice none 0 0] 38) := ⟨_, rfl⟩
  rw [← hw1, World.size_alloc] at hl
  have HL := (show Hid (Hl w [(w.heap.size + 1, #[.bool false, .slice none 0 0, .slice none 0 0, .int .i64 0, .int .i64 0, .int .i64 0, .slice none 0 0], 38), (w.heap.size, #[.bool a.up, .slice sa sn sc, .slice la ln lc, .int .i64 a.head.no, .int .i64 a.head.area, .int .i64 a.head.en, .slice ea en' ec], 38)] w1) from hl)
  have CO := sarOk_any (HA.out.below hl.1) hf
  rw [← hqb] at CO HW HQ4
  have CO := (show Hid _ from CO)
  have HAQ := (show Hid (qb = archB a) from hqb)
  clear hl h1 h2 hf hqb hra hq hW
  go_enter Tryz.func16, Tryz.ntmps16
  go_wp2_with fail
  go_at_call 34
  rw [← hw1]
  refine Calls.mono CO.out ?_
  rintro e w2 ⟨rfl, b2⟩
  have S2 := (show Hid (Hl w [(w.heap.size + 1, #[.bool false, .slice none 0 0, .slice none 0 0, .int .i64 0, .int .i64 0, .int .i64 0, .slice none 0 0], 38), (w.heap.size, #[.bool a.up, .slice sa sn sc, .slice la ln lc, .int .i64 a.head.no, .int .i64 a.head.area, .int .i64 a.head.en, .slice ea en' ec], 38)] w2) from HL.out.below b2)
  clear b2 hw1 HL CO
  cases qb
  · have e1 := HQ.out
    rw [doneA, if_pos HAQ.out.symm] at e1
    cases e1
    clear HQ
    obtain ⟨m0, m1, m2, m3, m4, m5, m6, _⟩ := rk_seven S2.out.at0
    have j0 := rk_thaw (k := 0) S2.out.at0
    have j1 := rk_thaw (k := 1) S2.out.at0
    have j2 := rk_thaw (k := 2) S2.out.at0
    have j3 := rk_thaw (k := 3) S2.out.at0
    have j4 := rk_thaw (k := 4) S2.out.at0
    have j5 := rk_thaw (k := 5) S2.out.at0
    have j6 := rk_thaw (k := 6) S2.out.at0
    have S9 := (show Hid _ from S2.out.set7 (Nat.le_succ _) (by simp) (.bool false) (.slice none 0 0) (.slice none 0 0) (.int .i64 0) (.int .i64 0) (.int .i64 0) (.slice none 0 0))
    go_wp2
    refine bodyPost_ret (arch_res rfl rfl rfl S9.out.at0) rfl ?_
    exact ⟨_, rfl, ⟨none, 0, 0, none, 0, 0, none, 0, 0, rfl, ⟨none, 0, 0, none, 0, 0, rfl, .inl ⟨rfl, rfl, none, rfl, fun _ => trivial⟩, .inl ⟨rfl, rfl, none, rfl, fun _ => trivial⟩⟩, .inl ⟨rfl, rfl, none, rfl, fun _ => trivial⟩⟩, S9.out.1⟩
  · have e1 := HQ.out
    rw [doneA, if_neg (by rw [← HAQ.out]; decide)] at e1
    have HQ := (show Hid _ from e1)
    clear e1
    obtain ⟨c0, c1, c2, c3, c4, c5, c6, _⟩ := rk_seven S2.out.at1
    have CW := (show Hid _ from HW.out rfl w2 S2.out.1)
    clear HW
    go_wp2_with fail
    go_at_call 35
    refine Calls.mono CW.out ?_
    rintro e w4 ⟨fa, fn, fc, hn, ha, hz, rfl, hok, b4⟩
    have s4 := S2.out.below b4
    have hT := s4.lt (p := (w.heap.size + 1, #[.bool false, .slice none 0 0, .slice none 0 0, .int .i64 0, .int .i64 0, .int .i64 0, .slice none 0 0], 38)) (by simp)
    have s5 := s4.new #[.int .i64 hn, .int .i64 ha, .int .i64 hz] 35
    obtain ⟨T, hTe⟩ : ∃ z, z = w4.heap.size := ⟨_, rfl⟩
    obtain ⟨w5, hw5⟩ : ∃ z, z = w4.alloc (.cells #[.int .i64 hn, .int .i64 ha, .int .i64 hz] 35) := ⟨_, rfl⟩
    rw [← hw5, ← hTe] at s5
    rw [← hTe] at hT
    have HT := (show Hid (w.heap.size + 1 < T) from hT)
    have S5 := (show Hid (Hl w [(T, #[.int .i64 hn, .int .i64 ha, .int .i64 hz], 35), (w.heap.size + 1, #[.bool false, .slice none 0 0, .slice none 0 0, .int .i64 0, .int .i64 0, .int .i64 0, .slice none 0 0], 38), (w.heap.size, #[.bool a.up, .slice sa sn sc, .slice la ln lc, .int .i64 a.head.no, .int .i64 a.head.area, .int .i64 a.head.en, .slice ea en' ec], 38)] w5) from s5)
    have HOK := (show Hid (q = 0 → (⟨hn, ha, hz⟩ : PHead) = h4 ∧ StepsRow w.heap.size w5 (.slice fa fn fc) d4) from fun h => ⟨(hok h).1, by
      have r := StepsRow.base (hok h).2 S2.out.1.size
      rw [hw5]
      exact StepsRow.below r ((Below.refl _ _).alloc (Nat.le_refl _) _)⟩)
    clear s4 s5 b4 hok CW c0 c1 c2 c3 c4 c5 c6 S2 hT
    by_cases hq0 : q = 0
    · subst hq0
      have e1 := HQ.out
      rw [if_pos rfl] at e1
      cases e1
      obtain ⟨rfl, a1, b1, a2, b2, a3, b3, xa, xn, xc, va, vn, vc, orow, od⟩ := HOK.out rfl
      obtain ⟨hdk, hhb⟩ := HQ4.out (by trivial) rfl
      obtain ⟨g, rfl, rfl, k6, k7, hgl, gcur, hgb⟩ := row_four orow
      have HGN := (show Hid (g ≠ w.heap.size + 1 ∧ g < w5.heap.size ∧ T < w5.heap.size) from ⟨(fun e => by
        rw [e, S5.out.at1] at hgb
        cases hgb), hgl, S5.out.lt (List.mem_cons_self ..)⟩)
      have KS := (show Hid (∀ W, Below w5.heap.size w5 W → W.cell? ⟨g, 6, none⟩ = some (.slice xa xn xc) ∧ W.cell? ⟨g, 7, none⟩ = some (.slice va vn vc) ∧ W.cell? ⟨T, 0, none⟩ = some (.int .i64 hn) ∧ W.cell? ⟨T, 1, none⟩ = some (.int .i64 ha) ∧ W.cell? ⟨T, 2, none⟩ = some (.int .i64 hz)) from fun W h => ⟨(h.cell (p := ⟨g, 6, none⟩) hgl).trans k6, (h.cell (p := ⟨g, 7, none⟩) hgl).trans k7, (rk_three (S5.out.below h).at0).1, (rk_three (S5.out.below h).at0).2.1, (rk_three (S5.out.below h).at0).2.2.1⟩)
      have KD := (show Hid (Below w5.heap.size w5 w5.drew) from below_drewN 1)
      have CU := (show Hid (Calls Tryz.prog 37 #[.agg #[.slice xa xn xc, .slice va vn vc], .agg #[.int .i64 hn, .int .i64 ha, .int .i64 hz]] w5.drew fun e w' => ∃ v', e = .returned v' ∧ OwnAy w.heap.size w' v' ⟨true, d4, ⟨hn, ha, hz⟩, indexA d4 ⟨hn, ha, hz⟩⟩ ∧ Below w5.drew.heap.size w5.drew w') from sl18Up_any (OwnDy.below od KD.out) (Nat.le_trans S5.out.1.size KD.out.size) hdk ⟨hn, ha, hz⟩ hhb)
      clear HOK HQ4 orow od hdk hhb k6 k7 hgl hgb HQ
      go_upto_region 6 with fail
      rw [← hw5, ← hTe]
      clear hw5 hTe
      go_region_held3 (fun w' => w'.cell? ⟨g, 6, none⟩ = some (.slice xa xn xc) ∧ w'.cell? ⟨g, 7, none⟩ = some (.slice va vn vc) ∧ w'.cell? ⟨T, 0, none⟩ = some (.int .i64 hn) ∧ w'.cell? ⟨T, 1, none⟩ = some (.int .i64 ha) ∧ w'.cell? ⟨T, 2, none⟩ = some (.int .i64 hz))
        (with_reducible first | exact KZ.out | exact KS.out _ T_y.out | exact KS.out _ KD.out)
        (first
          | (go_at_call 37
             refine Calls.mono CU.out ?_
             rintro e y1 ⟨v1, rfl, o1, b1⟩
             have T_y := (show Hid (Below w5.heap.size w5 y1) from KD.out.trans (b1.mono KD.out.size))
             have T1 := (show Hid (Hl w [(T, #[.int .i64 hn, .int .i64 ha, .int .i64 hz], 35), (w.heap.size + 1, #[.bool false, .slice none 0 0, .slice none 0 0, .int .i64 0, .int .i64 0, .int .i64 0, .slice none 0 0], 38), (w.heap.size, #[.bool a.up, .slice sa sn sc, .slice la ln lc, .int .i64 a.head.no, .int .i64 a.head.area, .int .i64 a.head.en, .slice ea en' ec], 38)] y1) from S5.out.below T_y.out)
             have O1 := (show Hid (OwnAy w.heap.size y1 v1 ⟨true, d4, ⟨hn, ha, hz⟩, indexA d4 ⟨hn, ha, hz⟩⟩) from o1)
             obtain ⟨ya, yn, yc, za, zn, zc, fa', fn', fc', e1, _⟩ := O1.out
             subst e1
             obtain ⟨m0, m1, m2, m3, m4, m5, m6, _⟩ := rk_seven T1.out.at1
             have j0 := rk_thaw (k := 0) T1.out.at1
             have j1 := rk_thaw (k := 1) T1.out.at1
             have j2 := rk_thaw (k := 2) T1.out.at1
             have j3 := rk_thaw (k := 3) T1.out.at1
             have j4 := rk_thaw (k := 4) T1.out.at1
             have j5 := rk_thaw (k := 5) T1.out.at1
             have j6 := rk_thaw (k := 6) T1.out.at1
             have S9 := (show Hid _ from (T1.out.swap.sub (L' := [(w.heap.size + 1, #[.bool false, .slice none 0 0, .slice none 0 0, .int .i64 0, .int .i64 0, .int .i64 0, .slice none 0 0], 38), (w.heap.size, #[.bool a.up, .slice sa sn sc, .slice la ln lc, .int .i64 a.head.no, .int .i64 a.head.area, .int .i64 a.head.en, .slice ea en' ec], 38)]) (by simp)).set7 (Nat.le_succ _) (by simp) (.bool true) (.slice ya yn yc) (.slice za zn zc) (.int .i64 hn) (.int .i64 ha) (.int .i64 hz) (.slice fa' fn' fc'))
             have g9 := grown_set7 y1 (w.heap.size + 1) (.bool true) (.slice ya yn yc) (.slice za zn zc) (.int .i64 hn) (.int .i64 ha) (.int .i64 hz) (.slice fa' fn' fc')
             have O9 := (show Hid _ from OwnAy.turned O1.out g9 (fun j e => by cases e; exact ⟨_, _, _, T1.out.at1, by decide, by decide, by decide⟩))
             have KZ := (show Hid ((((((((y1.setCell ⟨w.heap.size + 1, 0, none⟩ (.bool true)).setCell ⟨w.heap.size + 1, 1, none⟩ (.slice ya yn yc)).setCell ⟨w.heap.size + 1, 2, none⟩ (.slice za zn zc)).setCell ⟨w.heap.size + 1, 3, none⟩ (.int .i64 hn)).setCell ⟨w.heap.size + 1, 4, none⟩ (.int .i64 ha)).setCell ⟨w.heap.size + 1, 5, none⟩ (.int .i64 hz)).setCell ⟨w.heap.size + 1, 6, none⟩ (.slice fa' fn' fc')).cell? ⟨g, 6, none⟩ = some (.slice xa xn xc) ∧ (((((((y1.setCell ⟨w.heap.size + 1, 0, none⟩ (.bool true)).setCell ⟨w.heap.size + 1, 1, none⟩ (.slice ya yn yc)).setCell ⟨w.heap.size + 1, 2, none⟩ (.slice za zn zc)).setCell ⟨w.heap.size + 1, 3, none⟩ (.int .i64 hn)).setCell ⟨w.heap.size + 1, 4, none⟩ (.int .i64 ha)).setCell ⟨w.heap.size + 1, 5, none⟩ (.int .i64 hz)).setCell ⟨w.heap.size + 1, 6, none⟩ (.slice fa' fn' fc')).cell? ⟨g, 7, none⟩ = some (.slice va vn vc) ∧ (((((((y1.setCell ⟨w.heap.size + 1, 0, none⟩ (.bool true)).setCell ⟨w.heap.size + 1, 1, none⟩ (.slice ya yn yc)).setCell ⟨w.heap.size + 1, 2, none⟩ (.slice za zn zc)).setCell ⟨w.heap.size + 1, 3, none⟩ (.int .i64 hn)).setCell ⟨w.heap.size + 1, 4, none⟩ (.int .i64 ha)).setCell ⟨w.heap.size + 1, 5, none⟩ (.int .i64 hz)).setCell ⟨w.heap.size + 1, 6, none⟩ (.slice fa' fn' fc')).cell? ⟨T, 0, none⟩ = some (.int .i64 hn) ∧ (((((((y1.setCell ⟨w.heap.size + 1, 0, none⟩ (.bool true)).setCell ⟨w.heap.size + 1, 1, none⟩ (.slice ya yn yc)).setCell ⟨w.heap.size + 1, 2, none⟩ (.slice za zn zc)).setCell ⟨w.heap.size + 1, 3, none⟩ (.int .i64 hn)).setCell ⟨w.heap.size + 1, 4, none⟩ (.int .i64 ha)).setCell ⟨w.heap.size + 1, 5, none⟩ (.int .i64 hz)).setCell ⟨w.heap.size + 1, 6, none⟩ (.slice fa' fn' fc')).cell? ⟨T, 1, none⟩ = some (.int .i64 ha) ∧ (((((((y1.setCell ⟨w.heap.size + 1, 0, none⟩ (.bool true)).setCell ⟨w.heap.size + 1, 1, none⟩ (.slice ya yn yc)).setCell ⟨w.heap.size + 1, 2, none⟩ (.slice za zn zc)).setCell ⟨w.heap.size + 1, 3, none⟩ (.int .i64 hn)).setCell ⟨w.heap.size + 1, 4, none⟩ (.int .i64 ha)).setCell ⟨w.heap.size + 1, 5, none⟩ (.int .i64 hz)).setCell ⟨w.heap.size + 1, 6, none⟩ (.slice fa' fn' fc')).cell? ⟨T, 2, none⟩ = some (.int .i64 hz)) from by
               obtain ⟨n1, n2, n3, n4, n5⟩ := KS.out _ T_y.out
               obtain ⟨q1, q2, q3⟩ := HGN.out
               have q4 := HT.out
               have z := T_y.out.size
               exact ⟨(grown_cellS g9 q1 (by omega)).trans n1, (grown_cellS g9 q1 (by omega)).trans n2, (grown_cellS g9 (by omega) (by omega)).trans n3, (grown_cellS g9 (by omega) (by omega)).trans n4, (grown_cellS g9 (by omega) (by omega)).trans n5⟩)
             clear g9 O1 o1 b1))
      all_goals go_wp2
      all_goals refine bodyPost_ret (arch_res rfl rfl rfl S9.out.at0) rfl ?_
      all_goals exact ⟨_, rfl, O9.out, S9.out.1⟩
    · have e1 := HQ.out
      rw [if_neg hq0] at e1
      cases e1
      clear HQ HOK HQ4
      obtain ⟨c0, c1, c2, c3, c4, c5, c6, _⟩ := rk_seven S5.out.at2
      go_upto_region 5 with fail
      rw [← hw5, ← hTe]
      clear hw5 hTe
      go_wp2_with fail
      go_at_call 36
      refine (sl18Copy_any (HA.out.below S5.out.1) HF.out).mono ?_
      rintro e y1 ⟨v1, rfl, o1, b1⟩
      have T1 := (show Hid (Hl w [(w.heap.size + 1, #[.bool false, .slice none 0 0, .slice none 0 0, .int .i64 0, .int .i64 0, .int .i64 0, .slice none 0 0], 38), (w.heap.size, #[.bool a.up, .slice sa sn sc, .slice la ln lc, .int .i64 a.head.no, .int .i64 a.head.area, .int .i64 a.head.en, .slice ea en' ec], 38)] y1) from (S5.out.below b1).tail)
      have O1 := (show Hid (OwnAy w.heap.size y1 v1 a) from OwnAy.base o1 S5.out.1.size)
      clear b1 o1 c0 c1 c2 c3 c4 c5 c6
      obtain ⟨ya, yn, yc, za, zn, zc, fa', fn', fc', e1, _⟩ := O1.out
      subst e1
      obtain ⟨m0, m1, m2, m3, m4, m5, m6, _⟩ := rk_seven T1.out.at0
      have j0 := rk_thaw (k := 0) T1.out.at0
      have j1 := rk_thaw (k := 1) T1.out.at0
      have j2 := rk_thaw (k := 2) T1.out.at0
      have j3 := rk_thaw (k := 3) T1.out.at0
      have j4 := rk_thaw (k := 4) T1.out.at0
      have j5 := rk_thaw (k := 5) T1.out.at0
      have j6 := rk_thaw (k := 6) T1.out.at0
      have S9 := (show Hid _ from T1.out.set7 (Nat.le_succ _) (by simp) (.bool a.up) (.slice ya yn yc) (.slice za zn zc) (.int .i64 a.head.no) (.int .i64 a.head.area) (.int .i64 a.head.en) (.slice fa' fn' fc'))
      have g9 := grown_set7 y1 (w.heap.size + 1) (.bool a.up) (.slice ya yn yc) (.slice za zn zc) (.int .i64 a.head.no) (.int .i64 a.head.area) (.int .i64 a.head.en) (.slice fa' fn' fc')
      have O9 := (show Hid _ from OwnAy.turned O1.out g9 (fun j e => by cases e; exact ⟨_, _, _, T1.out.at0, by decide, by decide, by decide⟩))
      clear g9 O1
      go_wp2
      refine bodyPost_ret (arch_res rfl rfl rfl S9.out.at0) rfl ?_
      exact ⟨_, rfl, O9.out, S9.out.1⟩
end Go.Proofs.YtjokajblihaphaaGreatDoor
