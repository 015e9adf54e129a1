/- The specification's l18Work for a compact and for a drop (written by mk/sstep2.py). No condition. -/
import Derived.Test.YtjokajblihaphaaGreatDoorU40
import Derived.Test.YtjokajblihaphaaGreatDoorU25
import Derived.Test.YtjokajblihaphaaGreatDoorU23
import Derived.Test.YtjokajblihaphaaGreatDoorU26
import Derived.Test.YtjokajblihaphaaGreatDoorU22
import Derived.Laws.ResultCell
import Derived.Test.YtjokajblihaphaaGreatDoorU43
import Derived.Test.YtjokajblihaphaaGreatDoorU51
import Derived.Test.YtjokajblihaphaaGreatDoorU32
import Derived.Test.YtjokajblihaphaaGreatDoorU37
import Derived.Deep.RegionHeld3
import Derived.Deep.CutRange
namespace Go.Proofs.YtjokajblihaphaaGreatDoor
open Go.RowKit
set_option maxRecDepth 100000
set_option linter.unusedVariables false

theorem results_tmp_cell_tmp {fn : Func} {p u v : Tmp} {ty : TypeId} (h : fn.results = #[.tmp u, .cell p ty, .tmp v]) (tmps : Array Value) (P : Program) (w : World) :
    (results fn tmps).run P w = ((asAddr (tmps.getD p undef)).run P w).andThen fun a w₁ => ((loadVar ty a).run P w₁).andThen fun x w₂ => .ok (.tuple #[tmps.getD u undef, x, tmps.getD v undef]) w₂ := by
  simp only [results, h]
  simp [Sem.run_bind, Result.andThen]
theorem work_res {fn : Func} {p u v : Tmp} (hr : fn.results = #[.tmp u, .cell p 35, .tmp v]) {tmps : Array Value} {w : World} {g : Nat} {a b c r q : Value} (h4 : tmps.getD p undef = .pointer (some ⟨g, 0, none⟩)) (h5 : tmps.getD u undef = r) (h6 : tmps.getD v undef = q) (hb : w.heap[g]? = some (.cells #[a, b, c] 35 (0, 0))) :
    (results fn tmps).run Tryz.prog w = .ok (.tuple #[r, .agg #[a, b, c], q]) w := by
  rw [results_tmp_cell_tmp (p := p) (u := u) (v := v) (ty := 35) hr, h4, h5, h6]
  simp [asAddr, run_loadVar_row w g 35 35 #[a, b, c] (0, 0) _ hb Tryz.underlying35 rfl rfl, Result.andThen]
/-- What l18Work answers: a code, and where that is ArDone the disks and the head. -/
def WorkOut (w : World) (q : Int) (h : PHead) (d : PDisk) (e : Ending) (W : World) : Prop := ∃ sa sn sc n a z, e = .returned (.tuple #[.slice sa sn sc, .agg #[.int .i64 n, .int .i64 a, .int .i64 z], .int .i64 q]) ∧ (q = 0 → (⟨n, a, z⟩ : PHead) = h ∧ StepsRow w.heap.size W (.slice sa sn sc) d) ∧ Below w.heap.size w W
def dropQ (u : ByteArray) (a : PArch) : Int := if a.up = false then 2 else if urlB u = false then 3 else if (attrOf a.list u).2 = false then 6 else if stepsOk a.disk a.head.area a.head.en (recL (dropR u)) ⟨a.head.no + 1, a.head.area, a.head.en + (recL (dropR u)).length⟩ = false then 5 else 0
theorem StepsRow.below {B : Nat} {W W' : World} {v : Value} {d : PDisk} (h : StepsRow B W v d) (b : Below W.heap.size W W') : StepsRow B W' v d := by
  obtain ⟨a1, b1, a2, b2, a3, b3, sa, sn, sc, la, ln, lc, o, p⟩ := h
  exact ⟨a1, b1, a2, b2, a3, b3, sa, sn, sc, la, ln, lc, ownsRow_below o b, OwnDy.below p b⟩
theorem StepsRow.base {B B' : Nat} {W : World} {v : Value} {d : PDisk} (h : StepsRow B W v d) (hB : B' ≤ B) : StepsRow B' W v d := by
  obtain ⟨a1, b1, a2, b2, a3, b3, sa, sn, sc, la, ln, lc, o, p⟩ := h
  exact ⟨a1, b1, a2, b2, a3, b3, sa, sn, sc, la, ln, lc, rk_base o hB, OwnDy.base p hB⟩
theorem StepsRow.set {B N k : Nat} {W : World} {v x : Value} {d : PDisk} {cs : Array Value} (h : StepsRow B W v d) (hb : W.heap[N]? = some (.cells cs 35 (0, 0))) : StepsRow B (W.setCell ⟨N, k, none⟩ x) v d := by
  obtain ⟨a1, b1, a2, b2, a3, b3, sa, sn, sc, la, ln, lc, o, p⟩ := h
  exact ⟨a1, b1, a2, b2, a3, b3, sa, sn, sc, la, ln, lc, rk_set o hb (by decide), OwnDy.turned p (grown_setCell _ _ _ _) (fun j e => by cases e; exact ⟨_, _, _, hb, by decide, by decide⟩)⟩
theorem StepsRow.set3 {B N : Nat} {W : World} {v x y z x' y' z' : Value} {d : PDisk} (h : StepsRow B W v d) (hb : W.heap[N]? = some (.cells #[x, y, z] 35 (0, 0))) : StepsRow B (((W.setCell ⟨N, 0, none⟩ x').setCell ⟨N, 1, none⟩ y').setCell ⟨N, 2, none⟩ z') v d := by
  have h1 := rk_at (k := 0) (u := x') hb
  have h2 := rk_at (k := 1) (u := y') h1
  exact ((h.set hb).set h1).set h2
theorem Hl.set1of3 {w W : World} {L : List (Nat × Array Value × TypeId)} {N : Nat} {x y z : Value} {t : TypeId} (h : Hl w ((N, #[x, y, z], t) :: L) W) (hN : w.heap.size ≤ N) (hL : ∀ p ∈ L, p.1 ≠ N) (a : Value) : Hl w ((N, #[a, y, z], t) :: L) (W.setCell ⟨N, 0, none⟩ a) := h.set hN hL 0 a
theorem Hl.set3of3 {w W : World} {L : List (Nat × Array Value × TypeId)} {N : Nat} {x y z : Value} {t : TypeId} (h : Hl w ((N, #[x, y, z], t) :: L) W) (hN : w.heap.size ≤ N) (hL : ∀ p ∈ L, p.1 ≠ N) (a : Value) : Hl w ((N, #[x, y, a], t) :: L) (W.setCell ⟨N, 2, none⟩ a) := h.set hN hL 2 a

set_option maxHeartbeats 4000000 in
set_option maxRecDepth 100000 in
theorem sl18WorkD_any {w : World} {v u3 : Value} {a : PArch} {u : ByteArray} (h : ArAt w v a) (hA : archB a = true) (hul : u.size ≤ 1099511627776) :
    Calls Tryz.prog 35 #[v, .int .i64 2, .string u, u3] w fun e w' => WorkOut w (dropQ u a) ⟨a.head.no + 1, a.head.area, a.head.en + (recL (dropR u)).length⟩ (step4 a.disk a.head.area a.head.en (recL (dropR u)) ⟨a.head.no + 1, a.head.area, a.head.en + (recL (dropR u)).length⟩) e w' := by
  obtain ⟨up, d, ⟨no, ar, en⟩, ls⟩ := a
  obtain ⟨sa, sn, sc, la, ln, lc, ea, en', ec, rfl, h1, h2⟩ := h
  simp only at h1 h2
  have HD := (show Hid (DiskAt w (.agg #[.slice sa sn sc, .slice la ln lc]) d) from h1)
  have HE := (show Hid (Sv 2 w (.slice ea en' ec) (pairCells ls)) from h2)
  have HA := (show Hid (archB ⟨up, d, ⟨no, ar, en⟩, ls⟩ = true) from hA)
  clear h1 h2 hA
  have HQ := (show Hid (dropQ u ⟨up, d, ⟨no, ar, en⟩, ls⟩ = if up = false then 2 else if urlB u = false then 3 else if (attrOf ls u).2 = false then 6 else if stepsOk d ar en (recL (dropR u)) ⟨no + 1, ar, en + (recL (dropR u)).length⟩ = false then 5 else 0) from (show _ = _ from rfl))
  obtain ⟨q, hq⟩ : ∃ z, z = dropQ u ⟨up, d, ⟨no, ar, en⟩, ls⟩ := ⟨_, rfl⟩
  rw [← hq] at HQ
  rw [← hq]
  simp only
  obtain ⟨D4, hD4⟩ : ∃ z, z = step4 d ar en (recL (dropR u)) ⟨no + 1, ar, en + (recL (dropR u)).length⟩ := ⟨_, rfl⟩
  have HD4 := (show Hid (D4 = step4 d ar en (recL (dropR u)) ⟨no + 1, ar, en + (recL (dropR u)).length⟩) from hD4)
  rw [← hD4]
  obtain ⟨b, hp⟩ : ∃ z, z = (recL (dropR u)) := ⟨_, rfl⟩
  have HP := (show Hid (b = (recL (dropR u))) from hp)
  rw [← hp] at HQ HD4 ⊢
  obtain ⟨ub, hub⟩ : ∃ z, z = urlB u := ⟨_, rfl⟩
  have HUB := (show Hid (ub = urlB u) from hub)
  rw [← hub] at HQ
  obtain ⟨⟨fs, fb⟩, hfd⟩ : ∃ z, z = attrOf ls u := ⟨_, rfl⟩
  have HFD := (show Hid ((fs, fb) = attrOf ls u) from hfd)
  rw [← hfd] at HQ
  simp only at HQ
  clear hq hD4 hp hub hfd
  have hl := ((Hl.refl w).new #[.bool up, .slice sa sn sc, .slice la ln lc, .int .i64 no, .int .i64 ar, .int .i64 en, .slice ea en' ec] 38).new #[.int .i64 0, .int .i64 0, .int .i64 0] 35
  rw [World.size_alloc] at hl
  obtain ⟨w0, hw0⟩ : ∃ z, z = (w.alloc (.cells #[.bool up, .slice sa sn sc, .slice la ln lc, .int .i64 no, .int .i64 ar, .int .i64 en, .slice ea en' ec] 38)).alloc (.cells #[.int .i64 0, .int .i64 0, .int .i64 0] 35) := ⟨_, rfl⟩
  have hsz : w0.heap.size = w.heap.size + 1 + 1 := by rw [hw0]; simp
  rw [← hw0] at hl
  have H0 := (show Hid (Hl w [(w.heap.size + 1, #[.int .i64 0, .int .i64 0, .int .i64 0], 35), (w.heap.size, #[.bool up, .slice sa sn sc, .slice la ln lc, .int .i64 no, .int .i64 ar, .int .i64 en, .slice ea en' ec], 38)] w0) from hl)
  have HSZ := (show Hid (w0.heap.size = w.heap.size + 1 + 1) from hsz)
  have KD := (show Hid (Below w0.heap.size w0 w0.drew) from below_drewN 1)
  have KS := (show Hid (∀ W, Below w0.heap.size w0 W → W.cell? ⟨w.heap.size, 3, none⟩ = some (.int .i64 no) ∧ W.cell? ⟨w.heap.size, 4, none⟩ = some (.int .i64 ar) ∧ W.cell? ⟨w.heap.size, 5, none⟩ = some (.int .i64 en) ∧ Below w0.heap.size w0 W) from fun W h => ⟨(rk_seven (H0.out.below h).at1).2.2.2.1, (rk_seven (H0.out.below h).at1).2.2.2.2.1, (rk_seven (H0.out.below h).at1).2.2.2.2.2.1, h⟩)
  have K1 := (show Hid (∀ X, Below w0.heap.size w0 (w0.drew.alloc X)) from fun X => KD.out.alloc (Nat.le_refl _) _)
  have K2 := (show Hid (∀ X Y, Below w0.heap.size w0 ((w0.drew.alloc X).alloc Y)) from fun X Y => (K1.out X).alloc (by rw [World.size_alloc]; exact Nat.le_succ _) _)
  have pa := ((H0.out.new #[] 34).new #[.int .i64 no, .int .i64 ar, .int .i64 en] 35).below (below_drewN 1)
  have pb := ((H0.out.new #[.int .i64 no, .int .i64 ar, .int .i64 en] 35).new #[] 34).swap.below (below_drewN 1)
  rw [World.size_alloc] at pa pb
  have PA := (show Hid _ from pa)
  have PB := (show Hid _ from pb)
  clear pa pb
  clear hl hsz
  go_enter Tryz.func35, Tryz.ntmps35
  go_upto_region 1 with fail
  rw [← hw0]
  clear hw0
  go_cut [11, 12] from 28 to 152 (fun s11 s12 wx => ∃ E T, s11 = .slice (some ⟨E, 0, none⟩) 0 0 ∧ s12 = .pointer (some ⟨T, 0, none⟩) ∧ w.heap.size + 1 < T ∧ Hl w [(T, #[.int .i64 no, .int .i64 ar, .int .i64 en], 35), (E, #[], 34), (w.heap.size + 1, #[.int .i64 0, .int .i64 0, .int .i64 0], 35), (w.heap.size, #[.bool up, .slice sa sn sc, .slice la ln lc, .int .i64 no, .int .i64 ar, .int .i64 en, .slice ea en' ec], 38)] wx)
  case first =>
    go_region_held3 (fun w' => w'.cell? ⟨w.heap.size, 3, none⟩ = some (.int .i64 no) ∧ w'.cell? ⟨w.heap.size, 4, none⟩ = some (.int .i64 ar) ∧ w'.cell? ⟨w.heap.size, 5, none⟩ = some (.int .i64 en) ∧ Below w0.heap.size w0 w')
      (first | exact KS.out _ KD.out | exact KS.out _ (K1.out _) | exact KS.out _ (K2.out _ _))
      (fail)
    all_goals go_wp2
    all_goals go_meet
    all_goals
      case rel =>
        first
          | exact ⟨_, _, rfl, rfl, (by have := HSZ.out; simp; omega), PA.out⟩
          | exact ⟨_, _, rfl, rfl, (by have := HSZ.out; simp; omega), PB.out⟩
  case rest =>
    obtain ⟨w1, rfl⟩ : ∃ z, z = wc := ⟨_, rfl⟩
    obtain ⟨E, T, rfl, rfl, hT, hc⟩ := hcut
    have H1 := (show Hid (Hl w [(T, #[.int .i64 no, .int .i64 ar, .int .i64 en], 35), (w.heap.size + 1, #[.int .i64 0, .int .i64 0, .int .i64 0], 35), (w.heap.size, #[.bool up, .slice sa sn sc, .slice la ln lc, .int .i64 no, .int .i64 ar, .int .i64 en, .slice ea en' ec], 38)] w1) from hc.sub (by simp))
    clear hc KD KS K1 K2 PA PB H0 HSZ
    cases up
    · obtain ⟨c0, c1, c2, c3, c4, c5, c6, _⟩ := rk_seven H1.out.at2
      have e1 := HQ.out
      rw [if_pos rfl] at e1
      subst e1
      go_wp2_with fail
      refine region_tail 3 (by kernel_rfl) (by kernel_rfl) ?_
      intro w8 K8 hW8 hK8
      have ne := One.any w8
      have S8 := (show Hid (Hl w [(T, #[.int .i64 no, .int .i64 ar, .int .i64 en], 35), (w.heap.size + 1, #[.int .i64 0, .int .i64 0, .int .i64 0], 35), (w.heap.size, #[.bool false, .slice sa sn sc, .slice la ln lc, .int .i64 no, .int .i64 ar, .int .i64 en, .slice ea en' ec], 38)] w8) from by rw [hW8.out]; exact H1.out.below (below_drewN 1))
      have gg := fun n : One w8 => rk_three (show n.w.heap[T]? = _ by rw [n.eq]; exact S8.out.at0)
      have g0 := fun n : One w8 => (gg n).1
      have g1 := fun n : One w8 => (gg n).2.1
      have g2 := fun n : One w8 => (gg n).2.2.1
      clear gg H1
      simp only [List.take_succ_cons, List.take_zero, List.drop_succ_cons, List.drop_zero] at hK8 ⊢
      repeat (go_big_quiet_step (fail))
      refine wpQuiet_nil ?_
      refine hK8.out _ ?_
      clear hK8 g0 g1 g2
      obtain ⟨m1, m2, m3, m4, m5, m6⟩ := rk_three S8.out.at1
      have S9 := (show Hid _ from (S8.out.swap.sub (L' := [(w.heap.size + 1, #[.int .i64 0, .int .i64 0, .int .i64 0], 35)]) (by simp)).set3 (by omega) (by simp) (.int .i64 no) (.int .i64 ar) (.int .i64 en))
      go_wp2
      refine bodyPost_ret (work_res rfl rfl rfl rfl S9.out.at0) rfl ?_
      exact ⟨_, _, _, _, _, _, rfl, (fun e => absurd e (by decide)), S9.out.1⟩
    · obtain ⟨hl1, hl2⟩ := arch_list HA.out rfl
      obtain ⟨hh, _, _, _⟩ := archB_up HA.out rfl
      have hi := headB_in hh
      have hdk := (archB_disk HA.out).1
      simp only at hl1 hl2 hi hdk
      have HDK := (show Hid (diskB d = true) from hdk)
      have CU := (show Hid (∀ W, Calls Tryz.prog 68 #[.string u] W fun e w' => e = .returned (.bool ub) ∧ w' = W) from fun W => by rw [HUB.out]; exact surlOk_any u W hul)
      have CF := (show Hid (∀ W, Below w.heap.size w W → Calls Tryz.prog 71 #[.slice ea en' ec, .string u] W fun e w' => e = .returned (.tuple #[.string fs, .bool fb]) ∧ w' = W) from fun W bb => by
        have := sindexFind_any (HE.out.below bb) u (by omega)
        rw [← HFD.out] at this
        exact this)
      have HUZ := (show Hid (ub = true → recB (dropR u) = true ∧ u.size ≤ 60) from fun h => by
        rw [HUB.out] at h
        refine ⟨drop_recB h, ?_⟩
        simp only [urlB, inB, Bool.and_eq_true, decide_eq_true_eq] at h
        omega)
      have e1 := HQ.out
      rw [if_neg (by decide)] at e1
      have HQ := (show Hid _ from e1)
      clear hl1 hl2 hh hdk e1 HA HE HUB HFD
      obtain ⟨c0, c1, c2, c3, c4, c5, c6, _⟩ := rk_seven H1.out.at2
      obtain ⟨m1, m2, m3, m4, m5, m6⟩ := rk_three H1.out.at0
      have h2 := H1.out.set1of3 (by omega) (by simp; omega) (.int .i64 (no + 1))
      have h3 := h2.new #[.int .i64 2, .string u, .string ⟨#[]⟩] 100
      have hTl := h2.lt (List.mem_cons_self ..)
      have hAl := h2.lt (p := (w.heap.size + 1, #[.int .i64 0, .int .i64 0, .int .i64 0], 35)) (by simp)
      obtain ⟨R, hR⟩ : ∃ z, z = (w1.setCell ⟨T, 0, none⟩ (.int .i64 (no + 1))).heap.size := ⟨_, rfl⟩
      have hRs : w1.heap.size = R := by rw [hR]; simp [World.setCell]
      obtain ⟨w2, hw2⟩ : ∃ z, z = (w1.setCell ⟨T, 0, none⟩ (.int .i64 (no + 1))).alloc (.cells #[.int .i64 2, .string u, .string ⟨#[]⟩] 100) := ⟨_, rfl⟩
      rw [← hw2, ← hR] at h3
      rw [← hR] at hTl hAl
      have HRT := (show Hid (T < R ∧ w.heap.size + 1 < R) from ⟨hTl, hAl⟩)
      have HRS := (show Hid (w1.heap.size = R) from hRs)
      have H2 := (show Hid (Hl w [(T, #[.int .i64 (no + 1), .int .i64 ar, .int .i64 en], 35), (w.heap.size + 1, #[.int .i64 0, .int .i64 0, .int .i64 0], 35), (R, #[.int .i64 2, .string u, .string ⟨#[]⟩], 100), (w.heap.size, #[.bool true, .slice sa sn sc, .slice la ln lc, .int .i64 no, .int .i64 ar, .int .i64 en, .slice ea en' ec], 38)] w2) from h3.sub (by simp))
      clear h2 h3 hR hTl hAl hRs
      go_upto_region 7 with fail
      rw [← hw2, HRS.out]
      clear hw2 c0 c1 c2 c3 c4 c5 c6 m1 m2 m3 m4 m5 m6 H1 HRS
      go_wp2_with fail
      go_at_call 68
      refine Calls.mono (CU.out w2) ?_
      rintro e w3 ⟨rfl, ew⟩
      have ew := ew.symm
      subst ew
      cases ub
      · have e1 := HQ.out
        rw [if_pos rfl] at e1
        subst e1
        go_wp2_with fail
        refine region_tail 3 (by kernel_rfl) (by kernel_rfl) ?_
        intro w8 K8 hW8 hK8
        have ne := One.any w8
        have S8 := (show Hid (Hl w [(T, #[.int .i64 (no + 1), .int .i64 ar, .int .i64 en], 35), (w.heap.size + 1, #[.int .i64 0, .int .i64 0, .int .i64 0], 35), (R, #[.int .i64 2, .string u, .string ⟨#[]⟩], 100), (w.heap.size, #[.bool true, .slice sa sn sc, .slice la ln lc, .int .i64 no, .int .i64 ar, .int .i64 en, .slice ea en' ec], 38)] w8) from by rw [hW8.out]; exact H2.out.below (below_drewN 1))
        have gg := fun n : One w8 => rk_three (show n.w.heap[T]? = _ by rw [n.eq]; exact S8.out.at0)
        have g0 := fun n : One w8 => (gg n).1
        have g1 := fun n : One w8 => (gg n).2.1
        have g2 := fun n : One w8 => (gg n).2.2.1
        clear gg H2
        simp only [List.take_succ_cons, List.take_zero, List.drop_succ_cons, List.drop_zero] at hK8 ⊢
        repeat (go_big_quiet_step (fail))
        refine wpQuiet_nil ?_
        refine hK8.out _ ?_
        clear hK8 g0 g1 g2
        obtain ⟨m1, m2, m3, m4, m5, m6⟩ := rk_three S8.out.at1
        have S9 := (show Hid _ from (S8.out.swap.sub (L' := [(w.heap.size + 1, #[.int .i64 0, .int .i64 0, .int .i64 0], 35)]) (by simp)).set3 (by omega) (by simp) (.int .i64 (no + 1)) (.int .i64 ar) (.int .i64 en))
        go_wp2
        refine bodyPost_ret (work_res rfl rfl rfl rfl S9.out.at0) rfl ?_
        exact ⟨_, _, _, _, _, _, rfl, (fun e => absurd e (by decide)), S9.out.1⟩
      · have e1 := HQ.out
        rw [if_neg (by decide)] at e1
        have HQ := (show Hid _ from e1)
        obtain ⟨hrb, hus⟩ := HUZ.out rfl
        have hP : packR (dropR u) = (b, true) := by rw [HP.out, packR, if_pos hrb]
        have CP := fun W => srecPack_any (dropR u) W (show u.size ≤ 1099511627776 by omega) (show (0 : Nat) ≤ 1099511627776 by omega)
        rw [hP] at CP
        have CP := (show Hid (∀ W, Calls Tryz.prog 72 #[.agg #[.int .i64 2, .string u, .string ⟨#[]⟩]] W fun e w' => ∃ v, e = .returned (.tuple #[v, .bool true]) ∧ Own W.heap.size 5 .u8 w' v b ∧ Below W.heap.size W w') from CP)
        have hby : ∀ z ∈ b, 0 ≤ z ∧ z ≤ 255 := by rw [HP.out]; exact recL_byte hrb (show (dropR u).body.size ≤ 1048576 from Nat.zero_le _)
        have hbl : b.length ≤ 1048576 := by rw [HP.out]; exact drop_len hus
        have HBY := (show Hid _ from hby)
        clear e1 hrb hus hP hby HUZ HP
        obtain ⟨c0, c1, c2, c3, c4, c5, c6, _⟩ := rk_seven (H2.out.at3)
        go_wp2_with fail
        go_at_call 71
        refine Calls.mono (CF.out w2 H2.out.1) ?_
        rintro e w3 ⟨rfl, ew⟩
        have ew := ew.symm
        subst ew
        clear c0 c1 c2 c3 c4 c5 c6
        cases fb
        · have e1 := HQ.out
          rw [if_pos rfl] at e1
          subst e1
          go_wp2_with fail
          refine region_tail 3 (by kernel_rfl) (by kernel_rfl) ?_
          intro w8 K8 hW8 hK8
          have ne := One.any w8
          have S8 := (show Hid (Hl w [(T, #[.int .i64 (no + 1), .int .i64 ar, .int .i64 en], 35), (w.heap.size + 1, #[.int .i64 0, .int .i64 0, .int .i64 0], 35), (R, #[.int .i64 2, .string u, .string ⟨#[]⟩], 100), (w.heap.size, #[.bool true, .slice sa sn sc, .slice la ln lc, .int .i64 no, .int .i64 ar, .int .i64 en, .slice ea en' ec], 38)] w8) from by rw [hW8.out]; exact H2.out.below (below_drewN 1))
          have gg := fun n : One w8 => rk_three (show n.w.heap[T]? = _ by rw [n.eq]; exact S8.out.at0)
          have g0 := fun n : One w8 => (gg n).1
          have g1 := fun n : One w8 => (gg n).2.1
          have g2 := fun n : One w8 => (gg n).2.2.1
          clear gg H2
          simp only [List.take_succ_cons, List.take_zero, List.drop_succ_cons, List.drop_zero] at hK8 ⊢
          repeat (go_big_quiet_step (fail))
          refine wpQuiet_nil ?_
          refine hK8.out _ ?_
          clear hK8 g0 g1 g2
          obtain ⟨m1, m2, m3, m4, m5, m6⟩ := rk_three S8.out.at1
          have S9 := (show Hid _ from (S8.out.swap.sub (L' := [(w.heap.size + 1, #[.int .i64 0, .int .i64 0, .int .i64 0], 35)]) (by simp)).set3 (by omega) (by simp) (.int .i64 (no + 1)) (.int .i64 ar) (.int .i64 en))
          go_wp2
          refine bodyPost_ret (work_res rfl rfl rfl rfl S9.out.at0) rfl ?_
          exact ⟨_, _, _, _, _, _, rfl, (fun e => absurd e (by decide)), S9.out.1⟩
        · have e1 := HQ.out
          rw [if_neg (by decide)] at e1
          have HQ := (show Hid _ from e1)
          clear e1
          obtain ⟨r1, r2, r3, _⟩ := rk_three H2.out.at2
          go_wp2_with fail
          go_at_call 72
          refine Calls.mono (CP.out w2) ?_
          rintro e w3 ⟨v3, rfl, o3, b3⟩
          have H3 := (show Hid (Hl w [(T, #[.int .i64 (no + 1), .int .i64 ar, .int .i64 en], 35), (w.heap.size + 1, #[.int .i64 0, .int .i64 0, .int .i64 0], 35), (R, #[.int .i64 2, .string u, .string ⟨#[]⟩], 100), (w.heap.size, #[.bool true, .slice sa sn sc, .slice la ln lc, .int .i64 no, .int .i64 ar, .int .i64 en, .slice ea en' ec], 38)] w3) from H2.out.below b3)
          have O3 := (show Hid (Own w2.heap.size 5 .u8 w3 v3 b) from o3)
          obtain ⟨ua, uc, eu, _⟩ := o3.sl
          subst eu
          clear b3 o3 CP r1 r2 r3 H2
          obtain ⟨c0, c1, c2, c3, c4, c5, c6, _⟩ := rk_seven H3.out.at3
          obtain ⟨m1, m2, m3, m4, m5, m6⟩ := rk_three H3.out.at0
          have hTR := HRT.out
          have h5 := H3.out.set3of3 (by omega) (by simp; omega) (.int .i64 (en + (b.length : Int)))
          have o5 := rk_set (k := 2) (u := .int .i64 (en + (b.length : Int))) O3.out H3.out.at0 (by decide)
          obtain ⟨w4, hw4⟩ : ∃ z, z = w3.setCell ⟨T, 2, none⟩ (.int .i64 (en + (b.length : Int))) := ⟨_, rfl⟩
          rw [← hw4] at h5 o5
          have H4 := (show Hid (Hl w [(T, #[.int .i64 (no + 1), .int .i64 ar, .int .i64 (en + (b.length : Int))], 35), (w.heap.size + 1, #[.int .i64 0, .int .i64 0, .int .i64 0], 35), (R, #[.int .i64 2, .string u, .string ⟨#[]⟩], 100), (w.heap.size, #[.bool true, .slice sa sn sc, .slice la ln lc, .int .i64 no, .int .i64 ar, .int .i64 en, .slice ea en' ec], 38)] w4) from h5)
          have O4 := (show Hid (Own w2.heap.size 5 .u8 w4 (.slice ua b.length uc) b) from o5)
          clear h5 o5 hTR
          go_upto_region 30 with fail
          rw [← hw4]
          clear hw4 c0 c1 c2 c3 c4 c5 c6 m1 m2 m3 m4 m5 m6 H3 O3
          obtain ⟨c0, c1, c2, c3, c4, c5, c6, _⟩ := rk_seven H4.out.at3
          obtain ⟨m1, m2, m3, m4, m5, m6⟩ := rk_three H4.out.at0
          have CS := sl18Steps_any (x := ar) (y := en) (no := no + 1) (ar := ar) (en := en + (b.length : Int)) (HD.out.below H4.out.1) (fit_right HDK.out) O4.out.sl HBY.out (by omega)
          rw [← HD4.out] at CS
          have CS := (show Hid _ from CS)
          obtain ⟨sb, hsb⟩ : ∃ z, z = stepsOk d ar en b ⟨no + 1, ar, en + (b.length : Int)⟩ := ⟨_, rfl⟩
          rw [← hsb] at CS HQ
          clear hsb
          go_wp2_with fail
          go_at_call 67
          refine Calls.mono CS.out ?_
          rintro e w5 ⟨fa, fn, fc, rfl, hrow, b5⟩
          have H5 := (show Hid (Hl w [(T, #[.int .i64 (no + 1), .int .i64 ar, .int .i64 (en + (b.length : Int))], 35), (w.heap.size + 1, #[.int .i64 0, .int .i64 0, .int .i64 0], 35), (R, #[.int .i64 2, .string u, .string ⟨#[]⟩], 100), (w.heap.size, #[.bool true, .slice sa sn sc, .slice la ln lc, .int .i64 no, .int .i64 ar, .int .i64 en, .slice ea en' ec], 38)] w5) from H4.out.below b5)
          have RR := (show Hid (sb = true → StepsRow w.heap.size w5 (.slice fa fn fc) D4) from fun h => StepsRow.base (hrow h) H4.out.1.size)
          clear b5 hrow CS c0 c1 c2 c3 c4 c5 c6 m1 m2 m3 m4 m5 m6 H4 O4
          cases sb
          · have e1 := HQ.out
            rw [if_pos rfl] at e1
            subst e1
            go_wp2_with fail
            refine region_tail 3 (by kernel_rfl) (by kernel_rfl) ?_
            intro w8 K8 hW8 hK8
            have ne := One.any w8
            have S8 := (show Hid (Hl w [(T, #[.int .i64 (no + 1), .int .i64 ar, .int .i64 (en + (b.length : Int))], 35), (w.heap.size + 1, #[.int .i64 0, .int .i64 0, .int .i64 0], 35), (R, #[.int .i64 2, .string u, .string ⟨#[]⟩], 100), (w.heap.size, #[.bool true, .slice sa sn sc, .slice la ln lc, .int .i64 no, .int .i64 ar, .int .i64 en, .slice ea en' ec], 38)] w8) from by rw [hW8.out]; exact H5.out.below (below_drewN 1))
            have gg := fun n : One w8 => rk_three (show n.w.heap[T]? = _ by rw [n.eq]; exact S8.out.at0)
            have g0 := fun n : One w8 => (gg n).1
            have g1 := fun n : One w8 => (gg n).2.1
            have g2 := fun n : One w8 => (gg n).2.2.1
            clear gg H5
            simp only [List.take_succ_cons, List.take_zero, List.drop_succ_cons, List.drop_zero] at hK8 ⊢
            repeat (go_big_quiet_step (fail))
            refine wpQuiet_nil ?_
            refine hK8.out _ ?_
            clear hK8 g0 g1 g2
            obtain ⟨m1, m2, m3, m4, m5, m6⟩ := rk_three S8.out.at1
            have S9 := (show Hid _ from (S8.out.swap.sub (L' := [(w.heap.size + 1, #[.int .i64 0, .int .i64 0, .int .i64 0], 35)]) (by simp)).set3 (by omega) (by simp) (.int .i64 (no + 1)) (.int .i64 ar) (.int .i64 (en + (b.length : Int))))
            go_wp2
            refine bodyPost_ret (work_res rfl rfl rfl rfl S9.out.at0) rfl ?_
            exact ⟨_, _, _, _, _, _, rfl, (fun e => absurd e (by decide)), S9.out.1⟩
          · have e1 := HQ.out
            rw [if_neg (by decide)] at e1
            subst e1
            have RW := (show Hid (StepsRow w.heap.size w5 (.slice fa fn fc) D4) from RR.out rfl)
            go_wp2_with fail
            refine region_tail 3 (by kernel_rfl) (by kernel_rfl) ?_
            intro w8 K8 hW8 hK8
            have ne := One.any w8
            have S8 := (show Hid (Hl w [(T, #[.int .i64 (no + 1), .int .i64 ar, .int .i64 (en + (b.length : Int))], 35), (w.heap.size + 1, #[.int .i64 0, .int .i64 0, .int .i64 0], 35), (R, #[.int .i64 2, .string u, .string ⟨#[]⟩], 100), (w.heap.size, #[.bool true, .slice sa sn sc, .slice la ln lc, .int .i64 no, .int .i64 ar, .int .i64 en, .slice ea en' ec], 38)] w8) from by rw [hW8.out]; exact H5.out.below (below_drewN 1))
            have R8 := (show Hid (StepsRow w.heap.size w8 (.slice fa fn fc) D4) from by rw [hW8.out]; exact StepsRow.below RW.out (below_drewN 1))
            have gg := fun n : One w8 => rk_three (show n.w.heap[T]? = _ by rw [n.eq]; exact S8.out.at0)
            have g0 := fun n : One w8 => (gg n).1
            have g1 := fun n : One w8 => (gg n).2.1
            have g2 := fun n : One w8 => (gg n).2.2.1
            clear gg H5
            simp only [List.take_succ_cons, List.take_zero, List.drop_succ_cons, List.drop_zero] at hK8 ⊢
            repeat (go_big_quiet_step (fail))
            refine wpQuiet_nil ?_
            refine hK8.out _ ?_
            clear hK8 g0 g1 g2
            obtain ⟨m1, m2, m3, m4, m5, m6⟩ := rk_three S8.out.at1
            have S9 := (show Hid _ from (S8.out.swap.sub (L' := [(w.heap.size + 1, #[.int .i64 0, .int .i64 0, .int .i64 0], 35)]) (by simp)).set3 (by omega) (by simp) (.int .i64 (no + 1)) (.int .i64 ar) (.int .i64 (en + (b.length : Int))))
            have R9 := (show Hid _ from StepsRow.set3 (x' := .int .i64 (no + 1)) (y' := .int .i64 ar) (z' := .int .i64 (en + (b.length : Int))) R8.out S8.out.at1)
            go_wp2
            refine bodyPost_ret (work_res rfl rfl rfl rfl S9.out.at0) rfl ?_
            exact ⟨_, _, _, _, _, _, rfl, fun _ => ⟨rfl, R9.out⟩, S9.out.1⟩
end Go.Proofs.YtjokajblihaphaaGreatDoor

/- The specification's l18Done, ArchiveDrop, ArchiveCompact (written by mk/sstep3.py). No condition. -/
namespace Go.Proofs.YtjokajblihaphaaGreatDoor
open Go.RowKit
set_option maxRecDepth 100000
set_option linter.unusedVariables false

theorem grown_cellS {w w' : World} {g b k : Nat} (h : w.grownBy w' (some g)) (hne : b ≠ g) (hb : b < w.heap.size) : w'.cell? ⟨b, k, none⟩ = w.cell? ⟨b, k, none⟩ := World.cell?_of_block (h.block _ hb (fun e => hne (Option.some.inj e)))
/-- What l18Done answers, from l18Work's code, head and last disk. -/
def doneA (a : PArch) (q : Int) (h : PHead) (d : PDisk) : PArch × Int := if archB a = false then (zeroA, 1) else if q = 0 then (⟨true, d, h, indexA d h⟩, 0) else (a, q)
theorem row_four {B : Nat} {W : World} {t : TypeId} {fa : Option Addr} {fn fc : Nat} {a1 b1 a2 b2 a3 b3 a4 b4 : Value} (h : W.ownsRow B t 2 (.slice fa fn fc) 4 [a1, b1, a2, b2, a3, b3, a4, b4]) : ∃ g, fa = some ⟨g, 0, none⟩ ∧ fn = 4 ∧ W.cell? ⟨g, 6, none⟩ = some a4 ∧ W.cell? ⟨g, 7, none⟩ = some b4 ∧ g < W.heap.size ∧ ∃ cur, W.heap[g]? = some (.cells cur t (0, 0)) := by
  obtain ⟨_, ⟨_, h⟩ | ⟨g, cap, cur, e, _, hg, _, _, _, hx⟩⟩ := h
  · cases h
  · cases e
    have k6 : cur.toList[6]? = some a4 := by
      have := congrArg (fun l => l[6]?) hx
      simpa [List.getElem?_take] using this
    have k7 : cur.toList[7]? = some b4 := by
      have := congrArg (fun l => l[7]?) hx
      simpa [List.getElem?_take] using this
    refine ⟨g, rfl, rfl, ?_, ?_, lt_of_block hg, cur, hg⟩
    · simp only [World.cell?, hg]
      simpa using k6
    · simp only [World.cell?, hg]
      simpa using k7

set_option maxHeartbeats 4000000 in
set_option maxRecDepth 100000 in
theorem sl18Done_any {w : World} {v u2 u3 : Value} {a : PArch} {kd q : Int} {h4 : PHead} {d4 : PDisk} (h : ArAt w v a) (hf : ArFit a) (hq : archB a = true → q = 0 → diskB d4 = true ∧ headB h4 = true) (hW : archB a = true → ∀ W, Below w.heap.size w W → Calls Tryz.prog 35 #[v, .int .i64 kd, u2, u3] W fun e w' => WorkOut W q h4 d4 e w') :
    Calls Tryz.prog 16 #[v, .int .i64 kd, u2, u3] w fun e w' => ∃ v', e = .returned (.tuple #[v', .int .i64 (doneA a q h4 d4).2]) ∧ OwnAy w.heap.size w' v' (doneA a q h4 d4).1 ∧ Below w.heap.size w w' := by
  have HA := (show Hid (ArAt w v a) from h)
  have HF := (show Hid (ArFit a) from hf)
  have HW := (show Hid _ from hW)
  have HQ4 := (show Hid _ from hq)
  obtain ⟨⟨ra, rc⟩, hra⟩ : ∃ x, x = doneA a q h4 d4 := ⟨_, rfl⟩
  have HQ := (show Hid ((ra, rc) = doneA a q h4 d4) from hra)
  rw [← hra]
  simp only
  obtain ⟨qb, hqb⟩ : ∃ z, z = archB a := ⟨_, rfl⟩
  obtain ⟨sa, sn, sc, la, ln, lc, ea, en', ec, rfl, h1, h2⟩ := h
  have hl := ((Hl.refl w).new #[.bool a.up, .slice sa sn sc, .slice la ln lc, .int .i64 a.head.no, .int .i64 a.head.area, .int .i64 a.head.en, .slice ea en' ec] 38).new #[.bool false, .slice none 0 0, .slice none 0 0, .int .i64 0, .int .i64 0, .int .i64 0, .slice none 0 0] 38
  obtain ⟨w1, hw1⟩ : ∃ x, x = (w.alloc (.cells #[.bool a.up, .slice sa sn sc, .slice la ln lc, .int .i64 a.head.no, .int .i64 a.head.area, .int .i64 a.head.en, .slice ea en' ec] 38)).alloc (.cells #[.bool false, .slice none 0 0, .slice none 0 0, .int .i64 0, .int .i64 0, .int .i64 0, .slice none 0 0] 38) := ⟨_, rfl⟩
  rw [← hw1, World.size_alloc] at hl
  have HL := (show Hid (Hl w [(w.heap.size + 1, #[.bool false, .slice none 0 0, .slice none 0 0, .int .i64 0, .int .i64 0, .int .i64 0, .slice none 0 0], 38), (w.heap.size, #[.bool a.up, .slice sa sn sc, .slice la ln lc, .int .i64 a.head.no, .int .i64 a.head.area, .int .i64 a.head.en, .slice ea en' ec], 38)] w1) from hl)
  have CO := sarOk_any (HA.out.below hl.1) hf
  rw [← hqb] at CO HW HQ4
  have CO := (show Hid _ from CO)
  have HAQ := (show Hid (qb = archB a) from hqb)
  clear hl h1 h2 hf hqb hra hq hW
  go_enter Tryz.func16, Tryz.ntmps16
  go_wp2_with fail
  go_at_call 34
  rw [← hw1]
  refine Calls.mono CO.out ?_
  rintro e w2 ⟨rfl, b2⟩
  have S2 := (show Hid (Hl w [(w.heap.size + 1, #[.bool false, .slice none 0 0, .slice none 0 0, .int .i64 0, .int .i64 0, .int .i64 0, .slice none 0 0], 38), (w.heap.size, #[.bool a.up, .slice sa sn sc, .slice la ln lc, .int .i64 a.head.no, .int .i64 a.head.area, .int .i64 a.head.en, .slice ea en' ec], 38)] w2) from HL.out.below b2)
  clear b2 hw1 HL CO
  cases qb
  · have e1 := HQ.out
    rw [doneA, if_pos HAQ.out.symm] at e1
    cases e1
    clear HQ
    obtain ⟨m0, m1, m2, m3, m4, m5, m6, _⟩ := rk_seven S2.out.at0
    have j0 := rk_thaw (k := 0) S2.out.at0
    have j1 := rk_thaw (k := 1) S2.out.at0
    have j2 := rk_thaw (k := 2) S2.out.at0
    have j3 := rk_thaw (k := 3) S2.out.at0
    have j4 := rk_thaw (k := 4) S2.out.at0
    have j5 := rk_thaw (k := 5) S2.out.at0
    have j6 := rk_thaw (k := 6) S2.out.at0
    have S9 := (show Hid _ from S2.out.set7 (Nat.le_succ _) (by simp) (.bool false) (.slice none 0 0) (.slice none 0 0) (.int .i64 0) (.int .i64 0) (.int .i64 0) (.slice none 0 0))
    go_wp2
    refine bodyPost_ret (arch_res rfl rfl rfl S9.out.at0) rfl ?_
    exact ⟨_, rfl, ⟨none, 0, 0, none, 0, 0, none, 0, 0, rfl, ⟨none, 0, 0, none, 0, 0, rfl, .inl ⟨rfl, rfl, none, rfl, fun _ => trivial⟩, .inl ⟨rfl, rfl, none, rfl, fun _ => trivial⟩⟩, .inl ⟨rfl, rfl, none, rfl, fun _ => trivial⟩⟩, S9.out.1⟩
  · have e1 := HQ.out
    rw [doneA, if_neg (by rw [← HAQ.out]; decide)] at e1
    have HQ := (show Hid _ from e1)
    clear e1
    obtain ⟨c0, c1, c2, c3, c4, c5, c6, _⟩ := rk_seven S2.out.at1
    have CW := (show Hid _ from HW.out rfl w2 S2.out.1)
    clear HW
    go_wp2_with fail
    go_at_call 35
    refine Calls.mono CW.out ?_
    rintro e w4 ⟨fa, fn, fc, hn, ha, hz, rfl, hok, b4⟩
    have s4 := S2.out.below b4
    have hT := s4.lt (p := (w.heap.size + 1, #[.bool false, .slice none 0 0, .slice none 0 0, .int .i64 0, .int .i64 0, .int .i64 0, .slice none 0 0], 38)) (by simp)
    have s5 := s4.new #[.int .i64 hn, .int .i64 ha, .int .i64 hz] 35
    obtain ⟨T, hTe⟩ : ∃ z, z = w4.heap.size := ⟨_, rfl⟩
    obtain ⟨w5, hw5⟩ : ∃ z, z = w4.alloc (.cells #[.int .i64 hn, .int .i64 ha, .int .i64 hz] 35) := ⟨_, rfl⟩
    rw [← hw5, ← hTe] at s5
    rw [← hTe] at hT
    have HT := (show Hid (w.heap.size + 1 < T) from hT)
    have S5 := (show Hid (Hl w [(T, #[.int .i64 hn, .int .i64 ha, .int .i64 hz], 35), (w.heap.size + 1, #[.bool false, .slice none 0 0, .slice none 0 0, .int .i64 0, .int .i64 0, .int .i64 0, .slice none 0 0], 38), (w.heap.size, #[.bool a.up, .slice sa sn sc, .slice la ln lc, .int .i64 a.head.no, .int .i64 a.head.area, .int .i64 a.head.en, .slice ea en' ec], 38)] w5) from s5)
    have HOK := (show Hid (q = 0 → (⟨hn, ha, hz⟩ : PHead) = h4 ∧ StepsRow w.heap.size w5 (.slice fa fn fc) d4) from fun h => ⟨(hok h).1, by
      have r := StepsRow.base (hok h).2 S2.out.1.size
      rw [hw5]
      exact StepsRow.below r ((Below.refl _ _).alloc (Nat.le_refl _) _)⟩)
    clear s4 s5 b4 hok CW c0 c1 c2 c3 c4 c5 c6 S2 hT
    by_cases hq0 : q = 0
    · subst hq0
      have e1 := HQ.out
      rw [if_pos rfl] at e1
      cases e1
      obtain ⟨rfl, a1, b1, a2, b2, a3, b3, xa, xn, xc, va, vn, vc, orow, od⟩ := HOK.out rfl
      obtain ⟨hdk, hhb⟩ := HQ4.out (by trivial) rfl
      obtain ⟨g, rfl, rfl, k6, k7, hgl, gcur, hgb⟩ := row_four orow
      have HGN := (show Hid (g ≠ w.heap.size + 1 ∧ g < w5.heap.size ∧ T < w5.heap.size) from ⟨(fun e => by
        rw [e, S5.out.at1] at hgb
        cases hgb), hgl, S5.out.lt (List.mem_cons_self ..)⟩)
      have KS := (show Hid (∀ W, Below w5.heap.size w5 W → W.cell? ⟨g, 6, none⟩ = some (.slice xa xn xc) ∧ W.cell? ⟨g, 7, none⟩ = some (.slice va vn vc) ∧ W.cell? ⟨T, 0, none⟩ = some (.int .i64 hn) ∧ W.cell? ⟨T, 1, none⟩ = some (.int .i64 ha) ∧ W.cell? ⟨T, 2, none⟩ = some (.int .i64 hz)) from fun W h => ⟨(h.cell (p := ⟨g, 6, none⟩) hgl).trans k6, (h.cell (p := ⟨g, 7, none⟩) hgl).trans k7, (rk_three (S5.out.below h).at0).1, (rk_three (S5.out.below h).at0).2.1, (rk_three (S5.out.below h).at0).2.2.1⟩)
      have KD := (show Hid (Below w5.heap.size w5 w5.drew) from below_drewN 1)
      have CU := (show Hid (Calls Tryz.prog 37 #[.agg #[.slice xa xn xc, .slice va vn vc], .agg #[.int .i64 hn, .int .i64 ha, .int .i64 hz]] w5.drew fun e w' => ∃ v', e = .returned v' ∧ OwnAy w.heap.size w' v' ⟨true, d4, ⟨hn, ha, hz⟩, indexA d4 ⟨hn, ha, hz⟩⟩ ∧ Below w5.drew.heap.size w5.drew w') from sl18Up_any (OwnDy.below od KD.out) (Nat.le_trans S5.out.1.size KD.out.size) hdk ⟨hn, ha, hz⟩ hhb)
      clear HOK HQ4 orow od hdk hhb k6 k7 hgl hgb HQ
      go_upto_region 6 with fail
      rw [← hw5, ← hTe]
      clear hw5 hTe
      go_region_held3 (fun w' => w'.cell? ⟨g, 6, none⟩ = some (.slice xa xn xc) ∧ w'.cell? ⟨g, 7, none⟩ = some (.slice va vn vc) ∧ w'.cell? ⟨T, 0, none⟩ = some (.int .i64 hn) ∧ w'.cell? ⟨T, 1, none⟩ = some (.int .i64 ha) ∧ w'.cell? ⟨T, 2, none⟩ = some (.int .i64 hz))
        (with_reducible first | exact KZ.out | exact KS.out _ T_y.out | exact KS.out _ KD.out)
        (first
          | (go_at_call 37
             refine Calls.mono CU.out ?_
             rintro e y1 ⟨v1, rfl, o1, b1⟩
             have T_y := (show Hid (Below w5.heap.size w5 y1) from KD.out.trans (b1.mono KD.out.size))
             have T1 := (show Hid (Hl w [(T, #[.int .i64 hn, .int .i64 ha, .int .i64 hz], 35), (w.heap.size + 1, #[.bool false, .slice none 0 0, .slice none 0 0, .int .i64 0, .int .i64 0, .int .i64 0, .slice none 0 0], 38), (w.heap.size, #[.bool a.up, .slice sa sn sc, .slice la ln lc, .int .i64 a.head.no, .int .i64 a.head.area, .int .i64 a.head.en, .slice ea en' ec], 38)] y1) from S5.out.below T_y.out)
             have O1 := (show Hid (OwnAy w.heap.size y1 v1 ⟨true, d4, ⟨hn, ha, hz⟩, indexA d4 ⟨hn, ha, hz⟩⟩) from o1)
             obtain ⟨ya, yn, yc, za, zn, zc, fa', fn', fc', e1, _⟩ := O1.out
             subst e1
             obtain ⟨m0, m1, m2, m3, m4, m5, m6, _⟩ := rk_seven T1.out.at1
             have j0 := rk_thaw (k := 0) T1.out.at1
             have j1 := rk_thaw (k := 1) T1.out.at1
             have j2 := rk_thaw (k := 2) T1.out.at1
             have j3 := rk_thaw (k := 3) T1.out.at1
             have j4 := rk_thaw (k := 4) T1.out.at1
             have j5 := rk_thaw (k := 5) T1.out.at1
             have j6 := rk_thaw (k := 6) T1.out.at1
             have S9 := (show Hid _ from (T1.out.swap.sub (L' := [(w.heap.size + 1, #[.bool false, .slice none 0 0, .slice none 0 0, .int .i64 0, .int .i64 0, .int .i64 0, .slice none 0 0], 38), (w.heap.size, #[.bool a.up, .slice sa sn sc, .slice la ln lc, .int .i64 a.head.no, .int .i64 a.head.area, .int .i64 a.head.en, .slice ea en' ec], 38)]) (by simp)).set7 (Nat.le_succ _) (by simp) (.bool true) (.slice ya yn yc) (.slice za zn zc) (.int .i64 hn) (.int .i64 ha) (.int .i64 hz) (.slice fa' fn' fc'))
             have g9 := grown_set7 y1 (w.heap.size + 1) (.bool true) (.slice ya yn yc) (.slice za zn zc) (.int .i64 hn) (.int .i64 ha) (.int .i64 hz) (.slice fa' fn' fc')
             have O9 := (show Hid _ from OwnAy.turned O1.out g9 (fun j e => by cases e; exact ⟨_, _, _, T1.out.at1, by decide, by decide, by decide⟩))
             have KZ := (show Hid ((((((((y1.setCell ⟨w.heap.size + 1, 0, none⟩ (.bool true)).setCell ⟨w.heap.size + 1, 1, none⟩ (.slice ya yn yc)).setCell ⟨w.heap.size + 1, 2, none⟩ (.slice za zn zc)).setCell ⟨w.heap.size + 1, 3, none⟩ (.int .i64 hn)).setCell ⟨w.heap.size + 1, 4, none⟩ (.int .i64 ha)).setCell ⟨w.heap.size + 1, 5, none⟩ (.int .i64 hz)).setCell ⟨w.heap.size + 1, 6, none⟩ (.slice fa' fn' fc')).cell? ⟨g, 6, none⟩ = some (.slice xa xn xc) ∧ (((((((y1.setCell ⟨w.heap.size + 1, 0, none⟩ (.bool true)).setCell ⟨w.heap.size + 1, 1, none⟩ (.slice ya yn yc)).setCell ⟨w.heap.size + 1, 2, none⟩ (.slice za zn zc)).setCell ⟨w.heap.size + 1, 3, none⟩ (.int .i64 hn)).setCell ⟨w.heap.size + 1, 4, none⟩ (.int .i64 ha)).setCell ⟨w.heap.size + 1, 5, none⟩ (.int .i64 hz)).setCell ⟨w.heap.size + 1, 6, none⟩ (.slice fa' fn' fc')).cell? ⟨g, 7, none⟩ = some (.slice va vn vc) ∧ (((((((y1.setCell ⟨w.heap.size + 1, 0, none⟩ (.bool true)).setCell ⟨w.heap.size + 1, 1, none⟩ (.slice ya yn yc)).setCell ⟨w.heap.size + 1, 2, none⟩ (.slice za zn zc)).setCell ⟨w.heap.size + 1, 3, none⟩ (.int .i64 hn)).setCell ⟨w.heap.size + 1, 4, none⟩ (.int .i64 ha)).setCell ⟨w.heap.size + 1, 5, none⟩ (.int .i64 hz)).setCell ⟨w.heap.size + 1, 6, none⟩ (.slice fa' fn' fc')).cell? ⟨T, 0, none⟩ = some (.int .i64 hn) ∧ (((((((y1.setCell ⟨w.heap.size + 1, 0, none⟩ (.bool true)).setCell ⟨w.heap.size + 1, 1, none⟩ (.slice ya yn yc)).setCell ⟨w.heap.size + 1, 2, none⟩ (.slice za zn zc)).setCell ⟨w.heap.size + 1, 3, none⟩ (.int .i64 hn)).setCell ⟨w.heap.size + 1, 4, none⟩ (.int .i64 ha)).setCell ⟨w.heap.size + 1, 5, none⟩ (.int .i64 hz)).setCell ⟨w.heap.size + 1, 6, none⟩ (.slice fa' fn' fc')).cell? ⟨T, 1, none⟩ = some (.int .i64 ha) ∧ (((((((y1.setCell ⟨w.heap.size + 1, 0, none⟩ (.bool true)).setCell ⟨w.heap.size + 1, 1, none⟩ (.slice ya yn yc)).setCell ⟨w.heap.size + 1, 2, none⟩ (.slice za zn zc)).setCell ⟨w.heap.size + 1, 3, none⟩ (.int .i64 hn)).setCell ⟨w.heap.size + 1, 4, none⟩ (.int .i64 ha)).setCell ⟨w.heap.size + 1, 5, none⟩ (.int .i64 hz)).setCell ⟨w.heap.size + 1, 6, none⟩ (.slice fa' fn' fc')).cell? ⟨T, 2, none⟩ = some (.int .i64 hz)) from by
               obtain ⟨n1, n2, n3, n4, n5⟩ := KS.out _ T_y.out
               obtain ⟨q1, q2, q3⟩ := HGN.out
               have q4 := HT.out
               have z := T_y.out.size
               exact ⟨(grown_cellS g9 q1 (by omega)).trans n1, (grown_cellS g9 q1 (by omega)).trans n2, (grown_cellS g9 (by omega) (by omega)).trans n3, (grown_cellS g9 (by omega) (by omega)).trans n4, (grown_cellS g9 (by omega) (by omega)).trans n5⟩)
             clear g9 O1 o1 b1))
      all_goals go_wp2
      all_goals refine bodyPost_ret (arch_res rfl rfl rfl S9.out.at0) rfl ?_
      all_goals exact ⟨_, rfl, O9.out, S9.out.1⟩
    · have e1 := HQ.out
      rw [if_neg hq0] at e1
      cases e1
      clear HQ HOK HQ4
      obtain ⟨c0, c1, c2, c3, c4, c5, c6, _⟩ := rk_seven S5.out.at2
      go_upto_region 5 with fail
      rw [← hw5, ← hTe]
      clear hw5 hTe
      go_wp2_with fail
      go_at_call 36
      refine (sl18Copy_any (HA.out.below S5.out.1) HF.out).mono ?_
      rintro e y1 ⟨v1, rfl, o1, b1⟩
      have T1 := (show Hid (Hl w [(w.heap.size + 1, #[.bool false, .slice none 0 0, .slice none 0 0, .int .i64 0, .int .i64 0, .int .i64 0, .slice none 0 0], 38), (w.heap.size, #[.bool a.up, .slice sa sn sc, .slice la ln lc, .int .i64 a.head.no, .int .i64 a.head.area, .int .i64 a.head.en, .slice ea en' ec], 38)] y1) from (S5.out.below b1).tail)
      have O1 := (show Hid (OwnAy w.heap.size y1 v1 a) from OwnAy.base o1 S5.out.1.size)
      clear b1 o1 c0 c1 c2 c3 c4 c5 c6
      obtain ⟨ya, yn, yc, za, zn, zc, fa', fn', fc', e1, _⟩ := O1.out
      subst e1
      obtain ⟨m0, m1, m2, m3, m4, m5, m6, _⟩ := rk_seven T1.out.at0
      have j0 := rk_thaw (k := 0) T1.out.at0
      have j1 := rk_thaw (k := 1) T1.out.at0
      have j2 := rk_thaw (k := 2) T1.out.at0
      have j3 := rk_thaw (k := 3) T1.out.at0
      have j4 := rk_thaw (k := 4) T1.out.at0
      have j5 := rk_thaw (k := 5) T1.out.at0
      have j6 := rk_thaw (k := 6) T1.out.at0
      have S9 := (show Hid _ from T1.out.set7 (Nat.le_succ _) (by simp) (.bool a.up) (.slice ya yn yc) (.slice za zn zc) (.int .i64 a.head.no) (.int .i64 a.head.area) (.int .i64 a.head.en) (.slice fa' fn' fc'))
      have g9 := grown_set7 y1 (w.heap.size + 1) (.bool a.up) (.slice ya yn yc) (.slice za zn zc) (.int .i64 a.head.no) (.int .i64 a.head.area) (.int .i64 a.head.en) (.slice fa' fn' fc')
      have O9 := (show Hid _ from OwnAy.turned O1.out g9 (fun j e => by cases e; exact ⟨_, _, _, T1.out.at0, by decide, by decide, by decide⟩))
      clear g9 O1
      go_wp2
      refine bodyPost_ret (arch_res rfl rfl rfl S9.out.at0) rfl ?_
      exact ⟨_, rfl, O9.out, S9.out.1⟩
end Go.Proofs.YtjokajblihaphaaGreatDoor

/- The program's IndexFind: the first that fits. -/
namespace Go.Proofs.YtjokajblihaphaaGreatDoor
open Go.RowKit
set_option maxRecDepth 100000
set_option linter.unusedVariables false

theorem idxFind1_any (g : Nat) (nm x y : ByteArray) (w : World) (hg : w.cell? ⟨g, 0, none⟩ = some (.string nm)) (hlt : g < w.heap.size) :
    Calls Tryz.prog 82 #[.agg #[.string x, .string y], .pointer (some ⟨g, 0, none⟩)] w fun e w' => e = .returned (.bool (decide (x = nm))) ∧ Below w.heap.size w w' := by
  have hb : Below w.heap.size w (w.alloc (.cells #[.string x, .string y] 77)) := (Below.refl _ _).alloc (Nat.le_refl _) _
  have hg2 := (hb.cell (p := ⟨g, 0, none⟩) hlt).trans hg
  by_cases hm : x = nm
  · rw [decide_eq_true hm]
    subst hm
    go_enter Tryz.func82, Tryz.ntmps82
    go_wp2
    go_ret
    exact ⟨rfl, hb⟩
  · rw [decide_eq_false hm]
    have hd := toList_ne hm
    go_enter Tryz.func82, Tryz.ntmps82
    go_wp2
    go_ret
    exact ⟨rfl, hb⟩

theorem firstE_res {tmps : Array Value} {w : World} {g : Nat} {x y : ByteArray} {b : Bool} (h4 : tmps.getD 4 undef = .pointer (some ⟨g, 0, none⟩)) (h5 : tmps.getD 5 undef = .bool b) (hb : w.heap[g]? = some (.cells #[.string x, .string y] 77 (0, 0))) :
    (results Tryz.f81 tmps).run Tryz.prog w = .ok (.tuple #[.agg #[.string x, .string y], .bool b]) w := by
  rw [results_cell_tmp (p := 4) (u := 5) (ty := 77) rfl, h4, h5]
  simp [asAddr, run_loadVar_row w g 77 77 #[.string x, .string y] (0, 0) _ hb Tryz.underlying77 rfl rfl, Result.andThen]

/-- The first of that name: its name. -/
def urlNm (rs : List (ByteArray × ByteArray)) (nm : ByteArray) : ByteArray := if (attrOf rs nm).2 then nm else ⟨#[]⟩

set_option maxHeartbeats 2000000 in
set_option maxRecDepth 100000 in
theorem firstUrl_any {v : Value} {rs : List (ByteArray × ByteArray)} {w : World} (h : Sv 2 w v (pairCells rs)) (g : Nat) (nm : ByteArray) (hg : w.cell? ⟨g, 0, none⟩ = some (.string nm)) (hgl : g < w.heap.size) (hn : rs.length ≤ 1099511627776) :
    Calls Tryz.prog 81 #[v, .func (.func 82) #[] #[.pointer (some ⟨g, 0, none⟩)]] w fun e w' => e = .returned (.tuple #[.agg #[.string (urlNm rs nm), .string (attrOf rs nm).1], .bool (attrOf rs nm).2]) ∧ Below w.heap.size w w' := by
  have HS := (show Hid (Sv 2 w v (pairCells rs)) from h)
  obtain ⟨a, ca, rfl, _, _, hca⟩ := h.pair
  clear h hca
  have HG := (show Hid (w.cell? ⟨g, 0, none⟩ = some (.string nm)) from hg)
  clear hg
  go_enter Tryz.func81, Tryz.ntmps81
  go_wp2
  obtain ⟨w0, hw0⟩ : ∃ w0, w0 = w.alloc (.cells #[.string ⟨#[]⟩, .string ⟨#[]⟩] 77) := ⟨_, rfl⟩
  have hsz0 : w0.heap.size = w.heap.size + 1 := by rw [hw0]; simp
  have bel0 : Below w.heap.size w w0 := by rw [hw0]; exact (Below.refl _ _).alloc (Nat.le_refl _) _
  have hres0 : w0.heap[w.heap.size]? = some (.cells #[.string ⟨#[]⟩, .string ⟨#[]⟩] 77 (0, 0)) := by rw [hw0]; exact World.alloc_heap_new _ _
  rw [← hw0]
  go_loopw [11] (fun i wr => ∃ k : Nat, k ≤ rs.length ∧ i = .int .i64 k ∧ attrOf (rs.drop k) nm = attrOf rs nm ∧ Below w0.heap.size w0 wr) (fun i _ => rs.length - (intOf i).toNat)
  case atStart => exact ⟨0, Nat.zero_le _, rfl, rfl, Below.refl _ _⟩
  case round =>
    obtain ⟨k, hk, rfl, he, bel⟩ := hrel
    have BW : Hid (Below w.heap.size w wr) := bel0.trans (bel.mono (by omega))
    have hresr : wr.heap[w.heap.size]? = some (.cells #[.string ⟨#[]⟩, .string ⟨#[]⟩] 77 (0, 0)) := by rw [bel.block _ (by omega)]; exact hres0
    have hwl : w.heap.size < wr.heap.size := by have := bel.size; omega
    by_cases hlt : k < rs.length
    · obtain ⟨_, _, ev, _, _, hca⟩ := (HS.out.below BW.out).pair
      cases ev
      obtain ⟨b1, o1, rfl, l1, c1, c2⟩ := hca k hlt
      rw [attrOf_drop hlt] at he
      obtain ⟨x, hx⟩ : ∃ x, x = rs[k] := ⟨_, rfl⟩
      rw [← hx] at c1 c2 he
      have HE := (show Hid _ from he)
      clear he hx hca
      obtain ⟨xn, xv⟩ := x
      simp only at c1 c2 HE
      have bx : Below wr.heap.size wr (wr.alloc (.cells #[.string xn, .string xv] 77)) := (Below.refl _ _).alloc (Nat.le_refl _) _
      have cc := idxFind1_any g nm xn xv (wr.alloc (.cells #[.string xn, .string xv] 77)) ((bx.cell (p := ⟨g, 0, none⟩) (by show g < wr.heap.size; omega)).trans ((BW.out.cell (p := ⟨g, 0, none⟩) hgl).trans HG.out)) (by simp; omega)
      have hxb : (wr.alloc (.cells #[.string xn, .string xv] 77)).heap[wr.heap.size]? = some (.cells #[.string xn, .string xv] 77 (0, 0)) := World.alloc_heap_new _ _
      have hrb : (wr.alloc (.cells #[.string xn, .string xv] 77)).heap[w.heap.size]? = some (.cells #[.string ⟨#[]⟩, .string ⟨#[]⟩] 77 (0, 0)) := by rw [bx.block _ hwl]; exact hresr
      have hsa : (wr.alloc (.cells #[.string xn, .string xv] 77)).heap.size = wr.heap.size + 1 := by simp
      by_cases hm : xn = nm
      · rw [decide_eq_true hm] at cc
        have HE2 : Hid (attrOf rs nm = (xv, true)) := by have := HE.out; rw [if_pos hm] at this; exact this.symm
        clear HE
        subst hm
        go_wp2_with fail
        go_at_call 82
        refine cc.mono ?_
        rintro e w2 ⟨rfl, b2⟩
        have hx2 := (b2.block wr.heap.size (by omega)).trans hxb
        have hr2 := (b2.block w.heap.size (by omega)).trans hrb
        have x0 : w2.cell? ⟨wr.heap.size, 0, none⟩ = some (.string xn) := by simp [World.cell?, hx2]
        have x1 : w2.cell? ⟨wr.heap.size, 1, none⟩ = some (.string xv) := by simp [World.cell?, hx2]
        have r0 : w2.cell? ⟨w.heap.size, 0, none⟩ = some (.string ⟨#[]⟩) := by simp [World.cell?, hr2]
        have r1 : w2.cell? ⟨w.heap.size, 1, none⟩ = some (.string ⟨#[]⟩) := by simp [World.cell?, hr2]
        have f0 : w2.frozen? ⟨w.heap.size, 0, none⟩ = false := by simp [World.frozen?, hr2]
        have f1 : w2.frozen? ⟨w.heap.size, 1, none⟩ = false := by simp [World.frozen?, hr2]
        have BW2 : Hid (Below w.heap.size w w2) := BW.out.trans ((bx.trans (b2.mono (by omega))).mono (by omega))
        have hr3 := (show Hid _ from rk_at (k := 1) (u := .string xv) (rk_at (k := 0) (u := .string xn) hr2))
        clear c1 c2 cc hx2 hr2 hxb hrb hresr
        go_wp2
        (try simp only [Exit.inBlock, Exit.then])
        refine bodyPost_ret (firstE_res (x := xn) (y := xv) (b := true) rfl rfl hr3.out) rfl ?_
        exact ⟨by unfold urlNm; rw [HE2.out]; rfl, (BW2.out.setCell (Nat.le_refl _) _).setCell (Nat.le_refl _) _⟩
      · rw [decide_eq_false hm] at cc
        have HE2 := HE.out
        rw [if_neg hm] at HE2
        have HE3 := (show Hid _ from HE2)
        clear HE HE2
        go_wp2_with fail
        go_at_call 82
        refine cc.mono ?_
        rintro e w2 ⟨rfl, b2⟩
        go_wp2
        go_roundw
        case rel => exact ⟨k + 1, by omega, by go_num, HE3.out, bel.trans ((bx.trans (b2.mono (by omega))).mono bel.size)⟩
        case measure => simp [intOf]; omega
    · have hke : k = rs.length := by omega
      rw [hke, List.drop_length] at he
      have HE := (show Hid _ from he)
      clear he
      have r0 : wr.cell? ⟨w.heap.size, 0, none⟩ = some (.string ⟨#[]⟩) := by simp only [World.cell?, hresr]; rfl
      have r1 : wr.cell? ⟨w.heap.size, 1, none⟩ = some (.string ⟨#[]⟩) := by simp only [World.cell?, hresr]; rfl
      have f0 : wr.frozen? ⟨w.heap.size, 0, none⟩ = false := by simp only [World.frozen?, hresr]; rfl
      have f1 : wr.frozen? ⟨w.heap.size, 1, none⟩ = false := by simp only [World.frozen?, hresr]; rfl
      have hr3 := (show Hid _ from rk_at (k := 1) (u := .string ⟨#[]⟩) (rk_at (k := 0) (u := .string ⟨#[]⟩) hresr))
      have hne : w.heap.size ≠ wr.heap.size := by omega
      clear hresr
      go_wp2
      (try simp only [Exit.inBlock, Exit.then])
      refine bodyPost_ret (firstE_res (x := ⟨#[]⟩) (y := ⟨#[]⟩) (b := false) rfl rfl ((heap_alloc_old _ _ (by simp; omega)).trans hr3.out)) rfl ?_
      exact ⟨by unfold urlNm; rw [← HE.out]; rfl, ((BW.out.setCell (Nat.le_refl _) _).setCell (Nat.le_refl _) _).alloc (by simp; omega) _⟩

set_option maxHeartbeats 2000000 in
set_option maxRecDepth 100000 in
theorem iidxFind_any {v : Value} {rs : List (ByteArray × ByteArray)} {w : World} (h : Sv 2 w v (pairCells rs)) (nm : ByteArray) (hn : rs.length ≤ 1099511627776) :
    Calls Tryz.prog 46 #[v, .string nm] w fun e w' => e = .returned (.tuple #[.string (attrOf rs nm).1, .bool (attrOf rs nm).2]) ∧ Below w.heap.size w w' := by
  have b1 : Below w.heap.size w (w.alloc (.cells #[.string nm] 9)) := (Below.refl _ _).alloc (Nat.le_refl _) _
  have cc := firstUrl_any (h.below b1) w.heap.size nm (by simp only [World.cell?, World.alloc_heap_new]; rfl) (by simp) hn
  obtain ⟨p, hp⟩ : ∃ p, p = attrOf rs nm := ⟨_, rfl⟩
  obtain ⟨q, hq⟩ : ∃ q, q = urlNm rs nm := ⟨_, rfl⟩
  rw [← hp, ← hq] at cc
  rw [← hp]
  clear hp hq h
  obtain ⟨pv, pb⟩ := p
  simp only at cc ⊢
  go_enter Tryz.func46, Tryz.ntmps46
  go_wp2_with fail
  go_at_call 81
  refine cc.mono ?_
  rintro e w2 ⟨rfl, b2⟩
  go_wp2
  go_ret2
  exact ⟨rfl, (b1.trans (b2.mono b1.size)).alloc (b1.trans (b2.mono b1.size)).size _⟩
end Go.Proofs.YtjokajblihaphaaGreatDoor

/- The program's IndexPack. No condition. -/
namespace Go.Proofs.YtjokajblihaphaaGreatDoor
open Go.RowKit
set_option maxRecDepth 100000
set_option linter.unusedVariables false
end Go.Proofs.YtjokajblihaphaaGreatDoor

/- The shelf's compact, add, drop (written by mk/istep5.py). No condition. -/
namespace Go.Proofs.YtjokajblihaphaaGreatDoor
open Go.RowKit
set_option maxRecDepth 100000
set_option linter.unusedVariables false
def dropS (u : ByteArray) (a : PArch) : PArch × Int := if a.up = false then (a, 2) else if urlB u = false then (a, 3) else if (attrOf a.list u).2 = false then (a, 6) else writeA a a.head.area a.head.en (recL (dropR u))

end Go.Proofs.YtjokajblihaphaaGreatDoor

/- The shelf's add and drop (written by mk/istep6.py). No condition. -/
namespace Go.Proofs.YtjokajblihaphaaGreatDoor
open Go.RowKit
set_option maxRecDepth 100000
set_option linter.unusedVariables false

set_option maxHeartbeats 4000000 in
set_option maxRecDepth 100000 in
theorem ishAdd_any {B : Nat} {w : World} {N : Nat} {d : PDisk} {no ar en : Int} {ls : List (ByteArray × ByteArray)} {m : Int} {u : ByteArray} (h : Shelf B w N ⟨true, d, ⟨no, ar, en⟩, ls⟩ m) (hA : archB ⟨true, d, ⟨no, ar, en⟩, ls⟩ = true) (hs : Sent w) (hw : B ≤ w.heap.size) (hu : urlB u = true) (hul : u.size ≤ 60) :
    Calls Tryz.prog 47 #[.pointer (some ⟨N, 0, none⟩), .agg #[.int .i64 2, .string u, .string emptyS]] w fun e w' => e = .returned (.int .i64 (writeA ⟨true, d, ⟨no, ar, en⟩, ls⟩ ar en (recL (dropR u))).2) ∧ Shelf B w' N (writeA ⟨true, d, ⟨no, ar, en⟩, ls⟩ ar en (recL (dropR u))).1 m ∧ w.grownBy w' (some N) := by
  have H := (show Hid (Shelf B w N ⟨true, d, ⟨no, ar, en⟩, ls⟩ m) from h)
  obtain ⟨sa, sn, sc, la, ln, lc, q, r, ea, en', ec, st, hB, hN, hd, he⟩ := h
  simp only at hN hd he
  have HN := (show Hid (w.heap[N]? = some (.cells #[.slice sa sn sc, .slice la ln lc, .int .i32 m, .int .u32 q, .int .i64 r, .bool true, .int .i64 no, .int .i64 ar, .int .i64 en, .slice ea en' ec, st] 93 (0, 0))) from hN)
  have HD := (show Hid (OwnDy B w (.agg #[.slice sa sn sc, .slice la ln lc]) d) from hd)
  have HE := (show Hid (OwnEy B w (.slice ea en' ec) ls) from he)
  have HT := (show Hid (Sent w) from hs)
  have HBN := (show Hid (B ≤ N) from hB)
  obtain ⟨hh, hnow, _, _⟩ := archB_up hA rfl
  have hi := headB_in hh
  have hdk := (archB_disk hA).1
  simp only at hi hdk
  have HDK := (show Hid (diskB d = true) from hdk)
  have HWL := (show Hid (stepsOk d ar en (recL (dropR u)) ⟨no + 1, ar, en + (recL (dropR u)).length⟩ = true → wellA (step4 d ar en (recL (dropR u)) ⟨no + 1, ar, en + (recL (dropR u)).length⟩) = true) from fun h2 => well_drop (a := ⟨true, d, ⟨no, ar, en⟩, ls⟩) hA rfl hu h2)
  have hP : packR (dropR u) = ((recL (dropR u)), true) := by rw [packR, if_pos (drop_recB hu)]
  have CP := fun W => irecPack_any (dropR u) W (show u.size ≤ 1099511627776 by omega) (show (0 : Nat) ≤ 1099511627776 by omega)
  rw [hP] at CP
  have CP := (show Hid (∀ W, Calls Tryz.prog 83 #[.agg #[.int .i64 2, .string u, .string emptyS]] W fun e w' => ∃ v, e = .returned (.tuple #[v, .bool true]) ∧ Own W.heap.size 5 .u8 w' v (recL (dropR u)) ∧ Below W.heap.size W w') from CP)
  have hbl := drop_len hul
  have hbx := recL_byte (drop_recB hu) (show (dropR u).body.size ≤ 1048576 from Nat.zero_le _)
  have HBX := (show Hid _ from hbx)
  obtain ⟨b, hb⟩ : ∃ b, b = (recL (dropR u)) := ⟨_, rfl⟩
  rw [← hb] at HWL CP hbl HBX ⊢
  have s1 := (Sf.refl hN).new #[.int .i64 2, .string u, .string emptyS] 100
  obtain ⟨w1, hw1⟩ : ∃ z, z = w.alloc (.cells #[.int .i64 2, .string u, .string emptyS] 100) := ⟨_, rfl⟩
  rw [← hw1] at s1
  have S1 := (show Hid (Sf w N #[.slice sa sn sc, .slice la ln lc, .int .i32 m, .int .u32 q, .int .i64 r, .bool true, .int .i64 no, .int .i64 ar, .int .i64 en, .slice ea en' ec, st] [(w.heap.size, #[.int .i64 2, .string u, .string emptyS], 100)] w1) from s1)
  have B1 := (show Hid (Below w.heap.size w w1) from by rw [hw1]; exact (Below.refl _ _).alloc (Nat.le_refl _) _)
  clear hN hd he hB hs hA hh hnow hdk hP hb hbx s1 hu
  go_enter Tryz.func47, Tryz.ntmps47
  go_wp2_with fail
  go_at_call 83
  rw [← hw1]
  refine Calls.mono (CP.out w1) ?_
  rintro e w2 ⟨v2, rfl, o2, b2⟩
  have S2 := (show Hid (Sf w N #[.slice sa sn sc, .slice la ln lc, .int .i32 m, .int .u32 q, .int .i64 r, .bool true, .int .i64 no, .int .i64 ar, .int .i64 en, .slice ea en' ec, st] [] w2) from (S1.out.below b2).sub (by simp))
  have T2 := (show Hid (Sent w2) from (HT.out.below B1.out).below b2)
  have O2 := (show Hid (Own w1.heap.size 5 .u8 w2 v2 b) from o2)
  obtain ⟨ua, uc, eu, _⟩ := o2.sl
  subst eu
  clear b2 o2 CP hw1 S1 B1
  go_wp2_with fail
  refine region_tail 12 (by kernel_rfl) (by kernel_rfl) ?_
  intro w3 K3 hW3 hK3
  have ne := One.any w3
  have S3 := (show Hid (Sf w N #[.slice sa sn sc, .slice la ln lc, .int .i32 m, .int .u32 q, .int .i64 r, .bool true, .int .i64 no, .int .i64 ar, .int .i64 en, .slice ea en' ec, st] [] w3) from by rw [hW3.out]; exact S2.out.below (below_drewN 1))
  have T3 := (show Hid (Sent w3) from by rw [hW3.out]; exact T2.out.below (below_drewN 1))
  have O3 := (show Hid (Own w1.heap.size 5 .u8 w3 (.slice ua b.length uc) b) from by rw [hW3.out]; exact O2.out.below (below_drewN 1))
  have gg := fun n : One w3 => rk_ten (show n.w.heap[N]? = _ by rw [n.eq]; exact S3.out.sh)
  have g7 := fun n : One w3 => (gg n).2.2.2.2.2.2.2.1
  have g8 := fun n : One w3 => (gg n).2.2.2.2.2.2.2.2.1
  clear gg S2 T2 O2
  simp only [List.take_succ_cons, List.take_zero, List.drop_succ_cons, List.drop_zero] at hK3 ⊢
  repeat (go_big_quiet_step (fail))
  refine wpQuiet_nil ?_
  refine hK3.out _ ?_
  clear hK3 g7 g8
  have CW := (show Hid _ from ishWrite_any (x := ar) (y := en) S3.out.sh (S3.out.disk HN.out HD.out) HDK.out (S3.out.ents HN.out HE.out) T3.out HBN.out (Nat.le_trans hw S3.out.gr.size) ⟨by omega, by omega⟩ ⟨by omega, by omega⟩ ⟨by omega, by omega⟩ O3.out HBX.out (by omega) HWL.out)
  go_wp2_with fail
  go_at_call 57
  refine Calls.mono CW.out ?_
  rintro e w4 ⟨rfl, sh4, g4⟩
  have R := (show Hid _ from And.intro sh4 (grown_trans S3.out.gr g4))
  clear sh4 g4 CW
  go_wp2
  go_ret
  exact ⟨rfl, R.out.1, R.out.2⟩

set_option maxHeartbeats 4000000 in
set_option maxRecDepth 100000 in
theorem ishDrop_any {B : Nat} {w : World} {N : Nat} {a : PArch} {m : Int} {u : ByteArray} (h : Shelf B w N a m) (hA : archB a = true) (hs : Sent w) (hw : B ≤ w.heap.size) (hul : u.size ≤ 1099511627776) :
    Calls Tryz.prog 22 #[.pointer (some ⟨N, 0, none⟩), .string u] w fun e w' => e = .returned (.int .i64 (dropS u a).2) ∧ Shelf B w' N (dropS u a).1 m ∧ w.grownBy w' (some N) := by
  obtain ⟨up, d, ⟨no, ar, en⟩, ls⟩ := a
  cases up
  · have H := (show Hid _ from h)
    obtain ⟨sa, sn, sc, la, ln, lc, q, r, ea, en', ec, st, hB, hN, hd, he⟩ := h
    simp only at hN hd he
    have S0 := (show Hid (Sf w N _ [] w) from Sf.refl hN)
    obtain ⟨c0, c1, c2, c3, c4, c5, c6, c7, c8, c9⟩ := rk_ten S0.out.sh
    clear hN hd he hB hA
    go_enter Tryz.func22, Tryz.ntmps22
    go_wp2
    go_ret
    exact ⟨rfl, H.out, World.grownBy.refl _ _⟩
  obtain ⟨hl1, hl2⟩ := arch_list hA rfl
  simp only at hl1 hl2
  have H := (show Hid (Shelf B w N ⟨true, d, ⟨no, ar, en⟩, ls⟩ m) from h)
  obtain ⟨sa, sn, sc, la, ln, lc, q, r, ea, en', ec, st, hB, hN, hd, he⟩ := h
  simp only at hN hd he
  have HN := (show Hid (w.heap[N]? = some (.cells #[.slice sa sn sc, .slice la ln lc, .int .i32 m, .int .u32 q, .int .i64 r, .bool true, .int .i64 no, .int .i64 ar, .int .i64 en, .slice ea en' ec, st] 93 (0, 0))) from hN)
  have HD := (show Hid (OwnDy B w (.agg #[.slice sa sn sc, .slice la ln lc]) d) from hd)
  have HE := (show Hid (OwnEy B w (.slice ea en' ec) ls) from he)
  have HT := (show Hid (Sent w) from hs)
  have HBN := (show Hid (B ≤ N) from hB)
  have HA := (show Hid (archB ⟨true, d, ⟨no, ar, en⟩, ls⟩ = true) from hA)
  have HQ := (show Hid (dropS u ⟨true, d, ⟨no, ar, en⟩, ls⟩ = if urlB u = false then (⟨true, d, ⟨no, ar, en⟩, ls⟩, 3) else if (attrOf ls u).2 = false then (⟨true, d, ⟨no, ar, en⟩, ls⟩, 6) else writeA ⟨true, d, ⟨no, ar, en⟩, ls⟩ ar en (recL (dropR u))) from (show _ = _ by rw [dropS]; simp only; rw [if_neg (by decide)]))
  obtain ⟨⟨qa, qc⟩, hq⟩ : ∃ z, z = dropS u ⟨true, d, ⟨no, ar, en⟩, ls⟩ := ⟨_, rfl⟩
  rw [← hq] at HQ
  rw [← hq]
  simp only
  have CU := (show Hid _ from iurlOk_any u w hul)
  have CF := (show Hid (∀ W, Below w.heap.size w W → Calls Tryz.prog 46 #[.slice ea en' ec, .string u] W fun e w' => e = .returned (.tuple #[.string (attrOf ls u).1, .bool (attrOf ls u).2]) ∧ Below W.heap.size W w') from fun W b => iidxFind_any ((OwnY.sv HE.out).below b) u (by omega))
  have HSZ := (show Hid (urlB u = true → u.size ≤ 60) from fun h => by
    simp only [urlB, inB, Bool.and_eq_true, decide_eq_true_eq] at h
    omega)
  obtain ⟨⟨fs, fb⟩, hfd⟩ : ∃ z, z = attrOf ls u := ⟨_, rfl⟩
  rw [← hfd] at CF HQ
  simp only at CF HQ
  obtain ⟨ub, hub⟩ : ∃ z, z = urlB u := ⟨_, rfl⟩
  rw [← hub] at CU HQ HSZ
  have HUB := (show Hid (ub = urlB u) from hub)
  have S0 := (show Hid (Sf w N #[.slice sa sn sc, .slice la ln lc, .int .i32 m, .int .u32 q, .int .i64 r, .bool true, .int .i64 no, .int .i64 ar, .int .i64 en, .slice ea en' ec, st] [] w) from Sf.refl hN)
  obtain ⟨c0, c1, c2, c3, c4, c5, c6, c7, c8, c9⟩ := rk_ten S0.out.sh
  clear hN hd he hB hs hA hl1 hl2 hq hfd hub
  go_enter Tryz.func22, Tryz.ntmps22
  go_wp2_with fail
  go_at_call 45
  refine Calls.mono CU.out ?_
  rintro e w1 ⟨rfl, b1⟩
  have S1 := (show Hid (Sf w N #[.slice sa sn sc, .slice la ln lc, .int .i32 m, .int .u32 q, .int .i64 r, .bool true, .int .i64 no, .int .i64 ar, .int .i64 en, .slice ea en' ec, st] [] w1) from S0.out.below b1)
  have T1 := (show Hid (Sent w1) from HT.out.below b1)
  have CF1 := (show Hid _ from CF.out w1 b1)
  have B1 := (show Hid (Below w.heap.size w w1) from b1)
  clear b1 CU CF S0
  clear c0 c1 c2 c3 c4 c5 c6 c7 c8 c9
  cases ub
  · have e1 := HQ.out
    rw [if_pos rfl] at e1
    cases e1
    go_wp2
    go_ret
    exact ⟨rfl, H.out.below B1.out, S1.out.gr⟩
  · obtain ⟨c0, c1, c2, c3, c4, c5, c6, c7, c8, c9⟩ := rk_ten S1.out.sh
    go_wp2_with fail
    go_at_call 46
    refine Calls.mono CF1.out ?_
    rintro e w2 ⟨rfl, b2⟩
    have S2 := (show Hid (Sf w N #[.slice sa sn sc, .slice la ln lc, .int .i32 m, .int .u32 q, .int .i64 r, .bool true, .int .i64 no, .int .i64 ar, .int .i64 en, .slice ea en' ec, st] [] w2) from S1.out.below b2)
    have T2 := (show Hid (Sent w2) from T1.out.below b2)
    have SH2 := (show Hid (Shelf B w2 N ⟨true, d, ⟨no, ar, en⟩, ls⟩ m) from (H.out.below B1.out).below b2)
    clear b2 CF1 S1 T1
    clear c0 c1 c2 c3 c4 c5 c6 c7 c8 c9
    cases fb
    · have e1 := HQ.out
      rw [if_neg (by decide), if_pos rfl] at e1
      cases e1
      go_wp2
      go_ret
      exact ⟨rfl, SH2.out, S2.out.gr⟩
    · have e1 := HQ.out
      rw [if_neg (by decide), if_neg (by decide)] at e1
      have CA := ishAdd_any SH2.out HA.out T2.out (Nat.le_trans hw S2.out.gr.size) HUB.out.symm (HSZ.out (by trivial))
      rw [← e1] at CA
      have CA := (show Hid _ from CA)
      clear e1 HQ HSZ HUB
      go_wp2_with fail
      go_at_call 47
      refine Calls.mono CA.out ?_
      rintro e w3 ⟨rfl, sh3, g3⟩
      have R := (show Hid _ from And.intro sh3 (grown_trans S2.out.gr g3))
      clear sh3 g3 CA
      go_wp2
      go_ret
      exact ⟨rfl, R.out.1, R.out.2⟩

set_option maxHeartbeats 2000000 in
set_option maxRecDepth 100000 in
theorem iarDrop1_any {B : Nat} {w : World} {N X : Nat} {a : PArch} {m : Int} {u : ByteArray} (h : Shelf B w N a m) (hA : archB a = true) (hs : Sent w) (hw : B ≤ w.heap.size) (hul : u.size ≤ 1099511627776) (hX : w.heap[X]? = some (.cells #[.string u] 9 (0, 0))) :
    Calls Tryz.prog 21 #[.pointer (some ⟨N, 0, none⟩), .pointer (some ⟨X, 0, none⟩)] w fun e w' => e = .returned (.int .i64 (dropS u a).2) ∧ Shelf B w' N (dropS u a).1 m ∧ w.grownBy w' (some N) := by
  have CD := (show Hid _ from ishDrop_any h hA hs hw hul)
  have cX := rk_oneS hX
  clear h hA hs hw hul hX
  go_enter Tryz.func21, Tryz.ntmps21
  go_wp2_with fail
  go_at_call 22
  refine Calls.mono CD.out ?_
  rintro e w3 ⟨rfl, sh3, g3⟩
  have R := (show Hid _ from And.intro sh3 g3)
  clear sh3 g3 CD cX
  go_wp2
  go_ret
  exact ⟨rfl, R.out.1, R.out.2⟩
end Go.Proofs.YtjokajblihaphaaGreatDoor

/- The program's ArchiveCrash, ArchiveOpen (written by mk/iar8.py). No condition. -/
namespace Go.Proofs.YtjokajblihaphaaGreatDoor
open Go.RowKit Go.MuLone
set_option maxRecDepth 100000
set_option linter.unusedVariables false
end Go.Proofs.YtjokajblihaphaaGreatDoor

/- worked with a closure that holds a box; the program's ArchiveDrop, ArchiveCompact (written by mk/istep7.py). No condition. -/
namespace Go.Proofs.YtjokajblihaphaaGreatDoor
open Go.RowKit Go.MuLone
set_option maxRecDepth 100000
set_option linter.unusedVariables false

/-- A deed that reads a text in the box X. -/
def DeedX (a : PArch) (q : PArch × Int) (f : FuncId) (X : Nat) (u : ByteArray) : Prop := ∀ (B : Nat) (W : World) (N : Nat), Shelf B W N a 1 → Sent W → B ≤ W.heap.size → W.heap[X]? = some (.cells #[.string u] 9 (0, 0)) → Calls Tryz.prog f #[.pointer (some ⟨N, 0, none⟩), .pointer (some ⟨X, 0, none⟩)] W fun e w' => e = .returned (.int .i64 q.2) ∧ Shelf B w' N q.1 1 ∧ W.grownBy w' (some N)
set_option maxHeartbeats 4000000 in
set_option maxRecDepth 100000 in
theorem iworkedX_any {w : World} {X : Nat} {u : ByteArray} {v : Value} {a : PArch} {f : FuncId} (q : PArch × Int) (h : ArAt w v a) (hf : ArFit a) (hs : Sent w) (hX : w.heap[X]? = some (.cells #[.string u] 9 (0, 0))) (hD : archB a = true → DeedX a q f X u) (he : ∀ (args : Array Value) (w : World), (callFunc f args).run Tryz.prog w = .ok (.enter f args) w) :
    Calls Tryz.prog 20 #[v, .func (.func f) #[] #[.pointer (some ⟨X, 0, none⟩)]] w fun e w' => ∃ v', e = .returned (.tuple #[v', .int .i64 (workedA a q).2]) ∧ OwnAy w.heap.size w' v' (workedA a q).1 ∧ Below w.heap.size w w' := by
  have HA := (show Hid (ArAt w v a) from h)
  have HF := (show Hid (ArFit a) from hf)
  have HT := (show Hid (Sent w) from hs)
  have HDD := (show Hid (archB a = true → DeedX a q f X u) from hD)
  have HX := (show Hid (w.heap[X]? = some (.cells #[.string u] 9 (0, 0))) from hX)
  clear hX
  obtain ⟨qb, hq⟩ : ∃ q, q = archB a := ⟨_, rfl⟩
  have HW : Hid (workedA a q = if qb = false then (zeroA, 1) else q) := (show _ = _ by rw [workedA, hq])
  obtain ⟨⟨ra, rc⟩, hra⟩ : ∃ x, x = workedA a q := ⟨_, rfl⟩
  rw [← hra] at HW
  rw [← hra]
  simp only
  rw [← hq] at HDD
  obtain ⟨sa, sn, sc, la, ln, lc, ea, en', ec, rfl, h1, h2⟩ := h
  have hl := ((Hl.refl w).new #[.bool a.up, .slice sa sn sc, .slice la ln lc, .int .i64 a.head.no, .int .i64 a.head.area, .int .i64 a.head.en, .slice ea en' ec] 38).new #[.bool false, .slice none 0 0, .slice none 0 0, .int .i64 0, .int .i64 0, .int .i64 0, .slice none 0 0] 38
  obtain ⟨w1, hw1⟩ : ∃ x, x = (w.alloc (.cells #[.bool a.up, .slice sa sn sc, .slice la ln lc, .int .i64 a.head.no, .int .i64 a.head.area, .int .i64 a.head.en, .slice ea en' ec] 38)).alloc (.cells #[.bool false, .slice none 0 0, .slice none 0 0, .int .i64 0, .int .i64 0, .int .i64 0, .slice none 0 0] 38) := ⟨_, rfl⟩
  rw [← hw1, World.size_alloc] at hl
  have HL := (show Hid (Hl w [(w.heap.size + 1, #[.bool false, .slice none 0 0, .slice none 0 0, .int .i64 0, .int .i64 0, .int .i64 0, .slice none 0 0], 38), (w.heap.size, #[.bool a.up, .slice sa sn sc, .slice la ln lc, .int .i64 a.head.no, .int .i64 a.head.area, .int .i64 a.head.en, .slice ea en' ec], 38)] w1) from hl)
  have CS := ishelfOf_any (HA.out.below hl.1) hf (hs.below hl.1)
  rw [← hq] at CS
  have CS := (show Hid _ from CS)
  clear hl h1 h2 hf hs hD hq hra
  go_enter_defers Tryz.func20, Tryz.ntmps20
  go_wp2_with fail
  go_at_call 41
  rw [← hw1]
  refine Calls.mono CS.out ?_
  rintro e w2 ⟨ho, b2⟩
  have S2 := (show Hid (Hl w [(w.heap.size + 1, #[.bool false, .slice none 0 0, .slice none 0 0, .int .i64 0, .int .i64 0, .int .i64 0, .slice none 0 0], 38), (w.heap.size, #[.bool a.up, .slice sa sn sc, .slice la ln lc, .int .i64 a.head.no, .int .i64 a.head.area, .int .i64 a.head.en, .slice ea en' ec], 38)] w2) from HL.out.below b2)
  have T2 := (show Hid (Sent w2) from HT.out.below S2.out.1)
  have Z1 := (show Hid (w.heap.size ≤ w1.heap.size) from HL.out.1.size)
  have Z2 := (show Hid (w1.heap.size ≤ w2.heap.size) from b2.size)
  clear hw1 CS b2 HL
  rcases ho with ⟨rfl, rfl⟩ | ⟨rfl, N, rfl, sh⟩
  · have e1 := HW.out
    rw [if_pos rfl] at e1
    cases e1
    clear HW HDD
    obtain ⟨d0, d1, d2, d3, d4, d5, d6, _⟩ := rk_seven S2.out.at0
    have j0 := rk_thaw (k := 0) S2.out.at0
    have j1 := rk_thaw (k := 1) S2.out.at0
    have j2 := rk_thaw (k := 2) S2.out.at0
    have j3 := rk_thaw (k := 3) S2.out.at0
    have j4 := rk_thaw (k := 4) S2.out.at0
    have j5 := rk_thaw (k := 5) S2.out.at0
    have j6 := rk_thaw (k := 6) S2.out.at0
    have S9 := (show Hid _ from S2.out.set7 (Nat.le_succ _) (by simp) (.bool false) (.slice none 0 0) (.slice none 0 0) (.int .i64 0) (.int .i64 0) (.int .i64 0) (.slice none 0 0))
    go_wp2
    exact ⟨_, arch_res rfl rfl rfl S9.out.at0, _, rfl, ⟨none, 0, 0, none, 0, 0, none, 0, 0, rfl, ⟨none, 0, 0, none, 0, 0, rfl, .inl ⟨rfl, rfl, none, rfl, fun _ => trivial⟩, .inl ⟨rfl, rfl, none, rfl, fun _ => trivial⟩⟩, .inl ⟨rfl, rfl, none, rfl, fun _ => trivial⟩⟩, S9.out.1⟩
  · have e1 := HW.out
    rw [if_neg (by decide)] at e1
    subst e1
    have SH := (show Hid (Shelf w1.heap.size w2 N a 0) from sh)
    have DD := (show Hid (DeedX a (ra, rc) f X u) from HDD.out rfl)
    obtain ⟨tu, k2, k3⟩ := sh.turn 1
    have hge := sh.ge
    clear HW HDD sh
    go_wp2_with fail
    go_at_call 42
    refine (lock_free muLib ⟨N, 2, none⟩ _ k2 k3).mono ?_
    rintro e w3 ⟨rfl, hw3⟩
    have SH3 := (show Hid (Shelf w1.heap.size w3 N a 1) from by rw [hw3]; exact tu)
    have g3 : w2.grownBy w3 (some N) := by rw [hw3]; exact grown_setCell _ _ _ _
    have S3 := (show Hid (Hl w [(w.heap.size + 1, #[.bool false, .slice none 0 0, .slice none 0 0, .int .i64 0, .int .i64 0, .int .i64 0, .slice none 0 0], 38), (w.heap.size, #[.bool a.up, .slice sa sn sc, .slice la ln lc, .int .i64 a.head.no, .int .i64 a.head.area, .int .i64 a.head.en, .slice ea en' ec], 38)] w3) from S2.out.shelf SH.out Z1.out g3 (by simp))
    have T3 := (show Hid (Sent w3) from SH.out.sent g3 T2.out)
    have Z3 := (show Hid (w1.heap.size ≤ w3.heap.size) from Nat.le_trans Z2.out g3.size)
    clear hw3 g3 tu k2 k3 S2 SH T2
    go_wp2_with fail
    refine Calls.mono (DD.out _ _ _ SH3.out T3.out Z3.out ((S3.out.1.block _ (lt_of_block HX.out)).trans HX.out)) ?_
    rintro e w4 ⟨rfl, sh4, g4⟩
    have SH4 := (show Hid (Shelf w1.heap.size w4 N ra 1) from sh4)
    have S4 := (show Hid (Hl w [(w.heap.size + 1, #[.bool false, .slice none 0 0, .slice none 0 0, .int .i64 0, .int .i64 0, .int .i64 0, .slice none 0 0], 38), (w.heap.size, #[.bool a.up, .slice sa sn sc, .slice la ln lc, .int .i64 a.head.no, .int .i64 a.head.area, .int .i64 a.head.en, .slice ea en' ec], 38)] w4) from S3.out.shelf SH3.out Z1.out g4 (by simp))
    have Z4 := (show Hid (w1.heap.size ≤ w4.heap.size) from Nat.le_trans Z3.out g4.size)
    clear sh4 g4 S3 SH3 T3 Z3 DD
    go_wp2_with fail
    go_at_call 44
    refine (ishArchive_any SH4.out Z4.out).mono ?_
    rintro e w5 ⟨v5, rfl, o5, b5⟩
    have S5 := (show Hid (Hl w [(w.heap.size + 1, #[.bool false, .slice none 0 0, .slice none 0 0, .int .i64 0, .int .i64 0, .int .i64 0, .slice none 0 0], 38), (w.heap.size, #[.bool a.up, .slice sa sn sc, .slice la ln lc, .int .i64 a.head.no, .int .i64 a.head.area, .int .i64 a.head.en, .slice ea en' ec], 38)] w5) from S4.out.below b5)
    have SH5 := (show Hid (Shelf w1.heap.size w5 N ra 1) from SH4.out.below b5)
    have O5 := (show Hid (OwnAy w1.heap.size w5 v5 ra) from o5)
    clear b5 o5 S4 SH4 Z4
    obtain ⟨ya, yn, yc, za, zn, zc, fa, fn, fc, e5, _⟩ := O5.out
    subst e5
    obtain ⟨d0, d1, d2, d3, d4, d5, d6, _⟩ := rk_seven S5.out.at0
    have j0 := rk_thaw (k := 0) S5.out.at0
    have j1 := rk_thaw (k := 1) S5.out.at0
    have j2 := rk_thaw (k := 2) S5.out.at0
    have j3 := rk_thaw (k := 3) S5.out.at0
    have j4 := rk_thaw (k := 4) S5.out.at0
    have j5 := rk_thaw (k := 5) S5.out.at0
    have j6 := rk_thaw (k := 6) S5.out.at0
    have hne := SH5.out.ne S5.out.at0 (by decide)
    have S9 := (show Hid _ from S5.out.set7 (Nat.le_succ _) (by simp) (.bool ra.up) (.slice ya yn yc) (.slice za zn zc) (.int .i64 ra.head.no) (.int .i64 ra.head.area) (.int .i64 ra.head.en) (.slice fa fn fc))
    have g9 := (show Hid _ from grown_set7 w5 (w.heap.size + 1) (.bool ra.up) (.slice ya yn yc) (.slice za zn zc) (.int .i64 ra.head.no) (.int .i64 ra.head.area) (.int .i64 ra.head.en) (.slice fa fn fc))
    have O9 := (show Hid _ from O5.out.turned g9.out (fun j e => by cases e; exact ⟨_, _, _, S5.out.at0, by decide, by decide, by decide⟩))
    have SH9 := (show Hid _ from SH5.out.past g9.out hne S5.out.at0 (by decide))
    clear O5 SH5
    go_wp2
    refine leaves_cons (f := 43) (args := #[.pointer (some ⟨N, 2, none⟩)]) (by simp) (by simp [go_sem]) ?_
    obtain ⟨_, k2, k3⟩ := Shelf.turn SH9.out 0
    refine (unlock_deferred muLib ⟨N, 2, none⟩ .returning _ k2 k3).mono ?_
    rintro e u' w7 ⟨rfl, rfl, hw7⟩
    have g7 := (show Hid (World.grownBy _ w7 (some N)) from by rw [hw7]; exact grown_setCell _ _ _ _)
    have S10 := (show Hid _ from S9.out.shelf SH9.out Z1.out g7.out (by simp))
    have O10 := (show Hid (OwnAy w1.heap.size w7 _ ra) from OwnAy.turned O9.out g7.out (fun j e => by
      cases e
      obtain ⟨_, _, _, _, _, _, _, _, _, _, _, _, _, hN, _⟩ := SH9.out
      exact ⟨_, _, _, hN, by decide, by decide, by decide⟩))
    exact ⟨_, arch_res rfl rfl rfl S10.out.at0, _, rfl, OwnAy.base O10.out Z1.out, S10.out.1⟩

def dropA (u : ByteArray) (a : PArch) : PArch × Int := if archB a = false then (zeroA, 1) else dropS u a
theorem worked_drop (u : ByteArray) (a : PArch) : workedA a (dropS u a) = dropA u a := rfl
set_option maxHeartbeats 2000000 in
set_option maxRecDepth 100000 in
theorem iarDrop_any {w : World} {v : Value} {a : PArch} {u : ByteArray} (h : ArAt w v a) (hf : ArFit a) (hs : Sent w) (hul : u.size ≤ 1099511627776) :
    Calls Tryz.prog 8 #[v, .string u] w fun e w' => ∃ v', e = .returned (.tuple #[v', .int .i64 (dropA u a).2]) ∧ OwnAy w.heap.size w' v' (dropA u a).1 ∧ Below w.heap.size w w' := by
  have HA := (show Hid (ArAt w v a) from h)
  obtain ⟨⟨ra, rc⟩, hra⟩ : ∃ x, x = dropA u a := ⟨_, rfl⟩
  rw [← hra]
  simp only
  obtain ⟨sa, sn, sc, la, ln, lc, ea, en', ec, rfl, h1, h2⟩ := h
  have hl := (((Hl.refl w).new #[.bool a.up, .slice sa sn sc, .slice la ln lc, .int .i64 a.head.no, .int .i64 a.head.area, .int .i64 a.head.en, .slice ea en' ec] 38).new #[.string u] 9).new #[.bool false, .slice none 0 0, .slice none 0 0, .int .i64 0, .int .i64 0, .int .i64 0, .slice none 0 0] 38
  obtain ⟨w1, hw1⟩ : ∃ x, x = ((w.alloc (.cells #[.bool a.up, .slice sa sn sc, .slice la ln lc, .int .i64 a.head.no, .int .i64 a.head.area, .int .i64 a.head.en, .slice ea en' ec] 38)).alloc (.cells #[.string u] 9)).alloc (.cells #[.bool false, .slice none 0 0, .slice none 0 0, .int .i64 0, .int .i64 0, .int .i64 0, .slice none 0 0] 38) := ⟨_, rfl⟩
  rw [← hw1, World.size_alloc, World.size_alloc] at hl
  have HL := (show Hid (Hl w [(w.heap.size + 1 + 1, #[.bool false, .slice none 0 0, .slice none 0 0, .int .i64 0, .int .i64 0, .int .i64 0, .slice none 0 0], 38), (w.heap.size + 1, #[.string u], 9), (w.heap.size, #[.bool a.up, .slice sa sn sc, .slice la ln lc, .int .i64 a.head.no, .int .i64 a.head.area, .int .i64 a.head.en, .slice ea en' ec], 38)] w1) from hl)
  have CW := iworkedX_any (f := 21) (X := w.heap.size + 1) (u := u) (dropS u a) (HA.out.below hl.1) hf (hs.below hl.1) hl.at1 (fun hb B W N s t l x => iarDrop1_any s hb t l hul x) (run_callFunc_enter Tryz.func21 (by kernel_rfl) rfl)
  rw [worked_drop, ← hra] at CW
  have CW := (show Hid _ from CW)
  clear hl h1 h2 hf hs hra
  go_enter Tryz.func8, Tryz.ntmps8
  go_wp2_with fail
  go_at_call 20
  rw [← hw1]
  refine Calls.mono CW.out ?_
  rintro e w5 ⟨v5, rfl, o5, b5⟩
  have S5 := (show Hid (Hl w [(w.heap.size + 1 + 1, #[.bool false, .slice none 0 0, .slice none 0 0, .int .i64 0, .int .i64 0, .int .i64 0, .slice none 0 0], 38), (w.heap.size + 1, #[.string u], 9), (w.heap.size, #[.bool a.up, .slice sa sn sc, .slice la ln lc, .int .i64 a.head.no, .int .i64 a.head.area, .int .i64 a.head.en, .slice ea en' ec], 38)] w5) from HL.out.below b5)
  have O5 := (show Hid (OwnAy w.heap.size w5 v5 ra) from OwnAy.base o5 HL.out.1.size)
  clear b5 o5 HL hw1 CW
  obtain ⟨ya, yn, yc, za, zn, zc, fa, fn, fc, e5, _⟩ := O5.out
  subst e5
  obtain ⟨d0, d1, d2, d3, d4, d5, d6, _⟩ := rk_seven S5.out.at0
  have j0 := rk_thaw (k := 0) S5.out.at0
  have j1 := rk_thaw (k := 1) S5.out.at0
  have j2 := rk_thaw (k := 2) S5.out.at0
  have j3 := rk_thaw (k := 3) S5.out.at0
  have j4 := rk_thaw (k := 4) S5.out.at0
  have j5 := rk_thaw (k := 5) S5.out.at0
  have j6 := rk_thaw (k := 6) S5.out.at0
  have S9 := (show Hid _ from S5.out.set7 (by omega) (by simp; omega) (.bool ra.up) (.slice ya yn yc) (.slice za zn zc) (.int .i64 ra.head.no) (.int .i64 ra.head.area) (.int .i64 ra.head.en) (.slice fa fn fc))
  have g9 := grown_set7 w5 (w.heap.size + 1 + 1) (.bool ra.up) (.slice ya yn yc) (.slice za zn zc) (.int .i64 ra.head.no) (.int .i64 ra.head.area) (.int .i64 ra.head.en) (.slice fa fn fc)
  have O9 := (show Hid _ from OwnAy.turned O5.out g9 (fun j e => by cases e; exact ⟨_, _, _, S5.out.at0, by decide, by decide, by decide⟩))
  clear g9 O5
  go_wp2
  refine bodyPost_ret (arch_res rfl rfl rfl S9.out.at0) rfl ?_
  exact ⟨_, rfl, O9.out, S9.out.1⟩

end Go.Proofs.YtjokajblihaphaaGreatDoor

/- The specification's ArchiveDrop and ArchiveCompact (written by mk/sstep4.py). No condition. -/
namespace Go.Proofs.YtjokajblihaphaaGreatDoor
open Go.RowKit
set_option maxRecDepth 100000
set_option linter.unusedVariables false
theorem done_drop (u : ByteArray) (a : PArch) : doneA a (dropQ u a) ⟨a.head.no + 1, a.head.area, a.head.en + (recL (dropR u)).length⟩ (step4 a.disk a.head.area a.head.en (recL (dropR u)) ⟨a.head.no + 1, a.head.area, a.head.en + (recL (dropR u)).length⟩) = dropA u a := by
  unfold doneA dropA
  split
  · rfl
  · rename_i hA
    have hA : archB a = true := by simpa using hA
    cases hu : a.up
    · simp [dropQ, dropS, hu]
    · cases hp : urlB u
      · simp [dropQ, dropS, hu, hp]
      · cases hf : (attrOf a.list u).2
        · simp [dropQ, dropS, hu, hp, hf]
        · cases hs : stepsOk a.disk a.head.area a.head.en (recL (dropR u)) ⟨a.head.no + 1, a.head.area, a.head.en + (recL (dropR u)).length⟩
          · simp [dropQ, dropS, writeA, hu, hp, hf, hs]
          · obtain ⟨h1, h2, h3, h4⟩ := archB_up hA hu
            have hn : nowDk (step4 a.disk a.head.area a.head.en (recL (dropR u)) ⟨a.head.no + 1, a.head.area, a.head.en + (recL (dropR u)).length⟩) = ⟨a.head.no + 1, a.head.area, a.head.en + (recL (dropR u)).length⟩ := steps_now hs (by rw [h2]; show a.head.no < a.head.no + 1; omega)
            simp [dropQ, dropS, writeA, hu, hp, hf, hs, hn]
theorem drop_right {u : ByteArray} {a : PArch} (hq : dropQ u a = 0) : diskB (step4 a.disk a.head.area a.head.en (recL (dropR u)) ⟨a.head.no + 1, a.head.area, a.head.en + (recL (dropR u)).length⟩) = true ∧ headB ⟨a.head.no + 1, a.head.area, a.head.en + (recL (dropR u)).length⟩ = true := by
  unfold dropQ at hq
  split at hq
  · cases hq
  · split at hq
    · cases hq
    · split at hq
      · cases hq
      · split at hq
        · cases hq
        · rename_i h
          have h := steps_right (by simpa using h)
          exact ⟨h.2.2.2.1, h.2.2.2.2.2⟩

set_option maxHeartbeats 2000000 in
set_option maxRecDepth 100000 in
theorem sarDrop_any {w : World} {v : Value} {a : PArch} {u : ByteArray} (h : ArAt w v a) (hf : ArFit a) (hul : u.size ≤ 1099511627776) :
    Calls Tryz.prog 6 #[v, .string u] w fun e w' => ∃ v', e = .returned (.tuple #[v', .int .i64 (dropA u a).2]) ∧ OwnAy w.heap.size w' v' (dropA u a).1 ∧ Below w.heap.size w w' := by
  have HA := (show Hid (ArAt w v a) from h)
  have HF := (show Hid (ArFit a) from hf)
  obtain ⟨⟨ra, rc⟩, hra⟩ : ∃ x, x = dropA u a := ⟨_, rfl⟩
  rw [← hra]
  simp only
  obtain ⟨sa, sn, sc, la, ln, lc, ea, en', ec, rfl, h1, h2⟩ := h
  have hl := ((Hl.refl w).new #[.bool a.up, .slice sa sn sc, .slice la ln lc, .int .i64 a.head.no, .int .i64 a.head.area, .int .i64 a.head.en, .slice ea en' ec] 38).new #[.bool false, .slice none 0 0, .slice none 0 0, .int .i64 0, .int .i64 0, .int .i64 0, .slice none 0 0] 38
  obtain ⟨w1, hw1⟩ : ∃ x, x = (w.alloc (.cells #[.bool a.up, .slice sa sn sc, .slice la ln lc, .int .i64 a.head.no, .int .i64 a.head.area, .int .i64 a.head.en, .slice ea en' ec] 38)).alloc (.cells #[.bool false, .slice none 0 0, .slice none 0 0, .int .i64 0, .int .i64 0, .int .i64 0, .slice none 0 0] 38) := ⟨_, rfl⟩
  rw [← hw1, World.size_alloc] at hl
  have HL := (show Hid (Hl w [(w.heap.size + 1, #[.bool false, .slice none 0 0, .slice none 0 0, .int .i64 0, .int .i64 0, .int .i64 0, .slice none 0 0], 38), (w.heap.size, #[.bool a.up, .slice sa sn sc, .slice la ln lc, .int .i64 a.head.no, .int .i64 a.head.area, .int .i64 a.head.en, .slice ea en' ec], 38)] w1) from hl)
  have CW := sl18Done_any (kd := 2) (u2 := .string u) (u3 := .slice none 0 0) (HA.out.below hl.1) hf (fun _ h => drop_right h) (fun hA W b => sl18WorkD_any ((HA.out.below hl.1).below b) hA hul)
  rw [done_drop, ← hra] at CW
  have CW := (show Hid _ from CW)
  clear hl h1 h2 hf hra
  go_enter Tryz.func6, Tryz.ntmps6
  go_wp2_with fail
  go_at_call 16
  rw [← hw1]
  refine Calls.mono CW.out ?_
  rintro e w5 ⟨v5, rfl, o5, b5⟩
  have S5 := (show Hid (Hl w [(w.heap.size + 1, #[.bool false, .slice none 0 0, .slice none 0 0, .int .i64 0, .int .i64 0, .int .i64 0, .slice none 0 0], 38), (w.heap.size, #[.bool a.up, .slice sa sn sc, .slice la ln lc, .int .i64 a.head.no, .int .i64 a.head.area, .int .i64 a.head.en, .slice ea en' ec], 38)] w5) from HL.out.below b5)
  have O5 := (show Hid (OwnAy w.heap.size w5 v5 ra) from OwnAy.base o5 HL.out.1.size)
  clear b5 o5 HL hw1 CW
  obtain ⟨ya, yn, yc, za, zn, zc, fa, fn, fc, e5, _⟩ := O5.out
  subst e5
  obtain ⟨d0, d1, d2, d3, d4, d5, d6, _⟩ := rk_seven S5.out.at0
  have j0 := rk_thaw (k := 0) S5.out.at0
  have j1 := rk_thaw (k := 1) S5.out.at0
  have j2 := rk_thaw (k := 2) S5.out.at0
  have j3 := rk_thaw (k := 3) S5.out.at0
  have j4 := rk_thaw (k := 4) S5.out.at0
  have j5 := rk_thaw (k := 5) S5.out.at0
  have j6 := rk_thaw (k := 6) S5.out.at0
  have S9 := (show Hid _ from S5.out.set7 (Nat.le_succ _) (by simp) (.bool ra.up) (.slice ya yn yc) (.slice za zn zc) (.int .i64 ra.head.no) (.int .i64 ra.head.area) (.int .i64 ra.head.en) (.slice fa fn fc))
  have g9 := grown_set7 w5 (w.heap.size + 1) (.bool ra.up) (.slice ya yn yc) (.slice za zn zc) (.int .i64 ra.head.no) (.int .i64 ra.head.area) (.int .i64 ra.head.en) (.slice fa fn fc)
  have O9 := (show Hid _ from OwnAy.turned O5.out g9 (fun j e => by cases e; exact ⟨_, _, _, S5.out.at0, by decide, by decide, by decide⟩))
  clear g9 O5
  go_wp2
  refine bodyPost_ret (arch_res rfl rfl rfl S9.out.at0) rfl ?_
  exact ⟨_, rfl, O9.out, S9.out.1⟩
end Go.Proofs.YtjokajblihaphaaGreatDoor

/- The exact law of ArchiveCompact (written by mk/wlawa.py's users). -/
namespace Go.Proofs.YtjokajblihaphaaGreatDoor
open Go.RowKit
set_option maxRecDepth 100000
set_option linter.unusedVariables false

theorem fit_doneA {a : PArch} {q : Int} {h : PHead} {d : PDisk} (hf : ArFit a) (hq : q = 0 → diskB d = true ∧ headB h = true) : ArFit (doneA a q h d).1 := by
  unfold doneA
  split
  · exact fit_zeroA
  · split
    · rename_i e
      exact fit_index (hq e).1 (hq e).2
    · exact hf
theorem fit_dropA (u : ByteArray) {a : PArch} (hf : ArFit a) : ArFit (dropA u a).1 := by
  rw [← done_drop]
  exact fit_doneA hf (fun e => drop_right e)

end Go.Proofs.YtjokajblihaphaaGreatDoor

/- The exact law of ArchiveDrop (written by mk/wlawa.py's users). -/
namespace Go.Proofs.YtjokajblihaphaaGreatDoor
open Go.RowKit
set_option maxRecDepth 100000
set_option linter.unusedVariables false

set_option maxHeartbeats 8000000 in
set_option maxRecDepth 100000 in
theorem fnExactArchiveDrop_walk {v : Value} {a : PArch} {u : ByteArray} (w0 : World) (hs : Sent w0) (h : ArAt w0 v a) (hwf : (Lit.int .i64 a.head.no).wf = true ∧ (Lit.int .i64 a.head.area).wf = true ∧ (Lit.int .i64 a.head.en).wf = true) (h1 : ∀ s ∈ a.disk.safe, s.size ≤ maxLen) (h2 : ∀ p ∈ a.disk.late, p.2.size ≤ maxLen) (h3 : ∀ p ∈ a.list, p.1.size ≤ maxLen ∧ p.2.size ≤ maxLen) (hul : u.size ≤ maxLen) :
    Calls Tryz.prog 3 #[v, .string u] w0 fun e w' => e = .returned (.bool true) ∧ Below w0.heap.size w0 w' := by
  by_cases hu : ¬ u.size ≤ 1048576
  · obtain ⟨_, _, _, _, _, _, _, _, _, e, _⟩ := h
    subst e
    have hm : maxLen = 9223372036854775807 := rfl
    have hu' : ¬ ((u.size : Int) ≤ 1048576) := by omega
    go_enter Tryz.func3, Tryz.ntmps3
    go_wp2
    go_ret
    exact ⟨rfl, (Below.refl _ _).alloc (Nat.le_refl _) _⟩
  have hut : u.size ≤ 1099511627776 := by omega
  have HT := (show Hid (Sent w0) from hs)
  obtain ⟨sa, sn, sc, sA, sN, sC, sp, sq, sr, ev⟩ : ∃ sa sn sc sA sN sC sp sq sr, v = .agg #[.bool a.up, .slice sa sn sc, .slice sA sN sC, .int .i64 a.head.no, .int .i64 a.head.area, .int .i64 a.head.en, .slice sp sq sr] := by
    obtain ⟨_, _, _, _, _, _, _, _, _, e, _⟩ := h
    exact ⟨_, _, _, _, _, _, _, _, _, e⟩
  subst ev
  have HD := (show Hid (ArAt w0 (.agg #[.bool a.up, .slice sa sn sc, .slice sA sN sC, .int .i64 a.head.no, .int .i64 a.head.area, .int .i64 a.head.en, .slice sp sq sr]) a) from h)
  obtain ⟨w, hw⟩ : ∃ x, x = w0.alloc (.cells #[.bool a.up, .slice sa sn sc, .slice sA sN sC, .int .i64 a.head.no, .int .i64 a.head.area, .int .i64 a.head.en, .slice sp sq sr] 30) := ⟨_, rfl⟩
  have hl := (La.refl w0).new #[.bool a.up, .slice sa sn sc, .slice sA sN sC, .int .i64 a.head.no, .int .i64 a.head.area, .int .i64 a.head.en, .slice sp sq sr] 30
  rw [← hw] at hl
  have HL := (show Hid (La w0 [(w0.heap.size, #[.bool a.up, .slice sa sn sc, .slice sA sN sC, .int .i64 a.head.no, .int .i64 a.head.area, .int .i64 a.head.en, .slice sp sq sr], 30)] [] [] [] w) from hl)
  have CZ := (show Hid _ from szArchive_any (HD.out.below hl.hl.1) h1 h2 h3 1048576 (by decide) (by decide))
  clear hl h1 h2 h3 h hwf hs
  go_enter Tryz.func3, Tryz.ntmps3
  go_wp2_with fail
  go_at_call 5
  rw [← hw]
  refine Calls.mono CZ.out ?_
  rintro e w1 ⟨r, rfl, hr, b1⟩
  clear CZ hw
  rcases hr with hr | ⟨hr0, hf⟩
  · go_wp2
    go_ret
    exact ⟨rfl, (HL.out.below b1).hl.1⟩
  · have HF := (show Hid (ArFit a) from hf)
    clear hf
    have CTA := (show Hid (∀ L R Y S W, La w0 L R Y S W → Calls Tryz.prog 7 #[.agg #[.bool a.up, .slice sa sn sc, .slice sA sN sC, .int .i64 a.head.no, .int .i64 a.head.area, .int .i64 a.head.en, .slice sp sq sr]] W fun e W' => ∃ ta tn tc tA tN tC tp tq tr, e = .returned (.agg #[.bool a.up, .slice ta tn tc, .slice tA tN tC, .int .i64 a.head.no, .int .i64 a.head.area, .int .i64 a.head.en, .slice tp tq tr]) ∧ La w0 L R Y S W' ∧ OwnAy w0.heap.size W' (.agg #[.bool a.up, .slice ta tn tc, .slice tA tN tC, .int .i64 a.head.no, .int .i64 a.head.area, .int .i64 a.head.en, .slice tp tq tr]) a ∧ Below W.heap.size W W') from fun L R Y S W l => (l.toA HD.out HF.out).mono (by
      rintro e W' ⟨_, _, _, _, _, _, _, _, _, rfl, l', o, k⟩
      exact ⟨_, _, _, _, _, _, _, _, _, rfl, l', o.base l.hl.1.size, k⟩))
    have FQ := (show Hid (ArFit (dropA u a).1) from fit_dropA u HF.out)
    obtain ⟨⟨qa, qc⟩, hq⟩ : ∃ x, x = dropA u a := ⟨_, rfl⟩
    rw [← hq] at FQ
    have CS := (show Hid (∀ L R Y S (W : World) (v : Value) (B : Nat), La w0 L R Y S W → B ≤ W.heap.size → ArAt W v a → Calls Tryz.prog 6 #[v, .string u] W fun e W' => ∃ xa xn xc xA xN xC xp xq xr, e = .returned (.tuple #[.agg #[.bool qa.up, .slice xa xn xc, .slice xA xN xC, .int .i64 qa.head.no, .int .i64 qa.head.area, .int .i64 qa.head.en, .slice xp xq xr], .int .i64 qc]) ∧ OwnAy B W' (.agg #[.bool qa.up, .slice xa xn xc, .slice xA xN xC, .int .i64 qa.head.no, .int .i64 qa.head.area, .int .i64 qa.head.en, .slice xp xq xr]) qa ∧ La w0 L R Y S W' ∧ Below W.heap.size W W') from fun L R Y S W v B l hB h => by
      have k := sarDrop_any h HF.out hut
      rw [← hq] at k
      exact k.mono (by
        rintro e W' ⟨v', rfl, o, b⟩
        have o' := o
        obtain ⟨_, _, _, _, _, _, _, _, _, rfl, _⟩ := o
        exact ⟨_, _, _, _, _, _, _, _, _, rfl, OwnAy.base o' hB, l.below b, b⟩))
    have CI := (show Hid (∀ L R Y S (W : World) (v : Value) (B : Nat), La w0 L R Y S W → B ≤ W.heap.size → ArAt W v a → Calls Tryz.prog 8 #[v, .string u] W fun e W' => ∃ xa xn xc xA xN xC xp xq xr, e = .returned (.tuple #[.agg #[.bool qa.up, .slice xa xn xc, .slice xA xN xC, .int .i64 qa.head.no, .int .i64 qa.head.area, .int .i64 qa.head.en, .slice xp xq xr], .int .i64 qc]) ∧ OwnAy B W' (.agg #[.bool qa.up, .slice xa xn xc, .slice xA xN xC, .int .i64 qa.head.no, .int .i64 qa.head.area, .int .i64 qa.head.en, .slice xp xq xr]) qa ∧ La w0 L R Y S W' ∧ Below W.heap.size W W') from fun L R Y S W v B l hB h => by
      have k := iarDrop_any h HF.out (HT.out.below l.hl.1) hut
      rw [← hq] at k
      exact k.mono (by
        rintro e W' ⟨v', rfl, o, b⟩
        have o' := o
        obtain ⟨_, _, _, _, _, _, _, _, _, rfl, _⟩ := o
        exact ⟨_, _, _, _, _, _, _, _, _, rfl, OwnAy.base o' hB, l.below b, b⟩))
    simp only at FQ
    have hqq : (qc != qc) = false := by simp
    have hk1 := arEnd_pos qa
    have hk2 : (arEnd qa != arEnd qa) = false := by simp
    have hk0 := arEnd_pos a
    clear hq
    have S_w1 := (show Hid (La w0 [(w0.heap.size, #[.bool a.up, .slice sa sn sc, .slice sA sN sC, .int .i64 a.head.no, .int .i64 a.head.area, .int .i64 a.head.en, .slice sp sq sr], 30)] [] [] [] w1) from HL.out.below b1)
    have Z0 := (show Hid (w0.heap.size ≤ w1.heap.size) from S_w1.out.hl.1.size)
    clear HL b1
    obtain ⟨c0_0, c0_1, c0_2, c0_3, c0_4, c0_5, c0_6, _⟩ := rk_seven (S_w1.out.hl.2 _ (List.mem_cons_self ..))
    go_wp2_with fail
    go_at_call 7
    refine (S_w1.out.toA HD.out HF.out).mono ?_
    rintro e w2 ⟨fa, fn, fc, fA, fN, fC, fp, fq, fr, rfl, lw2, ow2, bw2⟩
    have Z1 := (show Hid (w1.heap.size ≤ w2.heap.size) from bw2.size)
    have S_w2 := (show Hid (La w0 [(w0.heap.size, #[.bool a.up, .slice sa sn sc, .slice sA sN sC, .int .i64 a.head.no, .int .i64 a.head.area, .int .i64 a.head.en, .slice sp sq sr], 30)] [(w1.heap.size, w2.heap.size, .agg #[.bool a.up, .slice fa fn fc, .slice fA fN fC, .int .i64 a.head.no, .int .i64 a.head.area, .int .i64 a.head.en, .slice fp fq fr], a)] [] [] w2) from lw2.add ow2)
    clear S_w1 bw2
    clear c0_0 c0_1 c0_2 c0_3 c0_4 c0_5 c0_6
    clear lw2 ow2
    obtain ⟨c0_0, c0_1, c0_2, c0_3, c0_4, c0_5, c0_6, _⟩ := rk_seven (S_w2.out.hl.2 _ (List.mem_cons_self ..))
    go_wp2_with fail
    go_at_call 6
    refine (CS.out _ _ _ _ _ _ w2.heap.size S_w2.out (Nat.le_refl _) (S_w2.out.rows _ (List.mem_cons_self ..)).1.at).mono ?_
    rintro e w3 ⟨ba, bn, bc, bA, bN, bC, bp, bq, br, rfl, ow3, lw3, bw3⟩
    have Z2 := (show Hid (w2.heap.size ≤ w3.heap.size) from bw3.size)
    have S_w3 := (show Hid (La w0 [(w0.heap.size, #[.bool a.up, .slice sa sn sc, .slice sA sN sC, .int .i64 a.head.no, .int .i64 a.head.area, .int .i64 a.head.en, .slice sp sq sr], 30)] [(w2.heap.size, w3.heap.size, .agg #[.bool qa.up, .slice ba bn bc, .slice bA bN bC, .int .i64 qa.head.no, .int .i64 qa.head.area, .int .i64 qa.head.en, .slice bp bq br], qa), (w1.heap.size, w2.heap.size, .agg #[.bool a.up, .slice fa fn fc, .slice fA fN fC, .int .i64 a.head.no, .int .i64 a.head.area, .int .i64 a.head.en, .slice fp fq fr], a)] [] [] w3) from lw3.add ow3)
    clear S_w2 bw3
    clear c0_0 c0_1 c0_2 c0_3 c0_4 c0_5 c0_6
    clear lw3 ow3
    obtain ⟨w3a, hw3a⟩ : ∃ x, x = w3.alloc (.cells #[.bool qa.up, .slice ba bn bc, .slice bA bN bC, .int .i64 qa.head.no, .int .i64 qa.head.area, .int .i64 qa.head.en, .slice bp bq br] 38) := ⟨_, rfl⟩
    have Z3 := (show Hid (w3.heap.size < w3a.heap.size) from (show w3.heap.size < w3a.heap.size by rw [hw3a, World.size_alloc]; omega))
    obtain ⟨o0_0, o0_1, o0_2, o0_3, o0_4, o0_5, o0_6, _⟩ := rk_seven (S_w3.out.hl.2 _ (List.mem_cons_self ..))
    have o0_l := lt_of_block (S_w3.out.hl.2 _ (List.mem_cons_self ..))
    have S_w3a := (show Hid (La w0 [(w3.heap.size, #[.bool qa.up, .slice ba bn bc, .slice bA bN bC, .int .i64 qa.head.no, .int .i64 qa.head.area, .int .i64 qa.head.en, .slice bp bq br], 38), (w0.heap.size, #[.bool a.up, .slice sa sn sc, .slice sA sN sC, .int .i64 a.head.no, .int .i64 a.head.area, .int .i64 a.head.en, .slice sp sq sr], 30)] [(w2.heap.size, w3.heap.size, .agg #[.bool qa.up, .slice ba bn bc, .slice bA bN bC, .int .i64 qa.head.no, .int .i64 qa.head.area, .int .i64 qa.head.en, .slice bp bq br], qa), (w1.heap.size, w2.heap.size, .agg #[.bool a.up, .slice fa fn fc, .slice fA fN fC, .int .i64 a.head.no, .int .i64 a.head.area, .int .i64 a.head.en, .slice fp fq fr], a)] [] [] w3a) from by rw [hw3a]; exact S_w3.out.new #[.bool qa.up, .slice ba bn bc, .slice bA bN bC, .int .i64 qa.head.no, .int .i64 qa.head.area, .int .i64 qa.head.en, .slice bp bq br] 38)
    clear S_w3
    go_wp2_with fail
    go_at_call 7
    rw [← hw3a]
    clear hw3a
    refine (S_w3a.out.toA HD.out HF.out).mono ?_
    rintro e w4 ⟨xa, xn, xc, xA, xN, xC, xp, xq, xr, rfl, lw4, ow4, bw4⟩
    have Z4 := (show Hid (w3a.heap.size ≤ w4.heap.size) from bw4.size)
    have S_w4 := (show Hid (La w0 [(w3.heap.size, #[.bool qa.up, .slice ba bn bc, .slice bA bN bC, .int .i64 qa.head.no, .int .i64 qa.head.area, .int .i64 qa.head.en, .slice bp bq br], 38), (w0.heap.size, #[.bool a.up, .slice sa sn sc, .slice sA sN sC, .int .i64 a.head.no, .int .i64 a.head.area, .int .i64 a.head.en, .slice sp sq sr], 30)] [(w3a.heap.size, w4.heap.size, .agg #[.bool a.up, .slice xa xn xc, .slice xA xN xC, .int .i64 a.head.no, .int .i64 a.head.area, .int .i64 a.head.en, .slice xp xq xr], a), (w2.heap.size, w3.heap.size, .agg #[.bool qa.up, .slice ba bn bc, .slice bA bN bC, .int .i64 qa.head.no, .int .i64 qa.head.area, .int .i64 qa.head.en, .slice bp bq br], qa), (w1.heap.size, w2.heap.size, .agg #[.bool a.up, .slice fa fn fc, .slice fA fN fC, .int .i64 a.head.no, .int .i64 a.head.area, .int .i64 a.head.en, .slice fp fq fr], a)] [] [] w4) from lw4.add ow4)
    clear S_w3a bw4
    clear o0_0 o0_1 o0_2 o0_3 o0_4 o0_5 o0_6 o0_l
    clear lw4 ow4
    obtain ⟨w4a, hw4a⟩ : ∃ x, x = w4.alloc (.cells #[.bool a.up, .slice xa xn xc, .slice xA xN xC, .int .i64 a.head.no, .int .i64 a.head.area, .int .i64 a.head.en, .slice xp xq xr] 38) := ⟨_, rfl⟩
    have Z5 := (show Hid (w4.heap.size < w4a.heap.size) from (show w4.heap.size < w4a.heap.size by rw [hw4a, World.size_alloc]; omega))
    obtain ⟨o0_0, o0_1, o0_2, o0_3, o0_4, o0_5, o0_6, _⟩ := rk_seven (S_w4.out.hl.2 _ (List.mem_cons_self ..))
    have o0_l := lt_of_block (S_w4.out.hl.2 _ (List.mem_cons_self ..))
    obtain ⟨o1_0, o1_1, o1_2, o1_3, o1_4, o1_5, o1_6, _⟩ := rk_seven (S_w4.out.hl.2 _ (List.mem_cons_of_mem _ (List.mem_cons_self ..)))
    have o1_l := lt_of_block (S_w4.out.hl.2 _ (List.mem_cons_of_mem _ (List.mem_cons_self ..)))
    have S_w4a := (show Hid (La w0 [(w4.heap.size, #[.bool a.up, .slice xa xn xc, .slice xA xN xC, .int .i64 a.head.no, .int .i64 a.head.area, .int .i64 a.head.en, .slice xp xq xr], 38), (w3.heap.size, #[.bool qa.up, .slice ba bn bc, .slice bA bN bC, .int .i64 qa.head.no, .int .i64 qa.head.area, .int .i64 qa.head.en, .slice bp bq br], 38), (w0.heap.size, #[.bool a.up, .slice sa sn sc, .slice sA sN sC, .int .i64 a.head.no, .int .i64 a.head.area, .int .i64 a.head.en, .slice sp sq sr], 30)] [(w3a.heap.size, w4.heap.size, .agg #[.bool a.up, .slice xa xn xc, .slice xA xN xC, .int .i64 a.head.no, .int .i64 a.head.area, .int .i64 a.head.en, .slice xp xq xr], a), (w2.heap.size, w3.heap.size, .agg #[.bool qa.up, .slice ba bn bc, .slice bA bN bC, .int .i64 qa.head.no, .int .i64 qa.head.area, .int .i64 qa.head.en, .slice bp bq br], qa), (w1.heap.size, w2.heap.size, .agg #[.bool a.up, .slice fa fn fc, .slice fA fN fC, .int .i64 a.head.no, .int .i64 a.head.area, .int .i64 a.head.en, .slice fp fq fr], a)] [] [] w4a) from by rw [hw4a]; exact S_w4.out.new #[.bool a.up, .slice xa xn xc, .slice xA xN xC, .int .i64 a.head.no, .int .i64 a.head.area, .int .i64 a.head.en, .slice xp xq xr] 38)
    clear S_w4
    go_wp2_with fail
    go_at_call 8
    rw [← hw4a]
    clear hw4a
    refine (CI.out _ _ _ _ _ _ w4a.heap.size S_w4a.out (Nat.le_refl _) (S_w4a.out.rows _ (List.mem_cons_self ..)).1.at).mono ?_
    rintro e w5 ⟨ga, gn, gc, gA, gN, gC, gp, gq, gr, rfl, ow5, lw5, bw5⟩
    have Z6 := (show Hid (w4a.heap.size ≤ w5.heap.size) from bw5.size)
    have S_w5 := (show Hid (La w0 [(w4.heap.size, #[.bool a.up, .slice xa xn xc, .slice xA xN xC, .int .i64 a.head.no, .int .i64 a.head.area, .int .i64 a.head.en, .slice xp xq xr], 38), (w3.heap.size, #[.bool qa.up, .slice ba bn bc, .slice bA bN bC, .int .i64 qa.head.no, .int .i64 qa.head.area, .int .i64 qa.head.en, .slice bp bq br], 38), (w0.heap.size, #[.bool a.up, .slice sa sn sc, .slice sA sN sC, .int .i64 a.head.no, .int .i64 a.head.area, .int .i64 a.head.en, .slice sp sq sr], 30)] [(w4a.heap.size, w5.heap.size, .agg #[.bool qa.up, .slice ga gn gc, .slice gA gN gC, .int .i64 qa.head.no, .int .i64 qa.head.area, .int .i64 qa.head.en, .slice gp gq gr], qa), (w3a.heap.size, w4.heap.size, .agg #[.bool a.up, .slice xa xn xc, .slice xA xN xC, .int .i64 a.head.no, .int .i64 a.head.area, .int .i64 a.head.en, .slice xp xq xr], a), (w2.heap.size, w3.heap.size, .agg #[.bool qa.up, .slice ba bn bc, .slice bA bN bC, .int .i64 qa.head.no, .int .i64 qa.head.area, .int .i64 qa.head.en, .slice bp bq br], qa), (w1.heap.size, w2.heap.size, .agg #[.bool a.up, .slice fa fn fc, .slice fA fN fC, .int .i64 a.head.no, .int .i64 a.head.area, .int .i64 a.head.en, .slice fp fq fr], a)] [] [] w5) from lw5.add ow5)
    clear S_w4a bw5
    clear o0_0 o0_1 o0_2 o0_3 o0_4 o0_5 o0_6 o0_l o1_0 o1_1 o1_2 o1_3 o1_4 o1_5 o1_6 o1_l
    clear lw5 ow5
    obtain ⟨w5a, hw5a⟩ : ∃ x, x = w5.alloc (.cells #[.bool qa.up, .slice ga gn gc, .slice gA gN gC, .int .i64 qa.head.no, .int .i64 qa.head.area, .int .i64 qa.head.en, .slice gp gq gr] 38) := ⟨_, rfl⟩
    have Z7 := (show Hid (w5.heap.size < w5a.heap.size) from (show w5.heap.size < w5a.heap.size by rw [hw5a, World.size_alloc]; omega))
    obtain ⟨o0_0, o0_1, o0_2, o0_3, o0_4, o0_5, o0_6, _⟩ := rk_seven (S_w5.out.hl.2 _ (List.mem_cons_self ..))
    have o0_l := lt_of_block (S_w5.out.hl.2 _ (List.mem_cons_self ..))
    obtain ⟨o1_0, o1_1, o1_2, o1_3, o1_4, o1_5, o1_6, _⟩ := rk_seven (S_w5.out.hl.2 _ (List.mem_cons_of_mem _ (List.mem_cons_self ..)))
    have o1_l := lt_of_block (S_w5.out.hl.2 _ (List.mem_cons_of_mem _ (List.mem_cons_self ..)))
    obtain ⟨o2_0, o2_1, o2_2, o2_3, o2_4, o2_5, o2_6, _⟩ := rk_seven (S_w5.out.hl.2 _ (List.mem_cons_of_mem _ (List.mem_cons_of_mem _ (List.mem_cons_self ..))))
    have o2_l := lt_of_block (S_w5.out.hl.2 _ (List.mem_cons_of_mem _ (List.mem_cons_of_mem _ (List.mem_cons_self ..))))
    have S_w5a := (show Hid (La w0 [(w5.heap.size, #[.bool qa.up, .slice ga gn gc, .slice gA gN gC, .int .i64 qa.head.no, .int .i64 qa.head.area, .int .i64 qa.head.en, .slice gp gq gr], 38), (w4.heap.size, #[.bool a.up, .slice xa xn xc, .slice xA xN xC, .int .i64 a.head.no, .int .i64 a.head.area, .int .i64 a.head.en, .slice xp xq xr], 38), (w3.heap.size, #[.bool qa.up, .slice ba bn bc, .slice bA bN bC, .int .i64 qa.head.no, .int .i64 qa.head.area, .int .i64 qa.head.en, .slice bp bq br], 38), (w0.heap.size, #[.bool a.up, .slice sa sn sc, .slice sA sN sC, .int .i64 a.head.no, .int .i64 a.head.area, .int .i64 a.head.en, .slice sp sq sr], 30)] [(w4a.heap.size, w5.heap.size, .agg #[.bool qa.up, .slice ga gn gc, .slice gA gN gC, .int .i64 qa.head.no, .int .i64 qa.head.area, .int .i64 qa.head.en, .slice gp gq gr], qa), (w3a.heap.size, w4.heap.size, .agg #[.bool a.up, .slice xa xn xc, .slice xA xN xC, .int .i64 a.head.no, .int .i64 a.head.area, .int .i64 a.head.en, .slice xp xq xr], a), (w2.heap.size, w3.heap.size, .agg #[.bool qa.up, .slice ba bn bc, .slice bA bN bC, .int .i64 qa.head.no, .int .i64 qa.head.area, .int .i64 qa.head.en, .slice bp bq br], qa), (w1.heap.size, w2.heap.size, .agg #[.bool a.up, .slice fa fn fc, .slice fA fN fC, .int .i64 a.head.no, .int .i64 a.head.area, .int .i64 a.head.en, .slice fp fq fr], a)] [] [] w5a) from by rw [hw5a]; exact S_w5.out.new #[.bool qa.up, .slice ga gn gc, .slice gA gN gC, .int .i64 qa.head.no, .int .i64 qa.head.area, .int .i64 qa.head.en, .slice gp gq gr] 38)
    clear S_w5
    go_wp2_with fail
    go_at_call 9
    rw [← hw5a]
    clear hw5a
    refine (S_w5a.out.eqA (S_w5a.out.rows _ (List.mem_cons_self ..)).1.at (S_w5a.out.rows _ (List.mem_cons_of_mem _ (List.mem_cons_of_mem _ (List.mem_cons_self ..)))).1.at FQ.out).mono ?_
    rintro e w6 ⟨rfl, lw6, bw6⟩
    have Z8 := (show Hid (w5a.heap.size ≤ w6.heap.size) from bw6.size)
    have S_w6 := (show Hid (La w0 [(w5.heap.size, #[.bool qa.up, .slice ga gn gc, .slice gA gN gC, .int .i64 qa.head.no, .int .i64 qa.head.area, .int .i64 qa.head.en, .slice gp gq gr], 38), (w4.heap.size, #[.bool a.up, .slice xa xn xc, .slice xA xN xC, .int .i64 a.head.no, .int .i64 a.head.area, .int .i64 a.head.en, .slice xp xq xr], 38), (w3.heap.size, #[.bool qa.up, .slice ba bn bc, .slice bA bN bC, .int .i64 qa.head.no, .int .i64 qa.head.area, .int .i64 qa.head.en, .slice bp bq br], 38), (w0.heap.size, #[.bool a.up, .slice sa sn sc, .slice sA sN sC, .int .i64 a.head.no, .int .i64 a.head.area, .int .i64 a.head.en, .slice sp sq sr], 30)] [(w4a.heap.size, w5.heap.size, .agg #[.bool qa.up, .slice ga gn gc, .slice gA gN gC, .int .i64 qa.head.no, .int .i64 qa.head.area, .int .i64 qa.head.en, .slice gp gq gr], qa), (w3a.heap.size, w4.heap.size, .agg #[.bool a.up, .slice xa xn xc, .slice xA xN xC, .int .i64 a.head.no, .int .i64 a.head.area, .int .i64 a.head.en, .slice xp xq xr], a), (w2.heap.size, w3.heap.size, .agg #[.bool qa.up, .slice ba bn bc, .slice bA bN bC, .int .i64 qa.head.no, .int .i64 qa.head.area, .int .i64 qa.head.en, .slice bp bq br], qa), (w1.heap.size, w2.heap.size, .agg #[.bool a.up, .slice fa fn fc, .slice fA fN fC, .int .i64 a.head.no, .int .i64 a.head.area, .int .i64 a.head.en, .slice fp fq fr], a)] [] [] w6) from lw6)
    clear S_w5a bw6
    clear o0_0 o0_1 o0_2 o0_3 o0_4 o0_5 o0_6 o0_l o1_0 o1_1 o1_2 o1_3 o1_4 o1_5 o1_6 o1_l o2_0 o2_1 o2_2 o2_3 o2_4 o2_5 o2_6 o2_l
    clear lw6
    obtain ⟨c0_0, c0_1, c0_2, c0_3, c0_4, c0_5, c0_6, _⟩ := rk_seven (S_w6.out.hl.2 _ (List.mem_cons_self ..))
    obtain ⟨c1_0, c1_1, c1_2, c1_3, c1_4, c1_5, c1_6, _⟩ := rk_seven (S_w6.out.hl.2 _ (List.mem_cons_of_mem _ (List.mem_cons_self ..)))
    obtain ⟨c2_0, c2_1, c2_2, c2_3, c2_4, c2_5, c2_6, _⟩ := rk_seven (S_w6.out.hl.2 _ (List.mem_cons_of_mem _ (List.mem_cons_of_mem _ (List.mem_cons_self ..))))
    obtain ⟨c3_0, c3_1, c3_2, c3_3, c3_4, c3_5, c3_6, _⟩ := rk_seven (S_w6.out.hl.2 _ (List.mem_cons_of_mem _ (List.mem_cons_of_mem _ (List.mem_cons_of_mem _ (List.mem_cons_self ..)))))
    go_wp2_with fail
    clear c0_0 c0_1 c0_2 c0_3 c0_4 c0_5 c0_6 c1_0 c1_1 c1_2 c1_3 c1_4 c1_5 c1_6 c2_0 c2_1 c2_2 c2_3 c2_4 c2_5 c2_6 c3_0 c3_1 c3_2 c3_3 c3_4 c3_5 c3_6
    have KD := (show Hid (La w0 [(w5.heap.size, #[.bool qa.up, .slice ga gn gc, .slice gA gN gC, .int .i64 qa.head.no, .int .i64 qa.head.area, .int .i64 qa.head.en, .slice gp gq gr], 38), (w4.heap.size, #[.bool a.up, .slice xa xn xc, .slice xA xN xC, .int .i64 a.head.no, .int .i64 a.head.area, .int .i64 a.head.en, .slice xp xq xr], 38), (w3.heap.size, #[.bool qa.up, .slice ba bn bc, .slice bA bN bC, .int .i64 qa.head.no, .int .i64 qa.head.area, .int .i64 qa.head.en, .slice bp bq br], 38), (w0.heap.size, #[.bool a.up, .slice sa sn sc, .slice sA sN sC, .int .i64 a.head.no, .int .i64 a.head.area, .int .i64 a.head.en, .slice sp sq sr], 30)] [(w4a.heap.size, w5.heap.size, .agg #[.bool qa.up, .slice ga gn gc, .slice gA gN gC, .int .i64 qa.head.no, .int .i64 qa.head.area, .int .i64 qa.head.en, .slice gp gq gr], qa), (w3a.heap.size, w4.heap.size, .agg #[.bool a.up, .slice xa xn xc, .slice xA xN xC, .int .i64 a.head.no, .int .i64 a.head.area, .int .i64 a.head.en, .slice xp xq xr], a), (w2.heap.size, w3.heap.size, .agg #[.bool qa.up, .slice ba bn bc, .slice bA bN bC, .int .i64 qa.head.no, .int .i64 qa.head.area, .int .i64 qa.head.en, .slice bp bq br], qa), (w1.heap.size, w2.heap.size, .agg #[.bool a.up, .slice fa fn fc, .slice fA fN fC, .int .i64 a.head.no, .int .i64 a.head.area, .int .i64 a.head.en, .slice fp fq fr], a)] [] [] w6.drew) from S_w6.out.below (below_drewN 1))
    have HS := (show Hid (∀ W, La w0 [(w5.heap.size, #[.bool qa.up, .slice ga gn gc, .slice gA gN gC, .int .i64 qa.head.no, .int .i64 qa.head.area, .int .i64 qa.head.en, .slice gp gq gr], 38), (w4.heap.size, #[.bool a.up, .slice xa xn xc, .slice xA xN xC, .int .i64 a.head.no, .int .i64 a.head.area, .int .i64 a.head.en, .slice xp xq xr], 38), (w3.heap.size, #[.bool qa.up, .slice ba bn bc, .slice bA bN bC, .int .i64 qa.head.no, .int .i64 qa.head.area, .int .i64 qa.head.en, .slice bp bq br], 38), (w0.heap.size, #[.bool a.up, .slice sa sn sc, .slice sA sN sC, .int .i64 a.head.no, .int .i64 a.head.area, .int .i64 a.head.en, .slice sp sq sr], 30)] [(w4a.heap.size, w5.heap.size, .agg #[.bool qa.up, .slice ga gn gc, .slice gA gN gC, .int .i64 qa.head.no, .int .i64 qa.head.area, .int .i64 qa.head.en, .slice gp gq gr], qa), (w3a.heap.size, w4.heap.size, .agg #[.bool a.up, .slice xa xn xc, .slice xA xN xC, .int .i64 a.head.no, .int .i64 a.head.area, .int .i64 a.head.en, .slice xp xq xr], a), (w2.heap.size, w3.heap.size, .agg #[.bool qa.up, .slice ba bn bc, .slice bA bN bC, .int .i64 qa.head.no, .int .i64 qa.head.area, .int .i64 qa.head.en, .slice bp bq br], qa), (w1.heap.size, w2.heap.size, .agg #[.bool a.up, .slice fa fn fc, .slice fA fN fC, .int .i64 a.head.no, .int .i64 a.head.area, .int .i64 a.head.en, .slice fp fq fr], a)] [] [] W → W.cell? ⟨w5.heap.size, 0, none⟩ = some (.bool qa.up) ∧ W.cell? ⟨w5.heap.size, 1, none⟩ = some (.slice ga gn gc) ∧ W.cell? ⟨w5.heap.size, 2, none⟩ = some (.slice gA gN gC) ∧ W.cell? ⟨w5.heap.size, 3, none⟩ = some (.int .i64 qa.head.no) ∧ W.cell? ⟨w5.heap.size, 4, none⟩ = some (.int .i64 qa.head.area) ∧ W.cell? ⟨w5.heap.size, 5, none⟩ = some (.int .i64 qa.head.en) ∧ W.cell? ⟨w5.heap.size, 6, none⟩ = some (.slice gp gq gr) ∧ W.cell? ⟨w4.heap.size, 0, none⟩ = some (.bool a.up) ∧ W.cell? ⟨w4.heap.size, 1, none⟩ = some (.slice xa xn xc) ∧ W.cell? ⟨w4.heap.size, 2, none⟩ = some (.slice xA xN xC) ∧ W.cell? ⟨w4.heap.size, 3, none⟩ = some (.int .i64 a.head.no) ∧ W.cell? ⟨w4.heap.size, 4, none⟩ = some (.int .i64 a.head.area) ∧ W.cell? ⟨w4.heap.size, 5, none⟩ = some (.int .i64 a.head.en) ∧ W.cell? ⟨w4.heap.size, 6, none⟩ = some (.slice xp xq xr) ∧ W.cell? ⟨w3.heap.size, 0, none⟩ = some (.bool qa.up) ∧ W.cell? ⟨w3.heap.size, 1, none⟩ = some (.slice ba bn bc) ∧ W.cell? ⟨w3.heap.size, 2, none⟩ = some (.slice bA bN bC) ∧ W.cell? ⟨w3.heap.size, 3, none⟩ = some (.int .i64 qa.head.no) ∧ W.cell? ⟨w3.heap.size, 4, none⟩ = some (.int .i64 qa.head.area) ∧ W.cell? ⟨w3.heap.size, 5, none⟩ = some (.int .i64 qa.head.en) ∧ W.cell? ⟨w3.heap.size, 6, none⟩ = some (.slice bp bq br) ∧ W.cell? ⟨w0.heap.size, 0, none⟩ = some (.bool a.up) ∧ W.cell? ⟨w0.heap.size, 1, none⟩ = some (.slice sa sn sc) ∧ W.cell? ⟨w0.heap.size, 2, none⟩ = some (.slice sA sN sC) ∧ W.cell? ⟨w0.heap.size, 3, none⟩ = some (.int .i64 a.head.no) ∧ W.cell? ⟨w0.heap.size, 4, none⟩ = some (.int .i64 a.head.area) ∧ W.cell? ⟨w0.heap.size, 5, none⟩ = some (.int .i64 a.head.en) ∧ W.cell? ⟨w0.heap.size, 6, none⟩ = some (.slice sp sq sr) ∧ La w0 [(w5.heap.size, #[.bool qa.up, .slice ga gn gc, .slice gA gN gC, .int .i64 qa.head.no, .int .i64 qa.head.area, .int .i64 qa.head.en, .slice gp gq gr], 38), (w4.heap.size, #[.bool a.up, .slice xa xn xc, .slice xA xN xC, .int .i64 a.head.no, .int .i64 a.head.area, .int .i64 a.head.en, .slice xp xq xr], 38), (w3.heap.size, #[.bool qa.up, .slice ba bn bc, .slice bA bN bC, .int .i64 qa.head.no, .int .i64 qa.head.area, .int .i64 qa.head.en, .slice bp bq br], 38), (w0.heap.size, #[.bool a.up, .slice sa sn sc, .slice sA sN sC, .int .i64 a.head.no, .int .i64 a.head.area, .int .i64 a.head.en, .slice sp sq sr], 30)] [(w4a.heap.size, w5.heap.size, .agg #[.bool qa.up, .slice ga gn gc, .slice gA gN gC, .int .i64 qa.head.no, .int .i64 qa.head.area, .int .i64 qa.head.en, .slice gp gq gr], qa), (w3a.heap.size, w4.heap.size, .agg #[.bool a.up, .slice xa xn xc, .slice xA xN xC, .int .i64 a.head.no, .int .i64 a.head.area, .int .i64 a.head.en, .slice xp xq xr], a), (w2.heap.size, w3.heap.size, .agg #[.bool qa.up, .slice ba bn bc, .slice bA bN bC, .int .i64 qa.head.no, .int .i64 qa.head.area, .int .i64 qa.head.en, .slice bp bq br], qa), (w1.heap.size, w2.heap.size, .agg #[.bool a.up, .slice fa fn fc, .slice fA fN fC, .int .i64 a.head.no, .int .i64 a.head.area, .int .i64 a.head.en, .slice fp fq fr], a)] [] [] W) from fun W h => ⟨(rk_seven (h.hl.2 _ (List.mem_cons_self ..))).1, (rk_seven (h.hl.2 _ (List.mem_cons_self ..))).2.1, (rk_seven (h.hl.2 _ (List.mem_cons_self ..))).2.2.1, (rk_seven (h.hl.2 _ (List.mem_cons_self ..))).2.2.2.1, (rk_seven (h.hl.2 _ (List.mem_cons_self ..))).2.2.2.2.1, (rk_seven (h.hl.2 _ (List.mem_cons_self ..))).2.2.2.2.2.1, (rk_seven (h.hl.2 _ (List.mem_cons_self ..))).2.2.2.2.2.2.1, (rk_seven (h.hl.2 _ (List.mem_cons_of_mem _ (List.mem_cons_self ..)))).1, (rk_seven (h.hl.2 _ (List.mem_cons_of_mem _ (List.mem_cons_self ..)))).2.1, (rk_seven (h.hl.2 _ (List.mem_cons_of_mem _ (List.mem_cons_self ..)))).2.2.1, (rk_seven (h.hl.2 _ (List.mem_cons_of_mem _ (List.mem_cons_self ..)))).2.2.2.1, (rk_seven (h.hl.2 _ (List.mem_cons_of_mem _ (List.mem_cons_self ..)))).2.2.2.2.1, (rk_seven (h.hl.2 _ (List.mem_cons_of_mem _ (List.mem_cons_self ..)))).2.2.2.2.2.1, (rk_seven (h.hl.2 _ (List.mem_cons_of_mem _ (List.mem_cons_self ..)))).2.2.2.2.2.2.1, (rk_seven (h.hl.2 _ (List.mem_cons_of_mem _ (List.mem_cons_of_mem _ (List.mem_cons_self ..))))).1, (rk_seven (h.hl.2 _ (List.mem_cons_of_mem _ (List.mem_cons_of_mem _ (List.mem_cons_self ..))))).2.1, (rk_seven (h.hl.2 _ (List.mem_cons_of_mem _ (List.mem_cons_of_mem _ (List.mem_cons_self ..))))).2.2.1, (rk_seven (h.hl.2 _ (List.mem_cons_of_mem _ (List.mem_cons_of_mem _ (List.mem_cons_self ..))))).2.2.2.1, (rk_seven (h.hl.2 _ (List.mem_cons_of_mem _ (List.mem_cons_of_mem _ (List.mem_cons_self ..))))).2.2.2.2.1, (rk_seven (h.hl.2 _ (List.mem_cons_of_mem _ (List.mem_cons_of_mem _ (List.mem_cons_self ..))))).2.2.2.2.2.1, (rk_seven (h.hl.2 _ (List.mem_cons_of_mem _ (List.mem_cons_of_mem _ (List.mem_cons_self ..))))).2.2.2.2.2.2.1, (rk_seven (h.hl.2 _ (List.mem_cons_of_mem _ (List.mem_cons_of_mem _ (List.mem_cons_of_mem _ (List.mem_cons_self ..)))))).1, (rk_seven (h.hl.2 _ (List.mem_cons_of_mem _ (List.mem_cons_of_mem _ (List.mem_cons_of_mem _ (List.mem_cons_self ..)))))).2.1, (rk_seven (h.hl.2 _ (List.mem_cons_of_mem _ (List.mem_cons_of_mem _ (List.mem_cons_of_mem _ (List.mem_cons_self ..)))))).2.2.1, (rk_seven (h.hl.2 _ (List.mem_cons_of_mem _ (List.mem_cons_of_mem _ (List.mem_cons_of_mem _ (List.mem_cons_self ..)))))).2.2.2.1, (rk_seven (h.hl.2 _ (List.mem_cons_of_mem _ (List.mem_cons_of_mem _ (List.mem_cons_of_mem _ (List.mem_cons_self ..)))))).2.2.2.2.1, (rk_seven (h.hl.2 _ (List.mem_cons_of_mem _ (List.mem_cons_of_mem _ (List.mem_cons_of_mem _ (List.mem_cons_self ..)))))).2.2.2.2.2.1, (rk_seven (h.hl.2 _ (List.mem_cons_of_mem _ (List.mem_cons_of_mem _ (List.mem_cons_of_mem _ (List.mem_cons_self ..)))))).2.2.2.2.2.2.1, h⟩)
    have hw0 : w0.heap.size ≤ w6.heap.size := S_w6.out.hl.1.size
    go_region_held3 (fun w' => w'.cell? ⟨w5.heap.size, 0, none⟩ = some (.bool qa.up) ∧ w'.cell? ⟨w5.heap.size, 1, none⟩ = some (.slice ga gn gc) ∧ w'.cell? ⟨w5.heap.size, 2, none⟩ = some (.slice gA gN gC) ∧ w'.cell? ⟨w5.heap.size, 3, none⟩ = some (.int .i64 qa.head.no) ∧ w'.cell? ⟨w5.heap.size, 4, none⟩ = some (.int .i64 qa.head.area) ∧ w'.cell? ⟨w5.heap.size, 5, none⟩ = some (.int .i64 qa.head.en) ∧ w'.cell? ⟨w5.heap.size, 6, none⟩ = some (.slice gp gq gr) ∧ w'.cell? ⟨w4.heap.size, 0, none⟩ = some (.bool a.up) ∧ w'.cell? ⟨w4.heap.size, 1, none⟩ = some (.slice xa xn xc) ∧ w'.cell? ⟨w4.heap.size, 2, none⟩ = some (.slice xA xN xC) ∧ w'.cell? ⟨w4.heap.size, 3, none⟩ = some (.int .i64 a.head.no) ∧ w'.cell? ⟨w4.heap.size, 4, none⟩ = some (.int .i64 a.head.area) ∧ w'.cell? ⟨w4.heap.size, 5, none⟩ = some (.int .i64 a.head.en) ∧ w'.cell? ⟨w4.heap.size, 6, none⟩ = some (.slice xp xq xr) ∧ w'.cell? ⟨w3.heap.size, 0, none⟩ = some (.bool qa.up) ∧ w'.cell? ⟨w3.heap.size, 1, none⟩ = some (.slice ba bn bc) ∧ w'.cell? ⟨w3.heap.size, 2, none⟩ = some (.slice bA bN bC) ∧ w'.cell? ⟨w3.heap.size, 3, none⟩ = some (.int .i64 qa.head.no) ∧ w'.cell? ⟨w3.heap.size, 4, none⟩ = some (.int .i64 qa.head.area) ∧ w'.cell? ⟨w3.heap.size, 5, none⟩ = some (.int .i64 qa.head.en) ∧ w'.cell? ⟨w3.heap.size, 6, none⟩ = some (.slice bp bq br) ∧ w'.cell? ⟨w0.heap.size, 0, none⟩ = some (.bool a.up) ∧ w'.cell? ⟨w0.heap.size, 1, none⟩ = some (.slice sa sn sc) ∧ w'.cell? ⟨w0.heap.size, 2, none⟩ = some (.slice sA sN sC) ∧ w'.cell? ⟨w0.heap.size, 3, none⟩ = some (.int .i64 a.head.no) ∧ w'.cell? ⟨w0.heap.size, 4, none⟩ = some (.int .i64 a.head.area) ∧ w'.cell? ⟨w0.heap.size, 5, none⟩ = some (.int .i64 a.head.en) ∧ w'.cell? ⟨w0.heap.size, 6, none⟩ = some (.slice sp sq sr) ∧ La w0 [(w5.heap.size, #[.bool qa.up, .slice ga gn gc, .slice gA gN gC, .int .i64 qa.head.no, .int .i64 qa.head.area, .int .i64 qa.head.en, .slice gp gq gr], 38), (w4.heap.size, #[.bool a.up, .slice xa xn xc, .slice xA xN xC, .int .i64 a.head.no, .int .i64 a.head.area, .int .i64 a.head.en, .slice xp xq xr], 38), (w3.heap.size, #[.bool qa.up, .slice ba bn bc, .slice bA bN bC, .int .i64 qa.head.no, .int .i64 qa.head.area, .int .i64 qa.head.en, .slice bp bq br], 38), (w0.heap.size, #[.bool a.up, .slice sa sn sc, .slice sA sN sC, .int .i64 a.head.no, .int .i64 a.head.area, .int .i64 a.head.en, .slice sp sq sr], 30)] [(w4a.heap.size, w5.heap.size, .agg #[.bool qa.up, .slice ga gn gc, .slice gA gN gC, .int .i64 qa.head.no, .int .i64 qa.head.area, .int .i64 qa.head.en, .slice gp gq gr], qa), (w3a.heap.size, w4.heap.size, .agg #[.bool a.up, .slice xa xn xc, .slice xA xN xC, .int .i64 a.head.no, .int .i64 a.head.area, .int .i64 a.head.en, .slice xp xq xr], a), (w2.heap.size, w3.heap.size, .agg #[.bool qa.up, .slice ba bn bc, .slice bA bN bC, .int .i64 qa.head.no, .int .i64 qa.head.area, .int .i64 qa.head.en, .slice bp bq br], qa), (w1.heap.size, w2.heap.size, .agg #[.bool a.up, .slice fa fn fc, .slice fA fN fC, .int .i64 a.head.no, .int .i64 a.head.area, .int .i64 a.head.en, .slice fp fq fr], a)] [] [] w')
      (first | exact HS.out _ KD.out | exact HS.out _ Q0.out | exact HS.out _ Q1.out)
      (first
        | (go_at_call 7
           refine Calls.mono (CTA.out _ _ _ _ _ (‹_ ∧ _ ∧ _ ∧ _ ∧ _ ∧ _ ∧ _ ∧ _ ∧ _ ∧ _ ∧ _ ∧ _ ∧ _ ∧ _ ∧ _ ∧ _ ∧ _ ∧ _ ∧ _ ∧ _ ∧ _ ∧ _ ∧ _ ∧ _ ∧ _ ∧ _ ∧ _ ∧ _ ∧ La _ _ _ _ _ _›).2.2.2.2.2.2.2.2.2.2.2.2.2.2.2.2.2.2.2.2.2.2.2.2.2.2.2.2) ?_
           rintro e y0 ⟨ta, tn, tc, tA, tN, tC, tp, tq, tr, rfl, l0, o0, b0⟩
           have O0 := (show Hid (OwnAy w0.heap.size y0 (.agg #[.bool a.up, .slice ta tn tc, .slice tA tN tC, .int .i64 a.head.no, .int .i64 a.head.area, .int .i64 a.head.en, .slice tp tq tr]) a) from o0)
           clear o0
           have Q0 := (show Hid (La w0 [(w5.heap.size, #[.bool qa.up, .slice ga gn gc, .slice gA gN gC, .int .i64 qa.head.no, .int .i64 qa.head.area, .int .i64 qa.head.en, .slice gp gq gr], 38), (w4.heap.size, #[.bool a.up, .slice xa xn xc, .slice xA xN xC, .int .i64 a.head.no, .int .i64 a.head.area, .int .i64 a.head.en, .slice xp xq xr], 38), (w3.heap.size, #[.bool qa.up, .slice ba bn bc, .slice bA bN bC, .int .i64 qa.head.no, .int .i64 qa.head.area, .int .i64 qa.head.en, .slice bp bq br], 38), (w0.heap.size, #[.bool a.up, .slice sa sn sc, .slice sA sN sC, .int .i64 a.head.no, .int .i64 a.head.area, .int .i64 a.head.en, .slice sp sq sr], 30)] [(w4a.heap.size, w5.heap.size, .agg #[.bool qa.up, .slice ga gn gc, .slice gA gN gC, .int .i64 qa.head.no, .int .i64 qa.head.area, .int .i64 qa.head.en, .slice gp gq gr], qa), (w3a.heap.size, w4.heap.size, .agg #[.bool a.up, .slice xa xn xc, .slice xA xN xC, .int .i64 a.head.no, .int .i64 a.head.area, .int .i64 a.head.en, .slice xp xq xr], a), (w2.heap.size, w3.heap.size, .agg #[.bool qa.up, .slice ba bn bc, .slice bA bN bC, .int .i64 qa.head.no, .int .i64 qa.head.area, .int .i64 qa.head.en, .slice bp bq br], qa), (w1.heap.size, w2.heap.size, .agg #[.bool a.up, .slice fa fn fc, .slice fA fN fC, .int .i64 a.head.no, .int .i64 a.head.area, .int .i64 a.head.en, .slice fp fq fr], a)] [] [] y0) from l0)
           have z0 : w6.heap.size ≤ y0.heap.size := b0.size
           clear l0 b0)
        | (go_at_call 9
           refine Calls.mono (Q0.out.eqA (Q0.out.rows _ (List.mem_cons_of_mem _ (List.mem_cons_self ..))).1.at O0.out.at HF.out) ?_
           rintro e w7 ⟨rfl, l1, b1⟩
           have Q1 := (show Hid (La w0 [(w5.heap.size, #[.bool qa.up, .slice ga gn gc, .slice gA gN gC, .int .i64 qa.head.no, .int .i64 qa.head.area, .int .i64 qa.head.en, .slice gp gq gr], 38), (w4.heap.size, #[.bool a.up, .slice xa xn xc, .slice xA xN xC, .int .i64 a.head.no, .int .i64 a.head.area, .int .i64 a.head.en, .slice xp xq xr], 38), (w3.heap.size, #[.bool qa.up, .slice ba bn bc, .slice bA bN bC, .int .i64 qa.head.no, .int .i64 qa.head.area, .int .i64 qa.head.en, .slice bp bq br], 38), (w0.heap.size, #[.bool a.up, .slice sa sn sc, .slice sA sN sC, .int .i64 a.head.no, .int .i64 a.head.area, .int .i64 a.head.en, .slice sp sq sr], 30)] [(w4a.heap.size, w5.heap.size, .agg #[.bool qa.up, .slice ga gn gc, .slice gA gN gC, .int .i64 qa.head.no, .int .i64 qa.head.area, .int .i64 qa.head.en, .slice gp gq gr], qa), (w3a.heap.size, w4.heap.size, .agg #[.bool a.up, .slice xa xn xc, .slice xA xN xC, .int .i64 a.head.no, .int .i64 a.head.area, .int .i64 a.head.en, .slice xp xq xr], a), (w2.heap.size, w3.heap.size, .agg #[.bool qa.up, .slice ba bn bc, .slice bA bN bC, .int .i64 qa.head.no, .int .i64 qa.head.area, .int .i64 qa.head.en, .slice bp bq br], qa), (w1.heap.size, w2.heap.size, .agg #[.bool a.up, .slice fa fn fc, .slice fA fN fC, .int .i64 a.head.no, .int .i64 a.head.area, .int .i64 a.head.en, .slice fp fq fr], a)] [] [] w7) from l1)
           have z1 : w6.heap.size ≤ w7.heap.size := Nat.le_trans z0 b1.size
           clear l1 b1))
    have S_w7 := (show Hid (La w0 [(w5.heap.size, #[.bool qa.up, .slice ga gn gc, .slice gA gN gC, .int .i64 qa.head.no, .int .i64 qa.head.area, .int .i64 qa.head.en, .slice gp gq gr], 38), (w4.heap.size, #[.bool a.up, .slice xa xn xc, .slice xA xN xC, .int .i64 a.head.no, .int .i64 a.head.area, .int .i64 a.head.en, .slice xp xq xr], 38), (w3.heap.size, #[.bool qa.up, .slice ba bn bc, .slice bA bN bC, .int .i64 qa.head.no, .int .i64 qa.head.area, .int .i64 qa.head.en, .slice bp bq br], 38), (w0.heap.size, #[.bool a.up, .slice sa sn sc, .slice sA sN sC, .int .i64 a.head.no, .int .i64 a.head.area, .int .i64 a.head.en, .slice sp sq sr], 30)] [(w4a.heap.size, w5.heap.size, .agg #[.bool qa.up, .slice ga gn gc, .slice gA gN gC, .int .i64 qa.head.no, .int .i64 qa.head.area, .int .i64 qa.head.en, .slice gp gq gr], qa), (w3a.heap.size, w4.heap.size, .agg #[.bool a.up, .slice xa xn xc, .slice xA xN xC, .int .i64 a.head.no, .int .i64 a.head.area, .int .i64 a.head.en, .slice xp xq xr], a), (w2.heap.size, w3.heap.size, .agg #[.bool qa.up, .slice ba bn bc, .slice bA bN bC, .int .i64 qa.head.no, .int .i64 qa.head.area, .int .i64 qa.head.en, .slice bp bq br], qa), (w1.heap.size, w2.heap.size, .agg #[.bool a.up, .slice fa fn fc, .slice fA fN fC, .int .i64 a.head.no, .int .i64 a.head.area, .int .i64 a.head.en, .slice fp fq fr], a)] [] [] w7) from Q1.out)
    have Z9 := (show Hid (w6.heap.size ≤ w7.heap.size) from z1)
    clear Q1 Q0 O0 KD HS hw0 S_w6 z0 z1
    have T_w7 := (show Hid (La w0 [(w5.heap.size, #[.bool qa.up, .slice ga gn gc, .slice gA gN gC, .int .i64 qa.head.no, .int .i64 qa.head.area, .int .i64 qa.head.en, .slice gp gq gr], 38), (w4.heap.size, #[.bool a.up, .slice xa xn xc, .slice xA xN xC, .int .i64 a.head.no, .int .i64 a.head.area, .int .i64 a.head.en, .slice xp xq xr], 38), (w3.heap.size, #[.bool qa.up, .slice ba bn bc, .slice bA bN bC, .int .i64 qa.head.no, .int .i64 qa.head.area, .int .i64 qa.head.en, .slice bp bq br], 38), (w0.heap.size, #[.bool a.up, .slice sa sn sc, .slice sA sN sC, .int .i64 a.head.no, .int .i64 a.head.area, .int .i64 a.head.en, .slice sp sq sr], 30)] [(w3a.heap.size, w4.heap.size, .agg #[.bool a.up, .slice xa xn xc, .slice xA xN xC, .int .i64 a.head.no, .int .i64 a.head.area, .int .i64 a.head.en, .slice xp xq xr], a), (w4a.heap.size, w5.heap.size, .agg #[.bool qa.up, .slice ga gn gc, .slice gA gN gC, .int .i64 qa.head.no, .int .i64 qa.head.area, .int .i64 qa.head.en, .slice gp gq gr], qa), (w2.heap.size, w3.heap.size, .agg #[.bool qa.up, .slice ba bn bc, .slice bA bN bC, .int .i64 qa.head.no, .int .i64 qa.head.area, .int .i64 qa.head.en, .slice bp bq br], qa), (w1.heap.size, w2.heap.size, .agg #[.bool a.up, .slice fa fn fc, .slice fA fN fC, .int .i64 a.head.no, .int .i64 a.head.area, .int .i64 a.head.en, .slice fp fq fr], a)] [] [] w7) from S_w7.out.sub (by simp) (by simp) (by simp) (by simp))
    clear S_w7
    have S_w7 := T_w7
    clear T_w7
    have hlo : w0.heap.size ≤ w3a.heap.size := by have := Z0.out; have := Z1.out; have := Z2.out; have := Z3.out; have := Z4.out; have := Z5.out; have := Z6.out; have := Z7.out; have := Z8.out; have := Z9.out; omega
    have hR : ∀ r ∈ ([(w4a.heap.size, w5.heap.size, .agg #[.bool qa.up, .slice ga gn gc, .slice gA gN gC, .int .i64 qa.head.no, .int .i64 qa.head.area, .int .i64 qa.head.en, .slice gp gq gr], qa), (w2.heap.size, w3.heap.size, .agg #[.bool qa.up, .slice ba bn bc, .slice bA bN bC, .int .i64 qa.head.no, .int .i64 qa.head.area, .int .i64 qa.head.en, .slice bp bq br], qa), (w1.heap.size, w2.heap.size, .agg #[.bool a.up, .slice fa fn fc, .slice fA fN fC, .int .i64 a.head.no, .int .i64 a.head.area, .int .i64 a.head.en, .slice fp fq fr], a)] : List (Nat × Nat × Value × PArch)), r.2.1 ≤ w3a.heap.size ∨ w4.heap.size ≤ r.1 := by
      intro r hr
      simp only [List.mem_cons, List.not_mem_nil, or_false] at hr
      rcases hr with rfl | rfl | rfl
      · show w5.heap.size ≤ w3a.heap.size ∨ w4.heap.size ≤ w4a.heap.size
        have := Z0.out; have := Z1.out; have := Z2.out; have := Z3.out; have := Z4.out; have := Z5.out; have := Z6.out; have := Z7.out; have := Z8.out; have := Z9.out; omega
      · show w3.heap.size ≤ w3a.heap.size ∨ w4.heap.size ≤ w2.heap.size
        have := Z0.out; have := Z1.out; have := Z2.out; have := Z3.out; have := Z4.out; have := Z5.out; have := Z6.out; have := Z7.out; have := Z8.out; have := Z9.out; omega
      · show w2.heap.size ≤ w3a.heap.size ∨ w4.heap.size ≤ w1.heap.size
        have := Z0.out; have := Z1.out; have := Z2.out; have := Z3.out; have := Z4.out; have := Z5.out; have := Z6.out; have := Z7.out; have := Z8.out; have := Z9.out; omega
    have hS : ∀ r ∈ ([] : List (Nat × Nat × Value × List ByteArray)), r.2.1 ≤ w3a.heap.size ∨ w4.heap.size ≤ r.1 := by
      intro r hr
      cases hr
    have CM := (show Hid _ from S_w7.out.mkA HF.out hlo hR hS (by simp))
    clear hlo hR hS
    obtain ⟨c0_0, c0_1, c0_2, c0_3, c0_4, c0_5, c0_6, _⟩ := rk_seven (S_w7.out.hl.2 _ (List.mem_cons_self ..))
    obtain ⟨c1_0, c1_1, c1_2, c1_3, c1_4, c1_5, c1_6, _⟩ := rk_seven (S_w7.out.hl.2 _ (List.mem_cons_of_mem _ (List.mem_cons_self ..)))
    obtain ⟨c2_0, c2_1, c2_2, c2_3, c2_4, c2_5, c2_6, _⟩ := rk_seven (S_w7.out.hl.2 _ (List.mem_cons_of_mem _ (List.mem_cons_of_mem _ (List.mem_cons_self ..))))
    obtain ⟨c3_0, c3_1, c3_2, c3_3, c3_4, c3_5, c3_6, _⟩ := rk_seven (S_w7.out.hl.2 _ (List.mem_cons_of_mem _ (List.mem_cons_of_mem _ (List.mem_cons_of_mem _ (List.mem_cons_self ..)))))
    go_wp2_with fail
    go_at_call 10
    refine Calls.mono CM.out ?_
    rintro e w8 ⟨rfl, lw8, zw8⟩
    clear CM
    have Z10 := (show Hid (w7.heap.size ≤ w8.heap.size) from zw8)
    have S_w8 := (show Hid (La w0 [(w5.heap.size, #[.bool qa.up, .slice ga gn gc, .slice gA gN gC, .int .i64 qa.head.no, .int .i64 qa.head.area, .int .i64 qa.head.en, .slice gp gq gr], 38), (w4.heap.size, #[.bool a.up, .slice xa xn xc, .slice xA xN xC, .int .i64 a.head.no, .int .i64 a.head.area, .int .i64 a.head.en, .slice xp xq xr], 38), (w3.heap.size, #[.bool qa.up, .slice ba bn bc, .slice bA bN bC, .int .i64 qa.head.no, .int .i64 qa.head.area, .int .i64 qa.head.en, .slice bp bq br], 38), (w0.heap.size, #[.bool a.up, .slice sa sn sc, .slice sA sN sC, .int .i64 a.head.no, .int .i64 a.head.area, .int .i64 a.head.en, .slice sp sq sr], 30)] [(w3a.heap.size, w4.heap.size, .agg #[.bool a.up, .slice xa xn xc, .slice xA xN xC, .int .i64 a.head.no, .int .i64 a.head.area, .int .i64 a.head.en, .slice xp xq xr], (markA a)), (w4a.heap.size, w5.heap.size, .agg #[.bool qa.up, .slice ga gn gc, .slice gA gN gC, .int .i64 qa.head.no, .int .i64 qa.head.area, .int .i64 qa.head.en, .slice gp gq gr], qa), (w2.heap.size, w3.heap.size, .agg #[.bool qa.up, .slice ba bn bc, .slice bA bN bC, .int .i64 qa.head.no, .int .i64 qa.head.area, .int .i64 qa.head.en, .slice bp bq br], qa), (w1.heap.size, w2.heap.size, .agg #[.bool a.up, .slice fa fn fc, .slice fA fN fC, .int .i64 a.head.no, .int .i64 a.head.area, .int .i64 a.head.en, .slice fp fq fr], a)] [] [] w8) from lw8)
    clear S_w7 lw8 zw8
    clear c0_0 c0_1 c0_2 c0_3 c0_4 c0_5 c0_6 c1_0 c1_1 c1_2 c1_3 c1_4 c1_5 c1_6 c2_0 c2_1 c2_2 c2_3 c2_4 c2_5 c2_6 c3_0 c3_1 c3_2 c3_3 c3_4 c3_5 c3_6
    obtain ⟨c0_0, c0_1, c0_2, c0_3, c0_4, c0_5, c0_6, _⟩ := rk_seven (S_w8.out.hl.2 _ (List.mem_cons_self ..))
    obtain ⟨c1_0, c1_1, c1_2, c1_3, c1_4, c1_5, c1_6, _⟩ := rk_seven (S_w8.out.hl.2 _ (List.mem_cons_of_mem _ (List.mem_cons_self ..)))
    obtain ⟨c2_0, c2_1, c2_2, c2_3, c2_4, c2_5, c2_6, _⟩ := rk_seven (S_w8.out.hl.2 _ (List.mem_cons_of_mem _ (List.mem_cons_of_mem _ (List.mem_cons_self ..))))
    obtain ⟨c3_0, c3_1, c3_2, c3_3, c3_4, c3_5, c3_6, _⟩ := rk_seven (S_w8.out.hl.2 _ (List.mem_cons_of_mem _ (List.mem_cons_of_mem _ (List.mem_cons_of_mem _ (List.mem_cons_self ..)))))
    go_wp2_with fail
    go_at_call 9
    refine (S_w8.out.eqA (S_w8.out.rows _ (List.mem_cons_of_mem _ (List.mem_cons_self ..))).1.at (S_w8.out.rows _ (List.mem_cons_of_mem _ (List.mem_cons_of_mem _ (List.mem_cons_self ..)))).1.at FQ.out).mono ?_
    rintro e w9 ⟨rfl, lw9, bw9⟩
    have Z11 := (show Hid (w8.heap.size ≤ w9.heap.size) from bw9.size)
    have S_w9 := (show Hid (La w0 [(w5.heap.size, #[.bool qa.up, .slice ga gn gc, .slice gA gN gC, .int .i64 qa.head.no, .int .i64 qa.head.area, .int .i64 qa.head.en, .slice gp gq gr], 38), (w4.heap.size, #[.bool a.up, .slice xa xn xc, .slice xA xN xC, .int .i64 a.head.no, .int .i64 a.head.area, .int .i64 a.head.en, .slice xp xq xr], 38), (w3.heap.size, #[.bool qa.up, .slice ba bn bc, .slice bA bN bC, .int .i64 qa.head.no, .int .i64 qa.head.area, .int .i64 qa.head.en, .slice bp bq br], 38), (w0.heap.size, #[.bool a.up, .slice sa sn sc, .slice sA sN sC, .int .i64 a.head.no, .int .i64 a.head.area, .int .i64 a.head.en, .slice sp sq sr], 30)] [(w3a.heap.size, w4.heap.size, .agg #[.bool a.up, .slice xa xn xc, .slice xA xN xC, .int .i64 a.head.no, .int .i64 a.head.area, .int .i64 a.head.en, .slice xp xq xr], (markA a)), (w4a.heap.size, w5.heap.size, .agg #[.bool qa.up, .slice ga gn gc, .slice gA gN gC, .int .i64 qa.head.no, .int .i64 qa.head.area, .int .i64 qa.head.en, .slice gp gq gr], qa), (w2.heap.size, w3.heap.size, .agg #[.bool qa.up, .slice ba bn bc, .slice bA bN bC, .int .i64 qa.head.no, .int .i64 qa.head.area, .int .i64 qa.head.en, .slice bp bq br], qa), (w1.heap.size, w2.heap.size, .agg #[.bool a.up, .slice fa fn fc, .slice fA fN fC, .int .i64 a.head.no, .int .i64 a.head.area, .int .i64 a.head.en, .slice fp fq fr], a)] [] [] w9) from lw9)
    clear S_w8 bw9
    clear c0_0 c0_1 c0_2 c0_3 c0_4 c0_5 c0_6 c1_0 c1_1 c1_2 c1_3 c1_4 c1_5 c1_6 c2_0 c2_1 c2_2 c2_3 c2_4 c2_5 c2_6 c3_0 c3_1 c3_2 c3_3 c3_4 c3_5 c3_6
    clear lw9
    have T_w9 := (show Hid (La w0 [(w5.heap.size, #[.bool qa.up, .slice ga gn gc, .slice gA gN gC, .int .i64 qa.head.no, .int .i64 qa.head.area, .int .i64 qa.head.en, .slice gp gq gr], 38), (w4.heap.size, #[.bool a.up, .slice xa xn xc, .slice xA xN xC, .int .i64 a.head.no, .int .i64 a.head.area, .int .i64 a.head.en, .slice xp xq xr], 38), (w3.heap.size, #[.bool qa.up, .slice ba bn bc, .slice bA bN bC, .int .i64 qa.head.no, .int .i64 qa.head.area, .int .i64 qa.head.en, .slice bp bq br], 38), (w0.heap.size, #[.bool a.up, .slice sa sn sc, .slice sA sN sC, .int .i64 a.head.no, .int .i64 a.head.area, .int .i64 a.head.en, .slice sp sq sr], 30)] [(w4a.heap.size, w5.heap.size, .agg #[.bool qa.up, .slice ga gn gc, .slice gA gN gC, .int .i64 qa.head.no, .int .i64 qa.head.area, .int .i64 qa.head.en, .slice gp gq gr], qa), (w3a.heap.size, w4.heap.size, .agg #[.bool a.up, .slice xa xn xc, .slice xA xN xC, .int .i64 a.head.no, .int .i64 a.head.area, .int .i64 a.head.en, .slice xp xq xr], (markA a)), (w2.heap.size, w3.heap.size, .agg #[.bool qa.up, .slice ba bn bc, .slice bA bN bC, .int .i64 qa.head.no, .int .i64 qa.head.area, .int .i64 qa.head.en, .slice bp bq br], qa), (w1.heap.size, w2.heap.size, .agg #[.bool a.up, .slice fa fn fc, .slice fA fN fC, .int .i64 a.head.no, .int .i64 a.head.area, .int .i64 a.head.en, .slice fp fq fr], a)] [] [] w9) from S_w9.out.sub (by simp) (by simp) (by simp) (by simp))
    clear S_w9
    have S_w9 := T_w9
    clear T_w9
    have hlo : w0.heap.size ≤ w4a.heap.size := by have := Z0.out; have := Z1.out; have := Z2.out; have := Z3.out; have := Z4.out; have := Z5.out; have := Z6.out; have := Z7.out; have := Z8.out; have := Z9.out; have := Z10.out; have := Z11.out; omega
    have hR : ∀ r ∈ ([(w3a.heap.size, w4.heap.size, .agg #[.bool a.up, .slice xa xn xc, .slice xA xN xC, .int .i64 a.head.no, .int .i64 a.head.area, .int .i64 a.head.en, .slice xp xq xr], (markA a)), (w2.heap.size, w3.heap.size, .agg #[.bool qa.up, .slice ba bn bc, .slice bA bN bC, .int .i64 qa.head.no, .int .i64 qa.head.area, .int .i64 qa.head.en, .slice bp bq br], qa), (w1.heap.size, w2.heap.size, .agg #[.bool a.up, .slice fa fn fc, .slice fA fN fC, .int .i64 a.head.no, .int .i64 a.head.area, .int .i64 a.head.en, .slice fp fq fr], a)] : List (Nat × Nat × Value × PArch)), r.2.1 ≤ w4a.heap.size ∨ w5.heap.size ≤ r.1 := by
      intro r hr
      simp only [List.mem_cons, List.not_mem_nil, or_false] at hr
      rcases hr with rfl | rfl | rfl
      · show w4.heap.size ≤ w4a.heap.size ∨ w5.heap.size ≤ w3a.heap.size
        have := Z0.out; have := Z1.out; have := Z2.out; have := Z3.out; have := Z4.out; have := Z5.out; have := Z6.out; have := Z7.out; have := Z8.out; have := Z9.out; have := Z10.out; have := Z11.out; omega
      · show w3.heap.size ≤ w4a.heap.size ∨ w5.heap.size ≤ w2.heap.size
        have := Z0.out; have := Z1.out; have := Z2.out; have := Z3.out; have := Z4.out; have := Z5.out; have := Z6.out; have := Z7.out; have := Z8.out; have := Z9.out; have := Z10.out; have := Z11.out; omega
      · show w2.heap.size ≤ w4a.heap.size ∨ w5.heap.size ≤ w1.heap.size
        have := Z0.out; have := Z1.out; have := Z2.out; have := Z3.out; have := Z4.out; have := Z5.out; have := Z6.out; have := Z7.out; have := Z8.out; have := Z9.out; have := Z10.out; have := Z11.out; omega
    have hS : ∀ r ∈ ([] : List (Nat × Nat × Value × List ByteArray)), r.2.1 ≤ w4a.heap.size ∨ w5.heap.size ≤ r.1 := by
      intro r hr
      cases hr
    have CM := (show Hid _ from S_w9.out.mkA FQ.out hlo hR hS (by simp))
    clear hlo hR hS
    obtain ⟨c0_0, c0_1, c0_2, c0_3, c0_4, c0_5, c0_6, _⟩ := rk_seven (S_w9.out.hl.2 _ (List.mem_cons_self ..))
    obtain ⟨c1_0, c1_1, c1_2, c1_3, c1_4, c1_5, c1_6, _⟩ := rk_seven (S_w9.out.hl.2 _ (List.mem_cons_of_mem _ (List.mem_cons_self ..)))
    obtain ⟨c2_0, c2_1, c2_2, c2_3, c2_4, c2_5, c2_6, _⟩ := rk_seven (S_w9.out.hl.2 _ (List.mem_cons_of_mem _ (List.mem_cons_of_mem _ (List.mem_cons_self ..))))
    obtain ⟨c3_0, c3_1, c3_2, c3_3, c3_4, c3_5, c3_6, _⟩ := rk_seven (S_w9.out.hl.2 _ (List.mem_cons_of_mem _ (List.mem_cons_of_mem _ (List.mem_cons_of_mem _ (List.mem_cons_self ..)))))
    go_wp2_with fail
    go_at_call 10
    refine Calls.mono CM.out ?_
    rintro e w10 ⟨rfl, lw10, zw10⟩
    clear CM
    have Z12 := (show Hid (w9.heap.size ≤ w10.heap.size) from zw10)
    have S_w10 := (show Hid (La w0 [(w5.heap.size, #[.bool qa.up, .slice ga gn gc, .slice gA gN gC, .int .i64 qa.head.no, .int .i64 qa.head.area, .int .i64 qa.head.en, .slice gp gq gr], 38), (w4.heap.size, #[.bool a.up, .slice xa xn xc, .slice xA xN xC, .int .i64 a.head.no, .int .i64 a.head.area, .int .i64 a.head.en, .slice xp xq xr], 38), (w3.heap.size, #[.bool qa.up, .slice ba bn bc, .slice bA bN bC, .int .i64 qa.head.no, .int .i64 qa.head.area, .int .i64 qa.head.en, .slice bp bq br], 38), (w0.heap.size, #[.bool a.up, .slice sa sn sc, .slice sA sN sC, .int .i64 a.head.no, .int .i64 a.head.area, .int .i64 a.head.en, .slice sp sq sr], 30)] [(w4a.heap.size, w5.heap.size, .agg #[.bool qa.up, .slice ga gn gc, .slice gA gN gC, .int .i64 qa.head.no, .int .i64 qa.head.area, .int .i64 qa.head.en, .slice gp gq gr], (markA qa)), (w3a.heap.size, w4.heap.size, .agg #[.bool a.up, .slice xa xn xc, .slice xA xN xC, .int .i64 a.head.no, .int .i64 a.head.area, .int .i64 a.head.en, .slice xp xq xr], (markA a)), (w2.heap.size, w3.heap.size, .agg #[.bool qa.up, .slice ba bn bc, .slice bA bN bC, .int .i64 qa.head.no, .int .i64 qa.head.area, .int .i64 qa.head.en, .slice bp bq br], qa), (w1.heap.size, w2.heap.size, .agg #[.bool a.up, .slice fa fn fc, .slice fA fN fC, .int .i64 a.head.no, .int .i64 a.head.area, .int .i64 a.head.en, .slice fp fq fr], a)] [] [] w10) from lw10)
    clear S_w9 lw10 zw10
    clear c0_0 c0_1 c0_2 c0_3 c0_4 c0_5 c0_6 c1_0 c1_1 c1_2 c1_3 c1_4 c1_5 c1_6 c2_0 c2_1 c2_2 c2_3 c2_4 c2_5 c2_6 c3_0 c3_1 c3_2 c3_3 c3_4 c3_5 c3_6
    obtain ⟨c0_0, c0_1, c0_2, c0_3, c0_4, c0_5, c0_6, _⟩ := rk_seven (S_w10.out.hl.2 _ (List.mem_cons_self ..))
    obtain ⟨c1_0, c1_1, c1_2, c1_3, c1_4, c1_5, c1_6, _⟩ := rk_seven (S_w10.out.hl.2 _ (List.mem_cons_of_mem _ (List.mem_cons_self ..)))
    obtain ⟨c2_0, c2_1, c2_2, c2_3, c2_4, c2_5, c2_6, _⟩ := rk_seven (S_w10.out.hl.2 _ (List.mem_cons_of_mem _ (List.mem_cons_of_mem _ (List.mem_cons_self ..))))
    obtain ⟨c3_0, c3_1, c3_2, c3_3, c3_4, c3_5, c3_6, _⟩ := rk_seven (S_w10.out.hl.2 _ (List.mem_cons_of_mem _ (List.mem_cons_of_mem _ (List.mem_cons_of_mem _ (List.mem_cons_self ..)))))
    go_wp2_with fail
    go_at_call 11
    refine (S_w10.out.heldA (a := qa) (S_w10.out.rows _ (List.mem_cons_self ..)).1.at FQ.out).mono ?_
    rintro e w11 ⟨rfl, lw11, bw11⟩
    have Z13 := (show Hid (w10.heap.size ≤ w11.heap.size) from bw11.size)
    have S_w11 := (show Hid (La w0 [(w5.heap.size, #[.bool qa.up, .slice ga gn gc, .slice gA gN gC, .int .i64 qa.head.no, .int .i64 qa.head.area, .int .i64 qa.head.en, .slice gp gq gr], 38), (w4.heap.size, #[.bool a.up, .slice xa xn xc, .slice xA xN xC, .int .i64 a.head.no, .int .i64 a.head.area, .int .i64 a.head.en, .slice xp xq xr], 38), (w3.heap.size, #[.bool qa.up, .slice ba bn bc, .slice bA bN bC, .int .i64 qa.head.no, .int .i64 qa.head.area, .int .i64 qa.head.en, .slice bp bq br], 38), (w0.heap.size, #[.bool a.up, .slice sa sn sc, .slice sA sN sC, .int .i64 a.head.no, .int .i64 a.head.area, .int .i64 a.head.en, .slice sp sq sr], 30)] [(w4a.heap.size, w5.heap.size, .agg #[.bool qa.up, .slice ga gn gc, .slice gA gN gC, .int .i64 qa.head.no, .int .i64 qa.head.area, .int .i64 qa.head.en, .slice gp gq gr], (markA qa)), (w3a.heap.size, w4.heap.size, .agg #[.bool a.up, .slice xa xn xc, .slice xA xN xC, .int .i64 a.head.no, .int .i64 a.head.area, .int .i64 a.head.en, .slice xp xq xr], (markA a)), (w2.heap.size, w3.heap.size, .agg #[.bool qa.up, .slice ba bn bc, .slice bA bN bC, .int .i64 qa.head.no, .int .i64 qa.head.area, .int .i64 qa.head.en, .slice bp bq br], qa), (w1.heap.size, w2.heap.size, .agg #[.bool a.up, .slice fa fn fc, .slice fA fN fC, .int .i64 a.head.no, .int .i64 a.head.area, .int .i64 a.head.en, .slice fp fq fr], a)] [] [] w11) from lw11)
    clear S_w10 bw11
    clear c0_0 c0_1 c0_2 c0_3 c0_4 c0_5 c0_6 c1_0 c1_1 c1_2 c1_3 c1_4 c1_5 c1_6 c2_0 c2_1 c2_2 c2_3 c2_4 c2_5 c2_6 c3_0 c3_1 c3_2 c3_3 c3_4 c3_5 c3_6
    clear lw11
    obtain ⟨c0_0, c0_1, c0_2, c0_3, c0_4, c0_5, c0_6, _⟩ := rk_seven (S_w11.out.hl.2 _ (List.mem_cons_self ..))
    obtain ⟨c1_0, c1_1, c1_2, c1_3, c1_4, c1_5, c1_6, _⟩ := rk_seven (S_w11.out.hl.2 _ (List.mem_cons_of_mem _ (List.mem_cons_self ..)))
    obtain ⟨c2_0, c2_1, c2_2, c2_3, c2_4, c2_5, c2_6, _⟩ := rk_seven (S_w11.out.hl.2 _ (List.mem_cons_of_mem _ (List.mem_cons_of_mem _ (List.mem_cons_self ..))))
    obtain ⟨c3_0, c3_1, c3_2, c3_3, c3_4, c3_5, c3_6, _⟩ := rk_seven (S_w11.out.hl.2 _ (List.mem_cons_of_mem _ (List.mem_cons_of_mem _ (List.mem_cons_of_mem _ (List.mem_cons_self ..)))))
    go_wp2_with fail
    go_at_call 7
    refine (S_w11.out.toA HD.out HF.out).mono ?_
    rintro e w12 ⟨ua, un, uc, uA, uN, uC, up, uq, ur, rfl, lw12, ow12, bw12⟩
    have Z14 := (show Hid (w11.heap.size ≤ w12.heap.size) from bw12.size)
    have S_w12 := (show Hid (La w0 [(w5.heap.size, #[.bool qa.up, .slice ga gn gc, .slice gA gN gC, .int .i64 qa.head.no, .int .i64 qa.head.area, .int .i64 qa.head.en, .slice gp gq gr], 38), (w4.heap.size, #[.bool a.up, .slice xa xn xc, .slice xA xN xC, .int .i64 a.head.no, .int .i64 a.head.area, .int .i64 a.head.en, .slice xp xq xr], 38), (w3.heap.size, #[.bool qa.up, .slice ba bn bc, .slice bA bN bC, .int .i64 qa.head.no, .int .i64 qa.head.area, .int .i64 qa.head.en, .slice bp bq br], 38), (w0.heap.size, #[.bool a.up, .slice sa sn sc, .slice sA sN sC, .int .i64 a.head.no, .int .i64 a.head.area, .int .i64 a.head.en, .slice sp sq sr], 30)] [(w11.heap.size, w12.heap.size, .agg #[.bool a.up, .slice ua un uc, .slice uA uN uC, .int .i64 a.head.no, .int .i64 a.head.area, .int .i64 a.head.en, .slice up uq ur], a), (w4a.heap.size, w5.heap.size, .agg #[.bool qa.up, .slice ga gn gc, .slice gA gN gC, .int .i64 qa.head.no, .int .i64 qa.head.area, .int .i64 qa.head.en, .slice gp gq gr], (markA qa)), (w3a.heap.size, w4.heap.size, .agg #[.bool a.up, .slice xa xn xc, .slice xA xN xC, .int .i64 a.head.no, .int .i64 a.head.area, .int .i64 a.head.en, .slice xp xq xr], (markA a)), (w2.heap.size, w3.heap.size, .agg #[.bool qa.up, .slice ba bn bc, .slice bA bN bC, .int .i64 qa.head.no, .int .i64 qa.head.area, .int .i64 qa.head.en, .slice bp bq br], qa), (w1.heap.size, w2.heap.size, .agg #[.bool a.up, .slice fa fn fc, .slice fA fN fC, .int .i64 a.head.no, .int .i64 a.head.area, .int .i64 a.head.en, .slice fp fq fr], a)] [] [] w12) from lw12.add ow12)
    clear S_w11 bw12
    clear c0_0 c0_1 c0_2 c0_3 c0_4 c0_5 c0_6 c1_0 c1_1 c1_2 c1_3 c1_4 c1_5 c1_6 c2_0 c2_1 c2_2 c2_3 c2_4 c2_5 c2_6 c3_0 c3_1 c3_2 c3_3 c3_4 c3_5 c3_6
    clear lw12 ow12
    obtain ⟨c0_0, c0_1, c0_2, c0_3, c0_4, c0_5, c0_6, _⟩ := rk_seven (S_w12.out.hl.2 _ (List.mem_cons_self ..))
    obtain ⟨c1_0, c1_1, c1_2, c1_3, c1_4, c1_5, c1_6, _⟩ := rk_seven (S_w12.out.hl.2 _ (List.mem_cons_of_mem _ (List.mem_cons_self ..)))
    obtain ⟨c2_0, c2_1, c2_2, c2_3, c2_4, c2_5, c2_6, _⟩ := rk_seven (S_w12.out.hl.2 _ (List.mem_cons_of_mem _ (List.mem_cons_of_mem _ (List.mem_cons_self ..))))
    obtain ⟨c3_0, c3_1, c3_2, c3_3, c3_4, c3_5, c3_6, _⟩ := rk_seven (S_w12.out.hl.2 _ (List.mem_cons_of_mem _ (List.mem_cons_of_mem _ (List.mem_cons_of_mem _ (List.mem_cons_self ..)))))
    go_wp2_with fail
    go_at_call 8
    refine (CI.out _ _ _ _ _ _ w12.heap.size S_w12.out (Nat.le_refl _) (S_w12.out.rows _ (List.mem_cons_self ..)).1.at).mono ?_
    rintro e w13 ⟨ka, kn, kc, kA, kN, kC, kp, kq, kr, rfl, ow13, lw13, bw13⟩
    have Z15 := (show Hid (w12.heap.size ≤ w13.heap.size) from bw13.size)
    have S_w13 := (show Hid (La w0 [(w5.heap.size, #[.bool qa.up, .slice ga gn gc, .slice gA gN gC, .int .i64 qa.head.no, .int .i64 qa.head.area, .int .i64 qa.head.en, .slice gp gq gr], 38), (w4.heap.size, #[.bool a.up, .slice xa xn xc, .slice xA xN xC, .int .i64 a.head.no, .int .i64 a.head.area, .int .i64 a.head.en, .slice xp xq xr], 38), (w3.heap.size, #[.bool qa.up, .slice ba bn bc, .slice bA bN bC, .int .i64 qa.head.no, .int .i64 qa.head.area, .int .i64 qa.head.en, .slice bp bq br], 38), (w0.heap.size, #[.bool a.up, .slice sa sn sc, .slice sA sN sC, .int .i64 a.head.no, .int .i64 a.head.area, .int .i64 a.head.en, .slice sp sq sr], 30)] [(w12.heap.size, w13.heap.size, .agg #[.bool qa.up, .slice ka kn kc, .slice kA kN kC, .int .i64 qa.head.no, .int .i64 qa.head.area, .int .i64 qa.head.en, .slice kp kq kr], qa), (w11.heap.size, w12.heap.size, .agg #[.bool a.up, .slice ua un uc, .slice uA uN uC, .int .i64 a.head.no, .int .i64 a.head.area, .int .i64 a.head.en, .slice up uq ur], a), (w4a.heap.size, w5.heap.size, .agg #[.bool qa.up, .slice ga gn gc, .slice gA gN gC, .int .i64 qa.head.no, .int .i64 qa.head.area, .int .i64 qa.head.en, .slice gp gq gr], (markA qa)), (w3a.heap.size, w4.heap.size, .agg #[.bool a.up, .slice xa xn xc, .slice xA xN xC, .int .i64 a.head.no, .int .i64 a.head.area, .int .i64 a.head.en, .slice xp xq xr], (markA a)), (w2.heap.size, w3.heap.size, .agg #[.bool qa.up, .slice ba bn bc, .slice bA bN bC, .int .i64 qa.head.no, .int .i64 qa.head.area, .int .i64 qa.head.en, .slice bp bq br], qa), (w1.heap.size, w2.heap.size, .agg #[.bool a.up, .slice fa fn fc, .slice fA fN fC, .int .i64 a.head.no, .int .i64 a.head.area, .int .i64 a.head.en, .slice fp fq fr], a)] [] [] w13) from lw13.add ow13)
    clear S_w12 bw13
    clear c0_0 c0_1 c0_2 c0_3 c0_4 c0_5 c0_6 c1_0 c1_1 c1_2 c1_3 c1_4 c1_5 c1_6 c2_0 c2_1 c2_2 c2_3 c2_4 c2_5 c2_6 c3_0 c3_1 c3_2 c3_3 c3_4 c3_5 c3_6
    clear lw13 ow13
    obtain ⟨w13a, hw13a⟩ : ∃ x, x = w13.alloc (.cells #[.bool qa.up, .slice ka kn kc, .slice kA kN kC, .int .i64 qa.head.no, .int .i64 qa.head.area, .int .i64 qa.head.en, .slice kp kq kr] 38) := ⟨_, rfl⟩
    have Z16 := (show Hid (w13.heap.size < w13a.heap.size) from (show w13.heap.size < w13a.heap.size by rw [hw13a, World.size_alloc]; omega))
    obtain ⟨o0_0, o0_1, o0_2, o0_3, o0_4, o0_5, o0_6, _⟩ := rk_seven (S_w13.out.hl.2 _ (List.mem_cons_self ..))
    have o0_l := lt_of_block (S_w13.out.hl.2 _ (List.mem_cons_self ..))
    obtain ⟨o1_0, o1_1, o1_2, o1_3, o1_4, o1_5, o1_6, _⟩ := rk_seven (S_w13.out.hl.2 _ (List.mem_cons_of_mem _ (List.mem_cons_self ..)))
    have o1_l := lt_of_block (S_w13.out.hl.2 _ (List.mem_cons_of_mem _ (List.mem_cons_self ..)))
    obtain ⟨o2_0, o2_1, o2_2, o2_3, o2_4, o2_5, o2_6, _⟩ := rk_seven (S_w13.out.hl.2 _ (List.mem_cons_of_mem _ (List.mem_cons_of_mem _ (List.mem_cons_self ..))))
    have o2_l := lt_of_block (S_w13.out.hl.2 _ (List.mem_cons_of_mem _ (List.mem_cons_of_mem _ (List.mem_cons_self ..))))
    obtain ⟨o3_0, o3_1, o3_2, o3_3, o3_4, o3_5, o3_6, _⟩ := rk_seven (S_w13.out.hl.2 _ (List.mem_cons_of_mem _ (List.mem_cons_of_mem _ (List.mem_cons_of_mem _ (List.mem_cons_self ..)))))
    have o3_l := lt_of_block (S_w13.out.hl.2 _ (List.mem_cons_of_mem _ (List.mem_cons_of_mem _ (List.mem_cons_of_mem _ (List.mem_cons_self ..)))))
    have S_w13a := (show Hid (La w0 [(w13.heap.size, #[.bool qa.up, .slice ka kn kc, .slice kA kN kC, .int .i64 qa.head.no, .int .i64 qa.head.area, .int .i64 qa.head.en, .slice kp kq kr], 38), (w5.heap.size, #[.bool qa.up, .slice ga gn gc, .slice gA gN gC, .int .i64 qa.head.no, .int .i64 qa.head.area, .int .i64 qa.head.en, .slice gp gq gr], 38), (w4.heap.size, #[.bool a.up, .slice xa xn xc, .slice xA xN xC, .int .i64 a.head.no, .int .i64 a.head.area, .int .i64 a.head.en, .slice xp xq xr], 38), (w3.heap.size, #[.bool qa.up, .slice ba bn bc, .slice bA bN bC, .int .i64 qa.head.no, .int .i64 qa.head.area, .int .i64 qa.head.en, .slice bp bq br], 38), (w0.heap.size, #[.bool a.up, .slice sa sn sc, .slice sA sN sC, .int .i64 a.head.no, .int .i64 a.head.area, .int .i64 a.head.en, .slice sp sq sr], 30)] [(w12.heap.size, w13.heap.size, .agg #[.bool qa.up, .slice ka kn kc, .slice kA kN kC, .int .i64 qa.head.no, .int .i64 qa.head.area, .int .i64 qa.head.en, .slice kp kq kr], qa), (w11.heap.size, w12.heap.size, .agg #[.bool a.up, .slice ua un uc, .slice uA uN uC, .int .i64 a.head.no, .int .i64 a.head.area, .int .i64 a.head.en, .slice up uq ur], a), (w4a.heap.size, w5.heap.size, .agg #[.bool qa.up, .slice ga gn gc, .slice gA gN gC, .int .i64 qa.head.no, .int .i64 qa.head.area, .int .i64 qa.head.en, .slice gp gq gr], (markA qa)), (w3a.heap.size, w4.heap.size, .agg #[.bool a.up, .slice xa xn xc, .slice xA xN xC, .int .i64 a.head.no, .int .i64 a.head.area, .int .i64 a.head.en, .slice xp xq xr], (markA a)), (w2.heap.size, w3.heap.size, .agg #[.bool qa.up, .slice ba bn bc, .slice bA bN bC, .int .i64 qa.head.no, .int .i64 qa.head.area, .int .i64 qa.head.en, .slice bp bq br], qa), (w1.heap.size, w2.heap.size, .agg #[.bool a.up, .slice fa fn fc, .slice fA fN fC, .int .i64 a.head.no, .int .i64 a.head.area, .int .i64 a.head.en, .slice fp fq fr], a)] [] [] w13a) from by rw [hw13a]; exact S_w13.out.new #[.bool qa.up, .slice ka kn kc, .slice kA kN kC, .int .i64 qa.head.no, .int .i64 qa.head.area, .int .i64 qa.head.en, .slice kp kq kr] 38)
    clear S_w13
    go_wp2_with fail
    go_at_call 9
    rw [← hw13a]
    clear hw13a
    refine (S_w13a.out.eqA (S_w13a.out.rows _ (List.mem_cons_self ..)).1.at (S_w13a.out.rows _ (List.mem_cons_of_mem _ (List.mem_cons_of_mem _ (List.mem_cons_of_mem _ (List.mem_cons_of_mem _ (List.mem_cons_self ..)))))).1.at FQ.out).mono ?_
    rintro e w14 ⟨rfl, lw14, bw14⟩
    have Z17 := (show Hid (w13a.heap.size ≤ w14.heap.size) from bw14.size)
    have S_w14 := (show Hid (La w0 [(w13.heap.size, #[.bool qa.up, .slice ka kn kc, .slice kA kN kC, .int .i64 qa.head.no, .int .i64 qa.head.area, .int .i64 qa.head.en, .slice kp kq kr], 38), (w5.heap.size, #[.bool qa.up, .slice ga gn gc, .slice gA gN gC, .int .i64 qa.head.no, .int .i64 qa.head.area, .int .i64 qa.head.en, .slice gp gq gr], 38), (w4.heap.size, #[.bool a.up, .slice xa xn xc, .slice xA xN xC, .int .i64 a.head.no, .int .i64 a.head.area, .int .i64 a.head.en, .slice xp xq xr], 38), (w3.heap.size, #[.bool qa.up, .slice ba bn bc, .slice bA bN bC, .int .i64 qa.head.no, .int .i64 qa.head.area, .int .i64 qa.head.en, .slice bp bq br], 38), (w0.heap.size, #[.bool a.up, .slice sa sn sc, .slice sA sN sC, .int .i64 a.head.no, .int .i64 a.head.area, .int .i64 a.head.en, .slice sp sq sr], 30)] [(w12.heap.size, w13.heap.size, .agg #[.bool qa.up, .slice ka kn kc, .slice kA kN kC, .int .i64 qa.head.no, .int .i64 qa.head.area, .int .i64 qa.head.en, .slice kp kq kr], qa), (w11.heap.size, w12.heap.size, .agg #[.bool a.up, .slice ua un uc, .slice uA uN uC, .int .i64 a.head.no, .int .i64 a.head.area, .int .i64 a.head.en, .slice up uq ur], a), (w4a.heap.size, w5.heap.size, .agg #[.bool qa.up, .slice ga gn gc, .slice gA gN gC, .int .i64 qa.head.no, .int .i64 qa.head.area, .int .i64 qa.head.en, .slice gp gq gr], (markA qa)), (w3a.heap.size, w4.heap.size, .agg #[.bool a.up, .slice xa xn xc, .slice xA xN xC, .int .i64 a.head.no, .int .i64 a.head.area, .int .i64 a.head.en, .slice xp xq xr], (markA a)), (w2.heap.size, w3.heap.size, .agg #[.bool qa.up, .slice ba bn bc, .slice bA bN bC, .int .i64 qa.head.no, .int .i64 qa.head.area, .int .i64 qa.head.en, .slice bp bq br], qa), (w1.heap.size, w2.heap.size, .agg #[.bool a.up, .slice fa fn fc, .slice fA fN fC, .int .i64 a.head.no, .int .i64 a.head.area, .int .i64 a.head.en, .slice fp fq fr], a)] [] [] w14) from lw14)
    clear S_w13a bw14
    clear o0_0 o0_1 o0_2 o0_3 o0_4 o0_5 o0_6 o0_l o1_0 o1_1 o1_2 o1_3 o1_4 o1_5 o1_6 o1_l o2_0 o2_1 o2_2 o2_3 o2_4 o2_5 o2_6 o2_l o3_0 o3_1 o3_2 o3_3 o3_4 o3_5 o3_6 o3_l
    clear lw14
    obtain ⟨c0_0, c0_1, c0_2, c0_3, c0_4, c0_5, c0_6, _⟩ := rk_seven (S_w14.out.hl.2 _ (List.mem_cons_self ..))
    obtain ⟨c1_0, c1_1, c1_2, c1_3, c1_4, c1_5, c1_6, _⟩ := rk_seven (S_w14.out.hl.2 _ (List.mem_cons_of_mem _ (List.mem_cons_self ..)))
    obtain ⟨c2_0, c2_1, c2_2, c2_3, c2_4, c2_5, c2_6, _⟩ := rk_seven (S_w14.out.hl.2 _ (List.mem_cons_of_mem _ (List.mem_cons_of_mem _ (List.mem_cons_self ..))))
    obtain ⟨c3_0, c3_1, c3_2, c3_3, c3_4, c3_5, c3_6, _⟩ := rk_seven (S_w14.out.hl.2 _ (List.mem_cons_of_mem _ (List.mem_cons_of_mem _ (List.mem_cons_of_mem _ (List.mem_cons_self ..)))))
    obtain ⟨c4_0, c4_1, c4_2, c4_3, c4_4, c4_5, c4_6, _⟩ := rk_seven (S_w14.out.hl.2 _ (List.mem_cons_of_mem _ (List.mem_cons_of_mem _ (List.mem_cons_of_mem _ (List.mem_cons_of_mem _ (List.mem_cons_self ..))))))
    go_wp2_with fail
    go_at_call 11
    refine (S_w14.out.heldA (a := qa) (S_w14.out.rows _ (List.mem_cons_of_mem _ (List.mem_cons_of_mem _ (List.mem_cons_self ..)))).1.at FQ.out).mono ?_
    rintro e w15 ⟨rfl, lw15, bw15⟩
    have Z18 := (show Hid (w14.heap.size ≤ w15.heap.size) from bw15.size)
    have S_w15 := (show Hid (La w0 [(w13.heap.size, #[.bool qa.up, .slice ka kn kc, .slice kA kN kC, .int .i64 qa.head.no, .int .i64 qa.head.area, .int .i64 qa.head.en, .slice kp kq kr], 38), (w5.heap.size, #[.bool qa.up, .slice ga gn gc, .slice gA gN gC, .int .i64 qa.head.no, .int .i64 qa.head.area, .int .i64 qa.head.en, .slice gp gq gr], 38), (w4.heap.size, #[.bool a.up, .slice xa xn xc, .slice xA xN xC, .int .i64 a.head.no, .int .i64 a.head.area, .int .i64 a.head.en, .slice xp xq xr], 38), (w3.heap.size, #[.bool qa.up, .slice ba bn bc, .slice bA bN bC, .int .i64 qa.head.no, .int .i64 qa.head.area, .int .i64 qa.head.en, .slice bp bq br], 38), (w0.heap.size, #[.bool a.up, .slice sa sn sc, .slice sA sN sC, .int .i64 a.head.no, .int .i64 a.head.area, .int .i64 a.head.en, .slice sp sq sr], 30)] [(w12.heap.size, w13.heap.size, .agg #[.bool qa.up, .slice ka kn kc, .slice kA kN kC, .int .i64 qa.head.no, .int .i64 qa.head.area, .int .i64 qa.head.en, .slice kp kq kr], qa), (w11.heap.size, w12.heap.size, .agg #[.bool a.up, .slice ua un uc, .slice uA uN uC, .int .i64 a.head.no, .int .i64 a.head.area, .int .i64 a.head.en, .slice up uq ur], a), (w4a.heap.size, w5.heap.size, .agg #[.bool qa.up, .slice ga gn gc, .slice gA gN gC, .int .i64 qa.head.no, .int .i64 qa.head.area, .int .i64 qa.head.en, .slice gp gq gr], (markA qa)), (w3a.heap.size, w4.heap.size, .agg #[.bool a.up, .slice xa xn xc, .slice xA xN xC, .int .i64 a.head.no, .int .i64 a.head.area, .int .i64 a.head.en, .slice xp xq xr], (markA a)), (w2.heap.size, w3.heap.size, .agg #[.bool qa.up, .slice ba bn bc, .slice bA bN bC, .int .i64 qa.head.no, .int .i64 qa.head.area, .int .i64 qa.head.en, .slice bp bq br], qa), (w1.heap.size, w2.heap.size, .agg #[.bool a.up, .slice fa fn fc, .slice fA fN fC, .int .i64 a.head.no, .int .i64 a.head.area, .int .i64 a.head.en, .slice fp fq fr], a)] [] [] w15) from lw15)
    clear S_w14 bw15
    clear c0_0 c0_1 c0_2 c0_3 c0_4 c0_5 c0_6 c1_0 c1_1 c1_2 c1_3 c1_4 c1_5 c1_6 c2_0 c2_1 c2_2 c2_3 c2_4 c2_5 c2_6 c3_0 c3_1 c3_2 c3_3 c3_4 c3_5 c3_6 c4_0 c4_1 c4_2 c4_3 c4_4 c4_5 c4_6
    clear lw15
    go_wp2
    go_ret
    exact ⟨rfl, S_w15.out.hl.1⟩
end Go.Proofs.YtjokajblihaphaaGreatDoor
