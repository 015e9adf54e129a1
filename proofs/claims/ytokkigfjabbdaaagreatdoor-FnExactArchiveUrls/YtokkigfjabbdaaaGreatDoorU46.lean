/- worked: a deed is done to a shelf (written by mk/iar7.py). No condition. -/
import Derived.Test.YtokkigfjabbdaaaGreatDoorU45
namespace Go.Proofs.YtokkigfjabbdaaaGreatDoor
open Go.RowKit Go.MuLone
set_option maxRecDepth 100000
set_option linter.unusedVariables false

theorem Shelf.turn {B : Nat} {W : World} {N : Nat} {a : PArch} {m : Int} (h : Shelf B W N a m) (m' : Int) : Shelf B (W.setCell ⟨N, 2, none⟩ (.int .i32 m')) N a m' ∧ W.cell? ⟨N, 2, none⟩ = some (.int .i32 m) ∧ W.frozen? ⟨N, 2, none⟩ = false := by
  obtain ⟨sa, sn, sc, la, ln, lc, q, r, ea, en', ec, st, hB, hN, hd, he⟩ := h
  have s := (Sf.refl hN).set 2 (.int .i32 m')
  exact ⟨⟨sa, sn, sc, la, ln, lc, q, r, ea, en', ec, st, hB, s.sh, s.disk hN hd, s.ents hN he⟩, (rk_ten hN).2.2.1, rk_thaw hN⟩
theorem Shelf.past {B : Nat} {W W' : World} {N k : Nat} {a : PArch} {m : Int} (h : Shelf B W N a m) (g : W.grownBy W' (some k)) (hk : k ≠ N) {cs : Array Value} {t : TypeId} {fr : Nat × Nat} (hb : W.heap[k]? = some (.cells cs t fr)) (ht : t ≠ 9 ∧ t ≠ 88 ∧ t ≠ 70) : Shelf B W' N a m := by
  obtain ⟨sa, sn, sc, la, ln, lc, q, r, ea, en', ec, st, hB, hN, hd, he⟩ := h
  exact ⟨sa, sn, sc, la, ln, lc, q, r, ea, en', ec, st, hB, (g.block _ (lt_of_block hN) (fun e => hk (Option.some.inj e).symm)).trans hN, hd.turned g (fun j e => by cases e; exact ⟨_, _, _, hb, ht.1, ht.2.1⟩), OwnEy.turned he g (fun j e => by cases e; exact ⟨_, _, _, hb, ht.2.2⟩)⟩
theorem Shelf.ne {B : Nat} {W : World} {N k : Nat} {a : PArch} {m : Int} (h : Shelf B W N a m) {cs : Array Value} {t : TypeId} (hb : W.heap[k]? = some (.cells cs t (0, 0))) (ht : t ≠ 114) : k ≠ N := fun e => by
  obtain ⟨sa, sn, sc, la, ln, lc, q, r, ea, en', ec, st, hB, hN, hd, he⟩ := h
  subst e
  rw [hN] at hb
  cases hb
  exact ht rfl
theorem Shelf.sent {B : Nat} {W W' : World} {N : Nat} {a : PArch} {m : Int} (h : Shelf B W N a m) (g : W.grownBy W' (some N)) (s : Sent W) : Sent W' := by
  obtain ⟨sa, sn, sc, la, ln, lc, q, r, ea, en', ec, st, hB, hN, hd, he⟩ := h
  obtain ⟨x, s⟩ := s
  have hlt := lt_of_cell s
  have hne : 0 ≠ N := fun e => by
    subst e
    rw [(rk_ten hN).1] at s
    cases s
  refine ⟨x, ?_⟩
  rw [← s]
  exact World.cell?_of_block (g.block _ hlt (fun e => hne (Option.some.inj e)))
/-- A shelf's block is one of the call's own: what turns it turns nothing that was there before. -/
theorem Hl.shelf {w W W' : World} {B N : Nat} {a : PArch} {m : Int} {L : List (Nat × Array Value × TypeId)} (h : Hl w L W) (s : Shelf B W N a m) (hB : w.heap.size ≤ B) (g : W.grownBy W' (some N)) (hL : ∀ p ∈ L, p.2.2 ≠ 114) : Hl w L W' :=
  h.past g (fun r e => by cases e; exact ⟨Nat.le_trans hB s.ge, fun p hp => s.ne (h.2 p hp) (hL p hp)⟩)
/-- A deed: done to a shelf of a it leaves one of q, and the code. -/
def Deed (a : PArch) (q : PArch × Int) (f : FuncId) : Prop := ∀ (B : Nat) (W : World) (N : Nat), Shelf B W N a 1 → Sent W → B ≤ W.heap.size → Calls Tryz.prog f #[.pointer (some ⟨N, 0, none⟩)] W fun e w' => e = .returned (.int .i64 q.2) ∧ Shelf B w' N q.1 1 ∧ W.grownBy w' (some N)
def workedA (a : PArch) (q : PArch × Int) : PArch × Int := if archB a = false then (zeroA, 1) else q

set_option maxHeartbeats 4000000 in
set_option maxRecDepth 100000 in
theorem iworked_any {w : World} {v : Value} {a : PArch} {f : FuncId} (q : PArch × Int) (h : ArAt w v a) (hf : ArFit a) (hs : Sent w) (hD : archB a = true → Deed a q f) (he : ∀ (args : Array Value) (w : World), (callFunc f args).run Tryz.prog w = .ok (.enter f args) w) :
    Calls Tryz.prog 46 #[v, .func (.func f) #[] #[]] w fun e w' => ∃ v', e = .returned (.tuple #[v', .int .i64 (workedA a q).2]) ∧ OwnAy w.heap.size w' v' (workedA a q).1 ∧ Below w.heap.size w w' := by
  have HA := (show Hid (ArAt w v a) from h)
  have HF := (show Hid (ArFit a) from hf)
  have HT := (show Hid (Sent w) from hs)
  have HDD := (show Hid (archB a = true → Deed a q f) from hD)
  obtain ⟨qb, hq⟩ : ∃ q, q = archB a := ⟨_, rfl⟩
  have HW : Hid (workedA a q = if qb = false then (zeroA, 1) else q) := (show _ = _ by rw [workedA, hq])
  obtain ⟨⟨ra, rc⟩, hra⟩ : ∃ x, x = workedA a q := ⟨_, rfl⟩
  rw [← hra] at HW
  rw [← hra]
  simp only
  rw [← hq] at HDD
  obtain ⟨sa, sn, sc, la, ln, lc, ea, en', ec, rfl, h1, h2⟩ := h
  have hl := ((Hl.refl w).new #[.bool a.up, .slice sa sn sc, .slice la ln lc, .int .i64 a.head.no, .int .i64 a.head.area, .int .i64 a.head.en, .slice ea en' ec] 39).new #[.bool false, .slice none 0 0, .slice none 0 0, .int .i64 0, .int .i64 0, .int .i64 0, .slice none 0 0] 39
  obtain ⟨w1, hw1⟩ : ∃ x, x = (w.alloc (.cells #[.bool a.up, .slice sa sn sc, .slice la ln lc, .int .i64 a.head.no, .int .i64 a.head.area, .int .i64 a.head.en, .slice ea en' ec] 39)).alloc (.cells #[.bool false, .slice none 0 0, .slice none 0 0, .int .i64 0, .int .i64 0, .int .i64 0, .slice none 0 0] 39) := ⟨_, rfl⟩
  rw [← hw1, World.size_alloc] at hl
  have HL := (show Hid (Hl w [(w.heap.size + 1, #[.bool false, .slice none 0 0, .slice none 0 0, .int .i64 0, .int .i64 0, .int .i64 0, .slice none 0 0], 39), (w.heap.size, #[.bool a.up, .slice sa sn sc, .slice la ln lc, .int .i64 a.head.no, .int .i64 a.head.area, .int .i64 a.head.en, .slice ea en' ec], 39)] w1) from hl)
  have CS := ishelfOf_any (HA.out.below hl.1) hf (hs.below hl.1)
  rw [← hq] at CS
  have CS := (show Hid _ from CS)
  clear hl h1 h2 hf hs hD hq hra
  go_enter_defers Tryz.func46, Tryz.ntmps46
  go_wp2_with fail
  go_at_call 35
  rw [← hw1]
  refine Calls.mono CS.out ?_
  rintro e w2 ⟨ho, b2⟩
  have S2 := (show Hid (Hl w [(w.heap.size + 1, #[.bool false, .slice none 0 0, .slice none 0 0, .int .i64 0, .int .i64 0, .int .i64 0, .slice none 0 0], 39), (w.heap.size, #[.bool a.up, .slice sa sn sc, .slice la ln lc, .int .i64 a.head.no, .int .i64 a.head.area, .int .i64 a.head.en, .slice ea en' ec], 39)] w2) from HL.out.below b2)
  have T2 := (show Hid (Sent w2) from HT.out.below S2.out.1)
  have Z1 := (show Hid (w.heap.size ≤ w1.heap.size) from HL.out.1.size)
  have Z2 := (show Hid (w1.heap.size ≤ w2.heap.size) from b2.size)
  clear hw1 CS b2 HL
  rcases ho with ⟨rfl, rfl⟩ | ⟨rfl, N, rfl, sh⟩
  · have e1 := HW.out
    rw [if_pos rfl] at e1
    cases e1
    clear HW HDD
    obtain ⟨d0, d1, d2, d3, d4, d5, d6, _⟩ := rk_seven S2.out.at0
    have j0 := rk_thaw (k := 0) S2.out.at0
    have j1 := rk_thaw (k := 1) S2.out.at0
    have j2 := rk_thaw (k := 2) S2.out.at0
    have j3 := rk_thaw (k := 3) S2.out.at0
    have j4 := rk_thaw (k := 4) S2.out.at0
    have j5 := rk_thaw (k := 5) S2.out.at0
    have j6 := rk_thaw (k := 6) S2.out.at0
    have S9 := (show Hid _ from S2.out.set7 (Nat.le_succ _) (by simp) (.bool false) (.slice none 0 0) (.slice none 0 0) (.int .i64 0) (.int .i64 0) (.int .i64 0) (.slice none 0 0))
    go_wp2
    exact ⟨_, arch_res rfl rfl rfl S9.out.at0, _, rfl, ⟨none, 0, 0, none, 0, 0, none, 0, 0, rfl, ⟨none, 0, 0, none, 0, 0, rfl, .inl ⟨rfl, rfl, none, rfl, fun _ => trivial⟩, .inl ⟨rfl, rfl, none, rfl, fun _ => trivial⟩⟩, .inl ⟨rfl, rfl, none, rfl, fun _ => trivial⟩⟩, S9.out.1⟩
  · have e1 := HW.out
    rw [if_neg (by decide)] at e1
    subst e1
    have SH := (show Hid (Shelf w1.heap.size w2 N a 0) from sh)
    have DD := (show Hid (Deed a (ra, rc) f) from HDD.out rfl)
    obtain ⟨tu, k2, k3⟩ := sh.turn 1
    have hge := sh.ge
    clear HW HDD sh
    go_wp2_with fail
    go_at_call 72
    refine (lock_free muLib ⟨N, 2, none⟩ _ k2 k3).mono ?_
    rintro e w3 ⟨rfl, hw3⟩
    have SH3 := (show Hid (Shelf w1.heap.size w3 N a 1) from by rw [hw3]; exact tu)
    have g3 : w2.grownBy w3 (some N) := by rw [hw3]; exact grown_setCell _ _ _ _
    have S3 := (show Hid (Hl w [(w.heap.size + 1, #[.bool false, .slice none 0 0, .slice none 0 0, .int .i64 0, .int .i64 0, .int .i64 0, .slice none 0 0], 39), (w.heap.size, #[.bool a.up, .slice sa sn sc, .slice la ln lc, .int .i64 a.head.no, .int .i64 a.head.area, .int .i64 a.head.en, .slice ea en' ec], 39)] w3) from S2.out.shelf SH.out Z1.out g3 (by simp))
    have T3 := (show Hid (Sent w3) from SH.out.sent g3 T2.out)
    have Z3 := (show Hid (w1.heap.size ≤ w3.heap.size) from Nat.le_trans Z2.out g3.size)
    clear hw3 g3 tu k2 k3 S2 SH T2
    go_wp2_with fail
    refine Calls.mono (DD.out _ _ _ SH3.out T3.out Z3.out) ?_
    rintro e w4 ⟨rfl, sh4, g4⟩
    have SH4 := (show Hid (Shelf w1.heap.size w4 N ra 1) from sh4)
    have S4 := (show Hid (Hl w [(w.heap.size + 1, #[.bool false, .slice none 0 0, .slice none 0 0, .int .i64 0, .int .i64 0, .int .i64 0, .slice none 0 0], 39), (w.heap.size, #[.bool a.up, .slice sa sn sc, .slice la ln lc, .int .i64 a.head.no, .int .i64 a.head.area, .int .i64 a.head.en, .slice ea en' ec], 39)] w4) from S3.out.shelf SH3.out Z1.out g4 (by simp))
    have Z4 := (show Hid (w1.heap.size ≤ w4.heap.size) from Nat.le_trans Z3.out g4.size)
    clear sh4 g4 S3 SH3 T3 Z3 DD
    go_wp2_with fail
    go_at_call 74
    refine (ishArchive_any SH4.out Z4.out).mono ?_
    rintro e w5 ⟨v5, rfl, o5, b5⟩
    have S5 := (show Hid (Hl w [(w.heap.size + 1, #[.bool false, .slice none 0 0, .slice none 0 0, .int .i64 0, .int .i64 0, .int .i64 0, .slice none 0 0], 39), (w.heap.size, #[.bool a.up, .slice sa sn sc, .slice la ln lc, .int .i64 a.head.no, .int .i64 a.head.area, .int .i64 a.head.en, .slice ea en' ec], 39)] w5) from S4.out.below b5)
    have SH5 := (show Hid (Shelf w1.heap.size w5 N ra 1) from SH4.out.below b5)
    have O5 := (show Hid (OwnAy w1.heap.size w5 v5 ra) from o5)
    clear b5 o5 S4 SH4 Z4
    obtain ⟨ya, yn, yc, za, zn, zc, fa, fn, fc, e5, _⟩ := O5.out
    subst e5
    obtain ⟨d0, d1, d2, d3, d4, d5, d6, _⟩ := rk_seven S5.out.at0
    have j0 := rk_thaw (k := 0) S5.out.at0
    have j1 := rk_thaw (k := 1) S5.out.at0
    have j2 := rk_thaw (k := 2) S5.out.at0
    have j3 := rk_thaw (k := 3) S5.out.at0
    have j4 := rk_thaw (k := 4) S5.out.at0
    have j5 := rk_thaw (k := 5) S5.out.at0
    have j6 := rk_thaw (k := 6) S5.out.at0
    have hne := SH5.out.ne S5.out.at0 (by decide)
    have S9 := (show Hid _ from S5.out.set7 (Nat.le_succ _) (by simp) (.bool ra.up) (.slice ya yn yc) (.slice za zn zc) (.int .i64 ra.head.no) (.int .i64 ra.head.area) (.int .i64 ra.head.en) (.slice fa fn fc))
    have g9 := (show Hid _ from grown_set7 w5 (w.heap.size + 1) (.bool ra.up) (.slice ya yn yc) (.slice za zn zc) (.int .i64 ra.head.no) (.int .i64 ra.head.area) (.int .i64 ra.head.en) (.slice fa fn fc))
    have O9 := (show Hid _ from O5.out.turned g9.out (fun j e => by cases e; exact ⟨_, _, _, S5.out.at0, by decide, by decide, by decide⟩))
    have SH9 := (show Hid _ from SH5.out.past g9.out hne S5.out.at0 (by decide))
    clear O5 SH5
    go_wp2
    refine leaves_cons (f := 73) (args := #[.pointer (some ⟨N, 2, none⟩)]) (by simp) (by simp [go_sem]) ?_
    obtain ⟨_, k2, k3⟩ := Shelf.turn SH9.out 0
    refine (unlock_deferred muLib ⟨N, 2, none⟩ .returning _ k2 k3).mono ?_
    rintro e u' w7 ⟨rfl, rfl, hw7⟩
    have g7 := (show Hid (World.grownBy _ w7 (some N)) from by rw [hw7]; exact grown_setCell _ _ _ _)
    have S10 := (show Hid _ from S9.out.shelf SH9.out Z1.out g7.out (by simp))
    have O10 := (show Hid (OwnAy w1.heap.size w7 _ ra) from OwnAy.turned O9.out g7.out (fun j e => by
      cases e
      obtain ⟨_, _, _, _, _, _, _, _, _, _, _, _, _, hN, _⟩ := SH9.out
      exact ⟨_, _, _, hN, by decide, by decide, by decide⟩))
    exact ⟨_, arch_res rfl rfl rfl S10.out.at0, _, rfl, OwnAy.base O10.out Z1.out, S10.out.1⟩
end Go.Proofs.YtokkigfjabbdaaaGreatDoor

/- The program's ArchiveCrash, ArchiveOpen (written by mk/iar8.py). No condition. -/
namespace Go.Proofs.YtokkigfjabbdaaaGreatDoor
open Go.RowKit Go.MuLone
set_option maxRecDepth 100000
set_option linter.unusedVariables false

theorem worked_crash (a : PArch) : workedA a (crashS a) = crashA a := rfl
theorem worked_open (a : PArch) : workedA a (openS a) = openA a := rfl

set_option maxHeartbeats 2000000 in
set_option maxRecDepth 100000 in
theorem iarCrash_any {w : World} {v : Value} {a : PArch} (h : ArAt w v a) (hf : ArFit a) (hs : Sent w) :
    Calls Tryz.prog 19 #[v] w fun e w' => ∃ v', e = .returned (.tuple #[v', .int .i64 (crashA a).2]) ∧ OwnAy w.heap.size w' v' (crashA a).1 ∧ Below w.heap.size w w' := by
  have HA := (show Hid (ArAt w v a) from h)
  obtain ⟨⟨ra, rc⟩, hra⟩ : ∃ x, x = crashA a := ⟨_, rfl⟩
  rw [← hra]
  simp only
  obtain ⟨sa, sn, sc, la, ln, lc, ea, en', ec, rfl, h1, h2⟩ := h
  have hl := ((Hl.refl w).new #[.bool a.up, .slice sa sn sc, .slice la ln lc, .int .i64 a.head.no, .int .i64 a.head.area, .int .i64 a.head.en, .slice ea en' ec] 39).new #[.bool false, .slice none 0 0, .slice none 0 0, .int .i64 0, .int .i64 0, .int .i64 0, .slice none 0 0] 39
  obtain ⟨w1, hw1⟩ : ∃ x, x = (w.alloc (.cells #[.bool a.up, .slice sa sn sc, .slice la ln lc, .int .i64 a.head.no, .int .i64 a.head.area, .int .i64 a.head.en, .slice ea en' ec] 39)).alloc (.cells #[.bool false, .slice none 0 0, .slice none 0 0, .int .i64 0, .int .i64 0, .int .i64 0, .slice none 0 0] 39) := ⟨_, rfl⟩
  rw [← hw1, World.size_alloc] at hl
  have HL := (show Hid (Hl w [(w.heap.size + 1, #[.bool false, .slice none 0 0, .slice none 0 0, .int .i64 0, .int .i64 0, .int .i64 0, .slice none 0 0], 39), (w.heap.size, #[.bool a.up, .slice sa sn sc, .slice la ln lc, .int .i64 a.head.no, .int .i64 a.head.area, .int .i64 a.head.en, .slice ea en' ec], 39)] w1) from hl)
  have CW := iworked_any (f := 47) (crashS a) (HA.out.below hl.1) hf (hs.below hl.1) (fun _ B W N s _ _ => ishCrash_any s) (run_callFunc_enter Tryz.func47 (by kernel_rfl) rfl)
  rw [worked_crash, ← hra] at CW
  have CW := (show Hid _ from CW)
  clear hl h1 h2 hf hs hra
  go_enter Tryz.func19, Tryz.ntmps19
  go_wp2_with fail
  go_at_call 46
  rw [← hw1]
  refine Calls.mono CW.out ?_
  rintro e w5 ⟨v5, rfl, o5, b5⟩
  have S5 := (show Hid (Hl w [(w.heap.size + 1, #[.bool false, .slice none 0 0, .slice none 0 0, .int .i64 0, .int .i64 0, .int .i64 0, .slice none 0 0], 39), (w.heap.size, #[.bool a.up, .slice sa sn sc, .slice la ln lc, .int .i64 a.head.no, .int .i64 a.head.area, .int .i64 a.head.en, .slice ea en' ec], 39)] w5) from HL.out.below b5)
  have O5 := (show Hid (OwnAy w.heap.size w5 v5 ra) from OwnAy.base o5 HL.out.1.size)
  clear b5 o5 HL hw1 CW
  obtain ⟨ya, yn, yc, za, zn, zc, fa, fn, fc, e5, _⟩ := O5.out
  subst e5
  obtain ⟨d0, d1, d2, d3, d4, d5, d6, _⟩ := rk_seven S5.out.at0
  have j0 := rk_thaw (k := 0) S5.out.at0
  have j1 := rk_thaw (k := 1) S5.out.at0
  have j2 := rk_thaw (k := 2) S5.out.at0
  have j3 := rk_thaw (k := 3) S5.out.at0
  have j4 := rk_thaw (k := 4) S5.out.at0
  have j5 := rk_thaw (k := 5) S5.out.at0
  have j6 := rk_thaw (k := 6) S5.out.at0
  have S9 := (show Hid _ from S5.out.set7 (Nat.le_succ _) (by simp) (.bool ra.up) (.slice ya yn yc) (.slice za zn zc) (.int .i64 ra.head.no) (.int .i64 ra.head.area) (.int .i64 ra.head.en) (.slice fa fn fc))
  have g9 := grown_set7 w5 (w.heap.size + 1) (.bool ra.up) (.slice ya yn yc) (.slice za zn zc) (.int .i64 ra.head.no) (.int .i64 ra.head.area) (.int .i64 ra.head.en) (.slice fa fn fc)
  have O9 := (show Hid _ from OwnAy.turned O5.out g9 (fun j e => by cases e; exact ⟨_, _, _, S5.out.at0, by decide, by decide, by decide⟩))
  clear g9 O5
  go_wp2
  refine bodyPost_ret (arch_res rfl rfl rfl S9.out.at0) rfl ?_
  exact ⟨_, rfl, O9.out, S9.out.1⟩

set_option maxHeartbeats 2000000 in
set_option maxRecDepth 100000 in
theorem iarOpen_any {w : World} {v : Value} {a : PArch} (h : ArAt w v a) (hf : ArFit a) (hs : Sent w) :
    Calls Tryz.prog 22 #[v] w fun e w' => ∃ v', e = .returned (.tuple #[v', .int .i64 (openA a).2]) ∧ OwnAy w.heap.size w' v' (openA a).1 ∧ Below w.heap.size w w' := by
  have HA := (show Hid (ArAt w v a) from h)
  obtain ⟨⟨ra, rc⟩, hra⟩ : ∃ x, x = openA a := ⟨_, rfl⟩
  rw [← hra]
  simp only
  obtain ⟨sa, sn, sc, la, ln, lc, ea, en', ec, rfl, h1, h2⟩ := h
  have hl := ((Hl.refl w).new #[.bool a.up, .slice sa sn sc, .slice la ln lc, .int .i64 a.head.no, .int .i64 a.head.area, .int .i64 a.head.en, .slice ea en' ec] 39).new #[.bool false, .slice none 0 0, .slice none 0 0, .int .i64 0, .int .i64 0, .int .i64 0, .slice none 0 0] 39
  obtain ⟨w1, hw1⟩ : ∃ x, x = (w.alloc (.cells #[.bool a.up, .slice sa sn sc, .slice la ln lc, .int .i64 a.head.no, .int .i64 a.head.area, .int .i64 a.head.en, .slice ea en' ec] 39)).alloc (.cells #[.bool false, .slice none 0 0, .slice none 0 0, .int .i64 0, .int .i64 0, .int .i64 0, .slice none 0 0] 39) := ⟨_, rfl⟩
  rw [← hw1, World.size_alloc] at hl
  have HL := (show Hid (Hl w [(w.heap.size + 1, #[.bool false, .slice none 0 0, .slice none 0 0, .int .i64 0, .int .i64 0, .int .i64 0, .slice none 0 0], 39), (w.heap.size, #[.bool a.up, .slice sa sn sc, .slice la ln lc, .int .i64 a.head.no, .int .i64 a.head.area, .int .i64 a.head.en, .slice ea en' ec], 39)] w1) from hl)
  have CW := iworked_any (f := 51) (openS a) (HA.out.below hl.1) hf (hs.below hl.1) (fun hb B W N s t l => ishOpen_any s (archB_disk hb).1 t l) (run_callFunc_enter Tryz.func51 (by kernel_rfl) rfl)
  rw [worked_open, ← hra] at CW
  have CW := (show Hid _ from CW)
  clear hl h1 h2 hf hs hra
  go_enter Tryz.func22, Tryz.ntmps22
  go_wp2_with fail
  go_at_call 46
  rw [← hw1]
  refine Calls.mono CW.out ?_
  rintro e w5 ⟨v5, rfl, o5, b5⟩
  have S5 := (show Hid (Hl w [(w.heap.size + 1, #[.bool false, .slice none 0 0, .slice none 0 0, .int .i64 0, .int .i64 0, .int .i64 0, .slice none 0 0], 39), (w.heap.size, #[.bool a.up, .slice sa sn sc, .slice la ln lc, .int .i64 a.head.no, .int .i64 a.head.area, .int .i64 a.head.en, .slice ea en' ec], 39)] w5) from HL.out.below b5)
  have O5 := (show Hid (OwnAy w.heap.size w5 v5 ra) from OwnAy.base o5 HL.out.1.size)
  clear b5 o5 HL hw1 CW
  obtain ⟨ya, yn, yc, za, zn, zc, fa, fn, fc, e5, _⟩ := O5.out
  subst e5
  obtain ⟨d0, d1, d2, d3, d4, d5, d6, _⟩ := rk_seven S5.out.at0
  have j0 := rk_thaw (k := 0) S5.out.at0
  have j1 := rk_thaw (k := 1) S5.out.at0
  have j2 := rk_thaw (k := 2) S5.out.at0
  have j3 := rk_thaw (k := 3) S5.out.at0
  have j4 := rk_thaw (k := 4) S5.out.at0
  have j5 := rk_thaw (k := 5) S5.out.at0
  have j6 := rk_thaw (k := 6) S5.out.at0
  have S9 := (show Hid _ from S5.out.set7 (Nat.le_succ _) (by simp) (.bool ra.up) (.slice ya yn yc) (.slice za zn zc) (.int .i64 ra.head.no) (.int .i64 ra.head.area) (.int .i64 ra.head.en) (.slice fa fn fc))
  have g9 := grown_set7 w5 (w.heap.size + 1) (.bool ra.up) (.slice ya yn yc) (.slice za zn zc) (.int .i64 ra.head.no) (.int .i64 ra.head.area) (.int .i64 ra.head.en) (.slice fa fn fc)
  have O9 := (show Hid _ from OwnAy.turned O5.out g9 (fun j e => by cases e; exact ⟨_, _, _, S5.out.at0, by decide, by decide, by decide⟩))
  clear g9 O5
  go_wp2
  refine bodyPost_ret (arch_res rfl rfl rfl S9.out.at0) rfl ?_
  exact ⟨_, rfl, O9.out, S9.out.1⟩
end Go.Proofs.YtokkigfjabbdaaaGreatDoor

/- The shelf's urls (written by mk/iar9.py). No condition. -/
namespace Go.Proofs.YtokkigfjabbdaaaGreatDoor
open Go.RowKit
set_option maxRecDepth 100000
set_option linter.unusedVariables false

def urlsS (a : PArch) : List ByteArray × Int := if a.up = false then ([], 2) else (a.list.map Prod.fst, 0)
set_option maxHeartbeats 4000000 in
set_option maxRecDepth 100000 in
theorem ishUrls_any {B : Nat} {w : World} {N : Nat} {a : PArch} {m : Int} (h : Shelf B w N a m) (hn : a.list.length ≤ 1048576) :
    Calls Tryz.prog 40 #[.pointer (some ⟨N, 0, none⟩)] w fun e w' => ∃ v', e = .returned (.tuple #[v', .int .i64 (urlsS a).2]) ∧ OwnY w.heap.size 9 1 w' v' (urlsS a).1.length (strCells (urlsS a).1) ∧ Below w.heap.size w w' := by
  obtain ⟨up, d, ⟨no, ar, en⟩, ls⟩ := a
  obtain ⟨sa, sn, sc, la, ln, lc, q, r, ea, en', ec, st, hB, hN, hd, he⟩ := h
  simp only at hN hd he hn
  have hsv := he.sv
  obtain ⟨ea', ec', e2, _, _, hca⟩ := hsv.pair
  cases e2
  have HN := (show Hid (w.heap[N]? = some (.cells #[.slice sa sn sc, .slice la ln lc, .int .i32 m, .int .u32 q, .int .i64 r, .bool up, .int .i64 no, .int .i64 ar, .int .i64 en, .slice ea ls.length ec, st] 114 (0, 0))) from hN)
  have HCA := (show Hid _ from hca)
  have hNl := lt_of_block hN
  clear hN hd he hB hsv hca
  cases up
  · obtain ⟨c0, c1, c2, c3, c4, c5, c6, c7, c8, c9⟩ := rk_ten HN.out
    go_enter Tryz.func40, Tryz.ntmps40
    go_wp2
    refine bodyPost_ret (results_tmp2 rfl _ _ _) rfl ?_
    exact ⟨_, rfl, .inl ⟨rfl, rfl, none, rfl, fun _ => trivial⟩, Below.refl _ _⟩
  · obtain ⟨us, hus⟩ : ∃ us, us = ls.map Prod.fst := ⟨_, rfl⟩
    have hul : us.length = ls.length := by rw [hus, List.length_map]
    have HU := (show Hid (∀ k (h1 : k < us.length) (h2 : k < ls.length), us[k] = ls[k].1) from fun k h1 h2 => by subst hus; simp)
    have HS : urlsS ⟨true, d, ⟨no, ar, en⟩, ls⟩ = (us, 0) := by rw [hus]; rfl
    rw [HS]
    simp only
    have HUL := (show Hid (us.length = ls.length) from hul)
    rw [hul]
    clear hus hul HS
    obtain ⟨c0, c1, c2, c3, c4, c5, c6, c7, c8, c9⟩ := rk_ten HN.out
    obtain ⟨i0, hi, hz0, hz1, hz2⟩ := info_parts Tryz.infoStr
    go_enter Tryz.func40, Tryz.ntmps40
    go_wp2_with (at_make; refine wpList_make_full _ rfl (.tmp 16) (.tmp 16) 22 rfl w.heap.size 9 i0 _ 1 Tryz.underlying22 hi hz0 hz1 .i64 .i64 _ _ ls.length rfl rfl rfl rfl (by rw [hz2]; omega) (by unfold maxLen; omega) (Nat.le_refl _) ?_; intro w1 o1 g1; have b1 : Below w.heap.size w w1 := (Below.refl _ _).grown g1 (Nat.le_refl _) (fun k hk => by cases hk); have n1 := (b1.block _ hNl).trans HN.out; obtain ⟨e0, e1, e2, e3, e4, e5, e6, e7, e8, e9⟩ := rk_ten n1)
    go_loopw [23] (fun i wr => ∃ (k : Nat) (cs : List Value), k ≤ ls.length ∧ i = .int .i64 k ∧ wr.ownsRow w.heap.size 9 1 (.slice (some ⟨w.heap.size, 0, none⟩) ls.length ls.length) ls.length cs ∧ cs.take k = strCells (us.take k) ∧ Below w.heap.size w wr) (fun i _ => ls.length - (intOf i).toNat)
    case atStart => exact ⟨0, _, Nat.zero_le _, rfl, o1, by simp [strCells], b1⟩
    case round =>
      clear o1 g1 b1
      obtain ⟨k, cs, hk, rfl, own, htk, bel⟩ := hrel
      have hcl : cs.length = ls.length * 1 := own.1
      by_cases hlt : k < ls.length
      · have hlu : k < us.length := by have := HUL.out; omega
        obtain ⟨b1, o1, rfl, l1, c1', c2'⟩ := HCA.out k hlt
        have d1 : wr.cell? ⟨b1, o1 + k * 2, none⟩ = some (.string ls[k].1) := (bel.cell (p := ⟨b1, o1 + k * 2, none⟩) l1).trans c1'
        have d2 : wr.cell? ⟨b1, o1 + k * 2 + 1, none⟩ = some (.string ls[k].2) := (bel.cell (p := ⟨b1, o1 + k * 2 + 1, none⟩) l1).trans c2'
        have HTS : Hid ((cs.set k (.string ls[k].1)).take (k + 1) = strCells (us.take (k + 1))) := by
          show (cs.set k (.string ls[k].1)).take (k + 1) = strCells (us.take (k + 1))
          rw [← HU.out k hlu hlt, List.take_succ_eq_append_getElem hlu, strCells_app, ← htk, List.take_succ_eq_append_getElem (by rw [List.length_set]; omega), List.take_set_of_le (Nat.le_refl _)]
          simp [strCells]
        obtain ⟨x, hx⟩ : ∃ x, x = ls[k] := ⟨_, rfl⟩
        rw [← hx] at d1 d2 HTS
        obtain ⟨z1, hc1⟩ : ∃ z, wr.cell? ⟨w.heap.size, k, none⟩ = some z := by
          rw [own.cellAt k (by omega)]; exact ⟨_, List.getElem?_eq_getElem (by omega)⟩
        have f1 := own.frozenAt k
        have S1 := (show Hid _ from own.stored k (.string x.1))
        have S2 := (show Hid (((wr.setCell ⟨w.heap.size, k, none⟩ (.string x.1)).alloc (.cells #[.string x.1, .string x.2] 70)).ownsRow w.heap.size 9 1 (.slice (some ⟨w.heap.size, 0, none⟩) ls.length ls.length) ls.length (cs.set k (.string x.1))) from ownsRow_below S1.out.1 ((Below.refl _ _).alloc (Nat.le_refl _) _))
        have B2 := (show Hid (Below w.heap.size w ((wr.setCell ⟨w.heap.size, k, none⟩ (.string x.1)).alloc (.cells #[.string x.1, .string x.2] 70))) from (bel.setCell (p := ⟨w.heap.size, k, none⟩) (Nat.le_refl _) _).alloc (bel.setCell (p := ⟨w.heap.size, k, none⟩) (Nat.le_refl _) _).size _)
        have hwr : w.heap.size < wr.heap.size := by
          obtain ⟨_, ⟨hv, _⟩ | ⟨g, cap, cur, hv, _, hh, _⟩⟩ := own
          · cases hv
          · cases hv; exact lt_of_block hh
        clear hx c1' c2' htk own S1
        go_wp2
        go_roundw
        case rel => exact ⟨k + 1, _, by omega, by go_num, S2.out, HTS.out, B2.out⟩
        case measure => simp [intOf]; omega
      · have hke : k = ls.length := by omega
        have hcs : cs = strCells us := by
          have e1 := HUL.out
          rw [hke, ← e1, List.take_length, e1, ← Nat.mul_one ls.length, ← hcl, List.take_length] at htk
          exact htk
        subst hcs
        have OW := (show Hid _ from own)
        clear own htk
        go_wp2
        refine bodyPost_ret (results_tmp2 rfl _ _ _) rfl ?_
        exact ⟨_, rfl, OwnY.of (.inl OW.out), bel⟩
end Go.Proofs.YtokkigfjabbdaaaGreatDoor

/- asked, and the program's ArchiveUrls (written by mk/iar10.py). No condition. -/
namespace Go.Proofs.YtokkigfjabbdaaaGreatDoor
open Go.RowKit Go.MuLone
set_option maxRecDepth 100000
set_option linter.unusedVariables false

theorem below_grown {w w' : World} (b : Below w.heap.size w w') (r : Option Nat) : w.grownBy w' r := ⟨b.os, b.tape, b.output, b.size, fun j hj _ => b.block j hj⟩
set_option maxHeartbeats 2000000 in
set_option maxRecDepth 100000 in
theorem iask1_any {B : Nat} {W : World} {N X P1 : Nat} {a : PArch} {m : Int} {x0 : Value} (h : Shelf B W N a m) (hn : a.list.length ≤ 1048576) (hX : W.heap[X]? = some (.cells #[x0] 22 (0, 0))) (hP : W.heap[P1]? = some (.cells #[.func (.func 40) #[] #[]] 72 (0, 0))) :
    Calls Tryz.prog 70 #[.pointer (some ⟨N, 0, none⟩), .pointer (some ⟨P1, 0, none⟩), .pointer (some ⟨X, 0, none⟩)] W fun e w' => e = .returned (.int .i64 (urlsS a).2) ∧ ∃ xa xn xc, w'.heap[X]? = some (.cells #[.slice xa xn xc] 22 (0, 0)) ∧ OwnY W.heap.size 9 1 w' (.slice xa xn xc) (urlsS a).1.length (strCells (urlsS a).1) ∧ W.grownBy w' (some X) := by
  have CU := (show Hid (Calls Tryz.prog 40 #[.pointer (some ⟨N, 0, none⟩)] W fun e w' => ∃ v', e = .returned (.tuple #[v', .int .i64 (urlsS a).2]) ∧ OwnY W.heap.size 9 1 w' v' (urlsS a).1.length (strCells (urlsS a).1) ∧ Below W.heap.size W w') from ishUrls_any h hn)
  have HX := (show Hid (W.heap[X]? = some (.cells #[x0] 22 (0, 0))) from hX)
  obtain ⟨p1, _⟩ := rk_one hP
  obtain ⟨⟨us, uc⟩, hu⟩ : ∃ x, x = urlsS a := ⟨_, rfl⟩
  rw [← hu] at CU
  rw [← hu]
  simp only at CU ⊢
  clear hX hP h hu
  go_enter Tryz.func70, Tryz.ntmps70
  go_wp2_with fail
  go_at_call 40
  refine Calls.mono CU.out ?_
  rintro e w2 ⟨v2, rfl, o2, b2⟩
  obtain ⟨xa, xn, xc, ev⟩ : ∃ xa xn xc, v2 = .slice xa xn xc := by
    rcases o2 with ⟨_, _, a', rfl, _⟩ | ⟨_, g, m', c, rfl⟩
    · exact ⟨_, _, _, rfl⟩
    · exact ⟨_, _, _, rfl⟩
  subst ev
  have x2 := (b2.block _ (lt_of_block HX.out)).trans HX.out
  obtain ⟨k1, k2⟩ := rk_one x2
  have X3 := (show Hid _ from rk_at (k := 0) (u := .slice xa xn xc) x2)
  have O3 := (show Hid _ from OwnY.row (grown_setCell w2 X 0 (.slice xa xn xc)) o2 (fun j hj er => by
    cases er
    obtain ⟨c2, f2, k⟩ := o2.kind hj
    rw [x2] at k; cases k))
  have G3 := (show Hid _ from grown_trans (below_grown b2 (some X)) (grown_setCell w2 X 0 (.slice xa xn xc)))
  clear p1 CU o2 b2 x2
  go_wp2
  go_ret
  exact ⟨rfl, xa, xn, xc, X3.out, O3.out, G3.out⟩
/-- What is new may be turned, and block X; the listed blocks hold these cells. -/
structure Sx (w : World) (X : Nat) (L : List (Nat × Array Value × TypeId)) (W : World) : Prop where
  gr : w.grownBy W (some X)
  blk : ∀ p ∈ L, W.heap[p.1]? = some (.cells p.2.1 p.2.2 (0, 0))
theorem Sx.below {w W W' : World} {X : Nat} {L : List (Nat × Array Value × TypeId)} (h : Sx w X L W) (b : Below W.heap.size W W') : Sx w X L W' := ⟨grown_below h.gr b, fun p hp => (b.block _ (lt_of_block (h.blk p hp))).trans (h.blk p hp)⟩
theorem Sx.past {w W W' : World} {X k : Nat} {L : List (Nat × Array Value × TypeId)} (h : Sx w X L W) (g : W.grownBy W' (some k)) (hk : w.heap.size ≤ k) (hL : ∀ p ∈ L, p.1 ≠ k) : Sx w X L W' := ⟨grown_past h.gr g (fun j e => by cases e; exact hk), fun p hp => (g.block _ (lt_of_block (h.blk p hp)) (fun e => hL p hp (Option.some.inj e))).trans (h.blk p hp)⟩
end Go.Proofs.YtokkigfjabbdaaaGreatDoor

/- worked with asked's closure, asked, the program's ArchiveUrls (written by mk/iar11.py). No condition. -/
namespace Go.Proofs.YtokkigfjabbdaaaGreatDoor
open Go.RowKit Go.MuLone
set_option maxRecDepth 100000
set_option linter.unusedVariables false

theorem res_set7 {W : World} {N : Nat} {x0 x1 x2 x3 x4 x5 x6 : Value} {t : TypeId} (h : W.heap[N]? = some (.cells #[x0, x1, x2, x3, x4, x5, x6] t (0, 0))) (a0 a1 a2 a3 a4 a5 a6 : Value) : (((((((W.setCell ⟨N, 0, none⟩ a0).setCell ⟨N, 1, none⟩ a1).setCell ⟨N, 2, none⟩ a2).setCell ⟨N, 3, none⟩ a3).setCell ⟨N, 4, none⟩ a4).setCell ⟨N, 5, none⟩ a5).setCell ⟨N, 6, none⟩ a6).heap[N]? = some (.cells #[a0, a1, a2, a3, a4, a5, a6] t (0, 0)) := by
  have h1 : (W.setCell ⟨N, 0, none⟩ a0).heap[N]? = some (.cells #[a0, x1, x2, x3, x4, x5, x6] t (0, 0)) := rk_at h
  have h2 : ((W.setCell ⟨N, 0, none⟩ a0).setCell ⟨N, 1, none⟩ a1).heap[N]? = some (.cells #[a0, a1, x2, x3, x4, x5, x6] t (0, 0)) := rk_at h1
  have h3 : (((W.setCell ⟨N, 0, none⟩ a0).setCell ⟨N, 1, none⟩ a1).setCell ⟨N, 2, none⟩ a2).heap[N]? = some (.cells #[a0, a1, a2, x3, x4, x5, x6] t (0, 0)) := rk_at h2
  have h4 : ((((W.setCell ⟨N, 0, none⟩ a0).setCell ⟨N, 1, none⟩ a1).setCell ⟨N, 2, none⟩ a2).setCell ⟨N, 3, none⟩ a3).heap[N]? = some (.cells #[a0, a1, a2, a3, x4, x5, x6] t (0, 0)) := rk_at h3
  have h5 : (((((W.setCell ⟨N, 0, none⟩ a0).setCell ⟨N, 1, none⟩ a1).setCell ⟨N, 2, none⟩ a2).setCell ⟨N, 3, none⟩ a3).setCell ⟨N, 4, none⟩ a4).heap[N]? = some (.cells #[a0, a1, a2, a3, a4, x5, x6] t (0, 0)) := rk_at h4
  have h6 : ((((((W.setCell ⟨N, 0, none⟩ a0).setCell ⟨N, 1, none⟩ a1).setCell ⟨N, 2, none⟩ a2).setCell ⟨N, 3, none⟩ a3).setCell ⟨N, 4, none⟩ a4).setCell ⟨N, 5, none⟩ a5).heap[N]? = some (.cells #[a0, a1, a2, a3, a4, a5, x6] t (0, 0)) := rk_at h5
  exact rk_at h6
set_option maxHeartbeats 4000000 in
set_option maxRecDepth 100000 in
theorem iworkedU_any {w : World} {v : Value} {a : PArch} {X P1 : Nat} (h : ArAt w v a) (hf : ArFit a) (hs : Sent w) (hX : w.heap[X]? = some (.cells #[.slice none 0 0] 22 (0, 0))) (hP : w.heap[P1]? = some (.cells #[.func (.func 40) #[] #[]] 72 (0, 0))) :
    Calls Tryz.prog 46 #[v, .func (.func 70) #[] #[.pointer (some ⟨P1, 0, none⟩), .pointer (some ⟨X, 0, none⟩)]] w fun e w' => ∃ (u : Bool) (ya : Option Addr) (yn yc : Nat) (za : Option Addr) (zn zc : Nat) (h0 h1 h2 : Int) (fa : Option Addr) (fn fc : Nat) (xa : Option Addr) (xn xc : Nat), e = .returned (.tuple #[.agg #[.bool u, .slice ya yn yc, .slice za zn zc, .int .i64 h0, .int .i64 h1, .int .i64 h2, .slice fa fn fc], .int .i64 (urlsA a).2]) ∧ w'.heap[X]? = some (.cells #[.slice xa xn xc] 22 (0, 0)) ∧ OwnY w.heap.size 9 1 w' (.slice xa xn xc) (urlsA a).1.length (strCells (urlsA a).1) ∧ w.grownBy w' (some X) := by
  have HA := (show Hid (ArAt w v a) from h)
  have HF := (show Hid (ArFit a) from hf)
  have HT := (show Hid (Sent w) from hs)
  have HX := (show Hid (w.heap[X]? = some (.cells #[.slice none 0 0] 22 (0, 0))) from hX)
  have HP := (show Hid (w.heap[P1]? = some (.cells #[.func (.func 40) #[] #[]] 72 (0, 0))) from hP)
  have HXl := (show Hid (X < w.heap.size) from lt_of_block hX)
  obtain ⟨qb, hq⟩ : ∃ q, q = archB a := ⟨_, rfl⟩
  have HW : Hid (urlsA a = if qb = false then ([], 1) else urlsS a) := (show _ = _ by rw [urlsA, hq]; rfl)
  obtain ⟨⟨us, uc⟩, hra⟩ : ∃ x, x = urlsA a := ⟨_, rfl⟩
  rw [← hra] at HW
  rw [← hra]
  simp only
  have he := run_callFunc_enter Tryz.func70 (by kernel_rfl) rfl
  obtain ⟨sa, sn, sc, la, ln, lc, ea, en', ec, rfl, h1, h2⟩ := h
  have hl := ((Hl.refl w).new #[.bool a.up, .slice sa sn sc, .slice la ln lc, .int .i64 a.head.no, .int .i64 a.head.area, .int .i64 a.head.en, .slice ea en' ec] 39).new #[.bool false, .slice none 0 0, .slice none 0 0, .int .i64 0, .int .i64 0, .int .i64 0, .slice none 0 0] 39
  obtain ⟨w1, hw1⟩ : ∃ x, x = (w.alloc (.cells #[.bool a.up, .slice sa sn sc, .slice la ln lc, .int .i64 a.head.no, .int .i64 a.head.area, .int .i64 a.head.en, .slice ea en' ec] 39)).alloc (.cells #[.bool false, .slice none 0 0, .slice none 0 0, .int .i64 0, .int .i64 0, .int .i64 0, .slice none 0 0] 39) := ⟨_, rfl⟩
  rw [← hw1, World.size_alloc] at hl
  have HL := (show Hid (Hl w [(w.heap.size + 1, #[.bool false, .slice none 0 0, .slice none 0 0, .int .i64 0, .int .i64 0, .int .i64 0, .slice none 0 0], 39), (w.heap.size, #[.bool a.up, .slice sa sn sc, .slice la ln lc, .int .i64 a.head.no, .int .i64 a.head.area, .int .i64 a.head.en, .slice ea en' ec], 39)] w1) from hl)
  have CS := ishelfOf_any (HA.out.below hl.1) hf (hs.below hl.1)
  rw [← hq] at CS
  have CS := (show Hid _ from CS)
  clear hl h1 h2 hf hs hq hra hX hP
  go_enter_defers Tryz.func46, Tryz.ntmps46
  go_wp2_with fail
  go_at_call 35
  rw [← hw1]
  refine Calls.mono CS.out ?_
  rintro e w2 ⟨ho, b2⟩
  have S2 := (show Hid (Hl w [(w.heap.size + 1, #[.bool false, .slice none 0 0, .slice none 0 0, .int .i64 0, .int .i64 0, .int .i64 0, .slice none 0 0], 39), (w.heap.size, #[.bool a.up, .slice sa sn sc, .slice la ln lc, .int .i64 a.head.no, .int .i64 a.head.area, .int .i64 a.head.en, .slice ea en' ec], 39)] w2) from HL.out.below b2)
  have T2 := (show Hid (Sent w2) from HT.out.below S2.out.1)
  have Z1 := (show Hid (w.heap.size ≤ w1.heap.size) from HL.out.1.size)
  have Z2 := (show Hid (w1.heap.size ≤ w2.heap.size) from b2.size)
  clear hw1 CS b2 HL
  rcases ho with ⟨rfl, rfl⟩ | ⟨rfl, N, rfl, sh⟩
  · have e1 := HW.out
    rw [if_pos rfl] at e1
    cases e1
    clear HW
    obtain ⟨d0, d1, d2, d3, d4, d5, d6, _⟩ := rk_seven S2.out.at0
    have j0 := rk_thaw (k := 0) S2.out.at0
    have j1 := rk_thaw (k := 1) S2.out.at0
    have j2 := rk_thaw (k := 2) S2.out.at0
    have j3 := rk_thaw (k := 3) S2.out.at0
    have j4 := rk_thaw (k := 4) S2.out.at0
    have j5 := rk_thaw (k := 5) S2.out.at0
    have j6 := rk_thaw (k := 6) S2.out.at0
    have S9 := (show Hid _ from S2.out.set7 (Nat.le_succ _) (by simp) (.bool false) (.slice none 0 0) (.slice none 0 0) (.int .i64 0) (.int .i64 0) (.int .i64 0) (.slice none 0 0))
    have X9 := (show Hid _ from (S9.out.1.block _ HXl.out).trans HX.out)
    have G9 := (show Hid _ from below_grown S9.out.1 (some X))
    go_wp2
    exact ⟨_, arch_res rfl rfl rfl S9.out.at0, _, _, _, _, _, _, _, _, _, _, _, _, _, none, 0, 0, rfl, X9.out, .inl ⟨rfl, rfl, none, rfl, fun _ => trivial⟩, G9.out⟩
  · have e1 := HW.out
    rw [if_neg (by decide)] at e1
    have SH := (show Hid (Shelf w1.heap.size w2 N a 0) from sh)
    have HU := (show Hid ((us, uc) = urlsS a) from e1)
    obtain ⟨tu, k2, k3⟩ := sh.turn 1
    clear HW sh e1
    go_wp2_with fail
    go_at_call 72
    refine (lock_free muLib ⟨N, 2, none⟩ _ k2 k3).mono ?_
    rintro e w3 ⟨rfl, hw3⟩
    have SH3 := (show Hid (Shelf w1.heap.size w3 N a 1) from by rw [hw3]; exact tu)
    have g3 : w2.grownBy w3 (some N) := by rw [hw3]; exact grown_setCell _ _ _ _
    have S3 := (show Hid (Hl w [(w.heap.size + 1, #[.bool false, .slice none 0 0, .slice none 0 0, .int .i64 0, .int .i64 0, .int .i64 0, .slice none 0 0], 39), (w.heap.size, #[.bool a.up, .slice sa sn sc, .slice la ln lc, .int .i64 a.head.no, .int .i64 a.head.area, .int .i64 a.head.en, .slice ea en' ec], 39)] w3) from S2.out.shelf SH.out Z1.out g3 (by simp))
    have Z3 := (show Hid (w1.heap.size ≤ w3.heap.size) from Nat.le_trans Z2.out g3.size)
    clear hw3 g3 tu k2 k3 S2 SH T2
    have CD := iask1_any SH3.out HF.out.el ((S3.out.1.block _ HXl.out).trans HX.out) ((S3.out.1.block _ (lt_of_block HP.out)).trans HP.out)
    rw [← HU.out] at CD
    have CD := (show Hid _ from CD)
    go_wp2_with fail
    refine Calls.mono CD.out ?_
    rintro e w4 ⟨rfl, xa, xn, xc, x4, o4, g4⟩
    have hX2 : X ≠ N := by
      have := SH3.out.ge
      have := Z1.out
      have := HXl.out
      omega
    have SH4 := (show Hid (Shelf w1.heap.size w4 N a 1) from SH3.out.past g4 hX2 ((S3.out.1.block _ HXl.out).trans HX.out) (by decide))
    have S4 := (show Hid (Sx w X [(X, #[.slice xa xn xc], 22), (w.heap.size + 1, #[.bool false, .slice none 0 0, .slice none 0 0, .int .i64 0, .int .i64 0, .int .i64 0, .slice none 0 0], 39), (w.heap.size, #[.bool a.up, .slice sa sn sc, .slice la ln lc, .int .i64 a.head.no, .int .i64 a.head.area, .int .i64 a.head.en, .slice ea en' ec], 39)] w4) from ⟨grown_trans (below_grown S3.out.1 (some X)) g4, fun p hp => by
      rcases List.mem_cons.mp hp with rfl | hp
      · exact x4
      · have hb := S3.out.2 p hp
        refine (g4.block _ (lt_of_block hb) (fun e => ?_)).trans hb
        have e' := Option.some.inj e
        have hx := (S3.out.1.block _ HXl.out).trans HX.out
        rw [e', hx] at hb
        simp only [List.mem_cons, List.not_mem_nil, or_false] at hp
        rcases hp with rfl | rfl
        · exact absurd hb (by simp)
        · exact absurd hb (by simp)⟩)
    have O4 := (show Hid (OwnY w.heap.size 9 1 w4 (.slice xa xn xc) us.length (strCells us)) from OwnY.base o4 (Nat.le_trans Z1.out Z3.out))
    have Z4 := (show Hid (w1.heap.size ≤ w4.heap.size) from Nat.le_trans Z3.out g4.size)
    clear x4 o4 g4 S3 SH3 Z3 CD
    go_wp2_with fail
    go_at_call 74
    refine (ishArchive_any SH4.out Z4.out).mono ?_
    rintro e w5 ⟨v5, rfl, o5, b5⟩
    have S5 := (show Hid (Sx w X [(X, #[.slice xa xn xc], 22), (w.heap.size + 1, #[.bool false, .slice none 0 0, .slice none 0 0, .int .i64 0, .int .i64 0, .int .i64 0, .slice none 0 0], 39), (w.heap.size, #[.bool a.up, .slice sa sn sc, .slice la ln lc, .int .i64 a.head.no, .int .i64 a.head.area, .int .i64 a.head.en, .slice ea en' ec], 39)] w5) from S4.out.below b5)
    have SH5 := (show Hid (Shelf w1.heap.size w5 N a 1) from SH4.out.below b5)
    have O5 := (show Hid (OwnY w.heap.size 9 1 w5 (.slice xa xn xc) us.length (strCells us)) from O4.out.below b5)
    obtain ⟨ya, yn, yc, za, zn, zc, fa, fn, fc, e5, _⟩ := o5
    subst e5
    clear b5 S4 SH4 Z4 O4
    have q5 : w5.heap[w.heap.size + 1]? = some (.cells #[.bool false, .slice none 0 0, .slice none 0 0, .int .i64 0, .int .i64 0, .int .i64 0, .slice none 0 0] 39 (0, 0)) := S5.out.blk _ (List.mem_cons_of_mem _ (List.mem_cons_self ..))
    obtain ⟨d0, d1, d2, d3, d4, d5, d6, _⟩ := rk_seven q5
    have j0 := rk_thaw (k := 0) q5
    have j1 := rk_thaw (k := 1) q5
    have j2 := rk_thaw (k := 2) q5
    have j3 := rk_thaw (k := 3) q5
    have j4 := rk_thaw (k := 4) q5
    have j5 := rk_thaw (k := 5) q5
    have j6 := rk_thaw (k := 6) q5
    have hne := SH5.out.ne q5 (by decide)
    have g9 := (show Hid _ from grown_set7 w5 (w.heap.size + 1) (.bool a.up) (.slice ya yn yc) (.slice za zn zc) (.int .i64 a.head.no) (.int .i64 a.head.area) (.int .i64 a.head.en) (.slice fa fn fc))
    have SH9 := (show Hid _ from SH5.out.past g9.out hne q5 (by decide))
    have O9 := (show Hid _ from OwnY.row g9.out O5.out (fun j hj er => by
      cases er
      obtain ⟨c2, f2, k⟩ := O5.out.kind hj
      rw [q5] at k; cases k))
    have S9 := (show Hid _ from (Sx.past (L := [(X, #[.slice xa xn xc], 22)]) ⟨S5.out.gr, fun p hp => S5.out.blk p (by simp at hp; simp [hp])⟩ g9.out (Nat.le_succ _) (by simp; have := HXl.out; omega)))
    have R9 := (show Hid _ from res_set7 q5 (.bool a.up) (.slice ya yn yc) (.slice za zn zc) (.int .i64 a.head.no) (.int .i64 a.head.area) (.int .i64 a.head.en) (.slice fa fn fc))
    clear O5 S5 SH5
    go_wp2
    refine leaves_cons (f := 73) (args := #[.pointer (some ⟨N, 2, none⟩)]) (by simp) (by simp [go_sem]) ?_
    obtain ⟨_, k2, k3⟩ := Shelf.turn SH9.out 0
    refine (unlock_deferred muLib ⟨N, 2, none⟩ .returning _ k2 k3).mono ?_
    rintro e u' w7 ⟨rfl, rfl, hw7⟩
    have g7 := (show Hid (World.grownBy _ w7 (some N)) from by rw [hw7]; exact grown_setCell _ _ _ _)
    have hgeN : w.heap.size ≤ N := Nat.le_trans Z1.out (Shelf.ge SH9.out)
    have S10 := (show Hid _ from S9.out.past g7.out hgeN (by simp; exact hX2))
    have R10 := (show Hid _ from (g7.out.block _ (lt_of_block R9.out) (fun e => hne (Option.some.inj e))).trans R9.out)
    have O10 := (show Hid _ from OwnY.row g7.out O9.out (fun j hj er => by
      cases er
      obtain ⟨c2, f2, k⟩ := OwnY.kind O9.out hj
      obtain ⟨_, _, _, _, _, _, _, _, _, _, _, _, _, hN, _⟩ := SH9.out
      rw [hN] at k; cases k))
    exact ⟨_, arch_res rfl rfl rfl R10.out, _, _, _, _, _, _, _, _, _, _, _, _, _, xa, xn, xc, rfl, S10.out.blk _ (List.mem_cons_self ..), O10.out, S10.out.gr⟩
end Go.Proofs.YtokkigfjabbdaaaGreatDoor

/- asked, the program's ArchiveUrls (written by mk/iar12.py). No condition. -/
namespace Go.Proofs.YtokkigfjabbdaaaGreatDoor
open Go.RowKit Go.MuLone
set_option maxRecDepth 100000
set_option linter.unusedVariables false

set_option maxHeartbeats 2000000 in
set_option maxRecDepth 100000 in
theorem iaskedU_any {w : World} {v : Value} {a : PArch} (h : ArAt w v a) (hf : ArFit a) (hs : Sent w) :
    Calls Tryz.prog 39 #[v, .func (.func 40) #[] #[]] w fun e w' => ∃ v', e = .returned (.tuple #[v', .int .i64 (urlsA a).2]) ∧ OwnY w.heap.size 9 1 w' v' (urlsA a).1.length (strCells (urlsA a).1) ∧ Below w.heap.size w w' := by
  have HA := (show Hid (ArAt w v a) from h)
  obtain ⟨⟨us, uc⟩, hu⟩ : ∃ x, x = urlsA a := ⟨_, rfl⟩
  rw [← hu]
  simp only
  obtain ⟨sa, sn, sc, la, ln, lc, ea, en', ec, rfl, h1, h2⟩ := h
  have hl := (((Hl.refl w).new #[.bool a.up, .slice sa sn sc, .slice la ln lc, .int .i64 a.head.no, .int .i64 a.head.area, .int .i64 a.head.en, .slice ea en' ec] 39).new #[.func (.func 40) #[] #[]] 72).new #[.slice none 0 0] 22
  obtain ⟨w1, hw1⟩ : ∃ x, x = ((w.alloc (.cells #[.bool a.up, .slice sa sn sc, .slice la ln lc, .int .i64 a.head.no, .int .i64 a.head.area, .int .i64 a.head.en, .slice ea en' ec] 39)).alloc (.cells #[.func (.func 40) #[] #[]] 72)).alloc (.cells #[.slice none 0 0] 22) := ⟨_, rfl⟩
  rw [← hw1, World.size_alloc, World.size_alloc] at hl
  have HL := (show Hid (Hl w [(w.heap.size + 1 + 1, #[.slice none 0 0], 22), (w.heap.size + 1, #[.func (.func 40) #[] #[]], 72), (w.heap.size, #[.bool a.up, .slice sa sn sc, .slice la ln lc, .int .i64 a.head.no, .int .i64 a.head.area, .int .i64 a.head.en, .slice ea en' ec], 39)] w1) from hl)
  have CW := iworkedU_any (X := w.heap.size + 1 + 1) (P1 := w.heap.size + 1) (HA.out.below hl.1) hf (hs.below hl.1) hl.at0 hl.at1
  rw [← hu] at CW
  have CW := (show Hid _ from CW)
  have hmf : ∀ (fn : Fn) (first cap : Array Value) (w : World), (Instr.makeFunc fn first cap).run Tryz.prog w = .ok (.func fn first cap) w := fun _ _ _ _ => rfl
  clear hl h1 h2 hf hs hu
  go_enter Tryz.func39, Tryz.ntmps39
  go_wp2_with fail
  go_at_call 46
  rw [← hw1]
  refine Calls.mono CW.out ?_
  rintro e w5 ⟨u, ya, yn, yc, za, zn, zc, h0, h1, h2, fa, fn, fc, xa, xn, xc, rfl, hx5, o5, g5⟩
  have B5 := (show Hid (Below w.heap.size w w5) from HL.out.1.grown g5 HL.out.1.size (fun r e => by cases e; omega))
  have O5 := (show Hid (OwnY w.heap.size 9 1 w5 (.slice xa xn xc) us.length (strCells us)) from OwnY.base o5 HL.out.1.size)
  obtain ⟨k1, _⟩ := rk_one hx5
  have hxl := lt_of_block hx5
  have O6 := (show Hid (OwnY w.heap.size 9 1 (w5.alloc (.cells #[.bool u, .slice ya yn yc, .slice za zn zc, .int .i64 h0, .int .i64 h1, .int .i64 h2, .slice fa fn fc] 39)) (.slice xa xn xc) us.length (strCells us)) from O5.out.below ((Below.refl _ _).alloc (Nat.le_refl _) _))
  have B6 := (show Hid (Below w.heap.size w (w5.alloc (.cells #[.bool u, .slice ya yn yc, .slice za zn zc, .int .i64 h0, .int .i64 h1, .int .i64 h2, .slice fa fn fc] 39))) from B5.out.alloc B5.out.size _)
  clear hw1 CW o5 g5 hx5 HL
  go_wp2
  refine bodyPost_ret (results_tmp2 rfl _ _ _) rfl ?_
  exact ⟨_, rfl, O6.out, B6.out⟩
set_option maxHeartbeats 2000000 in
set_option maxRecDepth 100000 in
theorem iarUrls_any {w : World} {v : Value} {a : PArch} (h : ArAt w v a) (hf : ArFit a) (hs : Sent w) :
    Calls Tryz.prog 13 #[v] w fun e w' => ∃ v', e = .returned (.tuple #[v', .int .i64 (urlsA a).2]) ∧ OwnY w.heap.size 9 1 w' v' (urlsA a).1.length (strCells (urlsA a).1) ∧ Below w.heap.size w w' := by
  have HA := (show Hid (ArAt w v a) from h)
  obtain ⟨⟨us, uc⟩, hu⟩ : ∃ x, x = urlsA a := ⟨_, rfl⟩
  rw [← hu]
  simp only
  obtain ⟨sa, sn, sc, la, ln, lc, ea, en', ec, rfl, h1, h2⟩ := h
  have hl := (Hl.refl w).new #[.bool a.up, .slice sa sn sc, .slice la ln lc, .int .i64 a.head.no, .int .i64 a.head.area, .int .i64 a.head.en, .slice ea en' ec] 39
  obtain ⟨w1, hw1⟩ : ∃ x, x = w.alloc (.cells #[.bool a.up, .slice sa sn sc, .slice la ln lc, .int .i64 a.head.no, .int .i64 a.head.area, .int .i64 a.head.en, .slice ea en' ec] 39) := ⟨_, rfl⟩
  rw [← hw1] at hl
  have HL := (show Hid (Hl w [(w.heap.size, #[.bool a.up, .slice sa sn sc, .slice la ln lc, .int .i64 a.head.no, .int .i64 a.head.area, .int .i64 a.head.en, .slice ea en' ec], 39)] w1) from hl)
  have CW := iaskedU_any (HA.out.below hl.1) hf (hs.below hl.1)
  rw [← hu] at CW
  have CW := (show Hid _ from CW)
  clear hl h1 h2 hf hs hu
  go_enter Tryz.func13, Tryz.ntmps13
  go_wp2_with fail
  go_at_call 39
  rw [← hw1]
  refine Calls.mono CW.out ?_
  rintro e w5 ⟨v5, rfl, o5, b5⟩
  have B5 := (show Hid _ from (HL.out.below b5).1)
  have O5 := (show Hid (OwnY w.heap.size 9 1 w5 v5 us.length (strCells us)) from OwnY.base o5 HL.out.1.size)
  clear hw1 CW o5 b5 HL
  go_wp2
  refine bodyPost_ret (results_tmp2 rfl _ _ _) rfl ?_
  exact ⟨_, rfl, O5.out, B5.out⟩
end Go.Proofs.YtokkigfjabbdaaaGreatDoor
