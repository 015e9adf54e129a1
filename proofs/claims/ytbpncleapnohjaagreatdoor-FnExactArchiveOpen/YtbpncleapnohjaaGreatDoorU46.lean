/- worked: a deed is done to a shelf (written by mk/iar7.py). No condition. -/
import Derived.Test.YtbpncleapnohjaaGreatDoorU45
namespace Go.Proofs.YtbpncleapnohjaaGreatDoor
open Go.RowKit Go.MuLone
set_option maxRecDepth 100000
set_option linter.unusedVariables false

theorem Shelf.turn {B : Nat} {W : World} {N : Nat} {a : PArch} {m : Int} (h : Shelf B W N a m) (m' : Int) : Shelf B (W.setCell ⟨N, 2, none⟩ (.int .i32 m')) N a m' ∧ W.cell? ⟨N, 2, none⟩ = some (.int .i32 m) ∧ W.frozen? ⟨N, 2, none⟩ = false := by
  obtain ⟨sa, sn, sc, la, ln, lc, q, r, ea, en', ec, hB, hN, hd, he⟩ := h
  have s := (Sf.refl hN).set 2 (.int .i32 m')
  exact ⟨⟨sa, sn, sc, la, ln, lc, q, r, ea, en', ec, hB, s.sh, s.disk hN hd, s.ents hN he⟩, (rk_ten hN).2.2.1, rk_thaw hN⟩
theorem Shelf.past {B : Nat} {W W' : World} {N k : Nat} {a : PArch} {m : Int} (h : Shelf B W N a m) (g : W.grownBy W' (some k)) (hk : k ≠ N) {cs : Array Value} {t : TypeId} {fr : Nat × Nat} (hb : W.heap[k]? = some (.cells cs t fr)) (ht : t ≠ 9 ∧ t ≠ 88 ∧ t ≠ 70) : Shelf B W' N a m := by
  obtain ⟨sa, sn, sc, la, ln, lc, q, r, ea, en', ec, hB, hN, hd, he⟩ := h
  exact ⟨sa, sn, sc, la, ln, lc, q, r, ea, en', ec, hB, (g.block _ (lt_of_block hN) (fun e => hk (Option.some.inj e).symm)).trans hN, hd.turned g (fun j e => by cases e; exact ⟨_, _, _, hb, ht.1, ht.2.1⟩), OwnEy.turned he g (fun j e => by cases e; exact ⟨_, _, _, hb, ht.2.2⟩)⟩
theorem Shelf.ne {B : Nat} {W : World} {N k : Nat} {a : PArch} {m : Int} (h : Shelf B W N a m) {cs : Array Value} {t : TypeId} (hb : W.heap[k]? = some (.cells cs t (0, 0))) (ht : t ≠ 113) : k ≠ N := fun e => by
  obtain ⟨sa, sn, sc, la, ln, lc, q, r, ea, en', ec, hB, hN, hd, he⟩ := h
  subst e
  rw [hN] at hb
  cases hb
  exact ht rfl
theorem Shelf.sent {B : Nat} {W W' : World} {N : Nat} {a : PArch} {m : Int} (h : Shelf B W N a m) (g : W.grownBy W' (some N)) (s : Sent W) : Sent W' := by
  obtain ⟨sa, sn, sc, la, ln, lc, q, r, ea, en', ec, hB, hN, hd, he⟩ := h
  obtain ⟨x, s⟩ := s
  have hlt := lt_of_cell s
  have hne : 0 ≠ N := fun e => by
    subst e
    rw [(rk_ten hN).1] at s
    cases s
  refine ⟨x, ?_⟩
  rw [← s]
  exact World.cell?_of_block (g.block _ hlt (fun e => hne (Option.some.inj e)))
/-- A shelf's block is one of the call's own: what turns it turns nothing that was there before. -/
theorem Hl.shelf {w W W' : World} {B N : Nat} {a : PArch} {m : Int} {L : List (Nat × Array Value × TypeId)} (h : Hl w L W) (s : Shelf B W N a m) (hB : w.heap.size ≤ B) (g : W.grownBy W' (some N)) (hL : ∀ p ∈ L, p.2.2 ≠ 113) : Hl w L W' :=
  h.past g (fun r e => by cases e; exact ⟨Nat.le_trans hB s.ge, fun p hp => s.ne (h.2 p hp) (hL p hp)⟩)
/-- A deed: done to a shelf of a it leaves one of q, and the code. -/
def Deed (a : PArch) (q : PArch × Int) (f : FuncId) : Prop := ∀ (B : Nat) (W : World) (N : Nat), Shelf B W N a 1 → Sent W → B ≤ W.heap.size → Calls Tryz.prog f #[.pointer (some ⟨N, 0, none⟩)] W fun e w' => e = .returned (.int .i64 q.2) ∧ Shelf B w' N q.1 1 ∧ W.grownBy w' (some N)
def workedA (a : PArch) (q : PArch × Int) : PArch × Int := if archB a = false then (zeroA, 1) else q

set_option maxHeartbeats 4000000 in
set_option maxRecDepth 100000 in
theorem iworked_any {w : World} {v : Value} {a : PArch} {f : FuncId} (q : PArch × Int) (h : ArAt w v a) (hf : ArFit a) (hs : Sent w) (hD : archB a = true → Deed a q f) (he : ∀ (args : Array Value) (w : World), (callFunc f args).run Tryz.prog w = .ok (.enter f args) w) :
    Calls Tryz.prog 46 #[v, .func (.func f) #[] #[]] w fun e w' => ∃ v', e = .returned (.tuple #[v', .int .i64 (workedA a q).2]) ∧ OwnAy w.heap.size w' v' (workedA a q).1 ∧ Below w.heap.size w w' := by
  have HA := (show Hid (ArAt w v a) from h)
  have HF := (show Hid (ArFit a) from hf)
  have HT := (show Hid (Sent w) from hs)
  have HDD := (show Hid (archB a = true → Deed a q f) from hD)
  obtain ⟨qb, hq⟩ : ∃ q, q = archB a := ⟨_, rfl⟩
  have HW : Hid (workedA a q = if qb = false then (zeroA, 1) else q) := (show _ = _ by rw [workedA, hq])
  obtain ⟨⟨ra, rc⟩, hra⟩ : ∃ x, x = workedA a q := ⟨_, rfl⟩
  rw [← hra] at HW
  rw [← hra]
  simp only
  rw [← hq] at HDD
  obtain ⟨sa, sn, sc, la, ln, lc, ea, en', ec, rfl, h1, h2⟩ := h
  have hl := ((Hl.refl w).new #[.bool a.up, .slice sa sn sc, .slice la ln lc, .int .i64 a.head.no, .int .i64 a.head.area, .int .i64 a.head.en, .slice ea en' ec] 39).new #[.bool false, .slice none 0 0, .slice none 0 0, .int .i64 0, .int .i64 0, .int .i64 0, .slice none 0 0] 39
  obtain ⟨w1, hw1⟩ : ∃ x, x = (w.alloc (.cells #[.bool a.up, .slice sa sn sc, .slice la ln lc, .int .i64 a.head.no, .int .i64 a.head.area, .int .i64 a.head.en, .slice ea en' ec] 39)).alloc (.cells #[.bool false, .slice none 0 0, .slice none 0 0, .int .i64 0, .int .i64 0, .int .i64 0, .slice none 0 0] 39) := ⟨_, rfl⟩
  rw [← hw1, World.size_alloc] at hl
  have HL := (show Hid (Hl w [(w.heap.size + 1, #[.bool false, .slice none 0 0, .slice none 0 0, .int .i64 0, .int .i64 0, .int .i64 0, .slice none 0 0], 39), (w.heap.size, #[.bool a.up, .slice sa sn sc, .slice la ln lc, .int .i64 a.head.no, .int .i64 a.head.area, .int .i64 a.head.en, .slice ea en' ec], 39)] w1) from hl)
  have CS := ishelfOf_any (HA.out.below hl.1) hf (hs.below hl.1)
  rw [← hq] at CS
  have CS := (show Hid _ from CS)
  clear hl h1 h2 hf hs hD hq hra
  go_enter_defers Tryz.func46, Tryz.ntmps46
  go_wp2_with fail
  go_at_call 35
  rw [← hw1]
  refine Calls.mono CS.out ?_
  rintro e w2 ⟨ho, b2⟩
  have S2 := (show Hid (Hl w [(w.heap.size + 1, #[.bool false, .slice none 0 0, .slice none 0 0, .int .i64 0, .int .i64 0, .int .i64 0, .slice none 0 0], 39), (w.heap.size, #[.bool a.up, .slice sa sn sc, .slice la ln lc, .int .i64 a.head.no, .int .i64 a.head.area, .int .i64 a.head.en, .slice ea en' ec], 39)] w2) from HL.out.below b2)
  have T2 := (show Hid (Sent w2) from HT.out.below S2.out.1)
  have Z1 := (show Hid (w.heap.size ≤ w1.heap.size) from HL.out.1.size)
  have Z2 := (show Hid (w1.heap.size ≤ w2.heap.size) from b2.size)
  clear hw1 CS b2 HL
  rcases ho with ⟨rfl, rfl⟩ | ⟨rfl, N, rfl, sh⟩
  · have e1 := HW.out
    rw [if_pos rfl] at e1
    cases e1
    clear HW HDD
    obtain ⟨d0, d1, d2, d3, d4, d5, d6, _⟩ := rk_seven S2.out.at0
    have j0 := rk_thaw (k := 0) S2.out.at0
    have j1 := rk_thaw (k := 1) S2.out.at0
    have j2 := rk_thaw (k := 2) S2.out.at0
    have j3 := rk_thaw (k := 3) S2.out.at0
    have j4 := rk_thaw (k := 4) S2.out.at0
    have j5 := rk_thaw (k := 5) S2.out.at0
    have j6 := rk_thaw (k := 6) S2.out.at0
    have S9 := (show Hid _ from S2.out.set7 (Nat.le_succ _) (by simp) (.bool false) (.slice none 0 0) (.slice none 0 0) (.int .i64 0) (.int .i64 0) (.int .i64 0) (.slice none 0 0))
    go_wp2
    exact ⟨_, arch_res rfl rfl rfl S9.out.at0, _, rfl, ⟨none, 0, 0, none, 0, 0, none, 0, 0, rfl, ⟨none, 0, 0, none, 0, 0, rfl, .inl ⟨rfl, rfl, none, rfl, fun _ => trivial⟩, .inl ⟨rfl, rfl, none, rfl, fun _ => trivial⟩⟩, .inl ⟨rfl, rfl, none, rfl, fun _ => trivial⟩⟩, S9.out.1⟩
  · have e1 := HW.out
    rw [if_neg (by decide)] at e1
    subst e1
    have SH := (show Hid (Shelf w1.heap.size w2 N a 0) from sh)
    have DD := (show Hid (Deed a (ra, rc) f) from HDD.out rfl)
    obtain ⟨tu, k2, k3⟩ := sh.turn 1
    have hge := sh.ge
    clear HW HDD sh
    go_wp2_with fail
    go_at_call 72
    refine (lock_free muLib ⟨N, 2, none⟩ _ k2 k3).mono ?_
    rintro e w3 ⟨rfl, hw3⟩
    have SH3 := (show Hid (Shelf w1.heap.size w3 N a 1) from by rw [hw3]; exact tu)
    have g3 : w2.grownBy w3 (some N) := by rw [hw3]; exact grown_setCell _ _ _ _
    have S3 := (show Hid (Hl w [(w.heap.size + 1, #[.bool false, .slice none 0 0, .slice none 0 0, .int .i64 0, .int .i64 0, .int .i64 0, .slice none 0 0], 39), (w.heap.size, #[.bool a.up, .slice sa sn sc, .slice la ln lc, .int .i64 a.head.no, .int .i64 a.head.area, .int .i64 a.head.en, .slice ea en' ec], 39)] w3) from S2.out.shelf SH.out Z1.out g3 (by simp))
    have T3 := (show Hid (Sent w3) from SH.out.sent g3 T2.out)
    have Z3 := (show Hid (w1.heap.size ≤ w3.heap.size) from Nat.le_trans Z2.out g3.size)
    clear hw3 g3 tu k2 k3 S2 SH T2
    go_wp2_with fail
    refine Calls.mono (DD.out _ _ _ SH3.out T3.out Z3.out) ?_
    rintro e w4 ⟨rfl, sh4, g4⟩
    have SH4 := (show Hid (Shelf w1.heap.size w4 N ra 1) from sh4)
    have S4 := (show Hid (Hl w [(w.heap.size + 1, #[.bool false, .slice none 0 0, .slice none 0 0, .int .i64 0, .int .i64 0, .int .i64 0, .slice none 0 0], 39), (w.heap.size, #[.bool a.up, .slice sa sn sc, .slice la ln lc, .int .i64 a.head.no, .int .i64 a.head.area, .int .i64 a.head.en, .slice ea en' ec], 39)] w4) from S3.out.shelf SH3.out Z1.out g4 (by simp))
    have Z4 := (show Hid (w1.heap.size ≤ w4.heap.size) from Nat.le_trans Z3.out g4.size)
    clear sh4 g4 S3 SH3 T3 Z3 DD
    go_wp2_with fail
    go_at_call 74
    refine (ishArchive_any SH4.out Z4.out).mono ?_
    rintro e w5 ⟨v5, rfl, o5, b5⟩
    have S5 := (show Hid (Hl w [(w.heap.size + 1, #[.bool false, .slice none 0 0, .slice none 0 0, .int .i64 0, .int .i64 0, .int .i64 0, .slice none 0 0], 39), (w.heap.size, #[.bool a.up, .slice sa sn sc, .slice la ln lc, .int .i64 a.head.no, .int .i64 a.head.area, .int .i64 a.head.en, .slice ea en' ec], 39)] w5) from S4.out.below b5)
    have SH5 := (show Hid (Shelf w1.heap.size w5 N ra 1) from SH4.out.below b5)
    have O5 := (show Hid (OwnAy w1.heap.size w5 v5 ra) from o5)
    clear b5 o5 S4 SH4 Z4
    obtain ⟨ya, yn, yc, za, zn, zc, fa, fn, fc, e5, _⟩ := O5.out
    subst e5
    obtain ⟨d0, d1, d2, d3, d4, d5, d6, _⟩ := rk_seven S5.out.at0
    have j0 := rk_thaw (k := 0) S5.out.at0
    have j1 := rk_thaw (k := 1) S5.out.at0
    have j2 := rk_thaw (k := 2) S5.out.at0
    have j3 := rk_thaw (k := 3) S5.out.at0
    have j4 := rk_thaw (k := 4) S5.out.at0
    have j5 := rk_thaw (k := 5) S5.out.at0
    have j6 := rk_thaw (k := 6) S5.out.at0
    have hne := SH5.out.ne S5.out.at0 (by decide)
    have S9 := (show Hid _ from S5.out.set7 (Nat.le_succ _) (by simp) (.bool ra.up) (.slice ya yn yc) (.slice za zn zc) (.int .i64 ra.head.no) (.int .i64 ra.head.area) (.int .i64 ra.head.en) (.slice fa fn fc))
    have g9 := (show Hid _ from grown_set7 w5 (w.heap.size + 1) (.bool ra.up) (.slice ya yn yc) (.slice za zn zc) (.int .i64 ra.head.no) (.int .i64 ra.head.area) (.int .i64 ra.head.en) (.slice fa fn fc))
    have O9 := (show Hid _ from O5.out.turned g9.out (fun j e => by cases e; exact ⟨_, _, _, S5.out.at0, by decide, by decide, by decide⟩))
    have SH9 := (show Hid _ from SH5.out.past g9.out hne S5.out.at0 (by decide))
    clear O5 SH5
    go_wp2
    refine leaves_cons (f := 73) (args := #[.pointer (some ⟨N, 2, none⟩)]) (by simp) (by simp [go_sem]) ?_
    obtain ⟨_, k2, k3⟩ := Shelf.turn SH9.out 0
    refine (unlock_deferred muLib ⟨N, 2, none⟩ .returning _ k2 k3).mono ?_
    rintro e u' w7 ⟨rfl, rfl, hw7⟩
    have g7 := (show Hid (World.grownBy _ w7 (some N)) from by rw [hw7]; exact grown_setCell _ _ _ _)
    have S10 := (show Hid _ from S9.out.shelf SH9.out Z1.out g7.out (by simp))
    have O10 := (show Hid (OwnAy w1.heap.size w7 _ ra) from OwnAy.turned O9.out g7.out (fun j e => by
      cases e
      obtain ⟨_, _, _, _, _, _, _, _, _, _, _, _, hN, _⟩ := SH9.out
      exact ⟨_, _, _, hN, by decide, by decide, by decide⟩))
    exact ⟨_, arch_res rfl rfl rfl S10.out.at0, _, rfl, OwnAy.base O10.out Z1.out, S10.out.1⟩
end Go.Proofs.YtbpncleapnohjaaGreatDoor

/- The program's ArchiveCrash, ArchiveOpen (written by mk/iar8.py). No condition. -/
namespace Go.Proofs.YtbpncleapnohjaaGreatDoor
open Go.RowKit Go.MuLone
set_option maxRecDepth 100000
set_option linter.unusedVariables false

theorem worked_crash (a : PArch) : workedA a (crashS a) = crashA a := rfl
theorem worked_open (a : PArch) : workedA a (openS a) = openA a := rfl

set_option maxHeartbeats 2000000 in
set_option maxRecDepth 100000 in
theorem iarCrash_any {w : World} {v : Value} {a : PArch} (h : ArAt w v a) (hf : ArFit a) (hs : Sent w) :
    Calls Tryz.prog 19 #[v] w fun e w' => ∃ v', e = .returned (.tuple #[v', .int .i64 (crashA a).2]) ∧ OwnAy w.heap.size w' v' (crashA a).1 ∧ Below w.heap.size w w' := by
  have HA := (show Hid (ArAt w v a) from h)
  obtain ⟨⟨ra, rc⟩, hra⟩ : ∃ x, x = crashA a := ⟨_, rfl⟩
  rw [← hra]
  simp only
  obtain ⟨sa, sn, sc, la, ln, lc, ea, en', ec, rfl, h1, h2⟩ := h
  have hl := ((Hl.refl w).new #[.bool a.up, .slice sa sn sc, .slice la ln lc, .int .i64 a.head.no, .int .i64 a.head.area, .int .i64 a.head.en, .slice ea en' ec] 39).new #[.bool false, .slice none 0 0, .slice none 0 0, .int .i64 0, .int .i64 0, .int .i64 0, .slice none 0 0] 39
  obtain ⟨w1, hw1⟩ : ∃ x, x = (w.alloc (.cells #[.bool a.up, .slice sa sn sc, .slice la ln lc, .int .i64 a.head.no, .int .i64 a.head.area, .int .i64 a.head.en, .slice ea en' ec] 39)).alloc (.cells #[.bool false, .slice none 0 0, .slice none 0 0, .int .i64 0, .int .i64 0, .int .i64 0, .slice none 0 0] 39) := ⟨_, rfl⟩
  rw [← hw1, World.size_alloc] at hl
  have HL := (show Hid (Hl w [(w.heap.size + 1, #[.bool false, .slice none 0 0, .slice none 0 0, .int .i64 0, .int .i64 0, .int .i64 0, .slice none 0 0], 39), (w.heap.size, #[.bool a.up, .slice sa sn sc, .slice la ln lc, .int .i64 a.head.no, .int .i64 a.head.area, .int .i64 a.head.en, .slice ea en' ec], 39)] w1) from hl)
  have CW := iworked_any (f := 47) (crashS a) (HA.out.below hl.1) hf (hs.below hl.1) (fun _ B W N s _ _ => ishCrash_any s) (run_callFunc_enter Tryz.func47 (by kernel_rfl) rfl)
  rw [worked_crash, ← hra] at CW
  have CW := (show Hid _ from CW)
  clear hl h1 h2 hf hs hra
  go_enter Tryz.func19, Tryz.ntmps19
  go_wp2_with fail
  go_at_call 46
  rw [← hw1]
  refine Calls.mono CW.out ?_
  rintro e w5 ⟨v5, rfl, o5, b5⟩
  have S5 := (show Hid (Hl w [(w.heap.size + 1, #[.bool false, .slice none 0 0, .slice none 0 0, .int .i64 0, .int .i64 0, .int .i64 0, .slice none 0 0], 39), (w.heap.size, #[.bool a.up, .slice sa sn sc, .slice la ln lc, .int .i64 a.head.no, .int .i64 a.head.area, .int .i64 a.head.en, .slice ea en' ec], 39)] w5) from HL.out.below b5)
  have O5 := (show Hid (OwnAy w.heap.size w5 v5 ra) from OwnAy.base o5 HL.out.1.size)
  clear b5 o5 HL hw1 CW
  obtain ⟨ya, yn, yc, za, zn, zc, fa, fn, fc, e5, _⟩ := O5.out
  subst e5
  obtain ⟨d0, d1, d2, d3, d4, d5, d6, _⟩ := rk_seven S5.out.at0
  have j0 := rk_thaw (k := 0) S5.out.at0
  have j1 := rk_thaw (k := 1) S5.out.at0
  have j2 := rk_thaw (k := 2) S5.out.at0
  have j3 := rk_thaw (k := 3) S5.out.at0
  have j4 := rk_thaw (k := 4) S5.out.at0
  have j5 := rk_thaw (k := 5) S5.out.at0
  have j6 := rk_thaw (k := 6) S5.out.at0
  have S9 := (show Hid _ from S5.out.set7 (Nat.le_succ _) (by simp) (.bool ra.up) (.slice ya yn yc) (.slice za zn zc) (.int .i64 ra.head.no) (.int .i64 ra.head.area) (.int .i64 ra.head.en) (.slice fa fn fc))
  have g9 := grown_set7 w5 (w.heap.size + 1) (.bool ra.up) (.slice ya yn yc) (.slice za zn zc) (.int .i64 ra.head.no) (.int .i64 ra.head.area) (.int .i64 ra.head.en) (.slice fa fn fc)
  have O9 := (show Hid _ from OwnAy.turned O5.out g9 (fun j e => by cases e; exact ⟨_, _, _, S5.out.at0, by decide, by decide, by decide⟩))
  clear g9 O5
  go_wp2
  refine bodyPost_ret (arch_res rfl rfl rfl S9.out.at0) rfl ?_
  exact ⟨_, rfl, O9.out, S9.out.1⟩

set_option maxHeartbeats 2000000 in
set_option maxRecDepth 100000 in
theorem iarOpen_any {w : World} {v : Value} {a : PArch} (h : ArAt w v a) (hf : ArFit a) (hs : Sent w) :
    Calls Tryz.prog 22 #[v] w fun e w' => ∃ v', e = .returned (.tuple #[v', .int .i64 (openA a).2]) ∧ OwnAy w.heap.size w' v' (openA a).1 ∧ Below w.heap.size w w' := by
  have HA := (show Hid (ArAt w v a) from h)
  obtain ⟨⟨ra, rc⟩, hra⟩ : ∃ x, x = openA a := ⟨_, rfl⟩
  rw [← hra]
  simp only
  obtain ⟨sa, sn, sc, la, ln, lc, ea, en', ec, rfl, h1, h2⟩ := h
  have hl := ((Hl.refl w).new #[.bool a.up, .slice sa sn sc, .slice la ln lc, .int .i64 a.head.no, .int .i64 a.head.area, .int .i64 a.head.en, .slice ea en' ec] 39).new #[.bool false, .slice none 0 0, .slice none 0 0, .int .i64 0, .int .i64 0, .int .i64 0, .slice none 0 0] 39
  obtain ⟨w1, hw1⟩ : ∃ x, x = (w.alloc (.cells #[.bool a.up, .slice sa sn sc, .slice la ln lc, .int .i64 a.head.no, .int .i64 a.head.area, .int .i64 a.head.en, .slice ea en' ec] 39)).alloc (.cells #[.bool false, .slice none 0 0, .slice none 0 0, .int .i64 0, .int .i64 0, .int .i64 0, .slice none 0 0] 39) := ⟨_, rfl⟩
  rw [← hw1, World.size_alloc] at hl
  have HL := (show Hid (Hl w [(w.heap.size + 1, #[.bool false, .slice none 0 0, .slice none 0 0, .int .i64 0, .int .i64 0, .int .i64 0, .slice none 0 0], 39), (w.heap.size, #[.bool a.up, .slice sa sn sc, .slice la ln lc, .int .i64 a.head.no, .int .i64 a.head.area, .int .i64 a.head.en, .slice ea en' ec], 39)] w1) from hl)
  have CW := iworked_any (f := 51) (openS a) (HA.out.below hl.1) hf (hs.below hl.1) (fun hb B W N s t l => ishOpen_any s (archB_disk hb).1 t l) (run_callFunc_enter Tryz.func51 (by kernel_rfl) rfl)
  rw [worked_open, ← hra] at CW
  have CW := (show Hid _ from CW)
  clear hl h1 h2 hf hs hra
  go_enter Tryz.func22, Tryz.ntmps22
  go_wp2_with fail
  go_at_call 46
  rw [← hw1]
  refine Calls.mono CW.out ?_
  rintro e w5 ⟨v5, rfl, o5, b5⟩
  have S5 := (show Hid (Hl w [(w.heap.size + 1, #[.bool false, .slice none 0 0, .slice none 0 0, .int .i64 0, .int .i64 0, .int .i64 0, .slice none 0 0], 39), (w.heap.size, #[.bool a.up, .slice sa sn sc, .slice la ln lc, .int .i64 a.head.no, .int .i64 a.head.area, .int .i64 a.head.en, .slice ea en' ec], 39)] w5) from HL.out.below b5)
  have O5 := (show Hid (OwnAy w.heap.size w5 v5 ra) from OwnAy.base o5 HL.out.1.size)
  clear b5 o5 HL hw1 CW
  obtain ⟨ya, yn, yc, za, zn, zc, fa, fn, fc, e5, _⟩ := O5.out
  subst e5
  obtain ⟨d0, d1, d2, d3, d4, d5, d6, _⟩ := rk_seven S5.out.at0
  have j0 := rk_thaw (k := 0) S5.out.at0
  have j1 := rk_thaw (k := 1) S5.out.at0
  have j2 := rk_thaw (k := 2) S5.out.at0
  have j3 := rk_thaw (k := 3) S5.out.at0
  have j4 := rk_thaw (k := 4) S5.out.at0
  have j5 := rk_thaw (k := 5) S5.out.at0
  have j6 := rk_thaw (k := 6) S5.out.at0
  have S9 := (show Hid _ from S5.out.set7 (Nat.le_succ _) (by simp) (.bool ra.up) (.slice ya yn yc) (.slice za zn zc) (.int .i64 ra.head.no) (.int .i64 ra.head.area) (.int .i64 ra.head.en) (.slice fa fn fc))
  have g9 := grown_set7 w5 (w.heap.size + 1) (.bool ra.up) (.slice ya yn yc) (.slice za zn zc) (.int .i64 ra.head.no) (.int .i64 ra.head.area) (.int .i64 ra.head.en) (.slice fa fn fc)
  have O9 := (show Hid _ from OwnAy.turned O5.out g9 (fun j e => by cases e; exact ⟨_, _, _, S5.out.at0, by decide, by decide, by decide⟩))
  clear g9 O5
  go_wp2
  refine bodyPost_ret (arch_res rfl rfl rfl S9.out.at0) rfl ?_
  exact ⟨_, rfl, O9.out, S9.out.1⟩
end Go.Proofs.YtbpncleapnohjaaGreatDoor
