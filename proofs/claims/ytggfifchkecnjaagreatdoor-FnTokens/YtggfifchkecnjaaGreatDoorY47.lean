/- The specification's cutter: marks (written by mk/scut5.py). No condition. -/
import Derived.Test.YtggfifchkecnjaaGreatDoorY46
namespace Go.Proofs.YtggfifchkecnjaaGreatDoor
open Go.RowKit
set_option maxRecDepth 100000
set_option linter.unusedVariables false

theorem doc_nat : ∀ (k : Nat) (hk : k < 7), ((⟨#[100, 111, 99, 116, 121, 112, 101]⟩ : ByteArray)[k]'(by show k < 7; omega)).toNat = (docL.getD k 0).toNat
  | 0, _ => rfl
  | 1, _ => rfl
  | 2, _ => rfl
  | 3, _ => rfl
  | 4, _ => rfl
  | 5, _ => rfl
  | 6, _ => rfl
  | k + 7, h => absurd h (by omega)
theorem doc_few : ∀ k, k < 7 → 0 ≤ docL.getD k 0 ∧ docL.getD k 0 < 256 := by decide
theorem doc_at (k : Nat) (hk : k < 7) : wrap64 (((⟨#[100, 111, 99, 116, 121, 112, 101]⟩ : ByteArray)[k]'(by show k < 7; omega)).toNat : Int) = docL.getD k 0 := by
  rw [doc_nat k hk]
  obtain ⟨h0, h1⟩ := doc_few k hk
  generalize docL.getD k 0 = x at h0 h1 ⊢
  have h2 : ((x.toNat : Nat) : Int) = x := by omega
  rw [h2]
  unfold wrap64; omega
theorem RBx.outT {w wr : World} (h : RBx w wr) {B : Nat} (hB : w.heap.size ≤ B) {va : Value} {rs : List (ByteArray × ByteArray)} (hr : wr.ownsRow B 81 2 va rs.length (pairCells rs)) (k : Int) (nm tx : ByteArray) (sf : Bool) : (tokSet wr w.heap.size k nm va tx sf).heap[w.heap.size]? = some (.cells #[.int .i64 k, .string nm, va, .string tx, .bool sf] 30 (0, 0)) ∧
    (TokIs w.heap.size (tokSet wr w.heap.size k nm va tx sf) (tokVal k nm va tx sf) ⟨k, nm, rs, tx, sf⟩ ∧ Below w.heap.size w (tokSet wr w.heap.size k nm va tx sf)) :=
  tok_out h.bel (Nat.le_refl _) h.r (row_base hr hB) k nm tx sf

set_option maxHeartbeats 1000000 in
theorem l5Mark_any {v : Value} {xs ys : List Int} {w : World} (h : SPage w v xs ys) (i : Nat) (hi : i ≤ ys.length) :
    Calls Tryz.prog 49 #[v, .int .i64 i] w fun e w' => ∃ u, e = .returned (.tuple #[u, .int .i64 ((markM ys i).2 : Nat)]) ∧ TokIs w.heap.size w' u (markM ys i).1 ∧ Below w.heap.size w w' := by
  have hlen := h.len
  have hyl : ys.length ≤ 3000 := by rw [hlen]; exact h.few
  have HP := (show Hid (∀ W, Below w.heap.size w W → SPage W v xs ys) from fun W b => h.below b)
  obtain ⟨la, lc, rfl, _⟩ := h.sl
  obtain ⟨cM, hcM⟩ : ∃ z, z = markM ys i := ⟨_, rfl⟩
  have hcm : cM = (if stands ys i [45, 45] = true then comM ys (i + 2) else if standsLow ys i docL = true then docM ys (i + 7) else remM ys i) := hcM
  rw [← hcM]
  clear hcM
  have hwa2 : IntKind.i64.wrap ((i : Int) + 2) = ((i + 2 : Nat) : Int) := by rw [wrap_fit (by omega) (by omega)]; omega
  obtain ⟨w1, hw1⟩ : ∃ z, z = w.alloc (.cells #[.int .i64 0, .string ⟨#[]⟩, .slice none 0 0, .string ⟨#[]⟩, .bool false] 30) := ⟨_, rfl⟩
  have T1 := (show Hid (RBx w w1) from by rw [hw1]; exact RBx.new w)
  clear h
  go_enter Tryz.func49, Tryz.ntmps49
  go_upto_region 1 with fail
  rw [← hw1]
  clear hw1
  obtain ⟨q1, e1⟩ : ∃ q, stands ys i [45, 45] = q := ⟨_, rfl⟩
  go_wp2_with fail
  go_at_call 81
  refine ((HP.out w1 T1.out.bel).has i (by omega) _ [45, 45] (by kernel_rfl) (by decide) (by decide)).mono ?_
  rintro e w2 ⟨rfl, b2⟩
  have T2 := (show Hid _ from T1.out.below b2)
  clear b2 T1
  rw [e1]
  cases q1
  rotate_left
  · rw [if_pos e1] at hcm
    have HM := (show Hid _ from hcm)
    have hi2 : i + 2 ≤ ys.length := stands_le e1 (by decide) (by decide)
    clear hcm e1
    go_wp2_with fail
    go_at_call 92
    obtain ⟨mm, hmm0⟩ : ∃ z, z = comM ys (i + 2) := ⟨_, rfl⟩
    have cc := l5Comment_any (HP.out w2 T2.out.bel) (i + 2) hi2
    rw [← hmm0] at HM cc
    clear hmm0
    refine Calls.mono cc ?_
    rintro e w3 ⟨u, rfl, t3, b3⟩
    have HB := (show Hid _ from T2.out.bel.size)
    have T3 := (show Hid _ from T2.out.below b3)
    clear T2 cc b3
    obtain ⟨⟨⟨tk, tn, tr, tt, ts⟩, mj⟩, hmm⟩ : ∃ z, z = mm := ⟨_, rfl⟩
    subst hmm
    have HM2 := (show Hid _ from HM.out)
    obtain ⟨va, hu, row⟩ := t3
    obtain ⟨va1, va2, va3, rfl⟩ := row_slice row
    simp only at hu row
    obtain ⟨o1, o2⟩ := T3.out.outT (HB.out) row tk tn tt ts
    have O2 := (show Hid _ from o2)
    unfold tokSet at o1
    have O1 := (show Hid _ from o1)
    obtain ⟨⟨p0, p1, p2, p3, p4⟩, q0, q1, q2, q3, q4⟩ := tok_cells T3.out.r
    subst hu
    clear o1 o2 T3 HM row
    unfold tokVal
    go_wp2
    (try simp only [Exit.inBlock, Exit.then])
    refine bodyPost_ret (tok_res (f := Tryz.f49) (p := 4) (q := 5) rfl (k := tk) (nm := tn) (va := .slice va1 va2 va3) (tx := tt) (sf := ts) rfl rfl O1.out) rfl ?_
    rw [HM2.out]
    exact ⟨_, rfl, O2.out⟩
  rw [if_neg (by rw [e1]; decide)] at hcm
  clear e1
  have HM := (show Hid _ from hcm)
  clear hcm
  go_wp2_with fail
  go_loopw [6] (fun u wr => ∃ (k : Nat), k ≤ 7 ∧ u = .int .i64 k ∧ Hid (RBx w wr ∧ standsLow ys i (docL.take k) = true)) (fun u _ => 8 - (intOf u).toNat)
  case atStart => exact ⟨0, by decide, rfl, T2.out, rfl⟩
  case round =>
    clear T2
    obtain ⟨k, hk7, rfl, I⟩ := hrel
    have TR := (show Hid (RBx w wr) from I.out.1)
    have HS := (show Hid (standsLow ys i (docL.take k) = true) from I.out.2)
    clear I
    by_cases hk : k < 7
    · have hwk : IntKind.i64.wrap ((i : Int) + (k : Int)) = ((i + k : Nat) : Int) := by rw [wrap_fit (by omega) (by omega)]; omega
      obtain ⟨x, hx⟩ : ∃ x, x = atL ys (i + k) := ⟨_, rfl⟩
      have CA := (show Hid (∀ n, Calls Tryz.prog 43 #[.slice la xs.length lc, .int .i64 ((i : Int) + (k : Int))] (wr.drewN n) fun e w' => e = .returned (.int .i64 x) ∧ w' = wr.drewN n) from fun n => by
        have hh := (HP.out _ (TR.out.bel.trans (below_drewN n))).at' (i + k)
        rw [← hx, Int.natCast_add] at hh
        exact hh)
      have CL := (show Hid (∀ n, Calls Tryz.prog 84 #[.int .i64 x] (wr.drewN n) fun e w' => e = .returned (.int .i64 (lowerOf x)) ∧ w' = wr.drewN n) from fun n => slower_any x _)
      have HX := (show Hid (x = atL ys (i + k)) from hx)
      clear hx
      have hstep := standsLow_succ ys i docL k hk
      have hno := standsLow_no (ys := ys) (k := i) (l := docL) (j := k) hk
      rw [← HX.out] at hstep hno
      have hdoc := doc_at k hk
      obtain ⟨c, hc⟩ : ∃ c, c = docL.getD k 0 := ⟨_, rfl⟩
      rw [← hc] at hstep hno hdoc
      rw [HS.out] at hstep
      clear hc
      have ST := (show Hid _ from hstep)
      have NO := (show Hid _ from hno)
      have DOC := (show Hid _ from hdoc)
      clear hstep hno hdoc HS
      go_wp2_with fail
      go_big_quiet ((first | (go_at_call 43; refine Calls.quiet_of_same (CA.out _)) | (go_at_call 84; refine Calls.quiet_of_same (CL.out _))))
      rw [DOC.out]
      have TQ := (show Hid _ from TR.out.below (below_drewN nq))
      obtain ⟨wq, hwq⟩ : ∃ z, z = wr.drewN nq := ⟨_, rfl⟩
      rw [← hwq] at TQ
      rw [← hwq]
      clear CA CL hwq TR DOC
      by_cases hq : lowerOf x = c
      · have hb : (lowerOf x != c) = false := by simp [hq]
        have S2 := (show Hid (standsLow ys i (docL.take (k + 1)) = true) from (show standsLow ys i (docL.take (k + 1)) = true by
          rw [ST.out]; simp [hq]))
        have hwk1 : IntKind.i64.wrap ((k : Int) + 1) = ((k + 1 : Nat) : Int) := by rw [wrap_fit (by omega) (by omega)]; omega
        clear ST NO hq
        go_wp2
        go_roundw
        case rel => exact ⟨k + 1, by omega, rfl, TQ.out, S2.out⟩
        case measure => simp [intOf]; omega
      · have hb : (lowerOf x != c) = true := by simp [hq]
        have HM3 := (show Hid (cM = remM ys i) from (show _ = _ by rw [HM.out, NO.out hq]; rfl))
        clear ST NO hq
        obtain ⟨mm, hmm0⟩ : ∃ z, z = remM ys i := ⟨_, rfl⟩
        have cc := l5Remark_any (HP.out wq TQ.out.bel) i hi
        rw [← hmm0] at HM3 cc
        clear hmm0 HM
        have HM := (show Hid (cM = mm) from HM3.out)
        clear HM3
        go_wp2_with fail
        go_at_call 51
        refine Calls.mono cc ?_
        rintro e w3 ⟨u, rfl, t3, b3⟩
        have HB := (show Hid _ from TQ.out.bel.size)
        have T3 := (show Hid _ from TQ.out.below b3)
        clear TQ cc b3
        obtain ⟨⟨⟨tk, tn, tr, tt, ts⟩, mj⟩, hmm⟩ : ∃ z, z = mm := ⟨_, rfl⟩
        subst hmm
        have HM2 := (show Hid _ from HM.out)
        obtain ⟨va, hu, row⟩ := t3
        obtain ⟨va1, va2, va3, rfl⟩ := row_slice row
        simp only at hu row
        obtain ⟨o1, o2⟩ := T3.out.outT (HB.out) row tk tn tt ts
        have O2 := (show Hid _ from o2)
        unfold tokSet at o1
        have O1 := (show Hid _ from o1)
        obtain ⟨⟨p0, p1, p2, p3, p4⟩, q0, q1, q2, q3, q4⟩ := tok_cells T3.out.r
        subst hu
        clear o1 o2 T3 HM row
        unfold tokVal
        go_wp2
        (try simp only [Exit.inBlock, Exit.then])
        refine bodyPost_ret (tok_res (f := Tryz.f49) (p := 4) (q := 5) rfl (k := tk) (nm := tn) (va := .slice va1 va2 va3) (tx := tt) (sf := ts) rfl rfl O1.out) rfl ?_
        rw [HM2.out]
        exact ⟨_, rfl, O2.out⟩
    · have hk8 : k = 7 := by omega
      subst hk8
      have hs : standsLow ys i docL = true := HS.out
      have hi7 := standsL_le hs
      have hm := HM.out
      rw [if_pos hs] at hm
      obtain ⟨f1, hf1⟩ : ∃ z, z = skipB ys (i + 7) := ⟨_, rfl⟩
      obtain ⟨e1, he1⟩ : ∃ z, z = upTo endWord ys f1 := ⟨_, rfl⟩
      obtain ⟨g1, hg1⟩ : ∃ z, z = upTo isGr ys e1 := ⟨_, rfl⟩
      obtain ⟨nm, hnm⟩ : ∃ z, z = shortOf ys f1 e1 := ⟨_, rfl⟩
      have hf1l : f1 ≤ ys.length := by rw [hf1]; exact (skip_le hi7).2
      have hfe : f1 ≤ e1 := by rw [he1]; exact upTo_ge _ _ _
      have he1l : e1 ≤ ys.length := by rw [he1]; exact upTo_le hf1l
      have hg1l : g1 ≤ ys.length := by rw [hg1]; exact upTo_le he1l
      have HM2 := (show Hid (cM = (⟨4, nm, [], ⟨#[]⟩, false⟩, min (g1 + 1) ys.length)) from (show _ = _ by
        rw [hm, past_min hg1l]; unfold docM; rw [← hf1, ← he1, ← hg1, ← hnm]))
      have HF := (show Hid (skipB ys (i + 7) = f1) from hf1.symm)
      have HE := (show Hid (upTo endWord ys f1 = e1) from he1.symm)
      have HG := (show Hid (upTo isGr ys e1 = g1) from hg1.symm)
      have HN := (show Hid (shortOf ys f1 e1 = nm) from hnm.symm)
      have hwa7 : IntKind.i64.wrap ((i : Int) + 7) = ((i + 7 : Nat) : Int) := by rw [wrap_fit (by omega) (by omega)]; omega
      have hwg : IntKind.i64.wrap ((g1 : Int) + 1) = ((g1 + 1 : Nat) : Int) := by rw [wrap_fit (by omega) (by omega)]; omega
      clear hs hm hf1 he1 hg1 hnm HM HS hk
      go_wp2_with fail
      go_at_call 88
      refine ((HP.out wr TR.out.bel).skip (i + 7)).mono ?_
      rintro e w3 ⟨rfl, rfl⟩
      rw [HF.out]
      go_wp2_with fail
      go_at_call 86
      refine ((HP.out w3 TR.out.bel).until' f1 (by omega) true 62 62 62 until_word).mono ?_
      rintro e w4 ⟨rfl, rfl⟩
      rw [HE.out]
      go_wp2_with fail
      go_at_call 87
      refine ((HP.out w4 TR.out.bel).name f1 e1 hfe he1l).mono ?_
      rintro e w5 ⟨rfl, b5⟩
      rw [HN.out]
      have T5 := (show Hid _ from TR.out.below b5)
      obtain ⟨w6, hw6⟩ : ∃ z, z = w5.alloc (.cells #[.int .i64 4, .string nm, .slice none 0 0, .string ⟨#[]⟩, .bool false] 30) := ⟨_, rfl⟩
      obtain ⟨T, hT⟩ : ∃ z, z = w5.heap.size := ⟨_, rfl⟩
      have b6 : Below w5.heap.size w5 w6 := by rw [hw6]; exact (Below.refl _ _).alloc (Nat.le_refl _) _
      have TA := (show Hid (TgAt w w.heap.size T 4 nm (.slice none 0 0) false [] w6) from ⟨T5.out.bel.trans (b6.mono T5.out.bel.size), (b6.block _ (lt_of_block T5.out.r)).trans T5.out.r, by rw [hw6, hT]; exact heap_alloc_new _ _, nil_row _ _, by rw [hT]; exact lt_of_block T5.out.r, Nat.le_refl _⟩)
      have HW6 := (show Hid (w6 = _) from hw6)
      have HHT := (show Hid (T = w5.heap.size) from hT)
      clear b5 b6 hw6 hT TR T5
      go_upto_region 11 with fail
      rw [← HW6.out, ← HHT.out]
      clear HW6 HHT
      refine region_tail 8 (by kernel_rfl) (by kernel_rfl) ?_
      intro w12 K1 hX1 hK1
      have ne := One.any w12
      have TD := (show Hid (TgAt w w.heap.size T 4 nm (.slice none 0 0) false [] w12) from by rw [hX1.out]; exact TA.out.below (below_drewN 1))
      obtain ⟨⟨a0, a1, a2, a3, a4⟩, _⟩ := tok_cells TD.out.t
      have d0 : ∀ n : One w12, n.w.cell? ⟨T, 0, none⟩ = some (.int .i64 4) := fun n => by rw [n.eq]; exact a0
      have d1 : ∀ n : One w12, n.w.cell? ⟨T, 1, none⟩ = some (.string nm) := fun n => by rw [n.eq]; exact a1
      have d2 : ∀ n : One w12, n.w.cell? ⟨T, 2, none⟩ = some (.slice none 0 0) := fun n => by rw [n.eq]; exact a2
      have d3 : ∀ n : One w12, n.w.cell? ⟨T, 3, none⟩ = some (.string ⟨#[]⟩) := fun n => by rw [n.eq]; exact a3
      have d4 : ∀ n : One w12, n.w.cell? ⟨T, 4, none⟩ = some (.bool false) := fun n => by rw [n.eq]; exact a4
      have C1 := (show Hid (∀ n : One w12, Calls Tryz.prog 86 #[.slice la xs.length lc, .int .i64 e1, .bool false, .int .i64 62, .int .i64 62, .int .i64 62] n.w fun e w' => e = .returned (.int .i64 (g1 : Nat)) ∧ w' = n.w) from fun n => by
        have := (HP.out n.w (by rw [n.eq]; exact TD.out.bel)).until' e1 (by omega) false 62 62 62 until_gr
        rw [HG.out] at this
        exact this)
      have C2 := (show Hid (∀ n : One w12, Calls Tryz.prog 93 #[.int .i64 ((g1 : Int) + 1), .int .i64 (xs.length : Int)] n.w fun e w' => e = .returned (.int .i64 (min (g1 + 1) ys.length : Nat)) ∧ w' = n.w) from fun n => by rw [hlen]; exact l1Min_any (g1 + 1) xs.length n.w)
      simp only [List.take_succ_cons, List.take_zero, List.drop_succ_cons, List.drop_zero] at hK1 ⊢
      repeat (go_big_quiet_step (first | (go_at_call 86; with_reducible exact quiet_w (C1.out _)) | (go_at_call 93; with_reducible exact quiet_w (C2.out _))))
      refine wpQuiet_nil ?_
      refine hK1.out _ ?_
      clear hK1 d0 d1 d2 d3 d4 ne C1 C2 hX1 TA a0 a1 a2 a3 a4
      obtain ⟨⟨p0, p1, p2, p3, p4⟩, q0, q1, q2, q3, q4⟩ := tok_cells TD.out.r
      obtain ⟨o1, o2⟩ := tok_out TD.out.bel TD.out.ge TD.out.r (nil_row w12 w.heap.size) 4 nm ⟨#[]⟩ false
      have O2 := (show Hid _ from o2)
      unfold tokSet at o1
      have O1 := (show Hid _ from o1)
      clear o1 o2 TD
      go_wp2
      (try simp only [Exit.inBlock, Exit.then])
      refine bodyPost_ret (tok_res (f := Tryz.f49) (p := 4) (q := 5) rfl (k := 4) (nm := nm) (va := .slice none 0 0) (tx := ⟨#[]⟩) (sf := false) rfl rfl O1.out) rfl ?_
      rw [HM2.out]
      exact ⟨_, rfl, O2.out⟩
end Go.Proofs.YtggfifchkecnjaaGreatDoor
