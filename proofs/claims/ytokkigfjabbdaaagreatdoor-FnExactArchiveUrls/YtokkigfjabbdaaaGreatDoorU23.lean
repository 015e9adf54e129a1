/- A region that draws its order, in which all but the last operations only read: one walk, and the last ones in their order, whatever they do. No condition. -/
import Derived.Test.YtokkigfjabbdaaaGreatDoorU0
import Derived.StillTail
import Derived.BigQuiet
import Derived.Test.YtokkigfjabbdaaaGreatDoorU22
import Derived.Test.YtokkigfjabbdaaaGreatDoorU15
import Derived.Test.YtokkigfjabbdaaaGreatDoorU21
import Derived.Test.YtokkigfjabbdaaaGreatDoorU12
namespace Go.Proofs.YtokkigfjabbdaaaGreatDoor
open Go.RowKit
set_option maxRecDepth 100000
set_option linter.unusedVariables false

/-- Just one world. -/
def One (w1 : World) : Type := { w : World // w = w1 }
def One.w {w1 : World} (n : One w1) : World := n.1
theorem One.eq {w1 : World} (n : One w1) : n.w = w1 := n.2
theorem One.any (w1 : World) : Nonempty (One w1) := ⟨⟨w1, rfl⟩⟩

theorem still_of_quiet {P : Program} {ops : Array Oper} {w1 : World} {Q : Act → Prop} : ∀ (l : List Oper) (a : Act),
    wpQuiet P ops (fun w' => ∃ n : One w1, w' = n.w) Q l a → wpStill P ops w1 Q l a := by
  intro l
  induction l with
  | nil => exact fun a h => h
  | cons o rest ih =>
    intro a h
    unfold wpQuiet at h
    unfold wpStill
    by_cases hw : Region.wanted o (yielded ops a.tmps) = true
    · rw [if_pos hw] at h ⊢
      obtain ⟨v, h1, h2⟩ := h
      have h3 := h1 w1 ⟨⟨w1, rfl⟩, rfl⟩
      have h4 := ih _ h2
      unfold Oper.quietAt at h3
      unfold Oper.still
      generalize (execOp a.eval o).run P w1 = r at *
      cases r with
      | ok n w' =>
        cases n <;> simp only [Oper.quietUpon] at h3 <;> simp only [Oper.stillUpon]
        case value u =>
          obtain ⟨e1, e2⟩ := h3
          exact ⟨e1, by rw [e2]; exact h4⟩
        case skip =>
          obtain ⟨e1, e2⟩ := h3
          exact ⟨e1, by rw [← e2]; exact h4⟩
        case enter f args =>
          obtain ⟨e1, hc⟩ := h3
          exact ⟨e1, v, hc.mono (fun e w'' ⟨he, n, hn⟩ => ⟨he, hn.trans n.eq⟩), h4⟩
      | halt x w' => simp only [Oper.quietUpon] at h3
    · rw [if_neg hw] at h ⊢
      exact ih _ h

theorem region_tail {P : Program} {id : Nat} {Q : Exit → Act → World → Prop} {a : Act} {w : World} {l : List Oper} (n : Nat) (hm : P.follows .mixedOrders = true) (hB : Region.lexTailB .any l.toArray n = true)
    (h : ∀ (w1 : World) (K : Act → Prop), Hid (w1 = w.drew) → Hid (∀ a', wpList P l.toArray Q (l.drop n) a' w1 → K a') → wpQuiet P l.toArray (fun w' => ∃ n : One w1, w' = n.w) K (l.take n) a) : (Code.region id l.toArray true).wp P Q a w :=
  wp_region_still_tail n hm hB (still_of_quiet _ _ (h w.drew _ rfl (fun _ h => h)))
end Go.Proofs.YtokkigfjabbdaaaGreatDoor

/- The specification's IndexOf. No condition. -/
namespace Go.Proofs.YtokkigfjabbdaaaGreatDoor
open Go.RowKit
set_option maxRecDepth 100000
set_option linter.unusedVariables false

/-- A row of entries of the call's own. -/
abbrev OwnPs (B : Nat) (w : World) (v : Value) (ps : List (ByteArray × ByteArray)) : Prop := w.ownsRow B 70 2 v ps.length (pairCells ps)
theorem Tryz.infoEnt : (Tryz.prog.info? 70).map (fun i => (i.zero, i.size, i.bytes)) = some (some (.agg #[.string ⟨#[]⟩, .string ⟨#[]⟩]), 2, 32) := by kernel_rfl

theorem sv_oneP {w : World} {g : Nat} {x y : ByteArray} {t : TypeId} (h : w.heap[g]? = some (.cells #[.string x, .string y] t (0, 0))) : Sv 2 w (.slice (some ⟨g, 0, none⟩) 1 1) (pairCells [(x, y)]) := by
  obtain ⟨c0, c1, _, _⟩ := rk_two h
  refine ⟨some ⟨g, 0, none⟩, 1, 1, rfl, rfl, Nat.le_refl _, by unfold maxLen; omega, (fun e => by cases e), fun i hi => ⟨g, 0, rfl, ?_⟩⟩
  have hi' : i < 2 := hi
  match i, hi' with
  | 0, _ => simpa [pairCells] using c0
  | 1, _ => simpa [pairCells] using c1
theorem pair_one (ps : List (ByteArray × ByteArray)) : ∀ v ∈ pairCells ps, v.oneCell' = true := by
  intro v hv
  obtain ⟨r, _, hr⟩ := List.mem_flatMap.mp hv
  simp only [List.mem_cons, List.not_mem_nil, or_false] at hr
  rcases hr with rfl | rfl <;> rfl
theorem World.ownsRow.baseD {B B' : Nat} {e : TypeId} {size n : Nat} {w : World} {v : Value} {xs : List Value} (h : w.ownsRow B e size v n xs) (hB : B' ≤ B) : w.ownsRow B' e size v n xs := by
  obtain ⟨hl, hv | ⟨g, cap, cur, hv, hb, r⟩⟩ := h
  · exact ⟨hl, .inl hv⟩
  · exact ⟨hl, .inr ⟨g, cap, cur, hv, Nat.le_trans hB hb, r⟩⟩
theorem pairCells_app2 (xs ys : List (ByteArray × ByteArray)) : pairCells (xs ++ ys) = pairCells xs ++ pairCells ys := by simp [pairCells]
theorem geq_str (t : TypeId) (a b : ByteArray) : binOp .geq t (.string a) (.string b) = pure (.bool (!(Op.bytesLess a.toList b.toList))) := by simp [binOp, Op.stringOp]
theorem bytesLess_irr (l : List UInt8) : Op.bytesLess l l = false := by
  induction l with
  | nil => rfl
  | cons a l ih => simp [Op.bytesLess, ih]
theorem slt_irr (a : ByteArray) : slt a a = false := bytesLess_irr _

set_option maxHeartbeats 2000000 in
set_option maxRecDepth 100000 in
theorem sindexOf_any {v : Value} {rs : List PRec} {w : World} (h : Sv 3 w v (recCells rs)) (hn : rs.length ≤ 1048576) :
    Calls Tryz.prog 31 #[v] w fun e w' => ∃ v', e = .returned v' ∧ OwnPs w.heap.size w' v' (idxOf rs) ∧ Below w.heap.size w w' := by
  obtain ⟨a, ca, rfl, _, _, hca⟩ := h.recs
  have HC := (show Hid (∀ k (hk : k < rs.length), ∃ b off, a = some ⟨b, off, none⟩ ∧ b < w.heap.size ∧ w.cell? ⟨b, off + k * 3, none⟩ = some (.int .i64 rs[k].kind) ∧ w.cell? ⟨b, off + k * 3 + 1, none⟩ = some (.string rs[k].url) ∧ w.cell? ⟨b, off + k * 3 + 2, none⟩ = some (.string rs[k].body)) from hca)
  obtain ⟨i0, hi, hz0, hz1, hz2⟩ := info_parts Tryz.infoEnt
  clear h hca
  have hge := geq_str
  go_enter Tryz.func31, Tryz.ntmps31
  go_wp2_with fail
  have b1 : Below w.heap.size w (w.alloc (.cells #[] 70)) := (Below.refl _ _).alloc (Nat.le_refl _) _
  have o1 : OwnPs w.heap.size (w.alloc (.cells #[] 70)) (.slice (some ⟨w.heap.size, 0, none⟩) 0 0) [] := World.ownsRow_lit w #[] 0 (Nat.le_refl _) (Nat.zero_le _) rfl
  go_loopw [3, 4] (fun z s wr => ∃ (k : Nat) (out : List (ByteArray × ByteArray)), k ≤ rs.length ∧ s = .int .i64 (k : Int) ∧ OwnPs w.heap.size wr z out ∧ Hid (idxN (rs.drop k) out = idxOf rs) ∧ out.length ≤ k ∧ Below w.heap.size w wr) (fun _ s _ => rs.length - (intOf s).toNat)
  case atStart => exact ⟨0, [], Nat.zero_le _, rfl, o1, rfl, Nat.le_refl _, b1⟩
  case round =>
    clear b1 o1
    obtain ⟨k, out, hk, rfl, o2, hF, hl, b2⟩ := hrel
    obtain ⟨wo, ewo⟩ : ∃ y, y = wr := ⟨_, rfl⟩
    subst ewo
    have HP := (show Hid (Sv 2 wo u3 (pairCells out)) from sv_of_own o2)
    obtain ⟨oa, oc, ez, _, _, hoc⟩ := (sv_of_own o2).pair
    subst ez
    have O2 := (show Hid (OwnPs w.heap.size wo (.slice oa out.length oc) out) from o2)
    have B2 := (show Hid (Below w.heap.size w wo) from b2)
    have HO := (show Hid (∀ m (hm : m < out.length), ∃ b off, oa = some ⟨b, off, none⟩ ∧ b < wo.heap.size ∧ wo.cell? ⟨b, off + m * 2, none⟩ = some (.string out[m].1) ∧ wo.cell? ⟨b, off + m * 2 + 1, none⟩ = some (.string out[m].2)) from hoc)
    clear o2 b2 hoc
    by_cases hlt : k < rs.length
    · have hlt' : (k : Int) < (rs.length : Int) := by omega
      obtain ⟨gb, go, rfl, gl, c0, c1, c2⟩ := HC.out k hlt
      have HD := (show Hid _ from idxN_drop hlt out)
      obtain ⟨x, hx⟩ : ∃ x, x = rs[k] := ⟨_, rfl⟩
      rw [← hx] at c0 c1 c2 HD
      clear hx
      obtain ⟨kd, ur, bo⟩ := x
      simp only at c0 c1 c2
      have HG := (show Hid (∀ W, Below wo.heap.size wo W → W.cell? ⟨gb, go + k * 3, none⟩ = some (.int .i64 kd) ∧ W.cell? ⟨gb, go + k * 3 + 1, none⟩ = some (.string ur) ∧ W.cell? ⟨gb, go + k * 3 + 2, none⟩ = some (.string bo)) from fun W b => by
        have b' := B2.out.trans (b.mono B2.out.size)
        exact ⟨(b'.cell (p := ⟨gb, go + k * 3, none⟩) gl).trans c0, (b'.cell (p := ⟨gb, go + k * 3 + 1, none⟩) gl).trans c1, (b'.cell (p := ⟨gb, go + k * 3 + 2, none⟩) gl).trans c2⟩)
      have gl2 : gb < wo.heap.size := Nat.lt_of_lt_of_le gl B2.out.size
      clear c0 c1 c2 gl
      obtain ⟨c0, c1, c2⟩ := HG.out _ (Below.refl _ _)
      obtain ⟨p0, hp0⟩ : ∃ p0, p0 = decide (kd ≠ 1) := ⟨_, rfl⟩
      have hpk : (kd != 1) = p0 := by
        rw [hp0]
        by_cases h : kd = 1 <;> simp [h]
      rw [← hp0] at HD
      clear hp0
      have b3 : Below wo.heap.size wo (wo.alloc (.cells #[] 70)) := (Below.refl _ _).alloc (Nat.le_refl _) _
      have o3 : OwnPs wo.heap.size (wo.alloc (.cells #[] 70)) (.slice (some ⟨wo.heap.size, 0, none⟩) 0 0) [] := World.ownsRow_lit wo #[] 0 (Nat.le_refl _) (Nat.zero_le _) rfl
      go_wp2_with fail
      go_loopw [5, 6, 7] (fun z b s wq => ∃ (m : Nat) (pre : List (ByteArray × ByteArray)) (pb : Bool), m ≤ out.length ∧ s = .int .i64 (m : Int) ∧ b = .bool pb ∧ OwnPs wo.heap.size wq z pre ∧ Hid (pre ++ insE ⟨kd, ur, bo⟩ pb (out.drop m) = insE ⟨kd, ur, bo⟩ p0 out) ∧ pre.length ≤ 2 * m ∧ Below wo.heap.size wo wq) (fun _ _ s _ => out.length - (intOf s).toNat)
      case atStart => exact ⟨0, [], p0, Nat.zero_le _, rfl, rfl, o3, rfl, Nat.le_refl _, b3⟩
      case round =>
        clear b3 o3 hpk c0 c1 c2
        obtain ⟨m, pre, pb, hm, rfl, rfl, o4, hI, hpl, b4⟩ := hrel
        have O4 := (show Hid (OwnPs wo.heap.size wr u5 pre) from o4)
        have B4 := (show Hid (Below wo.heap.size wo wr) from b4)
        clear o4 b4
        by_cases hlm : m < out.length
        · have hlm' : (m : Int) < (out.length : Int) := by omega
          obtain ⟨eb, eo, rfl, el, e1, e2⟩ := HO.out m hlm
          have HN := (show Hid _ from insE_drop (r := ⟨kd, ur, bo⟩) (put := pb) hlm)
          obtain ⟨y, hy⟩ : ∃ y, y = out[m] := ⟨_, rfl⟩
          rw [← hy] at e1 e2 HN
          clear hy
          obtain ⟨yu, yb⟩ := y
          simp only at e1 e2
          have HY := (show Hid (∀ W, Below wo.heap.size wo W → W.cell? ⟨eb, eo + m * 2, none⟩ = some (.string yu) ∧ W.cell? ⟨eb, eo + m * 2 + 1, none⟩ = some (.string yb)) from fun W b => ⟨(b.cell (p := ⟨eb, eo + m * 2, none⟩) el).trans e1, (b.cell (p := ⟨eb, eo + m * 2 + 1, none⟩) el).trans e2⟩)
          clear e1 e2
          obtain ⟨e1, e2⟩ := HY.out _ B4.out
          obtain ⟨c0, c1, c2⟩ := HG.out _ B4.out
          obtain ⟨lt, hlt2⟩ : ∃ lt, lt = slt yu ur := ⟨_, rfl⟩
          have hsl : Op.bytesLess yu.toList ur.toList = lt := hlt2.symm
          simp only at HN
          rw [← hlt2] at HN
          clear hlt2
          have HQ := (show Hid (wr.drew.cell? ⟨eb, eo + m * 2, none⟩ = some (.string yu) ∧ wr.drew.cell? ⟨gb, go + k * 3 + 1, none⟩ = some (.string ur)) from ⟨e1, c1⟩)
          obtain ⟨w4, hw4⟩ : ∃ y, y = wr.drew := ⟨_, rfl⟩
          have O_w4 : Hid (OwnPs wo.heap.size w4 u5 pre) := (show OwnPs wo.heap.size w4 u5 pre by rw [hw4]; exact ownsRow_below O4.out (below_drewN 1))
          have B_w4 : Hid (Below wo.heap.size wo w4) := (show Below wo.heap.size wo w4 by rw [hw4]; exact B4.out.trans (below_drewN 1))
          cases pb
          · go_wp2_with fail
            go_region_held3 (fun w' => w'.cell? ⟨eb, eo + m * 2, none⟩ = some (.string yu) ∧ w'.cell? ⟨gb, go + k * 3 + 1, none⟩ = some (.string ur)) (first | exact HQ.out) (fail)
            rw [← hw4]
            clear hw4 HQ O4 B4 e1 e2 c0 c1 c2
            by_cases hyu : yu = ur
            · cases lt
              · have hyt : (yu.toList == ur.toList) = true := by rw [hyu]; simp
                have HZ : Hid (pre ++ [(ur, bo)] ++ insE ⟨kd, ur, bo⟩ true (out.drop (m + 1)) = insE ⟨kd, ur, bo⟩ p0 out) := (show _ = _ by rw [← hI.out, HN.out]; simp [hyu])
                clear HN hI hyu
                go_wp2_with fail
                have KS := (show Hid (∀ w', Below wo.heap.size wo w' → w'.cell? ⟨gb, go + k * 3 + 1, none⟩ = some (.string ur) ∧ w'.cell? ⟨gb, go + k * 3 + 2, none⟩ = some (.string bo)) from fun W b => ⟨(HG.out W b).2.1, (HG.out W b).2.2⟩)
                have KD := (show Hid (Below wo.heap.size wo w4.drew) from B_w4.out.trans (below_drewN 1))
                have KA := (show Hid (Below wo.heap.size wo (w4.alloc (.cells #[.string ur, .string bo] 70)).drew) from (B_w4.out.alloc B_w4.out.size _).trans (below_drewN 1))
                have OA := (show Hid ((w4.alloc (.cells #[.string ur, .string bo] 70)).drew.ownsRow wo.heap.size 70 2 u5 (pre).length (pairCells (pre))) from ownsRow_below (ownsRow_below O_w4.out ((Below.refl _ _).alloc (Nat.le_refl _) _)) (below_drewN 1))
                have SA := (show Hid (Sv 2 (w4.alloc (.cells #[.string ur, .string bo] 70)).drew (.slice (some ⟨w4.heap.size, 0, none⟩) 1 1) (pairCells [(ur, bo)])) from Sv.below (sv_oneP (World.alloc_heap_new w4 (.cells #[.string ur, .string bo] 70))) (below_drewN 1))
                go_region_held3 (fun w' => w'.cell? ⟨gb, go + k * 3 + 1, none⟩ = some (.string ur) ∧ w'.cell? ⟨gb, go + k * 3 + 2, none⟩ = some (.string bo))
                  (first | exact KS.out _ KD.out | exact KS.out _ KA.out | exact KS.out _ B_w5.out)
                  (first
                    | (refine step_appS rfl _ _ 37 rfl wo.heap.size 70 i0 _ 2 32 Tryz.underlying37 hi hz0 hz1 hz2 rfl (by decide) u5 (pre).length (pairCells (pre)) rfl OA.out (.slice (some ⟨w4.heap.size, 0, none⟩) 1 1) 1 (pairCells [(ur, bo)]) rfl SA.out rfl (pair_one _) (by unfold maxLen; first | omega | (simp only [List.length_append, List.length_singleton]; omega)) (by first | omega | (simp only [List.length_append, List.length_singleton]; omega)) KA.out.size ?_
                       intro v5 w5 o g
                       have O_w5 := (show Hid (OwnPs wo.heap.size w5 v5 (pre ++ [(ur, bo)])) from by show World.ownsRow _ _ _ _ _ _ _; rw [List.length_append, pairCells_app2]; exact o)
                       have B_w5 := (show Hid (Below wo.heap.size wo w5) from KA.out.grown g KA.out.size (fun r e => (World.ownsRow.lt O_w4.out r e).1))
                       clear o g))
                clear KS KD KA OA SA
                go_wp2_with fail
                have HQw5q := (show Hid (w5.drew.cell? ⟨eb, eo + m * 2, none⟩ = some (.string yu) ∧ w5.drew.cell? ⟨gb, go + k * 3 + 1, none⟩ = some (.string ur)) from ⟨(HY.out _ B_w5.out).1, (HG.out _ B_w5.out).2.1⟩)
                obtain ⟨w5q, hw5q⟩ : ∃ y, y = w5.drew := ⟨_, rfl⟩
                have B_w5q : Hid (Below wo.heap.size wo w5q) := (show Below wo.heap.size wo w5q by rw [hw5q]; exact B_w5.out.trans (below_drewN 1))
                go_region_held3 (fun w' => w'.cell? ⟨eb, eo + m * 2, none⟩ = some (.string yu) ∧ w'.cell? ⟨gb, go + k * 3 + 1, none⟩ = some (.string ur)) (first | exact HQw5q.out) (fail)
                rw [← hw5q]
                have O_w5q : Hid (OwnPs wo.heap.size w5q v5 (pre ++ [(ur, bo)])) := (show OwnPs wo.heap.size w5q v5 (pre ++ [(ur, bo)]) by rw [hw5q]; exact ownsRow_below O_w5.out (below_drewN 1))
                clear hw5q HQw5q
                go_wp2
                go_roundw
                case rel => exact ⟨m + 1, pre ++ [(ur, bo)], true, hlm, by go_num, rfl, O_w5q.out, HZ, by first | omega | (simp only [List.length_append, List.length_singleton]; omega), B_w5q.out⟩
                case measure => simp [intOf]; omega
              · exfalso
                have := slt_irr yu
                rw [slt] at this
                rw [← hyu, this] at hsl
                cases hsl
            · have hd := toList_ne hyu
              cases lt
              · have hne := hyu
                have HZ : Hid (pre ++ [(ur, bo)] ++ [(yu, yb)] ++ insE ⟨kd, ur, bo⟩ true (out.drop (m + 1)) = insE ⟨kd, ur, bo⟩ p0 out) := (show _ = _ by rw [← hI.out, HN.out]; simp [hyu])
                clear HN hI
                go_wp2_with fail
                have KS := (show Hid (∀ w', Below wo.heap.size wo w' → w'.cell? ⟨gb, go + k * 3 + 1, none⟩ = some (.string ur) ∧ w'.cell? ⟨gb, go + k * 3 + 2, none⟩ = some (.string bo)) from fun W b => ⟨(HG.out W b).2.1, (HG.out W b).2.2⟩)
                have KD := (show Hid (Below wo.heap.size wo w4.drew) from B_w4.out.trans (below_drewN 1))
                have KA := (show Hid (Below wo.heap.size wo (w4.alloc (.cells #[.string ur, .string bo] 70)).drew) from (B_w4.out.alloc B_w4.out.size _).trans (below_drewN 1))
                have OA := (show Hid ((w4.alloc (.cells #[.string ur, .string bo] 70)).drew.ownsRow wo.heap.size 70 2 u5 (pre).length (pairCells (pre))) from ownsRow_below (ownsRow_below O_w4.out ((Below.refl _ _).alloc (Nat.le_refl _) _)) (below_drewN 1))
                have SA := (show Hid (Sv 2 (w4.alloc (.cells #[.string ur, .string bo] 70)).drew (.slice (some ⟨w4.heap.size, 0, none⟩) 1 1) (pairCells [(ur, bo)])) from Sv.below (sv_oneP (World.alloc_heap_new w4 (.cells #[.string ur, .string bo] 70))) (below_drewN 1))
                go_region_held3 (fun w' => w'.cell? ⟨gb, go + k * 3 + 1, none⟩ = some (.string ur) ∧ w'.cell? ⟨gb, go + k * 3 + 2, none⟩ = some (.string bo))
                  (first | exact KS.out _ KD.out | exact KS.out _ KA.out | exact KS.out _ B_w5.out)
                  (first
                    | (refine step_appS rfl _ _ 37 rfl wo.heap.size 70 i0 _ 2 32 Tryz.underlying37 hi hz0 hz1 hz2 rfl (by decide) u5 (pre).length (pairCells (pre)) rfl OA.out (.slice (some ⟨w4.heap.size, 0, none⟩) 1 1) 1 (pairCells [(ur, bo)]) rfl SA.out rfl (pair_one _) (by unfold maxLen; first | omega | (simp only [List.length_append, List.length_singleton]; omega)) (by first | omega | (simp only [List.length_append, List.length_singleton]; omega)) KA.out.size ?_
                       intro v5 w5 o g
                       have O_w5 := (show Hid (OwnPs wo.heap.size w5 v5 (pre ++ [(ur, bo)])) from by show World.ownsRow _ _ _ _ _ _ _; rw [List.length_append, pairCells_app2]; exact o)
                       have B_w5 := (show Hid (Below wo.heap.size wo w5) from KA.out.grown g KA.out.size (fun r e => (World.ownsRow.lt O_w4.out r e).1))
                       clear o g))
                clear KS KD KA OA SA
                go_wp2_with fail
                have HQw5q := (show Hid (w5.drew.cell? ⟨eb, eo + m * 2, none⟩ = some (.string yu) ∧ w5.drew.cell? ⟨gb, go + k * 3 + 1, none⟩ = some (.string ur)) from ⟨(HY.out _ B_w5.out).1, (HG.out _ B_w5.out).2.1⟩)
                obtain ⟨w5q, hw5q⟩ : ∃ y, y = w5.drew := ⟨_, rfl⟩
                have B_w5q : Hid (Below wo.heap.size wo w5q) := (show Below wo.heap.size wo w5q by rw [hw5q]; exact B_w5.out.trans (below_drewN 1))
                go_region_held3 (fun w' => w'.cell? ⟨eb, eo + m * 2, none⟩ = some (.string yu) ∧ w'.cell? ⟨gb, go + k * 3 + 1, none⟩ = some (.string ur)) (first | exact HQw5q.out) (fail)
                rw [← hw5q]
                have O_w5q : Hid (OwnPs wo.heap.size w5q v5 (pre ++ [(ur, bo)])) := (show OwnPs wo.heap.size w5q v5 (pre ++ [(ur, bo)]) by rw [hw5q]; exact ownsRow_below O_w5.out (below_drewN 1))
                clear hw5q HQw5q
                obtain ⟨e1, e2⟩ := HY.out _ B_w5q.out
                go_wp2_with (
                  at_builtin
                  refine wpList_appV _ rfl (.tmp 68) (.tmp 73) 37 rfl wo.heap.size 70 i0 _ 2 32 Tryz.underlying37 hi hz0 hz1 hz2 rfl (by decide) v5 (.slice (some ⟨w5q.heap.size, 0, none⟩) 1 1) (pre ++ [(ur, bo)]).length 1 (pairCells (pre ++ [(ur, bo)])) (pairCells [(yu, yb)]) rfl rfl (ownsRow_below O_w5q.out ((Below.refl _ _).alloc (Nat.le_refl _) _)) (sv_oneP (World.alloc_heap_new _ _)) rfl (pair_one _) (by first | omega | (simp only [List.length_append, List.length_singleton]; omega)) (by unfold maxLen; first | omega | (simp only [List.length_append, List.length_singleton]; omega)) (by rw [World.size_alloc]; have := B_w5q.out.size; omega) ?_
                  intro v6 w6 o g
                  have O_w6 := (show Hid (OwnPs wo.heap.size w6 v6 (pre ++ [(ur, bo)] ++ [(yu, yb)])) from by show World.ownsRow _ _ _ _ _ _ _; rw [List.length_append, pairCells_app2]; exact o)
                  have B_w6 := (show Hid (Below wo.heap.size wo w6) from (B_w5q.out.alloc B_w5q.out.size _).grown g (by rw [World.size_alloc]; have := B_w5q.out.size; omega) (fun r e => (World.ownsRow.lt O_w5q.out r e).1))
                  clear o g)
                go_roundw
                case rel => exact ⟨m + 1, pre ++ [(ur, bo)] ++ [(yu, yb)], true, hlm, by go_num, rfl, O_w6.out, HZ, by first | omega | (simp only [List.length_append, List.length_singleton]; omega), B_w6.out⟩
                case measure => simp [intOf]; omega
              · have hne := hyu
                have HZ : Hid (pre ++ [(yu, yb)] ++ insE ⟨kd, ur, bo⟩ false (out.drop (m + 1)) = insE ⟨kd, ur, bo⟩ p0 out) := (show _ = _ by rw [← hI.out, HN.out]; simp [hyu])
                clear HN hI
                go_wp2_with fail
                have HQw4q := (show Hid (w4.drew.cell? ⟨eb, eo + m * 2, none⟩ = some (.string yu) ∧ w4.drew.cell? ⟨gb, go + k * 3 + 1, none⟩ = some (.string ur)) from ⟨(HY.out _ B_w4.out).1, (HG.out _ B_w4.out).2.1⟩)
                obtain ⟨w4q, hw4q⟩ : ∃ y, y = w4.drew := ⟨_, rfl⟩
                have B_w4q : Hid (Below wo.heap.size wo w4q) := (show Below wo.heap.size wo w4q by rw [hw4q]; exact B_w4.out.trans (below_drewN 1))
                go_region_held3 (fun w' => w'.cell? ⟨eb, eo + m * 2, none⟩ = some (.string yu) ∧ w'.cell? ⟨gb, go + k * 3 + 1, none⟩ = some (.string ur)) (first | exact HQw4q.out) (fail)
                rw [← hw4q]
                have O_w4q : Hid (OwnPs wo.heap.size w4q u5 (pre)) := (show OwnPs wo.heap.size w4q u5 (pre) by rw [hw4q]; exact ownsRow_below O_w4.out (below_drewN 1))
                clear hw4q HQw4q
                obtain ⟨e1, e2⟩ := HY.out _ B_w4q.out
                go_wp2_with (
                  at_builtin
                  refine wpList_appV _ rfl (.tmp 68) (.tmp 73) 37 rfl wo.heap.size 70 i0 _ 2 32 Tryz.underlying37 hi hz0 hz1 hz2 rfl (by decide) u5 (.slice (some ⟨w4q.heap.size, 0, none⟩) 1 1) (pre).length 1 (pairCells (pre)) (pairCells [(yu, yb)]) rfl rfl (ownsRow_below O_w4q.out ((Below.refl _ _).alloc (Nat.le_refl _) _)) (sv_oneP (World.alloc_heap_new _ _)) rfl (pair_one _) (by first | omega | (simp only [List.length_append, List.length_singleton]; omega)) (by unfold maxLen; first | omega | (simp only [List.length_append, List.length_singleton]; omega)) (by rw [World.size_alloc]; have := B_w4q.out.size; omega) ?_
                  intro v6 w6 o g
                  have O_w6 := (show Hid (OwnPs wo.heap.size w6 v6 (pre ++ [(yu, yb)])) from by show World.ownsRow _ _ _ _ _ _ _; rw [List.length_append, pairCells_app2]; exact o)
                  have B_w6 := (show Hid (Below wo.heap.size wo w6) from (B_w4q.out.alloc B_w4q.out.size _).grown g (by rw [World.size_alloc]; have := B_w4q.out.size; omega) (fun r e => (World.ownsRow.lt O_w4q.out r e).1))
                  clear o g)
                go_roundw
                case rel => exact ⟨m + 1, pre ++ [(yu, yb)], false, hlm, by go_num, rfl, O_w6.out, HZ, by first | omega | (simp only [List.length_append, List.length_singleton]; omega), B_w6.out⟩
                case measure => simp [intOf]; omega
          · go_wp2_with fail
            refine region_tail 14 (by kernel_rfl) (by kernel_rfl) ?_
            intro x1 K1 hX1 hK1
            have ne := One.any x1
            simp only [List.take_succ_cons, List.take_zero, List.drop_succ_cons, List.drop_zero] at hK1 ⊢
            repeat (go_big_quiet_step (fail))
            refine wpQuiet_nil ?_
            refine hK1.out _ ?_
            clear hK1 ne
            rw [hX1.out, ← hw4]
            clear hX1 hw4 HQ O4 B4 e1 e2 c0 c1 c2
            by_cases hyu : yu = ur
            · have hyt : (yu.toList == ur.toList) = true := by rw [hyu]; simp
              have HZ : Hid (pre ++ insE ⟨kd, ur, bo⟩ true (out.drop (m + 1)) = insE ⟨kd, ur, bo⟩ p0 out) := (show _ = _ by rw [← hI.out, HN.out]; simp [hyu])
              clear HN hI hyu
              go_wp2_with fail
              have HQw4q := (show Hid (w4.drew.cell? ⟨eb, eo + m * 2, none⟩ = some (.string yu) ∧ w4.drew.cell? ⟨gb, go + k * 3 + 1, none⟩ = some (.string ur)) from ⟨(HY.out _ B_w4.out).1, (HG.out _ B_w4.out).2.1⟩)
              obtain ⟨w4q, hw4q⟩ : ∃ y, y = w4.drew := ⟨_, rfl⟩
              have B_w4q : Hid (Below wo.heap.size wo w4q) := (show Below wo.heap.size wo w4q by rw [hw4q]; exact B_w4.out.trans (below_drewN 1))
              go_region_held3 (fun w' => w'.cell? ⟨eb, eo + m * 2, none⟩ = some (.string yu) ∧ w'.cell? ⟨gb, go + k * 3 + 1, none⟩ = some (.string ur)) (first | exact HQw4q.out) (fail)
              rw [← hw4q]
              have O_w4q : Hid (OwnPs wo.heap.size w4q u5 (pre)) := (show OwnPs wo.heap.size w4q u5 (pre) by rw [hw4q]; exact ownsRow_below O_w4.out (below_drewN 1))
              clear hw4q HQw4q
              go_wp2
              go_roundw
              case rel => exact ⟨m + 1, pre, true, hlm, by go_num, rfl, O_w4q.out, HZ, by first | omega | (simp only [List.length_append, List.length_singleton]; omega), B_w4q.out⟩
              case measure => simp [intOf]; omega
            · have hd := toList_ne hyu
              have HZ : Hid (pre ++ [(yu, yb)] ++ insE ⟨kd, ur, bo⟩ true (out.drop (m + 1)) = insE ⟨kd, ur, bo⟩ p0 out) := (show _ = _ by rw [← hI.out, HN.out]; simp [hyu])
              clear HN hI
              go_wp2_with fail
              have HQw4q := (show Hid (w4.drew.cell? ⟨eb, eo + m * 2, none⟩ = some (.string yu) ∧ w4.drew.cell? ⟨gb, go + k * 3 + 1, none⟩ = some (.string ur)) from ⟨(HY.out _ B_w4.out).1, (HG.out _ B_w4.out).2.1⟩)
              obtain ⟨w4q, hw4q⟩ : ∃ y, y = w4.drew := ⟨_, rfl⟩
              have B_w4q : Hid (Below wo.heap.size wo w4q) := (show Below wo.heap.size wo w4q by rw [hw4q]; exact B_w4.out.trans (below_drewN 1))
              go_region_held3 (fun w' => w'.cell? ⟨eb, eo + m * 2, none⟩ = some (.string yu) ∧ w'.cell? ⟨gb, go + k * 3 + 1, none⟩ = some (.string ur)) (first | exact HQw4q.out) (fail)
              rw [← hw4q]
              have O_w4q : Hid (OwnPs wo.heap.size w4q u5 (pre)) := (show OwnPs wo.heap.size w4q u5 (pre) by rw [hw4q]; exact ownsRow_below O_w4.out (below_drewN 1))
              clear hw4q HQw4q
              obtain ⟨e1, e2⟩ := HY.out _ B_w4q.out
              go_wp2_with (
                at_builtin
                refine wpList_appV _ rfl (.tmp 68) (.tmp 73) 37 rfl wo.heap.size 70 i0 _ 2 32 Tryz.underlying37 hi hz0 hz1 hz2 rfl (by decide) u5 (.slice (some ⟨w4q.heap.size, 0, none⟩) 1 1) (pre).length 1 (pairCells (pre)) (pairCells [(yu, yb)]) rfl rfl (ownsRow_below O_w4q.out ((Below.refl _ _).alloc (Nat.le_refl _) _)) (sv_oneP (World.alloc_heap_new _ _)) rfl (pair_one _) (by first | omega | (simp only [List.length_append, List.length_singleton]; omega)) (by unfold maxLen; first | omega | (simp only [List.length_append, List.length_singleton]; omega)) (by rw [World.size_alloc]; have := B_w4q.out.size; omega) ?_
                intro v6 w6 o g
                have O_w6 := (show Hid (OwnPs wo.heap.size w6 v6 (pre ++ [(yu, yb)])) from by show World.ownsRow _ _ _ _ _ _ _; rw [List.length_append, pairCells_app2]; exact o)
                have B_w6 := (show Hid (Below wo.heap.size wo w6) from (B_w4q.out.alloc B_w4q.out.size _).grown g (by rw [World.size_alloc]; have := B_w4q.out.size; omega) (fun r e => (World.ownsRow.lt O_w4q.out r e).1))
                clear o g)
              go_roundw
              case rel => exact ⟨m + 1, pre ++ [(yu, yb)], true, hlm, by go_num, rfl, O_w6.out, HZ, by first | omega | (simp only [List.length_append, List.length_singleton]; omega), B_w6.out⟩
              case measure => simp [intOf]; omega
        · obtain rfl : m = out.length := by omega
          have hn' : ¬ ((out.length : Int) < (out.length : Int)) := by omega
          have LI : Hid ((insE ⟨kd, ur, bo⟩ p0 out).length ≤ out.length + 1) := (show (insE ⟨kd, ur, bo⟩ p0 out).length ≤ out.length + 1 by have := insE_len ⟨kd, ur, bo⟩ p0 out; split at this <;> omega)
          have B24 := (show Hid (∀ W, Below wo.heap.size wo W → Below w.heap.size w W) from fun W b => B2.out.trans (b.mono B2.out.size))
          have S24 := (show Hid (w.heap.size ≤ wo.heap.size) from B2.out.size)
          have O_wr := (show Hid (OwnPs wo.heap.size wr u5 pre) from O4.out)
          have B_wr := (show Hid (Below wo.heap.size wo wr) from B4.out)
          obtain ⟨c0, c1, c2⟩ := HG.out _ B4.out
          cases pb
          · have HZ : Hid (pre ++ [(ur, bo)] = insE ⟨kd, ur, bo⟩ p0 out) := (show _ = _ by rw [← hI.out, List.drop_length]; rfl)
            have HT : Hid (idxN (rs.drop (k + 1)) (pre ++ [(ur, bo)]) = idxOf rs) := (show _ = _ by rw [HZ.out, ← HD.out]; exact hF.out)
            clear O4 B4
            go_wp2_with fail
            have KS := (show Hid (∀ w', Below wo.heap.size wo w' → w'.cell? ⟨gb, go + k * 3 + 1, none⟩ = some (.string ur) ∧ w'.cell? ⟨gb, go + k * 3 + 2, none⟩ = some (.string bo)) from fun W b => ⟨(HG.out W b).2.1, (HG.out W b).2.2⟩)
            have KD := (show Hid (Below wo.heap.size wo wr.drew) from B_wr.out.trans (below_drewN 1))
            have KA := (show Hid (Below wo.heap.size wo (wr.alloc (.cells #[.string ur, .string bo] 70)).drew) from (B_wr.out.alloc B_wr.out.size _).trans (below_drewN 1))
            have OA := (show Hid ((wr.alloc (.cells #[.string ur, .string bo] 70)).drew.ownsRow wo.heap.size 70 2 u5 (pre).length (pairCells (pre))) from ownsRow_below (ownsRow_below O_wr.out ((Below.refl _ _).alloc (Nat.le_refl _) _)) (below_drewN 1))
            have SA := (show Hid (Sv 2 (wr.alloc (.cells #[.string ur, .string bo] 70)).drew (.slice (some ⟨wr.heap.size, 0, none⟩) 1 1) (pairCells [(ur, bo)])) from Sv.below (sv_oneP (World.alloc_heap_new wr (.cells #[.string ur, .string bo] 70))) (below_drewN 1))
            go_region_held3 (fun w' => w'.cell? ⟨gb, go + k * 3 + 1, none⟩ = some (.string ur) ∧ w'.cell? ⟨gb, go + k * 3 + 2, none⟩ = some (.string bo))
              (first | exact KS.out _ KD.out | exact KS.out _ KA.out | exact KS.out _ B_w5.out)
              (first
                | (refine step_appS rfl _ _ 37 rfl wo.heap.size 70 i0 _ 2 32 Tryz.underlying37 hi hz0 hz1 hz2 rfl (by decide) u5 (pre).length (pairCells (pre)) rfl OA.out (.slice (some ⟨wr.heap.size, 0, none⟩) 1 1) 1 (pairCells [(ur, bo)]) rfl SA.out rfl (pair_one _) (by unfold maxLen; first | omega | (simp only [List.length_append, List.length_singleton]; omega)) (by first | omega | (simp only [List.length_append, List.length_singleton]; omega)) KA.out.size ?_
                   intro v5 w5 o g
                   have O_w5 := (show Hid (OwnPs wo.heap.size w5 v5 (pre ++ [(ur, bo)])) from by show World.ownsRow _ _ _ _ _ _ _; rw [List.length_append, pairCells_app2]; exact o)
                   have B_w5 := (show Hid (Below wo.heap.size wo w5) from KA.out.grown g KA.out.size (fun r e => (World.ownsRow.lt O_wr.out r e).1))
                   clear o g))
            clear KS KD KA OA SA
            go_wp2
            go_roundw
            case rel => exact ⟨k + 1, pre ++ [(ur, bo)], hlt, by go_num, World.ownsRow.baseD O_w5.out S24.out, HT, by rw [HZ.out]; have := LI.out; omega, B24.out _ B_w5.out⟩
            case measure => simp [intOf]; omega
          · have HZ : Hid (pre = insE ⟨kd, ur, bo⟩ p0 out) := (show _ = _ by rw [← hI.out, List.drop_length]; simp [insE])
            have HT : Hid (idxN (rs.drop (k + 1)) pre = idxOf rs) := (show _ = _ by rw [HZ.out, ← HD.out]; exact hF.out)
            clear O4 B4
            go_wp2
            go_roundw
            case rel => exact ⟨k + 1, pre, hlt, by go_num, World.ownsRow.baseD O_wr.out S24.out, HT, by rw [HZ.out]; have := LI.out; omega, B24.out _ B_wr.out⟩
            case measure => simp [intOf]; omega
    · obtain rfl : k = rs.length := by omega
      have hn' : ¬ ((rs.length : Int) < (rs.length : Int)) := by omega
      have HT : Hid (out = idxOf rs) := (show out = idxOf rs by have := hF.out; rw [List.drop_length] at this; exact this)
      clear hF HP HO
      go_wp2
      go_ret
      exact ⟨_, rfl, by rw [← HT.out]; exact O2.out, B2.out⟩
end Go.Proofs.YtokkigfjabbdaaaGreatDoor

/- The index, plainly: its bytes are read as they were; the last one of an address decides; ascending. No condition. -/
namespace Go.Proofs.YtokkigfjabbdaaaGreatDoor
open Go.RowKit
set_option maxRecDepth 100000
set_option linter.unusedVariables false

theorem recL_pos {r : PRec} (h : recB r = true) : 0 < (recL r).length := by
  have hk : r.kind = 1 ∨ r.kind = 2 := by
    simp only [recB, Bool.and_eq_true, Bool.or_eq_true, decide_eq_true_eq] at h
    exact h.1.1
  have h1 : 0 < (form (1 : Int)).length := List.length_pos_iff.mpr (form_ne 1)
  have h2 : 0 < (form (2 : Int)).length := List.length_pos_iff.mpr (form_ne 2)
  unfold recL
  rw [List.length_append, List.length_append]
  rcases hk with e | e
  · rw [e]; exact Nat.lt_of_lt_of_le h1 (by omega)
  · rw [e]; exact Nat.lt_of_lt_of_le h2 (by omega)
theorem recsF_of : ∀ (l : List PRec) (pre : List Int) (f : Nat), (∀ r ∈ l, recB r = true ∧ r.body.size ≤ 1099511627776) → l.length < f → recsF (pre ++ l.flatMap recL) f pre.length = some l := by
  intro l
  induction l with
  | nil =>
    intro pre f _ hf
    cases f with
    | zero => simp at hf
    | succ f => unfold recsF; rw [if_neg (by simp)]
  | cons r l ih =>
    intro pre f hs hf
    cases f with
    | zero => simp at hf
    | succ f =>
      have hr := hs r (List.mem_cons_self ..)
      have hp := recL_pos hr.1
      have h1 := readR_of hr.1 hr.2 pre (l.flatMap recL)
      have e : pre ++ (r :: l).flatMap recL = pre ++ recL r ++ l.flatMap recL := by rw [List.flatMap_cons, List.append_assoc]
      rw [e]
      unfold recsF
      rw [if_pos (by rw [List.length_append, List.length_append]; omega), h1]
      simp only [if_true, Int.toNat_natCast]
      have h2 := ih (pre ++ recL r) f (fun q hq => hs q (List.mem_cons_of_mem _ hq)) (by simpa using hf)
      rw [List.length_append] at h2
      rw [h2]
      rfl
theorem flat_pos : ∀ (l : List PRec), (∀ r ∈ l, recB r = true) → l.length ≤ (l.flatMap recL).length := by
  intro l
  induction l with
  | nil => intro _; exact Nat.zero_le _
  | cons r l ih =>
    intro hs
    have := ih (fun q hq => hs q (List.mem_cons_of_mem _ hq))
    have := recL_pos (hs r (List.mem_cons_self ..))
    rw [List.flatMap_cons, List.length_append, List.length_cons]
    omega
/-- Right records, one behind the other, are read as they were. -/
theorem recsR_of {l : List PRec} (hs : ∀ r ∈ l, recB r = true ∧ r.body.size ≤ 1099511627776) : recsR (l.flatMap recL) = (l, true) := by
  have h1 := flat_pos l (fun r hr => (hs r hr).1)
  have h2 := recsF_of l [] ((l.flatMap recL).length + 1) hs (by omega)
  rw [List.nil_append, List.length_nil] at h2
  unfold recsR
  rw [h2]
theorem packE_flat : ∀ (ps : List (ByteArray × ByteArray)) (b : List Int), packE ps = some b → b = (ps.map recE).flatMap recL ∧ ∀ p ∈ ps, recB (recE p) = true := by
  intro ps
  induction ps with
  | nil => intro b h; simp only [packE, Option.some.injEq] at h; rw [← h]; exact ⟨rfl, fun p hp => by cases hp⟩
  | cons p ps ih =>
    intro b h
    unfold packE at h
    split at h
    · rename_i hr
      cases hq : packE ps with
      | none => rw [hq] at h; cases h
      | some b' =>
        rw [hq] at h
        simp only [Option.map_some, Option.some.injEq] at h
        obtain ⟨a1, a2⟩ := ih _ hq
        refine ⟨by rw [← h, a1, List.map_cons, List.flatMap_cons], fun q hq => ?_⟩
        rcases List.mem_cons.mp hq with rfl | hq
        · exact hr
        · exact a2 q hq
    · cases h
theorem packX_read {ps : List (ByteArray × ByteArray)} (hs : ∀ p ∈ ps, p.2.size ≤ 1099511627776) (h : (packX ps).2 = true) : recsR (packX ps).1 = (ps.map recE, true) := by
  unfold packX at h ⊢
  cases hq : packE ps with
  | none => rw [hq] at h; cases h
  | some b =>
    obtain ⟨a1, a2⟩ := packE_flat _ _ hq
    simp only
    rw [a1]
    refine recsR_of fun r hr => ?_
    obtain ⟨p, hp, rfl⟩ := List.mem_map.mp hr
    exact ⟨a2 p hp, hs p hp⟩

theorem attrOf_app_ne {ks bs' : List (ByteArray × ByteArray)} {u : ByteArray} (h : ∀ p ∈ ks, p.1 ≠ u) : attrOf (ks ++ bs') u = attrOf bs' u := by
  induction ks with
  | nil => rfl
  | cons p ks ih =>
    rw [List.cons_append, attrOf, if_neg (h p (List.mem_cons_self ..))]
    exact ih (fun q hq => h q (List.mem_cons_of_mem _ hq))
/-- Another address is found as before. -/
theorem attrOf_insE_ne {r : PRec} {u : ByteArray} (h : r.url ≠ u) : ∀ (es : List (ByteArray × ByteArray)) (put : Bool), attrOf (insE r put es) u = attrOf es u := by
  intro es
  induction es with
  | nil => intro put; cases put <;> simp [insE, attrOf, h]
  | cons e es ih =>
    intro put
    rw [insE, List.append_assoc, attrOf_app_ne (by intro p hp; split at hp <;> simp at hp; rw [hp]; exact h)]
    by_cases he : e.1 = r.url
    · rw [if_pos he, List.nil_append, ih, attrOf, if_neg (by rw [he]; exact h)]
    · rw [if_neg he, List.singleton_append, attrOf, attrOf, ih]
theorem attrOf_insE_drop {r : PRec} : ∀ (es : List (ByteArray × ByteArray)), attrOf (insE r true es) r.url = (⟨#[]⟩, false) := by
  intro es
  induction es with
  | nil => rfl
  | cons e es ih =>
    rw [insE]
    simp only [Bool.not_true, Bool.false_and, Bool.true_or, Bool.false_eq_true, if_false, List.nil_append]
    by_cases he : e.1 = r.url
    · rw [if_pos he, List.nil_append, ih]
    · rw [if_neg he, List.singleton_append, attrOf, if_neg he, ih]
theorem attrOf_insE_keep {r : PRec} : ∀ (es : List (ByteArray × ByteArray)), attrOf (insE r false es) r.url = (r.body, true) := by
  intro es
  induction es with
  | nil => simp [insE, attrOf]
  | cons e es ih =>
    rw [insE]
    cases hs : slt e.1 r.url
    · simp [attrOf]
    · have he : e.1 ≠ r.url := fun e' => by rw [e', slt_irr] at hs; cases hs
      simp only [Bool.not_false, Bool.not_true, Bool.and_false, Bool.or_false, Bool.false_eq_true, if_false, List.nil_append, if_neg he, List.singleton_append]
      rw [attrOf, if_neg he, ih]

/-- What the last one of an address says: nothing where there is none. -/
def lastOf : List PRec → ByteArray → ByteArray × Bool → ByteArray × Bool
  | [], _, x => x
  | r :: rs, u, x => lastOf rs u (if r.url = u then (if r.kind = 1 then (r.body, true) else (⟨#[]⟩, false)) else x)
theorem attrOf_idxN : ∀ (rs : List PRec) (out : List (ByteArray × ByteArray)) (u : ByteArray), attrOf (idxN rs out) u = lastOf rs u (attrOf out u) := by
  intro rs
  induction rs with
  | nil => intro out u; rfl
  | cons r rs ih =>
    intro out u
    rw [idxN, ih, lastOf]
    congr 1
    by_cases hu : r.url = u
    · subst hu
      rw [if_pos rfl]
      by_cases hk : r.kind = 1
      · rw [if_pos hk, decide_eq_false (by simp [hk]), attrOf_insE_keep]
      · rw [if_neg hk, decide_eq_true hk, attrOf_insE_drop]
    · rw [if_neg hu, attrOf_insE_ne hu]
theorem attrOf_idxOf (rs : List PRec) (u : ByteArray) : attrOf (idxOf rs) u = lastOf rs u (⟨#[]⟩, false) := attrOf_idxN rs [] u

/-- A record behind all that stands is put behind them. -/
theorem insE_end {p : ByteArray × ByteArray} : ∀ (es : List (ByteArray × ByteArray)), (∀ e ∈ es, slt e.1 p.1 = true) → insE (recE p) false es = es ++ [p] := by
  intro es
  induction es with
  | nil => intro _; rfl
  | cons e es ih =>
    intro h
    have hs : slt e.1 (recE p).url = true := h e (List.mem_cons_self ..)
    have he : e.1 ≠ (recE p).url := fun e' => by rw [e', slt_irr] at hs; cases hs
    rw [insE]
    simp only [hs, Bool.not_false, Bool.not_true, Bool.and_false, Bool.or_false, Bool.false_eq_true, if_false, List.nil_append, List.cons_append, if_neg he]
    rw [ih (fun q hq => h q (List.mem_cons_of_mem _ hq))]
theorem idxN_asc : ∀ (ps out : List (ByteArray × ByteArray)), (out ++ ps).Pairwise (fun a b => slt a.1 b.1 = true) → idxN (ps.map recE) out = out ++ ps := by
  intro ps
  induction ps with
  | nil => intro out _; simp [idxN]
  | cons p ps ih =>
    intro out h
    have hlt : ∀ e ∈ out, slt e.1 p.1 = true := fun e he => (List.pairwise_append.mp h).2.2 e he p (List.mem_cons_self ..)
    rw [List.map_cons, idxN]
    have e : decide ((recE p).kind ≠ 1) = false := by simp [recE]
    rw [e, insE_end _ hlt, ih _ (by simpa using h)]
    simp
/-- An ascending index is what its own records make. -/
theorem idxOf_own {ps : List (ByteArray × ByteArray)} (h : ps.Pairwise (fun a b => slt a.1 b.1 = true)) : idxOf (ps.map recE) = ps := idxN_asc ps [] h
end Go.Proofs.YtokkigfjabbdaaaGreatDoor

/- The index, plainly: it is ascending. No condition. -/
namespace Go.Proofs.YtokkigfjabbdaaaGreatDoor
open Go.RowKit
set_option maxRecDepth 100000
set_option linter.unusedVariables false

theorem less_cons (a b : UInt8) (x y : List UInt8) : Op.bytesLess (a :: x) (b :: y) = true ↔ a.toNat < b.toNat ∨ (a = b ∧ Op.bytesLess x y = true) := by
  simp only [Op.bytesLess, Bool.or_eq_true, Bool.and_eq_true, decide_eq_true_eq, beq_iff_eq, UInt8.lt_iff_toNat_lt]
theorem less_total : ∀ (x y : List UInt8), Op.bytesLess x y = false → x ≠ y → Op.bytesLess y x = true := by
  intro x
  induction x with
  | nil =>
    intro y h hne
    cases y with
    | nil => exact absurd rfl hne
    | cons b y => simp [Op.bytesLess] at h
  | cons a x ih =>
    intro y h hne
    cases y with
    | nil => simp [Op.bytesLess]
    | cons b y =>
      rw [less_cons]
      have hn : ¬ (a.toNat < b.toNat ∨ (a = b ∧ Op.bytesLess x y = true)) := fun h' => by
        rw [(less_cons a b x y).mpr h'] at h; cases h
      by_cases hab : a = b
      · subst hab
        refine .inr ⟨rfl, ih y ?_ (fun e => hne (by rw [e]))⟩
        cases hq : Op.bytesLess x y with
        | false => rfl
        | true => exact absurd (.inr ⟨rfl, hq⟩) hn
      · have h1 : a.toNat ≠ b.toNat := fun e => hab (UInt8.toNat_inj.mp e)
        exact .inl (by omega)
theorem less_trans : ∀ (x y z : List UInt8), Op.bytesLess x y = true → Op.bytesLess y z = true → Op.bytesLess x z = true := by
  intro x
  induction x with
  | nil =>
    intro y z h1 h2
    cases z with
    | nil => cases y <;> simp [Op.bytesLess] at h2
    | cons c z => simp [Op.bytesLess]
  | cons a x ih =>
    intro y z h1 h2
    cases y with
    | nil => simp [Op.bytesLess] at h1
    | cons b y =>
      cases z with
      | nil => simp [Op.bytesLess] at h2
      | cons c z =>
        rw [less_cons] at h1 h2 ⊢
        rcases h1 with h1 | ⟨rfl, h1⟩
        · rcases h2 with h2 | ⟨rfl, h2⟩
          · exact .inl (by omega)
          · exact .inl h1
        · rcases h2 with h2 | ⟨rfl, h2⟩
          · exact .inl h2
          · exact .inr ⟨rfl, ih _ _ h1 h2⟩
theorem slt_total {a b : ByteArray} (h : slt a b = false) (hne : a ≠ b) : slt b a = true := less_total _ _ h (fun e => hne ((toList_eq_iff a b).mp e))
theorem slt_trans {a b c : ByteArray} (h1 : slt a b = true) (h2 : slt b c = true) : slt a c = true := less_trans _ _ _ h1 h2

abbrev Asc (es : List (ByteArray × ByteArray)) : Prop := es.Pairwise (fun a b => slt a.1 b.1 = true)
theorem insE_mem {r : PRec} : ∀ (es : List (ByteArray × ByteArray)) (put : Bool), ∀ p ∈ insE r put es, (put = false ∧ p = (r.url, r.body)) ∨ (p ∈ es ∧ p.1 ≠ r.url) := by
  intro es
  induction es with
  | nil => intro put p hp; cases put <;> simp [insE] at hp; exact .inl ⟨rfl, hp⟩
  | cons e es ih =>
    intro put p hp
    rw [insE, List.append_assoc] at hp
    rcases List.mem_append.mp hp with hp2 | hp
    · split at hp2
      · rename_i hc
        have hp3 := List.mem_singleton.mp hp2
        cases put
        · exact .inl ⟨rfl, hp3⟩
        · simp at hc
      · cases hp2
    · rcases List.mem_append.mp hp with hp | hp
      · split at hp
        · cases hp
        · rename_i he
          rw [List.mem_singleton.mp hp]
          exact .inr ⟨List.mem_cons_self .., he⟩
      · rcases ih _ p hp with ⟨h1, h2⟩ | ⟨h1, h2⟩
        · refine .inl ⟨?_, h2⟩
          cases put
          · rfl
          · simp at h1
        · exact .inr ⟨List.mem_cons_of_mem _ h1, h2⟩
theorem insE_asc {r : PRec} : ∀ (es : List (ByteArray × ByteArray)) (put : Bool), Asc es → Asc (insE r put es) := by
  intro es
  induction es with
  | nil => intro put _; cases put <;> simp [insE, Asc]
  | cons e es ih =>
    intro put h
    obtain ⟨h1, h2⟩ := List.pairwise_cons.mp h
    rw [insE, List.append_assoc]
    cases hs : slt e.1 r.url
    · have ha := ih (put || !false) h2
      have hm := insE_mem (r := r) es (put || !false)
      have hmm : ∀ p ∈ insE r (put || !false) es, p ∈ es ∧ p.1 ≠ r.url := fun p hp => by
        rcases hm p hp with ⟨q, _⟩ | q
        · cases put <;> simp at q
        · exact q
      have hb : Asc ((if e.1 = r.url then [] else [e]) ++ insE r (put || !false) es) := by
        split
        · exact ha
        · exact List.pairwise_cons.mpr ⟨fun p hp => h1 p (hmm p hp).1, ha⟩
      have hc : ∀ p ∈ (if e.1 = r.url then [] else [e]) ++ insE r (put || !false) es, slt r.url p.1 = true := fun p hp => by
        rcases List.mem_append.mp hp with hp | hp
        · split at hp
          · cases hp
          · rename_i he
            rw [List.mem_singleton.mp hp]
            exact slt_total hs he
        · have hp1 := h1 p (hmm p hp).1
          by_cases he : e.1 = r.url
          · rw [← he]; exact hp1
          · exact slt_trans (slt_total hs he) hp1
      split
      · exact List.pairwise_cons.mpr ⟨hc, hb⟩
      · exact hb
    · have he : e.1 ≠ r.url := fun e' => by rw [e', slt_irr] at hs; cases hs
      have ha := ih (put || !true) h2
      rw [if_neg (by simp), if_neg he]
      refine List.pairwise_cons.mpr ⟨fun p hp => ?_, ha⟩
      rcases insE_mem es _ p hp with ⟨_, rfl⟩ | ⟨q, _⟩
      · exact hs
      · exact h1 p q
theorem idxN_rise : ∀ (rs : List PRec) (out : List (ByteArray × ByteArray)), Asc out → Asc (idxN rs out) := by
  intro rs
  induction rs with
  | nil => intro out h; exact h
  | cons r rs ih => intro out h; exact ih _ (insE_asc _ _ h)
/-- An index is ascending. -/
theorem idxOf_rise (rs : List PRec) : Asc (idxOf rs) := idxN_rise rs [] List.Pairwise.nil
end Go.Proofs.YtokkigfjabbdaaaGreatDoor

/- The program's DiskOk. No condition. -/
namespace Go.Proofs.YtokkigfjabbdaaaGreatDoor
open Go.RowKit
set_option maxRecDepth 100000
set_option linter.unusedVariables false

theorem ihasSector_any (x : Int) (w : World) : Calls Tryz.prog 95 #[.int .i64 x] w fun e w' => e = .returned (.bool (inB x 0 129)) ∧ w' = w := by
  by_cases h1 : 0 ≤ x
  · by_cases h2 : x < 130
    · rw [inB_yes h1 (by omega)]
      go_enter Tryz.func95, Tryz.ntmps95
      go_wp2
      go_ret
      exact ⟨rfl, rfl⟩
    · have : inB x 0 129 = false := by simp [inB]; omega
      rw [this]
      go_enter Tryz.func95, Tryz.ntmps95
      go_wp2
      go_ret
      exact ⟨rfl, rfl⟩
  · have : inB x 0 129 = false := by simp [inB]; omega
    rw [this]
    go_enter Tryz.func95, Tryz.ntmps95
    go_wp2
    go_ret
    exact ⟨rfl, rfl⟩

/-- A put that is right. -/
def putB (p : Int × ByteArray) : Bool := inB p.1 0 129 && decide (p.2.size = 64)
set_option maxRecDepth 100000 in
theorem iputOk_any (x : Int) (s : ByteArray) (w : World) (hs : s.size ≤ 1099511627776) : Calls Tryz.prog 82 #[.agg #[.int .i64 x, .string s]] w fun e w' => e = .returned (.bool (putB (x, s))) ∧ Below w.heap.size w w' := by
  obtain ⟨w1, hw1⟩ : ∃ y, y = w.alloc (.cells #[.int .i64 x, .string s] 88) := ⟨_, rfl⟩
  have b1 : Below w.heap.size w w1 := by rw [hw1]; exact (Below.refl _ _).alloc (Nat.le_refl _) _
  have x1 : w1.heap[w.heap.size]? = some (.cells #[.int .i64 x, .string s] 88 (0, 0)) := by rw [hw1]; exact World.alloc_heap_new _ _
  obtain ⟨q1, q2, _, _⟩ := rk_two x1
  have B1 := (show Hid (Below w.heap.size w w1) from b1)
  have Q := (show Hid _ from q2)
  clear x1 b1 q2
  go_enter Tryz.func82, Tryz.ntmps82
  go_wp2_with fail
  go_at_call 95
  rw [← hw1]
  refine (ihasSector_any x w1).mono ?_
  rintro e w2 ⟨rfl, e2⟩
  subst e2
  clear hw1
  have q2 := Q.out
  cases hi : inB x 0 129
  · have HR : Hid (putB (x, s) = false) := (show putB (x, s) = false by simp [putB, hi])
    clear hi
    go_wp2
    go_ret
    exact ⟨ret_bool HR.out.symm, B1.out⟩
  · by_cases e : s.size = 64
    · have HR : Hid (putB (x, s) = true) := (show putB (x, s) = true by simp [putB, hi, e])
      have hn : ((s.size : Int) == 64) = true := by simp; omega
      clear hi e
      go_wp2
      go_ret
      exact ⟨ret_bool HR.out.symm, B1.out⟩
    · have HR : Hid (putB (x, s) = false) := (show putB (x, s) = false by simp [putB, hi, e])
      have hn : ((s.size : Int) == 64) = false := by simp; omega
      clear hi e
      go_wp2
      go_ret
      exact ⟨ret_bool HR.out.symm, B1.out⟩

theorem putB_no {d : PDisk} {k : Nat} (hk : k < d.late.length) (h : putB d.late[k] = false) : diskB d = false := by
  apply diskB_no4 hk
  simp only [putB, Bool.and_eq_false_iff, decide_eq_false_iff_not] at h
  exact h
theorem putB_yes {p : Int × ByteArray} (h : putB p = true) : inB p.1 0 129 = true ∧ p.2.size = 64 := by simpa [putB] using h

set_option maxHeartbeats 2000000 in
set_option maxRecDepth 100000 in
theorem idiskOk_any {w : World} {v : Value} {d : PDisk} (h : DiskAt w v d) (hf : DiskFit d) :
    Calls Tryz.prog 64 #[v] w fun e w' => e = .returned (.bool (diskB d)) ∧ Below w.heap.size w w' := by
  obtain ⟨sa, sn, sc, la, ln, lc, rfl, h1, h2⟩ := h
  have f1 := hf.sl
  have f2 := hf.ll
  have F3 := (show Hid (∀ s ∈ d.safe, s.size ≤ 1099511627776) from hf.st)
  have F4 := (show Hid (∀ p ∈ d.late, p.2.size ≤ 1099511627776) from hf.lt)
  obtain ⟨a1, c1, e1, _, _, hs⟩ := h1.str
  cases e1
  obtain ⟨a2, c2, e2, _, _, hp⟩ := h2.put
  cases e2
  have HS := (show Hid (∀ k (hk : k < d.safe.length), ∃ b off, sa = some ⟨b, off, none⟩ ∧ b < w.heap.size ∧ w.cell? ⟨b, off + k, none⟩ = some (.string d.safe[k])) from hs)
  have HP := (show Hid (∀ k (hk : k < d.late.length), ∃ b off, la = some ⟨b, off, none⟩ ∧ b < w.heap.size ∧ w.cell? ⟨b, off + k * 2, none⟩ = some (.int .i64 d.late[k].1) ∧ w.cell? ⟨b, off + k * 2 + 1, none⟩ = some (.string d.late[k].2)) from hp)
  clear h1 h2 hf hs hp
  obtain ⟨w1, hw1⟩ : ∃ x, x = w.alloc (.cells #[.slice sa d.safe.length sc, .slice la d.late.length lc] 35) := ⟨_, rfl⟩
  have b1 : Below w.heap.size w w1 := by rw [hw1]; exact (Below.refl _ _).alloc (Nat.le_refl _) _
  have x1 : w1.heap[w.heap.size]? = some (.cells #[.slice sa d.safe.length sc, .slice la d.late.length lc] 35 (0, 0)) := by rw [hw1]; exact World.alloc_heap_new _ _
  have X1 := (show Hid _ from x1)
  have B1 := (show Hid (Below w.heap.size w w1) from b1)
  obtain ⟨q1, q2, _, _⟩ := rk_two x1
  have Q := (show Hid (w1.cell? ⟨w.heap.size, 0, none⟩ = some (.slice sa d.safe.length sc) ∧ w1.cell? ⟨w.heap.size, 1, none⟩ = some (.slice la d.late.length lc)) from ⟨q1, q2⟩)
  clear x1 b1 q1 q2
  by_cases hl1 : d.safe.length = 130
  · by_cases hl2 : d.late.length ≤ 200
    · have hl2' : ¬ (200 < (d.late.length : Int)) := by omega
      have hn1 : ((d.safe.length : Int) != 130) = false := by simp; omega
      have HL1 := (show Hid (d.safe.length = 130) from hl1)
      clear hl1
      obtain ⟨q1, q2⟩ := Q.out
      go_enter Tryz.func64, Tryz.ntmps64
      go_wp2
      rw [← hw1]
      go_loopw [20] (fun i wr => ∃ k : Nat, k ≤ d.safe.length ∧ i = .int .i64 k ∧ (∀ j (hj : j < d.safe.length), j < k → d.safe[j].size = 64) ∧ w1 = wr) (fun i _ => d.safe.length - (intOf i).toNat)
      case atStart => exact ⟨0, Nat.zero_le _, rfl, fun j hj h => by omega, rfl⟩
      case round =>
        obtain ⟨k, hk, rfl, he, rfl⟩ := hrel
        have HE := (show Hid (∀ j (hj : j < d.safe.length), j < k → d.safe[j].size = 64) from he)
        clear he hw1
        by_cases hlt : k < d.safe.length
        · obtain ⟨b, o, rfl, hb, c⟩ := HS.out k hlt
          have c' := (B1.out.cell (p := ⟨b, o + k, none⟩) hb).trans c
          have hz := F3.out _ (List.getElem_mem hlt)
          have HN := (show Hid (d.safe[k].size ≠ 64 → diskB d = false) from diskB_no3 hlt)
          have HX := (show Hid (d.safe[k].size = 64 → ∀ j (hj : j < d.safe.length), j < k + 1 → d.safe[j].size = 64) from fun e j hj h => by
            by_cases e2 : j = k
            · subst e2; exact e
            · exact HE.out j hj (by omega))
          obtain ⟨x, hx⟩ : ∃ x, x = d.safe[k] := ⟨_, rfl⟩
          rw [← hx] at c' hz HN HX
          clear hx c
          by_cases e : x.size = 64
          · have hn : ((x.size : Int) != 64) = false := by simp; omega
            have HX' := (show Hid _ from HX.out e)
            clear HX HN e
            go_wp2
            go_roundw
            case rel => exact ⟨k + 1, by omega, by go_num, HX'.out, by first | rfl | trivial⟩
            case measure => simp [intOf]; omega
          · have hn : ((x.size : Int) != 64) = true := by simp; omega
            have HN' := (show Hid _ from HN.out e)
            clear HX HN e
            go_wp2
            go_ret
            exact ⟨ret_bool HN'.out.symm, B1.out⟩
        · have HE2 := (show Hid (∀ j (hj : j < d.safe.length), d.safe[j].size = 64) from fun j hj => HE.out j hj (by omega))
          clear HE
          go_wp2
          go_loopw [31] (fun i wr => ∃ k : Nat, k ≤ d.late.length ∧ i = .int .i64 k ∧ (∀ j (hj : j < d.late.length), j < k → inB d.late[j].1 0 129 = true ∧ d.late[j].2.size = 64) ∧ Below w1.heap.size w1 wr) (fun i _ => d.late.length - (intOf i).toNat)
          case atStart => exact ⟨0, Nat.zero_le _, rfl, fun j hj h => by omega, Below.refl _ _⟩
          case round =>
            clear q1 q2
            obtain ⟨m, hm, rfl, he, bel⟩ := hrel
            have HE := (show Hid (∀ j (hj : j < d.late.length), j < m → inB d.late[j].1 0 129 = true ∧ d.late[j].2.size = 64) from he)
            clear he
            by_cases hlt2 : m < d.late.length
            · obtain ⟨b, o, rfl, hb, c3, c4⟩ := HP.out m hlt2
              have hb1 : b < w1.heap.size := Nat.lt_of_lt_of_le hb B1.out.size
              have c3' := (bel.cell (p := ⟨b, o + m * 2, none⟩) hb1).trans ((B1.out.cell (p := ⟨b, o + m * 2, none⟩) hb).trans c3)
              have c4' := (bel.cell (p := ⟨b, o + m * 2 + 1, none⟩) hb1).trans ((B1.out.cell (p := ⟨b, o + m * 2 + 1, none⟩) hb).trans c4)
              have hz := F4.out _ (List.getElem_mem hlt2)
              have HN := (show Hid (putB d.late[m] = false → diskB d = false) from putB_no hlt2)
              have HX := (show Hid (putB d.late[m] = true → ∀ j (hj : j < d.late.length), j < m + 1 → inB d.late[j].1 0 129 = true ∧ d.late[j].2.size = 64) from fun e j hj h => by
                by_cases e2 : j = m
                · subst e2; exact putB_yes e
                · exact HE.out j hj (by omega))
              obtain ⟨x, hx⟩ : ∃ x, x = d.late[m] := ⟨_, rfl⟩
              rw [← hx] at c3' c4' hz HN HX
              obtain ⟨xa, xs⟩ := x
              simp only at c3' c4' hz HN HX
              clear hx c3 c4
              obtain ⟨wx, hwx⟩ : ∃ wx, wx = wr.alloc (.cells #[.int .i64 xa, .string xs] 88) := ⟨_, rfl⟩
              have bx : Below wr.heap.size wr wx := by rw [hwx]; exact (Below.refl _ _).alloc (Nat.le_refl _) _
              have belx := bel.trans (bx.mono bel.size)
              have CC := iputOk_any xa xs wx hz
              obtain ⟨r, hr⟩ : ∃ r, r = putB (xa, xs) := ⟨_, rfl⟩
              rw [← hr] at CC HN HX
              have C2 := (show Hid _ from CC)
              have BX := (show Hid (Below w1.heap.size w1 wx) from belx)
              clear hr CC bx belx
              go_wp2_with fail
              go_at_call 82
              rw [← hwx]
              refine Calls.mono C2.out ?_
              rintro e w2 ⟨rfl, b2⟩
              replace b2 := BX.out.trans (b2.mono BX.out.size)
              clear C2 hwx c3' c4'
              cases r
              · have HN' := (show Hid _ from HN.out rfl)
                clear HX HN
                go_wp2
                go_ret
                exact ⟨ret_bool HN'.out.symm, B1.out.trans (b2.mono B1.out.size)⟩
              · have HX' := (show Hid _ from HX.out rfl)
                clear HX HN
                go_wp2
                go_roundw
                case rel => exact ⟨m + 1, by omega, by go_num, HX'.out, b2⟩
                case measure => simp [intOf]; omega
            · have HD : Hid (diskB d = true) := diskB_yes HL1.out hl2 HE2.out (fun j hj => HE.out j hj (by omega))
              go_wp2
              go_ret
              exact ⟨ret_bool HD.out.symm, B1.out.trans (bel.mono B1.out.size)⟩
    · have hn1 : ((d.safe.length : Int) != 130) = false := by simp; omega
      have hl2' : 200 < (d.late.length : Int) := by omega
      have HD := (show Hid (diskB d = false) from diskB_no2 (by omega))
      clear hl1
      have B2 := (show Hid _ from B1.out)
      rw [hw1] at B2
      go_enter Tryz.func64, Tryz.ntmps64
      go_wp2
      go_ret
      exact ⟨ret_bool HD.out.symm, B2.out⟩
  · have hn1 : ((d.safe.length : Int) != 130) = true := by simp; omega
    have HD := (show Hid (diskB d = false) from diskB_no1 hl1)
    have B2 := (show Hid _ from B1.out)
    rw [hw1] at B2
    go_enter Tryz.func64, Tryz.ntmps64
    go_wp2
    go_ret
    exact ⟨ret_bool HD.out.symm, B2.out⟩
end Go.Proofs.YtokkigfjabbdaaaGreatDoor
