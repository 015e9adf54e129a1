/- A region that draws its order, in which all but the last operations only read: one walk, and the last ones in their order, whatever they do. No condition. -/
import Derived.Test.YtmpgbonolmmcpaaV0
import Derived.StillTail
import Derived.BigQuiet
import Derived.Test.YtmpgbonolmmcpaaV18
import Derived.Test.YtmpgbonolmmcpaaV15
import Derived.Test.YtmpgbonolmmcpaaV17
import Derived.Test.YtmpgbonolmmcpaaV4
namespace Go.Proofs.Ytmpgbonolmmcpaa
open Go.RowKit
set_option maxRecDepth 100000
set_option linter.unusedVariables false

/-- Just one world. -/
def One (w1 : World) : Type := { w : World // w = w1 }
def One.w {w1 : World} (n : One w1) : World := n.1
theorem One.eq {w1 : World} (n : One w1) : n.w = w1 := n.2
theorem One.any (w1 : World) : Nonempty (One w1) := ⟨⟨w1, rfl⟩⟩

theorem still_of_quiet {P : Program} {ops : Array Oper} {w1 : World} {Q : Act → Prop} : ∀ (l : List Oper) (a : Act),
    wpQuiet P ops (fun w' => ∃ n : One w1, w' = n.w) Q l a → wpStill P ops w1 Q l a := by
  intro l
  induction l with
  | nil => exact fun a h => h
  | cons o rest ih =>
    intro a h
    unfold wpQuiet at h
    unfold wpStill
    by_cases hw : Region.wanted o (yielded ops a.tmps) = true
    · rw [if_pos hw] at h ⊢
      obtain ⟨v, h1, h2⟩ := h
      have h3 := h1 w1 ⟨⟨w1, rfl⟩, rfl⟩
      have h4 := ih _ h2
      unfold Oper.quietAt at h3
      unfold Oper.still
      generalize (execOp a.eval o).run P w1 = r at *
      cases r with
      | ok n w' =>
        cases n <;> simp only [Oper.quietUpon] at h3 <;> simp only [Oper.stillUpon]
        case value u =>
          obtain ⟨e1, e2⟩ := h3
          exact ⟨e1, by rw [e2]; exact h4⟩
        case skip =>
          obtain ⟨e1, e2⟩ := h3
          exact ⟨e1, by rw [← e2]; exact h4⟩
        case enter f args =>
          obtain ⟨e1, hc⟩ := h3
          exact ⟨e1, v, hc.mono (fun e w'' ⟨he, n, hn⟩ => ⟨he, hn.trans n.eq⟩), h4⟩
      | halt x w' => simp only [Oper.quietUpon] at h3
    · rw [if_neg hw] at h ⊢
      exact ih _ h

theorem region_tail {P : Program} {id : Nat} {Q : Exit → Act → World → Prop} {a : Act} {w : World} {l : List Oper} (n : Nat) (hm : P.follows .mixedOrders = true) (hB : Region.lexTailB .any l.toArray n = true)
    (h : ∀ (w1 : World) (K : Act → Prop), Hid (w1 = w.drew) → Hid (∀ a', wpList P l.toArray Q (l.drop n) a' w1 → K a') → wpQuiet P l.toArray (fun w' => ∃ n : One w1, w' = n.w) K (l.take n) a) : (Code.region id l.toArray true).wp P Q a w :=
  wp_region_still_tail n hm hB (still_of_quiet _ _ (h w.drew _ rfl (fun _ h => h)))
end Go.Proofs.Ytmpgbonolmmcpaa

/- The specification's IndexOf. No condition. -/
namespace Go.Proofs.Ytmpgbonolmmcpaa
open Go.RowKit
set_option maxRecDepth 100000
set_option linter.unusedVariables false

/-- A row of entries of the call's own. -/
abbrev OwnPs (B : Nat) (w : World) (v : Value) (ps : List (ByteArray × ByteArray)) : Prop := w.ownsRow B 41 2 v ps.length (pairCells ps)
theorem Try.infoEnt : (Try.prog.info? 41).map (fun i => (i.zero, i.size, i.bytes)) = some (some (.agg #[.string ⟨#[]⟩, .string ⟨#[]⟩]), 2, 32) := by kernel_rfl

theorem sv_oneP {w : World} {g : Nat} {x y : ByteArray} {t : TypeId} (h : w.heap[g]? = some (.cells #[.string x, .string y] t (0, 0))) : Sv 2 w (.slice (some ⟨g, 0, none⟩) 1 1) (pairCells [(x, y)]) := by
  obtain ⟨c0, c1, _, _⟩ := rk_two h
  refine ⟨some ⟨g, 0, none⟩, 1, 1, rfl, rfl, Nat.le_refl _, by unfold maxLen; omega, (fun e => by cases e), fun i hi => ⟨g, 0, rfl, ?_⟩⟩
  have hi' : i < 2 := hi
  match i, hi' with
  | 0, _ => simpa [pairCells] using c0
  | 1, _ => simpa [pairCells] using c1
theorem pair_one (ps : List (ByteArray × ByteArray)) : ∀ v ∈ pairCells ps, v.oneCell' = true := by
  intro v hv
  obtain ⟨r, _, hr⟩ := List.mem_flatMap.mp hv
  simp only [List.mem_cons, List.not_mem_nil, or_false] at hr
  rcases hr with rfl | rfl <;> rfl
theorem World.ownsRow.baseD {B B' : Nat} {e : TypeId} {size n : Nat} {w : World} {v : Value} {xs : List Value} (h : w.ownsRow B e size v n xs) (hB : B' ≤ B) : w.ownsRow B' e size v n xs := by
  obtain ⟨hl, hv | ⟨g, cap, cur, hv, hb, r⟩⟩ := h
  · exact ⟨hl, .inl hv⟩
  · exact ⟨hl, .inr ⟨g, cap, cur, hv, Nat.le_trans hB hb, r⟩⟩
theorem pairCells_app2 (xs ys : List (ByteArray × ByteArray)) : pairCells (xs ++ ys) = pairCells xs ++ pairCells ys := by simp [pairCells]
theorem geq_str (t : TypeId) (a b : ByteArray) : binOp .geq t (.string a) (.string b) = pure (.bool (!(Op.bytesLess a.toList b.toList))) := by simp [binOp, Op.stringOp]
theorem bytesLess_irr (l : List UInt8) : Op.bytesLess l l = false := by
  induction l with
  | nil => rfl
  | cons a l ih => simp [Op.bytesLess, ih]
theorem slt_irr (a : ByteArray) : slt a a = false := bytesLess_irr _

set_option maxHeartbeats 2000000 in
set_option maxRecDepth 100000 in
theorem sindexOf_any {v : Value} {rs : List PRec} {w : World} (h : Sv 3 w v (recCells rs)) (hn : rs.length ≤ 1048576) :
    Calls Try.prog 24 #[v] w fun e w' => ∃ v', e = .returned v' ∧ OwnPs w.heap.size w' v' (idxOf rs) ∧ Below w.heap.size w w' := by
  obtain ⟨a, ca, rfl, _, _, hca⟩ := h.recs
  have HC := (show Hid (∀ k (hk : k < rs.length), ∃ b off, a = some ⟨b, off, none⟩ ∧ b < w.heap.size ∧ w.cell? ⟨b, off + k * 3, none⟩ = some (.int .i64 rs[k].kind) ∧ w.cell? ⟨b, off + k * 3 + 1, none⟩ = some (.string rs[k].url) ∧ w.cell? ⟨b, off + k * 3 + 2, none⟩ = some (.string rs[k].body)) from hca)
  obtain ⟨i0, hi, hz0, hz1, hz2⟩ := info_parts Try.infoEnt
  clear h hca
  have hge := geq_str
  go_enter Try.func24, Try.ntmps24
  go_wp2_with fail
  have b1 : Below w.heap.size w (w.alloc (.cells #[] 41)) := (Below.refl _ _).alloc (Nat.le_refl _) _
  have o1 : OwnPs w.heap.size (w.alloc (.cells #[] 41)) (.slice (some ⟨w.heap.size, 0, none⟩) 0 0) [] := World.ownsRow_lit w #[] 0 (Nat.le_refl _) (Nat.zero_le _) rfl
  go_loopw [3, 4] (fun z s wr => ∃ (k : Nat) (out : List (ByteArray × ByteArray)), k ≤ rs.length ∧ s = .int .i64 (k : Int) ∧ OwnPs w.heap.size wr z out ∧ Hid (idxN (rs.drop k) out = idxOf rs) ∧ out.length ≤ k ∧ Below w.heap.size w wr) (fun _ s _ => rs.length - (intOf s).toNat)
  case atStart => exact ⟨0, [], Nat.zero_le _, rfl, o1, rfl, Nat.le_refl _, b1⟩
  case round =>
    clear b1 o1
    obtain ⟨k, out, hk, rfl, o2, hF, hl, b2⟩ := hrel
    obtain ⟨wo, ewo⟩ : ∃ y, y = wr := ⟨_, rfl⟩
    subst ewo
    have HP := (show Hid (Sv 2 wo u3 (pairCells out)) from sv_of_own o2)
    obtain ⟨oa, oc, ez, _, _, hoc⟩ := (sv_of_own o2).pair
    subst ez
    have O2 := (show Hid (OwnPs w.heap.size wo (.slice oa out.length oc) out) from o2)
    have B2 := (show Hid (Below w.heap.size w wo) from b2)
    have HO := (show Hid (∀ m (hm : m < out.length), ∃ b off, oa = some ⟨b, off, none⟩ ∧ b < wo.heap.size ∧ wo.cell? ⟨b, off + m * 2, none⟩ = some (.string out[m].1) ∧ wo.cell? ⟨b, off + m * 2 + 1, none⟩ = some (.string out[m].2)) from hoc)
    clear o2 b2 hoc
    by_cases hlt : k < rs.length
    · have hlt' : (k : Int) < (rs.length : Int) := by omega
      obtain ⟨gb, go, rfl, gl, c0, c1, c2⟩ := HC.out k hlt
      have HD := (show Hid _ from idxN_drop hlt out)
      obtain ⟨x, hx⟩ : ∃ x, x = rs[k] := ⟨_, rfl⟩
      rw [← hx] at c0 c1 c2 HD
      clear hx
      obtain ⟨kd, ur, bo⟩ := x
      simp only at c0 c1 c2
      have HG := (show Hid (∀ W, Below wo.heap.size wo W → W.cell? ⟨gb, go + k * 3, none⟩ = some (.int .i64 kd) ∧ W.cell? ⟨gb, go + k * 3 + 1, none⟩ = some (.string ur) ∧ W.cell? ⟨gb, go + k * 3 + 2, none⟩ = some (.string bo)) from fun W b => by
        have b' := B2.out.trans (b.mono B2.out.size)
        exact ⟨(b'.cell (p := ⟨gb, go + k * 3, none⟩) gl).trans c0, (b'.cell (p := ⟨gb, go + k * 3 + 1, none⟩) gl).trans c1, (b'.cell (p := ⟨gb, go + k * 3 + 2, none⟩) gl).trans c2⟩)
      have gl2 : gb < wo.heap.size := Nat.lt_of_lt_of_le gl B2.out.size
      clear c0 c1 c2 gl
      obtain ⟨c0, c1, c2⟩ := HG.out _ (Below.refl _ _)
      obtain ⟨p0, hp0⟩ : ∃ p0, p0 = decide (kd ≠ 1) := ⟨_, rfl⟩
      have hpk : (kd != 1) = p0 := by
        rw [hp0]
        by_cases h : kd = 1 <;> simp [h]
      rw [← hp0] at HD
      clear hp0
      have b3 : Below wo.heap.size wo (wo.alloc (.cells #[] 41)) := (Below.refl _ _).alloc (Nat.le_refl _) _
      have o3 : OwnPs wo.heap.size (wo.alloc (.cells #[] 41)) (.slice (some ⟨wo.heap.size, 0, none⟩) 0 0) [] := World.ownsRow_lit wo #[] 0 (Nat.le_refl _) (Nat.zero_le _) rfl
      go_wp2_with fail
      go_loopw [5, 6, 7] (fun z b s wq => ∃ (m : Nat) (pre : List (ByteArray × ByteArray)) (pb : Bool), m ≤ out.length ∧ s = .int .i64 (m : Int) ∧ b = .bool pb ∧ OwnPs wo.heap.size wq z pre ∧ Hid (pre ++ insE ⟨kd, ur, bo⟩ pb (out.drop m) = insE ⟨kd, ur, bo⟩ p0 out) ∧ pre.length ≤ 2 * m ∧ Below wo.heap.size wo wq) (fun _ _ s _ => out.length - (intOf s).toNat)
      case atStart => exact ⟨0, [], p0, Nat.zero_le _, rfl, rfl, o3, rfl, Nat.le_refl _, b3⟩
      case round =>
        clear b3 o3 hpk c0 c1 c2
        obtain ⟨m, pre, pb, hm, rfl, rfl, o4, hI, hpl, b4⟩ := hrel
        have O4 := (show Hid (OwnPs wo.heap.size wr u5 pre) from o4)
        have B4 := (show Hid (Below wo.heap.size wo wr) from b4)
        clear o4 b4
        by_cases hlm : m < out.length
        · have hlm' : (m : Int) < (out.length : Int) := by omega
          obtain ⟨eb, eo, rfl, el, e1, e2⟩ := HO.out m hlm
          have HN := (show Hid _ from insE_drop (r := ⟨kd, ur, bo⟩) (put := pb) hlm)
          obtain ⟨y, hy⟩ : ∃ y, y = out[m] := ⟨_, rfl⟩
          rw [← hy] at e1 e2 HN
          clear hy
          obtain ⟨yu, yb⟩ := y
          simp only at e1 e2
          have HY := (show Hid (∀ W, Below wo.heap.size wo W → W.cell? ⟨eb, eo + m * 2, none⟩ = some (.string yu) ∧ W.cell? ⟨eb, eo + m * 2 + 1, none⟩ = some (.string yb)) from fun W b => ⟨(b.cell (p := ⟨eb, eo + m * 2, none⟩) el).trans e1, (b.cell (p := ⟨eb, eo + m * 2 + 1, none⟩) el).trans e2⟩)
          clear e1 e2
          obtain ⟨e1, e2⟩ := HY.out _ B4.out
          obtain ⟨c0, c1, c2⟩ := HG.out _ B4.out
          obtain ⟨lt, hlt2⟩ : ∃ lt, lt = slt yu ur := ⟨_, rfl⟩
          have hsl : Op.bytesLess yu.toList ur.toList = lt := hlt2.symm
          simp only at HN
          rw [← hlt2] at HN
          clear hlt2
          have HQ := (show Hid (wr.drew.cell? ⟨eb, eo + m * 2, none⟩ = some (.string yu) ∧ wr.drew.cell? ⟨gb, go + k * 3 + 1, none⟩ = some (.string ur)) from ⟨e1, c1⟩)
          obtain ⟨w4, hw4⟩ : ∃ y, y = wr.drew := ⟨_, rfl⟩
          have O_w4 : Hid (OwnPs wo.heap.size w4 u5 pre) := (show OwnPs wo.heap.size w4 u5 pre by rw [hw4]; exact ownsRow_below O4.out (below_drewN 1))
          have B_w4 : Hid (Below wo.heap.size wo w4) := (show Below wo.heap.size wo w4 by rw [hw4]; exact B4.out.trans (below_drewN 1))
          cases pb
          · go_wp2_with fail
            go_region_held3 (fun w' => w'.cell? ⟨eb, eo + m * 2, none⟩ = some (.string yu) ∧ w'.cell? ⟨gb, go + k * 3 + 1, none⟩ = some (.string ur)) (first | exact HQ.out) (fail)
            rw [← hw4]
            clear hw4 HQ O4 B4 e1 e2 c0 c1 c2
            by_cases hyu : yu = ur
            · cases lt
              · have hyt : (yu.toList == ur.toList) = true := by rw [hyu]; simp
                have HZ : Hid (pre ++ [(ur, bo)] ++ insE ⟨kd, ur, bo⟩ true (out.drop (m + 1)) = insE ⟨kd, ur, bo⟩ p0 out) := (show _ = _ by rw [← hI.out, HN.out]; simp [hyu])
                clear HN hI hyu
                go_wp2_with fail
                have KS := (show Hid (∀ w', Below wo.heap.size wo w' → w'.cell? ⟨gb, go + k * 3 + 1, none⟩ = some (.string ur) ∧ w'.cell? ⟨gb, go + k * 3 + 2, none⟩ = some (.string bo)) from fun W b => ⟨(HG.out W b).2.1, (HG.out W b).2.2⟩)
                have KD := (show Hid (Below wo.heap.size wo w4.drew) from B_w4.out.trans (below_drewN 1))
                have KA := (show Hid (Below wo.heap.size wo (w4.alloc (.cells #[.string ur, .string bo] 41)).drew) from (B_w4.out.alloc B_w4.out.size _).trans (below_drewN 1))
                have OA := (show Hid ((w4.alloc (.cells #[.string ur, .string bo] 41)).drew.ownsRow wo.heap.size 41 2 u5 (pre).length (pairCells (pre))) from ownsRow_below (ownsRow_below O_w4.out ((Below.refl _ _).alloc (Nat.le_refl _) _)) (below_drewN 1))
                have SA := (show Hid (Sv 2 (w4.alloc (.cells #[.string ur, .string bo] 41)).drew (.slice (some ⟨w4.heap.size, 0, none⟩) 1 1) (pairCells [(ur, bo)])) from Sv.below (sv_oneP (World.alloc_heap_new w4 (.cells #[.string ur, .string bo] 41))) (below_drewN 1))
                go_region_held3 (fun w' => w'.cell? ⟨gb, go + k * 3 + 1, none⟩ = some (.string ur) ∧ w'.cell? ⟨gb, go + k * 3 + 2, none⟩ = some (.string bo))
                  (first | exact KS.out _ KD.out | exact KS.out _ KA.out | exact KS.out _ B_w5.out)
                  (first
                    | (refine step_appS rfl _ _ 37 rfl wo.heap.size 41 i0 _ 2 32 Try.underlying37 hi hz0 hz1 hz2 rfl (by decide) u5 (pre).length (pairCells (pre)) rfl OA.out (.slice (some ⟨w4.heap.size, 0, none⟩) 1 1) 1 (pairCells [(ur, bo)]) rfl SA.out rfl (pair_one _) (by unfold maxLen; first | omega | (simp only [List.length_append, List.length_singleton]; omega)) (by first | omega | (simp only [List.length_append, List.length_singleton]; omega)) KA.out.size ?_
                       intro v5 w5 o g
                       have O_w5 := (show Hid (OwnPs wo.heap.size w5 v5 (pre ++ [(ur, bo)])) from by show World.ownsRow _ _ _ _ _ _ _; rw [List.length_append, pairCells_app2]; exact o)
                       have B_w5 := (show Hid (Below wo.heap.size wo w5) from KA.out.grown g KA.out.size (fun r e => (World.ownsRow.lt O_w4.out r e).1))
                       clear o g))
                clear KS KD KA OA SA
                go_wp2_with fail
                have HQw5q := (show Hid (w5.drew.cell? ⟨eb, eo + m * 2, none⟩ = some (.string yu) ∧ w5.drew.cell? ⟨gb, go + k * 3 + 1, none⟩ = some (.string ur)) from ⟨(HY.out _ B_w5.out).1, (HG.out _ B_w5.out).2.1⟩)
                obtain ⟨w5q, hw5q⟩ : ∃ y, y = w5.drew := ⟨_, rfl⟩
                have B_w5q : Hid (Below wo.heap.size wo w5q) := (show Below wo.heap.size wo w5q by rw [hw5q]; exact B_w5.out.trans (below_drewN 1))
                go_region_held3 (fun w' => w'.cell? ⟨eb, eo + m * 2, none⟩ = some (.string yu) ∧ w'.cell? ⟨gb, go + k * 3 + 1, none⟩ = some (.string ur)) (first | exact HQw5q.out) (fail)
                rw [← hw5q]
                have O_w5q : Hid (OwnPs wo.heap.size w5q v5 (pre ++ [(ur, bo)])) := (show OwnPs wo.heap.size w5q v5 (pre ++ [(ur, bo)]) by rw [hw5q]; exact ownsRow_below O_w5.out (below_drewN 1))
                clear hw5q HQw5q
                go_wp2
                go_roundw
                case rel => exact ⟨m + 1, pre ++ [(ur, bo)], true, hlm, by go_num, rfl, O_w5q.out, HZ, by first | omega | (simp only [List.length_append, List.length_singleton]; omega), B_w5q.out⟩
                case measure => simp [intOf]; omega
              · exfalso
                have := slt_irr yu
                rw [slt] at this
                rw [← hyu, this] at hsl
                cases hsl
            · have hd := toList_ne hyu
              cases lt
              · have hne := hyu
                have HZ : Hid (pre ++ [(ur, bo)] ++ [(yu, yb)] ++ insE ⟨kd, ur, bo⟩ true (out.drop (m + 1)) = insE ⟨kd, ur, bo⟩ p0 out) := (show _ = _ by rw [← hI.out, HN.out]; simp [hyu])
                clear HN hI
                go_wp2_with fail
                have KS := (show Hid (∀ w', Below wo.heap.size wo w' → w'.cell? ⟨gb, go + k * 3 + 1, none⟩ = some (.string ur) ∧ w'.cell? ⟨gb, go + k * 3 + 2, none⟩ = some (.string bo)) from fun W b => ⟨(HG.out W b).2.1, (HG.out W b).2.2⟩)
                have KD := (show Hid (Below wo.heap.size wo w4.drew) from B_w4.out.trans (below_drewN 1))
                have KA := (show Hid (Below wo.heap.size wo (w4.alloc (.cells #[.string ur, .string bo] 41)).drew) from (B_w4.out.alloc B_w4.out.size _).trans (below_drewN 1))
                have OA := (show Hid ((w4.alloc (.cells #[.string ur, .string bo] 41)).drew.ownsRow wo.heap.size 41 2 u5 (pre).length (pairCells (pre))) from ownsRow_below (ownsRow_below O_w4.out ((Below.refl _ _).alloc (Nat.le_refl _) _)) (below_drewN 1))
                have SA := (show Hid (Sv 2 (w4.alloc (.cells #[.string ur, .string bo] 41)).drew (.slice (some ⟨w4.heap.size, 0, none⟩) 1 1) (pairCells [(ur, bo)])) from Sv.below (sv_oneP (World.alloc_heap_new w4 (.cells #[.string ur, .string bo] 41))) (below_drewN 1))
                go_region_held3 (fun w' => w'.cell? ⟨gb, go + k * 3 + 1, none⟩ = some (.string ur) ∧ w'.cell? ⟨gb, go + k * 3 + 2, none⟩ = some (.string bo))
                  (first | exact KS.out _ KD.out | exact KS.out _ KA.out | exact KS.out _ B_w5.out)
                  (first
                    | (refine step_appS rfl _ _ 37 rfl wo.heap.size 41 i0 _ 2 32 Try.underlying37 hi hz0 hz1 hz2 rfl (by decide) u5 (pre).length (pairCells (pre)) rfl OA.out (.slice (some ⟨w4.heap.size, 0, none⟩) 1 1) 1 (pairCells [(ur, bo)]) rfl SA.out rfl (pair_one _) (by unfold maxLen; first | omega | (simp only [List.length_append, List.length_singleton]; omega)) (by first | omega | (simp only [List.length_append, List.length_singleton]; omega)) KA.out.size ?_
                       intro v5 w5 o g
                       have O_w5 := (show Hid (OwnPs wo.heap.size w5 v5 (pre ++ [(ur, bo)])) from by show World.ownsRow _ _ _ _ _ _ _; rw [List.length_append, pairCells_app2]; exact o)
                       have B_w5 := (show Hid (Below wo.heap.size wo w5) from KA.out.grown g KA.out.size (fun r e => (World.ownsRow.lt O_w4.out r e).1))
                       clear o g))
                clear KS KD KA OA SA
                go_wp2_with fail
                have HQw5q := (show Hid (w5.drew.cell? ⟨eb, eo + m * 2, none⟩ = some (.string yu) ∧ w5.drew.cell? ⟨gb, go + k * 3 + 1, none⟩ = some (.string ur)) from ⟨(HY.out _ B_w5.out).1, (HG.out _ B_w5.out).2.1⟩)
                obtain ⟨w5q, hw5q⟩ : ∃ y, y = w5.drew := ⟨_, rfl⟩
                have B_w5q : Hid (Below wo.heap.size wo w5q) := (show Below wo.heap.size wo w5q by rw [hw5q]; exact B_w5.out.trans (below_drewN 1))
                go_region_held3 (fun w' => w'.cell? ⟨eb, eo + m * 2, none⟩ = some (.string yu) ∧ w'.cell? ⟨gb, go + k * 3 + 1, none⟩ = some (.string ur)) (first | exact HQw5q.out) (fail)
                rw [← hw5q]
                have O_w5q : Hid (OwnPs wo.heap.size w5q v5 (pre ++ [(ur, bo)])) := (show OwnPs wo.heap.size w5q v5 (pre ++ [(ur, bo)]) by rw [hw5q]; exact ownsRow_below O_w5.out (below_drewN 1))
                clear hw5q HQw5q
                obtain ⟨e1, e2⟩ := HY.out _ B_w5q.out
                go_wp2_with (
                  at_builtin
                  refine wpList_appV _ rfl (.tmp 68) (.tmp 73) 37 rfl wo.heap.size 41 i0 _ 2 32 Try.underlying37 hi hz0 hz1 hz2 rfl (by decide) v5 (.slice (some ⟨w5q.heap.size, 0, none⟩) 1 1) (pre ++ [(ur, bo)]).length 1 (pairCells (pre ++ [(ur, bo)])) (pairCells [(yu, yb)]) rfl rfl (ownsRow_below O_w5q.out ((Below.refl _ _).alloc (Nat.le_refl _) _)) (sv_oneP (World.alloc_heap_new _ _)) rfl (pair_one _) (by first | omega | (simp only [List.length_append, List.length_singleton]; omega)) (by unfold maxLen; first | omega | (simp only [List.length_append, List.length_singleton]; omega)) (by rw [World.size_alloc]; have := B_w5q.out.size; omega) ?_
                  intro v6 w6 o g
                  have O_w6 := (show Hid (OwnPs wo.heap.size w6 v6 (pre ++ [(ur, bo)] ++ [(yu, yb)])) from by show World.ownsRow _ _ _ _ _ _ _; rw [List.length_append, pairCells_app2]; exact o)
                  have B_w6 := (show Hid (Below wo.heap.size wo w6) from (B_w5q.out.alloc B_w5q.out.size _).grown g (by rw [World.size_alloc]; have := B_w5q.out.size; omega) (fun r e => (World.ownsRow.lt O_w5q.out r e).1))
                  clear o g)
                go_roundw
                case rel => exact ⟨m + 1, pre ++ [(ur, bo)] ++ [(yu, yb)], true, hlm, by go_num, rfl, O_w6.out, HZ, by first | omega | (simp only [List.length_append, List.length_singleton]; omega), B_w6.out⟩
                case measure => simp [intOf]; omega
              · have hne := hyu
                have HZ : Hid (pre ++ [(yu, yb)] ++ insE ⟨kd, ur, bo⟩ false (out.drop (m + 1)) = insE ⟨kd, ur, bo⟩ p0 out) := (show _ = _ by rw [← hI.out, HN.out]; simp [hyu])
                clear HN hI
                go_wp2_with fail
                have HQw4q := (show Hid (w4.drew.cell? ⟨eb, eo + m * 2, none⟩ = some (.string yu) ∧ w4.drew.cell? ⟨gb, go + k * 3 + 1, none⟩ = some (.string ur)) from ⟨(HY.out _ B_w4.out).1, (HG.out _ B_w4.out).2.1⟩)
                obtain ⟨w4q, hw4q⟩ : ∃ y, y = w4.drew := ⟨_, rfl⟩
                have B_w4q : Hid (Below wo.heap.size wo w4q) := (show Below wo.heap.size wo w4q by rw [hw4q]; exact B_w4.out.trans (below_drewN 1))
                go_region_held3 (fun w' => w'.cell? ⟨eb, eo + m * 2, none⟩ = some (.string yu) ∧ w'.cell? ⟨gb, go + k * 3 + 1, none⟩ = some (.string ur)) (first | exact HQw4q.out) (fail)
                rw [← hw4q]
                have O_w4q : Hid (OwnPs wo.heap.size w4q u5 (pre)) := (show OwnPs wo.heap.size w4q u5 (pre) by rw [hw4q]; exact ownsRow_below O_w4.out (below_drewN 1))
                clear hw4q HQw4q
                obtain ⟨e1, e2⟩ := HY.out _ B_w4q.out
                go_wp2_with (
                  at_builtin
                  refine wpList_appV _ rfl (.tmp 68) (.tmp 73) 37 rfl wo.heap.size 41 i0 _ 2 32 Try.underlying37 hi hz0 hz1 hz2 rfl (by decide) u5 (.slice (some ⟨w4q.heap.size, 0, none⟩) 1 1) (pre).length 1 (pairCells (pre)) (pairCells [(yu, yb)]) rfl rfl (ownsRow_below O_w4q.out ((Below.refl _ _).alloc (Nat.le_refl _) _)) (sv_oneP (World.alloc_heap_new _ _)) rfl (pair_one _) (by first | omega | (simp only [List.length_append, List.length_singleton]; omega)) (by unfold maxLen; first | omega | (simp only [List.length_append, List.length_singleton]; omega)) (by rw [World.size_alloc]; have := B_w4q.out.size; omega) ?_
                  intro v6 w6 o g
                  have O_w6 := (show Hid (OwnPs wo.heap.size w6 v6 (pre ++ [(yu, yb)])) from by show World.ownsRow _ _ _ _ _ _ _; rw [List.length_append, pairCells_app2]; exact o)
                  have B_w6 := (show Hid (Below wo.heap.size wo w6) from (B_w4q.out.alloc B_w4q.out.size _).grown g (by rw [World.size_alloc]; have := B_w4q.out.size; omega) (fun r e => (World.ownsRow.lt O_w4q.out r e).1))
                  clear o g)
                go_roundw
                case rel => exact ⟨m + 1, pre ++ [(yu, yb)], false, hlm, by go_num, rfl, O_w6.out, HZ, by first | omega | (simp only [List.length_append, List.length_singleton]; omega), B_w6.out⟩
                case measure => simp [intOf]; omega
          · go_wp2_with fail
            refine region_tail 14 (by kernel_rfl) (by kernel_rfl) ?_
            intro x1 K1 hX1 hK1
            have ne := One.any x1
            simp only [List.take_succ_cons, List.take_zero, List.drop_succ_cons, List.drop_zero] at hK1 ⊢
            repeat (go_big_quiet_step (fail))
            refine wpQuiet_nil ?_
            refine hK1.out _ ?_
            clear hK1 ne
            rw [hX1.out, ← hw4]
            clear hX1 hw4 HQ O4 B4 e1 e2 c0 c1 c2
            by_cases hyu : yu = ur
            · have hyt : (yu.toList == ur.toList) = true := by rw [hyu]; simp
              have HZ : Hid (pre ++ insE ⟨kd, ur, bo⟩ true (out.drop (m + 1)) = insE ⟨kd, ur, bo⟩ p0 out) := (show _ = _ by rw [← hI.out, HN.out]; simp [hyu])
              clear HN hI hyu
              go_wp2_with fail
              have HQw4q := (show Hid (w4.drew.cell? ⟨eb, eo + m * 2, none⟩ = some (.string yu) ∧ w4.drew.cell? ⟨gb, go + k * 3 + 1, none⟩ = some (.string ur)) from ⟨(HY.out _ B_w4.out).1, (HG.out _ B_w4.out).2.1⟩)
              obtain ⟨w4q, hw4q⟩ : ∃ y, y = w4.drew := ⟨_, rfl⟩
              have B_w4q : Hid (Below wo.heap.size wo w4q) := (show Below wo.heap.size wo w4q by rw [hw4q]; exact B_w4.out.trans (below_drewN 1))
              go_region_held3 (fun w' => w'.cell? ⟨eb, eo + m * 2, none⟩ = some (.string yu) ∧ w'.cell? ⟨gb, go + k * 3 + 1, none⟩ = some (.string ur)) (first | exact HQw4q.out) (fail)
              rw [← hw4q]
              have O_w4q : Hid (OwnPs wo.heap.size w4q u5 (pre)) := (show OwnPs wo.heap.size w4q u5 (pre) by rw [hw4q]; exact ownsRow_below O_w4.out (below_drewN 1))
              clear hw4q HQw4q
              go_wp2
              go_roundw
              case rel => exact ⟨m + 1, pre, true, hlm, by go_num, rfl, O_w4q.out, HZ, by first | omega | (simp only [List.length_append, List.length_singleton]; omega), B_w4q.out⟩
              case measure => simp [intOf]; omega
            · have hd := toList_ne hyu
              have HZ : Hid (pre ++ [(yu, yb)] ++ insE ⟨kd, ur, bo⟩ true (out.drop (m + 1)) = insE ⟨kd, ur, bo⟩ p0 out) := (show _ = _ by rw [← hI.out, HN.out]; simp [hyu])
              clear HN hI
              go_wp2_with fail
              have HQw4q := (show Hid (w4.drew.cell? ⟨eb, eo + m * 2, none⟩ = some (.string yu) ∧ w4.drew.cell? ⟨gb, go + k * 3 + 1, none⟩ = some (.string ur)) from ⟨(HY.out _ B_w4.out).1, (HG.out _ B_w4.out).2.1⟩)
              obtain ⟨w4q, hw4q⟩ : ∃ y, y = w4.drew := ⟨_, rfl⟩
              have B_w4q : Hid (Below wo.heap.size wo w4q) := (show Below wo.heap.size wo w4q by rw [hw4q]; exact B_w4.out.trans (below_drewN 1))
              go_region_held3 (fun w' => w'.cell? ⟨eb, eo + m * 2, none⟩ = some (.string yu) ∧ w'.cell? ⟨gb, go + k * 3 + 1, none⟩ = some (.string ur)) (first | exact HQw4q.out) (fail)
              rw [← hw4q]
              have O_w4q : Hid (OwnPs wo.heap.size w4q u5 (pre)) := (show OwnPs wo.heap.size w4q u5 (pre) by rw [hw4q]; exact ownsRow_below O_w4.out (below_drewN 1))
              clear hw4q HQw4q
              obtain ⟨e1, e2⟩ := HY.out _ B_w4q.out
              go_wp2_with (
                at_builtin
                refine wpList_appV _ rfl (.tmp 68) (.tmp 73) 37 rfl wo.heap.size 41 i0 _ 2 32 Try.underlying37 hi hz0 hz1 hz2 rfl (by decide) u5 (.slice (some ⟨w4q.heap.size, 0, none⟩) 1 1) (pre).length 1 (pairCells (pre)) (pairCells [(yu, yb)]) rfl rfl (ownsRow_below O_w4q.out ((Below.refl _ _).alloc (Nat.le_refl _) _)) (sv_oneP (World.alloc_heap_new _ _)) rfl (pair_one _) (by first | omega | (simp only [List.length_append, List.length_singleton]; omega)) (by unfold maxLen; first | omega | (simp only [List.length_append, List.length_singleton]; omega)) (by rw [World.size_alloc]; have := B_w4q.out.size; omega) ?_
                intro v6 w6 o g
                have O_w6 := (show Hid (OwnPs wo.heap.size w6 v6 (pre ++ [(yu, yb)])) from by show World.ownsRow _ _ _ _ _ _ _; rw [List.length_append, pairCells_app2]; exact o)
                have B_w6 := (show Hid (Below wo.heap.size wo w6) from (B_w4q.out.alloc B_w4q.out.size _).grown g (by rw [World.size_alloc]; have := B_w4q.out.size; omega) (fun r e => (World.ownsRow.lt O_w4q.out r e).1))
                clear o g)
              go_roundw
              case rel => exact ⟨m + 1, pre ++ [(yu, yb)], true, hlm, by go_num, rfl, O_w6.out, HZ, by first | omega | (simp only [List.length_append, List.length_singleton]; omega), B_w6.out⟩
              case measure => simp [intOf]; omega
        · obtain rfl : m = out.length := by omega
          have hn' : ¬ ((out.length : Int) < (out.length : Int)) := by omega
          have LI : Hid ((insE ⟨kd, ur, bo⟩ p0 out).length ≤ out.length + 1) := (show (insE ⟨kd, ur, bo⟩ p0 out).length ≤ out.length + 1 by have := insE_len ⟨kd, ur, bo⟩ p0 out; split at this <;> omega)
          have B24 := (show Hid (∀ W, Below wo.heap.size wo W → Below w.heap.size w W) from fun W b => B2.out.trans (b.mono B2.out.size))
          have S24 := (show Hid (w.heap.size ≤ wo.heap.size) from B2.out.size)
          have O_wr := (show Hid (OwnPs wo.heap.size wr u5 pre) from O4.out)
          have B_wr := (show Hid (Below wo.heap.size wo wr) from B4.out)
          obtain ⟨c0, c1, c2⟩ := HG.out _ B4.out
          cases pb
          · have HZ : Hid (pre ++ [(ur, bo)] = insE ⟨kd, ur, bo⟩ p0 out) := (show _ = _ by rw [← hI.out, List.drop_length]; rfl)
            have HT : Hid (idxN (rs.drop (k + 1)) (pre ++ [(ur, bo)]) = idxOf rs) := (show _ = _ by rw [HZ.out, ← HD.out]; exact hF.out)
            clear O4 B4
            go_wp2_with fail
            have KS := (show Hid (∀ w', Below wo.heap.size wo w' → w'.cell? ⟨gb, go + k * 3 + 1, none⟩ = some (.string ur) ∧ w'.cell? ⟨gb, go + k * 3 + 2, none⟩ = some (.string bo)) from fun W b => ⟨(HG.out W b).2.1, (HG.out W b).2.2⟩)
            have KD := (show Hid (Below wo.heap.size wo wr.drew) from B_wr.out.trans (below_drewN 1))
            have KA := (show Hid (Below wo.heap.size wo (wr.alloc (.cells #[.string ur, .string bo] 41)).drew) from (B_wr.out.alloc B_wr.out.size _).trans (below_drewN 1))
            have OA := (show Hid ((wr.alloc (.cells #[.string ur, .string bo] 41)).drew.ownsRow wo.heap.size 41 2 u5 (pre).length (pairCells (pre))) from ownsRow_below (ownsRow_below O_wr.out ((Below.refl _ _).alloc (Nat.le_refl _) _)) (below_drewN 1))
            have SA := (show Hid (Sv 2 (wr.alloc (.cells #[.string ur, .string bo] 41)).drew (.slice (some ⟨wr.heap.size, 0, none⟩) 1 1) (pairCells [(ur, bo)])) from Sv.below (sv_oneP (World.alloc_heap_new wr (.cells #[.string ur, .string bo] 41))) (below_drewN 1))
            go_region_held3 (fun w' => w'.cell? ⟨gb, go + k * 3 + 1, none⟩ = some (.string ur) ∧ w'.cell? ⟨gb, go + k * 3 + 2, none⟩ = some (.string bo))
              (first | exact KS.out _ KD.out | exact KS.out _ KA.out | exact KS.out _ B_w5.out)
              (first
                | (refine step_appS rfl _ _ 37 rfl wo.heap.size 41 i0 _ 2 32 Try.underlying37 hi hz0 hz1 hz2 rfl (by decide) u5 (pre).length (pairCells (pre)) rfl OA.out (.slice (some ⟨wr.heap.size, 0, none⟩) 1 1) 1 (pairCells [(ur, bo)]) rfl SA.out rfl (pair_one _) (by unfold maxLen; first | omega | (simp only [List.length_append, List.length_singleton]; omega)) (by first | omega | (simp only [List.length_append, List.length_singleton]; omega)) KA.out.size ?_
                   intro v5 w5 o g
                   have O_w5 := (show Hid (OwnPs wo.heap.size w5 v5 (pre ++ [(ur, bo)])) from by show World.ownsRow _ _ _ _ _ _ _; rw [List.length_append, pairCells_app2]; exact o)
                   have B_w5 := (show Hid (Below wo.heap.size wo w5) from KA.out.grown g KA.out.size (fun r e => (World.ownsRow.lt O_wr.out r e).1))
                   clear o g))
            clear KS KD KA OA SA
            go_wp2
            go_roundw
            case rel => exact ⟨k + 1, pre ++ [(ur, bo)], hlt, by go_num, World.ownsRow.baseD O_w5.out S24.out, HT, by rw [HZ.out]; have := LI.out; omega, B24.out _ B_w5.out⟩
            case measure => simp [intOf]; omega
          · have HZ : Hid (pre = insE ⟨kd, ur, bo⟩ p0 out) := (show _ = _ by rw [← hI.out, List.drop_length]; simp [insE])
            have HT : Hid (idxN (rs.drop (k + 1)) pre = idxOf rs) := (show _ = _ by rw [HZ.out, ← HD.out]; exact hF.out)
            clear O4 B4
            go_wp2
            go_roundw
            case rel => exact ⟨k + 1, pre, hlt, by go_num, World.ownsRow.baseD O_wr.out S24.out, HT, by rw [HZ.out]; have := LI.out; omega, B24.out _ B_wr.out⟩
            case measure => simp [intOf]; omega
    · obtain rfl : k = rs.length := by omega
      have hn' : ¬ ((rs.length : Int) < (rs.length : Int)) := by omega
      have HT : Hid (out = idxOf rs) := (show out = idxOf rs by have := hF.out; rw [List.drop_length] at this; exact this)
      clear hF HP HO
      go_wp2
      go_ret
      exact ⟨_, rfl, by rw [← HT.out]; exact O2.out, B2.out⟩
end Go.Proofs.Ytmpgbonolmmcpaa

/- The exact laws of UrlOk and RecordPack from their contracts. -/
namespace Go.Proofs.Ytmpgbonolmmcpaa
open Go.RowKit
set_option maxRecDepth 100000
set_option linter.unusedVariables false

def UrlOkOk : Prop := ∀ (s : ByteArray) (w : World), s.size ≤ 1099511627776 → Calls Try.prog 20 #[.string s] w fun e w' => e = .returned (.bool (urlB s)) ∧ Below w.heap.size w w'
def RecordPackOk : Prop := ∀ (r : PRec) (w : World), r.url.size ≤ 1099511627776 → r.body.size ≤ 1099511627776 → Calls Try.prog 14 #[recV r] w fun e w' => ∃ v, e = .returned (.tuple #[v, .bool (packR r).2]) ∧ Own w.heap.size 5 .u8 w' v (packR r).1 ∧ Below w.heap.size w w'

theorem fnExactUrlOk_of (H : UrlOkOk) {s : ByteArray} (w : World) (hs : s.size ≤ maxLen) :
    Calls Try.prog 5 #[.string s] w fun e w' => e = .returned (.bool true) ∧ Below w.heap.size w w' := by
  by_cases hle : s.size ≤ 1048576
  · have CS := (show Hid (∀ W, Calls Try.prog 27 #[.string s] W fun e w' => e = .returned (.bool (urlB s)) ∧ w' = W) from fun W => surlOk_any s W (by omega))
    have CI := (show Hid (∀ W, Calls Try.prog 20 #[.string s] W fun e w' => e = .returned (.bool (urlB s)) ∧ Below W.heap.size W w') from fun W => H s W (by omega))
    obtain ⟨q, hq⟩ : ∃ q, q = urlB s := ⟨_, rfl⟩
    rw [← hq] at CS CI
    clear hq H
    go_enter Try.func5, Try.ntmps5
    go_wp2_with fail
    go_at_call 27
    refine Calls.mono (CS.out _) ?_
    rintro e w1 ⟨rfl, e1⟩
    subst e1
    go_wp2_with fail
    go_at_call 20
    refine Calls.mono (CI.out _) ?_
    rintro e w2 ⟨rfl, b2⟩
    have eq1 : (q != q) = false := by cases q <;> rfl
    go_wp2
    go_ret
    exact ⟨rfl, b2⟩
  · go_enter Try.func5, Try.ntmps5
    go_wp2
    go_ret
    exact ⟨rfl, Below.refl _ _⟩

set_option maxRecDepth 100000 in
theorem toRecord_any (r : PRec) (w : World) : Calls Try.prog 29 #[recV r] w fun e w' => e = .returned (recV r) ∧ Below w.heap.size w w' := by
  obtain ⟨no, ar, en⟩ := r
  show Calls Try.prog 29 #[.agg #[.int .i64 no, .string ar, .string en]] w _
  have h1 := (((Hl.refl w).new #[.int .i64 no, .string ar, .string en] 45).new #[.int .i64 no, .string ar, .string en] 25).new #[.int .i64 no, .string ar, .string en] 25
  rw [World.size_alloc, World.size_alloc] at h1
  have H1 := (show Hid _ from h1)
  clear h1
  go_enter Try.func29, Try.ntmps29
  go_wp2
  refine bodyPost_ret (results_cell_row rfl _ _ (w.heap.size + 1) 25 #[.int .i64 no, .string ar, .string en] (0, 0) _ rfl H1.out.at1 Try.underlying25 rfl rfl) rfl ?_
  exact ⟨rfl, H1.out.1⟩
set_option maxRecDepth 100000 in
theorem szRecord_any (r : PRec) (l : Int) (w : World) (h0 : 0 ≤ l) (h1 : l ≤ 1099511627776) (ha : r.url.size ≤ maxLen) (hb : r.body.size ≤ maxLen) :
    Calls Try.prog 28 #[recV r, .int .i64 l] w fun e w' => ∃ q : Int, e = .returned (.int .i64 q) ∧ (q < 0 ∨ (0 ≤ q ∧ q = l - r.url.size - r.body.size)) ∧ Below w.heap.size w w' := by
  obtain ⟨kd, ur, bo⟩ := r
  simp only at ha hb ⊢
  show Calls Try.prog 28 #[.agg #[.int .i64 kd, .string ur, .string bo], .int .i64 l] w _
  have hm : maxLen = 9223372036854775807 := rfl
  have b1 := (show Hid (Below w.heap.size w (w.alloc (.cells #[.int .i64 kd, .string ur, .string bo] 45))) from (Below.refl _ _).alloc (Nat.le_refl _) _)
  by_cases c1 : l - (ur.size : Int) < 0
  · go_enter Try.func28, Try.ntmps28
    go_wp2
    go_ret
    exact ⟨-1, rfl, .inl (by omega), b1.out⟩
  · by_cases c2 : l - (ur.size : Int) - (bo.size : Int) < 0
    · go_enter Try.func28, Try.ntmps28
      go_wp2
      go_ret
      exact ⟨-1, rfl, .inl (by omega), b1.out⟩
    · go_enter Try.func28, Try.ntmps28
      go_wp2
      go_ret
      exact ⟨_, rfl, .inr ⟨by omega, by omega⟩, b1.out⟩
end Go.Proofs.Ytmpgbonolmmcpaa

/- The exact law of RecordPack from its contract. -/
namespace Go.Proofs.Ytmpgbonolmmcpaa
open Go.RowKit
set_option maxRecDepth 100000
set_option linter.unusedVariables false

theorem packR_len (r : PRec) : (packR r).1.length ≤ 27 + r.url.size + r.body.size := by
  unfold packR
  split
  · have h1 := form_len r.kind
    have h2 := textForm_len r.url
    have h3 := textForm_len r.body
    show (recL r).length ≤ _
    unfold recL
    rw [List.length_append, List.length_append]
    split
    · omega
    · rw [List.length_nil]; omega
  · simp

set_option maxHeartbeats 1000000 in
set_option maxRecDepth 100000 in
theorem fnExactRecordPack_of (H : RecordPackOk) {r : PRec} (w : World) (k0 : (Lit.int .i64 r.kind).wf = true) (ha : r.url.size ≤ maxLen) (hb : r.body.size ≤ maxLen) :
    Calls Try.prog 6 #[recV r] w fun e w' => e = .returned (.bool true) ∧ Below w.heap.size w w' := by
  have CZ := (show Hid (∀ W, Calls Try.prog 28 #[recV r, .int .i64 1048576] W fun e w' => ∃ q : Int, e = .returned (.int .i64 q) ∧ (q < 0 ∨ (0 ≤ q ∧ q = 1048576 - r.url.size - r.body.size)) ∧ Below W.heap.size W w') from fun W => szRecord_any r 1048576 W (by omega) (by omega) ha hb)
  have CT := (show Hid _ from toRecord_any r)
  have LP := packR_len r
  have CS := (show Hid (∀ W, (r.url.size ≤ 1099511627776 ∧ r.body.size ≤ 1099511627776) → Calls Try.prog 15 #[recV r] W fun e w' => ∃ v, e = .returned (.tuple #[v, .bool (packR r).2]) ∧ Own W.heap.size 5 .u8 w' v (packR r).1 ∧ Below W.heap.size W w') from fun W h => srecPack_any r W h.1 h.2)
  have CI := (show Hid (∀ W, (r.url.size ≤ 1099511627776 ∧ r.body.size ≤ 1099511627776) → Calls Try.prog 14 #[recV r] W fun e w' => ∃ v, e = .returned (.tuple #[v, .bool (packR r).2]) ∧ Own W.heap.size 5 .u8 w' v (packR r).1 ∧ Below W.heap.size W w') from fun W h => H r W h.1 h.2)
  obtain ⟨⟨L, ok⟩, hp⟩ : ∃ p, p = packR r := ⟨_, rfl⟩
  rw [← hp] at CS CI LP
  simp only at CS CI LP
  clear hp H k0
  obtain ⟨kd, ur, bo⟩ := r
  unfold recV at CZ CT CS CI
  simp only at CZ CT CS CI LP ha hb
  show Calls Try.prog 6 #[.agg #[.int .i64 kd, .string ur, .string bo]] w _
  have eq1 : (ok != ok) = false := by cases ok <;> rfl
  obtain ⟨w1, hw1⟩ : ∃ y, y = w.alloc (.cells #[.int .i64 kd, .string ur, .string bo] 45) := ⟨_, rfl⟩
  have h1 := (show Hid _ from (Hl.refl w).new #[.int .i64 kd, .string ur, .string bo] 45)
  rw [← hw1] at h1
  go_enter Try.func6, Try.ntmps6
  go_wp2_with fail
  go_at_call 28
  rw [← hw1]
  refine Calls.mono (CZ.out w1) ?_
  rintro e w2 ⟨q, rfl, hq, b2⟩
  have h2 := (show Hid _ from h1.out.below b2)
  clear hw1 h1 b2 CZ
  rcases hq with hq | ⟨hq, hqe⟩
  · go_wp2
    go_ret
    exact ⟨rfl, h2.out.1⟩
  · have hsz : ur.size + bo.size ≤ 1048576 := by omega
    have HZ := (show Hid (ur.size ≤ 1099511627776 ∧ bo.size ≤ 1099511627776) from ⟨by omega, by omega⟩)
    have LL : L.length ≤ 1048603 := by omega
    clear hqe
    obtain ⟨c0, c1, c2, _⟩ := rk_three h2.out.at0
    go_wp2_with fail
    go_at_call 29
    refine Calls.mono (CT.out w2) ?_
    rintro e w3 ⟨rfl, b3⟩
    have h3 := (show Hid _ from h2.out.below b3)
    clear h2 b3 c0 c1 c2
    go_wp2_with fail
    go_at_call 15
    refine Calls.mono (CS.out w3 HZ.out) ?_
    rintro e w4 ⟨v4, rfl, o1, b4⟩
    have h4 := (show Hid _ from h3.out.below b4)
    have bs4 : w.heap.size ≤ w3.heap.size := h3.out.1.size
    clear h3 b4 CS
    obtain ⟨c0, c1, c2, _⟩ := rk_three h4.out.at0
    go_wp2_with fail
    go_at_call 29
    refine Calls.mono (CT.out w4) ?_
    rintro e w5 ⟨rfl, b5⟩
    have h5 := (show Hid _ from h4.out.below b5)
    replace o1 := o1.below b5
    clear h4 b5 c0 c1 c2
    go_wp2_with fail
    go_at_call 14
    refine Calls.mono (CI.out w5 HZ.out) ?_
    rintro e w6 ⟨v6, rfl, o2, b6⟩
    have h6 := (show Hid _ from h5.out.below b6)
    have d12 := o1.ne o2
    replace o1 := o1.below b6
    have bs6 : w.heap.size ≤ w5.heap.size := h5.out.1.size
    have hn : w.heap.size < w5.heap.size := lt_of_block h5.out.at0
    clear h5 b6
    go_wp2_with fail
    go_at_call 30
    refine (eqB_any o2.sl o1.sl (by omega) (by omega)).mono ?_
    rintro e w7 ⟨rfl, b7⟩
    have h7 := (show Hid _ from h6.out.below b7)
    replace o1 := o1.below b7
    replace o2 := o2.below b7
    clear h6 b7
    go_wp2_with fail
    go_at_call 31
    refine (markB_any o2 (by omega) (by omega) (by omega)).mono ?_
    rintro e w8 ⟨rfl, o2', g8⟩
    replace o1 := o1.kept g8 d12
    have h8 := (show Hid _ from h7.out.past g8 (fun k e => ⟨Nat.le_trans bs6 (o2.lt k e).1, fun p hp => by
      simp only [List.mem_cons, List.not_mem_nil, or_false] at hp
      rw [hp]
      have := (o2.lt k e).1
      show w.heap.size ≠ k
      omega⟩))
    clear h7 g8 o2 d12
    obtain ⟨c0, c1, c2, _⟩ := rk_three h8.out.at0
    go_wp2_with fail
    go_at_call 32
    refine (heldB_any o2'.sl (by omega) (by omega) (by omega)).mono ?_
    rintro e w9 ⟨rfl, b9⟩
    have h9 := (show Hid _ from h8.out.below b9)
    replace o1 := o1.below b9
    replace o2' := o2'.below b9
    clear h8 b9 c0 c1 c2
    obtain ⟨c0, c1, c2, _⟩ := rk_three h9.out.at0
    go_wp2_with fail
    go_at_call 29
    refine Calls.mono (CT.out w9) ?_
    rintro e w10 ⟨rfl, b10⟩
    have h10 := (show Hid _ from h9.out.below b10)
    replace o1 := o1.below b10
    replace o2' := o2'.below b10
    clear h9 b10 c0 c1 c2 CT
    go_wp2_with fail
    go_at_call 14
    refine Calls.mono (CI.out w10 HZ.out) ?_
    rintro e w11 ⟨v11, rfl, o3, b11⟩
    have h11 := (show Hid _ from h10.out.below b11)
    replace o1 := o1.below b11
    replace o2' := o2'.below b11
    clear h10 b11 CI
    go_wp2_with fail
    go_at_call 30
    refine (eqB_any o3.sl o1.sl (by omega) (by omega)).mono ?_
    rintro e w12 ⟨rfl, b12⟩
    have h12 := (show Hid _ from h11.out.below b12)
    replace o2' := o2'.below b12
    clear h11 b12
    go_wp2_with fail
    go_at_call 32
    refine (heldB_any o2'.sl (by omega) (by omega) (by omega)).mono ?_
    rintro e w13 ⟨rfl, b13⟩
    have h13 := (show Hid _ from h12.out.below b13)
    clear h12 b13
    go_wp2
    go_ret
    exact ⟨rfl, h13.out.1⟩
end Go.Proofs.Ytmpgbonolmmcpaa

/- The exact law of RecordRead from its contract. -/
namespace Go.Proofs.Ytmpgbonolmmcpaa
open Go.RowKit
set_option maxRecDepth 100000
set_option linter.unusedVariables false

def RecordReadOk : Prop := ∀ (v : Value) (xs : List Int) (i : Int) (w : World), Sl .u8 w v xs → (∀ x ∈ xs, 0 ≤ x ∧ x ≤ 255) → xs.length ≤ 1048576 → (Lit.int .i64 i).wf = true → Calls Try.prog 16 #[v, .int .i64 i] w fun e w' => e = .returned (.tuple #[recV (readR xs i).1, .int .i64 (readR xs i).2.1, .bool (readR xs i).2.2]) ∧ Below w.heap.size w w'

set_option maxRecDepth 100000 in
theorem eqRecord_same (r : PRec) (w : World) : Calls Try.prog 35 #[recV r, recV r] w fun e w' => e = .returned (.bool true) ∧ Below w.heap.size w w' := by
  obtain ⟨a, b, c⟩ := r
  show Calls Try.prog 35 #[.agg #[.int .i64 a, .string b, .string c], .agg #[.int .i64 a, .string b, .string c]] w _
  have e1 : (a != a) = false := by simp
  have h1 := ((Hl.refl w).new #[.int .i64 a, .string b, .string c] 25).new #[.int .i64 a, .string b, .string c] 25
  have H1 := (show Hid _ from h1)
  clear h1
  go_enter Try.func35, Try.ntmps35
  go_wp2
  go_ret
  exact ⟨rfl, H1.out.1⟩

set_option maxHeartbeats 1000000 in
set_option maxRecDepth 100000 in
theorem fnExactRecordRead_of (H : RecordReadOk) {v : Value} {xs : List Int} {i : Int} (w : World) (h : Sl .u8 w v xs) (hwf : ∀ n ∈ xs, (Lit.int .u8 n).wf = true) (hi : (Lit.int .i64 i).wf = true) :
    Calls Try.prog 7 #[v, .int .i64 i] w fun e w' => e = .returned (.bool true) ∧ Below w.heap.size w w' := by
  have h0 := h
  obtain ⟨a, ca, rfl, _, _, _, ha⟩ := h
  clear ha
  by_cases hbig : 1048576 < xs.length
  · go_enter Try.func7, Try.ntmps7
    go_wp2
    go_ret
    exact ⟨rfl, Below.refl _ _⟩
  have hn : xs.length ≤ 1048576 := by omega
  have HS := (show Hid (∀ (v : Value) (w : World), Sl .u8 w v xs → Calls Try.prog 33 #[v, .int .i64 i] w fun e w' => e = .returned (.tuple #[recV (readR xs i).1, .int .i64 (readR xs i).2.1, .bool (readR xs i).2.2]) ∧ Below w.heap.size w w') from fun v w h => srecRead_any h (byte_ok hwf) (by omega))
  have HI := (show Hid (∀ (v : Value) (w : World), Sl .u8 w v xs → Calls Try.prog 16 #[v, .int .i64 i] w fun e w' => e = .returned (.tuple #[recV (readR xs i).1, .int .i64 (readR xs i).2.1, .bool (readR xs i).2.2]) ∧ Below w.heap.size w w') from fun v w h => H v xs i w h (byte_ok hwf) hn hi)
  obtain ⟨⟨q, j, ok⟩, hq⟩ : ∃ q, q = readR xs i := ⟨_, rfl⟩
  rw [← hq] at HS HI
  simp only at HS HI
  have CE := (show Hid _ from eqRecord_same q)
  obtain ⟨q0, q1, q2⟩ := q
  unfold recV at HS HI CE
  simp only at HS HI CE
  have e1 : (ok != ok) = false := by cases ok <;> rfl
  have e2 : (j != j) = false := by simp
  have H0 := (show Hid (Sl .u8 w (.slice a xs.length ca) xs) from h0)
  clear hq H hi hwf h0
  go_enter Try.func7, Try.ntmps7
  go_wp2_with fail
  go_at_call 34
  refine (toB_any H0.out (by omega)).mono ?_
  rintro e w1 ⟨x1, rfl, ox1, b1⟩
  have O1 := (show Hid _ from ox1)
  have B1 := (show Hid (Below w.heap.size w w1) from b1)
  clear ox1 b1
  go_wp2_with fail
  go_at_call 33
  refine Calls.mono (HS.out _ _ (Own.sl O1.out)) ?_
  rintro e w2 ⟨rfl, b2⟩
  have h2 := (show Hid _ from (((Hl.refl w).below B1.out).below b2).new #[.int .i64 q0, .string q1, .string q2] 25)
  obtain ⟨w3, hw3⟩ : ∃ y, y = w2.alloc (.cells #[.int .i64 q0, .string q1, .string q2] 25) := ⟨_, rfl⟩
  rw [← hw3] at h2
  clear b2 HS O1 B1
  go_wp2_with fail
  go_at_call 34
  rw [← hw3]
  refine (toB_any (H0.out.below h2.out.1) (by omega)).mono ?_
  rintro e w4 ⟨x4, rfl, o4, b4⟩
  have h4 := (show Hid _ from h2.out.below b4)
  have O4 := (show Hid (Own w3.heap.size 5 .u8 w4 x4 xs) from o4)
  clear hw3 h2 b4 o4
  go_wp2_with fail
  go_at_call 16
  refine Calls.mono (HI.out _ _ (Own.sl O4.out)) ?_
  rintro e w5 ⟨rfl, b5⟩
  have O5 := (show Hid (Own w3.heap.size 5 .u8 w5 x4 xs) from O4.out.below b5)
  have h5 := (show Hid _ from (h4.out.below b5).new #[.int .i64 q0, .string q1, .string q2] 25)
  have O6 := (show Hid (Own w3.heap.size 5 .u8 (w5.alloc (.cells #[.int .i64 q0, .string q1, .string q2] 25)) x4 xs) from O5.out.below ((Below.refl _ _).alloc (Nat.le_refl _) _))
  obtain ⟨w6, hw6⟩ : ∃ y, y = w5.alloc (.cells #[.int .i64 q0, .string q1, .string q2] 25) := ⟨_, rfl⟩
  rw [← hw6] at h5 O6
  obtain ⟨m1, m2, m3, _⟩ := rk_three (h4.out.below b5).at0
  have ml := lt_of_block (h4.out.below b5).at0
  clear h4 b5 O4 O5 HI
  obtain ⟨c1, c2, c3, _⟩ := rk_three h5.out.at0
  obtain ⟨d1, d2, d3, _⟩ := rk_three h5.out.at1
  go_wp2_with fail
  go_at_call 35
  rw [← hw6]
  refine Calls.mono (CE.out w6) ?_
  rintro e w7 ⟨rfl, b7⟩
  have h7 := (show Hid _ from h5.out.below b7)
  have O7 := (show Hid (Own w3.heap.size 5 .u8 w7 x4 xs) from O6.out.below b7)
  clear hw6 h5 b7 c1 c2 c3 d1 d2 d3 m1 m2 m3 ml CE O6
  go_wp2_with fail
  go_at_call 34
  refine (toB_any (H0.out.below h7.out.1) (by omega)).mono ?_
  rintro e w8 ⟨x8, rfl, o8, b8⟩
  have h8 := (show Hid _ from h7.out.below b8)
  have O8 := (show Hid (Own w3.heap.size 5 .u8 w8 x4 xs) from O7.out.below b8)
  clear h7 b8 O7
  go_wp2_with fail
  go_at_call 30
  refine (eqB_any O8.out.sl o8.sl (by omega) (by omega)).mono ?_
  rintro e w9 ⟨rfl, b9⟩
  have h9 := (show Hid _ from h8.out.below b9)
  clear h8 b9
  go_wp2
  go_ret
  exact ⟨rfl, h9.out.1⟩
end Go.Proofs.Ytmpgbonolmmcpaa
