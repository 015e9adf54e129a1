/- The specification's IndexOf. No condition. -/
import Derived.Test.YtmpgbonolmmcpaaU23
import Derived.Test.YtmpgbonolmmcpaaU20
import Derived.Test.YtmpgbonolmmcpaaU15
namespace Go.Proofs.Ytmpgbonolmmcpaa
open Go.RowKit
set_option maxRecDepth 100000
set_option linter.unusedVariables false

/-- A row of entries of the call's own. -/
abbrev OwnPs (B : Nat) (w : World) (v : Value) (ps : List (ByteArray × ByteArray)) : Prop := w.ownsRow B 41 2 v ps.length (pairCells ps)
theorem Try.infoEnt : (Try.prog.info? 41).map (fun i => (i.zero, i.size, i.bytes)) = some (some (.agg #[.string ⟨#[]⟩, .string ⟨#[]⟩]), 2, 32) := by kernel_rfl

theorem sv_oneP {w : World} {g : Nat} {x y : ByteArray} {t : TypeId} (h : w.heap[g]? = some (.cells #[.string x, .string y] t (0, 0))) : Sv 2 w (.slice (some ⟨g, 0, none⟩) 1 1) (pairCells [(x, y)]) := by
  obtain ⟨c0, c1, _, _⟩ := rk_two h
  refine ⟨some ⟨g, 0, none⟩, 1, 1, rfl, rfl, Nat.le_refl _, by unfold maxLen; omega, (fun e => by cases e), fun i hi => ⟨g, 0, rfl, ?_⟩⟩
  have hi' : i < 2 := hi
  match i, hi' with
  | 0, _ => simpa [pairCells] using c0
  | 1, _ => simpa [pairCells] using c1
theorem pair_one (ps : List (ByteArray × ByteArray)) : ∀ v ∈ pairCells ps, v.oneCell' = true := by
  intro v hv
  obtain ⟨r, _, hr⟩ := List.mem_flatMap.mp hv
  simp only [List.mem_cons, List.not_mem_nil, or_false] at hr
  rcases hr with rfl | rfl <;> rfl
theorem World.ownsRow.baseD {B B' : Nat} {e : TypeId} {size n : Nat} {w : World} {v : Value} {xs : List Value} (h : w.ownsRow B e size v n xs) (hB : B' ≤ B) : w.ownsRow B' e size v n xs := by
  obtain ⟨hl, hv | ⟨g, cap, cur, hv, hb, r⟩⟩ := h
  · exact ⟨hl, .inl hv⟩
  · exact ⟨hl, .inr ⟨g, cap, cur, hv, Nat.le_trans hB hb, r⟩⟩
theorem pairCells_app2 (xs ys : List (ByteArray × ByteArray)) : pairCells (xs ++ ys) = pairCells xs ++ pairCells ys := by simp [pairCells]
theorem geq_str (t : TypeId) (a b : ByteArray) : binOp .geq t (.string a) (.string b) = pure (.bool (!(Op.bytesLess a.toList b.toList))) := by simp [binOp, Op.stringOp]
theorem bytesLess_irr (l : List UInt8) : Op.bytesLess l l = false := by
  induction l with
  | nil => rfl
  | cons a l ih => simp [Op.bytesLess, ih]
theorem slt_irr (a : ByteArray) : slt a a = false := bytesLess_irr _

set_option maxHeartbeats 2000000 in
set_option maxRecDepth 100000 in
theorem sindexOf_any {v : Value} {rs : List PRec} {w : World} (h : Sv 3 w v (recCells rs)) (hn : rs.length ≤ 1048576) :
    Calls Try.prog 24 #[v] w fun e w' => ∃ v', e = .returned v' ∧ OwnPs w.heap.size w' v' (idxOf rs) ∧ Below w.heap.size w w' := by
  obtain ⟨a, ca, rfl, _, _, hca⟩ := h.recs
  have HC := (show Hid (∀ k (hk : k < rs.length), ∃ b off, a = some ⟨b, off, none⟩ ∧ b < w.heap.size ∧ w.cell? ⟨b, off + k * 3, none⟩ = some (.int .i64 rs[k].kind) ∧ w.cell? ⟨b, off + k * 3 + 1, none⟩ = some (.string rs[k].url) ∧ w.cell? ⟨b, off + k * 3 + 2, none⟩ = some (.string rs[k].body)) from hca)
  obtain ⟨i0, hi, hz0, hz1, hz2⟩ := info_parts Try.infoEnt
  clear h hca
  have hge := geq_str
  go_enter Try.func24, Try.ntmps24
  go_wp2_with fail
  have b1 : Below w.heap.size w (w.alloc (.cells #[] 41)) := (Below.refl _ _).alloc (Nat.le_refl _) _
  have o1 : OwnPs w.heap.size (w.alloc (.cells #[] 41)) (.slice (some ⟨w.heap.size, 0, none⟩) 0 0) [] := World.ownsRow_lit w #[] 0 (Nat.le_refl _) (Nat.zero_le _) rfl
  go_loopw [3, 4] (fun z s wr => ∃ (k : Nat) (out : List (ByteArray × ByteArray)), k ≤ rs.length ∧ s = .int .i64 (k : Int) ∧ OwnPs w.heap.size wr z out ∧ Hid (idxN (rs.drop k) out = idxOf rs) ∧ out.length ≤ k ∧ Below w.heap.size w wr) (fun _ s _ => rs.length - (intOf s).toNat)
  case atStart => exact ⟨0, [], Nat.zero_le _, rfl, o1, rfl, Nat.le_refl _, b1⟩
  case round =>
    clear b1 o1
    obtain ⟨k, out, hk, rfl, o2, hF, hl, b2⟩ := hrel
    obtain ⟨wo, ewo⟩ : ∃ y, y = wr := ⟨_, rfl⟩
    subst ewo
    have HP := (show Hid (Sv 2 wo u3 (pairCells out)) from sv_of_own o2)
    obtain ⟨oa, oc, ez, _, _, hoc⟩ := (sv_of_own o2).pair
    subst ez
    have O2 := (show Hid (OwnPs w.heap.size wo (.slice oa out.length oc) out) from o2)
    have B2 := (show Hid (Below w.heap.size w wo) from b2)
    have HO := (show Hid (∀ m (hm : m < out.length), ∃ b off, oa = some ⟨b, off, none⟩ ∧ b < wo.heap.size ∧ wo.cell? ⟨b, off + m * 2, none⟩ = some (.string out[m].1) ∧ wo.cell? ⟨b, off + m * 2 + 1, none⟩ = some (.string out[m].2)) from hoc)
    clear o2 b2 hoc
    by_cases hlt : k < rs.length
    · have hlt' : (k : Int) < (rs.length : Int) := by omega
      obtain ⟨gb, go, rfl, gl, c0, c1, c2⟩ := HC.out k hlt
      have HD := (show Hid _ from idxN_drop hlt out)
      obtain ⟨x, hx⟩ : ∃ x, x = rs[k] := ⟨_, rfl⟩
      rw [← hx] at c0 c1 c2 HD
      clear hx
      obtain ⟨kd, ur, bo⟩ := x
      simp only at c0 c1 c2
      have HG := (show Hid (∀ W, Below wo.heap.size wo W → W.cell? ⟨gb, go + k * 3, none⟩ = some (.int .i64 kd) ∧ W.cell? ⟨gb, go + k * 3 + 1, none⟩ = some (.string ur) ∧ W.cell? ⟨gb, go + k * 3 + 2, none⟩ = some (.string bo)) from fun W b => by
        have b' := B2.out.trans (b.mono B2.out.size)
        exact ⟨(b'.cell (p := ⟨gb, go + k * 3, none⟩) gl).trans c0, (b'.cell (p := ⟨gb, go + k * 3 + 1, none⟩) gl).trans c1, (b'.cell (p := ⟨gb, go + k * 3 + 2, none⟩) gl).trans c2⟩)
      have gl2 : gb < wo.heap.size := Nat.lt_of_lt_of_le gl B2.out.size
      clear c0 c1 c2 gl
      obtain ⟨c0, c1, c2⟩ := HG.out _ (Below.refl _ _)
      obtain ⟨p0, hp0⟩ : ∃ p0, p0 = decide (kd ≠ 1) := ⟨_, rfl⟩
      have hpk : (kd != 1) = p0 := by
        rw [hp0]
        by_cases h : kd = 1 <;> simp [h]
      rw [← hp0] at HD
      clear hp0
      have b3 : Below wo.heap.size wo (wo.alloc (.cells #[] 41)) := (Below.refl _ _).alloc (Nat.le_refl _) _
      have o3 : OwnPs wo.heap.size (wo.alloc (.cells #[] 41)) (.slice (some ⟨wo.heap.size, 0, none⟩) 0 0) [] := World.ownsRow_lit wo #[] 0 (Nat.le_refl _) (Nat.zero_le _) rfl
      go_wp2_with fail
      go_loopw [5, 6, 7] (fun z b s wq => ∃ (m : Nat) (pre : List (ByteArray × ByteArray)) (pb : Bool), m ≤ out.length ∧ s = .int .i64 (m : Int) ∧ b = .bool pb ∧ OwnPs wo.heap.size wq z pre ∧ Hid (pre ++ insE ⟨kd, ur, bo⟩ pb (out.drop m) = insE ⟨kd, ur, bo⟩ p0 out) ∧ pre.length ≤ 2 * m ∧ Below wo.heap.size wo wq) (fun _ _ s _ => out.length - (intOf s).toNat)
      case atStart => exact ⟨0, [], p0, Nat.zero_le _, rfl, rfl, o3, rfl, Nat.le_refl _, b3⟩
      case round =>
        clear b3 o3 hpk c0 c1 c2
        obtain ⟨m, pre, pb, hm, rfl, rfl, o4, hI, hpl, b4⟩ := hrel
        have O4 := (show Hid (OwnPs wo.heap.size wr u5 pre) from o4)
        have B4 := (show Hid (Below wo.heap.size wo wr) from b4)
        clear o4 b4
        by_cases hlm : m < out.length
        · have hlm' : (m : Int) < (out.length : Int) := by omega
          obtain ⟨eb, eo, rfl, el, e1, e2⟩ := HO.out m hlm
          have HN := (show Hid _ from insE_drop (r := ⟨kd, ur, bo⟩) (put := pb) hlm)
          obtain ⟨y, hy⟩ : ∃ y, y = out[m] := ⟨_, rfl⟩
          rw [← hy] at e1 e2 HN
          clear hy
          obtain ⟨yu, yb⟩ := y
          simp only at e1 e2
          have HY := (show Hid (∀ W, Below wo.heap.size wo W → W.cell? ⟨eb, eo + m * 2, none⟩ = some (.string yu) ∧ W.cell? ⟨eb, eo + m * 2 + 1, none⟩ = some (.string yb)) from fun W b => ⟨(b.cell (p := ⟨eb, eo + m * 2, none⟩) el).trans e1, (b.cell (p := ⟨eb, eo + m * 2 + 1, none⟩) el).trans e2⟩)
          clear e1 e2
          obtain ⟨e1, e2⟩ := HY.out _ B4.out
          obtain ⟨c0, c1, c2⟩ := HG.out _ B4.out
          obtain ⟨lt, hlt2⟩ : ∃ lt, lt = slt yu ur := ⟨_, rfl⟩
          have hsl : Op.bytesLess yu.toList ur.toList = lt := hlt2.symm
          simp only at HN
          rw [← hlt2] at HN
          clear hlt2
          have HQ := (show Hid (wr.drew.cell? ⟨eb, eo + m * 2, none⟩ = some (.string yu) ∧ wr.drew.cell? ⟨gb, go + k * 3 + 1, none⟩ = some (.string ur)) from ⟨e1, c1⟩)
          obtain ⟨w4, hw4⟩ : ∃ y, y = wr.drew := ⟨_, rfl⟩
          have O_w4 : Hid (OwnPs wo.heap.size w4 u5 pre) := (show OwnPs wo.heap.size w4 u5 pre by rw [hw4]; exact ownsRow_below O4.out (below_drewN 1))
          have B_w4 : Hid (Below wo.heap.size wo w4) := (show Below wo.heap.size wo w4 by rw [hw4]; exact B4.out.trans (below_drewN 1))
          cases pb
          · go_wp2_with fail
            go_region_held3 (fun w' => w'.cell? ⟨eb, eo + m * 2, none⟩ = some (.string yu) ∧ w'.cell? ⟨gb, go + k * 3 + 1, none⟩ = some (.string ur)) (first | exact HQ.out) (fail)
            rw [← hw4]
            clear hw4 HQ O4 B4 e1 e2 c0 c1 c2
            by_cases hyu : yu = ur
            · cases lt
              · have hyt : (yu.toList == ur.toList) = true := by rw [hyu]; simp
                have HZ : Hid (pre ++ [(ur, bo)] ++ insE ⟨kd, ur, bo⟩ true (out.drop (m + 1)) = insE ⟨kd, ur, bo⟩ p0 out) := (show _ = _ by rw [← hI.out, HN.out]; simp [hyu])
                clear HN hI hyu
                go_wp2_with fail
                have KS := (show Hid (∀ w', Below wo.heap.size wo w' → w'.cell? ⟨gb, go + k * 3 + 1, none⟩ = some (.string ur) ∧ w'.cell? ⟨gb, go + k * 3 + 2, none⟩ = some (.string bo)) from fun W b => ⟨(HG.out W b).2.1, (HG.out W b).2.2⟩)
                have KD := (show Hid (Below wo.heap.size wo w4.drew) from B_w4.out.trans (below_drewN 1))
                have KA := (show Hid (Below wo.heap.size wo (w4.alloc (.cells #[.string ur, .string bo] 41)).drew) from (B_w4.out.alloc B_w4.out.size _).trans (below_drewN 1))
                have OA := (show Hid ((w4.alloc (.cells #[.string ur, .string bo] 41)).drew.ownsRow wo.heap.size 41 2 u5 (pre).length (pairCells (pre))) from ownsRow_below (ownsRow_below O_w4.out ((Below.refl _ _).alloc (Nat.le_refl _) _)) (below_drewN 1))
                have SA := (show Hid (Sv 2 (w4.alloc (.cells #[.string ur, .string bo] 41)).drew (.slice (some ⟨w4.heap.size, 0, none⟩) 1 1) (pairCells [(ur, bo)])) from Sv.below (sv_oneP (World.alloc_heap_new w4 (.cells #[.string ur, .string bo] 41))) (below_drewN 1))
                go_region_held3 (fun w' => w'.cell? ⟨gb, go + k * 3 + 1, none⟩ = some (.string ur) ∧ w'.cell? ⟨gb, go + k * 3 + 2, none⟩ = some (.string bo))
                  (first | exact KS.out _ KD.out | exact KS.out _ KA.out | exact KS.out _ B_w5.out)
                  (first
                    | (refine step_appS rfl _ _ 37 rfl wo.heap.size 41 i0 _ 2 32 Try.underlying37 hi hz0 hz1 hz2 rfl (by decide) u5 (pre).length (pairCells (pre)) rfl OA.out (.slice (some ⟨w4.heap.size, 0, none⟩) 1 1) 1 (pairCells [(ur, bo)]) rfl SA.out rfl (pair_one _) (by unfold maxLen; first | omega | (simp only [List.length_append, List.length_singleton]; omega)) (by first | omega | (simp only [List.length_append, List.length_singleton]; omega)) KA.out.size ?_
                       intro v5 w5 o g
                       have O_w5 := (show Hid (OwnPs wo.heap.size w5 v5 (pre ++ [(ur, bo)])) from by show World.ownsRow _ _ _ _ _ _ _; rw [List.length_append, pairCells_app2]; exact o)
                       have B_w5 := (show Hid (Below wo.heap.size wo w5) from KA.out.grown g KA.out.size (fun r e => (World.ownsRow.lt O_w4.out r e).1))
                       clear o g))
                clear KS KD KA OA SA
                go_wp2_with fail
                have HQw5q := (show Hid (w5.drew.cell? ⟨eb, eo + m * 2, none⟩ = some (.string yu) ∧ w5.drew.cell? ⟨gb, go + k * 3 + 1, none⟩ = some (.string ur)) from ⟨(HY.out _ B_w5.out).1, (HG.out _ B_w5.out).2.1⟩)
                obtain ⟨w5q, hw5q⟩ : ∃ y, y = w5.drew := ⟨_, rfl⟩
                have B_w5q : Hid (Below wo.heap.size wo w5q) := (show Below wo.heap.size wo w5q by rw [hw5q]; exact B_w5.out.trans (below_drewN 1))
                go_region_held3 (fun w' => w'.cell? ⟨eb, eo + m * 2, none⟩ = some (.string yu) ∧ w'.cell? ⟨gb, go + k * 3 + 1, none⟩ = some (.string ur)) (first | exact HQw5q.out) (fail)
                rw [← hw5q]
                have O_w5q : Hid (OwnPs wo.heap.size w5q v5 (pre ++ [(ur, bo)])) := (show OwnPs wo.heap.size w5q v5 (pre ++ [(ur, bo)]) by rw [hw5q]; exact ownsRow_below O_w5.out (below_drewN 1))
                clear hw5q HQw5q
                go_wp2
                go_roundw
                case rel => exact ⟨m + 1, pre ++ [(ur, bo)], true, hlm, by go_num, rfl, O_w5q.out, HZ, by first | omega | (simp only [List.length_append, List.length_singleton]; omega), B_w5q.out⟩
                case measure => simp [intOf]; omega
              · exfalso
                have := slt_irr yu
                rw [slt] at this
                rw [← hyu, this] at hsl
                cases hsl
            · have hd := toList_ne hyu
              cases lt
              · have hne := hyu
                have HZ : Hid (pre ++ [(ur, bo)] ++ [(yu, yb)] ++ insE ⟨kd, ur, bo⟩ true (out.drop (m + 1)) = insE ⟨kd, ur, bo⟩ p0 out) := (show _ = _ by rw [← hI.out, HN.out]; simp [hyu])
                clear HN hI
                go_wp2_with fail
                have KS := (show Hid (∀ w', Below wo.heap.size wo w' → w'.cell? ⟨gb, go + k * 3 + 1, none⟩ = some (.string ur) ∧ w'.cell? ⟨gb, go + k * 3 + 2, none⟩ = some (.string bo)) from fun W b => ⟨(HG.out W b).2.1, (HG.out W b).2.2⟩)
                have KD := (show Hid (Below wo.heap.size wo w4.drew) from B_w4.out.trans (below_drewN 1))
                have KA := (show Hid (Below wo.heap.size wo (w4.alloc (.cells #[.string ur, .string bo] 41)).drew) from (B_w4.out.alloc B_w4.out.size _).trans (below_drewN 1))
                have OA := (show Hid ((w4.alloc (.cells #[.string ur, .string bo] 41)).drew.ownsRow wo.heap.size 41 2 u5 (pre).length (pairCells (pre))) from ownsRow_below (ownsRow_below O_w4.out ((Below.refl _ _).alloc (Nat.le_refl _) _)) (below_drewN 1))
                have SA := (show Hid (Sv 2 (w4.alloc (.cells #[.string ur, .string bo] 41)).drew (.slice (some ⟨w4.heap.size, 0, none⟩) 1 1) (pairCells [(ur, bo)])) from Sv.below (sv_oneP (World.alloc_heap_new w4 (.cells #[.string ur, .string bo] 41))) (below_drewN 1))
                go_region_held3 (fun w' => w'.cell? ⟨gb, go + k * 3 + 1, none⟩ = some (.string ur) ∧ w'.cell? ⟨gb, go + k * 3 + 2, none⟩ = some (.string bo))
                  (first | exact KS.out _ KD.out | exact KS.out _ KA.out | exact KS.out _ B_w5.out)
                  (first
                    | (refine step_appS rfl _ _ 37 rfl wo.heap.size 41 i0 _ 2 32 Try.underlying37 hi hz0 hz1 hz2 rfl (by decide) u5 (pre).length (pairCells (pre)) rfl OA.out (.slice (some ⟨w4.heap.size, 0, none⟩) 1 1) 1 (pairCells [(ur, bo)]) rfl SA.out rfl (pair_one _) (by unfold maxLen; first | omega | (simp only [List.length_append, List.length_singleton]; omega)) (by first | omega | (simp only [List.length_append, List.length_singleton]; omega)) KA.out.size ?_
                       intro v5 w5 o g
                       have O_w5 := (show Hid (OwnPs wo.heap.size w5 v5 (pre ++ [(ur, bo)])) from by show World.ownsRow _ _ _ _ _ _ _; rw [List.length_append, pairCells_app2]; exact o)
                       have B_w5 := (show Hid (Below wo.heap.size wo w5) from KA.out.grown g KA.out.size (fun r e => (World.ownsRow.lt O_w4.out r e).1))
                       clear o g))
                clear KS KD KA OA SA
                go_wp2_with fail
                have HQw5q := (show Hid (w5.drew.cell? ⟨eb, eo + m * 2, none⟩ = some (.string yu) ∧ w5.drew.cell? ⟨gb, go + k * 3 + 1, none⟩ = some (.string ur)) from ⟨(HY.out _ B_w5.out).1, (HG.out _ B_w5.out).2.1⟩)
                obtain ⟨w5q, hw5q⟩ : ∃ y, y = w5.drew := ⟨_, rfl⟩
                have B_w5q : Hid (Below wo.heap.size wo w5q) := (show Below wo.heap.size wo w5q by rw [hw5q]; exact B_w5.out.trans (below_drewN 1))
                go_region_held3 (fun w' => w'.cell? ⟨eb, eo + m * 2, none⟩ = some (.string yu) ∧ w'.cell? ⟨gb, go + k * 3 + 1, none⟩ = some (.string ur)) (first | exact HQw5q.out) (fail)
                rw [← hw5q]
                have O_w5q : Hid (OwnPs wo.heap.size w5q v5 (pre ++ [(ur, bo)])) := (show OwnPs wo.heap.size w5q v5 (pre ++ [(ur, bo)]) by rw [hw5q]; exact ownsRow_below O_w5.out (below_drewN 1))
                clear hw5q HQw5q
                obtain ⟨e1, e2⟩ := HY.out _ B_w5q.out
                go_wp2_with (
                  at_builtin
                  refine wpList_appV _ rfl (.tmp 68) (.tmp 73) 37 rfl wo.heap.size 41 i0 _ 2 32 Try.underlying37 hi hz0 hz1 hz2 rfl (by decide) v5 (.slice (some ⟨w5q.heap.size, 0, none⟩) 1 1) (pre ++ [(ur, bo)]).length 1 (pairCells (pre ++ [(ur, bo)])) (pairCells [(yu, yb)]) rfl rfl (ownsRow_below O_w5q.out ((Below.refl _ _).alloc (Nat.le_refl _) _)) (sv_oneP (World.alloc_heap_new _ _)) rfl (pair_one _) (by first | omega | (simp only [List.length_append, List.length_singleton]; omega)) (by unfold maxLen; first | omega | (simp only [List.length_append, List.length_singleton]; omega)) (by rw [World.size_alloc]; have := B_w5q.out.size; omega) ?_
                  intro v6 w6 o g
                  have O_w6 := (show Hid (OwnPs wo.heap.size w6 v6 (pre ++ [(ur, bo)] ++ [(yu, yb)])) from by show World.ownsRow _ _ _ _ _ _ _; rw [List.length_append, pairCells_app2]; exact o)
                  have B_w6 := (show Hid (Below wo.heap.size wo w6) from (B_w5q.out.alloc B_w5q.out.size _).grown g (by rw [World.size_alloc]; have := B_w5q.out.size; omega) (fun r e => (World.ownsRow.lt O_w5q.out r e).1))
                  clear o g)
                go_roundw
                case rel => exact ⟨m + 1, pre ++ [(ur, bo)] ++ [(yu, yb)], true, hlm, by go_num, rfl, O_w6.out, HZ, by first | omega | (simp only [List.length_append, List.length_singleton]; omega), B_w6.out⟩
                case measure => simp [intOf]; omega
              · have hne := hyu
                have HZ : Hid (pre ++ [(yu, yb)] ++ insE ⟨kd, ur, bo⟩ false (out.drop (m + 1)) = insE ⟨kd, ur, bo⟩ p0 out) := (show _ = _ by rw [← hI.out, HN.out]; simp [hyu])
                clear HN hI
                go_wp2_with fail
                have HQw4q := (show Hid (w4.drew.cell? ⟨eb, eo + m * 2, none⟩ = some (.string yu) ∧ w4.drew.cell? ⟨gb, go + k * 3 + 1, none⟩ = some (.string ur)) from ⟨(HY.out _ B_w4.out).1, (HG.out _ B_w4.out).2.1⟩)
                obtain ⟨w4q, hw4q⟩ : ∃ y, y = w4.drew := ⟨_, rfl⟩
                have B_w4q : Hid (Below wo.heap.size wo w4q) := (show Below wo.heap.size wo w4q by rw [hw4q]; exact B_w4.out.trans (below_drewN 1))
                go_region_held3 (fun w' => w'.cell? ⟨eb, eo + m * 2, none⟩ = some (.string yu) ∧ w'.cell? ⟨gb, go + k * 3 + 1, none⟩ = some (.string ur)) (first | exact HQw4q.out) (fail)
                rw [← hw4q]
                have O_w4q : Hid (OwnPs wo.heap.size w4q u5 (pre)) := (show OwnPs wo.heap.size w4q u5 (pre) by rw [hw4q]; exact ownsRow_below O_w4.out (below_drewN 1))
                clear hw4q HQw4q
                obtain ⟨e1, e2⟩ := HY.out _ B_w4q.out
                go_wp2_with (
                  at_builtin
                  refine wpList_appV _ rfl (.tmp 68) (.tmp 73) 37 rfl wo.heap.size 41 i0 _ 2 32 Try.underlying37 hi hz0 hz1 hz2 rfl (by decide) u5 (.slice (some ⟨w4q.heap.size, 0, none⟩) 1 1) (pre).length 1 (pairCells (pre)) (pairCells [(yu, yb)]) rfl rfl (ownsRow_below O_w4q.out ((Below.refl _ _).alloc (Nat.le_refl _) _)) (sv_oneP (World.alloc_heap_new _ _)) rfl (pair_one _) (by first | omega | (simp only [List.length_append, List.length_singleton]; omega)) (by unfold maxLen; first | omega | (simp only [List.length_append, List.length_singleton]; omega)) (by rw [World.size_alloc]; have := B_w4q.out.size; omega) ?_
                  intro v6 w6 o g
                  have O_w6 := (show Hid (OwnPs wo.heap.size w6 v6 (pre ++ [(yu, yb)])) from by show World.ownsRow _ _ _ _ _ _ _; rw [List.length_append, pairCells_app2]; exact o)
                  have B_w6 := (show Hid (Below wo.heap.size wo w6) from (B_w4q.out.alloc B_w4q.out.size _).grown g (by rw [World.size_alloc]; have := B_w4q.out.size; omega) (fun r e => (World.ownsRow.lt O_w4q.out r e).1))
                  clear o g)
                go_roundw
                case rel => exact ⟨m + 1, pre ++ [(yu, yb)], false, hlm, by go_num, rfl, O_w6.out, HZ, by first | omega | (simp only [List.length_append, List.length_singleton]; omega), B_w6.out⟩
                case measure => simp [intOf]; omega
          · go_wp2_with fail
            refine region_tail 14 (by kernel_rfl) (by kernel_rfl) ?_
            intro x1 K1 hX1 hK1
            have ne := One.any x1
            simp only [List.take_succ_cons, List.take_zero, List.drop_succ_cons, List.drop_zero] at hK1 ⊢
            repeat (go_big_quiet_step (fail))
            refine wpQuiet_nil ?_
            refine hK1.out _ ?_
            clear hK1 ne
            rw [hX1.out, ← hw4]
            clear hX1 hw4 HQ O4 B4 e1 e2 c0 c1 c2
            by_cases hyu : yu = ur
            · have hyt : (yu.toList == ur.toList) = true := by rw [hyu]; simp
              have HZ : Hid (pre ++ insE ⟨kd, ur, bo⟩ true (out.drop (m + 1)) = insE ⟨kd, ur, bo⟩ p0 out) := (show _ = _ by rw [← hI.out, HN.out]; simp [hyu])
              clear HN hI hyu
              go_wp2_with fail
              have HQw4q := (show Hid (w4.drew.cell? ⟨eb, eo + m * 2, none⟩ = some (.string yu) ∧ w4.drew.cell? ⟨gb, go + k * 3 + 1, none⟩ = some (.string ur)) from ⟨(HY.out _ B_w4.out).1, (HG.out _ B_w4.out).2.1⟩)
              obtain ⟨w4q, hw4q⟩ : ∃ y, y = w4.drew := ⟨_, rfl⟩
              have B_w4q : Hid (Below wo.heap.size wo w4q) := (show Below wo.heap.size wo w4q by rw [hw4q]; exact B_w4.out.trans (below_drewN 1))
              go_region_held3 (fun w' => w'.cell? ⟨eb, eo + m * 2, none⟩ = some (.string yu) ∧ w'.cell? ⟨gb, go + k * 3 + 1, none⟩ = some (.string ur)) (first | exact HQw4q.out) (fail)
              rw [← hw4q]
              have O_w4q : Hid (OwnPs wo.heap.size w4q u5 (pre)) := (show OwnPs wo.heap.size w4q u5 (pre) by rw [hw4q]; exact ownsRow_below O_w4.out (below_drewN 1))
              clear hw4q HQw4q
              go_wp2
              go_roundw
              case rel => exact ⟨m + 1, pre, true, hlm, by go_num, rfl, O_w4q.out, HZ, by first | omega | (simp only [List.length_append, List.length_singleton]; omega), B_w4q.out⟩
              case measure => simp [intOf]; omega
            · have hd := toList_ne hyu
              have HZ : Hid (pre ++ [(yu, yb)] ++ insE ⟨kd, ur, bo⟩ true (out.drop (m + 1)) = insE ⟨kd, ur, bo⟩ p0 out) := (show _ = _ by rw [← hI.out, HN.out]; simp [hyu])
              clear HN hI
              go_wp2_with fail
              have HQw4q := (show Hid (w4.drew.cell? ⟨eb, eo + m * 2, none⟩ = some (.string yu) ∧ w4.drew.cell? ⟨gb, go + k * 3 + 1, none⟩ = some (.string ur)) from ⟨(HY.out _ B_w4.out).1, (HG.out _ B_w4.out).2.1⟩)
              obtain ⟨w4q, hw4q⟩ : ∃ y, y = w4.drew := ⟨_, rfl⟩
              have B_w4q : Hid (Below wo.heap.size wo w4q) := (show Below wo.heap.size wo w4q by rw [hw4q]; exact B_w4.out.trans (below_drewN 1))
              go_region_held3 (fun w' => w'.cell? ⟨eb, eo + m * 2, none⟩ = some (.string yu) ∧ w'.cell? ⟨gb, go + k * 3 + 1, none⟩ = some (.string ur)) (first | exact HQw4q.out) (fail)
              rw [← hw4q]
              have O_w4q : Hid (OwnPs wo.heap.size w4q u5 (pre)) := (show OwnPs wo.heap.size w4q u5 (pre) by rw [hw4q]; exact ownsRow_below O_w4.out (below_drewN 1))
              clear hw4q HQw4q
              obtain ⟨e1, e2⟩ := HY.out _ B_w4q.out
              go_wp2_with (
                at_builtin
                refine wpList_appV _ rfl (.tmp 68) (.tmp 73) 37 rfl wo.heap.size 41 i0 _ 2 32 Try.underlying37 hi hz0 hz1 hz2 rfl (by decide) u5 (.slice (some ⟨w4q.heap.size, 0, none⟩) 1 1) (pre).length 1 (pairCells (pre)) (pairCells [(yu, yb)]) rfl rfl (ownsRow_below O_w4q.out ((Below.refl _ _).alloc (Nat.le_refl _) _)) (sv_oneP (World.alloc_heap_new _ _)) rfl (pair_one _) (by first | omega | (simp only [List.length_append, List.length_singleton]; omega)) (by unfold maxLen; first | omega | (simp only [List.length_append, List.length_singleton]; omega)) (by rw [World.size_alloc]; have := B_w4q.out.size; omega) ?_
                intro v6 w6 o g
                have O_w6 := (show Hid (OwnPs wo.heap.size w6 v6 (pre ++ [(yu, yb)])) from by show World.ownsRow _ _ _ _ _ _ _; rw [List.length_append, pairCells_app2]; exact o)
                have B_w6 := (show Hid (Below wo.heap.size wo w6) from (B_w4q.out.alloc B_w4q.out.size _).grown g (by rw [World.size_alloc]; have := B_w4q.out.size; omega) (fun r e => (World.ownsRow.lt O_w4q.out r e).1))
                clear o g)
              go_roundw
              case rel => exact ⟨m + 1, pre ++ [(yu, yb)], true, hlm, by go_num, rfl, O_w6.out, HZ, by first | omega | (simp only [List.length_append, List.length_singleton]; omega), B_w6.out⟩
              case measure => simp [intOf]; omega
        · obtain rfl : m = out.length := by omega
          have hn' : ¬ ((out.length : Int) < (out.length : Int)) := by omega
          have LI : Hid ((insE ⟨kd, ur, bo⟩ p0 out).length ≤ out.length + 1) := (show (insE ⟨kd, ur, bo⟩ p0 out).length ≤ out.length + 1 by have := insE_len ⟨kd, ur, bo⟩ p0 out; split at this <;> omega)
          have B24 := (show Hid (∀ W, Below wo.heap.size wo W → Below w.heap.size w W) from fun W b => B2.out.trans (b.mono B2.out.size))
          have S24 := (show Hid (w.heap.size ≤ wo.heap.size) from B2.out.size)
          have O_wr := (show Hid (OwnPs wo.heap.size wr u5 pre) from O4.out)
          have B_wr := (show Hid (Below wo.heap.size wo wr) from B4.out)
          obtain ⟨c0, c1, c2⟩ := HG.out _ B4.out
          cases pb
          · have HZ : Hid (pre ++ [(ur, bo)] = insE ⟨kd, ur, bo⟩ p0 out) := (show _ = _ by rw [← hI.out, List.drop_length]; rfl)
            have HT : Hid (idxN (rs.drop (k + 1)) (pre ++ [(ur, bo)]) = idxOf rs) := (show _ = _ by rw [HZ.out, ← HD.out]; exact hF.out)
            clear O4 B4
            go_wp2_with fail
            have KS := (show Hid (∀ w', Below wo.heap.size wo w' → w'.cell? ⟨gb, go + k * 3 + 1, none⟩ = some (.string ur) ∧ w'.cell? ⟨gb, go + k * 3 + 2, none⟩ = some (.string bo)) from fun W b => ⟨(HG.out W b).2.1, (HG.out W b).2.2⟩)
            have KD := (show Hid (Below wo.heap.size wo wr.drew) from B_wr.out.trans (below_drewN 1))
            have KA := (show Hid (Below wo.heap.size wo (wr.alloc (.cells #[.string ur, .string bo] 41)).drew) from (B_wr.out.alloc B_wr.out.size _).trans (below_drewN 1))
            have OA := (show Hid ((wr.alloc (.cells #[.string ur, .string bo] 41)).drew.ownsRow wo.heap.size 41 2 u5 (pre).length (pairCells (pre))) from ownsRow_below (ownsRow_below O_wr.out ((Below.refl _ _).alloc (Nat.le_refl _) _)) (below_drewN 1))
            have SA := (show Hid (Sv 2 (wr.alloc (.cells #[.string ur, .string bo] 41)).drew (.slice (some ⟨wr.heap.size, 0, none⟩) 1 1) (pairCells [(ur, bo)])) from Sv.below (sv_oneP (World.alloc_heap_new wr (.cells #[.string ur, .string bo] 41))) (below_drewN 1))
            go_region_held3 (fun w' => w'.cell? ⟨gb, go + k * 3 + 1, none⟩ = some (.string ur) ∧ w'.cell? ⟨gb, go + k * 3 + 2, none⟩ = some (.string bo))
              (first | exact KS.out _ KD.out | exact KS.out _ KA.out | exact KS.out _ B_w5.out)
              (first
                | (refine step_appS rfl _ _ 37 rfl wo.heap.size 41 i0 _ 2 32 Try.underlying37 hi hz0 hz1 hz2 rfl (by decide) u5 (pre).length (pairCells (pre)) rfl OA.out (.slice (some ⟨wr.heap.size, 0, none⟩) 1 1) 1 (pairCells [(ur, bo)]) rfl SA.out rfl (pair_one _) (by unfold maxLen; first | omega | (simp only [List.length_append, List.length_singleton]; omega)) (by first | omega | (simp only [List.length_append, List.length_singleton]; omega)) KA.out.size ?_
                   intro v5 w5 o g
                   have O_w5 := (show Hid (OwnPs wo.heap.size w5 v5 (pre ++ [(ur, bo)])) from by show World.ownsRow _ _ _ _ _ _ _; rw [List.length_append, pairCells_app2]; exact o)
                   have B_w5 := (show Hid (Below wo.heap.size wo w5) from KA.out.grown g KA.out.size (fun r e => (World.ownsRow.lt O_wr.out r e).1))
                   clear o g))
            clear KS KD KA OA SA
            go_wp2
            go_roundw
            case rel => exact ⟨k + 1, pre ++ [(ur, bo)], hlt, by go_num, World.ownsRow.baseD O_w5.out S24.out, HT, by rw [HZ.out]; have := LI.out; omega, B24.out _ B_w5.out⟩
            case measure => simp [intOf]; omega
          · have HZ : Hid (pre = insE ⟨kd, ur, bo⟩ p0 out) := (show _ = _ by rw [← hI.out, List.drop_length]; simp [insE])
            have HT : Hid (idxN (rs.drop (k + 1)) pre = idxOf rs) := (show _ = _ by rw [HZ.out, ← HD.out]; exact hF.out)
            clear O4 B4
            go_wp2
            go_roundw
            case rel => exact ⟨k + 1, pre, hlt, by go_num, World.ownsRow.baseD O_wr.out S24.out, HT, by rw [HZ.out]; have := LI.out; omega, B24.out _ B_wr.out⟩
            case measure => simp [intOf]; omega
    · obtain rfl : k = rs.length := by omega
      have hn' : ¬ ((rs.length : Int) < (rs.length : Int)) := by omega
      have HT : Hid (out = idxOf rs) := (show out = idxOf rs by have := hF.out; rw [List.drop_length] at this; exact this)
      clear hF HP HO
      go_wp2
      go_ret
      exact ⟨_, rfl, by rw [← HT.out]; exact O2.out, B2.out⟩
end Go.Proofs.Ytmpgbonolmmcpaa
