/- The program's treeReader: tree. No condition. -/
import Derived.Test.YtogdbjafibejdaaGreatY51
import Derived.Test.YtogdbjafibejdaaGreatY50
namespace Go.Proofs.YtogdbjafibejdaaGreat
open Go.RowKit
set_option maxRecDepth 100000
set_option linter.unusedVariables false

theorem roomI_ok (c m : Nat) (h : m < c) (hc : c ≤ 500) : roomI c m = true := by
  unfold roomI
  simp
  omega
def TrE (xs : List Int) (g : Nat) (v : Value) (w : World) (e : Ending) (w' : World) : Prop :=
  ((∃ u qs j nv cnt, e = .returned (.tuple #[]) ∧ goodT (qs.map (fun q => q.1)) ∧ packL (qs.map (fun q => q.1)) = xs ∧ w'.heap[g]? = some (.cells #[v, .int .i64 j, nv, u, .int .i64 cnt] 120 (0, 0)) ∧ OwnQ w.heap.size w' u qs ∧ ApartT qs) ∨
    ((∀ ns, goodT ns → packL ns ≠ xs) ∧ Bad e)) ∧ FilFr g g w w'
theorem names_end {w0 w w5 w9 : World} {g : Nat} {v v9 b c nv : Value} {xs : List Int} {j : Nat} {s : ByteArray} {acc : List ByteArray} (hw0 : w0.heap.size ≤ w.heap.size) (r5 : RdrT w0 g v xs [nv, b, c] (j : Nat) w5) (F5 : FilFr g g w w5)
    (o5 : OwnS w.heap.size w5 nv acc) (o9 : w9.ownsRow w.heap.size 9 1 v9 (acc.length + 1) (acc.map Value.string ++ [.string s])) (g9 : (w5.alloc (.cells #[.string s] 9)).grownBy w9 nv.ownBlock) :
    RdrT w0 g v xs [v9, b, c] (j : Nat) (w9.setCell ⟨g, 2, none⟩ v9) ∧ FilFr g g w (w9.setCell ⟨g, 2, none⟩ v9) ∧ OwnS w.heap.size (w9.setCell ⟨g, 2, none⟩ v9) v9 (acc ++ [s]) ∧ w9.heap[g]? = some (.cells #[v, .int .i64 (j : Nat), nv, b, c] 120 (0, 0)) := by
  have hk := fill_kind o5
  have ba : Below w5.heap.size w5 (w5.alloc (.cells #[.string s] 9)) := (Below.refl _ _).alloc (Nat.le_refl _) _
  have r9 := (r5.below ba).grew g9 (fun r e => by
    obtain ⟨h1, h2, cc, ff, hh⟩ := hk r e
    refine ⟨fun er => ?_, by omega⟩
    subst er
    rw [r5.2.2.2.2] at hh
    cases hh)
  have gs := grown_setCell w9 g 2 v9
  refine ⟨⟨r9.1, r9.2.1, r9.2.2.1.setCell (p := ⟨g, 2, none⟩) r9.1 _, r9.2.2.2.1, setCell_at (k := 2) (u := v9) r9.2.2.2.2⟩, ?_, ?_, r9.2.2.2.2⟩
  · exact ((F5.put (World.grownBy_alloc w5 _ none) (fun r e => by cases e)).put g9 (fun r e => .inr (.inr (hk r e).1))).put gs (fun r e => by cases e; exact .inl rfl)
  · have : OwnS w.heap.size w9 v9 (acc ++ [s]) := by unfold OwnS; rw [List.length_append, List.map_append]; exact o9
    exact kept_of_type this gs (fun r e => by cases e; exact ⟨_, _, _, r9.2.2.2.2, by decide⟩)
theorem five_at {w : World} {g : Nat} {a b c d e : Value} {t : TypeId} (hh : w.heap[g]? = some (.cells #[a, b, c, d, e] t (0, 0))) : w.cell? ⟨g, 0, none⟩ = some a ∧ w.cell? ⟨g, 1, none⟩ = some b ∧ w.cell? ⟨g, 2, none⟩ = some c ∧ w.cell? ⟨g, 3, none⟩ = some d ∧ w.cell? ⟨g, 4, none⟩ = some e ∧ w.frozen? ⟨g, 2, none⟩ = false := by
  refine ⟨?_, ?_, ?_, ?_, ?_, ?_⟩
  all_goals first | (simp only [World.cell?, hh]; rfl) | (simp only [World.frozen?, hh]; rfl)
theorem FilFr.opr {g B : Nat} {w w6 w7 : World} (h : FilFr g g w w6) (k : OpFr B g w6 w7) (hB : w.heap.size ≤ B) : FilFr g g w w7 :=
  ⟨k.os.trans h.os, k.tape.trans h.tape, k.output.trans h.output, Nat.le_trans h.size k.size, fun j hj h1 h2 => (k.block j (Nat.lt_of_lt_of_le hj h.size) h1 (.inl (by omega))).trans (h.block j hj h1 h2)⟩
theorem one_strR (w : World) (s : ByteArray) : Sv 1 (w.alloc (.cells #[.string s] 9)) (.slice (some ⟨w.heap.size, 0, none⟩) 1 1) [.string s] := by
  refine ⟨_, 1, 1, rfl, rfl, Nat.le_refl _, by unfold maxLen; omega, (fun e => (by cases e)), fun j hj => ?_⟩
  have : j = 0 := by simp at hj; omega
  subst this
  exact ⟨w.heap.size, 0, rfl, by simp only [World.cell?, World.alloc_heap_new]; rfl⟩

set_option maxHeartbeats 8000000 in
set_option maxRecDepth 100000 in
theorem treeT_any {w0 w : World} {g : Nat} {v : Value} {xs : List Int} (h : RdrT w0 g v xs [.slice none 0 0, .slice none 0 0, .int .i64 0] (0 : Nat) w) (hb : ∀ x ∈ xs, 0 ≤ x ∧ x ≤ 255) :
    Calls Tryz.prog 92 #[.pointer (some ⟨g, 0, none⟩)] w fun e w' => TrE xs g v w e w' := by
  have HB := (show Hid _ from hb)
  have HR := (show Hid _ from h)
  have hw0 : w0.heap.size ≤ w.heap.size := h.2.2.1.size
  have h0g : w0.heap.size ≤ g := h.1
  obtain ⟨a, ca, rfl, _, _, _, _⟩ := h.sl
  obtain ⟨is, his, hzs0, hzs1, hzs2⟩ := info_parts Tryz.infoStrZ
  obtain ⟨c0, c1, c2, c3, c4, y2, y3, y4⟩ := h.five
  have hgl := h.lt
  have hx40 := h.2.2.2.1
  clear h hb
  by_cases hlong : 20000 < xs.length
  · have HN := (show Hid _ from rd_long hlong)
    have hd : decide (xs.length ≤ 20000) = false := by simp; omega
    have hli : ¬ (xs.length : Int) ≤ 20000 := by omega
    clear hlong
    go_enter Tryz.func92, Tryz.ntmps92
    go_wp2_with fail
    go_at_call 135
    refine (need_no _).mono ?_
    rintro e w4 ⟨⟨t, s, rfl⟩, ew⟩
    replace ew := ew.symm
    subst ew
    go_wp2
    exact ⟨rfl, .inr ⟨HN.out, ⟨_, _, rfl⟩⟩, FilFr.refl _⟩
  have hx : xs.length ≤ 20000 := by omega
  have hd : decide (xs.length ≤ 20000) = true := by simp; omega
  have hli : (xs.length : Int) ≤ 20000 := by omega
  clear hlong
  have C0 := (show Hid _ from pT_any (i := 0) HR.out HB.out)
  go_enter Tryz.func92, Tryz.ntmps92
  go_wp2_with fail
  go_at_call 135
  refine (need_yes _).mono ?_
  rintro e wn ⟨rfl, ew⟩
  replace ew := ew.symm
  subst ew
  go_wp2_with fail
  go_at_call 136
  refine Calls.mono C0.out ?_
  rintro e w2 ⟨⟨m, i1, h1, rfl, r2⟩ | ⟨h1, ⟨t, s, rfl⟩, j, r2⟩, g2⟩
  rotate_left
  · have HN := (show Hid _ from rd_none (strict := true) (room := roomI) roomI_ok (by unfold rdTop; rw [h1] : rdTop xs true roomI = none))
    have FE := (show Hid (FilFr g g w w2) from (FilFr.refl w).put g2 (fun r e => by cases e; exact .inl rfl))
    clear h1 r2 g2
    go_wp2
    exact ⟨rfl, .inr ⟨HN.out, ⟨_, _, rfl⟩⟩, FE.out⟩
  have hk1 := rdP_some h1 HB.out
  have H1 := (show Hid (rdP xs 0 = some (m, i1)) from h1)
  have S2 := (show Hid (RdrT w0 g (.slice a xs.length ca) xs [.slice none 0 0, .slice none 0 0, .int .i64 0] (i1 : Nat) w2 ∧ FilFr g g w w2) from ⟨r2, (FilFr.refl w).put g2 (fun r e => by cases e; exact .inl rfl)⟩)
  clear h1 r2 g2 C0 c0 c1 c2 c3 c4 y2 y3 y4
  go_upto_region 2 with fail
  go_loopw [16] (fun o wr => ∃ (c j : Nat) (acc : List ByteArray) (u1 : Option Addr) (u3 : Nat), c ≤ m ∧ o = .int .i64 (c : Int) ∧ Hid (RdrT w0 g (.slice a xs.length ca) xs [.slice u1 acc.length u3, .slice none 0 0, .int .i64 0] (j : Nat) wr ∧ FilFr g g w wr ∧ OwnS w.heap.size wr (.slice u1 acc.length u3) acc ∧ ∃ f, rdNs xs f (m - c) j acc = rdNs xs (xs.length + 1) m i1 [] ∧ xs.length < f + j ∧ j ≤ xs.length ∧ acc.length ≤ j)) (fun o _ => m - (intOf o).toNat)
  case atStart => exact ⟨0, i1, [], none, 0, Nat.zero_le _, rfl, S2.out.1, S2.out.2, World.ownsRow_nil _ _ _ _, _, rfl, by omega, hk1.2.1, Nat.zero_le _⟩
  case round =>
    clear S2
    obtain ⟨c, j, acc, u1, u3, hc, rfl, J⟩ := hrel
    have HFJ := (show Hid _ from J.out.2.2.2)
    have hal : acc.length ≤ xs.length := by obtain ⟨f, _, _, h1, h2⟩ := HFJ.out; omega
    have hjx : j ≤ xs.length := by obtain ⟨f, _, _, h1, h2⟩ := HFJ.out; omega
    have RJ := (show Hid _ from J.out.1)
    have FJ := (show Hid (FilFr g g w wr) from J.out.2.1)
    have OJ := (show Hid (OwnS w.heap.size wr (.slice u1 acc.length u3) acc) from J.out.2.2.1)
    obtain ⟨c0, c1, c2, c3, c4, y2, y3, y4⟩ := J.out.1.five
    have hgr := J.out.1.lt
    have hwr : w.heap.size ≤ wr.heap.size := J.out.2.1.size
    clear J
    by_cases hcm : c < m
    · have hci : (c : Int) < (m : Int) := by omega
      have CT := (show Hid (Calls Tryz.prog 137 #[.pointer (some ⟨g, 0, none⟩)] (wr.drewN 1) _) from xT_any (RdrT.drewN RJ.out 1) HB.out)
      have FD := (show Hid (FilFr g g w (wr.drewN 1)) from FJ.out.put (grown_drewN wr 1 none) (fun r e => by cases e))
      go_wp2_with fail
      go_region_law (first
        | (with_reducible refine step_appS (w := w5.alloc (Obj.cells #[.string s] 9)) ?_ (.tmp 22) (.tmp 27) 82 ?_ w.heap.size 9 is _ 1 16 ?_ his hzs0 hzs1 hzs2 ?_ ?_ (.slice u1 acc.length u3) acc.length (acc.map Value.string) ?_ ?_ (.slice (some ⟨w5.heap.size, 0, none⟩) 1 1) 1 [.string s] ?_ ?_ ?_ ?_ ?_ ?_ ?_ ?_
           · rfl
           · rfl
           · exact Tryz.underlying82
           · rfl
           · decide
           · simp [Act.eval]
           · exact O5.out
           · simp [Act.eval]
           · exact one_strR w5 s
           · rfl
           · simp [Value.oneCell']
           · (unfold maxLen; omega)
           · omega
           · exact Nat.le_trans F5.out.size (by simp)
           intro v9 w9 o9 g9
           obtain ⟨e1, e2, e3, rfl⟩ := own_slice o9
           have R9 := (show Hid _ from HE.out _ _ o9 g9)
           obtain ⟨en, _⟩ := str_cell (OwnS.sv R9.out.2.2.1)
           subst en
           have hap : (acc ++ [s]).length = acc.length + 1 := by simp
           rw [hap] at R9
           have gs9 := R9.out.2.2.2
           obtain ⟨k0, k1, k2, k3, k4, kz⟩ := five_at gs9
           clear o9 g9 gs9)
        | (go_simp
           refine Calls.mono CT.out ?_
           rintro e w5 ⟨⟨s, j5, hs5, rfl, r5⟩ | ⟨hs5, ⟨t5, s5, rfl⟩, jj5, r5⟩, g5⟩
           rotate_left
           · have HN := (show Hid _ from rd_none (strict := true) (room := roomI) roomI_ok (by
               obtain ⟨f, h, hf, hj, _⟩ := HFJ.out
               obtain ⟨f', rfl⟩ : ∃ f', f = f' + 1 := ⟨f - 1, by omega⟩
               obtain ⟨p, hp⟩ : ∃ p, m - c = p + 1 := ⟨m - c - 1, by omega⟩
               unfold rdTop
               rw [H1.out]
               simp only
               rw [← h, hp]
               simp [rdNs, hs5] : rdTop xs true roomI = none))
             exact ⟨rfl, .inr ⟨HN.out, ⟨_, _, rfl⟩⟩, FD.out.put g5 (fun r e => by cases e; exact .inl rfl)⟩
           have hk5 := rdX_some hs5 HB.out
           have HN := (show Hid (∃ f, rdNs xs f (m - (c + 1)) j5 (acc ++ [s]) = rdNs xs (xs.length + 1) m i1 [] ∧ xs.length < f + j5 ∧ j5 ≤ xs.length ∧ (acc ++ [s]).length ≤ j5) from (by
             obtain ⟨f, h, hf, hj, hl⟩ := HFJ.out
             obtain ⟨f', rfl⟩ : ∃ f', f = f' + 1 := ⟨f - 1, by omega⟩
             obtain ⟨p, hp⟩ : ∃ p, m - c = p + 1 := ⟨m - c - 1, by omega⟩
             have hq2 : m - (c + 1) = p := by omega
             rw [hp, rdNs, hs5] at h
             simp only at h
             refine ⟨f', by rw [hq2]; exact h, by omega, by omega, by rw [List.length_append, List.length_singleton]; omega⟩ : ∃ f, rdNs xs f (m - (c + 1)) j5 (acc ++ [s]) = rdNs xs (xs.length + 1) m i1 [] ∧ xs.length < f + j5 ∧ j5 ≤ xs.length ∧ (acc ++ [s]).length ≤ j5))
           have F5 := (show Hid (FilFr g g w w5) from FD.out.put g5 (fun r e => by cases e; exact .inl rfl))
           have o5 : OwnS w.heap.size w5 (.slice u1 acc.length u3) acc := kept_of_type OJ.out (grown_trans (grown_drewN wr 1 (some g)) g5) (fun r e => by cases e; exact ⟨_, _, _, RJ.out.2.2.2.2, by decide⟩)
           have O5 := (show Hid _ from ownsRow_below o5 ((Below.refl w5.heap.size w5).alloc (Nat.le_refl _) (.cells #[.string s] 9)))
           have HE := (show Hid (∀ w9 v9, w9.ownsRow w.heap.size 9 1 v9 (acc.length + 1) (acc.map Value.string ++ [.string s]) → (w5.alloc (.cells #[.string s] 9)).grownBy w9 (Value.slice u1 acc.length u3).ownBlock → RdrT w0 g (.slice a xs.length ca) xs [v9, .slice none 0 0, .int .i64 0] (j5 : Nat) (w9.setCell ⟨g, 2, none⟩ v9) ∧ FilFr g g w (w9.setCell ⟨g, 2, none⟩ v9) ∧ OwnS w.heap.size (w9.setCell ⟨g, 2, none⟩ v9) v9 (acc ++ [s]) ∧ w9.heap[g]? = some (.cells #[.slice a xs.length ca, .int .i64 (j5 : Nat), .slice u1 acc.length u3, .slice none 0 0, .int .i64 0] 120 (0, 0))) from fun w9 v9 o9 g9 => names_end hw0 r5 F5.out o5 o9 g9)
           clear c0 c1 c2 c3 c4 y2 y3 y4
           obtain ⟨c0, c1, c2, c3, c4, y2, y3, y4⟩ := r5.five
           have cA2 := fun X => (((Below.refl w5.heap.size w5).alloc (Nat.le_refl _) X).cell (p := ⟨g, 2, none⟩) r5.lt).trans c2
           clear r5 g5 hs5 o5))
      all_goals go_wp2
      all_goals go_roundw
      all_goals first
        | (simp [intOf]; omega)
        | exact ⟨c + 1, j5, acc ++ [s], e1, e3, by omega, by go_num, by rw [hap]; exact R9.out.1, R9.out.2.1, by rw [hap]; exact R9.out.2.2.1, HN.out⟩
    obtain rfl : c = m := by omega
    have hci : ¬ (c : Int) < (c : Int) := by omega
    have HNS := (show Hid (rdNs xs (xs.length + 1) c i1 [] = some (acc, j)) from (by
      obtain ⟨f, h, _⟩ := HFJ.out
      rw [← h, Nat.sub_self]
      cases f <;> rfl : rdNs xs (xs.length + 1) c i1 [] = some (acc, j)))
    have HFS := (show Hid (FitS xs.length acc) from (rdNs_some HB.out _ _ _ _ _ _ HNS.out (fun s hs => by cases hs) hk1.2.1).2.2.1)
    have C5 := (show Hid _ from pT_any RJ.out HB.out)
    clear hcm
    go_wp2_with fail
    go_at_call 136
    refine Calls.mono C5.out ?_
    rintro e w5 ⟨⟨cnt, j2, h2, rfl, r5⟩ | ⟨h2, ⟨t, s, rfl⟩, jj, r5⟩, g5⟩
    rotate_left
    · have HN := (show Hid _ from rd_none (strict := true) (room := roomI) roomI_ok (by unfold rdTop; rw [H1.out]; simp only; rw [HNS.out]; simp only; rw [h2] : rdTop xs true roomI = none))
      have FE := (show Hid (FilFr g g w w5) from FJ.out.put g5 (fun r e => by cases e; exact .inl rfl))
      clear h2 r5 g5
      go_wp2
      exact ⟨rfl, .inr ⟨HN.out, ⟨_, _, rfl⟩⟩, FE.out⟩
    have hk2 := rdP_some h2 HB.out
    have HT := (show Hid (rdTop xs true roomI = match rdN xs acc true (roomI cnt) (xs.length + 1) (-1) [] j2 with | none => none | some (ns, _) => some ns) from (by unfold rdTop; rw [H1.out]; simp only; rw [HNS.out]; simp only; rw [h2]; rfl : rdTop xs true roomI = match rdN xs acc true (roomI cnt) (xs.length + 1) (-1) [] j2 with | none => none | some (ns, _) => some ns))
    have gs := grown_setCell w5 g 4 (.int .i64 (cnt : Int))
    obtain ⟨w6, hw6⟩ : ∃ z, z = w5.setCell ⟨g, 4, none⟩ (.int .i64 (cnt : Int)) := ⟨_, rfl⟩
    have R6 := (show Hid (RdrT w0 g (.slice a xs.length ca) xs [.slice u1 acc.length u3, .slice none 0 0, .int .i64 (cnt : Int)] (j2 : Nat) w6) from (by
      rw [hw6]
      exact ⟨r5.1, r5.2.1, r5.2.2.1.setCell (p := ⟨g, 4, none⟩) r5.1 _, r5.2.2.2.1, setCell_at (k := 4) (u := .int .i64 (cnt : Int)) r5.2.2.2.2⟩ : RdrT w0 g (.slice a xs.length ca) xs [.slice u1 acc.length u3, .slice none 0 0, .int .i64 (cnt : Int)] (j2 : Nat) w6))
    have F6 := (show Hid (FilFr g g w w6) from (by rw [hw6]; exact (FJ.out.put g5 (fun r e => by cases e; exact .inl rfl)).put gs (fun r e => by cases e; exact .inl rfl) : FilFr g g w w6))
    have O6 := (show Hid (OwnS w.heap.size w6 (.slice u1 acc.length u3) acc) from (by
      rw [hw6]
      have o5 : OwnS w.heap.size w5 (.slice u1 acc.length u3) acc := kept_of_type OJ.out g5 (fun r e => by cases e; exact ⟨_, _, _, RJ.out.2.2.2.2, by decide⟩)
      exact kept_of_type o5 gs (fun r e => by cases e; exact ⟨_, _, _, r5.2.2.2.2, by decide⟩) : OwnS w.heap.size w6 (.slice u1 acc.length u3) acc))
    clear c0 c1 c2 c3 c4 y2 y3 y4
    obtain ⟨c0, c1, c2, c3, c4, y2, y3, y4⟩ := r5.five
    have hgl5 := r5.lt
    clear h2 r5 g5 gs C5
    go_upto_region 6 with fail
    rw [← hw6]
    clear hw6 c0 c1 c2 c3 c4 y2 y3 y4
    have CB := (show Hid _ from nodeBelowT_any HB.out hx (by omega) HFS.out hk2.2.2 (xs.length + 1) j2 (-1) w.heap.size w6 (.slice none 0 0) [] (by omega) hk2.2.1 R6.out (ownsRow_base O6.out hw0) hw0 F6.out.size ⟨World.ownsRow_nil _ _ _ _, fun q hq => by cases hq⟩ apartT_nil (.inl rfl) (fun n hn => by cases hn) (fun q hq => by cases hq) (Nat.zero_le _))
    go_wp2_with fail
    go_at_call 138
    refine Calls.mono CB.out ?_
    rintro e w7 ⟨⟨u, qs, j7, h7, rfl, r7, o7, a7⟩ | ⟨h7, ⟨t, s, rfl⟩⟩, f7⟩
    rotate_left
    · have HN := (show Hid _ from rd_none (strict := true) (room := roomI) roomI_ok (by rw [HT.out]; rw [List.map_nil, kidAdd_neg _ (by omega)] at h7; rw [h7] : rdTop xs true roomI = none))
      have FE := (show Hid (FilFr g g w w7) from F6.out.opr f7 (Nat.le_refl _))
      clear h7 f7
      go_wp2
      exact ⟨rfl, .inr ⟨HN.out, ⟨_, _, rfl⟩⟩, FE.out⟩
    rw [List.map_nil, kidAdd_neg _ (by omega)] at h7
    have HT7 := (show Hid (rdTop xs true roomI = some (qs.map (fun q => q.1))) from (by rw [HT.out, h7] : rdTop xs true roomI = some (qs.map (fun q => q.1))))
    have hrl := rdN_some HB.out HFS.out h7 (fun n hn => by cases hn) (Nat.zero_le _)
    have hfit := hrl.1.fit (by omega)
    have hlen : (qs.map (fun q => q.1)).length ≤ 1048576 := by have h1 := hrl.1.few; have h2 := hrl.1.most; omega
    obtain ⟨v1, v2, v3, rfl⟩ := own_slice o7.1
    have CR := (show Hid _ from itreeT_any r7.2.2.2.2)
    have CP := (show Hid (∀ W, Below w7.heap.size w7 W → Calls Tryz.prog 29 #[.agg #[.slice v1 v2 v3]] W _) from fun W b => itreePack_any (o7.n.nodes.below b) hfit hlen)
    have F7 := (show Hid (FilFr g g w w7) from F6.out.opr f7 (Nat.le_refl _))
    have R7 := (show Hid _ from r7)
    have O7 := (show Hid (OwnQ w.heap.size w7 (.slice v1 v2 v3) qs) from o7)
    have A7 := (show Hid (ApartT qs) from a7)
    obtain ⟨c0, c1, c2, c3, c4, _, _, _⟩ := r7.five
    have hg7 := r7.lt
    clear h7 hrl hfit hlen r7 o7 a7 f7 CB
    go_wp2_with fail
    go_at_call 51
    refine Calls.mono CR.out ?_
    rintro e w8 ⟨rfl, b8⟩
    have B8 := (show Hid (Below w7.heap.size w7 w8) from b8)
    clear CR b8
    go_wp2_with fail
    go_at_call 29
    refine Calls.mono (CP.out _ B8.out) ?_
    rintro e w9 ⟨pv, r, rfl, hpa, b9⟩
    have B9 := (show Hid (Below w7.heap.size w7 w9) from B8.out.trans (b9.mono B8.out.size))
    have R9 := (show Hid (RdrT w0 g (.slice a xs.length ca) xs [.slice u1 acc.length u3, .slice v1 v2 v3, .int .i64 (cnt : Int)] (j7 : Nat) w9) from RdrT.below R7.out B9.out)
    have F9 := (show Hid (FilFr g g w w9) from F7.out.put (row := none) ⟨B9.out.os, B9.out.tape, B9.out.output, B9.out.size, fun j hj _ => B9.out.block j hj⟩ (fun r e => by cases e))
    have O9 := (show Hid (OwnQ w.heap.size w9 (.slice v1 v2 v3) qs) from O7.out.below B9.out)
    clear CP b9 c0 c1 c2 c3 c4 B8
    obtain ⟨c0, c1, c2, c3, c4, _, _, _⟩ := R9.out.five
    have hg9 := R9.out.lt
    rcases hpa with ⟨rfl, hgd, opv⟩ | ⟨rfl, hgd, opv⟩
    rotate_left
    · have HN := (show Hid _ from rd_some (strict := true) (room := roomI) roomI_ok HT7.out (fun h => hgd h.1))
      obtain ⟨p1, p2, p3, rfl⟩ := own_slice opv
      clear hgd opv
      go_wp2_with fail
      go_at_call 135
      refine (need_no _).mono ?_
      rintro e w4 ⟨⟨t, s, rfl⟩, ew⟩
      replace ew := ew.symm
      subst ew
      go_wp2
      exact ⟨rfl, .inr ⟨HN.out, ⟨_, _, rfl⟩⟩, F9.out⟩
    have CE := (show Hid _ from iequalBytes opv.sl R9.out.sl (by have := packL_small hgd.1.1; omega))
    obtain ⟨p1, p2, p3, rfl⟩ := own_slice opv
    by_cases heq : packL (qs.map (fun q => q.1)) = xs
    · have HG := (show Hid _ from And.intro hgd heq)
      rw [decide_eq_true heq] at CE
      clear hgd opv heq
      go_wp2_with fail
      go_at_call 139
      refine Calls.mono CE.out ?_
      rintro e w10 ⟨rfl, b10⟩
      have R10 := (show Hid (RdrT w0 g (.slice a xs.length ca) xs [.slice u1 acc.length u3, .slice v1 v2 v3, .int .i64 (cnt : Int)] (j7 : Nat) w10 ∧ FilFr g g w w10 ∧ OwnQ w.heap.size w10 (.slice v1 v2 v3) qs) from ⟨RdrT.below R9.out b10, F9.out.put (row := none) ⟨b10.os, b10.tape, b10.output, b10.size, fun j hj _ => b10.block j hj⟩ (fun r e => by cases e), O9.out.below b10⟩)
      clear b10 CE
      go_wp2_with fail
      go_at_call 135
      refine (need_yes _).mono ?_
      rintro e w4 ⟨rfl, ew⟩
      replace ew := ew.symm
      subst ew
      go_wp2
      go_end0
      exact ⟨.inl ⟨_, qs, _, _, _, rfl, HG.out.1, HG.out.2, R10.out.1.2.2.2.2, R10.out.2.2, A7.out⟩, R10.out.2.1⟩
    · have HN := (show Hid _ from rd_some (strict := true) (room := roomI) roomI_ok HT7.out (fun h => heq h.2))
      rw [decide_eq_false heq] at CE
      clear hgd opv heq
      go_wp2_with fail
      go_at_call 139
      refine Calls.mono CE.out ?_
      rintro e w10 ⟨rfl, b10⟩
      have F10 := (show Hid (FilFr g g w w10) from F9.out.put (row := none) ⟨b10.os, b10.tape, b10.output, b10.size, fun j hj _ => b10.block j hj⟩ (fun r e => by cases e))
      clear b10 CE
      go_wp2_with fail
      go_at_call 135
      refine (need_no _).mono ?_
      rintro e w4 ⟨⟨t, s, rfl⟩, ew⟩
      replace ew := ew.symm
      subst ew
      go_wp2
      exact ⟨rfl, .inr ⟨HN.out, ⟨_, _, rfl⟩⟩, F10.out⟩
end Go.Proofs.YtogdbjafibejdaaGreat

/- The program's readWell of a tree, TreeRead. No condition. -/
namespace Go.Proofs.YtogdbjafibejdaaGreat
open Go.RowKit
set_option maxRecDepth 100000
set_option linter.unusedVariables false

theorem FilFr.alloc {g : Nat} {w w2 : World} {o : Obj} (h : FilFr g g (w.alloc o) w2) : FilFr g g w w2 :=
  ⟨h.os, h.tape, h.output, Nat.le_trans (by simp) h.size, fun j hj h1 h2 => (h.block j (by rw [World.size_alloc]; omega) h1 h2).trans (Below.heap_alloc _ _ _ hj)⟩

set_option maxHeartbeats 2000000 in
theorem wellTree_any {w0 w : World} {g : Nat} {v : Value} {xs : List Int} (h : RdrT w0 g v xs [.slice none 0 0, .slice none 0 0, .int .i64 0] (0 : Nat) w) (hb : ∀ x ∈ xs, 0 ≤ x ∧ x ≤ 255) :
    Calls Tryz.prog 91 #[.func (.func 92) #[.pointer (some ⟨g, 0, none⟩)] #[]] w fun e w' =>
      ((∃ u qs j nv cnt, e = .returned (.bool true) ∧ goodT (qs.map (fun q => q.1)) ∧ packL (qs.map (fun q => q.1)) = xs ∧ w'.heap[g]? = some (.cells #[v, .int .i64 j, nv, u, .int .i64 cnt] 120 (0, 0)) ∧ OwnQ w.heap.size w' u qs ∧ ApartT qs) ∨ ((∀ ns, goodT ns → packL ns ≠ xs) ∧ e = .returned (.bool false))) ∧ FilFr g g w w' := by
  have hmf : ∀ (fn : Fn) (first cap : Array Value) (w : World), (Instr.makeFunc fn first cap).run Tryz.prog w = .ok (.func fn first cap) w := fun _ _ _ _ => rfl
  have hlt := h.lt
  have hal : Below w.heap.size w (w.alloc (.cells #[.bool false] 4)) := (Below.refl _ _).alloc (Nat.le_refl _) _
  have hq : Box (w.alloc (.cells #[.bool false] 4)) w.heap.size 4 (.bool false) := World.alloc_heap_new _ _
  have h' := h.below hal
  have CALL := (show Hid (Calls Tryz.prog 92 #[.pointer (some ⟨g, 0, none⟩)] (w.alloc (.cells #[.bool false] 4)) _) from treeT_any h' hb)
  have hsz : (w.alloc (.cells #[.bool false] 4)).heap.size = w.heap.size + 1 := by simp
  have HSZ := (show Hid _ from hsz)
  clear h hal h' hsz
  go_enter_defers Tryz.func91, Tryz.ntmps91
  go_wp2_with fail
  go_at_call 92
  refine CALL.out.mono ?_
  rintro e w2 ⟨hor, f2⟩
  have hq2 : Box w2 w.heap.size 4 (.bool false) := (f2.block w.heap.size (by rw [HSZ.out]; omega) (by omega) (by omega)).trans hq
  obtain ⟨cq, fq⟩ := hq2.cell
  have F2 := (show Hid (FilFr g g w w2) from f2.alloc)
  have hs2 : w.heap.size + 1 ≤ w2.heap.size := by have := f2.size; rw [HSZ.out] at this; exact this
  rcases hor with ⟨u, qs, j, nv, cnt, rfl, hgd, hpk, hg2, o2, a2⟩ | ⟨hno, t, s, rfl⟩
  · have q3 := hq2.set (.bool true)
    have g3 := grown_setCell w2 w.heap.size 0 (.bool true)
    have P3 := (show Hid (_ ∧ _ ∧ _ ∧ _ ∧ _ ∧ _) from And.intro q3 (And.intro ((g3.block g (blk_lt hg2) (fun e => by injection e with e; omega)).trans hg2) (And.intro ((o2.base (B' := w.heap.size) (by rw [HSZ.out]; omega)).kept g3 (fun r e => by cases e; exact ⟨_, _, _, hq2, by decide, by decide, by decide⟩)) (And.intro (F2.out.put g3 (fun r e => by cases e; exact .inr (.inr (Nat.le_refl _)))) (And.intro hgd (And.intro hpk a2))))))
    clear g3 q3 hg2 o2 hgd hpk a2 f2
    go_wp2
    refine leaves_cons (f := 134) (args := #[.pointer (some ⟨w.heap.size, 0, none⟩)]) (by simp) (by simp [go_sem]) ?_
    obtain ⟨q3, g3, o3, f3, hgd, hpk, a3⟩ := P3.out
    refine (catch_idle _ true _ q3.cell.1 q3.cell.2).mono ?_
    rintro e u' w3 ⟨rfl, rfl, rfl⟩
    have gs := grown_setCell (w2.setCell ⟨w.heap.size, 0, none⟩ (.bool true)) w.heap.size 0 (.bool true)
    have q4 := q3.set (.bool true)
    have g4 := (gs.block g (blk_lt g3) (fun e => by injection e with e; omega)).trans g3
    have o4 := o3.kept gs (fun r e => by cases e; exact ⟨_, _, _, q3, by decide, by decide, by decide⟩)
    have f4 := f3.put gs (fun r e => by cases e; exact .inr (.inr (Nat.le_refl _)))
    have c4 := q4.cell.1
    simp [Leaves, settle, results, Tryz.results91, go_sem, c4]
    exact ⟨⟨u, qs, hgd, hpk, ⟨j, nv, cnt, g4⟩, o4, a3⟩, f4⟩
  · have q3 := hq2.set (.bool false)
    have g3 := grown_setCell w2 w.heap.size 0 (.bool false)
    have P3 := (show Hid (_ ∧ _ ∧ _) from And.intro q3 (And.intro (F2.out.put g3 (fun r e => by cases e; exact .inr (.inr (Nat.le_refl _)))) hno))
    clear q3 g3 hno f2
    go_wp2
    refine leaves_cons (f := 134) (args := #[.pointer (some ⟨w.heap.size, 0, none⟩)]) (by simp) (by simp [go_sem]) ?_
    refine (catch_bad _ false t s [] _ cq fq).mono ?_
    rintro e u' w3 ⟨rfl, rfl, rfl⟩
    obtain ⟨q3, f3, hno⟩ := P3.out
    have c4 := q3.cell.1
    simp [Leaves, settle, results, Tryz.results91, go_sem, c4]
    exact ⟨hno, f3⟩

def ReadA (xs : List Int) (w : World) (e : Ending) (w' : World) : Prop :=
  ((∃ u qs, e = .returned (.tuple #[.agg #[u], .bool true]) ∧ goodT (qs.map (fun q => q.1)) ∧ packL (qs.map (fun q => q.1)) = xs ∧ OwnQ w.heap.size w' u qs ∧ ApartT qs) ∨
    ((∀ ns, goodT ns → packL ns ≠ xs) ∧ e = .returned (.tuple #[.agg #[.slice none 0 0], .bool false]))) ∧ Below w.heap.size w w'

set_option maxHeartbeats 2000000 in
set_option maxRecDepth 100000 in
theorem itreeRead_all {v : Value} {xs : List Int} {w : World} (h : Sl .u8 w v xs) (hb : ∀ x ∈ xs, 0 ≤ x ∧ x ≤ 255) (hn : xs.length ≤ 1099511627776) :
    Calls Tryz.prog 31 #[v] w fun e w' => ReadA xs w e w' := by
  have hmf : ∀ (fn : Fn) (first cap : Array Value) (w : World), (Instr.makeFunc fn first cap).run Tryz.prog w = .ok (.func fn first cap) w := fun _ _ _ _ => rfl
  have h0 := h
  obtain ⟨a, ca, rfl, _, _, _, _⟩ := h
  obtain ⟨W, hW⟩ : ∃ W, W = (w.alloc (.cells #[.slice none 0 0] 26)).alloc (.cells #[.slice a xs.length ca, .int .i64 0, .slice none 0 0, .slice none 0 0, .int .i64 0] 120) := ⟨_, rfl⟩
  have bW : Below w.heap.size w W := by rw [hW]; exact ((Below.refl _ _).alloc (Nat.le_refl _) _).alloc (by simp) _
  have gW : W.heap[w.heap.size + 1]? = some (.cells #[.slice a xs.length ca, .int .i64 0, .slice none 0 0, .slice none 0 0, .int .i64 0] 120 (0, 0)) := by
    rw [hW]
    have := World.alloc_heap_new (w.alloc (.cells #[.slice none 0 0] 26)) (.cells #[.slice a xs.length ca, .int .i64 0, .slice none 0 0, .slice none 0 0, .int .i64 0] 120)
    rwa [World.size_alloc] at this
  have gT : W.heap[w.heap.size]? = some (.cells #[.slice none 0 0] 26 (0, 0)) := by rw [hW, Below.heap_alloc _ _ _ (by simp)]; exact World.alloc_heap_new _ _
  have rd : RdrT w (w.heap.size + 1) (.slice a xs.length ca) xs [.slice none 0 0, .slice none 0 0, .int .i64 0] (0 : Nat) W := ⟨by omega, h0, bW, hn, gW⟩
  have CALL := (show Hid _ from wellTree_any rd hb)
  have GT := (show Hid _ from gT)
  have BW := (show Hid _ from bW)
  have hTl := blk_lt gT
  clear rd gW gT bW h0 hb
  go_enter Tryz.func31, Tryz.ntmps31
  go_wp2_with fail
  rw [← hW]
  go_at_call 91
  clear hW
  refine Calls.mono CALL.out ?_
  rintro e w2 ⟨hor, f2⟩
  have gT2 : w2.heap[w.heap.size]? = some (.cells #[.slice none 0 0] 26 (0, 0)) := (f2.block _ hTl (by omega) (by omega)).trans GT.out
  have B2 := (show Hid (Below w.heap.size w w2) from BW.out.trans (f2.below (by omega) (by omega) BW.out.size))
  have GT2 := (show Hid _ from gT2)
  obtain ⟨cT, zT⟩ := one_cell gT2
  have lT := blk_lt gT2
  clear gT2 f2 CALL
  rcases hor with ⟨u, qs, j, nv, cnt, rfl, hgd, hpk, hg2, o2, a2⟩ | ⟨hno, rfl⟩
  · obtain ⟨v1, v2, v3, rfl⟩ := own_slice o2.1
    have CR := (show Hid _ from itreeT_any hg2)
    have E2 := (show Hid (_ ∧ _ ∧ _ ∧ _) from And.intro hgd (And.intro hpk (And.intro (o2.base (B' := w.heap.size) BW.out.size) a2)))
    have hgl := blk_lt hg2
    clear hgd hpk hg2 o2 a2
    go_wp2_with fail
    go_at_call 51
    refine Calls.mono CR.out ?_
    rintro e w3 ⟨rfl, b3⟩
    have GT3 := (show Hid (w3.heap[w.heap.size]? = some (.cells #[.slice none 0 0] 26 (0, 0))) from (b3.block _ lT).trans GT2.out)
    have gs := grown_setCell w3 w.heap.size 0 (.slice v1 v2 v3)
    have H9 := (show Hid (_ ∧ _ ∧ _) from And.intro (setCell_at (k := 0) (u := .slice v1 v2 v3) GT3.out) (And.intro ((B2.out.trans (b3.mono B2.out.size)).setCell (p := ⟨w.heap.size, 0, none⟩) (Nat.le_refl _) (.slice v1 v2 v3)) ((E2.out.2.2.1.below b3).kept gs (fun r e => by cases e; exact ⟨_, _, _, GT3.out, by decide, by decide, by decide⟩))))
    clear b3 gs cT zT lT
    obtain ⟨cT, zT⟩ := one_cell GT3.out
    have lT := blk_lt GT3.out
    go_wp2
    refine bodyPost_ret (treeT_res rfl rfl rfl H9.out.1) rfl ?_
    exact ⟨.inl ⟨_, qs, rfl, E2.out.1, E2.out.2.1, H9.out.2.2, E2.out.2.2.2⟩, H9.out.2.1⟩
  · have HN := (show Hid _ from hno)
    have H9 := (show Hid (_ ∧ _) from And.intro (setCell_at (k := 0) (u := .slice none 0 0) GT2.out) (B2.out.setCell (p := ⟨w.heap.size, 0, none⟩) (Nat.le_refl _) (.slice none 0 0)))
    clear hno
    go_wp2
    refine bodyPost_ret (treeT_res rfl rfl rfl H9.out.1) rfl ?_
    exact ⟨.inr ⟨HN.out, rfl⟩, H9.out.2⟩
end Go.Proofs.YtogdbjafibejdaaGreat
