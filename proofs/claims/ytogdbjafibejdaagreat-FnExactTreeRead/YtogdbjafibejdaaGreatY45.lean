/- The program's packer: num, text, name. No condition. -/
import Derived.Test.YtogdbjafibejdaaGreatY41
import Derived.Test.YtogdbjafibejdaaGreatY18
import Derived.Test.YtogdbjafibejdaaGreatY25
import Derived.Test.YtogdbjafibejdaaGreatY42
namespace Go.Proofs.YtogdbjafibejdaaGreat
open Go.RowKit Go.Maps
set_option maxRecDepth 100000
set_option linter.unusedVariables false

structure BytFr (B K : Nat) (w w' : World) : Prop where
  os : w'.os = w.os
  tape : w'.tape = w.tape
  output : w'.output = w.output
  size : w.heap.size ≤ w'.heap.size
  block : ∀ j, j < w.heap.size → j ≠ K → (j < B ∨ ∀ cs t fr, w.heap[j]? = some (.cells cs t fr) → t ≠ 5) → w'.heap[j]? = w.heap[j]?
theorem BytFr.box {B K : Nat} {w w' : World} (h : BytFr B K w w') {j : Nat} {cs : Array Value} {t : TypeId} (hj : w.heap[j]? = some (.cells cs t (0, 0))) (ht : t ≠ 5) (h1 : j ≠ K) : w'.heap[j]? = some (.cells cs t (0, 0)) :=
  (h.block j (blk_lt hj) h1 (.inr (fun cs' t' fr' e => by rw [hj] at e; cases e; exact ht))).trans hj
theorem BytFr.refl {B K : Nat} (w : World) : BytFr B K w w := ⟨rfl, rfl, rfl, Nat.le_refl _, fun j _ _ _ => rfl⟩
theorem BytFr.trans {B K : Nat} {w w1 w2 : World} (h : BytFr B K w w1) (k : BytFr B K w1 w2) : BytFr B K w w2 :=
  ⟨k.os.trans h.os, k.tape.trans h.tape, k.output.trans h.output, Nat.le_trans h.size k.size, fun j hj h1 h2 => by
    have e := h.block j hj h1 h2
    exact (k.block j (Nat.lt_of_lt_of_le hj h.size) h1 (h2.imp id (fun hb cs t fr hh => hb cs t fr (by rw [← e]; exact hh)))).trans e⟩
theorem BytFr.of_below {B K : Nat} {w w' : World} (h : Below w.heap.size w w') : BytFr B K w w' := ⟨h.os, h.tape, h.output, h.size, fun j hj _ _ => h.block j hj⟩
def PkI (w0 : World) (K N M : Nat) (nm : List ByteArray) (out : List Int) (W : World) : Prop :=
  w0.heap.size ≤ K ∧ Below w0.heap.size w0 W ∧ NmAt w0.heap.size N M nm W ∧ ∃ v, W.heap[K]? = some (.cells #[v, .pointer (some ⟨N, 0, none⟩)] 108 (0, 0)) ∧ Own w0.heap.size 5 .u8 W v out
theorem NmAt.bytes {B N M K : Nat} {nm : List ByteArray} {W W' : World} (h : NmAt B N M nm W) (f : BytFr B K W W') (hK : ∀ cs fr, W.heap[K]? = some (.cells cs 150 fr) → False) (hK2 : ∀ cs fr, W.heap[K]? = some (.cells cs 9 fr) → False) (hK3 : ∀ es c, W.heap[K]? = some (.map es c) → False) : NmAt B N M nm W' := by
  obtain ⟨h1, h2, u, D, n, hN, o, hM, hn, hp⟩ := h
  refine ⟨h1, h2, u, D, n, f.box hN (by decide) (fun e => hK _ _ (e ▸ hN)), ?_, ?_, hn, hp⟩
  · rcases o.2 with ⟨rfl, h0⟩ | ⟨g, cap, cur, rfl, hB, hh, r1, r2, r3, r4⟩
    · exact ⟨o.1, .inl ⟨rfl, h0⟩⟩
    · exact ⟨o.1, .inr ⟨g, cap, cur, rfl, hB, (f.block g (blk_lt hh) (fun e => hK2 _ _ (e ▸ hh)) (.inr (fun cs t fr e => by rw [hh] at e; cases e; decide))).trans hh, r1, r2, r3, r4⟩⟩
  · obtain ⟨es, clock, hb, F, hs, e⟩ := hM
    exact ⟨es, clock, (f.block M (Array.getElem?_eq_some_iff.1 hb).1 (fun e => hK3 _ _ (e ▸ hb)) (.inr (fun cs t fr e => by rw [hb] at e; cases e))).trans hb, F, hs, e⟩
theorem pk_end {w0 w w1 w9 : World} {K N M : Nat} {nm : List ByteArray} {out ys : List Int} {v v9 : Value} (hBK : w0.heap.size ≤ K) (b0 : Below w0.heap.size w0 w) (hNm : NmAt w0.heap.size N M nm w) (hK : w.heap[K]? = some (.cells #[v, .pointer (some ⟨N, 0, none⟩)] 108 (0, 0)))
    (o : Own w0.heap.size 5 .u8 w v out) (b1 : Below w.heap.size w w1) (g9 : w1.grownBy w9 v.ownBlock) (o9 : Own w0.heap.size 5 .u8 w9 v9 (out ++ ys)) :
    PkI w0 K N M nm (out ++ ys) (w9.setCell ⟨K, 0, none⟩ v9) ∧ BytFr w0.heap.size K w (w9.setCell ⟨K, 0, none⟩ v9) := by
  have hk1 : ∀ r, v.ownBlock = some r → w0.heap.size ≤ r ∧ r < w.heap.size ∧ ∃ cs fr, w.heap[r]? = some (.cells cs 5 fr) := fun r hr => by
    refine ⟨(Own.lt o r hr).1, (Own.lt o r hr).2, ?_⟩
    rcases o.2 with ⟨e, _⟩ | ⟨g', cap', cur, e, _, hh, _⟩
    · rw [e] at hr; cases hr
    · rw [e] at hr; cases hr; exact ⟨_, _, hh⟩
  have gs := grown_setCell w9 K 0 v9
  have hKl := blk_lt hK
  have f : BytFr w0.heap.size K w (w9.setCell ⟨K, 0, none⟩ v9) := by
    refine ⟨gs.os.trans (g9.os.trans b1.os), gs.tape.trans (g9.tape.trans b1.tape), gs.output.trans (g9.output.trans b1.output), Nat.le_trans b1.size (Nat.le_trans g9.size gs.size), fun j hj j1 hb => ?_⟩
    have e1 := b1.block j hj
    have e2 := g9.block j (Nat.lt_of_lt_of_le hj b1.size) (fun e => by
      obtain ⟨hr, _, c, f, hh⟩ := hk1 j e.symm
      rcases hb with hb | hb
      · omega
      · exact hb _ _ _ hh rfl)
    have e3 := gs.block j (Nat.lt_of_lt_of_le hj (Nat.le_trans b1.size g9.size)) (fun e => by cases e; exact j1 rfl)
    exact e3.trans (e2.trans e1)
  have gK9 : w9.heap[K]? = some (.cells #[v, .pointer (some ⟨N, 0, none⟩)] 108 (0, 0)) := (g9.block K (Nat.lt_of_lt_of_le hKl b1.size) (fun e => by obtain ⟨_, _, c, f, hh⟩ := hk1 K e.symm; rw [hK] at hh; cases hh)).trans ((b1.block K hKl).trans hK)
  refine ⟨⟨hBK, ?_, hNm.bytes f (fun cs fr e => by rw [hK] at e; cases e) (fun cs fr e => by rw [hK] at e; cases e) (fun es c e => by rw [hK] at e; cases e), v9, setCell_at (k := 0) (u := v9) gK9, kept_of_type o9 gs (fun r e => by cases e; exact ⟨_, _, _, gK9, by decide⟩)⟩, f⟩
  exact ⟨f.os.trans b0.os, f.tape.trans b0.tape, f.output.trans b0.output, Nat.le_trans b0.size f.size, fun j hj => (f.block j (Nat.lt_of_lt_of_le hj b0.size) (by omega) (.inl hj)).trans (b0.block j hj)⟩

set_option maxHeartbeats 2000000 in
set_option maxRecDepth 100000 in
theorem ipkNum_any {w0 w : World} {K N M : Nat} {nm : List ByteArray} {out : List Int} (h : PkI w0 K N M nm out w) (x : Int) (h0 : 0 ≤ x) (hx : x ≤ 9223372036854775807) (hl : out.length ≤ 100000000) :
    Calls Tryz.prog 129 #[.pointer (some ⟨K, 0, none⟩), .int .i64 x] w fun e w' => e = .returned (.tuple #[]) ∧ PkI w0 K N M nm (out ++ form x) w' ∧ BytFr w0.heap.size K w w' := by
  obtain ⟨i0, hi, hz0, hz1, hz2⟩ := info_parts Tryz.infoB
  obtain ⟨hBK, b0, hNm, v, hK, o⟩ := h
  have HE := (show Hid (∀ w1 w9 v9, Below w.heap.size w w1 → w1.grownBy w9 v.ownBlock → Own w0.heap.size 5 .u8 w9 v9 (out ++ form x) → PkI w0 K N M nm (out ++ form x) (w9.setCell ⟨K, 0, none⟩ v9) ∧ BytFr w0.heap.size K w (w9.setCell ⟨K, 0, none⟩ v9)) from fun w1 w9 v9 b1 g9 o9 => pk_end hBK b0 hNm hK o b1 g9 o9)
  have C := (show Hid (Calls Tryz.prog 166 #[.int .i64 x] (w.drewN 1) fun e w' => ∃ r c, e = .returned (.slice (some ⟨r, 0, none⟩) (form x).length c) ∧ Sl .u8 w' (.slice (some ⟨r, 0, none⟩) (form x).length c) (form x) ∧ Below w.heap.size w w') from (inum_any x (w.drewN 1) hx).mono (by
    rintro e w' ⟨v1, rfl, o1, b1⟩
    have hp : form x ≠ [] := by
      have := form_ne x.toNat
      rwa [Int.toNat_of_nonneg h0] at this
    rcases o1.shape with ⟨rfl, e⟩ | ⟨r, c, rfl, _⟩
    · exact absurd e hp
    · exact ⟨r, c, rfl, o1.sl, (below_drewN 1).trans b1⟩))
  have hfl := form_len x
  have cK := (two_cells hK).1
  have HK := (show Hid _ from hK)
  have HO := (show Hid _ from o)
  have hKl := blk_lt hK
  have hsz : w0.heap.size ≤ w.heap.size := b0.size
  obtain ⟨k1, k2, k3, rfl⟩ := own_slice o
  have kind : ∀ r, (Value.slice k1 k2 k3).ownBlock = some r → ∃ cs fr, w.heap[r]? = some (.cells cs 5 fr) := fun r hr => by
    rcases o.2 with ⟨e, _⟩ | ⟨g', cap', cur, e, _, hh, _⟩
    · rw [e] at hr; cases hr
    · rw [e] at hr; cases hr; exact ⟨_, _, hh⟩
  have KIND := (show Hid _ from kind)
  clear hNm hK o b0 kind
  go_enter Tryz.func129, Tryz.ntmps129
  go_region_law (first
    | (with_reducible refine step_appU (w := w1) ?_ (.tmp 8) (.tmp 10) 22 ?_ w0.heap.size 5 i0 (.int .u8 0) 1 ?_ hi hz0 hz1 hz2 ?_ .u8 (.slice k1 k2 k3) out ⟨r1, 0, none⟩ c1 (form x) ?_ ?_ ?_ ?_ ?_ ?_ ?_ ?_
       · rfl
       · rfl
       · exact Tryz.underlying22
       · rfl
       · simp [Act.eval]
       · simp [Act.eval]
       · exact O1.out
       · exact S1.out
       · omega
       · (unfold maxLen; omega)
       · exact Nat.le_trans hsz B1.out.size
       intro v9 w9 o9 g9 r9
       have gK9 : w9.heap[K]? = some (.cells #[.slice k1 k2 k3, .pointer (some ⟨N, 0, none⟩)] 108 (0, 0)) := (g9.block K (Nat.lt_of_lt_of_le hKl B1.out.size) (fun e => by obtain ⟨c, f, hh⟩ := KIND.out K e.symm; rw [HK.out] at hh; cases hh)).trans ((B1.out.block K hKl).trans HK.out)
       obtain ⟨e0, e1, x0, _⟩ := two_cells gK9
       obtain ⟨u2, u3, u4, rfl⟩ := own_slice o9
       have R9 := (show Hid _ from HE.out _ _ _ B1.out g9 o9)
       clear o9 g9 r9 gK9)
    | (go_simp
       refine Calls.mono C.out ?_
       rintro e w1 ⟨r1, c1, rfl, s1, b1⟩
       have S1 := (show Hid _ from s1)
       have B1 := (show Hid _ from b1)
       have O1 := (show Hid (Own w0.heap.size 5 .u8 w1 (.slice k1 k2 k3) out) from Own.below HO.out b1)
       have cK1 := (b1.cell (p := ⟨K, 0, none⟩) hKl).trans cK
       clear s1 b1))
  all_goals
    go_wp2
    go_end0
    exact ⟨rfl, R9.out⟩
set_option maxHeartbeats 2000000 in
set_option maxRecDepth 100000 in
theorem ipkText_any {w0 w : World} {K N M : Nat} {nm : List ByteArray} {out : List Int} (h : PkI w0 K N M nm out w) (x : ByteArray) (hx : x.size ≤ 1000000000) (hl : out.length ≤ 100000000) :
    Calls Tryz.prog 130 #[.pointer (some ⟨K, 0, none⟩), .string x] w fun e w' => e = .returned (.tuple #[]) ∧ PkI w0 K N M nm (out ++ textForm x) w' ∧ BytFr w0.heap.size K w w' := by
  obtain ⟨i0, hi, hz0, hz1, hz2⟩ := info_parts Tryz.infoB
  obtain ⟨hBK, b0, hNm, v, hK, o⟩ := h
  have HE := (show Hid (∀ w1 w9 v9, Below w.heap.size w w1 → w1.grownBy w9 v.ownBlock → Own w0.heap.size 5 .u8 w9 v9 (out ++ textForm x) → PkI w0 K N M nm (out ++ textForm x) (w9.setCell ⟨K, 0, none⟩ v9) ∧ BytFr w0.heap.size K w (w9.setCell ⟨K, 0, none⟩ v9)) from fun w1 w9 v9 b1 g9 o9 => pk_end hBK b0 hNm hK o b1 g9 o9)
  have C := (show Hid (Calls Tryz.prog 167 #[.string x] (w.drewN 1) fun e w' => ∃ r c, e = .returned (.slice (some ⟨r, 0, none⟩) (textForm x).length c) ∧ Sl .u8 w' (.slice (some ⟨r, 0, none⟩) (textForm x).length c) (textForm x) ∧ Below w.heap.size w w') from (iputText_any x (w.drewN 1) (by omega)).mono (by
    rintro e w' ⟨v1, rfl, o1, b1⟩
    have hp : textForm x ≠ [] := by
      have := form_ne x.size
      unfold textForm
      simp [this]
    rcases o1.shape with ⟨rfl, e⟩ | ⟨r, c, rfl, _⟩
    · exact absurd e hp
    · exact ⟨r, c, rfl, o1.sl, (below_drewN 1).trans b1⟩))
  have hfl := textForm_len x
  have cK := (two_cells hK).1
  have HK := (show Hid _ from hK)
  have HO := (show Hid _ from o)
  have hKl := blk_lt hK
  have hsz : w0.heap.size ≤ w.heap.size := b0.size
  obtain ⟨k1, k2, k3, rfl⟩ := own_slice o
  have kind : ∀ r, (Value.slice k1 k2 k3).ownBlock = some r → ∃ cs fr, w.heap[r]? = some (.cells cs 5 fr) := fun r hr => by
    rcases o.2 with ⟨e, _⟩ | ⟨g', cap', cur, e, _, hh, _⟩
    · rw [e] at hr; cases hr
    · rw [e] at hr; cases hr; exact ⟨_, _, hh⟩
  have KIND := (show Hid _ from kind)
  clear hNm hK o b0 kind
  go_enter Tryz.func130, Tryz.ntmps130
  go_region_law (first
    | (with_reducible refine step_appU (w := w1) ?_ (.tmp 8) (.tmp 10) 22 ?_ w0.heap.size 5 i0 (.int .u8 0) 1 ?_ hi hz0 hz1 hz2 ?_ .u8 (.slice k1 k2 k3) out ⟨r1, 0, none⟩ c1 (textForm x) ?_ ?_ ?_ ?_ ?_ ?_ ?_ ?_
       · rfl
       · rfl
       · exact Tryz.underlying22
       · rfl
       · simp [Act.eval]
       · simp [Act.eval]
       · exact O1.out
       · exact S1.out
       · omega
       · (unfold maxLen; omega)
       · exact Nat.le_trans hsz B1.out.size
       intro v9 w9 o9 g9 r9
       have gK9 : w9.heap[K]? = some (.cells #[.slice k1 k2 k3, .pointer (some ⟨N, 0, none⟩)] 108 (0, 0)) := (g9.block K (Nat.lt_of_lt_of_le hKl B1.out.size) (fun e => by obtain ⟨c, f, hh⟩ := KIND.out K e.symm; rw [HK.out] at hh; cases hh)).trans ((B1.out.block K hKl).trans HK.out)
       obtain ⟨e0, e1, x0, _⟩ := two_cells gK9
       obtain ⟨u2, u3, u4, rfl⟩ := own_slice o9
       have R9 := (show Hid _ from HE.out _ _ _ B1.out g9 o9)
       clear o9 g9 r9 gK9)
    | (go_simp
       refine Calls.mono C.out ?_
       rintro e w1 ⟨r1, c1, rfl, s1, b1⟩
       have S1 := (show Hid _ from s1)
       have B1 := (show Hid _ from b1)
       have O1 := (show Hid (Own w0.heap.size 5 .u8 w1 (.slice k1 k2 k3) out) from Own.below HO.out b1)
       have cK1 := (b1.cell (p := ⟨K, 0, none⟩) hKl).trans cK
       clear s1 b1))
  all_goals
    go_wp2
    go_end0
    exact ⟨rfl, R9.out⟩

set_option maxHeartbeats 2000000 in
set_option maxRecDepth 100000 in
theorem ipkName_any {w0 w : World} {K N M : Nat} {nm : List ByteArray} {out : List Int} (h : PkI w0 K N M nm out w) {s : ByteArray} (hs : s ∈ nm) (hz : s.size ≤ 1000000000) (hnl : nm.length ≤ 1000000000000) (hl : out.length ≤ 100000000) :
    Calls Tryz.prog 168 #[.pointer (some ⟨K, 0, none⟩), .string s] w fun e w' => e = .returned (.tuple #[]) ∧ PkI w0 K N M nm (out ++ form (fndS nm s)) w' ∧ BytFr w0.heap.size K w w' := by
  have hft := (fndS_tells nm s hs).1
  have hf0 := fndS_neg hs
  have C := (show Hid _ from ipkNum_any h (fndS nm s) hf0 (by omega) hl)
  obtain ⟨_, _, hNm, v, hK, _⟩ := h
  obtain ⟨_, _, u, D, n, hN, _, hM, _, hp⟩ := hNm
  obtain ⟨c0, c1, _, _⟩ := two_cells hK
  obtain ⟨d0, d1, _, _⟩ := two_cells hN
  have hkey := keyOf_nm (s := s) (by unfold maxLen; omega)
  obtain ⟨c, hrun, hat, _⟩ := hM.lookup_int lawNm Tryz.underlying148 Tryz.underlying3 (zeroNm w) hkey
  rw [hp.2 s, if_neg (by omega)] at hat
  simp only [DataW.lit.injEq, Lit.int.injEq, true_and] at hat
  rw [← hat] at hrun
  clear hM hp hK hN hat
  go_enter Tryz.func168, Tryz.ntmps168
  go_wp2_with fail
  go_at_call 129
  refine Calls.mono C.out ?_
  rintro e w2 ⟨rfl, h2, f2⟩
  have R := (show Hid _ from And.intro h2 f2)
  clear h2 f2
  go_wp2
  go_end0
  exact ⟨rfl, R.out⟩
end Go.Proofs.YtogdbjafibejdaaGreat
