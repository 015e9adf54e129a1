/- The program's packer: num, text, name. No condition. -/
import Derived.Test.YtogdbjafibejdaaGreatX43
import Derived.Test.YtogdbjafibejdaaGreatX18
import Derived.Test.YtogdbjafibejdaaGreatX25
import Derived.Test.YtogdbjafibejdaaGreatX44
namespace Go.Proofs.YtogdbjafibejdaaGreat
open Go.RowKit Go.Maps
set_option maxRecDepth 100000
set_option linter.unusedVariables false

structure BytFr (B K : Nat) (w w' : World) : Prop where
  os : w'.os = w.os
  tape : w'.tape = w.tape
  output : w'.output = w.output
  size : w.heap.size ≤ w'.heap.size
  block : ∀ j, j < w.heap.size → j ≠ K → (j < B ∨ ∀ cs t fr, w.heap[j]? = some (.cells cs t fr) → t ≠ 5) → w'.heap[j]? = w.heap[j]?
theorem BytFr.box {B K : Nat} {w w' : World} (h : BytFr B K w w') {j : Nat} {cs : Array Value} {t : TypeId} (hj : w.heap[j]? = some (.cells cs t (0, 0))) (ht : t ≠ 5) (h1 : j ≠ K) : w'.heap[j]? = some (.cells cs t (0, 0)) :=
  (h.block j (blk_lt hj) h1 (.inr (fun cs' t' fr' e => by rw [hj] at e; cases e; exact ht))).trans hj
theorem BytFr.refl {B K : Nat} (w : World) : BytFr B K w w := ⟨rfl, rfl, rfl, Nat.le_refl _, fun j _ _ _ => rfl⟩
theorem BytFr.trans {B K : Nat} {w w1 w2 : World} (h : BytFr B K w w1) (k : BytFr B K w1 w2) : BytFr B K w w2 :=
  ⟨k.os.trans h.os, k.tape.trans h.tape, k.output.trans h.output, Nat.le_trans h.size k.size, fun j hj h1 h2 => by
    have e := h.block j hj h1 h2
    exact (k.block j (Nat.lt_of_lt_of_le hj h.size) h1 (h2.imp id (fun hb cs t fr hh => hb cs t fr (by rw [← e]; exact hh)))).trans e⟩
theorem BytFr.of_below {B K : Nat} {w w' : World} (h : Below w.heap.size w w') : BytFr B K w w' := ⟨h.os, h.tape, h.output, h.size, fun j hj _ _ => h.block j hj⟩
def PkI (w0 : World) (K N M : Nat) (nm : List ByteArray) (out : List Int) (W : World) : Prop :=
  w0.heap.size ≤ K ∧ Below w0.heap.size w0 W ∧ NmAt w0.heap.size N M nm W ∧ ∃ v, W.heap[K]? = some (.cells #[v, .pointer (some ⟨N, 0, none⟩)] 108 (0, 0)) ∧ Own w0.heap.size 5 .u8 W v out
theorem NmAt.bytes {B N M K : Nat} {nm : List ByteArray} {W W' : World} (h : NmAt B N M nm W) (f : BytFr B K W W') (hK : ∀ cs fr, W.heap[K]? = some (.cells cs 150 fr) → False) (hK2 : ∀ cs fr, W.heap[K]? = some (.cells cs 9 fr) → False) (hK3 : ∀ es c, W.heap[K]? = some (.map es c) → False) : NmAt B N M nm W' := by
  obtain ⟨h1, h2, u, D, n, hN, o, hM, hn, hp⟩ := h
  refine ⟨h1, h2, u, D, n, f.box hN (by decide) (fun e => hK _ _ (e ▸ hN)), ?_, ?_, hn, hp⟩
  · rcases o.2 with ⟨rfl, h0⟩ | ⟨g, cap, cur, rfl, hB, hh, r1, r2, r3, r4⟩
    · exact ⟨o.1, .inl ⟨rfl, h0⟩⟩
    · exact ⟨o.1, .inr ⟨g, cap, cur, rfl, hB, (f.block g (blk_lt hh) (fun e => hK2 _ _ (e ▸ hh)) (.inr (fun cs t fr e => by rw [hh] at e; cases e; decide))).trans hh, r1, r2, r3, r4⟩⟩
  · obtain ⟨es, clock, hb, F, hs, e⟩ := hM
    exact ⟨es, clock, (f.block M (Array.getElem?_eq_some_iff.1 hb).1 (fun e => hK3 _ _ (e ▸ hb)) (.inr (fun cs t fr e => by rw [hb] at e; cases e))).trans hb, F, hs, e⟩
theorem pk_end {w0 w w1 w9 : World} {K N M : Nat} {nm : List ByteArray} {out ys : List Int} {v v9 : Value} (hBK : w0.heap.size ≤ K) (b0 : Below w0.heap.size w0 w) (hNm : NmAt w0.heap.size N M nm w) (hK : w.heap[K]? = some (.cells #[v, .pointer (some ⟨N, 0, none⟩)] 108 (0, 0)))
    (o : Own w0.heap.size 5 .u8 w v out) (b1 : Below w.heap.size w w1) (g9 : w1.grownBy w9 v.ownBlock) (o9 : Own w0.heap.size 5 .u8 w9 v9 (out ++ ys)) :
    PkI w0 K N M nm (out ++ ys) (w9.setCell ⟨K, 0, none⟩ v9) ∧ BytFr w0.heap.size K w (w9.setCell ⟨K, 0, none⟩ v9) := by
  have hk1 : ∀ r, v.ownBlock = some r → w0.heap.size ≤ r ∧ r < w.heap.size ∧ ∃ cs fr, w.heap[r]? = some (.cells cs 5 fr) := fun r hr => by
    refine ⟨(Own.lt o r hr).1, (Own.lt o r hr).2, ?_⟩
    rcases o.2 with ⟨e, _⟩ | ⟨g', cap', cur, e, _, hh, _⟩
    · rw [e] at hr; cases hr
    · rw [e] at hr; cases hr; exact ⟨_, _, hh⟩
  have gs := grown_setCell w9 K 0 v9
  have hKl := blk_lt hK
  have f : BytFr w0.heap.size K w (w9.setCell ⟨K, 0, none⟩ v9) := by
    refine ⟨gs.os.trans (g9.os.trans b1.os), gs.tape.trans (g9.tape.trans b1.tape), gs.output.trans (g9.output.trans b1.output), Nat.le_trans b1.size (Nat.le_trans g9.size gs.size), fun j hj j1 hb => ?_⟩
    have e1 := b1.block j hj
    have e2 := g9.block j (Nat.lt_of_lt_of_le hj b1.size) (fun e => by
      obtain ⟨hr, _, c, f, hh⟩ := hk1 j e.symm
      rcases hb with hb | hb
      · omega
      · exact hb _ _ _ hh rfl)
    have e3 := gs.block j (Nat.lt_of_lt_of_le hj (Nat.le_trans b1.size g9.size)) (fun e => by cases e; exact j1 rfl)
    exact e3.trans (e2.trans e1)
  have gK9 : w9.heap[K]? = some (.cells #[v, .pointer (some ⟨N, 0, none⟩)] 108 (0, 0)) := (g9.block K (Nat.lt_of_lt_of_le hKl b1.size) (fun e => by obtain ⟨_, _, c, f, hh⟩ := hk1 K e.symm; rw [hK] at hh; cases hh)).trans ((b1.block K hKl).trans hK)
  refine ⟨⟨hBK, ?_, hNm.bytes f (fun cs fr e => by rw [hK] at e; cases e) (fun cs fr e => by rw [hK] at e; cases e) (fun es c e => by rw [hK] at e; cases e), v9, setCell_at (k := 0) (u := v9) gK9, kept_of_type o9 gs (fun r e => by cases e; exact ⟨_, _, _, gK9, by decide⟩)⟩, f⟩
  exact ⟨f.os.trans b0.os, f.tape.trans b0.tape, f.output.trans b0.output, Nat.le_trans b0.size f.size, fun j hj => (f.block j (Nat.lt_of_lt_of_le hj b0.size) (by omega) (.inl hj)).trans (b0.block j hj)⟩

set_option maxHeartbeats 2000000 in
set_option maxRecDepth 100000 in
theorem ipkNum_any {w0 w : World} {K N M : Nat} {nm : List ByteArray} {out : List Int} (h : PkI w0 K N M nm out w) (x : Int) (h0 : 0 ≤ x) (hx : x ≤ 9223372036854775807) (hl : out.length ≤ 100000000) :
    Calls Tryz.prog 129 #[.pointer (some ⟨K, 0, none⟩), .int .i64 x] w fun e w' => e = .returned (.tuple #[]) ∧ PkI w0 K N M nm (out ++ form x) w' ∧ BytFr w0.heap.size K w w' := by
  obtain ⟨i0, hi, hz0, hz1, hz2⟩ := info_parts Tryz.infoB
  obtain ⟨hBK, b0, hNm, v, hK, o⟩ := h
  have HE := (show Hid (∀ w1 w9 v9, Below w.heap.size w w1 → w1.grownBy w9 v.ownBlock → Own w0.heap.size 5 .u8 w9 v9 (out ++ form x) → PkI w0 K N M nm (out ++ form x) (w9.setCell ⟨K, 0, none⟩ v9) ∧ BytFr w0.heap.size K w (w9.setCell ⟨K, 0, none⟩ v9)) from fun w1 w9 v9 b1 g9 o9 => pk_end hBK b0 hNm hK o b1 g9 o9)
  have C := (show Hid (Calls Tryz.prog 166 #[.int .i64 x] (w.drewN 1) fun e w' => ∃ r c, e = .returned (.slice (some ⟨r, 0, none⟩) (form x).length c) ∧ Sl .u8 w' (.slice (some ⟨r, 0, none⟩) (form x).length c) (form x) ∧ Below w.heap.size w w') from (inum_any x (w.drewN 1) hx).mono (by
    rintro e w' ⟨v1, rfl, o1, b1⟩
    have hp : form x ≠ [] := by
      have := form_ne x.toNat
      rwa [Int.toNat_of_nonneg h0] at this
    rcases o1.shape with ⟨rfl, e⟩ | ⟨r, c, rfl, _⟩
    · exact absurd e hp
    · exact ⟨r, c, rfl, o1.sl, (below_drewN 1).trans b1⟩))
  have hfl := form_len x
  have cK := (two_cells hK).1
  have HK := (show Hid _ from hK)
  have HO := (show Hid _ from o)
  have hKl := blk_lt hK
  have hsz : w0.heap.size ≤ w.heap.size := b0.size
  obtain ⟨k1, k2, k3, rfl⟩ := own_slice o
  have kind : ∀ r, (Value.slice k1 k2 k3).ownBlock = some r → ∃ cs fr, w.heap[r]? = some (.cells cs 5 fr) := fun r hr => by
    rcases o.2 with ⟨e, _⟩ | ⟨g', cap', cur, e, _, hh, _⟩
    · rw [e] at hr; cases hr
    · rw [e] at hr; cases hr; exact ⟨_, _, hh⟩
  have KIND := (show Hid _ from kind)
  clear hNm hK o b0 kind
  go_enter Tryz.func129, Tryz.ntmps129
  go_region_law (first
    | (with_reducible refine step_appU (w := w1) ?_ (.tmp 8) (.tmp 10) 22 ?_ w0.heap.size 5 i0 (.int .u8 0) 1 ?_ hi hz0 hz1 hz2 ?_ .u8 (.slice k1 k2 k3) out ⟨r1, 0, none⟩ c1 (form x) ?_ ?_ ?_ ?_ ?_ ?_ ?_ ?_
       · rfl
       · rfl
       · exact Tryz.underlying22
       · rfl
       · simp [Act.eval]
       · simp [Act.eval]
       · exact O1.out
       · exact S1.out
       · omega
       · (unfold maxLen; omega)
       · exact Nat.le_trans hsz B1.out.size
       intro v9 w9 o9 g9 r9
       have gK9 : w9.heap[K]? = some (.cells #[.slice k1 k2 k3, .pointer (some ⟨N, 0, none⟩)] 108 (0, 0)) := (g9.block K (Nat.lt_of_lt_of_le hKl B1.out.size) (fun e => by obtain ⟨c, f, hh⟩ := KIND.out K e.symm; rw [HK.out] at hh; cases hh)).trans ((B1.out.block K hKl).trans HK.out)
       obtain ⟨e0, e1, x0, _⟩ := two_cells gK9
       obtain ⟨u2, u3, u4, rfl⟩ := own_slice o9
       have R9 := (show Hid _ from HE.out _ _ _ B1.out g9 o9)
       clear o9 g9 r9 gK9)
    | (go_simp
       refine Calls.mono C.out ?_
       rintro e w1 ⟨r1, c1, rfl, s1, b1⟩
       have S1 := (show Hid _ from s1)
       have B1 := (show Hid _ from b1)
       have O1 := (show Hid (Own w0.heap.size 5 .u8 w1 (.slice k1 k2 k3) out) from Own.below HO.out b1)
       have cK1 := (b1.cell (p := ⟨K, 0, none⟩) hKl).trans cK
       clear s1 b1))
  all_goals
    go_wp2
    go_end0
    exact ⟨rfl, R9.out⟩
set_option maxHeartbeats 2000000 in
set_option maxRecDepth 100000 in
theorem ipkText_any {w0 w : World} {K N M : Nat} {nm : List ByteArray} {out : List Int} (h : PkI w0 K N M nm out w) (x : ByteArray) (hx : x.size ≤ 1000000000) (hl : out.length ≤ 100000000) :
    Calls Tryz.prog 130 #[.pointer (some ⟨K, 0, none⟩), .string x] w fun e w' => e = .returned (.tuple #[]) ∧ PkI w0 K N M nm (out ++ textForm x) w' ∧ BytFr w0.heap.size K w w' := by
  obtain ⟨i0, hi, hz0, hz1, hz2⟩ := info_parts Tryz.infoB
  obtain ⟨hBK, b0, hNm, v, hK, o⟩ := h
  have HE := (show Hid (∀ w1 w9 v9, Below w.heap.size w w1 → w1.grownBy w9 v.ownBlock → Own w0.heap.size 5 .u8 w9 v9 (out ++ textForm x) → PkI w0 K N M nm (out ++ textForm x) (w9.setCell ⟨K, 0, none⟩ v9) ∧ BytFr w0.heap.size K w (w9.setCell ⟨K, 0, none⟩ v9)) from fun w1 w9 v9 b1 g9 o9 => pk_end hBK b0 hNm hK o b1 g9 o9)
  have C := (show Hid (Calls Tryz.prog 167 #[.string x] (w.drewN 1) fun e w' => ∃ r c, e = .returned (.slice (some ⟨r, 0, none⟩) (textForm x).length c) ∧ Sl .u8 w' (.slice (some ⟨r, 0, none⟩) (textForm x).length c) (textForm x) ∧ Below w.heap.size w w') from (iputText_any x (w.drewN 1) (by omega)).mono (by
    rintro e w' ⟨v1, rfl, o1, b1⟩
    have hp : textForm x ≠ [] := by
      have := form_ne x.size
      unfold textForm
      simp [this]
    rcases o1.shape with ⟨rfl, e⟩ | ⟨r, c, rfl, _⟩
    · exact absurd e hp
    · exact ⟨r, c, rfl, o1.sl, (below_drewN 1).trans b1⟩))
  have hfl := textForm_len x
  have cK := (two_cells hK).1
  have HK := (show Hid _ from hK)
  have HO := (show Hid _ from o)
  have hKl := blk_lt hK
  have hsz : w0.heap.size ≤ w.heap.size := b0.size
  obtain ⟨k1, k2, k3, rfl⟩ := own_slice o
  have kind : ∀ r, (Value.slice k1 k2 k3).ownBlock = some r → ∃ cs fr, w.heap[r]? = some (.cells cs 5 fr) := fun r hr => by
    rcases o.2 with ⟨e, _⟩ | ⟨g', cap', cur, e, _, hh, _⟩
    · rw [e] at hr; cases hr
    · rw [e] at hr; cases hr; exact ⟨_, _, hh⟩
  have KIND := (show Hid _ from kind)
  clear hNm hK o b0 kind
  go_enter Tryz.func130, Tryz.ntmps130
  go_region_law (first
    | (with_reducible refine step_appU (w := w1) ?_ (.tmp 8) (.tmp 10) 22 ?_ w0.heap.size 5 i0 (.int .u8 0) 1 ?_ hi hz0 hz1 hz2 ?_ .u8 (.slice k1 k2 k3) out ⟨r1, 0, none⟩ c1 (textForm x) ?_ ?_ ?_ ?_ ?_ ?_ ?_ ?_
       · rfl
       · rfl
       · exact Tryz.underlying22
       · rfl
       · simp [Act.eval]
       · simp [Act.eval]
       · exact O1.out
       · exact S1.out
       · omega
       · (unfold maxLen; omega)
       · exact Nat.le_trans hsz B1.out.size
       intro v9 w9 o9 g9 r9
       have gK9 : w9.heap[K]? = some (.cells #[.slice k1 k2 k3, .pointer (some ⟨N, 0, none⟩)] 108 (0, 0)) := (g9.block K (Nat.lt_of_lt_of_le hKl B1.out.size) (fun e => by obtain ⟨c, f, hh⟩ := KIND.out K e.symm; rw [HK.out] at hh; cases hh)).trans ((B1.out.block K hKl).trans HK.out)
       obtain ⟨e0, e1, x0, _⟩ := two_cells gK9
       obtain ⟨u2, u3, u4, rfl⟩ := own_slice o9
       have R9 := (show Hid _ from HE.out _ _ _ B1.out g9 o9)
       clear o9 g9 r9 gK9)
    | (go_simp
       refine Calls.mono C.out ?_
       rintro e w1 ⟨r1, c1, rfl, s1, b1⟩
       have S1 := (show Hid _ from s1)
       have B1 := (show Hid _ from b1)
       have O1 := (show Hid (Own w0.heap.size 5 .u8 w1 (.slice k1 k2 k3) out) from Own.below HO.out b1)
       have cK1 := (b1.cell (p := ⟨K, 0, none⟩) hKl).trans cK
       clear s1 b1))
  all_goals
    go_wp2
    go_end0
    exact ⟨rfl, R9.out⟩

set_option maxHeartbeats 2000000 in
set_option maxRecDepth 100000 in
theorem ipkName_any {w0 w : World} {K N M : Nat} {nm : List ByteArray} {out : List Int} (h : PkI w0 K N M nm out w) {s : ByteArray} (hs : s ∈ nm) (hz : s.size ≤ 1000000000) (hnl : nm.length ≤ 1000000000000) (hl : out.length ≤ 100000000) :
    Calls Tryz.prog 168 #[.pointer (some ⟨K, 0, none⟩), .string s] w fun e w' => e = .returned (.tuple #[]) ∧ PkI w0 K N M nm (out ++ form (fndS nm s)) w' ∧ BytFr w0.heap.size K w w' := by
  have hft := (fndS_tells nm s hs).1
  have hf0 := fndS_neg hs
  have C := (show Hid _ from ipkNum_any h (fndS nm s) hf0 (by omega) hl)
  obtain ⟨_, _, hNm, v, hK, _⟩ := h
  obtain ⟨_, _, u, D, n, hN, _, hM, _, hp⟩ := hNm
  obtain ⟨c0, c1, _, _⟩ := two_cells hK
  obtain ⟨d0, d1, _, _⟩ := two_cells hN
  have hkey := keyOf_nm (s := s) (by unfold maxLen; omega)
  obtain ⟨c, hrun, hat, _⟩ := hM.lookup_int lawNm Tryz.underlying148 Tryz.underlying3 (zeroNm w) hkey
  rw [hp.2 s, if_neg (by omega)] at hat
  simp only [DataW.lit.injEq, Lit.int.injEq, true_and] at hat
  rw [← hat] at hrun
  clear hM hp hK hN hat
  go_enter Tryz.func168, Tryz.ntmps168
  go_wp2_with fail
  go_at_call 129
  refine Calls.mono C.out ?_
  rintro e w2 ⟨rfl, h2, f2⟩
  have R := (show Hid _ from And.intro h2 f2)
  clear h2 f2
  go_wp2
  go_end0
  exact ⟨rfl, R.out⟩
end Go.Proofs.YtogdbjafibejdaaGreat

/- The program's packer: node (written by mk/ipk3.py). No condition. -/
namespace Go.Proofs.YtogdbjafibejdaaGreat
open Go.RowKit Go.Maps
set_option maxRecDepth 100000
set_option linter.unusedVariables false

def PkD (w0 w : World) (K N M : Nat) (nm : List ByteArray) (P : Nat) (row : Array Value) (out : List Int) (W : World) : Prop :=
  PkI w0 K N M nm out W ∧ BytFr w0.heap.size K w W ∧ W.heap[P]? = some (.cells row 36 (0, 0)) ∧ P ≠ K
theorem PkD.next {w0 w : World} {K N M : Nat} {nm : List ByteArray} {P : Nat} {row : Array Value} {out out2 : List Int} {W W' : World} (h : PkD w0 w K N M nm P row out W) (h2 : PkI w0 K N M nm out2 W') (f : BytFr w0.heap.size K W W') : PkD w0 w K N M nm P row out2 W' :=
  ⟨h2, h.2.1.trans f, f.box h.2.2.1 (by decide) h.2.2.2, h.2.2.2⟩
theorem PkI.below {w0 : World} {K N M : Nat} {nm : List ByteArray} {out : List Int} {W W' : World} (h : PkI w0 K N M nm out W) (b : Below W.heap.size W W') : PkI w0 K N M nm out W' := by
  obtain ⟨h1, h2, h3, v, h4, h5⟩ := h
  exact ⟨h1, h2.trans (b.mono h2.size), h3.below b, v, (b.block _ (blk_lt h4)).trans h4, Own.below h5 b⟩
theorem PkI.lt {w0 : World} {K N M : Nat} {nm : List ByteArray} {out : List Int} {W : World} (h : PkI w0 K N M nm out W) : K < W.heap.size := by
  obtain ⟨_, _, _, v, h4, _⟩ := h
  exact blk_lt h4
theorem PkD.box {w0 w : World} {K N M : Nat} {nm : List ByteArray} {P : Nat} {row : Array Value} {out : List Int} {W : World} (h : PkD w0 w K N M nm P row out W) (o : Obj) : PkD w0 w K N M nm P row out (W.alloc o) := by
  have b : Below W.heap.size W (W.alloc o) := (Below.refl _ _).alloc (Nat.le_refl _) _
  exact h.next (h.1.below b) (BytFr.of_below b)

set_option maxHeartbeats 8000000 in
set_option maxRecDepth 100000 in
theorem ipkNode_any {w0 w : World} {K N M : Nat} {nm : List ByteArray} {out : List Int} {n : PNode} {av : Value} {p1 : Option Addr} {p3 : Nat} (h : PkI w0 K N M nm out w) (hav : Sv 2 w0 av (pairCells n.attrs)) (t : Tells nm n) (sm : SmallN n) (hsn : ∀ s ∈ nm, s.size ≤ 3000) (hnl : nm.length ≤ 10500) (hl : out.length ≤ 70000000) :
    Calls Tryz.prog 131 #[.pointer (some ⟨K, 0, none⟩), .agg #[.int .i64 n.kind, .string n.name, av, .string n.text, .int .i64 n.parent, .slice p1 n.kids.length p3]] w fun e w' => e = .returned (.tuple #[]) ∧ PkI w0 K N M nm (out ++ nodeF nm n) w' ∧ BytFr w0.heap.size K w w' := by
  obtain ⟨y1, y3, rfl, ha1, ha2, ha3⟩ := hav.pair
  have HSM := (show Hid (SmallN n) from sm)
  have HTL := (show Hid (Tells nm n) from t)
  have hkk := t.kind
  have hkl := t.kids
  have hal := sm.rs
  obtain ⟨X0, hX0⟩ : ∃ X, X = out := ⟨_, rfl⟩
  rw [← hX0] at h hl ⊢
  clear hX0 out
  obtain ⟨nk, nn, na, nt, np, nks⟩ := n
  simp only at ha1 ha3 hkk hkl hal ⊢
  have A3 := (show Hid _ from ha3)
  have hKl := h.lt
  obtain ⟨w2, hw2⟩ : ∃ q, q = w.alloc (.cells #[.int .i64 nk, .string nn, .slice y1 na.length y3, .string nt, .int .i64 np, .slice p1 nks.length p3] 36) := ⟨_, rfl⟩
  have b2 : Below w.heap.size w w2 := by rw [hw2]; exact (Below.refl _ _).alloc (Nat.le_refl _) _
  have g2 : w2.heap[w.heap.size]? = some (.cells #[.int .i64 nk, .string nn, .slice y1 na.length y3, .string nt, .int .i64 np, .slice p1 nks.length p3] 36 (0, 0)) := by rw [hw2]; exact World.alloc_heap_new _ _
  have N0 := (show Hid (PkD w0 w K N M nm w.heap.size #[.int .i64 nk, .string nn, .slice y1 na.length y3, .string nt, .int .i64 np, .slice p1 nks.length p3] X0 w2) from ⟨h.below b2, BytFr.of_below b2, g2, by omega⟩)
  obtain ⟨⟨n0, n1, n2, n3, n4, n5⟩, _⟩ := six_at g2
  have lP := blk_lt g2
  clear ha3 hav h b2 g2 hKl sm t
  go_enter Tryz.func131, Tryz.ntmps131
  go_wp2_with fail
  rw [← hw2]
  clear hw2
  go_at_call 129
  refine Calls.mono (ipkNum_any N0.out.1 nk (by omega) (by omega) (by omega)) ?_
  rintro e wa1 ⟨rfl, ha1, fa1⟩
  obtain ⟨X1, hX1⟩ : ∃ X, X = X0 ++ form nk := ⟨_, rfl⟩
  rw [← hX1] at ha1
  have hlf1 : (form nk).length ≤ 10000 := by exact Nat.le_trans (form_len _) (by omega)
  have hl1 : X1.length ≤ (X0).length + 10000 := by rw [hX1, List.length_append]; omega
  have N1 := (show Hid _ from PkD.next N0.out ha1 fa1)
  have HX1 := (show Hid _ from hX1)
  clear n0 n1 n2 n3 n4 n5 N0 ha1 fa1 hX1 hlf1
  obtain ⟨⟨n0, n1, n2, n3, n4, n5⟩, _⟩ := six_at N1.out.2.2.1
  have lP1 := blk_lt N1.out.2.2.1
  go_wp2_with fail
  go_at_call 129
  refine Calls.mono (ipkNum_any N1.out.1 (nks.length : Nat) (by omega) (by omega) (by omega)) ?_
  rintro e wa2 ⟨rfl, ha2, fa2⟩
  obtain ⟨X2, hX2⟩ : ∃ X, X = X1 ++ form (nks.length : Nat) := ⟨_, rfl⟩
  rw [← hX2] at ha2
  have hlf2 : (form (nks.length : Nat)).length ≤ 10000 := by exact Nat.le_trans (form_len _) (by omega)
  have hl2 : X2.length ≤ (X1).length + 10000 := by rw [hX2, List.length_append]; omega
  have N2 := (show Hid _ from PkD.next N1.out ha2 fa2)
  have HX2 := (show Hid _ from hX2)
  clear n0 n1 n2 n3 n4 n5 N1 ha2 fa2 hX2 hlf2
  obtain ⟨⟨n0, n1, n2, n3, n4, n5⟩, _⟩ := six_at N2.out.2.2.1
  have lP2 := blk_lt N2.out.2.2.1
  by_cases e1 : nk = 1
  · subst e1
    have HE := (show Hid (X0 ++ nodeF nm (⟨1, nn, na, nt, np, nks⟩ : PNode) = X2) from (by rw [HX2.out, HX1.out]; simp [nodeF, restF] : X0 ++ nodeF nm (⟨1, nn, na, nt, np, nks⟩ : PNode) = X2))
    go_wp2
    go_end0
    rw [HE.out]
    exact ⟨rfl, N2.out.1, N2.out.2.1⟩
  by_cases e2 : nk = 2
  · subst e2
    go_wp2_with fail
    go_at_call 168
    refine Calls.mono (ipkName_any N2.out.1 (HTL.out.name (by simp)) (by have := hsn _ (HTL.out.name (by simp)); simp only at this; omega) (by omega) (by omega)) ?_
    rintro e wa3 ⟨rfl, ha3, fa3⟩
    obtain ⟨X3, hX3⟩ : ∃ X, X = X2 ++ form (fndS nm nn) := ⟨_, rfl⟩
    rw [← hX3] at ha3
    have hlf3 : (form (fndS nm nn)).length ≤ 10000 := by exact Nat.le_trans (form_len _) (by omega)
    have hl3 : X3.length ≤ (X2).length + 10000 := by rw [hX3, List.length_append]; omega
    have N3 := (show Hid _ from PkD.next N2.out ha3 fa3)
    have HX3 := (show Hid _ from hX3)
    clear n0 n1 n2 n3 n4 n5 N2 ha3 fa3 hX3 hlf3
    obtain ⟨⟨n0, n1, n2, n3, n4, n5⟩, _⟩ := six_at N3.out.2.2.1
    have lP3 := blk_lt N3.out.2.2.1
    have HE := (show Hid (X0 ++ nodeF nm (⟨2, nn, na, nt, np, nks⟩ : PNode) = X3) from (by rw [HX3.out, HX2.out, HX1.out]; simp [nodeF, restF] : X0 ++ nodeF nm (⟨2, nn, na, nt, np, nks⟩ : PNode) = X3))
    go_wp2
    go_end0
    rw [HE.out]
    exact ⟨rfl, N3.out.1, N3.out.2.1⟩
  by_cases e3 : nk = 3
  · subst e3
    go_wp2_with fail
    go_at_call 168
    refine Calls.mono (ipkName_any N2.out.1 (HTL.out.name (by simp)) (by have := hsn _ (HTL.out.name (by simp)); simp only at this; omega) (by omega) (by omega)) ?_
    rintro e wa3 ⟨rfl, ha3, fa3⟩
    obtain ⟨X3, hX3⟩ : ∃ X, X = X2 ++ form (fndS nm nn) := ⟨_, rfl⟩
    rw [← hX3] at ha3
    have hlf3 : (form (fndS nm nn)).length ≤ 10000 := by exact Nat.le_trans (form_len _) (by omega)
    have hl3 : X3.length ≤ (X2).length + 10000 := by rw [hX3, List.length_append]; omega
    have N3 := (show Hid _ from PkD.next N2.out ha3 fa3)
    have HX3 := (show Hid _ from hX3)
    clear n0 n1 n2 n3 n4 n5 N2 ha3 fa3 hX3 hlf3
    obtain ⟨⟨n0, n1, n2, n3, n4, n5⟩, _⟩ := six_at N3.out.2.2.1
    have lP3 := blk_lt N3.out.2.2.1
    go_wp2_with fail
    go_at_call 129
    refine Calls.mono (ipkNum_any N3.out.1 (na.length : Nat) (by omega) (by omega) (by omega)) ?_
    rintro e wa4 ⟨rfl, ha4, fa4⟩
    obtain ⟨X4, hX4⟩ : ∃ X, X = X3 ++ form (na.length : Nat) := ⟨_, rfl⟩
    rw [← hX4] at ha4
    have hlf4 : (form (na.length : Nat)).length ≤ 10000 := by exact Nat.le_trans (form_len _) (by omega)
    have hl4 : X4.length ≤ (X3).length + 10000 := by rw [hX4, List.length_append]; omega
    have N4 := (show Hid _ from PkD.next N3.out ha4 fa4)
    have HX4 := (show Hid _ from hX4)
    clear n0 n1 n2 n3 n4 n5 N3 ha4 fa4 hX4 hlf4
    obtain ⟨⟨n0, n1, n2, n3, n4, n5⟩, _⟩ := six_at N4.out.2.2.1
    have lP4 := blk_lt N4.out.2.2.1
    have M4 := (show Hid (PkD w0 w K N M nm w.heap.size #[.int .i64 3, .string nn, .slice y1 na.length y3, .string nt, .int .i64 np, .slice p1 nks.length p3] (X4 ++ (na.take 0).flatMap (attrF nm)) wa4) from (by rw [List.take_zero, List.flatMap_nil, List.append_nil]; exact N4.out : PkD w0 w K N M nm w.heap.size #[.int .i64 3, .string nn, .slice y1 na.length y3, .string nt, .int .i64 np, .slice p1 nks.length p3] (X4 ++ (na.take 0).flatMap (attrF nm)) wa4))
    clear N4
    go_upto_region 10 with fail
    clear n0 n1 n2 n3 n4 n5
    go_loopw [37] (fun i wx => ∃ (j : Nat), j ≤ na.length ∧ i = .int .i64 j ∧ Hid (PkD w0 w K N M nm w.heap.size #[.int .i64 3, .string nn, .slice y1 na.length y3, .string nt, .int .i64 np, .slice p1 nks.length p3] (X4 ++ (na.take j).flatMap (attrF nm)) wx)) (fun i _ => na.length - (intOf i).toNat)
    case atStart => exact ⟨0, Nat.zero_le _, rfl, M4⟩
    case round =>
      clear M4
      obtain ⟨j, hj, rfl, J⟩ := hrel
      have hla := attrsF_small (nm := nm) HSM.out j
      simp only at hla
      by_cases hjt : j < na.length
      · obtain ⟨bb, oo, rfl, l1, t1, t2⟩ := A3.out j hjt
        replace t1 := (J.out.1.2.1.cell (p := ⟨bb, oo + j * 2, none⟩) l1).trans t1
        replace t2 := (J.out.1.2.1.cell (p := ⟨bb, oo + j * 2 + 1, none⟩) l1).trans t2
        have lbb : bb < wr.heap.size := Nat.lt_of_lt_of_le l1 J.out.1.2.1.size
        have HTJ := (show Hid ((na.take (j + 1)).flatMap (attrF nm) = (na.take j).flatMap (attrF nm) ++ attrF nm na[j]) from (by rw [List.take_succ_eq_append_getElem hjt, List.flatMap_append, List.flatMap_singleton] : (na.take (j + 1)).flatMap (attrF nm) = (na.take j).flatMap (attrF nm) ++ attrF nm na[j]))
        have hpa := HTL.out.attrs (by simp) _ (List.getElem_mem hjt)
        have hsz := HSM.out.each _ (List.getElem_mem hjt)
        obtain ⟨p, hp⟩ : ∃ p, p = na[j] := ⟨_, rfl⟩
        rw [← hp] at t1 t2 HTJ
        have hpa' : na[j].1 ∈ nm := hpa.1
        have hsz' : attrOk na[j] = true := hsz
        clear hpa hsz
        rw [← hp] at hpa' hsz'
        obtain ⟨pa, pv⟩ := p
        unfold attrOk at hsz'
        simp only [Bool.and_eq_true, inB, decide_eq_true_eq] at hsz'
        simp only at hpa' t1 t2
        have hpv : pv.size ≤ 3000 := by omega
        have hpn : pa.size ≤ 3000 := by omega
        have HPA := (show Hid (pa ∈ nm) from hpa')
        have hji : (j : Int) < (na.length : Int) := by omega
        clear hp hsz' hpa' l1
        obtain ⟨X5, hX5⟩ : ∃ X5, X5 = X4 ++ (na.take j).flatMap (attrF nm) := ⟨_, rfl⟩
        have hl5 : X5.length ≤ X4.length + 60360 := by rw [hX5, List.length_append]; omega
        rw [← hX5] at J
        have HX5 := (show Hid _ from hX5)
        clear hX5 hla
        obtain ⟨w5, hw5⟩ : ∃ z, z = wr.alloc (.cells #[.string pa, .string pv] 115) := ⟨_, rfl⟩
        have N5 := (show Hid (PkD w0 w K N M nm w.heap.size #[.int .i64 3, .string nn, .slice (some ⟨bb, oo, none⟩) na.length y3, .string nt, .int .i64 np, .slice p1 nks.length p3] X5 w5) from (by rw [hw5]; exact PkD.box J.out _ : PkD w0 w K N M nm w.heap.size #[.int .i64 3, .string nn, .slice (some ⟨bb, oo, none⟩) na.length y3, .string nt, .int .i64 np, .slice p1 nks.length p3] X5 w5))
        have g5 : w5.heap[wr.heap.size]? = some (.cells #[.string pa, .string pv] 115 (0, 0)) := by rw [hw5]; exact World.alloc_heap_new _ _
        have hAK : wr.heap.size ≠ K := by have := PkI.lt J.out.1; omega
        have G5 := (show Hid _ from g5)
        obtain ⟨q0, q1, _, _⟩ := two_cells g5
        have lq := blk_lt g5
        obtain ⟨A, hA⟩ : ∃ A, A = wr.heap.size := ⟨_, rfl⟩
        rw [← hA] at q0 q1 G5 lq hAK
        clear g5 J
        go_upto_region 12 with fail
        rw [← hw5, ← hA]
        clear hw5 hA t1 t2 lbb
        go_wp2_with fail
        go_at_call 168
        refine Calls.mono (ipkName_any N5.out.1 HPA.out (by omega) (by omega) (by omega)) ?_
        rintro e w6 ⟨rfl, ha6, fa6⟩
        obtain ⟨X6, hX6⟩ : ∃ X, X = X5 ++ form (fndS nm pa) := ⟨_, rfl⟩
        rw [← hX6] at ha6
        have hl6 : X6.length ≤ X5.length + 9 := by have := form_len (fndS nm pa); rw [hX6, List.length_append]; omega
        have N6 := (show Hid _ from PkD.next N5.out ha6 fa6)
        have g6 := fa6.box G5.out (by decide) hAK
        have HX6 := (show Hid _ from hX6)
        clear q0 q1 N5 G5 ha6 fa6 hX6
        obtain ⟨q0, q1, _, _⟩ := two_cells g6
        have lq6 := blk_lt g6
        clear g6
        go_wp2_with fail
        go_at_call 130
        refine Calls.mono (ipkText_any N6.out.1 pv (by omega) (by omega)) ?_
        rintro e w7 ⟨rfl, ha7, fa7⟩
        have N7 := (show Hid _ from PkD.next N6.out ha7 fa7)
        clear q0 q1 N6 ha7 fa7
        have HE := (show Hid (X4 ++ (na.take (j + 1)).flatMap (attrF nm) = X6 ++ textForm pv) from (by rw [HTJ.out, ← List.append_assoc, ← HX5.out, HX6.out]; simp [attrF] : X4 ++ (na.take (j + 1)).flatMap (attrF nm) = X6 ++ textForm pv))
        go_wp2
        go_roundw
        case rel => exact ⟨j + 1, by omega, by go_num, by rw [HE.out]; exact N7.out⟩
        case measure => simp [intOf]; omega
      · obtain rfl : j = na.length := by omega
        have HE := (show Hid (X0 ++ nodeF nm (⟨3, nn, na, nt, np, nks⟩ : PNode) = X4 ++ (na.take na.length).flatMap (attrF nm)) from (by rw [HX4.out, HX3.out, HX2.out, HX1.out, List.take_length]; simp [nodeF, restF] : X0 ++ nodeF nm (⟨3, nn, na, nt, np, nks⟩ : PNode) = X4 ++ (na.take na.length).flatMap (attrF nm)))
        go_wp2
        go_end0
        rw [HE.out]
        exact ⟨rfl, J.out.1, J.out.2.1⟩
  by_cases e4 : nk = 4
  · subst e4
    go_wp2_with fail
    go_at_call 130
    refine Calls.mono (ipkText_any N2.out.1 nt (by have := HSM.out.tx; simp only at this; omega) (by omega)) ?_
    rintro e wa3 ⟨rfl, ha3, fa3⟩
    obtain ⟨X3, hX3⟩ : ∃ X, X = X2 ++ textForm nt := ⟨_, rfl⟩
    rw [← hX3] at ha3
    have hlf3 : (textForm nt).length ≤ 10000 := by have h := textForm_len nt; have h2 := HSM.out.tx; simp only at h2; omega
    have hl3 : X3.length ≤ (X2).length + 10000 := by rw [hX3, List.length_append]; omega
    have N3 := (show Hid _ from PkD.next N2.out ha3 fa3)
    have HX3 := (show Hid _ from hX3)
    clear n0 n1 n2 n3 n4 n5 N2 ha3 fa3 hX3 hlf3
    obtain ⟨⟨n0, n1, n2, n3, n4, n5⟩, _⟩ := six_at N3.out.2.2.1
    have lP3 := blk_lt N3.out.2.2.1
    have HE := (show Hid (X0 ++ nodeF nm (⟨4, nn, na, nt, np, nks⟩ : PNode) = X3) from (by rw [HX3.out, HX2.out, HX1.out]; simp [nodeF, restF] : X0 ++ nodeF nm (⟨4, nn, na, nt, np, nks⟩ : PNode) = X3))
    go_wp2
    go_end0
    rw [HE.out]
    exact ⟨rfl, N3.out.1, N3.out.2.1⟩
  obtain rfl : nk = 5 := by omega
  go_wp2_with fail
  go_at_call 130
  refine Calls.mono (ipkText_any N2.out.1 nt (by have := HSM.out.tx; simp only at this; omega) (by omega)) ?_
  rintro e wa3 ⟨rfl, ha3, fa3⟩
  obtain ⟨X3, hX3⟩ : ∃ X, X = X2 ++ textForm nt := ⟨_, rfl⟩
  rw [← hX3] at ha3
  have hlf3 : (textForm nt).length ≤ 10000 := by have h := textForm_len nt; have h2 := HSM.out.tx; simp only at h2; omega
  have hl3 : X3.length ≤ (X2).length + 10000 := by rw [hX3, List.length_append]; omega
  have N3 := (show Hid _ from PkD.next N2.out ha3 fa3)
  have HX3 := (show Hid _ from hX3)
  clear n0 n1 n2 n3 n4 n5 N2 ha3 fa3 hX3 hlf3
  obtain ⟨⟨n0, n1, n2, n3, n4, n5⟩, _⟩ := six_at N3.out.2.2.1
  have lP3 := blk_lt N3.out.2.2.1
  have HE := (show Hid (X0 ++ nodeF nm (⟨5, nn, na, nt, np, nks⟩ : PNode) = X3) from (by rw [HX3.out, HX2.out, HX1.out]; simp [nodeF, restF] : X0 ++ nodeF nm (⟨5, nn, na, nt, np, nks⟩ : PNode) = X3))
  go_wp2
  go_end0
  rw [HE.out]
  exact ⟨rfl, N3.out.1, N3.out.2.1⟩
end Go.Proofs.YtogdbjafibejdaaGreat
