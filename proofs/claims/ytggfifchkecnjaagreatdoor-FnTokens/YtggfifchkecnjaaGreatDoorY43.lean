/- Rows of tokens that the call itself made, while they are marked. No condition. -/
import Derived.Test.YtggfifchkecnjaaGreatDoorY40
import Derived.Test.YtggfifchkecnjaaGreatDoorY21
import Derived.Test.YtggfifchkecnjaaGreatDoorY6
import Derived.Test.YtggfifchkecnjaaGreatDoorY42
import Derived.Test.YtggfifchkecnjaaGreatDoorY33
import Derived.Test.YtggfifchkecnjaaGreatDoorY30
namespace Go.Proofs.YtggfifchkecnjaaGreatDoor
open Go.RowKit
set_option maxRecDepth 100000
set_option linter.unusedVariables false

theorem Sv.five {w : World} {v : Value} {qs : List (TokD × Value)} (h : Sv 5 w v (tokCells qs)) : ∃ a cap, v = .slice a qs.length cap ∧ qs.length ≤ cap ∧ cap ≤ maxLen ∧
    ∀ k (hk : k < qs.length), ∃ b off, a = some ⟨b, off, none⟩ ∧ b < w.heap.size ∧ w.cell? ⟨b, off + k * 5, none⟩ = some (.int .i64 qs[k].1.k) ∧ w.cell? ⟨b, off + k * 5 + 1, none⟩ = some (.string qs[k].1.nm) ∧ w.cell? ⟨b, off + k * 5 + 2, none⟩ = some qs[k].2 ∧ w.cell? ⟨b, off + k * 5 + 3, none⟩ = some (.string qs[k].1.tx) ∧ w.cell? ⟨b, off + k * 5 + 4, none⟩ = some (.bool qs[k].1.sf) := by
  obtain ⟨a, len, cap, rfl, h1, h2, h3, h4, hc⟩ := h
  have hl := tokCells_len qs
  have hlen : len = qs.length := by omega
  subst hlen
  refine ⟨a, cap, rfl, h2, h3, fun k hk => ?_⟩
  obtain ⟨b, off, rfl, c0⟩ := hc (k * 5) (by omega)
  have hlt : b < w.heap.size := by
    by_cases hlt : b < w.heap.size
    · exact hlt
    · exfalso; simp [World.cell?, Array.getElem?_eq_none (Nat.le_of_not_lt hlt)] at c0
  have key : ∀ j, j < 5 → w.cell? ⟨b, off + (k * 5 + j), none⟩ = some ((tokRow qs[k].1 qs[k].2).getD j undef) := by
    intro j hj
    obtain ⟨b', off', e, c⟩ := hc (k * 5 + j) (by omega)
    injection e with e
    cases e
    rw [tokCells_at qs k j hk hj] at c
    exact c
  exact ⟨b, off, rfl, hlt, key 0 (by decide), key 1 (by decide), key 2 (by decide), key 3 (by decide), key 4 (by decide)⟩
def ToksAt (w : World) (v : Value) (ts : List TokD) : Prop := ∃ a cap, v = .slice a ts.length cap ∧ ts.length ≤ cap ∧ cap ≤ maxLen ∧
    ∀ k (hk : k < ts.length), ∃ b off va, a = some ⟨b, off, none⟩ ∧ b < w.heap.size ∧ w.cell? ⟨b, off + k * 5, none⟩ = some (.int .i64 ts[k].k) ∧ w.cell? ⟨b, off + k * 5 + 1, none⟩ = some (.string ts[k].nm) ∧ w.cell? ⟨b, off + k * 5 + 2, none⟩ = some va ∧ w.cell? ⟨b, off + k * 5 + 3, none⟩ = some (.string ts[k].tx) ∧ w.cell? ⟨b, off + k * 5 + 4, none⟩ = some (.bool ts[k].sf) ∧ Sv 2 w va (pairCells ts[k].rs)
theorem OwnK.at {B : Nat} {w : World} {v : Value} {qs : List (TokD × Value)} (h : OwnK B w v qs) : ToksAt w v (qs.map fun q => q.1) := by
  obtain ⟨a, cap, rfl, h1, h2, hc⟩ := (sv_of_own h.row).five
  refine ⟨a, cap, by rw [List.length_map], by rw [List.length_map]; exact h1, h2, fun k hk => ?_⟩
  have hk' : k < qs.length := by simpa using hk
  obtain ⟨b, off, rfl, hl, c0, c1, c2, c3, c4⟩ := hc k hk'
  rw [List.getElem_map]
  exact ⟨b, off, _, rfl, hl, c0, c1, c2, c3, c4, sv_of_own (h.each _ (List.getElem_mem hk'))⟩
theorem ToksAt.below {w w' : World} {v : Value} {ts : List TokD} (h : ToksAt w v ts) (b : Below w.heap.size w w') : ToksAt w' v ts := by
  obtain ⟨a, cap, rfl, h1, h2, hc⟩ := h
  refine ⟨a, cap, rfl, h1, h2, fun k hk => ?_⟩
  obtain ⟨g, off, va, rfl, hl, c0, c1, c2, c3, c4, c5⟩ := hc k hk
  exact ⟨g, off, va, rfl, Nat.lt_of_lt_of_le hl b.size, (b.cell (p := ⟨g, _, none⟩) hl).trans c0, (b.cell (p := ⟨g, _, none⟩) hl).trans c1, (b.cell (p := ⟨g, _, none⟩) hl).trans c2, (b.cell (p := ⟨g, _, none⟩) hl).trans c3, (b.cell (p := ⟨g, _, none⟩) hl).trans c4, c5.below b⟩

theorem tokCells_set (A D : List (TokD × Value)) {p p' : TokD × Value} {j : Nat} (hj : j < 5) {u : Value} (h : tokRow p'.1 p'.2 = (tokRow p.1 p.2).set j u) : (tokCells (A ++ p :: D)).set (A.length * 5 + j) u = tokCells (A ++ p' :: D) := by
  have e : ∀ q : TokD × Value, tokCells (A ++ q :: D) = tokCells A ++ (tokRow q.1 q.2 ++ tokCells D) := fun q => by simp [tokCells]
  have hl : (tokRow p.1 p.2).length = 5 := rfl
  rw [e p, e p', h, List.set_append_right _ _ (by rw [tokCells_len]; omega), tokCells_len, show A.length * 5 + j - A.length * 5 = j by omega, List.set_append_left _ _ (by omega)]
theorem OwnK.cell {B g n cap : Nat} {w : World} {A D : List (TokD × Value)} {p p' : TokD × Value} (h : OwnK B w (.slice (some ⟨g, 0, none⟩) n cap) (A ++ p :: D)) {j : Nat} (hj : j < 5) {u : Value} (hp : tokRow p'.1 p'.2 = (tokRow p.1 p.2).set j u) (h1 : p'.1.rs = p.1.rs) (h2 : p'.2 = p.2) :
    OwnK B (w.setCell ⟨g, A.length * 5 + j, none⟩ u) (.slice (some ⟨g, 0, none⟩) n cap) (A ++ p' :: D) ∧ w.grownBy (w.setCell ⟨g, A.length * 5 + j, none⟩ u) (some g) := by
  have hn : n = (A ++ p :: D).length := by
    obtain ⟨_, ⟨e, _⟩ | ⟨g', c', cu', e, _⟩⟩ := h.row
    · cases e
    · injection e
  subst hn
  have hst := World.ownsRow.stored h.row (A.length * 5 + j) u
  rw [tokCells_set A D hj hp] at hst
  have key : ∀ {va : Value} {n : Nat} {xs : List Value}, w.ownsRow B 81 2 va n xs → (w.setCell ⟨g, A.length * 5 + j, none⟩ u).ownsRow B 81 2 va n xs := fun h' => kept_kind h' hst.2 (fun r e => by
    obtain ⟨cs, fr, hh⟩ := row_kind h.row e
    exact ⟨cs, _, fr, hh, by decide⟩)
  have hlen : (A ++ p' :: D).length = (A ++ p :: D).length := by simp
  refine ⟨⟨by rw [hlen]; exact hst.1, fun q hq => ?_⟩, hst.2⟩
  rcases List.mem_append.mp hq with hq | hq
  · exact key (h.each q (List.mem_append_left _ hq))
  · rcases List.mem_cons.mp hq with rfl | hq
    · rw [h1, h2]; exact key (h.each p (List.mem_append_right _ (List.mem_cons_self ..)))
    · exact key (h.each q (List.mem_append_right _ (List.mem_cons_of_mem _ hq)))
theorem apartK_map {ps qs : List (TokD × Value)} (e : ps.map (fun q => q.2) = qs.map (fun q => q.2)) (h : ApartK qs) : ApartK ps := by
  have hl : ps.length = qs.length := by have := congrArg List.length e; simpa using this
  have key : ∀ i (hi : i < ps.length) (hi' : i < qs.length), ps[i].2 = qs[i].2 := by
    intro i hi hi'
    have h1 : (ps.map (fun q => q.2))[i]? = (qs.map (fun q => q.2))[i]? := by rw [e]
    simpa [hi, hi'] using h1
  intro i j hi hj r e1 e2
  exact h i j (by omega) (by omega) r (by rw [← key i hi]; exact e1) (by rw [← key j hj]; exact e2)
theorem OwnK.attrs {B : Nat} {w w' : World} {v : Value} {A D : List (TokD × Value)} {p : TokD × Value} (h : OwnK B w v (A ++ p :: D)) (ap : ApartK (A ++ p :: D)) {rs : List (ByteArray × ByteArray)} (hg : w.grownBy w' p.2.ownBlock)
    (ho : w'.ownsRow B 81 2 p.2 rs.length (pairCells rs)) : OwnK B w' v (A ++ (⟨p.1.k, p.1.nm, rs, p.1.tx, p.1.sf⟩, p.2) :: D) := by
  have hat : (A ++ p :: D)[A.length]'(by simp) = p := by simp
  have hty : ∀ r, p.2.ownBlock = some r → ∃ cs fr, w.heap[r]? = some (.cells cs 81 fr) := fun r e => row_kind (h.each p (by simp)) e
  have ecell : tokCells (A ++ (⟨p.1.k, p.1.nm, rs, p.1.tx, p.1.sf⟩, p.2) :: D) = tokCells (A ++ p :: D) := by simp [tokCells, tokRow]
  have hlen : (A ++ (⟨p.1.k, p.1.nm, rs, p.1.tx, p.1.sf⟩, p.2) :: D).length = (A ++ p :: D).length := by simp
  have other : ∀ i (hi : i < (A ++ p :: D).length), i ≠ A.length → w'.ownsRow B 81 2 ((A ++ p :: D)[i]).2 ((A ++ p :: D)[i]).1.rs.length (pairCells ((A ++ p :: D)[i]).1.rs) := fun i hi hne =>
    World.ownsRow.kept (h.each _ (List.getElem_mem hi)) hg (by
      cases e : ((A ++ p :: D)[i]).2.ownBlock with
      | none => exact .inl rfl
      | some r => exact .inr (fun e' => hne (ap i A.length hi (by simp) r e (by rw [hat]; exact e'.symm))))
  refine ⟨by rw [ecell, hlen]; exact kept_kind h.row hg (fun r e => by obtain ⟨cs, fr, hh⟩ := hty r e; exact ⟨_, _, _, hh, by decide⟩), fun q hq => ?_⟩
  rcases List.mem_append.mp hq with hq | hq
  · obtain ⟨i, hi, rfl⟩ := List.getElem_of_mem hq
    have := other i (by rw [List.length_append]; omega) (by omega)
    rw [List.getElem_append_left hi] at this
    exact this
  · rcases List.mem_cons.mp hq with rfl | hq
    · exact ho
    · obtain ⟨i, hi, rfl⟩ := List.getElem_of_mem hq
      have := other (A.length + 1 + i) (by simp; omega) (by omega)
      rw [List.getElem_append_right (by omega)] at this
      simpa [show A.length + 1 + i - A.length = i + 1 by omega] using this

structure MkFk (B : Nat) (w w' : World) : Prop where
  os : w'.os = w.os
  tape : w'.tape = w.tape
  output : w'.output = w.output
  size : w.heap.size ≤ w'.heap.size
  block : ∀ i, i < w.heap.size → i < B → w'.heap[i]? = w.heap[i]?
theorem MkFk.refl (B : Nat) (w : World) : MkFk B w w := ⟨rfl, rfl, rfl, Nat.le_refl _, fun _ _ _ => rfl⟩
theorem MkFk.trans {B : Nat} {a b c : World} (h : MkFk B a b) (k : MkFk B b c) : MkFk B a c :=
  ⟨k.os.trans h.os, k.tape.trans h.tape, k.output.trans h.output, Nat.le_trans h.size k.size, fun i hi hc => (k.block i (Nat.lt_of_lt_of_le hi h.size) hc).trans (h.block i hi hc)⟩
theorem MkFk.of_below {B : Nat} {w w' : World} (h : Below w.heap.size w w') : MkFk B w w' := ⟨h.os, h.tape, h.output, h.size, fun i hi _ => h.block i hi⟩
theorem MkFk.of_own {B e size n : Nat} {w w' : World} {v : Value} {xs : List Value} (o : w.ownsRow B e size v n xs) (h : w.grownBy w' v.ownBlock) : MkFk B w w' :=
  ⟨h.os, h.tape, h.output, h.size, fun i hi hc => h.block i hi (fun e => by have := (World.ownsRow.lt o i e.symm).1; omega)⟩
theorem MkFk.row {A B e size n : Nat} {w w' : World} {v : Value} {xs : List Value} (f : MkFk B w w') (h : w.ownsRow A e size v n xs) (hlt : ∀ r, v.ownBlock = some r → r < B) : w'.ownsRow A e size v n xs := by
  obtain ⟨hl, hz | ⟨g, cap, cur, hv, hB, hh, rest⟩⟩ := h
  · exact ⟨hl, .inl hz⟩
  · have hg : g < w.heap.size := lt_of_block hh
    exact ⟨hl, .inr ⟨g, cap, cur, hv, hB, (f.block g hg (hlt g (by rw [hv]; rfl))).trans hh, rest⟩⟩
theorem MkFk.below {B : Nat} {w w' : World} (f : MkFk B w w') {A : Nat} (hA : A ≤ B) {w0 : World} (h : Below A w0 w) (h0 : A ≤ w0.heap.size) (hs : A ≤ w.heap.size) : Below A w0 w' :=
  ⟨f.os.trans h.os, f.tape.trans h.tape, f.output.trans h.output, by have := f.size; have := h.size; omega, fun i hi => (f.block i (by omega) (by omega)).trans (h.block i hi)⟩
def mkK (r : Int) (t : TokD) : TokD := ⟨r, mt (r + 1), markPairs (r + 1 + 1) t.rs.length, mt (r + 1 + 1 + 2 * t.rs.length), (r + 1 + 1 + 2 * t.rs.length + 1) % 3 == 0⟩
def advK (t : TokD) : Int := 4 + 2 * t.rs.length
def advKs (ts : List TokD) : Int := (ts.map advK).sum
theorem advKs_cons (t : TokD) (ts : List TokD) : advKs (t :: ts) = advK t + advKs ts := by simp [advKs]
end Go.Proofs.YtggfifchkecnjaaGreatDoor

/- The library's CutSuffix, and the program's withoutTornEnd. No condition. -/
namespace Go.Proofs.YtggfifchkecnjaaGreatDoor
open Go.RowKit
set_option maxRecDepth 100000
set_option linter.unusedVariables false

theorem suf_extract {s e : ByteArray} : bs e <:+ bs s ↔ e.size ≤ s.size ∧ s.extract (s.size - e.size) s.size = e := by
  have h1 := bs_len s
  have h2 := bs_len e
  constructor
  · rintro ⟨t, ht⟩
    have hl := congrArg List.length ht
    rw [List.length_append, h1, h2] at hl
    refine ⟨by omega, ?_⟩
    have hb : bs (s.extract (s.size - e.size) s.size) = bs e := by
      rw [bs_extract, ← ht, List.drop_append_of_le_length (by omega), List.drop_eq_nil_of_le (by omega), List.nil_append, show s.size - (s.size - e.size) = (bs e).length by omega, List.take_length]
    have := congrArg strOf hb
    rwa [strOf_bs, strOf_bs] at this
  · rintro ⟨h3, h4⟩
    refine ⟨(bs s).take (s.size - e.size), ?_⟩
    have hb := congrArg bs h4
    rw [bs_extract, show s.size - (s.size - e.size) = e.size by omega] at hb
    have h5 : (bs s).drop (s.size - e.size) = bs e := by
      rw [← hb]
      exact (List.take_of_length_le (by rw [List.length_drop]; omega)).symm
    rw [← h5]
    exact List.take_append_drop _ _
theorem hasSuffix_any (s e : ByteArray) (w : World) (hs : s.size ≤ 1099511627776) (he : e.size ≤ 1099511627776) :
    Calls Tryz.prog 157 #[.string s, .string e] w fun r w' => ∃ b, r = .returned (.bool b) ∧ (b = true ↔ bs e <:+ bs s) ∧ w' = w := by
  by_cases h : e.size ≤ s.size
  · obtain ⟨d, hd⟩ : ∃ d, d = s.size - e.size := ⟨_, rfl⟩
    have hsub : (s.size : Int) - (e.size : Int) = (d : Int) := by omega
    have hw : IntKind.i64.wrap (d : Int) = (d : Int) := wrap_fit (by omega) (by omega)
    have hds : d ≤ s.size := by omega
    have hsuf := suf_extract (s := s) (e := e)
    rw [← hd] at hsuf
    obtain ⟨u, hu⟩ : ∃ u, u = s.extract d s.size := ⟨_, rfl⟩
    rw [← hu] at hsuf
    have HU := hu.symm
    clear hd hu
    by_cases hue : u = e
    · have hb : bs e <:+ bs s := hsuf.mpr ⟨h, hue⟩
      have HB := (show Hid _ from hb)
      subst hue
      clear hsuf hb
      go_enter Tryz.func157, Tryz.ntmps157
      go_wp2
      go_ret
      exact ⟨true, rfl, ⟨fun _ => HB.out, fun _ => rfl⟩, rfl⟩
    · have hb : ¬ bs e <:+ bs s := fun hh => hue (hsuf.mp hh).2
      have HB := (show Hid _ from hb)
      have hne := toList_ne hue
      clear hsuf hb
      go_enter Tryz.func157, Tryz.ntmps157
      go_wp2
      go_ret
      exact ⟨false, rfl, ⟨fun hh => absurd hh (by decide), fun hh => absurd hh HB.out⟩, rfl⟩
  · have hb : ¬ bs e <:+ bs s := fun hh => h (suf_extract.mp hh).1
    have HB := (show Hid _ from hb)
    clear hb
    go_enter Tryz.func157, Tryz.ntmps157
    go_wp2
    go_ret
    exact ⟨false, rfl, ⟨fun hh => absurd hh (by decide), fun hh => absurd hh HB.out⟩, rfl⟩
def cutSuf (s e : ByteArray) (r : Ending) : Prop := (bs e <:+ bs s ∧ r = .returned (.tuple #[.string (s.extract 0 (s.size - e.size)), .bool true])) ∨ (¬ bs e <:+ bs s ∧ r = .returned (.tuple #[.string s, .bool false]))
theorem cutSuffix0_any (s e : ByteArray) (w : World) (hs : s.size ≤ 1099511627776) (he : e.size ≤ 1099511627776) :
    Calls Tryz.prog 154 #[.string s, .string e] w fun r w' => cutSuf s e r ∧ w' = w := by
  have ch := hasSuffix_any s e w hs he
  go_enter Tryz.func154, Tryz.ntmps154
  go_wp2_with fail
  go_at_call 157
  refine ch.mono ?_
  rintro r w2 ⟨b, rfl, hb, rfl⟩
  clear ch
  cases b
  · have HB := (show Hid (¬ bs e <:+ bs s) from fun hh => by have := hb.mpr hh; cases this)
    clear hb
    go_wp2
    go_ret2
    exact ⟨.inr ⟨HB.out, rfl⟩, rfl⟩
  · have HB := (show Hid (bs e <:+ bs s) from hb.mp rfl)
    have hle := (suf_extract.mp (hb.mp rfl)).1
    obtain ⟨d, hd⟩ : ∃ d, d = s.size - e.size := ⟨_, rfl⟩
    have hsub : (s.size : Int) - (e.size : Int) = (d : Int) := by omega
    have hw : IntKind.i64.wrap (d : Int) = (d : Int) := wrap_fit (by omega) (by omega)
    have hds : d ≤ s.size := by omega
    have HD := (show Hid (d = s.size - e.size) from hd)
    clear hb hd
    go_wp2
    go_ret2
    exact ⟨.inl ⟨HB.out, by rw [← HD.out]; rfl⟩, rfl⟩
theorem cutSuffix_any (s e : ByteArray) (w : World) (hs : s.size ≤ 1099511627776) (he : e.size ≤ 1099511627776) :
    Calls Tryz.prog 148 #[.string s, .string e] w fun r w' => cutSuf s e r ∧ w' = w := by
  have ch := cutSuffix0_any s e w hs he
  go_enter Tryz.func148, Tryz.ntmps148
  go_wp2_with fail
  go_at_call 154
  refine ch.mono ?_
  rintro r w2 ⟨hc, rfl⟩
  clear ch
  rcases hc with ⟨h1, rfl⟩ | ⟨h1, rfl⟩
  · have HB := (show Hid _ from h1)
    clear h1
    go_wp2
    go_ret2
    exact ⟨.inl ⟨HB.out, rfl⟩, rfl⟩
  · have HB := (show Hid _ from h1)
    clear h1
    go_wp2
    go_ret2
    exact ⟨.inr ⟨HB.out, rfl⟩, rfl⟩
theorem cut_str (t : ByteArray) (n : Nat) : t.extract 0 (t.size - n) = strOf ((bs t).take ((bs t).length - n)) := by
  have h : bs (t.extract 0 (t.size - n)) = (bs t).take ((bs t).length - n) := by
    rw [bs_extract, bs_len, List.drop_zero, Nat.sub_zero]
  rw [← h, strOf_bs]

set_option maxHeartbeats 2000000 in
theorem withoutTornEnd_any (t : ByteArray) (w : World) (ht : t.size ≤ 1099511627776) :
    Calls Tryz.prog 136 #[.string t] w fun e w' => e = .returned (.string (strOf (tornL (bs t)))) ∧ w' = w := by
  have ix0 : ∀ w, (Instr.index 133 (.agg #[.string ⟨#[45, 45, 33]⟩, .string ⟨#[45, 45]⟩, .string ⟨#[45]⟩]) (.int .i64 0)).run Tryz.prog w = .ok (.string ⟨#[45, 45, 33]⟩) w := fun _ => by kernel_rfl
  have ix1 : ∀ w, (Instr.index 133 (.agg #[.string ⟨#[45, 45, 33]⟩, .string ⟨#[45, 45]⟩, .string ⟨#[45]⟩]) (.int .i64 1)).run Tryz.prog w = .ok (.string ⟨#[45, 45]⟩) w := fun _ => by kernel_rfl
  have ix2 : ∀ w, (Instr.index 133 (.agg #[.string ⟨#[45, 45, 33]⟩, .string ⟨#[45, 45]⟩, .string ⟨#[45]⟩]) (.int .i64 2)).run Tryz.prog w = .ok (.string ⟨#[45]⟩) w := fun _ => by kernel_rfl
  have C0 := (show Hid (∀ w, Calls Tryz.prog 148 #[.string t, .string ⟨#[45, 45, 33]⟩] w fun r w' => (([45, 45, 33] <:+ bs t ∧ r = .returned (.tuple #[.string (strOf ((bs t).take ((bs t).length - 3))), .bool true])) ∨ (¬ [45, 45, 33] <:+ bs t ∧ r = .returned (.tuple #[.string t, .bool false]))) ∧ w' = w) from fun w => by
    have := cutSuffix_any t ⟨#[45, 45, 33]⟩ w ht (by decide)
    unfold cutSuf at this
    rw [show (⟨#[45, 45, 33]⟩ : ByteArray).size = 3 from rfl, cut_str] at this
    exact this)
  have C1 := (show Hid (∀ w, Calls Tryz.prog 148 #[.string t, .string ⟨#[45, 45]⟩] w fun r w' => (([45, 45] <:+ bs t ∧ r = .returned (.tuple #[.string (strOf ((bs t).take ((bs t).length - 2))), .bool true])) ∨ (¬ [45, 45] <:+ bs t ∧ r = .returned (.tuple #[.string t, .bool false]))) ∧ w' = w) from fun w => by
    have := cutSuffix_any t ⟨#[45, 45]⟩ w ht (by decide)
    unfold cutSuf at this
    rw [show (⟨#[45, 45]⟩ : ByteArray).size = 2 from rfl, cut_str] at this
    exact this)
  have C2 := (show Hid (∀ w, Calls Tryz.prog 148 #[.string t, .string ⟨#[45]⟩] w fun r w' => (([45] <:+ bs t ∧ r = .returned (.tuple #[.string (strOf ((bs t).take ((bs t).length - 1))), .bool true])) ∨ (¬ [45] <:+ bs t ∧ r = .returned (.tuple #[.string t, .bool false]))) ∧ w' = w) from fun w => by
    have := cutSuffix_any t ⟨#[45]⟩ w ht (by decide)
    unfold cutSuf at this
    rw [show (⟨#[45]⟩ : ByteArray).size = 1 from rfl, cut_str] at this
    exact this)
  obtain ⟨res, hres⟩ : ∃ z, z = strOf (tornL (bs t)) := ⟨_, rfl⟩
  rw [← hres]
  have HR := (show Hid (res = strOf (tornL (bs t))) from hres)
  clear hres
  go_enter Tryz.func136, Tryz.ntmps136
  go_wp2_with fail
  go_loop [8] (fun u => ∃ k : Nat, k ≤ 3 ∧ u = .int .i64 k ∧ Hid ((1 ≤ k → ¬ [45, 45, 33] <:+ bs t) ∧ (2 ≤ k → ¬ [45, 45] <:+ bs t) ∧ (3 ≤ k → ¬ [45] <:+ bs t))) (fun u => 3 - (intOf u).toNat)
  case atStart => exact ⟨0, by omega, rfl, fun h => by omega, fun h => by omega, fun h => by omega⟩
  case round =>
    obtain ⟨k, hk, rfl, I⟩ := hrel
    rcases (show k = 0 ∨ k = 1 ∨ k = 2 ∨ k = 3 by omega) with rfl | rfl | rfl | rfl
    · go_wp2_with fail
      go_at_call 148
      refine (C0.out _).mono ?_
      rintro e w2 ⟨⟨h1, rfl⟩ | ⟨h1, rfl⟩, rfl⟩
      · have HX := (show Hid (res = strOf ((bs t).take ((bs t).length - 3))) from (show _ = _ by rw [HR.out, tornL, if_pos h1]))
        rw [← HX.out]
        clear h1
        go_wp2
        go_ret
        exact ⟨rfl, rfl⟩
      · have HN := (show Hid _ from h1)
        clear h1
        go_wp2
        go_round
        case rel => exact ⟨1, by omega, by go_num, fun _ => HN.out, fun h => by omega, fun h => by omega⟩
        case measure => simp [intOf]
    · go_wp2_with fail
      go_at_call 148
      refine (C1.out _).mono ?_
      rintro e w2 ⟨⟨h1, rfl⟩ | ⟨h1, rfl⟩, rfl⟩
      · have HX := (show Hid (res = strOf ((bs t).take ((bs t).length - 2))) from (show _ = _ by rw [HR.out, tornL, if_neg (I.out.1 (by omega)), if_pos h1]))
        rw [← HX.out]
        clear h1
        go_wp2
        go_ret
        exact ⟨rfl, rfl⟩
      · have HN := (show Hid _ from h1)
        clear h1
        go_wp2
        go_round
        case rel => exact ⟨2, by omega, by go_num, fun _ => I.out.1 (by omega), fun _ => HN.out, fun h => by omega⟩
        case measure => simp [intOf]
    · go_wp2_with fail
      go_at_call 148
      refine (C2.out _).mono ?_
      rintro e w2 ⟨⟨h1, rfl⟩ | ⟨h1, rfl⟩, rfl⟩
      · have HX := (show Hid (res = strOf ((bs t).take ((bs t).length - 1))) from (show _ = _ by rw [HR.out, tornL, if_neg (I.out.1 (by omega)), if_neg (I.out.2.1 (by omega)), if_pos h1]))
        rw [← HX.out]
        clear h1
        go_wp2
        go_ret
        exact ⟨rfl, rfl⟩
      · have HN := (show Hid _ from h1)
        clear h1
        go_wp2
        go_round
        case rel => exact ⟨3, by omega, by go_num, fun _ => I.out.1 (by omega), fun _ => I.out.2.1 (by omega), fun _ => HN.out⟩
        case measure => simp [intOf]
    · have HX := (show Hid (res = t) from (show _ = _ by rw [HR.out, tornL, if_neg (I.out.1 (by omega)), if_neg (I.out.2.1 (by omega)), if_neg (I.out.2.2 (by omega)), strOf_bs]))
      go_wp2
      go_ret
      exact ⟨by rw [HX.out]; rfl, rfl⟩
end Go.Proofs.YtggfifchkecnjaaGreatDoor

/- The laws' helper that marks a row of tokens. No condition. -/
namespace Go.Proofs.YtggfifchkecnjaaGreatDoor
open Go.RowKit
set_option maxRecDepth 100000
set_option linter.unusedVariables false

structure MkTk (B : Nat) (w : World) (g n cap : Nat) (A : List (TokD × Value)) (p : TokD × Value) (D : List (TokD × Value)) (W : World) : Prop where
  own : OwnK B W (.slice (some ⟨g, 0, none⟩) n cap) (A ++ p :: D)
  ap : ApartK (A ++ p :: D)
  fr : MkFk B w W
theorem MkTk.below {B g n cap : Nat} {w W W' : World} {A D : List (TokD × Value)} {p : TokD × Value} (h : MkTk B w g n cap A p D W) (b : Below W.heap.size W W') : MkTk B w g n cap A p D W' := ⟨h.own.below b, h.ap, h.fr.trans (.of_below b)⟩
theorem MkTk.cell {B g n cap : Nat} {w W : World} {A D : List (TokD × Value)} {p p' : TokD × Value} (h : MkTk B w g n cap A p D W) {j : Nat} (hj : j < 5) {u : Value} (hp : tokRow p'.1 p'.2 = (tokRow p.1 p.2).set j u) (h1 : p'.1.rs = p.1.rs) (h2 : p'.2 = p.2) :
    MkTk B w g n cap A p' D (W.setCell ⟨g, A.length * 5 + j, none⟩ u) := by
  obtain ⟨o, gr⟩ := h.own.cell hj hp h1 h2
  exact ⟨o, apartK_map (by simp [h2]) h.ap, h.fr.trans (.of_own h.own.row gr)⟩
theorem MkTk.attrs {B g n cap : Nat} {w W W' : World} {A D : List (TokD × Value)} {p : TokD × Value} (h : MkTk B w g n cap A p D W) {rs : List (ByteArray × ByteArray)} (hg : W.grownBy W' p.2.ownBlock)
    (ho : W'.ownsRow B 81 2 p.2 rs.length (pairCells rs)) : MkTk B w g n cap A (⟨p.1.k, p.1.nm, rs, p.1.tx, p.1.sf⟩, p.2) D W' :=
  ⟨h.own.attrs h.ap hg ho, apartK_map (by simp) h.ap, h.fr.trans (.of_own (h.own.each p (by simp)) hg)⟩
theorem MkTk.at {B g n cap : Nat} {w W : World} {A D : List (TokD × Value)} {p : TokD × Value} (h : MkTk B w g n cap A p D W) {k : Nat} (hk : A.length = k) :
    W.cell? ⟨g, k * 5, none⟩ = some (.int .i64 p.1.k) ∧ W.cell? ⟨g, k * 5 + 1, none⟩ = some (.string p.1.nm) ∧ W.cell? ⟨g, k * 5 + 2, none⟩ = some p.2 ∧ W.cell? ⟨g, k * 5 + 3, none⟩ = some (.string p.1.tx) ∧ W.cell? ⟨g, k * 5 + 4, none⟩ = some (.bool p.1.sf) ∧ ∀ j, W.frozen? ⟨g, j, none⟩ = false := by
  subst hk
  have hn : n = (A ++ p :: D).length := by
    obtain ⟨_, ⟨e, _⟩ | ⟨g', c', cu', e, _⟩⟩ := h.own.row
    · cases e
    · injection e
  subst hn
  have hlt : A.length < (A ++ p :: D).length := by simp
  have hat : (A ++ p :: D)[A.length]'hlt = p := by simp
  have key : ∀ j, j < 5 → W.cell? ⟨g, A.length * 5 + j, none⟩ = some ((tokRow p.1 p.2).getD j undef) := by
    intro j hj
    have hl := tokCells_len (A ++ p :: D)
    have hi : A.length * 5 + j < (tokCells (A ++ p :: D)).length := by rw [hl, List.length_append, List.length_cons]; omega
    have c := h.own.row.cellAt (A.length * 5 + j) (by omega)
    rw [c]
    have e := tokCells_at (A ++ p :: D) A.length j hlt hj
    rw [List.getD_eq_getElem?_getD, List.getElem?_eq_getElem hi] at e
    rw [List.getElem?_eq_getElem hi]
    rw [hat] at e
    simpa using e
  exact ⟨key 0 (by decide), key 1 (by decide), key 2 (by decide), key 3 (by decide), key 4 (by decide), fun j => h.own.row.frozenAt j⟩

end Go.Proofs.YtggfifchkecnjaaGreatDoor

/- References and comments of the program's cutter (written by mk/icutk.py). No condition. -/
namespace Go.Proofs.YtggfifchkecnjaaGreatDoor
open Go.RowKit
set_option maxRecDepth 100000
set_option linter.unusedVariables false

theorem lowT_com : LowT ⟨#[45, 45, 62]⟩ := ⟨by decide, by decide⟩
theorem lowT_bang : LowT ⟨#[45, 45, 33, 62]⟩ := ⟨by decide, by decide⟩
theorem lowT_4562 : LowT ⟨#[45, 62]⟩ := ⟨by decide, by decide⟩
theorem standsLow_plain {l : List Int} (h : ∀ c ∈ l, ¬ (97 ≤ c ∧ c ≤ 122) ∧ ¬ (65 ≤ c ∧ c ≤ 90)) (xs : List Int) (k : Nat) : standsLow xs k l = stands xs k l := by
  unfold standsLow stands
  rw [Bool.eq_iff_iff, List.all_eq_true, List.all_eq_true]
  have key : ∀ i ∈ List.range l.length, (lowerOf (atL xs (k + i)) == l.getD i 0) = (atL xs (k + i) == l.getD i 0) := by
    intro i hi
    have hi' := List.mem_range.mp hi
    have e : l.getD i 0 = l[i] := by simp [List.getD_eq_getElem?_getD, hi']
    obtain ⟨h1, h2⟩ := h _ (List.getElem_mem hi')
    rw [e, Bool.eq_iff_iff, beq_iff_eq, beq_iff_eq]
    exact lowerOf_eq h1 h2
  constructor
  · intro H i hi; rw [← key i hi]; exact H i hi
  · intro H i hi; rw [key i hi]; exact H i hi
theorem st_com (xs : List Int) (k : Nat) : standsLow xs k (bs ⟨#[45, 45, 62]⟩) = stands xs k [45, 45, 62] := standsLow_plain (by decide) xs k
theorem st_bang (xs : List Int) (k : Nat) : standsLow xs k (bs ⟨#[45, 45, 33, 62]⟩) = stands xs k [45, 45, 33, 62] := standsLow_plain (by decide) xs k
theorem st_4562 (xs : List Int) (k : Nat) : standsLow xs k (bs ⟨#[45, 62]⟩) = stands xs k [45, 62] := standsLow_plain (by decide) xs k
theorem st_62s (xs : List Int) (k : Nat) : standsLow xs k (bs ⟨#[62]⟩) = stands xs k [62] := standsLow_plain (by decide) xs k

set_option maxHeartbeats 1000000 in
theorem commentText_any {w0 : World} {g : Nat} {v : Value} {xs : List Int} {i : Nat} {w : World} (h : Cut w0 g v xs i w) (hy : ∀ y ∈ xs, pointOk y = true) (s : ByteArray) :
    Calls Tryz.prog 122 #[cutVal v g s] w fun e w' => e = .returned (.string (comV xs i i).1) ∧ Cut w0 g v xs (comV xs i i).2 w' ∧ w.grownBy w' (some g) := by
  have hxl := h.2.2.2.1.1
  have hil := h.2.2.2.1.2
  obtain ⟨a, ca, rfl, hca, hcm, _, _⟩ := h.sl
  have hcb := cb_new (s := s) h
  obtain ⟨w1, hw1⟩ : ∃ z, z = w.alloc (.cells #[.slice a xs.length ca, .pointer (some ⟨g, 0, none⟩), .string s] 47) := ⟨_, rfl⟩
  rw [← hw1] at hcb
  have HCB := (show Hid (CB w0 g (.slice a xs.length ca) xs s w i w1) from hcb)
  have HY := (show Hid (∀ y ∈ xs, pointOk y = true) from hy)
  obtain ⟨cM, hcM⟩ : ∃ z, z = comV xs i i := ⟨_, rfl⟩
  rw [← hcM]
  have HCM := (show Hid (comV xs i i = cM) from hcM.symm)
  clear hcb h hy hcM
  obtain ⟨c0, c1, c2⟩ := HCB.out.cells
  obtain ⟨cg, fg⟩ := HCB.out.cut.cell
  unfold cutVal
  go_enter Tryz.func122, Tryz.ntmps122
  go_upto_region 1 with fail
  rw [← hw1]
  clear hw1
  go_wp2_with fail
  clear c0 c1 c2 cg fg
  go_loopw [] (fun wr => ∃ k : Nat, i ≤ k ∧ k ≤ xs.length ∧ Hid (CB w0 g (.slice a xs.length ca) xs s w k wr ∧ comV xs i k = cM)) (fun wr => xs.length - plc wr g)
  case atStart => exact ⟨i, Nat.le_refl _, hil, HCB.out, HCM.out⟩
  case round =>
    clear HCB
    obtain ⟨k, hk0, hk1, I⟩ := hrel
    have cb := (show Hid _ from I.out.1)
    have HV := (show Hid (comV xs i k = cM) from I.out.2)
    have MP := (show Hid (plc wr g = k) from cb.out.plc)
    clear I
    obtain ⟨c0, c1, c2⟩ := cb.out.cells
    go_wp2_with fail
    go_at_call 108
    refine (ahead_cb cb.out 0 0 rfl (by omega)).mono ?_
    rintro e w2 ⟨rfl, b2⟩
    rw [Nat.add_zero]
    have cb2 := (show Hid _ from cb.out.below b2)
    clear cb b2 c0 c1 c2
    obtain ⟨c0, c1, c2⟩ := cb2.out.cells
    obtain ⟨cg, fg⟩ := cb2.out.cut.cell
    by_cases hkl : k < xs.length
    · have hx0 := ((pointOk_iff _).mp (at_ok HY.out hkl)).1
      obtain ⟨x, hx⟩ : ∃ x, x = atL xs k := ⟨_, rfl⟩
      rw [← hx] at hx0 ⊢
      have hne : (x != -1) = true := by simp; omega
      clear hx
      go_wp2_with fail
      go_at_call 118
      refine (takes_cb cb2.out HY.out _ lowT_com (by decide)).mono ?_
      rintro e w3 ⟨rfl, cb3', _⟩
      have cb3 := (show Hid _ from cb3')
      rw [st_com]
      clear cb2 cb3' c0 c1 c2 cg fg
      rcases h3 : stands xs k [45, 45, 62] with _ | _
      · have hb : behT xs k ⟨#[45, 45, 62]⟩ = k := by unfold behT; rw [st_com, h3]; rfl
        rw [hb] at cb3
        clear hb
        obtain ⟨c0, c1, c2⟩ := cb3.out.cells
        go_wp2_with fail
        go_at_call 118
        refine (takes_cb cb3.out HY.out _ lowT_bang (by decide)).mono ?_
        rintro e w4 ⟨rfl, cb4', _⟩
        have cb4 := (show Hid _ from cb4')
        rw [st_bang]
        clear cb3 cb4' c0 c1 c2
        rcases h4 : stands xs k [45, 45, 33, 62] with _ | _
        · have hb : behT xs k ⟨#[45, 45, 33, 62]⟩ = k := by unfold behT; rw [st_bang, h4]; rfl
          rw [hb] at cb4
          have hst := com_next (st := i) hkl h3 h4
          rw [HV.out] at hst
          have HS := (show Hid _ from hst.symm)
          clear hb h3 h4 hst
          obtain ⟨c0, c1, c2⟩ := cb4.out.cells
          go_wp2_with fail
          go_at_call 110
          refine (move_any cb4.out.cut s 1 (by omega)).mono ?_
          rintro e w5 ⟨rfl, hc5, hg5⟩
          have cb5 := (show Hid _ from cb4.out.move hc5 hg5)
          clear cb4 hc5 hg5 c0 c1 c2
          go_wp2
          go_roundw
          case rel => exact ⟨k + 1, by omega, by omega, cb5.out, HS.out⟩
          case measure => rw [cb5.out.plc, MP.out]; omega
        · have hb : behT xs k ⟨#[45, 45, 33, 62]⟩ = k + 4 := by unfold behT; rw [st_bang, h4]; rfl
          rw [hb] at cb4
          have hst := com_four (st := i) hkl h3 h4
          rw [HV.out] at hst
          have HS := (show Hid _ from hst)
          clear hb h3 h4 hst
          have hb1 : (i : Int) ≤ (k : Int) := by omega
          have hb2 : (k : Int) ≤ (ca : Int) := by omega
          have hck : ¬ ca = i := by omega
          have CP := (show Hid _ from iputs_part (part_sl cb4.out.cut.sl hk0 (show k ≤ xs.length by omega) hck) hxl)
          obtain ⟨c0, c1, c2⟩ := cb4.out.cells
          obtain ⟨tx, htx⟩ : ∃ z, z = txtOf xs i k := ⟨_, rfl⟩
          rw [← htx] at CP HS
          clear htx
          go_wp2_with fail
          go_at_call 96
          refine Calls.mono CP.out ?_
          rintro e w7 ⟨qa, qn, qc, rfl, hcv, b7⟩
          have cb7 := (show Hid _ from cb4.out.below b7)
          clear CP b7 cb4 c0 c1 c2
          go_wp2
          go_ret
          rw [HS.out]
          exact ⟨rfl, cb7.out.cut, cb7.out.gro⟩
      · have hb : behT xs k ⟨#[45, 45, 62]⟩ = k + 3 := by unfold behT; rw [st_com, h3]; rfl
        rw [hb] at cb3
        have hst := com_three (st := i) hkl h3
        rw [HV.out] at hst
        have HS := (show Hid _ from hst)
        clear hb h3 hst
        have hb1 : (i : Int) ≤ (k : Int) := by omega
        have hb2 : (k : Int) ≤ (ca : Int) := by omega
        have hck : ¬ ca = i := by omega
        have CP := (show Hid _ from iputs_part (part_sl cb3.out.cut.sl hk0 (show k ≤ xs.length by omega) hck) hxl)
        obtain ⟨c0, c1, c2⟩ := cb3.out.cells
        obtain ⟨tx, htx⟩ : ∃ z, z = txtOf xs i k := ⟨_, rfl⟩
        rw [← htx] at CP HS
        clear htx
        go_wp2_with fail
        go_at_call 96
        refine Calls.mono CP.out ?_
        rintro e w7 ⟨qa, qn, qc, rfl, hcv, b7⟩
        have cb7 := (show Hid _ from cb3.out.below b7)
        clear CP b7 cb3 c0 c1 c2
        go_wp2
        go_ret
        rw [HS.out]
        exact ⟨rfl, cb7.out.cut, cb7.out.gro⟩
    · have hst := com_out (st := i) (show xs.length ≤ k by omega)
      rw [HV.out] at hst
      have HS := (show Hid _ from hst)
      have hkk : k = xs.length := by omega
      have cbk := (show Hid (CB w0 g (.slice a xs.length ca) xs s w xs.length w2) from (show CB w0 g (.slice a xs.length ca) xs s w xs.length w2 by have c := cb2.out; rw [hkk] at c; exact c))
      have TT := (show Hid _ from torn_txt HY.out (i := i) hil)
      rw [atL_out (show xs.length ≤ k by omega)]
      clear hst cb2 cg fg hkk
      have hb1 : (i : Int) ≤ (xs.length : Int) := by omega
      have hb2 : (xs.length : Int) ≤ (ca : Int) := by omega
      have hb0 : (0 : Int) ≤ (i : Int) := by omega
      obtain ⟨tx, htx⟩ : ∃ z, z = txtOf xs i xs.length := ⟨_, rfl⟩
      have htb : bs tx = puts (sub xs i xs.length) := by
        rw [htx]; exact bs_strOf (fun y hy => by
          obtain ⟨z, _, hz⟩ := List.mem_flatMap.mp hy
          exact put_byte z y hz)
      have hts : tx.size ≤ 12000 := by rw [htx]; exact txtOf_size hxl _ _
      have CW := (show Hid _ from fun W => withoutTornEnd_any tx W (by omega))
      rw [htb, TT.out] at CW
      clear htb
      by_cases hci : ca = i
      · have CP := (show Hid _ from iputs_part (show Sl .i64 w2 (.slice a (xs.length - i) 0) (sub xs i xs.length) from by rw [show xs.length - i = 0 by omega]; exact part_sl0 a ca (by omega)) hxl)
        rw [← htx] at CP
        clear htx
        go_wp2_with fail
        go_at_call 96
        refine Calls.mono CP.out ?_
        rintro e w7 ⟨qa, qn, qc, rfl, hcv, b7⟩
        have cb7 := (show Hid _ from cbk.out.below b7)
        clear CP b7 cbk c0 c1 c2
        go_wp2_with fail
        go_at_call 136
        refine (CW.out _).mono ?_
        rintro e w8 ⟨rfl, rfl⟩
        go_wp2
        go_ret
        rw [HS.out]
        exact ⟨rfl, cb7.out.cut, cb7.out.gro⟩
      · have CP := (show Hid _ from iputs_part (part_sl cbk.out.cut.sl hil (Nat.le_refl _) hci) hxl)
        rw [← htx] at CP
        clear htx
        go_wp2_with fail
        go_at_call 96
        refine Calls.mono CP.out ?_
        rintro e w7 ⟨qa, qn, qc, rfl, hcv, b7⟩
        have cb7 := (show Hid _ from cbk.out.below b7)
        clear CP b7 cbk c0 c1 c2
        go_wp2_with fail
        go_at_call 136
        refine (CW.out _).mono ?_
        rintro e w8 ⟨rfl, rfl⟩
        go_wp2
        go_ret
        rw [HS.out]
        exact ⟨rfl, cb7.out.cut, cb7.out.gro⟩
end Go.Proofs.YtggfifchkecnjaaGreatDoor

/- The laws' helpers that look whether a row of tokens holds its marks, and hold two rows against each other. No condition. -/
namespace Go.Proofs.YtggfifchkecnjaaGreatDoor
open Go.RowKit
set_option maxRecDepth 100000
set_option linter.unusedVariables false

def MarkedK : Int → List TokD → Prop
  | _, [] => True
  | r, t :: ts => t = mkK r t ∧ MarkedK (r + advK t) ts
theorem MarkedK.at : ∀ {ts : List TokD} {r : Int}, MarkedK r ts → ∀ k (hk : k < ts.length), ts[k] = mkK (r + advKs (ts.take k)) ts[k] := by
  intro ts
  induction ts with
  | nil => intro r _ k hk; simp at hk
  | cons t ts ih =>
    intro r h k hk
    cases k with
    | zero => simpa [advKs] using h.1
    | succ k =>
      have := ih h.2 k (by simpa using hk)
      rw [List.getElem_cons_succ, List.take_succ_cons, advKs_cons, ← Int.add_assoc]
      exact this
end Go.Proofs.YtggfifchkecnjaaGreatDoor
