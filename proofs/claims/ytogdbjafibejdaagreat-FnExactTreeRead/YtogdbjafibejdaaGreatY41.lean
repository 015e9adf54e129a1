/- The program's list of names: add, and its map of places. No condition. -/
import Derived.Test.YtogdbjafibejdaaGreatY40
import Derived.Test.YtogdbjafibejdaaGreatY17
import Derived.Maps.OwnSet
import Derived.Maps.Views
import Derived.Test.YtogdbjafibejdaaGreatY19
import Derived.Test.YtogdbjafibejdaaGreatY37
import Derived.Test.YtogdbjafibejdaaGreatY14
namespace Go.Proofs.YtogdbjafibejdaaGreat
open Go.RowKit Go.Maps
set_option maxRecDepth 100000
set_option linter.unusedVariables false

theorem lawNm : Keyed Tryz.prog 9 := string_keyed Tryz.underlying9
theorem keyOf_nm {s : ByteArray} (h : s.size ≤ maxLen) : keyOf Tryz.prog 9 (.string s) = some (.string s.data.toList) := by
  simp [keyOf, Tryz.underlying9, mapKey, h]
theorem zeroNm (w : World) : (zeroValue 3).run Tryz.prog w = .ok (.int .i64 0) w := by kernel_rfl
theorem nm_ne {s t : ByteArray} (h : s ≠ t) : (Lit.string s.data.toList) ≠ Lit.string t.data.toList := by
  intro e
  injection e with e
  apply h
  cases s; cases t
  congr 1
  exact Array.toList_inj.mp e
def PlcOf (D : DataW Unit) (nm : List ByteArray) : Prop := IsMap D ∧ ∀ (s : ByteArray) (zd : DataW Unit), D.atKey (.string s.data.toList) zd = if fndS nm s < 0 then zd else .lit (.int .i64 (fndS nm s))
theorem plc_nil : PlcOf (.map []) [] := ⟨isMap_empty, fun s zd => by rw [atKey_of_not_has rfl]; rfl⟩
theorem fndS_other {t s : ByteArray} (h : s ≠ t) : ∀ l : List ByteArray, fndS (l ++ [t]) s = fndS l s
  | [] => by
    have : t ≠ s := fun e => h e.symm
    simp [fndS, this]
  | x :: l => by rw [List.cons_append, fndS, fndS, fndS_other h l]
theorem fndS_in {l : List ByteArray} {s : ByteArray} : ¬ fndS l s < 0 ↔ s ∈ l := by
  constructor
  · intro h
    by_cases hm : s ∈ l
    · exact hm
    · exact absurd (by rw [fndS_none l s hm]; omega) h
  · intro h
    have := fndS_neg h
    omega
theorem PlcOf.put {D : DataW Unit} {nm : List ByteArray} (h : PlcOf D nm) {t : ByteArray} (ht : fndS nm t < 0) : PlcOf (D.put (.string t.data.toList) (.lit (.int .i64 (nm.length : Nat)))) (nm ++ [t]) := by
  have hni : t ∉ nm := fun e => fndS_in.mpr e ht
  refine ⟨h.1.put _ _, fun s zd => ?_⟩
  by_cases hs : s = t
  · subst hs
    rw [atKey_put_same h.1 (show WideAt.IsKeyLit (.string _) from trivial), fndS_at nm [] s hni, if_neg (by omega)]
  · rw [atKey_put_other (nm_ne hs), h.2, fndS_other hs]
theorem PlcOf.has {D : DataW Unit} {nm : List ByteArray} (h : PlcOf D nm) (s : ByteArray) : Maps.has D (.string s.data.toList) = !decide (fndS nm s < 0) := by
  have h2 := h.2 s
  by_cases hs : fndS nm s < 0
  · simp only [if_pos hs] at h2
    rw [has_false_of_atKey h2]
    simp [hs]
  · simp only [if_neg hs] at h2
    rw [has_true_of_atKey h2]
    simp [hs]
def NmAt (B N M : Nat) (nm : List ByteArray) (W : World) : Prop :=
  B ≤ N ∧ B ≤ M ∧ ∃ u D n, W.heap[N]? = some (.cells #[u, .map (some M)] 150 (0, 0)) ∧ OwnS B W u nm ∧ W.ownsMap Tryz.prog 9 (plainElem Tryz.prog 3) M n D ∧ n ≤ nm.length ∧ PlcOf D nm
structure NmFr (B N M : Nat) (w w' : World) : Prop where
  os : w'.os = w.os
  tape : w'.tape = w.tape
  output : w'.output = w.output
  size : w.heap.size ≤ w'.heap.size
  block : ∀ j, j < w.heap.size → j ≠ N → j ≠ M → (j < B ∨ ∀ cs t fr, w.heap[j]? = some (.cells cs t fr) → t ≠ 9) → w'.heap[j]? = w.heap[j]?
theorem NmFr.box {B N M : Nat} {w w' : World} (h : NmFr B N M w w') {j : Nat} {cs : Array Value} {t : TypeId} (hj : w.heap[j]? = some (.cells cs t (0, 0))) (ht : t ≠ 9) (h1 : j ≠ N) (h2 : j ≠ M) : w'.heap[j]? = some (.cells cs t (0, 0)) :=
  (h.block j (blk_lt hj) h1 h2 (.inr (fun cs' t' fr' e => by rw [hj] at e; cases e; exact ht))).trans hj
theorem NmFr.below {B N M : Nat} {w w' : World} (h : NmFr B N M w w') (hN : B ≤ N) (hM : B ≤ M) (hB : B ≤ w.heap.size) : Below B w w' := ⟨h.os, h.tape, h.output, h.size, fun j hj => h.block j (by omega) (by omega) (by omega) (.inl hj)⟩
theorem NmFr.refl {B N M : Nat} (w : World) : NmFr B N M w w := ⟨rfl, rfl, rfl, Nat.le_refl _, fun j _ _ _ _ => rfl⟩
theorem NmAt.lt {B N M : Nat} {nm : List ByteArray} {W : World} (h : NmAt B N M nm W) : N < W.heap.size ∧ M < W.heap.size ∧ N ≠ M := by
  obtain ⟨_, _, u, D, n, hN, _, hM, _, _⟩ := h
  refine ⟨blk_lt hN, hM.lt, fun e => ?_⟩
  obtain ⟨es, clock, hb, _⟩ := hM
  rw [← e, hN] at hb
  cases hb
theorem ownS_kind {B : Nat} {W : World} {u : Value} {nm : List ByteArray} (o : OwnS B W u nm) : ∀ r, u.ownBlock = some r → B ≤ r ∧ ∃ cs fr, W.heap[r]? = some (.cells cs 9 fr) := fun r hr => by
  refine ⟨(World.ownsRow.lt o r hr).1, ?_⟩
  rcases o.2 with ⟨e, _⟩ | ⟨g', cap', cur, e, _, hh, _⟩
  · rw [e] at hr; cases hr
  · rw [e] at hr; cases hr; exact ⟨_, _, hh⟩
theorem NmAt.below {B N M : Nat} {nm : List ByteArray} {W W' : World} (h : NmAt B N M nm W) (b : Below W.heap.size W W') : NmAt B N M nm W' := by
  obtain ⟨h1, h2, u, D, n, hN, o, hM, hn, hp⟩ := h
  exact ⟨h1, h2, u, D, n, (b.block _ (blk_lt hN)).trans hN, o.below b, hM.kept ⟨b.os, b.tape, b.output, b.size, fun j hj _ => b.block j hj⟩ (row := none) (by simp), hn, hp⟩

theorem two_cells {w : World} {b : Nat} {u v : Value} {t : TypeId} (h : w.heap[b]? = some (.cells #[u, v] t (0, 0))) : w.cell? ⟨b, 0, none⟩ = some u ∧ w.cell? ⟨b, 1, none⟩ = some v ∧ w.frozen? ⟨b, 0, none⟩ = false ∧ w.frozen? ⟨b, 1, none⟩ = false :=
  ⟨by simp only [World.cell?, h]; rfl, by simp only [World.cell?, h]; rfl, by simp only [World.frozen?, h]; rfl, by simp only [World.frozen?, h]; rfl⟩
theorem kept_of_map {B e size n M : Nat} {w w' : World} {v : Value} {xs : List Value} (h : w.ownsRow B e size v n xs) (hg : w.grownBy w' (some M)) (hM : ∀ cs t fr, w.heap[M]? ≠ some (.cells cs t fr)) : w'.ownsRow B e size v n xs := by
  refine h.kept hg ?_
  rcases h.2 with ⟨rfl, _⟩ | ⟨g, cap, cur, rfl, _, hh, _⟩
  · exact .inl rfl
  · refine .inr fun er => ?_
    cases er
    exact hM _ _ _ hh
theorem ownsMap_not {k : TypeId} {R : Value → Option (DataW Unit × List MemPlace)} {b n : Nat} {D : DataW Unit} {w : World} (h : w.ownsMap Tryz.prog k R b n D) : ∀ cs t fr, w.heap[b]? ≠ some (.cells cs t fr) := by
  obtain ⟨es, clock, hb, _⟩ := h
  intro cs t fr e
  rw [hb] at e
  cases e
theorem add_end {B N M : Nat} {nm : List ByteArray} {w w1 w9 : World} {v u9 : Value} {s : ByteArray} {D : DataW Unit} {n : Nat} (hBN : B ≤ N) (hBM : B ≤ M) (hNM : N ≠ M) (hNl : N < w.heap.size) (hMl : M < w.heap.size) (hB : B ≤ w.heap.size) (hn : n ≤ nm.length) (hp : PlcOf D nm) (hin : fndS nm s < 0)
    (hN : w.heap[N]? = some (.cells #[v, .map (some M)] 150 (0, 0))) (o1 : w1.ownsMap Tryz.prog 9 (plainElem Tryz.prog 3) M (n + 1) (D.put (.string s.data.toList) (.lit (.int .i64 (nm.length : Nat))))) (g1 : w.grownBy w1 (some M))
    (os1 : OwnS B w1 v nm) (o9 : OwnS B w9 u9 (nm ++ [s])) (g9 : w1.grownBy w9 v.ownBlock) :
    NmAt B N M (nm ++ [s]) (w9.setCell ⟨N, 0, none⟩ u9) ∧ NmFr B N M w (w9.setCell ⟨N, 0, none⟩ u9) := by
  have hk := ownS_kind os1
  have gN1 : w1.heap[N]? = some (.cells #[v, .map (some M)] 150 (0, 0)) := (g1.block N hNl (fun e => by cases e; exact hNM rfl)).trans hN
  have gN9 : w9.heap[N]? = some (.cells #[v, .map (some M)] 150 (0, 0)) := (g9.block N (blk_lt gN1) (fun e => by obtain ⟨_, c, f, hh⟩ := hk N e.symm; rw [gN1] at hh; cases hh)).trans gN1
  have o9m := o1.kept g9 (fun e => by obtain ⟨_, c, f, hh⟩ := hk M e.symm; exact ownsMap_not o1 _ _ _ hh)
  refine ⟨⟨hBN, hBM, u9, _, n + 1, setCell_at (k := 0) (u := u9) gN9, ?_, o9m.setCell (fun e => hNM e.symm) _, by simp; omega, hp.put hin⟩, ?_⟩
  · exact kept_of_type o9 (grown_setCell w9 N 0 u9) (fun r e => by cases e; exact ⟨_, _, _, gN9, by decide⟩)
  · have gs := grown_setCell w9 N 0 u9
    refine ⟨gs.os.trans (g9.os.trans g1.os), gs.tape.trans (g9.tape.trans g1.tape), gs.output.trans (g9.output.trans g1.output), Nat.le_trans g1.size (Nat.le_trans g9.size gs.size), fun j hj j1 j2 hb => ?_⟩
    have e1 := g1.block j hj (fun e => by cases e; exact j2 rfl)
    have hj1 : j < w1.heap.size := Nat.lt_of_lt_of_le hj g1.size
    have e2 := g9.block j hj1 (fun e => by
      obtain ⟨hr, c, f, hh⟩ := hk j e.symm
      rcases hb with hb | hb
      · omega
      · rw [e1] at hh
        exact hb _ _ _ hh rfl)
    have e3 := gs.block j (Nat.lt_of_lt_of_le hj1 g9.size) (fun e => by cases e; exact j1 rfl)
    exact e3.trans (e2.trans e1)

set_option maxHeartbeats 2000000 in
set_option maxRecDepth 100000 in
theorem inameAdd_any {B N M : Nat} {nm : List ByteArray} {w : World} (h : NmAt B N M nm w) (hB : B ≤ w.heap.size) (s : ByteArray) (hs : s.size ≤ 1099511627776) (hl : nm.length ≤ 1000000000000) :
    Calls Tryz.prog 128 #[.pointer (some ⟨N, 0, none⟩), .string s] w fun e w' => e = .returned (.tuple #[]) ∧ NmAt B N M (putS nm s) w' ∧ NmFr B N M w w' := by
  have hlt := h.lt
  have H0 := (show Hid (NmAt B N M nm w) from h)
  obtain ⟨hBN, hBM, u, D, n, hN, o, hM, hn, hp⟩ := h
  have hkey := keyOf_nm (s := s) (by unfold maxLen; omega)
  obtain ⟨c0, c1, z0, _⟩ := two_cells hN
  obtain ⟨lv, lps, hrun, _⟩ := hM.look_ok lawNm Tryz.underlying148 (zeroNm w) (plainElem_int Tryz.underlying3 (by decide)) hkey
  rw [hp.has s] at hrun
  by_cases hin : fndS nm s < 0
  · have hd : (!decide (fndS nm s < 0)) = false := by simp [hin]
    rw [hd] at hrun
    have HPS := (show Hid (putS nm s = nm ++ [s]) from (if_pos hin : putS nm s = nm ++ [s]))
    obtain ⟨i0, hi, hz0, hz1, hz2⟩ := info_parts Tryz.infoStrZ
    obtain ⟨ua, un, uc, rfl⟩ := own_slice o
    obtain ⟨enn, _⟩ := str_cell (OwnS.sv o)
    subst enn
    obtain ⟨w1, r1, o1, g1⟩ := (hM.drew).update (d := .lit (.int .i64 (nm.length : Nat))) lawNm Tryz.underlying148 (by unfold maxLen; omega) hkey (plainElem_int Tryz.underlying3 (by simp [Lit.wf, IntKind.min, IntKind.max, IntKind.bits, IntKind.signed]; omega))
    have g1' : w.grownBy w1 (some M) := grown_trans (grown_drewN w 1 _) g1
    have gN1 : w1.heap[N]? = some (.cells #[.slice ua nm.length uc, .map (some M)] 150 (0, 0)) := (g1'.block N hlt.1 (fun e => by cases e; exact hlt.2.2 rfl)).trans hN
    obtain ⟨d0, d1, y0, _⟩ := two_cells gN1
    have os1 : OwnS B w1 (.slice ua nm.length uc) nm := kept_of_map o g1' (ownsMap_not hM)
    have hs1 : w.heap.size ≤ w1.heap.size := g1'.size
    have H1 := (show Hid (OwnS B (w1.alloc (.cells #[.string s] 9)) (.slice ua nm.length uc) nm) from os1.below ((Below.refl _ _).alloc (Nat.le_refl _) _))
    have S1 := (show Hid (Sv 1 (w1.alloc (.cells #[.string s] 9)) (.slice (some ⟨w1.heap.size, 0, none⟩) 1 1) [.string s]) from by
      refine ⟨_, 1, 1, rfl, rfl, Nat.le_refl _, by unfold maxLen; omega, (fun e => (by cases e)), fun j hj => ?_⟩
      have : j = 0 := by simp at hj; omega
      subst this
      exact ⟨w1.heap.size, 0, rfl, by simp only [World.cell?, World.alloc_heap_new]; rfl⟩)
    have HE := (show Hid (∀ w9 u9, OwnS B w9 u9 (nm ++ [s]) → w1.grownBy w9 (Value.slice ua nm.length uc).ownBlock → NmAt B N M (nm ++ [s]) (w9.setCell ⟨N, 0, none⟩ u9) ∧ NmFr B N M w (w9.setCell ⟨N, 0, none⟩ u9)) from fun w9 u9 o9 g9 => add_end hBN hBM hlt.2.2 hlt.1 hlt.2.1 hB hn hp hin hN o1 g1' os1 o9 g9)
    have HG := (show Hid _ from gN1)
    have OS1 := (show Hid _ from os1)
    have hl1 := blk_lt gN1
    clear hN o hM hp o1 g1 g1' gN1 os1 hn hd
    go_enter Tryz.func128, Tryz.ntmps128
    go_wp2
    go_region
    all_goals
      go_wp2_with (first
        | (at_builtin
           refine wpList_appV _ rfl (.tmp 31) (.tmp 33) 82 rfl B 9 i0 _ 1 16 Tryz.underlying82 hi hz0 hz1 hz2 rfl (by decide) (.slice ua nm.length uc) _ nm.length 1 (nm.map Value.string) [.string s] rfl rfl H1.out S1.out rfl (fun y hy => by simp at hy; subst hy; rfl) (by omega) (by unfold maxLen; omega) (by rw [World.size_alloc]; omega) ?_
           intro v9 w9 o9 g9
           have R := (show Hid (OwnS B w9 v9 (nm ++ [s]) ∧ w1.grownBy w9 (Value.ownBlock (.slice ua nm.length uc))) from ⟨(by unfold OwnS; rw [List.length_append, List.map_append]; exact o9), grown_trans (World.grownBy_alloc _ _ _) g9⟩)
           have gN9 : w9.heap[N]? = some (.cells #[.slice ua nm.length uc, .map (some M)] 150 (0, 0)) := (R.out.2.block N hl1 (fun e => by obtain ⟨_, c, f, hh⟩ := ownS_kind OS1.out N e.symm; rw [HG.out] at hh; cases hh)).trans HG.out
           obtain ⟨e0, e1, x0, _⟩ := two_cells gN9
           obtain ⟨u2, u3, u4, rfl⟩ := own_slice R.out.1
           clear o9 g9 gN9)
        | fail)
      go_end0
      rw [HPS.out]
      exact ⟨rfl, HE.out _ _ R.out.1 R.out.2⟩
  · have hd : (!decide (fndS nm s < 0)) = true := by simp [hin]
    rw [hd] at hrun
    have HPS := (show Hid (putS nm s = nm) from (if_neg hin : putS nm s = nm))
    clear hN o hM hp hd
    go_enter Tryz.func128, Tryz.ntmps128
    go_wp2
    go_end0
    rw [HPS.out]
    exact ⟨rfl, H0.out, NmFr.refl _⟩
end Go.Proofs.YtogdbjafibejdaaGreat

/- Reading a tree's bytes, plainly: what the readers make of any bytes; the form of a tidy tree is read as the tree. No condition. -/
namespace Go.Proofs.YtogdbjafibejdaaGreat
open Go.RowKit
set_option maxRecDepth 100000
set_option linter.unusedVariables false

theorem rdT_some2 {xs t : List Int} {i j : Int} (h : rdT xs i = some (t, j)) (hb : ∀ x ∈ xs, 0 ≤ x ∧ x ≤ 255) : i < j ∧ j ≤ xs.length ∧ 0 ≤ i := by
  unfold rdT at h
  split at h
  · rename_i y n e
    obtain ⟨h1, h2, h3, h4, h5, h6, h7⟩ := rdI_some e hb
    split at h
    · simp only [Option.some.injEq, Prod.mk.injEq] at h
      omega
    · cases h
  · cases h
theorem rdT_at2 (s : ByteArray) (hs : s.size ≤ 1099511627776) (pre rest : List Int) : rdT (pre ++ textForm s ++ rest) (pre.length : Nat) = some (bs s, ((pre.length + (textForm s).length : Nat) : Int)) := by
  have e : pre ++ textForm s ++ rest = pre ++ form s.size ++ (bs s ++ rest) := by simp [textForm]
  have h1 : rdI (pre ++ textForm s ++ rest) (pre.length : Nat) = some ((s.size : Int), (form s.size).length) := by
    rw [e]; exact rdI_form (by omega) (by omega) pre _
  have hl : (bs s).length = s.size := bs_len s
  have h2 := rdT_fit (p := pre.length + (form s.size).length) h1 (by omega) (by simp [textForm, hl]; omega)
  rw [h2]
  have e3 : ((pre ++ textForm s ++ rest).drop (pre.length + (form s.size).length)).take s.size = bs s := by
    rw [e, List.drop_append_of_le_length (by simp), ← List.length_append, List.drop_length, List.nil_append, ← hl, List.take_left']
    rfl
  rw [e3]
  have e4 : (textForm s).length = (form s.size).length + s.size := by simp [textForm, hl]
  rw [e4]
  congr 2
  omega

def rdP (xs : List Int) (i : Nat) : Option (Nat × Nat) := match rdI xs i with | some (y, n) => some (y.toNat, i + n) | none => none
def rdX (xs : List Int) (i : Nat) : Option (ByteArray × Nat) := match rdT xs i with | some (t, j) => some (strOf t, j.toNat) | none => none
def rdM (xs : List Int) (nm : List ByteArray) (i : Nat) : Option (ByteArray × Nat) :=
  match rdP xs i with | some (k, j) => if k < nm.length then some (nm.getD k ⟨#[]⟩, j) else none | none => none
def rdAs (xs : List Int) (nm : List ByteArray) : Nat → Nat → Nat → List (ByteArray × ByteArray) → Option (List (ByteArray × ByteArray) × Nat)
  | _, 0, i, acc => some (acc, i)
  | 0, _ + 1, _, _ => none
  | f + 1, m + 1, i, acc =>
    match rdM xs nm i with
    | none => none
    | some (a, j) => match rdX xs j with
      | none => none
      | some (t, k) => rdAs xs nm f m k (acc ++ [(a, t)])
def rdNs (xs : List Int) : Nat → Nat → Nat → List ByteArray → Option (List ByteArray × Nat)
  | _, 0, i, acc => some (acc, i)
  | 0, _ + 1, _, _ => none
  | f + 1, m + 1, i, acc =>
    match rdX xs i with
    | none => none
    | some (t, k) => rdNs xs f m k (acc ++ [t])
def rdFill (xs : List Int) (nm : List ByteArray) (strict : Bool) (kind i : Nat) : Option (PNode × Nat) :=
  if kind = 2 then match rdM xs nm i with | some (s, j) => some (⟨kind, s, [], ⟨#[]⟩, -1, []⟩, j) | none => none
  else if kind = 3 then
    match rdM xs nm i with
    | none => none
    | some (s, j) => match rdP xs j with
      | none => none
      | some (m, k) => match rdAs xs nm (xs.length + 1 - k) m k [] with
        | none => none
        | some (rs, l) => some (⟨kind, s, rs, ⟨#[]⟩, -1, []⟩, l)
  else if kind = 4 ∨ kind = 5 then match rdX xs i with | some (t, j) => some (⟨kind, ⟨#[]⟩, [], t, -1, []⟩, j) | none => none
  else if strict = true ∧ kind ≠ 1 then none
  else some (⟨kind, ⟨#[]⟩, [], ⟨#[]⟩, -1, []⟩, i)
def rdOne (xs : List Int) (nm : List ByteArray) (strict : Bool) (i : Nat) : Option (PNode × Nat × Nat) :=
  match rdP xs i with
  | none => none
  | some (kind, j) => match rdP xs j with
    | none => none
    | some (kids, k) => match rdFill xs nm strict kind k with
      | none => none
      | some (n, l) => some (n, kids, l)
def kidAdd (ns : List PNode) (me : Int) : List PNode := if me < 0 then ns else ns.modify me.toNat (fun n => setKids n (n.kids ++ [(ns.length : Int)]))
theorem kidAdd_len (ns : List PNode) (me : Int) : (kidAdd ns me).length = ns.length := by unfold kidAdd; split <;> simp
def rdB (xs : List Int) (nm : List ByteArray) (strict : Bool) (room : Nat → Bool) : Nat → Nat → Int → List PNode → Nat → Option (List PNode × Nat)
  | _, 0, _, ns, i => some (ns, i)
  | 0, _ + 1, _, _, _ => none
  | f + 1, k + 1, me, ns, i =>
    if room ns.length = true then
      match rdOne xs nm strict i with
      | none => none
      | some (n, kd, j) =>
        match rdB xs nm strict room f kd ns.length (kidAdd ns me ++ [linkN n me []]) j with
        | none => none
        | some (ns', i') => rdB xs nm strict room f k me ns' i'
    else none
def rdN (xs : List Int) (nm : List ByteArray) (strict : Bool) (room : Nat → Bool) (f : Nat) (me : Int) (ns : List PNode) (i : Nat) : Option (List PNode × Nat) :=
  if room ns.length = true then
    match rdOne xs nm strict i with
    | none => none
    | some (n, kd, j) => rdB xs nm strict room f kd ns.length (ns ++ [linkN n me []]) j
  else none
theorem rdB_zero {xs : List Int} {nm : List ByteArray} {strict : Bool} {room : Nat → Bool} {f : Nat} {me : Int} {ns : List PNode} {i : Nat} : rdB xs nm strict room f 0 me ns i = some (ns, i) := by
  cases f <;> rfl
theorem rdB_succ {xs : List Int} {nm : List ByteArray} {strict : Bool} {room : Nat → Bool} {f k : Nat} {me : Int} {ns : List PNode} {i : Nat} :
    rdB xs nm strict room (f + 1) (k + 1) me ns i = (rdN xs nm strict room f me (kidAdd ns me) i).bind (fun s => rdB xs nm strict room f k me s.1 s.2) := by
  rw [rdB, rdN, kidAdd_len]
  split
  · rcases rdOne xs nm strict i with _ | ⟨n, kd, j⟩
    · rfl
    · simp only
      rcases rdB xs nm strict room f kd ns.length (kidAdd ns me ++ [linkN n me []]) j with _ | ⟨ns', i'⟩ <;> rfl
  · rfl

theorem rdP_some {xs : List Int} {i k j : Nat} (h : rdP xs i = some (k, j)) (hb : ∀ x ∈ xs, 0 ≤ x ∧ x ≤ 255) : i < j ∧ j ≤ xs.length ∧ k ≤ 9223372036854775807 := by
  unfold rdP at h
  rcases hr : rdI xs i with _ | ⟨y, n⟩
  · rw [hr] at h; cases h
  · rw [hr] at h
    have := rdI_some hr hb
    simp only [Option.some.injEq, Prod.mk.injEq] at h
    omega
theorem rdX_some {xs : List Int} {i j : Nat} {s : ByteArray} (h : rdX xs i = some (s, j)) (hb : ∀ x ∈ xs, 0 ≤ x ∧ x ≤ 255) : i < j ∧ j ≤ xs.length ∧ s.size ≤ xs.length := by
  unfold rdX at h
  rcases hr : rdT xs i with _ | ⟨t, n⟩
  · rw [hr] at h; cases h
  · rw [hr] at h
    have h1 := rdT_some2 hr hb
    simp only [Option.some.injEq, Prod.mk.injEq] at h
    obtain ⟨rfl, rfl⟩ := h
    have : t.length ≤ xs.length := by
      unfold rdT at hr
      split at hr
      · split at hr
        · simp only [Option.some.injEq, Prod.mk.injEq] at hr
          rw [← hr.1, List.length_take, List.length_drop]
          omega
        · cases hr
      · cases hr
    rw [strOf_size]
    omega
theorem rdM_some {xs : List Int} {nm : List ByteArray} {i j : Nat} {s : ByteArray} (h : rdM xs nm i = some (s, j)) (hb : ∀ x ∈ xs, 0 ≤ x ∧ x ≤ 255) : i < j ∧ j ≤ xs.length ∧ s ∈ nm := by
  unfold rdM at h
  rcases hr : rdP xs i with _ | ⟨k, n⟩
  · rw [hr] at h; cases h
  · rw [hr] at h
    have h1 := rdP_some hr hb
    simp only at h
    split at h
    · rename_i hk
      simp only [Option.some.injEq, Prod.mk.injEq] at h
      obtain ⟨rfl, rfl⟩ := h
      refine ⟨h1.1, h1.2.1, ?_⟩
      rw [List.getD_eq_getElem?_getD, List.getElem?_eq_getElem hk]
      exact List.getElem_mem hk
    · cases h
def FitS (m : Nat) (nm : List ByteArray) : Prop := ∀ s ∈ nm, s.size ≤ m
theorem rdAs_some {xs : List Int} {nm : List ByteArray} (hb : ∀ x ∈ xs, 0 ≤ x ∧ x ≤ 255) (hn : FitS xs.length nm) : ∀ (f m i : Nat) (acc rs : List (ByteArray × ByteArray)) (j : Nat), rdAs xs nm f m i acc = some (rs, j) →
    (∀ p ∈ acc, p.1.size ≤ xs.length ∧ p.2.size ≤ xs.length) → i ≤ xs.length → i ≤ j ∧ j ≤ xs.length ∧ (∀ p ∈ rs, p.1.size ≤ xs.length ∧ p.2.size ≤ xs.length) ∧ rs.length + i ≤ acc.length + j
  | f, 0, i, acc, rs, j, h, ha, hi => by
    cases f <;> (simp only [rdAs, Option.some.injEq, Prod.mk.injEq] at h; obtain ⟨rfl, rfl⟩ := h; exact ⟨Nat.le_refl _, hi, ha, Nat.le_refl _⟩)
  | 0, m + 1, i, acc, rs, j, h, _, _ => by cases h
  | f + 1, m + 1, i, acc, rs, j, h, ha, hi => by
    rw [rdAs] at h
    rcases h1 : rdM xs nm i with _ | ⟨a, k⟩
    · rw [h1] at h; cases h
    · rw [h1] at h
      simp only at h
      rcases h2 : rdX xs k with _ | ⟨t, l⟩
      · rw [h2] at h; cases h
      · rw [h2] at h
        simp only at h
        have e1 := rdM_some h1 hb
        have e2 := rdX_some h2 hb
        have := rdAs_some hb hn f m l _ rs j h (fun p hp => by
          rcases List.mem_append.mp hp with hp | hp
          · exact ha p hp
          · rw [List.mem_singleton] at hp
            subst hp
            exact ⟨hn _ e1.2.2, e2.2.2⟩) e2.2.1
        rw [List.length_append, List.length_singleton] at this
        exact ⟨by omega, this.2.1, this.2.2.1, by omega⟩
theorem rdNs_some {xs : List Int} (hb : ∀ x ∈ xs, 0 ≤ x ∧ x ≤ 255) : ∀ (f m i : Nat) (acc rs : List ByteArray) (j : Nat), rdNs xs f m i acc = some (rs, j) →
    FitS xs.length acc → i ≤ xs.length → i ≤ j ∧ j ≤ xs.length ∧ FitS xs.length rs ∧ rs.length + i ≤ acc.length + j
  | f, 0, i, acc, rs, j, h, ha, hi => by
    cases f <;> (simp only [rdNs, Option.some.injEq, Prod.mk.injEq] at h; obtain ⟨rfl, rfl⟩ := h; exact ⟨Nat.le_refl _, hi, ha, Nat.le_refl _⟩)
  | 0, m + 1, i, acc, rs, j, h, _, _ => by cases h
  | f + 1, m + 1, i, acc, rs, j, h, ha, hi => by
    rw [rdNs] at h
    rcases h2 : rdX xs i with _ | ⟨t, l⟩
    · rw [h2] at h; cases h
    · rw [h2] at h
      simp only at h
      have e2 := rdX_some h2 hb
      have := rdNs_some hb f m l _ rs j h (fun p hp => by
        rcases List.mem_append.mp hp with hp | hp
        · exact ha p hp
        · rw [List.mem_singleton] at hp
          subst hp
          exact e2.2.2) e2.2.1
      rw [List.length_append, List.length_singleton] at this
      exact ⟨by omega, this.2.1, this.2.2.1, by omega⟩
structure ReadN (m : Nat) (n : PNode) : Prop where
  nm : n.name.size ≤ m
  tx : n.text.size ≤ m
  rs : n.attrs.length ≤ m
  each : ∀ p ∈ n.attrs, p.1.size ≤ m ∧ p.2.size ≤ m
theorem rdFill_some {xs : List Int} {nm : List ByteArray} {strict : Bool} {kind i j : Nat} {n : PNode} (hb : ∀ x ∈ xs, 0 ≤ x ∧ x ≤ 255) (hn : FitS xs.length nm) (hi : i ≤ xs.length) (h : rdFill xs nm strict kind i = some (n, j)) :
    i ≤ j ∧ j ≤ xs.length ∧ ReadN xs.length n ∧ n.parent = -1 ∧ n.kids = [] ∧ n.kind = kind := by
  have e0 : (⟨#[]⟩ : ByteArray).size ≤ xs.length := Nat.zero_le _
  unfold rdFill at h
  split at h
  · rcases h1 : rdM xs nm i with _ | ⟨a, k⟩
    · rw [h1] at h; cases h
    · rw [h1] at h
      simp only [Option.some.injEq, Prod.mk.injEq] at h
      obtain ⟨rfl, rfl⟩ := h
      have e1 := rdM_some h1 hb
      exact ⟨by omega, e1.2.1, ⟨hn _ e1.2.2, e0, Nat.zero_le _, fun p hp => by cases hp⟩, rfl, rfl, rfl⟩
  · split at h
    · rcases h1 : rdM xs nm i with _ | ⟨a, k⟩
      · rw [h1] at h; cases h
      · rw [h1] at h
        simp only at h
        rcases h2 : rdP xs k with _ | ⟨m, l⟩
        · rw [h2] at h; cases h
        · rw [h2] at h
          simp only at h
          rcases h3 : rdAs xs nm (xs.length + 1 - l) m l [] with _ | ⟨rs, q⟩
          · rw [h3] at h; cases h
          · rw [h3] at h
            simp only [Option.some.injEq, Prod.mk.injEq] at h
            obtain ⟨rfl, rfl⟩ := h
            have e1 := rdM_some h1 hb
            have e2 := rdP_some h2 hb
            have e3 := rdAs_some hb hn _ _ _ _ _ _ h3 (fun p hp => by cases hp) e2.2.1
            rw [List.length_nil] at e3
            exact ⟨by omega, e3.2.1, ⟨hn _ e1.2.2, e0, by simp only; omega, e3.2.2.1⟩, rfl, rfl, rfl⟩
    · split at h
      · rcases h1 : rdX xs i with _ | ⟨t, k⟩
        · rw [h1] at h; cases h
        · rw [h1] at h
          simp only [Option.some.injEq, Prod.mk.injEq] at h
          obtain ⟨rfl, rfl⟩ := h
          have e1 := rdX_some h1 hb
          exact ⟨by omega, e1.2.1, ⟨e0, e1.2.2, Nat.zero_le _, fun p hp => by cases hp⟩, rfl, rfl, rfl⟩
      · split at h
        · cases h
        · simp only [Option.some.injEq, Prod.mk.injEq] at h
          obtain ⟨rfl, rfl⟩ := h
          exact ⟨Nat.le_refl _, hi, ⟨e0, e0, Nat.zero_le _, fun p hp => by cases hp⟩, rfl, rfl, rfl⟩
theorem rdOne_some {xs : List Int} {nm : List ByteArray} {strict : Bool} {i j kd : Nat} {n : PNode} (hb : ∀ x ∈ xs, 0 ≤ x ∧ x ≤ 255) (hn : FitS xs.length nm) (h : rdOne xs nm strict i = some (n, kd, j)) :
    i + 2 ≤ j ∧ j ≤ xs.length ∧ ReadN xs.length n ∧ n.parent = -1 ∧ n.kids = [] ∧ kd ≤ 9223372036854775807 := by
  unfold rdOne at h
  rcases h1 : rdP xs i with _ | ⟨kind, k⟩
  · rw [h1] at h; cases h
  · rw [h1] at h
    simp only at h
    rcases h2 : rdP xs k with _ | ⟨kids, l⟩
    · rw [h2] at h; cases h
    · rw [h2] at h
      simp only at h
      rcases h3 : rdFill xs nm strict kind l with _ | ⟨n', q⟩
      · rw [h3] at h; cases h
      · rw [h3] at h
        simp only [Option.some.injEq, Prod.mk.injEq] at h
        obtain ⟨rfl, rfl, rfl⟩ := h
        have e1 := rdP_some h1 hb
        have e2 := rdP_some h2 hb
        have e3 := rdFill_some hb hn e2.2.1 h3
        exact ⟨by omega, e3.2.1, e3.2.2.1, e3.2.2.2.1, e3.2.2.2.2.1, e2.2.2⟩
structure ReadL (xs : List Int) (ns : List PNode) (i : Nat) : Prop where
  node : ∀ n ∈ ns, ReadN xs.length n ∧ n.kids.length ≤ i
  few : ns.length ≤ i
  most : i ≤ xs.length
theorem ReadL.kid {xs : List Int} {ns : List PNode} {i j : Nat} (h : ReadL xs ns i) (me : Int) (hj : i + 1 ≤ j) (hm : j ≤ xs.length) : ReadL xs (kidAdd ns me) j := by
  refine ⟨fun n hn => ?_, by rw [kidAdd_len]; have := h.few; omega, hm⟩
  unfold kidAdd at hn
  split at hn
  · have := h.node n hn
    exact ⟨this.1, by omega⟩
  · obtain ⟨q, hq, e⟩ := List.getElem_of_mem hn
    rw [List.getElem_modify] at e
    rw [List.length_modify] at hq
    have h1 := h.node _ (List.getElem_mem hq)
    split at e
    · subst e
      refine ⟨⟨h1.1.nm, h1.1.tx, h1.1.rs, h1.1.each⟩, ?_⟩
      simp only [setKids, List.length_append, List.length_singleton]
      omega
    · subst e
      exact ⟨h1.1, by omega⟩
theorem ReadL.snoc {xs : List Int} {ns : List PNode} {i : Nat} (h : ∀ n ∈ ns, ReadN xs.length n ∧ n.kids.length ≤ i) (hf : ns.length + 1 ≤ i) (hm : i ≤ xs.length) {n : PNode} (hn : ReadN xs.length n) (me : Int) : ReadL xs (ns ++ [linkN n me []]) i := by
  refine ⟨fun x hx => ?_, by simp; omega, hm⟩
  rcases List.mem_append.mp hx with hx | hx
  · exact h x hx
  · rw [List.mem_singleton] at hx
    subst hx
    exact ⟨⟨hn.nm, hn.tx, hn.rs, hn.each⟩, Nat.zero_le _⟩
theorem rdB_some {xs : List Int} {nm : List ByteArray} {strict : Bool} {room : Nat → Bool} (hb : ∀ x ∈ xs, 0 ≤ x ∧ x ≤ 255) (hn : FitS xs.length nm) : ∀ (f k : Nat) (me : Int) (ns : List PNode) (i : Nat) (ms : List PNode) (j : Nat),
    rdB xs nm strict room f k me ns i = some (ms, j) → ReadL xs ns i → ReadL xs ms j ∧ i ≤ j ∧ ns.length ≤ ms.length
  | f, 0, me, ns, i, ms, j, h, hr => by
    rw [rdB_zero] at h
    simp only [Option.some.injEq, Prod.mk.injEq] at h
    obtain ⟨rfl, rfl⟩ := h
    exact ⟨hr, Nat.le_refl _, Nat.le_refl _⟩
  | 0, k + 1, me, ns, i, ms, j, h, _ => by cases h
  | f + 1, k + 1, me, ns, i, ms, j, h, hr => by
    rw [rdB] at h
    split at h
    · rcases h1 : rdOne xs nm strict i with _ | ⟨n, kd, p⟩
      · rw [h1] at h; cases h
      · rw [h1] at h
        simp only at h
        have e1 := rdOne_some hb hn h1
        rcases h2 : rdB xs nm strict room f kd ns.length (kidAdd ns me ++ [linkN n me []]) p with _ | ⟨ns', i'⟩
        · rw [h2] at h; cases h
        · rw [h2] at h
          simp only at h
          have hk := hr.kid me (j := p) (by omega) e1.2.1
          have e2 := rdB_some hb hn f kd _ _ _ _ _ h2 (ReadL.snoc hk.node (by rw [kidAdd_len]; have := hr.few; omega) e1.2.1 e1.2.2.1 me)
          have e3 := rdB_some hb hn f k _ _ _ _ _ h e2.1
          rw [List.length_append, kidAdd_len] at e2
          exact ⟨e3.1, by omega, by omega⟩
    · cases h
theorem rdN_some {xs : List Int} {nm : List ByteArray} {strict : Bool} {room : Nat → Bool} (hb : ∀ x ∈ xs, 0 ≤ x ∧ x ≤ 255) (hn : FitS xs.length nm) {f : Nat} {me : Int} {ns : List PNode} {i : Nat} {ms : List PNode} {j : Nat}
    (h : rdN xs nm strict room f me ns i = some (ms, j)) (hr : ∀ n ∈ ns, ReadN xs.length n ∧ n.kids.length ≤ i + 1) (hf : ns.length ≤ i) : ReadL xs ms j ∧ i + 2 ≤ j ∧ ns.length + 1 ≤ ms.length := by
  unfold rdN at h
  split at h
  · rcases h1 : rdOne xs nm strict i with _ | ⟨n, kd, p⟩
    · rw [h1] at h; cases h
    · rw [h1] at h
      simp only at h
      have e1 := rdOne_some hb hn h1
      have e2 := rdB_some hb hn f kd _ _ _ _ _ h (ReadL.snoc (fun n hn => ⟨(hr n hn).1, by have := (hr n hn).2; omega⟩) (by omega) e1.2.1 e1.2.2.1 me)
      rw [List.length_append, List.length_singleton] at e2
      exact ⟨e2.1, by omega, by omega⟩
  · cases h
theorem ReadL.fit {xs : List Int} {ns : List PNode} {i : Nat} (h : ReadL xs ns i) (hx : xs.length ≤ 1048576) : ∀ n ∈ ns, NodeFit n := fun n hn => by
  have := h.node n hn
  have h1 := h.most
  exact ⟨by have := this.1.nm; omega, by have := this.1.tx; omega, by have := this.1.rs; omega, fun p hp => by have := this.1.each p hp; omega, by omega⟩

def AtL (xs ys : List Int) (i : Nat) : Prop := ∃ pre rest, xs = pre ++ ys ++ rest ∧ pre.length = i
theorem AtL.left {xs a b : List Int} {i : Nat} (h : AtL xs (a ++ b) i) : AtL xs a i := by
  obtain ⟨p, r, e, hp⟩ := h
  exact ⟨p, b ++ r, by rw [e]; simp, hp⟩
theorem AtL.right {xs a b : List Int} {i : Nat} (h : AtL xs (a ++ b) i) : AtL xs b (i + a.length) := by
  obtain ⟨p, r, e, hp⟩ := h
  exact ⟨p ++ a, r, by rw [e]; simp, by simp [hp]⟩
theorem AtL.le {xs a : List Int} {i : Nat} (h : AtL xs a i) : i + a.length ≤ xs.length := by
  obtain ⟨p, r, e, hp⟩ := h
  rw [e, List.length_append, List.length_append, hp]
  omega
theorem form_pos (n : Nat) : 0 < (form n).length := List.length_pos_iff.mpr (form_ne n)
theorem rdP_form {xs : List Int} {i n : Nat} (h : AtL xs (form n) i) (hn : n ≤ 9223372036854775807) : rdP xs i = some (n, i + (form n).length) := by
  obtain ⟨p, r, e, hp⟩ := h
  unfold rdP
  rw [← hp, e, rdI_form (by omega) (by omega)]
  rfl
theorem rdX_form {xs : List Int} {i : Nat} {s : ByteArray} (h : AtL xs (textForm s) i) (hn : s.size ≤ 1099511627776) : rdX xs i = some (s, i + (textForm s).length) := by
  obtain ⟨p, r, e, hp⟩ := h
  unfold rdX
  rw [← hp, e, rdT_at2 s hn]
  simp only [strOf_bs, Int.toNat_natCast]
theorem fnd_nat {nm : List ByteArray} {s : ByteArray} (h : s ∈ nm) : fndS nm s = ((fndS nm s).toNat : Int) := by
  have := fndS_neg h
  omega
theorem rdM_form {xs : List Int} {i : Nat} {nm : List ByteArray} {s : ByteArray} (h : AtL xs (form (fndS nm s)) i) (hs : s ∈ nm) (hn : nm.length ≤ 1099511627776) : rdM xs nm i = some (s, i + (form (fndS nm s)).length) := by
  have ht := fndS_tells nm s hs
  rw [fnd_nat hs] at h
  unfold rdM
  rw [rdP_form h (by omega), ← fnd_nat hs]
  simp only [if_pos ht.1, List.getD_eq_getElem?_getD, ht.2, Option.getD_some]
theorem textForm_pos (s : ByteArray) : 0 < (textForm s).length := by
  have := form_pos s.size
  unfold textForm
  rw [List.length_append]
  omega
theorem rdAs_form {xs : List Int} {nm : List ByteArray} (hn : nm.length ≤ 1099511627776) : ∀ (rs acc : List (ByteArray × ByteArray)) (i f : Nat), xs.length < f + i → AtL xs (rs.flatMap (attrF nm)) i → (∀ p ∈ rs, p.1 ∈ nm ∧ p.2.size ≤ 1099511627776) →
    rdAs xs nm f rs.length i acc = some (acc ++ rs, i + (rs.flatMap (attrF nm)).length)
  | [], acc, i, f, _, _, _ => by cases f <;> simp [rdAs]
  | r :: rs, acc, i, f, hf, h, hr => by
    rw [List.flatMap_cons] at h ⊢
    have h1 := h.left
    have h2 := h.right
    have hl := h.le
    have hp := hr r (by simp)
    unfold attrF at h1
    have a1 := h1.left
    have a2 := h1.right
    have q2 := textForm_pos r.2
    have hlen : (attrF nm r).length = (form (fndS nm r.1)).length + (textForm r.2).length := by unfold attrF; rw [List.length_append]
    rw [List.length_append] at hl
    obtain ⟨g, rfl⟩ : ∃ g, f = g + 1 := ⟨f - 1, by omega⟩
    rw [List.length_cons, rdAs, rdM_form a1 hp.1 hn]
    simp only
    rw [rdX_form a2 hp.2]
    simp only
    have e : i + (form (fndS nm r.1)).length + (textForm r.2).length = i + (attrF nm r).length := by rw [hlen]; omega
    rw [e, rdAs_form hn rs (acc ++ [(r.1, r.2)]) (i + (attrF nm r).length) g (by omega) h2 (fun p hp => hr p (by simp [hp]))]
    simp only [List.append_assoc, List.singleton_append, List.length_append, Nat.add_assoc]
theorem rdNs_form {xs : List Int} : ∀ (rs acc : List ByteArray) (i f : Nat), xs.length < f + i → AtL xs (rs.flatMap textForm) i → (∀ p ∈ rs, p.size ≤ 1099511627776) →
    rdNs xs f rs.length i acc = some (acc ++ rs, i + (rs.flatMap textForm).length)
  | [], acc, i, f, _, _, _ => by cases f <;> simp [rdNs]
  | r :: rs, acc, i, f, hf, h, hr => by
    rw [List.flatMap_cons] at h ⊢
    have h1 := h.left
    have h2 := h.right
    have hl := h.le
    have hp := hr r (by simp)
    have q2 := textForm_pos r
    rw [List.length_append] at hl
    obtain ⟨g, rfl⟩ : ∃ g, f = g + 1 := ⟨f - 1, by omega⟩
    rw [List.length_cons, rdNs, rdX_form h1 hp]
    simp only
    rw [rdNs_form rs (acc ++ [r]) (i + (textForm r).length) g (by omega) h2 (fun p hp => hr p (by simp [hp]))]
    simp only [List.append_assoc, List.singleton_append, List.length_append, Nat.add_assoc]
structure Tells (nm : List ByteArray) (n : PNode) : Prop where
  kind : n.kind = 1 ∨ n.kind = 2 ∨ n.kind = 3 ∨ n.kind = 4 ∨ n.kind = 5
  name : n.kind = 2 ∨ n.kind = 3 → n.name ∈ nm
  noname : ¬ (n.kind = 2 ∨ n.kind = 3) → n.name = ⟨#[]⟩
  attrs : n.kind = 3 → ∀ p ∈ n.attrs, p.1 ∈ nm ∧ p.2.size ≤ 1099511627776
  many : n.attrs.length ≤ 1099511627776
  noattrs : n.kind ≠ 3 → n.attrs = []
  text : n.text.size ≤ 1099511627776
  notext : ¬ (n.kind = 4 ∨ n.kind = 5) → n.text = ⟨#[]⟩
  kids : n.kids.length ≤ 1099511627776
theorem rdOne_form {xs : List Int} {nm : List ByteArray} {strict : Bool} {i : Nat} {n : PNode} (hn : nm.length ≤ 1099511627776) (h : AtL xs (nodeF nm n) i) (t : Tells nm n) :
    rdOne xs nm strict i = some (alone n, n.kids.length, i + (nodeF nm n).length) := by
  have hk0 : n.kind = (n.kind.toNat : Int) := by have := t.kind; omega
  have hk1 : n.kind.toNat = 1 ∨ n.kind.toNat = 2 ∨ n.kind.toNat = 3 ∨ n.kind.toNat = 4 ∨ n.kind.toNat = 5 := by have := t.kind; omega
  unfold nodeF at h
  have h1 := h.left
  have h2 := h.right.left
  have h3 := h.right.right
  rw [hk0] at h1
  have key : rdFill xs nm strict n.kind.toNat (i + (form n.kind).length + (form n.kids.length).length) = some (alone n, i + (form n.kind).length + (form n.kids.length).length + (restF nm n).length) := by
    have hal : alone n = ⟨n.kind, n.name, n.attrs, n.text, -1, []⟩ := rfl
    unfold rdFill
    unfold restF at h3 ⊢
    rcases t.kind with e | e | e | e | e <;> rw [e] at h3 ⊢ <;> simp only [if_true, if_false, Int.reduceEq, Int.reduceToNat, Nat.reduceEqDiff, or_self, or_true, true_or, ne_eq, not_true_eq_false, and_false] at h3 ⊢
    · rw [hal, e, t.noname (by omega), t.noattrs (by omega), t.notext (by omega)]
      simp
    · rw [rdM_form h3 (t.name (by omega)) hn]
      simp only
      rw [hal, e, t.noattrs (by omega), t.notext (by omega)]
      simp
    · rw [rdM_form h3.left (t.name (by omega)) hn]
      simp only
      rw [rdP_form h3.right.left (by have := t.many; omega)]
      simp only
      have hl := h3.right.right.le
      rw [rdAs_form hn n.attrs [] _ _ (by omega) h3.right.right (t.attrs e)]
      simp only
      rw [hal, e, t.notext (by omega)]
      simp only [List.nil_append, List.length_append, Nat.add_assoc]
      simp
    · rw [rdX_form h3 t.text]
      simp only
      rw [hal, e, t.noname (by omega), t.noattrs (by omega)]
      simp
    · rw [rdX_form h3 t.text]
      simp only
      rw [hal, e, t.noname (by omega), t.noattrs (by omega)]
      simp
  unfold rdOne
  rw [rdP_form h1 (by omega), ← hk0]
  simp only
  rw [rdP_form h2 (by have := t.kids; omega)]
  simp only
  rw [key]
  simp only [nodeF, List.length_append, Nat.add_assoc]
theorem tdK_app (ns : List PNode) (f base : Nat) (p : List Int) : ∀ q : List Int, ∃ E G, (tdK ns f base (p ++ q)).2 = (tdK ns f base p).2 ++ E ∧ (tdK ns f base (p ++ q)).1 = (tdK ns f base p).1 ++ G := by
  intro q
  induction q generalizing p with
  | nil => exact ⟨[], [], by simp, by simp⟩
  | cons x q ih =>
    obtain ⟨E, G, h1, h2⟩ := ih (p ++ [x])
    rw [List.append_assoc, List.singleton_append, tdK_snoc] at h1 h2
    exact ⟨_, _, by rw [h1]; simp only; rw [List.append_assoc], by rw [h2]; simp only; rw [List.append_assoc]⟩
theorem tdK_len1 (ns : List PNode) (f base : Nat) (p : List Int) : (tdK ns f base p).1.length = p.length := by
  have : ∀ q p : List Int, (tdK ns f base (p ++ q)).1.length = (tdK ns f base p).1.length + q.length := by
    intro q
    induction q with
    | nil => intro p; simp
    | cons x q ih =>
      intro p
      have := ih (p ++ [x])
      rw [List.append_assoc, List.singleton_append, tdK_snoc] at this
      rw [this]
      simp
      omega
  have := this p []
  simpa [tdK_nil] using this
theorem kidAdd_at (l r : List PNode) (a : PNode) (par : Int) (ks : List Int) : kidAdd (l ++ linkN a par ks :: r) (l.length : Nat) = l ++ linkN a par (ks ++ [((l.length + 1 + r.length : Nat) : Int)]) :: r := by
  unfold kidAdd
  rw [if_neg (by omega), Int.toNat_natCast]
  have : (l ++ linkN a par ks :: r).length = l.length + 1 + r.length := by simp; omega
  rw [this]
  clear this
  apply List.ext_getElem?
  intro i
  rw [List.getElem?_modify]
  by_cases h1 : i < l.length
  · rw [List.getElem?_append_left h1, List.getElem?_append_left h1]
    have hne : ¬ l.length = i := by omega
    simp [hne]
  · rw [List.getElem?_append_right (by omega), List.getElem?_append_right (by omega)]
    by_cases h2 : i = l.length
    · subst h2
      simp [linkN, setKids]
    · obtain ⟨m, hm⟩ : ∃ m, i - l.length = m + 1 := ⟨i - l.length - 1, by omega⟩
      have hne : ¬ l.length = i := by omega
      rw [hm]
      simp [hne]

theorem kidAdd_neg (ns : List PNode) {me : Int} (h : me < 0) : kidAdd ns me = ns := by unfold kidAdd; rw [if_pos h]
theorem rdN_form {ns : List PNode} {xs : List Int} {nm : List ByteArray} {strict : Bool} {room : Nat → Bool} {total : Nat} (hn : nm.length ≤ 1099511627776) (hroom : ∀ m, m < total → room m = true)
    (ht : ∀ k (h : k < ns.length), Tells nm ns[k]) : ∀ (f k : Nat) (par : Int) (l : List PNode) (i F : Nat), deepOk ns f k → l.length + (tdL ns f k par l.length).length ≤ total → AtL xs ((tdL ns f k par l.length).flatMap (nodeF nm)) i → xs.length < F + i →
    rdN xs nm strict room F par l i = some (l ++ tdL ns f k par l.length, i + ((tdL ns f k par l.length).flatMap (nodeF nm)).length)
  | 0, _, _, _, _, _, h, _, _, _ => h.elim
  | f + 1, k, par, l, i, F, hd, htot, hat, hF => by
    obtain ⟨hk, hkids⟩ := hd
    rw [tdL_succ] at htot hat ⊢
    obtain ⟨st, hst⟩ : ∃ st, st = tdK ns f l.length (kidsOf ns k) := ⟨_, rfl⟩
    rw [← hst] at htot hat ⊢
    have hkl : st.1.length = (kidsOf ns k).length := by rw [hst, tdK_len1]
    have hko := kidsOf_at hk
    have hal := aloneAt_at hk
    rw [List.flatMap_cons] at hat ⊢
    rw [List.length_cons] at htot
    have hT := ht k hk
    have hT2 : Tells nm (linkN (aloneAt ns k) par st.1) := by
      rw [hal]
      exact ⟨hT.kind, hT.name, hT.noname, hT.attrs, hT.many, hT.noattrs, hT.text, hT.notext, by simp only [linkN]; rw [hkl, hko]; exact hT.kids⟩
    have hone := rdOne_form (strict := strict) hn hat.left hT2
    have hal2 : alone (linkN (aloneAt ns k) par st.1) = alone (aloneAt ns k) := rfl
    have hlk : linkN (alone (aloneAt ns k)) par [] = linkN (aloneAt ns k) par [] := rfl
    have hkl2 : (linkN (aloneAt ns k) par st.1).kids.length = (kidsOf ns k).length := hkl
    have hpos : 0 < (nodeF nm (linkN (aloneAt ns k) par st.1)).length := by
      have e : (linkN (aloneAt ns k) par st.1).kind = (((linkN (aloneAt ns k) par st.1).kind).toNat : Int) := by have := hT2.kind; omega
      unfold nodeF
      rw [List.length_append, e]
      have := form_pos (linkN (aloneAt ns k) par st.1).kind.toNat
      omega
    have hat2 := hat.right
    have hle := hat.le
    rw [List.length_append] at hle
    obtain ⟨i0, hi0⟩ : ∃ i0, i0 = i + (nodeF nm (linkN (aloneAt ns k) par st.1)).length := ⟨_, rfl⟩
    rw [← hi0] at hat2 hone
    unfold rdN
    rw [if_pos (hroom _ (by omega)), hone]
    simp only
    rw [hal2, hlk, hkl2, List.length_append, ← Nat.add_assoc, ← hi0]
    have key : ∀ (q p : List Int) (G : Nat), p ++ q = kidsOf ns k → xs.length + 1 < G + (i0 + (((tdK ns f l.length p).2.flatMap (nodeF nm)).length)) →
        rdB xs nm strict room G q.length (l.length : Nat) (l ++ linkN (aloneAt ns k) par (tdK ns f l.length p).1 :: (tdK ns f l.length p).2) (i0 + ((tdK ns f l.length p).2.flatMap (nodeF nm)).length) =
          some (l ++ linkN (aloneAt ns k) par st.1 :: st.2, i0 + (st.2.flatMap (nodeF nm)).length) := by
      intro q
      induction q with
      | nil =>
        intro p G hp hG
        rw [List.append_nil] at hp
        rw [hp, ← hst, List.length_nil, rdB_zero]
      | cons x q ih =>
        intro p G hp hG
        have hx := hkids x (by rw [← hp]; simp)
        have hp2 : (p ++ [x]) ++ q = kidsOf ns k := by rw [← hp]; simp
        obtain ⟨E, H, hE, hH⟩ := tdK_app ns f l.length (p ++ [x]) q
        rw [hp2, ← hst, tdK_snoc] at hE hH
        simp only at hE hH
        have hl1 : (l ++ linkN (aloneAt ns k) par ((tdK ns f l.length p).1 ++ [((l.length + 1 + (tdK ns f l.length p).2.length : Nat) : Int)]) :: (tdK ns f l.length p).2).length = l.length + 1 + (tdK ns f l.length p).2.length := by simp; omega
        have hat3 := hat2
        rw [hE, List.flatMap_append, List.flatMap_append, List.append_assoc] at hat3
        have hat4 := hat3.right.left
        have hle4 := hat4.le
        have hposx : 0 < ((tdL ns f x.toNat l.length (l.length + 1 + (tdK ns f l.length p).2.length)).flatMap (nodeF nm)).length := by
          cases f with
          | zero => exact hx.2.elim
          | succ f =>
            have hk2 := hx.2.1
            have t2 := ht _ hk2
            rw [tdL_succ, List.flatMap_cons, List.length_append]
            have e : ∀ y z, 0 < (nodeF nm (linkN (aloneAt ns x.toNat) y z)).length := fun y z => by
              have e : (linkN (aloneAt ns x.toNat) y z).kind = ((ns[x.toNat].kind).toNat : Int) := by
                have := t2.kind
                simp only [linkN, aloneAt_at hk2, alone]
                omega
              unfold nodeF
              rw [List.length_append, e]
              have := form_pos ns[x.toNat].kind.toNat
              omega
            have := e (l.length : Int) (tdK ns f (l.length + 1 + (tdK ns (f + 1) l.length p).2.length) (kidsOf ns x.toNat)).1
            omega
        obtain ⟨g, rfl⟩ : ∃ g, G = g + 1 := ⟨G - 1, by omega⟩
        have hst2 : st.2.length = (tdK ns f l.length p).2.length + (tdL ns f x.toNat l.length (l.length + 1 + (tdK ns f l.length p).2.length)).length + E.length := by rw [hE]; simp; omega
        rw [List.length_cons, rdB_succ, kidAdd_at]
        have hrec := rdN_form (strict := strict) hn hroom ht f x.toNat (l.length : Nat) (l ++ linkN (aloneAt ns k) par ((tdK ns f l.length p).1 ++ [((l.length + 1 + (tdK ns f l.length p).2.length : Nat) : Int)]) :: (tdK ns f l.length p).2)
          (i0 + ((tdK ns f l.length p).2.flatMap (nodeF nm)).length) g hx.2 (by rw [hl1]; omega) (by rw [hl1]; exact hat4) (by omega)
        rw [hl1] at hrec
        rw [hrec, Option.bind_some]
        have hnext := ih (p ++ [x]) g hp2
        rw [tdK_snoc] at hnext
        simp only [List.flatMap_append, List.length_append] at hnext ⊢
        rw [List.append_assoc, List.cons_append]
        rw [Nat.add_assoc i0]
        exact hnext (by omega)
    have h0 := key (kidsOf ns k) [] F (by simp) (by
      have e : 0 < (form (linkN (aloneAt ns k) par st.1).kids.length).length := form_pos _
      rw [tdK_nil]
      simp only [List.flatMap_nil, List.length_nil, Nat.add_zero]
      have hp2 : 2 ≤ (nodeF nm (linkN (aloneAt ns k) par st.1)).length := by
        have e3 : (linkN (aloneAt ns k) par st.1).kind = (((linkN (aloneAt ns k) par st.1).kind).toNat : Int) := by have := hT2.kind; omega
        unfold nodeF
        rw [List.length_append, List.length_append, e3]
        have := form_pos (linkN (aloneAt ns k) par st.1).kind.toNat
        omega
      omega)
    rw [tdK_nil] at h0
    simpa using h0
end Go.Proofs.YtogdbjafibejdaaGreat
