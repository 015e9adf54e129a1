/- The program's list of names: add, and its map of places. No condition. -/
import Derived.Test.YtogdbjafibejdaaGreatX42
import Derived.Test.YtogdbjafibejdaaGreatX17
import Derived.Maps.OwnSet
import Derived.Maps.Views
import Derived.Test.YtogdbjafibejdaaGreatX19
import Derived.Test.YtogdbjafibejdaaGreatX39
import Derived.Test.YtogdbjafibejdaaGreatX14
namespace Go.Proofs.YtogdbjafibejdaaGreat
open Go.RowKit Go.Maps
set_option maxRecDepth 100000
set_option linter.unusedVariables false

theorem lawNm : Keyed Tryz.prog 9 := string_keyed Tryz.underlying9
theorem keyOf_nm {s : ByteArray} (h : s.size ≤ maxLen) : keyOf Tryz.prog 9 (.string s) = some (.string s.data.toList) := by
  simp [keyOf, Tryz.underlying9, mapKey, h]
theorem zeroNm (w : World) : (zeroValue 3).run Tryz.prog w = .ok (.int .i64 0) w := by kernel_rfl
theorem nm_ne {s t : ByteArray} (h : s ≠ t) : (Lit.string s.data.toList) ≠ Lit.string t.data.toList := by
  intro e
  injection e with e
  apply h
  cases s; cases t
  congr 1
  exact Array.toList_inj.mp e
def PlcOf (D : DataW Unit) (nm : List ByteArray) : Prop := IsMap D ∧ ∀ (s : ByteArray) (zd : DataW Unit), D.atKey (.string s.data.toList) zd = if fndS nm s < 0 then zd else .lit (.int .i64 (fndS nm s))
theorem plc_nil : PlcOf (.map []) [] := ⟨isMap_empty, fun s zd => by rw [atKey_of_not_has rfl]; rfl⟩
theorem fndS_other {t s : ByteArray} (h : s ≠ t) : ∀ l : List ByteArray, fndS (l ++ [t]) s = fndS l s
  | [] => by
    have : t ≠ s := fun e => h e.symm
    simp [fndS, this]
  | x :: l => by rw [List.cons_append, fndS, fndS, fndS_other h l]
theorem fndS_in {l : List ByteArray} {s : ByteArray} : ¬ fndS l s < 0 ↔ s ∈ l := by
  constructor
  · intro h
    by_cases hm : s ∈ l
    · exact hm
    · exact absurd (by rw [fndS_none l s hm]; omega) h
  · intro h
    have := fndS_neg h
    omega
theorem PlcOf.put {D : DataW Unit} {nm : List ByteArray} (h : PlcOf D nm) {t : ByteArray} (ht : fndS nm t < 0) : PlcOf (D.put (.string t.data.toList) (.lit (.int .i64 (nm.length : Nat)))) (nm ++ [t]) := by
  have hni : t ∉ nm := fun e => fndS_in.mpr e ht
  refine ⟨h.1.put _ _, fun s zd => ?_⟩
  by_cases hs : s = t
  · subst hs
    rw [atKey_put_same h.1 (show WideAt.IsKeyLit (.string _) from trivial), fndS_at nm [] s hni, if_neg (by omega)]
  · rw [atKey_put_other (nm_ne hs), h.2, fndS_other hs]
theorem PlcOf.has {D : DataW Unit} {nm : List ByteArray} (h : PlcOf D nm) (s : ByteArray) : Maps.has D (.string s.data.toList) = !decide (fndS nm s < 0) := by
  have h2 := h.2 s
  by_cases hs : fndS nm s < 0
  · simp only [if_pos hs] at h2
    rw [has_false_of_atKey h2]
    simp [hs]
  · simp only [if_neg hs] at h2
    rw [has_true_of_atKey h2]
    simp [hs]
def NmAt (B N M : Nat) (nm : List ByteArray) (W : World) : Prop :=
  B ≤ N ∧ B ≤ M ∧ ∃ u D n, W.heap[N]? = some (.cells #[u, .map (some M)] 150 (0, 0)) ∧ OwnS B W u nm ∧ W.ownsMap Tryz.prog 9 (plainElem Tryz.prog 3) M n D ∧ n ≤ nm.length ∧ PlcOf D nm
structure NmFr (B N M : Nat) (w w' : World) : Prop where
  os : w'.os = w.os
  tape : w'.tape = w.tape
  output : w'.output = w.output
  size : w.heap.size ≤ w'.heap.size
  block : ∀ j, j < w.heap.size → j ≠ N → j ≠ M → (j < B ∨ ∀ cs t fr, w.heap[j]? = some (.cells cs t fr) → t ≠ 9) → w'.heap[j]? = w.heap[j]?
theorem NmFr.box {B N M : Nat} {w w' : World} (h : NmFr B N M w w') {j : Nat} {cs : Array Value} {t : TypeId} (hj : w.heap[j]? = some (.cells cs t (0, 0))) (ht : t ≠ 9) (h1 : j ≠ N) (h2 : j ≠ M) : w'.heap[j]? = some (.cells cs t (0, 0)) :=
  (h.block j (blk_lt hj) h1 h2 (.inr (fun cs' t' fr' e => by rw [hj] at e; cases e; exact ht))).trans hj
theorem NmFr.below {B N M : Nat} {w w' : World} (h : NmFr B N M w w') (hN : B ≤ N) (hM : B ≤ M) (hB : B ≤ w.heap.size) : Below B w w' := ⟨h.os, h.tape, h.output, h.size, fun j hj => h.block j (by omega) (by omega) (by omega) (.inl hj)⟩
theorem NmFr.refl {B N M : Nat} (w : World) : NmFr B N M w w := ⟨rfl, rfl, rfl, Nat.le_refl _, fun j _ _ _ _ => rfl⟩
theorem NmAt.lt {B N M : Nat} {nm : List ByteArray} {W : World} (h : NmAt B N M nm W) : N < W.heap.size ∧ M < W.heap.size ∧ N ≠ M := by
  obtain ⟨_, _, u, D, n, hN, _, hM, _, _⟩ := h
  refine ⟨blk_lt hN, hM.lt, fun e => ?_⟩
  obtain ⟨es, clock, hb, _⟩ := hM
  rw [← e, hN] at hb
  cases hb
theorem ownS_kind {B : Nat} {W : World} {u : Value} {nm : List ByteArray} (o : OwnS B W u nm) : ∀ r, u.ownBlock = some r → B ≤ r ∧ ∃ cs fr, W.heap[r]? = some (.cells cs 9 fr) := fun r hr => by
  refine ⟨(World.ownsRow.lt o r hr).1, ?_⟩
  rcases o.2 with ⟨e, _⟩ | ⟨g', cap', cur, e, _, hh, _⟩
  · rw [e] at hr; cases hr
  · rw [e] at hr; cases hr; exact ⟨_, _, hh⟩
theorem NmAt.below {B N M : Nat} {nm : List ByteArray} {W W' : World} (h : NmAt B N M nm W) (b : Below W.heap.size W W') : NmAt B N M nm W' := by
  obtain ⟨h1, h2, u, D, n, hN, o, hM, hn, hp⟩ := h
  exact ⟨h1, h2, u, D, n, (b.block _ (blk_lt hN)).trans hN, o.below b, hM.kept ⟨b.os, b.tape, b.output, b.size, fun j hj _ => b.block j hj⟩ (row := none) (by simp), hn, hp⟩

theorem two_cells {w : World} {b : Nat} {u v : Value} {t : TypeId} (h : w.heap[b]? = some (.cells #[u, v] t (0, 0))) : w.cell? ⟨b, 0, none⟩ = some u ∧ w.cell? ⟨b, 1, none⟩ = some v ∧ w.frozen? ⟨b, 0, none⟩ = false ∧ w.frozen? ⟨b, 1, none⟩ = false :=
  ⟨by simp only [World.cell?, h]; rfl, by simp only [World.cell?, h]; rfl, by simp only [World.frozen?, h]; rfl, by simp only [World.frozen?, h]; rfl⟩
theorem kept_of_map {B e size n M : Nat} {w w' : World} {v : Value} {xs : List Value} (h : w.ownsRow B e size v n xs) (hg : w.grownBy w' (some M)) (hM : ∀ cs t fr, w.heap[M]? ≠ some (.cells cs t fr)) : w'.ownsRow B e size v n xs := by
  refine h.kept hg ?_
  rcases h.2 with ⟨rfl, _⟩ | ⟨g, cap, cur, rfl, _, hh, _⟩
  · exact .inl rfl
  · refine .inr fun er => ?_
    cases er
    exact hM _ _ _ hh
theorem ownsMap_not {k : TypeId} {R : Value → Option (DataW Unit × List MemPlace)} {b n : Nat} {D : DataW Unit} {w : World} (h : w.ownsMap Tryz.prog k R b n D) : ∀ cs t fr, w.heap[b]? ≠ some (.cells cs t fr) := by
  obtain ⟨es, clock, hb, _⟩ := h
  intro cs t fr e
  rw [hb] at e
  cases e
theorem add_end {B N M : Nat} {nm : List ByteArray} {w w1 w9 : World} {v u9 : Value} {s : ByteArray} {D : DataW Unit} {n : Nat} (hBN : B ≤ N) (hBM : B ≤ M) (hNM : N ≠ M) (hNl : N < w.heap.size) (hMl : M < w.heap.size) (hB : B ≤ w.heap.size) (hn : n ≤ nm.length) (hp : PlcOf D nm) (hin : fndS nm s < 0)
    (hN : w.heap[N]? = some (.cells #[v, .map (some M)] 150 (0, 0))) (o1 : w1.ownsMap Tryz.prog 9 (plainElem Tryz.prog 3) M (n + 1) (D.put (.string s.data.toList) (.lit (.int .i64 (nm.length : Nat))))) (g1 : w.grownBy w1 (some M))
    (os1 : OwnS B w1 v nm) (o9 : OwnS B w9 u9 (nm ++ [s])) (g9 : w1.grownBy w9 v.ownBlock) :
    NmAt B N M (nm ++ [s]) (w9.setCell ⟨N, 0, none⟩ u9) ∧ NmFr B N M w (w9.setCell ⟨N, 0, none⟩ u9) := by
  have hk := ownS_kind os1
  have gN1 : w1.heap[N]? = some (.cells #[v, .map (some M)] 150 (0, 0)) := (g1.block N hNl (fun e => by cases e; exact hNM rfl)).trans hN
  have gN9 : w9.heap[N]? = some (.cells #[v, .map (some M)] 150 (0, 0)) := (g9.block N (blk_lt gN1) (fun e => by obtain ⟨_, c, f, hh⟩ := hk N e.symm; rw [gN1] at hh; cases hh)).trans gN1
  have o9m := o1.kept g9 (fun e => by obtain ⟨_, c, f, hh⟩ := hk M e.symm; exact ownsMap_not o1 _ _ _ hh)
  refine ⟨⟨hBN, hBM, u9, _, n + 1, setCell_at (k := 0) (u := u9) gN9, ?_, o9m.setCell (fun e => hNM e.symm) _, by simp; omega, hp.put hin⟩, ?_⟩
  · exact kept_of_type o9 (grown_setCell w9 N 0 u9) (fun r e => by cases e; exact ⟨_, _, _, gN9, by decide⟩)
  · have gs := grown_setCell w9 N 0 u9
    refine ⟨gs.os.trans (g9.os.trans g1.os), gs.tape.trans (g9.tape.trans g1.tape), gs.output.trans (g9.output.trans g1.output), Nat.le_trans g1.size (Nat.le_trans g9.size gs.size), fun j hj j1 j2 hb => ?_⟩
    have e1 := g1.block j hj (fun e => by cases e; exact j2 rfl)
    have hj1 : j < w1.heap.size := Nat.lt_of_lt_of_le hj g1.size
    have e2 := g9.block j hj1 (fun e => by
      obtain ⟨hr, c, f, hh⟩ := hk j e.symm
      rcases hb with hb | hb
      · omega
      · rw [e1] at hh
        exact hb _ _ _ hh rfl)
    have e3 := gs.block j (Nat.lt_of_lt_of_le hj1 g9.size) (fun e => by cases e; exact j1 rfl)
    exact e3.trans (e2.trans e1)

set_option maxHeartbeats 2000000 in
set_option maxRecDepth 100000 in
theorem inameAdd_any {B N M : Nat} {nm : List ByteArray} {w : World} (h : NmAt B N M nm w) (hB : B ≤ w.heap.size) (s : ByteArray) (hs : s.size ≤ 1099511627776) (hl : nm.length ≤ 1000000000000) :
    Calls Tryz.prog 128 #[.pointer (some ⟨N, 0, none⟩), .string s] w fun e w' => e = .returned (.tuple #[]) ∧ NmAt B N M (putS nm s) w' ∧ NmFr B N M w w' := by
  have hlt := h.lt
  have H0 := (show Hid (NmAt B N M nm w) from h)
  obtain ⟨hBN, hBM, u, D, n, hN, o, hM, hn, hp⟩ := h
  have hkey := keyOf_nm (s := s) (by unfold maxLen; omega)
  obtain ⟨c0, c1, z0, _⟩ := two_cells hN
  obtain ⟨lv, lps, hrun, _⟩ := hM.look_ok lawNm Tryz.underlying148 (zeroNm w) (plainElem_int Tryz.underlying3 (by decide)) hkey
  rw [hp.has s] at hrun
  by_cases hin : fndS nm s < 0
  · have hd : (!decide (fndS nm s < 0)) = false := by simp [hin]
    rw [hd] at hrun
    have HPS := (show Hid (putS nm s = nm ++ [s]) from (if_pos hin : putS nm s = nm ++ [s]))
    obtain ⟨i0, hi, hz0, hz1, hz2⟩ := info_parts Tryz.infoStrZ
    obtain ⟨ua, un, uc, rfl⟩ := own_slice o
    obtain ⟨enn, _⟩ := str_cell (OwnS.sv o)
    subst enn
    obtain ⟨w1, r1, o1, g1⟩ := (hM.drew).update (d := .lit (.int .i64 (nm.length : Nat))) lawNm Tryz.underlying148 (by unfold maxLen; omega) hkey (plainElem_int Tryz.underlying3 (by simp [Lit.wf, IntKind.min, IntKind.max, IntKind.bits, IntKind.signed]; omega))
    have g1' : w.grownBy w1 (some M) := grown_trans (grown_drewN w 1 _) g1
    have gN1 : w1.heap[N]? = some (.cells #[.slice ua nm.length uc, .map (some M)] 150 (0, 0)) := (g1'.block N hlt.1 (fun e => by cases e; exact hlt.2.2 rfl)).trans hN
    obtain ⟨d0, d1, y0, _⟩ := two_cells gN1
    have os1 : OwnS B w1 (.slice ua nm.length uc) nm := kept_of_map o g1' (ownsMap_not hM)
    have hs1 : w.heap.size ≤ w1.heap.size := g1'.size
    have H1 := (show Hid (OwnS B (w1.alloc (.cells #[.string s] 9)) (.slice ua nm.length uc) nm) from os1.below ((Below.refl _ _).alloc (Nat.le_refl _) _))
    have S1 := (show Hid (Sv 1 (w1.alloc (.cells #[.string s] 9)) (.slice (some ⟨w1.heap.size, 0, none⟩) 1 1) [.string s]) from by
      refine ⟨_, 1, 1, rfl, rfl, Nat.le_refl _, by unfold maxLen; omega, (fun e => (by cases e)), fun j hj => ?_⟩
      have : j = 0 := by simp at hj; omega
      subst this
      exact ⟨w1.heap.size, 0, rfl, by simp only [World.cell?, World.alloc_heap_new]; rfl⟩)
    have HE := (show Hid (∀ w9 u9, OwnS B w9 u9 (nm ++ [s]) → w1.grownBy w9 (Value.slice ua nm.length uc).ownBlock → NmAt B N M (nm ++ [s]) (w9.setCell ⟨N, 0, none⟩ u9) ∧ NmFr B N M w (w9.setCell ⟨N, 0, none⟩ u9)) from fun w9 u9 o9 g9 => add_end hBN hBM hlt.2.2 hlt.1 hlt.2.1 hB hn hp hin hN o1 g1' os1 o9 g9)
    have HG := (show Hid _ from gN1)
    have OS1 := (show Hid _ from os1)
    have hl1 := blk_lt gN1
    clear hN o hM hp o1 g1 g1' gN1 os1 hn hd
    go_enter Tryz.func128, Tryz.ntmps128
    go_wp2
    go_region
    all_goals
      go_wp2_with (first
        | (at_builtin
           refine wpList_appV _ rfl (.tmp 31) (.tmp 33) 82 rfl B 9 i0 _ 1 16 Tryz.underlying82 hi hz0 hz1 hz2 rfl (by decide) (.slice ua nm.length uc) _ nm.length 1 (nm.map Value.string) [.string s] rfl rfl H1.out S1.out rfl (fun y hy => by simp at hy; subst hy; rfl) (by omega) (by unfold maxLen; omega) (by rw [World.size_alloc]; omega) ?_
           intro v9 w9 o9 g9
           have R := (show Hid (OwnS B w9 v9 (nm ++ [s]) ∧ w1.grownBy w9 (Value.ownBlock (.slice ua nm.length uc))) from ⟨(by unfold OwnS; rw [List.length_append, List.map_append]; exact o9), grown_trans (World.grownBy_alloc _ _ _) g9⟩)
           have gN9 : w9.heap[N]? = some (.cells #[.slice ua nm.length uc, .map (some M)] 150 (0, 0)) := (R.out.2.block N hl1 (fun e => by obtain ⟨_, c, f, hh⟩ := ownS_kind OS1.out N e.symm; rw [HG.out] at hh; cases hh)).trans HG.out
           obtain ⟨e0, e1, x0, _⟩ := two_cells gN9
           obtain ⟨u2, u3, u4, rfl⟩ := own_slice R.out.1
           clear o9 g9 gN9)
        | fail)
      go_end0
      rw [HPS.out]
      exact ⟨rfl, HE.out _ _ R.out.1 R.out.2⟩
  · have hd : (!decide (fndS nm s < 0)) = true := by simp [hin]
    rw [hd] at hrun
    have HPS := (show Hid (putS nm s = nm) from (if_neg hin : putS nm s = nm))
    clear hN o hM hp hd
    go_enter Tryz.func128, Tryz.ntmps128
    go_wp2
    go_end0
    rw [HPS.out]
    exact ⟨rfl, H0.out, NmFr.refl _⟩
end Go.Proofs.YtogdbjafibejdaaGreat

/- Reading a tree's bytes, plainly: what the readers make of any bytes; the form of a tidy tree is read as the tree. No condition. -/
namespace Go.Proofs.YtogdbjafibejdaaGreat
open Go.RowKit
set_option maxRecDepth 100000
set_option linter.unusedVariables false
def kidAdd (ns : List PNode) (me : Int) : List PNode := if me < 0 then ns else ns.modify me.toNat (fun n => setKids n (n.kids ++ [(ns.length : Int)]))
theorem kidAdd_len (ns : List PNode) (me : Int) : (kidAdd ns me).length = ns.length := by unfold kidAdd; split <;> simp
structure ReadN (m : Nat) (n : PNode) : Prop where
  nm : n.name.size ≤ m
  tx : n.text.size ≤ m
  rs : n.attrs.length ≤ m
  each : ∀ p ∈ n.attrs, p.1.size ≤ m ∧ p.2.size ≤ m
structure ReadL (xs : List Int) (ns : List PNode) (i : Nat) : Prop where
  node : ∀ n ∈ ns, ReadN xs.length n ∧ n.kids.length ≤ i
  few : ns.length ≤ i
  most : i ≤ xs.length
theorem ReadL.kid {xs : List Int} {ns : List PNode} {i j : Nat} (h : ReadL xs ns i) (me : Int) (hj : i + 1 ≤ j) (hm : j ≤ xs.length) : ReadL xs (kidAdd ns me) j := by
  refine ⟨fun n hn => ?_, by rw [kidAdd_len]; have := h.few; omega, hm⟩
  unfold kidAdd at hn
  split at hn
  · have := h.node n hn
    exact ⟨this.1, by omega⟩
  · obtain ⟨q, hq, e⟩ := List.getElem_of_mem hn
    rw [List.getElem_modify] at e
    rw [List.length_modify] at hq
    have h1 := h.node _ (List.getElem_mem hq)
    split at e
    · subst e
      refine ⟨⟨h1.1.nm, h1.1.tx, h1.1.rs, h1.1.each⟩, ?_⟩
      simp only [setKids, List.length_append, List.length_singleton]
      omega
    · subst e
      exact ⟨h1.1, by omega⟩
theorem ReadL.snoc {xs : List Int} {ns : List PNode} {i : Nat} (h : ∀ n ∈ ns, ReadN xs.length n ∧ n.kids.length ≤ i) (hf : ns.length + 1 ≤ i) (hm : i ≤ xs.length) {n : PNode} (hn : ReadN xs.length n) (me : Int) : ReadL xs (ns ++ [linkN n me []]) i := by
  refine ⟨fun x hx => ?_, by simp; omega, hm⟩
  rcases List.mem_append.mp hx with hx | hx
  · exact h x hx
  · rw [List.mem_singleton] at hx
    subst hx
    exact ⟨⟨hn.nm, hn.tx, hn.rs, hn.each⟩, Nat.zero_le _⟩
theorem ReadL.fit {xs : List Int} {ns : List PNode} {i : Nat} (h : ReadL xs ns i) (hx : xs.length ≤ 1048576) : ∀ n ∈ ns, NodeFit n := fun n hn => by
  have := h.node n hn
  have h1 := h.most
  exact ⟨by have := this.1.nm; omega, by have := this.1.tx; omega, by have := this.1.rs; omega, fun p hp => by have := this.1.each p hp; omega, by omega⟩

def AtL (xs ys : List Int) (i : Nat) : Prop := ∃ pre rest, xs = pre ++ ys ++ rest ∧ pre.length = i
theorem AtL.right {xs a b : List Int} {i : Nat} (h : AtL xs (a ++ b) i) : AtL xs b (i + a.length) := by
  obtain ⟨p, r, e, hp⟩ := h
  exact ⟨p ++ a, r, by rw [e]; simp, by simp [hp]⟩
theorem AtL.le {xs a : List Int} {i : Nat} (h : AtL xs a i) : i + a.length ≤ xs.length := by
  obtain ⟨p, r, e, hp⟩ := h
  rw [e, List.length_append, List.length_append, hp]
  omega
structure Tells (nm : List ByteArray) (n : PNode) : Prop where
  kind : n.kind = 1 ∨ n.kind = 2 ∨ n.kind = 3 ∨ n.kind = 4 ∨ n.kind = 5
  name : n.kind = 2 ∨ n.kind = 3 → n.name ∈ nm
  noname : ¬ (n.kind = 2 ∨ n.kind = 3) → n.name = ⟨#[]⟩
  attrs : n.kind = 3 → ∀ p ∈ n.attrs, p.1 ∈ nm ∧ p.2.size ≤ 1099511627776
  many : n.attrs.length ≤ 1099511627776
  noattrs : n.kind ≠ 3 → n.attrs = []
  text : n.text.size ≤ 1099511627776
  notext : ¬ (n.kind = 4 ∨ n.kind = 5) → n.text = ⟨#[]⟩
  kids : n.kids.length ≤ 1099511627776
end Go.Proofs.YtogdbjafibejdaaGreat

/- The program's namesOf (written by mk/ipk4.py). No condition. -/
namespace Go.Proofs.YtogdbjafibejdaaGreat
open Go.RowKit Go.Maps
set_option maxRecDepth 100000
set_option linter.unusedVariables false

def NmD (w : World) (N M : Nat) (out : List ByteArray) (P : Nat) (row : Array Value) (W : World) : Prop :=
  NmAt w.heap.size N M out W ∧ Below w.heap.size w W ∧ W.heap[P]? = some (.cells row 36 (0, 0)) ∧ P ≠ N ∧ P ≠ M
theorem NmD.add {w : World} {N M : Nat} {out o2 : List ByteArray} {P : Nat} {row : Array Value} {W W' : World} (h : NmD w N M out P row W) (h2 : NmAt w.heap.size N M o2 W') (f : NmFr w.heap.size N M W W') : NmD w N M o2 P row W' :=
  ⟨h2, h.2.1.trans (f.below h.1.1 h.1.2.1 h.2.1.size), f.box h.2.2.1 (by decide) h.2.2.2.1 h.2.2.2.2, h.2.2.2⟩
theorem NmD.box {w : World} {N M : Nat} {out : List ByteArray} {P : Nat} {row : Array Value} {W : World} (h : NmD w N M out P row W) (o : Obj) : NmD w N M out P row (W.alloc o) := by
  have b : Below W.heap.size W (W.alloc o) := (Below.refl _ _).alloc (Nat.le_refl _) _
  exact ⟨h.1.below b, h.2.1.trans (b.mono h.2.1.size), (b.block _ (blk_lt h.2.2.1)).trans h.2.2.1, h.2.2.2⟩
set_option maxHeartbeats 8000000 in
set_option maxRecDepth 100000 in
theorem inamesOf_any {w : World} {v : Value} {ns : List PNode} (hn : NodesAt w v ns) (hfit : ∀ n ∈ ns, NodeFit n) (hlen : ns.length ≤ 500) :
    Calls Tryz.prog 83 #[.agg #[v]] w fun e w' => ∃ N M, e = .returned (.pointer (some ⟨N, 0, none⟩)) ∧ NmAt w.heap.size N M (namesL ns) w' ∧ Below w.heap.size w w' := by
  obtain ⟨a, ca, rfl, _, _, h3⟩ := hn.slice
  have hmm := @run_makeMap Tryz.prog
  have HF := (show Hid (∀ n ∈ ns, NodeFit n) from hfit)
  obtain ⟨w2, hw2⟩ : ∃ x, x = ((w.alloc (.cells #[.slice a ns.length ca] 26)).alloc (.map #[] 0)).alloc (.cells #[.slice none 0 0, .map (some (w.heap.size + 1))] 150) := ⟨_, rfl⟩
  have b2 : Below w.heap.size w w2 := by rw [hw2]; exact (((Below.refl _ w).alloc (Nat.le_refl _) _).alloc (by simp) _).alloc (by simp; omega) _
  have gN : w2.heap[w.heap.size + 2]? = some (.cells #[.slice none 0 0, .map (some (w.heap.size + 1))] 150 (0, 0)) := by
    rw [hw2]
    have := World.alloc_heap_new ((w.alloc (.cells #[.slice a ns.length ca] 26)).alloc (.map #[] 0)) (.cells #[.slice none 0 0, .map (some (w.heap.size + 1))] 150)
    rwa [World.size_alloc, World.size_alloc] at this
  have gT : w2.heap[w.heap.size]? = some (.cells #[.slice a ns.length ca] 26 (0, 0)) := by
    rw [hw2, Below.heap_alloc _ _ _ (by simp; omega), Below.heap_alloc _ _ _ (by simp)]; exact World.alloc_heap_new _ _
  have oM : w2.ownsMap Tryz.prog 9 (plainElem Tryz.prog 3) (w.heap.size + 1) 0 (.map [] : DataW Unit) := by
    have o := World.ownsMap_made (w.alloc (.cells #[.slice a ns.length ca] 26)) Tryz.prog 9 (plainElem Tryz.prog 3 : Value → Option (DataW Unit × List MemPlace))
    rw [World.size_alloc] at o
    rw [hw2]
    exact o.alloc _
  have n2 : NmAt w.heap.size (w.heap.size + 2) (w.heap.size + 1) [] w2 := ⟨by omega, by omega, _, _, 0, gN, World.ownsRow_nil _ _ _ _, oM, Nat.le_refl _, plc_nil⟩
  have HX := (show Hid _ from h3)
  have N2 := (show Hid _ from n2)
  have B2 := (show Hid _ from b2)
  obtain ⟨c0, _⟩ := one_cell gT
  have l0 := blk_lt gT
  clear h3 hn hfit b2 gT n2 oM gN
  go_enter Tryz.func83, Tryz.ntmps83
  go_upto_region 3 with fail
  rw [← hw2]
  clear hw2
  obtain ⟨N, hN⟩ : ∃ N, N = w.heap.size + 2 := ⟨_, rfl⟩
  obtain ⟨M, hM⟩ : ∃ M, M = w.heap.size + 1 := ⟨_, rfl⟩
  rw [← hN, ← hM] at N2
  have hn2 : w.heap.size + 1 + 1 = N := by omega
  simp only [hn2]
  clear hN hM hn2 c0 l0
  go_loopw [14] (fun i wr => ∃ (k : Nat), k ≤ ns.length ∧ i = .int .i64 k ∧ Hid (NmAt w.heap.size N M (namesL (ns.take k)) wr ∧ Below w.heap.size w wr)) (fun i _ => ns.length - (intOf i).toNat)
  case atStart => exact ⟨0, Nat.zero_le _, rfl, N2.out, B2.out⟩
  case round =>
    clear N2 B2
    obtain ⟨k, hk, rfl, R⟩ := hrel
    by_cases hlt : k < ns.length
    rotate_left
    · obtain rfl : k = ns.length := by omega
      have HE := (show Hid (NmAt w.heap.size N M (namesL ns) wr) from (by have := R.out.1; rwa [List.take_length] at this : NmAt w.heap.size N M (namesL ns) wr))
      go_wp2
      go_ret
      exact ⟨_, _, rfl, HE.out, R.out.2⟩
    obtain ⟨b1, o1, av, kv, rfl, hb1, d0, d1, d2, d3, d4, d5, hav, hkv⟩ := HX.out k hlt
    have BW := R.out.2
    replace d0 := (BW.cell (p := ⟨b1, o1 + k * 6, none⟩) hb1).trans d0
    replace d1 := (BW.cell (p := ⟨b1, o1 + k * 6 + 1, none⟩) hb1).trans d1
    replace d2 := (BW.cell (p := ⟨b1, o1 + k * 6 + 2, none⟩) hb1).trans d2
    replace d3 := (BW.cell (p := ⟨b1, o1 + k * 6 + 3, none⟩) hb1).trans d3
    replace d4 := (BW.cell (p := ⟨b1, o1 + k * 6 + 4, none⟩) hb1).trans d4
    replace d5 := (BW.cell (p := ⟨b1, o1 + k * 6 + 5, none⟩) hb1).trans d5
    have hb1' : b1 < wr.heap.size := Nat.lt_of_lt_of_le hb1 BW.size
    have HT := (show Hid (namesL (ns.take (k + 1)) = namesN (namesL (ns.take k)) ns[k]) from (by rw [List.take_succ_eq_append_getElem hlt, namesL_snoc] : namesL (ns.take (k + 1)) = namesN (namesL (ns.take k)) ns[k]))
    have hle : (namesL (ns.take k)).length ≤ 524288500 := namesL_le (ns.take k) (fun n hn => HF.out n (List.mem_of_mem_take hn)) (by rw [List.length_take]; omega)
    have HFN := HF.out _ (List.getElem_mem hlt)
    obtain ⟨n, hnd⟩ : ∃ n, n = ns[k] := ⟨_, rfl⟩
    obtain ⟨out, hout⟩ : ∃ out, out = namesL (ns.take k) := ⟨_, rfl⟩
    rw [← hnd] at d0 d1 d3 d4 hav hkv HFN HT
    rw [← hout] at hle HT R
    have hrs := HFN.rs
    have hnm := HFN.nm
    have HEA := (show Hid _ from HFN.each)
    obtain ⟨y1, y3, rfl, ha1, ha2, ha3⟩ := hav.pair
    obtain ⟨p1, p3, rfl, hp1, hp2, _, _⟩ := hkv
    obtain ⟨nk, nn, na, nt, np, nks⟩ := n
    simp only at d0 d1 d2 d3 d4 d5 hrs ha1 hnm
    have A3 := (show Hid _ from ha3)
    have hki : (k : Int) < (ns.length : Int) := by omega
    clear ha3 hnd hout hav BW HFN
    go_upto_region 5 with fail
    obtain ⟨w6, hw6⟩ : ∃ q, q = wr.alloc (.cells #[.int .i64 nk, .string nn, .slice y1 na.length y3, .string nt, .int .i64 np, .slice p1 nks.length p3] 36) := ⟨_, rfl⟩
    rw [← hw6]
    have b6 : Below wr.heap.size wr w6 := by rw [hw6]; exact (Below.refl _ _).alloc (Nat.le_refl _) _
    have g6 : w6.heap[wr.heap.size]? = some (.cells #[.int .i64 nk, .string nn, .slice y1 na.length y3, .string nt, .int .i64 np, .slice p1 nks.length p3] 36 (0, 0)) := by rw [hw6]; exact World.alloc_heap_new _ _
    have hltNM := R.out.1.lt
    have N6 := (show Hid (NmD w N M out wr.heap.size #[.int .i64 nk, .string nn, .slice y1 na.length y3, .string nt, .int .i64 np, .slice p1 nks.length p3] w6) from ⟨R.out.1.below b6, R.out.2.trans (b6.mono R.out.2.size), g6, by omega, by omega⟩)
    obtain ⟨⟨n0, n1, n2, n3, n4, n5⟩, _⟩ := six_at g6
    obtain ⟨P, hP⟩ : ∃ P, P = wr.heap.size := ⟨_, rfl⟩
    rw [← hP] at n0 n1 n2 n3 n4 n5 N6 ⊢
    have lP := blk_lt N6.out.2.2.1
    clear hw6 b6 g6 hP R d0 d1 d2 d3 d4 d5 hb1' hltNM
    by_cases e2 : nk = 2
    · subst e2
      go_wp2_with fail
      go_at_call 128
      refine Calls.mono (inameAdd_any N6.out.1 N6.out.2.1.size nn (by omega) (by omega)) ?_
      rintro e w7 ⟨rfl, h7, f7⟩
      have N7 := (show Hid (NmD w N M (putS out nn) P #[.int .i64 2, .string nn, .slice y1 na.length y3, .string nt, .int .i64 np, .slice p1 nks.length p3] w7) from NmD.add N6.out h7 f7)
      clear n0 n1 n2 n3 n4 n5 N6 h7 f7
      obtain ⟨⟨n0, n1, n2, n3, n4, n5⟩, _⟩ := six_at N7.out.2.2.1
      have hlP := blk_lt N7.out.2.2.1
      have HOL := (show Hid ((putS out nn : List ByteArray).length ≤ 524288501) from (by have := putS_le out nn; omega : (putS out nn : List ByteArray).length ≤ 524288501))
      have HEN := (show Hid (namesN out ⟨2, nn, na, nt, np, nks⟩ = namesA (putS out nn) na) from (by simp [namesN, hasName] : namesN out ⟨2, nn, na, nt, np, nks⟩ = namesA (putS out nn) na))
      go_upto_region 8 with fail
      clear n0 n1 n2 n3 n4 n5
      go_loopw [33] (fun i wx => ∃ (j : Nat), j ≤ na.length ∧ i = .int .i64 j ∧ Hid (NmD w N M (namesA (putS out nn) (na.take j)) P #[.int .i64 2, .string nn, .slice y1 na.length y3, .string nt, .int .i64 np, .slice p1 nks.length p3] wx)) (fun i _ => na.length - (intOf i).toNat)
      case atStart => exact ⟨0, Nat.zero_le _, rfl, N7.out⟩
      case round =>
        clear N7
        obtain ⟨j, hj, rfl, J⟩ := hrel
        by_cases hjt : j < na.length
        · obtain ⟨bb, oo, rfl, l1, t1, t2⟩ := A3.out j hjt
          replace t1 := (J.out.2.1.cell (p := ⟨bb, oo + j * 2, none⟩) l1).trans t1
          replace t2 := (J.out.2.1.cell (p := ⟨bb, oo + j * 2 + 1, none⟩) l1).trans t2
          have lbb : bb < wr.heap.size := Nat.lt_of_lt_of_le l1 J.out.2.1.size
          have HTJ := (show Hid (namesA (putS out nn) (na.take (j + 1)) = putS (namesA (putS out nn) (na.take j)) na[j].1) from (by rw [List.take_succ_eq_append_getElem hjt, namesA_snoc] : namesA (putS out nn) (na.take (j + 1)) = putS (namesA (putS out nn) (na.take j)) na[j].1))
          have hlj : (namesA (putS out nn) (na.take j)).length ≤ 1000000000000 := by
            have h := namesA_le (na.take j) (putS out nn)
            rw [List.length_take] at h
            have h2 := HOL.out
            omega
          have hsz := HEA.out _ (List.getElem_mem hjt)
          obtain ⟨s, hs⟩ : ∃ s, s = na[j].1 := ⟨_, rfl⟩
          obtain ⟨s2, hs2⟩ : ∃ s2, s2 = na[j].2 := ⟨_, rfl⟩
          rw [← hs] at t1 HTJ
          rw [← hs2] at t2
          have hsz1 : s.size ≤ 1099511627776 := by rw [hs]; exact hsz.1
          have HLJ := (show Hid _ from hlj)
          have hji : (j : Int) < (na.length : Int) := by omega
          obtain ⟨w5, hw5⟩ : ∃ z, z = wr.alloc (.cells #[.string s, .string s2] 115) := ⟨_, rfl⟩
          have N5 := (show Hid (NmD w N M (namesA (putS out nn) (na.take j)) P #[.int .i64 2, .string nn, .slice (some ⟨bb, oo, none⟩) na.length y3, .string nt, .int .i64 np, .slice p1 nks.length p3] w5) from (by rw [hw5]; exact NmD.box J.out _ : NmD w N M (namesA (putS out nn) (na.take j)) P #[.int .i64 2, .string nn, .slice (some ⟨bb, oo, none⟩) na.length y3, .string nt, .int .i64 np, .slice p1 nks.length p3] w5))
          have g5 : w5.heap[wr.heap.size]? = some (.cells #[.string s, .string s2] 115 (0, 0)) := by rw [hw5]; exact World.alloc_heap_new _ _
          obtain ⟨q0, q1, _, _⟩ := two_cells g5
          have lq := blk_lt g5
          obtain ⟨A, hA⟩ : ∃ A, A = wr.heap.size := ⟨_, rfl⟩
          rw [← hA] at q0 q1 lq
          clear g5 J hs hs2 hlj hsz l1
          go_upto_region 10 with fail
          rw [← hw5, ← hA]
          clear hw5 hA t1 t2 lbb
          go_wp2_with fail
          go_at_call 128
          refine Calls.mono (inameAdd_any N5.out.1 N5.out.2.1.size s hsz1 HLJ.out) ?_
          rintro e w8 ⟨rfl, h8, f8⟩
          have N8 := (show Hid _ from NmD.add N5.out h8 f8)
          clear h8 f8 q0 q1 N5
          go_wp2
          go_roundw
          case rel => exact ⟨j + 1, by omega, by go_num, by rw [HTJ.out]; exact N8.out⟩
          case measure => simp [intOf]; omega
        · obtain rfl : j = na.length := by omega
          have HE := (show Hid (NmAt w.heap.size N M (namesL (ns.take (k + 1))) wr ∧ Below w.heap.size w wr) from (by
            have h := J.out
            rw [List.take_length] at h
            rw [HT.out, HEN.out]
            exact ⟨h.1, h.2.1⟩ : NmAt w.heap.size N M (namesL (ns.take (k + 1))) wr ∧ Below w.heap.size w wr))
          go_wp2
          go_roundw
          case rel => exact ⟨k + 1, by omega, by go_num, HE.out⟩
          case measure => simp [intOf]; omega
    by_cases e3 : nk = 3
    · subst e3
      go_wp2_with fail
      go_at_call 128
      refine Calls.mono (inameAdd_any N6.out.1 N6.out.2.1.size nn (by omega) (by omega)) ?_
      rintro e w7 ⟨rfl, h7, f7⟩
      have N7 := (show Hid (NmD w N M (putS out nn) P #[.int .i64 3, .string nn, .slice y1 na.length y3, .string nt, .int .i64 np, .slice p1 nks.length p3] w7) from NmD.add N6.out h7 f7)
      clear n0 n1 n2 n3 n4 n5 N6 h7 f7
      obtain ⟨⟨n0, n1, n2, n3, n4, n5⟩, _⟩ := six_at N7.out.2.2.1
      have hlP := blk_lt N7.out.2.2.1
      have HOL := (show Hid ((putS out nn : List ByteArray).length ≤ 524288501) from (by have := putS_le out nn; omega : (putS out nn : List ByteArray).length ≤ 524288501))
      have HEN := (show Hid (namesN out ⟨3, nn, na, nt, np, nks⟩ = namesA (putS out nn) na) from (by simp [namesN, hasName] : namesN out ⟨3, nn, na, nt, np, nks⟩ = namesA (putS out nn) na))
      go_upto_region 8 with fail
      clear n0 n1 n2 n3 n4 n5
      go_loopw [33] (fun i wx => ∃ (j : Nat), j ≤ na.length ∧ i = .int .i64 j ∧ Hid (NmD w N M (namesA (putS out nn) (na.take j)) P #[.int .i64 3, .string nn, .slice y1 na.length y3, .string nt, .int .i64 np, .slice p1 nks.length p3] wx)) (fun i _ => na.length - (intOf i).toNat)
      case atStart => exact ⟨0, Nat.zero_le _, rfl, N7.out⟩
      case round =>
        clear N7
        obtain ⟨j, hj, rfl, J⟩ := hrel
        by_cases hjt : j < na.length
        · obtain ⟨bb, oo, rfl, l1, t1, t2⟩ := A3.out j hjt
          replace t1 := (J.out.2.1.cell (p := ⟨bb, oo + j * 2, none⟩) l1).trans t1
          replace t2 := (J.out.2.1.cell (p := ⟨bb, oo + j * 2 + 1, none⟩) l1).trans t2
          have lbb : bb < wr.heap.size := Nat.lt_of_lt_of_le l1 J.out.2.1.size
          have HTJ := (show Hid (namesA (putS out nn) (na.take (j + 1)) = putS (namesA (putS out nn) (na.take j)) na[j].1) from (by rw [List.take_succ_eq_append_getElem hjt, namesA_snoc] : namesA (putS out nn) (na.take (j + 1)) = putS (namesA (putS out nn) (na.take j)) na[j].1))
          have hlj : (namesA (putS out nn) (na.take j)).length ≤ 1000000000000 := by
            have h := namesA_le (na.take j) (putS out nn)
            rw [List.length_take] at h
            have h2 := HOL.out
            omega
          have hsz := HEA.out _ (List.getElem_mem hjt)
          obtain ⟨s, hs⟩ : ∃ s, s = na[j].1 := ⟨_, rfl⟩
          obtain ⟨s2, hs2⟩ : ∃ s2, s2 = na[j].2 := ⟨_, rfl⟩
          rw [← hs] at t1 HTJ
          rw [← hs2] at t2
          have hsz1 : s.size ≤ 1099511627776 := by rw [hs]; exact hsz.1
          have HLJ := (show Hid _ from hlj)
          have hji : (j : Int) < (na.length : Int) := by omega
          obtain ⟨w5, hw5⟩ : ∃ z, z = wr.alloc (.cells #[.string s, .string s2] 115) := ⟨_, rfl⟩
          have N5 := (show Hid (NmD w N M (namesA (putS out nn) (na.take j)) P #[.int .i64 3, .string nn, .slice (some ⟨bb, oo, none⟩) na.length y3, .string nt, .int .i64 np, .slice p1 nks.length p3] w5) from (by rw [hw5]; exact NmD.box J.out _ : NmD w N M (namesA (putS out nn) (na.take j)) P #[.int .i64 3, .string nn, .slice (some ⟨bb, oo, none⟩) na.length y3, .string nt, .int .i64 np, .slice p1 nks.length p3] w5))
          have g5 : w5.heap[wr.heap.size]? = some (.cells #[.string s, .string s2] 115 (0, 0)) := by rw [hw5]; exact World.alloc_heap_new _ _
          obtain ⟨q0, q1, _, _⟩ := two_cells g5
          have lq := blk_lt g5
          obtain ⟨A, hA⟩ : ∃ A, A = wr.heap.size := ⟨_, rfl⟩
          rw [← hA] at q0 q1 lq
          clear g5 J hs hs2 hlj hsz l1
          go_upto_region 10 with fail
          rw [← hw5, ← hA]
          clear hw5 hA t1 t2 lbb
          go_wp2_with fail
          go_at_call 128
          refine Calls.mono (inameAdd_any N5.out.1 N5.out.2.1.size s hsz1 HLJ.out) ?_
          rintro e w8 ⟨rfl, h8, f8⟩
          have N8 := (show Hid _ from NmD.add N5.out h8 f8)
          clear h8 f8 q0 q1 N5
          go_wp2
          go_roundw
          case rel => exact ⟨j + 1, by omega, by go_num, by rw [HTJ.out]; exact N8.out⟩
          case measure => simp [intOf]; omega
        · obtain rfl : j = na.length := by omega
          have HE := (show Hid (NmAt w.heap.size N M (namesL (ns.take (k + 1))) wr ∧ Below w.heap.size w wr) from (by
            have h := J.out
            rw [List.take_length] at h
            rw [HT.out, HEN.out]
            exact ⟨h.1, h.2.1⟩ : NmAt w.heap.size N M (namesL (ns.take (k + 1))) wr ∧ Below w.heap.size w wr))
          go_wp2
          go_roundw
          case rel => exact ⟨k + 1, by omega, by go_num, HE.out⟩
          case measure => simp [intOf]; omega
    have HOL := (show Hid ((out : List ByteArray).length ≤ 524288501) from (by omega : (out : List ByteArray).length ≤ 524288501))
    have HEN := (show Hid (namesN out ⟨nk, nn, na, nt, np, nks⟩ = namesA (out) na) from (by simp [namesN, hasName, e2, e3] : namesN out ⟨nk, nn, na, nt, np, nks⟩ = namesA (out) na))
    go_upto_region 8 with fail
    · exact absurd ‹(nk == 2) = true ∨ (nk == 3) = true› (by simp [e2, e3])
    clear n0 n1 n2 n3 n4 n5
    go_loopw [33] (fun i wx => ∃ (j : Nat), j ≤ na.length ∧ i = .int .i64 j ∧ Hid (NmD w N M (namesA (out) (na.take j)) P #[.int .i64 nk, .string nn, .slice y1 na.length y3, .string nt, .int .i64 np, .slice p1 nks.length p3] wx)) (fun i _ => na.length - (intOf i).toNat)
    case atStart => exact ⟨0, Nat.zero_le _, rfl, N6.out⟩
    case round =>
      clear N6
      obtain ⟨j, hj, rfl, J⟩ := hrel
      by_cases hjt : j < na.length
      · obtain ⟨bb, oo, rfl, l1, t1, t2⟩ := A3.out j hjt
        replace t1 := (J.out.2.1.cell (p := ⟨bb, oo + j * 2, none⟩) l1).trans t1
        replace t2 := (J.out.2.1.cell (p := ⟨bb, oo + j * 2 + 1, none⟩) l1).trans t2
        have lbb : bb < wr.heap.size := Nat.lt_of_lt_of_le l1 J.out.2.1.size
        have HTJ := (show Hid (namesA (out) (na.take (j + 1)) = putS (namesA (out) (na.take j)) na[j].1) from (by rw [List.take_succ_eq_append_getElem hjt, namesA_snoc] : namesA (out) (na.take (j + 1)) = putS (namesA (out) (na.take j)) na[j].1))
        have hlj : (namesA (out) (na.take j)).length ≤ 1000000000000 := by
          have h := namesA_le (na.take j) (out)
          rw [List.length_take] at h
          have h2 := HOL.out
          omega
        have hsz := HEA.out _ (List.getElem_mem hjt)
        obtain ⟨s, hs⟩ : ∃ s, s = na[j].1 := ⟨_, rfl⟩
        obtain ⟨s2, hs2⟩ : ∃ s2, s2 = na[j].2 := ⟨_, rfl⟩
        rw [← hs] at t1 HTJ
        rw [← hs2] at t2
        have hsz1 : s.size ≤ 1099511627776 := by rw [hs]; exact hsz.1
        have HLJ := (show Hid _ from hlj)
        have hji : (j : Int) < (na.length : Int) := by omega
        obtain ⟨w5, hw5⟩ : ∃ z, z = wr.alloc (.cells #[.string s, .string s2] 115) := ⟨_, rfl⟩
        have N5 := (show Hid (NmD w N M (namesA (out) (na.take j)) P #[.int .i64 nk, .string nn, .slice (some ⟨bb, oo, none⟩) na.length y3, .string nt, .int .i64 np, .slice p1 nks.length p3] w5) from (by rw [hw5]; exact NmD.box J.out _ : NmD w N M (namesA (out) (na.take j)) P #[.int .i64 nk, .string nn, .slice (some ⟨bb, oo, none⟩) na.length y3, .string nt, .int .i64 np, .slice p1 nks.length p3] w5))
        have g5 : w5.heap[wr.heap.size]? = some (.cells #[.string s, .string s2] 115 (0, 0)) := by rw [hw5]; exact World.alloc_heap_new _ _
        obtain ⟨q0, q1, _, _⟩ := two_cells g5
        have lq := blk_lt g5
        obtain ⟨A, hA⟩ : ∃ A, A = wr.heap.size := ⟨_, rfl⟩
        rw [← hA] at q0 q1 lq
        clear g5 J hs hs2 hlj hsz l1
        go_upto_region 10 with fail
        rw [← hw5, ← hA]
        clear hw5 hA t1 t2 lbb
        go_wp2_with fail
        go_at_call 128
        refine Calls.mono (inameAdd_any N5.out.1 N5.out.2.1.size s hsz1 HLJ.out) ?_
        rintro e w8 ⟨rfl, h8, f8⟩
        have N8 := (show Hid _ from NmD.add N5.out h8 f8)
        clear h8 f8 q0 q1 N5
        go_wp2
        go_roundw
        case rel => exact ⟨j + 1, by omega, by go_num, by rw [HTJ.out]; exact N8.out⟩
        case measure => simp [intOf]; omega
      · obtain rfl : j = na.length := by omega
        have HE := (show Hid (NmAt w.heap.size N M (namesL (ns.take (k + 1))) wr ∧ Below w.heap.size w wr) from (by
          have h := J.out
          rw [List.take_length] at h
          rw [HT.out, HEN.out]
          exact ⟨h.1, h.2.1⟩ : NmAt w.heap.size N M (namesL (ns.take (k + 1))) wr ∧ Below w.heap.size w wr))
        go_wp2
        go_roundw
        case rel => exact ⟨k + 1, by omega, by go_num, HE.out⟩
        case measure => simp [intOf]; omega
end Go.Proofs.YtogdbjafibejdaaGreat
