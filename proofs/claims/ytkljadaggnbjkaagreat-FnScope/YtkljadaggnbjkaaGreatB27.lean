import Derived.Test.YtkljadaggnbjkaaGreatB26
import Derived.Defers
import Derived.Test.YtkljadaggnbjkaaGreatB0
import Derived.Test.YtkljadaggnbjkaaGreatGrow
import Derived.Test.YtkljadaggnbjkaaGreatB2
/- The program's arenaOf, change (with the step of TreeAdd) and TreeAdd of a tree that is right. No condition. -/
namespace Go.Proofs.YtkljadaggnbjkaaGreat
open Go.RowKit
set_option maxRecDepth 100000
set_option linter.unusedVariables false

theorem OwnN.form {B : Nat} {w : World} {v : Value} {ns : List PNode} (h : OwnN B w v ns) (h0 : 0 < ns.length) : ∃ g cap, v = .slice (some ⟨g, 0, none⟩) ns.length cap ∧ B ≤ g ∧ g < w.heap.size := by
  obtain ⟨qs, h1, h2, h3⟩ := h
  exact one_form h2 h0
theorem one_cell {w : World} {b : Nat} {u : Value} {t : TypeId} (h : w.heap[b]? = some (.cells #[u] t (0, 0))) : w.cell? ⟨b, 0, none⟩ = some u ∧ w.frozen? ⟨b, 0, none⟩ = false := ⟨by simp only [World.cell?, h]; rfl, by simp only [World.frozen?, h]; rfl⟩

set_option maxRecDepth 100000 in
theorem iarenaOf_any {w : World} {v : Value} {ns : List PNode} (hn : NodesAt w v ns) (hfit : ∀ n ∈ ns, NodeFit n) (hlen : ns.length ≤ 1048576) (hok : TreeOkP ns) :
    Calls Tryz.prog 37 #[.agg #[v]] w fun e w' => ∃ g v', e = .returned (.pointer (some ⟨g, 0, none⟩)) ∧ w'.heap[g]? = some (.cells #[v'] 69 (0, 0)) ∧ OwnN w.heap.size w' v' ns ∧ w.heap.size ≤ g ∧ Below w.heap.size w w' := by
  have HN := (show Hid (NodesAt w v ns) from hn)
  have HFIT := (show Hid _ from hfit)
  have HOK := (show Hid _ from hok)
  obtain ⟨a, cap, rfl, hc1, hc2, _⟩ := hn.slice
  clear hn hfit hok
  obtain ⟨w1, hw1⟩ : ∃ w1, w1 = w.alloc (.cells #[.slice a ns.length cap] 26) := ⟨_, rfl⟩
  have b1 : Below w.heap.size w w1 := by rw [hw1]; exact (Below.refl _ _).alloc (Nat.le_refl _) _
  have g1 : w1.heap[w.heap.size]? = some (.cells #[.slice a ns.length cap] 26 (0, 0)) := by rw [hw1]; exact World.alloc_heap_new _ _
  have HG1 := (show Hid _ from g1)
  clear g1
  go_enter Tryz.func37, Tryz.ntmps37
  go_wp2_with fail
  go_at_call 43
  rw [← hw1]
  refine Calls.mono (itreeOk_any (HN.out.below b1) HFIT.out hlen) ?_
  rintro e w2 ⟨r, rfl, hr, b2⟩
  clear hw1
  obtain rfl : r = true := hr.mpr HOK.out
  have hb2 := b1.trans (b2.mono b1.size)
  have g2 := (b2.block _ (blk_lt HG1.out)).trans HG1.out
  obtain ⟨k0, _⟩ := one_cell g2
  clear hr g2 b2
  go_wp2_with fail
  go_at_call 66
  refine Calls.mono (icopy_any (HN.out.below hb2) HFIT.out hlen) ?_
  rintro e w3 ⟨v3, rfl, o3, b3⟩
  have hb3 := hb2.trans (b3.mono hb2.size)
  have O3 := (show Hid _ from (o3.base hb2.size).below ((Below.refl _ w3).alloc (Nat.le_refl _) (.cells #[v3] 69)))
  have A3 := (show Hid _ from heap_alloc_new w3 (.cells #[v3] 69))
  obtain ⟨a3, n3, c3, rfl⟩ : ∃ ao no co, v3 = .slice ao no co := by obtain ⟨_, _, h, _⟩ := o3; exact own_slice h
  clear o3
  go_wp2
  go_ret
  exact ⟨_, _, rfl, A3.out, O3.out, hb3.size, hb3.alloc hb3.size _⟩

/-- Nothing is turned but the blocks a and K, and rows of nodes from block B on. -/
structure AddFrK (B a K : Nat) (w w' : World) : Prop where
  os : w'.os = w.os
  tape : w'.tape = w.tape
  output : w'.output = w.output
  size : w.heap.size ≤ w'.heap.size
  block : ∀ j, j < w.heap.size → j ≠ a → j ≠ K → (j < B ∨ ∃ cs t fr, w.heap[j]? = some (.cells cs t fr) ∧ t ≠ 37) → w'.heap[j]? = w.heap[j]?
theorem AddFrK.box {B a K : Nat} {w w' : World} (h : AddFrK B a K w w') {j : Nat} {cs : Array Value} {t : TypeId} {fr : Nat × Nat} (hj : w.heap[j]? = some (.cells cs t fr)) (ht : t ≠ 37) (hne : j ≠ a) (hnk : j ≠ K) : w'.heap[j]? = some (.cells cs t fr) := (h.block j (lt_of_block hj) hne hnk (.inr ⟨_, _, _, hj, ht⟩)).trans hj
theorem AddFrK.below {B a K N : Nat} {w w' : World} (h : AddFrK B a K w w') (hN : N ≤ B) (ha : N ≤ a) (hK : N ≤ K) (hB : N ≤ w.heap.size) : Below N w w' := ⟨h.os, h.tape, h.output, h.size, fun j hj => h.block j (by omega) (by omega) (by omega) (.inl (by omega))⟩
theorem AddFr.put {B a K : Nat} {w w' w'' : World} (h : AddFr B a w w') (g : w'.grownBy w'' (some K)) : AddFrK B a K w w'' :=
  ⟨g.os.trans h.os, g.tape.trans h.tape, g.output.trans h.output, Nat.le_trans h.size g.size, fun j hj h1 h2 h3 => (g.block j (Nat.lt_of_lt_of_le hj h.size) (fun e => by injection e with e; exact h2 e)).trans (h.block j hj h1 h3)⟩

theorem OwnQ.form {B : Nat} {w : World} {v : Value} {qs : List (PNode × (Value × Value))} (h : OwnQ B w v qs) (h0 : 0 < qs.length) : ∃ g cap, v = .slice (some ⟨g, 0, none⟩) qs.length cap ∧ B ≤ g ∧ g < w.heap.size := one_form h.1 h0

set_option maxRecDepth 100000 in
theorem iaddStep_any {B a A N K : Nat} {w : World} {v : Value} {qs : List (PNode × (Value × Value))} (ha : w.heap[a]? = some (.cells #[v] 69 (0, 0))) (hO : OwnQ B w v qs) (hB : B ≤ w.heap.size) (h0 : 0 < qs.length) (hlen : qs.length ≤ 100000) {k p : Int} {nm tx : ByteArray}
    {av1 : Option Addr} {av2 av3 : Nat} {kv1 : Option Addr} {kv2 kv3 : Nat} {rs : List (ByteArray × ByteArray)} (hav : Sv 2 w (.slice av1 av2 av3) (pairCells rs)) (hrs : rs.length ≤ 1048576)
    (hA : w.heap[A]? = some (.cells #[.pointer (some ⟨a, 0, none⟩)] 44 (0, 0))) (hN : w.heap[N]? = some (.cells #[.int .i64 k, .string nm, .slice av1 av2 av3, .string tx, .int .i64 p, .slice kv1 kv2 kv3] 37 (0, 0)))
    {x : Int} (hK : w.heap[K]? = some (.cells #[.int .i64 x] 3 (0, 0))) (hKa : K ≠ a) (hne : ∀ q ∈ qs, q.2.2.ownBlock ≠ some K) :
    Calls Tryz.prog 39 #[.pointer (some ⟨A, 0, none⟩), .pointer (some ⟨N, 0, none⟩), .pointer (some ⟨K, 0, none⟩)] w fun e w' =>
      e = .returned (.bool true) ∧ (∃ v', w'.heap[a]? = some (.cells #[v'] 69 (0, 0)) ∧ ∃ av', OwnQ B w' v' (qs ++ [(⟨k, nm, rs, tx, -1, []⟩, (av', .slice none 0 0))])) ∧ w'.heap[K]? = some (.cells #[.int .i64 qs.length] 3 (0, 0)) ∧ AddFrK B a K w w' := by
  obtain ⟨cA, _⟩ := one_cell hA
  have n0 : w.cell? ⟨N, 0, none⟩ = some (.int .i64 k) := by simp only [World.cell?, hN]; rfl
  have n1 : w.cell? ⟨N, 1, none⟩ = some (.string nm) := by simp only [World.cell?, hN]; rfl
  have n2 : w.cell? ⟨N, 2, none⟩ = some (.slice av1 av2 av3) := by simp only [World.cell?, hN]; rfl
  have n3 : w.cell? ⟨N, 3, none⟩ = some (.string tx) := by simp only [World.cell?, hN]; rfl
  have n4 : w.cell? ⟨N, 4, none⟩ = some (.int .i64 p) := by simp only [World.cell?, hN]; rfl
  have n5 : w.cell? ⟨N, 5, none⟩ = some (.slice kv1 kv2 kv3) := by simp only [World.cell?, hN]; rfl
  have CC := (show Hid _ from iadd_any ha hO hB h0 hlen k p nm tx (kv1 := kv1) (kv2 := kv2) (kv3 := kv3) hav hrs)
  have HK := (show Hid _ from hK)
  have HNE := (show Hid _ from hne)
  clear ha hO hav hA hN hK hne
  go_enter Tryz.func39, Tryz.ntmps39
  go_wp2_with fail
  go_at_call 40
  refine Calls.mono CC.out ?_
  rintro e w2 ⟨rfl, ⟨v2, ha2, av2', o2⟩, fr⟩
  clear CC
  have hk2 := fr.box HK.out (by decide) hKa
  obtain ⟨cK, zK⟩ := one_cell hk2
  have OO := (show Hid _ from o2)
  have HA2 := (show Hid _ from ha2)
  have HK2 := (show Hid _ from hk2)
  have FR := (show Hid _ from fr)
  clear o2 ha2 hk2 fr
  go_wp2
  go_ret
  refine ⟨rfl, ⟨_, (Below.heap_setCell _ _ _ a (by show a ≠ K; omega)).trans HA2.out, _, OwnQ.keptInt OO.out (grown_setCell _ _ _ _) HK2.out ?_⟩, setCell_at HK2.out, AddFr.put FR.out (grown_setCell _ _ _ _)⟩
  intro q hq
  rcases List.mem_append.mp hq with hq | hq
  · exact HNE.out q hq
  · simp only [List.mem_cons, List.not_mem_nil, or_false] at hq
    subst hq
    simp [Value.ownBlock]

set_option maxRecDepth 100000 in
theorem idone_any {w : World} {a D E P : Nat} {v vb : Value} {r : Bool} (ha : w.heap[a]? = some (.cells #[v] 69 (0, 0))) (hD : w.heap[D]? = some (.cells #[.bool r] 4 (0, 0))) (hE : w.heap[E]? = some (.cells #[vb] 24 (0, 0))) (hb : ∃ x n c, vb = .slice x n c) (hP : w.heap[P]? = some (.cells #[.pointer (some ⟨a, 0, none⟩)] 44 (0, 0))) (u : FrameMode) :
    CallsD Tryz.prog 67 #[.pointer (some ⟨D, 0, none⟩), .pointer (some ⟨E, 0, none⟩), .pointer (some ⟨P, 0, none⟩)] u w fun e u' w' => u' = u ∧ (e = .returned (.tuple #[]) ∧ w' = if r then w else w.setCell ⟨a, 0, none⟩ vb) := by
  obtain ⟨x, n, c, rfl⟩ := hb
  obtain ⟨cD, _⟩ := one_cell hD
  obtain ⟨cE, _⟩ := one_cell hE
  obtain ⟨cP, _⟩ := one_cell hP
  obtain ⟨ca, za⟩ := one_cell ha
  clear ha hD hE hP
  cases r
  · go_enter_d Tryz.func67, Tryz.ntmps67
    go_wp2
    go_end0
    exact ⟨rfl, rfl⟩
  · go_enter_d Tryz.func67, Tryz.ntmps67
    go_wp2
    go_end0
    exact ⟨rfl, rfl⟩
end Go.Proofs.YtkljadaggnbjkaaGreat

/- The program's change with the step of TreeAdd, and TreeAdd of a tree that is right. No condition. -/
namespace Go.Proofs.YtkljadaggnbjkaaGreat
open Go.RowKit
set_option maxRecDepth 100000
set_option linter.unusedVariables false

theorem AddFrK.from {B a K : Nat} {w w3 w4 : World} (b : Below w.heap.size w w3) (f : AddFrK B a K w3 w4) : AddFrK B a K w w4 :=
  ⟨f.os.trans b.os, f.tape.trans b.tape, f.output.trans b.output, Nat.le_trans b.size f.size, fun j hj h1 h2 h3 => (f.block j (Nat.lt_of_lt_of_le hj b.size) h1 h2 (by rcases h3 with h3 | ⟨cs, t, fr, h4, h5⟩; exact .inl h3; exact .inr ⟨cs, t, fr, (b.block j hj).trans h4, h5⟩)).trans (b.block j hj)⟩
theorem AddFrK.andThen {B a K : Nat} {w w4 w5 : World} (f : AddFrK B a K w w4) {row : Option Nat} (g : w4.grownBy w5 row) (hrow : ∀ r, row = some r → w.heap.size ≤ r ∨ r = a ∨ r = K) : AddFrK B a K w w5 :=
  ⟨g.os.trans f.os, g.tape.trans f.tape, g.output.trans f.output, Nat.le_trans f.size g.size, fun j hj h1 h2 h3 => (g.block j (Nat.lt_of_lt_of_le hj f.size) (fun e => by have := hrow j e.symm; omega)).trans (f.block j hj h1 h2 h3)⟩
theorem below_none {w w' : World} (h : Below w.heap.size w w') : w.grownBy w' none := ⟨h.os, h.tape, h.output, h.size, fun j hj _ => h.block j hj⟩

set_option maxHeartbeats 2000000 in
set_option maxRecDepth 100000 in
theorem ichange_any {B a A N K : Nat} {w : World} {v : Value} {qs : List (PNode × (Value × Value))} (ha : w.heap[a]? = some (.cells #[v] 69 (0, 0))) (hO : OwnQ B w v qs) (hB : B ≤ w.heap.size) (h0 : 0 < qs.length) (hlen : qs.length ≤ 100000) {k p : Int} {nm tx : ByteArray}
    {av1 : Option Addr} {av2 av3 : Nat} {kv1 : Option Addr} {kv2 kv3 : Nat} {rs : List (ByteArray × ByteArray)} (hav : Sv 2 w (.slice av1 av2 av3) (pairCells rs)) (hrs : rs.length ≤ 1048576)
    (hA : w.heap[A]? = some (.cells #[.pointer (some ⟨a, 0, none⟩)] 44 (0, 0))) (hN : w.heap[N]? = some (.cells #[.int .i64 k, .string nm, .slice av1 av2 av3, .string tx, .int .i64 p, .slice kv1 kv2 kv3] 37 (0, 0)))
    {x : Int} (hK : w.heap[K]? = some (.cells #[.int .i64 x] 3 (0, 0))) (hKa : K ≠ a) (hne : ∀ q ∈ qs, q.2.2.ownBlock ≠ some K)
    (hfit : ∀ n ∈ qs.map (fun q => q.1), NodeFit n) (hfn : NodeFit ⟨k, nm, rs, tx, -1, []⟩) :
    Calls Tryz.prog 38 #[.pointer (some ⟨a, 0, none⟩), .func (.func 39) #[] #[.pointer (some ⟨A, 0, none⟩), .pointer (some ⟨N, 0, none⟩), .pointer (some ⟨K, 0, none⟩)]] w fun e w' =>
      ∃ r : Bool, e = .returned (.bool r) ∧ (r = true ↔ TreeOkP (qs.map (fun q => q.1) ++ [⟨k, nm, rs, tx, -1, []⟩])) ∧ (∃ g n c, w'.heap[a]? = some (.cells #[.slice (some ⟨g, 0, none⟩) n c] 69 (0, 0)) ∧ (r = true → ∃ av', OwnQ B w' (.slice (some ⟨g, 0, none⟩) n c) (qs ++ [(⟨k, nm, rs, tx, -1, []⟩, (av', .slice none 0 0))]))) ∧ w'.heap[K]? = some (.cells #[.int .i64 qs.length] 3 (0, 0)) ∧ AddFrK B a K w w' := by
  have hmf : ∀ (fn : Fn) (first cap : Array Value) (w : World), (Instr.makeFunc fn first cap).run Tryz.prog w = .ok (.func fn first cap) w := fun _ _ _ _ => rfl
  have HA := (show Hid _ from ha)
  have HO := (show Hid (OwnQ B w v qs) from hO)
  have HAV := (show Hid (Sv 2 w (.slice av1 av2 av3) (pairCells rs)) from hav)
  have HBA := (show Hid _ from hA)
  have HN := (show Hid _ from hN)
  have HK := (show Hid _ from hK)
  have HNE := (show Hid _ from hne)
  have HFIT := (show Hid _ from hfit)
  have HFN := (show Hid (NodeFit ⟨k, nm, rs, tx, -1, []⟩) from hfn)
  have hal := lt_of_block ha
  have hKl := lt_of_block hK
  obtain ⟨gv, cv, rfl, hgv, hgl⟩ := hO.form h0
  clear ha hO hav hA hN hK hne hfit hfn
  obtain ⟨w1, hw1⟩ : ∃ x, x = (w.alloc (.cells #[.pointer (some ⟨a, 0, none⟩)] 44)).alloc (.cells #[.bool false] 4) := ⟨_, rfl⟩
  have b1 : Below w.heap.size w w1 := by rw [hw1]; exact ((Below.refl _ w).alloc (Nat.le_refl _) _).alloc (by simp) _
  have hs1 : w1.heap.size = w.heap.size + 1 + 1 := by rw [hw1, World.size_alloc, World.size_alloc]
  have gP : w1.heap[w.heap.size]? = some (.cells #[.pointer (some ⟨a, 0, none⟩)] 44 (0, 0)) := by rw [hw1, Below.heap_alloc _ _ _ (by simp)]; exact World.alloc_heap_new _ _
  have gD : w1.heap[w.heap.size + 1]? = some (.cells #[.bool false] 4 (0, 0)) := by
    rw [hw1]
    have := World.alloc_heap_new (w.alloc (.cells #[.pointer (some ⟨a, 0, none⟩)] 44)) (.cells #[.bool false] 4)
    rwa [World.size_alloc] at this
  obtain ⟨ca, _⟩ := one_cell ((b1.block a hal).trans HA.out)
  obtain ⟨ca0, _⟩ := one_cell HA.out
  have GP := (show Hid _ from gP)
  have GD := (show Hid _ from gD)
  have HS1 := (show Hid _ from hs1)
  clear gP gD hs1
  go_enter_defers Tryz.func38, Tryz.ntmps38
  go_wp2_with fail
  go_at_call 66
  rw [← hw1]
  refine Calls.mono (icopy_any (ns := qs.map (fun q => q.1)) (w := w1) (v := .slice (some ⟨gv, 0, none⟩) qs.length cv) ((HO.out.n.nodes).below b1) HFIT.out (by rw [List.length_map]; omega)) ?_
  rintro e w2 ⟨vb, rfl, ob, b2⟩
  clear hw1
  have hform := ob.form (by rw [List.length_map]; exact h0)
  rw [List.length_map] at hform
  obtain ⟨gb, cb, rfl, _, _⟩ := hform
  clear ob
  have hb2 := b1.trans (b2.mono b1.size)
  obtain ⟨w3, hw3⟩ : ∃ x, x = w2.alloc (.cells #[.slice (some ⟨gb, 0, none⟩) qs.length cb] 24) := ⟨_, rfl⟩
  have b23 : Below w2.heap.size w2 w3 := by rw [hw3]; exact (Below.refl _ _).alloc (Nat.le_refl _) _
  have b3 : Below w.heap.size w w3 := hb2.trans (b23.mono hb2.size)
  have b13 : Below w1.heap.size w1 w3 := b2.trans (b23.mono b2.size)
  have hsz1 := HS1.out
  have gP3 := (b13.block w.heap.size (by omega)).trans GP.out
  have gD3 := (b13.block (w.heap.size + 1) (by omega)).trans GD.out
  have gE3 : w3.heap[w2.heap.size]? = some (.cells #[.slice (some ⟨gb, 0, none⟩) qs.length cb] 24 (0, 0)) := by rw [hw3]; exact World.alloc_heap_new _ _
  have hE : w.heap.size + 1 + 1 ≤ w2.heap.size := by have := b2.size; omega
  have CC := (show Hid _ from iaddStep_any (B := B) (a := a) (A := A) (N := N) (K := K) (w := w3) (k := k) (p := p) (nm := nm) (tx := tx) (kv1 := kv1) (kv2 := kv2) (kv3 := kv3) (rs := rs) ((b3.block a hal).trans HA.out) (HO.out.below b3) (Nat.le_trans hB b3.size) h0 hlen (HAV.out.below b3) hrs ((b3.block A (lt_of_block HBA.out)).trans HBA.out) ((b3.block N (lt_of_block HN.out)).trans HN.out) ((b3.block K hKl).trans HK.out) hKa HNE.out)
  have GP3 := (show Hid _ from gP3)
  have GD3 := (show Hid _ from gD3)
  have GE3 := (show Hid _ from gE3)
  have HE := (show Hid (w.heap.size + 1 + 1 ≤ w2.heap.size) from hE)
  have B3 := (show Hid (Below w.heap.size w w3) from b3)
  clear gP3 gD3 gE3 hE b3 b13 b23 b2 hb2 b1 hsz1 GP GD HS1 ca ca0
  go_wp2_with fail
  go_at_call 39
  rw [← hw3]
  refine Calls.mono CC.out ?_
  rintro e w4 ⟨rfl, ⟨v4, ha4, av4, o4⟩, hk4, fr4⟩
  clear hw3 CC
  have gP4 := fr4.box GP3.out (by decide) (by omega) (by omega)
  have gD4 := fr4.box GD3.out (by decide) (by omega) (by omega)
  have gE4 := fr4.box GE3.out (by decide) (by have := HE.out; omega) (by have := HE.out; omega)
  obtain ⟨cP4, _⟩ := one_cell gP4
  have hform := o4.form (by simp)
  rw [List.length_append, List.length_singleton] at hform
  obtain ⟨g4, c4, rfl, hg4, hgl4⟩ := hform
  have F4 := (show Hid (AddFrK B a K w w4) from AddFrK.from B3.out fr4)
  have O4 := (show Hid (OwnQ B w4 (.slice (some ⟨g4, 0, none⟩) (qs.length + 1) c4) (qs ++ [(⟨k, nm, rs, tx, -1, []⟩, (av4, .slice none 0 0))])) from o4)
  have GP4 := (show Hid _ from gP4)
  have GD4 := (show Hid _ from gD4)
  have GE4 := (show Hid _ from gE4)
  have HA4 := (show Hid _ from ha4)
  have HK4 := (show Hid _ from hk4)
  clear gP4 gD4 gE4 o4 ha4 hk4 fr4 GP3 GD3 GE3 B3
  go_wp2_with fail
  go_at_call 41
  refine Calls.mono (itree_any HA4.out) ?_
  rintro e w5 ⟨rfl, b5⟩
  have B5 := (show Hid (Below w4.heap.size w4 w5) from b5)
  have HNL : Hid ((qs ++ [((⟨k, nm, rs, tx, -1, []⟩ : PNode), (av4, Value.slice none 0 0))]).map (fun q => q.1) = qs.map (fun q => q.1) ++ [⟨k, nm, rs, tx, -1, []⟩]) := (by simp : (qs ++ [((⟨k, nm, rs, tx, -1, []⟩ : PNode), (av4, Value.slice none 0 0))]).map (fun q => q.1) = qs.map (fun q => q.1) ++ [⟨k, nm, rs, tx, -1, []⟩])
  have CT := (show Hid _ from itreeOk_any (w := w5) (v := .slice (some ⟨g4, 0, none⟩) (qs.length + 1) c4) (ns := qs.map (fun q => q.1) ++ [⟨k, nm, rs, tx, -1, []⟩]) (by rw [← HNL.out]; exact (OwnQ.below O4.out b5).n.nodes) (by
    intro n hn
    rcases List.mem_append.mp hn with hn | hn
    · exact HFIT.out n hn
    · simp only [List.mem_cons, List.not_mem_nil, or_false] at hn
      subst hn
      exact HFN.out) (by simp; omega))
  clear b5
  go_wp2_with fail
  go_at_call 43
  refine Calls.mono CT.out ?_
  rintro e w6 ⟨r, rfl, hr, b6⟩
  clear CT
  have b46 : Below w4.heap.size w4 w6 := B5.out.trans (b6.mono B5.out.size)
  have gD6 := (b46.block _ (lt_of_block GD4.out)).trans GD4.out
  obtain ⟨cD6, zD6⟩ := one_cell gD6
  have HR := (show Hid _ from hr)
  have B46 := (show Hid (Below w4.heap.size w4 w6) from b46)
  have GD6 := (show Hid _ from gD6)
  clear hr b6 b46 gD6 B5 cP4
  have g67 : w6.grownBy (w6.setCell ⟨w.heap.size + 1, 0, none⟩ (.bool r)) (some (w.heap.size + 1)) := grown_setCell _ _ _ _
  have b6s := B46.out.size
  have f4s := F4.out.size
  have hDl := lt_of_block GD4.out
  have hEl := lt_of_block GE4.out
  have hE2 := HE.out
  have a7 : (w6.setCell ⟨w.heap.size + 1, 0, none⟩ (.bool r)).heap[a]? = some (.cells #[.slice (some ⟨g4, 0, none⟩) (qs.length + 1) c4] 69 (0, 0)) := (Below.heap_setCell _ _ _ a (by show a ≠ w.heap.size + 1; omega)).trans ((B46.out.block a (lt_of_block HA4.out)).trans HA4.out)
  have k7 : (w6.setCell ⟨w.heap.size + 1, 0, none⟩ (.bool r)).heap[K]? = some (.cells #[.int .i64 qs.length] 3 (0, 0)) := (Below.heap_setCell _ _ _ K (by show K ≠ w.heap.size + 1; omega)).trans ((B46.out.block K (lt_of_block HK4.out)).trans HK4.out)
  have e7 : (w6.setCell ⟨w.heap.size + 1, 0, none⟩ (.bool r)).heap[w2.heap.size]? = some (.cells #[.slice (some ⟨gb, 0, none⟩) qs.length cb] 24 (0, 0)) := (Below.heap_setCell _ _ _ _ (by show w2.heap.size ≠ w.heap.size + 1; omega)).trans ((B46.out.block _ hEl).trans GE4.out)
  have p7 : (w6.setCell ⟨w.heap.size + 1, 0, none⟩ (.bool r)).heap[w.heap.size]? = some (.cells #[.pointer (some ⟨a, 0, none⟩)] 44 (0, 0)) := (Below.heap_setCell _ _ _ _ (by show w.heap.size ≠ w.heap.size + 1; omega)).trans ((B46.out.block _ (lt_of_block GP4.out)).trans GP4.out)
  have d7 : (w6.setCell ⟨w.heap.size + 1, 0, none⟩ (.bool r)).heap[w.heap.size + 1]? = some (.cells #[.bool r] 4 (0, 0)) := setCell_at GD6.out
  have o7 : OwnQ B (w6.setCell ⟨w.heap.size + 1, 0, none⟩ (.bool r)) (.slice (some ⟨g4, 0, none⟩) (qs.length + 1) c4) (qs ++ [(⟨k, nm, rs, tx, -1, []⟩, (av4, .slice none 0 0))]) := (OwnQ.below O4.out B46.out).kept g67 (fun q e => by cases e; exact ⟨_, _, _, GD6.out, by decide, by decide, by decide⟩)
  have f7 : AddFrK B a K w (w6.setCell ⟨w.heap.size + 1, 0, none⟩ (.bool r)) := (AddFrK.andThen F4.out (below_none B46.out) (fun q e => by cases e)).andThen g67 (fun q e => by cases e; omega)
  have Z7 := (show Hid (_ ∧ _ ∧ _ ∧ _ ∧ _ ∧ _ ∧ AddFrK B a K w (w6.setCell ⟨w.heap.size + 1, 0, none⟩ (.bool r))) from ⟨a7, k7, e7, p7, d7, o7, f7⟩)
  clear a7 k7 e7 p7 d7 o7 f7 g67
  go_wp2
  refine leaves_cons (f := 67) (args := #[.pointer (some ⟨w.heap.size + 1, 0, none⟩), .pointer (some ⟨w2.heap.size, 0, none⟩), .pointer (some ⟨w.heap.size, 0, none⟩)]) (by simp) (by simp [go_sem]) ?_
  obtain ⟨a7, k7, e7, p7, d7, o7, f7⟩ := Z7.out
  refine (idone_any a7 d7 e7 ⟨_, _, _, rfl⟩ p7 _).mono ?_
  rintro e u' w8 ⟨rfl, rfl, rfl⟩
  cases r
  · have d8 := (Below.heap_setCell (w6.setCell ⟨w.heap.size + 1, 0, none⟩ (.bool false)) ⟨a, 0, none⟩ (.slice (some ⟨gb, 0, none⟩) qs.length cb) (w.heap.size + 1) (by show w.heap.size + 1 ≠ a; omega)).trans d7
    have c8 := (one_cell d8).1
    have k8 := (Below.heap_setCell (w6.setCell ⟨w.heap.size + 1, 0, none⟩ (.bool false)) ⟨a, 0, none⟩ (.slice (some ⟨gb, 0, none⟩) qs.length cb) K (by show K ≠ a; omega)).trans k7
    have a8 : ((w6.setCell ⟨w.heap.size + 1, 0, none⟩ (.bool false)).setCell ⟨a, 0, none⟩ (.slice (some ⟨gb, 0, none⟩) qs.length cb)).heap[a]? = some (.cells #[.slice (some ⟨gb, 0, none⟩) qs.length cb] 69 (0, 0)) := setCell_at a7
    have f8 := f7.andThen (grown_setCell (w6.setCell ⟨w.heap.size + 1, 0, none⟩ (.bool false)) a 0 (.slice (some ⟨gb, 0, none⟩) qs.length cb)) (fun q e => by cases e; omega)
    exact ⟨.bool false, by simp [results, Tryz.results38, go_sem, c8], false, rfl, HR.out, ⟨gb, _, _, a8, (fun h => by cases h)⟩, k8, f8⟩
  · have c8 := (one_cell d7).1
    exact ⟨.bool true, by simp [results, Tryz.results38, go_sem, c8], true, rfl, HR.out, ⟨g4, _, _, a7, (fun _ => ⟨_, o7⟩)⟩, k7, f7⟩
end Go.Proofs.YtkljadaggnbjkaaGreat

/- The program's TreeAdd of a tree that is right. No condition. -/
namespace Go.Proofs.YtkljadaggnbjkaaGreat
open Go.RowKit
set_option maxRecDepth 100000
set_option linter.unusedVariables false

theorem iadd_res {tmps : Array Value} {w : World} {g : Nat} {a : Option Addr} {n c : Nat} {i : Int} (h4 : tmps.getD 4 undef = .pointer (some ⟨g, 0, none⟩)) (h5 : tmps.getD 5 undef = .int .i64 i) (hb : w.heap[g]? = some (.cells #[.slice a n c] 26 (0, 0))) :
    (results Tryz.f17 tmps).run Tryz.prog w = .ok (.tuple #[.agg #[.slice a n c], .int .i64 i]) w := by
  rw [results_cell_tmp (p := 4) (u := 5) (ty := 26) rfl, h4, h5]
  simp [asAddr, run_loadVar_row w g 26 26 #[.slice a n c] (0, 0) _ hb Tryz.underlying26 rfl rfl, Result.andThen]

set_option maxHeartbeats 2000000 in
set_option maxRecDepth 100000 in
theorem itreeAdd_any {w : World} {v : Value} {ns : List PNode} (hn : NodesAt w v ns) (hfit : ∀ n ∈ ns, NodeFit n) (hok : TreeOkP ns) {k p : Int} {nm tx : ByteArray}
    {av1 : Option Addr} {av2 av3 : Nat} {kv1 : Option Addr} {kv2 kv3 : Nat} {rs : List (ByteArray × ByteArray)} (hav : Sv 2 w (.slice av1 av2 av3) (pairCells rs)) (hrs : rs.length ≤ 1048576) (hfn : NodeFit ⟨k, nm, rs, tx, -1, []⟩) :
    Calls Tryz.prog 17 #[.agg #[v], .agg #[.int .i64 k, .string nm, .slice av1 av2 av3, .string tx, .int .i64 p, .slice kv1 kv2 kv3]] w fun e w' => ∃ v' r, e = .returned (.tuple #[.agg #[v'], .int .i64 r]) ∧ (TreeOkP (ns ++ [⟨k, nm, rs, tx, -1, []⟩]) → r = ns.length ∧ NodesAt w' v' (ns ++ [⟨k, nm, rs, tx, -1, []⟩])) ∧ (¬ TreeOkP (ns ++ [⟨k, nm, rs, tx, -1, []⟩]) → r = -1) ∧ Below w.heap.size w w' := by
  have hmf : ∀ (fn : Fn) (first cap : Array Value) (w : World), (Instr.makeFunc fn first cap).run Tryz.prog w = .ok (.func fn first cap) w := fun _ _ _ _ => rfl
  have HN := (show Hid (NodesAt w v ns) from hn)
  have HFIT := (show Hid (∀ n ∈ ns, NodeFit n) from hfit)
  have HOK := (show Hid (TreeOkP ns) from hok)
  have HAV := (show Hid (Sv 2 w (.slice av1 av2 av3) (pairCells rs)) from hav)
  have HFN := (show Hid (NodeFit ⟨k, nm, rs, tx, -1, []⟩) from hfn)
  have h1 := hok.one
  have h5 := hok.most
  obtain ⟨a, cap, rfl, hc1, hc2, _⟩ := hn.slice
  clear hn hfit hok hav hfn
  obtain ⟨w1, hw1⟩ : ∃ x, x = ((w.alloc (.cells #[.slice a ns.length cap] 26)).alloc (.cells #[.int .i64 k, .string nm, .slice av1 av2 av3, .string tx, .int .i64 p, .slice kv1 kv2 kv3] 37)).alloc (.cells #[.slice none 0 0] 26) := ⟨_, rfl⟩
  have b1 : Below w.heap.size w w1 := by rw [hw1]; exact (((Below.refl _ w).alloc (Nat.le_refl _) _).alloc (by simp) _).alloc (by simp; omega) _
  have hs1 : w1.heap.size = w.heap.size + 1 + 1 + 1 := by rw [hw1, World.size_alloc, World.size_alloc, World.size_alloc]
  have gT : w1.heap[w.heap.size]? = some (.cells #[.slice a ns.length cap] 26 (0, 0)) := by rw [hw1, Below.heap_alloc _ _ _ (by simp only [World.size_alloc]; omega), Below.heap_alloc _ _ _ (by simp)]; exact World.alloc_heap_new _ _
  have gN : w1.heap[w.heap.size + 1]? = some (.cells #[.int .i64 k, .string nm, .slice av1 av2 av3, .string tx, .int .i64 p, .slice kv1 kv2 kv3] 37 (0, 0)) := by
    rw [hw1, Below.heap_alloc _ _ _ (by simp)]
    have := World.alloc_heap_new (w.alloc (.cells #[.slice a ns.length cap] 26)) (.cells #[.int .i64 k, .string nm, .slice av1 av2 av3, .string tx, .int .i64 p, .slice kv1 kv2 kv3] 37)
    rwa [World.size_alloc] at this
  have gR : w1.heap[w.heap.size + 1 + 1]? = some (.cells #[.slice none 0 0] 26 (0, 0)) := by
    rw [hw1]
    have := World.alloc_heap_new ((w.alloc (.cells #[.slice a ns.length cap] 26)).alloc (.cells #[.int .i64 k, .string nm, .slice av1 av2 av3, .string tx, .int .i64 p, .slice kv1 kv2 kv3] 37)) (.cells #[.slice none 0 0] 26)
    rwa [World.size_alloc, World.size_alloc] at this
  have GN := (show Hid _ from gN)
  have GR := (show Hid _ from gR)
  have HS1 := (show Hid _ from hs1)
  have B1 := (show Hid (Below w.heap.size w w1) from b1)
  clear gN gR hs1 gT b1
  go_enter Tryz.func17, Tryz.ntmps17
  go_wp2_with fail
  go_at_call 37
  rw [← hw1]
  refine Calls.mono (iarenaOf_any (HN.out.below B1.out) HFIT.out (by omega) HOK.out) ?_
  rintro e w2 ⟨g, v2, rfl, ha2, o2, hg, b2⟩
  clear hw1
  obtain ⟨qs, hq1, hq2⟩ := o2.q
  have hql : qs.length = ns.length := by have := congrArg List.length hq1; simpa using this
  obtain ⟨w4, hw4⟩ : ∃ x, x = (w2.alloc (.cells #[.pointer (some ⟨g, 0, none⟩)] 44)).alloc (.cells #[.int .i64 (-1)] 3) := ⟨_, rfl⟩
  have b24 : Below w2.heap.size w2 w4 := by rw [hw4]; exact ((Below.refl _ w2).alloc (Nat.le_refl _) _).alloc (by simp) _
  have hs4 : w4.heap.size = w2.heap.size + 1 + 1 := by rw [hw4, World.size_alloc, World.size_alloc]
  have gA : w4.heap[w2.heap.size]? = some (.cells #[.pointer (some ⟨g, 0, none⟩)] 44 (0, 0)) := by rw [hw4, Below.heap_alloc _ _ _ (by simp)]; exact World.alloc_heap_new _ _
  have gK : w4.heap[w2.heap.size + 1]? = some (.cells #[.int .i64 (-1)] 3 (0, 0)) := by
    rw [hw4]
    have := World.alloc_heap_new (w2.alloc (.cells #[.pointer (some ⟨g, 0, none⟩)] 44)) (.cells #[.int .i64 (-1)] 3)
    rwa [World.size_alloc] at this
  have hgl := lt_of_block ha2
  have hs1 := HS1.out
  have b12 := b2.size
  have b14 : Below w1.heap.size w1 w4 := b2.trans (b24.mono b2.size)
  have bw4 : Below w.heap.size w w4 := B1.out.trans (b14.mono B1.out.size)
  have CC := (show Hid _ from ichange_any (B := w1.heap.size) (a := g) (A := w2.heap.size) (N := w.heap.size + 1) (K := w2.heap.size + 1) (w := w4) (k := k) (p := p) (nm := nm) (tx := tx) (kv1 := kv1) (kv2 := kv2) (kv3 := kv3) (rs := rs) ((b24.block g hgl).trans ha2) (hq2.below b24) b14.size (by omega) (by omega) (HAV.out.below bw4) hrs gA ((b14.block (w.heap.size + 1) (by omega)).trans GN.out) gK (by omega) (by
    intro q hq e
    have := (World.ownsRow.lt (hq2.2 q hq).2 _ e).2
    omega) (by rw [hq1]; exact HFIT.out) HFN.out)
  have HQ1 := (show Hid (qs.map (fun q => q.1) = ns) from hq1)
  have BW4 := (show Hid (Below w.heap.size w w4) from bw4)
  have GA := (show Hid _ from gA)
  have GR4 := (show Hid _ from (b14.block (w.heap.size + 1 + 1) (by omega)).trans GR.out)
  obtain ⟨cA4, _⟩ := one_cell gA
  have HSS := (show Hid (w1.heap.size = w.heap.size + 1 + 1 + 1 ∧ w1.heap.size ≤ w2.heap.size ∧ w4.heap.size = w2.heap.size + 1 + 1 ∧ g < w2.heap.size ∧ w1.heap.size ≤ g) from ⟨hs1, b12, hs4, hgl, hg⟩)
  clear gA gK b24 b14 bw4 hq1 hq2 o2 ha2 b2 GN GR HS1 B1 hs4 hs1 b12 hgl hg
  go_wp2_with fail
  go_at_call 38
  rw [← hw4]
  refine Calls.mono CC.out ?_
  rintro e w5 ⟨r, rfl, hr, ⟨g5, n5, c5, ha5, ho5⟩, hk5, fr5⟩
  clear CC hw4
  have hss := HSS.out
  have gA5 := fr5.box GA.out (by decide) (by omega) (by omega)
  have gR5 := fr5.box GR4.out (by decide) (by omega) (by omega)
  have b45 : Below w.heap.size w4 w5 := fr5.below (by omega) (by omega) (by omega) (by omega)
  have b5 : Below w.heap.size w w5 := BW4.out.trans b45
  obtain ⟨cA5, _⟩ := one_cell gA5
  obtain ⟨cK5, _⟩ := one_cell hk5
  rw [HQ1.out] at hr
  have HR := (show Hid _ from hr)
  have HO5 := (show Hid (r = true → ∃ av', OwnQ w1.heap.size w5 (.slice (some ⟨g5, 0, none⟩) n5 c5) (qs ++ [(⟨k, nm, rs, tx, -1, []⟩, (av', .slice none 0 0))])) from ho5)
  have GR5 := (show Hid _ from gR5)
  have B5 := (show Hid (Below w.heap.size w w5) from b5)
  have HA5 := (show Hid _ from ha5)
  have hRl := lt_of_block gR5
  have hAl := lt_of_block gA5
  have hKl := lt_of_block hk5
  have HK5 := (show Hid _ from hk5)
  clear hr ho5 gR5 b5 b45 ha5 gA5 fr5 cA4 GA GR4 BW4 hk5 hss
  cases r
  · have HF : Hid (¬ TreeOkP (ns ++ [⟨k, nm, rs, tx, -1, []⟩])) := fun h => by have := HR.out.mpr h; cases this
    clear HR HO5
    go_wp2_with fail
    go_at_call 41
    refine Calls.mono (itree_any HA5.out) ?_
    rintro e w6 ⟨rfl, b6⟩
    have gR6 := (b6.block _ hRl).trans GR5.out
    obtain ⟨cR6, zR6⟩ := one_cell gR6
    have GR6 := (show Hid _ from gR6)
    have B6 := (show Hid (Below w.heap.size w w6) from B5.out.trans (b6.mono B5.out.size))
    clear gR6 b6
    go_wp2
    refine bodyPost_ret (iadd_res rfl rfl (setCell_at GR6.out)) rfl ?_
    exact ⟨_, _, rfl, fun h => absurd h HF.out, fun _ => rfl, B6.out.setCell (p := ⟨w.heap.size + 1 + 1, 0, none⟩) (by simp; omega) _⟩
  · have HT : Hid (TreeOkP (ns ++ [⟨k, nm, rs, tx, -1, []⟩])) := HR.out.mp rfl
    have HO5' := HO5.out rfl
    obtain ⟨av5, ho5⟩ := HO5'
    have HOQ := (show Hid (OwnQ w1.heap.size w5 (.slice (some ⟨g5, 0, none⟩) n5 c5) (qs ++ [(⟨k, nm, rs, tx, -1, []⟩, (av5, .slice none 0 0))])) from ho5)
    clear HR HO5 ho5
    go_upto_region 6 with fail
    have bd : Below w5.heap.size w5 w5.drew := below_drewN 1
    have HAd : Hid (w5.drew.heap[g]? = some (.cells #[.slice (some ⟨g5, 0, none⟩) n5 c5] 69 (0, 0))) := HA5.out
    have HSR : Hid (w2.heap.size + 1 ≠ w.heap.size + 1 + 1) := (show w2.heap.size + 1 ≠ w.heap.size + 1 + 1 by have := HSS.out; omega)
    go_region_with (go_at_call 41; refine Calls.mono (itree_any HAd.out) ?_; rintro e w6 ⟨rfl, b6⟩
                    have b56 : Below w5.heap.size w5 w6 := bd.trans (b6.mono bd.size)
                    have gR6 := (b56.block _ hRl).trans GR5.out
                    obtain ⟨cR6, zR6⟩ := one_cell gR6
                    have gK6 := (b56.block _ hKl).trans HK5.out
                    obtain ⟨cK6, _⟩ := one_cell gK6
                    have hsr := HSR.out
                    have GR6 := (show Hid _ from gR6)
                    have B6 := (show Hid (Below w5.heap.size w5 w6) from b56)
                    clear gR6 b6 b56 gK6)
    all_goals go_wp2
    all_goals
      refine bodyPost_ret (iadd_res rfl rfl (setCell_at GR6.out)) rfl ?_
      refine ⟨_, _, rfl, fun _ => ⟨rfl, ?_⟩, fun h => absurd HT.out h, (B5.out.trans (B6.out.mono B5.out.size)).setCell (p := ⟨w.heap.size + 1 + 1, 0, none⟩) (by simp; omega) _⟩
      have ho6 := (OwnQ.below HOQ.out B6.out).kept (grown_setCell w6 (w.heap.size + 1 + 1) 0 (.slice (some ⟨g5, 0, none⟩) n5 c5)) (fun r e => by cases e; exact ⟨_, _, _, GR6.out, by decide, by decide, by decide⟩)
      have := ho6.n.nodes
      rwa [List.map_append, HQ1.out] at this
end Go.Proofs.YtkljadaggnbjkaaGreat

/- A list without all numbers that are x: the specification's l6Less and the program's withoutNumber, of every list of up to 2^40 numbers. -/
namespace Go.Proofs.YtkljadaggnbjkaaGreat
open Go.RowKit
set_option maxRecDepth 100000
set_option linter.unusedVariables false

def lessL (x : Int) (xs : List Int) : List Int := xs.filter (fun y => y != x)
theorem lessL_len (x : Int) (xs : List Int) : (lessL x xs).length ≤ xs.length := List.length_filter_le _ _
theorem lessL_keep {x : Int} {xs : List Int} {k : Nat} (h : k < xs.length) (hn : (xs[k] != x) = true) : lessL x (xs.take k) ++ [xs[k]] = lessL x (xs.take (k + 1)) := by
  rw [List.take_succ_eq_append_getElem h, lessL, lessL, List.filter_append]
  simp only [List.filter_cons, hn, if_true, List.filter_nil]
theorem lessL_skip {x : Int} {xs : List Int} {k : Nat} (h : k < xs.length) (hn : (xs[k] != x) = false) : lessL x (xs.take k) = lessL x (xs.take (k + 1)) := by
  rw [List.take_succ_eq_append_getElem h, lessL, lessL, List.filter_append]
  simp [hn]
theorem lessL_take (x : Int) (xs : List Int) (k : Nat) : (lessL x (xs.take k)).length ≤ k := Nat.le_trans (lessL_len _ _) (by simp; omega)

set_option maxRecDepth 100000 in
theorem sless_any {v : Value} {xs : List Int} (x : Int) {w : World} (h : Sl .i64 w v xs) (hn : xs.length ≤ 1048576) :
    Calls Tryz.prog 85 #[v, .int .i64 x] w fun e w' => ∃ v', e = .returned v' ∧ Own w.heap.size 3 .i64 w' v' (lessL x xs) ∧ Below w.heap.size w w' := by
  obtain ⟨a, ca, rfl, _, _, _, ha⟩ := h
  obtain ⟨i0, hi, hz0, hz1, hz2⟩ := info_parts Tryz.infoI
  go_enter Tryz.func85, Tryz.ntmps85
  go_wp2
  go_loopw [5, 6] (fun v i wr => ∃ k : Nat, k ≤ xs.length ∧ i = .int .i64 k ∧ Own w.heap.size 3 .i64 wr v (lessL x (xs.take k)) ∧ Below w.heap.size w wr) (fun _ i _ => xs.length - (intOf i).toNat)
  case atStart => exact ⟨0, Nat.zero_le _, rfl, own_empty _ _ w, (Below.refl _ _).alloc (Nat.le_refl _) _⟩
  case round =>
    obtain ⟨k, hk, rfl, hown, hbel⟩ := hrel
    have hbs := hbel.size
    have hlt' := lessL_take x xs k
    by_cases hlt : k < xs.length
    · have ha' := ha.below hbel
      obtain ⟨b1, o1, rfl, c1⟩ := ha' k hlt
      clear ha ha'
      go_wp2_with (at_builtin; refine wpList_app _ rfl (.tmp 20) (.tmp 25) 27 rfl w.heap.size 3 i0 (.int .i64 0) 8 Tryz.underlying27 hi hz0 hz1 hz2 rfl .i64 _ _ (lessL x (xs.take k)) [xs[k]] rfl rfl (hown.alloc _) (sl_one _ _ _ _) (by simp; omega) (by unfold maxLen; simp; omega) (by simp; omega) ?_; intro v' w3 o3 g3)
      · have hne : (xs[k] != x) = true := by assumption
        go_roundw
        case rel => exact ⟨k + 1, by omega, by go_num, by rw [← lessL_keep hlt hne]; exact o3, (hbel.alloc hbs _).grown g3 (by simp; omega) hown.grownAt⟩
        case measure => simp [intOf]; omega
      · have hne : (xs[k] != x) = false := by assumption
        go_roundw
        case rel => exact ⟨k + 1, by omega, by go_num, by rw [← lessL_skip hlt hne]; exact hown, hbel⟩
        case measure => simp [intOf]; omega
    · go_wp2
      go_ret
      have hke : k = xs.length := by omega
      rw [hke, List.take_length] at hown
      exact ⟨_, rfl, hown, hbel⟩
end Go.Proofs.YtkljadaggnbjkaaGreat

/- The specification's l6Take of a node below none, and l6Hang of such a node. No condition. -/
namespace Go.Proofs.YtkljadaggnbjkaaGreat
open Go.RowKit
set_option maxRecDepth 100000
set_option linter.unusedVariables false

theorem stake_none {w : World} {v : Value} {ns : List PNode} (hn : NodesAt w v ns) (hlen : ns.length ≤ 1048576) {c : Nat} (hc : c < ns.length) (hp : ns[c].parent = -1) :
    Calls Tryz.prog 84 #[.agg #[v], .int .i64 c] w fun e w' => e = .returned (.agg #[v]) ∧ Below w.heap.size w w' := by
  obtain ⟨a, cap, rfl, hc1, hc2, hcs⟩ := hn.slice
  obtain ⟨b, off, av, kv, rfl, hblt, _, _, _, _, d4, _⟩ := hcs c hc
  rw [hp] at d4
  clear hcs hn
  obtain ⟨w2, hw2⟩ : ∃ w2, w2 = (w.alloc (.cells #[.slice (some ⟨b, off, none⟩) ns.length cap] 26)).alloc (.cells #[.slice none 0 0] 26) := ⟨_, rfl⟩
  have b2 : Below w.heap.size w w2 := by rw [hw2]; exact ((Below.refl _ w).alloc (Nat.le_refl _) _).alloc (by simp) _
  have g0 : w2.heap[w.heap.size]? = some (.cells #[.slice (some ⟨b, off, none⟩) ns.length cap] 26 (0, 0)) := by
    rw [hw2, Below.heap_alloc _ _ _ (by simp)]; exact World.alloc_heap_new _ _
  have g1 : w2.heap[w.heap.size + 1]? = some (.cells #[.slice none 0 0] 26 (0, 0)) := by
    rw [hw2]
    have := World.alloc_heap_new (w.alloc (.cells #[.slice (some ⟨b, off, none⟩) ns.length cap] 26)) (.cells #[.slice none 0 0] 26)
    rwa [World.size_alloc] at this
  have k0 : w2.cell? ⟨w.heap.size, 0, none⟩ = some (.slice (some ⟨b, off, none⟩) ns.length cap) := by simp only [World.cell?, g0]; rfl
  have k1 : w2.cell? ⟨w.heap.size + 1, 0, none⟩ = some (.slice none 0 0) := by simp only [World.cell?, g1]; rfl
  have f1 : w2.frozen? ⟨w.heap.size + 1, 0, none⟩ = false := by simp [World.frozen?, g1]
  replace d4 := (b2.cell (p := ⟨b, off + c * 6 + 4, none⟩) hblt).trans d4
  have HG1 := (show Hid _ from g1)
  clear g0 g1
  go_enter Tryz.func84, Tryz.ntmps84
  go_upto_region 1 with fail
  rw [← hw2]
  clear hw2
  go_wp2
  have gs := setCell_at (k := 0) (u := .slice (some ⟨b, off, none⟩) ns.length cap) HG1.out
  refine bodyPost_ret (results_cell_row rfl _ _ (w.heap.size + 1) 26 _ (0, 0) _ rfl gs Tryz.underlying26 rfl rfl) rfl ?_
  exact ⟨rfl, b2.setCell (p := ⟨w.heap.size + 1, 0, none⟩) (by show w.heap.size ≤ w.heap.size + 1; omega) _⟩

/-- The new Kids and the new Parent in the row of nodes. -/
def kidQ (q : PNode × (Value × Value)) (ks : List Int) (kv : Value) : PNode × (Value × Value) := (⟨q.1.kind, q.1.name, q.1.attrs, q.1.text, q.1.parent, ks⟩, (q.2.1, kv))
def parQ (q : PNode × (Value × Value)) (x : Int) : PNode × (Value × Value) := (⟨q.1.kind, q.1.name, q.1.attrs, q.1.text, x, q.1.kids⟩, q.2)
theorem nodeCells_set (qs : List (PNode × (Value × Value))) (k : Nat) (hk : k < qs.length) (q : PNode × (Value × Value)) (j : Nat) (hj : j < 6) (u : Value) (h : nodeRow q.1 q.2 = (nodeRow qs[k].1 qs[k].2).set j u) :
    nodeCells (qs.set k q) = (nodeCells qs).set (k * 6 + j) u := by
  induction qs generalizing k with
  | nil => simp at hk
  | cons p qs ih =>
    cases k with
    | zero =>
      simp only [nodeCells, List.set_cons_zero, List.flatMap_cons, Nat.zero_mul, Nat.zero_add, List.getElem_cons_zero] at h ⊢
      rw [h, List.set_append_left _ _ (by simp [nodeRow]; omega)]
    | succ k =>
      have := ih k (by simpa using hk) (by simpa using h)
      simp only [nodeCells, List.set_cons_succ, List.flatMap_cons] at this ⊢
      rw [this, List.set_append_right _ _ (by simp [nodeRow]; omega)]
      congr 2
      simp [nodeRow]; omega
end Go.Proofs.YtkljadaggnbjkaaGreat

/- The specification's l6Hang of a node below none (written by mk/shang.py). No condition. -/
namespace Go.Proofs.YtkljadaggnbjkaaGreat
open Go.RowKit
set_option maxRecDepth 100000
set_option linter.unusedVariables false

theorem step_appI {P : Program} {ops : Array Oper} {o : Oper} {a : Act} {w : World} {K : Act → World → Prop} {Q : Exit → Act → World → Prop} {E : Prop}
    (hg : o.guard = none) (s x : Operand) (t : TypeId) (hop : o.op = Op.call { callee := Callee.builtin Builtin.append, args := #[s, x], argTypes := #[t, t] })
    (B : Nat) (e : TypeId) (i : TypeInfo) (z : Value) (bytes : Nat) (h1 : P.underlying t = some (.slice e)) (h2 : P.info? e = some i) (h3 : i.zero = some z) (h4 : i.size = 1) (h5 : i.bytes = bytes) (h6 : z.cells.size = 1)
    (k : IntKind) (v : Value) (xs : List Int) (hs : a.eval s = v) (hown : Own B e k w v xs)
    (ad : Addr) (c : Nat) (ys : List Int) (hx : a.eval x = .slice (some ad) ys.length c) (hu : Sl k w (.slice (some ad) ys.length c) ys)
    (b2 : (xs.length + ys.length) * bytes ≤ 140737488355328) (b1 : xs.length + ys.length ≤ maxLen) (hB : B ≤ w.heap.size)
    (hK : ∀ v' w', Own B e k w' v' (xs ++ ys) → w.grownBy w' v.ownBlock → K (a.put o.dst v') w') :
    if Region.wanted o (yielded ops a.tmps) = true then Oper.wp P o a w K Q else E := by
  obtain ⟨ao, cap, e1, hlc, hcm, hnone, hc⟩ := hu
  cases e1
  refine step_app_own hg s x t hop B e i z 1 bytes h1 h2 h3 h4 h5 h6 (by decide) v xs.length (xs.map (Value.int k)) hs hown ad ys.length c (ys.map (Value.int k)) hx (by simp) (Sl.news hc) (ints_oneCell k ys) b1 b2 hB ?_
  intro v' w' ho hg'
  refine hK v' w' ?_ hg'
  unfold Own
  rw [List.length_append, List.map_append]; exact ho

theorem sl_at {w : World} {g : Nat} {c : Int} {t : TypeId} (h : w.heap[g]? = some (.cells #[.int .i64 c] t (0, 0))) : Sl .i64 w (.slice (some ⟨g, 0, none⟩) 1 1) [c] := by
  refine ⟨_, 1, rfl, Nat.le_refl _, by decide, (fun e => by cases e), fun j hj => ⟨g, 0, rfl, ?_⟩⟩
  simp only [List.length_singleton] at hj
  obtain rfl : j = 0 := by omega
  simp only [World.cell?, h]; rfl

/-- A node more among the Kids of node p. -/
def kidsN (ns : List PNode) (c p : Nat) : List PNode := ns.modify p fun n => ⟨n.kind, n.name, n.attrs, n.text, n.parent, lessL (c : Int) n.kids ++ [(c : Int)]⟩
def parN (ns : List PNode) (c : Nat) (x : Int) : List PNode := ns.modify c fun n => ⟨n.kind, n.name, n.attrs, n.text, x, n.kids⟩

theorem map_modify {qs : List (PNode × (Value × Value))} {k : Nat} (hk : k < qs.length) {q : PNode × (Value × Value)} {f : PNode → PNode} (h : q.1 = f qs[k].1) : (qs.set k q).map (fun q => q.1) = (qs.map (fun q => q.1)).modify k f := by
  rw [List.map_set, h]
  apply List.ext_getElem
  · simp
  · intro i h1 h2
    simp only [List.length_set, List.length_map] at h1
    rw [List.getElem_set, List.getElem_modify]
    by_cases e : k = i
    · subst e; simp
    · simp [e]

/-- Behind the new Kids: the row has them. -/
def HangW (B : Nat) (w : World) (N g : Nat) (v : Value) (ns : List PNode) (wx : World) : Prop :=
  wx.heap[N]? = some (.cells #[v] 26 (0, 0)) ∧ wx.heap[N + 1]? = some (.cells #[.slice none 0 0] 26 (0, 0)) ∧ OwnN B wx v ns ∧ w.grownBy wx (some g)

theorem own_kids {B : Nat} {w : World} {g n cap : Nat} {ns : List PNode} (h : OwnN B w (.slice (some ⟨g, 0, none⟩) n cap) ns) (hn : n = ns.length) {p : Nat} (hp : p < ns.length) {ks : List Int} {u : Value} (hu : Own B 3 .i64 w u ks) :
    OwnN B (w.setCell ⟨g, p * 6 + 5, none⟩ u) (.slice (some ⟨g, 0, none⟩) n cap) (ns.modify p fun n => ⟨n.kind, n.name, n.attrs, n.text, n.parent, ks⟩) := by
  subst hn
  obtain ⟨qs, rfl, h2, h3⟩ := h
  have hq : p < qs.length := by simpa using hp
  have hst := h2.stored (p * 6 + 5) u
  have hset := nodeCells_set qs p hq (kidQ qs[p] ks u) 5 (by omega) u (by simp [kidQ, nodeRow])
  rw [← hset] at hst
  refine ⟨qs.set p (kidQ qs[p] ks u), map_modify hq rfl, ?_, fun q hqm => ?_⟩
  · simpa using hst.1
  · rcases List.mem_or_eq_of_mem_set hqm with hqm | rfl
    · exact lists_kept h2 hst.2 (h3 q hqm)
    · have hold := lists_kept h2 hst.2 (h3 qs[p] (List.getElem_mem hq))
      have hnew := lists_kept (q := (⟨0, ⟨#[]⟩, qs[p].1.attrs, ⟨#[]⟩, 0, ks⟩, (qs[p].2.1, u))) h2 hst.2 ⟨(h3 qs[p] (List.getElem_mem hq)).1, hu⟩
      exact ⟨hold.1, hnew.2⟩
theorem own_parent {B : Nat} {w : World} {g n cap : Nat} {ns : List PNode} (h : OwnN B w (.slice (some ⟨g, 0, none⟩) n cap) ns) (hn : n = ns.length) {c : Nat} (hc : c < ns.length) (x : Int) :
    OwnN B (w.setCell ⟨g, c * 6 + 4, none⟩ (.int .i64 x)) (.slice (some ⟨g, 0, none⟩) n cap) (parN ns c x) := by
  subst hn
  obtain ⟨qs, rfl, h2, h3⟩ := h
  have hq : c < qs.length := by simpa using hc
  have hst := h2.stored (c * 6 + 4) (.int .i64 x)
  have hset := nodeCells_set qs c hq (parQ qs[c] x) 4 (by omega) (.int .i64 x) (by simp [parQ, nodeRow])
  rw [← hset] at hst
  refine ⟨qs.set c (parQ qs[c] x), map_modify hq rfl, ?_, fun q hqm => ?_⟩
  · simpa [parN] using hst.1
  · rcases List.mem_or_eq_of_mem_set hqm with hqm | rfl
    · exact lists_kept h2 hst.2 (h3 q hqm)
    · exact lists_kept (q := parQ qs[c] x) h2 hst.2 (h3 qs[c] (List.getElem_mem hq))

theorem hang_fin {B N : Nat} {w W2 x2 : World} {ns : List PNode} {g cap c p : Nat} {u : Value} (hp : p < ns.length)
    (h0 : W2.heap[N]? = some (.cells #[.slice (some ⟨g, 0, none⟩) ns.length cap] 26 (0, 0))) (h1 : W2.heap[N + 1]? = some (.cells #[.slice none 0 0] 26 (0, 0))) (hO : OwnN B W2 (.slice (some ⟨g, 0, none⟩) ns.length cap) ns) (hg : w.grownBy W2 (some g)) (hgN : g < N) (hBS : B ≤ W2.heap.size)
    (o2 : Own W2.heap.size 3 .i64 x2 u (lessL (c : Int) ns[p].kids ++ [(c : Int)])) (b2 : Below W2.heap.size W2 x2) : HangW B w N g (.slice (some ⟨g, 0, none⟩) ns.length cap) (kidsN ns c p) (x2.setCell ⟨g, p * 6 + 5, none⟩ u) := by
  have hne : ∀ r, N ≤ r → r ≠ g := fun r hr e => by omega
  have e0 := (b2.block _ (blk_lt h0)).trans h0
  have e1 := (b2.block _ (blk_lt h1)).trans h1
  refine ⟨(Below.heap_setCell _ _ _ _ (hne N (Nat.le_refl _))).trans e0, (Below.heap_setCell _ _ _ _ (hne (N + 1) (by omega))).trans e1, ?_, ?_⟩
  · have := own_kids (hO.below b2) rfl hp (o2.base hBS)
    have e : (ns.modify p fun n => (⟨n.kind, n.name, n.attrs, n.text, n.parent, lessL (c : Int) ns[p].kids ++ [(c : Int)]⟩ : PNode)) = kidsN ns c p := by
      unfold kidsN
      apply List.ext_getElem
      · simp
      · intro i h1 h2
        rw [List.getElem_modify, List.getElem_modify]
        by_cases e : p = i
        · subst e; simp
        · simp [e]
    rw [e] at this
    exact this
  · have hgb : W2.grownBy (x2.setCell ⟨g, p * 6 + 5, none⟩ u) (some g) := grown_trans (below_by g b2) (grown_setCell _ _ _ _)
    exact ⟨hgb.os.trans hg.os, hgb.tape.trans hg.tape, hgb.output.trans hg.output, Nat.le_trans hg.size hgb.size, fun r hr hne' => (hgb.block r (Nat.lt_of_lt_of_le hr hg.size) hne').trans (hg.block r hr hne')⟩

set_option maxHeartbeats 2000000 in
set_option maxRecDepth 100000 in
theorem shang_any {B : Nat} {w : World} {v : Value} {ns : List PNode} (hO : OwnN B w v ns) (hB : B ≤ w.heap.size) (hlen : ns.length ≤ 100000) {c p : Nat} (hc : c < ns.length) (hp : p < ns.length) (hpar : ns[c].parent = -1) (hkl : ns[p].kids.length ≤ 100000) :
    Calls Tryz.prog 58 #[.agg #[v], .int .i64 c, .int .i64 p] w fun e w' => e = .returned (.agg #[v]) ∧ OwnN B w' v (parN (kidsN ns c p) c p) ∧ w.grownBy w' v.ownBlock := by
  obtain ⟨ii, hii, hzi0, hzi1, hzi2⟩ := info_parts Tryz.infoIntRow
  obtain ⟨g, cap, rfl, hgB, hgl⟩ : ∃ g cap, v = (.slice (some ⟨g, 0, none⟩) ns.length cap) ∧ B ≤ g ∧ g < w.heap.size := by obtain ⟨_, _, h2, _⟩ := hO; exact one_form h2 (by omega)
  have HO := (show Hid (OwnN B w (.slice (some ⟨g, 0, none⟩) ns.length cap) ns) from hO)
  clear hO
  obtain ⟨W0, hW0⟩ : ∃ W0, W0 = (w.alloc (.cells #[.slice (some ⟨g, 0, none⟩) ns.length cap] 26)).alloc (.cells #[.slice none 0 0] 26) := ⟨_, rfl⟩
  have b0 : Below w.heap.size w W0 := by rw [hW0]; exact ((Below.refl _ w).alloc (Nat.le_refl _) _).alloc (by simp) _
  have g0 : W0.heap[w.heap.size]? = some (.cells #[.slice (some ⟨g, 0, none⟩) ns.length cap] 26 (0, 0)) := by
    rw [hW0, Below.heap_alloc _ _ _ (by simp)]; exact World.alloc_heap_new _ _
  have g1 : W0.heap[w.heap.size + 1]? = some (.cells #[.slice none 0 0] 26 (0, 0)) := by
    rw [hW0]
    have := World.alloc_heap_new (w.alloc (.cells #[.slice (some ⟨g, 0, none⟩) ns.length cap] 26)) (.cells #[.slice none 0 0] 26)
    rwa [World.size_alloc] at this
  have k00 : W0.cell? ⟨w.heap.size, 0, none⟩ = some (.slice (some ⟨g, 0, none⟩) ns.length cap) := by simp only [World.cell?, g0]; rfl
  have HG0 := (show Hid _ from g0)
  have HG1 := (show Hid _ from g1)
  clear g0 g1
  go_enter Tryz.func58, Tryz.ntmps58
  go_upto_region 1 with fail
  rw [← hW0]
  clear hW0
  go_upto_region 2 with (first
    | (go_at_call 84
       refine Calls.mono (stake_none (HO.out.nodes.below b0) (by omega) hc hpar) ?_
       rintro e w1 ⟨rfl, b1⟩
       have h10 := (b1.block _ (blk_lt HG0.out)).trans HG0.out
       have h11 := (b1.block _ (blk_lt HG1.out)).trans HG1.out
       have m0 : w1.cell? ⟨w.heap.size, 0, none⟩ = some (.slice (some ⟨g, 0, none⟩) ns.length cap) := by simp only [World.cell?, h10]; rfl
       have z0 : w1.frozen? ⟨w.heap.size, 0, none⟩ = false := by simp [World.frozen?, h10]
       have H10 := (show Hid _ from h10)
       have H11 := (show Hid _ from h11)
       have HB01 := (show Hid (Below w.heap.size w w1) from b0.trans (b1.mono b0.size))
       clear h10 h11 b1)
    | fail)
  obtain ⟨W2, hW2⟩ : ∃ W2, W2 = w1.setCell ⟨w.heap.size, 0, none⟩ (.slice (some ⟨g, 0, none⟩) ns.length cap) := ⟨_, rfl⟩
  have gr1 : w1.grownBy W2 (some w.heap.size) := by rw [hW2]; exact grown_setCell _ _ _ _
  have b2 : Below w.heap.size w W2 := HB01.out.grown gr1 HB01.out.size (fun r e => by cases e; exact Nat.le_refl _)
  have h20 : W2.heap[w.heap.size]? = some (.cells #[.slice (some ⟨g, 0, none⟩) ns.length cap] 26 (0, 0)) := by rw [hW2]; exact setCell_at H10.out
  have h21 : W2.heap[w.heap.size + 1]? = some (.cells #[.slice none 0 0] 26 (0, 0)) := by rw [hW2, Below.heap_setCell _ _ _ _ (by show w.heap.size + 1 ≠ w.heap.size; omega)]; exact H11.out
  rw [← hW2]
  clear hW2 gr1 H10 H11 m0 z0 HB01 HG0 HG1 b0 k00
  have O2 := HO.out.below b2
  obtain ⟨_, _, e2, _, _, hcs⟩ := O2.nodes.slice
  cases e2
  obtain ⟨_, _, av, kv, e3, _, _, _, _, _, _, k5, _, hkv⟩ := hcs p hp
  cases e3
  rw [Nat.zero_add] at k5
  have k0 : W2.cell? ⟨w.heap.size, 0, none⟩ = some (.slice (some ⟨g, 0, none⟩) ns.length cap) := by simp only [World.cell?, h20]; rfl
  have HKV := (show Hid (Sl .i64 W2 kv ns[p].kids) from hkv)
  obtain ⟨kv1, kv3, rfl, _, _, _, _⟩ := hkv
  have k0a : ∀ X, (W2.alloc X).cell? ⟨w.heap.size, 0, none⟩ = some (.slice (some ⟨g, 0, none⟩) ns.length cap) := fun X => (((Below.refl _ W2).alloc (Nat.le_refl _) X).cell (p := ⟨w.heap.size, 0, none⟩) (lt_of_cell6 k0)).trans k0
  have k5a : ∀ X, (W2.alloc X).cell? ⟨g, p * 6 + 5, none⟩ = some (.slice kv1 ns[p].kids.length kv3) := fun X => (((Below.refl _ W2).alloc (Nat.le_refl _) X).cell (p := ⟨g, p * 6 + 5, none⟩) (lt_of_cell6 k5)).trans k5
  have HO2 := (show Hid (OwnN B W2 (.slice (some ⟨g, 0, none⟩) ns.length cap) ns) from O2)
  obtain ⟨qs2, _, hq2, _⟩ := HO2.out
  have HRW := (show Hid (W2.ownsRow B 37 6 (.slice (some ⟨g, 0, none⟩) ns.length cap) ns.length (nodeCells qs2)) from hq2)
  clear hq2
  have HQ := (show Hid (_ ∧ _ ∧ _) from ⟨h20, h21, b2⟩)
  have hll := lessL_len (c : Int) ns[p].kids
  have CL := (show Hid (∀ w', Below W2.heap.size W2 w' → Calls Tryz.prog 85 #[.slice kv1 ns[p].kids.length kv3, .int .i64 (c : Int)] w' fun e w'' => ∃ v', e = .returned v' ∧ Own w'.heap.size 3 .i64 w'' v' (lessL (c : Int) ns[p].kids) ∧ Below w'.heap.size w' w'') from fun w' hb => sless_any (c : Int) (HKV.out.below hb) (by omega))
  have hcl : (c : Int) < ns.length := by omega
  have hpl : (p : Int) < ns.length := by omega
  clear O2 hcs h20 h21 b2
  go_cut [] from 10 (fun wx => HangW B w w.heap.size g (.slice (some ⟨g, 0, none⟩) ns.length cap) (kidsN ns c p) wx)
  case first =>
    go_region_law (first
      | (with_reducible refine step_appI (w := x1) ?_ (.tmp 20) (.tmp 22) 27 ?_ W2.heap.size 3 ii (.int .i64 0) 8 ?_ hii hzi0 hzi1 hzi2 ?_ .i64 (.slice ua un uc) (lessL (c : Int) ns[p].kids) ?_ ?_ ⟨W2.heap.size, 0, none⟩ 1 [(c : Int)] ?_ ?_ ?_ ?_ ?_ ?_
         · rfl
         · rfl
         · exact Tryz.underlying27
         · rfl
         · simp [Act.eval]
         · exact HO1.out
         · simp [Act.eval]
         · exact sl_at HND.out
         · (simp; omega)
         · (unfold maxLen; simp; omega)
         · exact (HB1.out).size
         intro v2 x2 o2 g2
         obtain ⟨va, vn, vc, rfl⟩ := own_slice o2
         have b2' : Below W2.heap.size W2 x2 := (HB1.out).grown g2 (HB1.out).size (fun r e => (World.ownsRow.lt HO1.out r e).1)
         have l0 : x2.cell? ⟨w.heap.size, 0, none⟩ = some (.slice (some ⟨g, 0, none⟩) ns.length cap) := (b2'.cell (p := ⟨w.heap.size, 0, none⟩) (lt_of_cell6 k0)).trans k0
         have l5 : x2.cell? ⟨g, p * 6 + 5, none⟩ = some (.slice kv1 ns[p].kids.length kv3) := (b2'.cell (p := ⟨g, p * 6 + 5, none⟩) (lt_of_cell6 k5)).trans k5
         have fz : x2.frozen? ⟨g, p * 6 + 5, none⟩ = false := (ownsRow_below HRW.out b2').frozenAt _
         have HF := (show Hid (_ ∧ _) from ⟨o2, b2'⟩)
         clear o2 b2' g2)
      | (with_reducible refine step_appI (w := (x1.alloc (Obj.cells #[.int .i64 (c : Int)] 3))) ?_ (.tmp 20) (.tmp 22) 27 ?_ W2.heap.size 3 ii (.int .i64 0) 8 ?_ hii hzi0 hzi1 hzi2 ?_ .i64 (.slice ua un uc) (lessL (c : Int) ns[p].kids) ?_ ?_ ⟨x1.heap.size, 0, none⟩ 1 [(c : Int)] ?_ ?_ ?_ ?_ ?_ ?_
         · rfl
         · rfl
         · exact Tryz.underlying27
         · rfl
         · simp [Act.eval]
         · exact ownsRow_below HO1.out ((Below.refl _ _).alloc (Nat.le_refl _) _)
         · simp [Act.eval]
         · exact sl_one _ _ x1 _
         · (simp; omega)
         · (unfold maxLen; simp; omega)
         · exact (HB1.out.alloc HB1.out.size _).size
         intro v2 x2 o2 g2
         obtain ⟨va, vn, vc, rfl⟩ := own_slice o2
         have b2' : Below W2.heap.size W2 x2 := (HB1.out.alloc HB1.out.size _).grown g2 (HB1.out.alloc HB1.out.size _).size (fun r e => (World.ownsRow.lt HO1.out r e).1)
         have l0 : x2.cell? ⟨w.heap.size, 0, none⟩ = some (.slice (some ⟨g, 0, none⟩) ns.length cap) := (b2'.cell (p := ⟨w.heap.size, 0, none⟩) (lt_of_cell6 k0)).trans k0
         have l5 : x2.cell? ⟨g, p * 6 + 5, none⟩ = some (.slice kv1 ns[p].kids.length kv3) := (b2'.cell (p := ⟨g, p * 6 + 5, none⟩) (lt_of_cell6 k5)).trans k5
         have fz : x2.frozen? ⟨g, p * 6 + 5, none⟩ = false := (ownsRow_below HRW.out b2').frozenAt _
         have HF := (show Hid (_ ∧ _) from ⟨o2, b2'⟩)
         clear o2 b2' g2)
      | (go_simp
         go_at_call 85
         with_reducible refine Calls.mono (CL.out ((W2.alloc (Obj.cells #[.int .i64 (c : Int)] 3)).drew) (show Below W2.heap.size W2 (W2.alloc (Obj.cells #[.int .i64 (c : Int)] 3)).drew from ((Below.refl _ W2).alloc (Nat.le_refl _) _).trans (below_drewN 1))) ?_
         rintro e x1 ⟨u1, rfl, o1, b1⟩
         have b1' : Below W2.heap.size W2 x1 := ((show Below W2.heap.size W2 (W2.alloc (Obj.cells #[.int .i64 (c : Int)] 3)).drew from ((Below.refl _ W2).alloc (Nat.le_refl _) _).trans (below_drewN 1))).trans (b1.mono ((show Below W2.heap.size W2 (W2.alloc (Obj.cells #[.int .i64 (c : Int)] 3)).drew from ((Below.refl _ W2).alloc (Nat.le_refl _) _).trans (below_drewN 1))).size)
         have o1' : Own W2.heap.size 3 .i64 x1 u1 (lessL (c : Int) ns[p].kids) := o1.base ((show Below W2.heap.size W2 (W2.alloc (Obj.cells #[.int .i64 (c : Int)] 3)).drew from ((Below.refl _ W2).alloc (Nat.le_refl _) _).trans (below_drewN 1))).size
         obtain ⟨ua, un, uc, rfl⟩ := own_slice o1'
         have j0 : x1.cell? ⟨w.heap.size, 0, none⟩ = some (.slice (some ⟨g, 0, none⟩) ns.length cap) := (b1'.cell (p := ⟨w.heap.size, 0, none⟩) (lt_of_cell6 k0)).trans k0
         have j0a : ∀ X, (x1.alloc X).cell? ⟨w.heap.size, 0, none⟩ = some (.slice (some ⟨g, 0, none⟩) ns.length cap) := fun X => ((b1'.alloc b1'.size X).cell (p := ⟨w.heap.size, 0, none⟩) (lt_of_cell6 k0)).trans k0
         have HO1 := (show Hid (Own W2.heap.size 3 .i64 x1 (.slice ua un uc) (lessL (c : Int) ns[p].kids)) from o1')
         have HB1 := (show Hid (Below W2.heap.size W2 x1) from b1')
         have hnd : x1.heap[W2.heap.size]? = some (.cells #[.int .i64 (c : Int)] 3 (0, 0)) := (b1.block _ (by simp [World.drew])).trans (World.alloc_heap_new W2 _)
         have HND := (show Hid _ from hnd)
         clear o1 o1' b1 b1')
      | (go_simp
         go_at_call 85
         with_reducible refine Calls.mono (CL.out (W2.drew) (show Below W2.heap.size W2 W2.drew from below_drewN 1)) ?_
         rintro e x1 ⟨u1, rfl, o1, b1⟩
         have b1' : Below W2.heap.size W2 x1 := ((show Below W2.heap.size W2 W2.drew from below_drewN 1)).trans (b1.mono ((show Below W2.heap.size W2 W2.drew from below_drewN 1)).size)
         have o1' : Own W2.heap.size 3 .i64 x1 u1 (lessL (c : Int) ns[p].kids) := o1.base ((show Below W2.heap.size W2 W2.drew from below_drewN 1)).size
         obtain ⟨ua, un, uc, rfl⟩ := own_slice o1'
         have j0 : x1.cell? ⟨w.heap.size, 0, none⟩ = some (.slice (some ⟨g, 0, none⟩) ns.length cap) := (b1'.cell (p := ⟨w.heap.size, 0, none⟩) (lt_of_cell6 k0)).trans k0
         have j0a : ∀ X, (x1.alloc X).cell? ⟨w.heap.size, 0, none⟩ = some (.slice (some ⟨g, 0, none⟩) ns.length cap) := fun X => ((b1'.alloc b1'.size X).cell (p := ⟨w.heap.size, 0, none⟩) (lt_of_cell6 k0)).trans k0
         have HO1 := (show Hid (Own W2.heap.size 3 .i64 x1 (.slice ua un uc) (lessL (c : Int) ns[p].kids)) from o1')
         have HB1 := (show Hid (Below W2.heap.size W2 x1) from b1')

         clear o1 o1' b1 b1'))
    all_goals
      go_wp2_with fail
      go_meet
      have t1 := HF.out.1
      have t2 := HF.out.2
      have t3 := HQ.out.1
      have t4 := HQ.out.2.1
      have t5 := below_by g HQ.out.2.2
      have t6 := Nat.le_trans hB HQ.out.2.2.size
      with_reducible exact hang_fin hp t3 t4 HO2.out t5 hgl t6 t1 t2
  case rest =>
    obtain ⟨hx0, hx1, hxo, hxg⟩ := hcut
    have hc' : c < (kidsN ns c p).length := by simpa [kidsN] using hc
    have hop := own_parent hxo (by simp [kidsN]) hc' (p : Int)
    have hln : (kidsN ns c p).length = ns.length := by simp [kidsN]
    obtain ⟨qs3, _, hq3, _⟩ := hxo
    rw [hln] at hq3
    have hcell := hq3.cellAt (c * 6 + 4) (by omega)
    have hfz := hq3.frozenAt (c * 6 + 4)
    obtain ⟨y, hy⟩ : ∃ y, wc.cell? ⟨g, c * 6 + 4, none⟩ = some y := by
      rw [hcell, List.getElem?_eq_getElem (by rw [hq3.1]; omega)]; exact ⟨_, rfl⟩
    have m0 : wc.cell? ⟨w.heap.size, 0, none⟩ = some (.slice (some ⟨g, 0, none⟩) ns.length cap) := by simp only [World.cell?, hx0]; rfl
    have m1 : wc.cell? ⟨w.heap.size + 1, 0, none⟩ = some (.slice none 0 0) := by simp only [World.cell?, hx1]; rfl
    have z1 : wc.frozen? ⟨w.heap.size + 1, 0, none⟩ = false := by simp [World.frozen?, hx1]
    have hgn : g ≠ w.heap.size := by omega
    have hgn1 : g ≠ w.heap.size + 1 := by omega
    obtain ⟨W4, hW4⟩ : ∃ W4, W4 = wc.setCell ⟨g, c * 6 + 4, none⟩ (.int .i64 (p : Int)) := ⟨_, rfl⟩
    have gr4 : wc.grownBy W4 (some g) := by rw [hW4]; exact grown_setCell _ _ _ _
    have x40 : W4.heap[w.heap.size]? = some (.cells #[.slice (some ⟨g, 0, none⟩) ns.length cap] 26 (0, 0)) := (gr4.block _ (blk_lt hx0) (fun e => by simp only [Option.some.injEq] at e; omega)).trans hx0
    have x41 : W4.heap[w.heap.size + 1]? = some (.cells #[.slice none 0 0] 26 (0, 0)) := (gr4.block _ (blk_lt hx1) (fun e => by simp only [Option.some.injEq] at e; omega)).trans hx1
    have n0 : W4.cell? ⟨w.heap.size, 0, none⟩ = some (.slice (some ⟨g, 0, none⟩) ns.length cap) := by simp only [World.cell?, x40]; rfl
    have n1 : W4.cell? ⟨w.heap.size + 1, 0, none⟩ = some (.slice none 0 0) := by simp only [World.cell?, x41]; rfl
    have q1 : W4.frozen? ⟨w.heap.size + 1, 0, none⟩ = false := by simp [World.frozen?, x41]
    have HX := (show Hid (W4.heap[w.heap.size + 1]? = some (.cells #[.slice none 0 0] 26 (0, 0)) ∧ OwnN B W4 (.slice (some ⟨g, 0, none⟩) ns.length cap) (parN (kidsN ns c p) c p) ∧ w.grownBy W4 (some g)) from ⟨x41, by rw [hW4]; exact hop, ⟨gr4.os.trans hxg.os, gr4.tape.trans hxg.tape, gr4.output.trans hxg.output, Nat.le_trans hxg.size gr4.size, fun r hr hne => (gr4.block r (Nat.lt_of_lt_of_le hr hxg.size) hne).trans (hxg.block r hr hne)⟩⟩)
    clear hx0 hx1 hop hq3 hcell hxg gr4 x40 x41
    go_upto_region 4 with fail
    rw [← hW4]
    clear hW4
    go_wp2
    have gs := setCell_at (k := 0) (u := .slice (some ⟨g, 0, none⟩) ns.length cap) HX.out.1
    have gr5 := grown_setCell W4 (w.heap.size + 1) 0 (.slice (some ⟨g, 0, none⟩) ns.length cap)
    refine bodyPost_ret (results_cell_row rfl _ _ (w.heap.size + 1) 26 _ (0, 0) _ rfl gs Tryz.underlying26 rfl rfl) rfl ?_
    refine ⟨rfl, OwnN.kept HX.out.2.1 gr5 (fun r e => by cases e; exact ⟨_, _, _, HX.out.1, by decide, by decide, by decide⟩), ?_⟩
    have hg4 := HX.out.2.2
    exact ⟨gr5.os.trans hg4.os, gr5.tape.trans hg4.tape, gr5.output.trans hg4.output, Nat.le_trans hg4.size gr5.size, fun r hr hne => (gr5.block r (Nat.lt_of_lt_of_le hr hg4.size) (fun e => by simp only [Option.some.injEq] at e; omega)).trans (hg4.block r hr hne)⟩
end Go.Proofs.YtkljadaggnbjkaaGreat
