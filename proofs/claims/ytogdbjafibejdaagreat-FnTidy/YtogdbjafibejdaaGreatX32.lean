/- The program's arenaOf, change (with the step of TreeAdd) and TreeAdd of a tree that is right. No condition. -/
import Derived.Test.YtogdbjafibejdaaGreatX31
import Derived.Defers
namespace Go.Proofs.YtogdbjafibejdaaGreat
open Go.RowKit
set_option maxRecDepth 100000
set_option linter.unusedVariables false

theorem OwnN.form {B : Nat} {w : World} {v : Value} {ns : List PNode} (h : OwnN B w v ns) (h0 : 0 < ns.length) : ∃ g cap, v = .slice (some ⟨g, 0, none⟩) ns.length cap ∧ B ≤ g ∧ g < w.heap.size := by
  obtain ⟨qs, h1, h2, h3⟩ := h
  exact one_form h2 h0
theorem one_cell {w : World} {b : Nat} {u : Value} {t : TypeId} (h : w.heap[b]? = some (.cells #[u] t (0, 0))) : w.cell? ⟨b, 0, none⟩ = some u ∧ w.frozen? ⟨b, 0, none⟩ = false := ⟨by simp only [World.cell?, h]; rfl, by simp only [World.frozen?, h]; rfl⟩

set_option maxRecDepth 100000 in
theorem iarenaOf_any {w : World} {v : Value} {ns : List PNode} (hn : NodesAt w v ns) (hfit : ∀ n ∈ ns, NodeFit n) (hlen : ns.length ≤ 1048576) (hok : TreeOkP ns) :
    Calls Tryz.prog 47 #[.agg #[v]] w fun e w' => ∃ g v', e = .returned (.pointer (some ⟨g, 0, none⟩)) ∧ w'.heap[g]? = some (.cells #[v'] 77 (0, 0)) ∧ OwnN w.heap.size w' v' ns ∧ w.heap.size ≤ g ∧ Below w.heap.size w w' := by
  have HN := (show Hid (NodesAt w v ns) from hn)
  have HFIT := (show Hid _ from hfit)
  have HOK := (show Hid _ from hok)
  obtain ⟨a, cap, rfl, hc1, hc2, _⟩ := hn.slice
  clear hn hfit hok
  obtain ⟨w1, hw1⟩ : ∃ w1, w1 = w.alloc (.cells #[.slice a ns.length cap] 26) := ⟨_, rfl⟩
  have b1 : Below w.heap.size w w1 := by rw [hw1]; exact (Below.refl _ _).alloc (Nat.le_refl _) _
  have g1 : w1.heap[w.heap.size]? = some (.cells #[.slice a ns.length cap] 26 (0, 0)) := by rw [hw1]; exact World.alloc_heap_new _ _
  have HG1 := (show Hid _ from g1)
  clear g1
  go_enter Tryz.func47, Tryz.ntmps47
  go_wp2_with fail
  go_at_call 15
  rw [← hw1]
  refine Calls.mono (itreeOk_any (HN.out.below b1) HFIT.out hlen) ?_
  rintro e w2 ⟨r, rfl, hr, b2⟩
  clear hw1
  obtain rfl : r = true := hr.mpr HOK.out
  have hb2 := b1.trans (b2.mono b1.size)
  have g2 := (b2.block _ (blk_lt HG1.out)).trans HG1.out
  obtain ⟨k0, _⟩ := one_cell g2
  clear hr g2 b2
  go_wp2_with fail
  go_at_call 103
  refine Calls.mono (icopy_any (HN.out.below hb2) HFIT.out hlen) ?_
  rintro e w3 ⟨v3, rfl, o3, b3⟩
  have hb3 := hb2.trans (b3.mono hb2.size)
  have O3 := (show Hid _ from (o3.base hb2.size).below ((Below.refl _ w3).alloc (Nat.le_refl _) (.cells #[v3] 77)))
  have A3 := (show Hid _ from heap_alloc_new w3 (.cells #[v3] 77))
  obtain ⟨a3, n3, c3, rfl⟩ : ∃ ao no co, v3 = .slice ao no co := by obtain ⟨_, _, h, _⟩ := o3; exact own_slice h
  clear o3
  go_wp2
  go_ret
  exact ⟨_, _, rfl, A3.out, O3.out, hb3.size, hb3.alloc hb3.size _⟩

/-- Nothing is turned but the blocks a and K, and rows of nodes from block B on. -/
structure AddFrK (B a K : Nat) (w w' : World) : Prop where
  os : w'.os = w.os
  tape : w'.tape = w.tape
  output : w'.output = w.output
  size : w.heap.size ≤ w'.heap.size
  block : ∀ j, j < w.heap.size → j ≠ a → j ≠ K → (j < B ∨ ∃ cs t fr, w.heap[j]? = some (.cells cs t fr) ∧ t ≠ 36) → w'.heap[j]? = w.heap[j]?
theorem AddFrK.box {B a K : Nat} {w w' : World} (h : AddFrK B a K w w') {j : Nat} {cs : Array Value} {t : TypeId} {fr : Nat × Nat} (hj : w.heap[j]? = some (.cells cs t fr)) (ht : t ≠ 36) (hne : j ≠ a) (hnk : j ≠ K) : w'.heap[j]? = some (.cells cs t fr) := (h.block j (lt_of_block hj) hne hnk (.inr ⟨_, _, _, hj, ht⟩)).trans hj
theorem AddFrK.below {B a K N : Nat} {w w' : World} (h : AddFrK B a K w w') (hN : N ≤ B) (ha : N ≤ a) (hK : N ≤ K) (hB : N ≤ w.heap.size) : Below N w w' := ⟨h.os, h.tape, h.output, h.size, fun j hj => h.block j (by omega) (by omega) (by omega) (.inl (by omega))⟩
theorem AddFr.put {B a K : Nat} {w w' w'' : World} (h : AddFr B a w w') (g : w'.grownBy w'' (some K)) : AddFrK B a K w w'' :=
  ⟨g.os.trans h.os, g.tape.trans h.tape, g.output.trans h.output, Nat.le_trans h.size g.size, fun j hj h1 h2 h3 => (g.block j (Nat.lt_of_lt_of_le hj h.size) (fun e => by injection e with e; exact h2 e)).trans (h.block j hj h1 (by
    rcases h3 with h3 | ⟨cs, t, fr, h4, h5⟩
    · exact .inl h3
    · exact .inr (fun cs' t' fr' e => by rw [h4] at e; cases e; exact h5)))⟩

theorem OwnQ.form {B : Nat} {w : World} {v : Value} {qs : List (PNode × (Value × Value))} (h : OwnQ B w v qs) (h0 : 0 < qs.length) : ∃ g cap, v = .slice (some ⟨g, 0, none⟩) qs.length cap ∧ B ≤ g ∧ g < w.heap.size := one_form h.1 h0

set_option maxRecDepth 100000 in
theorem iaddStep_any {B a A N K : Nat} {w : World} {v : Value} {qs : List (PNode × (Value × Value))} (ha : w.heap[a]? = some (.cells #[v] 77 (0, 0))) (hO : OwnQ B w v qs) (hB : B ≤ w.heap.size) (h0 : 0 < qs.length) (hlen : qs.length ≤ 100000) {k p : Int} {nm tx : ByteArray}
    {av1 : Option Addr} {av2 av3 : Nat} {kv1 : Option Addr} {kv2 kv3 : Nat} {rs : List (ByteArray × ByteArray)} (hav : Sv 2 w (.slice av1 av2 av3) (pairCells rs)) (hrs : rs.length ≤ 1048576)
    (hA : w.heap[A]? = some (.cells #[.pointer (some ⟨a, 0, none⟩)] 64 (0, 0))) (hN : w.heap[N]? = some (.cells #[.int .i64 k, .string nm, .slice av1 av2 av3, .string tx, .int .i64 p, .slice kv1 kv2 kv3] 36 (0, 0)))
    {x : Int} (hK : w.heap[K]? = some (.cells #[.int .i64 x] 3 (0, 0))) (hKa : K ≠ a) (hne : ∀ q ∈ qs, q.2.2.ownBlock ≠ some K) :
    Calls Tryz.prog 78 #[.pointer (some ⟨A, 0, none⟩), .pointer (some ⟨N, 0, none⟩), .pointer (some ⟨K, 0, none⟩)] w fun e w' =>
      e = .returned (.bool true) ∧ (∃ v', w'.heap[a]? = some (.cells #[v'] 77 (0, 0)) ∧ ∃ av', OwnQ B w' v' (qs ++ [(⟨k, nm, rs, tx, -1, []⟩, (av', .slice none 0 0))])) ∧ w'.heap[K]? = some (.cells #[.int .i64 qs.length] 3 (0, 0)) ∧ AddFrK B a K w w' := by
  obtain ⟨cA, _⟩ := one_cell hA
  have n0 : w.cell? ⟨N, 0, none⟩ = some (.int .i64 k) := by simp only [World.cell?, hN]; rfl
  have n1 : w.cell? ⟨N, 1, none⟩ = some (.string nm) := by simp only [World.cell?, hN]; rfl
  have n2 : w.cell? ⟨N, 2, none⟩ = some (.slice av1 av2 av3) := by simp only [World.cell?, hN]; rfl
  have n3 : w.cell? ⟨N, 3, none⟩ = some (.string tx) := by simp only [World.cell?, hN]; rfl
  have n4 : w.cell? ⟨N, 4, none⟩ = some (.int .i64 p) := by simp only [World.cell?, hN]; rfl
  have n5 : w.cell? ⟨N, 5, none⟩ = some (.slice kv1 kv2 kv3) := by simp only [World.cell?, hN]; rfl
  have CC := (show Hid _ from iadd_any ha hO hB h0 hlen k p nm tx (kv1 := kv1) (kv2 := kv2) (kv3 := kv3) hav hrs)
  have HK := (show Hid _ from hK)
  have HNE := (show Hid _ from hne)
  clear ha hO hav hA hN hK hne
  go_enter Tryz.func78, Tryz.ntmps78
  go_wp2_with fail
  go_at_call 79
  refine Calls.mono CC.out ?_
  rintro e w2 ⟨rfl, ⟨v2, ha2, av2', o2⟩, fr⟩
  clear CC
  have hk2 := fr.box HK.out (by decide) hKa
  obtain ⟨cK, zK⟩ := one_cell hk2
  have OO := (show Hid _ from o2)
  have HA2 := (show Hid _ from ha2)
  have HK2 := (show Hid _ from hk2)
  have FR := (show Hid _ from fr)
  clear o2 ha2 hk2 fr
  go_wp2
  go_ret
  refine ⟨rfl, ⟨_, (Below.heap_setCell _ _ _ a (by show a ≠ K; omega)).trans HA2.out, _, OwnQ.keptInt OO.out (grown_setCell _ _ _ _) HK2.out ?_⟩, setCell_at HK2.out, AddFr.put FR.out (grown_setCell _ _ _ _)⟩
  intro q hq
  rcases List.mem_append.mp hq with hq | hq
  · exact HNE.out q hq
  · simp only [List.mem_cons, List.not_mem_nil, or_false] at hq
    subst hq
    simp [Value.ownBlock]

set_option maxRecDepth 100000 in
theorem idone_any {w : World} {a D E P : Nat} {v vb : Value} {r : Bool} (ha : w.heap[a]? = some (.cells #[v] 77 (0, 0))) (hD : w.heap[D]? = some (.cells #[.bool r] 4 (0, 0))) (hE : w.heap[E]? = some (.cells #[vb] 24 (0, 0))) (hb : ∃ x n c, vb = .slice x n c) (hP : w.heap[P]? = some (.cells #[.pointer (some ⟨a, 0, none⟩)] 64 (0, 0))) (u : FrameMode) :
    CallsD Tryz.prog 104 #[.pointer (some ⟨D, 0, none⟩), .pointer (some ⟨E, 0, none⟩), .pointer (some ⟨P, 0, none⟩)] u w fun e u' w' => u' = u ∧ (e = .returned (.tuple #[]) ∧ w' = if r then w else w.setCell ⟨a, 0, none⟩ vb) := by
  obtain ⟨x, n, c, rfl⟩ := hb
  obtain ⟨cD, _⟩ := one_cell hD
  obtain ⟨cE, _⟩ := one_cell hE
  obtain ⟨cP, _⟩ := one_cell hP
  obtain ⟨ca, za⟩ := one_cell ha
  clear ha hD hE hP
  cases r
  · go_enter_d Tryz.func104, Tryz.ntmps104
    go_wp2
    go_end0
    exact ⟨rfl, rfl⟩
  · go_enter_d Tryz.func104, Tryz.ntmps104
    go_wp2
    go_end0
    exact ⟨rfl, rfl⟩
end Go.Proofs.YtogdbjafibejdaaGreat
